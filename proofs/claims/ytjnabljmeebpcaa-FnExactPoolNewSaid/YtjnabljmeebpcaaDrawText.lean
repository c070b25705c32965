/- What the model's draws of texts answer. -/
import Derived.Test.YtjnabljmeebpcaaDraw
namespace Go.Proofs.Ytjnabljmeebpcaa
open Go.RowKit

theorem Rd.mono {B P Q : Nat} {w : World} (h : Rd B P w) (hPQ : P ≤ Q) : Rd B Q w := by
  obtain ⟨a, len, cap, p, h0, hp, hf, hpP, hl, hr⟩ := h
  exact ⟨a, len, cap, p, h0, hp, hf, by omega, hl, hr⟩

theorem RdTo.mono {B P Q : Nat} {w w' : World} (h : RdTo B P w w') (hPQ : P ≤ Q) : RdTo B Q w w' := ⟨h.1.mono hPQ, h.2⟩

theorem Rd.lt {B P : Nat} {w : World} (h : Rd B P w) : B < w.heap.size := by
  obtain ⟨a, len, cap, p, h0, hp, hf, hpP, hl, hr⟩ := h
  exact World.block_lt_of_cell? w ⟨B, 0, none⟩ h0

/-- A reader is a reader still where its block, and what lies below it, is as it was. -/
theorem Rd.kept {B P : Nat} {w w' : World} (h : Rd B P w) (hk : ∀ q : Addr, q.block ≤ B → w'.cell? q = w.cell? q) (hf' : w'.frozen? ⟨B, 1, none⟩ = w.frozen? ⟨B, 1, none⟩) : Rd B P w' := by
  obtain ⟨a, len, cap, p, h0, hp, hf, hpP, hl, hr⟩ := h
  exact ⟨a, len, cap, p, by rw [hk _ (Nat.le_refl _)]; exact h0, by rw [hk _ (Nat.le_refl _)]; exact hp, by rw [hf']; exact hf, hpP, hl, hr.mono (fun q hq => hk q (by omega))⟩

theorem Rd.alloc {B P : Nat} {w : World} (h : Rd B P w) (o : Obj) : Rd B P (w.alloc o) :=
  h.kept (fun q hq => World.cell?_of_block (w := w) (heap_alloc_old w o (by have := h.lt; omega))) (World.frozen?_of_block (w := w) (a := ⟨B, 1, none⟩) (heap_alloc_old w o h.lt))

theorem RdTo.refl {B P : Nat} {w : World} (h : Rd B P w) : RdTo B P w w := ⟨h, grownBy_refl w _⟩

theorem RdTo.trans {B P Q : Nat} {a b c : World} (h : RdTo B P a b) (k : RdTo B Q b c) : RdTo B Q a c := ⟨k.1, grownBy_trans h.2 k.2⟩

theorem RdTo.alloc {B P : Nat} {a b : World} (h : RdTo B P a b) (o : Obj) : RdTo B P a (b.alloc o) := ⟨h.1.alloc o, grownBy_trans h.2 (World.grownBy_alloc b o _)⟩

/-- A text of at most n letters. -/
def Txt (n : Nat) (v : Value) : Prop := ∃ s : ByteArray, v = .string s ∧ s.size ≤ n

theorem RdTo.below {B Q C : Nat} {w0 w w' : World} (h : RdTo B Q w w') (hb : Below C w0 w) (hC : C ≤ B) (hCw : C ≤ w.heap.size) : Below C w0 w' :=
  hb.grown h.2 hCw (fun k e => by cases e; exact hC)

/-- What the shells say of a slice of bytes that came in, as the readers want it. -/
theorem row8 {w : World} {a : Option Addr} {len cap : Nat} {zs : List Int} (h : (a = none ∧ len = 0 ∧ cap = 0 ∧ zs = []) ∨
    ∃ x, a = some x ∧ len ≤ cap ∧ cap ≤ maxLen ∧ zs.length = cap ∧ (∀ i, i < zs.length → w.cell? (x.add i) = some (.int .u8 (zs.getD i 0))) ∧ ∀ n ∈ zs, (Lit.int .u8 n).wf = true) :
    Row8 w.heap.size w a len ∧ len ≤ cap ∧ cap ≤ 9223372036854775807 := by
  rcases h with ⟨rfl, rfl, rfl, rfl⟩ | ⟨x, rfl, hlc, hc, hz, hcell, hwz⟩
  · exact ⟨.inl rfl, by omega, by omega⟩
  · unfold maxLen at hc
    refine ⟨?_, hlc, by omega⟩
    rcases Nat.eq_zero_or_pos len with h0 | h0
    · exact .inl h0
    · refine .inr ⟨x, rfl, ?_, fun i hi => ?_⟩
      · have := World.block_lt_of_cell? w _ (hcell 0 (by omega))
        rwa [add_block] at this
      · have hm : zs.getD i 0 ∈ zs := by
          rw [List.getD_eq_getElem?_getD, List.getElem?_eq_getElem (by omega)]
          exact List.getElem_mem _
        have hw := hwz _ hm
        refine ⟨_, hcell i (by omega), ?_⟩
        generalize zs.getD i 0 = z at *
        simp [Lit.wf] at hw
        have e1 : IntKind.u8.min = 0 := rfl
        have e2 : IntKind.u8.max = 255 := rfl
        omega

end Go.Proofs.Ytjnabljmeebpcaa
