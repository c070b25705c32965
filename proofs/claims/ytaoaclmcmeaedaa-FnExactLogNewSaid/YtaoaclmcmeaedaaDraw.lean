/- What the model's reader of drawn codes answers. What the model's draws of texts answer. -/
import Derived.Test.YtaoaclmcmeaedaaText
import Derived.Deep.QuietTactic
import Derived.BigQuiet
import Derived.Deep.RegionHeld
namespace Go.Proofs.Ytaoaclmcmeaedaa
open Go.RowKit

/-- A slice of bytes that lies below block B. -/
def Row8 (B : Nat) (w : World) (a : Option Addr) (len : Nat) : Prop :=
  len = 0 ∨ ∃ x, a = some x ∧ x.block < B ∧ ∀ i, i < len → ∃ z : Int, w.cell? (x.add i) = some (.int .u8 z) ∧ 0 ≤ z ∧ z ≤ 255

/-- A reader in block B that has been asked at most P times. -/
def Rd (B P : Nat) (w : World) : Prop :=
  ∃ a len cap, ∃ p : Nat, w.cell? ⟨B, 0, none⟩ = some (.slice a len cap) ∧ w.cell? ⟨B, 1, none⟩ = some (.int .i64 p) ∧ w.frozen? ⟨B, 1, none⟩ = false ∧
    p ≤ P ∧ len ≤ 2000 ∧ Row8 B w a len

theorem add_block (x : Addr) (i : Nat) : (x.add i).block = x.block := by unfold Addr.add; split <;> rfl

theorem mod_nat (p len : Nat) : ((p : Int) % len).toNat = p % len := by
  rw [show ((p : Int) % len) = ((p % len : Nat) : Int) from by push_cast; rfl]; rfl

theorem mod_nat7 (p len : Nat) : (((p : Int) * 7 + 3) % len).toNat = (p * 7 + 3) % len := by
  rw [show (((p : Int) * 7 + 3) % len) = (((p * 7 + 3) % len : Nat) : Int) from by push_cast; rfl]; rfl

theorem xor_i64 (a b : Nat) (ha : a < 4611686018427387904) (hb : b < 4611686018427387904) : bits .xor .i64 (a : Int) (b : Int) = ((a ^^^ b : Nat) : Int) := by
  have hx : a ^^^ b < 2 ^ 62 := Nat.xor_lt_two_pow (by omega) (by omega)
  have h1 : (BitVec.ofInt 64 (a : Int)).toNat = a := by
    rw [BitVec.ofInt_natCast, BitVec.toNat_ofNat]; exact Nat.mod_eq_of_lt (by omega)
  have h2 : (BitVec.ofInt 64 (b : Int)).toNat = b := by
    rw [BitVec.ofInt_natCast, BitVec.toNat_ofNat]; exact Nat.mod_eq_of_lt (by omega)
  show IntKind.i64.wrap ((BitVec.ofInt 64 (a : Int) ^^^ BitVec.ofInt 64 (b : Int)).toNat : Int) = _
  rw [BitVec.toNat_xor, h1, h2]
  exact IntWalk.i64_in _ (by omega)

theorem xor_range (X : Int) (h0 : 0 ≤ X) (h1 : X < 4611686018427387904) : 0 ≤ bits .xor .i64 X (X / 64) := by
  obtain ⟨a, rfl⟩ := Int.eq_ofNat_of_zero_le h0
  rw [show ((a : Int) / 64) = ((a / 64 : Nat) : Int) from by push_cast; rfl, xor_i64 a (a / 64) (by omega) (by omega)]
  omega

theorem mix_range (z1 z2 q p n : Int) (h10 : 0 ≤ z1) (h11 : z1 ≤ 255) (h20 : 0 ≤ z2) (h21 : z2 ≤ 255) (g5 : 0 ≤ q) (g6 : q ≤ p) (hp : p ≤ 1000000000) (hn : 1 ≤ n) :
    0 ≤ (bits .xor .i64 (z1 * 131 + z2 * 1117 + p * 29 + q * 53) ((z1 * 131 + z2 * 1117 + p * 29 + q * 53) / 64)).tmod n ∧
    (bits .xor .i64 (z1 * 131 + z2 * 1117 + p * 29 + q * 53) ((z1 * 131 + z2 * 1117 + p * 29 + q * 53) / 64)).tmod n < n := by
  have h := xor_range (z1 * 131 + z2 * 1117 + p * 29 + q * 53) (by omega) (by omega)
  generalize bits .xor .i64 (z1 * 131 + z2 * 1117 + p * 29 + q * 53) ((z1 * 131 + z2 * 1117 + p * 29 + q * 53) / 64) = y at *
  rw [Int.tmod_eq_emod_of_nonneg h]
  exact ⟨Int.emod_nonneg _ (by omega), Int.emod_lt_of_pos _ (by omega)⟩

theorem Row8.mono {B : Nat} {w w' : World} {a : Option Addr} {len : Nat} (h : Row8 B w a len) (hw : ∀ q : Addr, q.block < B → w'.cell? q = w.cell? q) : Row8 B w' a len := by
  rcases h with h | ⟨x, ha, hx, hc⟩
  · exact .inl h
  · refine .inr ⟨x, ha, hx, fun i hi => ?_⟩
    obtain ⟨z, hz, h0, h1⟩ := hc i hi
    exact ⟨z, by rw [hw _ (by rw [add_block]; exact hx)]; exact hz, h0, h1⟩

/-- The reader in block B behind one or more asks: it is a reader still, and beside new blocks nothing but its own block has turned. -/
def RdTo (B Q : Nat) (w w' : World) : Prop := Rd B Q w' ∧ w.grownBy w' (some B)

theorem grownBy_refl (w : World) (r : Option Nat) : w.grownBy w r := ⟨rfl, rfl, rfl, Nat.le_refl _, fun _ _ _ => rfl⟩

theorem grownBy_trans {a b c : World} {r : Option Nat} (h : a.grownBy b r) (k : b.grownBy c r) : a.grownBy c r :=
  ⟨k.os.trans h.os, k.tape.trans h.tape, k.output.trans h.output, Nat.le_trans h.size k.size,
    fun i hi hn => (k.block i (Nat.lt_of_lt_of_le hi h.size) hn).trans (h.block i hi hn)⟩

theorem drewN_heap (w : World) (n : Nat) : (w.drewN n).heap = w.heap := by
  rfl

theorem grownBy_step (w : World) (B : Nat) (v : Value) (n : Nat) : w.grownBy ((w.setCell ⟨B, 1, none⟩ v).drewN n) (some B) := by
  refine ⟨rfl, rfl, rfl, ?_, fun k hk hn => ?_⟩
  · show w.heap.size ≤ (w.setCell ⟨B, 1, none⟩ v).heap.size
    simp [World.setCell]
  · show (w.setCell ⟨B, 1, none⟩ v).heap[k]? = w.heap[k]?
    exact Below.heap_setCell w ⟨B, 1, none⟩ v k (fun e => hn (by rw [e]))

theorem cell_other (w : World) (p q : Addr) (v : Value) (h : p ≠ q) : (w.setCell p v).cell? q = w.cell? q := by
  exact World.cell?_setCell_other w p q v h

theorem rd_step {B P : Nat} {w : World} {a : Option Addr} {len cap p : Nat} (h0 : w.cell? ⟨B, 0, none⟩ = some (.slice a len cap)) (hp : w.cell? ⟨B, 1, none⟩ = some (.int .i64 p)) (hf : w.frozen? ⟨B, 1, none⟩ = false)
    (hP : p ≤ P) (hl : len ≤ 2000) (hr : Row8 B w a len) (n : Nat) : RdTo B (P + 1) w ((w.setCell ⟨B, 1, none⟩ (.int .i64 ((p : Int) + 1))).drewN n) := by
  refine ⟨⟨a, len, cap, p + 1, ?_, ?_, ?_, by omega, hl, ?_⟩, grownBy_step w B _ n⟩
  · show (w.setCell ⟨B, 1, none⟩ _).cell? ⟨B, 0, none⟩ = _
    exact (cell_other w ⟨B, 1, none⟩ ⟨B, 0, none⟩ _ (by intro e; cases e)).trans h0
  · show (w.setCell ⟨B, 1, none⟩ _).cell? ⟨B, 1, none⟩ = _
    rw [World.cell?_setCell_same' _ _ _ (by rw [hp]; rfl)]
    push_cast; rfl
  · show (w.setCell ⟨B, 1, none⟩ _).frozen? ⟨B, 1, none⟩ = _
    rw [World.frozen?_setCell]; exact hf
  · exact hr.mono (fun q hq => World.cell?_setCell_far _ _ _ _ (by show B ≠ q.block; omega))

end Go.Proofs.Ytaoaclmcmeaedaa

namespace Go.Proofs.Ytaoaclmcmeaedaa
open Go.RowKit

theorem Rd.mono {B P Q : Nat} {w : World} (h : Rd B P w) (hPQ : P ≤ Q) : Rd B Q w := by
  obtain ⟨a, len, cap, p, h0, hp, hf, hpP, hl, hr⟩ := h
  exact ⟨a, len, cap, p, h0, hp, hf, by omega, hl, hr⟩

theorem RdTo.mono {B P Q : Nat} {w w' : World} (h : RdTo B P w w') (hPQ : P ≤ Q) : RdTo B Q w w' := ⟨h.1.mono hPQ, h.2⟩

theorem Rd.lt {B P : Nat} {w : World} (h : Rd B P w) : B < w.heap.size := by
  obtain ⟨a, len, cap, p, h0, hp, hf, hpP, hl, hr⟩ := h
  exact World.block_lt_of_cell? w ⟨B, 0, none⟩ h0

/-- A reader is a reader still where its block, and what lies below it, is as it was. -/
theorem Rd.kept {B P : Nat} {w w' : World} (h : Rd B P w) (hk : ∀ q : Addr, q.block ≤ B → w'.cell? q = w.cell? q) (hf' : w'.frozen? ⟨B, 1, none⟩ = w.frozen? ⟨B, 1, none⟩) : Rd B P w' := by
  obtain ⟨a, len, cap, p, h0, hp, hf, hpP, hl, hr⟩ := h
  exact ⟨a, len, cap, p, by rw [hk _ (Nat.le_refl _)]; exact h0, by rw [hk _ (Nat.le_refl _)]; exact hp, by rw [hf']; exact hf, hpP, hl, hr.mono (fun q hq => hk q (by omega))⟩

theorem Rd.alloc {B P : Nat} {w : World} (h : Rd B P w) (o : Obj) : Rd B P (w.alloc o) :=
  h.kept (fun q hq => World.cell?_of_block (w := w) (heap_alloc_old w o (by have := h.lt; omega))) (World.frozen?_of_block (w := w) (a := ⟨B, 1, none⟩) (heap_alloc_old w o h.lt))

theorem RdTo.refl {B P : Nat} {w : World} (h : Rd B P w) : RdTo B P w w := ⟨h, grownBy_refl w _⟩

theorem RdTo.trans {B P Q : Nat} {a b c : World} (h : RdTo B P a b) (k : RdTo B Q b c) : RdTo B Q a c := ⟨k.1, grownBy_trans h.2 k.2⟩

theorem RdTo.alloc {B P : Nat} {a b : World} (h : RdTo B P a b) (o : Obj) : RdTo B P a (b.alloc o) := ⟨h.1.alloc o, grownBy_trans h.2 (World.grownBy_alloc b o _)⟩

/-- A text of at most n letters. -/
def Txt (n : Nat) (v : Value) : Prop := ∃ s : ByteArray, v = .string s ∧ s.size ≤ n

theorem RdTo.below {B Q C : Nat} {w0 w w' : World} (h : RdTo B Q w w') (hb : Below C w0 w) (hC : C ≤ B) (hCw : C ≤ w.heap.size) : Below C w0 w' :=
  hb.grown h.2 hCw (fun k e => by cases e; exact hC)

/-- What the shells say of a slice of bytes that came in, as the readers want it. -/
theorem row8 {w : World} {a : Option Addr} {len cap : Nat} {zs : List Int} (h : (a = none ∧ len = 0 ∧ cap = 0 ∧ zs = []) ∨
    ∃ x, a = some x ∧ len ≤ cap ∧ cap ≤ maxLen ∧ zs.length = cap ∧ (∀ i, i < zs.length → w.cell? (x.add i) = some (.int .u8 (zs.getD i 0))) ∧ ∀ n ∈ zs, (Lit.int .u8 n).wf = true) :
    Row8 w.heap.size w a len ∧ len ≤ cap ∧ cap ≤ 9223372036854775807 := by
  rcases h with ⟨rfl, rfl, rfl, rfl⟩ | ⟨x, rfl, hlc, hc, hz, hcell, hwz⟩
  · exact ⟨.inl rfl, by omega, by omega⟩
  · unfold maxLen at hc
    refine ⟨?_, hlc, by omega⟩
    rcases Nat.eq_zero_or_pos len with h0 | h0
    · exact .inl h0
    · refine .inr ⟨x, rfl, ?_, fun i hi => ?_⟩
      · have := World.block_lt_of_cell? w _ (hcell 0 (by omega))
        rwa [add_block] at this
      · have hm : zs.getD i 0 ∈ zs := by
          rw [List.getD_eq_getElem?_getD, List.getElem?_eq_getElem (by omega)]
          exact List.getElem_mem _
        have hw := hwz _ hm
        refine ⟨_, hcell i (by omega), ?_⟩
        generalize zs.getD i 0 = z at *
        simp [Lit.wf] at hw
        have e1 : IntKind.u8.min = 0 := rfl
        have e2 : IntKind.u8.max = 255 := rfl
        omega

end Go.Proofs.Ytaoaclmcmeaedaa
