/- What the model's draws of texts answer. -/
import Derived.Test.YtplicodloanljaaDraw
namespace Go.Proofs.Ytplicodloanljaa
open Go.RowKit

set_option maxHeartbeats 400000 in
theorem of_any (B P L m : Nat) (ss : List ByteArray) (w : World) (h : Rd B P w) (hP : P ≤ 1000000000) (hm : ss.length = m) (hm1 : 1 ≤ m) (hm2 : m ≤ 1000) (hL : L < w.heap.size) (hLB : L ≠ B)
    (hc : ∀ i, i < m → w.cell? ⟨L, i, none⟩ = some (.string (ss.getD i ByteArray.empty))) :
    Calls Try.prog 13 #[.pointer (some ⟨B, 0, none⟩), .slice (some ⟨L, 0, none⟩) m m] w fun e w' => ∃ s, e = .returned (.string s) ∧ s ∈ ss ∧ RdTo B (P + 1) w w' := by
  have Hm := Lib.hid hm
  have Hc := Lib.hid hc
  have hp := pick_any B P m w h hP (by omega)
  clear hm hc
  go_enter Try.func13, Try.ntmps13
  go_wp2_with fail
  refine hp.mono ?_
  rintro e w' ⟨r, rfl, r0, r1, hR⟩
  obtain ⟨k, rfl⟩ := Int.eq_ofNat_of_zero_le r0
  have hk : k < m := by omega
  have hcell : w'.cell? ⟨L, k, none⟩ = some (.string (ss.getD k ByteArray.empty)) := (World.cell?_of_block (w := w) (a := ⟨L, k, none⟩) (hR.2.block L hL (by simp [hLB]))).trans (Hc.out k hk)
  go_wp2
  go_ret
  refine ⟨_, rfl, ?_, hR⟩
  rw [List.getElem?_eq_getElem (by rw [Hm.out]; exact hk)]
  exact List.getElem_mem _

theorem Rd.mono {B P Q : Nat} {w : World} (h : Rd B P w) (hPQ : P ≤ Q) : Rd B Q w := by
  obtain ⟨a, len, cap, p, h0, hp, hf, hpP, hl, hr⟩ := h
  exact ⟨a, len, cap, p, h0, hp, hf, by omega, hl, hr⟩

theorem RdTo.mono {B P Q : Nat} {w w' : World} (h : RdTo B P w w') (hPQ : P ≤ Q) : RdTo B Q w w' := ⟨h.1.mono hPQ, h.2⟩

theorem Rd.lt {B P : Nat} {w : World} (h : Rd B P w) : B < w.heap.size := by
  obtain ⟨a, len, cap, p, h0, hp, hf, hpP, hl, hr⟩ := h
  exact World.block_lt_of_cell? w ⟨B, 0, none⟩ h0

/-- A reader is a reader still where its block, and what lies below it, is as it was. -/
theorem Rd.kept {B P : Nat} {w w' : World} (h : Rd B P w) (hk : ∀ q : Addr, q.block ≤ B → w'.cell? q = w.cell? q) (hf' : w'.frozen? ⟨B, 1, none⟩ = w.frozen? ⟨B, 1, none⟩) : Rd B P w' := by
  obtain ⟨a, len, cap, p, h0, hp, hf, hpP, hl, hr⟩ := h
  exact ⟨a, len, cap, p, by rw [hk _ (Nat.le_refl _)]; exact h0, by rw [hk _ (Nat.le_refl _)]; exact hp, by rw [hf']; exact hf, hpP, hl, hr.mono (fun q hq => hk q (by omega))⟩

theorem Rd.alloc {B P : Nat} {w : World} (h : Rd B P w) (o : Obj) : Rd B P (w.alloc o) :=
  h.kept (fun q hq => World.cell?_of_block (w := w) (heap_alloc_old w o (by have := h.lt; omega))) (World.frozen?_of_block (w := w) (a := ⟨B, 1, none⟩) (heap_alloc_old w o h.lt))

theorem RdTo.refl {B P : Nat} {w : World} (h : Rd B P w) : RdTo B P w w := ⟨h, grownBy_refl w _⟩

theorem RdTo.trans {B P Q : Nat} {a b c : World} (h : RdTo B P a b) (k : RdTo B Q b c) : RdTo B Q a c := ⟨k.1, grownBy_trans h.2 k.2⟩

theorem RdTo.alloc {B P : Nat} {a b : World} (h : RdTo B P a b) (o : Obj) : RdTo B P a (b.alloc o) := ⟨h.1.alloc o, grownBy_trans h.2 (World.grownBy_alloc b o _)⟩

/-- A text of at most n letters. -/
def Txt (n : Nat) (v : Value) : Prop := ∃ s : ByteArray, v = .string s ∧ s.size ≤ n

set_option maxHeartbeats 400000 in
theorem l71Text_any (B P : Nat) (w : World) (h : Rd B P w) (hP : P ≤ 900000000) :
    Calls Try.prog 18 #[.pointer (some ⟨B, 0, none⟩)] w fun e w' => ∃ s, e = .returned (.string s) ∧ s.size ≤ 7 ∧ RdTo B (P + 6) w w' := by
  have hp := pick_any B P 4 w h (by omega) (by omega)
  go_enter Try.func18, Try.ntmps18
  go_wp2_with fail
  refine hp.mono ?_
  rintro e w1 ⟨r, rfl, r0, r1, hR⟩
  clear hp
  go_wp2_with fail
  go_loopw [3, 4] (fun s n wr => ∃ (k : Nat) (t : ByteArray), k ≤ 3 ∧ n = .int .i64 k ∧ s = .string t ∧ t.size + k ≤ 3 ∧ RdTo B (P + 4 - k) w wr) (fun _ n _ => (intOf n).toNat)
  case atStart =>
    obtain ⟨k, rfl⟩ := Int.eq_ofNat_of_zero_le r0
    exact ⟨k, _, by omega, rfl, rfl, by show 0 + k ≤ 3; omega, hR.mono (by omega)⟩
  case round =>
    obtain ⟨k, t, hk, rfl, rfl, ht, hw⟩ := hrel
    by_cases hk0 : 0 < k
    · go_wp2_with fail
      refine (of_any B (P + 4 - k) wr.heap.size 5 [⟨#[97]⟩, ⟨#[98]⟩, ⟨#[99]⟩, ⟨#[100]⟩, ⟨#[97]⟩] _ (hw.1.alloc _) (by omega) rfl (by omega) (by omega) (by simp) (by have := hw.1.lt; omega) ?_).mono ?_
      · intro i hi
        obtain rfl | rfl | rfl | rfl | rfl : i = 0 ∨ i = 1 ∨ i = 2 ∨ i = 3 ∨ i = 4 := by omega
        all_goals simp
      · rintro e w2 ⟨s, rfl, hs, hR2⟩
        have hs1 : s.size ≤ 1 := (show ∀ t ∈ ([⟨#[97]⟩, ⟨#[98]⟩, ⟨#[99]⟩, ⟨#[100]⟩, ⟨#[97]⟩] : List ByteArray), t.size ≤ 1 by decide) s hs
        have hw2 := (hw.alloc _).trans hR2
        clear hs
        go_wp2
        go_roundw
        case rel => exact ⟨k - 1, t ++ s, by omega, by rw [show ((k - 1 : Nat) : Int) = (k : Int) - 1 from by omega], rfl, by rw [ByteArray.size_append]; omega, hw2.mono (by omega)⟩
        case measure => simp [intOf]; omega
    · go_wp2_with fail
      refine (pick_any B (P + 4 - k) 30 _ hw.1 (by omega) (by omega)).mono ?_
      rintro e w2 ⟨r, rfl, r0, r1, hR2⟩
      have hw2 := hw.trans hR2
      go_wp2_with fail
      · refine (of_any B (P + 4 - k + 1) w2.heap.size 4 [⟨#[101]⟩, ⟨#[97, 97, 97, 97]⟩, ⟨#[32]⟩, ⟨#[65]⟩] _ (hw2.1.alloc _) (by omega) rfl (by omega) (by omega) (by simp) (by have := hw2.1.lt; omega) ?_).mono ?_
        · intro i hi
          obtain rfl | rfl | rfl | rfl : i = 0 ∨ i = 1 ∨ i = 2 ∨ i = 3 := by omega
          all_goals simp
        · rintro e w3 ⟨s, rfl, hs, hR3⟩
          have hs1 : s.size ≤ 4 := (show ∀ t ∈ ([⟨#[101]⟩, ⟨#[97, 97, 97, 97]⟩, ⟨#[32]⟩, ⟨#[65]⟩] : List ByteArray), t.size ≤ 4 by decide) s hs
          have hw3 := (hw2.alloc _).trans hR3
          clear hs
          go_wp2
          go_ret
          exact ⟨_, rfl, by rw [ByteArray.size_append]; omega, hw3.mono (by omega)⟩
      · go_ret
        exact ⟨_, rfl, by omega, hw2.mono (by omega)⟩

set_option maxHeartbeats 400000 in
theorem l6Open_rd (a : Option Addr) (len cap : Nat) (w : World) (h1 : len ≤ cap) (h2 : cap ≤ 9223372036854775807) (hr : Row8 w.heap.size w a len) :
    Calls Try.prog 10 #[.slice a len cap] w fun e w' => e = .returned (.pointer (some ⟨w.heap.size, 0, none⟩)) ∧
      Rd w.heap.size 0 w' ∧ Below w.heap.size w w' := by
  refine (l6Open_any a len cap w h1 h2).mono ?_
  rintro e w' ⟨rfl, rfl⟩
  refine ⟨rfl, ⟨a, min len 2000, cap, 0, ?_, ?_, ?_, by omega, by omega, ?_⟩, (Below.refl _ _).alloc (Nat.le_refl _) _⟩
  · simp
  · simp
  · simp
  · have hr' := hr.mono (w' := w.alloc (.cells #[.slice a (min len 2000) cap, .int .i64 0] 45)) (fun q hq => World.cell?_of_block (w := w) (heap_alloc_old w _ hq))
    rcases hr' with h | ⟨x, ha, hx, hc⟩
    · exact .inl (by omega)
    · exact .inr ⟨x, ha, hx, fun i hi => hc i (by omega)⟩

theorem RdTo.below {B Q C : Nat} {w0 w w' : World} (h : RdTo B Q w w') (hb : Below C w0 w) (hC : C ≤ B) (hCw : C ≤ w.heap.size) : Below C w0 w' :=
  hb.grown h.2 hCw (fun k e => by cases e; exact hC)

/-- What the shells say of a slice of bytes that came in, as the readers want it. -/
theorem row8 {w : World} {a : Option Addr} {len cap : Nat} {zs : List Int} (h : (a = none ∧ len = 0 ∧ cap = 0 ∧ zs = []) ∨
    ∃ x, a = some x ∧ len ≤ cap ∧ cap ≤ maxLen ∧ zs.length = cap ∧ (∀ i, i < zs.length → w.cell? (x.add i) = some (.int .u8 (zs.getD i 0))) ∧ ∀ n ∈ zs, (Lit.int .u8 n).wf = true) :
    Row8 w.heap.size w a len ∧ len ≤ cap ∧ cap ≤ 9223372036854775807 := by
  rcases h with ⟨rfl, rfl, rfl, rfl⟩ | ⟨x, rfl, hlc, hc, hz, hcell, hwz⟩
  · exact ⟨.inl rfl, by omega, by omega⟩
  · unfold maxLen at hc
    refine ⟨?_, hlc, by omega⟩
    rcases Nat.eq_zero_or_pos len with h0 | h0
    · exact .inl h0
    · refine .inr ⟨x, rfl, ?_, fun i hi => ?_⟩
      · have := World.block_lt_of_cell? w _ (hcell 0 (by omega))
        rwa [add_block] at this
      · have hm : zs.getD i 0 ∈ zs := by
          rw [List.getD_eq_getElem?_getD, List.getElem?_eq_getElem (by omega)]
          exact List.getElem_mem _
        have hw := hwz _ hm
        refine ⟨_, hcell i (by omega), ?_⟩
        generalize zs.getD i 0 = z at *
        simp [Lit.wf] at hw
        have e1 : IntKind.u8.min = 0 := rfl
        have e2 : IntKind.u8.max = 255 := rfl
        omega

end Go.Proofs.Ytplicodloanljaa
