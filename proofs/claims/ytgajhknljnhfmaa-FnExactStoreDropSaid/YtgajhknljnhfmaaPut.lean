/- What the program's put answers, and leaves in the table. -/
import Derived.Test.YtgajhknljnhfmaaVacant
namespace Go.Proofs.Ytgajhknljnhfmaa
open Go.RowKit
set_option linter.unusedVariables false

theorem tvac_range (xs : List Sl) (p : Int) : 0 ≤ tvac xs p ∧ tvac xs p ≤ 8 := by
  unfold tvac
  cases (spotsFrom p).find? (fun x => freeAt xs x.1) with
  | none => simp
  | some v => have := v.2; simp only; omega

theorem tvac_free (xs : List Sl) (p : Int) (h : tvac xs p ≠ 0) : (nth xs (tvac xs p - 1).toNat).uses = 0 := by
  unfold tvac at h ⊢
  cases hf : (spotsFrom p).find? (fun x => freeAt xs x.1) with
  | none => rw [hf] at h; exact absurd rfl h
  | some v =>
    have := List.find?_some hf
    simpa [freeAt] using this

/-- The slot that a put takes. -/
def tspot (xs : List Sl) (t : ByteArray) (p : Int) : Int := if tfind xs t = 0 then tvac xs p else tfind xs t

def tput (xs : List Sl) (t : ByteArray) (p : Int) : List Sl × Int :=
  if tspot xs t p = 0 ∨ (nth xs (tspot xs t p - 1).toNat).uses = 99 then (xs, 0)
  else (xs.set (tspot xs t p - 1).toNat ⟨t, (nth xs (tspot xs t p - 1).toNat).uses + 1⟩, tspot xs t p)

theorem tput_no (xs : List Sl) (t : ByteArray) (p : Int) (h : tspot xs t p = 0) : tput xs t p = (xs, 0) := by
  unfold tput; rw [if_pos (.inl h)]

theorem tput_full (xs : List Sl) (t : ByteArray) (p : Int) (j : Nat) (h : tspot xs t p = (j : Int) + 1) (hu : (nth xs j).uses = 99) : tput xs t p = (xs, 0) := by
  unfold tput; rw [h, show ((j : Int) + 1 - 1).toNat = j from by omega, if_pos (.inr hu)]

theorem tput_yes (xs : List Sl) (t : ByteArray) (p : Int) (j : Nat) (h : tspot xs t p = (j : Int) + 1) (hu : (nth xs j).uses ≠ 99) : tput xs t p = (xs.set j ⟨t, (nth xs j).uses + 1⟩, (j : Int) + 1) := by
  unfold tput
  rw [h, show ((j : Int) + 1 - 1).toNat = j from by omega, if_neg (fun e => e.elim (fun e => by omega) hu)]

/-- The table has changed, and else only new blocks have come. -/
def TurnedTab (w w' : World) (g : Nat) : Prop := ∃ w1, Below w.heap.size w w1 ∧ w1.grownBy w' (some g)

set_option maxHeartbeats 1600000 in
theorem put_any (g : Nat) (xs : List Sl) (t : ByteArray) (p : Int) (w : World) (hx : SlotsW w g 0 xs) (hn : xs.length = 8) (hu : ∀ i, i < 8 → 0 ≤ (nth xs i).uses ∧ (nth xs i).uses ≤ 1000) :
    Calls Try.prog 68 #[.pointer (some ⟨g, 0, none⟩), .string t, .int .i64 p] w fun e w' => e = .returned (.int .i64 (tput xs t p).2) ∧ SlotsW w' g 0 (tput xs t p).1 ∧ TurnedTab w w' g := by
  have l1 := hx.1.lt (by omega)
  have HF := Lib.hid (tfind_any g xs t w hx.1 hn)
  have HV := Lib.hid (fun W (hb : Below w.heap.size w W) => vacant_any g xs p W (hx.1.below hb l1) hn)
  have Hx := Lib.hid hx
  have Hn := Lib.hid hn
  have Hu := Lib.hid hu
  have hr := tfind_range xs t
  have hv := tvac_range xs p
  have Hfree := Lib.hid (tvac_free xs p)
  have Hsp : Hid (tspot xs t p = if tfind xs t = 0 then tvac xs p else tfind xs t) := Lib.hid rfl
  have Hno := Lib.hid (tput_no xs t p)
  have Hfull := Lib.hid (tput_full xs t p)
  have Hyes := Lib.hid (tput_yes xs t p)
  clear hx hn hu
  obtain ⟨f, hf⟩ : ∃ f, tfind xs t = f := ⟨_, rfl⟩
  obtain ⟨v, hvv⟩ : ∃ v, tvac xs p = v := ⟨_, rfl⟩
  obtain ⟨s, hs⟩ : ∃ s, tspot xs t p = s := ⟨_, rfl⟩
  rw [hf] at HF hr Hsp
  rw [hvv] at HV hv Hfree Hsp
  rw [hs] at Hsp Hno Hfull Hyes
  clear hf hvv hs
  obtain ⟨r, hr2⟩ : ∃ r, tput xs t p = r := ⟨_, rfl⟩
  rw [hr2] at Hno Hfull Hyes ⊢
  clear hr2
  by_cases h0 : f = 0
  · subst h0
    have Hs : Hid (s = v) := Lib.hid (by rw [Hsp.out, if_pos rfl])
    by_cases h1 : v = 0
    · subst h1
      have Hr := Lib.hid (Hno.out Hs.out)
      go_enter Try.func68, Try.ntmps68
      go_wp2_with fail
      refine HF.out.mono ?_
      rintro e w1 ⟨rfl, hb1⟩
      go_wp2_with fail
      refine (HV.out _ hb1).mono ?_
      rintro e w2 ⟨rfl, hb2⟩
      have hB : Below w.heap.size w w2 := hb1.trans (hb2.mono hb1.size)
      go_wp2_with fail
      go_ret
      rw [Hr.out]
      exact ⟨rfl, Hx.out.below hB l1, w2, hB, grownBy_refl _ _⟩
    · obtain ⟨j, rfl⟩ : ∃ j : Nat, v = (j : Int) + 1 := ⟨(v - 1).toNat, by omega⟩
      have hj : j < 8 := by omega
      have hfu := Hfree.out h1
      rw [show ((j : Int) + 1 - 1).toNat = j from by omega] at hfu
      have Hfu := Lib.hid hfu
      have Hr := Lib.hid (Hyes.out j Hs.out (by rw [hfu]; decide))
      clear hfu h1
      have hz : ((j : Int) + 1 == 0) = false := by simp; omega
      go_enter Try.func68, Try.ntmps68
      go_wp2_with fail
      refine HF.out.mono ?_
      rintro e w1 ⟨rfl, hb1⟩
      go_wp2_with fail
      refine (HV.out _ hb1).mono ?_
      rintro e w2 ⟨rfl, hb2⟩
      have hB : Below w.heap.size w w2 := hb1.trans (hb2.mono hb1.size)
      have hX2 := Hx.out.below hB l1
      obtain ⟨hc, hu⟩ := hX2.1.at0 j (by rw [Hn.out]; exact hj)
      have hz0 := hX2.2 (j * 2)
      have hz1 := hX2.2 (j * 2 + 1)
      have H2 := hX2.both j (by rw [Hn.out]; exact hj) t ((nth xs j).uses + 1)
      rw [Hfu.out] at hu H2 Hr
      simp only [Nat.zero_add] at H2
      have HX2 := Lib.hid H2
      clear hX2 H2
      go_wp2_with fail
      go_region
      all_goals go_wp2_with fail
      all_goals go_ret
      all_goals rw [Hr.out]
      all_goals exact ⟨rfl, HX2.out.drawn drawn_drew, w2, hB, grownBy_trans (grownBy_trans (grownBy_setCell _ _ _) (grownBy_setCell _ _ _)) (drawn_drew.grown _)⟩
  · obtain ⟨j, rfl⟩ : ∃ j : Nat, f = (j : Int) + 1 := ⟨(f - 1).toNat, by omega⟩
    have hj : j < 8 := by omega
    have Hs : Hid (s = (j : Int) + 1) := Lib.hid (by rw [Hsp.out, if_neg h0])
    have hz : ((j : Int) + 1 == 0) = false := by simp; omega
    obtain ⟨hu0, hu1⟩ := Hu.out j hj
    clear h0
    have Hc := Lib.hid (fun W (hb : Below w.heap.size w W) => (Hx.out.below hb l1).1.at0 j (by rw [Hn.out]; exact hj))
    have HB := Lib.hid (fun W (hb : Below w.heap.size w W) => (Hx.out.below hb l1).both j (by rw [Hn.out]; exact hj) t ((nth xs j).uses + 1))
    have Hful := Lib.hid (Hfull.out j Hs.out)
    have Hye := Lib.hid (Hyes.out j Hs.out)
    obtain ⟨u, hxu⟩ : ∃ u, (nth xs j).uses = u := ⟨_, rfl⟩
    rw [hxu] at hu0 hu1 Hful Hye
    simp only [hxu, Nat.zero_add] at Hc HB
    clear hxu
    cases h99 : (u == 99)
    · have Hr := Lib.hid (Hye.out (by simpa using h99))
      go_enter Try.func68, Try.ntmps68
      go_wp2_with fail
      refine HF.out.mono ?_
      rintro e w1 ⟨rfl, hB⟩
      obtain ⟨hc, hu⟩ := Hc.out w1 hB
      have hX2 := Hx.out.below hB l1
      have hz0 := hX2.2 (j * 2)
      have hz1 := hX2.2 (j * 2 + 1)
      have HX2 := Lib.hid (HB.out w1 hB)
      clear hX2
      go_wp2_with fail
      go_region
      all_goals go_wp2_with fail
      all_goals go_ret
      all_goals rw [Hr.out]
      all_goals exact ⟨rfl, HX2.out.drawn drawn_drew, w1, hB, grownBy_trans (grownBy_trans (grownBy_setCell _ _ _) (grownBy_setCell _ _ _)) (drawn_drew.grown _)⟩
    · have Hr := Lib.hid (Hful.out (by simpa using h99))
      go_enter Try.func68, Try.ntmps68
      go_wp2_with fail
      refine HF.out.mono ?_
      rintro e w1 ⟨rfl, hB⟩
      obtain ⟨hc, hu⟩ := Hc.out w1 hB
      go_wp2_with fail
      go_ret
      rw [Hr.out]
      exact ⟨rfl, Hx.out.below hB l1, w1, hB, grownBy_refl _ _⟩

end Go.Proofs.Ytgajhknljnhfmaa
