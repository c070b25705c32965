/- Drawn changes: DrawOpText, DrawOpOk, DrawOpRead. -/
import Derived.Test.YtplicodloanljaaDoorOpRead
namespace Go.Proofs.YtplicodloanljaaDoor
open Go.RowKit
set_option linter.unusedVariables false
set_option maxRecDepth 100000

theorem Row8.alloc {w : World} {a : Option Addr} {len : Nat} (h : Row8 w.heap.size w a len) (o : Obj) : Row8 (w.alloc o).heap.size (w.alloc o) a len := by
  have h2 := h.mono (w' := w.alloc o) (fun q hq => World.cell?_of_block (w := w) (heap_alloc_old w _ hq))
  rcases h2 with h | ⟨x, ha, hx, hc⟩
  · exact .inl h
  · exact .inr ⟨x, ha, by rw [World.size_alloc]; omega, hc⟩

theorem RBox.turn {w W W' : World} {B Q : Nat} (h : RBox w W) (hr : RdTo B Q W W') (hB : w.heap.size < B) : RBox w W' := by
  have hk : W'.heap[w.heap.size]? = W.heap[w.heap.size]? := hr.2.block _ h.lt (fun e => by injection e; omega)
  exact ⟨Nat.lt_of_lt_of_le h.lt hr.2.size, fun i hi => (World.cell?_of_block (w := W) (a := ⟨w.heap.size, i, none⟩) hk).trans (h.c i hi), fun i => (World.frozen?_of_block (w := W) (a := ⟨w.heap.size, i, none⟩) hk).trans (h.z i), hr.below h.below (Nat.le_of_lt hB) (Nat.le_of_lt h.lt)⟩

set_option maxHeartbeats 1600000 in
theorem drawOpText_any (a : Option Addr) (len cap : Nat) (w : World) (h1 : len ≤ cap) (h2 : cap ≤ 9223372036854775807) (hr : Row8 w.heap.size w a len) :
    Calls Tryd.prog 9 #[.slice a len cap] w fun e w' => ∃ o : Ov, e = .returned o.val ∧ OpSm o ∧ Below w.heap.size w w' := by
  have HX := Lib.hid (RBox.new w)
  have HO := Lib.hid (l6Open_rd a len cap _ h1 h2 (hr.alloc (.cells #[.int .i64 0, .string ⟨#[]⟩, .string ⟨#[]⟩, .int .i64 0, .string ⟨#[]⟩] 24)))
  go_enter Tryd.func9, Tryd.ntmps9
  go_wp2_with fail
  refine HO.out.mono ?_
  rintro e w1 ⟨rfl, hR1, hb1⟩
  have HX1 := Lib.hid (HX.out.later hb1)
  have hz := hb1.size
  rw [World.size_alloc] at hR1 hz
  go_wp2_with fail
  refine (l71Op_any _ _ _ hR1 (by omega)).mono ?_
  rintro e w2 ⟨o, rfl, hsm, hR2⟩
  have HX2 := Lib.hid (HX1.out.turn hR2 (Nat.lt_succ_self _))
  obtain ⟨lt, r0, r1, r2, r3, r4, f0, f1, f2, f3, f4⟩ := HX2.out.all
  have HS := Lib.hid hsm
  clear hR1 hR2 hb1 hsm
  obtain ⟨kind, name, dest, num, text⟩ := o
  unfold Ov.val
  go_wp2_with fail
  refine bodyPost_ret (v := (Ov.mk kind name dest num text).val) (by simp [results, Tryd.f9, go_sem, Ov.val, r0, r1, r2, r3, r4]) rfl ⟨_, rfl, HS.out, ?_⟩
  exact HX2.out.put5 _ _ _ _ _

theorem Rd.below {B P : Nat} {w w' : World} (h : Rd B P w) (hb : Below w.heap.size w w') : Rd B P w' :=
  h.kept (fun q hq => hb.cell (p := q) (by have := h.lt; omega)) (hb.frozen (p := ⟨B, 1, none⟩) h.lt)

theorem OpSm.fits {o : Ov} (h : OpSm o) : OpFits o := ⟨by unfold maxLen; have := h.1; omega, by unfold maxLen; have := h.2.1; omega, by unfold maxLen; have := h.2.2.1; omega⟩

theorem opT_size (o : Ov) : (opT o).size ≤ 14 := by
  by_cases hB : opB o = true
  · obtain ⟨hn, hp⟩ := opB_parts hB
    unfold opT
    rw [if_pos hB]
    rcases hp with ⟨hk, _⟩ | ⟨hk, _, _, ht⟩ | ⟨hk, hd⟩ | hk
    · rw [if_pos hk]; simp only [ByteArray.size_append, hn]; show 5 + 1 + 1 + 1 ≤ 14; decide
    · rw [if_neg (by omega), if_pos hk]
      split
      · simp only [ByteArray.size_append, hn]; show 5 + 1 + 1 + 1 ≤ 14; decide
      · simp only [ByteArray.size_append, hn]; show 6 + 1 + 1 + 1 + 1 + _ ≤ _; omega
    · rw [if_neg (by omega), if_neg (by omega), if_pos hk]; simp only [ByteArray.size_append, hn, hd]; decide
    · rw [if_neg (by omega), if_neg (by omega), if_neg (by omega)]; simp only [ByteArray.size_append, hn]; decide
  · unfold opT; rw [if_neg hB]; exact Nat.zero_le _

set_option maxHeartbeats 1600000 in
theorem drawOpRead_any (a : Option Addr) (len cap : Nat) (w : World) (h1 : len ≤ cap) (h2 : cap ≤ 9223372036854775807) (hr : Row8 w.heap.size w a len) :
    Calls Tryd.prog 14 #[.slice a len cap] w fun e w' => ∃ s : ByteArray, e = .returned (.string s) ∧ s.size ≤ 20 ∧ Below w.heap.size w w' := by
  have HO := Lib.hid (l6Open_rd a len cap w h1 h2 hr)
  go_enter Tryd.func14, Tryd.ntmps14
  go_wp2_with fail
  refine HO.out.mono ?_
  rintro e w1 ⟨rfl, hR1, hb1⟩
  go_wp2_with fail
  refine (l71Op_any _ _ _ hR1 (by omega)).mono ?_
  rintro e w2 ⟨o, rfl, hsm, hR2⟩
  have HB2 := Lib.hid (hR2.below hb1 (Nat.le_refl _) hb1.size)
  have hd2 := hR2.1
  clear hb1 hR1 hR2
  go_wp2_with fail
  refine (opTextS_any o w2 hsm.fits).mono ?_
  rintro e w3 ⟨rfl, hb3⟩
  have hd3 := hd2.below hb3
  have HB3 := Lib.hid (bnext HB2.out hb3)
  have hsz := opT_size o
  generalize opT o = s at *
  clear hd2 hb3
  go_wp2_with fail
  refine (pick_any _ _ _ w3 hd3 (by omega) (by omega)).mono ?_
  rintro e w4 ⟨t, rfl, t0, t1, hR4⟩
  obtain ⟨j, rfl⟩ := Int.eq_ofNat_of_zero_le t0
  have hj : j ≤ s.size := by omega
  go_wp2_with fail
  refine (pick_any _ _ 7 w4 hR4.1 (by omega) (by omega)).mono ?_
  rintro e w5 ⟨r, rfl, r0, r1, hR5⟩
  have hR5' := hR4.trans hR5
  have HB5 := Lib.hid (hR5'.below HB3.out (Nat.le_refl _) HB3.out.size)
  have hd5 := hR5'.1
  have hs5 := HB5.out.size
  clear hR4 hR5 hR5' hd3 t0 t1
  by_cases q0 : r = 0
  · subst q0
    go_wp2_with fail
    go_ret
    exact ⟨_, rfl, by simp only [ByteArray.size_extract]; omega, HB5.out⟩
  by_cases q1 : r = 1
  · subst q1
    have hlt : w.heap.size < w5.heap.size := hd5.lt
    have HP := Lib.hid (of_any _ _ w5.heap.size 5 [⟨#[48]⟩, ⟨#[32]⟩, ⟨#[97]⟩, ⟨#[65]⟩, ⟨#[32, 49]⟩] (w5.drew.alloc (.cells #[.string ⟨#[48]⟩, .string ⟨#[32]⟩, .string ⟨#[97]⟩, .string ⟨#[65]⟩, .string ⟨#[32, 49]⟩] 9)) ((hd5.below (Below.drew (Below.refl _ _))).alloc _) (by omega) rfl (by omega) (by omega) (by simp) (by omega) (by
      intro i hi
      have h := (new_cells w5.drew #[.string ⟨#[48]⟩, .string ⟨#[32]⟩, .string ⟨#[97]⟩, .string ⟨#[65]⟩, .string ⟨#[32, 49]⟩] 9).1 i
      refine (show _ = _ from h).trans ?_
      obtain rfl | rfl | rfl | rfl | rfl : i = 0 ∨ i = 1 ∨ i = 2 ∨ i = 3 ∨ i = 4 := by omega
      all_goals rfl))
    have HBB : Hid (Below w.heap.size w (w5.drew.alloc (.cells #[.string ⟨#[48]⟩, .string ⟨#[32]⟩, .string ⟨#[97]⟩, .string ⟨#[65]⟩, .string ⟨#[32, 49]⟩] 9))) := Lib.hid ((Below.drew HB5.out).alloc hs5 _)
    have x1 : (s.extract 0 j).size = j := by simp only [ByteArray.size_extract]; omega
    have x2 : (s.extract j s.size).size = s.size - j := by simp only [ByteArray.size_extract]; omega
    go_wp2_with fail
    go_region_with (go_at_call 30; refine HP.out.mono ?_; rintro e w7 ⟨u, rfl, hu, hR7⟩; have hus : u.size ≤ 2 := (show ∀ t ∈ ([⟨#[48]⟩, ⟨#[32]⟩, ⟨#[97]⟩, ⟨#[65]⟩, ⟨#[32, 49]⟩] : List ByteArray), t.size ≤ 2 by decide) u hu; have HB7 := Lib.hid (hR7.below HBB.out (Nat.le_refl _) HBB.out.size); clear hR7 hu)
    all_goals (
      go_wp2_with fail
      go_ret
      exact ⟨_, rfl, by simp only [ByteArray.size_append, x1, x2]; omega, HB7.out⟩)
  · go_wp2_with fail
    go_ret
    exact ⟨_, rfl, by omega, HB5.out⟩

/-- A drawn change in its box. -/
structure OBx (b : Nat) (o : Ov) (W : World) : Prop where
  lt : b < W.heap.size
  op : ∀ i, i < 5 → W.cell? ⟨b, i, none⟩ = some (ovc o i)
  fz : ∀ i, W.frozen? ⟨b, i, none⟩ = false

theorem OBx.new (W : World) (o : Ov) : OBx W.heap.size o (W.alloc (.cells #[.int .i64 o.kind, .string o.name, .string o.dest, .int .i64 o.num, .string o.text] 24)) :=
  ⟨by simp, op_cells o W, (new_cells W _ _).2⟩

theorem OBx.keep {b : Nat} {o : Ov} {W W' : World} (h : OBx b o W) (hk : W'.heap[b]? = W.heap[b]?) (hs : W.heap.size ≤ W'.heap.size) : OBx b o W' :=
  ⟨Nat.lt_of_lt_of_le h.lt hs, fun i hi => (World.cell?_of_block (w := W) (a := ⟨b, i, none⟩) hk).trans (h.op i hi), fun i => (World.frozen?_of_block (w := W) (a := ⟨b, i, none⟩) hk).trans (h.fz i)⟩

theorem OBx.turn {b B Q : Nat} {o : Ov} {W W' : World} (h : OBx b o W) (hr : RdTo B Q W W') (hB : b ≠ B) : OBx b o W' :=
  h.keep (hr.2.block _ h.lt (fun e => hB (by injection e))) hr.2.size

theorem OBx.later {b : Nat} {o : Ov} {W W' : World} (h : OBx b o W) (hb : Below W.heap.size W W') : OBx b o W' := h.keep (hb.block b h.lt) hb.size

theorem OBx.all {b : Nat} {o : Ov} {W : World} (h : OBx b o W) : b < W.heap.size ∧ W.cell? ⟨b, 0, none⟩ = some (.int .i64 o.kind) ∧ W.cell? ⟨b, 1, none⟩ = some (.string o.name) ∧ W.cell? ⟨b, 2, none⟩ = some (.string o.dest) ∧ W.cell? ⟨b, 3, none⟩ = some (.int .i64 o.num) ∧ W.cell? ⟨b, 4, none⟩ = some (.string o.text) ∧ W.frozen? ⟨b, 2, none⟩ = false :=
  ⟨h.lt, h.op 0 (by omega), h.op 1 (by omega), h.op 2 (by omega), h.op 3 (by omega), h.op 4 (by omega), h.fz 2⟩

set_option maxHeartbeats 1600000 in
theorem drawOpOk_any (a : Option Addr) (len cap : Nat) (w : World) (h1 : len ≤ cap) (h2 : cap ≤ 9223372036854775807) (hr : Row8 w.heap.size w a len) :
    Calls Tryd.prog 16 #[.slice a len cap] w fun e w' => ∃ o : Ov, e = .returned o.val ∧ OpSm o ∧ Below w.heap.size w w' := by
  have HX := Lib.hid (RBox.new w)
  have HO := Lib.hid (l6Open_rd a len cap _ h1 h2 (hr.alloc (.cells #[.int .i64 0, .string ⟨#[]⟩, .string ⟨#[]⟩, .int .i64 0, .string ⟨#[]⟩] 24)))
  go_enter Tryd.func16, Tryd.ntmps16
  go_wp2_with fail
  refine HO.out.mono ?_
  rintro e w1 ⟨rfl, hR1, hb1⟩
  have HX1 := Lib.hid (HX.out.later hb1)
  have hz := hb1.size
  rw [World.size_alloc] at hR1 hz
  go_wp2_with fail
  refine (l71Op_any _ _ _ hR1 (by omega)).mono ?_
  rintro e w2 ⟨o, rfl, hsm, hR2⟩
  have HX2 := Lib.hid (HX1.out.turn hR2 (Nat.lt_succ_self _))
  have hd2 := hR2.1
  have hl2 := hd2.lt
  have HS := Lib.hid hsm
  clear hR1 hR2 hb1 hsm hz
  obtain ⟨kind, name, dest, num, text⟩ := o
  unfold Ov.val
  go_wp2_with fail
  have HB3 := Lib.hid (OBx.new w2 ⟨kind, name, dest, num, text⟩)
  have HX3 := Lib.hid (HX2.out.alloc (.cells #[.int .i64 kind, .string name, .string dest, .int .i64 num, .string text] 24))
  refine (pick_any _ _ 5 _ (hd2.alloc _) (by omega) (by omega)).mono ?_
  rintro e w4 ⟨r, rfl, r0, r1, hR4⟩
  have HB4 := Lib.hid (HB3.out.turn hR4 (by omega))
  have HX4 := Lib.hid (HX3.out.turn hR4 (Nat.lt_succ_self _))
  have hd4 := hR4.1
  have hl4 := hd4.lt
  clear hR4 HB3 HX3 hd2
  obtain ⟨lt, r0', r1', r2', r3', r4', f0, f1, f2, f3, f4⟩ := HX4.out.all
  obtain ⟨bl, b0, b1, b2, b3, b4, bf⟩ := HB4.out.all
  simp only at b0 b1 b2 b3 b4
  by_cases q0 : r = 0
  · subst q0
    have HP := Lib.hid (of_any _ _ w4.heap.size 3 [⟨#[65]⟩, ⟨#[]⟩, ⟨#[69]⟩] (w4.alloc (.cells #[.string ⟨#[65]⟩, .string ⟨#[]⟩, .string ⟨#[69]⟩] 9)) (hd4.alloc _) (by omega) rfl (by omega) (by omega) (by simp) (by omega) (by
      intro i hi
      have h := (new_cells w4 #[.string ⟨#[65]⟩, .string ⟨#[]⟩, .string ⟨#[69]⟩] 9).1 i
      refine h.trans ?_
      obtain rfl | rfl | rfl : i = 0 ∨ i = 1 ∨ i = 2 := by omega
      all_goals rfl))
    have HB5 := Lib.hid (HB4.out.later ((Below.refl _ _).alloc (Nat.le_refl _) (.cells #[.string ⟨#[65]⟩, .string ⟨#[]⟩, .string ⟨#[69]⟩] 9)))
    have HX5 := Lib.hid (HX4.out.alloc (.cells #[.string ⟨#[65]⟩, .string ⟨#[]⟩, .string ⟨#[69]⟩] 9))
    go_wp2_with fail
    refine HP.out.mono ?_
    clear lt r0' r1' r2' r3' r4' f0 f1 f2 f3 f4 bl b0 b1 b2 b3 b4 bf
    rintro e w7 ⟨u, rfl, hu, hR7⟩
    have hus : u.size ≤ 1 := (show ∀ t ∈ ([⟨#[65]⟩, ⟨#[]⟩, ⟨#[69]⟩] : List ByteArray), t.size ≤ 1 by decide) u hu
    have HB7 := Lib.hid (HB5.out.turn hR7 (by omega))
    have HX7 := Lib.hid (HX5.out.turn hR7 (Nat.lt_succ_self _))
    clear hR7 hu
    obtain ⟨lt, r0', r1', r2', r3', r4', f0, f1, f2, f3, f4⟩ := HX7.out.all
    obtain ⟨bl, b0, b1, b2, b3, b4, bf⟩ := HB7.out.all
    simp only at b0 b1 b2 b3 b4
    have hne : w2.heap.size ≠ w.heap.size := by omega
    have hne' : w.heap.size ≠ w2.heap.size := by omega
    go_wp2_with fail
    refine bodyPost_ret (v := (Ov.mk kind name u num text).val) (by simp [results, Tryd.f16, go_sem, Ov.val, r0', r1', r2', r3', r4']) rfl ⟨_, rfl, ⟨HS.out.1, by show u.size ≤ 20; omega, HS.out.2.2⟩, ?_⟩
    exact (((((HX7.out.below.setCell (p := ⟨w2.heap.size, 2, none⟩) (by show w.heap.size ≤ w2.heap.size; omega) _).setCell (p := ⟨w.heap.size, 0, none⟩) (Nat.le_refl _) _).setCell (p := ⟨w.heap.size, 1, none⟩) (Nat.le_refl _) _).setCell (p := ⟨w.heap.size, 2, none⟩) (Nat.le_refl _) _).setCell (p := ⟨w.heap.size, 3, none⟩) (Nat.le_refl _) _).setCell (p := ⟨w.heap.size, 4, none⟩) (Nat.le_refl _) _
  · go_wp2_with fail
    refine bodyPost_ret (v := (Ov.mk kind name dest num text).val) (by simp [results, Tryd.f16, go_sem, Ov.val, r0', r1', r2', r3', r4']) rfl ⟨_, rfl, HS.out, ?_⟩
    exact HX4.out.put5 _ _ _ _ _

end Go.Proofs.YtplicodloanljaaDoor
