/- The model's OpRead: just what OpText writes. -/
import Derived.Test.YtplicodloanljaaDoorOpText
import Derived.Test.YtplicodloanljaaDoorOpCut
namespace Go.Proofs.YtplicodloanljaaDoor
open Go.RowKit
set_option linter.unusedVariables false
set_option maxRecDepth 100000

/-- What a text's words make, whether that is a change or not. -/
def readO (ws : List ByteArray) : Ov :=
  if ((ws.getD 0 ⟨#[]⟩).toList == [109, 97, 107, 101]) = true then ⟨1, ws.getD 1 ⟨#[]⟩, ⟨#[]⟩, decF (ws.getD 2 ⟨#[]⟩).data.toList, ⟨#[]⟩⟩
  else if ((ws.getD 0 ⟨#[]⟩).toList == [102, 114, 101, 101]) = true then ⟨2, ws.getD 1 ⟨#[]⟩, ⟨#[]⟩, decF (ws.getD 2 ⟨#[]⟩).data.toList, ws.getD 3 ⟨#[]⟩⟩
  else if ((ws.getD 0 ⟨#[]⟩).toList == [119, 114, 105, 116, 101]) = true then ⟨2, ws.getD 1 ⟨#[]⟩, ⟨#[]⟩, decF (ws.getD 2 ⟨#[]⟩).data.toList, ws.getD 3 ⟨#[]⟩⟩
  else if ((ws.getD 0 ⟨#[]⟩).toList == [99, 108, 111, 110, 101]) = true then ⟨3, ws.getD 1 ⟨#[]⟩, ws.getD 2 ⟨#[]⟩, 0, ⟨#[]⟩⟩
  else if ((ws.getD 0 ⟨#[]⟩).toList == [103, 111, 110, 101]) = true then ⟨4, ws.getD 1 ⟨#[]⟩, ⟨#[]⟩, 0, ⟨#[]⟩⟩
  else ⟨0, ws.getD 1 ⟨#[]⟩, ⟨#[]⟩, 0, ⟨#[]⟩⟩

/-- What a text says, and whether it says anything. -/
def readT (s : ByteArray) (ws : List ByteArray) : Ov × Bool := if s.toList.isEmpty = true then (Ov.zero, false) else if ((opT (readO ws)).toList == s.toList) = true then (readO ws, true) else (Ov.zero, false)

def readB (s : ByteArray) : Ov × Bool := if 20 < s.size then (Ov.zero, false) else readT s (cutF s.data.toList)

/-- The result's box, still empty. -/
structure RBox (w W : World) : Prop where
  lt : w.heap.size < W.heap.size
  c : ∀ i, i < 5 → W.cell? ⟨w.heap.size, i, none⟩ = some (ovc Ov.zero i)
  z : ∀ i, W.frozen? ⟨w.heap.size, i, none⟩ = false
  below : Below w.heap.size w W

theorem RBox.new (w : World) : RBox w (w.alloc (.cells #[.int .i64 0, .string ⟨#[]⟩, .string ⟨#[]⟩, .int .i64 0, .string ⟨#[]⟩] 24)) :=
  ⟨by simp, op_cells Ov.zero w, (new_cells w _ _).2, (Below.refl w.heap.size w).alloc (Nat.le_refl _) _⟩

theorem RBox.later {w W W' : World} (h : RBox w W) (hb : Below W.heap.size W W') : RBox w W' :=
  ⟨Nat.lt_of_lt_of_le h.lt hb.size, fun i hi => (hb.cell (p := ⟨w.heap.size, i, none⟩) h.lt).trans (h.c i hi), fun i => (hb.frozen (p := ⟨w.heap.size, i, none⟩) h.lt).trans (h.z i), h.below.trans (hb.mono (Nat.le_of_lt h.lt))⟩

theorem RBox.alloc {w W : World} (h : RBox w W) (o : Obj) : RBox w (W.alloc o) := h.later ((Below.refl _ _).alloc (Nat.le_refl _) o)

theorem RBox.all {w W : World} (h : RBox w W) : w.heap.size < W.heap.size ∧ W.cell? ⟨w.heap.size, 0, none⟩ = some (.int .i64 0) ∧ W.cell? ⟨w.heap.size, 1, none⟩ = some (.string ⟨#[]⟩) ∧ W.cell? ⟨w.heap.size, 2, none⟩ = some (.string ⟨#[]⟩) ∧ W.cell? ⟨w.heap.size, 3, none⟩ = some (.int .i64 0) ∧ W.cell? ⟨w.heap.size, 4, none⟩ = some (.string ⟨#[]⟩)
    ∧ W.frozen? ⟨w.heap.size, 0, none⟩ = false ∧ W.frozen? ⟨w.heap.size, 1, none⟩ = false ∧ W.frozen? ⟨w.heap.size, 2, none⟩ = false ∧ W.frozen? ⟨w.heap.size, 3, none⟩ = false ∧ W.frozen? ⟨w.heap.size, 4, none⟩ = false :=
  ⟨h.lt, h.c 0 (by omega), h.c 1 (by omega), h.c 2 (by omega), h.c 3 (by omega), h.c 4 (by omega), h.z 0, h.z 1, h.z 2, h.z 3, h.z 4⟩

theorem RBox.put5 {w W : World} (h : RBox w W) (a b c d e : Value) : Below w.heap.size w (((((W.setCell ⟨w.heap.size, 0, none⟩ a).setCell ⟨w.heap.size, 1, none⟩ b).setCell ⟨w.heap.size, 2, none⟩ c).setCell ⟨w.heap.size, 3, none⟩ d).setCell ⟨w.heap.size, 4, none⟩ e) :=
  ((((h.below.setCell (p := ⟨w.heap.size, 0, none⟩) (Nat.le_refl _) a).setCell (p := ⟨w.heap.size, 1, none⟩) (Nat.le_refl _) b).setCell (p := ⟨w.heap.size, 2, none⟩) (Nat.le_refl _) c).setCell (p := ⟨w.heap.size, 3, none⟩) (Nat.le_refl _) d).setCell (p := ⟨w.heap.size, 4, none⟩) (Nat.le_refl _) e

/-- The change that is being read, in its box. -/
theorem five_new (w : World) (o : Ov) : (w.alloc (.cells #[.int .i64 o.kind, .string o.name, .string o.dest, .int .i64 o.num, .string o.text] 24)).cell? ⟨w.heap.size, 0, none⟩ = some (.int .i64 o.kind) := op_cells o w 0 (by omega)

set_option maxHeartbeats 1600000 in
theorem opReadS_long (s : ByteArray) (w : World) (hs : s.size ≤ maxLen) (h : 20 < s.size) :
    Calls Tryd.prog 15 #[.string s] w fun e w' => e = .returned (.tuple #[(readB s).1.val, .bool (readB s).2]) ∧ Below w.heap.size w w' := by
  have hR : readB s = (Ov.zero, false) := by unfold readB; rw [if_pos h]
  rw [hR]
  clear hR
  unfold maxLen at hs
  have n0 := new_cells w #[.int .i64 0, .string ⟨#[]⟩, .string ⟨#[]⟩, .int .i64 0, .string ⟨#[]⟩] 24
  go_enter Tryd.func15, Tryd.ntmps15
  go_wp2_with fail
  refine bodyPost_ret (v := .tuple #[Ov.zero.val, .bool false]) (by simp [results, Tryd.f15, go_sem, Ov.zero, Ov.val]) rfl ⟨rfl, (Below.refl _ _).alloc (Nat.le_refl _) _⟩

set_option maxHeartbeats 3200000 in
theorem opReadS_any (s : ByteArray) (w : World) (h : s.size ≤ 20) :
    Calls Tryd.prog 15 #[.string s] w fun e w' => e = .returned (.tuple #[(readB s).1.val, .bool (readB s).2]) ∧ Below w.heap.size w w' := by
  have hR : readB s = readT s (cutF s.data.toList) := by unfold readB; rw [if_neg (by omega)]
  rw [hR]
  clear hR
  have HX := Lib.hid (RBox.new w)
  go_enter Tryd.func15, Tryd.ntmps15
  go_wp2_with fail
  refine (l12Cut_any s _ h).mono ?_
  rintro e w1 ⟨g, cap, n, rfl, hn, hn1, hn2, hz, hg, hown, hb⟩
  obtain ⟨ws, hws⟩ : ∃ ws, cutF s.data.toList = ws := ⟨_, rfl⟩
  rw [hws] at hn hz hown
  have HQ : Hid (readT s (cutF s.data.toList) = readT s ws) := Lib.hid (by rw [hws])
  clear hws
  have HX1 := Lib.hid (HX.out.later hb)
  rw [World.size_alloc] at hown
  clear hb HX
  subst hn
  have HO := Lib.hid hown
  have HW := Lib.hid (fun k hk W (h : W.ownsRow (w.heap.size + 1) 9 1 (.slice (some ⟨g, 0, none⟩) ws.length cap) ws.length (strs ws)) => l12Word_any _ g cap ws.length k ws W h rfl hn2 hk)
  have HR : Hid (readO ws = readO ws) := Lib.hid rfl
  generalize hro : readO ws = O at HR
  unfold readO at hro
  have HT : Hid (readT s (cutF s.data.toList) = if s.toList.isEmpty = true then (Ov.zero, false) else if ((opT O).toList == s.toList) = true then (O, true) else (Ov.zero, false)) := Lib.hid (by rw [HQ.out]; unfold readT; rw [show readO ws = O from by rw [← hro]; rfl])
  clear HR
  have z0 := hz 0
  have z1 := hz 1
  have z2 := hz 2
  have z3 := hz 3
  have hc0 := hown.cellAt 0 (by omega)
  rw [strs_at ws 0 (by omega)] at hc0
  have HW1 := Lib.hid (HW.out 1 (by omega))
  have HW2 := Lib.hid (HW.out 2 (by omega))
  have HW3 := Lib.hid (HW.out 3 (by omega))
  generalize ws.getD 0 ⟨#[]⟩ = t0 at *
  generalize ws.getD 1 ⟨#[]⟩ = t1 at *
  generalize ws.getD 2 ⟨#[]⟩ = t2 at *
  generalize ws.getD 3 ⟨#[]⟩ = t3 at *
  clear hown HW hz
  go_wp2_with fail
  refine (HW1.out w1 HO.out).mono ?_
  rintro e w1' ⟨rfl, e1⟩
  have e1 := e1.symm
  subst e1
  by_cases q1 : (t0.toList == [109, 97, 107, 101]) = true
  · rw [q1, if_pos rfl] at hro
    have HRO := Lib.hid hro
    clear hro
    go_wp2_with fail
    refine (HW2.out _ (HO.out.alloc _)).mono ?_
    rintro e w2 ⟨rfl, e1⟩
    have e1 := e1.symm
    subst e1
    go_wp2_with fail
    refine (l12Dec_any t2 _ (by unfold maxLen; omega)).mono ?_
    rintro e w2 ⟨rfl, e1⟩
    have e1 := e1.symm
    subst e1
    have HX2 := Lib.hid (HX1.out.alloc (.cells #[.int .i64 (1), .string t1, .string ⟨#[]⟩, .int .i64 (decF t2.data.toList), .string ⟨#[]⟩] 24))
    obtain ⟨lt, r0, r1, r2, r3, r4, f0, f1, f2, f3, f4⟩ := HX2.out.all
    cases he : s.toList.isEmpty
    · have HOC := Lib.hid (op_cells (Ov.mk 1 t1 ⟨#[]⟩ (decF t2.data.toList) ⟨#[]⟩) w1)
      have HOT := Lib.hid (opTextS_any (Ov.mk 1 t1 ⟨#[]⟩ (decF t2.data.toList) ⟨#[]⟩) (w1.alloc (.cells #[.int .i64 (1), .string t1, .string ⟨#[]⟩, .int .i64 (decF t2.data.toList), .string ⟨#[]⟩] 24)) ⟨(show t1.size ≤ maxLen by unfold maxLen; omega), Nat.zero_le _, Nat.zero_le _⟩)
      have HOB : Hid (w1.heap.size < (w1.alloc (.cells #[.int .i64 (1), .string t1, .string ⟨#[]⟩, .int .i64 (decF t2.data.toList), .string ⟨#[]⟩] 24)).heap.size) := Lib.hid (by simp)
      have b0 := HOC.out 0 (by omega)
      have b1 := HOC.out 1 (by omega)
      have b2 := HOC.out 2 (by omega)
      have b3 := HOC.out 3 (by omega)
      have b4 := HOC.out 4 (by omega)
      simp only [ovc] at b0 b1 b2 b3 b4
      go_wp2_with fail
      refine HOT.out.mono ?_
      clear r0 r1 r2 r3 r4 f0 f1 f2 f3 f4 lt b0 b1 b2 b3 b4
      rintro e w3 ⟨rfl, hb3⟩
      have HX3 := Lib.hid (HX2.out.later hb3)
      obtain ⟨lt, r0, r1, r2, r3, r4, f0, f1, f2, f3, f4⟩ := HX3.out.all
      have b0 := (hb3.cell (p := ⟨w1.heap.size, 0, none⟩) HOB.out).trans (HOC.out 0 (by omega))
      have b1 := (hb3.cell (p := ⟨w1.heap.size, 1, none⟩) HOB.out).trans (HOC.out 1 (by omega))
      have b2 := (hb3.cell (p := ⟨w1.heap.size, 2, none⟩) HOB.out).trans (HOC.out 2 (by omega))
      have b3 := (hb3.cell (p := ⟨w1.heap.size, 3, none⟩) HOB.out).trans (HOC.out 3 (by omega))
      have b4 := (hb3.cell (p := ⟨w1.heap.size, 4, none⟩) HOB.out).trans (HOC.out 4 (by omega))
      simp only [ovc] at b0 b1 b2 b3 b4
      clear hb3
      have HE : Hid (readT s (cutF s.data.toList) = if ((opT (Ov.mk 1 t1 ⟨#[]⟩ (decF t2.data.toList) ⟨#[]⟩)).toList == s.toList) = true then ((Ov.mk 1 t1 ⟨#[]⟩ (decF t2.data.toList) ⟨#[]⟩), true) else (Ov.zero, false)) := Lib.hid (by rw [HT.out, if_neg (by rw [he]; exact Bool.false_ne_true), ← HRO.out])
      have HF : Hid (∀ b, ((opT (Ov.mk 1 t1 ⟨#[]⟩ (decF t2.data.toList) ⟨#[]⟩)).toList == s.toList) = b → ((opT (Ov.mk 1 t1 ⟨#[]⟩ (decF t2.data.toList) ⟨#[]⟩)).toList == s.toList) = b) := Lib.hid (fun _ h => h)
      generalize opT (Ov.mk 1 t1 ⟨#[]⟩ (decF t2.data.toList) ⟨#[]⟩) = tx at *
      cases hq : (tx.toList == s.toList)
      · go_wp2_with fail
        refine bodyPost_ret (v := .tuple #[Ov.zero.val, .bool false]) (by simp [results, Tryd.f15, go_sem, Ov.zero, Ov.val, r0, r1, r2, r3, r4]) rfl ⟨by rw [HE.out, hq]; rfl, ?_⟩
        exact HX3.out.put5 _ _ _ _ _
      · go_wp2_with fail
        refine bodyPost_ret (v := .tuple #[((Ov.mk 1 t1 ⟨#[]⟩ (decF t2.data.toList) ⟨#[]⟩)).val, .bool true]) (by simp [results, Tryd.f15, go_sem, Ov.val, r0, r1, r2, r3, r4]) rfl ⟨by rw [HE.out, hq]; rfl, ?_⟩
        exact HX3.out.put5 _ _ _ _ _
    · go_wp2_with fail
      refine bodyPost_ret (v := .tuple #[Ov.zero.val, .bool false]) (by simp [results, Tryd.f15, go_sem, Ov.zero, Ov.val, r0, r1, r2, r3, r4]) rfl ⟨by rw [HT.out, if_pos he], ?_⟩
      exact HX2.out.put5 _ _ _ _ _
  replace q1 := Bool.eq_false_iff.2 q1
  by_cases q2 : (t0.toList == [102, 114, 101, 101]) = true
  · rw [q1, if_neg Bool.false_ne_true, q2, if_pos rfl] at hro
    have HRO := Lib.hid hro
    clear hro
    go_wp2_with fail
    refine (HW2.out _ (HO.out.alloc _)).mono ?_
    rintro e w2 ⟨rfl, e1⟩
    have e1 := e1.symm
    subst e1
    go_wp2_with fail
    refine (l12Dec_any t2 _ (by unfold maxLen; omega)).mono ?_
    rintro e w2 ⟨rfl, e1⟩
    have e1 := e1.symm
    subst e1
    go_wp2_with fail
    refine (HW3.out _ (HO.out.alloc _)).mono ?_
    rintro e w2 ⟨rfl, e1⟩
    have e1 := e1.symm
    subst e1
    have HX2 := Lib.hid (HX1.out.alloc (.cells #[.int .i64 (2), .string t1, .string ⟨#[]⟩, .int .i64 (decF t2.data.toList), .string t3] 24))
    obtain ⟨lt, r0, r1, r2, r3, r4, f0, f1, f2, f3, f4⟩ := HX2.out.all
    cases he : s.toList.isEmpty
    · have HOC := Lib.hid (op_cells (Ov.mk 2 t1 ⟨#[]⟩ (decF t2.data.toList) t3) w1)
      have HOT := Lib.hid (opTextS_any (Ov.mk 2 t1 ⟨#[]⟩ (decF t2.data.toList) t3) (w1.alloc (.cells #[.int .i64 (2), .string t1, .string ⟨#[]⟩, .int .i64 (decF t2.data.toList), .string t3] 24)) ⟨(show t1.size ≤ maxLen by unfold maxLen; omega), Nat.zero_le _, (show t3.size ≤ maxLen by unfold maxLen; omega)⟩)
      have HOB : Hid (w1.heap.size < (w1.alloc (.cells #[.int .i64 (2), .string t1, .string ⟨#[]⟩, .int .i64 (decF t2.data.toList), .string t3] 24)).heap.size) := Lib.hid (by simp)
      have b0 := HOC.out 0 (by omega)
      have b1 := HOC.out 1 (by omega)
      have b2 := HOC.out 2 (by omega)
      have b3 := HOC.out 3 (by omega)
      have b4 := HOC.out 4 (by omega)
      simp only [ovc] at b0 b1 b2 b3 b4
      go_wp2_with fail
      refine HOT.out.mono ?_
      clear r0 r1 r2 r3 r4 f0 f1 f2 f3 f4 lt b0 b1 b2 b3 b4
      rintro e w3 ⟨rfl, hb3⟩
      have HX3 := Lib.hid (HX2.out.later hb3)
      obtain ⟨lt, r0, r1, r2, r3, r4, f0, f1, f2, f3, f4⟩ := HX3.out.all
      have b0 := (hb3.cell (p := ⟨w1.heap.size, 0, none⟩) HOB.out).trans (HOC.out 0 (by omega))
      have b1 := (hb3.cell (p := ⟨w1.heap.size, 1, none⟩) HOB.out).trans (HOC.out 1 (by omega))
      have b2 := (hb3.cell (p := ⟨w1.heap.size, 2, none⟩) HOB.out).trans (HOC.out 2 (by omega))
      have b3 := (hb3.cell (p := ⟨w1.heap.size, 3, none⟩) HOB.out).trans (HOC.out 3 (by omega))
      have b4 := (hb3.cell (p := ⟨w1.heap.size, 4, none⟩) HOB.out).trans (HOC.out 4 (by omega))
      simp only [ovc] at b0 b1 b2 b3 b4
      clear hb3
      have HE : Hid (readT s (cutF s.data.toList) = if ((opT (Ov.mk 2 t1 ⟨#[]⟩ (decF t2.data.toList) t3)).toList == s.toList) = true then ((Ov.mk 2 t1 ⟨#[]⟩ (decF t2.data.toList) t3), true) else (Ov.zero, false)) := Lib.hid (by rw [HT.out, if_neg (by rw [he]; exact Bool.false_ne_true), ← HRO.out])
      have HF : Hid (∀ b, ((opT (Ov.mk 2 t1 ⟨#[]⟩ (decF t2.data.toList) t3)).toList == s.toList) = b → ((opT (Ov.mk 2 t1 ⟨#[]⟩ (decF t2.data.toList) t3)).toList == s.toList) = b) := Lib.hid (fun _ h => h)
      generalize opT (Ov.mk 2 t1 ⟨#[]⟩ (decF t2.data.toList) t3) = tx at *
      cases hq : (tx.toList == s.toList)
      · go_wp2_with fail
        refine bodyPost_ret (v := .tuple #[Ov.zero.val, .bool false]) (by simp [results, Tryd.f15, go_sem, Ov.zero, Ov.val, r0, r1, r2, r3, r4]) rfl ⟨by rw [HE.out, hq]; rfl, ?_⟩
        exact HX3.out.put5 _ _ _ _ _
      · go_wp2_with fail
        refine bodyPost_ret (v := .tuple #[((Ov.mk 2 t1 ⟨#[]⟩ (decF t2.data.toList) t3)).val, .bool true]) (by simp [results, Tryd.f15, go_sem, Ov.val, r0, r1, r2, r3, r4]) rfl ⟨by rw [HE.out, hq]; rfl, ?_⟩
        exact HX3.out.put5 _ _ _ _ _
    · go_wp2_with fail
      refine bodyPost_ret (v := .tuple #[Ov.zero.val, .bool false]) (by simp [results, Tryd.f15, go_sem, Ov.zero, Ov.val, r0, r1, r2, r3, r4]) rfl ⟨by rw [HT.out, if_pos he], ?_⟩
      exact HX2.out.put5 _ _ _ _ _
  replace q2 := Bool.eq_false_iff.2 q2
  by_cases q3 : (t0.toList == [119, 114, 105, 116, 101]) = true
  · rw [q1, if_neg Bool.false_ne_true, q2, if_neg Bool.false_ne_true, q3, if_pos rfl] at hro
    have HRO := Lib.hid hro
    clear hro
    go_wp2_with fail
    refine (HW2.out _ (HO.out.alloc _)).mono ?_
    rintro e w2 ⟨rfl, e1⟩
    have e1 := e1.symm
    subst e1
    go_wp2_with fail
    refine (l12Dec_any t2 _ (by unfold maxLen; omega)).mono ?_
    rintro e w2 ⟨rfl, e1⟩
    have e1 := e1.symm
    subst e1
    go_wp2_with fail
    refine (HW3.out _ (HO.out.alloc _)).mono ?_
    rintro e w2 ⟨rfl, e1⟩
    have e1 := e1.symm
    subst e1
    have HX2 := Lib.hid (HX1.out.alloc (.cells #[.int .i64 (2), .string t1, .string ⟨#[]⟩, .int .i64 (decF t2.data.toList), .string t3] 24))
    obtain ⟨lt, r0, r1, r2, r3, r4, f0, f1, f2, f3, f4⟩ := HX2.out.all
    cases he : s.toList.isEmpty
    · have HOC := Lib.hid (op_cells (Ov.mk 2 t1 ⟨#[]⟩ (decF t2.data.toList) t3) w1)
      have HOT := Lib.hid (opTextS_any (Ov.mk 2 t1 ⟨#[]⟩ (decF t2.data.toList) t3) (w1.alloc (.cells #[.int .i64 (2), .string t1, .string ⟨#[]⟩, .int .i64 (decF t2.data.toList), .string t3] 24)) ⟨(show t1.size ≤ maxLen by unfold maxLen; omega), Nat.zero_le _, (show t3.size ≤ maxLen by unfold maxLen; omega)⟩)
      have HOB : Hid (w1.heap.size < (w1.alloc (.cells #[.int .i64 (2), .string t1, .string ⟨#[]⟩, .int .i64 (decF t2.data.toList), .string t3] 24)).heap.size) := Lib.hid (by simp)
      have b0 := HOC.out 0 (by omega)
      have b1 := HOC.out 1 (by omega)
      have b2 := HOC.out 2 (by omega)
      have b3 := HOC.out 3 (by omega)
      have b4 := HOC.out 4 (by omega)
      simp only [ovc] at b0 b1 b2 b3 b4
      go_wp2_with fail
      refine HOT.out.mono ?_
      clear r0 r1 r2 r3 r4 f0 f1 f2 f3 f4 lt b0 b1 b2 b3 b4
      rintro e w3 ⟨rfl, hb3⟩
      have HX3 := Lib.hid (HX2.out.later hb3)
      obtain ⟨lt, r0, r1, r2, r3, r4, f0, f1, f2, f3, f4⟩ := HX3.out.all
      have b0 := (hb3.cell (p := ⟨w1.heap.size, 0, none⟩) HOB.out).trans (HOC.out 0 (by omega))
      have b1 := (hb3.cell (p := ⟨w1.heap.size, 1, none⟩) HOB.out).trans (HOC.out 1 (by omega))
      have b2 := (hb3.cell (p := ⟨w1.heap.size, 2, none⟩) HOB.out).trans (HOC.out 2 (by omega))
      have b3 := (hb3.cell (p := ⟨w1.heap.size, 3, none⟩) HOB.out).trans (HOC.out 3 (by omega))
      have b4 := (hb3.cell (p := ⟨w1.heap.size, 4, none⟩) HOB.out).trans (HOC.out 4 (by omega))
      simp only [ovc] at b0 b1 b2 b3 b4
      clear hb3
      have HE : Hid (readT s (cutF s.data.toList) = if ((opT (Ov.mk 2 t1 ⟨#[]⟩ (decF t2.data.toList) t3)).toList == s.toList) = true then ((Ov.mk 2 t1 ⟨#[]⟩ (decF t2.data.toList) t3), true) else (Ov.zero, false)) := Lib.hid (by rw [HT.out, if_neg (by rw [he]; exact Bool.false_ne_true), ← HRO.out])
      have HF : Hid (∀ b, ((opT (Ov.mk 2 t1 ⟨#[]⟩ (decF t2.data.toList) t3)).toList == s.toList) = b → ((opT (Ov.mk 2 t1 ⟨#[]⟩ (decF t2.data.toList) t3)).toList == s.toList) = b) := Lib.hid (fun _ h => h)
      generalize opT (Ov.mk 2 t1 ⟨#[]⟩ (decF t2.data.toList) t3) = tx at *
      cases hq : (tx.toList == s.toList)
      · go_wp2_with fail
        refine bodyPost_ret (v := .tuple #[Ov.zero.val, .bool false]) (by simp [results, Tryd.f15, go_sem, Ov.zero, Ov.val, r0, r1, r2, r3, r4]) rfl ⟨by rw [HE.out, hq]; rfl, ?_⟩
        exact HX3.out.put5 _ _ _ _ _
      · go_wp2_with fail
        refine bodyPost_ret (v := .tuple #[((Ov.mk 2 t1 ⟨#[]⟩ (decF t2.data.toList) t3)).val, .bool true]) (by simp [results, Tryd.f15, go_sem, Ov.val, r0, r1, r2, r3, r4]) rfl ⟨by rw [HE.out, hq]; rfl, ?_⟩
        exact HX3.out.put5 _ _ _ _ _
    · go_wp2_with fail
      refine bodyPost_ret (v := .tuple #[Ov.zero.val, .bool false]) (by simp [results, Tryd.f15, go_sem, Ov.zero, Ov.val, r0, r1, r2, r3, r4]) rfl ⟨by rw [HT.out, if_pos he], ?_⟩
      exact HX2.out.put5 _ _ _ _ _
  replace q3 := Bool.eq_false_iff.2 q3
  by_cases q4 : (t0.toList == [99, 108, 111, 110, 101]) = true
  · rw [q1, if_neg Bool.false_ne_true, q2, if_neg Bool.false_ne_true, q3, if_neg Bool.false_ne_true, q4, if_pos rfl] at hro
    have HRO := Lib.hid hro
    clear hro
    go_wp2_with fail
    refine (HW2.out _ (HO.out.alloc _)).mono ?_
    rintro e w2 ⟨rfl, e1⟩
    have e1 := e1.symm
    subst e1
    have HX2 := Lib.hid (HX1.out.alloc (.cells #[.int .i64 (3), .string t1, .string t2, .int .i64 (0), .string ⟨#[]⟩] 24))
    obtain ⟨lt, r0, r1, r2, r3, r4, f0, f1, f2, f3, f4⟩ := HX2.out.all
    cases he : s.toList.isEmpty
    · have HOC := Lib.hid (op_cells (Ov.mk 3 t1 t2 0 ⟨#[]⟩) w1)
      have HOT := Lib.hid (opTextS_any (Ov.mk 3 t1 t2 0 ⟨#[]⟩) (w1.alloc (.cells #[.int .i64 (3), .string t1, .string t2, .int .i64 (0), .string ⟨#[]⟩] 24)) ⟨(show t1.size ≤ maxLen by unfold maxLen; omega), (show t2.size ≤ maxLen by unfold maxLen; omega), Nat.zero_le _⟩)
      have HOB : Hid (w1.heap.size < (w1.alloc (.cells #[.int .i64 (3), .string t1, .string t2, .int .i64 (0), .string ⟨#[]⟩] 24)).heap.size) := Lib.hid (by simp)
      have b0 := HOC.out 0 (by omega)
      have b1 := HOC.out 1 (by omega)
      have b2 := HOC.out 2 (by omega)
      have b3 := HOC.out 3 (by omega)
      have b4 := HOC.out 4 (by omega)
      simp only [ovc] at b0 b1 b2 b3 b4
      go_wp2_with fail
      refine HOT.out.mono ?_
      clear r0 r1 r2 r3 r4 f0 f1 f2 f3 f4 lt b0 b1 b2 b3 b4
      rintro e w3 ⟨rfl, hb3⟩
      have HX3 := Lib.hid (HX2.out.later hb3)
      obtain ⟨lt, r0, r1, r2, r3, r4, f0, f1, f2, f3, f4⟩ := HX3.out.all
      have b0 := (hb3.cell (p := ⟨w1.heap.size, 0, none⟩) HOB.out).trans (HOC.out 0 (by omega))
      have b1 := (hb3.cell (p := ⟨w1.heap.size, 1, none⟩) HOB.out).trans (HOC.out 1 (by omega))
      have b2 := (hb3.cell (p := ⟨w1.heap.size, 2, none⟩) HOB.out).trans (HOC.out 2 (by omega))
      have b3 := (hb3.cell (p := ⟨w1.heap.size, 3, none⟩) HOB.out).trans (HOC.out 3 (by omega))
      have b4 := (hb3.cell (p := ⟨w1.heap.size, 4, none⟩) HOB.out).trans (HOC.out 4 (by omega))
      simp only [ovc] at b0 b1 b2 b3 b4
      clear hb3
      have HE : Hid (readT s (cutF s.data.toList) = if ((opT (Ov.mk 3 t1 t2 0 ⟨#[]⟩)).toList == s.toList) = true then ((Ov.mk 3 t1 t2 0 ⟨#[]⟩), true) else (Ov.zero, false)) := Lib.hid (by rw [HT.out, if_neg (by rw [he]; exact Bool.false_ne_true), ← HRO.out])
      have HF : Hid (∀ b, ((opT (Ov.mk 3 t1 t2 0 ⟨#[]⟩)).toList == s.toList) = b → ((opT (Ov.mk 3 t1 t2 0 ⟨#[]⟩)).toList == s.toList) = b) := Lib.hid (fun _ h => h)
      generalize opT (Ov.mk 3 t1 t2 0 ⟨#[]⟩) = tx at *
      cases hq : (tx.toList == s.toList)
      · go_wp2_with fail
        refine bodyPost_ret (v := .tuple #[Ov.zero.val, .bool false]) (by simp [results, Tryd.f15, go_sem, Ov.zero, Ov.val, r0, r1, r2, r3, r4]) rfl ⟨by rw [HE.out, hq]; rfl, ?_⟩
        exact HX3.out.put5 _ _ _ _ _
      · go_wp2_with fail
        refine bodyPost_ret (v := .tuple #[((Ov.mk 3 t1 t2 0 ⟨#[]⟩)).val, .bool true]) (by simp [results, Tryd.f15, go_sem, Ov.val, r0, r1, r2, r3, r4]) rfl ⟨by rw [HE.out, hq]; rfl, ?_⟩
        exact HX3.out.put5 _ _ _ _ _
    · go_wp2_with fail
      refine bodyPost_ret (v := .tuple #[Ov.zero.val, .bool false]) (by simp [results, Tryd.f15, go_sem, Ov.zero, Ov.val, r0, r1, r2, r3, r4]) rfl ⟨by rw [HT.out, if_pos he], ?_⟩
      exact HX2.out.put5 _ _ _ _ _
  replace q4 := Bool.eq_false_iff.2 q4
  by_cases q5 : (t0.toList == [103, 111, 110, 101]) = true
  · rw [q1, if_neg Bool.false_ne_true, q2, if_neg Bool.false_ne_true, q3, if_neg Bool.false_ne_true, q4, if_neg Bool.false_ne_true, q5, if_pos rfl] at hro
    have HRO := Lib.hid hro
    clear hro
    have HX2 := Lib.hid (HX1.out.alloc (.cells #[.int .i64 (4), .string t1, .string ⟨#[]⟩, .int .i64 (0), .string ⟨#[]⟩] 24))
    obtain ⟨lt, r0, r1, r2, r3, r4, f0, f1, f2, f3, f4⟩ := HX2.out.all
    cases he : s.toList.isEmpty
    · have HOC := Lib.hid (op_cells (Ov.mk 4 t1 ⟨#[]⟩ 0 ⟨#[]⟩) w1)
      have HOT := Lib.hid (opTextS_any (Ov.mk 4 t1 ⟨#[]⟩ 0 ⟨#[]⟩) (w1.alloc (.cells #[.int .i64 (4), .string t1, .string ⟨#[]⟩, .int .i64 (0), .string ⟨#[]⟩] 24)) ⟨(show t1.size ≤ maxLen by unfold maxLen; omega), Nat.zero_le _, Nat.zero_le _⟩)
      have HOB : Hid (w1.heap.size < (w1.alloc (.cells #[.int .i64 (4), .string t1, .string ⟨#[]⟩, .int .i64 (0), .string ⟨#[]⟩] 24)).heap.size) := Lib.hid (by simp)
      have b0 := HOC.out 0 (by omega)
      have b1 := HOC.out 1 (by omega)
      have b2 := HOC.out 2 (by omega)
      have b3 := HOC.out 3 (by omega)
      have b4 := HOC.out 4 (by omega)
      simp only [ovc] at b0 b1 b2 b3 b4
      go_wp2_with fail
      refine HOT.out.mono ?_
      clear r0 r1 r2 r3 r4 f0 f1 f2 f3 f4 lt b0 b1 b2 b3 b4
      rintro e w3 ⟨rfl, hb3⟩
      have HX3 := Lib.hid (HX2.out.later hb3)
      obtain ⟨lt, r0, r1, r2, r3, r4, f0, f1, f2, f3, f4⟩ := HX3.out.all
      have b0 := (hb3.cell (p := ⟨w1.heap.size, 0, none⟩) HOB.out).trans (HOC.out 0 (by omega))
      have b1 := (hb3.cell (p := ⟨w1.heap.size, 1, none⟩) HOB.out).trans (HOC.out 1 (by omega))
      have b2 := (hb3.cell (p := ⟨w1.heap.size, 2, none⟩) HOB.out).trans (HOC.out 2 (by omega))
      have b3 := (hb3.cell (p := ⟨w1.heap.size, 3, none⟩) HOB.out).trans (HOC.out 3 (by omega))
      have b4 := (hb3.cell (p := ⟨w1.heap.size, 4, none⟩) HOB.out).trans (HOC.out 4 (by omega))
      simp only [ovc] at b0 b1 b2 b3 b4
      clear hb3
      have HE : Hid (readT s (cutF s.data.toList) = if ((opT (Ov.mk 4 t1 ⟨#[]⟩ 0 ⟨#[]⟩)).toList == s.toList) = true then ((Ov.mk 4 t1 ⟨#[]⟩ 0 ⟨#[]⟩), true) else (Ov.zero, false)) := Lib.hid (by rw [HT.out, if_neg (by rw [he]; exact Bool.false_ne_true), ← HRO.out])
      have HF : Hid (∀ b, ((opT (Ov.mk 4 t1 ⟨#[]⟩ 0 ⟨#[]⟩)).toList == s.toList) = b → ((opT (Ov.mk 4 t1 ⟨#[]⟩ 0 ⟨#[]⟩)).toList == s.toList) = b) := Lib.hid (fun _ h => h)
      generalize opT (Ov.mk 4 t1 ⟨#[]⟩ 0 ⟨#[]⟩) = tx at *
      cases hq : (tx.toList == s.toList)
      · go_wp2_with fail
        refine bodyPost_ret (v := .tuple #[Ov.zero.val, .bool false]) (by simp [results, Tryd.f15, go_sem, Ov.zero, Ov.val, r0, r1, r2, r3, r4]) rfl ⟨by rw [HE.out, hq]; rfl, ?_⟩
        exact HX3.out.put5 _ _ _ _ _
      · go_wp2_with fail
        refine bodyPost_ret (v := .tuple #[((Ov.mk 4 t1 ⟨#[]⟩ 0 ⟨#[]⟩)).val, .bool true]) (by simp [results, Tryd.f15, go_sem, Ov.val, r0, r1, r2, r3, r4]) rfl ⟨by rw [HE.out, hq]; rfl, ?_⟩
        exact HX3.out.put5 _ _ _ _ _
    · go_wp2_with fail
      refine bodyPost_ret (v := .tuple #[Ov.zero.val, .bool false]) (by simp [results, Tryd.f15, go_sem, Ov.zero, Ov.val, r0, r1, r2, r3, r4]) rfl ⟨by rw [HT.out, if_pos he], ?_⟩
      exact HX2.out.put5 _ _ _ _ _
  replace q5 := Bool.eq_false_iff.2 q5
  rw [q1, if_neg Bool.false_ne_true, q2, if_neg Bool.false_ne_true, q3, if_neg Bool.false_ne_true, q4, if_neg Bool.false_ne_true, q5, if_neg Bool.false_ne_true] at hro
  have HRO := Lib.hid hro
  clear hro
  have HX2 := Lib.hid (HX1.out.alloc (.cells #[.int .i64 (0), .string t1, .string ⟨#[]⟩, .int .i64 (0), .string ⟨#[]⟩] 24))
  obtain ⟨lt, r0, r1, r2, r3, r4, f0, f1, f2, f3, f4⟩ := HX2.out.all
  cases he : s.toList.isEmpty
  · have HOC := Lib.hid (op_cells (Ov.mk 0 t1 ⟨#[]⟩ 0 ⟨#[]⟩) w1)
    have HOT := Lib.hid (opTextS_any (Ov.mk 0 t1 ⟨#[]⟩ 0 ⟨#[]⟩) (w1.alloc (.cells #[.int .i64 (0), .string t1, .string ⟨#[]⟩, .int .i64 (0), .string ⟨#[]⟩] 24)) ⟨(show t1.size ≤ maxLen by unfold maxLen; omega), Nat.zero_le _, Nat.zero_le _⟩)
    have HOB : Hid (w1.heap.size < (w1.alloc (.cells #[.int .i64 (0), .string t1, .string ⟨#[]⟩, .int .i64 (0), .string ⟨#[]⟩] 24)).heap.size) := Lib.hid (by simp)
    have b0 := HOC.out 0 (by omega)
    have b1 := HOC.out 1 (by omega)
    have b2 := HOC.out 2 (by omega)
    have b3 := HOC.out 3 (by omega)
    have b4 := HOC.out 4 (by omega)
    simp only [ovc] at b0 b1 b2 b3 b4
    go_wp2_with fail
    refine HOT.out.mono ?_
    clear r0 r1 r2 r3 r4 f0 f1 f2 f3 f4 lt b0 b1 b2 b3 b4
    rintro e w3 ⟨rfl, hb3⟩
    have HX3 := Lib.hid (HX2.out.later hb3)
    obtain ⟨lt, r0, r1, r2, r3, r4, f0, f1, f2, f3, f4⟩ := HX3.out.all
    have b0 := (hb3.cell (p := ⟨w1.heap.size, 0, none⟩) HOB.out).trans (HOC.out 0 (by omega))
    have b1 := (hb3.cell (p := ⟨w1.heap.size, 1, none⟩) HOB.out).trans (HOC.out 1 (by omega))
    have b2 := (hb3.cell (p := ⟨w1.heap.size, 2, none⟩) HOB.out).trans (HOC.out 2 (by omega))
    have b3 := (hb3.cell (p := ⟨w1.heap.size, 3, none⟩) HOB.out).trans (HOC.out 3 (by omega))
    have b4 := (hb3.cell (p := ⟨w1.heap.size, 4, none⟩) HOB.out).trans (HOC.out 4 (by omega))
    simp only [ovc] at b0 b1 b2 b3 b4
    clear hb3
    have HE : Hid (readT s (cutF s.data.toList) = if ((opT (Ov.mk 0 t1 ⟨#[]⟩ 0 ⟨#[]⟩)).toList == s.toList) = true then ((Ov.mk 0 t1 ⟨#[]⟩ 0 ⟨#[]⟩), true) else (Ov.zero, false)) := Lib.hid (by rw [HT.out, if_neg (by rw [he]; exact Bool.false_ne_true), ← HRO.out])
    have HF : Hid (∀ b, ((opT (Ov.mk 0 t1 ⟨#[]⟩ 0 ⟨#[]⟩)).toList == s.toList) = b → ((opT (Ov.mk 0 t1 ⟨#[]⟩ 0 ⟨#[]⟩)).toList == s.toList) = b) := Lib.hid (fun _ h => h)
    generalize opT (Ov.mk 0 t1 ⟨#[]⟩ 0 ⟨#[]⟩) = tx at *
    cases hq : (tx.toList == s.toList)
    · go_wp2_with fail
      refine bodyPost_ret (v := .tuple #[Ov.zero.val, .bool false]) (by simp [results, Tryd.f15, go_sem, Ov.zero, Ov.val, r0, r1, r2, r3, r4]) rfl ⟨by rw [HE.out, hq]; rfl, ?_⟩
      exact HX3.out.put5 _ _ _ _ _
    · go_wp2_with fail
      refine bodyPost_ret (v := .tuple #[((Ov.mk 0 t1 ⟨#[]⟩ 0 ⟨#[]⟩)).val, .bool true]) (by simp [results, Tryd.f15, go_sem, Ov.val, r0, r1, r2, r3, r4]) rfl ⟨by rw [HE.out, hq]; rfl, ?_⟩
      exact HX3.out.put5 _ _ _ _ _
  · go_wp2_with fail
    refine bodyPost_ret (v := .tuple #[Ov.zero.val, .bool false]) (by simp [results, Tryd.f15, go_sem, Ov.zero, Ov.val, r0, r1, r2, r3, r4]) rfl ⟨by rw [HT.out, if_pos he], ?_⟩
    exact HX2.out.put5 _ _ _ _ _

theorem opReadS (s : ByteArray) (w : World) (hs : s.size ≤ maxLen) :
    Calls Tryd.prog 15 #[.string s] w fun e w' => e = .returned (.tuple #[(readB s).1.val, .bool (readB s).2]) ∧ Below w.heap.size w w' := by
  by_cases h : 20 < s.size
  · exact opReadS_long s w hs h
  · exact opReadS_any s w (by omega)

end Go.Proofs.YtplicodloanljaaDoor
