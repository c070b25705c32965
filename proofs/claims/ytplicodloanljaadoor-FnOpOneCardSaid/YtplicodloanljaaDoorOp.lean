/- The model's OpOk: what a change has. -/
import Derived.Test.YtplicodloanljaaDoorPoolDraw
import Derived.Test.YtplicodloanljaaDoorVol
namespace Go.Proofs.YtplicodloanljaaDoor
open Go.RowKit
set_option linter.unusedVariables false
set_option maxRecDepth 100000

def emp (s : ByteArray) : Bool := s.toList.isEmpty

/-- What a change has, by its kind. -/
def opB (o : Ov) : Bool :=
  nameB o.name.data.toList && (if o.kind = 1 then emp o.dest && (decide (1 ≤ o.num) && decide (o.num ≤ 6)) && emp o.text
    else if o.kind = 2 then emp o.dest && (decide (0 ≤ o.num) && decide (o.num ≤ 5)) && tokB o.text.data.toList
    else if o.kind = 3 then nameB o.dest.data.toList && o.num == 0 && emp o.text
    else if o.kind = 4 then emp o.dest && o.num == 0 && emp o.text else false)

structure OpFits (o : Ov) : Prop where
  name : o.name.size ≤ maxLen
  dest : o.dest.size ≤ maxLen
  text : o.text.size ≤ maxLen

theorem op_cells (o : Ov) (w : World) : ∀ i, i < 5 → (w.alloc (.cells #[.int .i64 o.kind, .string o.name, .string o.dest, .int .i64 o.num, .string o.text] 24)).cell? ⟨w.heap.size, i, none⟩ = some (ovc o i) := by
  intro i hi
  have h := (new_cells w #[.int .i64 o.kind, .string o.name, .string o.dest, .int .i64 o.num, .string o.text] 24).1 i
  rw [h]
  obtain rfl | rfl | rfl | rfl | rfl : i = 0 ∨ i = 1 ∨ i = 2 ∨ i = 3 ∨ i = 4 := by omega
  all_goals rfl

theorem emp_true {s : ByteArray} (h : s.toList = []) : emp s = true := by simp [emp, h]

theorem emp_false {s : ByteArray} (h : ¬ s.toList = []) : emp s = false := by
  unfold emp
  cases hl : s.toList with
  | nil => exact absurd hl h
  | cons => rfl

-- BEGIN GEN

set_option maxHeartbeats 1600000 in
theorem opOkS_make (name dest : ByteArray) (num : Int) (text : ByteArray) (w : World) (hf : OpFits ⟨1, name, dest, num, text⟩) :
    Calls Tryd.prog 24 #[(Ov.mk (1) name dest num text).val] w fun e w' => e = .returned (.bool (opB ⟨1, name, dest, num, text⟩)) ∧ Below w.heap.size w w' := by
  have hc := op_cells ⟨1, name, dest, num, text⟩ w
  have c0 := hc 0 (by omega)
  have c1 := hc 1 (by omega)
  have c2 := hc 2 (by omega)
  have c3 := hc 3 (by omega)
  have c4 := hc 4 (by omega)
  simp only [ovc] at c0 c1 c2 c3 c4
  have HB : Hid (Below w.heap.size w (w.alloc (.cells #[.int .i64 (1), .string name, .string dest, .int .i64 num, .string text] 24))) := Lib.hid ((Below.refl w.heap.size w).alloc (Nat.le_refl _) _)
  clear hc
  obtain ⟨f1, f2, f3⟩ := hf
  simp only at f1 f2 f3
  unfold Ov.val
  have HT := Lib.hid (fun W => textOkS_any text W f3)
  cases hn : nameB name.data.toList
  · 
    have HO : Hid (opB ⟨1, name, dest, num, text⟩ = false) := Lib.hid (by simp [opB, hn])
    go_enter Tryd.func24, Tryd.ntmps24
    go_wp2_with (first
      | (go_at_call 36; refine (l3Name_any _ _ (by assumption)).mono ?_; (first | rw [hn] | rw [hD]); rintro e w' ⟨rfl, rfl⟩)
      | (go_at_call 37; refine (HI.out _).mono ?_; rintro e w' ⟨rfl, rfl⟩)
      | (go_at_call 38; refine (HT.out _).mono ?_; rintro e w' ⟨rfl, rfl⟩))
    go_ret
    exact ⟨by rw [HO.out]; rfl, HB.out⟩
  ·
    by_cases hd : dest.toList = []
    · have HI := Lib.hid (fun W => l6In_any num 1 6 W)
      cases hi : (decide (1 ≤ num) && decide (num ≤ 6))
      · rw [hi] at HI
        have HO : Hid (opB ⟨1, name, dest, num, text⟩ = false) := Lib.hid (by simp [opB, hn, emp_true hd, hi])
        go_enter Tryd.func24, Tryd.ntmps24
        go_wp2_with (first
          | (go_at_call 36; refine (l3Name_any _ _ (by assumption)).mono ?_; (first | rw [hn] | rw [hD]); rintro e w' ⟨rfl, rfl⟩)
          | (go_at_call 37; refine (HI.out _).mono ?_; rintro e w' ⟨rfl, rfl⟩)
          | (go_at_call 38; refine (HT.out _).mono ?_; rintro e w' ⟨rfl, rfl⟩))
        go_ret
        exact ⟨by rw [HO.out]; rfl, HB.out⟩
      · rw [hi] at HI
        have HO : Hid (opB ⟨1, name, dest, num, text⟩ = emp text) := Lib.hid (by simp [opB, hn, emp_true hd, hi])
        go_enter Tryd.func24, Tryd.ntmps24
        go_wp2_with (first
          | (go_at_call 36; refine (l3Name_any _ _ (by assumption)).mono ?_; (first | rw [hn] | rw [hD]); rintro e w' ⟨rfl, rfl⟩)
          | (go_at_call 37; refine (HI.out _).mono ?_; rintro e w' ⟨rfl, rfl⟩)
          | (go_at_call 38; refine (HT.out _).mono ?_; rintro e w' ⟨rfl, rfl⟩))
        go_ret
        exact ⟨by rw [HO.out]; rfl, HB.out⟩
    · have HO : Hid (opB ⟨1, name, dest, num, text⟩ = false) := Lib.hid (by simp [opB, hn, emp_false hd])
      go_enter Tryd.func24, Tryd.ntmps24
      go_wp2_with (first
        | (go_at_call 36; refine (l3Name_any _ _ (by assumption)).mono ?_; (first | rw [hn] | rw [hD]); rintro e w' ⟨rfl, rfl⟩)
        | (go_at_call 37; refine (HI.out _).mono ?_; rintro e w' ⟨rfl, rfl⟩)
        | (go_at_call 38; refine (HT.out _).mono ?_; rintro e w' ⟨rfl, rfl⟩))
      go_ret
      exact ⟨by rw [HO.out]; rfl, HB.out⟩

set_option maxHeartbeats 1600000 in
theorem opOkS_write (name dest : ByteArray) (num : Int) (text : ByteArray) (w : World) (hf : OpFits ⟨2, name, dest, num, text⟩) :
    Calls Tryd.prog 24 #[(Ov.mk (2) name dest num text).val] w fun e w' => e = .returned (.bool (opB ⟨2, name, dest, num, text⟩)) ∧ Below w.heap.size w w' := by
  have hc := op_cells ⟨2, name, dest, num, text⟩ w
  have c0 := hc 0 (by omega)
  have c1 := hc 1 (by omega)
  have c2 := hc 2 (by omega)
  have c3 := hc 3 (by omega)
  have c4 := hc 4 (by omega)
  simp only [ovc] at c0 c1 c2 c3 c4
  have HB : Hid (Below w.heap.size w (w.alloc (.cells #[.int .i64 (2), .string name, .string dest, .int .i64 num, .string text] 24))) := Lib.hid ((Below.refl w.heap.size w).alloc (Nat.le_refl _) _)
  clear hc
  obtain ⟨f1, f2, f3⟩ := hf
  simp only at f1 f2 f3
  unfold Ov.val
  have HT := Lib.hid (fun W => textOkS_any text W f3)
  cases hn : nameB name.data.toList
  · 
    have HO : Hid (opB ⟨2, name, dest, num, text⟩ = false) := Lib.hid (by simp [opB, hn])
    go_enter Tryd.func24, Tryd.ntmps24
    go_wp2_with (first
      | (go_at_call 36; refine (l3Name_any _ _ (by assumption)).mono ?_; (first | rw [hn] | rw [hD]); rintro e w' ⟨rfl, rfl⟩)
      | (go_at_call 37; refine (HI.out _).mono ?_; rintro e w' ⟨rfl, rfl⟩)
      | (go_at_call 38; refine (HT.out _).mono ?_; rintro e w' ⟨rfl, rfl⟩))
    go_ret
    exact ⟨by rw [HO.out]; rfl, HB.out⟩
  ·
    by_cases hd : dest.toList = []
    · have HI := Lib.hid (fun W => l6In_any num 0 5 W)
      cases hi : (decide (0 ≤ num) && decide (num ≤ 5))
      · rw [hi] at HI
        have HO : Hid (opB ⟨2, name, dest, num, text⟩ = false) := Lib.hid (by simp [opB, hn, emp_true hd, hi])
        go_enter Tryd.func24, Tryd.ntmps24
        go_wp2_with (first
          | (go_at_call 36; refine (l3Name_any _ _ (by assumption)).mono ?_; (first | rw [hn] | rw [hD]); rintro e w' ⟨rfl, rfl⟩)
          | (go_at_call 37; refine (HI.out _).mono ?_; rintro e w' ⟨rfl, rfl⟩)
          | (go_at_call 38; refine (HT.out _).mono ?_; rintro e w' ⟨rfl, rfl⟩))
        go_ret
        exact ⟨by rw [HO.out]; rfl, HB.out⟩
      · rw [hi] at HI
        have HO : Hid (opB ⟨2, name, dest, num, text⟩ = tokB text.data.toList) := Lib.hid (by simp [opB, hn, emp_true hd, hi])
        go_enter Tryd.func24, Tryd.ntmps24
        go_wp2_with (first
          | (go_at_call 36; refine (l3Name_any _ _ (by assumption)).mono ?_; (first | rw [hn] | rw [hD]); rintro e w' ⟨rfl, rfl⟩)
          | (go_at_call 37; refine (HI.out _).mono ?_; rintro e w' ⟨rfl, rfl⟩)
          | (go_at_call 38; refine (HT.out _).mono ?_; rintro e w' ⟨rfl, rfl⟩))
        go_ret
        exact ⟨by rw [HO.out]; rfl, HB.out⟩
    · have HO : Hid (opB ⟨2, name, dest, num, text⟩ = false) := Lib.hid (by simp [opB, hn, emp_false hd])
      go_enter Tryd.func24, Tryd.ntmps24
      go_wp2_with (first
        | (go_at_call 36; refine (l3Name_any _ _ (by assumption)).mono ?_; (first | rw [hn] | rw [hD]); rintro e w' ⟨rfl, rfl⟩)
        | (go_at_call 37; refine (HI.out _).mono ?_; rintro e w' ⟨rfl, rfl⟩)
        | (go_at_call 38; refine (HT.out _).mono ?_; rintro e w' ⟨rfl, rfl⟩))
      go_ret
      exact ⟨by rw [HO.out]; rfl, HB.out⟩

set_option maxHeartbeats 1600000 in
theorem opOkS_clone (name dest : ByteArray) (num : Int) (text : ByteArray) (w : World) (hf : OpFits ⟨3, name, dest, num, text⟩) :
    Calls Tryd.prog 24 #[(Ov.mk (3) name dest num text).val] w fun e w' => e = .returned (.bool (opB ⟨3, name, dest, num, text⟩)) ∧ Below w.heap.size w w' := by
  have hc := op_cells ⟨3, name, dest, num, text⟩ w
  have c0 := hc 0 (by omega)
  have c1 := hc 1 (by omega)
  have c2 := hc 2 (by omega)
  have c3 := hc 3 (by omega)
  have c4 := hc 4 (by omega)
  simp only [ovc] at c0 c1 c2 c3 c4
  have HB : Hid (Below w.heap.size w (w.alloc (.cells #[.int .i64 (3), .string name, .string dest, .int .i64 num, .string text] 24))) := Lib.hid ((Below.refl w.heap.size w).alloc (Nat.le_refl _) _)
  clear hc
  obtain ⟨f1, f2, f3⟩ := hf
  simp only at f1 f2 f3
  unfold Ov.val
  have HT := Lib.hid (fun W => textOkS_any text W f3)
  cases hn : nameB name.data.toList
  · 
    have HO : Hid (opB ⟨3, name, dest, num, text⟩ = false) := Lib.hid (by simp [opB, hn])
    go_enter Tryd.func24, Tryd.ntmps24
    go_wp2_with (first
      | (go_at_call 36; refine (l3Name_any _ _ (by assumption)).mono ?_; (first | rw [hn] | rw [hD]); rintro e w' ⟨rfl, rfl⟩)
      | (go_at_call 37; refine (HI.out _).mono ?_; rintro e w' ⟨rfl, rfl⟩)
      | (go_at_call 38; refine (HT.out _).mono ?_; rintro e w' ⟨rfl, rfl⟩))
    go_ret
    exact ⟨by rw [HO.out]; rfl, HB.out⟩
  ·
    cases hD : nameB dest.data.toList
    · have HO : Hid (opB ⟨3, name, dest, num, text⟩ = false) := Lib.hid (by simp [opB, hn, hD])
      go_enter Tryd.func24, Tryd.ntmps24
      go_wp2_with (first
        | (go_at_call 36; refine (l3Name_any _ _ (by assumption)).mono ?_; (first | rw [hn] | rw [hD]); rintro e w' ⟨rfl, rfl⟩)
        | (go_at_call 37; refine (HI.out _).mono ?_; rintro e w' ⟨rfl, rfl⟩)
        | (go_at_call 38; refine (HT.out _).mono ?_; rintro e w' ⟨rfl, rfl⟩))
      go_ret
      exact ⟨by rw [HO.out]; rfl, HB.out⟩
    · by_cases hz : num = 0
      · subst hz
        have HO : Hid (opB ⟨3, name, dest, 0, text⟩ = emp text) := Lib.hid (by simp [opB, hn, hD])
        go_enter Tryd.func24, Tryd.ntmps24
        go_wp2_with (first
          | (go_at_call 36; refine (l3Name_any _ _ (by assumption)).mono ?_; (first | rw [hn] | rw [hD]); rintro e w' ⟨rfl, rfl⟩)
          | (go_at_call 37; refine (HI.out _).mono ?_; rintro e w' ⟨rfl, rfl⟩)
          | (go_at_call 38; refine (HT.out _).mono ?_; rintro e w' ⟨rfl, rfl⟩))
        go_ret
        exact ⟨by rw [HO.out]; rfl, HB.out⟩
      · have HO : Hid (opB ⟨3, name, dest, num, text⟩ = false) := Lib.hid (by simp [opB, hn, hD, hz])
        go_enter Tryd.func24, Tryd.ntmps24
        go_wp2_with (first
          | (go_at_call 36; refine (l3Name_any _ _ (by assumption)).mono ?_; (first | rw [hn] | rw [hD]); rintro e w' ⟨rfl, rfl⟩)
          | (go_at_call 37; refine (HI.out _).mono ?_; rintro e w' ⟨rfl, rfl⟩)
          | (go_at_call 38; refine (HT.out _).mono ?_; rintro e w' ⟨rfl, rfl⟩))
        go_ret
        exact ⟨by rw [HO.out]; rfl, HB.out⟩

set_option maxHeartbeats 1600000 in
theorem opOkS_gone (name dest : ByteArray) (num : Int) (text : ByteArray) (w : World) (hf : OpFits ⟨4, name, dest, num, text⟩) :
    Calls Tryd.prog 24 #[(Ov.mk (4) name dest num text).val] w fun e w' => e = .returned (.bool (opB ⟨4, name, dest, num, text⟩)) ∧ Below w.heap.size w w' := by
  have hc := op_cells ⟨4, name, dest, num, text⟩ w
  have c0 := hc 0 (by omega)
  have c1 := hc 1 (by omega)
  have c2 := hc 2 (by omega)
  have c3 := hc 3 (by omega)
  have c4 := hc 4 (by omega)
  simp only [ovc] at c0 c1 c2 c3 c4
  have HB : Hid (Below w.heap.size w (w.alloc (.cells #[.int .i64 (4), .string name, .string dest, .int .i64 num, .string text] 24))) := Lib.hid ((Below.refl w.heap.size w).alloc (Nat.le_refl _) _)
  clear hc
  obtain ⟨f1, f2, f3⟩ := hf
  simp only at f1 f2 f3
  unfold Ov.val
  have HT := Lib.hid (fun W => textOkS_any text W f3)
  cases hn : nameB name.data.toList
  · 
    have HO : Hid (opB ⟨4, name, dest, num, text⟩ = false) := Lib.hid (by simp [opB, hn])
    go_enter Tryd.func24, Tryd.ntmps24
    go_wp2_with (first
      | (go_at_call 36; refine (l3Name_any _ _ (by assumption)).mono ?_; (first | rw [hn] | rw [hD]); rintro e w' ⟨rfl, rfl⟩)
      | (go_at_call 37; refine (HI.out _).mono ?_; rintro e w' ⟨rfl, rfl⟩)
      | (go_at_call 38; refine (HT.out _).mono ?_; rintro e w' ⟨rfl, rfl⟩))
    go_ret
    exact ⟨by rw [HO.out]; rfl, HB.out⟩
  ·
    by_cases hd : dest.toList = []
    · by_cases hz : num = 0
      · subst hz
        have HO : Hid (opB ⟨4, name, dest, 0, text⟩ = emp text) := Lib.hid (by simp [opB, hn, emp_true hd])
        go_enter Tryd.func24, Tryd.ntmps24
        go_wp2_with (first
          | (go_at_call 36; refine (l3Name_any _ _ (by assumption)).mono ?_; (first | rw [hn] | rw [hD]); rintro e w' ⟨rfl, rfl⟩)
          | (go_at_call 37; refine (HI.out _).mono ?_; rintro e w' ⟨rfl, rfl⟩)
          | (go_at_call 38; refine (HT.out _).mono ?_; rintro e w' ⟨rfl, rfl⟩))
        go_ret
        exact ⟨by rw [HO.out]; rfl, HB.out⟩
      · have HO : Hid (opB ⟨4, name, dest, num, text⟩ = false) := Lib.hid (by simp [opB, hn, emp_true hd, hz])
        go_enter Tryd.func24, Tryd.ntmps24
        go_wp2_with (first
          | (go_at_call 36; refine (l3Name_any _ _ (by assumption)).mono ?_; (first | rw [hn] | rw [hD]); rintro e w' ⟨rfl, rfl⟩)
          | (go_at_call 37; refine (HI.out _).mono ?_; rintro e w' ⟨rfl, rfl⟩)
          | (go_at_call 38; refine (HT.out _).mono ?_; rintro e w' ⟨rfl, rfl⟩))
        go_ret
        exact ⟨by rw [HO.out]; rfl, HB.out⟩
    · have HO : Hid (opB ⟨4, name, dest, num, text⟩ = false) := Lib.hid (by simp [opB, hn, emp_false hd])
      go_enter Tryd.func24, Tryd.ntmps24
      go_wp2_with (first
        | (go_at_call 36; refine (l3Name_any _ _ (by assumption)).mono ?_; (first | rw [hn] | rw [hD]); rintro e w' ⟨rfl, rfl⟩)
        | (go_at_call 37; refine (HI.out _).mono ?_; rintro e w' ⟨rfl, rfl⟩)
        | (go_at_call 38; refine (HT.out _).mono ?_; rintro e w' ⟨rfl, rfl⟩))
      go_ret
      exact ⟨by rw [HO.out]; rfl, HB.out⟩

set_option maxHeartbeats 1600000 in
theorem opOkS_else (kind : Int) (name dest : ByteArray) (num : Int) (text : ByteArray) (w : World) (hf : OpFits ⟨kind, name, dest, num, text⟩) (h1 : ¬ kind = 1) (h2 : ¬ kind = 2) (h3 : ¬ kind = 3) (h4 : ¬ kind = 4) :
    Calls Tryd.prog 24 #[(Ov.mk (kind) name dest num text).val] w fun e w' => e = .returned (.bool (opB ⟨kind, name, dest, num, text⟩)) ∧ Below w.heap.size w w' := by
  have hc := op_cells ⟨kind, name, dest, num, text⟩ w
  have c0 := hc 0 (by omega)
  have c1 := hc 1 (by omega)
  have c2 := hc 2 (by omega)
  have c3 := hc 3 (by omega)
  have c4 := hc 4 (by omega)
  simp only [ovc] at c0 c1 c2 c3 c4
  have HB : Hid (Below w.heap.size w (w.alloc (.cells #[.int .i64 (kind), .string name, .string dest, .int .i64 num, .string text] 24))) := Lib.hid ((Below.refl w.heap.size w).alloc (Nat.le_refl _) _)
  clear hc
  obtain ⟨f1, f2, f3⟩ := hf
  simp only at f1 f2 f3
  unfold Ov.val
  have HT := Lib.hid (fun W => textOkS_any text W f3)
  cases hn : nameB name.data.toList
  · 
    have HO : Hid (opB ⟨kind, name, dest, num, text⟩ = false) := Lib.hid (by simp [opB, hn])
    go_enter Tryd.func24, Tryd.ntmps24
    go_wp2_with (first
      | (go_at_call 36; refine (l3Name_any _ _ (by assumption)).mono ?_; (first | rw [hn] | rw [hD]); rintro e w' ⟨rfl, rfl⟩)
      | (go_at_call 37; refine (HI.out _).mono ?_; rintro e w' ⟨rfl, rfl⟩)
      | (go_at_call 38; refine (HT.out _).mono ?_; rintro e w' ⟨rfl, rfl⟩))
    go_ret
    exact ⟨by rw [HO.out]; rfl, HB.out⟩
  ·
    have HO : Hid (opB ⟨kind, name, dest, num, text⟩ = false) := Lib.hid (by simp [opB, hn, h1, h2, h3, h4])
    go_enter Tryd.func24, Tryd.ntmps24
    go_wp2_with (first
      | (go_at_call 36; refine (l3Name_any _ _ (by assumption)).mono ?_; (first | rw [hn] | rw [hD]); rintro e w' ⟨rfl, rfl⟩)
      | (go_at_call 37; refine (HI.out _).mono ?_; rintro e w' ⟨rfl, rfl⟩)
      | (go_at_call 38; refine (HT.out _).mono ?_; rintro e w' ⟨rfl, rfl⟩))
    go_ret
    exact ⟨by rw [HO.out]; rfl, HB.out⟩

-- END GEN

theorem opOkS_any (o : Ov) (w : World) (hf : OpFits o) :
    Calls Tryd.prog 24 #[o.val] w fun e w' => e = .returned (.bool (opB o)) ∧ Below w.heap.size w w' := by
  obtain ⟨kind, name, dest, num, text⟩ := o
  by_cases h1 : kind = 1
  · subst h1; exact opOkS_make name dest num text w hf
  by_cases h2 : kind = 2
  · subst h2; exact opOkS_write name dest num text w hf
  by_cases h3 : kind = 3
  · subst h3; exact opOkS_clone name dest num text w hf
  by_cases h4 : kind = 4
  · subst h4; exact opOkS_gone name dest num text w hf
  exact opOkS_else kind name dest num text w hf h1 h2 h3 h4

end Go.Proofs.YtplicodloanljaaDoor
