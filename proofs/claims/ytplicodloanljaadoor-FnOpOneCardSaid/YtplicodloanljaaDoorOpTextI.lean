/- The program's OpText. -/
import Derived.Test.YtplicodloanljaaDoorOpOk
import Derived.Test.YtplicodloanljaaDoorShelf
import Derived.Deep.RegionWith
namespace Go.Proofs.YtplicodloanljaaDoor
open Go.RowKit
set_option linter.unusedVariables false
set_option maxRecDepth 100000

theorem dec_small (n : Int) (h0 : 0 ≤ n) (h9 : n ≤ 9) : (⟨(Lib.decDigits n.toNat).toArray⟩ : ByteArray) = decB n := by
  obtain rfl | rfl | rfl | rfl | rfl | rfl | rfl | rfl | rfl | rfl : n = 0 ∨ n = 1 ∨ n = 2 ∨ n = 3 ∨ n = 4 ∨ n = 5 ∨ n = 6 ∨ n = 7 ∨ n = 8 ∨ n = 9 := by omega
  all_goals (rw [Lib.decDigits]; rfl)

theorem itoa_small (n : Int) (h0 : 0 ≤ n) (h9 : n ≤ 9) (w : World) :
    Calls Tryd.prog 35 #[.int .i64 n] w fun e w' => e = .returned (.string (decB n)) ∧ w' = w := by
  have h := Tryd.strconv_Itoa_small n.toNat (by omega) w
  rw [dec_small n h0 h9] at h
  have e : ((n.toNat : Nat) : Int) = n := by omega
  rwa [e] at h

set_option maxHeartbeats 1600000 in
theorem textOf_make (name : ByteArray) (num : Int) (w : World) (hB : opB ⟨1, name, ⟨#[]⟩, num, ⟨#[]⟩⟩ = true) :
    Calls Tryd.prog 23 #[mkV name num] w fun e w' => e = .returned (.string (opT ⟨1, name, ⟨#[]⟩, num, ⟨#[]⟩⟩)) ∧ Below w.heap.size w w' := by
  obtain ⟨c0, c1⟩ := two_cells w (.string name) (.int .i64 num) 64
  have HB := Lib.hid (new_below w (.cells #[.string name, .int .i64 num] 64))
  obtain ⟨hn, hp⟩ := opB_parts hB
  simp at hn hp
  unfold mkV
  have A0 := as_make_make (.agg #[.string name, .int .i64 num])
  have HO : Hid (opT ⟨1, name, ⟨#[]⟩, num, ⟨#[]⟩⟩ = ⟨#[109, 97, 107, 101, 32]⟩ ++ name ++ ⟨#[32]⟩ ++ decB num) := Lib.hid (by simp [opT, hB])
  have HD := Lib.hid (fun W => itoa_small num (by omega) (by omega) W)
  have hds : (decB num).size = 1 := rfl
  clear hB hp
  go_enter Tryd.func23, Tryd.ntmps23
  go_wp2_with fail
  go_region_with (go_at_call 35; refine (HD.out _).mono ?_; rintro e w3 ⟨rfl, rfl⟩)
  all_goals (
    go_wp2_with fail
    go_ret
    exact ⟨by rw [HO.out]; rfl, below_drew HB.out⟩)

set_option maxHeartbeats 1600000 in
theorem textOf_write (name : ByteArray) (num : Int) (text : ByteArray) (w : World) (hB : opB ⟨2, name, ⟨#[]⟩, num, text⟩ = true) :
    Calls Tryd.prog 23 #[wrV name num text] w fun e w' => e = .returned (.string (opT ⟨2, name, ⟨#[]⟩, num, text⟩)) ∧ Below w.heap.size w w' := by
  obtain ⟨c0, c1, c2⟩ := three_cells w (.string name) (.int .i64 num) (.string text) 66
  have HB := Lib.hid (new_below w (.cells #[.string name, .int .i64 num, .string text] 66))
  obtain ⟨hn, hp⟩ := opB_parts hB
  simp at hn hp
  unfold wrV
  have A0 := as_write_make (.agg #[.string name, .int .i64 num, .string text])
  have A1 := as_write_write (.agg #[.string name, .int .i64 num, .string text])
  have hq : opT ⟨2, name, ⟨#[]⟩, num, text⟩ = (if emp text = true then ⟨#[102, 114, 101, 101, 32]⟩ ++ (name ++ ⟨#[32]⟩ ++ decB num) else ⟨#[119, 114, 105, 116, 101, 32]⟩ ++ (name ++ ⟨#[32]⟩ ++ decB num) ++ ⟨#[32]⟩ ++ text) := by simp [opT, hB, ByteArray.append_assoc]
  have HD := Lib.hid (fun W => itoa_small num (by omega) (by omega) W)
  have hds : (decB num).size = 1 := rfl
  clear hB
  cases he : text.toList.isEmpty
  · have HO := Lib.hid (hq.trans (if_neg (by unfold emp; rw [he]; exact Bool.false_ne_true)))
    clear hq
    go_enter Tryd.func23, Tryd.ntmps23
    go_wp2_with fail
    go_region_with (go_at_call 35; refine (HD.out _).mono ?_; rintro e w3 ⟨rfl, rfl⟩)
    all_goals (
      go_wp2_with fail
      go_ret
      exact ⟨by rw [HO.out]; rfl, below_drew HB.out⟩)
  · have HO := Lib.hid (hq.trans (if_pos (show emp text = true from he)))
    clear hq
    go_enter Tryd.func23, Tryd.ntmps23
    go_wp2_with fail
    go_region_with (go_at_call 35; refine (HD.out _).mono ?_; rintro e w3 ⟨rfl, rfl⟩)
    all_goals (
      go_wp2_with fail
      go_ret
      exact ⟨by rw [HO.out]; rfl, below_drew HB.out⟩)

set_option maxHeartbeats 1600000 in
theorem textOf_clone (name dest : ByteArray) (w : World) (hB : opB ⟨3, name, dest, 0, ⟨#[]⟩⟩ = true) :
    Calls Tryd.prog 23 #[clV name dest] w fun e w' => e = .returned (.string (opT ⟨3, name, dest, 0, ⟨#[]⟩⟩)) ∧ Below w.heap.size w w' := by
  obtain ⟨c0, c1⟩ := two_cells w (.string name) (.string dest) 68
  have HB := Lib.hid (new_below w (.cells #[.string name, .string dest] 68))
  obtain ⟨hn, hp⟩ := opB_parts hB
  simp at hn hp
  unfold clV
  have A0 := as_clone_make (.agg #[.string name, .string dest])
  have A1 := as_clone_write (.agg #[.string name, .string dest])
  have A2 := as_clone_clone (.agg #[.string name, .string dest])
  have HO : Hid (opT ⟨3, name, dest, 0, ⟨#[]⟩⟩ = ⟨#[99, 108, 111, 110, 101, 32]⟩ ++ name ++ ⟨#[32]⟩ ++ dest) := Lib.hid (by simp [opT, hB])
  clear hB
  go_enter Tryd.func23, Tryd.ntmps23
  go_wp2_with fail
  go_ret
  exact ⟨by rw [HO.out]; rfl, HB.out⟩

set_option maxHeartbeats 1600000 in
theorem textOf_gone (name : ByteArray) (w : World) (hB : opB ⟨4, name, ⟨#[]⟩, 0, ⟨#[]⟩⟩ = true) :
    Calls Tryd.prog 23 #[goV name] w fun e w' => e = .returned (.string (opT ⟨4, name, ⟨#[]⟩, 0, ⟨#[]⟩⟩)) ∧ Below w.heap.size w w' := by
  obtain c0 := one_cell w (.string name) 70
  have HB := Lib.hid (new_below w (.cells #[.string name] 70))
  obtain ⟨hn, hp⟩ := opB_parts hB
  simp at hn hp
  unfold goV
  have A0 := as_gone_make (.agg #[.string name])
  have A1 := as_gone_write (.agg #[.string name])
  have A2 := as_gone_clone (.agg #[.string name])
  have A3 := as_gone_gone (.agg #[.string name])
  have HO : Hid (opT ⟨4, name, ⟨#[]⟩, 0, ⟨#[]⟩⟩ = ⟨#[103, 111, 110, 101, 32]⟩ ++ name) := Lib.hid (by simp [opT, hB])
  clear hB
  go_enter Tryd.func23, Tryd.ntmps23
  go_wp2_with fail
  go_ret
  exact ⟨by rw [HO.out]; rfl, HB.out⟩

theorem emp_nil {s : ByteArray} (h : emp s = true) : s = ⟨#[]⟩ := (emp_iff s).1 h

theorem textOf_any (o : Ov) (w : World) (hB : opB o = true) :
    Calls Tryd.prog 23 #[opV o] w fun e w' => e = .returned (.string (opT o)) ∧ Below w.heap.size w w' := by
  obtain ⟨kind, name, dest, num, text⟩ := o
  have h := hB
  unfold opB at h
  simp only [Bool.and_eq_true] at h
  obtain ⟨_, h⟩ := h
  by_cases h1 : kind = 1
  · subst h1
    simp at h
    obtain ⟨⟨hd, _⟩, ht⟩ := h
    obtain rfl := emp_nil hd
    obtain rfl := emp_nil ht
    exact textOf_make name num w hB
  by_cases h2 : kind = 2
  · subst h2
    simp at h
    obtain ⟨⟨hd, _⟩, _⟩ := h
    obtain rfl := emp_nil hd
    exact textOf_write name num text w hB
  by_cases h3 : kind = 3
  · subst h3
    simp at h
    obtain ⟨⟨_, rfl⟩, ht⟩ := h
    obtain rfl := emp_nil ht
    exact textOf_clone name dest w hB
  by_cases h4 : kind = 4
  · subst h4
    simp at h
    obtain ⟨⟨hd, rfl⟩, ht⟩ := h
    obtain rfl := emp_nil hd
    obtain rfl := emp_nil ht
    exact textOf_gone name w hB
  · simp [h1, h2, h3, h4] at h

theorem opText_any (o : Ov) (w : World) (ht : OpFits o) :
    Calls Tryd.prog 10 #[o.val] w fun e w' => e = .returned (.string (opT o)) ∧ Below w.heap.size w w' := by
  have HC := Lib.hid (fun W => operationOf_any o W ht)
  unfold Ov.val opR at HC
  unfold Ov.val
  cases hB : opB o
  · rw [hB] at HC
    have HO : Hid (opT o = ⟨#[]⟩) := Lib.hid (by simp [opT, hB])
    clear hB
    go_enter Tryd.func10, Tryd.ntmps10
    go_wp2_with (go_at_call 22; refine (HC.out _).mono ?_; rintro e w2 ⟨rfl, hb2⟩; have HB2 := Lib.hid hb2; clear hb2)
    go_ret
    exact ⟨by rw [HO.out]; rfl, (new_below w _).trans (HB2.out.mono (by rw [World.size_alloc]; exact Nat.le_succ _))⟩
  · rw [hB] at HC
    have HT := Lib.hid (fun W => textOf_any o W hB)
    clear hB
    simp only [if_true] at HC
    go_enter Tryd.func10, Tryd.ntmps10
    go_wp2_with (first
      | (go_at_call 22; refine (HC.out _).mono ?_; rintro e w2 ⟨rfl, hb2⟩; have HB2 := Lib.hid ((new_below w _).trans (hb2.mono (by rw [World.size_alloc]; exact Nat.le_succ _))); clear hb2)
      | (go_at_call 23; refine (HT.out _).mono ?_; rintro e w3 ⟨rfl, hb3⟩; have HB3 := Lib.hid (bnext HB2.out hb3); clear hb3))
    go_ret
    exact ⟨rfl, HB3.out⟩

end Go.Proofs.YtplicodloanljaaDoor
