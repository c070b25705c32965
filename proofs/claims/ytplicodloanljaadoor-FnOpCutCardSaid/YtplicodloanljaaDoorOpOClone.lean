/- The program's operationOf at a change of one kind. -/
import Derived.Test.YtplicodloanljaaDoorOpI
namespace Go.Proofs.YtplicodloanljaaDoor
open Go.RowKit
set_option linter.unusedVariables false
set_option maxRecDepth 100000

set_option maxHeartbeats 3200000 in
theorem operationOf_clone (name dest : ByteArray) (num : Int) (text : ByteArray) (w : World) (ht : text.size ≤ maxLen) :
    Calls Tryd.prog 22 #[(Ov.mk 3 name dest num text).val] w fun e w' =>
      e = .returned (opR (opB ⟨3, name, dest, num, text⟩) (clV name dest)) ∧ Below w.heap.size w w' := by
  have hc := op_cells ⟨3, name, dest, num, text⟩ w
  have c0 := hc 0 (by omega)
  have c1 := hc 1 (by omega)
  have c2 := hc 2 (by omega)
  have c3 := hc 3 (by omega)
  have c4 := hc 4 (by omega)
  simp only [ovc] at c0 c1 c2 c3 c4
  clear hc
  have hb0 := new_below w (.cells #[.int .i64 3, .string name, .string dest, .int .i64 num, .string text] 24)
  have HBX : Hid (OpBox w ⟨3, name, dest, num, text⟩ (w.alloc (.cells #[.int .i64 3, .string name, .string dest, .int .i64 num, .string text] 24))) := Lib.hid (OpBox.new w ⟨3, name, dest, num, text⟩)
  have HM := meth_clone (.agg #[.string name, .string dest])
  unfold Ov.val
  cases hk : (nameB name.data.toList && nameB dest.data.toList)
  · have HO := Lib.hid (opB_clone_not name dest num text hk)
    have HI : Hid (∀ W, Calls Tryd.prog 106 #[.agg #[.string name, .string dest]] W fun e w' => e = .returned (.bool false) ∧ Below W.heap.size W w') := Lib.hid (fun W => by have := cloneOk_any name dest W; rwa [hk] at this)
    clear hk
    have HB := Lib.hid hb0
    clear hb0
    go_enter Tryd.func22, Tryd.ntmps22
    go_wp2_with fail
    refine wp_region_any (by kernel_rfl) ?_
    try (change wpAny _ _ _ _ _ _ _ (World.drew _))
    refine wpAny_take (i := 0) (v := ?_) rfl (by kernel_rfl) (by kernel_rfl) (by kernel_rfl) (fun _ _ _ h => h) (Or.inl ⟨by rfl, ?_⟩) ?_
    rotate_left
    · intro w; go_simp; try with_reducible rfl
    refine wpAny_ready (rs := [1]) (by kernel_rfl) (by simp) ?_
    refine AllReady.cons rfl (fun K hK => ?_) AllReady.nil
    go_simp
    go_wp2_with (go_at_call 106; refine (HI.out _).mono ?_; rintro e w3 ⟨rfl, hb3⟩; have HB3 := Lib.hid (HBX.out.drew.later hb3).below; clear hb3)
    refine wpAny_take (i := 2) (v := ?_) rfl (by kernel_rfl) (by kernel_rfl) (by kernel_rfl) (fun _ _ _ h => h) (Or.inl ⟨by rfl, ?_⟩) ?_
    rotate_left
    · intro w; go_simp; try with_reducible rfl
    refine wpAny_take (i := 3) (v := ?_) rfl (by kernel_rfl) (by kernel_rfl) (by kernel_rfl) (fun _ _ _ h => h) (Or.inl ⟨by rfl, ?_⟩) ?_
    rotate_left
    · intro w; go_simp; try with_reducible rfl
    refine wpAny_take (i := 4) (v := undef) rfl (by kernel_rfl) (by kernel_rfl) (by kernel_rfl) (fun _ _ _ h => h) (Or.inr ⟨by rfl, rfl⟩) ?_
    refine wpAny_take (i := 5) (v := undef) rfl (by kernel_rfl) (by kernel_rfl) (by kernel_rfl) (fun _ _ _ h => h) (Or.inr ⟨by rfl, rfl⟩) ?_
    refine wpAny_take (i := 6) (v := undef) rfl (by kernel_rfl) (by kernel_rfl) (by kernel_rfl) (fun _ _ _ h => h) (Or.inr ⟨by rfl, rfl⟩) ?_
    refine wpAny_take (i := 7) (v := undef) rfl (by kernel_rfl) (by kernel_rfl) (by kernel_rfl) (fun _ _ _ h => h) (Or.inr ⟨by rfl, rfl⟩) ?_
    refine wpAny_take (i := 8) (v := ?_) rfl (by kernel_rfl) (by kernel_rfl) (by kernel_rfl) (fun _ _ _ h => h) (Or.inl ⟨by rfl, ?_⟩) ?_
    rotate_left
    · intro w; go_simp; try with_reducible rfl
    refine wpAny_done (by kernel_rfl) ?_ _
    go_wp2_with fail
    go_ret2
    rw [HO.out]
    exact ⟨rfl, HB3.out⟩
  · have HS := Lib.hid (opB_clone_same name dest num text hk)
    have HI : Hid (∀ W, Calls Tryd.prog 106 #[.agg #[.string name, .string dest]] W fun e w' => e = .returned (.bool true) ∧ Below W.heap.size W w') := Lib.hid (fun W => by have := cloneOk_any name dest W; rwa [hk] at this)
    have HF := Lib.hid (fun W => opOf_clone name dest W)
    clear hk
    have HN := neq_op (Ov.mk 3 name dest 0 ⟨#[]⟩) ⟨3, name, dest, num, text⟩
    unfold Ov.val at HN HF
    generalize sameO (Ov.mk 3 name dest 0 ⟨#[]⟩) ⟨3, name, dest, num, text⟩ = b at HN HS
    go_enter Tryd.func22, Tryd.ntmps22
    go_wp2_with fail
    clear c0 c1 c2 c3 c4 hb0
    generalize w.alloc (.cells #[.int .i64 3, .string name, .string dest, .int .i64 num, .string text] 24) = w2 at HBX ⊢
    have HKS := Lib.hid (fun W (hb : Below w2.heap.size w2 W) => (⟨(HBX.out.later hb).five, hb⟩ : (w.heap.size < W.heap.size ∧ W.cell? ⟨w.heap.size, 0, none⟩ = some (.int .i64 3) ∧ W.cell? ⟨w.heap.size, 1, none⟩ = some (.string name) ∧ W.cell? ⟨w.heap.size, 2, none⟩ = some (.string dest) ∧ W.cell? ⟨w.heap.size, 3, none⟩ = some (.int .i64 num) ∧ W.cell? ⟨w.heap.size, 4, none⟩ = some (.string text)) ∧ Below w2.heap.size w2 W))
    have hbr : Below w2.heap.size w2 w2 := Below.refl _ _
    go_region_held3 (fun W => (w.heap.size < W.heap.size ∧ W.cell? ⟨w.heap.size, 0, none⟩ = some (.int .i64 3) ∧ W.cell? ⟨w.heap.size, 1, none⟩ = some (.string name) ∧ W.cell? ⟨w.heap.size, 2, none⟩ = some (.string dest) ∧ W.cell? ⟨w.heap.size, 3, none⟩ = some (.int .i64 num) ∧ W.cell? ⟨w.heap.size, 4, none⟩ = some (.string text)) ∧ Below w2.heap.size w2 W) (first | (go_split_ands; first | exact HKS.out _ (by assumption) | exact HKS.out _ (below_drew (by assumption))))
      (first
        | (go_split_ands; go_at_call 106; refine (HI.out _).mono ?_; rintro e w3 ⟨rfl, hb⟩; have hb7 := bnext (by assumption : Below w2.heap.size w2 _) hb; clear hb)
        | (go_split_ands; go_at_call 28; refine (HF.out _).mono ?_; rintro e w3 ⟨rfl, hb⟩; have hb7 := bnext (by assumption : Below w2.heap.size w2 _) hb; clear hb))
    have hB : Below w.heap.size w _ := (HBX.out.later (by go_split_ands; assumption)).below
    cases b
    all_goals (
      go_wp2_with fail
      go_ret2
      rw [← HS.out]
      exact ⟨rfl, hB⟩)

end Go.Proofs.YtplicodloanljaaDoor
