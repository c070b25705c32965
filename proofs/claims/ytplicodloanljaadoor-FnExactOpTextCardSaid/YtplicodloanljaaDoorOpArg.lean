/- The laws' helpers on changes: toOp, szOp. -/
import Derived.Test.YtplicodloanljaaDoorOpRead
import Derived.ChangeArms
import Derived.ChangeSame
namespace Go.Proofs.YtplicodloanljaaDoor
open Go.RowKit
set_option linter.unusedVariables false
set_option maxRecDepth 100000

def szF (o : Ov) (left : Int) : Int :=
  if left - o.name.size < 0 then -1 else if left - o.name.size - o.dest.size < 0 then -1 else if left - o.name.size - o.dest.size - o.text.size < 0 then -1 else left - o.name.size - o.dest.size - o.text.size

set_option maxHeartbeats 1600000 in
theorem toOp_any (o : Ov) (w : World) :
    Calls Tryd.prog 18 #[o.val] w fun e w' => e = .returned o.val ∧ Below w.heap.size w w' := by
  obtain ⟨kind, name, dest, num, text⟩ := o
  unfold Ov.val
  go_enter Tryd.func18, Tryd.ntmps18
  go_wp2_with fail
  have q : ∀ i, i < 5 → (((w.alloc (.cells #[.int .i64 kind, .string name, .string dest, .int .i64 num, .string text] 33)).alloc (.cells #[.int .i64 kind, .string name, .string dest, .int .i64 num, .string text] 24)).alloc (.cells #[.int .i64 kind, .string name, .string dest, .int .i64 num, .string text] 24)).cell? ⟨w.heap.size + 1, i, none⟩ = some (ovc ⟨kind, name, dest, num, text⟩ i) := fun i hi => by
    refine (old_cells _ _ (w.heap.size + 1) i (by simp)).1.trans ?_
    have h := op_cells ⟨kind, name, dest, num, text⟩ (w.alloc (.cells #[.int .i64 kind, .string name, .string dest, .int .i64 num, .string text] 33)) i hi
    rwa [World.size_alloc] at h
  have r0 := q 0 (by omega)
  have r1 := q 1 (by omega)
  have r2 := q 2 (by omega)
  have r3 := q 3 (by omega)
  have r4 := q 4 (by omega)
  simp only [ovc] at r0 r1 r2 r3 r4
  refine bodyPost_ret (v := (Ov.mk kind name dest num text).val) (by simp [results, Tryd.f18, go_sem, Ov.val, r0, r1, r2, r3, r4]) rfl ⟨rfl, ((((Below.refl _ _).alloc (Nat.le_refl _) _).alloc (by simp) _).alloc (by simp; omega) _)⟩

set_option maxHeartbeats 1600000 in
theorem szOp_any (o : Ov) (left : Int) (w : World) (h0 : 0 ≤ left) (h1 : left ≤ 1048576) (hf : OpFits o) :
    Calls Tryd.prog 17 #[o.val, .int .i64 left] w fun e w' => e = .returned (.int .i64 (szF o left)) ∧ Below w.heap.size w w' := by
  obtain ⟨kind, name, dest, num, text⟩ := o
  obtain ⟨f1, f2, f3⟩ := hf
  simp only [maxLen] at f1 f2 f3
  have n0 := new_cells w #[.int .i64 kind, .string name, .string dest, .int .i64 num, .string text] 33
  have c1 := n0.1 1
  have c2 := n0.1 2
  have c4 := n0.1 4
  clear n0
  unfold Ov.val
  by_cases q1 : left - name.size < 0
  · have HO : Hid (szF ⟨kind, name, dest, num, text⟩ left = -1) := Lib.hid (by unfold szF; rw [if_pos q1])
    go_enter Tryd.func17, Tryd.ntmps17
    go_wp2_with fail
    go_ret
    exact ⟨by rw [HO.out]; rfl, (Below.refl _ _).alloc (Nat.le_refl _) _⟩
  by_cases q2 : left - name.size - dest.size < 0
  · have HO : Hid (szF ⟨kind, name, dest, num, text⟩ left = -1) := Lib.hid (by unfold szF; rw [if_neg q1, if_pos q2])
    go_enter Tryd.func17, Tryd.ntmps17
    go_wp2_with fail
    go_ret
    exact ⟨by rw [HO.out]; rfl, (Below.refl _ _).alloc (Nat.le_refl _) _⟩
  by_cases q3 : left - name.size - dest.size - text.size < 0
  · have HO : Hid (szF ⟨kind, name, dest, num, text⟩ left = -1) := Lib.hid (by unfold szF; rw [if_neg q1, if_neg q2, if_pos q3])
    go_enter Tryd.func17, Tryd.ntmps17
    go_wp2_with fail
    go_ret
    exact ⟨by rw [HO.out]; rfl, (Below.refl _ _).alloc (Nat.le_refl _) _⟩
  · have HO : Hid (szF ⟨kind, name, dest, num, text⟩ left = left - name.size - dest.size - text.size) := Lib.hid (by unfold szF; rw [if_neg q1, if_neg q2, if_neg q3])
    go_enter Tryd.func17, Tryd.ntmps17
    go_wp2_with fail
    go_ret
    exact ⟨by rw [HO.out]; rfl, (Below.refl _ _).alloc (Nat.le_refl _) _⟩

/-- A change that came in, in the law's box, and whatever has come since. -/
structure BoxL (w : World) (o : Ov) (W : World) : Prop where
  lt : w.heap.size < W.heap.size
  op : ∀ i, i < 5 → W.cell? ⟨w.heap.size, i, none⟩ = some (ovc o i)
  bel : Below w.heap.size w W

theorem boxL (w : World) (o : Ov) : BoxL w o (w.alloc (.cells #[.int .i64 o.kind, .string o.name, .string o.dest, .int .i64 o.num, .string o.text] 33)) := by
  have h := (new_cells w #[.int .i64 o.kind, .string o.name, .string o.dest, .int .i64 o.num, .string o.text] 33).1
  refine ⟨by rw [World.size_alloc]; exact Nat.lt_succ_self _, fun i hi => ?_, (Below.refl w.heap.size w).alloc (Nat.le_refl _) _⟩
  rw [h i]
  obtain rfl | rfl | rfl | rfl | rfl : i = 0 ∨ i = 1 ∨ i = 2 ∨ i = 3 ∨ i = 4 := by omega
  all_goals rfl

theorem BoxL.later {w W W' : World} {o : Ov} (h : BoxL w o W) (hb : Below W.heap.size W W') : BoxL w o W' :=
  ⟨Nat.lt_of_lt_of_le h.lt hb.size, fun i hi => (hb.cell (p := ⟨w.heap.size, i, none⟩) h.lt).trans (h.op i hi), h.bel.trans (hb.mono h.bel.size)⟩

theorem BoxL.all {w W : World} {o : Ov} (h : BoxL w o W) : w.heap.size < W.heap.size ∧ W.cell? ⟨w.heap.size, 0, none⟩ = some (.int .i64 o.kind) ∧ W.cell? ⟨w.heap.size, 1, none⟩ = some (.string o.name) ∧ W.cell? ⟨w.heap.size, 2, none⟩ = some (.string o.dest) ∧ W.cell? ⟨w.heap.size, 3, none⟩ = some (.int .i64 o.num) ∧ W.cell? ⟨w.heap.size, 4, none⟩ = some (.string o.text) :=
  ⟨h.lt, h.op 0 (by omega), h.op 1 (by omega), h.op 2 (by omega), h.op 3 (by omega), h.op 4 (by omega)⟩

/-- An argument laws.Op by value. -/
theorem open_op {H : Type} {enc : TypeId × Value → H} {w : World} {base : Nat} {spare : Nat → Bool} {held : Bool} {fuel : Nat} {cs : Array Value} {x : DataW H × List MemPlace} (hs : cs.size = 5)
    (h : DataW.trod enc Tryd.prog w base spare held fuel 33 cs.toList = some x) :
    ∃ k nm dt n tx, cs = #[.int .i64 k, .string nm, .string dt, .int .i64 n, .string tx] ∧ OpFits ⟨k, nm, dt, n, tx⟩ := by
  obtain ⟨xs, m, _, _, _, hlen, hf⟩ := DataW.trod_struct Tryd.underlying33 h
  match cs, hs, xs, hlen with
  | ⟨[c0, c1, c2, c3, c4]⟩, _, [y0, y1, y2, y3, y4], _ =>
    have ce : Tryd.prog.cellsOf 9 = 1 := by kernel_rfl
    have ci : Tryd.prog.cellsOf 3 = 1 := by kernel_rfl
    have h0 := hf 0 _ rfl
    have h1 := hf 1 _ rfl
    have h2 := hf 2 _ rfl
    have h3 := hf 3 _ rfl
    have h4 := hf 4 _ rfl
    simp only [ci, List.getElem_toArray, List.getElem_cons_zero, List.drop_zero, List.take_succ_cons, List.take_zero] at h0
    simp only [ce, List.getElem_toArray, List.getElem_cons_zero, List.getElem_cons_succ, List.drop_zero, List.drop_succ_cons, List.take_succ_cons, List.take_zero] at h1
    simp only [ce, List.getElem_toArray, List.getElem_cons_zero, List.getElem_cons_succ, List.drop_zero, List.drop_succ_cons, List.take_succ_cons, List.take_zero] at h2
    simp only [ci, List.getElem_toArray, List.getElem_cons_zero, List.getElem_cons_succ, List.drop_zero, List.drop_succ_cons, List.take_succ_cons, List.take_zero] at h3
    simp only [ce, List.getElem_toArray, List.getElem_cons_zero, List.getElem_cons_succ, List.drop_zero, List.drop_succ_cons, List.take_succ_cons, List.take_zero] at h4
    obtain ⟨k, hk, _⟩ := DataW.trod_int Tryd.underlying3 h0
    obtain ⟨nm, hnm, _, fnm⟩ := DataW.trod_string Tryd.underlying9 h1
    obtain ⟨dt, hdt, _, fdt⟩ := DataW.trod_string Tryd.underlying9 h2
    obtain ⟨n, hn, _⟩ := DataW.trod_int Tryd.underlying3 h3
    obtain ⟨tx, htx, _, ftx⟩ := DataW.trod_string Tryd.underlying9 h4
    simp at hk hnm hdt hn htx
    subst hk hnm hdt hn htx
    exact ⟨k, nm, dt, n, tx, rfl, fnm, fdt, ftx⟩

end Go.Proofs.YtplicodloanljaaDoor
