/- The program's OpOk: an operation of each kind. The program's operationOf and OpOk. -/
import Derived.Test.YtplicodloanljaaDoorOp
import Derived.Test.YtplicodloanljaaDoorOpText
import Derived.Deep.RegionHeld3
namespace Go.Proofs.YtplicodloanljaaDoor
open Go.RowKit
set_option linter.unusedVariables false
set_option maxRecDepth 100000

theorem nameB_four' (s : ByteArray) (q1 : (s.toList == [65]) = false) (q2 : (s.toList == [66]) = false) (q3 : (s.toList == [67]) = false) (q4 : (s.toList == [68]) = false) : nameB s.data.toList = false := by
  rw [ByteArray.toList_eq] at q1 q2 q3 q4
  cases hn : nameB s.data.toList with
  | false => rfl
  | true =>
    have h1 := nameB_size s hn
    rw [nameB_one s h1] at hn
    have hl : s.data.toList = [s[0]'(by omega)] := by
      apply List.ext_getElem
      · show s.data.toList.length = 1
        have : s.data.size = s.size := rfl
        simp; omega
      · intro i h2 h3
        have : i = 0 := by simp at h3; omega
        subst this
        rfl
    rw [hl] at q1 q2 q3 q4
    have e : ∀ d : UInt8, ([s[0]'(by omega)] == [d]) = false → (s[0]'(by omega)).toNat ≠ d.toNat := by
      intro d hd he
      have : s[0]'(by omega) = d := UInt8.toNat_inj.1 he
      rw [this] at hd
      simp at hd
    have e1 := e _ q1
    have e2 := e _ q2
    have e3 := e _ q3
    have e4 := e _ q4
    simp at hn e1 e2 e3 e4
    omega

theorem nameB_hit' (s : ByteArray) (d : UInt8) (h : (s.toList == [d]) = true) (hd : nameB [d] = true) : nameB s.data.toList = true := by
  rw [ByteArray.toList_eq] at h
  have : s.data.toList = [d] := by simpa using h
  rw [this]; exact hd

set_option maxHeartbeats 1000000 in
theorem volNameOk_any (s : ByteArray) (w : World) :
    Calls Tryd.prog 101 #[.string s] w fun e w' => e = .returned (.bool (nameB s.data.toList)) ∧ w' = w := by
  cases q1 : (s.toList == [65])
  · cases q2 : (s.toList == [66])
    · cases q3 : (s.toList == [67])
      · cases q4 : (s.toList == [68])
        · have HN := Lib.hid (nameB_four' s q1 q2 q3 q4)
          go_enter Tryd.func101, Tryd.ntmps101
          go_wp2
          go_ret
          exact ⟨by rw [HN.out]; rfl, rfl⟩
        · have HN := Lib.hid (nameB_hit' s 68 q4 rfl)
          go_enter Tryd.func101, Tryd.ntmps101
          go_wp2
          go_ret
          exact ⟨by rw [HN.out]; rfl, rfl⟩
      · have HN := Lib.hid (nameB_hit' s 67 q3 rfl)
        go_enter Tryd.func101, Tryd.ntmps101
        go_wp2
        go_ret
        exact ⟨by rw [HN.out]; rfl, rfl⟩
    · have HN := Lib.hid (nameB_hit' s 66 q2 rfl)
      go_enter Tryd.func101, Tryd.ntmps101
      go_wp2
      go_ret
      exact ⟨by rw [HN.out]; rfl, rfl⟩
  · have HN := Lib.hid (nameB_hit' s 65 q1 rfl)
    go_enter Tryd.func101, Tryd.ntmps101
    go_wp2
    go_ret
    exact ⟨by rw [HN.out]; rfl, rfl⟩

theorem two_cells (w : World) (a b : Value) (t : TypeId) : (w.alloc (.cells #[a, b] t)).cell? ⟨w.heap.size, 0, none⟩ = some a ∧ (w.alloc (.cells #[a, b] t)).cell? ⟨w.heap.size, 1, none⟩ = some b := by
  have h := (new_cells w #[a, b] t).1
  exact ⟨by rw [h 0]; rfl, by rw [h 1]; rfl⟩

theorem three_cells (w : World) (a b c : Value) (t : TypeId) : (w.alloc (.cells #[a, b, c] t)).cell? ⟨w.heap.size, 0, none⟩ = some a ∧ (w.alloc (.cells #[a, b, c] t)).cell? ⟨w.heap.size, 1, none⟩ = some b ∧ (w.alloc (.cells #[a, b, c] t)).cell? ⟨w.heap.size, 2, none⟩ = some c := by
  have h := (new_cells w #[a, b, c] t).1
  exact ⟨by rw [h 0]; rfl, by rw [h 1]; rfl, by rw [h 2]; rfl⟩

theorem one_cell (w : World) (a : Value) (t : TypeId) : (w.alloc (.cells #[a] t)).cell? ⟨w.heap.size, 0, none⟩ = some a := by
  have h := (new_cells w #[a] t).1
  rw [h 0]; rfl

theorem new_below (w : World) (o : Obj) : Below w.heap.size w (w.alloc o) := (Below.refl w.heap.size w).alloc (Nat.le_refl _) o

set_option maxHeartbeats 1600000 in
theorem makeOk_any (name : ByteArray) (num : Int) (w : World) :
    Calls Tryd.prog 100 #[.agg #[.string name, .int .i64 num]] w fun e w' => e = .returned (.bool (nameB name.data.toList && (decide (1 ≤ num) && decide (num ≤ 6)))) ∧ Below w.heap.size w w' := by
  obtain ⟨c0, c1⟩ := two_cells w (.string name) (.int .i64 num) 64
  have HB := Lib.hid (new_below w (.cells #[.string name, .int .i64 num] 64))
  cases hn : nameB name.data.toList
  · go_enter Tryd.func100, Tryd.ntmps100
    go_wp2_with (go_at_call 101; refine (volNameOk_any _ _).mono ?_; rw [hn]; rintro e w' ⟨rfl, rfl⟩)
    go_ret
    exact ⟨rfl, HB.out⟩
  · by_cases h1 : 1 ≤ num
    · go_enter Tryd.func100, Tryd.ntmps100
      go_wp2_with (go_at_call 101; refine (volNameOk_any _ _).mono ?_; rw [hn]; rintro e w' ⟨rfl, rfl⟩)
      go_ret
      exact ⟨by simp [h1], HB.out⟩
    · go_enter Tryd.func100, Tryd.ntmps100
      go_wp2_with (go_at_call 101; refine (volNameOk_any _ _).mono ?_; rw [hn]; rintro e w' ⟨rfl, rfl⟩)
      go_ret
      exact ⟨by simp; omega, HB.out⟩

set_option maxHeartbeats 1600000 in
theorem cloneOk_any (name dest : ByteArray) (w : World) :
    Calls Tryd.prog 106 #[.agg #[.string name, .string dest]] w fun e w' => e = .returned (.bool (nameB name.data.toList && nameB dest.data.toList)) ∧ Below w.heap.size w w' := by
  obtain ⟨c0, c1⟩ := two_cells w (.string name) (.string dest) 68
  have HB := Lib.hid (new_below w (.cells #[.string name, .string dest] 68))
  cases hn : nameB name.data.toList
  · go_enter Tryd.func106, Tryd.ntmps106
    go_wp2_with (go_at_call 101; refine (volNameOk_any _ _).mono ?_; rw [hn]; rintro e w' ⟨rfl, rfl⟩)
    go_ret
    exact ⟨rfl, HB.out⟩
  · go_enter Tryd.func106, Tryd.ntmps106
    go_wp2_with (go_at_call 101; refine (volNameOk_any _ _).mono ?_; (first | rw [hn] | skip); rintro e w' ⟨rfl, rfl⟩)
    all_goals go_ret
    all_goals exact ⟨by first | rfl | simp [*], HB.out⟩

set_option maxHeartbeats 1600000 in
theorem goneOk_any (name : ByteArray) (w : World) :
    Calls Tryd.prog 108 #[.agg #[.string name]] w fun e w' => e = .returned (.bool (nameB name.data.toList)) ∧ Below w.heap.size w w' := by
  have c0 := one_cell w (.string name) 70
  have HB := Lib.hid (new_below w (.cells #[.string name] 70))
  go_enter Tryd.func108, Tryd.ntmps108
  go_wp2_with (go_at_call 101; refine (volNameOk_any _ _).mono ?_; rintro e w' ⟨rfl, rfl⟩)
  go_ret
  exact ⟨rfl, HB.out⟩

set_option maxHeartbeats 1600000 in
theorem writeOk_any (name : ByteArray) (num : Int) (text : ByteArray) (w : World) (ht : text.size ≤ maxLen) :
    Calls Tryd.prog 103 #[.agg #[.string name, .int .i64 num, .string text]] w fun e w' => e = .returned (.bool (nameB name.data.toList && (decide (0 ≤ num) && decide (num ≤ 5)) && tokB text.data.toList)) ∧ Below w.heap.size w w' := by
  obtain ⟨c0, c1, c2⟩ := three_cells w (.string name) (.int .i64 num) (.string text) 66
  have HB := Lib.hid (new_below w (.cells #[.string name, .int .i64 num, .string text] 66))
  have HT := Lib.hid (fun W => textOk_any text W ht)
  cases hn : nameB name.data.toList
  · go_enter Tryd.func103, Tryd.ntmps103
    go_wp2_with (first | (go_at_call 101; refine (volNameOk_any _ _).mono ?_; rw [hn]; rintro e w' ⟨rfl, rfl⟩) | (go_at_call 104; refine (HT.out _).mono ?_; rintro e w' ⟨rfl, rfl⟩))
    go_ret
    exact ⟨rfl, HB.out⟩
  · by_cases h1 : 0 ≤ num
    · by_cases h2 : num < 6
      · have h3 : num ≤ 5 := by omega
        go_enter Tryd.func103, Tryd.ntmps103
        go_wp2_with (first | (go_at_call 101; refine (volNameOk_any _ _).mono ?_; rw [hn]; rintro e w' ⟨rfl, rfl⟩) | (go_at_call 104; refine (HT.out _).mono ?_; rintro e w' ⟨rfl, rfl⟩))
        go_ret
        exact ⟨by simp [h1, h3], HB.out⟩
      · have h3 : ¬ num ≤ 5 := by omega
        go_enter Tryd.func103, Tryd.ntmps103
        go_wp2_with (first | (go_at_call 101; refine (volNameOk_any _ _).mono ?_; rw [hn]; rintro e w' ⟨rfl, rfl⟩) | (go_at_call 104; refine (HT.out _).mono ?_; rintro e w' ⟨rfl, rfl⟩))
        go_ret
        exact ⟨by simp; omega, HB.out⟩
    · go_enter Tryd.func103, Tryd.ntmps103
      go_wp2_with (first | (go_at_call 101; refine (volNameOk_any _ _).mono ?_; rw [hn]; rintro e w' ⟨rfl, rfl⟩) | (go_at_call 104; refine (HT.out _).mono ?_; rintro e w' ⟨rfl, rfl⟩))
      go_ret
      exact ⟨by simp; intro _; omega, HB.out⟩

/-- An operation of each kind as the program's value. -/
def mkV (name : ByteArray) (num : Int) : Value := .iface 64 (.agg #[.string name, .int .i64 num])

def wrV (name : ByteArray) (num : Int) (text : ByteArray) : Value := .iface 66 (.agg #[.string name, .int .i64 num, .string text])

def clV (name dest : ByteArray) : Value := .iface 68 (.agg #[.string name, .string dest])

def goV (name : ByteArray) : Value := .iface 70 (.agg #[.string name])

theorem as_make_make (v : Value) (w : World) : (Instr.typeAssert (.iface 64 v) 43 64 true).run Tryd.prog w = .ok (.tuple #[v, .bool true]) w := by kernel_rfl

theorem as_write_make (v : Value) (w : World) : (Instr.typeAssert (.iface 66 v) 43 64 true).run Tryd.prog w = .ok (.tuple #[.agg #[.string ⟨#[]⟩, .int .i64 0], .bool false]) w := by kernel_rfl

theorem as_write_write (v : Value) (w : World) : (Instr.typeAssert (.iface 66 v) 43 66 true).run Tryd.prog w = .ok (.tuple #[v, .bool true]) w := by kernel_rfl

theorem as_clone_make (v : Value) (w : World) : (Instr.typeAssert (.iface 68 v) 43 64 true).run Tryd.prog w = .ok (.tuple #[.agg #[.string ⟨#[]⟩, .int .i64 0], .bool false]) w := by kernel_rfl

theorem as_clone_write (v : Value) (w : World) : (Instr.typeAssert (.iface 68 v) 43 66 true).run Tryd.prog w = .ok (.tuple #[.agg #[.string ⟨#[]⟩, .int .i64 0, .string ⟨#[]⟩], .bool false]) w := by kernel_rfl

theorem as_clone_clone (v : Value) (w : World) : (Instr.typeAssert (.iface 68 v) 43 68 true).run Tryd.prog w = .ok (.tuple #[v, .bool true]) w := by kernel_rfl

theorem as_gone_make (v : Value) (w : World) : (Instr.typeAssert (.iface 70 v) 43 64 true).run Tryd.prog w = .ok (.tuple #[.agg #[.string ⟨#[]⟩, .int .i64 0], .bool false]) w := by kernel_rfl

theorem as_gone_write (v : Value) (w : World) : (Instr.typeAssert (.iface 70 v) 43 66 true).run Tryd.prog w = .ok (.tuple #[.agg #[.string ⟨#[]⟩, .int .i64 0, .string ⟨#[]⟩], .bool false]) w := by kernel_rfl

theorem as_gone_clone (v : Value) (w : World) : (Instr.typeAssert (.iface 70 v) 43 68 true).run Tryd.prog w = .ok (.tuple #[.agg #[.string ⟨#[]⟩, .string ⟨#[]⟩], .bool false]) w := by kernel_rfl

theorem as_gone_gone (v : Value) (w : World) : (Instr.typeAssert (.iface 70 v) 43 70 true).run Tryd.prog w = .ok (.tuple #[v, .bool true]) w := by kernel_rfl

theorem op_box_one (w : World) (o : Ov) (Y : Obj) (i : Nat) (hi : i < 5) : ((w.alloc (.cells #[.int .i64 o.kind, .string o.name, .string o.dest, .int .i64 o.num, .string o.text] 24)).alloc Y).cell? ⟨w.heap.size, i, none⟩ = some (ovc o i) :=
  ((new_below _ Y).cell (p := ⟨w.heap.size, i, none⟩) (by rw [World.size_alloc]; exact Nat.lt_succ_self _)).trans (op_cells o w i hi)

set_option maxHeartbeats 1600000 in
theorem opOf_make (name : ByteArray) (num : Int) (w : World) :
    Calls Tryd.prog 28 #[mkV name num] w fun e w' => e = .returned (Ov.mk 1 name ⟨#[]⟩ num ⟨#[]⟩).val ∧ Below w.heap.size w w' := by
  unfold mkV
  have A0 := as_make_make (.agg #[.string name, .int .i64 num])
  go_enter Tryd.func28, Tryd.ntmps28
  go_wp2_with fail
  have r := op_box_one w (Ov.mk 1 name ⟨#[]⟩ num ⟨#[]⟩) (.cells #[.string name, .int .i64 num] 64)
  have r0 := r 0 (by omega)
  have r1 := r 1 (by omega)
  have r2 := r 2 (by omega)
  have r3 := r 3 (by omega)
  have r4 := r 4 (by omega)
  simp only [ovc] at r0 r1 r2 r3 r4
  refine bodyPost_ret (v := (Ov.mk 1 name ⟨#[]⟩ num ⟨#[]⟩).val) (by simp [results, Tryd.f28, go_sem, Ov.val, r0, r1, r2, r3, r4]) rfl ⟨rfl, (new_below w _).alloc (by rw [World.size_alloc]; exact Nat.le_succ _) _⟩

set_option maxHeartbeats 1600000 in
theorem opOf_write (name : ByteArray) (num : Int) (text : ByteArray) (w : World) :
    Calls Tryd.prog 28 #[wrV name num text] w fun e w' => e = .returned (Ov.mk 2 name ⟨#[]⟩ num text).val ∧ Below w.heap.size w w' := by
  unfold wrV
  have A0 := as_write_make (.agg #[.string name, .int .i64 num, .string text])
  have A1 := as_write_write (.agg #[.string name, .int .i64 num, .string text])
  go_enter Tryd.func28, Tryd.ntmps28
  go_wp2_with fail
  have r := op_box_one w (Ov.mk 2 name ⟨#[]⟩ num text) (.cells #[.string name, .int .i64 num, .string text] 66)
  have r0 := r 0 (by omega)
  have r1 := r 1 (by omega)
  have r2 := r 2 (by omega)
  have r3 := r 3 (by omega)
  have r4 := r 4 (by omega)
  simp only [ovc] at r0 r1 r2 r3 r4
  refine bodyPost_ret (v := (Ov.mk 2 name ⟨#[]⟩ num text).val) (by simp [results, Tryd.f28, go_sem, Ov.val, r0, r1, r2, r3, r4]) rfl ⟨rfl, (new_below w _).alloc (by rw [World.size_alloc]; exact Nat.le_succ _) _⟩

set_option maxHeartbeats 1600000 in
theorem opOf_clone (name dest : ByteArray) (w : World) :
    Calls Tryd.prog 28 #[clV name dest] w fun e w' => e = .returned (Ov.mk 3 name dest 0 ⟨#[]⟩).val ∧ Below w.heap.size w w' := by
  unfold clV
  have A0 := as_clone_make (.agg #[.string name, .string dest])
  have A1 := as_clone_write (.agg #[.string name, .string dest])
  have A2 := as_clone_clone (.agg #[.string name, .string dest])
  go_enter Tryd.func28, Tryd.ntmps28
  go_wp2_with fail
  have r := op_box_one w (Ov.mk 3 name dest 0 ⟨#[]⟩) (.cells #[.string name, .string dest] 68)
  have r0 := r 0 (by omega)
  have r1 := r 1 (by omega)
  have r2 := r 2 (by omega)
  have r3 := r 3 (by omega)
  have r4 := r 4 (by omega)
  simp only [ovc] at r0 r1 r2 r3 r4
  refine bodyPost_ret (v := (Ov.mk 3 name dest 0 ⟨#[]⟩).val) (by simp [results, Tryd.f28, go_sem, Ov.val, r0, r1, r2, r3, r4]) rfl ⟨rfl, (new_below w _).alloc (by rw [World.size_alloc]; exact Nat.le_succ _) _⟩

set_option maxHeartbeats 1600000 in
theorem opOf_gone (name : ByteArray) (w : World) :
    Calls Tryd.prog 28 #[goV name] w fun e w' => e = .returned (Ov.mk 4 name ⟨#[]⟩ 0 ⟨#[]⟩).val ∧ Below w.heap.size w w' := by
  unfold goV
  have A0 := as_gone_make (.agg #[.string name])
  have A1 := as_gone_write (.agg #[.string name])
  have A2 := as_gone_clone (.agg #[.string name])
  have A3 := as_gone_gone (.agg #[.string name])
  go_enter Tryd.func28, Tryd.ntmps28
  go_wp2_with fail
  have r := op_box_one w (Ov.mk 4 name ⟨#[]⟩ 0 ⟨#[]⟩) (.cells #[.string name] 70)
  have r0 := r 0 (by omega)
  have r1 := r 1 (by omega)
  have r2 := r 2 (by omega)
  have r3 := r 3 (by omega)
  have r4 := r 4 (by omega)
  simp only [ovc] at r0 r1 r2 r3 r4
  refine bodyPost_ret (v := (Ov.mk 4 name ⟨#[]⟩ 0 ⟨#[]⟩).val) (by simp [results, Tryd.f28, go_sem, Ov.val, r0, r1, r2, r3, r4]) rfl ⟨rfl, (new_below w _).alloc (by rw [World.size_alloc]; exact Nat.le_succ _) _⟩

end Go.Proofs.YtplicodloanljaaDoor

namespace Go.Proofs.YtplicodloanljaaDoor
open Go.RowKit
set_option linter.unusedVariables false
set_option maxRecDepth 100000

/-- What operationOf answers. -/
def opR (b : Bool) (v : Value) : Value := .tuple #[if b = true then v else .nilIface, .bool b]

def sameO (o p : Ov) : Bool := o.kind == p.kind && (o.name.toList == p.name.toList && (o.dest.toList == p.dest.toList && (o.num == p.num && o.text.toList == p.text.toList)))

theorem toList_inj {a b : ByteArray} (h : a.toList = b.toList) : a = b := by
  rw [ByteArray.toList_eq, ByteArray.toList_eq] at h
  apply ByteArray.ext
  exact Array.toList_inj.1 h

theorem sameO_iff (o p : Ov) : sameO o p = true ↔ o = p := by
  obtain ⟨k, n, d, m, t⟩ := o
  obtain ⟨k', n', d', m', t'⟩ := p
  unfold sameO
  simp only [Bool.and_eq_true, beq_iff_eq, Ov.mk.injEq]
  constructor
  · rintro ⟨h1, h2, h3, h4, h5⟩; exact ⟨h1, toList_inj h2, toList_inj h3, h4, toList_inj h5⟩
  · rintro ⟨rfl, rfl, rfl, rfl, rfl⟩; exact ⟨rfl, rfl, rfl, rfl, rfl⟩

theorem equal_op (o p : Ov) (w : World) :
    (Op.equalIn 10000 24 o.val p.val).run Tryd.prog w = .ok (sameO o p) w := by
  obtain ⟨k, n, d, m, t⟩ := o
  obtain ⟨k', n', d', m', t'⟩ := p
  unfold Ov.val sameO
  rw [run_equalIn_struct w 9999 24 _ _ (by kernel_rfl) (by kernel_rfl)]
  have hf : Tryd.prog.fieldsOf 24 = (match Tryd.prog.underlying 24 with | some (.struct fs) => fs | _ => #[]) := rfl
  rw [hf, Tryd.underlying24]
  simp only
  cases h1 : (k == k')
  · simp [Op.eqFields, go_sem, h1]
  cases h2 : (n.toList == n'.toList)
  · simp [Op.eqFields, go_sem, h1, h2]
  cases h3 : (d.toList == d'.toList)
  · simp [Op.eqFields, go_sem, h1, h2, h3]
  cases h4 : (m == m')
  · simp [Op.eqFields, go_sem, h1, h2, h3, h4]
  cases h5 : (t.toList == t'.toList)
  · simp [Op.eqFields, go_sem, h1, h2, h3, h4, h5]
  · simp [Op.eqFields, go_sem, h1, h2, h3, h4, h5]

theorem neq_op (o p : Ov) (w : World) : (binOp .neq 24 o.val p.val).run Tryd.prog w = .ok (.bool (!sameO o p)) w := by
  unfold Ov.val
  rw [run_neq_struct]
  have h := equal_op o p w
  unfold Ov.val at h
  rw [h]
  rfl

theorem eql_op (o p : Ov) (w : World) : (binOp .eql 24 o.val p.val).run Tryd.prog w = .ok (.bool (sameO o p)) w := by
  unfold Ov.val
  rw [run_eql_struct]
  have h := equal_op o p w
  unfold Ov.val at h
  rw [h]
  rfl

theorem emp_iff (s : ByteArray) : emp s = true ↔ s = ⟨#[]⟩ := by
  constructor
  · intro h
    apply toList_inj
    unfold emp at h
    simpa [ByteArray.toList_eq] using h
  · rintro rfl
    simp [emp, ByteArray.toList_eq]

theorem opB_make_not (name dest : ByteArray) (num : Int) (text : ByteArray) (h : (nameB name.data.toList && (decide (1 ≤ num) && decide (num ≤ 6))) = false) : opB ⟨1, name, dest, num, text⟩ = false := by
  unfold opB
  simp only [Bool.and_eq_false_iff] at h
  simp
  grind

theorem opB_make_same (name dest : ByteArray) (num : Int) (text : ByteArray) (h : (nameB name.data.toList && (decide (1 ≤ num) && decide (num ≤ 6))) = true) : sameO (Ov.mk 1 name ⟨#[]⟩ num ⟨#[]⟩) ⟨1, name, dest, num, text⟩ = opB ⟨1, name, dest, num, text⟩ := by
  rw [Bool.eq_iff_iff, sameO_iff]
  unfold opB
  simp only [Ov.mk.injEq, Bool.and_eq_true, decide_eq_true_eq] at h ⊢
  simp [emp_iff]
  grind

theorem meth_make (v : Value) (w : World) : (Go.method 284 64 v "loop.example/garner/impl.ok").run Tryd.prog w = .ok (100, v) w := by kernel_rfl

theorem opB_write_not (name dest : ByteArray) (num : Int) (text : ByteArray) (h : (nameB name.data.toList && (decide (0 ≤ num) && decide (num ≤ 5)) && tokB text.data.toList) = false) : opB ⟨2, name, dest, num, text⟩ = false := by
  unfold opB
  simp only [Bool.and_eq_false_iff] at h
  simp
  grind

theorem opB_write_same (name dest : ByteArray) (num : Int) (text : ByteArray) (h : (nameB name.data.toList && (decide (0 ≤ num) && decide (num ≤ 5)) && tokB text.data.toList) = true) : sameO (Ov.mk 2 name ⟨#[]⟩ num text) ⟨2, name, dest, num, text⟩ = opB ⟨2, name, dest, num, text⟩ := by
  rw [Bool.eq_iff_iff, sameO_iff]
  unfold opB
  simp only [Ov.mk.injEq, Bool.and_eq_true, decide_eq_true_eq] at h ⊢
  simp [emp_iff]
  grind

theorem meth_write (v : Value) (w : World) : (Go.method 284 66 v "loop.example/garner/impl.ok").run Tryd.prog w = .ok (103, v) w := by kernel_rfl

theorem opB_clone_not (name dest : ByteArray) (num : Int) (text : ByteArray) (h : (nameB name.data.toList && nameB dest.data.toList) = false) : opB ⟨3, name, dest, num, text⟩ = false := by
  unfold opB
  simp only [Bool.and_eq_false_iff] at h
  simp
  grind

theorem opB_clone_same (name dest : ByteArray) (num : Int) (text : ByteArray) (h : (nameB name.data.toList && nameB dest.data.toList) = true) : sameO (Ov.mk 3 name dest 0 ⟨#[]⟩) ⟨3, name, dest, num, text⟩ = opB ⟨3, name, dest, num, text⟩ := by
  rw [Bool.eq_iff_iff, sameO_iff]
  unfold opB
  simp only [Ov.mk.injEq, Bool.and_eq_true] at h ⊢
  simp [emp_iff]
  grind

theorem meth_clone (v : Value) (w : World) : (Go.method 284 68 v "loop.example/garner/impl.ok").run Tryd.prog w = .ok (106, v) w := by kernel_rfl

theorem opB_gone_not (name dest : ByteArray) (num : Int) (text : ByteArray) (h : (nameB name.data.toList) = false) : opB ⟨4, name, dest, num, text⟩ = false := by
  unfold opB
  skip
  simp
  grind

theorem opB_gone_same (name dest : ByteArray) (num : Int) (text : ByteArray) (h : (nameB name.data.toList) = true) : sameO (Ov.mk 4 name ⟨#[]⟩ 0 ⟨#[]⟩) ⟨4, name, dest, num, text⟩ = opB ⟨4, name, dest, num, text⟩ := by
  rw [Bool.eq_iff_iff, sameO_iff]
  unfold opB
  simp only [Ov.mk.injEq, Bool.and_eq_true] at h ⊢
  simp [emp_iff]
  grind

theorem meth_gone (v : Value) (w : World) : (Go.method 284 70 v "loop.example/garner/impl.ok").run Tryd.prog w = .ok (108, v) w := by kernel_rfl

end Go.Proofs.YtplicodloanljaaDoor
