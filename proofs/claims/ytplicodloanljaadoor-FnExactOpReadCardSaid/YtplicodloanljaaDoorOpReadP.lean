/- The program's OpRead. -/
import Derived.Test.YtplicodloanljaaDoorOpReadI
namespace Go.Proofs.YtplicodloanljaaDoor
open Go.RowKit
set_option linter.unusedVariables false
set_option maxRecDepth 100000

/-- What OpRead answers. -/
def readV (r : Ov × Bool) : Value := .tuple #[r.1.val, .bool r.2]

set_option maxHeartbeats 3200000 in
theorem opRead_any (s : ByteArray) (hs : s.size ≤ maxLen) (p : Addr) (w : World) (hv : Vars p w) :
    Calls Tryd.prog 12 #[.string s] w fun e w' => e = .returned (readV (readB s)) ∧ Below w.heap.size w w' := by
  have hb0 := new_below w (.cells #[.int .i64 0, .string ⟨#[]⟩, .string ⟨#[]⟩, .int .i64 0, .string ⟨#[]⟩] 24)
  have HX := Lib.hid (RBox.new w)
  have HV := Lib.hid (hv.later hb0)
  have HB := Lib.hid hb0
  have HR := Lib.hid (fun W hvw => operationRead_any s hs p W hvw)
  have HP := Lib.hid (progS_read s)
  have HE := Lib.hid (errIs_nil p)
  have HE2 := Lib.hid (errIs_same p)
  have HF := Lib.hid (fun o (h : progS s = some o) W => opOf_any h W)
  clear hb0 hv
  cases hp : progS s with
  | none =>
    rw [hp] at HR HP
    simp only [wordsV] at HR
    clear hp HF
    go_enter Tryd.func12, Tryd.ntmps12
    go_wp2_with (first
      | (go_at_call 26; refine (HR.out _ HV.out).mono ?_; rintro e w2 ⟨rfl, hb2⟩; have hm2 := (HV.out.later hb2).mal; have HX2 := Lib.hid (HX.out.later hb2); have HB2 := Lib.hid (bnext HB.out hb2); clear hb2)
      | (go_at_call 27; refine (HE2.out _).mono ?_; rintro e w3 ⟨rfl, rfl⟩; obtain ⟨lt, r0, r1, r2, r3, r4, f0, f1, f2, f3, f4⟩ := HX2.out.all))
    refine bodyPost_ret (v := .tuple #[Ov.zero.val, .bool false]) (by simp [results, Tryd.f12, go_sem, Ov.zero, Ov.val, r0, r1, r2, r3, r4]) rfl ⟨by rw [HP.out]; rfl, ?_⟩
    exact HX2.out.put5 _ _ _ _ _
  | some o =>
    rw [hp] at HR HP
    have HO := Lib.hid (HF.out o hp)
    simp only [wordsV] at HR
    generalize opV o = vo at HR HO
    obtain ⟨kind, name, dest, num, text⟩ := o
    simp only [Ov.val] at HO
    clear hp HF
    go_enter Tryd.func12, Tryd.ntmps12
    go_wp2_with (first
      | (go_at_call 26; refine (HR.out _ HV.out).mono ?_; rintro e w2 ⟨rfl, hb2⟩; have hm2 := (HV.out.later hb2).mal; have HX2 := Lib.hid (HX.out.later hb2); have HB2 := Lib.hid (bnext HB.out hb2); clear hb2)
      | (go_at_call 27; refine (HE.out _).mono ?_; rintro e w3 ⟨rfl, rfl⟩)
      | (go_at_call 28; refine (HO.out _).mono ?_; rintro e w4 ⟨rfl, hb4⟩; have HX4 := Lib.hid (HX2.out.later hb4); clear hb4; obtain ⟨lt, r0, r1, r2, r3, r4, f0, f1, f2, f3, f4⟩ := HX4.out.all))
    refine bodyPost_ret (v := .tuple #[(Ov.mk kind name dest num text).val, .bool true]) (by simp [results, Tryd.f12, go_sem, Ov.val, r0, r1, r2, r3, r4]) rfl ⟨by rw [HP.out]; rfl, ?_⟩
    exact HX4.out.put5 _ _ _ _ _

theorem two_boxes (w : World) (p q : Ov) (t u : TypeId) : ∀ i, i < 5 →
    ((w.alloc (.cells #[.int .i64 p.kind, .string p.name, .string p.dest, .int .i64 p.num, .string p.text] t)).alloc (.cells #[.int .i64 q.kind, .string q.name, .string q.dest, .int .i64 q.num, .string q.text] u)).cell? ⟨w.heap.size, i, none⟩ = some (ovc p i) ∧
    ((w.alloc (.cells #[.int .i64 p.kind, .string p.name, .string p.dest, .int .i64 p.num, .string p.text] t)).alloc (.cells #[.int .i64 q.kind, .string q.name, .string q.dest, .int .i64 q.num, .string q.text] u)).cell? ⟨w.heap.size + 1, i, none⟩ = some (ovc q i) := by
  intro i hi
  have h1 := (new_cells w #[.int .i64 p.kind, .string p.name, .string p.dest, .int .i64 p.num, .string p.text] t).1 i
  have h2 := (new_cells (w.alloc (.cells #[.int .i64 p.kind, .string p.name, .string p.dest, .int .i64 p.num, .string p.text] t)) #[.int .i64 q.kind, .string q.name, .string q.dest, .int .i64 q.num, .string q.text] u).1 i
  rw [World.size_alloc] at h2
  refine ⟨((new_below _ _).cell (p := ⟨w.heap.size, i, none⟩) (by rw [World.size_alloc]; exact Nat.lt_succ_self _)).trans (h1.trans ?_), h2.trans ?_⟩
  all_goals (
    obtain rfl | rfl | rfl | rfl | rfl : i = 0 ∨ i = 1 ∨ i = 2 ∨ i = 3 ∨ i = 4 := by omega
    all_goals rfl)

set_option maxHeartbeats 1600000 in
theorem eqOp_refl (o : Ov) (w : World) :
    Calls Tryd.prog 19 #[o.val, o.val] w fun e w' => e = .returned (.bool true) ∧ Below w.heap.size w w' := by
  obtain ⟨kind, name, dest, num, text⟩ := o
  have h := two_boxes w ⟨kind, name, dest, num, text⟩ ⟨kind, name, dest, num, text⟩ 24 24
  obtain ⟨a0, b0⟩ := h 0 (by omega)
  obtain ⟨a1, b1⟩ := h 1 (by omega)
  obtain ⟨a2, b2⟩ := h 2 (by omega)
  obtain ⟨a3, b3⟩ := h 3 (by omega)
  obtain ⟨a4, b4⟩ := h 4 (by omega)
  simp only [ovc] at a0 a1 a2 a3 a4 b0 b1 b2 b3 b4
  have HB := Lib.hid ((new_below w (.cells #[.int .i64 kind, .string name, .string dest, .int .i64 num, .string text] 24)).alloc (by rw [World.size_alloc]; exact Nat.le_succ _) (.cells #[.int .i64 kind, .string name, .string dest, .int .i64 num, .string text] 24))
  have e1 : (name.toList != name.toList) = false := by simp
  have e2 : (dest.toList != dest.toList) = false := by simp
  have e3 : (text.toList != text.toList) = false := by simp
  have e4 : (kind != kind) = false := by simp
  have e5 : (num != num) = false := by simp
  clear h
  unfold Ov.val
  go_enter Tryd.func19, Tryd.ntmps19
  go_wp2_with fail
  go_ret
  exact ⟨rfl, HB.out⟩

end Go.Proofs.YtplicodloanljaaDoor
