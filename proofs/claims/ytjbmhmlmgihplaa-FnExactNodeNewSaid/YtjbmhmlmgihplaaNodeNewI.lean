/- Nodes without operations: the laws' helpers, the model's NodeNew, the program's NodeNew. -/
import Derived.Test.YtjbmhmlmgihplaaOpNil
import Derived.Test.YtjbmhmlmgihplaaText
import Derived.Lib.Hide
namespace Go.Proofs.Ytjbmhmlmgihplaa
open Go.RowKit
set_option linter.unusedVariables false
set_option linter.unusedSimpArgs false
set_option maxRecDepth 100000

set_option maxHeartbeats 800000 in
theorem eqNode_nil (u l z : Bool) (t : Int) (a b : Option Addr) (c d : Nat) (w : World) :
    Calls Try.prog 6 #[.agg #[.bool u, .int .i64 t, .bool l, .bool z, .slice a 0 c], .agg #[.bool u, .int .i64 t, .bool l, .bool z, .slice b 0 d]] w fun e w' => e = .returned (.bool true) ∧ Below w.heap.size w w' := by
  have hb1 : Below w.heap.size w ((w.alloc (.cells #[.bool u, .int .i64 t, .bool l, .bool z, .slice a 0 c] 24)).alloc (.cells #[.bool u, .int .i64 t, .bool l, .bool z, .slice b 0 d] 24)) := ((Below.refl _ _).alloc (Nat.le_refl _) _).alloc (by simp) _
  have HB := Lib.hid hb1
  clear hb1
  go_enter Try.func6, Try.ntmps6
  go_wp2_with fail
  refine (eqOpS_nil a b c d _).mono ?_
  rintro e w3 ⟨rfl, hb3⟩
  have hB := HB.out.trans (hb3.mono HB.out.size)
  clear hb3
  go_wp2_with fail
  go_ret
  exact ⟨rfl, hB⟩

set_option maxHeartbeats 800000 in
theorem markNode_nil (u l z : Bool) (t : Int) (a : Option Addr) (c k : Nat) (w : World) :
    Calls Try.prog 7 #[.agg #[.bool u, .int .i64 t, .bool l, .bool z, .slice a 0 c], .int .i64 (k : Int)] w fun e w' => e = .returned (.int .i64 (k : Int)) ∧ Below w.heap.size w w' := by
  have hb1 : Below w.heap.size w (w.alloc (.cells #[.bool u, .int .i64 t, .bool l, .bool z, .slice a 0 c] 24)) := (Below.refl _ _).alloc (Nat.le_refl _) _
  have HB := Lib.hid hb1
  clear hb1
  go_enter Try.func7, Try.ntmps7
  go_wp2_with fail
  refine (markOpS_nil a c k _).mono ?_
  rintro e w3 ⟨rfl, hb3⟩
  have hB := HB.out.trans (hb3.mono HB.out.size)
  clear hb3
  go_wp2_with fail
  go_ret
  exact ⟨rfl, hB⟩

set_option maxHeartbeats 800000 in
theorem heldNode_nil (u l z : Bool) (t : Int) (a : Option Addr) (c k : Nat) (w : World) :
    Calls Try.prog 8 #[.agg #[.bool u, .int .i64 t, .bool l, .bool z, .slice a 0 c], .int .i64 (k : Int)] w fun e w' => e = .returned (.int .i64 (k : Int)) ∧ Below w.heap.size w w' := by
  have hb1 : Below w.heap.size w (w.alloc (.cells #[.bool u, .int .i64 t, .bool l, .bool z, .slice a 0 c] 24)) := (Below.refl _ _).alloc (Nat.le_refl _) _
  have HB := Lib.hid hb1
  have hpos : ¬ (k : Int) < 0 := by omega
  clear hb1
  go_enter Try.func8, Try.ntmps8
  go_wp2_with fail
  refine (heldOpS_nil a c k _).mono ?_
  rintro e w3 ⟨rfl, hb3⟩
  have hB := HB.out.trans (hb3.mono HB.out.size)
  clear hb3
  go_wp2_with fail
  go_ret
  exact ⟨rfl, hB⟩

/-- What NodeNew answers, but for the operations: an empty slice. -/
def newUp (id : Int) : Bool := decide (id = 1) || decide (id = 2)

def newLead (id : Int) : Bool := decide (id = 1)

def newTerm (id : Int) : Int := if id = 1 then 1 else 0

theorem nodeCells (W : World) (cs : Array Value) (t : TypeId) : ∀ i, (W.alloc (.cells cs t)).cell? ⟨W.heap.size, i, none⟩ = cs[i]? :=
  fun i => cell_of_row _ _ _ _ _ _ (heap_alloc_new W (.cells cs t))

theorem nodeCells2 (W : World) (cs : Array Value) (t : TypeId) (o : Obj) : ∀ i, ((W.alloc (.cells cs t)).alloc o).cell? ⟨W.heap.size, i, none⟩ = cs[i]? :=
  fun i => (World.cell?_of_block (a := ⟨W.heap.size, i, none⟩) (heap_alloc_old _ _ (by simp))).trans (nodeCells W cs t i)

set_option maxHeartbeats 1600000 in
theorem nodeNew_any (id : Int) (w : World) :
    Calls Try.prog 5 #[.int .i64 id] w fun e w' => ∃ a c, e = .returned (.tuple #[.agg #[.bool (newUp id), .int .i64 (newTerm id), .bool (newLead id), .bool (newLead id), .slice a 0 c], .bool (newUp id)]) ∧ Below w.heap.size w w' := by
  by_cases h1 : id = 1
  · subst h1
    go_enter Try.func5, Try.ntmps5
    go_wp2_with fail
    have n0 := nodeCells w #[.bool true, .int .i64 1, .bool true, .bool true, .slice none 0 0] 24
    have r0 := n0 0
    have r1 := n0 1
    have r2 := n0 2
    have r3 := n0 3
    have r4 := n0 4
    refine bodyPost_ret (v := .tuple #[.agg #[.bool true, .int .i64 1, .bool true, .bool true, .slice none 0 0], .bool true]) (by simp [results, Try.f5, go_sem, r0, r1, r2, r3, r4]) rfl ⟨none, 0, rfl, (Below.refl _ _).alloc (Nat.le_refl _) _⟩
  by_cases h2 : id = 2
  · subst h2
    go_enter Try.func5, Try.ntmps5
    go_wp2_with fail
    have n0 := nodeCells w #[.bool true, .int .i64 0, .bool false, .bool false, .slice none 0 0] 24
    have r0 := n0 0
    have r1 := n0 1
    have r2 := n0 2
    have r3 := n0 3
    have r4 := n0 4
    refine bodyPost_ret (v := .tuple #[.agg #[.bool true, .int .i64 0, .bool false, .bool false, .slice none 0 0], .bool true]) (by simp [results, Try.f5, go_sem, r0, r1, r2, r3, r4]) rfl ⟨none, 0, rfl, (Below.refl _ _).alloc (Nat.le_refl _) _⟩
  · have e1 : newUp id = false := by simp [newUp, h1, h2]
    have e2 : newLead id = false := by simp [newLead, h1]
    have e3 : newTerm id = 0 := by simp [newTerm, h1]
    rw [e1, e2, e3]
    go_enter Try.func5, Try.ntmps5
    go_wp2_with fail
    have n0 := nodeCells w #[.bool false, .int .i64 0, .bool false, .bool false, .slice none 0 0] 24
    have r0 := n0 0
    have r1 := n0 1
    have r2 := n0 2
    have r3 := n0 3
    have r4 := n0 4
    refine bodyPost_ret (v := .tuple #[.agg #[.bool false, .int .i64 0, .bool false, .bool false, .slice none 0 0], .bool false]) (by simp [results, Try.f5, go_sem, r0, r1, r2, r3, r4]) rfl ⟨none, 0, rfl, (Below.refl _ _).alloc (Nat.le_refl _) _⟩

set_option maxHeartbeats 1600000 in
theorem nodeNewS_any (id : Int) (w : World) :
    Calls Try.prog 4 #[.int .i64 id] w fun e w' => ∃ a c, e = .returned (.tuple #[.agg #[.bool (newUp id), .int .i64 (newTerm id), .bool (newLead id), .bool (newLead id), .slice a 0 c], .bool (newUp id)]) ∧ Below w.heap.size w w' := by
  by_cases h1 : id = 1
  · subst h1
    have HI := Lib.hid (fun W => l6In_any 1 1 2 W)
    have hd : (decide ((1 : Int) ≤ 1) && decide ((1 : Int) ≤ 2)) = true := by decide
    rw [hd] at HI
    go_enter Try.func4, Try.ntmps4
    go_wp2_with (go_at_call 9; refine (HI.out _).mono ?_; rintro e w' ⟨rfl, rfl⟩)
    have old := nodeCells2 w #[.bool true, .int .i64 1, .bool true, .bool true, .slice (some ⟨w.heap.size + 1, 0, none⟩) 0 0] 24
    have r0 := fun o => old o 0
    have r1 := fun o => old o 1
    have r2 := fun o => old o 2
    have r3 := fun o => old o 3
    have r4 := fun o => old o 4
    refine bodyPost_ret (v := .tuple #[.agg #[.bool true, .int .i64 1, .bool true, .bool true, .slice (some ⟨w.heap.size + 1, 0, none⟩) 0 0], .bool true]) (by simp [results, Try.f4, go_sem, r0, r1, r2, r3, r4]) rfl ⟨_, _, rfl, ((Below.refl _ _).alloc (Nat.le_refl _) _).alloc (by simp) _⟩
  by_cases h2 : id = 2
  · subst h2
    have HI := Lib.hid (fun W => l6In_any 2 1 2 W)
    have hd : (decide ((1 : Int) ≤ 2) && decide ((2 : Int) ≤ 2)) = true := by decide
    rw [hd] at HI
    go_enter Try.func4, Try.ntmps4
    go_wp2_with (go_at_call 9; refine (HI.out _).mono ?_; rintro e w' ⟨rfl, rfl⟩)
    have old := nodeCells2 w #[.bool true, .int .i64 0, .bool false, .bool false, .slice (some ⟨w.heap.size + 1, 0, none⟩) 0 0] 24
    have r0 := fun o => old o 0
    have r1 := fun o => old o 1
    have r2 := fun o => old o 2
    have r3 := fun o => old o 3
    have r4 := fun o => old o 4
    refine bodyPost_ret (v := .tuple #[.agg #[.bool true, .int .i64 0, .bool false, .bool false, .slice (some ⟨w.heap.size + 1, 0, none⟩) 0 0], .bool true]) (by simp [results, Try.f4, go_sem, r0, r1, r2, r3, r4]) rfl ⟨_, _, rfl, ((Below.refl _ _).alloc (Nat.le_refl _) _).alloc (by simp) _⟩
  · have e1 : newUp id = false := by simp [newUp, h1, h2]
    have e2 : newLead id = false := by simp [newLead, h1]
    have e3 : newTerm id = 0 := by simp [newTerm, h1]
    rw [e1, e2, e3]
    have HI := Lib.hid (fun W => l6In_any id 1 2 W)
    have hd : (decide ((1 : Int) ≤ id) && decide ((id : Int) ≤ 2)) = false := by by_cases h : (1:Int) ≤ id <;> simp [h] <;> omega
    rw [hd] at HI
    go_enter Try.func4, Try.ntmps4
    go_wp2_with (go_at_call 9; refine (HI.out _).mono ?_; rintro e w' ⟨rfl, rfl⟩)
    have n0 := nodeCells w #[.bool false, .int .i64 0, .bool false, .bool false, .slice none 0 0] 24
    have r0 := n0 0
    have r1 := n0 1
    have r2 := n0 2
    have r3 := n0 3
    have r4 := n0 4
    refine bodyPost_ret (v := .tuple #[.agg #[.bool false, .int .i64 0, .bool false, .bool false, .slice none 0 0], .bool false]) (by simp [results, Try.f4, go_sem, r0, r1, r2, r3, r4]) rfl ⟨_, _, rfl, (Below.refl _ _).alloc (Nat.le_refl _) _⟩

/-- A node's value in a box of the call's own. -/
structure BoxN (b : Nat) (u l z : Bool) (t : Int) (a : Option Addr) (c : Nat) (W : World) : Prop where
  lt : b < W.heap.size
  c0 : W.cell? ⟨b, 0, none⟩ = some (.bool u)
  c1 : W.cell? ⟨b, 1, none⟩ = some (.int .i64 t)
  c2 : W.cell? ⟨b, 2, none⟩ = some (.bool l)
  c3 : W.cell? ⟨b, 3, none⟩ = some (.bool z)
  c4 : W.cell? ⟨b, 4, none⟩ = some (.slice a 0 c)

theorem boxN_new (w : World) (u l z : Bool) (t : Int) (a : Option Addr) (c : Nat) (ty : TypeId) : BoxN w.heap.size u l z t a c (w.alloc (.cells #[.bool u, .int .i64 t, .bool l, .bool z, .slice a 0 c] ty)) :=
  have h := nodeCells w #[.bool u, .int .i64 t, .bool l, .bool z, .slice a 0 c] ty
  ⟨by simp, h 0, h 1, h 2, h 3, h 4⟩

theorem BoxN.later {b : Nat} {u l z : Bool} {t : Int} {a : Option Addr} {c : Nat} {W W' : World} (h : BoxN b u l z t a c W) (hb : Below W.heap.size W W') : BoxN b u l z t a c W' :=
  ⟨Nat.lt_of_lt_of_le h.lt hb.size, (hb.cell (p := ⟨b, 0, none⟩) h.lt).trans h.c0, (hb.cell (p := ⟨b, 1, none⟩) h.lt).trans h.c1,
    (hb.cell (p := ⟨b, 2, none⟩) h.lt).trans h.c2, (hb.cell (p := ⟨b, 3, none⟩) h.lt).trans h.c3, (hb.cell (p := ⟨b, 4, none⟩) h.lt).trans h.c4⟩

theorem BoxN.alloc {b : Nat} {u l z : Bool} {t : Int} {a : Option Addr} {c : Nat} {W : World} (h : BoxN b u l z t a c W) (x : Obj) : BoxN b u l z t a c (W.alloc x) := h.later ((Below.refl W.heap.size W).alloc (Nat.le_refl _) x)

theorem nodeNext {w0 w w' : World} (h : Below w0.heap.size w0 w) (hb : Below w.heap.size w w') : Below w0.heap.size w0 w' := h.trans (hb.mono h.size)

end Go.Proofs.Ytjbmhmlmgihplaa
