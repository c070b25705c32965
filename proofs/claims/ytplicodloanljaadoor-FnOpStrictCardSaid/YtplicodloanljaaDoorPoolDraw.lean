/- A drawn change: the model's l71Op. -/
import Derived.Test.YtplicodloanljaaDoorPoolOv
import Derived.Test.YtplicodloanljaaDoorDraw
import Derived.Deep.RegionWith
import Derived.Deep.CutBlock
namespace Go.Proofs.YtplicodloanljaaDoor
open Go.RowKit
set_option linter.unusedVariables false
set_option maxRecDepth 100000

/-- A change as its five cells. -/
def ovc (o : Ov) : Nat → Value
  | 0 => .int .i64 o.kind
  | 1 => .string o.name
  | 2 => .string o.dest
  | 3 => .int .i64 o.num
  | _ => .string o.text

def Ov.zero : Ov := ⟨0, ⟨#[]⟩, ⟨#[]⟩, 0, ⟨#[]⟩⟩

/-- A small change. -/
def OpSm (o : Ov) : Prop := o.name.size ≤ 20 ∧ o.dest.size ≤ 20 ∧ o.text.size ≤ 20 ∧ 0 ≤ o.kind ∧ o.kind ≤ 100 ∧ -100 ≤ o.num ∧ o.num ≤ 100

/-- A drawn change in its box b, an empty one in the first box of the call's, and the reader. -/
structure OSt (w : World) (B P b : Nat) (o : Ov) (W : World) : Prop where
  rd : RdTo B P w W
  BL : B < w.heap.size
  lo : w.heap.size < b
  lt : b < W.heap.size
  op : ∀ i, i < 5 → W.cell? ⟨b, i, none⟩ = some (ovc o i)
  fz : ∀ i, W.frozen? ⟨b, i, none⟩ = false
  re : ∀ i, i < 5 → W.cell? ⟨w.heap.size, i, none⟩ = some (ovc Ov.zero i)
  rz : ∀ i, W.frozen? ⟨w.heap.size, i, none⟩ = false

theorem OSt.turn {w : World} {B P Q b : Nat} {o : Ov} {W W' : World} (h : OSt w B P b o W) (hr : RdTo B Q W W') : OSt w B Q b o W' := by
  have hk : ∀ k, k < W.heap.size → k ≠ B → W'.heap[k]? = W.heap[k]? := fun k h1 h2 => hr.2.block k h1 (fun e => h2 (by injection e))
  have h1 := h.BL
  have h2 := h.lo
  have h3 := h.lt
  exact ⟨h.rd.trans hr, h.BL, h.lo, Nat.lt_of_lt_of_le h.lt hr.2.size,
    fun i hi => (World.cell?_of_block (w := W) (a := ⟨b, i, none⟩) (hk b (by omega) (by omega))).trans (h.op i hi), fun i => (World.frozen?_of_block (w := W) (a := ⟨b, i, none⟩) (hk b (by omega) (by omega))).trans (h.fz i),
    fun i hi => (World.cell?_of_block (w := W) (a := ⟨w.heap.size, i, none⟩) (hk w.heap.size (by omega) (by omega))).trans (h.re i hi), fun i => (World.frozen?_of_block (w := W) (a := ⟨w.heap.size, i, none⟩) (hk w.heap.size (by omega) (by omega))).trans (h.rz i)⟩

theorem OSt.alloc {w : World} {B P b : Nat} {o : Ov} {W : World} (h : OSt w B P b o W) (x : Obj) : OSt w B P b o (W.alloc x) := h.turn ((RdTo.refl h.rd.1).alloc x)

theorem OSt.drew {w : World} {B P b : Nat} {o : Ov} {W : World} (h : OSt w B P b o W) : OSt w B P b o W.drew :=
  ⟨⟨h.rd.1, grownBy_trans h.rd.2 ((drawn_drew (w := W)).grown _)⟩, h.BL, h.lo, h.lt, h.op, h.fz, h.re, h.rz⟩

theorem OSt.set {w : World} {B P b : Nat} {o : Ov} {W : World} (h : OSt w B P b o W) (i : Nat) (v : Value) (o' : Ov) (hi : i < 5) (ho : ∀ j, j < 5 → ovc o' j = if j = i then v else ovc o j) : OSt w B P b o' (W.setCell ⟨b, i, none⟩ v) := by
  have h1 := h.BL
  have h2 := h.lo
  have hk : ∀ k, k ≠ b → (W.setCell ⟨b, i, none⟩ v).heap[k]? = W.heap[k]? := fun k hk => Below.heap_setCell W ⟨b, i, none⟩ v k hk
  refine ⟨⟨h.rd.1.kept (fun q hq => World.cell?_of_block (w := W) (hk q.block (by omega))) (World.frozen?_setCell _ _ _ _), grown_set h.rd.2 ⟨b, i, none⟩ (by show w.heap.size ≤ b; omega) v⟩, h.BL, h.lo, by simpa [World.setCell] using h.lt, fun j hj => ?_, fun j => (World.frozen?_setCell _ _ _ _).trans (h.fz j),
    fun j hj => (World.cell?_of_block (w := W) (a := ⟨w.heap.size, j, none⟩) (hk w.heap.size (by omega))).trans (h.re j hj), fun j => (World.frozen?_setCell _ _ _ _).trans (h.rz j)⟩
  rw [ho j hj]
  by_cases e : j = i
  · subst e
    rw [if_pos rfl]
    exact cell_same _ _ _ _ (h.op j hj)
  · rw [if_neg e]
    exact (cell_other _ _ _ _ (ne_off b i j (fun x => e x.symm))).trans (h.op j hj)

theorem four_names : ∀ t ∈ ([⟨#[65]⟩, ⟨#[66]⟩, ⟨#[67]⟩, ⟨#[68]⟩] : List ByteArray), t.size ≤ 1 := by decide

theorem bad_names : ∀ t ∈ ([⟨#[]⟩, ⟨#[69]⟩, ⟨#[65, 65]⟩] : List ByteArray), t.size ≤ 2 := by decide

theorem OSt.set5 {w : World} {B P b : Nat} {o : Ov} {W : World} (h : OSt w B P b o W) (k : Int) (nm dst : ByteArray) (num : Int) (t : ByteArray) :
    OSt w B P b ⟨k, nm, dst, num, t⟩ (((((W.setCell ⟨b, 0, none⟩ (.int .i64 k)).setCell ⟨b, 1, none⟩ (.string nm)).setCell ⟨b, 2, none⟩ (.string dst)).setCell ⟨b, 3, none⟩ (.int .i64 num)).setCell ⟨b, 4, none⟩ (.string t)) := by
  refine ((((h.set 0 _ ⟨k, o.name, o.dest, o.num, o.text⟩ (by omega) ?_).set 1 _ ⟨k, nm, o.dest, o.num, o.text⟩ (by omega) ?_).set 2 _ ⟨k, nm, dst, o.num, o.text⟩ (by omega) ?_).set 3 _ ⟨k, nm, dst, num, o.text⟩ (by omega) ?_).set 4 _ ⟨k, nm, dst, num, t⟩ (by omega) ?_
  all_goals
    intro j hj
    obtain rfl | rfl | rfl | rfl | rfl : j = 0 ∨ j = 1 ∨ j = 2 ∨ j = 3 ∨ j = 4 := by omega
    all_goals rfl

theorem OSt.set1 {w : World} {B P b : Nat} {k : Int} {nm dst : ByteArray} {num : Int} {t : ByteArray} {W : World} (h : OSt w B P b ⟨k, nm, dst, num, t⟩ W) (nm' : ByteArray) : OSt w B P b ⟨k, nm', dst, num, t⟩ (W.setCell ⟨b, 1, none⟩ (.string nm')) :=
  h.set 1 _ _ (by omega) (by
    intro j hj
    obtain rfl | rfl | rfl | rfl | rfl : j = 0 ∨ j = 1 ∨ j = 2 ∨ j = 3 ∨ j = 4 := by omega
    all_goals rfl)

theorem OSt.set3 {w : World} {B P b : Nat} {k : Int} {nm dst : ByteArray} {num : Int} {t : ByteArray} {W : World} (h : OSt w B P b ⟨k, nm, dst, num, t⟩ W) (num' : Int) : OSt w B P b ⟨k, nm, dst, num', t⟩ (W.setCell ⟨b, 3, none⟩ (.int .i64 num')) :=
  h.set 3 _ _ (by omega) (by
    intro j hj
    obtain rfl | rfl | rfl | rfl | rfl : j = 0 ∨ j = 1 ∨ j = 2 ∨ j = 3 ∨ j = 4 := by omega
    all_goals rfl)

theorem OSt.set0 {w : World} {B P b : Nat} {k : Int} {nm dst : ByteArray} {num : Int} {t : ByteArray} {W : World} (h : OSt w B P b ⟨k, nm, dst, num, t⟩ W) (k' : Int) : OSt w B P b ⟨k', nm, dst, num, t⟩ (W.setCell ⟨b, 0, none⟩ (.int .i64 k')) :=
  h.set 0 _ _ (by omega) (by
    intro j hj
    obtain rfl | rfl | rfl | rfl | rfl : j = 0 ∨ j = 1 ∨ j = 2 ∨ j = 3 ∨ j = 4 := by omega
    all_goals rfl)

theorem RdTo.setFar {w W : World} {B P : Nat} (h : RdTo B P w W) (hB : B < w.heap.size) (p : Addr) (hp : w.heap.size ≤ p.block) (v : Value) : RdTo B P w (W.setCell p v) :=
  ⟨h.1.kept (fun q hq => World.cell?_of_block (w := W) (Below.heap_setCell W p v q.block (by omega))) (World.frozen?_setCell _ _ _ _), grown_set h.2 p hp v⟩

/-- The change is laid into the result's box. -/
theorem OSt.fin {w : World} {B P b : Nat} {o : Ov} {W : World} (h : OSt w B P b o W) (v0 v1 v2 v3 v4 : Value) :
    RdTo B P w (((((W.setCell ⟨w.heap.size, 0, none⟩ v0).setCell ⟨w.heap.size, 1, none⟩ v1).setCell ⟨w.heap.size, 2, none⟩ v2).setCell ⟨w.heap.size, 3, none⟩ v3).setCell ⟨w.heap.size, 4, none⟩ v4) :=
  ((((h.rd.setFar h.BL _ (Nat.le_refl _) _).setFar h.BL _ (Nat.le_refl _) _).setFar h.BL _ (Nat.le_refl _) _).setFar h.BL _ (Nat.le_refl _) _).setFar h.BL _ (Nat.le_refl _) _

theorem OSt.mono {w : World} {B P Q b : Nat} {o : Ov} {W : World} (h : OSt w B P b o W) (hPQ : P ≤ Q) : OSt w B Q b o W := ⟨h.rd.mono hPQ, h.BL, h.lo, h.lt, h.op, h.fz, h.re, h.rz⟩

theorem OSt.new {w W2 W4 : World} {B P : Nat} (o : Ov) (hR : RdTo B P w W4) (hBL : B < w.heap.size) (hT : RdTo B P W2 W4) (hW2 : w.heap.size < W2.heap.size) (hr : ∀ i, i < 5 → W2.cell? ⟨w.heap.size, i, none⟩ = some (ovc Ov.zero i)) (hz : ∀ i, W2.frozen? ⟨w.heap.size, i, none⟩ = false) :
    OSt w B P W4.heap.size o (W4.alloc (.cells #[.int .i64 o.kind, .string o.name, .string o.dest, .int .i64 o.num, .string o.text] 24)) := by
  have n0 := new_cells W4 #[.int .i64 o.kind, .string o.name, .string o.dest, .int .i64 o.num, .string o.text] 24
  have hs := hT.2.size
  have hk : W4.heap[w.heap.size]? = W2.heap[w.heap.size]? := hT.2.block w.heap.size hW2 (fun e => by injection e with e; omega)
  have o0 := fun i => old_cells W4 (.cells #[.int .i64 o.kind, .string o.name, .string o.dest, .int .i64 o.num, .string o.text] 24) w.heap.size i (by omega)
  refine ⟨hR.alloc _, hBL, by omega, by simp, fun i hi => (n0.1 i).trans ?_, n0.2, fun i hi => (o0 i).1.trans ((World.cell?_of_block (w := W2) (a := ⟨w.heap.size, i, none⟩) hk).trans (hr i hi)), fun i => (o0 i).2.trans ((World.frozen?_of_block (w := W2) (a := ⟨w.heap.size, i, none⟩) hk).trans (hz i))⟩
  obtain rfl | rfl | rfl | rfl | rfl : i = 0 ∨ i = 1 ∨ i = 2 ∨ i = 3 ∨ i = 4 := by omega
  all_goals rfl

theorem OSt.cells {w : World} {B P b : Nat} {o : Ov} {W : World} (h : OSt w B P b o W) : W.cell? ⟨b, 0, none⟩ = some (.int .i64 o.kind) ∧ W.cell? ⟨b, 1, none⟩ = some (.string o.name) ∧ W.cell? ⟨b, 2, none⟩ = some (.string o.dest) ∧ W.cell? ⟨b, 3, none⟩ = some (.int .i64 o.num) ∧ W.cell? ⟨b, 4, none⟩ = some (.string o.text) ∧
    W.frozen? ⟨b, 0, none⟩ = false ∧ W.frozen? ⟨b, 1, none⟩ = false ∧ W.frozen? ⟨b, 2, none⟩ = false ∧ W.frozen? ⟨b, 3, none⟩ = false ∧ W.frozen? ⟨b, 4, none⟩ = false :=
  ⟨h.op 0 (by omega), h.op 1 (by omega), h.op 2 (by omega), h.op 3 (by omega), h.op 4 (by omega), h.fz 0, h.fz 1, h.fz 2, h.fz 3, h.fz 4⟩

theorem OSt.empty {w : World} {B P b : Nat} {o : Ov} {W : World} (h : OSt w B P b o W) : W.cell? ⟨w.heap.size, 0, none⟩ = some (.int .i64 0) ∧ W.cell? ⟨w.heap.size, 1, none⟩ = some (.string ⟨#[]⟩) ∧ W.cell? ⟨w.heap.size, 2, none⟩ = some (.string ⟨#[]⟩) ∧ W.cell? ⟨w.heap.size, 3, none⟩ = some (.int .i64 0) ∧ W.cell? ⟨w.heap.size, 4, none⟩ = some (.string ⟨#[]⟩) ∧
    W.frozen? ⟨w.heap.size, 0, none⟩ = false ∧ W.frozen? ⟨w.heap.size, 1, none⟩ = false ∧ W.frozen? ⟨w.heap.size, 2, none⟩ = false ∧ W.frozen? ⟨w.heap.size, 3, none⟩ = false ∧ W.frozen? ⟨w.heap.size, 4, none⟩ = false :=
  ⟨h.re 0 (by omega), h.re 1 (by omega), h.re 2 (by omega), h.re 3 (by omega), h.re 4 (by omega), h.rz 0, h.rz 1, h.rz 2, h.rz 3, h.rz 4⟩

set_option maxHeartbeats 6400000 in
theorem l71Op_any (B P : Nat) (w : World) (h : Rd B P w) (hP : P ≤ 800000000) :
    Calls Tryd.prog 20 #[.pointer (some ⟨B, 0, none⟩)] w fun e w' => ∃ o : Ov, e = .returned o.val ∧ OpSm o ∧ RdTo B (P + 12) w w' := by
  have hBL := h.lt
  have n0 := new_cells w #[.int .i64 0, .string ⟨#[]⟩, .string ⟨#[]⟩, .int .i64 0, .string ⟨#[]⟩] 24
  have HR0 : Hid (RdTo B P w ((w.alloc (.cells #[.int .i64 0, .string ⟨#[]⟩, .string ⟨#[]⟩, .int .i64 0, .string ⟨#[]⟩] 24)).alloc (.cells #[.string ⟨#[65]⟩, .string ⟨#[66]⟩, .string ⟨#[67]⟩, .string ⟨#[68]⟩] 9))) := Lib.hid (((RdTo.refl h).alloc _).alloc _)
  have hx := fun i => old_cells (w.alloc (.cells #[.int .i64 0, .string ⟨#[]⟩, .string ⟨#[]⟩, .int .i64 0, .string ⟨#[]⟩] 24)) (.cells #[.string ⟨#[65]⟩, .string ⟨#[66]⟩, .string ⟨#[67]⟩, .string ⟨#[68]⟩] 9) w.heap.size i (by simp)
  have HRE : Hid (∀ i, i < 5 → ((w.alloc (.cells #[.int .i64 0, .string ⟨#[]⟩, .string ⟨#[]⟩, .int .i64 0, .string ⟨#[]⟩] 24)).alloc (.cells #[.string ⟨#[65]⟩, .string ⟨#[66]⟩, .string ⟨#[67]⟩, .string ⟨#[68]⟩] 9)).cell? ⟨w.heap.size, i, none⟩ = some (ovc Ov.zero i)) := Lib.hid (fun i hi => ((hx i).1.trans (n0.1 i)).trans (by
    obtain rfl | rfl | rfl | rfl | rfl : i = 0 ∨ i = 1 ∨ i = 2 ∨ i = 3 ∨ i = 4 := by omega
    all_goals rfl))
  have HRZ : Hid (∀ i, ((w.alloc (.cells #[.int .i64 0, .string ⟨#[]⟩, .string ⟨#[]⟩, .int .i64 0, .string ⟨#[]⟩] 24)).alloc (.cells #[.string ⟨#[65]⟩, .string ⟨#[66]⟩, .string ⟨#[67]⟩, .string ⟨#[68]⟩] 9)).frozen? ⟨w.heap.size, i, none⟩ = false) := Lib.hid (fun i => (hx i).2.trans (n0.2 i))
  clear n0 hx
  go_enter Tryd.func20, Tryd.ntmps20
  go_wp2_with fail
  refine (of_any B P (w.heap.size + 1) 4 [⟨#[65]⟩, ⟨#[66]⟩, ⟨#[67]⟩, ⟨#[68]⟩] _ HR0.out.1 (by omega) rfl (by omega) (by omega) (by simp) (by omega) ?_).mono ?_
  · intro i hi
    obtain rfl | rfl | rfl | rfl : i = 0 ∨ i = 1 ∨ i = 2 ∨ i = 3 := by omega
    all_goals simp
  rintro e w2 ⟨s, rfl, hs, hR2⟩
  have hs1 := four_names s hs
  have HT2 := Lib.hid hR2
  clear hs hR2
  go_wp2_with fail
  refine (pick_any B (P + 1) 3 _ HT2.out.1 (by omega) (by omega)).mono ?_
  rintro e w3 ⟨q, rfl, q0, q1, hR3⟩
  have HT3 := Lib.hid (HT2.out.trans hR3)
  clear hR3
  go_wp2_with fail
  refine (l71Text_any B (P + 1 + 1) _ HT3.out.1 (by omega)).mono ?_
  rintro e w4 ⟨t, rfl, ht, hR4⟩
  have HT4 := Lib.hid (HT3.out.trans hR4)
  clear hR4
  have HS5 := Lib.hid (OSt.new ⟨2, s, ⟨#[]⟩, q, t⟩ (HR0.out.trans HT4.out) hBL HT4.out (by simp; omega) HRE.out HRZ.out)
  have ez : (⟨#[]⟩ : ByteArray).size = 0 := rfl
  go_wp2_with fail
  refine (pick_any B _ 12 _ HS5.out.rd.1 (by omega) (by omega)).mono ?_
  rintro e w6 ⟨r, rfl, r0, r1, hR6⟩
  have hS6 := HS5.out.turn hR6
  have hw4 := HS5.out.lo
  obtain ⟨b, hb⟩ : ∃ b, w4.heap.size = b := ⟨_, rfl⟩
  rw [hb] at hS6 hw4 ⊢
  have HS6 := Lib.hid hS6
  clear hR6 HS5 HT2 HT3 HT4 HRE HRZ HR0 hS6 hb
  go_upto_block 0 with fail
  go_cut [] from 13 (fun W => ∃ o, OpSm o ∧ OSt w B (P + 10) b o W)
  case first =>
    by_cases hr0 : r = 0
    · subst hr0
      obtain ⟨c0, c1, c2, c3, c4, f0, f1, f2, f3, f4⟩ := HS6.out.cells
      have HP6 := Lib.hid (pick_any B _ 6 w6.drew HS6.out.drew.rd.1 (by omega) (by omega))
      go_wp2_with fail
      go_region_with (go_at_call 29; refine HP6.out.mono ?_; rintro e w7 ⟨u, rfl, u0, u1, hR7⟩; have HS7 := Lib.hid (HS6.out.drew.turn hR7); clear hR7; have q8 : IntKind.i64.wrap (1 + u) = 1 + u := IntWalk.i64_in _ (by omega); obtain ⟨c0, c1, c2, c3, c4, f0, f1, f2, f3, f4⟩ := HS7.out.cells)
      all_goals (
        have HS8 := Lib.hid (HS7.out.set5 1 s ⟨#[]⟩ (1 + u) ⟨#[]⟩)
        go_wp2_with fail
        go_meet
        case rel => exact ⟨⟨1, s, ⟨#[]⟩, 1 + u, ⟨#[]⟩⟩, (by dsimp only [OpSm]; (try simp only [ez]); omega), HS8.out.mono (by omega)⟩)
    by_cases hr1 : r = 1
    · subst hr1
      obtain ⟨c0, c1, c2, c3, c4, f0, f1, f2, f3, f4⟩ := HS6.out.cells
      have HP6 := Lib.hid (pick_any B _ 6 w6.drew HS6.out.drew.rd.1 (by omega) (by omega))
      go_wp2_with fail
      go_region_with (go_at_call 29; refine HP6.out.mono ?_; rintro e w7 ⟨u, rfl, u0, u1, hR7⟩; have HS7 := Lib.hid (HS6.out.drew.turn hR7); clear hR7; have q8 : IntKind.i64.wrap (1 + u) = 1 + u := IntWalk.i64_in _ (by omega); obtain ⟨c0, c1, c2, c3, c4, f0, f1, f2, f3, f4⟩ := HS7.out.cells)
      all_goals (
        have HS8 := Lib.hid (HS7.out.set5 1 s ⟨#[]⟩ (1 + u) ⟨#[]⟩)
        go_wp2_with fail
        go_meet
        case rel => exact ⟨⟨1, s, ⟨#[]⟩, 1 + u, ⟨#[]⟩⟩, (by dsimp only [OpSm]; (try simp only [ez]); omega), HS8.out.mono (by omega)⟩)
    by_cases hr2 : r = 2
    · subst hr2
      obtain ⟨c0, c1, c2, c3, c4, f0, f1, f2, f3, f4⟩ := HS6.out.cells
      have hlt6 := HS6.out.lt
      have HP6 := Lib.hid (of_any B _ w6.drew.heap.size 4 [⟨#[65]⟩, ⟨#[66]⟩, ⟨#[67]⟩, ⟨#[68]⟩] (w6.drew.alloc (.cells #[.string ⟨#[65]⟩, .string ⟨#[66]⟩, .string ⟨#[67]⟩, .string ⟨#[68]⟩] 9)) (HS6.out.drew.alloc _).rd.1 (by omega) rfl (by omega) (by omega) (by simp) (by have := HS6.out.lt; have := HS6.out.BL; have := HS6.out.lo; show w6.heap.size ≠ B; omega) (fun i hi => ((new_cells w6.drew #[.string ⟨#[65]⟩, .string ⟨#[66]⟩, .string ⟨#[67]⟩, .string ⟨#[68]⟩] 9).1 i).trans (by
        obtain rfl | rfl | rfl | rfl : i = 0 ∨ i = 1 ∨ i = 2 ∨ i = 3 := by omega
        all_goals rfl)))
      go_wp2_with fail
      go_region_with (go_at_call 30; refine HP6.out.mono ?_; rintro e w7 ⟨s2, rfl, hs2, hR7⟩; have hs5 := four_names s2 hs2; have HS7 := Lib.hid ((HS6.out.drew.alloc _).turn hR7); clear hR7 hs2; obtain ⟨c0, c1, c2, c3, c4, f0, f1, f2, f3, f4⟩ := HS7.out.cells)
      all_goals (
        have HS8 := Lib.hid (HS7.out.set5 3 s s2 0 ⟨#[]⟩)
        go_wp2_with fail
        go_meet
        case rel => exact ⟨⟨3, s, s2, 0, ⟨#[]⟩⟩, (by dsimp only [OpSm]; (try simp only [ez]); omega), HS8.out.mono (by omega)⟩)
    by_cases hr3 : r = 3
    · subst hr3
      obtain ⟨c0, c1, c2, c3, c4, f0, f1, f2, f3, f4⟩ := HS6.out.cells
      have HS8 := Lib.hid (HS6.out.set5 4 s ⟨#[]⟩ 0 ⟨#[]⟩)
      go_wp2_with fail
      go_meet
      case rel => exact ⟨⟨4, s, ⟨#[]⟩, 0, ⟨#[]⟩⟩, (by dsimp only [OpSm]; (try simp only [ez]); omega), HS8.out.mono (by omega)⟩
    have r3 : (r == 0) = false := by simpa using hr0
    have r4 : (r == 1) = false := by simpa using hr1
    have r5 : (r == 2) = false := by simpa using hr2
    have r6 : (r == 3) = false := by simpa using hr3
    go_wp2_with fail
    go_meet
    case rel => exact ⟨⟨2, s, ⟨#[]⟩, q, t⟩, (by dsimp only [OpSm]; (try simp only [ez]); omega), HS6.out.mono (by omega)⟩
  obtain ⟨o, ho, hS8⟩ := hcut
  have HS8 := Lib.hid hS8
  clear hS8 HS6
  go_wp2_with fail
  refine (pick_any B _ 30 _ HS8.out.rd.1 (by omega) (by omega)).mono ?_
  rintro e w9 ⟨x, rfl, x0, x1, hR9⟩
  have HS9 := Lib.hid (HS8.out.turn hR9)
  clear hR9 HS8
  go_upto_block 1 with fail
  go_cut [] from 38 (fun W => ∃ o, OpSm o ∧ OSt w B (P + 12) b o W)
  case first =>
    obtain ⟨k, nm, dst, num, tx⟩ := o
    dsimp only [OpSm] at ho
    obtain ⟨c0, c1, c2, c3, c4, f0, f1, f2, f3, f4⟩ := HS9.out.cells
    by_cases hx0 : x = 0
    · subst hx0
      go_wp2_with fail
      refine (of_any B _ w9.heap.size 3 [⟨#[]⟩, ⟨#[69]⟩, ⟨#[65, 65]⟩] _ (HS9.out.alloc _).rd.1 (by omega) rfl (by omega) (by omega) (by simp) (by have := HS9.out.lt; have := HS9.out.BL; have := HS9.out.lo; omega) ?_).mono ?_
      · intro i hi
        obtain rfl | rfl | rfl : i = 0 ∨ i = 1 ∨ i = 2 := by omega
        all_goals simp
      rintro e w10 ⟨s3, rfl, hs3, hR10⟩
      have hs4 := bad_names s3 hs3
      have HS10 := Lib.hid (((HS9.out.alloc _).turn hR10))
      clear hs3 hR10
      have HS11 := Lib.hid (HS10.out.set1 s3)
      obtain ⟨c0, c1, c2, c3, c4, f0, f1, f2, f3, f4⟩ := HS10.out.cells
      go_wp2_with fail
      go_meet
      case rel => exact ⟨⟨k, s3, dst, num, tx⟩, (by dsimp only [OpSm]; (try simp only [ez]); omega), HS11.out.mono (by omega)⟩
    by_cases hx1 : x = 1
    · subst hx1
      go_wp2_with fail
      refine (pick_any B _ 9 _ HS9.out.rd.1 (by omega) (by omega)).mono ?_
      rintro e w10 ⟨y, rfl, y0, y1, hR10⟩
      have HS10 := Lib.hid (HS9.out.turn hR10)
      clear hR10
      have q9 : IntKind.i64.wrap (y - 1) = y - 1 := IntWalk.i64_in _ (by omega)
      have HS11 := Lib.hid (HS10.out.set3 (y - 1))
      obtain ⟨c0, c1, c2, c3, c4, f0, f1, f2, f3, f4⟩ := HS10.out.cells
      go_wp2_with fail
      go_meet
      case rel => exact ⟨⟨k, nm, dst, y - 1, tx⟩, (by dsimp only [OpSm]; (try simp only [ez]); omega), by first | exact HS11.out.mono (by omega) | (rw [q9]; exact HS11.out.mono (by omega))⟩
    by_cases hx2 : x = 2
    · subst hx2
      go_wp2_with fail
      refine (pick_any B _ 6 _ HS9.out.rd.1 (by omega) (by omega)).mono ?_
      rintro e w10 ⟨y, rfl, y0, y1, hR10⟩
      have HS10 := Lib.hid (HS9.out.turn hR10)
      clear hR10
      have HS11 := Lib.hid (HS10.out.set0 y)
      obtain ⟨c0, c1, c2, c3, c4, f0, f1, f2, f3, f4⟩ := HS10.out.cells
      go_wp2_with fail
      go_meet
      case rel => exact ⟨⟨y, nm, dst, num, tx⟩, (by dsimp only [OpSm]; (try simp only [ez]); omega), HS11.out.mono (by omega)⟩
    have x3 : (x == 0) = false := by simpa using hx0
    have x4 : (x == 1) = false := by simpa using hx1
    have x5 : (x == 2) = false := by simpa using hx2
    go_wp2_with fail
    go_meet
    case rel => exact ⟨⟨k, nm, dst, num, tx⟩, (by dsimp only [OpSm]; (try simp only [ez]); omega), HS9.out.mono (by omega)⟩
  clear HS9 ho
  obtain ⟨⟨k, nm, dst, num, tx⟩, ho2, hS12⟩ := hcut
  have HS12 := Lib.hid hS12
  have HO2 := Lib.hid ho2
  clear hS12 ho2
  obtain ⟨c0, c1, c2, c3, c4, f0, f1, f2, f3, f4⟩ := HS12.out.cells
  obtain ⟨d0, d1, d2, d3, d4, g0, g1, g2, g3, g4⟩ := HS12.out.empty
  go_wp2_with fail
  refine bodyPost_ret (v := (Ov.mk k nm dst num tx).val) (by simp [results, Tryd.f20, go_sem, Ov.val, d0, d1, d2, d3, d4]) rfl ⟨_, rfl, HO2.out, ?_⟩
  exact HS12.out.fin _ _ _ _ _

end Go.Proofs.YtplicodloanljaaDoor
