/- The laws' helpers on pools without disks; the model's PoolNew. -/
import Derived.Test.YtaoaclmcmeaedaaStoreV
import Derived.Test.YtaoaclmcmeaedaaVolArg
namespace Go.Proofs.Ytaoaclmcmeaedaa
open Go.RowKit
set_option linter.unusedVariables false
set_option maxRecDepth 100000

theorem eqVolS_nil (a b : Option Addr) (c d : Nat) (w : World) :
    Calls Try.prog 21 #[.slice a 0 c, .slice b 0 d] w fun e w' => e = .returned (.bool true) ∧ Below w.heap.size w w' := by
  go_enter Try.func21, Try.ntmps21
  go_wp2_with fail
  go_loop [5] (fun i' => i' = .int .i64 0) (fun _ => 0)
  case atStart => exact rfl
  case round =>
    obtain rfl := hrel
    go_wp2_with fail
    go_ret
    exact ⟨rfl, Below.refl _ _⟩

theorem markVolS_nil (a : Option Addr) (c k : Nat) (w : World) :
    Calls Try.prog 24 #[.slice a 0 c, .int .i64 (k : Int)] w fun e w' => e = .returned (.int .i64 (k : Int)) ∧ Below w.heap.size w w' := by
  go_enter Try.func24, Try.ntmps24
  go_wp2_with fail
  go_loop [1, 5] (fun k' i' => k' = .int .i64 (k : Int) ∧ i' = .int .i64 0) (fun _ _ => 0)
  case atStart => exact ⟨rfl, rfl⟩
  case round =>
    obtain ⟨rfl, rfl⟩ := hrel
    go_wp2_with fail
    go_ret
    exact ⟨rfl, Below.refl _ _⟩

theorem heldVolS_nil (a : Option Addr) (c k : Nat) (w : World) :
    Calls Try.prog 27 #[.slice a 0 c, .int .i64 (k : Int)] w fun e w' => e = .returned (.int .i64 (k : Int)) ∧ Below w.heap.size w w' := by
  go_enter Try.func27, Try.ntmps27
  go_wp2_with fail
  go_loop [1, 5] (fun k' i' => k' = .int .i64 (k : Int) ∧ i' = .int .i64 0) (fun _ _ => 0)
  case atStart => exact ⟨rfl, rfl⟩
  case round =>
    obtain ⟨rfl, rfl⟩ := hrel
    go_wp2_with fail
    go_ret
    exact ⟨rfl, Below.refl _ _⟩

/-- A pool's value in a box of the call's own. -/
structure BoxP (b : Nat) (v u : Value) (W : World) : Prop where
  lt : b < W.heap.size
  c0 : W.cell? ⟨b, 0, none⟩ = some v
  c1 : W.cell? ⟨b, 1, none⟩ = some u

theorem boxP_new (w : World) (v u : Value) (t : TypeId) : BoxP w.heap.size v u (w.alloc (.cells #[v, u] t)) :=
  ⟨by simp, (new_cells w #[v, u] t).1 0, (new_cells w #[v, u] t).1 1⟩

theorem BoxP.later {b : Nat} {v u : Value} {W W' : World} (h : BoxP b v u W) {C : Nat} (hb : Below C W W') (hC : W.heap.size ≤ C) : BoxP b v u W' :=
  ⟨Nat.lt_of_lt_of_le h.lt hb.size, (hb.cell (p := ⟨b, 0, none⟩) (Nat.lt_of_lt_of_le h.lt hC)).trans h.c0, (hb.cell (p := ⟨b, 1, none⟩) (Nat.lt_of_lt_of_le h.lt hC)).trans h.c1⟩

theorem BoxP.keeps {b B E : Nat} {v u : Value} {W W' : World} (h : BoxP b v u W) (hk : Keeps B E W W') (hd : b < B ∨ E ≤ b) : BoxP b v u W' :=
  ⟨Nat.lt_of_lt_of_le h.lt hk.size, (World.cell?_of_block (a := ⟨b, 0, none⟩) (hk.block b h.lt hd)).trans h.c0, (World.cell?_of_block (a := ⟨b, 1, none⟩) (hk.block b h.lt hd)).trans h.c1⟩

theorem OwnSl.shape {B E : Nat} {w : World} {v : Value} (h : OwnSl B E w v freshS) : ∃ g cap, v = .slice (some ⟨g, 0, none⟩) 8 cap := by
  rcases h with h | ⟨g, cap, rfl, _⟩
  · exact absurd h.1 (by simp [freshS])
  · exact ⟨g, cap, rfl⟩

theorem BoxP.alloc {b : Nat} {v u : Value} {W : World} (h : BoxP b v u W) (o : Obj) : BoxP b v u (W.alloc o) := h.later ((Below.refl W.heap.size W).alloc (Nat.le_refl _) o) (Nat.le_refl _)

set_option maxHeartbeats 800000 in
theorem eqPool_nil (v1 v2 : Value) (a b : Option Addr) (c d : Nat) (xs : List Sl) (w : World) (hx : Slv w v1 xs) (hy : Slv w v2 xs) :
    Calls Try.prog 11 #[.agg #[v1, .slice a 0 c], .agg #[v2, .slice b 0 d]] w fun e w' => e = .returned (.bool true) ∧ Below w.heap.size w w' := by
  have hb1 : Below w.heap.size w ((w.alloc (.cells #[v1, .slice a 0 c] 25)).alloc (.cells #[v2, .slice b 0 d] 25)) := ((Below.refl _ _).alloc (Nat.le_refl _) _).alloc (by simp) _
  have h1 := (boxP_new w v1 (.slice a 0 c) 25).alloc (.cells #[v2, .slice b 0 d] 25)
  have h2 := boxP_new (w.alloc (.cells #[v1, .slice a 0 c] 25)) v2 (.slice b 0 d) 25
  simp only [World.size_alloc] at h2
  have HS := Lib.hid (eqSlotS_same v1 v2 xs _ (hx.below hb1 (Nat.le_refl _)) (hy.below hb1 (Nat.le_refl _)))
  have HB := Lib.hid hb1
  have c0 := h1.c0
  have e0 := h2.c0
  have H1 := Lib.hid h1
  have H2 := Lib.hid h2
  clear h1 h2 hb1 hx hy
  go_enter Try.func11, Try.ntmps11
  go_wp2_with fail
  refine HS.out.mono ?_
  rintro e w3 ⟨rfl, hb3⟩
  have h1 := H1.out.later hb3 (Nat.le_refl _)
  have h2 := H2.out.later hb3 (Nat.le_refl _)
  have HB3 := Lib.hid (HB.out.trans (hb3.mono HB.out.size))
  clear hb3 c0 e0
  have c1 := h1.c1
  have e1 := h2.c1
  clear h1 h2
  go_wp2_with fail
  refine (eqVolS_nil a b c d w3).mono ?_
  rintro e w4 ⟨rfl, hb4⟩
  have hB := HB3.out.trans (hb4.mono HB3.out.size)
  clear hb4
  go_wp2_with fail
  go_ret
  exact ⟨rfl, hB⟩

set_option maxHeartbeats 800000 in
theorem markPool_nil (B E k : Nat) (v : Value) (a : Option Addr) (c : Nat) (xs : List Sl) (w : World) (h : OwnSl B E w v xs) (hE : E ≤ w.heap.size) (hn1 : xs.length ≤ 2000000) (hk : k ≤ 1000000) :
    Calls Try.prog 13 #[.agg #[v, .slice a 0 c], .int .i64 (k : Int)] w fun e w' => e = .returned (.int .i64 ((k + 2 * xs.length : Nat) : Int)) ∧ (∃ ys, OwnSl B E w' v ys ∧ ys.length = xs.length ∧ Marks k ys) ∧ Keeps B E w w' := by
  have h1 := boxP_new w v (.slice a 0 c) 25
  have hb1 : Below w.heap.size w (w.alloc (.cells #[v, .slice a 0 c] 25)) := (Below.refl _ _).alloc (Nat.le_refl _) _
  have HM := Lib.hid (markSlotS_any B E k v xs _ (h.below hb1 hE) hn1 hk)
  have HB := Lib.hid hb1
  have H1 := Lib.hid h1
  have c0 := h1.c0
  clear h1 hb1 h
  go_enter Try.func13, Try.ntmps13
  go_wp2_with fail
  refine HM.out.mono ?_
  rintro e w3 ⟨rfl, ⟨ys, hys, hyl, hym⟩, hk3⟩
  have hlt := H1.out.lt
  have c1 : w3.cell? ⟨w.heap.size, 1, none⟩ = some (.slice a 0 c) := (World.cell?_of_block (a := ⟨w.heap.size, 1, none⟩) (hk3.block w.heap.size hlt (.inr hE))).trans H1.out.c1
  have HK := Lib.hid hk3
  have HY := Lib.hid hys
  have HYL := Lib.hid hyl
  have HYM := Lib.hid hym
  clear hk3 hys hyl hym c0
  go_wp2_with fail
  refine (markVolS_nil a c (k + 2 * xs.length) w3).mono ?_
  rintro e w4 ⟨rfl, hb4⟩
  have hs3 := HK.out.size
  have hO : OwnSl B E w4 v ys := HY.out.below hb4 (by omega)
  have hK : Keeps B E w w4 := ((Go.Proofs.Ytaoaclmcmeaedaa.Below.keeps HB.out).trans HK.out).trans (Go.Proofs.Ytaoaclmcmeaedaa.Below.keeps hb4)
  clear hb4 c1
  go_wp2_with fail
  go_ret
  exact ⟨rfl, ⟨ys, hO, HYL.out, HYM.out⟩, hK⟩

set_option maxHeartbeats 800000 in
theorem heldPool_nil (B E k : Nat) (v : Value) (a : Option Addr) (c : Nat) (ys : List Sl) (w : World) (h : OwnSl B E w v ys) (hE : E ≤ w.heap.size) (hn1 : ys.length ≤ 2000000) (hk : k ≤ 1000000) (hm : Marks k ys) :
    Calls Try.prog 15 #[.agg #[v, .slice a 0 c], .int .i64 (k : Int)] w fun e w' => e = .returned (.int .i64 ((k + 2 * ys.length : Nat) : Int)) ∧ Below w.heap.size w w' := by
  have h1 := boxP_new w v (.slice a 0 c) 25
  have hb1 : Below w.heap.size w (w.alloc (.cells #[v, .slice a 0 c] 25)) := (Below.refl _ _).alloc (Nat.le_refl _) _
  have HM := Lib.hid (heldSlotS_any B E k v ys _ (h.below hb1 hE) hn1 hk hm)
  have HB := Lib.hid hb1
  have H1 := Lib.hid h1
  have c0 := h1.c0
  have hpos : ¬ ((k + 2 * ys.length : Nat) : Int) < 0 := by omega
  clear h1 hb1 h
  go_enter Try.func15, Try.ntmps15
  go_wp2_with fail
  refine HM.out.mono ?_
  rintro e w3 ⟨rfl, hb3⟩
  have c1 := (H1.out.later hb3 (Nat.le_refl _)).c1
  have HB3 := Lib.hid (HB.out.trans (hb3.mono HB.out.size))
  clear hb3 c0
  go_wp2_with fail
  refine (heldVolS_nil a c (k + 2 * ys.length) w3).mono ?_
  rintro e w4 ⟨rfl, hb4⟩
  have hB := HB3.out.trans (hb4.mono HB3.out.size)
  clear hb4 c1
  go_wp2_with fail
  go_ret
  exact ⟨rfl, hB⟩

set_option maxHeartbeats 800000 in
theorem poolNewS_nil (w : World) :
    Calls Try.prog 9 #[] w fun e w' => ∃ v a c, e = .returned (.agg #[v, .slice a 0 c]) ∧ OwnSl w.heap.size w'.heap.size w' v freshS ∧ Below w.heap.size w w' := by
  have HB : Hid (Below w.heap.size w (w.alloc (.cells #[.slice none 0 0, .slice none 0 0] 25))) := Lib.hid ((Below.refl _ _).alloc (Nat.le_refl _) _)
  have HS := Lib.hid (storeNewS_any (w.alloc (.cells #[.slice none 0 0, .slice none 0 0] 25)))
  have n0 := new_cells w #[.slice none 0 0, .slice none 0 0] 25
  have HN := Lib.hid n0
  clear n0
  go_enter Try.func9, Try.ntmps9
  go_wp2_with fail
  refine HS.out.mono ?_
  rintro e w2 ⟨rfl, hl, hs, hb⟩
  simp only [World.size_alloc] at hl hs hb
  have d0 := (hb.cell (p := ⟨w.heap.size, 0, none⟩) (by simp)).trans (HN.out.1 0)
  have d1 := (hb.cell (p := ⟨w.heap.size, 1, none⟩) (by simp)).trans (HN.out.1 1)
  have z0 := (hb.frozen (p := ⟨w.heap.size, 0, none⟩) (by simp)).trans (HN.out.2 0)
  have z1 := (hb.frozen (p := ⟨w.heap.size, 1, none⟩) (by simp)).trans (HN.out.2 1)
  have HB2 := Lib.hid (HB.out.trans (hb.mono (by omega)))
  have HSL := Lib.hid hs
  have HL := Lib.hid hl
  have hlt : w.heap.size < w2.heap.size := by omega
  clear hs hb hl
  go_wp2_with fail
  have hz : ((w2.setCell ⟨w.heap.size, 0, none⟩ (.slice (some ⟨w.heap.size + 1, 0, none⟩) 8 8)).setCell ⟨w.heap.size, 1, none⟩ (.slice (some ⟨w2.heap.size, 0, none⟩) 0 0)).heap.size = w2.heap.size := by simp [World.setCell]
  have hsl := (HSL.out.kept (grownBy_trans (grownBy_setCell w2 ⟨w.heap.size, 0, none⟩ (.slice (some ⟨w.heap.size + 1, 0, none⟩) 8 8)) (grownBy_setCell _ ⟨w.heap.size, 1, none⟩ (.slice (some ⟨w2.heap.size, 0, none⟩) 0 0))) HL.out (fun e => by simp at e)).kept (World.grownBy_alloc ((w2.setCell ⟨w.heap.size, 0, none⟩ (.slice (some ⟨w.heap.size + 1, 0, none⟩) 8 8)).setCell ⟨w.heap.size, 1, none⟩ (.slice (some ⟨w2.heap.size, 0, none⟩) 0 0)) (.cells #[] 71) none) (by rw [hz]; have := HL.out; omega) (by simp)
  refine bodyPost_ret (v := .agg #[.slice (some ⟨w.heap.size + 1, 0, none⟩) 8 8, .slice (some ⟨w2.heap.size, 0, none⟩) 0 0]) (by simp [results, Try.f9, go_sem, d0, d1, hlt]) rfl ⟨_, _, _, rfl, ?_, ?_⟩
  · exact .inr ⟨w.heap.size + 1, 8, rfl, by omega, by simp only [World.size_alloc, hz]; have := HL.out; omega, Nat.le_refl _, by decide, by decide, hsl⟩
  · exact ((HB2.out.setCell (p := ⟨w.heap.size, 0, none⟩) (Nat.le_refl _) _).setCell (p := ⟨w.heap.size, 1, none⟩) (Nat.le_refl _) _).alloc (by simp only [hz]; omega) _

end Go.Proofs.Ytaoaclmcmeaedaa
