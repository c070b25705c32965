/- Logs without operations: the laws' helpers, the model's LogNew, the program's LogNew. -/
import Derived.Test.YtaoaclmcmeaedaaPoolNewI
namespace Go.Proofs.Ytaoaclmcmeaedaa
open Go.RowKit
set_option linter.unusedVariables false
set_option linter.unusedSimpArgs false
set_option maxRecDepth 100000

theorem eqOpS_nil (a b : Option Addr) (c d : Nat) (w : World) :
    Calls Try.prog 12 #[.slice a 0 c, .slice b 0 d] w fun e w' => e = .returned (.bool true) ∧ Below w.heap.size w w' := by
  go_enter Try.func12, Try.ntmps12
  go_wp2_with fail
  go_loop [5] (fun i' => i' = .int .i64 0) (fun _ => 0)
  case atStart => exact rfl
  case round =>
    obtain rfl := hrel
    go_wp2_with fail
    go_ret
    exact ⟨rfl, Below.refl _ _⟩

theorem markOpS_nil (a : Option Addr) (c k : Nat) (w : World) :
    Calls Try.prog 14 #[.slice a 0 c, .int .i64 (k : Int)] w fun e w' => e = .returned (.int .i64 (k : Int)) ∧ Below w.heap.size w w' := by
  go_enter Try.func14, Try.ntmps14
  go_wp2_with fail
  go_loop [1, 5] (fun k' i' => k' = .int .i64 (k : Int) ∧ i' = .int .i64 0) (fun _ _ => 0)
  case atStart => exact ⟨rfl, rfl⟩
  case round =>
    obtain ⟨rfl, rfl⟩ := hrel
    go_wp2_with fail
    go_ret
    exact ⟨rfl, Below.refl _ _⟩

theorem heldOpS_nil (a : Option Addr) (c k : Nat) (w : World) :
    Calls Try.prog 16 #[.slice a 0 c, .int .i64 (k : Int)] w fun e w' => e = .returned (.int .i64 (k : Int)) ∧ Below w.heap.size w w' := by
  go_enter Try.func16, Try.ntmps16
  go_wp2_with fail
  go_loop [1, 5] (fun k' i' => k' = .int .i64 (k : Int) ∧ i' = .int .i64 0) (fun _ _ => 0)
  case atStart => exact ⟨rfl, rfl⟩
  case round =>
    obtain ⟨rfl, rfl⟩ := hrel
    go_wp2_with fail
    go_ret
    exact ⟨rfl, Below.refl _ _⟩

/-- A log's value in a box of the call's own. -/
structure BoxL (b : Nat) (v u o : Value) (W : World) : Prop where
  lt : b < W.heap.size
  c0 : W.cell? ⟨b, 0, none⟩ = some v
  c1 : W.cell? ⟨b, 1, none⟩ = some u
  c2 : W.cell? ⟨b, 2, none⟩ = some o
  c3 : W.cell? ⟨b, 3, none⟩ = some (.int .i64 0)

theorem boxL_new (w : World) (v u o : Value) (t : TypeId) : BoxL w.heap.size v u o (w.alloc (.cells #[v, u, o, .int .i64 0] t)) :=
  ⟨by simp, (new_cells w #[v, u, o, .int .i64 0] t).1 0, (new_cells w #[v, u, o, .int .i64 0] t).1 1, (new_cells w #[v, u, o, .int .i64 0] t).1 2, (new_cells w #[v, u, o, .int .i64 0] t).1 3⟩

theorem BoxL.later {b : Nat} {v u o : Value} {W W' : World} (h : BoxL b v u o W) {C : Nat} (hb : Below C W W') (hC : W.heap.size ≤ C) : BoxL b v u o W' :=
  ⟨Nat.lt_of_lt_of_le h.lt hb.size, (hb.cell (p := ⟨b, 0, none⟩) (Nat.lt_of_lt_of_le h.lt hC)).trans h.c0, (hb.cell (p := ⟨b, 1, none⟩) (Nat.lt_of_lt_of_le h.lt hC)).trans h.c1,
    (hb.cell (p := ⟨b, 2, none⟩) (Nat.lt_of_lt_of_le h.lt hC)).trans h.c2, (hb.cell (p := ⟨b, 3, none⟩) (Nat.lt_of_lt_of_le h.lt hC)).trans h.c3⟩

theorem BoxL.keeps {b B E : Nat} {v u o : Value} {W W' : World} (h : BoxL b v u o W) (hk : Keeps B E W W') (hd : b < B ∨ E ≤ b) : BoxL b v u o W' :=
  ⟨Nat.lt_of_lt_of_le h.lt hk.size, (World.cell?_of_block (a := ⟨b, 0, none⟩) (hk.block b h.lt hd)).trans h.c0, (World.cell?_of_block (a := ⟨b, 1, none⟩) (hk.block b h.lt hd)).trans h.c1,
    (World.cell?_of_block (a := ⟨b, 2, none⟩) (hk.block b h.lt hd)).trans h.c2, (World.cell?_of_block (a := ⟨b, 3, none⟩) (hk.block b h.lt hd)).trans h.c3⟩

theorem BoxL.alloc {b : Nat} {v u o : Value} {W : World} (h : BoxL b v u o W) (x : Obj) : BoxL b v u o (W.alloc x) := h.later ((Below.refl W.heap.size W).alloc (Nat.le_refl _) x) (Nat.le_refl _)

set_option maxHeartbeats 800000 in
theorem eqLog_nil (v1 v2 : Value) (a b e1 e2 : Option Addr) (c d c1 c2 : Nat) (xs : List Sl) (w : World) (hx : Slv w v1 xs) (hy : Slv w v2 xs) :
    Calls Try.prog 6 #[.agg #[v1, .slice a 0 c, .slice e1 0 c1, .int .i64 0], .agg #[v2, .slice b 0 d, .slice e2 0 c2, .int .i64 0]] w fun e w' => e = .returned (.bool true) ∧ Below w.heap.size w w' := by
  have hb1 : Below w.heap.size w ((w.alloc (.cells #[v1, .slice a 0 c, .slice e1 0 c1, .int .i64 0] 28)).alloc (.cells #[v2, .slice b 0 d, .slice e2 0 c2, .int .i64 0] 28)) := ((Below.refl _ _).alloc (Nat.le_refl _) _).alloc (by simp) _
  have h1 := (boxL_new w v1 (.slice a 0 c) (.slice e1 0 c1) 28).alloc (.cells #[v2, .slice b 0 d, .slice e2 0 c2, .int .i64 0] 28)
  have h2 := boxL_new (w.alloc (.cells #[v1, .slice a 0 c, .slice e1 0 c1, .int .i64 0] 28)) v2 (.slice b 0 d) (.slice e2 0 c2) 28
  simp only [World.size_alloc] at h2
  have HS := Lib.hid (eqPool_nil v1 v2 a b c d xs _ (hx.below hb1 (Nat.le_refl _)) (hy.below hb1 (Nat.le_refl _)))
  have HB := Lib.hid hb1
  have k0 := h1.c0
  have k1 := h1.c1
  have l0 := h2.c0
  have l1 := h2.c1
  have H1 := Lib.hid h1
  have H2 := Lib.hid h2
  clear h1 h2 hb1 hx hy
  go_enter Try.func6, Try.ntmps6
  go_wp2_with fail
  refine HS.out.mono ?_
  rintro e w3 ⟨rfl, hb3⟩
  have h1 := H1.out.later hb3 (Nat.le_refl _)
  have h2 := H2.out.later hb3 (Nat.le_refl _)
  have HB3 := Lib.hid (HB.out.trans (hb3.mono HB.out.size))
  clear hb3 k0 k1 l0 l1
  have k2 := h1.c2
  have l2 := h2.c2
  have G1 := Lib.hid h1
  have G2 := Lib.hid h2
  clear h1 h2
  go_wp2_with fail
  refine (eqOpS_nil e1 e2 c1 c2 w3).mono ?_
  rintro e w4 ⟨rfl, hb4⟩
  have k3 := (G1.out.later hb4 (Nat.le_refl _)).c3
  have l3 := (G2.out.later hb4 (Nat.le_refl _)).c3
  have hB := HB3.out.trans (hb4.mono HB3.out.size)
  clear hb4
  go_wp2_with fail
  go_ret
  exact ⟨rfl, hB⟩

set_option maxHeartbeats 800000 in
theorem markLog_nil (B E k : Nat) (v : Value) (a b : Option Addr) (c d : Nat) (xs : List Sl) (w : World) (h : OwnSl B E w v xs) (hE : E ≤ w.heap.size) (hn1 : xs.length ≤ 2000000) (hk : k ≤ 1000000) :
    Calls Try.prog 7 #[.agg #[v, .slice a 0 c, .slice b 0 d, .int .i64 0], .int .i64 (k : Int)] w fun e w' => e = .returned (.int .i64 ((k + 2 * xs.length : Nat) : Int)) ∧ (∃ ys, OwnSl B E w' v ys ∧ ys.length = xs.length ∧ Marks k ys) ∧ Keeps B E w w' := by
  have h1 := boxL_new w v (.slice a 0 c) (.slice b 0 d) 28
  have hb1 : Below w.heap.size w (w.alloc (.cells #[v, .slice a 0 c, .slice b 0 d, .int .i64 0] 28)) := (Below.refl _ _).alloc (Nat.le_refl _) _
  have HM := Lib.hid (markPool_nil B E k v a c xs _ (h.below hb1 hE) (by simp; omega) hn1 hk)
  have HB := Lib.hid hb1
  have H1 := Lib.hid h1
  have c0 := h1.c0
  have c1 := h1.c1
  clear h1 hb1 h
  go_enter Try.func7, Try.ntmps7
  go_wp2_with fail
  refine HM.out.mono ?_
  rintro e w3 ⟨rfl, ⟨ys, hys, hyl, hym⟩, hk3⟩
  have hlt := H1.out.lt
  have c2 : w3.cell? ⟨w.heap.size, 2, none⟩ = some (.slice b 0 d) := (World.cell?_of_block (a := ⟨w.heap.size, 2, none⟩) (hk3.block w.heap.size hlt (.inr hE))).trans H1.out.c2
  have HK := Lib.hid hk3
  have HY := Lib.hid hys
  have HYL := Lib.hid hyl
  have HYM := Lib.hid hym
  clear hk3 hys hyl hym c0 c1
  go_wp2_with fail
  refine (markOpS_nil b d (k + 2 * xs.length) w3).mono ?_
  rintro e w4 ⟨rfl, hb4⟩
  have hs3 := HK.out.size
  have hO : OwnSl B E w4 v ys := HY.out.below hb4 (by simp at hs3; omega)
  have hK : Keeps B E w w4 := ((Go.Proofs.Ytaoaclmcmeaedaa.Below.keeps HB.out).trans HK.out).trans (Go.Proofs.Ytaoaclmcmeaedaa.Below.keeps hb4)
  clear hb4 c2
  go_wp2_with fail
  go_ret
  exact ⟨rfl, ⟨ys, hO, HYL.out, HYM.out⟩, hK⟩

set_option maxHeartbeats 800000 in
theorem heldLog_nil (B E k : Nat) (v : Value) (a b : Option Addr) (c d : Nat) (ys : List Sl) (w : World) (h : OwnSl B E w v ys) (hE : E ≤ w.heap.size) (hn1 : ys.length ≤ 2000000) (hk : k ≤ 1000000) (hm : Marks k ys) :
    Calls Try.prog 8 #[.agg #[v, .slice a 0 c, .slice b 0 d, .int .i64 0], .int .i64 (k : Int)] w fun e w' => e = .returned (.int .i64 ((k + 2 * ys.length : Nat) : Int)) ∧ Below w.heap.size w w' := by
  have h1 := boxL_new w v (.slice a 0 c) (.slice b 0 d) 28
  have hb1 : Below w.heap.size w (w.alloc (.cells #[v, .slice a 0 c, .slice b 0 d, .int .i64 0] 28)) := (Below.refl _ _).alloc (Nat.le_refl _) _
  have HM := Lib.hid (heldPool_nil B E k v a c ys _ (h.below hb1 hE) (by simp; omega) hn1 hk hm)
  have HB := Lib.hid hb1
  have H1 := Lib.hid h1
  have c0 := h1.c0
  have c1 := h1.c1
  have hpos : ¬ ((k + 2 * ys.length : Nat) : Int) < 0 := by omega
  clear h1 hb1 h
  go_enter Try.func8, Try.ntmps8
  go_wp2_with fail
  refine HM.out.mono ?_
  rintro e w3 ⟨rfl, hb3⟩
  have c2 := (H1.out.later hb3 (Nat.le_refl _)).c2
  have HB3 := Lib.hid (HB.out.trans (hb3.mono HB.out.size))
  clear hb3 c0 c1
  go_wp2_with fail
  refine (heldOpS_nil b d (k + 2 * ys.length) w3).mono ?_
  rintro e w4 ⟨rfl, hb4⟩
  have hB := HB3.out.trans (hb4.mono HB3.out.size)
  clear hb4 c2
  go_wp2_with fail
  go_ret
  exact ⟨rfl, hB⟩

set_option maxHeartbeats 800000 in
theorem logNewS_nil (w : World) :
    Calls Try.prog 4 #[] w fun e w' => ∃ v a c b d, e = .returned (.agg #[v, .slice a 0 c, .slice b 0 d, .int .i64 0]) ∧ OwnSl w.heap.size w'.heap.size w' v freshS ∧ Below w.heap.size w w' := by
  have HB : Hid (Below w.heap.size w (w.alloc (.cells #[.slice none 0 0, .slice none 0 0, .slice none 0 0, .int .i64 0] 28))) := Lib.hid ((Below.refl _ _).alloc (Nat.le_refl _) _)
  have HS := Lib.hid (poolNewS_nil (w.alloc (.cells #[.slice none 0 0, .slice none 0 0, .slice none 0 0, .int .i64 0] 28)))
  have n0 := new_cells w #[.slice none 0 0, .slice none 0 0, .slice none 0 0, .int .i64 0] 28
  have HN := Lib.hid n0
  clear n0
  go_enter Try.func4, Try.ntmps4
  go_wp2_with fail
  refine HS.out.mono ?_
  rintro e w2 ⟨v, a, c, rfl, hs, hb⟩
  obtain ⟨g, cap, rfl⟩ := hs.shape
  simp only [World.size_alloc] at hs hb
  have hl := hb.size
  have d0 := (hb.cell (p := ⟨w.heap.size, 0, none⟩) (by simp)).trans (HN.out.1 0)
  have d1 := (hb.cell (p := ⟨w.heap.size, 1, none⟩) (by simp)).trans (HN.out.1 1)
  have d2 := (hb.cell (p := ⟨w.heap.size, 2, none⟩) (by simp)).trans (HN.out.1 2)
  have d3 := (hb.cell (p := ⟨w.heap.size, 3, none⟩) (by simp)).trans (HN.out.1 3)
  have z0 := (hb.frozen (p := ⟨w.heap.size, 0, none⟩) (by simp)).trans (HN.out.2 0)
  have z1 := (hb.frozen (p := ⟨w.heap.size, 1, none⟩) (by simp)).trans (HN.out.2 1)
  have z2 := (hb.frozen (p := ⟨w.heap.size, 2, none⟩) (by simp)).trans (HN.out.2 2)
  have z3 := (hb.frozen (p := ⟨w.heap.size, 3, none⟩) (by simp)).trans (HN.out.2 3)
  have HB2 := Lib.hid (HB.out.trans (hb.mono (by omega)))
  have HSL := Lib.hid hs
  have hlt : w.heap.size < w2.heap.size := by simp at hl; omega
  clear hs hb hl
  go_wp2_with fail
  have hgr := grownBy_trans (grownBy_trans (grownBy_trans (grownBy_setCell w2 ⟨w.heap.size, 0, none⟩ (.slice (some ⟨g, 0, none⟩) 8 cap)) (grownBy_setCell _ ⟨w.heap.size, 1, none⟩ (.slice a 0 c))) (grownBy_setCell _ ⟨w.heap.size, 2, none⟩ (.slice (some ⟨w2.heap.size, 0, none⟩) 0 0))) (grownBy_setCell _ ⟨w.heap.size, 3, none⟩ (.int .i64 0))
  have hO := HSL.out.keeps (grown_keeps hgr (Nat.le_refl _) (Nat.lt_succ_self _)) (.inr (Nat.le_refl _))
  have hsz := hgr.size
  have hB := (((HB2.out.setCell (p := ⟨w.heap.size, 0, none⟩) (Nat.le_refl _) (.slice (some ⟨g, 0, none⟩) 8 cap)).setCell (p := ⟨w.heap.size, 1, none⟩) (Nat.le_refl _) (.slice a 0 c)).setCell (p := ⟨w.heap.size, 2, none⟩) (Nat.le_refl _) (.slice (some ⟨w2.heap.size, 0, none⟩) 0 0)).setCell (p := ⟨w.heap.size, 3, none⟩) (Nat.le_refl _) (.int .i64 0)
  have HO := Lib.hid hO
  have HSZ := Lib.hid hsz
  have HBB := Lib.hid hB
  clear hgr hO hsz hB
  refine bodyPost_ret (v := .agg #[.slice (some ⟨g, 0, none⟩) 8 cap, .slice a 0 c, .slice (some ⟨w2.heap.size, 0, none⟩) 0 0, .int .i64 0]) (by simp [results, Try.f4, go_sem, d0, d1, d2, d3, hlt]) rfl ⟨_, _, _, _, _, rfl, ?_, ?_⟩
  · have hb9 := (Below.refl _ (((((w2.setCell ⟨w.heap.size, 0, none⟩ (.slice (some ⟨g, 0, none⟩) 8 cap)).setCell ⟨w.heap.size, 1, none⟩ (.slice a 0 c)).setCell ⟨w.heap.size, 2, none⟩ (.slice (some ⟨w2.heap.size, 0, none⟩) 0 0)).setCell ⟨w.heap.size, 3, none⟩ (.int .i64 0)))).alloc (Nat.le_refl _) (.cells #[] 55)
    refine (HO.out.below hb9 HSZ.out).wider (Nat.le_succ _) ?_ (Nat.le_refl _)
    have := HSZ.out
    rw [World.size_alloc]
    omega
  · exact HBB.out.alloc (by have := HSZ.out; omega) _

set_option maxHeartbeats 800000 in
theorem logFrom_nil (w : World) :
    Calls Try.prog 10 #[.agg (flat freshS ++ [Value.map none, .slice none 0 0, .int .i64 0]).toArray] w fun e w' => ∃ v, e = .returned (.agg #[v, .slice none 0 0, .slice none 0 0, .int .i64 0]) ∧ NewSl w.heap.size w' v freshS ∧ Below w.heap.size w w' := by
  have n1 := new_cells w (flat freshS ++ [Value.map none, .slice none 0 0, .int .i64 0]).toArray 45
  have HP : Hid (∀ w : World, Calls Try.prog 18 #[.agg #[.string ⟨#[]⟩, .int .i64 0, .string ⟨#[]⟩, .int .i64 0, .string ⟨#[]⟩, .int .i64 0, .string ⟨#[]⟩, .int .i64 0, .string ⟨#[]⟩, .int .i64 0, .string ⟨#[]⟩, .int .i64 0, .string ⟨#[]⟩, .int .i64 0, .string ⟨#[]⟩, .int .i64 0, .map none]] w fun e w' => ∃ v, e = .returned (.agg #[v, .slice none 0 0]) ∧ NewSl w.heap.size w' v freshS ∧ Below w.heap.size w w') := Lib.hid poolFrom_nil
  have hgen : ∀ vv : Array Value, vv = (flat freshS ++ [Value.map none, .slice none 0 0, .int .i64 0]).toArray → Calls Try.prog 10 #[.agg vv] w fun e w' => ∃ v, e = .returned (.agg #[v, .slice none 0 0, .slice none 0 0, .int .i64 0]) ∧ NewSl w.heap.size w' v freshS ∧ Below w.heap.size w w' := by
    intro vv hv
    rw [← hv] at n1
    have hc : w.heap.size < ((w.alloc (.cells vv 45)).alloc (.cells #[.slice none 0 0, .slice none 0 0, .slice none 0 0, .int .i64 0] 28)).heap.size := by simp; omega
    have hb2 : Below w.heap.size w ((w.alloc (.cells vv 45)).alloc (.cells #[.slice none 0 0, .slice none 0 0, .slice none 0 0, .int .i64 0] 28)) := ((Below.refl _ _).alloc (Nat.le_refl _) _).alloc (by simp) _
    have hr : ((w.alloc (.cells vv 45)).alloc (.cells #[.slice none 0 0, .slice none 0 0, .slice none 0 0, .int .i64 0] 28)).rangeAt w.heap.size 0 (flat freshS ++ [Value.map none]) := fun k x hx => by
      rw [(old_cells _ _ _ _ (by simp)).1, Nat.zero_add, n1.1 k, hv, List.getElem?_toArray]
      have hk : k < 17 := by have := (List.getElem?_eq_some_iff.1 hx).1; simpa [flat_length, freshS] using this
      rw [← hx, show flat freshS ++ [Value.map none, .slice none 0 0, .int .i64 0] = (flat freshS ++ [Value.map none]) ++ [.slice none 0 0, .int .i64 0] from by simp, List.getElem?_append_left (by simpa [flat_length, freshS] using hk)]
    have hc17 : ((w.alloc (.cells vv 45)).alloc (.cells #[.slice none 0 0, .slice none 0 0, .slice none 0 0, .int .i64 0] 28)).cell? ⟨w.heap.size, 17, none⟩ = some (.slice none 0 0) := by rw [(old_cells _ _ _ _ (by simp)).1, n1.1 17, hv]; rfl
    have hc18 : ((w.alloc (.cells vv 45)).alloc (.cells #[.slice none 0 0, .slice none 0 0, .slice none 0 0, .int .i64 0] 28)).cell? ⟨w.heap.size, 18, none⟩ = some (.int .i64 0) := by rw [(old_cells _ _ _ _ (by simp)).1, n1.1 18, hv]; rfl
    have n2 := new_cells (w.alloc (.cells vv 45)) #[.slice none 0 0, .slice none 0 0, .slice none 0 0, .int .i64 0] 28
    rw [World.size_alloc] at n2
    have HKS : Hid (∀ W, Below ((w.alloc (.cells vv 45)).alloc (.cells #[.slice none 0 0, .slice none 0 0, .slice none 0 0, .int .i64 0] 28)).heap.size ((w.alloc (.cells vv 45)).alloc (.cells #[.slice none 0 0, .slice none 0 0, .slice none 0 0, .int .i64 0] 28)) W → W.rangeAt w.heap.size 0 (flat freshS ++ [Value.map none]) ∧ W.cell? ⟨w.heap.size, 17, none⟩ = some (.slice none 0 0) ∧ W.cell? ⟨w.heap.size, 18, none⟩ = some (.int .i64 0) ∧ Below ((w.alloc (.cells vv 45)).alloc (.cells #[.slice none 0 0, .slice none 0 0, .slice none 0 0, .int .i64 0] 28)).heap.size ((w.alloc (.cells vv 45)).alloc (.cells #[.slice none 0 0, .slice none 0 0, .slice none 0 0, .int .i64 0] 28)) W) :=
      Lib.hid (fun W hb => ⟨fun k x hx => (hb.cell (p := ⟨w.heap.size, 0 + k, none⟩) hc).trans (hr k x hx), (hb.cell (p := ⟨w.heap.size, 17, none⟩) hc).trans hc17, (hb.cell (p := ⟨w.heap.size, 18, none⟩) hc).trans hc18, hb⟩)
    have HB2 := Lib.hid hb2
    have HN2 := Lib.hid n2
    have HSZ2 : Hid (((w.alloc (.cells vv 45)).alloc (.cells #[.slice none 0 0, .slice none 0 0, .slice none 0 0, .int .i64 0] 28)).heap.size = w.heap.size + 2) := Lib.hid (by simp)
    clear hr hc17 hc18 n2 n1 hb2 hc hv
    go_enter Try.func10, Try.ntmps10
    go_wp2_with fail
    refine wp_region_noPanic ?_
    refine wp_region_held_drew (S := (fun W => W.rangeAt w.heap.size 0 (flat freshS ++ [Value.map none]) ∧ W.cell? ⟨w.heap.size, 17, none⟩ = some (.slice none 0 0) ∧ W.cell? ⟨w.heap.size, 18, none⟩ = some (.int .i64 0) ∧ Below ((w.alloc (.cells vv 45)).alloc (.cells #[.slice none 0 0, .slice none 0 0, .slice none 0 0, .int .i64 0] 28)).heap.size ((w.alloc (.cells vv 45)).alloc (.cells #[.slice none 0 0, .slice none 0 0, .slice none 0 0, .int .i64 0] 28)) W)) (by kernel_rfl) (HKS.out _ (below_drew (Below.refl _ _))) (fun hHeld => ?_)
    refine' wpAnyH_take (i := 0) rfl ?cl0 ?dl0 ?el0 (fun _ _ _ h => h) (Or.inl ⟨?hl0, ?yl0⟩) hHeld ?rl0; (case hl0 => kernel_rfl); (case cl0 => kernel_rfl); (case dl0 => kernel_rfl); (case el0 => kernel_rfl); (case yl0 => (intro w hSw; (try dsimp only at hSw); obtain ⟨_, hS17, hS18, _⟩ := hSw; simp only [List.getElem_toArray, List.getElem_cons_succ, List.getElem_cons_zero]; go_simp; try with_reducible rfl)); simp only [List.getElem_toArray, List.getElem_cons_succ, List.getElem_cons_zero, Act.put, List.setIfInBounds_toArray, List.set_cons_zero, List.set_cons_succ]
    refine' wpAnyH_take (i := 1) rfl ?cl1 ?dl1 ?el1 (fun _ _ _ h => h) (yieldsIf_load_mid (by kernel_rfl) 41 (.tmp 6) rfl w.heap.size 0 rfl (flat freshS ++ [Value.map none]) _ (fun W h => h.1) Try.underlying41 rfl (by kernel_rfl)) hHeld ?rl1; (case cl1 => kernel_rfl); (case dl1 => kernel_rfl); (case el1 => kernel_rfl); simp only [List.getElem_toArray, List.getElem_cons_succ, List.getElem_cons_zero, Act.put, List.setIfInBounds_toArray, List.set_cons_zero, List.set_cons_succ]
    refine' wpAnyH_take (i := 3) rfl ?cl3 ?dl3 ?el3 (fun _ _ _ h => h) (Or.inl ⟨?hl3, ?yl3⟩) hHeld ?rl3; (case hl3 => kernel_rfl); (case cl3 => kernel_rfl); (case dl3 => kernel_rfl); (case el3 => kernel_rfl); (case yl3 => (intro w hSw; (try dsimp only at hSw); obtain ⟨_, hS17, hS18, _⟩ := hSw; simp only [List.getElem_toArray, List.getElem_cons_succ, List.getElem_cons_zero]; go_simp; try with_reducible rfl)); simp only [List.getElem_toArray, List.getElem_cons_succ, List.getElem_cons_zero, Act.put, List.setIfInBounds_toArray, List.set_cons_zero, List.set_cons_succ]
    refine' wpAnyH_take (i := 4) rfl ?cl4 ?dl4 ?el4 (fun _ _ _ h => h) (Or.inl ⟨?hl4, ?yl4⟩) hHeld ?rl4; (case hl4 => kernel_rfl); (case cl4 => kernel_rfl); (case dl4 => kernel_rfl); (case el4 => kernel_rfl); (case yl4 => (intro w hSw; (try dsimp only at hSw); obtain ⟨_, hS17, hS18, _⟩ := hSw; simp only [List.getElem_toArray, List.getElem_cons_succ, List.getElem_cons_zero]; go_simp; try with_reducible rfl)); simp only [List.getElem_toArray, List.getElem_cons_succ, List.getElem_cons_zero, Act.put, List.setIfInBounds_toArray, List.set_cons_zero, List.set_cons_succ]
    refine wpAnyH_ready (rs := [2, 6]) (by kernel_rfl) (by simp) ?_
    refine AllReadyH.cons rfl (fun K hK => ?_) (AllReadyH.cons rfl (fun K hK => ?_) AllReadyH.nil)
    · simp only [List.getElem_toArray, List.getElem_cons_succ, List.getElem_cons_zero]
      go_simp
      go_at_call 18
      refine (HP.out _).mono ?_
      rintro e w3 ⟨v, rfl, hN, hb3⟩
      obtain ⟨g, cap, rfl⟩ := hN.own.shape
      have hN3 : NewSl w.heap.size w3 (.slice (some ⟨g, 0, none⟩) 8 cap) freshS := by
        rcases hN with h | ⟨g', cap', hv, h1, h2⟩
        · exact .inl h
        · exact .inr ⟨g', cap', hv, Nat.le_trans (by simp <;> omega) h1, h2⟩
      have hres : g ≠ w.heap.size + 1 := by
        rcases hN with h | ⟨g', cap', hv, h1, h2, h3⟩
        · exact absurd h.1 (by simp [freshS])
        · simp only [Value.slice.injEq, Option.some.injEq, Addr.mk.injEq, and_true] at hv
          obtain ⟨rfl, -⟩ := hv
          have h1' : w.heap.size + 2 ≤ g := Nat.le_trans (by simp) h1
          omega
      have hapart : g ≠ w3.heap.size := by
        rcases hN with h | ⟨g', cap', hv, h1, h2, h3⟩
        · exact absurd h.1 (by simp [freshS])
        · simp only [Value.slice.injEq, Option.some.injEq, Addr.mk.injEq, and_true] at hv
          obtain ⟨rfl, -⟩ := hv
          exact Nat.ne_of_lt h2
      have HNN := Lib.hid hN3
      clear hN hN3
      go_wp2_with fail
      refine hK.out _ _ (HKS.out _ (bnext hHeld.2.2.2 hb3)) (fun hHeld => ?_)
      clear hK K
      try simp only [Act.put, List.setIfInBounds_toArray, List.set_cons_zero, List.set_cons_succ]
      refine' wpAnyH_take (i := 5) rfl ?cl5 ?dl5 ?el5 (fun _ _ _ h => h) (Or.inl ⟨?hl5, ?yl5⟩) hHeld ?rl5; (case hl5 => kernel_rfl); (case cl5 => kernel_rfl); (case dl5 => kernel_rfl); (case el5 => kernel_rfl); (case yl5 => (intro w hSw; clear hSw; simp only [List.getElem_toArray, List.getElem_cons_succ, List.getElem_cons_zero]; go_simp; try with_reducible rfl)); simp only [List.getElem_toArray, List.getElem_cons_succ, List.getElem_cons_zero, Act.put, List.setIfInBounds_toArray, List.set_cons_zero, List.set_cons_succ]
      refine wpAnyH_ready (rs := [6]) (by kernel_rfl) (by simp) ?_
      refine AllReadyH.cons rfl (fun K hK => ?_) AllReadyH.nil
      simp only [List.getElem_toArray, List.getElem_cons_succ, List.getElem_cons_zero]
      go_simp
      have n3 := new_cells w3 #[.slice none 0 0, .slice none 0 0, .slice none 0 0, .int .i64 0] 28
      have hNY := HNN.out.below ((Below.refl w3.heap.size w3).alloc (Nat.le_refl _) (.cells #[.slice none 0 0, .slice none 0 0, .slice none 0 0, .int .i64 0] 28)) (Nat.le_refl _)
      refine hK.out _ _ (HKS.out _ (hHeld.2.2.2.alloc (by have := hHeld.2.2.2.size; exact this) _)) (fun hHeld => ?_)
      clear hK K
      try simp only [Act.put, List.setIfInBounds_toArray, List.set_cons_zero, List.set_cons_succ]
      have hsY : w3.heap.size < (w3.alloc (.cells #[.slice none 0 0, .slice none 0 0, .slice none 0 0, .int .i64 0] 28)).heap.size := by simp
      generalize (w3.alloc (.cells #[.slice none 0 0, .slice none 0 0, .slice none 0 0, .int .i64 0] 28)) = Y at *
      have y0 := n3.1 0
      have y1 := n3.1 1
      have y2 := n3.1 2
      have y3 := n3.1 3
      have f0 := n3.2 0
      have f1 := n3.2 1
      have f2 := n3.2 2
      have f3 := n3.2 3
      clear n3
      refine wpAnyH_ready (rs := [7]) (by kernel_rfl) (by simp) ?_
      refine AllReadyH.cons rfl (fun K hK => ?_) AllReadyH.nil
      simp only [List.getElem_toArray, List.getElem_cons_succ, List.getElem_cons_zero]
      go_simp
      have hge : ((w.alloc (.cells vv 45)).alloc (.cells #[.slice none 0 0, .slice none 0 0, .slice none 0 0, .int .i64 0] 28)).heap.size ≤ w3.heap.size := hb3.size
      refine hK.out _ _ (HKS.out _ ((((hHeld.2.2.2.setCell (p := ⟨w3.heap.size, 0, none⟩) hge _).setCell (p := ⟨w3.heap.size, 1, none⟩) hge _).setCell (p := ⟨w3.heap.size, 2, none⟩) hge _).setCell (p := ⟨w3.heap.size, 3, none⟩) hge _)) (fun hHeld => ?_)
      clear hK K
      refine wpAnyH_done (by kernel_rfl) ?_ _
      refine NoPanic.normal ?_
      have hgr := grownBy_trans (grownBy_trans (grownBy_trans (grownBy_setCell Y ⟨w3.heap.size, 0, none⟩ (.slice (some ⟨g, 0, none⟩) 8 cap)) (grownBy_setCell _ ⟨w3.heap.size, 1, none⟩ (.slice none 0 0))) (grownBy_setCell _ ⟨w3.heap.size, 2, none⟩ (.slice none 0 0))) (grownBy_setCell _ ⟨w3.heap.size, 3, none⟩ (.int .i64 0))
      have hNX : NewSl w.heap.size ((((Y.setCell ⟨w3.heap.size, 0, none⟩ (.slice (some ⟨g, 0, none⟩) 8 cap)).setCell ⟨w3.heap.size, 1, none⟩ (.slice none 0 0)).setCell ⟨w3.heap.size, 2, none⟩ (.slice none 0 0)).setCell ⟨w3.heap.size, 3, none⟩ (.int .i64 0)) (.slice (some ⟨g, 0, none⟩) 8 cap) freshS := by
        rcases hNY with h | ⟨g', cap', hv, h1, h2, h3, h4⟩
        · exact .inl h
        · have hv' := hv
          simp only [Value.slice.injEq, Option.some.injEq, Addr.mk.injEq, and_true] at hv
          obtain ⟨rfl, -⟩ := hv
          exact .inr ⟨_, cap', hv', h1, Nat.lt_of_lt_of_le h2 hgr.size, h3, h4.kept hgr h2 (fun e => hapart (by injection e))⟩
      have hBX := HB2.out.trans (hHeld.2.2.2.mono (by rw [HSZ2.out]; omega))
      have x17 := hHeld.2.1
      have hsX := hHeld.2.2.2.size
      have r0 := (hHeld.2.2.2.cell (p := ⟨w.heap.size + 1, 0, none⟩) (by show w.heap.size + 1 < _; rw [HSZ2.out]; omega)).trans (HN2.out.1 0)
      have r1 := (hHeld.2.2.2.cell (p := ⟨w.heap.size + 1, 1, none⟩) (by show w.heap.size + 1 < _; rw [HSZ2.out]; omega)).trans (HN2.out.1 1)
      have r2 := (hHeld.2.2.2.cell (p := ⟨w.heap.size + 1, 2, none⟩) (by show w.heap.size + 1 < _; rw [HSZ2.out]; omega)).trans (HN2.out.1 2)
      have r3 := (hHeld.2.2.2.cell (p := ⟨w.heap.size + 1, 3, none⟩) (by show w.heap.size + 1 < _; rw [HSZ2.out]; omega)).trans (HN2.out.1 3)
      have z0 := (hHeld.2.2.2.frozen (p := ⟨w.heap.size + 1, 0, none⟩) (by show w.heap.size + 1 < _; rw [HSZ2.out]; omega)).trans (HN2.out.2 0)
      have z1 := (hHeld.2.2.2.frozen (p := ⟨w.heap.size + 1, 1, none⟩) (by show w.heap.size + 1 < _; rw [HSZ2.out]; omega)).trans (HN2.out.2 1)
      have z2 := (hHeld.2.2.2.frozen (p := ⟨w.heap.size + 1, 2, none⟩) (by show w.heap.size + 1 < _; rw [HSZ2.out]; omega)).trans (HN2.out.2 2)
      have z3 := (hHeld.2.2.2.frozen (p := ⟨w.heap.size + 1, 3, none⟩) (by show w.heap.size + 1 < _; rw [HSZ2.out]; omega)).trans (HN2.out.2 3)
      have x0 : ((((Y.setCell ⟨w3.heap.size, 0, none⟩ (.slice (some ⟨g, 0, none⟩) 8 cap)).setCell ⟨w3.heap.size, 1, none⟩ (.slice none 0 0)).setCell ⟨w3.heap.size, 2, none⟩ (.slice none 0 0)).setCell ⟨w3.heap.size, 3, none⟩ (.int .i64 0)).cell? ⟨w3.heap.size, 0, none⟩ = some (.slice (some ⟨g, 0, none⟩) 8 cap) := by go_simp
      have x1 : ((((Y.setCell ⟨w3.heap.size, 0, none⟩ (.slice (some ⟨g, 0, none⟩) 8 cap)).setCell ⟨w3.heap.size, 1, none⟩ (.slice none 0 0)).setCell ⟨w3.heap.size, 2, none⟩ (.slice none 0 0)).setCell ⟨w3.heap.size, 3, none⟩ (.int .i64 0)).cell? ⟨w3.heap.size, 1, none⟩ = some (.slice none 0 0) := by go_simp
      have x2 : ((((Y.setCell ⟨w3.heap.size, 0, none⟩ (.slice (some ⟨g, 0, none⟩) 8 cap)).setCell ⟨w3.heap.size, 1, none⟩ (.slice none 0 0)).setCell ⟨w3.heap.size, 2, none⟩ (.slice none 0 0)).setCell ⟨w3.heap.size, 3, none⟩ (.int .i64 0)).cell? ⟨w3.heap.size, 2, none⟩ = some (.slice none 0 0) := by go_simp
      have x3 : ((((Y.setCell ⟨w3.heap.size, 0, none⟩ (.slice (some ⟨g, 0, none⟩) 8 cap)).setCell ⟨w3.heap.size, 1, none⟩ (.slice none 0 0)).setCell ⟨w3.heap.size, 2, none⟩ (.slice none 0 0)).setCell ⟨w3.heap.size, 3, none⟩ (.int .i64 0)).cell? ⟨w3.heap.size, 3, none⟩ = some (.int .i64 0) := by go_simp
      have hlt1 : w.heap.size + 1 < ((((Y.setCell ⟨w3.heap.size, 0, none⟩ (.slice (some ⟨g, 0, none⟩) 8 cap)).setCell ⟨w3.heap.size, 1, none⟩ (.slice none 0 0)).setCell ⟨w3.heap.size, 2, none⟩ (.slice none 0 0)).setCell ⟨w3.heap.size, 3, none⟩ (.int .i64 0)).heap.size := Nat.lt_of_lt_of_le (by rw [HSZ2.out]; omega) hsX
      have HNX := Lib.hid hNX
      have HBX := Lib.hid hBX
      clear hHeld hgr hNX hBX hNY y0 y1 y2 y3 f0 f1 f2 f3 hge hsX
      generalize ((((Y.setCell ⟨w3.heap.size, 0, none⟩ (.slice (some ⟨g, 0, none⟩) 8 cap)).setCell ⟨w3.heap.size, 1, none⟩ (.slice none 0 0)).setCell ⟨w3.heap.size, 2, none⟩ (.slice none 0 0)).setCell ⟨w3.heap.size, 3, none⟩ (.int .i64 0)) = Z at *
      go_wp2_with fail
      go_loop [5, 15] (fun n' i' => i' = .int .i64 0) (fun _ _ => 0)
      case atStart => exact rfl
      case round =>
        obtain rfl := hrel
        go_wp2_with fail
        have hgr := grownBy_trans (grownBy_trans (grownBy_trans (grownBy_setCell Z ⟨w.heap.size + 1, 0, none⟩ (.slice (some ⟨g, 0, none⟩) 8 cap)) (grownBy_setCell _ ⟨w.heap.size + 1, 1, none⟩ (.slice none 0 0))) (grownBy_setCell _ ⟨w.heap.size + 1, 2, none⟩ (.slice none 0 0))) (grownBy_setCell _ ⟨w.heap.size + 1, 3, none⟩ (.int .i64 0))
        refine bodyPost_ret (v := .agg #[.slice (some ⟨g, 0, none⟩) 8 cap, .slice none 0 0, .slice none 0 0, .int .i64 0]) (by simp [results, Try.f10, go_sem, r0, r1, r2, r3]) rfl ⟨_, rfl, ?_, (((HBX.out.setCell (p := ⟨w.heap.size + 1, 0, none⟩) (Nat.le_succ _) _).setCell (p := ⟨w.heap.size + 1, 1, none⟩) (Nat.le_succ _) _).setCell (p := ⟨w.heap.size + 1, 2, none⟩) (Nat.le_succ _) _).setCell (p := ⟨w.heap.size + 1, 3, none⟩) (Nat.le_succ _) _⟩
        rcases HNX.out with h | ⟨g', cap', hv, h1, h2, h3, h4⟩
        · exact absurd h.1 (by simp [freshS])
        · have hv' := hv
          simp only [Value.slice.injEq, Option.some.injEq, Addr.mk.injEq, and_true] at hv
          obtain ⟨rfl, -⟩ := hv
          exact .inr ⟨_, cap', hv', h1, Nat.lt_of_lt_of_le h2 hgr.size, h3, h4.kept hgr h2 (fun e => hres (by injection e))⟩
    · simp only [List.getElem_toArray, List.getElem_cons_succ, List.getElem_cons_zero]
      go_simp
      refine hK.out _ _ (HKS.out _ (hHeld.2.2.2.alloc (by have := hHeld.2.2.2.size; exact this) _)) (fun hHeld => ?_)
      clear hK K
      try simp only [Act.put, List.setIfInBounds_toArray, List.set_cons_zero, List.set_cons_succ]
      refine wpAnyH_ready (rs := [2]) (by kernel_rfl) (by simp) ?_
      refine AllReadyH.cons rfl (fun K hK => ?_) AllReadyH.nil
      simp only [List.getElem_toArray, List.getElem_cons_succ, List.getElem_cons_zero]
      go_simp
      have n3 := new_cells ((w.alloc (.cells vv 45)).alloc (.cells #[.slice none 0 0, .slice none 0 0, .slice none 0 0, .int .i64 0] 28)) #[.slice none 0 0, .slice none 0 0, .slice none 0 0, .int .i64 0] 28
      have hs3 : (((w.alloc (.cells vv 45)).alloc (.cells #[.slice none 0 0, .slice none 0 0, .slice none 0 0, .int .i64 0] 28))).heap.size = w.heap.size + 1 + 1 := HSZ2.out
      rw [hs3] at n3
      have hs4 : ((((w.alloc (.cells vv 45)).alloc (.cells #[.slice none 0 0, .slice none 0 0, .slice none 0 0, .int .i64 0] 28)).alloc (.cells #[.slice none 0 0, .slice none 0 0, .slice none 0 0, .int .i64 0] 28)).drew).heap.size = w.heap.size + 3 := by show (((w.alloc (.cells vv 45)).alloc (.cells #[.slice none 0 0, .slice none 0 0, .slice none 0 0, .int .i64 0] 28)).alloc (.cells #[.slice none 0 0, .slice none 0 0, .slice none 0 0, .int .i64 0] 28)).heap.size = _; rw [World.size_alloc, hs3]
      go_at_call 18
      refine (HP.out _).mono ?_
      rintro e w3 ⟨v, rfl, hN, hb3⟩
      obtain ⟨g, cap, rfl⟩ := hN.own.shape
      have hN3 : NewSl w.heap.size w3 (.slice (some ⟨g, 0, none⟩) 8 cap) freshS := by
        rcases hN with h | ⟨g', cap', hv, h1, h2⟩
        · exact .inl h
        · exact .inr ⟨g', cap', hv, by rw [hs4] at h1; omega, h2⟩
      have hres : g ≠ w.heap.size + 1 := by
        rcases hN with h | ⟨g', cap', hv, h1, h2, h3⟩
        · exact absurd h.1 (by simp [freshS])
        · simp only [Value.slice.injEq, Option.some.injEq, Addr.mk.injEq, and_true] at hv
          obtain ⟨rfl, -⟩ := hv
          have h1' : w.heap.size + 2 ≤ g := by rw [hs4] at h1; omega
          omega
      have hapart : g ≠ w.heap.size + 1 + 1 := by
        rcases hN with h | ⟨g', cap', hv, h1, h2, h3⟩
        · exact absurd h.1 (by simp [freshS])
        · simp only [Value.slice.injEq, Option.some.injEq, Addr.mk.injEq, and_true] at hv
          obtain ⟨rfl, -⟩ := hv
          rw [hs4] at h1; omega
      have HNN := Lib.hid hN3
      clear hN hN3
      rw [hs4] at hb3
      have hge : ((w.alloc (.cells vv 45)).alloc (.cells #[.slice none 0 0, .slice none 0 0, .slice none 0 0, .int .i64 0] 28)).heap.size ≤ w.heap.size + 3 := by rw [HSZ2.out]; omega
      have hbb := hHeld.2.2.2.trans (hb3.mono hge)
      go_wp2_with fail
      refine hK.out _ _ (HKS.out _ (hbb)) (fun hHeld => ?_)
      clear hK K
      try simp only [Act.put, List.setIfInBounds_toArray, List.set_cons_zero, List.set_cons_succ]
      refine' wpAnyH_take (i := 5) rfl ?cl5b ?dl5b ?el5b (fun _ _ _ h => h) (Or.inl ⟨?hl5b, ?yl5b⟩) hHeld ?rl5b; (case hl5b => kernel_rfl); (case cl5b => kernel_rfl); (case dl5b => kernel_rfl); (case el5b => kernel_rfl); (case yl5b => (intro w hSw; clear hSw; simp only [List.getElem_toArray, List.getElem_cons_succ, List.getElem_cons_zero]; go_simp; try with_reducible rfl)); simp only [List.getElem_toArray, List.getElem_cons_succ, List.getElem_cons_zero, Act.put, List.setIfInBounds_toArray, List.set_cons_zero, List.set_cons_succ]
      have y0 := (hb3.cell (p := ⟨w.heap.size + 1 + 1, 0, none⟩) (by show w.heap.size + 1 + 1 < _; omega)).trans (n3.1 0)
      have y1 := (hb3.cell (p := ⟨w.heap.size + 1 + 1, 1, none⟩) (by show w.heap.size + 1 + 1 < _; omega)).trans (n3.1 1)
      have y2 := (hb3.cell (p := ⟨w.heap.size + 1 + 1, 2, none⟩) (by show w.heap.size + 1 + 1 < _; omega)).trans (n3.1 2)
      have y3 := (hb3.cell (p := ⟨w.heap.size + 1 + 1, 3, none⟩) (by show w.heap.size + 1 + 1 < _; omega)).trans (n3.1 3)
      have f0 := (hb3.frozen (p := ⟨w.heap.size + 1 + 1, 0, none⟩) (by show w.heap.size + 1 + 1 < _; omega)).trans (n3.2 0)
      have f1 := (hb3.frozen (p := ⟨w.heap.size + 1 + 1, 1, none⟩) (by show w.heap.size + 1 + 1 < _; omega)).trans (n3.2 1)
      have f2 := (hb3.frozen (p := ⟨w.heap.size + 1 + 1, 2, none⟩) (by show w.heap.size + 1 + 1 < _; omega)).trans (n3.2 2)
      have f3 := (hb3.frozen (p := ⟨w.heap.size + 1 + 1, 3, none⟩) (by show w.heap.size + 1 + 1 < _; omega)).trans (n3.2 3)
      have hNY := HNN.out
      have hsY : w.heap.size + 1 + 1 < w3.heap.size := by have := hb3.size; rw [hs4] at this; omega
      clear n3 hbb hs4 hb3 hge
      generalize w3 = Y at *
      refine wpAnyH_ready (rs := [7]) (by kernel_rfl) (by simp) ?_
      refine AllReadyH.cons rfl (fun K hK => ?_) AllReadyH.nil
      simp only [List.getElem_toArray, List.getElem_cons_succ, List.getElem_cons_zero]
      go_simp
      have hge : ((w.alloc (.cells vv 45)).alloc (.cells #[.slice none 0 0, .slice none 0 0, .slice none 0 0, .int .i64 0] 28)).heap.size ≤ w.heap.size + 1 + 1 := by rw [HSZ2.out]; exact Nat.le_refl _
      refine hK.out _ _ (HKS.out _ ((((hHeld.2.2.2.setCell (p := ⟨w.heap.size + 1 + 1, 0, none⟩) hge _).setCell (p := ⟨w.heap.size + 1 + 1, 1, none⟩) hge _).setCell (p := ⟨w.heap.size + 1 + 1, 2, none⟩) hge _).setCell (p := ⟨w.heap.size + 1 + 1, 3, none⟩) hge _)) (fun hHeld => ?_)
      clear hK K
      refine wpAnyH_done (by kernel_rfl) ?_ _
      refine NoPanic.normal ?_
      have hgr := grownBy_trans (grownBy_trans (grownBy_trans (grownBy_setCell Y ⟨w.heap.size + 1 + 1, 0, none⟩ (.slice (some ⟨g, 0, none⟩) 8 cap)) (grownBy_setCell _ ⟨w.heap.size + 1 + 1, 1, none⟩ (.slice none 0 0))) (grownBy_setCell _ ⟨w.heap.size + 1 + 1, 2, none⟩ (.slice none 0 0))) (grownBy_setCell _ ⟨w.heap.size + 1 + 1, 3, none⟩ (.int .i64 0))
      have hNX : NewSl w.heap.size ((((Y.setCell ⟨w.heap.size + 1 + 1, 0, none⟩ (.slice (some ⟨g, 0, none⟩) 8 cap)).setCell ⟨w.heap.size + 1 + 1, 1, none⟩ (.slice none 0 0)).setCell ⟨w.heap.size + 1 + 1, 2, none⟩ (.slice none 0 0)).setCell ⟨w.heap.size + 1 + 1, 3, none⟩ (.int .i64 0)) (.slice (some ⟨g, 0, none⟩) 8 cap) freshS := by
        rcases hNY with h | ⟨g', cap', hv, h1, h2, h3, h4⟩
        · exact .inl h
        · have hv' := hv
          simp only [Value.slice.injEq, Option.some.injEq, Addr.mk.injEq, and_true] at hv
          obtain ⟨rfl, -⟩ := hv
          exact .inr ⟨_, cap', hv', h1, Nat.lt_of_lt_of_le h2 hgr.size, h3, h4.kept hgr h2 (fun e => hapart (by injection e))⟩
      have hBX := HB2.out.trans (hHeld.2.2.2.mono (by rw [HSZ2.out]; omega))
      have x17 := hHeld.2.1
      have hsX := hHeld.2.2.2.size
      have r0 := (hHeld.2.2.2.cell (p := ⟨w.heap.size + 1, 0, none⟩) (by show w.heap.size + 1 < _; rw [HSZ2.out]; omega)).trans (HN2.out.1 0)
      have r1 := (hHeld.2.2.2.cell (p := ⟨w.heap.size + 1, 1, none⟩) (by show w.heap.size + 1 < _; rw [HSZ2.out]; omega)).trans (HN2.out.1 1)
      have r2 := (hHeld.2.2.2.cell (p := ⟨w.heap.size + 1, 2, none⟩) (by show w.heap.size + 1 < _; rw [HSZ2.out]; omega)).trans (HN2.out.1 2)
      have r3 := (hHeld.2.2.2.cell (p := ⟨w.heap.size + 1, 3, none⟩) (by show w.heap.size + 1 < _; rw [HSZ2.out]; omega)).trans (HN2.out.1 3)
      have z0 := (hHeld.2.2.2.frozen (p := ⟨w.heap.size + 1, 0, none⟩) (by show w.heap.size + 1 < _; rw [HSZ2.out]; omega)).trans (HN2.out.2 0)
      have z1 := (hHeld.2.2.2.frozen (p := ⟨w.heap.size + 1, 1, none⟩) (by show w.heap.size + 1 < _; rw [HSZ2.out]; omega)).trans (HN2.out.2 1)
      have z2 := (hHeld.2.2.2.frozen (p := ⟨w.heap.size + 1, 2, none⟩) (by show w.heap.size + 1 < _; rw [HSZ2.out]; omega)).trans (HN2.out.2 2)
      have z3 := (hHeld.2.2.2.frozen (p := ⟨w.heap.size + 1, 3, none⟩) (by show w.heap.size + 1 < _; rw [HSZ2.out]; omega)).trans (HN2.out.2 3)
      have x0 : ((((Y.setCell ⟨w.heap.size + 1 + 1, 0, none⟩ (.slice (some ⟨g, 0, none⟩) 8 cap)).setCell ⟨w.heap.size + 1 + 1, 1, none⟩ (.slice none 0 0)).setCell ⟨w.heap.size + 1 + 1, 2, none⟩ (.slice none 0 0)).setCell ⟨w.heap.size + 1 + 1, 3, none⟩ (.int .i64 0)).cell? ⟨w.heap.size + 1 + 1, 0, none⟩ = some (.slice (some ⟨g, 0, none⟩) 8 cap) := by go_simp
      have x1 : ((((Y.setCell ⟨w.heap.size + 1 + 1, 0, none⟩ (.slice (some ⟨g, 0, none⟩) 8 cap)).setCell ⟨w.heap.size + 1 + 1, 1, none⟩ (.slice none 0 0)).setCell ⟨w.heap.size + 1 + 1, 2, none⟩ (.slice none 0 0)).setCell ⟨w.heap.size + 1 + 1, 3, none⟩ (.int .i64 0)).cell? ⟨w.heap.size + 1 + 1, 1, none⟩ = some (.slice none 0 0) := by go_simp
      have x2 : ((((Y.setCell ⟨w.heap.size + 1 + 1, 0, none⟩ (.slice (some ⟨g, 0, none⟩) 8 cap)).setCell ⟨w.heap.size + 1 + 1, 1, none⟩ (.slice none 0 0)).setCell ⟨w.heap.size + 1 + 1, 2, none⟩ (.slice none 0 0)).setCell ⟨w.heap.size + 1 + 1, 3, none⟩ (.int .i64 0)).cell? ⟨w.heap.size + 1 + 1, 2, none⟩ = some (.slice none 0 0) := by go_simp
      have x3 : ((((Y.setCell ⟨w.heap.size + 1 + 1, 0, none⟩ (.slice (some ⟨g, 0, none⟩) 8 cap)).setCell ⟨w.heap.size + 1 + 1, 1, none⟩ (.slice none 0 0)).setCell ⟨w.heap.size + 1 + 1, 2, none⟩ (.slice none 0 0)).setCell ⟨w.heap.size + 1 + 1, 3, none⟩ (.int .i64 0)).cell? ⟨w.heap.size + 1 + 1, 3, none⟩ = some (.int .i64 0) := by go_simp
      have hlt1 : w.heap.size + 1 < ((((Y.setCell ⟨w.heap.size + 1 + 1, 0, none⟩ (.slice (some ⟨g, 0, none⟩) 8 cap)).setCell ⟨w.heap.size + 1 + 1, 1, none⟩ (.slice none 0 0)).setCell ⟨w.heap.size + 1 + 1, 2, none⟩ (.slice none 0 0)).setCell ⟨w.heap.size + 1 + 1, 3, none⟩ (.int .i64 0)).heap.size := Nat.lt_of_lt_of_le (by rw [HSZ2.out]; omega) hsX
      have HNX := Lib.hid hNX
      have HBX := Lib.hid hBX
      clear hHeld hgr hNX hBX hNY y0 y1 y2 y3 f0 f1 f2 f3 hge hsX
      generalize ((((Y.setCell ⟨w.heap.size + 1 + 1, 0, none⟩ (.slice (some ⟨g, 0, none⟩) 8 cap)).setCell ⟨w.heap.size + 1 + 1, 1, none⟩ (.slice none 0 0)).setCell ⟨w.heap.size + 1 + 1, 2, none⟩ (.slice none 0 0)).setCell ⟨w.heap.size + 1 + 1, 3, none⟩ (.int .i64 0)) = Z at *
      go_wp2_with fail
      go_loop [5, 15] (fun n' i' => i' = .int .i64 0) (fun _ _ => 0)
      case atStart => exact rfl
      case round =>
        obtain rfl := hrel
        go_wp2_with fail
        have hgr := grownBy_trans (grownBy_trans (grownBy_trans (grownBy_setCell Z ⟨w.heap.size + 1, 0, none⟩ (.slice (some ⟨g, 0, none⟩) 8 cap)) (grownBy_setCell _ ⟨w.heap.size + 1, 1, none⟩ (.slice none 0 0))) (grownBy_setCell _ ⟨w.heap.size + 1, 2, none⟩ (.slice none 0 0))) (grownBy_setCell _ ⟨w.heap.size + 1, 3, none⟩ (.int .i64 0))
        refine bodyPost_ret (v := .agg #[.slice (some ⟨g, 0, none⟩) 8 cap, .slice none 0 0, .slice none 0 0, .int .i64 0]) (by simp [results, Try.f10, go_sem, r0, r1, r2, r3]) rfl ⟨_, rfl, ?_, (((HBX.out.setCell (p := ⟨w.heap.size + 1, 0, none⟩) (Nat.le_succ _) _).setCell (p := ⟨w.heap.size + 1, 1, none⟩) (Nat.le_succ _) _).setCell (p := ⟨w.heap.size + 1, 2, none⟩) (Nat.le_succ _) _).setCell (p := ⟨w.heap.size + 1, 3, none⟩) (Nat.le_succ _) _⟩
        rcases HNX.out with h | ⟨g', cap', hv, h1, h2, h3, h4⟩
        · exact absurd h.1 (by simp [freshS])
        · have hv' := hv
          simp only [Value.slice.injEq, Option.some.injEq, Addr.mk.injEq, and_true] at hv
          obtain ⟨rfl, -⟩ := hv
          exact .inr ⟨_, cap', hv', h1, Nat.lt_of_lt_of_le h2 hgr.size, h3, h4.kept hgr h2 (fun e => hres (by injection e))⟩
  exact hgen _ rfl

set_option maxHeartbeats 800000 in
theorem logNew_nil (w : World) :
    Calls Try.prog 5 #[] w fun e w' => ∃ v, e = .returned (.agg #[v, .slice none 0 0, .slice none 0 0, .int .i64 0]) ∧ NewSl w.heap.size w' v freshS ∧ Below w.heap.size w w' := by
  have HP : Hid (∀ w : World, Calls Try.prog 10 #[.agg #[.string ⟨#[]⟩, .int .i64 0, .string ⟨#[]⟩, .int .i64 0, .string ⟨#[]⟩, .int .i64 0, .string ⟨#[]⟩, .int .i64 0, .string ⟨#[]⟩, .int .i64 0, .string ⟨#[]⟩, .int .i64 0, .string ⟨#[]⟩, .int .i64 0, .string ⟨#[]⟩, .int .i64 0, .map none, .slice none 0 0, .int .i64 0]] w fun e w' => ∃ v, e = .returned (.agg #[v, .slice none 0 0, .slice none 0 0, .int .i64 0]) ∧ NewSl w.heap.size w' v freshS ∧ Below w.heap.size w w') := Lib.hid logFrom_nil
  have n0 := new_cells w #[.slice none 0 0, .slice none 0 0, .slice none 0 0, .int .i64 0] 28
  have HN := Lib.hid n0
  have HB : Hid (Below w.heap.size w (w.alloc (.cells #[.slice none 0 0, .slice none 0 0, .slice none 0 0, .int .i64 0] 28))) := Lib.hid ((Below.refl _ _).alloc (Nat.le_refl _) _)
  clear n0
  go_enter Try.func5, Try.ntmps5
  go_wp2_with fail
  refine (HP.out _).mono ?_
  rintro e w6 ⟨v, rfl, hN, hb⟩
  rw [World.size_alloc] at hb hN
  have r0 := (hb.cell (p := ⟨w.heap.size, 0, none⟩) (by simp)).trans (HN.out.1 0)
  have r1 := (hb.cell (p := ⟨w.heap.size, 1, none⟩) (by simp)).trans (HN.out.1 1)
  have r2 := (hb.cell (p := ⟨w.heap.size, 2, none⟩) (by simp)).trans (HN.out.1 2)
  have r3 := (hb.cell (p := ⟨w.heap.size, 3, none⟩) (by simp)).trans (HN.out.1 3)
  have z0 := (hb.frozen (p := ⟨w.heap.size, 0, none⟩) (by simp)).trans (HN.out.2 0)
  have z1 := (hb.frozen (p := ⟨w.heap.size, 1, none⟩) (by simp)).trans (HN.out.2 1)
  have z2 := (hb.frozen (p := ⟨w.heap.size, 2, none⟩) (by simp)).trans (HN.out.2 2)
  have z3 := (hb.frozen (p := ⟨w.heap.size, 3, none⟩) (by simp)).trans (HN.out.2 3)
  have hs7 : w.heap.size < w6.heap.size := by have := hb.size; simp at this; omega
  obtain ⟨g, cap, rfl, h1, h2, h3, h4⟩ : ∃ g cap, v = .slice (some ⟨g, 0, none⟩) 8 cap ∧ w.heap.size + 1 ≤ g ∧ g < w6.heap.size ∧ 8 ≤ cap ∧ SlotsW w6 g 0 freshS := by
    rcases hN with h | h
    · exact absurd h.1 (by simp [freshS])
    · exact h
  have H4 := Lib.hid h4
  have HB2 := Lib.hid (HB.out.trans (hb.mono (Nat.le_succ _)))
  clear hN hb h4
  go_wp2_with fail
  have hgr := grownBy_trans (grownBy_trans (grownBy_trans (grownBy_setCell w6 ⟨w.heap.size, 0, none⟩ (.slice (some ⟨g, 0, none⟩) 8 cap)) (grownBy_setCell _ ⟨w.heap.size, 1, none⟩ (.slice none 0 0))) (grownBy_setCell _ ⟨w.heap.size, 2, none⟩ (.slice none 0 0))) (grownBy_setCell _ ⟨w.heap.size, 3, none⟩ (.int .i64 0))
  refine bodyPost_ret (v := .agg #[.slice (some ⟨g, 0, none⟩) 8 cap, .slice none 0 0, .slice none 0 0, .int .i64 0]) (by simp [results, Try.f5, go_sem, r0, r1, r2, r3]) rfl ⟨_, rfl, .inr ⟨g, cap, rfl, by omega, Nat.lt_of_lt_of_le h2 hgr.size, h3, H4.out.kept hgr h2 (fun e => by simp at e; omega)⟩, (((HB2.out.setCell (p := ⟨w.heap.size, 0, none⟩) (Nat.le_refl _) _).setCell (p := ⟨w.heap.size, 1, none⟩) (Nat.le_refl _) _).setCell (p := ⟨w.heap.size, 2, none⟩) (Nat.le_refl _) _).setCell (p := ⟨w.heap.size, 3, none⟩) (Nat.le_refl _) _⟩

end Go.Proofs.Ytaoaclmcmeaedaa
