/- What the program's vacant answers: the first free slot of a table, going round: a step out of an iterator. -/
import Derived.Test.YtgajhknljnhfmaaTableBack
import Derived.Test.YtgajhknljnhfmaaNext
namespace Go.Proofs.Ytgajhknljnhfmaa
open Go.RowKit Go.Shelf
attribute [local go_sem] Oper.semAt_some

/-- The number of a slot. -/
abbrev Spot := { x : Int // 1 ≤ x ∧ x ≤ 8 }

def spotAt (p : Int) (k : Nat) : Spot := ⟨(p - 1 + (k : Int)) % 8 + 1, by omega⟩

def spots (p : Int) (k : Nat) : List Spot := (List.range k).map (spotAt p)

def spotsFrom (p : Int) : List Spot := if 1 ≤ p ∧ p ≤ 8 then spots p 8 else []

theorem spots_succ (p : Int) (k : Nat) : spots p (k + 1) = spots p k ++ [spotAt p k] := by simp [spots, List.range_succ]

theorem spots_len (p : Int) (k : Nat) : (spots p k).length = k := by simp [spots]

theorem spots_eight (p : Int) (h : 1 ≤ p ∧ p ≤ 8) : spots p 8 = spotsFrom p := by simp [spotsFrom, h]

theorem spots_pre (p : Int) (k : Nat) (h : 1 ≤ p ∧ p ≤ 8) (hk : k ≤ 8) : spots p k <+: spotsFrom p := by
  rw [← spots_eight p h]
  refine ⟨((List.range 8).drop k).map (spotAt p), ?_⟩
  have : List.range k = (List.range 8).take k := by rw [List.take_range]; congr 1; omega
  rw [spots, this, ← List.map_append, List.take_append_drop]; rfl

theorem spots_no (p : Int) (hp : p < 1 ∨ 8 < p) : spotsFrom p = [] := by
  unfold spotsFrom; rw [if_neg (by omega)]

set_option maxRecDepth 100000 in
set_option maxHeartbeats 1000000 in
theorem probe1_spots (F : Fence) (n : Nat) (hf : F.fn 90) (hpo : F.fn 77) (hro : F.round = none) (hn : 1 ≤ n) (l Bn n₀ : Nat) (p : Int) (hp : 1 ≤ p ∧ p ≤ 8) (hBn0 : Bn < n₀) (J Jx : List Spot → World → Prop)
    (hY : ∀ pre x W, J pre W → pre.length < (spotsFrom p).length → YieldAt F (n - 1) Try.prog l #[.int .i64 x.1] W fun e W' =>
      (e = .returned (.bool true) ∧ J (pre ++ [x]) W' ∧ Below n₀ W W') ∨ (e = .returned (.bool false) ∧ Jx (pre ++ [x]) W'))
    (W : World) (hBn : W.cell? ⟨Bn, 0, none⟩ = some (.int .i64 p)) (h0 : J [] W) :
    CallsIn F n Try.prog 90 #[.func (.yield l) #[] #[], .pointer (some ⟨Bn, 0, none⟩)] W fun e W' => (∃ v, e = .returned v) ∧
      ((∃ ys, ys = spotsFrom p ∧ J ys W') ∨ (∃ pre, pre <+: spotsFrom p ∧ Jx pre W')) := by
  have hlen8 : (spotsFrom p).length = 8 := by rw [← spots_eight p hp, spots_len]
  have H8 := Lib.hid hlen8
  clear hlen8
  have HY := Lib.hid hY
  clear hY
  obtain ⟨hp1, hp2⟩ := hp
  refine callsIn_of_wp Try.func90 rfl hf ?_ hro
  simp only [Try.ntmps90, List.size_toArray, List.length_cons, List.length_nil, Nat.reduceAdd, Nat.reduceSub, Array.replicate_succ, Array.replicate_zero, List.push_toArray, List.append_toArray, List.nil_append, List.cons_append]
  have HPK : Hid ((decide (1 ≤ p) && decide (p ≤ 8)) = true) := Lib.hid (by simp [hp1, hp2])
  gi_wp2_with (gi_at_call 77; refine (placeOk_in F (n - 1) hpo hro _ _).mono ?_; rw [HPK.out]; rintro e w' ⟨rfl, rfl⟩)
  gi_loopw [7] (fun i wr => ∃ k : Nat, k ≤ 8 ∧ i = .int .i64 k ∧ J (spots p k) wr ∧ wr.cell? ⟨Bn, 0, none⟩ = some (.int .i64 p)) (fun i wr => 8 - (intOf i).toNat)
  case atStart => exact ⟨0, by omega, rfl, h0, hBn⟩
  case round =>
    obtain ⟨k, hk, rfl, hJk, hcell⟩ := hrel
    by_cases hlt : k < 8
    · obtain ⟨fn, tmps, assign, body, hy, hR⟩ := HY.out (spots p k) (spotAt p k) wr hJk (by rw [H8.out, spots_len]; exact hlt)
      have HR := Lib.hid hR
      clear hR
      have hy2 : Sem.run Try.prog (Instr.yield l #[.int .i64 ((p - 1 + (k : Int)) % 8 + 1)]) wr = _ := hy
      clear hy
      gi_wp2
      refine HR.out.mono ?_
      rintro e W3 (⟨rfl, hJ3, hk3⟩ | ⟨rfl, hJx3⟩)
      · have hc3 : W3.cell? ⟨Bn, 0, none⟩ = some (.int .i64 p) := (hk3.cell (p := ⟨Bn, 0, none⟩) hBn0).trans hcell
        gi_wp2
        go_roundw
        case rel => exact ⟨k + 1, by omega, by go_num, by rw [spots_succ]; exact hJ3, hc3⟩
        case measure => simp [intOf]; omega
      · gi_wp2
        refine bodyPost_ret (results_none rfl _ _ _) rfl ?_
        exact ⟨⟨_, rfl⟩, .inr ⟨spots p k ++ [spotAt p k], by rw [← spots_succ]; exact spots_pre p (k + 1) ⟨hp1, hp2⟩ (by omega), hJx3⟩⟩
    · obtain rfl : k = 8 := by omega
      gi_wp2
      go_end0
      exact ⟨⟨_, rfl⟩, .inl ⟨spots p 8, spots_eight p ⟨hp1, hp2⟩, hJk⟩⟩

set_option maxRecDepth 100000 in
set_option maxHeartbeats 1000000 in
theorem probe1_nospots (F : Fence) (n : Nat) (hf : F.fn 90) (hpo : F.fn 77) (hro : F.round = none) (hn : 1 ≤ n) (l Bn : Nat) (p : Int) (hp : p < 1 ∨ 8 < p) (J : List Spot → World → Prop)
    (W : World) (hBn : W.cell? ⟨Bn, 0, none⟩ = some (.int .i64 p)) (h0 : J [] W) :
    CallsIn F n Try.prog 90 #[.func (.yield l) #[] #[], .pointer (some ⟨Bn, 0, none⟩)] W fun e W' => (∃ v, e = .returned v) ∧ J [] W' := by
  refine callsIn_of_wp Try.func90 rfl hf ?_ hro
  simp only [Try.ntmps90, List.size_toArray, List.length_cons, List.length_nil, Nat.reduceAdd, Nat.reduceSub, Array.replicate_succ, Array.replicate_zero, List.push_toArray, List.append_toArray, List.nil_append, List.cons_append]
  have HPK : Hid ((decide (1 ≤ p) && decide (p ≤ 8)) = false) := Lib.hid (by rcases hp with hp | hp <;> simp <;> omega)
  gi_wp2_with (gi_at_call 77; refine (placeOk_in F (n - 1) hpo hro _ _).mono ?_; rw [HPK.out]; rintro e w' ⟨rfl, rfl⟩)
  refine bodyPost_ret (results_none rfl _ _ _) rfl ?_
  exact ⟨⟨_, rfl⟩, h0⟩

theorem spots_stops (F : Fence) (n : Nat) (hf : F.fn 90) (hpo : F.fn 77) (hro : F.round = none) (hn : 1 ≤ n) (Bn n₀ : Nat) (p : Int) (w : World) (hBn : Bn < n₀) (hn₀ : n₀ ≤ w.heap.size)
    (hc : w.cell? ⟨Bn, 0, none⟩ = some (.int .i64 p)) :
    SeqStopsK F n Try.prog 90 #[.pointer (some ⟨Bn, 0, none⟩)] (fun x : Spot => #[Value.int .i64 x.1]) (Below n₀) (fun ys => ys = spotsFrom p) (fun pre => pre <+: spotsFrom p) (spotsFrom p).length w := fun l J Jx W hW _ _ hY h0 => by
  have hc' := (hW.cell (p := ⟨Bn, 0, none⟩) (by show Bn < w.heap.size; omega)).trans hc
  by_cases hp : 1 ≤ p ∧ p ≤ 8
  · exact probe1_spots F n hf hpo hro hn l Bn n₀ p hp hBn J Jx hY W hc' h0
  · refine (probe1_nospots F n hf hpo hro hn l Bn p (by omega) J W hc' h0).mono ?_
    rintro e W' ⟨he, hJ⟩
    exact ⟨he, .inl ⟨[], (spots_no p (by omega)).symm, hJ⟩⟩

/-- A slot is free. -/
def freeAt (xs : List Sl) (x : Int) : Bool := (nth xs (x - 1).toNat).uses == 0

/-- The first free slot, going round; 0: there is none. -/
def tvac (xs : List Sl) (p : Int) : Int := match (spotsFrom p).find? (fun x => freeAt xs x.1) with
  | some x => x.1
  | none => 0

theorem tvac_none (xs : List Sl) (p : Int) (h : ∀ y ∈ spotsFrom p, freeAt xs y.1 = false) : tvac xs p = 0 := by
  have : (spotsFrom p).find? (fun x => freeAt xs x.1) = none := by
    rw [List.find?_eq_none]
    exact fun y hy => by simp [h y hy]
  simp only [tvac, this]

theorem tvac_first (xs : List Sl) (p : Int) (q : List Spot) (v : Spot) (hpre : q ++ [v] <+: spotsFrom p) (hq : ∀ y ∈ q, freeAt xs y.1 = false) (hv : freeAt xs v.1 = true) : tvac xs p = v.1 := by
  obtain ⟨rest, hr⟩ := hpre
  have : (spotsFrom p).find? (fun x => freeAt xs x.1) = some v := by
    rw [← hr, List.append_assoc, List.find?_append, List.find?_eq_none.2 (fun y hy => by simp [hq y hy])]
    simp [hv]
  simp only [tvac, this]

def NoFree (xs : List Sl) (pre : List Spot) : Prop := ∀ y ∈ pre, freeAt xs y.1 = false

/-- The walk has ended at a free slot, which lies in the result's cell. -/
def AtFree (xs : List Sl) (B : Nat) (pre : List Spot) (W : World) : Prop := ∃ (q : List Spot) (v : Spot), pre = q ++ [v] ∧ NoFree xs q ∧ freeAt xs v.1 = true ∧ W.cell? ⟨B, 0, none⟩ = some (.int .i64 v.1)

theorem NoFree.nil (xs : List Sl) : NoFree xs [] := fun y hy => by cases hy

theorem NoFree.snoc {xs : List Sl} {pre : List Spot} (h : NoFree xs pre) (x : Spot) (hx : freeAt xs x.1 = false) : NoFree xs (pre ++ [x]) := fun y hy =>
  (List.mem_append.1 hy).elim (h y) (fun e => by
    have e2 : y = x := by simpa using e
    rw [e2]; exact hx)

theorem atFree_own (xs : List Sl) (B0 B : Nat) (c : Code) : OwnFrom B0 (fun pre W => c = .ret ∧ AtFree xs B pre W) :=
  Own.from (fun s A B row hs hg hr => ⟨hs.1, by obtain ⟨q, v, h1, h2, h3, h4⟩ := hs.2; exact ⟨q, v, h1, h2, h3, cell_kept h4 hg hr⟩⟩) _

set_option maxRecDepth 100000 in
set_option maxHeartbeats 2000000 in
theorem vacant_in (F : Fence) (n : Nat) (h4 : F.fn 93) (h5 : F.fn 59) (h6 : F.fn 90) (hpo : F.fn 77) (hro : F.round = none) (hn : 3 ≤ n)
    (g : Nat) (xs : List Sl) (p : Int) (w : World) (hx : Slots w g 0 xs) (hl : xs.length = 8) :
    CallsIn F n Try.prog 93 #[.pointer (some ⟨g, 0, none⟩), .int .i64 p] w fun e W' => e = .returned (.int .i64 (tvac xs p)) ∧ Below w.heap.size w W' := by
  have h1 : 1 ≤ n := by omega
  have l1 := hx.lt (by omega)
  have Hx := Lib.hid hx
  have Hl := Lib.hid hl
  clear hx hl
  refine callsIn_of_wp_marks Try.func93 rfl h4 ?_ hro
  simp only [Try.ntmps93, List.size_toArray, List.length_cons, List.length_nil, Nat.reduceAdd, Nat.reduceSub, Array.replicate_succ, Array.replicate_zero, List.push_toArray, List.append_toArray, List.nil_append, List.cons_append]
  gi_wp2_with (gi_at_call 59; refine (probe_in F (n - 1) h5 hro _ _).mono ?_; rintro e w' ⟨rfl, rfl⟩)
  have c0 := cell_new_l w (.pointer (some ⟨g, 0, none⟩)) 115
  have c1 := cell_new_l (w.alloc (.cells #[.pointer (some ⟨g, 0, none⟩)] 115)) (.int .i64 0) 3
  have c2 := cell_new_l ((w.alloc (.cells #[.pointer (some ⟨g, 0, none⟩)] 115)).alloc (.cells #[.int .i64 0] 3)) (.int .i64 p) 3
  simp only [World.size_alloc] at c1 c2
  have hB0 : Below w.heap.size w (((w.alloc (.cells #[.pointer (some ⟨g, 0, none⟩)] 115)).alloc (.cells #[.int .i64 0] 3)).alloc (.cells #[.int .i64 p] 3)) := (((Below.refl _ w).alloc (Nat.le_refl _) _).alloc (by simp) _).alloc (by simp; omega) _
  refine wpIn_rangeFunc_ownF hro h1 (gf := 90) (lb := #[.pointer (some ⟨w.heap.size + 1 + 1, 0, none⟩)]) rfl h6 (enters_of Try.func90 (by kernel_rfl) rfl)
    (spots_stops F (n - 1) h6 hpo hro (by omega) (w.heap.size + 1 + 1) (w.heap.size + 1 + 1 + 1) p _ (by omega) (by simp) c2.1) belowK_t (belowK_b (by simp)) (Below.refl _ _) (fun _ => rfl)
    (fun pre W => (NoFree xs pre ∧ W.cell? ⟨w.heap.size, 0, none⟩ = some (.pointer (some ⟨g, 0, none⟩)) ∧ W.cell? ⟨w.heap.size + 1, 0, none⟩ = some (.int .i64 0) ∧ W.frozen? ⟨w.heap.size + 1, 0, none⟩ = false) ∧ Below w.heap.size w W)
    (fun c pre W => (c = .ret ∧ AtFree xs (w.heap.size + 1) pre W) ∧ Below w.heap.size w W)
    (OwnFrom.and (Own.from (fun s A B row hs hg hr => ⟨hs.1, cell_kept hs.2.1 hg hr, cell_kept hs.2.2.1 hg hr, (frozen_kept hs.2.2.1 hg hr).trans hs.2.2.2⟩) _) (ownFrom_below (Nat.le_refl _) (by simp; omega)))
    (fun c => OwnFrom.and (atFree_own xs _ _ c) (ownFrom_below (Nat.le_refl _) (by simp; omega)))
    ⟨⟨NoFree.nil _, cell_alloc_l _ (cell_alloc_l _ c0.1), cell_alloc_l _ c1.1, frozen_alloc_l _ c1.1 c1.2⟩, hB0⟩
    (fun x => { tmps := #[.pointer (some ⟨g, 0, none⟩), .int .i64 p, .pointer (some ⟨w.heap.size, 0, none⟩), undef, .pointer (some ⟨w.heap.size + 1, 0, none⟩), .int .i64 x.1, .int .i64 p, .func (.func 90) #[] #[.pointer (some ⟨w.heap.size + 1 + 1, 0, none⟩)], .int .i64 x.1, undef, undef, undef, undef, undef, undef, undef, undef, undef], defers := [] }) ?assign ?body ?done ?stop
  case assign =>
    intro l x W K hK
    gi_wp2
    exact hK
  case body =>
    rintro l pre x W ⟨⟨hp, hcw, hcr, hfr⟩, hB⟩ _
    have HP := Lib.hid hp
    clear hp
    have HX := Lib.hid (rfl : x = x)
    obtain ⟨y, hy1, hy2⟩ := x
    dsimp only
    obtain ⟨j, rfl⟩ : ∃ j : Nat, y = (j : Int) + 1 := ⟨(y - 1).toNat, by omega⟩
    have hj : j < 8 := by omega
    have hu := (Hx.out.at0 j (by rw [Hl.out]; exact hj)).2
    rw [← hB.cell (p := ⟨g, j * 2 + 1, none⟩) l1] at hu
    have Hfr : Hid (freeAt xs ((j : Int) + 1) = ((nth xs j).uses == 0)) := Lib.hid (by unfold freeAt; rw [show ((j : Int) + 1 - 1).toNat = j from by omega])
    obtain ⟨u, hxu⟩ : ∃ u, (nth xs j).uses = u := ⟨_, rfl⟩
    rw [hxu] at hu Hfr
    clear hxu
    cases h0 : (u == 0)
    · rw [h0] at Hfr
      gi_wp2
      exact ⟨KeepsOthers.refl _, Below.refl _ _, ⟨HP.out.snoc _ Hfr.out, hcw, hcr, hfr⟩, hB⟩
    · rw [h0] at Hfr
      gi_wp2
      exact ⟨KeepsOthers.setCell _ _ _, ⟨rfl, pre, _, rfl, HP.out, Hfr.out, World.cell?_setCell_same' _ _ _ (by rw [hcr]; rfl)⟩, hB.setCell (p := ⟨w.heap.size + 1, 0, none⟩) (by simp) _⟩
  case done =>
    rintro D ys W hD rfl ⟨⟨hne, _, hcr, hfr⟩, hB⟩ hK
    have HN := Lib.hid (tvac_none xs p hne)
    clear hne
    gi_wp2
    have hK' := (KeepsOthers.setCell W ⟨w.heap.size + 1, 0, none⟩ (.int .i64 0)).same D _ hK rfl
    refine ⟨by simp, .inl ⟨_, _, rfl, run_takeDeferred hK', ?_⟩⟩
    have hc5 := cell_kept (World.cell?_setCell_same' W ⟨w.heap.size + 1, 0, none⟩ (.int .i64 0) (by rw [hcr]; rfl)) (grownBy_putObj' _ D (.deferred none)) (fun r e => by cases e; exact ⟨_, hK', rfl⟩)
    refine ⟨.int .i64 0, ?_, by rw [HN.out], (hB.setCell (p := ⟨w.heap.size + 1, 0, none⟩) (by simp) _).trans (belowK_b (w := w) (Nat.le_refl _) _ D _ _ (by simp at hD; omega) hK' rfl rfl)⟩
    simp [results, Try.f93, go_sem, hc5]
  case stop =>
    rintro D c pre W hD hpre ⟨⟨rfl, hend⟩, hB⟩ hK
    obtain ⟨q, v, rfl, hq, hv, hcr⟩ := hend
    have HN := Lib.hid (tvac_first xs p q v hpre hq hv)
    clear hpre hq hv
    gi_wp2
    refine ⟨by simp, .inl ⟨_, _, rfl, run_takeDeferred hK, ?_⟩⟩
    have hc5 := cell_kept hcr (grownBy_putObj' _ D (.deferred none)) (fun r e => by cases e; exact ⟨_, hK, rfl⟩)
    refine ⟨.int .i64 v.1, ?_, by rw [HN.out], hB.trans (belowK_b (w := w) (Nat.le_refl _) W D _ _ (by simp at hD; omega) hK rfl rfl)⟩
    simp [results, Try.f93, go_sem, hc5]

theorem vacant_any (g : Nat) (xs : List Sl) (p : Int) (w : World) (hx : Slots w g 0 xs) (hl : xs.length = 8) :
    Calls Try.prog 93 #[.pointer (some ⟨g, 0, none⟩), .int .i64 p] w fun e W' => e = .returned (.int .i64 (tvac xs p)) ∧ Below w.heap.size w W' :=
  callsIn_wide.1 (vacant_in Fence.wide 3 trivial trivial trivial trivial rfl (Nat.le_refl _) g xs p w hx hl)

end Go.Proofs.Ytgajhknljnhfmaa
