/- The program's linked list of blocks: slices.Backward, blocksOf. -/
import Derived.Test.YtgogokahpmljbaaVolArg
import Derived.Test.YtgogokahpmljbaaNext
namespace Go.Proofs.Ytgogokahpmljbaa
open Go.RowKit Go.Shelf
attribute [local go_sem] Oper.semAt_some
set_option linter.unusedVariables false

theorem nameB_four (s : ByteArray) (h1 : (s.toList == [65]) = false) (h2 : (s.toList == [66]) = false) (h3 : (s.toList == [67]) = false) (h4 : (s.toList == [68]) = false) : nameB s.data.toList = false := by
  rw [ByteArray.toList_eq] at h1 h2 h3 h4
  cases h : nameB s.data.toList
  · rfl
  · obtain ⟨ha, hb, c, hc⟩ := nameB_key h
    rw [hc] at h1 h2 h3 h4 ha hb
    have e : ∀ d : UInt8, ([c] == [d]) = false → c.toNat ≠ d.toNat := fun d hd e => by
      have : c = d := UInt8.toNat_inj.1 e
      subst this; simp at hd
    have e1 := e _ h1
    have e2 := e _ h2
    have e3 := e _ h3
    have e4 := e _ h4
    simp only [keyL] at ha hb
    simp at e1 e2 e3 e4
    omega

theorem nameB_hit (s : ByteArray) (d : UInt8) (h : (s.toList == [d]) = true) (hd : nameB [d] = true) : nameB s.data.toList = true := by
  rw [ByteArray.toList_eq] at h
  have : s.data.toList = [d] := by simpa using h
  rw [this]; exact hd

set_option maxHeartbeats 1000000 in
theorem volNameOk_in (F : Fence) (n : Nat) (hf : F.fn 28) (hro : F.round = none) (s : ByteArray) (w : World) :
    CallsIn F n Try.prog 28 #[.string s] w fun e w' => e = .returned (.bool (nameB s.data.toList)) ∧ w' = w := by
  refine callsIn_of_wp Try.func28 rfl hf ?_ hro
  simp only [Try.ntmps28, List.size_toArray, List.length_cons, List.length_nil, Nat.reduceAdd, Nat.reduceSub, Array.replicate_succ, Array.replicate_zero, List.push_toArray, List.append_toArray, List.nil_append, List.cons_append]
  cases q1 : (s.toList == [65])
  · cases q2 : (s.toList == [66])
    · cases q3 : (s.toList == [67])
      · cases q4 : (s.toList == [68])
        · have HN := Lib.hid (nameB_four s q1 q2 q3 q4)
          gi_wp2
          go_ret
          exact ⟨by rw [HN.out]; rfl, rfl⟩
        · have HN := Lib.hid (nameB_hit s 68 q4 rfl)
          gi_wp2
          go_ret
          exact ⟨by rw [HN.out]; rfl, rfl⟩
      · have HN := Lib.hid (nameB_hit s 67 q3 rfl)
        gi_wp2
        go_ret
        exact ⟨by rw [HN.out]; rfl, rfl⟩
    · have HN := Lib.hid (nameB_hit s 66 q2 rfl)
      gi_wp2
      go_ret
      exact ⟨by rw [HN.out]; rfl, rfl⟩
  · have HN := Lib.hid (nameB_hit s 65 q1 rfl)
    gi_wp2
    go_ret
    exact ⟨by rw [HN.out]; rfl, rfl⟩

/-- A list of blocks in memory, from block m on. -/
def Lst (m : Nat) (w : World) : Option Addr → List Int → Prop
  | a, [] => a = none
  | a, b :: r => ∃ g a', a = some ⟨g, 0, none⟩ ∧ m ≤ g ∧ w.cell? ⟨g, 0, none⟩ = some (.int .i64 b) ∧ w.cell? ⟨g, 1, none⟩ = some (.pointer a') ∧ Lst m w a' r

theorem Lst.below {m B : Nat} {w w' : World} (hb : Below B w w') (hB : w.heap.size ≤ B) : ∀ {bs : List Int} {a : Option Addr}, Lst m w a bs → Lst m w' a bs
  | [], _, h => h
  | _ :: _, _, ⟨g, a', e, hg, h0, h1, hr⟩ =>
    have hl := World.block_lt_of_cell? w ⟨g, 0, none⟩ h0
    ⟨g, a', e, hg, (hb.cell (p := ⟨g, 0, none⟩) (Nat.lt_of_lt_of_le hl hB)).trans h0, (hb.cell (p := ⟨g, 1, none⟩) (Nat.lt_of_lt_of_le hl hB)).trans h1, Lst.below hb hB hr⟩

theorem Lst.kept {m : Nat} {w w' : World} {row : Option Nat} (hg : w.grownBy w' row) (hr : ∀ r, row = some r → ∃ o : Obj, w.heap[r]? = some o ∧ o.isCells = false) : ∀ {bs : List Int} {a : Option Addr}, Lst m w a bs → Lst m w' a bs
  | [], _, h => h
  | _ :: _, _, ⟨g, a', e, hm, h0, h1, hl⟩ => ⟨g, a', e, hm, cell_kept h0 hg hr, cell_kept h1 hg hr, Lst.kept hg hr hl⟩

theorem Lst.setCell {m : Nat} {w : World} (p : Addr) (hp : p.block < m) (u : Value) : ∀ {bs : List Int} {a : Option Addr}, Lst m w a bs → Lst m (w.setCell p u) a bs
  | [], _, h => h
  | _ :: _, _, ⟨g, a', e, hm, h0, h1, hl⟩ =>
    ⟨g, a', e, hm, (World.cell?_of_block (w := w) (a := ⟨g, 0, none⟩) (Below.heap_setCell w _ _ g (fun e => by have e2 : g = p.block := e; omega))).trans h0,
      (World.cell?_of_block (w := w) (a := ⟨g, 1, none⟩) (Below.heap_setCell w _ _ g (fun e => by have e2 : g = p.block := e; omega))).trans h1, Lst.setCell p hp u hl⟩

theorem Lst.mono {m k : Nat} {w : World} (hk : k ≤ m) : ∀ {bs : List Int} {a : Option Addr}, Lst m w a bs → Lst k w a bs
  | [], _, h => h
  | _ :: _, _, ⟨g, a', e, hm, h0, h1, hl⟩ => ⟨g, a', e, Nat.le_trans hk hm, h0, h1, Lst.mono hk hl⟩

/-- What came when k steps are over, going backward. -/
def back (bs : List Int) (k : Nat) : List (Nat × Int) := (List.range k).map (fun j => (bs.length - 1 - j, bth bs (bs.length - 1 - j)))

theorem back_succ (bs : List Int) (k : Nat) : back bs (k + 1) = back bs k ++ [(bs.length - 1 - k, bth bs (bs.length - 1 - k))] := by simp [back, List.range_succ]

theorem back_len (bs : List Int) (k : Nat) : (back bs k).length = k := by simp [back]

theorem back_step (bs : List Int) (m : Nat) (hm : m < bs.length) : back bs (bs.length - m) = back bs (bs.length - (m + 1)) ++ [(m, bth bs m)] := by
  have e : bs.length - m = bs.length - (m + 1) + 1 := by omega
  have e2 : bs.length - 1 - (bs.length - (m + 1)) = m := by omega
  rw [e, back_succ, e2]

theorem back_vals (bs : List Int) : ∀ k, k ≤ bs.length → ((back bs k).map Prod.snd).reverse = bs.drop (bs.length - k)
  | 0, _ => by simp [back]
  | k + 1, h => by
    rw [back_succ, List.map_append, List.reverse_append, back_vals bs k (by omega)]
    have e : bs.length - k = bs.length - (k + 1) + 1 := by omega
    rw [e, show bs.length - 1 - k = bs.length - (k + 1) from by omega]
    simp only [List.map_cons, List.map_nil, List.reverse_cons, List.reverse_nil, List.nil_append, List.singleton_append]
    rw [bth_get _ _ (by omega)]
    exact (List.drop_eq_getElem_cons (by omega)).symm

theorem back_all (bs : List Int) : ((back bs bs.length).map Prod.snd).reverse = bs := by
  rw [back_vals bs _ (Nat.le_refl _)]; simp

/-- What a step that goes on keeps: what lay below n, and the box B. -/
def KpB (n B : Nat) (w w' : World) : Prop := Below n w w' ∧ ∀ v, w.cell? ⟨B, 0, none⟩ = some v → w'.cell? ⟨B, 0, none⟩ = some v

theorem kpB_t {n B : Nat} {X Y Z : World} (h : KpB n B X Y) (k : KpB n B Y Z) : KpB n B X Z := ⟨h.1.trans k.1, fun v hv => k.2 v (h.2 v hv)⟩

theorem kpB_b {n B : Nat} {w : World} (hn : n ≤ w.heap.size) (W : World) (l : Nat) (o o' : Obj) (hl : w.heap.size ≤ l) (h : W.heap[l]? = some o) (hc : o.isCells = false) (hw : o.isWalk = false) : KpB n B W (W.putObj l o') :=
  ⟨belowK_b hn W l o o' hl h hc hw, fun v hv => cell_kept hv (grownBy_putObj' W l o') (fun r e => by cases e; exact ⟨_, h, hc⟩)⟩

set_option maxHeartbeats 1000000 in
theorem backward_in (F : Fence) (n : Nat) (hf : F.fn 29) (hro : F.round = none) (a : Option Addr) (len cap : Nat) (w : World) :
    CallsIn F n Try.prog 29 #[.slice a len cap] w fun e w' => e = .returned (.func (.func 33) #[] #[.pointer (some ⟨w.heap.size, 0, none⟩)]) ∧ w' = w.alloc (.cells #[.slice a len cap] 23) := by
  refine callsIn_of_wp Try.func29 rfl hf ?_ hro
  simp only [Try.ntmps29, List.size_toArray, List.length_cons, List.length_nil, Nat.reduceAdd, Nat.reduceSub, Array.replicate_succ, Array.replicate_zero, List.push_toArray, List.append_toArray, List.nil_append, List.cons_append]
  gi_wp2
  go_ret
  exact ⟨rfl, rfl⟩

set_option maxRecDepth 100000 in
set_option maxHeartbeats 2000000 in
theorem backward1_in (F : Fence) (n : Nat) (hf : F.fn 33) (hro : F.round = none) (hn : 1 ≤ n) (l Bs n₀ : Nat) (a : Option Addr) (len cap : Nat) (bs : List Int) (hl : bs.length = len) (hlen : len ≤ 2000000) (J Jx : List (Nat × Int) → World → Prop)
    (hY : ∀ pre x W, J pre W → pre.length < len → YieldAt F (n - 1) Try.prog l #[.int .i64 (x.1 : Int), .int .i64 x.2] W fun e W' =>
      (e = .returned (.bool true) ∧ J (pre ++ [x]) W' ∧ KpB n₀ Bs W W') ∨ (e = .returned (.bool false) ∧ Jx (pre ++ [x]) W'))
    (W : World) (hBs : W.cell? ⟨Bs, 0, none⟩ = some (.slice a len cap)) (hI : ∀ W', Below n₀ W W' → Ints W' a bs) (h0 : J [] W) :
    CallsIn F n Try.prog 33 #[.func (.yield l) #[] #[], .pointer (some ⟨Bs, 0, none⟩)] W fun e W' => (∃ v, e = .returned v) ∧
      ((∃ ys, ys = back bs len ∧ J ys W') ∨ (∃ pre, (∃ k, k ≤ len ∧ pre = back bs k) ∧ Jx pre W')) := by
  have HY := Lib.hid hY
  have HI := Lib.hid hI
  have HL := Lib.hid hl
  clear hY hI hl
  refine callsIn_of_wp Try.func33 rfl hf ?_ hro
  simp only [Try.ntmps33, List.size_toArray, List.length_cons, List.length_nil, Nat.reduceAdd, Nat.reduceSub, Array.replicate_succ, Array.replicate_zero, List.push_toArray, List.append_toArray, List.nil_append, List.cons_append]
  gi_wp2
  gi_loopw [3] (fun i wr => ∃ m : Nat, m ≤ len ∧ i = .int .i64 ((m : Int) - 1) ∧ J (back bs (len - m)) wr ∧ wr.cell? ⟨Bs, 0, none⟩ = some (.slice a len cap) ∧ Below n₀ W wr) (fun i wr => (intOf i + 1).toNat)
  case atStart => exact ⟨len, Nat.le_refl _, by go_num, by rw [Nat.sub_self]; exact h0, hBs, Below.refl _ _⟩
  case round =>
    obtain ⟨m, hm, rfl, hJ, hcell, hbel⟩ := hrel
    cases m with
    | zero =>
      gi_wp2
      go_end0
      exact ⟨⟨_, rfl⟩, .inl ⟨_, rfl, hJ⟩⟩
    | succ m =>
      have e : ((m + 1 : Nat) : Int) - 1 = (m : Int) := by omega
      rw [e]
      obtain ⟨g, off, rfl, hi⟩ := ints_at (HI.out wr hbel) m (by rw [HL.out]; omega)
      have hc := hi m (by rw [HL.out]; omega)
      obtain ⟨fn, tmps, assign, body, hy, hR⟩ := HY.out _ (m, bth bs m) wr hJ (by rw [back_len]; omega)
      dsimp only at hy
      have HR := Lib.hid hR
      have HS := Lib.hid (back_step bs m (by rw [HL.out]; omega))
      rw [HL.out] at HS
      obtain ⟨b, hb⟩ : ∃ b, bth bs m = b := ⟨_, rfl⟩
      rw [hb] at hc hy HR HS
      clear hR hi hb hJ
      have hm0 : (0 : Int) ≤ (m : Int) := by omega
      gi_wp2
      refine HR.out.mono ?_
      rintro e W3 (⟨rfl, hJ3, hk3⟩ | ⟨rfl, hJx3⟩)
      · have hc3 := hk3.2 _ hcell
        gi_wp2
        go_roundw
        case rel => exact ⟨m, by omega, by go_num, by rw [HS.out]; exact hJ3, hc3, hbel.trans hk3.1⟩
        case measure => simp [intOf]
      · gi_wp2
        refine bodyPost_ret (results_none rfl _ _ _) rfl ?_
        exact ⟨⟨_, rfl⟩, .inr ⟨_, ⟨len - m, by omega, HS.out.symm⟩, hJx3⟩⟩

theorem backward_stops (F : Fence) (n : Nat) (hf : F.fn 33) (hro : F.round = none) (hn : 1 ≤ n) (Bs n₀ : Nat) (a : Option Addr) (len cap : Nat) (bs : List Int) (hl : bs.length = len) (hlen : len ≤ 2000000) (w : World) (hBs : Bs < w.heap.size) (hn₀ : n₀ ≤ w.heap.size)
    (hc : w.cell? ⟨Bs, 0, none⟩ = some (.slice a len cap)) (hI : ∀ W', Below n₀ w W' → Ints W' a bs) :
    SeqStopsK F n Try.prog 33 #[.pointer (some ⟨Bs, 0, none⟩)] (fun x : Nat × Int => #[Value.int .i64 (x.1 : Int), Value.int .i64 x.2]) (KpB n₀ Bs) (fun ys => ys = back bs len)
      (fun pre => ∃ k, k ≤ len ∧ pre = back bs k) len w := fun l J Jx W hW _ _ hY h0 =>
  backward1_in F n hf hro hn l Bs n₀ a len cap bs hl hlen J Jx hY W ((hW.cell (p := ⟨Bs, 0, none⟩) hBs).trans hc) (fun W' hb => hI W' ((hW.mono hn₀).trans hb)) h0

open Go.RowKit Go.Shelf
attribute [local go_sem] Oper.semAt_some
set_option linter.unusedVariables false
set_option maxRecDepth 100000

/-- All that came may stand in a disk. -/
def GoodB (pre : List (Nat × Int)) : Prop := ∀ x ∈ pre, blkB x.2 = true

theorem GoodB.snoc {pre : List (Nat × Int)} (h : GoodB pre) (x : Nat × Int) (hx : blkB x.2 = true) : GoodB (pre ++ [x]) := fun y hy =>
  (List.mem_append.1 hy).elim (h y) (fun e => by
    have e2 : y = x := by simpa using e
    rw [e2]; exact hx)

theorem good_all (bs : List Int) (h : GoodB (back bs bs.length)) : bs.all blkB = true := by
  rw [List.all_eq_true]
  intro b hb
  rw [← back_all bs] at hb
  obtain ⟨x, hx, rfl⟩ := List.mem_map.1 (List.mem_reverse.1 hb)
  exact h x hx

theorem bad_all (nm : ByteArray) (bs : List Int) (k : Nat) (hk : k ≤ bs.length) (q : List (Nat × Int)) (v : Nat × Int) (h : q ++ [v] = back bs k) (hv : blkB v.2 = false) : volB ⟨nm, bs⟩ = false := by
  have hm : v ∈ back bs k := by rw [← h]; simp
  obtain ⟨j, hj, rfl⟩ := List.mem_map.1 hm
  have : j < k := List.mem_range.1 hj
  exact volB_bad nm bs (bs.length - 1 - j) (by omega) hv

theorem boxedR {X Y : World} {row : Option Nat} {B : Nat} {t : TypeId} {v : Value} (h : Boxed X B t v) (hg : X.grownBy Y row) (hr : ∀ r, row = some r → ∃ o : Obj, X.heap[r]? = some o ∧ o.isCells = false) : Boxed Y B t v :=
  h.kept hg (fun e' => by obtain ⟨o, ho, hc⟩ := hr B e'.symm; rw [show X.heap[B]? = _ from h] at ho; cases ho; cases hc)

/-- The list of what came, in its box. -/
def Head (m B : Nat) (t : TypeId) (pre : List (Nat × Int)) (W : World) : Prop := ∃ p, Boxed W B t (.pointer p) ∧ Lst m W p (pre.map Prod.snd).reverse

theorem Head.keptR {X Y : World} {row : Option Nat} {m B : Nat} {t : TypeId} {pre : List (Nat × Int)} (h : Head m B t pre X) (hg : X.grownBy Y row) (hr : ∀ r, row = some r → ∃ o : Obj, X.heap[r]? = some o ∧ o.isCells = false) : Head m B t pre Y := by
  obtain ⟨p, h1, h2⟩ := h
  exact ⟨p, boxedR h1 hg hr, h2.kept hg hr⟩

/-- One block more, at the list's head. -/
theorem Head.more {W : World} {B m : Nat} {t u : TypeId} {pre : List (Nat × Int)} {p : Option Addr} (h1 : Boxed W B t (.pointer p)) (h2 : Lst m W p (pre.map Prod.snd).reverse) (hm : m ≤ W.heap.size) (hB : B < m) (x : Nat × Int) :
    Head m B t (pre ++ [x]) ((W.setCell ⟨B, 0, none⟩ (.pointer (some ⟨W.heap.size, 0, none⟩))).alloc (.cells #[.int .i64 x.2, .pointer p] u)) := by
  have n0 := (new_cells (W.setCell ⟨B, 0, none⟩ (.pointer (some ⟨W.heap.size, 0, none⟩))) #[.int .i64 x.2, .pointer p] u).1
  have hz : (W.setCell ⟨B, 0, none⟩ (.pointer (some ⟨W.heap.size, 0, none⟩))).heap.size = W.heap.size := by simp [World.setCell]
  rw [hz] at n0
  refine ⟨some ⟨W.heap.size, 0, none⟩, (h1.set _).alloc _, ?_⟩
  rw [List.map_append, List.reverse_append]
  exact ⟨W.heap.size, p, rfl, hm, n0 0, n0 1, (h2.setCell ⟨B, 0, none⟩ hB _).below ((Below.refl _ _).alloc (Nat.le_refl _) _) (Nat.le_refl _)⟩

/-- A step was left at a block that may not stand in a disk. -/
def LeftAt (pre : List (Nat × Int)) : Prop := ∃ q v, q ++ [v] = pre ∧ blkB v.2 = false

set_option maxHeartbeats 8000000 in
theorem blocksOf_in (F : Fence) (n : Nat) (h4 : F.fn 18) (h5 : F.fn 29) (h6 : F.fn 33) (h7 : F.fn 28) (hpo : F.fn 19) (hro : F.round = none) (hn : 4 ≤ n)
    (nm : ByteArray) (a : Option Addr) (m c : Nat) (bs : List Int) (w : World) (hx : Ints w a bs) (hm : bs.length = m) (hm1 : m ≤ 2000000) :
    CallsIn F n Try.prog 18 #[.agg #[.string nm, .slice a m c]] w fun e W' => ∃ p, e = .returned (.tuple #[.pointer p, .bool (volB ⟨nm, bs⟩)]) ∧ (volB ⟨nm, bs⟩ = true → Lst w.heap.size W' p bs) ∧ Below w.heap.size w W' := by
  have h1 : 1 ≤ n := by omega
  have h1' : 1 ≤ n - 1 - 1 := by omega
  have HX := Lib.hid hx
  have HM := Lib.hid hm
  have HV : Hid (volB ⟨nm, bs⟩ = (bs.all blkB && (nameB nm.data.toList && (decide (1 ≤ bs.length) && decide (bs.length ≤ 6))))) := Lib.hid rfl
  rw [hm] at HV
  have n0 := new_cells w #[.string nm, .slice a m c] 25
  have e0 := n0.1 0
  have e1 := n0.1 1
  have HNM := Lib.hid (fun W => volNameOk_in F (n - 1) h7 hro nm W)
  have bP3 := (Boxed.new (w.alloc (.cells #[.string nm, .slice a m c] 25)) 40 (.pointer none)).alloc (.cells #[.bool false] 4)
  have bB3 := Boxed.new ((w.alloc (.cells #[.string nm, .slice a m c] 25)).alloc (.cells #[.pointer none] 40)) 4 (.bool false)
  have bF5 := (Boxed.new (((w.alloc (.cells #[.string nm, .slice a m c] 25)).alloc (.cells #[.pointer none] 40)).alloc (.cells #[.bool false] 4)) 40 (.pointer none)).alloc (.cells #[.slice a m c] 23)
  have bS5 := Boxed.new ((((w.alloc (.cells #[.string nm, .slice a m c] 25)).alloc (.cells #[.pointer none] 40)).alloc (.cells #[.bool false] 4)).alloc (.cells #[.pointer none] 40)) 23 (.slice a m c)
  simp only [World.size_alloc] at bP3 bB3 bF5 bS5
  have HP3 := Lib.hid bP3
  have HQ3 := Lib.hid bB3
  have HF5 := Lib.hid bF5
  have HS5 := Lib.hid bS5
  have HB3 : Hid (Below w.heap.size w (((w.alloc (.cells #[.string nm, .slice a m c] 25)).alloc (.cells #[.pointer none] 40)).alloc (.cells #[.bool false] 4))) := Lib.hid ((((Below.refl _ _).alloc (Nat.le_refl _) _).alloc (by simp) _).alloc (by simp; omega) _)
  have HB5 : Hid (Below w.heap.size w (((((w.alloc (.cells #[.string nm, .slice a m c] 25)).alloc (.cells #[.pointer none] 40)).alloc (.cells #[.bool false] 4)).alloc (.cells #[.pointer none] 40)).alloc (.cells #[.slice a m c] 23))) := Lib.hid ((HB3.out.alloc (by simp; omega) _).alloc (by simp; omega) _)
  clear hx hm n0 bP3 bB3 bF5 bS5
  refine callsIn_of_wp_marks Try.func18 rfl h4 ?_ hro
  simp only [Try.ntmps18, List.size_toArray, List.length_cons, List.length_nil, Nat.reduceAdd, Nat.reduceSub, Array.replicate_succ, Array.replicate_zero, List.push_toArray, List.append_toArray, List.nil_append, List.cons_append]
  cases q1 : nameB nm.data.toList
  · rw [q1] at HNM HV
    have HVF : Hid (volB ⟨nm, bs⟩ = false) := Lib.hid (by rw [HV.out]; simp)
    gi_wp2_with (gi_at_call 28; refine (HNM.out _).mono ?_; rintro e w' ⟨rfl, rfl⟩)
    refine ⟨.tuple #[.pointer none, .bool false], by simp [results, Try.f18, go_sem, HP3.out.cell, HQ3.out.cell], none, by rw [HVF.out], fun h => (by rw [HVF.out] at h; cases h), HB3.out⟩
  rw [q1] at HNM HV
  by_cases h0 : m < 1
  · have HVF : Hid (volB ⟨nm, bs⟩ = false) := Lib.hid (by rw [HV.out]; simp; omega)
    gi_wp2_with (gi_at_call 28; refine (HNM.out _).mono ?_; rintro e w' ⟨rfl, rfl⟩)
    refine ⟨.tuple #[.pointer none, .bool false], by simp [results, Try.f18, go_sem, HP3.out.cell, HQ3.out.cell], none, by rw [HVF.out], fun h => (by rw [HVF.out] at h; cases h), HB3.out⟩
  by_cases h8 : 6 < m
  · have HVF : Hid (volB ⟨nm, bs⟩ = false) := Lib.hid (by rw [HV.out]; simp; omega)
    gi_wp2_with (gi_at_call 28; refine (HNM.out _).mono ?_; rintro e w' ⟨rfl, rfl⟩)
    refine ⟨.tuple #[.pointer none, .bool false], by simp [results, Try.f18, go_sem, HP3.out.cell, HQ3.out.cell], none, by rw [HVF.out], fun h => (by rw [HVF.out] at h; cases h), HB3.out⟩
  gi_wp2_with (first | (gi_at_call 28; refine (HNM.out _).mono ?_; rintro e w' ⟨rfl, rfl⟩) | (gi_at_call 29; refine (backward_in F (n - 1) h5 hro _ _ _ _).mono ?_; rintro e w' ⟨rfl, rfl⟩))
  refine wpIn_rangeFunc_ownF hro h1 (gf := 33) (lb := #[.pointer (some ⟨w.heap.size + 1 + 1 + 1 + 1, 0, none⟩)]) rfl h6 (enters_of Try.func33 (by kernel_rfl) rfl)
    (backward_stops F (n - 1) h6 hro (by omega) (w.heap.size + 1 + 1 + 1 + 1) w.heap.size a m c bs HM.out hm1 _ (by simp) (by simp; omega) HS5.out.cell (fun W' hb => ints_below HX.out (HB5.out.trans hb) (Nat.le_refl _))) kpB_t (kpB_b (by simp; omega)) (Below.refl _ _) (fun _ => rfl)
    (fun pre W => ((GoodB pre ∧ Boxed W (w.heap.size + 1) 40 (.pointer none) ∧ Boxed W (w.heap.size + 1 + 1) 4 (.bool false)) ∧ Head (w.heap.size + 1 + 1 + 1 + 1) (w.heap.size + 1 + 1 + 1) 40 pre W) ∧ Below w.heap.size w W)
    (fun k pre W => ((k = .ret ∧ LeftAt pre) ∧ Boxed W (w.heap.size + 1) 40 (.pointer none) ∧ Boxed W (w.heap.size + 1 + 1) 4 (.bool false)) ∧ Below w.heap.size w W)
    (OwnFrom.and (Own.from (fun s A B row hs hg hr => ⟨⟨hs.1.1, boxedR hs.1.2.1 hg hr, boxedR hs.1.2.2 hg hr⟩, hs.2.keptR hg hr⟩) _) (ownFrom_below (Nat.le_refl _) (by simp; omega)))
    (fun k => OwnFrom.and (Own.from (fun s A B row hs hg hr => ⟨hs.1, boxedR hs.2.1 hg hr, boxedR hs.2.2 hg hr⟩) _) (ownFrom_below (Nat.le_refl _) (by simp; omega)))
    ⟨⟨⟨(fun _ h => by cases h), (HP3.out.alloc _).alloc _, (HQ3.out.alloc _).alloc _⟩, none, HF5.out, rfl⟩, HB5.out⟩
    (fun x => { tmps := #[.agg #[.string nm, .slice a m c], .pointer (some ⟨w.heap.size, 0, none⟩), .pointer (some ⟨w.heap.size + 1, 0, none⟩), .pointer (some ⟨w.heap.size + 1 + 1, 0, none⟩), .pointer (some ⟨w.heap.size + 1 + 1 + 1, 0, none⟩), undef, .int .i64 x.2, .pointer (some ⟨w.heap.size, 0, none⟩), .string nm, .bool true, .bool false, .bool false, .pointer (some ⟨w.heap.size, 1, none⟩), .slice a m c, .int .i64 (m : Int), .bool (decide ((m : Int) < 1)), .bool (decide ((m : Int) < 1)), .bool (decide ((m : Int) < 1)), .pointer (some ⟨w.heap.size, 1, none⟩), .slice a m c, .int .i64 (m : Int), .bool (decide (6 < (m : Int))), .bool (decide ((m : Int) < 1) || decide (6 < (m : Int))), .pointer (some ⟨w.heap.size, 1, none⟩), .slice a m c, .func (.func 33) #[] #[.pointer (some ⟨w.heap.size + 1 + 1 + 1 + 1, 0, none⟩)], .int .i64 (x.1 : Int), .int .i64 x.2, undef, undef, undef, undef, undef, undef, undef, undef, undef, undef, undef, undef], defers := [] }) ?assign ?body ?done ?stop
  case assign =>
    intro l x W K hK
    gi_wp2
    exact hK
  case body =>
    rintro l pre x W ⟨⟨⟨hg, bP, bB⟩, p, bF, hL⟩, hB⟩ _
    have hpc := bP.cell
    have hpf := bP.frozen
    have hbc := bB.cell
    have hbf := bB.frozen
    have hfc := bF.cell
    have hff := bF.frozen
    have HG := Lib.hid hg
    have HP := Lib.hid bP
    have HQ := Lib.hid bB
    have HF := Lib.hid bF
    have HL := Lib.hid hL
    have HB := Lib.hid hB
    have hsz := bF.lt
    clear hg bP bB bF hL hB
    obtain ⟨i, y⟩ := x
    dsimp only
    have HPK := Lib.hid (fun W => placeOk_in F (n - 1 - 1 - 1) hpo hro y W)
    have HY : Hid (blkB y = (decide (0 ≤ y) && decide (y ≤ 8))) := Lib.hid rfl
    have HGO : Hid (blkB y = true → KeepsOthers W ((W.setCell ⟨w.heap.size + 1 + 1 + 1, 0, none⟩ (.pointer (some ⟨W.heap.size, 0, none⟩))).alloc (.cells #[.int .i64 y, .pointer p] 45)) ∧ KpB w.heap.size (w.heap.size + 1 + 1 + 1 + 1) W ((W.setCell ⟨w.heap.size + 1 + 1 + 1, 0, none⟩ (.pointer (some ⟨W.heap.size, 0, none⟩))).alloc (.cells #[.int .i64 y, .pointer p] 45)) ∧
        (((GoodB (pre ++ [(i, y)]) ∧ Boxed ((W.setCell ⟨w.heap.size + 1 + 1 + 1, 0, none⟩ (.pointer (some ⟨W.heap.size, 0, none⟩))).alloc (.cells #[.int .i64 y, .pointer p] 45)) (w.heap.size + 1) 40 (.pointer none) ∧ Boxed ((W.setCell ⟨w.heap.size + 1 + 1 + 1, 0, none⟩ (.pointer (some ⟨W.heap.size, 0, none⟩))).alloc (.cells #[.int .i64 y, .pointer p] 45)) (w.heap.size + 1 + 1) 4 (.bool false)) ∧ Head (w.heap.size + 1 + 1 + 1 + 1) (w.heap.size + 1 + 1 + 1) 40 (pre ++ [(i, y)]) ((W.setCell ⟨w.heap.size + 1 + 1 + 1, 0, none⟩ (.pointer (some ⟨W.heap.size, 0, none⟩))).alloc (.cells #[.int .i64 y, .pointer p] 45))) ∧ Below w.heap.size w ((W.setCell ⟨w.heap.size + 1 + 1 + 1, 0, none⟩ (.pointer (some ⟨W.heap.size, 0, none⟩))).alloc (.cells #[.int .i64 y, .pointer p] 45)))) := Lib.hid (fun hy => by
      have hk : Below w.heap.size W ((W.setCell ⟨w.heap.size + 1 + 1 + 1, 0, none⟩ (.pointer (some ⟨W.heap.size, 0, none⟩))).alloc (.cells #[.int .i64 y, .pointer p] 45)) := ((Below.refl _ W).setCell (p := ⟨w.heap.size + 1 + 1 + 1, 0, none⟩) (by simp; omega) _).alloc (by have := HB.out.size; simpa [World.setCell] using this) _
      refine ⟨(KeepsOthers.setCell _ _ _).trans (KeepsOthers.alloc _ _), ⟨hk, fun v hv => ?_⟩, ⟨⟨HG.out.snoc (i, y) hy, (HP.out.other (by omega) _).alloc _, (HQ.out.other (by omega) _).alloc _⟩, Head.more HF.out HL.out (by omega) (by omega) (i, y)⟩, HB.out.trans hk⟩
      exact cell_alloc_l _ ((World.cell?_of_block (w := W) (a := ⟨w.heap.size + 1 + 1 + 1 + 1, 0, none⟩) (Below.heap_setCell _ _ _ (w.heap.size + 1 + 1 + 1 + 1) (fun e => by have e2 : w.heap.size + 1 + 1 + 1 + 1 = w.heap.size + 1 + 1 + 1 := e; omega))).trans hv))
    by_cases hy0 : y = 0
    · subst hy0
      have HE := Lib.hid (HGO.out rfl)
      clear HGO HPK
      gi_wp2
      exact HE.out
    · have hy1 : (y == 0) = false := by simpa using hy0
      obtain ⟨q, hq⟩ : ∃ q, (decide (1 ≤ y) && decide (y ≤ 8)) = q := ⟨_, rfl⟩
      rw [hq] at HPK
      have HQY := Lib.hid hq
      clear hq
      cases q
      · have HBAD : Hid (blkB y = false) := Lib.hid (by
          have := HQY.out
          rw [HY.out]
          simp at this ⊢
          omega)
        clear HGO
        gi_wp2_with (gi_at_call 19; refine (CallsIn.inRound l (HPK.out _)).mono ?_; rintro e w' ⟨rfl, rfl⟩)
        exact ⟨(KeepsOthers.setCell _ _ _).trans (KeepsOthers.setCell _ _ _), ⟨⟨rfl, pre, (i, y), rfl, HBAD.out⟩, (HP.out.set _).other (by omega) _, (HQ.out.other (by omega) _).set _⟩, (HB.out.setCell (p := ⟨w.heap.size + 1, 0, none⟩) (by simp) _).setCell (p := ⟨w.heap.size + 1 + 1, 0, none⟩) (by simp; omega) _⟩
      · have HE := Lib.hid (HGO.out (by
          have := HQY.out
          rw [HY.out]
          simp at this ⊢
          omega))
        clear HGO
        gi_wp2_with (gi_at_call 19; refine (CallsIn.inRound l (HPK.out _)).mono ?_; rintro e w' ⟨rfl, rfl⟩)
        exact HE.out
  case done =>
    rintro D ys W hD rfl ⟨⟨⟨hg, bP, bB⟩, p, bF, hL⟩, hB⟩ hK
    have hpc := bP.cell
    have hpf := bP.frozen
    have hbc := bB.cell
    have hbf := bB.frozen
    have hfc := bF.cell
    have HVT : Hid (volB ⟨nm, bs⟩ = true) := Lib.hid (by
      have h2 := hg
      rw [← HM.out] at h2
      rw [HV.out, good_all bs h2]; simp; omega)
    have hL2 : Lst (w.heap.size + 1 + 1 + 1 + 1) W p bs := by
      have h2 := hL
      rw [← HM.out, back_all] at h2
      exact h2
    have HP := Lib.hid bP
    have HQ := Lib.hid bB
    have HL := Lib.hid hL2
    have HB := Lib.hid hB
    clear hg bP bB bF hL hL2 hB
    gi_wp2
    have hK' := ((KeepsOthers.setCell W ⟨w.heap.size + 1, 0, none⟩ (.pointer p)).trans (KeepsOthers.setCell _ ⟨w.heap.size + 1 + 1, 0, none⟩ (.bool true))).same D _ hK rfl
    refine ⟨by simp, .inl ⟨_, _, rfl, run_takeDeferred hK', ?_⟩⟩
    have c1 := boxedR ((HP.out.set (.pointer p)).other (B' := w.heap.size + 1 + 1) (by omega) (.bool true)) (grownBy_putObj' _ D (.deferred none)) (fun r e => by cases e; exact ⟨_, hK', rfl⟩)
    have c2 := boxedR ((HQ.out.other (B' := w.heap.size + 1) (by omega) (.pointer p)).set (.bool true)) (grownBy_putObj' _ D (.deferred none)) (fun r e => by cases e; exact ⟨_, hK', rfl⟩)
    refine ⟨.tuple #[.pointer p, .bool true], by simp [results, Try.f18, go_sem, c1.cell, c2.cell], p, by rw [HVT.out], fun _ => ?_, ?_⟩
    · exact (((HL.out.setCell _ (by show w.heap.size + 1 < _; omega) _).setCell _ (by show w.heap.size + 1 + 1 < _; omega) _).kept (grownBy_putObj' _ D (.deferred none)) (fun r e => by cases e; exact ⟨_, hK', rfl⟩)).mono (by omega)
    · exact ((HB.out.setCell (p := ⟨w.heap.size + 1, 0, none⟩) (by simp) _).setCell (p := ⟨w.heap.size + 1 + 1, 0, none⟩) (by simp; omega) _).trans (belowK_b (w := w) (Nat.le_refl _) _ D _ _ (by simp at hD; omega) hK' rfl rfl)
  case stop =>
    rintro D k pre W hD ⟨j, hj, hpre⟩ ⟨⟨⟨rfl, q, v, hqv, hv⟩, bP, bB⟩, hB⟩ hK
    have HVF : Hid (volB ⟨nm, bs⟩ = false) := Lib.hid (bad_all nm bs j (by rw [HM.out]; exact hj) q v (hqv.trans hpre) hv)
    clear hpre hqv hv
    gi_wp2
    refine ⟨by simp, .inl ⟨_, _, rfl, run_takeDeferred hK, ?_⟩⟩
    have c1 := boxedR bP (grownBy_putObj' _ D (.deferred none)) (fun r e => by cases e; exact ⟨_, hK, rfl⟩)
    have c2 := boxedR bB (grownBy_putObj' _ D (.deferred none)) (fun r e => by cases e; exact ⟨_, hK, rfl⟩)
    exact ⟨.tuple #[.pointer none, .bool false], by simp [results, Try.f18, go_sem, c1.cell, c2.cell], none, by rw [HVF.out], fun h => (by rw [HVF.out] at h; cases h), hB.trans (belowK_b (w := w) (Nat.le_refl _) W D _ _ (by simp at hD; omega) hK rfl rfl)⟩

theorem blocksOf_any (nm : ByteArray) (a : Option Addr) (m c : Nat) (bs : List Int) (w : World) (hx : Ints w a bs) (hm : bs.length = m) (hm1 : m ≤ 2000000) :
    Calls Try.prog 18 #[.agg #[.string nm, .slice a m c]] w fun e W' => ∃ p, e = .returned (.tuple #[.pointer p, .bool (volB ⟨nm, bs⟩)]) ∧ (volB ⟨nm, bs⟩ = true → Lst w.heap.size W' p bs) ∧ Below w.heap.size w W' :=
  callsIn_wide.1 (blocksOf_in Fence.wide 4 trivial trivial trivial trivial trivial rfl (Nat.le_refl _) nm a m c bs w hx hm hm1)

end Go.Proofs.Ytgogokahpmljbaa
