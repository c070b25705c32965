/- The blocks of a disk in a linked list: what the program's blocksOf answers. -/
import Derived.Test.YtgajhknljnhfmaaVolArg
import Derived.Test.YtgajhknljnhfmaaNext
namespace Go.Proofs.Ytgajhknljnhfmaa
open Go.RowKit Go.Shelf
attribute [local go_sem] Oper.semAt_some
set_option linter.unusedVariables false

theorem nameB_four (s : ByteArray) (h1 : (s.toList == [65]) = false) (h2 : (s.toList == [66]) = false) (h3 : (s.toList == [67]) = false) (h4 : (s.toList == [68]) = false) : nameB s.data.toList = false := by
  rw [ByteArray.toList_eq] at h1 h2 h3 h4
  cases h : nameB s.data.toList
  · rfl
  · obtain ⟨ha, hb, c, hc⟩ := nameB_key h
    rw [hc] at h1 h2 h3 h4 ha hb
    have e : ∀ d : UInt8, ([c] == [d]) = false → c.toNat ≠ d.toNat := fun d hd e => by
      have : c = d := UInt8.toNat_inj.1 e
      subst this; simp at hd
    have e1 := e _ h1
    have e2 := e _ h2
    have e3 := e _ h3
    have e4 := e _ h4
    simp only [keyL] at ha hb
    simp at e1 e2 e3 e4
    omega

theorem nameB_hit (s : ByteArray) (d : UInt8) (h : (s.toList == [d]) = true) (hd : nameB [d] = true) : nameB s.data.toList = true := by
  rw [ByteArray.toList_eq] at h
  have : s.data.toList = [d] := by simpa using h
  rw [this]; exact hd

set_option maxHeartbeats 1000000 in
theorem volNameOk_in (F : Fence) (n : Nat) (hf : F.fn 95) (hro : F.round = none) (s : ByteArray) (w : World) :
    CallsIn F n Try.prog 95 #[.string s] w fun e w' => e = .returned (.bool (nameB s.data.toList)) ∧ w' = w := by
  refine callsIn_of_wp Try.func95 rfl hf ?_ hro
  simp only [Try.ntmps95, List.size_toArray, List.length_cons, List.length_nil, Nat.reduceAdd, Nat.reduceSub, Array.replicate_succ, Array.replicate_zero, List.push_toArray, List.append_toArray, List.nil_append, List.cons_append]
  cases q1 : (s.toList == [65])
  · cases q2 : (s.toList == [66])
    · cases q3 : (s.toList == [67])
      · cases q4 : (s.toList == [68])
        · have HN := Lib.hid (nameB_four s q1 q2 q3 q4)
          gi_wp2
          go_ret
          exact ⟨by rw [HN.out]; rfl, rfl⟩
        · have HN := Lib.hid (nameB_hit s 68 q4 rfl)
          gi_wp2
          go_ret
          exact ⟨by rw [HN.out]; rfl, rfl⟩
      · have HN := Lib.hid (nameB_hit s 67 q3 rfl)
        gi_wp2
        go_ret
        exact ⟨by rw [HN.out]; rfl, rfl⟩
    · have HN := Lib.hid (nameB_hit s 66 q2 rfl)
      gi_wp2
      go_ret
      exact ⟨by rw [HN.out]; rfl, rfl⟩
  · have HN := Lib.hid (nameB_hit s 65 q1 rfl)
    gi_wp2
    go_ret
    exact ⟨by rw [HN.out]; rfl, rfl⟩

/-- A list of blocks in memory, from block m on. -/
def Lst (m : Nat) (w : World) : Option Addr → List Int → Prop
  | a, [] => a = none
  | a, b :: r => ∃ g a', a = some ⟨g, 0, none⟩ ∧ m ≤ g ∧ w.cell? ⟨g, 0, none⟩ = some (.int .i64 b) ∧ w.cell? ⟨g, 1, none⟩ = some (.pointer a') ∧ Lst m w a' r

theorem Lst.below {m B : Nat} {w w' : World} (hb : Below B w w') (hB : w.heap.size ≤ B) : ∀ {bs : List Int} {a : Option Addr}, Lst m w a bs → Lst m w' a bs
  | [], _, h => h
  | _ :: _, _, ⟨g, a', e, hg, h0, h1, hr⟩ =>
    have hl := World.block_lt_of_cell? w ⟨g, 0, none⟩ h0
    ⟨g, a', e, hg, (hb.cell (p := ⟨g, 0, none⟩) (Nat.lt_of_lt_of_le hl hB)).trans h0, (hb.cell (p := ⟨g, 1, none⟩) (Nat.lt_of_lt_of_le hl hB)).trans h1, Lst.below hb hB hr⟩

theorem Lst.kept {m : Nat} {w w' : World} {row : Option Nat} (hg : w.grownBy w' row) (hr : ∀ r, row = some r → ∃ o : Obj, w.heap[r]? = some o ∧ o.isCells = false) : ∀ {bs : List Int} {a : Option Addr}, Lst m w a bs → Lst m w' a bs
  | [], _, h => h
  | _ :: _, _, ⟨g, a', e, hm, h0, h1, hl⟩ => ⟨g, a', e, hm, cell_kept h0 hg hr, cell_kept h1 hg hr, Lst.kept hg hr hl⟩

theorem Lst.setCell {m : Nat} {w : World} (p : Addr) (hp : p.block < m) (u : Value) : ∀ {bs : List Int} {a : Option Addr}, Lst m w a bs → Lst m (w.setCell p u) a bs
  | [], _, h => h
  | _ :: _, _, ⟨g, a', e, hm, h0, h1, hl⟩ =>
    ⟨g, a', e, hm, (World.cell?_of_block (w := w) (a := ⟨g, 0, none⟩) (Below.heap_setCell w _ _ g (fun e => by have e2 : g = p.block := e; omega))).trans h0,
      (World.cell?_of_block (w := w) (a := ⟨g, 1, none⟩) (Below.heap_setCell w _ _ g (fun e => by have e2 : g = p.block := e; omega))).trans h1, Lst.setCell p hp u hl⟩

theorem Lst.mono {m k : Nat} {w : World} (hk : k ≤ m) : ∀ {bs : List Int} {a : Option Addr}, Lst m w a bs → Lst k w a bs
  | [], _, h => h
  | _ :: _, _, ⟨g, a', e, hm, h0, h1, hl⟩ => ⟨g, a', e, Nat.le_trans hk hm, h0, h1, Lst.mono hk hl⟩

/-- What came when k steps are over, going backward. -/
def back (bs : List Int) (k : Nat) : List (Nat × Int) := (List.range k).map (fun j => (bs.length - 1 - j, bth bs (bs.length - 1 - j)))

theorem back_succ (bs : List Int) (k : Nat) : back bs (k + 1) = back bs k ++ [(bs.length - 1 - k, bth bs (bs.length - 1 - k))] := by simp [back, List.range_succ]

theorem back_len (bs : List Int) (k : Nat) : (back bs k).length = k := by simp [back]

theorem back_step (bs : List Int) (m : Nat) (hm : m < bs.length) : back bs (bs.length - m) = back bs (bs.length - (m + 1)) ++ [(m, bth bs m)] := by
  have e : bs.length - m = bs.length - (m + 1) + 1 := by omega
  have e2 : bs.length - 1 - (bs.length - (m + 1)) = m := by omega
  rw [e, back_succ, e2]

theorem back_vals (bs : List Int) : ∀ k, k ≤ bs.length → ((back bs k).map Prod.snd).reverse = bs.drop (bs.length - k)
  | 0, _ => by simp [back]
  | k + 1, h => by
    rw [back_succ, List.map_append, List.reverse_append, back_vals bs k (by omega)]
    have e : bs.length - k = bs.length - (k + 1) + 1 := by omega
    rw [e, show bs.length - 1 - k = bs.length - (k + 1) from by omega]
    simp only [List.map_cons, List.map_nil, List.reverse_cons, List.reverse_nil, List.nil_append, List.singleton_append]
    rw [bth_get _ _ (by omega)]
    exact (List.drop_eq_getElem_cons (by omega)).symm

theorem back_all (bs : List Int) : ((back bs bs.length).map Prod.snd).reverse = bs := by
  rw [back_vals bs _ (Nat.le_refl _)]; simp

/-- What a step that goes on keeps: what lay below n, and the box B. -/
def KpB (n B : Nat) (w w' : World) : Prop := Below n w w' ∧ ∀ v, w.cell? ⟨B, 0, none⟩ = some v → w'.cell? ⟨B, 0, none⟩ = some v

theorem kpB_t {n B : Nat} {X Y Z : World} (h : KpB n B X Y) (k : KpB n B Y Z) : KpB n B X Z := ⟨h.1.trans k.1, fun v hv => k.2 v (h.2 v hv)⟩

theorem kpB_b {n B : Nat} {w : World} (hn : n ≤ w.heap.size) (W : World) (l : Nat) (o o' : Obj) (hl : w.heap.size ≤ l) (h : W.heap[l]? = some o) (hc : o.isCells = false) (hw : o.isWalk = false) : KpB n B W (W.putObj l o') :=
  ⟨belowK_b hn W l o o' hl h hc hw, fun v hv => cell_kept hv (grownBy_putObj' W l o') (fun r e => by cases e; exact ⟨_, h, hc⟩)⟩

set_option maxHeartbeats 1000000 in
theorem backward_in (F : Fence) (n : Nat) (hf : F.fn 96) (hro : F.round = none) (a : Option Addr) (len cap : Nat) (w : World) :
    CallsIn F n Try.prog 96 #[.slice a len cap] w fun e w' => e = .returned (.func (.func 98) #[] #[.pointer (some ⟨w.heap.size, 0, none⟩)]) ∧ w' = w.alloc (.cells #[.slice a len cap] 47) := by
  refine callsIn_of_wp Try.func96 rfl hf ?_ hro
  simp only [Try.ntmps96, List.size_toArray, List.length_cons, List.length_nil, Nat.reduceAdd, Nat.reduceSub, Array.replicate_succ, Array.replicate_zero, List.push_toArray, List.append_toArray, List.nil_append, List.cons_append]
  gi_wp2
  go_ret
  exact ⟨rfl, rfl⟩

set_option maxRecDepth 100000 in
set_option maxHeartbeats 2000000 in
theorem backward1_in (F : Fence) (n : Nat) (hf : F.fn 98) (hro : F.round = none) (hn : 1 ≤ n) (l Bs n₀ : Nat) (a : Option Addr) (len cap : Nat) (bs : List Int) (hl : bs.length = len) (hlen : len ≤ 2000000) (J Jx : List (Nat × Int) → World → Prop)
    (hY : ∀ pre x W, J pre W → pre.length < len → YieldAt F (n - 1) Try.prog l #[.int .i64 (x.1 : Int), .int .i64 x.2] W fun e W' =>
      (e = .returned (.bool true) ∧ J (pre ++ [x]) W' ∧ KpB n₀ Bs W W') ∨ (e = .returned (.bool false) ∧ Jx (pre ++ [x]) W'))
    (W : World) (hBs : W.cell? ⟨Bs, 0, none⟩ = some (.slice a len cap)) (hI : ∀ W', Below n₀ W W' → Ints W' a bs) (h0 : J [] W) :
    CallsIn F n Try.prog 98 #[.func (.yield l) #[] #[], .pointer (some ⟨Bs, 0, none⟩)] W fun e W' => (∃ v, e = .returned v) ∧
      ((∃ ys, ys = back bs len ∧ J ys W') ∨ (∃ pre, (∃ k, k ≤ len ∧ pre = back bs k) ∧ Jx pre W')) := by
  have HY := Lib.hid hY
  have HI := Lib.hid hI
  have HL := Lib.hid hl
  clear hY hI hl
  refine callsIn_of_wp Try.func98 rfl hf ?_ hro
  simp only [Try.ntmps98, List.size_toArray, List.length_cons, List.length_nil, Nat.reduceAdd, Nat.reduceSub, Array.replicate_succ, Array.replicate_zero, List.push_toArray, List.append_toArray, List.nil_append, List.cons_append]
  gi_wp2
  gi_loopw [3] (fun i wr => ∃ m : Nat, m ≤ len ∧ i = .int .i64 ((m : Int) - 1) ∧ J (back bs (len - m)) wr ∧ wr.cell? ⟨Bs, 0, none⟩ = some (.slice a len cap) ∧ Below n₀ W wr) (fun i wr => (intOf i + 1).toNat)
  case atStart => exact ⟨len, Nat.le_refl _, by go_num, by rw [Nat.sub_self]; exact h0, hBs, Below.refl _ _⟩
  case round =>
    obtain ⟨m, hm, rfl, hJ, hcell, hbel⟩ := hrel
    cases m with
    | zero =>
      gi_wp2
      go_end0
      exact ⟨⟨_, rfl⟩, .inl ⟨_, rfl, hJ⟩⟩
    | succ m =>
      have e : ((m + 1 : Nat) : Int) - 1 = (m : Int) := by omega
      rw [e]
      obtain ⟨g, off, rfl, hi⟩ := ints_at (HI.out wr hbel) m (by rw [HL.out]; omega)
      have hc := hi m (by rw [HL.out]; omega)
      obtain ⟨fn, tmps, assign, body, hy, hR⟩ := HY.out _ (m, bth bs m) wr hJ (by rw [back_len]; omega)
      dsimp only at hy
      have HR := Lib.hid hR
      have HS := Lib.hid (back_step bs m (by rw [HL.out]; omega))
      rw [HL.out] at HS
      obtain ⟨b, hb⟩ : ∃ b, bth bs m = b := ⟨_, rfl⟩
      rw [hb] at hc hy HR HS
      clear hR hi hb hJ
      have hm0 : (0 : Int) ≤ (m : Int) := by omega
      gi_wp2
      refine HR.out.mono ?_
      rintro e W3 (⟨rfl, hJ3, hk3⟩ | ⟨rfl, hJx3⟩)
      · have hc3 := hk3.2 _ hcell
        gi_wp2
        go_roundw
        case rel => exact ⟨m, by omega, by go_num, by rw [HS.out]; exact hJ3, hc3, hbel.trans hk3.1⟩
        case measure => simp [intOf]
      · gi_wp2
        refine bodyPost_ret (results_none rfl _ _ _) rfl ?_
        exact ⟨⟨_, rfl⟩, .inr ⟨_, ⟨len - m, by omega, HS.out.symm⟩, hJx3⟩⟩

theorem backward_stops (F : Fence) (n : Nat) (hf : F.fn 98) (hro : F.round = none) (hn : 1 ≤ n) (Bs n₀ : Nat) (a : Option Addr) (len cap : Nat) (bs : List Int) (hl : bs.length = len) (hlen : len ≤ 2000000) (w : World) (hBs : Bs < w.heap.size) (hn₀ : n₀ ≤ w.heap.size)
    (hc : w.cell? ⟨Bs, 0, none⟩ = some (.slice a len cap)) (hI : ∀ W', Below n₀ w W' → Ints W' a bs) :
    SeqStopsK F n Try.prog 98 #[.pointer (some ⟨Bs, 0, none⟩)] (fun x : Nat × Int => #[Value.int .i64 (x.1 : Int), Value.int .i64 x.2]) (KpB n₀ Bs) (fun ys => ys = back bs len)
      (fun pre => ∃ k, k ≤ len ∧ pre = back bs k) len w := fun l J Jx W hW _ _ hY h0 =>
  backward1_in F n hf hro hn l Bs n₀ a len cap bs hl hlen J Jx hY W ((hW.cell (p := ⟨Bs, 0, none⟩) hBs).trans hc) (fun W' hb => hI W' ((hW.mono hn₀).trans hb)) h0

end Go.Proofs.Ytgajhknljnhfmaa
