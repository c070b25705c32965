/- The model's l11Gone: a volume is taken out of a pool. -/
import Derived.Test.YtgogokahpmljbaaPoolWrite
import Derived.Deep.RegionLaw
import Derived.Deep.RegionWith
namespace Go.Proofs.Ytgogokahpmljbaa
open Go.RowKit
set_option linter.unusedVariables false
set_option maxRecDepth 100000

/-- An append of any number of elements, at an operation of a region that draws its order. -/
theorem step_append_any {P : Program} {w : World} {ops : Array Oper} {o : Oper} {a : Act} {K : Act → World → Prop} {Q : Exit → Act → World → Prop} {F : Prop} (hgd : o.guard = none) (s x : Operand) (t : TypeId)
    (ho : o.op = .call { callee := .builtin .append, args := #[s, x], argTypes := #[t, t] })
    (base : Nat) (e : TypeId) (i : TypeInfo) (z : Value) (size bytes : Nat) (ht : P.underlying t = some (.slice e)) (hi : P.info? e = some i) (hz : i.zero = some z)
    (hsize : i.size = size) (hby : i.bytes = bytes) (hzs : z.cells.size = size) (hsz : 0 < size)
    (v : Value) (n : Nat) (xs : List Value) (hs : a.eval s = v) (hown : w.ownsRow base e size v n xs)
    (ad : Addr) (m c : Nat) (news : List Value) (hx : a.eval x = .slice (some ad) m c) (hl : news.length = m * size) (hnews : ∀ j u, news[j]? = some u → w.cell? (ad.add j) = some u) (h1 : ∀ u ∈ news, u.oneCell' = true)
    (h63 : n + m ≤ maxLen) (hbytes : (n + m) * bytes ≤ 140737488355328) (hbase : base ≤ w.heap.size)
    (h : ∀ ta tn tc w', w'.ownsRow base e size (.slice ta tn tc) (n + m) (xs ++ news) → w.grownBy w' v.ownBlock → ((Value.slice ta tn tc).ownBlock = v.ownBlock ∨ (Value.slice ta tn tc).ownBlock = some w.heap.size) → K (a.put o.dst (.slice ta tn tc)) w') :
    if Region.wanted o (yielded ops a.tmps) = true then Oper.wp P o a w K Q else F := by
  have hw : Region.wanted o (yielded ops a.tmps) = true := by simp [Region.wanted, hgd]
  rw [if_pos hw]
  obtain ⟨v', w', hr, h2, h3, h4, h5⟩ := run_append_own_at (P := P) w base t o.type e i z size bytes ht hi hz hsize hby hzs hsz v n xs hown ad m c news hl hnews h1 h63 hbytes hbase
  unfold Oper.wp execOp
  simp only [ho, resolve, invoke, builtin, Sem.run_bind, Sem.run_pure, Result.andThen_ok, List.map_toArray, List.map_cons, List.map_nil, hs, hx, hr]
  have hf : ∃ ta tn tc, v' = .slice ta tn tc := by
    rcases h2.2 with ⟨e0, _⟩ | ⟨g, cap, cur, hv, _⟩
    · exact ⟨_, _, _, e0⟩
    · exact ⟨_, _, _, hv⟩
  obtain ⟨ta, tn, tc, rfl⟩ := hf
  exact h ta tn tc w' h2 h3 h5

theorem dec_take (xs : List Sl) (bs : List Int) (k : Nat) (hk : k < bs.length) : decAll xs (bs.take (k + 1)) = decOne (decAll xs (bs.take k)) (bth bs k) := by
  rw [take_blk _ _ hk]; unfold decAll; rw [List.foldl_append]; rfl

theorem dec_len (xs : List Sl) (bs : List Int) : (decAll xs bs).length = xs.length := by
  induction bs generalizing xs with
  | nil => rfl
  | cons b r ih =>
    show (decAll (decOne xs b) r).length = _
    rw [ih]; unfold decOne; split <;> simp [dropS_len]

theorem dec_uses {p : Po} (h : PoolR p) {k : Nat} (hk : k < p.vols.length) (m i : Nat) (hi : i < 8) : 0 ≤ (nth (decAll p.slots ((vth p.vols k).blocks.take m)) i).uses ∧ (nth (decAll p.slots ((vth p.vols k).blocks.take m)) i).uses ≤ 1000 := by
  have hv := h.vol hk
  have hs := h.small i hi
  have hsub : ∀ j : Nat, (((vth p.vols k).blocks.take m).count ((j : Int) + 1)) ≤ (vth p.vols k).blocks.count ((j : Int) + 1) := fun j => (List.take_sublist _ _).count_le _
  have hle : ∀ j : Nat, j < 8 → ((((vth p.vols k).blocks.take m).count ((j : Int) + 1) : Nat) : Int) ≤ (nth p.slots j).uses := fun j hj => by
    have h1 : ((((vth p.vols k).blocks.count ((j : Int) + 1)) : Nat) : Int) ≤ totU p.vols ((j : Int) + 1) := totU_at p.vols k ((j : Int) + 1) hk
    have h2 := h.tot j hj
    have := hsub j
    omega
  obtain ⟨_, h2⟩ := decAll_ok ((vth p.vols k).blocks.take m) p.slots h.store (fun b hb => hv.1 b (List.mem_of_mem_take hb)) hle
  rw [h2 i hi]
  have := hle i hi
  omega

/-- Where l11Gone stands: the pool in its box, its own slots turning. -/
structure GSt (w : World) (B gs cs : Nat) (a : Option Addr) (n c : Nat) (rs : List Rw) (xs : List Sl) (vs : List Vo) (W : World) : Prop where
  st : XSt B gs cs a n c w.heap.size rs xs vs W
  d0 : W.cell? ⟨w.heap.size + 1, 0, none⟩ = some (.slice none 0 0)
  d1 : W.cell? ⟨w.heap.size + 1, 1, none⟩ = some (.slice none 0 0)
  y1 : W.frozen? ⟨w.heap.size, 1, none⟩ = false
  z0 : W.frozen? ⟨w.heap.size + 1, 0, none⟩ = false
  z1 : W.frozen? ⟨w.heap.size + 1, 1, none⟩ = false
  sz : w.heap.size + 1 < W.heap.size
  bel : w.grownBy W (some gs)

theorem GSt.slots {w : World} {B gs cs : Nat} {a : Option Addr} {n c : Nat} {rs : List Rw} {xs ys : List Sl} {vs : List Vo} {W W' : World} (h : GSt w B gs cs a n c rs xs vs W) (hlt : gs < w.heap.size) (hB : B ≤ w.heap.size) (hg : W.grownBy W' (some gs)) (hs : SlotsW W' gs 0 ys) : GSt w B gs cs a n c rs ys vs W' := by
  have sz := h.sz
  have f : ∀ b i, b < W.heap.size → b ≠ gs → W'.cell? ⟨b, i, none⟩ = W.cell? ⟨b, i, none⟩ ∧ W'.frozen? ⟨b, i, none⟩ = W.frozen? ⟨b, i, none⟩ := fun b i h1 h2 =>
    ⟨World.cell?_of_block (w := W) (a := ⟨b, i, none⟩) (hg.block b h1 (fun e => h2 (by injection e))), World.frozen?_of_block (w := W) (a := ⟨b, i, none⟩) (hg.block b h1 (fun e => h2 (by injection e)))⟩
  exact ⟨h.st.slots hg hs, (f _ 0 (by omega) (by omega)).1.trans h.d0, (f _ 1 (by omega) (by omega)).1.trans h.d1, (f _ 1 (by omega) (by omega)).2.trans h.y1, (f _ 0 (by omega) (by omega)).2.trans h.z0, (f _ 1 (by omega) (by omega)).2.trans h.z1,
    Nat.lt_of_lt_of_le sz hg.size, grownBy_trans h.bel hg⟩

theorem GSt.box {w : World} {B gs cs : Nat} {a : Option Addr} {n c : Nat} {rs : List Rw} {xs : List Sl} {vs : List Vo} {W : World} (h : GSt w B gs cs a n c rs xs vs W) : GSt w B gs cs a n c rs xs vs (W.setCell ⟨w.heap.size, 0, none⟩ (.slice (some ⟨gs, 0, none⟩) 8 cs)) :=
  ⟨h.st.box, (cell_other _ _ _ _ (fun e => by injection e; omega)).trans h.d0, (cell_other _ _ _ _ (fun e => by injection e; omega)).trans h.d1, (World.frozen?_setCell _ _ _ _).trans h.y1, (World.frozen?_setCell _ _ _ _).trans h.z0, (World.frozen?_setCell _ _ _ _).trans h.z1,
    by simpa [World.setCell] using h.sz, grown_set h.bel _ (Nat.le_refl _) _⟩

theorem OwnVR.cells {B : Nat} {w : World} {g n c : Nat} {rs : List Rw} {vs : List Vo} (h : OwnVR B w (.slice (some ⟨g, 0, none⟩) n c) rs vs) : ∀ j u, (cellR rs)[j]? = some u → w.cell? ⟨g, j, none⟩ = some u := by
  intro j u hj
  have hj2 : j < (cellR rs).length := (List.getElem?_eq_some_iff.1 hj).1
  have hn := own_len h
  subst hn
  have hl := h.arr.1
  rcases h.arr.2 with ⟨e, _⟩ | ⟨g', cap, cur, e, _, hcells, _⟩
  · cases e
  · injection e with e _ _
    injection e with e
    injection e with e
    subst e
    have h2 := h.arr
    rw [h.arr.cellAt j (by rw [← hl]; exact hj2), hj]

theorem cellR_take (rs : List Rw) (k : Nat) : cellR (rs.take k) = (cellR rs).take (k * 2) := by
  induction rs generalizing k with
  | nil => simp [cellR]
  | cons r rs ih =>
    cases k with
    | zero => simp [cellR]
    | succ k => rw [List.take_succ_cons, cellR, ih, cellR, show (k + 1) * 2 = k * 2 + 1 + 1 from by omega, List.take_succ_cons, List.take_succ_cons]

theorem cellR_drop (rs : List Rw) (k : Nat) : cellR (rs.drop k) = (cellR rs).drop (k * 2) := by
  induction rs generalizing k with
  | nil => simp [cellR]
  | cons r rs ih =>
    cases k with
    | zero => simp [cellR]
    | succ k => rw [List.drop_succ_cons, ih, cellR, show (k + 1) * 2 = k * 2 + 1 + 1 from by omega, List.drop_succ_cons, List.drop_succ_cons]

theorem cellR_one {B : Nat} {w : World} {v : Value} {rs : List Rw} {vs : List Vo} (h : OwnVR B w v rs vs) : ∀ u ∈ cellR rs, u.oneCell' = true := by
  have : ∀ (qs : List Rw), (∀ r ∈ qs, r.val.oneCell' = true) → ∀ u ∈ cellR qs, u.oneCell' = true := by
    intro qs
    induction qs with
    | nil => intro _ u hu; cases hu
    | cons r qs ih =>
      intro hr u hu
      simp only [cellR, List.mem_cons] at hu
      rcases hu with rfl | rfl | hu
      · rfl
      · exact hr r (by simp)
      · exact ih (fun r hr2 => hr r (by simp [hr2])) u hu
  refine this rs fun r hr => ?_
  obtain ⟨i, hi, rfl⟩ := List.getElem_of_mem hr
  obtain ⟨gb, nb, cb, e⟩ := (h.row i (by rw [← h.len]; exact hi)).one
  have e2 : rth rs i = rs[i] := by simp [rth, List.getD_eq_getElem?_getD, hi]
  rw [← e2, e]; rfl

theorem rth_erase (rs : List Rw) (k i : Nat) : rth (rs.eraseIdx k) i = if i < k then rth rs i else rth rs (i + 1) := by
  unfold rth
  rw [List.getD_eq_getElem?_getD, List.getElem?_eraseIdx]
  split <;> rw [List.getD_eq_getElem?_getD]

theorem vth_erase (vs : List Vo) (k i : Nat) : vth (vs.eraseIdx k) i = if i < k then vth vs i else vth vs (i + 1) := by
  unfold vth
  rw [List.getD_eq_getElem?_getD, List.getElem?_eraseIdx]
  split <;> rw [List.getD_eq_getElem?_getD]

theorem OwnVR.gone {B : Nat} {w W : World} {v v2 : Value} {rs : List Rw} {vs : List Vo} (h : OwnVR B w v rs vs) (hb : Below w.heap.size w W) (hB : B ≤ w.heap.size) {k : Nat} (hk : k < vs.length)
    (h2 : W.ownsRow w.heap.size 25 2 v2 (k + (vs.length - (k + 1))) (cellR (rs.take k) ++ cellR (rs.drop (k + 1)))) : OwnVR B W v2 (rs.eraseIdx k) (vs.eraseIdx k) := by
  have hl : (vs.eraseIdx k).length = vs.length - 1 := List.length_eraseIdx_of_lt hk
  have hv2 : ∀ q, v2.ownBlock = some q → w.heap.size ≤ q := fun q e => (arr_at h2 q e).1
  refine ⟨?_, by rw [List.length_eraseIdx_of_lt (by rw [h.len]; exact hk), hl, h.len], fun i hi => ?_, fun i j hij hj => ?_⟩
  · rw [List.eraseIdx_eq_take_drop_succ rs, cellR_append, hl, show vs.length - 1 = k + (vs.length - (k + 1)) from by omega]
    refine ⟨h2.1, ?_⟩
    rcases h2.2 with h3 | ⟨g, cap, cur, hv, h3, h4⟩
    · exact .inl h3
    · exact .inr ⟨g, cap, cur, hv, Nat.le_trans hB h3, h4⟩
  · rw [hl] at hi
    rw [rth_erase, vth_erase]
    by_cases e : i < k
    · rw [if_pos e, if_pos e]; exact (h.row i (by omega)).move hb hv2
    · rw [if_neg e, if_neg e]; exact (h.row (i + 1) (by omega)).move hb hv2
  · rw [hl] at hj
    rw [rth_erase, rth_erase]
    by_cases e : i < k <;> by_cases e2 : j < k <;> simp only [e, e2, if_true, if_false]
    · exact h.apart i j hij (by omega)
    · exact h.apart i (j + 1) (by omega) (by omega)
    · omega
    · exact h.apart (i + 1) (j + 1) (by omega) (by omega)

theorem OwnP.setFar {B : Nat} {w : World} {gs cs : Nat} {v : Value} {rs : List Rw} {p : Po} (h : OwnP B w gs cs v rs p) (q : Addr) (h1 : q.block ≠ gs) (h2 : v.ownBlock ≠ some q.block) (h3 : ∀ i, i < p.vols.length → blkOf (rth rs i).val ≠ q.block) (u : Value) : OwnP B (w.setCell q u) gs cs v rs p :=
  ⟨h.low, by simpa [World.setCell] using h.lt, h.cap, h.sl.kept (grownBy_setCell w q u) h.lt (fun e => h1 (by have e2 : gs = q.block := (by simpa using e); exact e2.symm)), h.vols.setFar q h2 h3 u, h.farV, h.farR⟩

theorem OwnP.gone {B : Nat} {w W : World} {gs cs : Nat} {v v2 : Value} {rs : List Rw} {xs : List Sl} {vs : List Vo} (h : OwnP B w gs cs v rs ⟨xs, vs⟩) (hb : Below w.heap.size w W) (hB : B ≤ w.heap.size) {k : Nat} (hk : k < vs.length)
    (h2 : W.ownsRow w.heap.size 25 2 v2 (k + (vs.length - (k + 1))) (cellR (rs.take k) ++ cellR (rs.drop (k + 1)))) : OwnP B W gs cs v2 (rs.eraseIdx k) ⟨xs, vs.eraseIdx k⟩ := by
  have hw := h.below hb (Nat.le_refl _)
  have hl : (vs.eraseIdx k).length = vs.length - 1 := List.length_eraseIdx_of_lt hk
  refine ⟨h.low, hw.lt, h.cap, hw.sl, h.vols.gone hb hB hk h2, fun e => by have := (arr_at h2 _ e).1; have := h.lt; omega, fun i hi => ?_⟩
  have hi2 : i < vs.length - 1 := by rw [← hl]; exact hi
  rw [rth_erase]
  split
  · exact h.farR i (by show i < vs.length; omega)
  · exact h.farR (i + 1) (by show i + 1 < vs.length; omega)

theorem XSt.next {B gs cs : Nat} {a : Option Addr} {n c bx : Nat} {rs : List Rw} {xs : List Sl} {vs : List Vo} {W W' : World} (h : XSt B gs cs a n c bx rs xs vs W) (hb : Below W.heap.size W W') : XSt B gs cs a n c bx rs xs vs W' :=
  ⟨h.own.below hb (Nat.le_refl _), (hb.cell (p := ⟨bx, 0, none⟩) h.ltx).trans h.c0, (hb.cell (p := ⟨bx, 1, none⟩) h.ltx).trans h.c1, (hb.frozen (p := ⟨bx, 0, none⟩) h.ltx).trans h.z0, h.big, Nat.lt_of_lt_of_le h.ltx hb.size, h.neS, h.neV, h.neR⟩

theorem GSt.next {w : World} {B gs cs : Nat} {a : Option Addr} {n c : Nat} {rs : List Rw} {xs : List Sl} {vs : List Vo} {W W' : World} (h : GSt w B gs cs a n c rs xs vs W) (hB : B ≤ W.heap.size) (hb : Below W.heap.size W W') : GSt w B gs cs a n c rs xs vs W' :=
  ⟨h.st.next hb, (hb.cell (p := ⟨w.heap.size + 1, 0, none⟩) h.sz).trans h.d0, (hb.cell (p := ⟨w.heap.size + 1, 1, none⟩) h.sz).trans h.d1, (hb.frozen (p := ⟨w.heap.size, 1, none⟩) h.st.ltx).trans h.y1, (hb.frozen (p := ⟨w.heap.size + 1, 0, none⟩) h.sz).trans h.z0, (hb.frozen (p := ⟨w.heap.size + 1, 1, none⟩) h.sz).trans h.z1,
   Nat.lt_of_lt_of_le h.sz hb.size, grownBy_trans h.bel (grown_below hb)⟩

set_option maxHeartbeats 3200000 in
theorem l11Gone_any (gs cs : Nat) (a : Option Addr) (n c B : Nat) (rs : List Rw) (p : Po) (nm : ByteArray) (w : World) (hO : OwnP B w gs cs (.slice a n c) rs p) (hP : PoolR p) (hB : B ≤ w.heap.size) :
    Calls Try.prog 46 #[.agg #[.slice (some ⟨gs, 0, none⟩) 8 cs, .slice a n c], .string nm] w fun e w' => ∃ v' rs', e = .returned (.tuple #[.agg #[.slice (some ⟨gs, 0, none⟩) 8 cs, v'], .bool (goneF p nm).2]) ∧
      OwnP B w' gs cs v' rs' (goneF p nm).1 ∧ w.grownBy w' (some gs) := by
  have hl := own_len hO.vols
  have h4 := hP.len4
  have hbx := boxPool w (some ⟨gs, 0, none⟩) 8 cs a n c 50
  have hy : ∀ i, ((w.alloc (.cells #[.slice (some ⟨gs, 0, none⟩) 8 cs, .slice a n c] 50)).alloc (.cells #[.slice none 0 0, .slice none 0 0] 50)).frozen? ⟨w.heap.size, i, none⟩ = false := fun i =>
    (old_cells (w.alloc (.cells #[.slice (some ⟨gs, 0, none⟩) 8 cs, .slice a n c] 50)) (.cells #[.slice none 0 0, .slice none 0 0] 50) w.heap.size i (by simp)).2.trans ((new_cells w #[.slice (some ⟨gs, 0, none⟩) 8 cs, .slice a n c] 50).2 i)
  have HY := Lib.hid hy
  have HBX := Lib.hid hbx
  have HO := Lib.hid hO
  have HP := Lib.hid hP
  have HL := Lib.hid hl
  have HAF := Lib.hid (fun W (hb2 : Below w.heap.size w W) => l11At_any (some ⟨gs, 0, none⟩) 8 cs a n c p.vols nm W (rdV_below (rdV_of_own hO.vols (by omega) hP.vols) hb2 (Nat.le_refl _)))
  have HM : Hid (goneF p nm = _) := Lib.hid (by unfold goneF; rfl)
  have HC := Lib.hid (atF_cases p.vols nm)
  obtain ⟨c0, c1, d0, d1, z0, z1, _, _⟩ := hbx
  clear hO hP hl hy
  obtain ⟨M, hM⟩ : ∃ M, goneF p nm = M := ⟨_, rfl⟩
  rw [hM] at HM
  rw [hM]
  clear hM
  obtain ⟨t, ht⟩ : ∃ t, atF p.vols nm = t := ⟨_, rfl⟩
  rw [ht] at HAF HM HC
  clear ht
  have HAF2 := Lib.hid (HAF.out _ HBX.out.bel)
  by_cases h0 : t < 0
  · have HMN : Hid (M = (p, false)) := Lib.hid (by rw [HM.out, if_neg (by omega)])
    clear HM
    go_enter Try.func46, Try.ntmps46
    go_wp2_with fail
    refine HAF2.out.mono ?_
    rintro e w3 ⟨rfl, hb3⟩
    obtain ⟨c0, c1, d0, d1, z0, z1, big3, bel3⟩ := HBX.out.next hb3
    clear hb3
    go_wp2_with fail
    rw [HMN.out]
    refine bodyPost_ret (v := .tuple #[.agg #[.slice (some ⟨gs, 0, none⟩) 8 cs, .slice a n c], .bool false]) (by simp [results, Try.f46, go_sem, d0, d1]) rfl ⟨_, rs, rfl, ?_, ?_⟩
    · exact HO.out.far2 bel3 _ _ (by simp) (by simp) _ _
    · exact grown_below ((bel3.setCell (by simp) _).setCell (by simp) _)
  · obtain ⟨k, hk, rfl, hkn⟩ : ∃ k : Nat, k < p.vols.length ∧ t = (k : Int) ∧ (vth p.vols k).name = nm := by
      rcases HC.out with ⟨k, h1, h2, h3⟩ | ⟨h2, _⟩
      · exact ⟨k, h1, h2, h3⟩
      · omega
    clear hkn h0
    have dk : decide ((k : Int) < 0) = false := by simp
    have HMN : Hid (M = (⟨decAll p.slots (vth p.vols k).blocks, p.vols.eraseIdx k⟩, true)) := Lib.hid (by
      rw [HM.out, if_pos (by omega), Int.toNat_natCast])
    have hv := HP.out.vol hk
    have HV1 := Lib.hid hv.1
    have hlen1 := hv.2.2.1
    have hlen6 := hv.2.2.2
    have HDU := Lib.hid (dec_uses HP.out hk)
    have HDT := Lib.hid (dec_take p.slots (vth p.vols k).blocks)
    have HDL := Lib.hid (fun m => (dec_len p.slots ((vth p.vols k).blocks.take m)).trans (storeB_len HP.out.store))
    have hkn : k < n := by rw [← HL.out]; exact hk
    obtain ⟨g, cap, hav, hgB, hgl, hcap, hrows, _⟩ := HO.out.vols.rows (by omega)
    injection hav with ea en ec
    subst ea ec
    clear en
    obtain ⟨_, gb, cb, hrv, hgb1, hgb2, hgb3, hgb4, hgb5, _⟩ := HO.out.vols.row k hk
    have HRV := Lib.hid hrv
    clear hv hrows hgb5 HM hrv
    obtain ⟨bs, hbs⟩ : ∃ bs, (vth p.vols k).blocks = bs := ⟨_, rfl⟩
    have HBS := Lib.hid hbs
    rw [hbs] at HMN HV1 hlen1 hlen6 HDU HDT HDL HRV hgb3 hgb4
    clear hbs
    obtain ⟨m, hm⟩ : ∃ m, bs.length = m := ⟨_, rfl⟩
    have HM := Lib.hid hm
    rw [hm] at hlen1 hlen6 hgb3 hgb4 HDT HRV
    clear hm
    go_enter Try.func46, Try.ntmps46
    go_wp2_with fail
    refine HAF2.out.mono ?_
    rintro e w3 ⟨rfl, hb3⟩
    have hX3 := HBX.out.next hb3
    have hy3 : ∀ i, w3.frozen? ⟨w.heap.size, i, none⟩ = false := fun i => (hb3.frozen (p := ⟨w.heap.size, i, none⟩) (by show w.heap.size < _; simp only [World.size_alloc]; omega)).trans (HY.out i)
    have big3 := hX3.big
    have hO3 := HO.out.below hX3.bel (Nat.le_refl _)
    have hgsl := HO.out.lt
    have hgsB := HO.out.low
    have hG3 : GSt w B gs cs (some ⟨g, 0, none⟩) n c rs p.slots p.vols w3 :=
      ⟨⟨hO3, hX3.c0, hX3.c1, hy3 0, hB, by omega, by omega, fun q e => by have e2 : g = q := (by simpa [Value.ownBlock] using e); omega, fun i hi => by have := (HO.out.vols.blk_lt i hi).2; omega⟩,
       hX3.d0, hX3.d1, hy3 1, hX3.z0, hX3.z1, by omega, grown_below hX3.bel⟩
    have HG3 := Lib.hid hG3
    clear c0 c1 d0 d1 z0 z1 hX3 hy3 hO3 hG3 hb3
    go_wp2_with fail
    go_loopw [7] (fun i wr => ∃ q : Nat, q ≤ m ∧ i = .int .i64 (q : Int) ∧ GSt w B gs cs (some ⟨g, 0, none⟩) n c rs (decAll p.slots (bs.take q)) p.vols wr) (fun i _ => m - (intOf i).toNat)
    case atStart => exact ⟨0, by omega, rfl, HG3.out⟩
    case round =>
      obtain ⟨q, hq, rfl, hg⟩ := hrel
      have HG := Lib.hid hg
      have c0 := hg.st.c0
      have c1 := hg.st.c1
      have y0 := hg.st.z0
      have y1 := hg.y1
      have z0 := hg.z0
      have z1 := hg.z1
      have d0 := hg.d0
      have d1 := hg.d1
      have sz := hg.sz
      obtain ⟨gv, egv, hgv7, hrow⟩ := hg.st.row hk
      injection egv with egv
      injection egv with egv
      subst egv
      rw [HRV.out] at hrow
      have hiw : IntsW wr gb bs := by have := hg.st.ints hk HRV.out; rwa [HBS.out] at this
      have HIW := Lib.hid hiw
      clear hg hiw
      by_cases hqm : q < m
      · have hbq := HIW.out.1 q (by rw [HM.out]; exact hqm)
        rw [Nat.zero_add] at hbq
        have hmem : bth bs q ∈ bs := by rw [bth_get _ _ (by rw [HM.out]; exact hqm)]; exact List.getElem_mem _
        obtain ⟨hb0, hb8⟩ := HV1.out _ hmem
        have HT := Lib.hid (HDT.out q hqm)
        have HU := Lib.hid (HDU.out q)
        have HLL := Lib.hid (HDL.out q)
        obtain ⟨X, hX⟩ : ∃ X, decAll p.slots (bs.take q) = X := ⟨_, rfl⟩
        rw [hX] at HT HU HLL HG
        obtain ⟨b, hb⟩ : ∃ b, bth bs q = b := ⟨_, rfl⟩
        rw [hb] at hbq hb0 hb8 HT
        clear hmem hX hb
        by_cases hz : 0 < b
        · obtain ⟨j, rfl⟩ : ∃ j : Nat, b = (j : Int) + 1 := ⟨(b - 1).toNat, by omega⟩
          have hj : j < 8 := by omega
          have HE : Hid (decAll p.slots (bs.take (q + 1)) = dropS X j) := Lib.hid (by
            rw [HT.out]; unfold decOne; rw [if_pos hz, show ((j : Int) + 1 - 1).toNat = j from by omega])
          have HDR := Lib.hid (fun W (hs : SlotsW W gs 0 X) => l2Drop_any gs 0 cs j X W hs HLL.out hj (HU.out j hj))
          have HDD := Lib.hid (HG.out.st.own.sl.drawn drawn_drew)
          have HGD : Hid (wr.grownBy wr.drew (some gs)) := Lib.hid ((drawn_drew (w := wr)).grown (some gs))
          have hGD := HG.out.slots hgsl hB HGD.out HDD.out
          have HGDD := Lib.hid hGD
          have HDR2 := Lib.hid (HDR.out wr.drew HDD.out)
          clear HT hGD
          have q1 : IntKind.i64.wrap (k : Int) = (k : Int) := IntWalk.i64_in _ (by omega)
          have q4 : (0 : Int) ≤ (k : Int) := by omega
          have q5 : (k : Int) < n := by omega
          have q6 : ¬ (k : Int) < 0 := by omega
          have q7 : ¬ (n : Int) ≤ (k : Int) := by omega
          have r1 : IntKind.i64.wrap (q : Int) = (q : Int) := IntWalk.i64_in _ (by omega)
          have r4 : (0 : Int) ≤ (q : Int) := by omega
          have r5 : (q : Int) < m := by omega
          have r6 : ¬ (q : Int) < 0 := by omega
          have r7 : ¬ (m : Int) ≤ (q : Int) := by omega
          go_wp2_with fail
          go_region_with (go_at_call 53; refine HDR2.out.mono ?_; rintro e w6 ⟨rfl, hs6, hg6⟩; have h6 := HGDD.out.slots hgsl hB hg6 hs6; rw [← HE.out] at h6; have x0 := h6.st.c0; have x1 := h6.st.z0; have HX7 := Lib.hid h6.box; clear h6 hs6 hg6)
          all_goals (
            go_wp2_with fail
            go_roundw
            case rel => exact ⟨q + 1, by omega, by go_num, HX7.out⟩
            case measure => simp [intOf]; omega)
        · have HE : Hid (decAll p.slots (bs.take (q + 1)) = X) := Lib.hid (by rw [HT.out]; unfold decOne; rw [if_neg hz])
          go_wp2_with fail
          go_roundw
          case rel => exact ⟨q + 1, by omega, by go_num, by rw [HE.out]; exact HG.out⟩
          case measure => simp [intOf]; omega
      · obtain rfl : q = m := by omega
        have HTK : Hid (bs.take q = bs) := Lib.hid (List.take_of_length_le (by rw [HM.out]; omega))
        rw [HTK.out] at HG
        obtain ⟨i0, hi, hz0, hz1, hz2⟩ := info_parts infoVol
        have HOWN := Lib.hid (World.ownsRow_made (e := 25) wr #[] 0 (Nat.le_refl _) (by unfold maxLen; omega) rfl (size := 2))
        have HBA : Hid (Below wr.heap.size wr (wr.alloc (.cells #[] 25))) := Lib.hid ((Below.refl _ _).alloc (Nat.le_refl _) _)
        have HFA := Lib.hid (fun W (hb : Below wr.heap.size wr W) => HG.out.next (by omega) hb)
        have hrl : rs.length = n := HO.out.vols.len.trans HL.out
        have HRL := Lib.hid hrl
        have HCE := Lib.hid (fun W (hb : Below wr.heap.size wr W) => (HFA.out W hb).st.own.vols.cells)
        have HON := Lib.hid (cellR_one HG.out.st.own.vols)
        clear hrl
        have q1 : IntKind.i64.wrap (k : Int) = (k : Int) := IntWalk.i64_in _ (by omega)
        have q2 : IntKind.i64.wrap ((k : Int) + 1) = ((k + 1 : Nat) : Int) := by rw [IntWalk.i64_in _ (by omega)]; omega
        have q4 : (0 : Int) ≤ (k : Int) := by omega
        have q5 : (k : Int) ≤ n := by omega
        have q6 : ¬ (k : Int) < 0 := by omega
        have q7 : ¬ (n : Int) < (k : Int) := by omega
        have s4 : (0 : Int) ≤ ((k + 1 : Nat) : Int) := by omega
        have s5 : ((k + 1 : Nat) : Int) ≤ n := by omega
        have s6 : ¬ ((k + 1 : Nat) : Int) < 0 := by omega
        have s7 : ¬ (n : Int) < ((k + 1 : Nat) : Int) := by omega
        have s8 : ((k + 1 : Nat) : Int).toNat = k + 1 := Int.toNat_natCast _
        have HN1 : Hid (∀ W, Below wr.heap.size wr W → ∀ j u, (cellR (rs.take k))[j]? = some u → W.cell? ((⟨g, 0, none⟩ : Addr).add j) = some u) := Lib.hid (fun W hb j u hj => by
          rw [cellR_take, List.getElem?_take] at hj
          split at hj
          · have := HCE.out W hb j u hj
            rw [add_lit, Nat.zero_add]; exact this
          · cases hj)
        have HN2 : Hid (∀ W, Below wr.heap.size wr W → ∀ j u, (cellR (rs.drop (k + 1)))[j]? = some u → W.cell? ((⟨g, (k + 1) * 2, none⟩ : Addr).add j) = some u) := Lib.hid (fun W hb j u hj => by
          rw [cellR_drop, List.getElem?_drop] at hj
          rw [add_lit]
          exact HCE.out W hb _ u hj)
        have HN0 : Hid (n = k + 1 → ∀ (W : World) (A : Addr) (j : Nat) (u : Value), (cellR (rs.drop (k + 1)))[j]? = some u → W.cell? (A.add j) = some u) := Lib.hid (fun e W A j u hj => by
          rw [List.drop_eq_nil_of_le (by rw [HRL.out]; omega)] at hj
          cases hj)
        have HE1 : Hid (∀ u ∈ cellR (rs.take k), u.oneCell' = true) := Lib.hid (fun u hu => HON.out u (by rw [cellR_take] at hu; exact List.mem_of_mem_take hu))
        have HE2 : Hid (∀ u ∈ cellR (rs.drop (k + 1)), u.oneCell' = true) := Lib.hid (fun u hu => HON.out u (by rw [cellR_drop] at hu; exact List.mem_of_mem_drop hu))
        have ca := (HFA.out _ HBA.out).st.c1
        have q9 : (k : Int) ≤ (k : Int) + 1 := by omega
        have hnc : n ≤ c := by rw [← HL.out]; exact hcap
        have hn4 : n ≤ 4 := by rw [← HL.out]; exact h4
        have s9 : (0 : Int) ≤ (k : Int) + 1 := by omega
        have s10 : (k : Int) + 1 ≤ n := by omega
        have q10 : (k : Int) ≤ c := by omega
        have kc : k ≤ c := by omega
        have kc1 : k + 1 ≤ c := by omega
        have kn : k + 1 ≤ n := by omega
        by_cases hck : c = k + 1
        case' pos => subst hck
        all_goals go_wp2_with fail
        all_goals go_region_law (first
          | (refine step_append_any (by rfl) _ _ _ (by rfl) wr.heap.size 25 i0 _ 2 40 Try.underlying48 hi hz0 hz1 hz2 rfl (by omega) (.slice (some ⟨wr.heap.size, 0, none⟩) 0 0) 0 [] (by rfl) (by first | exact HOWN.out | exact HOWN.out.drew) ⟨g, 0, none⟩ k _ (cellR (rs.take k)) (by rfl) (by rw [cellR_len, List.length_take, HRL.out]; omega) (HN1.out _ (by first | exact HBA.out | exact HBA.out.drew)) HE1.out (by unfold maxLen; omega) (by omega) (by simp) ?_; intro ta tn tc w1 hown1 hgrow1 hat1; simp only [Nat.zero_add, List.nil_append] at hown1; have HO1 := Lib.hid hown1; have hb1 : Below wr.heap.size wr w1 := (by first | exact HBA.out.drew.grown hgrow1 HBA.out.size (fun q e => by have e2 : wr.heap.size = q := (by simpa [Value.ownBlock] using e); omega) | exact HBA.out.grown hgrow1 HBA.out.size (fun q e => by have e2 : wr.heap.size = q := (by simpa [Value.ownBlock] using e); omega)); have HB1 := Lib.hid hb1; have k1 := (HFA.out w1 hb1).st.c1; clear hown1 hgrow1 hat1 hb1)
          | (refine step_append_any (by rfl) _ _ _ (by rfl) wr.heap.size 25 i0 _ 2 40 Try.underlying48 hi hz0 hz1 hz2 rfl (by omega) (.slice ta tn tc) k (cellR (rs.take k)) (by rfl) (by first | exact HO1.out | exact HO1.out.drew) ⟨g, 0, none⟩ 0 _ (cellR (rs.drop (k + 1))) (by rfl) (by rw [cellR_len, List.length_drop, HRL.out]; omega) (HN0.out (by omega) _ _) HE2.out (by unfold maxLen; omega) (by omega) (by first | exact HB1.out.size | exact HB1.out.drew.size) ?_; intro tb tm td w2 hown2 hgrow2 hat2; rw [show k + 0 = k + (n - (k + 1)) from by omega] at hown2; have HO2 := Lib.hid hown2; have hb2 : Below wr.heap.size wr w2 := (by first | exact HB1.out.grown hgrow2 HB1.out.size (fun q e => (arr_at HO1.out q e).1) | exact HB1.out.drew.grown hgrow2 HB1.out.size (fun q e => (arr_at HO1.out q e).1)); have HB2 := Lib.hid hb2; have f2 := HFA.out w2 hb2; have k2 := f2.st.c1; have k3 := f2.y1; have k4 := f2.st.c0; have k5 := f2.d0; have k6 := f2.d1; have k7 := f2.z0; have k8 := f2.z1; have HF2 := Lib.hid f2; clear hown2 hgrow2 hat2 hb2 f2)
          | (refine step_append_any (by rfl) _ _ _ (by rfl) wr.heap.size 25 i0 _ 2 40 Try.underlying48 hi hz0 hz1 hz2 rfl (by omega) (.slice ta tn tc) k (cellR (rs.take k)) (by rfl) (by first | exact HO1.out | exact HO1.out.drew) ⟨g, (k + 1) * 2, none⟩ (n - (k + 1)) _ (cellR (rs.drop (k + 1))) (by rfl) (by rw [cellR_len, List.length_drop, HRL.out]) (HN2.out _ (by first | exact HB1.out | exact HB1.out.drew)) HE2.out (by unfold maxLen; omega) (by omega) (by first | exact HB1.out.size | exact HB1.out.drew.size) ?_; intro tb tm td w2 hown2 hgrow2 hat2; have HO2 := Lib.hid hown2; have hb2 : Below wr.heap.size wr w2 := (by first | exact HB1.out.grown hgrow2 HB1.out.size (fun q e => (arr_at HO1.out q e).1) | exact HB1.out.drew.grown hgrow2 HB1.out.size (fun q e => (arr_at HO1.out q e).1)); have HB2 := Lib.hid hb2; have f2 := HFA.out w2 hb2; have k2 := f2.st.c1; have k3 := f2.y1; have k4 := f2.st.c0; have k5 := f2.d0; have k6 := f2.d1; have k7 := f2.z0; have k8 := f2.z1; have HF2 := Lib.hid f2; clear hown2 hgrow2 hat2 hb2 f2))
        all_goals (
          go_wp2_with fail
          rw [HMN.out]
          have hO2 := HG.out.st.own.gone (k := k) HB2.out (by omega) hk (by rw [HL.out]; exact HO2.out)
          have hfb : ∀ i, i < (p.vols.eraseIdx k).length → blkOf (rth (rs.eraseIdx k) i).val < w.heap.size := fun i hi => by
            rw [List.length_eraseIdx_of_lt hk] at hi
            rw [rth_erase]
            split
            · exact (HO.out.vols.blk_lt i (by omega)).2
            · exact (HO.out.vols.blk_lt (i + 1) (by omega)).2
          have hvb : ∀ q, (Value.slice tb tm td).ownBlock = some q → wr.heap.size ≤ q := fun q e => (arr_at HO2.out q e).1
          refine bodyPost_ret (v := .tuple #[.agg #[.slice (some ⟨gs, 0, none⟩) 8 cs, .slice tb tm td], .bool true]) (by simp [results, Try.f46, go_sem, k5, k6]) rfl ⟨_, rs.eraseIdx k, rfl, ?_, ?_⟩
          · exact ((hO2.setFar ⟨w.heap.size, 1, none⟩ (by show w.heap.size ≠ gs; omega) (fun e => by have := hvb w.heap.size e; omega) (fun i hi => by have := hfb i hi; show _ ≠ w.heap.size; omega) _).setFar ⟨w.heap.size + 1, 0, none⟩ (by show w.heap.size + 1 ≠ gs; omega) (fun e => by have := hvb (w.heap.size + 1) e; omega) (fun i hi => by have := hfb i hi; show _ ≠ w.heap.size + 1; omega) _).setFar ⟨w.heap.size + 1, 1, none⟩ (by show w.heap.size + 1 ≠ gs; omega) (fun e => by have := hvb (w.heap.size + 1) e; omega) (fun i hi => by have := hfb i hi; show _ ≠ w.heap.size + 1; omega) _
          · exact grown_set (grown_set (grown_set HF2.out.bel _ (by simp) _) _ (by simp) _) _ (by simp) _)

end Go.Proofs.Ytgogokahpmljbaa
