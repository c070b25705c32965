/- The model's l11Write: a piece is written on a block. -/
import Derived.Test.YtgogokahpmljbaaPoolClone
namespace Go.Proofs.Ytgogokahpmljbaa
open Go.RowKit
set_option linter.unusedVariables false
set_option maxRecDepth 100000

/-- The slots and rows of a pool that a call has copied for itself, with its box. -/
structure XSt (B : Nat) (gs cs : Nat) (a : Option Addr) (n c bx : Nat) (rs : List Rw) (xs : List Sl) (vs : List Vo) (W : World) : Prop where
  own : OwnP B W gs cs (.slice a n c) rs ⟨xs, vs⟩
  c0 : W.cell? ⟨bx, 0, none⟩ = some (.slice (some ⟨gs, 0, none⟩) 8 cs)
  c1 : W.cell? ⟨bx, 1, none⟩ = some (.slice a n c)
  z0 : W.frozen? ⟨bx, 0, none⟩ = false
  big : B ≤ bx
  ltx : bx < W.heap.size
  neS : bx ≠ gs
  neV : ∀ q, Value.ownBlock (.slice a n c) = some q → q ≠ bx
  neR : ∀ i, i < vs.length → blkOf (rth rs i).val ≠ bx

theorem setBlk_len (vs : List Vo) (k b : Nat) (x : Int) : (setBlk vs k b x).length = vs.length := by unfold setBlk; simp

theorem vth_setBlk (vs : List Vo) (k b i : Nat) (x : Int) (hk : k < vs.length) : vth (setBlk vs k b x) i = if k = i then ⟨(vth vs k).name, (vth vs k).blocks.set b x⟩ else vth vs i := by
  unfold setBlk vth
  rw [List.getD_eq_getElem?_getD, List.getD_eq_getElem?_getD, List.getElem?_set]
  by_cases e : k = i
  · subst e; simp [hk]
  · simp [e]

/-- A block of a row is written. -/
theorem own_setBlk {B : Nat} {w : World} {v : Value} {rs : List Rw} {vs : List Vo} (h : OwnVR B w v rs vs) {k b gb m cb : Nat} (hk : k < vs.length) (hb : b < (vth vs k).blocks.length) (hv : (rth rs k).val = .slice (some ⟨gb, 0, none⟩) m cb) (x : Int) :
    OwnVR B (w.setCell ⟨gb, b, none⟩ (.int .i64 x)) v rs (setBlk vs k b x) := by
  have hg := grownBy_setCell w ⟨gb, b, none⟩ (.int .i64 x)
  obtain ⟨hn, gb', cb', e, h1, h2, h3, h4, h5, h6⟩ := h.row k hk
  rw [hv] at e
  injection e with e1 e2 e3
  injection e1 with e1
  injection e1 with e1
  subst e1 e2 e3
  refine ⟨⟨by rw [setBlk_len]; exact h.arr.1, ?_⟩, by rw [setBlk_len]; exact h.len, fun i hi => ?_, fun i j hij hj => h.apart i j hij (by rwa [setBlk_len] at hj)⟩
  · rw [setBlk_len]
    rcases h.arr.2 with h7 | ⟨g, cap, cur, hv7, h8, h9, h10⟩
    · exact .inl h7
    · refine .inr ⟨g, cap, cur, hv7, h8, (Below.heap_setCell w _ _ g (fun e => h6 ?_)).trans h9, h10⟩
      rw [hv7, e]; rfl
  · rw [setBlk_len] at hi
    rw [vth_setBlk _ _ _ _ _ hk]
    by_cases e : k = i
    · subst e
      rw [if_pos rfl]
      exact ⟨hn, gb, cb, by simp only [List.length_set]; exact hv, h1, by simpa [World.setCell] using h2, by simpa using h3, by simpa using h4, intsW_set h5 b hb x, h6⟩
    · rw [if_neg e]
      obtain ⟨qn, gq, cq, e2, q1, q2, q3, q4, q5, q6⟩ := h.row i hi
      have hne : gq ≠ gb := by
        rcases Nat.lt_or_gt_of_ne e with hlt | hlt
        · have := h.apart k i hlt hi
          rw [hv, e2] at this
          exact fun e3 => this e3.symm
        · have := h.apart i k hlt hk
          rw [hv, e2] at this
          exact this
      exact ⟨qn, gq, cq, e2, q1, by simpa [World.setCell] using q2, q3, q4, intsW_kept q5 hg q2 (fun e3 => hne (by simpa using e3)), q6⟩

theorem XSt.blk {B gs cs : Nat} {a : Option Addr} {n c bx : Nat} {rs : List Rw} {xs : List Sl} {vs : List Vo} {W : World} (h : XSt B gs cs a n c bx rs xs vs W) {k b gb m cb : Nat} (hk : k < vs.length) (hb : b < (vth vs k).blocks.length) (hv : (rth rs k).val = .slice (some ⟨gb, 0, none⟩) m cb) (x : Int) :
    XSt B gs cs a n c bx rs xs (setBlk vs k b x) (W.setCell ⟨gb, b, none⟩ (.int .i64 x)) := by
  have hgs : gb ≠ gs := by have := h.own.farR k hk; rw [hv] at this; exact this
  have hgx : gb ≠ bx := by have := h.neR k hk; rw [hv] at this; exact this
  have hc : ∀ i, (W.setCell ⟨gb, b, none⟩ (.int .i64 x)).cell? ⟨bx, i, none⟩ = W.cell? ⟨bx, i, none⟩ := fun i => cell_other _ _ _ _ (fun e => hgx (by injection e))
  refine ⟨⟨h.own.low, by simpa [World.setCell] using h.own.lt, h.own.cap, h.own.sl.kept (grownBy_setCell W ⟨gb, b, none⟩ _) h.own.lt (fun e => hgs (by have e2 : gs = gb := (by simpa using e); exact e2.symm)), own_setBlk h.own.vols hk hb hv x, h.own.farV, fun i hi => h.own.farR i (by rwa [setBlk_len] at hi)⟩,
    (hc 0).trans h.c0, (hc 1).trans h.c1, (World.frozen?_setCell _ _ _ _).trans h.z0, h.big, by simpa [World.setCell] using h.ltx, h.neS, h.neV, fun i hi => h.neR i (by rwa [setBlk_len] at hi)⟩

theorem XSt.slots {B gs cs : Nat} {a : Option Addr} {n c bx : Nat} {rs : List Rw} {xs ys : List Sl} {vs : List Vo} {W W' : World} (h : XSt B gs cs a n c bx rs xs vs W) (hg : W.grownBy W' (some gs)) (hs : SlotsW W' gs 0 ys) : XSt B gs cs a n c bx rs ys vs W' := by
  have hc : ∀ i, W'.cell? ⟨bx, i, none⟩ = W.cell? ⟨bx, i, none⟩ ∧ W'.frozen? ⟨bx, i, none⟩ = W.frozen? ⟨bx, i, none⟩ := fun i =>
    ⟨World.cell?_of_block (w := W) (a := ⟨bx, i, none⟩) (hg.block bx h.ltx (fun e => h.neS (by injection e))), World.frozen?_of_block (w := W) (a := ⟨bx, i, none⟩) (hg.block bx h.ltx (fun e => h.neS (by injection e)))⟩
  exact ⟨⟨h.own.low, Nat.lt_of_lt_of_le h.own.lt hg.size, h.own.cap, hs, h.own.vols.keptFar hg h.own.farV h.own.farR, h.own.farV, h.own.farR⟩, (hc 0).1.trans h.c0, (hc 1).1.trans h.c1, (hc 0).2.trans h.z0, h.big, Nat.lt_of_lt_of_le h.ltx hg.size, h.neS, h.neV, h.neR⟩

theorem XSt.box {B gs cs : Nat} {a : Option Addr} {n c bx : Nat} {rs : List Rw} {xs : List Sl} {vs : List Vo} {W : World} (h : XSt B gs cs a n c bx rs xs vs W) : XSt B gs cs a n c bx rs xs vs (W.setCell ⟨bx, 0, none⟩ (.slice (some ⟨gs, 0, none⟩) 8 cs)) := by
  have h1 : (W.setCell ⟨bx, 0, none⟩ (.slice (some ⟨gs, 0, none⟩) 8 cs)).cell? ⟨bx, 1, none⟩ = W.cell? ⟨bx, 1, none⟩ := cell_other _ _ _ _ (ne_off _ _ _ (by omega))
  exact ⟨⟨h.own.low, by simpa [World.setCell] using h.own.lt, h.own.cap, h.own.sl.kept (grownBy_setCell W ⟨bx, 0, none⟩ _) h.own.lt (fun e => h.neS (by have e2 : gs = bx := (by simpa using e); exact e2.symm)),
      h.own.vols.setFar _ (fun e => h.neV _ e rfl) h.neR _, h.own.farV, h.own.farR⟩, cell_same _ _ _ _ h.c0, h1.trans h.c1, (World.frozen?_setCell _ _ _ _).trans h.z0, h.big, by simpa [World.setCell] using h.ltx, h.neS, h.neV, h.neR⟩

theorem XSt.row {B gs cs : Nat} {a : Option Addr} {n c bx : Nat} {rs : List Rw} {xs : List Sl} {vs : List Vo} {W : World} (h : XSt B gs cs a n c bx rs xs vs W) {k : Nat} (hk : k < vs.length) : ∃ gv, a = some ⟨gv, 0, none⟩ ∧ gv < W.heap.size ∧ W.cell? ⟨gv, k * 2 + 1, none⟩ = some (rth rs k).val := by
  obtain ⟨g, cap, hav, _, hgl, _, hr, _⟩ := h.own.vols.rows (by show 0 < vs.length; omega)
  injection hav with ea _ _
  have := (hr k (by rw [h.own.vols.len]; exact hk)).2
  rw [Nat.zero_add] at this
  exact ⟨g, ea, hgl, this⟩

theorem XSt.ints {B gs cs : Nat} {a : Option Addr} {n c bx : Nat} {rs : List Rw} {xs : List Sl} {vs : List Vo} {W : World} (h : XSt B gs cs a n c bx rs xs vs W) {k gb m cb : Nat} (hk : k < vs.length) (hv : (rth rs k).val = .slice (some ⟨gb, 0, none⟩) m cb) : IntsW W gb (vth vs k).blocks := by
  obtain ⟨_, gb', cb', e, _, _, _, _, h5, _⟩ := h.own.vols.row k hk
  rw [hv] at e
  injection e with e1 _ _
  injection e1 with e1
  injection e1 with e1
  rw [e1]; exact h5

theorem OwnP.setLow {B : Nat} {w : World} {gs cs : Nat} {v : Value} {rs : List Rw} {p : Po} (h : OwnP B w gs cs v rs p) (q : Addr) (hq : q.block < B) (u : Value) : OwnP B (w.setCell q u) gs cs v rs p :=
  ⟨h.low, by simpa [World.setCell] using h.lt, h.cap, h.sl.kept (grownBy_setCell w q u) h.lt (fun e => by have e2 : gs = q.block := (by simpa using e); have := h.low; omega), h.vols.setCell q hq u, h.farV, h.farR⟩

theorem OwnP.mono {B C : Nat} {w : World} {gs cs : Nat} {v : Value} {rs : List Rw} {p : Po} (h : OwnP B w gs cs v rs p) (hC : C ≤ B) : OwnP C w gs cs v rs p :=
  ⟨Nat.le_trans hC h.low, h.lt, h.cap, h.sl, h.vols.mono hC, h.farV, h.farR⟩

theorem setBlk_twice (vs : List Vo) (k b : Nat) (x y : Int) (hk : k < vs.length) : setBlk (setBlk vs k b x) k b y = setBlk vs k b y := by
  have e := vth_setBlk vs k b k x hk
  rw [if_pos rfl] at e
  unfold setBlk at e ⊢
  rw [e]
  simp [List.set_set]

set_option maxHeartbeats 6400000 in
theorem l11Write_any (gs cs : Nat) (a : Option Addr) (n c B : Nat) (rs : List Rw) (p : Po) (nm : ByteArray) (block : Int) (t : ByteArray) (w : World) (hO : OwnP B w gs cs (.slice a n c) rs p) (hP : PoolR p) (hs : t.size ≤ maxLen) (hB : B ≤ w.heap.size) :
    Calls Try.prog 44 #[.agg #[.slice (some ⟨gs, 0, none⟩) 8 cs, .slice a n c], .string nm, .int .i64 block, .string t] w fun e w' => ∃ g2 c2 v' rs', e = .returned (.tuple #[.agg #[.slice (some ⟨g2, 0, none⟩) 8 c2, v'], .bool (writeF p nm block t).2]) ∧
      OwnP B w' g2 c2 v' rs' (writeF p nm block t).1 ∧ Below w.heap.size w w' := by
  have hl := own_len hO.vols
  have h4 := hP.len4
  have hbx := boxPool w (some ⟨gs, 0, none⟩) 8 cs a n c 50
  have HBX := Lib.hid hbx
  have HO := Lib.hid hO
  have HP := Lib.hid hP
  have HL := Lib.hid hl
  have HTK := Lib.hid (fun W => textOkS_any t W hs)
  have HAF := Lib.hid (fun W (hb2 : Below w.heap.size w W) => l11At_any (some ⟨gs, 0, none⟩) 8 cs a n c p.vols nm W (rdV_below (rdV_of_own hO.vols (by omega) hP.vols) hb2 (Nat.le_refl _)))
  have HM : Hid (writeF p nm block t = _) := Lib.hid (by unfold writeF; rfl)
  have HC := Lib.hid (atF_cases p.vols nm)
  obtain ⟨c0, c1, d0, d1, z0, z1, _, _⟩ := hbx
  clear hO hP hl
  obtain ⟨M, hM⟩ : ∃ M, writeF p nm block t = M := ⟨_, rfl⟩
  rw [hM] at HM
  rw [hM]
  clear hM
  obtain ⟨u, hu⟩ : ∃ u, atF p.vols nm = u := ⟨_, rfl⟩
  rw [hu] at HAF HM HC
  clear hu
  have HAF2 := Lib.hid (HAF.out _ HBX.out.bel)
  by_cases h0 : u < 0
  · have HMN : Hid (M = (p, false)) := Lib.hid (by
      rw [HM.out]
      have : decide (0 ≤ u) = false := by simp; omega
      rw [this]; simp)
    clear HM
    go_enter Try.func44, Try.ntmps44
    go_wp2_with fail
    refine HAF2.out.mono ?_
    rintro e w3 ⟨rfl, hb3⟩
    obtain ⟨c0, c1, d0, d1, z0, z1, big3, bel3⟩ := HBX.out.next hb3
    have HB3 := Lib.hid bel3
    clear hb3 bel3
    go_wp2_with fail
    rw [HMN.out]
    refine bodyPost_ret (v := .tuple #[.agg #[.slice (some ⟨gs, 0, none⟩) 8 cs, .slice a n c], .bool false]) (by simp [results, Try.f44, go_sem, d0, d1]) rfl ⟨gs, cs, _, rs, rfl, ?_, ?_⟩
    · exact HO.out.far2 HB3.out _ _ (by simp) (by simp) _ _
    · exact (HB3.out.setCell (by simp) _).setCell (by simp) _
  · obtain ⟨k, hk, rfl, hkn⟩ : ∃ k : Nat, k < p.vols.length ∧ u = (k : Int) ∧ (vth p.vols k).name = nm := by
      rcases HC.out with ⟨k, h1, h2, h3⟩ | ⟨h2, _⟩
      · exact ⟨k, h1, h2, h3⟩
      · omega
    clear hkn h0
    have dk : decide ((k : Int) < 0) = false := by simp
    rw [Int.toNat_natCast] at HM
    have hkn : k < n := by rw [← HL.out]; exact hk
    have hv := HP.out.vol hk
    have HV1 := Lib.hid hv.1
    have hlen1 := hv.2.2.1
    have hlen6 := hv.2.2.2
    obtain ⟨g, cap, hav, hgB, hgl, hcap, hrows, _⟩ := HO.out.vols.rows (by omega)
    injection hav with ea en ec
    subst ea ec
    clear en
    obtain ⟨_, gb, cb, hrv, hgb1, hgb2, hgb3, hgb4, hgb5, _⟩ := HO.out.vols.row k hk
    have HRW := Lib.hid (fun W (hb : Below w.heap.size w W) => (rowsAt_below hrows hb hgl k (by rw [HO.out.vols.len]; exact hk)).2)
    rw [hrv] at HRW
    simp only [Nat.zero_add] at HRW
    obtain ⟨m, hm⟩ : ∃ m, (vth p.vols k).blocks.length = m := ⟨_, rfl⟩
    have HMM := Lib.hid hm
    rw [hm] at hlen1 hlen6 HRW hgb3 hgb4 HM
    clear hv hrows hrv hgb5 hm
    have HIN : Hid (∀ W, Calls Try.prog 20 #[.int .i64 block, .int .i64 0, .int .i64 ((m : Int) - 1)] W fun e w' => e = .returned (.bool (decide (0 ≤ block) && decide (block ≤ (m : Int) - 1))) ∧ w' = W) := Lib.hid (fun W => l6In_any block 0 ((m : Int) - 1) W)
    obtain ⟨r, hr⟩ : ∃ r, (decide (0 ≤ block) && decide (block ≤ (m : Int) - 1)) = r := ⟨_, rfl⟩
    have HR := Lib.hid hr
    rw [hr] at HIN HM
    clear hr
    obtain ⟨q, hq⟩ : ∃ q, tokB t.data.toList = q := ⟨_, rfl⟩
    have HQ := Lib.hid hq
    rw [hq] at HTK HM
    clear hq
    cases r
    · have HMN : Hid (M = (p, false)) := Lib.hid (by rw [HM.out]; simp)
      clear HM
      go_enter Try.func44, Try.ntmps44
      go_wp2_with fail
      refine HAF2.out.mono ?_
      rintro e w3 ⟨rfl, hb3⟩
      obtain ⟨c0, c1, d0, d1, z0, z1, big3, bel3⟩ := HBX.out.next hb3
      have hrv := HRW.out w3 bel3
      have HB3 := Lib.hid bel3
      clear hb3 bel3
      go_wp2_with (go_at_call 20; refine (HIN.out _).mono ?_; rintro e w' ⟨rfl, rfl⟩)
      rw [HMN.out]
      refine bodyPost_ret (v := .tuple #[.agg #[.slice (some ⟨gs, 0, none⟩) 8 cs, .slice (some ⟨g, 0, none⟩) n c], .bool false]) (by simp [results, Try.f44, go_sem, d0, d1]) rfl ⟨gs, cs, _, rs, rfl, ?_, ?_⟩
      · exact HO.out.far2 HB3.out _ _ (by simp) (by simp) _ _
      · exact (HB3.out.setCell (by simp) _).setCell (by simp) _
    · cases q
      · have HMN : Hid (M = (p, false)) := Lib.hid (by rw [HM.out]; simp)
        clear HM
        go_enter Try.func44, Try.ntmps44
        go_wp2_with fail
        refine HAF2.out.mono ?_
        rintro e w3 ⟨rfl, hb3⟩
        obtain ⟨c0, c1, d0, d1, z0, z1, big3, bel3⟩ := HBX.out.next hb3
        have hrv := HRW.out w3 bel3
        have HB3 := Lib.hid bel3
        clear hb3 bel3
        go_wp2_with (first | (go_at_call 20; refine (HIN.out _).mono ?_; rintro e w' ⟨rfl, rfl⟩) | (go_at_call 32; refine (HTK.out _).mono ?_; rintro e w' ⟨rfl, rfl⟩))
        rw [HMN.out]
        refine bodyPost_ret (v := .tuple #[.agg #[.slice (some ⟨gs, 0, none⟩) 8 cs, .slice (some ⟨g, 0, none⟩) n c], .bool false]) (by simp [results, Try.f44, go_sem, d0, d1]) rfl ⟨gs, cs, _, rs, rfl, ?_, ?_⟩
        · exact HO.out.far2 HB3.out _ _ (by simp) (by simp) _ _
        · exact (HB3.out.setCell (by simp) _).setCell (by simp) _
      · have hbr : 0 ≤ block ∧ block ≤ (m : Int) - 1 := by have := HR.out; simpa using this
        obtain ⟨b, rfl⟩ : ∃ b : Nat, block = (b : Int) := ⟨block.toNat, by omega⟩
        have hbm : b < m := by omega
        have hbk : b < (vth p.vols k).blocks.length := by rw [HMM.out]; exact hbm
        simp only [Int.toNat_natCast] at HM
        obtain ⟨hfs, hfu⟩ := freed HP.out hk hbk
        have hom : bth (vth p.vols k).blocks b ∈ (vth p.vols k).blocks := by rw [bth_get _ _ hbk]; exact List.getElem_mem hbk
        obtain ⟨ho0, ho8⟩ := HV1.out _ hom
        have HUS := Lib.hid (HP.out.used hk _ hom)
        obtain ⟨old, hold⟩ : ∃ old, bth (vth p.vols k).blocks b = old := ⟨_, rfl⟩
        have HOLD := Lib.hid hold
        rw [hold] at HM hfs ho0 ho8 HUS
        have HFS := Lib.hid hfs
        clear hfs hfu hom hold
        go_enter Try.func44, Try.ntmps44
        go_wp2_with fail
        refine HAF2.out.mono ?_
        rintro e w3 ⟨rfl, hb3⟩
        have hX3 := HBX.out.next hb3
        have HX3 := Lib.hid hX3
        obtain ⟨c0, c1, d0, d1, z0, z1, big3, bel3⟩ := hX3
        have hrv := HRW.out w3 bel3
        have HB3 := Lib.hid bel3
        have HCP := Lib.hid (l11Copy_any gs 0 cs (some ⟨g, 0, none⟩) n c p w3 (HO.out.sl.1.below bel3 HO.out.lt) (storeB_len HP.out.store) (rdV_below (rdV_of_own HO.out.vols (by have := HL.out; omega) HP.out.vols) bel3 (Nat.le_refl _)) (by have := HL.out; omega) (fun i hi => by have := (HP.out.vol (k := i) (by rw [HL.out]; exact hi)).2.2.1; omega))
        clear hb3 bel3
        go_wp2_with (first | (go_at_call 20; refine (HIN.out _).mono ?_; rintro e w' ⟨rfl, hww⟩; have hww := hww.symm; subst hww) | (go_at_call 32; refine (HTK.out _).mono ?_; rintro e w' ⟨rfl, hww⟩; have hww := hww.symm; subst hww))
        refine HCP.out.mono ?_
        rintro e w4 ⟨g2, c2, v2, rs2, rfl, hg2a, hg2b, hc2, hs2, hV2, hvl, hrl, hb4⟩
        obtain ⟨va, vn, vc, rfl⟩ := arr_slice hV2.arr
        have hvn := own_len hV2
        obtain rfl : n = vn := by rw [← hvn]; exact HL.out.symm
        have hb45 : Below w4.heap.size w4 (w4.alloc (.cells #[.slice (some ⟨g2, 0, none⟩) 8 c2, .slice va n vc] 50)) := (Below.refl _ _).alloc (Nat.le_refl _) _
        have n5 := new_cells w4 #[.slice (some ⟨g2, 0, none⟩) 8 c2, .slice va n vc] 50
        have hO2 : OwnP w3.heap.size w4 g2 c2 (.slice va n vc) rs2 ⟨p.slots, p.vols⟩ := ⟨hg2a, hg2b, hc2, hs2, hV2, fun e => by have := hvl _ e; omega, fun i hi e => by have := hrl i hi; omega⟩
        have hX5 : XSt w3.heap.size g2 c2 va n vc w4.heap.size rs2 p.slots p.vols (w4.alloc (.cells #[.slice (some ⟨g2, 0, none⟩) 8 c2, .slice va n vc] 50)) :=
          ⟨hO2.below hb45 (Nat.le_refl _), n5.1 0, n5.1 1, n5.2 0, hb4.size, by simp, by omega, fun q e => by have := (arr_at hV2.arr q e).2; omega, fun i hi => by have := (hV2.blk_lt i hi).2; omega⟩
        have hL5 : Below w3.heap.size w3 (w4.alloc (.cells #[.slice (some ⟨g2, 0, none⟩) 8 c2, .slice va n vc] 50)) := hb4.trans (hb45.mono hb4.size)
        obtain ⟨w5, hw5⟩ : ∃ w5, w5 = w4.alloc (.cells #[.slice (some ⟨g2, 0, none⟩) 8 c2, .slice va n vc] 50) := ⟨_, rfl⟩
        have HW5 := Lib.hid hw5
        rw [← hw5] at hX5 hL5
        have hcp5 := HX3.out.later hL5 big3
        have HBX5 := Lib.hid hcp5
        have HX5 := Lib.hid hX5
        have HL5 := Lib.hid hL5
        obtain ⟨_, gb2, cb2, hrv2, hq1, hq2, hq3, hq4, _, _⟩ := hX5.own.vols.row k hk
        have hrv2' : (rth rs2 k).val = .slice (some ⟨gb2, 0, none⟩) m cb2 := by rw [hrv2]; simp only; rw [HMM.out]
        have HRV2 := Lib.hid hrv2'
        obtain ⟨gv, rfl, hgv, hrow⟩ := hX5.row hk
        rw [hrv2'] at hrow
        have hbc := (hX5.ints hk hrv2').1 b hbk
        rw [Nat.zero_add, HOLD.out] at hbc
        have hx0 := hX5.c0
        have hx1 := hX5.c1
        clear hV2 hvn hb4 hs2 hb45 n5 hO2 hX5 hL5 hw5 hcp5 hrv2 hrv2' hq3 hq4 c0 c1 d0 d1 z0 z1 hrv hvl hrl
        go_upto_region 5 with fail
        rw [← HW5.out]
        have HBXR := Lib.hid (fun W (hb : Below w3.heap.size w3 W) => HX3.out.later hb big3)
        have HN8 := Lib.hid (storeB_len HP.out.store)
        obtain ⟨s1, hs1⟩ : ∃ s1, decOne p.slots old = s1 := ⟨_, rfl⟩
        have HS1 := Lib.hid hs1
        rw [hs1] at HM HFS
        clear hs1
        have d5 : (0 : Int) ≤ (b : Int) := by omega
        by_cases hz : 0 < old
        case' pos =>
          obtain ⟨j, rfl⟩ : ∃ j : Nat, old = (j : Int) + 1 := ⟨(old - 1).toNat, by omega⟩
          have hj : j < 8 := by omega
          have HS1' : Hid (dropS p.slots j = s1) := Lib.hid (by have := HS1.out; unfold decOne at this; rw [if_pos hz, show ((j : Int) + 1 - 1).toNat = j from by omega] at this; exact this)
          have HDR := Lib.hid (l2Drop_any g2 0 c2 j p.slots w5 HX5.out.own.sl HN8.out hj (by have := HP.out.small j hj; omega))
          go_wp2_with fail
          refine HDR.out.mono ?_
          rintro e w6 ⟨rfl, hs6, hg6⟩
          have hX6 := HX5.out.slots hg6 hs6
          rw [HS1'.out] at hX6
          have hL6 := HL5.out.grown hg6 (by have := HL5.out.size; omega) (fun q e => by injection e with e; have := hX6.own.low; omega)
          have HX7 := Lib.hid hX6.box
          have HL7 := Lib.hid (hL6.setCell (p := ⟨w4.heap.size, 0, none⟩) hX6.big (.slice (some ⟨g2, 0, none⟩) 8 c2))
          have hx0 := hX6.c0
          have hx2 := hX6.z0
          clear hX6 hL6 hs6 hg6
          go_upto_region 8 with fail
          generalize w6.setCell ⟨w4.heap.size, 0, none⟩ (.slice (some ⟨g2, 0, none⟩) 8 c2) = w7 at *
        case' neg =>
          have HS1' : Hid (p.slots = s1) := Lib.hid (by have := HS1.out; unfold decOne at this; rwa [if_neg hz] at this)
          have hX6 := HX5.out
          rw [HS1'.out] at hX6
          have HX7 := Lib.hid hX6
          have HL7 := Lib.hid HL5.out
          clear hX6
          go_upto_region 8 with fail
          obtain ⟨w7, hw7⟩ : ∃ w7, w7 = w5 := ⟨_, rfl⟩
          rw [← hw7] at HX7 HL7 ⊢
          clear hw7
        all_goals
          clear hx0 hx1 hrow hbc
          obtain ⟨gv', egv, hgv7, hrow⟩ := HX7.out.row hk
          injection egv with egv
          injection egv with egv
          subst egv
          rw [HRV2.out] at hrow
          have hI7 := HX7.out.ints hk HRV2.out
          have hbc := hI7.1 b hbk
          have hbf := hI7.2 b
          rw [Nat.zero_add] at hbc
          have hx1 := HX7.out.c1
          have HX8 := Lib.hid (HX7.out.blk hk hbk HRV2.out 0)
          have HL8 := Lib.hid (HL7.out.setCell (p := ⟨gb2, b, none⟩) hq1 (.int .i64 0))
          clear hI7
          go_upto_region 9 with fail
          generalize w7.setCell ⟨gb2, b, none⟩ (.int .i64 0) = w8 at *
          clear hbc hbf hx1 hrow HX7 HL7
          cases he : t.toList.isEmpty
          · have hg : goodB s1 t = true := (goodB_iff _ _).2 ⟨HFS.out, HQ.out, he⟩
            have hpl := (putS_len s1 t).trans (storeB_len HFS.out)
            have HPT := Lib.hid (l2Put_any g2 0 c2 s1 t w8 HX8.out.own.sl (storeB_len HFS.out) HQ.out (fun i hi => storeB_uses HFS.out i hi))
            have HM2 : Hid (M = if (putS s1 t).2.2 = true then (⟨(putS s1 t).1, setBlk p.vols k b (putS s1 t).2.1⟩, true) else (p, false)) := Lib.hid (by
              rw [HM.out, he]; simp)
            obtain ⟨P, hPP⟩ : ∃ P, putS s1 t = P := ⟨_, rfl⟩
            rw [hPP] at HPT HM2
            clear hg hpl hPP HM
            obtain ⟨s2, at2, ok⟩ := P
            simp only at HPT HM2
            have hx0 := HX8.out.c0
            go_wp2_with fail
            refine HPT.out.mono ?_
            rintro e w9 ⟨rfl, hs9, hg9⟩
            have HX9 := Lib.hid (HX8.out.slots hg9 hs9)
            have HL9 := Lib.hid (HL8.out.grown hg9 (by have := HL8.out.size; omega) (fun q e => by injection e with e; have := HX8.out.own.low; omega))
            clear hs9 hg9 hx0
            cases ok
            · have HMN : Hid (M = (p, false)) := Lib.hid (by rw [HM2.out]; rfl)
              obtain ⟨e0, e1, d0, d1, z0, z1, _, _⟩ := HBXR.out w9 HL9.out
              have HB9 := Lib.hid (HB3.out.trans (HL9.out.mono (by omega)))
              go_wp2_with fail
              rw [HMN.out]
              refine bodyPost_ret (v := .tuple #[.agg #[.slice (some ⟨gs, 0, none⟩) 8 cs, .slice (some ⟨g, 0, none⟩) n c], .bool false]) (by simp [results, Try.f44, go_sem, d0, d1]) rfl ⟨gs, cs, _, rs, rfl, ?_, ?_⟩
              · exact HO.out.far2 HB9.out _ _ (by simp) (by simp) _ _
              · exact (HB9.out.setCell (by simp) _).setCell (by simp) _
            · have HMN : Hid (M = (⟨s2, setBlk p.vols k b at2⟩, true)) := Lib.hid (by rw [HM2.out]; rfl)
              have hx0 := HX9.out.c0
              have hx2 := HX9.out.z0
              have HX10 := Lib.hid HX9.out.box
              have HL10 := Lib.hid (HL9.out.setCell (p := ⟨w4.heap.size, 0, none⟩) HX9.out.big (.slice (some ⟨g2, 0, none⟩) 8 c2))
              go_upto_region 15 with fail
              generalize w9.setCell ⟨w4.heap.size, 0, none⟩ (.slice (some ⟨g2, 0, none⟩) 8 c2) = w10 at *
              clear hx0 hx2
              have hk2 : k < (setBlk p.vols k b 0).length := by rw [setBlk_len]; exact hk
              have hbk2 : b < (vth (setBlk p.vols k b 0) k).blocks.length := by rw [vth_setBlk _ _ _ _ _ hk, if_pos rfl]; simpa using hbk
              obtain ⟨gv2, egv, hgv10, hrow⟩ := HX10.out.row hk2
              injection egv with egv
              injection egv with egv
              subst egv
              rw [HRV2.out] at hrow
              have hI := HX10.out.ints hk2 HRV2.out
              have hbc := hI.1 b hbk2
              have hbf := hI.2 b
              rw [Nat.zero_add] at hbc
              have hx1 := HX10.out.c1
              have HX11 := Lib.hid (by have := HX10.out.blk hk2 hbk2 HRV2.out at2; rwa [setBlk_twice _ _ _ _ _ hk] at this)
              have HL11 := Lib.hid (HL10.out.setCell (p := ⟨gb2, b, none⟩) hq1 (.int .i64 at2))
              clear hI hk2 hbk2
              go_upto_region 16 with fail
              generalize w10.setCell ⟨gb2, b, none⟩ (.int .i64 at2) = w11 at *
              clear hbc hbf hx1 hrow
              obtain ⟨e0, e1, d0, d1, z0, z1, _, _⟩ := HBXR.out w11 HL11.out
              have hy0 := HX11.out.own
              have hx0 := HX11.out.c0
              have hx1 := HX11.out.c1
              have HOW := Lib.hid hy0
              clear hy0
              go_wp2_with fail
              rw [HMN.out]
              refine bodyPost_ret (v := .tuple #[.agg #[.slice (some ⟨g2, 0, none⟩) 8 c2, .slice (some ⟨gv, 0, none⟩) n vc], .bool true]) (by simp [results, Try.f44, go_sem, d0, d1]) rfl ⟨g2, c2, _, rfl, ⟨rs2, ?_⟩, ?_⟩
              · exact ((HOW.out.setLow _ (by simp; omega) _).setLow _ (by simp; omega) _).mono (by omega)
              · exact ((HB3.out.trans (HL11.out.mono (by omega))).setCell (by simp) _).setCell (by simp) _
          · have HMN : Hid (M = (⟨s1, setBlk p.vols k b 0⟩, true)) := Lib.hid (by rw [HM.out, he]; rfl)
            clear HM
            obtain ⟨e0, e1, d0, d1, z0, z1, _, _⟩ := HBXR.out w8 HL8.out
            have hy0 := HX8.out.own
            have hx0 := HX8.out.c0
            have hx1 := HX8.out.c1
            have HOW := Lib.hid hy0
            clear hy0
            go_wp2_with fail
            rw [HMN.out]
            refine bodyPost_ret (v := .tuple #[.agg #[.slice (some ⟨g2, 0, none⟩) 8 c2, .slice (some ⟨gv, 0, none⟩) n vc], .bool true]) (by simp [results, Try.f44, go_sem, d0, d1]) rfl ⟨g2, c2, _, rfl, ⟨rs2, ?_⟩, ?_⟩
            · exact ((HOW.out.setLow _ (by simp; omega) _).setLow _ (by simp; omega) _).mono (by omega)
            · exact ((HB3.out.trans (HL8.out.mono (by omega))).setCell (by simp) _).setCell (by simp) _

end Go.Proofs.Ytgogokahpmljbaa
