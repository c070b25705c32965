/- Pools that are read: the model's l11At and l11Copy. -/
import Derived.Test.YtgogokahpmljbaaPoolRow
namespace Go.Proofs.Ytgogokahpmljbaa
open Go.RowKit
set_option linter.unusedVariables false
set_option maxRecDepth 100000

/-- A row that is read. -/
def RdRow (w : World) (r : Rw) (x : Vo) : Prop := r.name = x.name ∧ Intv w r.val x.blocks ∧ x.name.size ≤ maxLen

/-- A slice of disks that is read. -/
def RdV (w : World) (a : Option Addr) (n c : Nat) (vs : List Vo) : Prop :=
  vs.length = n ∧ n ≤ 2000000 ∧ (vs = [] ∨ ∃ g off rs, a = some ⟨g, off, none⟩ ∧ rs.length = n ∧ RowsAt w g off rs ∧ ∀ i, i < n → RdRow w (rth rs i) (vth vs i))

theorem rdV_below {w w' : World} {B : Nat} {a : Option Addr} {n c : Nat} {vs : List Vo} (h : RdV w a n c vs) (hb : Below B w w') (hB : w.heap.size ≤ B) : RdV w' a n c vs := by
  obtain ⟨h1, h2, h3⟩ := h
  refine ⟨h1, h2, ?_⟩
  rcases h3 with h3 | ⟨g, off, rs, ha, hl, hr, hx⟩
  · exact .inl h3
  · by_cases h0 : 0 < n
    · exact .inr ⟨g, off, rs, ha, hl, rowsAt_below hr hb (by have := rowsAt_lt hr (by omega); omega), fun i hi => ⟨(hx i hi).1, intv_below (hx i hi).2.1 hb hB, (hx i hi).2.2⟩⟩
    · exact .inl (List.eq_nil_of_length_eq_zero (by omega))

theorem rdV_at {w : World} {a : Option Addr} {n c : Nat} {vs : List Vo} (h : RdV w a n c vs) (i : Nat) (hi : i < n) :
    ∃ g off rs, a = some ⟨g, off, none⟩ ∧ rs.length = n ∧ RowsAt w g off rs ∧ ∀ i, i < n → RdRow w (rth rs i) (vth vs i) := by
  obtain ⟨h1, h2, h3⟩ := h
  rcases h3 with h3 | h3
  · subst h3; simp at h1; omega
  · exact h3

set_option maxHeartbeats 800000 in
theorem l11At_any (sa : Option Addr) (sn sc : Nat) (a : Option Addr) (n c : Nat) (vs : List Vo) (nm : ByteArray) (w : World) (hV : RdV w a n c vs) :
    Calls Try.prog 51 #[.agg #[.slice sa sn sc, .slice a n c], .string nm] w fun e w' => e = .returned (.int .i64 (atF vs nm)) ∧ Below w.heap.size w w' := by
  have hn := hV.2.1
  have hb0 : Below w.heap.size w (w.alloc (.cells #[.slice sa sn sc, .slice a n c] 50)) := (Below.refl _ _).alloc (Nat.le_refl _) _
  have HV := Lib.hid (rdV_below hV hb0 (Nat.le_refl _))
  have HL := Lib.hid hV.1
  have HB := Lib.hid hb0
  clear hV hb0
  go_enter Try.func51, Try.ntmps51
  go_wp2_with fail
  go_loop [5] (fun i => ∃ k : Nat, k ≤ n ∧ i = .int .i64 (k : Int) ∧ ∀ j, j < k → isN vs nm j = false) (fun i => n - (intOf i).toNat)
  case atStart => exact ⟨0, by omega, rfl, fun j hj => by omega⟩
  case round =>
    obtain ⟨k, hk, rfl, hno⟩ := hrel
    have Hno := Lib.hid hno
    clear hno
    by_cases hlt : k < n
    · obtain ⟨g, off, rs, rfl, hrl, hr, hx⟩ := rdV_at HV.out k hlt
      have hc := (hr k (by omega)).1
      have hnm := (hx k hlt).1
      rw [hnm] at hc
      have Hh : Hid (isN vs nm k = ((vth vs k).name.toList == nm.toList)) := Lib.hid rfl
      obtain ⟨x, hxk⟩ : ∃ x, (vth vs k).name = x := ⟨_, rfl⟩
      rw [hxk] at hc Hh
      clear hxk hnm hr hx hrl
      cases hb : (x.toList == nm.toList)
      · rw [hb] at Hh
        go_wp2_with fail
        go_round
        case rel => exact ⟨k + 1, by omega, by go_num, fun j hj => by
          by_cases e : j = k
          · subst e; exact Hh.out
          · exact Hno.out j (by omega)⟩
        case measure => simp [intOf]; omega
      · rw [hb] at Hh
        go_wp2_with fail
        go_ret
        exact ⟨ret_int (by rw [atF_hit vs nm k (by rw [HL.out]; exact hlt) Hh.out Hno.out]), HB.out⟩
    · obtain rfl : k = n := by omega
      go_wp2_with fail
      go_ret
      exact ⟨ret_int (by rw [atF_none vs nm (by rw [HL.out]; exact Hno.out)]), HB.out⟩

theorem vth_take (vs : List Vo) (k i : Nat) (h : i < k) : vth (vs.take k) i = vth vs i := by
  simp [vth, List.getD_eq_getElem?_getD, List.getElem?_take_of_lt h]

theorem take_vo (vs : List Vo) (k : Nat) (hk : k < vs.length) : vs.take (k + 1) = vs.take k ++ [vth vs k] := by
  rw [List.take_succ_eq_append_getElem hk, vth_get _ _ hk]

set_option maxHeartbeats 1600000 in
theorem l11Copy_any (gs os sc : Nat) (a : Option Addr) (n c : Nat) (p : Po) (w : World) (hS : Slots w gs os p.slots) (hl : p.slots.length = 8) (hV : RdV w a n c p.vols) (hn : n ≤ 1000) (hne : ∀ i, i < n → 0 < (vth p.vols i).blocks.length) :
    Calls Try.prog 37 #[.agg #[.slice (some ⟨gs, os, none⟩) 8 sc, .slice a n c]] w fun e w' => ∃ g2 c2 v rs, e = .returned (.agg #[.slice (some ⟨g2, 0, none⟩) 8 c2, v]) ∧
      w.heap.size ≤ g2 ∧ g2 < w'.heap.size ∧ 8 ≤ c2 ∧ SlotsW w' g2 0 p.slots ∧ OwnVR w.heap.size w' v rs p.vols ∧ (∀ q, v.ownBlock = some q → q < g2) ∧ (∀ i, i < p.vols.length → blkOf (rth rs i).val < g2) ∧ Below w.heap.size w w' := by
  have lgs := hS.lt (by omega)
  have hb2 : Below w.heap.size w ((w.alloc (.cells #[.slice (some ⟨gs, os, none⟩) 8 sc, .slice a n c] 50)).alloc (.cells #[.slice none 0 0, .slice none 0 0] 50)) :=
    ((Below.refl _ _).alloc (Nat.le_refl _) _).alloc (by simp) _
  have HV := Lib.hid (fun W (hb : Below w.heap.size w W) => rdV_below hV hb (Nat.le_refl _))
  have HS := Lib.hid (fun W (hb : Below w.heap.size w W) => hS.below hb lgs)
  have HL := Lib.hid hV.1
  have HL8 := Lib.hid hl
  have HNE := Lib.hid hne
  have hown := World.ownsRow_made (e := 25) ((w.alloc (.cells #[.slice (some ⟨gs, os, none⟩) 8 sc, .slice a n c] 50)).alloc (.cells #[.slice none 0 0, .slice none 0 0] 50)) #[] 0 (Nat.le_refl _) (by unfold maxLen; omega) rfl (size := 2)
  simp only [World.size_alloc] at hown
  have HOWN := Lib.hid hown
  have HB2 := Lib.hid hb2
  clear hS hV hl hne hown hb2
  go_enter Try.func37, Try.ntmps37
  go_wp2_with fail
  go_loopw [3, 4] (fun v i wr => ∃ (k : Nat) (rs : List Rw), k ≤ n ∧ i = .int .i64 (k : Int) ∧ OwnVR (w.heap.size + 1 + 1) wr v rs (p.vols.take k) ∧
      Below (w.heap.size + 1 + 1) ((w.alloc (.cells #[.slice (some ⟨gs, os, none⟩) 8 sc, .slice a n c] 50)).alloc (.cells #[.slice none 0 0, .slice none 0 0] 50)) wr) (fun _ i _ => n - (intOf i).toNat)
  case atStart =>
    refine ⟨0, [], by omega, rfl, ⟨HOWN.out, rfl, fun i hi => ?_, fun i j _ hj => ?_⟩, (Below.refl _ _).alloc (by simp) _⟩
    · simp at hi
    · simp at hj
  case round =>
    obtain ⟨k, rs, hk, rfl, hO, hbr⟩ := hrel
    obtain ⟨va, vn, vc, rfl⟩ := arr_slice hO.arr
    have hB := HB2.out.trans (hbr.mono (by omega))
    have hsz : w.heap.size + 1 + 1 ≤ wr.heap.size := by have := hbr.size; simp at this; omega
    have n0 := new_cells w #[.slice (some ⟨gs, os, none⟩) 8 sc, .slice a n c] 50
    have n1 := new_cells (w.alloc (.cells #[.slice (some ⟨gs, os, none⟩) 8 sc, .slice a n c] 50)) #[.slice none 0 0, .slice none 0 0] 50
    have o0 := fun i => old_cells (w.alloc (.cells #[.slice (some ⟨gs, os, none⟩) 8 sc, .slice a n c] 50)) (.cells #[.slice none 0 0, .slice none 0 0] 50) w.heap.size i (by simp)
    simp only [World.size_alloc] at n1
    have hp0 : wr.cell? ⟨w.heap.size, 0, none⟩ = some (.slice (some ⟨gs, os, none⟩) 8 sc) := (hbr.cell (p := ⟨w.heap.size, 0, none⟩) (by show w.heap.size < _; omega)).trans ((o0 0).1.trans (n0.1 0))
    have hp1 : wr.cell? ⟨w.heap.size, 1, none⟩ = some (.slice a n c) := (hbr.cell (p := ⟨w.heap.size, 1, none⟩) (by show w.heap.size < _; omega)).trans ((o0 1).1.trans (n0.1 1))
    have hq0 : wr.cell? ⟨w.heap.size + 1, 0, none⟩ = some (.slice none 0 0) := (hbr.cell (p := ⟨w.heap.size + 1, 0, none⟩) (by show w.heap.size + 1 < _; omega)).trans (n1.1 0)
    have hq1 : wr.cell? ⟨w.heap.size + 1, 1, none⟩ = some (.slice none 0 0) := (hbr.cell (p := ⟨w.heap.size + 1, 1, none⟩) (by show w.heap.size + 1 < _; omega)).trans (n1.1 1)
    have hz0 : wr.frozen? ⟨w.heap.size + 1, 0, none⟩ = false := (hbr.frozen (p := ⟨w.heap.size + 1, 0, none⟩) (by show w.heap.size + 1 < _; omega)).trans (n1.2 0)
    have hz1 : wr.frozen? ⟨w.heap.size + 1, 1, none⟩ = false := (hbr.frozen (p := ⟨w.heap.size + 1, 1, none⟩) (by show w.heap.size + 1 < _; omega)).trans (n1.2 1)
    clear n0 n1 o0
    have HO := Lib.hid hO
    have HBR := Lib.hid hbr
    have HB := Lib.hid hB
    clear hO hbr hB
    by_cases hlt : k < n
    · obtain ⟨g, off, rsi, rfl, hrl, hr, hx⟩ := rdV_at (HV.out wr HB.out) k hlt
      obtain ⟨hc, hcv⟩ := hr k (by omega)
      obtain ⟨hnm, hiv, _⟩ := hx k hlt
      obtain ⟨ab, nb, cb, hvv, hbn, hbn1, hbi⟩ := hiv
      have h0 := HNE.out k hlt
      obtain ⟨gb, ob, rfl, hib⟩ := ints_at hbi 0 h0
      rw [hnm] at hc
      rw [hvv] at hcv
      have HT := Lib.hid (take_vo p.vols k (by rw [HL.out]; exact hlt))
      have HK : Hid ((p.vols.take k).length = k) := Lib.hid (by rw [List.length_take, HL.out]; omega)
      have HC := Lib.hid (l3Copy_any (vth p.vols k).name gb ob nb cb (vth p.vols k).blocks wr hib hbn (by omega) hbn1)
      clear hr hx hnm hvv hbi hib hrl hbn h0
      obtain ⟨x, hx⟩ : ∃ x, vth p.vols k = x := ⟨_, rfl⟩
      rw [hx] at hc HC HT
      clear hx
      obtain ⟨nm, bs⟩ := x
      simp only at hc HC
      go_wp2_with fail
      refine HC.out.mono ?_
      rintro e w3 ⟨u, rfl, hu, hb3⟩
      have HU := Lib.hid hu
      have HB3 := Lib.hid hb3
      have hs3 := hb3.size
      have HO3 := Lib.hid (HO.out.below hb3 (Nat.le_refl _))
      have HR : Hid (RowOk (w.heap.size + 1 + 1) w3 (.slice va vn vc) ⟨nm, u⟩ ⟨nm, bs⟩) := Lib.hid (by
        obtain ⟨gu, cu, hu1, hu2, hu3, hu4, hu5, hu6⟩ := HU.out
        exact ⟨rfl, gu, cu, hu1, by omega, hu3, hu4, hu5, hu6, fun e => by have := (arr_at HO.out.arr gu e).2; omega⟩)
      have HD : Hid (∀ i, i < (p.vols.take k).length → blkOf (rth rs i).val ≠ blkOf u) := Lib.hid (fun i hi => by
        have h1 := (HO.out.blk_lt i hi).2
        obtain ⟨gu, cu, hu1, hu2, _⟩ := HU.out
        rw [hu1]; show _ ≠ gu; omega)
      obtain ⟨gu, nu, cu, hue⟩ := HR.out.one
      simp only at hue
      subst hue
      clear hu hb3
      go_wp2_with (at_builtin; refine wpList_append_vol w3 rfl _ _ rfl (w.heap.size + 1 + 1) _ rs _ HO3.out rfl ⟨nm, _⟩ ⟨nm, bs⟩ HR.out HD.out rfl (by rw [HK.out]; omega) (by omega) ?_; intro v' w4 hV4 hg4 hat4)
      rw [← HT.out] at hV4
      have hb4 := (HBR.out.trans (HB3.out.mono (by omega))).grown hg4 (by omega) (fun q e => (arr_at HO3.out.arr q e).1)
      go_roundw
      case rel => exact ⟨k + 1, _, by omega, by go_num, hV4, hb4⟩
      case measure => simp [intOf]; omega
    · obtain rfl : k = n := by omega
      have HTK : Hid (p.vols.take k = p.vols) := Lib.hid (List.take_of_length_le (by rw [HL.out]; omega))
      have HC := Lib.hid (l2Copy_any gs os 8 sc p.slots wr (HS.out wr HB.out) HL8.out (by omega) (by omega))
      go_wp2_with fail
      refine HC.out.mono ?_
      rintro e w3 ⟨g2, c2, rfl, hg2, hl2, hc2, hs2, hb3⟩
      have hs3 := hb3.size
      have hq0 := (hb3.cell (p := ⟨w.heap.size + 1, 0, none⟩) (by show w.heap.size + 1 < _; omega)).trans hq0
      have hq1 := (hb3.cell (p := ⟨w.heap.size + 1, 1, none⟩) (by show w.heap.size + 1 < _; omega)).trans hq1
      have hz0 := (hb3.frozen (p := ⟨w.heap.size + 1, 0, none⟩) (by show w.heap.size + 1 < _; omega)).trans hz0
      have hz1 := (hb3.frozen (p := ⟨w.heap.size + 1, 1, none⟩) (by show w.heap.size + 1 < _; omega)).trans hz1
      have HS2 := Lib.hid hs2
      have HO3 := Lib.hid (HO.out.below hb3 (Nat.le_refl _))
      have HBE := Lib.hid (HB.out.trans (hb3.mono HB.out.size))
      clear hs2 hb3
      go_wp2_with fail
      refine bodyPost_ret (v := .agg #[.slice (some ⟨g2, 0, none⟩) 8 c2, .slice va vn vc]) (by simp [results, Try.f37, go_sem, hq0, hq1]) rfl ⟨g2, c2, _, rs, rfl, by omega, by simpa [World.setCell] using hl2, hc2, ?_, ?_, fun q e => ?_, fun i hi => ?_, ?_⟩
      · exact HS2.out.kept (grownBy_trans (grownBy_setCell _ ⟨w.heap.size + 1, 0, none⟩ _) (grownBy_setCell _ ⟨w.heap.size + 1, 1, none⟩ _)) hl2 (fun e => by have e2 : g2 = w.heap.size + 1 := (by simpa using e); omega)
      · have := (HO3.out.setCell ⟨w.heap.size + 1, 0, none⟩ (by simp) (.slice (some ⟨g2, 0, none⟩) 8 c2)).setCell ⟨w.heap.size + 1, 1, none⟩ (by simp) (.slice va vn vc)
        rw [HTK.out] at this
        exact this.mono (by omega)
      · have := (arr_at HO.out.arr q e).2; omega
      · have h1 := (HO.out.blk_lt i (by rw [HTK.out]; exact hi)).2; omega
      · exact (HBE.out.setCell (by simp) _).setCell (by simp) _

end Go.Proofs.Ytgogokahpmljbaa
