/- For every pair of codes the law FnPutTwo returns true and leaves both as they were. No condition. -/
import Derived.Test.YtgajhknljnhfmaaRows
import Derived.WalkKit
import Derived.ProofKit
import Derived.OpenShut
import Derived.ShutString
import Derived.ChangeOld
import Derived.Below
import Derived.Test.YtgajhknljnhfmaaHead
import Derived.Test.YtgajhknljnhfmaaStoreMath3
namespace Go.Proofs.Ytgajhknljnhfmaa.fnPutTwo
open Go.ChangeShapes Go.WideShapes Go.ChangeAt Go.RowKit
open Go.ChangeMaps (open_string shut_string)
set_option linter.unusedVariables false

theorem own : ownKnob Try.prog.godebug = none := by kernel_rfl
theorem laidOut : laidOutB Try.prog = true := by kernel_rfl

def IsRow (k : IntKind) (w : World) (a : Option Addr) (len cap : Nat) (zs : List Int) : Prop :=
  (a = none ∧ len = 0 ∧ cap = 0 ∧ zs = []) ∨
  ∃ x, a = some x ∧ len ≤ cap ∧ cap ≤ maxLen ∧ zs.length = cap ∧ (∀ i, i < zs.length → w.cell? (x.add i) = some (.int k (zs.getD i 0))) ∧ ∀ n ∈ zs, (Lit.int k n).wf = true

set_option maxRecDepth 100000 in
set_option maxHeartbeats 800000 in
theorem walk (w : World) (a0 : Option Addr) (len0 cap0 : Nat) (z0 : List Int) (w0 : IsRow .u8 w a0 len0 cap0 z0) (a1 : Option Addr) (len1 cap1 : Nat) (z1 : List Int) (w1 : IsRow .u8 w a1 len1 cap1 z1) :
    Calls Try.prog 8 #[.slice a0 len0 cap0, .slice a1 len1 cap1] w fun e w' => e = .returned (.bool true) ∧ Below w.heap.size w w' := by
  obtain ⟨hr8, hlc, hc⟩ := row8 w0
  obtain ⟨_, hlc1, hc1⟩ := row8 w1
  clear w0 w1
  by_cases hbig : (1048576 : Int) < len0
  · go_enter Try.func8, Try.ntmps8
    go_wp2
    go_ret
    exact ⟨rfl, Below.refl _ _⟩
  by_cases hbig1 : (1048576 : Int) < len1
  · go_enter Try.func8, Try.ntmps8
    go_wp2
    go_ret
    exact ⟨rfl, Below.refl _ _⟩
  have hd := drawStorePut_cnt a0 len0 cap0 w hlc hc hr8
  clear hr8
  go_enter Try.func8, Try.ntmps8
  go_wp2_with fail
  refine hd.mono ?_
  rintro e w1 ⟨g, off, n, c, xs, t, rfl, ht, hdr, hcn⟩
  have HCN := Lib.hid hcn
  clear hcn
  clear hd
  have hts : t.size ≤ maxLen := by unfold maxLen; omega
  have HF := Lib.hid hdr.bnd.fits
  have HBN := Lib.hid hdr.bnd
  have HL := Lib.hid hdr.len
  have hn8 := hdr.hi
  obtain ⟨R, hR⟩ : ∃ R, putB xs t = R := ⟨_, rfl⟩
  have HR := Lib.hid hR
  have HRL : Hid (R.1.length ≤ 2000000) := Lib.hid (by rw [← hR]; exact Nat.le_trans (putB_len xs t) (by rw [HL.out]; omega))
  go_wp2_with fail
  refine (storePutS_v _ xs t w1 hdr.slv HF.out hts).mono ?_
  rw [hR]
  rintro e w2 ⟨vw, rfl, hvw, hb2⟩
  have hdr2 := hdr.next hb2
  have how := hvw.own
  have es2 : w1.heap.size ≤ w2.heap.size := hb2.size
  clear hdr hb2 hvw
  go_wp2_with fail
  refine (storePut_v _ xs t w2 hdr2.slv HF.out hts).mono ?_
  rw [hR]
  rintro e w3 ⟨vx, rfl, hvx, hb3⟩
  have hdr3 := hdr2.next hb3
  have how3 := how.next hb3 (Nat.le_refl _)
  have es3 : w2.heap.size ≤ w3.heap.size := hb3.size
  clear hdr2 hb3 how
  have hlg := lgSlots_same vx vw R.1 w3 (hvx.slv HRL.out) (how3.slv HRL.out)
  have HLG := Lib.hid hlg
  clear hlg
  rcases put_ok_of xs t with hno | ⟨j, hpo, hgood, hsb⟩
  · rw [hR] at hno
    obtain ⟨ys, p, ok⟩ := R
    simp only at hno
    subst hno
    clear hR
    go_wp2_with fail
    refine HLG.out.mono ?_
    rintro e w4 ⟨rfl, hb4⟩
    have hdr4 := hdr3.next hb4
    have how4 := how3.next hb4 (by omega)
    have hvx4 := hvx.below hb4 (Nat.le_refl _)
    clear hdr3 how3 hb4 hvx
    have hlg := lgSlots_same vx vw ys w4 (hvx4.slv HRL.out) (how4.slv HRL.out)
    have HLG4 := Lib.hid hlg
    clear hlg how4 hvx4
    go_wp2_with fail
    refine HLG4.out.mono ?_
    rintro e w5 ⟨rfl, hb5⟩
    have hB := (hdr4.next hb5).bel
    clear hb5 hdr4
    go_wp2_with fail
    go_ret
    exact ⟨rfl, hB⟩
  have hR2 := hR.symm.trans hpo.eq
  clear hR
  subst hR2
  simp only at HRL how3 hvx
  obtain rfl : n = 8 := by have := HL.out; have := storeB_len hsb; omega
  have HPO := Lib.hid hpo
  have HG := Lib.hid hgood
  have HSB := Lib.hid hsb
  have hj := hpo.lt
  have hule := hpo.le
  have huup := hpo.up
  have HFY : Hid (Fits (xs.set j ⟨t, (nth xs j).uses + 1⟩)) := Lib.hid (HBN.out.setFits j t _ (by rw [HL.out]; exact hj) ht)
  have HLY : Hid ((xs.set j ⟨t, (nth xs j).uses + 1⟩).length = 8) := Lib.hid (by rw [List.length_set]; exact HL.out)
  have hjl : j < xs.length := by rw [HL.out]; exact hj
  have HOK : Hid (storeB (xs.set j ⟨t, (nth xs j).uses + 1⟩) = true) := Lib.hid hpo.ok
  have HTX : Hid (TextAt (xs.set j ⟨t, (nth xs j).uses + 1⟩) j t = true) := Lib.hid (hpo.text HL.out)
  have HGY : Hid (goodB (xs.set j ⟨t, (nth xs j).uses + 1⟩) t = true) := Lib.hid ((goodB_iff _ _).2 ⟨hpo.ok, ((goodB_iff xs t).1 hgood).2⟩)
  have HCY : Hid (Cnt 29 (xs.set j ⟨t, (nth xs j).uses + 1⟩)) := Lib.hid (((HCN.out hsb).mono (by omega)).set j _ hjl (by have := HCN.out hsb j hjl; show (nth xs j).uses + 1 ≤ 29; omega))
  clear hpo hgood hsb hjl
  obtain ⟨ys, hys⟩ : ∃ ys, xs.set j ⟨t, (nth xs j).uses + 1⟩ = ys := ⟨_, rfl⟩
  rw [hys] at HRL how3 hvx HFY HLY HOK HTX HGY HCY
  clear hys hule huup
  go_wp2_with fail
  refine HLG.out.mono ?_
  rintro e w4 ⟨rfl, hb4⟩
  have HD := Lib.hid (hdr3.next hb4)
  have HVX := Lib.hid (fun W (hb : Below w4.heap.size w4 W) => (hvx.below hb4 (Nat.le_refl _)).below hb (Nat.le_refl _))
  clear hdr3 how3 hb4 hvx
  have h5 : (len1 : Int) % 5 = 0 ∨ (len1 : Int) % 5 = 1 ∨ (len1 : Int) % 5 = 2 ∨ (len1 : Int) % 5 = 3 ∨ (len1 : Int) % 5 = 4 := by omega
  obtain h5 | h5 | h5 | h5 | h5 := h5
  · have HG2 : Hid (goodB ys ⟨#[97]⟩ = true) := Lib.hid ((goodB_iff _ _).2 ⟨HOK.out, by decide +kernel, by rw [ByteArray.toList_eq]; rfl⟩)
    have HT2 : Hid ((⟨#[97]⟩ : ByteArray).size ≤ maxLen) := Lib.hid (by decide +kernel)
    have H4 := Lib.hid (fun W (hb : Below w4.heap.size w4 W) => storePut_v vx ys ⟨#[97]⟩ W ((HVX.out W hb).slv HRL.out) HFY.out HT2.out)
    rcases put_cases ys ⟨#[97]⟩ HG2.out with ⟨m, hp, _⟩ | ⟨hp, hwhy⟩
    · have h2 := put_two hj HTX.out HGY.out HG2.out hp
      have HF1 := Lib.hid h2.1
      have HEQ := Lib.hid h2.2
      have HF2 := Lib.hid (hp.find HG2.out)
      have HOZ := Lib.hid hp.ok
      have HFZ := Lib.hid (set_fits HFY.out m ⟨⟨#[97]⟩, (nth ys m).uses + 1⟩ (by rw [HLY.out]; exact hp.lt) HT2.out)
      have HLZ : Hid ((ys.set m ⟨⟨#[97]⟩, (nth ys m).uses + 1⟩).length ≤ 2000000) := Lib.hid (by rw [List.length_set, HLY.out]; omega)
      have hm := hp.lt
      rw [hp.eq] at H4
      simp only at H4
      generalize ys.set m ⟨⟨#[97]⟩, (nth ys m).uses + 1⟩ = zs at H4 HF1 HF2 HOZ HFZ HLZ
      clear h2 hp
      go_wp2_with fail
      refine (H4.out _ (below_alloc w4 _)).mono ?_
      rintro e w5 ⟨vy, rfl, hvy, hb5⟩
      have hc5 := bnext (below_alloc w4 _) hb5
      clear hb5 h5 H4
      have H5 := Lib.hid (storeFind_v vy zs t w5 (hvy.slv HLZ.out) HFZ.out hts)
      rw [HF1.out] at H5
      go_wp2_with fail
      refine H5.out.mono ?_
      rintro e w6 ⟨rfl, hb6⟩
      have hvy6 := hvy.below hb6 (Nat.le_refl _)
      have es6 : w5.heap.size ≤ w6.heap.size := hb6.size
      have hc6 := bnext hc5 hb6
      clear hb6 hc5 hvy H5
      have H6 := Lib.hid (storeFind_v vy zs ⟨#[97]⟩ w6 (hvy6.slv HLZ.out) HFZ.out HT2.out)
      rw [HF2.out] at H6
      go_wp2_with fail
      refine H6.out.mono ?_
      rintro e w7 ⟨rfl, hb7⟩
      have hc7 := bnext hc6 hb7
      have H7 := Lib.hid (storeOk_v vy zs w7 ((hvy6.below hb7 (Nat.le_refl _)).slv HLZ.out) HFZ.out)
      rw [HOZ.out] at H7
      clear hb7 hc6 hvy6 H6
      have e2 : (⟨#[97]⟩ : ByteArray).toList = [97] := by rw [ByteArray.toList_eq]
      by_cases hbb : t.toList = [97]
      · have hjm : ((j : Int) + 1 == (m : Int) + 1) = true := by rw [HEQ.out, e2, hbb]; simp
        clear e2
        go_wp2_with fail
        refine H7.out.mono ?_
        rintro e w8 ⟨rfl, hb8⟩
        have hB := (HD.out.next (bnext hc7 hb8)).bel
        clear hb8 hc7
        go_wp2_with fail
        go_ret
        exact ⟨rfl, hB⟩
      · have hjm : ((j : Int) + 1 == (m : Int) + 1) = false := by rw [HEQ.out, e2]; simpa using hbb
        clear e2
        have hb3 : (t.toList == _) = false := beq_false_of_ne hbb
        go_wp2_with fail
        refine H7.out.mono ?_
        rintro e w8 ⟨rfl, hb8⟩
        have hB := (HD.out.next (bnext hc7 hb8)).bel
        clear hb8 hc7
        go_wp2_with fail
        go_ret
        exact ⟨rfl, hB⟩
    · have HFR : Hid (freeB ys = 0) := Lib.hid (by
        rcases hwhy with ⟨m, hm, _, _, h99⟩ | ⟨_, _, hall⟩
        · have := HCY.out m (by rw [HLY.out]; exact hm)
          omega
        · rw [freeB_of HOK.out]; exact free_none ys hall 8 (Nat.le_refl _))
      rw [hp] at H4
      simp only at H4
      clear hwhy hp
      go_wp2_with fail
      refine (H4.out _ (below_alloc w4 _)).mono ?_
      rintro e w5 ⟨vy, rfl, hvy, hb5⟩
      have hc5 := bnext (below_alloc w4 _) hb5
      clear hb5 h5 H4
      have H5 := Lib.hid (storeFree_v vx ys w5 ((HVX.out w5 hc5).slv HRL.out) HFY.out)
      rw [HFR.out] at H5
      go_wp2_with fail
      refine H5.out.mono ?_
      rintro e w6 ⟨rfl, hb6⟩
      have hc6 := bnext hc5 hb6
      have H6 := Lib.hid (lgSlots_same vy vx ys w6 ((hvy.below hb6 (Nat.le_refl _)).slv HRL.out) ((HVX.out w6 hc6).slv HRL.out))
      clear hb6 hc5 hvy H5
      go_wp2_with fail
      refine H6.out.mono ?_
      rintro e w7 ⟨rfl, hb7⟩
      have hB := (HD.out.next (bnext hc6 hb7)).bel
      clear hb7 hc6
      go_wp2_with fail
      go_ret
      exact ⟨rfl, hB⟩
  · have HG2 : Hid (goodB ys ⟨#[97, 98]⟩ = true) := Lib.hid ((goodB_iff _ _).2 ⟨HOK.out, by decide +kernel, by rw [ByteArray.toList_eq]; rfl⟩)
    have HT2 : Hid ((⟨#[97, 98]⟩ : ByteArray).size ≤ maxLen) := Lib.hid (by decide +kernel)
    have H4 := Lib.hid (fun W (hb : Below w4.heap.size w4 W) => storePut_v vx ys ⟨#[97, 98]⟩ W ((HVX.out W hb).slv HRL.out) HFY.out HT2.out)
    rcases put_cases ys ⟨#[97, 98]⟩ HG2.out with ⟨m, hp, _⟩ | ⟨hp, hwhy⟩
    · have h2 := put_two hj HTX.out HGY.out HG2.out hp
      have HF1 := Lib.hid h2.1
      have HEQ := Lib.hid h2.2
      have HF2 := Lib.hid (hp.find HG2.out)
      have HOZ := Lib.hid hp.ok
      have HFZ := Lib.hid (set_fits HFY.out m ⟨⟨#[97, 98]⟩, (nth ys m).uses + 1⟩ (by rw [HLY.out]; exact hp.lt) HT2.out)
      have HLZ : Hid ((ys.set m ⟨⟨#[97, 98]⟩, (nth ys m).uses + 1⟩).length ≤ 2000000) := Lib.hid (by rw [List.length_set, HLY.out]; omega)
      have hm := hp.lt
      rw [hp.eq] at H4
      simp only at H4
      generalize ys.set m ⟨⟨#[97, 98]⟩, (nth ys m).uses + 1⟩ = zs at H4 HF1 HF2 HOZ HFZ HLZ
      clear h2 hp
      go_wp2_with fail
      refine (H4.out _ (below_alloc w4 _)).mono ?_
      rintro e w5 ⟨vy, rfl, hvy, hb5⟩
      have hc5 := bnext (below_alloc w4 _) hb5
      clear hb5 h5 H4
      have H5 := Lib.hid (storeFind_v vy zs t w5 (hvy.slv HLZ.out) HFZ.out hts)
      rw [HF1.out] at H5
      go_wp2_with fail
      refine H5.out.mono ?_
      rintro e w6 ⟨rfl, hb6⟩
      have hvy6 := hvy.below hb6 (Nat.le_refl _)
      have es6 : w5.heap.size ≤ w6.heap.size := hb6.size
      have hc6 := bnext hc5 hb6
      clear hb6 hc5 hvy H5
      have H6 := Lib.hid (storeFind_v vy zs ⟨#[97, 98]⟩ w6 (hvy6.slv HLZ.out) HFZ.out HT2.out)
      rw [HF2.out] at H6
      go_wp2_with fail
      refine H6.out.mono ?_
      rintro e w7 ⟨rfl, hb7⟩
      have hc7 := bnext hc6 hb7
      have H7 := Lib.hid (storeOk_v vy zs w7 ((hvy6.below hb7 (Nat.le_refl _)).slv HLZ.out) HFZ.out)
      rw [HOZ.out] at H7
      clear hb7 hc6 hvy6 H6
      have e2 : (⟨#[97, 98]⟩ : ByteArray).toList = [97, 98] := by rw [ByteArray.toList_eq]
      by_cases hbb : t.toList = [97, 98]
      · have hjm : ((j : Int) + 1 == (m : Int) + 1) = true := by rw [HEQ.out, e2, hbb]; simp
        clear e2
        go_wp2_with fail
        refine H7.out.mono ?_
        rintro e w8 ⟨rfl, hb8⟩
        have hB := (HD.out.next (bnext hc7 hb8)).bel
        clear hb8 hc7
        go_wp2_with fail
        go_ret
        exact ⟨rfl, hB⟩
      · have hjm : ((j : Int) + 1 == (m : Int) + 1) = false := by rw [HEQ.out, e2]; simpa using hbb
        clear e2
        have hb3 : (t.toList == _) = false := beq_false_of_ne hbb
        go_wp2_with fail
        refine H7.out.mono ?_
        rintro e w8 ⟨rfl, hb8⟩
        have hB := (HD.out.next (bnext hc7 hb8)).bel
        clear hb8 hc7
        go_wp2_with fail
        go_ret
        exact ⟨rfl, hB⟩
    · have HFR : Hid (freeB ys = 0) := Lib.hid (by
        rcases hwhy with ⟨m, hm, _, _, h99⟩ | ⟨_, _, hall⟩
        · have := HCY.out m (by rw [HLY.out]; exact hm)
          omega
        · rw [freeB_of HOK.out]; exact free_none ys hall 8 (Nat.le_refl _))
      rw [hp] at H4
      simp only at H4
      clear hwhy hp
      go_wp2_with fail
      refine (H4.out _ (below_alloc w4 _)).mono ?_
      rintro e w5 ⟨vy, rfl, hvy, hb5⟩
      have hc5 := bnext (below_alloc w4 _) hb5
      clear hb5 h5 H4
      have H5 := Lib.hid (storeFree_v vx ys w5 ((HVX.out w5 hc5).slv HRL.out) HFY.out)
      rw [HFR.out] at H5
      go_wp2_with fail
      refine H5.out.mono ?_
      rintro e w6 ⟨rfl, hb6⟩
      have hc6 := bnext hc5 hb6
      have H6 := Lib.hid (lgSlots_same vy vx ys w6 ((hvy.below hb6 (Nat.le_refl _)).slv HRL.out) ((HVX.out w6 hc6).slv HRL.out))
      clear hb6 hc5 hvy H5
      go_wp2_with fail
      refine H6.out.mono ?_
      rintro e w7 ⟨rfl, hb7⟩
      have hB := (HD.out.next (bnext hc6 hb7)).bel
      clear hb7 hc6
      go_wp2_with fail
      go_ret
      exact ⟨rfl, hB⟩
  · have HG2 : Hid (goodB ys ⟨#[99, 99]⟩ = true) := Lib.hid ((goodB_iff _ _).2 ⟨HOK.out, by decide +kernel, by rw [ByteArray.toList_eq]; rfl⟩)
    have HT2 : Hid ((⟨#[99, 99]⟩ : ByteArray).size ≤ maxLen) := Lib.hid (by decide +kernel)
    have H4 := Lib.hid (fun W (hb : Below w4.heap.size w4 W) => storePut_v vx ys ⟨#[99, 99]⟩ W ((HVX.out W hb).slv HRL.out) HFY.out HT2.out)
    rcases put_cases ys ⟨#[99, 99]⟩ HG2.out with ⟨m, hp, _⟩ | ⟨hp, hwhy⟩
    · have h2 := put_two hj HTX.out HGY.out HG2.out hp
      have HF1 := Lib.hid h2.1
      have HEQ := Lib.hid h2.2
      have HF2 := Lib.hid (hp.find HG2.out)
      have HOZ := Lib.hid hp.ok
      have HFZ := Lib.hid (set_fits HFY.out m ⟨⟨#[99, 99]⟩, (nth ys m).uses + 1⟩ (by rw [HLY.out]; exact hp.lt) HT2.out)
      have HLZ : Hid ((ys.set m ⟨⟨#[99, 99]⟩, (nth ys m).uses + 1⟩).length ≤ 2000000) := Lib.hid (by rw [List.length_set, HLY.out]; omega)
      have hm := hp.lt
      rw [hp.eq] at H4
      simp only at H4
      generalize ys.set m ⟨⟨#[99, 99]⟩, (nth ys m).uses + 1⟩ = zs at H4 HF1 HF2 HOZ HFZ HLZ
      clear h2 hp
      go_wp2_with fail
      refine (H4.out _ (below_alloc w4 _)).mono ?_
      rintro e w5 ⟨vy, rfl, hvy, hb5⟩
      have hc5 := bnext (below_alloc w4 _) hb5
      clear hb5 h5 H4
      have H5 := Lib.hid (storeFind_v vy zs t w5 (hvy.slv HLZ.out) HFZ.out hts)
      rw [HF1.out] at H5
      go_wp2_with fail
      refine H5.out.mono ?_
      rintro e w6 ⟨rfl, hb6⟩
      have hvy6 := hvy.below hb6 (Nat.le_refl _)
      have es6 : w5.heap.size ≤ w6.heap.size := hb6.size
      have hc6 := bnext hc5 hb6
      clear hb6 hc5 hvy H5
      have H6 := Lib.hid (storeFind_v vy zs ⟨#[99, 99]⟩ w6 (hvy6.slv HLZ.out) HFZ.out HT2.out)
      rw [HF2.out] at H6
      go_wp2_with fail
      refine H6.out.mono ?_
      rintro e w7 ⟨rfl, hb7⟩
      have hc7 := bnext hc6 hb7
      have H7 := Lib.hid (storeOk_v vy zs w7 ((hvy6.below hb7 (Nat.le_refl _)).slv HLZ.out) HFZ.out)
      rw [HOZ.out] at H7
      clear hb7 hc6 hvy6 H6
      have e2 : (⟨#[99, 99]⟩ : ByteArray).toList = [99, 99] := by rw [ByteArray.toList_eq]
      by_cases hbb : t.toList = [99, 99]
      · have hjm : ((j : Int) + 1 == (m : Int) + 1) = true := by rw [HEQ.out, e2, hbb]; simp
        clear e2
        go_wp2_with fail
        refine H7.out.mono ?_
        rintro e w8 ⟨rfl, hb8⟩
        have hB := (HD.out.next (bnext hc7 hb8)).bel
        clear hb8 hc7
        go_wp2_with fail
        go_ret
        exact ⟨rfl, hB⟩
      · have hjm : ((j : Int) + 1 == (m : Int) + 1) = false := by rw [HEQ.out, e2]; simpa using hbb
        clear e2
        have hb3 : (t.toList == _) = false := beq_false_of_ne hbb
        go_wp2_with fail
        refine H7.out.mono ?_
        rintro e w8 ⟨rfl, hb8⟩
        have hB := (HD.out.next (bnext hc7 hb8)).bel
        clear hb8 hc7
        go_wp2_with fail
        go_ret
        exact ⟨rfl, hB⟩
    · have HFR : Hid (freeB ys = 0) := Lib.hid (by
        rcases hwhy with ⟨m, hm, _, _, h99⟩ | ⟨_, _, hall⟩
        · have := HCY.out m (by rw [HLY.out]; exact hm)
          omega
        · rw [freeB_of HOK.out]; exact free_none ys hall 8 (Nat.le_refl _))
      rw [hp] at H4
      simp only at H4
      clear hwhy hp
      go_wp2_with fail
      refine (H4.out _ (below_alloc w4 _)).mono ?_
      rintro e w5 ⟨vy, rfl, hvy, hb5⟩
      have hc5 := bnext (below_alloc w4 _) hb5
      clear hb5 h5 H4
      have H5 := Lib.hid (storeFree_v vx ys w5 ((HVX.out w5 hc5).slv HRL.out) HFY.out)
      rw [HFR.out] at H5
      go_wp2_with fail
      refine H5.out.mono ?_
      rintro e w6 ⟨rfl, hb6⟩
      have hc6 := bnext hc5 hb6
      have H6 := Lib.hid (lgSlots_same vy vx ys w6 ((hvy.below hb6 (Nat.le_refl _)).slv HRL.out) ((HVX.out w6 hc6).slv HRL.out))
      clear hb6 hc5 hvy H5
      go_wp2_with fail
      refine H6.out.mono ?_
      rintro e w7 ⟨rfl, hb7⟩
      have hB := (HD.out.next (bnext hc6 hb7)).bel
      clear hb7 hc6
      go_wp2_with fail
      go_ret
      exact ⟨rfl, hB⟩
  · have HG2 : Hid (goodB ys ⟨#[100, 100, 97]⟩ = true) := Lib.hid ((goodB_iff _ _).2 ⟨HOK.out, by decide +kernel, by rw [ByteArray.toList_eq]; rfl⟩)
    have HT2 : Hid ((⟨#[100, 100, 97]⟩ : ByteArray).size ≤ maxLen) := Lib.hid (by decide +kernel)
    have H4 := Lib.hid (fun W (hb : Below w4.heap.size w4 W) => storePut_v vx ys ⟨#[100, 100, 97]⟩ W ((HVX.out W hb).slv HRL.out) HFY.out HT2.out)
    rcases put_cases ys ⟨#[100, 100, 97]⟩ HG2.out with ⟨m, hp, _⟩ | ⟨hp, hwhy⟩
    · have h2 := put_two hj HTX.out HGY.out HG2.out hp
      have HF1 := Lib.hid h2.1
      have HEQ := Lib.hid h2.2
      have HF2 := Lib.hid (hp.find HG2.out)
      have HOZ := Lib.hid hp.ok
      have HFZ := Lib.hid (set_fits HFY.out m ⟨⟨#[100, 100, 97]⟩, (nth ys m).uses + 1⟩ (by rw [HLY.out]; exact hp.lt) HT2.out)
      have HLZ : Hid ((ys.set m ⟨⟨#[100, 100, 97]⟩, (nth ys m).uses + 1⟩).length ≤ 2000000) := Lib.hid (by rw [List.length_set, HLY.out]; omega)
      have hm := hp.lt
      rw [hp.eq] at H4
      simp only at H4
      generalize ys.set m ⟨⟨#[100, 100, 97]⟩, (nth ys m).uses + 1⟩ = zs at H4 HF1 HF2 HOZ HFZ HLZ
      clear h2 hp
      go_wp2_with fail
      refine (H4.out _ (below_alloc w4 _)).mono ?_
      rintro e w5 ⟨vy, rfl, hvy, hb5⟩
      have hc5 := bnext (below_alloc w4 _) hb5
      clear hb5 h5 H4
      have H5 := Lib.hid (storeFind_v vy zs t w5 (hvy.slv HLZ.out) HFZ.out hts)
      rw [HF1.out] at H5
      go_wp2_with fail
      refine H5.out.mono ?_
      rintro e w6 ⟨rfl, hb6⟩
      have hvy6 := hvy.below hb6 (Nat.le_refl _)
      have es6 : w5.heap.size ≤ w6.heap.size := hb6.size
      have hc6 := bnext hc5 hb6
      clear hb6 hc5 hvy H5
      have H6 := Lib.hid (storeFind_v vy zs ⟨#[100, 100, 97]⟩ w6 (hvy6.slv HLZ.out) HFZ.out HT2.out)
      rw [HF2.out] at H6
      go_wp2_with fail
      refine H6.out.mono ?_
      rintro e w7 ⟨rfl, hb7⟩
      have hc7 := bnext hc6 hb7
      have H7 := Lib.hid (storeOk_v vy zs w7 ((hvy6.below hb7 (Nat.le_refl _)).slv HLZ.out) HFZ.out)
      rw [HOZ.out] at H7
      clear hb7 hc6 hvy6 H6
      have e2 : (⟨#[100, 100, 97]⟩ : ByteArray).toList = [100, 100, 97] := by rw [ByteArray.toList_eq]
      by_cases hbb : t.toList = [100, 100, 97]
      · have hjm : ((j : Int) + 1 == (m : Int) + 1) = true := by rw [HEQ.out, e2, hbb]; simp
        clear e2
        go_wp2_with fail
        refine H7.out.mono ?_
        rintro e w8 ⟨rfl, hb8⟩
        have hB := (HD.out.next (bnext hc7 hb8)).bel
        clear hb8 hc7
        go_wp2_with fail
        go_ret
        exact ⟨rfl, hB⟩
      · have hjm : ((j : Int) + 1 == (m : Int) + 1) = false := by rw [HEQ.out, e2]; simpa using hbb
        clear e2
        have hb3 : (t.toList == _) = false := beq_false_of_ne hbb
        go_wp2_with fail
        refine H7.out.mono ?_
        rintro e w8 ⟨rfl, hb8⟩
        have hB := (HD.out.next (bnext hc7 hb8)).bel
        clear hb8 hc7
        go_wp2_with fail
        go_ret
        exact ⟨rfl, hB⟩
    · have HFR : Hid (freeB ys = 0) := Lib.hid (by
        rcases hwhy with ⟨m, hm, _, _, h99⟩ | ⟨_, _, hall⟩
        · have := HCY.out m (by rw [HLY.out]; exact hm)
          omega
        · rw [freeB_of HOK.out]; exact free_none ys hall 8 (Nat.le_refl _))
      rw [hp] at H4
      simp only at H4
      clear hwhy hp
      go_wp2_with fail
      refine (H4.out _ (below_alloc w4 _)).mono ?_
      rintro e w5 ⟨vy, rfl, hvy, hb5⟩
      have hc5 := bnext (below_alloc w4 _) hb5
      clear hb5 h5 H4
      have H5 := Lib.hid (storeFree_v vx ys w5 ((HVX.out w5 hc5).slv HRL.out) HFY.out)
      rw [HFR.out] at H5
      go_wp2_with fail
      refine H5.out.mono ?_
      rintro e w6 ⟨rfl, hb6⟩
      have hc6 := bnext hc5 hb6
      have H6 := Lib.hid (lgSlots_same vy vx ys w6 ((hvy.below hb6 (Nat.le_refl _)).slv HRL.out) ((HVX.out w6 hc6).slv HRL.out))
      clear hb6 hc5 hvy H5
      go_wp2_with fail
      refine H6.out.mono ?_
      rintro e w7 ⟨rfl, hb7⟩
      have hB := (HD.out.next (bnext hc6 hb7)).bel
      clear hb7 hc6
      go_wp2_with fail
      go_ret
      exact ⟨rfl, hB⟩
  · have HG2 : Hid (goodB ys ⟨#[98]⟩ = true) := Lib.hid ((goodB_iff _ _).2 ⟨HOK.out, by decide +kernel, by rw [ByteArray.toList_eq]; rfl⟩)
    have HT2 : Hid ((⟨#[98]⟩ : ByteArray).size ≤ maxLen) := Lib.hid (by decide +kernel)
    have H4 := Lib.hid (fun W (hb : Below w4.heap.size w4 W) => storePut_v vx ys ⟨#[98]⟩ W ((HVX.out W hb).slv HRL.out) HFY.out HT2.out)
    rcases put_cases ys ⟨#[98]⟩ HG2.out with ⟨m, hp, _⟩ | ⟨hp, hwhy⟩
    · have h2 := put_two hj HTX.out HGY.out HG2.out hp
      have HF1 := Lib.hid h2.1
      have HEQ := Lib.hid h2.2
      have HF2 := Lib.hid (hp.find HG2.out)
      have HOZ := Lib.hid hp.ok
      have HFZ := Lib.hid (set_fits HFY.out m ⟨⟨#[98]⟩, (nth ys m).uses + 1⟩ (by rw [HLY.out]; exact hp.lt) HT2.out)
      have HLZ : Hid ((ys.set m ⟨⟨#[98]⟩, (nth ys m).uses + 1⟩).length ≤ 2000000) := Lib.hid (by rw [List.length_set, HLY.out]; omega)
      have hm := hp.lt
      rw [hp.eq] at H4
      simp only at H4
      generalize ys.set m ⟨⟨#[98]⟩, (nth ys m).uses + 1⟩ = zs at H4 HF1 HF2 HOZ HFZ HLZ
      clear h2 hp
      go_wp2_with fail
      refine (H4.out _ (below_alloc w4 _)).mono ?_
      rintro e w5 ⟨vy, rfl, hvy, hb5⟩
      have hc5 := bnext (below_alloc w4 _) hb5
      clear hb5 h5 H4
      have H5 := Lib.hid (storeFind_v vy zs t w5 (hvy.slv HLZ.out) HFZ.out hts)
      rw [HF1.out] at H5
      go_wp2_with fail
      refine H5.out.mono ?_
      rintro e w6 ⟨rfl, hb6⟩
      have hvy6 := hvy.below hb6 (Nat.le_refl _)
      have es6 : w5.heap.size ≤ w6.heap.size := hb6.size
      have hc6 := bnext hc5 hb6
      clear hb6 hc5 hvy H5
      have H6 := Lib.hid (storeFind_v vy zs ⟨#[98]⟩ w6 (hvy6.slv HLZ.out) HFZ.out HT2.out)
      rw [HF2.out] at H6
      go_wp2_with fail
      refine H6.out.mono ?_
      rintro e w7 ⟨rfl, hb7⟩
      have hc7 := bnext hc6 hb7
      have H7 := Lib.hid (storeOk_v vy zs w7 ((hvy6.below hb7 (Nat.le_refl _)).slv HLZ.out) HFZ.out)
      rw [HOZ.out] at H7
      clear hb7 hc6 hvy6 H6
      have e2 : (⟨#[98]⟩ : ByteArray).toList = [98] := by rw [ByteArray.toList_eq]
      by_cases hbb : t.toList = [98]
      · have hjm : ((j : Int) + 1 == (m : Int) + 1) = true := by rw [HEQ.out, e2, hbb]; simp
        clear e2
        go_wp2_with fail
        refine H7.out.mono ?_
        rintro e w8 ⟨rfl, hb8⟩
        have hB := (HD.out.next (bnext hc7 hb8)).bel
        clear hb8 hc7
        go_wp2_with fail
        go_ret
        exact ⟨rfl, hB⟩
      · have hjm : ((j : Int) + 1 == (m : Int) + 1) = false := by rw [HEQ.out, e2]; simpa using hbb
        clear e2
        have hb3 : (t.toList == _) = false := beq_false_of_ne hbb
        go_wp2_with fail
        refine H7.out.mono ?_
        rintro e w8 ⟨rfl, hb8⟩
        have hB := (HD.out.next (bnext hc7 hb8)).bel
        clear hb8 hc7
        go_wp2_with fail
        go_ret
        exact ⟨rfl, hB⟩
    · have HFR : Hid (freeB ys = 0) := Lib.hid (by
        rcases hwhy with ⟨m, hm, _, _, h99⟩ | ⟨_, _, hall⟩
        · have := HCY.out m (by rw [HLY.out]; exact hm)
          omega
        · rw [freeB_of HOK.out]; exact free_none ys hall 8 (Nat.le_refl _))
      rw [hp] at H4
      simp only at H4
      clear hwhy hp
      go_wp2_with fail
      refine (H4.out _ (below_alloc w4 _)).mono ?_
      rintro e w5 ⟨vy, rfl, hvy, hb5⟩
      have hc5 := bnext (below_alloc w4 _) hb5
      clear hb5 h5 H4
      have H5 := Lib.hid (storeFree_v vx ys w5 ((HVX.out w5 hc5).slv HRL.out) HFY.out)
      rw [HFR.out] at H5
      go_wp2_with fail
      refine H5.out.mono ?_
      rintro e w6 ⟨rfl, hb6⟩
      have hc6 := bnext hc5 hb6
      have H6 := Lib.hid (lgSlots_same vy vx ys w6 ((hvy.below hb6 (Nat.le_refl _)).slv HRL.out) ((HVX.out w6 hc6).slv HRL.out))
      clear hb6 hc5 hvy H5
      go_wp2_with fail
      refine H6.out.mono ?_
      rintro e w7 ⟨rfl, hb7⟩
      have hB := (HD.out.next (bnext hc6 hb7)).bel
      clear hb7 hc6
      go_wp2_with fail
      go_ret
      exact ⟨rfl, hB⟩

set_option maxRecDepth 100000 in
theorem lifted (os : Os) (started : os.Started) (H : Type) (enc : TypeId × Value → H) :
    ReturnsInHanded {} Try.checked os 8 .any (Rows.fnPutTwoSpec.pre6 enc Try.prog Try.f8 Rows.fnPutTwoRow.domain false) (Rows.fnPutTwoSpec.post enc Try.prog Try.f8 false true false false) := by
  refine returnsInHanded_of_change (C := Try.checked) own started (by kernel_rfl) Try.func8
    (ChangeSpec.witness6 (enc := enc) (C := Try.checked) false ⟨#[], #[.slice none 0 0, .slice none 0 0], []⟩ 8 (by kernel_rfl) (by kernel_rfl) (by kernel_rfl) (by kernel_rfl)) ?_
  intro W base args ds gs before hval0 hW hcnd _
  have hval : ∀ (j : Nat) t v, Try.f8.params[j]? = some t → args[j]? = some v → Value.okWide Try.prog W .any base t v := hval0
  have hW' := hW
  obtain ⟨p, q, hA0, hV, rfl, hfz, hnd⟩ := hW
  have hA : DataW.TrodAll enc Try.prog W 0 (fun _ => true) true Try.f8.params.toList args.toList ds p := hA0
  rw [Try.params8] at hA hval
  obtain ⟨v0, vs0, d0, ds0, p0, q0, hargs, rfl, rfl, h0, r0⟩ := trodAll_cons hA
  obtain ⟨v1, vs1, d1, ds1, p1, q1, rfl, rfl, rfl, h1, r1⟩ := trodAll_cons r0
  obtain ⟨rfl, rfl, rfl⟩ := trodAll_nil r1
  obtain rfl : args = #[v0, v1] := by cases args; simp_all
  obtain ⟨rfl, rfl⟩ := trodVars_none hV
  obtain ⟨a0, len0, cap0, rfl⟩ := okWide_slice Try.underlying22 (hval 0 22 v0 rfl rfl)
  have k0 := h0
  have lt0 : ∀ x ∈ p0, x.block < W.heap.size := by obtain ⟨m, hm⟩ := k0; exact DataW.trod_lt m _ _ _ hm
  obtain ⟨z0, w0⟩ : ∃ zs, IsRow .u8 W a0 len0 cap0 zs := by
    obtain ⟨fuel, hf⟩ := h0
    rcases open_ints Try.underlying22 Try.underlying5 (by kernel_rfl) hf with ⟨hcs, _⟩ | ⟨x, l, c, zs, hcs, _, hl, hm, hz, _, hcell, hwz⟩
    · simp [Value.cells] at hcs
      obtain ⟨rfl, rfl, rfl⟩ := hcs
      exact ⟨[], .inl ⟨rfl, rfl, rfl, rfl⟩⟩
    · simp [Value.cells] at hcs
      obtain ⟨rfl, rfl, rfl⟩ := hcs
      exact ⟨zs, .inr ⟨_, rfl, hl, hm, by simpa using hz, hcell, hwz⟩⟩
  obtain ⟨a1, len1, cap1, rfl⟩ := okWide_slice Try.underlying22 (hval 1 22 v1 rfl rfl)
  have k1 := h1
  have lt1 : ∀ x ∈ p1, x.block < W.heap.size := by obtain ⟨m, hm⟩ := k1; exact DataW.trod_lt m _ _ _ hm
  obtain ⟨z1, w1⟩ : ∃ zs, IsRow .u8 W a1 len1 cap1 zs := by
    obtain ⟨fuel, hf⟩ := h1
    rcases open_ints Try.underlying22 Try.underlying5 (by kernel_rfl) hf with ⟨hcs, _⟩ | ⟨x, l, c, zs, hcs, _, hl, hm, hz, _, hcell, hwz⟩
    · simp [Value.cells] at hcs
      obtain ⟨rfl, rfl, rfl⟩ := hcs
      exact ⟨[], .inl ⟨rfl, rfl, rfl, rfl⟩⟩
    · simp [Value.cells] at hcs
      obtain ⟨rfl, rfl, rfl⟩ := hcs
      exact ⟨zs, .inr ⟨_, rfl, hl, hm, by simpa using hz, hcell, hwz⟩⟩
  clear hA0 hval0
  refine (walk W a0 len0 cap0 z0 w0 a1 len1 cap1 z1 w1).mono fun e W' ⟨he, bel⟩ => ?_
  subst he
  exact ⟨_, rfl, _, _, _, [], _, [], hW', trodAll_mk1 (shut_bool Try.underlying4 _), (trodAll_cons_mk (Below.trod laidOut (by kernel_rfl) (of_decide_eq_true (by kernel_rfl)) k0 bel lt0) (trodAll_cons_mk (Below.trod laidOut (by kernel_rfl) (of_decide_eq_true (by kernel_rfl)) k1 bel lt1) trodAll_mk0)), rfl, bel.frame _, fun h => by cases h⟩

theorem closed : joinedFacts Try.prog 8 Try.f8 Rows.fnPutTwoSpec Rows.fnPutTwoRow = true := by
  unfold joinedFacts
  rewrite [head_may, head_lifts, head_make]
  kernel_rfl
theorem over : Rows.fnPutTwoRow.holds Try.pinned (OpenSpec.ofChange Rows.fnPutTwoSpec) :=
  OpenClaim.holds_of_wide 8 Try.f8 rfl rfl rfl rfl rfl rfl rfl ⟨rfl, rfl, rfl, rfl, rfl⟩ rfl rfl rfl rfl rfl (by kernel_rfl) Try.func8 closed
    (of_decide_eq_true (by kernel_rfl)) (by unfold Func.isWrapper; first | (rw [if_pos (by decide +kernel)]; kernel_rfl) | (rw [if_neg (by decide +kernel)]; exact ⟨rfl, rfl⟩))
    (fun os started H enc _ => lifted os started H enc)

theorem proved : Rows.FnPutTwoSaid := over
#print axioms proved
end Go.Proofs.Ytgajhknljnhfmaa.fnPutTwo
