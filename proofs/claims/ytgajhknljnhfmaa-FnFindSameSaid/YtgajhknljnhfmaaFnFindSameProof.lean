/- For every pair of codes the law FnFindSame returns true and leaves both as they were. No condition. -/
import Derived.Test.YtgajhknljnhfmaaRows
import Derived.WalkKit
import Derived.ProofKit
import Derived.OpenShut
import Derived.ShutString
import Derived.ChangeOld
import Derived.Below
import Derived.Test.YtgajhknljnhfmaaHead
import Derived.Test.YtgajhknljnhfmaaStoreMath3
namespace Go.Proofs.Ytgajhknljnhfmaa.fnFindSame
open Go.ChangeShapes Go.WideShapes Go.ChangeAt Go.RowKit
open Go.ChangeMaps (open_string shut_string)
set_option linter.unusedVariables false

theorem own : ownKnob Try.prog.godebug = none := by kernel_rfl
theorem laidOut : laidOutB Try.prog = true := by kernel_rfl

def IsRow (k : IntKind) (w : World) (a : Option Addr) (len cap : Nat) (zs : List Int) : Prop :=
  (a = none ∧ len = 0 ∧ cap = 0 ∧ zs = []) ∨
  ∃ x, a = some x ∧ len ≤ cap ∧ cap ≤ maxLen ∧ zs.length = cap ∧ (∀ i, i < zs.length → w.cell? (x.add i) = some (.int k (zs.getD i 0))) ∧ ∀ n ∈ zs, (Lit.int k n).wf = true

set_option maxRecDepth 100000 in
set_option maxHeartbeats 800000 in
theorem walk (w : World) (a0 : Option Addr) (len0 cap0 : Nat) (z0 : List Int) (w0 : IsRow .u8 w a0 len0 cap0 z0) (a1 : Option Addr) (len1 cap1 : Nat) (z1 : List Int) (w1 : IsRow .u8 w a1 len1 cap1 z1) :
    Calls Try.prog 10 #[.slice a0 len0 cap0, .slice a1 len1 cap1] w fun e w' => e = .returned (.bool true) ∧ Below w.heap.size w w' := by
  obtain ⟨hr8, hlc, hc⟩ := row8 w0
  obtain ⟨_, hlc1, hc1⟩ := row8 w1
  clear w0 w1
  by_cases hbig : (1048576 : Int) < len0
  · go_enter Try.func10, Try.ntmps10
    go_wp2
    go_ret
    exact ⟨rfl, Below.refl _ _⟩
  by_cases hbig1 : (1048576 : Int) < len1
  · go_enter Try.func10, Try.ntmps10
    go_wp2
    go_ret
    exact ⟨rfl, Below.refl _ _⟩
  have hd := drawStoreFind_any a0 len0 cap0 w hlc hc hr8
  clear hr8
  go_enter Try.func10, Try.ntmps10
  go_wp2_with fail
  refine hd.mono ?_
  rintro e w1 ⟨g, off, n, c, xs, t, rfl, ht, hdr⟩
  clear hd
  have hts : t.size ≤ maxLen := by unfold maxLen; omega
  have HF := Lib.hid hdr.bnd.fits
  have HL := Lib.hid hdr.len
  have hn8 := hdr.hi
  obtain ⟨R, hR⟩ : ∃ R, findB xs t = R := ⟨_, rfl⟩
  have HR := Lib.hid hR
  go_wp2_with fail
  refine (storeFindS_v _ xs t w1 hdr.slv HF.out hts).mono ?_
  rw [hR]
  rintro e w2 ⟨rfl, hb2⟩
  have hdr2 := hdr.next hb2
  clear hdr hb2
  go_wp2_with fail
  refine (storeFind_v _ xs t w2 hdr2.slv HF.out hts).mono ?_
  rw [hR]
  rintro e w3 ⟨rfl, hb3⟩
  have hdr3 := hdr2.next hb3
  clear hdr2 hb3 hR
  obtain ⟨p, ok⟩ := R
  cases ok
  · have hB := hdr3.bel
    clear hdr3
    go_wp2_with fail
    go_ret
    exact ⟨rfl, hB⟩
  · obtain ⟨j, hj, hfj, hx, hg⟩ := findB_true (xs := xs) (t := t) (by rw [HR.out])
    have hpe := HR.out.symm.trans hfj
    simp only [Prod.mk.injEq, and_true] at hpe
    subst hpe
    obtain rfl : n = 8 := by have := HL.out; have := storeB_len ((goodB_iff xs t).1 hg).1; omega
    have HPK := Lib.hid (fun t2 => put_keeps hj hx hg t2)
    have HDK := Lib.hid (fun q => drop_keeps hj hx hg q)
    have HD := Lib.hid hdr3
    clear hfj hx hg hdr3
    have h4 : (len1 : Int) % 4 = 0 ∨ (len1 : Int) % 4 = 1 ∨ (len1 : Int) % 4 = 2 ∨ (len1 : Int) % 4 = 3 := by omega
    obtain ⟨m, hm0, hm8, hme⟩ : ∃ m : Nat, (m : Int) < 8 ∧ (0 : Int) ≤ m ∧ (len1 : Int) % 8 = m := ⟨len1 % 8, by omega, by omega, by push_cast; rfl⟩
    have HME := Lib.hid hme
    clear hme
    obtain h4 | h4 | h4 | h4 := h4
    · have HP := HPK.out ⟨#[97]⟩
      have HFP := putB_fits HF.out ⟨#[97]⟩ (by decide +kernel)
      have HLP := putB_len xs ⟨#[97]⟩
      have H4 := Lib.hid (fun W (hb : Below w3.heap.size w3 W) => storePut_v _ xs ⟨#[97]⟩ W (HD.out.next hb).slv HF.out (by decide +kernel))
      generalize putB xs ⟨#[97]⟩ = P at HP HFP HLP H4
      obtain ⟨ys, at', put⟩ := P
      simp only at HP HFP HLP H4
      rw [HL.out] at HLP
      have HFP2 := Lib.hid HFP
      have HLP2 : Hid (ys.length ≤ 2000000) := Lib.hid (by omega)
      have HP2 := Lib.hid HP
      clear HP HFP HLP
      go_wp2_with fail
      refine (H4.out _ (below_alloc w3 _)).mono ?_
      rintro e w4 ⟨vx, rfl, hvx, hb4⟩
      have hc4 := bnext (below_alloc w3 _) hb4
      clear hb4 h4 H4
      have H5 := Lib.hid (storeFind_v vx ys t w4 (hvx.slv HLP2.out) HFP2.out hts)
      clear hvx
      have hme := HME.out
      cases put
      · obtain ⟨F5, hF5⟩ : ∃ F5, findB ys t = F5 := ⟨_, rfl⟩
        rw [hF5] at H5
        clear hF5
        obtain ⟨a5, one⟩ := F5
        go_wp2_with fail
        refine H5.out.mono ?_
        rintro e w5 ⟨rfl, hb5⟩
        have hc5 := bnext hc4 hb5
        have H6 := Lib.hid (storeDrop_v _ xs (1 + (m : Int)) w5 (HD.out.next hc5).slv HF.out)
        have HFD := Lib.hid (dropB_fits HF.out (1 + (m : Int)))
        have HLD : Hid ((dropB xs (1 + (m : Int))).1.length ≤ 2000000) := Lib.hid (by have h1 := dropB_len xs (1 + (m : Int)); rw [HL.out] at h1; omega)
        have HDD := Lib.hid (HDK.out (1 + (m : Int)) (by omega) (by omega))
        generalize dropB xs (1 + (m : Int)) = D at H6 HFD HLD HDD
        obtain ⟨zs, dropped⟩ := D
        simp only at H6 HFD HLD HDD
        clear hb5 hc4
        go_wp2_with fail
        refine H6.out.mono ?_
        rintro e w6 ⟨vy, rfl, hvy, hb6⟩
        have hc6 := bnext hc5 hb6
        have H7 := Lib.hid (storeFind_v vy zs t w6 (hvy.slv HLD.out) HFD.out hts)
        clear hvy hb6 hc5 hme
        cases dropped
        · obtain ⟨F7, hF7⟩ : ∃ F7, findB zs t = F7 := ⟨_, rfl⟩
          rw [hF7] at H7
          clear hF7
          obtain ⟨a7, two⟩ := F7
          go_wp2_with fail
          refine H7.out.mono ?_
          rintro e w7 ⟨rfl, hb7⟩
          have hB := (HD.out.next (bnext hc6 hb7)).bel
          clear hb7 hc6
          go_wp2_with fail
          go_ret
          exact ⟨rfl, hB⟩
        · by_cases hmj : (1 + (m : Int)) = (j : Int) + 1
          · obtain ⟨F7, hF7⟩ : ∃ F7, findB zs t = F7 := ⟨_, rfl⟩
            rw [hF7] at H7
            clear hF7
            obtain ⟨a7, two⟩ := F7
            have hmb : ((1 + (m : Int)) == (j : Int) + 1) = true := by simpa using hmj
            have hm2 : m = j := by omega
            subst hm2
            clear hmj hmb
            have hmb : ((1 + (m : Int)) == (m : Int) + 1) = true := by rw [Int.add_comm]; simp
            go_wp2_with fail
            refine H7.out.mono ?_
            rintro e w7 ⟨rfl, hb7⟩
            have hB := (HD.out.next (bnext hc6 hb7)).bel
            clear hb7 hc6
            go_wp2_with fail
            go_ret
            exact ⟨rfl, hB⟩
          · rw [HDD.out hmj rfl] at H7
            have hmb : ((1 + (m : Int)) == (j : Int) + 1) = false := by simpa using hmj
            clear hmj
            go_wp2_with fail
            refine H7.out.mono ?_
            rintro e w7 ⟨rfl, hb7⟩
            have hB := (HD.out.next (bnext hc6 hb7)).bel
            clear hb7 hc6
            go_wp2_with fail
            go_ret
            exact ⟨rfl, hB⟩
      · rw [HP2.out rfl] at H5
        go_wp2_with fail
        refine H5.out.mono ?_
        rintro e w5 ⟨rfl, hb5⟩
        have hc5 := bnext hc4 hb5
        have H6 := Lib.hid (storeDrop_v _ xs (1 + (m : Int)) w5 (HD.out.next hc5).slv HF.out)
        have HFD := Lib.hid (dropB_fits HF.out (1 + (m : Int)))
        have HLD : Hid ((dropB xs (1 + (m : Int))).1.length ≤ 2000000) := Lib.hid (by have h1 := dropB_len xs (1 + (m : Int)); rw [HL.out] at h1; omega)
        have HDD := Lib.hid (HDK.out (1 + (m : Int)) (by omega) (by omega))
        generalize dropB xs (1 + (m : Int)) = D at H6 HFD HLD HDD
        obtain ⟨zs, dropped⟩ := D
        simp only at H6 HFD HLD HDD
        clear hb5 hc4
        go_wp2_with fail
        refine H6.out.mono ?_
        rintro e w6 ⟨vy, rfl, hvy, hb6⟩
        have hc6 := bnext hc5 hb6
        have H7 := Lib.hid (storeFind_v vy zs t w6 (hvy.slv HLD.out) HFD.out hts)
        clear hvy hb6 hc5 hme
        cases dropped
        · obtain ⟨F7, hF7⟩ : ∃ F7, findB zs t = F7 := ⟨_, rfl⟩
          rw [hF7] at H7
          clear hF7
          obtain ⟨a7, two⟩ := F7
          go_wp2_with fail
          refine H7.out.mono ?_
          rintro e w7 ⟨rfl, hb7⟩
          have hB := (HD.out.next (bnext hc6 hb7)).bel
          clear hb7 hc6
          go_wp2_with fail
          go_ret
          exact ⟨rfl, hB⟩
        · by_cases hmj : (1 + (m : Int)) = (j : Int) + 1
          · obtain ⟨F7, hF7⟩ : ∃ F7, findB zs t = F7 := ⟨_, rfl⟩
            rw [hF7] at H7
            clear hF7
            obtain ⟨a7, two⟩ := F7
            have hmb : ((1 + (m : Int)) == (j : Int) + 1) = true := by simpa using hmj
            have hm2 : m = j := by omega
            subst hm2
            clear hmj hmb
            have hmb : ((1 + (m : Int)) == (m : Int) + 1) = true := by rw [Int.add_comm]; simp
            go_wp2_with fail
            refine H7.out.mono ?_
            rintro e w7 ⟨rfl, hb7⟩
            have hB := (HD.out.next (bnext hc6 hb7)).bel
            clear hb7 hc6
            go_wp2_with fail
            go_ret
            exact ⟨rfl, hB⟩
          · rw [HDD.out hmj rfl] at H7
            have hmb : ((1 + (m : Int)) == (j : Int) + 1) = false := by simpa using hmj
            clear hmj
            go_wp2_with fail
            refine H7.out.mono ?_
            rintro e w7 ⟨rfl, hb7⟩
            have hB := (HD.out.next (bnext hc6 hb7)).bel
            clear hb7 hc6
            go_wp2_with fail
            go_ret
            exact ⟨rfl, hB⟩
    · have HP := HPK.out ⟨#[98, 100]⟩
      have HFP := putB_fits HF.out ⟨#[98, 100]⟩ (by decide +kernel)
      have HLP := putB_len xs ⟨#[98, 100]⟩
      have H4 := Lib.hid (fun W (hb : Below w3.heap.size w3 W) => storePut_v _ xs ⟨#[98, 100]⟩ W (HD.out.next hb).slv HF.out (by decide +kernel))
      generalize putB xs ⟨#[98, 100]⟩ = P at HP HFP HLP H4
      obtain ⟨ys, at', put⟩ := P
      simp only at HP HFP HLP H4
      rw [HL.out] at HLP
      have HFP2 := Lib.hid HFP
      have HLP2 : Hid (ys.length ≤ 2000000) := Lib.hid (by omega)
      have HP2 := Lib.hid HP
      clear HP HFP HLP
      go_wp2_with fail
      refine (H4.out _ (below_alloc w3 _)).mono ?_
      rintro e w4 ⟨vx, rfl, hvx, hb4⟩
      have hc4 := bnext (below_alloc w3 _) hb4
      clear hb4 h4 H4
      have H5 := Lib.hid (storeFind_v vx ys t w4 (hvx.slv HLP2.out) HFP2.out hts)
      clear hvx
      have hme := HME.out
      cases put
      · obtain ⟨F5, hF5⟩ : ∃ F5, findB ys t = F5 := ⟨_, rfl⟩
        rw [hF5] at H5
        clear hF5
        obtain ⟨a5, one⟩ := F5
        go_wp2_with fail
        refine H5.out.mono ?_
        rintro e w5 ⟨rfl, hb5⟩
        have hc5 := bnext hc4 hb5
        have H6 := Lib.hid (storeDrop_v _ xs (1 + (m : Int)) w5 (HD.out.next hc5).slv HF.out)
        have HFD := Lib.hid (dropB_fits HF.out (1 + (m : Int)))
        have HLD : Hid ((dropB xs (1 + (m : Int))).1.length ≤ 2000000) := Lib.hid (by have h1 := dropB_len xs (1 + (m : Int)); rw [HL.out] at h1; omega)
        have HDD := Lib.hid (HDK.out (1 + (m : Int)) (by omega) (by omega))
        generalize dropB xs (1 + (m : Int)) = D at H6 HFD HLD HDD
        obtain ⟨zs, dropped⟩ := D
        simp only at H6 HFD HLD HDD
        clear hb5 hc4
        go_wp2_with fail
        refine H6.out.mono ?_
        rintro e w6 ⟨vy, rfl, hvy, hb6⟩
        have hc6 := bnext hc5 hb6
        have H7 := Lib.hid (storeFind_v vy zs t w6 (hvy.slv HLD.out) HFD.out hts)
        clear hvy hb6 hc5 hme
        cases dropped
        · obtain ⟨F7, hF7⟩ : ∃ F7, findB zs t = F7 := ⟨_, rfl⟩
          rw [hF7] at H7
          clear hF7
          obtain ⟨a7, two⟩ := F7
          go_wp2_with fail
          refine H7.out.mono ?_
          rintro e w7 ⟨rfl, hb7⟩
          have hB := (HD.out.next (bnext hc6 hb7)).bel
          clear hb7 hc6
          go_wp2_with fail
          go_ret
          exact ⟨rfl, hB⟩
        · by_cases hmj : (1 + (m : Int)) = (j : Int) + 1
          · obtain ⟨F7, hF7⟩ : ∃ F7, findB zs t = F7 := ⟨_, rfl⟩
            rw [hF7] at H7
            clear hF7
            obtain ⟨a7, two⟩ := F7
            have hmb : ((1 + (m : Int)) == (j : Int) + 1) = true := by simpa using hmj
            have hm2 : m = j := by omega
            subst hm2
            clear hmj hmb
            have hmb : ((1 + (m : Int)) == (m : Int) + 1) = true := by rw [Int.add_comm]; simp
            go_wp2_with fail
            refine H7.out.mono ?_
            rintro e w7 ⟨rfl, hb7⟩
            have hB := (HD.out.next (bnext hc6 hb7)).bel
            clear hb7 hc6
            go_wp2_with fail
            go_ret
            exact ⟨rfl, hB⟩
          · rw [HDD.out hmj rfl] at H7
            have hmb : ((1 + (m : Int)) == (j : Int) + 1) = false := by simpa using hmj
            clear hmj
            go_wp2_with fail
            refine H7.out.mono ?_
            rintro e w7 ⟨rfl, hb7⟩
            have hB := (HD.out.next (bnext hc6 hb7)).bel
            clear hb7 hc6
            go_wp2_with fail
            go_ret
            exact ⟨rfl, hB⟩
      · rw [HP2.out rfl] at H5
        go_wp2_with fail
        refine H5.out.mono ?_
        rintro e w5 ⟨rfl, hb5⟩
        have hc5 := bnext hc4 hb5
        have H6 := Lib.hid (storeDrop_v _ xs (1 + (m : Int)) w5 (HD.out.next hc5).slv HF.out)
        have HFD := Lib.hid (dropB_fits HF.out (1 + (m : Int)))
        have HLD : Hid ((dropB xs (1 + (m : Int))).1.length ≤ 2000000) := Lib.hid (by have h1 := dropB_len xs (1 + (m : Int)); rw [HL.out] at h1; omega)
        have HDD := Lib.hid (HDK.out (1 + (m : Int)) (by omega) (by omega))
        generalize dropB xs (1 + (m : Int)) = D at H6 HFD HLD HDD
        obtain ⟨zs, dropped⟩ := D
        simp only at H6 HFD HLD HDD
        clear hb5 hc4
        go_wp2_with fail
        refine H6.out.mono ?_
        rintro e w6 ⟨vy, rfl, hvy, hb6⟩
        have hc6 := bnext hc5 hb6
        have H7 := Lib.hid (storeFind_v vy zs t w6 (hvy.slv HLD.out) HFD.out hts)
        clear hvy hb6 hc5 hme
        cases dropped
        · obtain ⟨F7, hF7⟩ : ∃ F7, findB zs t = F7 := ⟨_, rfl⟩
          rw [hF7] at H7
          clear hF7
          obtain ⟨a7, two⟩ := F7
          go_wp2_with fail
          refine H7.out.mono ?_
          rintro e w7 ⟨rfl, hb7⟩
          have hB := (HD.out.next (bnext hc6 hb7)).bel
          clear hb7 hc6
          go_wp2_with fail
          go_ret
          exact ⟨rfl, hB⟩
        · by_cases hmj : (1 + (m : Int)) = (j : Int) + 1
          · obtain ⟨F7, hF7⟩ : ∃ F7, findB zs t = F7 := ⟨_, rfl⟩
            rw [hF7] at H7
            clear hF7
            obtain ⟨a7, two⟩ := F7
            have hmb : ((1 + (m : Int)) == (j : Int) + 1) = true := by simpa using hmj
            have hm2 : m = j := by omega
            subst hm2
            clear hmj hmb
            have hmb : ((1 + (m : Int)) == (m : Int) + 1) = true := by rw [Int.add_comm]; simp
            go_wp2_with fail
            refine H7.out.mono ?_
            rintro e w7 ⟨rfl, hb7⟩
            have hB := (HD.out.next (bnext hc6 hb7)).bel
            clear hb7 hc6
            go_wp2_with fail
            go_ret
            exact ⟨rfl, hB⟩
          · rw [HDD.out hmj rfl] at H7
            have hmb : ((1 + (m : Int)) == (j : Int) + 1) = false := by simpa using hmj
            clear hmj
            go_wp2_with fail
            refine H7.out.mono ?_
            rintro e w7 ⟨rfl, hb7⟩
            have hB := (HD.out.next (bnext hc6 hb7)).bel
            clear hb7 hc6
            go_wp2_with fail
            go_ret
            exact ⟨rfl, hB⟩
    · have HP := HPK.out ⟨#[99, 99, 99]⟩
      have HFP := putB_fits HF.out ⟨#[99, 99, 99]⟩ (by decide +kernel)
      have HLP := putB_len xs ⟨#[99, 99, 99]⟩
      have H4 := Lib.hid (fun W (hb : Below w3.heap.size w3 W) => storePut_v _ xs ⟨#[99, 99, 99]⟩ W (HD.out.next hb).slv HF.out (by decide +kernel))
      generalize putB xs ⟨#[99, 99, 99]⟩ = P at HP HFP HLP H4
      obtain ⟨ys, at', put⟩ := P
      simp only at HP HFP HLP H4
      rw [HL.out] at HLP
      have HFP2 := Lib.hid HFP
      have HLP2 : Hid (ys.length ≤ 2000000) := Lib.hid (by omega)
      have HP2 := Lib.hid HP
      clear HP HFP HLP
      go_wp2_with fail
      refine (H4.out _ (below_alloc w3 _)).mono ?_
      rintro e w4 ⟨vx, rfl, hvx, hb4⟩
      have hc4 := bnext (below_alloc w3 _) hb4
      clear hb4 h4 H4
      have H5 := Lib.hid (storeFind_v vx ys t w4 (hvx.slv HLP2.out) HFP2.out hts)
      clear hvx
      have hme := HME.out
      cases put
      · obtain ⟨F5, hF5⟩ : ∃ F5, findB ys t = F5 := ⟨_, rfl⟩
        rw [hF5] at H5
        clear hF5
        obtain ⟨a5, one⟩ := F5
        go_wp2_with fail
        refine H5.out.mono ?_
        rintro e w5 ⟨rfl, hb5⟩
        have hc5 := bnext hc4 hb5
        have H6 := Lib.hid (storeDrop_v _ xs (1 + (m : Int)) w5 (HD.out.next hc5).slv HF.out)
        have HFD := Lib.hid (dropB_fits HF.out (1 + (m : Int)))
        have HLD : Hid ((dropB xs (1 + (m : Int))).1.length ≤ 2000000) := Lib.hid (by have h1 := dropB_len xs (1 + (m : Int)); rw [HL.out] at h1; omega)
        have HDD := Lib.hid (HDK.out (1 + (m : Int)) (by omega) (by omega))
        generalize dropB xs (1 + (m : Int)) = D at H6 HFD HLD HDD
        obtain ⟨zs, dropped⟩ := D
        simp only at H6 HFD HLD HDD
        clear hb5 hc4
        go_wp2_with fail
        refine H6.out.mono ?_
        rintro e w6 ⟨vy, rfl, hvy, hb6⟩
        have hc6 := bnext hc5 hb6
        have H7 := Lib.hid (storeFind_v vy zs t w6 (hvy.slv HLD.out) HFD.out hts)
        clear hvy hb6 hc5 hme
        cases dropped
        · obtain ⟨F7, hF7⟩ : ∃ F7, findB zs t = F7 := ⟨_, rfl⟩
          rw [hF7] at H7
          clear hF7
          obtain ⟨a7, two⟩ := F7
          go_wp2_with fail
          refine H7.out.mono ?_
          rintro e w7 ⟨rfl, hb7⟩
          have hB := (HD.out.next (bnext hc6 hb7)).bel
          clear hb7 hc6
          go_wp2_with fail
          go_ret
          exact ⟨rfl, hB⟩
        · by_cases hmj : (1 + (m : Int)) = (j : Int) + 1
          · obtain ⟨F7, hF7⟩ : ∃ F7, findB zs t = F7 := ⟨_, rfl⟩
            rw [hF7] at H7
            clear hF7
            obtain ⟨a7, two⟩ := F7
            have hmb : ((1 + (m : Int)) == (j : Int) + 1) = true := by simpa using hmj
            have hm2 : m = j := by omega
            subst hm2
            clear hmj hmb
            have hmb : ((1 + (m : Int)) == (m : Int) + 1) = true := by rw [Int.add_comm]; simp
            go_wp2_with fail
            refine H7.out.mono ?_
            rintro e w7 ⟨rfl, hb7⟩
            have hB := (HD.out.next (bnext hc6 hb7)).bel
            clear hb7 hc6
            go_wp2_with fail
            go_ret
            exact ⟨rfl, hB⟩
          · rw [HDD.out hmj rfl] at H7
            have hmb : ((1 + (m : Int)) == (j : Int) + 1) = false := by simpa using hmj
            clear hmj
            go_wp2_with fail
            refine H7.out.mono ?_
            rintro e w7 ⟨rfl, hb7⟩
            have hB := (HD.out.next (bnext hc6 hb7)).bel
            clear hb7 hc6
            go_wp2_with fail
            go_ret
            exact ⟨rfl, hB⟩
      · rw [HP2.out rfl] at H5
        go_wp2_with fail
        refine H5.out.mono ?_
        rintro e w5 ⟨rfl, hb5⟩
        have hc5 := bnext hc4 hb5
        have H6 := Lib.hid (storeDrop_v _ xs (1 + (m : Int)) w5 (HD.out.next hc5).slv HF.out)
        have HFD := Lib.hid (dropB_fits HF.out (1 + (m : Int)))
        have HLD : Hid ((dropB xs (1 + (m : Int))).1.length ≤ 2000000) := Lib.hid (by have h1 := dropB_len xs (1 + (m : Int)); rw [HL.out] at h1; omega)
        have HDD := Lib.hid (HDK.out (1 + (m : Int)) (by omega) (by omega))
        generalize dropB xs (1 + (m : Int)) = D at H6 HFD HLD HDD
        obtain ⟨zs, dropped⟩ := D
        simp only at H6 HFD HLD HDD
        clear hb5 hc4
        go_wp2_with fail
        refine H6.out.mono ?_
        rintro e w6 ⟨vy, rfl, hvy, hb6⟩
        have hc6 := bnext hc5 hb6
        have H7 := Lib.hid (storeFind_v vy zs t w6 (hvy.slv HLD.out) HFD.out hts)
        clear hvy hb6 hc5 hme
        cases dropped
        · obtain ⟨F7, hF7⟩ : ∃ F7, findB zs t = F7 := ⟨_, rfl⟩
          rw [hF7] at H7
          clear hF7
          obtain ⟨a7, two⟩ := F7
          go_wp2_with fail
          refine H7.out.mono ?_
          rintro e w7 ⟨rfl, hb7⟩
          have hB := (HD.out.next (bnext hc6 hb7)).bel
          clear hb7 hc6
          go_wp2_with fail
          go_ret
          exact ⟨rfl, hB⟩
        · by_cases hmj : (1 + (m : Int)) = (j : Int) + 1
          · obtain ⟨F7, hF7⟩ : ∃ F7, findB zs t = F7 := ⟨_, rfl⟩
            rw [hF7] at H7
            clear hF7
            obtain ⟨a7, two⟩ := F7
            have hmb : ((1 + (m : Int)) == (j : Int) + 1) = true := by simpa using hmj
            have hm2 : m = j := by omega
            subst hm2
            clear hmj hmb
            have hmb : ((1 + (m : Int)) == (m : Int) + 1) = true := by rw [Int.add_comm]; simp
            go_wp2_with fail
            refine H7.out.mono ?_
            rintro e w7 ⟨rfl, hb7⟩
            have hB := (HD.out.next (bnext hc6 hb7)).bel
            clear hb7 hc6
            go_wp2_with fail
            go_ret
            exact ⟨rfl, hB⟩
          · rw [HDD.out hmj rfl] at H7
            have hmb : ((1 + (m : Int)) == (j : Int) + 1) = false := by simpa using hmj
            clear hmj
            go_wp2_with fail
            refine H7.out.mono ?_
            rintro e w7 ⟨rfl, hb7⟩
            have hB := (HD.out.next (bnext hc6 hb7)).bel
            clear hb7 hc6
            go_wp2_with fail
            go_ret
            exact ⟨rfl, hB⟩
    · have HP := HPK.out ⟨#[100, 97]⟩
      have HFP := putB_fits HF.out ⟨#[100, 97]⟩ (by decide +kernel)
      have HLP := putB_len xs ⟨#[100, 97]⟩
      have H4 := Lib.hid (fun W (hb : Below w3.heap.size w3 W) => storePut_v _ xs ⟨#[100, 97]⟩ W (HD.out.next hb).slv HF.out (by decide +kernel))
      generalize putB xs ⟨#[100, 97]⟩ = P at HP HFP HLP H4
      obtain ⟨ys, at', put⟩ := P
      simp only at HP HFP HLP H4
      rw [HL.out] at HLP
      have HFP2 := Lib.hid HFP
      have HLP2 : Hid (ys.length ≤ 2000000) := Lib.hid (by omega)
      have HP2 := Lib.hid HP
      clear HP HFP HLP
      go_wp2_with fail
      refine (H4.out _ (below_alloc w3 _)).mono ?_
      rintro e w4 ⟨vx, rfl, hvx, hb4⟩
      have hc4 := bnext (below_alloc w3 _) hb4
      clear hb4 h4 H4
      have H5 := Lib.hid (storeFind_v vx ys t w4 (hvx.slv HLP2.out) HFP2.out hts)
      clear hvx
      have hme := HME.out
      cases put
      · obtain ⟨F5, hF5⟩ : ∃ F5, findB ys t = F5 := ⟨_, rfl⟩
        rw [hF5] at H5
        clear hF5
        obtain ⟨a5, one⟩ := F5
        go_wp2_with fail
        refine H5.out.mono ?_
        rintro e w5 ⟨rfl, hb5⟩
        have hc5 := bnext hc4 hb5
        have H6 := Lib.hid (storeDrop_v _ xs (1 + (m : Int)) w5 (HD.out.next hc5).slv HF.out)
        have HFD := Lib.hid (dropB_fits HF.out (1 + (m : Int)))
        have HLD : Hid ((dropB xs (1 + (m : Int))).1.length ≤ 2000000) := Lib.hid (by have h1 := dropB_len xs (1 + (m : Int)); rw [HL.out] at h1; omega)
        have HDD := Lib.hid (HDK.out (1 + (m : Int)) (by omega) (by omega))
        generalize dropB xs (1 + (m : Int)) = D at H6 HFD HLD HDD
        obtain ⟨zs, dropped⟩ := D
        simp only at H6 HFD HLD HDD
        clear hb5 hc4
        go_wp2_with fail
        refine H6.out.mono ?_
        rintro e w6 ⟨vy, rfl, hvy, hb6⟩
        have hc6 := bnext hc5 hb6
        have H7 := Lib.hid (storeFind_v vy zs t w6 (hvy.slv HLD.out) HFD.out hts)
        clear hvy hb6 hc5 hme
        cases dropped
        · obtain ⟨F7, hF7⟩ : ∃ F7, findB zs t = F7 := ⟨_, rfl⟩
          rw [hF7] at H7
          clear hF7
          obtain ⟨a7, two⟩ := F7
          go_wp2_with fail
          refine H7.out.mono ?_
          rintro e w7 ⟨rfl, hb7⟩
          have hB := (HD.out.next (bnext hc6 hb7)).bel
          clear hb7 hc6
          go_wp2_with fail
          go_ret
          exact ⟨rfl, hB⟩
        · by_cases hmj : (1 + (m : Int)) = (j : Int) + 1
          · obtain ⟨F7, hF7⟩ : ∃ F7, findB zs t = F7 := ⟨_, rfl⟩
            rw [hF7] at H7
            clear hF7
            obtain ⟨a7, two⟩ := F7
            have hmb : ((1 + (m : Int)) == (j : Int) + 1) = true := by simpa using hmj
            have hm2 : m = j := by omega
            subst hm2
            clear hmj hmb
            have hmb : ((1 + (m : Int)) == (m : Int) + 1) = true := by rw [Int.add_comm]; simp
            go_wp2_with fail
            refine H7.out.mono ?_
            rintro e w7 ⟨rfl, hb7⟩
            have hB := (HD.out.next (bnext hc6 hb7)).bel
            clear hb7 hc6
            go_wp2_with fail
            go_ret
            exact ⟨rfl, hB⟩
          · rw [HDD.out hmj rfl] at H7
            have hmb : ((1 + (m : Int)) == (j : Int) + 1) = false := by simpa using hmj
            clear hmj
            go_wp2_with fail
            refine H7.out.mono ?_
            rintro e w7 ⟨rfl, hb7⟩
            have hB := (HD.out.next (bnext hc6 hb7)).bel
            clear hb7 hc6
            go_wp2_with fail
            go_ret
            exact ⟨rfl, hB⟩
      · rw [HP2.out rfl] at H5
        go_wp2_with fail
        refine H5.out.mono ?_
        rintro e w5 ⟨rfl, hb5⟩
        have hc5 := bnext hc4 hb5
        have H6 := Lib.hid (storeDrop_v _ xs (1 + (m : Int)) w5 (HD.out.next hc5).slv HF.out)
        have HFD := Lib.hid (dropB_fits HF.out (1 + (m : Int)))
        have HLD : Hid ((dropB xs (1 + (m : Int))).1.length ≤ 2000000) := Lib.hid (by have h1 := dropB_len xs (1 + (m : Int)); rw [HL.out] at h1; omega)
        have HDD := Lib.hid (HDK.out (1 + (m : Int)) (by omega) (by omega))
        generalize dropB xs (1 + (m : Int)) = D at H6 HFD HLD HDD
        obtain ⟨zs, dropped⟩ := D
        simp only at H6 HFD HLD HDD
        clear hb5 hc4
        go_wp2_with fail
        refine H6.out.mono ?_
        rintro e w6 ⟨vy, rfl, hvy, hb6⟩
        have hc6 := bnext hc5 hb6
        have H7 := Lib.hid (storeFind_v vy zs t w6 (hvy.slv HLD.out) HFD.out hts)
        clear hvy hb6 hc5 hme
        cases dropped
        · obtain ⟨F7, hF7⟩ : ∃ F7, findB zs t = F7 := ⟨_, rfl⟩
          rw [hF7] at H7
          clear hF7
          obtain ⟨a7, two⟩ := F7
          go_wp2_with fail
          refine H7.out.mono ?_
          rintro e w7 ⟨rfl, hb7⟩
          have hB := (HD.out.next (bnext hc6 hb7)).bel
          clear hb7 hc6
          go_wp2_with fail
          go_ret
          exact ⟨rfl, hB⟩
        · by_cases hmj : (1 + (m : Int)) = (j : Int) + 1
          · obtain ⟨F7, hF7⟩ : ∃ F7, findB zs t = F7 := ⟨_, rfl⟩
            rw [hF7] at H7
            clear hF7
            obtain ⟨a7, two⟩ := F7
            have hmb : ((1 + (m : Int)) == (j : Int) + 1) = true := by simpa using hmj
            have hm2 : m = j := by omega
            subst hm2
            clear hmj hmb
            have hmb : ((1 + (m : Int)) == (m : Int) + 1) = true := by rw [Int.add_comm]; simp
            go_wp2_with fail
            refine H7.out.mono ?_
            rintro e w7 ⟨rfl, hb7⟩
            have hB := (HD.out.next (bnext hc6 hb7)).bel
            clear hb7 hc6
            go_wp2_with fail
            go_ret
            exact ⟨rfl, hB⟩
          · rw [HDD.out hmj rfl] at H7
            have hmb : ((1 + (m : Int)) == (j : Int) + 1) = false := by simpa using hmj
            clear hmj
            go_wp2_with fail
            refine H7.out.mono ?_
            rintro e w7 ⟨rfl, hb7⟩
            have hB := (HD.out.next (bnext hc6 hb7)).bel
            clear hb7 hc6
            go_wp2_with fail
            go_ret
            exact ⟨rfl, hB⟩

set_option maxRecDepth 100000 in
theorem lifted (os : Os) (started : os.Started) (H : Type) (enc : TypeId × Value → H) :
    ReturnsInHanded {} Try.checked os 10 .any (Rows.fnFindSameSpec.pre6 enc Try.prog Try.f10 Rows.fnFindSameRow.domain false) (Rows.fnFindSameSpec.post enc Try.prog Try.f10 false true false false) := by
  refine returnsInHanded_of_change (C := Try.checked) own started (by kernel_rfl) Try.func10
    (ChangeSpec.witness6 (enc := enc) (C := Try.checked) false ⟨#[], #[.slice none 0 0, .slice none 0 0], []⟩ 8 (by kernel_rfl) (by kernel_rfl) (by kernel_rfl) (by kernel_rfl)) ?_
  intro W base args ds gs before hval0 hW hcnd _
  have hval : ∀ (j : Nat) t v, Try.f10.params[j]? = some t → args[j]? = some v → Value.okWide Try.prog W .any base t v := hval0
  have hW' := hW
  obtain ⟨p, q, hA0, hV, rfl, hfz, hnd⟩ := hW
  have hA : DataW.TrodAll enc Try.prog W 0 (fun _ => true) true Try.f10.params.toList args.toList ds p := hA0
  rw [Try.params10] at hA hval
  obtain ⟨v0, vs0, d0, ds0, p0, q0, hargs, rfl, rfl, h0, r0⟩ := trodAll_cons hA
  obtain ⟨v1, vs1, d1, ds1, p1, q1, rfl, rfl, rfl, h1, r1⟩ := trodAll_cons r0
  obtain ⟨rfl, rfl, rfl⟩ := trodAll_nil r1
  obtain rfl : args = #[v0, v1] := by cases args; simp_all
  obtain ⟨rfl, rfl⟩ := trodVars_none hV
  obtain ⟨a0, len0, cap0, rfl⟩ := okWide_slice Try.underlying22 (hval 0 22 v0 rfl rfl)
  have k0 := h0
  have lt0 : ∀ x ∈ p0, x.block < W.heap.size := by obtain ⟨m, hm⟩ := k0; exact DataW.trod_lt m _ _ _ hm
  obtain ⟨z0, w0⟩ : ∃ zs, IsRow .u8 W a0 len0 cap0 zs := by
    obtain ⟨fuel, hf⟩ := h0
    rcases open_ints Try.underlying22 Try.underlying5 (by kernel_rfl) hf with ⟨hcs, _⟩ | ⟨x, l, c, zs, hcs, _, hl, hm, hz, _, hcell, hwz⟩
    · simp [Value.cells] at hcs
      obtain ⟨rfl, rfl, rfl⟩ := hcs
      exact ⟨[], .inl ⟨rfl, rfl, rfl, rfl⟩⟩
    · simp [Value.cells] at hcs
      obtain ⟨rfl, rfl, rfl⟩ := hcs
      exact ⟨zs, .inr ⟨_, rfl, hl, hm, by simpa using hz, hcell, hwz⟩⟩
  obtain ⟨a1, len1, cap1, rfl⟩ := okWide_slice Try.underlying22 (hval 1 22 v1 rfl rfl)
  have k1 := h1
  have lt1 : ∀ x ∈ p1, x.block < W.heap.size := by obtain ⟨m, hm⟩ := k1; exact DataW.trod_lt m _ _ _ hm
  obtain ⟨z1, w1⟩ : ∃ zs, IsRow .u8 W a1 len1 cap1 zs := by
    obtain ⟨fuel, hf⟩ := h1
    rcases open_ints Try.underlying22 Try.underlying5 (by kernel_rfl) hf with ⟨hcs, _⟩ | ⟨x, l, c, zs, hcs, _, hl, hm, hz, _, hcell, hwz⟩
    · simp [Value.cells] at hcs
      obtain ⟨rfl, rfl, rfl⟩ := hcs
      exact ⟨[], .inl ⟨rfl, rfl, rfl, rfl⟩⟩
    · simp [Value.cells] at hcs
      obtain ⟨rfl, rfl, rfl⟩ := hcs
      exact ⟨zs, .inr ⟨_, rfl, hl, hm, by simpa using hz, hcell, hwz⟩⟩
  clear hA0 hval0
  refine (walk W a0 len0 cap0 z0 w0 a1 len1 cap1 z1 w1).mono fun e W' ⟨he, bel⟩ => ?_
  subst he
  exact ⟨_, rfl, _, _, _, [], _, [], hW', trodAll_mk1 (shut_bool Try.underlying4 _), (trodAll_cons_mk (Below.trod laidOut (by kernel_rfl) (of_decide_eq_true (by kernel_rfl)) k0 bel lt0) (trodAll_cons_mk (Below.trod laidOut (by kernel_rfl) (of_decide_eq_true (by kernel_rfl)) k1 bel lt1) trodAll_mk0)), rfl, bel.frame _, fun h => by cases h⟩

theorem closed : joinedFacts Try.prog 10 Try.f10 Rows.fnFindSameSpec Rows.fnFindSameRow = true := by
  unfold joinedFacts
  rewrite [head_may, head_lifts, head_make]
  kernel_rfl
theorem over : Rows.fnFindSameRow.holds Try.pinned (OpenSpec.ofChange Rows.fnFindSameSpec) :=
  OpenClaim.holds_of_wide 10 Try.f10 rfl rfl rfl rfl rfl rfl rfl ⟨rfl, rfl, rfl, rfl, rfl⟩ rfl rfl rfl rfl rfl (by kernel_rfl) Try.func10 closed
    (of_decide_eq_true (by kernel_rfl)) (by unfold Func.isWrapper; first | (rw [if_pos (by decide +kernel)]; kernel_rfl) | (rw [if_neg (by decide +kernel)]; exact ⟨rfl, rfl⟩))
    (fun os started H enc _ => lifted os started H enc)

theorem proved : Rows.FnFindSameSaid := over
#print axioms proved
end Go.Proofs.Ytgajhknljnhfmaa.fnFindSame
