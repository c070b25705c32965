/- The model's l11Make: a disk is made. -/
import Derived.Test.YtgogokahpmljbaaPoolAdd
import Derived.RegionCalls
namespace Go.Proofs.Ytgogokahpmljbaa
open Go.RowKit
set_option linter.unusedVariables false
set_option maxRecDepth 100000

theorem own_len {B : Nat} {w : World} {a : Option Addr} {n c : Nat} {rs : List Rw} {vs : List Vo} (h : OwnVR B w (.slice a n c) rs vs) : vs.length = n := by
  rcases h.arr.2 with ⟨e, h0⟩ | ⟨g, cap, cur, e, _⟩
  · injection e with _ e2 _; omega
  · injection e with _ e2 _; omega

theorem rdV_of_own {B : Nat} {w : World} {a : Option Addr} {n c : Nat} {rs : List Rw} {vs : List Vo} (h : OwnVR B w (.slice a n c) rs vs) (hn : n ≤ 900) (hb : ∀ v ∈ vs, volB v = true) : RdV w a n c vs := by
  have hl := own_len h
  refine ⟨hl, by omega, ?_⟩
  by_cases h0 : 0 < n
  · obtain ⟨g, cap, hav, _, _, _, hr, _⟩ := h.rows (by omega)
    injection hav with ea _ _
    refine .inr ⟨g, 0, rs, ea, by rw [h.len, hl], hr, fun i hi => ?_⟩
    obtain ⟨h1, gb, cb, h2, _, _, _, h3, h4, _⟩ := h.row i (by omega)
    have hv := (volB_iff _).1 (hb _ (vth_mem (k := i) (by omega)))
    refine ⟨h1, ?_, by rw [nameB_size _ hv.2.1]; unfold maxLen; omega⟩
    rw [h2]
    exact ⟨_, _, _, rfl, rfl, by omega, .inr ⟨gb, 0, rfl, h4.1⟩⟩
  · exact .inl (List.eq_nil_of_length_eq_zero (by omega))

theorem OwnVR.far {B : Nat} {w : World} {v : Value} {rs : List Rw} {vs : List Vo} (h : OwnVR B w v rs vs) {W : World} (hb : Below w.heap.size w W) (p : Addr) (hp : w.heap.size ≤ p.block) (u : Value) : OwnVR B (W.setCell p u) v rs vs :=
  (h.below hb (Nat.le_refl _)).setFar p (fun e => by have := (arr_at h.arr _ e).2; omega) (fun i hi => by have := (h.blk_lt i hi).2; omega) u

theorem OwnVR.far2 {B : Nat} {w : World} {v : Value} {rs : List Rw} {vs : List Vo} (h : OwnVR B w v rs vs) {W : World} (hb : Below w.heap.size w W) (p q : Addr) (hp : w.heap.size ≤ p.block) (hq : w.heap.size ≤ q.block) (u v2 : Value) : OwnVR B ((W.setCell p u).setCell q v2) v rs vs :=
  h.far (W := W.setCell p u) (hb.setCell hp u) q hq v2

/-- What l11Make makes of the disks. -/
def makeV (vs : List Vo) (n : ByteArray) (size : Int) : List Vo × Bool :=
  if (nameB n.data.toList && (decide (1 ≤ size) && decide (size ≤ 6)) && decide (atF vs n < 0)) = true then (addF vs ⟨n, List.replicate size.toNat 0⟩, true) else (vs, false)

theorem makeF_v (p : Po) (n : ByteArray) (size : Int) : makeF p n size = (⟨p.slots, (makeV p.vols n size).1⟩, (makeV p.vols n size).2) := by
  unfold makeF makeV; split <;> rfl

/-- A pool in the model's box, and its result's box. -/
structure BoxPool (w : World) (sa : Option Addr) (sn sc : Nat) (a : Option Addr) (n c : Nat) (W : World) : Prop where
  c0 : W.cell? ⟨w.heap.size, 0, none⟩ = some (.slice sa sn sc)
  c1 : W.cell? ⟨w.heap.size, 1, none⟩ = some (.slice a n c)
  d0 : W.cell? ⟨w.heap.size + 1, 0, none⟩ = some (.slice none 0 0)
  d1 : W.cell? ⟨w.heap.size + 1, 1, none⟩ = some (.slice none 0 0)
  z0 : W.frozen? ⟨w.heap.size + 1, 0, none⟩ = false
  z1 : W.frozen? ⟨w.heap.size + 1, 1, none⟩ = false
  big : w.heap.size + 2 ≤ W.heap.size
  bel : Below w.heap.size w W

theorem boxPool (w : World) (sa : Option Addr) (sn sc : Nat) (a : Option Addr) (n c : Nat) (t : TypeId) : BoxPool w sa sn sc a n c ((w.alloc (.cells #[.slice sa sn sc, .slice a n c] t)).alloc (.cells #[.slice none 0 0, .slice none 0 0] t)) := by
  have n0 := new_cells w #[.slice sa sn sc, .slice a n c] t
  have n1 := new_cells (w.alloc (.cells #[.slice sa sn sc, .slice a n c] t)) #[.slice none 0 0, .slice none 0 0] t
  have o0 := fun i => old_cells (w.alloc (.cells #[.slice sa sn sc, .slice a n c] t)) (.cells #[.slice none 0 0, .slice none 0 0] t) w.heap.size i (by simp)
  simp only [World.size_alloc] at n1
  exact ⟨(o0 0).1.trans (n0.1 0), (o0 1).1.trans (n0.1 1), n1.1 0, n1.1 1, n1.2 0, n1.2 1, by simp, ((Below.refl _ _).alloc (Nat.le_refl _) _).alloc (by simp) _⟩

theorem BoxPool.later {w : World} {sa : Option Addr} {sn sc : Nat} {a : Option Addr} {n c : Nat} {W W' : World} (h : BoxPool w sa sn sc a n c W) {B : Nat} (hb : Below B W W') (hB : w.heap.size + 2 ≤ B) : BoxPool w sa sn sc a n c W' :=
  ⟨(hb.cell (p := ⟨w.heap.size, 0, none⟩) (by show w.heap.size < B; omega)).trans h.c0, (hb.cell (p := ⟨w.heap.size, 1, none⟩) (by show w.heap.size < B; omega)).trans h.c1,
   (hb.cell (p := ⟨w.heap.size + 1, 0, none⟩) (by show w.heap.size + 1 < B; omega)).trans h.d0, (hb.cell (p := ⟨w.heap.size + 1, 1, none⟩) (by show w.heap.size + 1 < B; omega)).trans h.d1,
   (hb.frozen (p := ⟨w.heap.size + 1, 0, none⟩) (by show w.heap.size + 1 < B; omega)).trans h.z0, (hb.frozen (p := ⟨w.heap.size + 1, 1, none⟩) (by show w.heap.size + 1 < B; omega)).trans h.z1,
   Nat.le_trans h.big hb.size, h.bel.trans (hb.mono (by omega))⟩

theorem BoxPool.next {w : World} {sa : Option Addr} {sn sc : Nat} {a : Option Addr} {n c : Nat} {W W' : World} (h : BoxPool w sa sn sc a n c W) (hb : Below W.heap.size W W') : BoxPool w sa sn sc a n c W' := h.later hb h.big

set_option maxHeartbeats 3200000 in
theorem l11Make_any (sa : Option Addr) (sn sc : Nat) (a : Option Addr) (n c B : Nat) (rs : List Rw) (vs : List Vo) (nm : ByteArray) (size : Int) (w : World) (hV : OwnVR B w (.slice a n c) rs vs) (hn : n ≤ 900) (hb : ∀ v ∈ vs, volB v = true) (hs : nm.size ≤ maxLen) (hB : B ≤ w.heap.size) :
    Calls Try.prog 43 #[.agg #[.slice sa sn sc, .slice a n c], .string nm, .int .i64 size] w fun e w' => ∃ v' rs', e = .returned (.tuple #[.agg #[.slice sa sn sc, v'], .bool (makeV vs nm size).2]) ∧
      OwnVR B w' v' rs' (makeV vs nm size).1 ∧ Below w.heap.size w w' ∧ (∀ q, v'.ownBlock = some q → (Value.slice a n c).ownBlock = some q ∨ w.heap.size ≤ q) ∧
      (∀ i, i < (makeV vs nm size).1.length → (∃ j, j < vs.length ∧ rth rs' i = rth rs j) ∨ w.heap.size ≤ blkOf (rth rs' i).val) := by
  have hbx := boxPool w sa sn sc a n c 50
  have HBX := Lib.hid hbx
  have HV := Lib.hid hV
  have HVB := Lib.hid hb
  have HNM := Lib.hid (fun W => l3Name_any nm W hs)
  have HIN := Lib.hid (fun W => l6In_any size 1 6 W)
  have HAT := Lib.hid (fun W (hb2 : Below w.heap.size w W) => l11At_any sa sn sc a n c vs nm W (rdV_below (rdV_of_own hV hn hb) hb2 (Nat.le_refl _)))
  have HM : Hid (makeV vs nm size = if (nameB nm.data.toList && (decide (1 ≤ size) && decide (size ≤ 6)) && decide (atF vs nm < 0)) = true then (addF vs ⟨nm, List.replicate size.toNat 0⟩, true) else (vs, false)) := Lib.hid rfl
  obtain ⟨c0, c1, d0, d1, z0, z1, _, _⟩ := hbx
  clear hV hb
  obtain ⟨w2, hw2⟩ : ∃ w2, w2 = ((w.alloc (.cells #[.slice sa sn sc, .slice a n c] 50)).alloc (.cells #[.slice none 0 0, .slice none 0 0] 50)) := ⟨_, rfl⟩
  have HW2 := Lib.hid hw2
  clear hw2
  obtain ⟨M, hM⟩ : ∃ M, makeV vs nm size = M := ⟨_, rfl⟩
  rw [hM] at HM
  rw [hM]
  clear hM
  cases q1 : nameB nm.data.toList
  · rw [q1] at HNM HM
    have HMN : Hid (M = (vs, false)) := Lib.hid (by rw [HM.out]; simp)
    clear HM
    go_enter Try.func43, Try.ntmps43
    go_wp2_with (go_at_call 22; refine (HNM.out _).mono ?_; rintro e w' ⟨rfl, rfl⟩)
    rw [HMN.out]
    refine bodyPost_ret (v := .tuple #[.agg #[.slice sa sn sc, .slice a n c], .bool false]) (by simp [results, Try.f43, go_sem]) rfl ⟨_, rs, rfl, ?_, ?_, fun q hq => .inl hq, fun i hi => .inl ⟨i, hi, rfl⟩⟩
    · exact HV.out.below (((Below.refl _ _).alloc (Nat.le_refl _) _).alloc (by simp) _) (Nat.le_refl _)
    · exact ((Below.refl _ _).alloc (Nat.le_refl _) _).alloc (by simp) _
  · rw [q1] at HNM HM
    have hqn := Lib.hid q1
    clear q1
    obtain ⟨r, hr⟩ : ∃ r, (decide (1 ≤ size) && decide (size ≤ 6)) = r := ⟨_, rfl⟩
    have HR := Lib.hid hr
    rw [hr] at HIN HM
    clear hr
    cases r
    · have HMN : Hid (M = (vs, false)) := Lib.hid (by rw [HM.out]; simp)
      clear HM
      go_enter Try.func43, Try.ntmps43
      go_wp2_with (first | (go_at_call 22; refine (HNM.out _).mono ?_; rintro e w' ⟨rfl, rfl⟩) | (go_at_call 20; refine (HIN.out _).mono ?_; rintro e w' ⟨rfl, rfl⟩))
      rw [HMN.out]
      refine bodyPost_ret (v := .tuple #[.agg #[.slice sa sn sc, .slice a n c], .bool false]) (by simp [results, Try.f43, go_sem]) rfl ⟨_, rs, rfl, ?_, ?_, fun q hq => .inl hq, fun i hi => .inl ⟨i, hi, rfl⟩⟩
      · exact HV.out.below (((Below.refl _ _).alloc (Nat.le_refl _) _).alloc (by simp) _) (Nat.le_refl _)
      · exact ((Below.refl _ _).alloc (Nat.le_refl _) _).alloc (by simp) _
    · have hsz : 1 ≤ size ∧ size ≤ 6 := by have := HR.out; simpa using this
      obtain ⟨m, rfl⟩ : ∃ m : Nat, size = (m : Int) := ⟨size.toNat, by omega⟩
      obtain ⟨hm1, hm6⟩ := hsz
      have HA2 := Lib.hid (HAT.out _ HBX.out.bel)
      obtain ⟨t, ht⟩ : ∃ t, atF vs nm = t := ⟨_, rfl⟩
      have HT := Lib.hid ht
      rw [ht] at HA2 HM
      clear ht
      by_cases h0 : 0 ≤ t
      · have HMN : Hid (M = (vs, false)) := Lib.hid (by rw [HM.out]; simp; omega)
        have d1 : decide (0 ≤ t) = true := by simpa using h0
        clear HM
        go_enter Try.func43, Try.ntmps43
        go_wp2_with (first | (go_at_call 22; refine (HNM.out _).mono ?_; rintro e w' ⟨rfl, rfl⟩) | (go_at_call 20; refine (HIN.out _).mono ?_; rintro e w' ⟨rfl, rfl⟩))
        refine HA2.out.mono ?_
        rintro e w3 ⟨rfl, hb3⟩
        obtain ⟨c0, c1, d0, d1, z0, z1, big3, bel3⟩ := HBX.out.next hb3
        clear hb3
        go_wp2_with fail
        rw [HMN.out]
        refine bodyPost_ret (v := .tuple #[.agg #[.slice sa sn sc, .slice a n c], .bool false]) (by simp [results, Try.f43, go_sem, d0, d1]) rfl ⟨_, rs, rfl, ?_, ?_, fun q hq => .inl hq, fun i hi => .inl ⟨i, hi, rfl⟩⟩
        · exact HV.out.far2 bel3 _ _ (by simp) (by simp) _ _
        · exact (bel3.setCell (by simp) _).setCell (by simp) _
      · have HMN : Hid (M = (addF vs ⟨nm, List.replicate m 0⟩, true)) := Lib.hid (by
          rw [HM.out]
          have : decide (t < 0) = true := by simp; omega
          rw [this]; simp)
        have d1' : decide (0 ≤ t) = false := by simpa using h0
        clear HM h0
        go_enter Try.func43, Try.ntmps43
        go_wp2_with (first | (go_at_call 22; refine (HNM.out _).mono ?_; rintro e w' ⟨rfl, rfl⟩) | (go_at_call 20; refine (HIN.out _).mono ?_; rintro e w' ⟨rfl, rfl⟩))
        refine HA2.out.mono ?_
        rintro e w3 ⟨rfl, hb3⟩
        have hX3 := HBX.out.next hb3
        obtain ⟨c0, c1, d0, d1, z0, z1, big3, bel3⟩ := hX3
        obtain ⟨w4, hr, hlt4, hs4, hg4⟩ := make_ints w3.drew m (by omega)
        have hr2 : Sem.run Try.prog (Instr.makeSlice 23 (.int .i64 (m : Int)) (.int .i64 (m : Int))) w3.drew = .ok (.slice (some ⟨w3.heap.size, 0, none⟩) m m) w4 := hr
        have hb4 : Below w3.heap.size w3 w4 := Below.drew (a := w3) (Below.refl _ _) |>.grown hg4 (Nat.le_refl _) (fun k e => by cases e)
        have hX4 := (HBX.out.next hb3).next hb4
        obtain ⟨e0, e1, f0, f1, y0, y1, big4, bel4⟩ := hX4
        have HY : Hid (RowOk B w4 (.slice a n c) ⟨nm, .slice (some ⟨w3.heap.size, 0, none⟩) m m⟩ ⟨nm, List.replicate m 0⟩) := Lib.hid ⟨rfl, w3.heap.size, m, by simp, by omega, hlt4, by simp, by simp; omega, hs4, fun e => by have := (arr_at HV.out.arr _ e).2; omega⟩
        have HAD := Lib.hid (l11Add_any sa sn sc a n c B w3.heap.size m m rs vs nm (List.replicate m 0) w4 (HV.out.below bel4 (Nat.le_refl _)) (own_len HV.out) hn HY.out (fun i hi => by have := (HV.out.blk_lt i (by have := own_len HV.out; omega)).2; omega) hqn.out (fun i hi => ((volB_iff _).1 (HVB.out _ (vth_mem (k := i) (by have := own_len HV.out; omega)))).2.1) (by omega))
        have HX4 := Lib.hid ((HBX.out.next hb3).next hb4)
        clear hb3 hr hlt4 hs4 hg4 hb4
        go_wp2_with fail
        go_region_with (go_at_call 52; refine HAD.out.mono ?_; rintro e w5 ⟨v5, rs5, rfl, hV5, hl5, hfr5, hb5⟩; have HFR := Lib.hid hfr5; clear hfr5; obtain ⟨x0, x1, x2, x3, x4, x5, big5, bel5⟩ := HX4.out.next hb5; obtain ⟨ta, tn, tc, rfl⟩ := arr_slice hV5.arr; have HV5 := Lib.hid hV5; clear hV5 hb5)
        all_goals (
          go_wp2_with fail
          rw [HMN.out]
          refine bodyPost_ret (v := .tuple #[.agg #[.slice sa sn sc, .slice ta tn tc], .bool true]) (by simp [results, Try.f43, go_sem, x2, x3]) rfl ⟨_, rs5, rfl, ?_, ?_, fun q hq => .inr (by have := hl5 _ hq; omega), fun i hi => ?_⟩
          · have hne : ∀ i, i < (addF vs ⟨nm, List.replicate m 0⟩).length → blkOf (rth rs5 i).val ≠ w.heap.size + 1 := fun i hi => by
              rcases HFR.out i hi with ⟨j, hj, e⟩ | e
              · rw [e]; have := (HV.out.blk_lt j (by have := own_len HV.out; omega)).2; omega
              · rw [e]; show w3.heap.size ≠ _; omega
            exact (HV5.out.setFar _ (fun e => by have := hl5 _ e; simp at this; omega) hne _).setFar _ (fun e => by have := hl5 _ e; simp at this; omega) hne _
          · exact (bel5.setCell (by simp) _).setCell (by simp) _
          · rcases HFR.out i hi with ⟨j, hj, e⟩ | e
            · exact .inl ⟨j, by have := own_len HV.out; omega, e⟩
            · exact .inr (by rw [e]; show w.heap.size ≤ w3.heap.size; omega))

end Go.Proofs.Ytgogokahpmljbaa
