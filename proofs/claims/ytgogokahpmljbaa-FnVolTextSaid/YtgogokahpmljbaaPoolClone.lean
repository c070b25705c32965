/- The model's l11Clone: a disk is cloned. -/
import Derived.Test.YtgogokahpmljbaaPoolMake
import Derived.StillTailTactics
namespace Go.Proofs.Ytgogokahpmljbaa
open Go.RowKit
set_option linter.unusedVariables false
set_option maxRecDepth 100000

/-- append([]int{}, bs..). -/
theorem wpList_copy_ints {ops : Array Oper} {rest : List Oper} {o : Oper} {a : Act} {Q : Exit → Act → World → Prop} (W : World) (hgd : o.guard = none) (s x : Operand) (ho : o.op = .call { callee := .builtin .append, args := #[s, x], argTypes := #[23, 23] })
    (hs : a.eval s = .slice (some ⟨W.heap.size, 0, none⟩) 0 0) (g off n c : Nat) (hx : a.eval x = .slice (some ⟨g, off, none⟩) n c) (bs : List Int) (hsl : IntsAt W g off bs) (hn : bs.length = n) (h0 : 0 < n) (hn1 : n ≤ 2000000)
    (h : ∀ g' cap' w1, OwnBlk W.heap.size w1 (.slice (some ⟨g', 0, none⟩) n cap') bs → Below W.heap.size W w1 → wpList Try.prog ops Q rest (a.put o.dst (.slice (some ⟨g', 0, none⟩) n cap')) w1) :
    wpList Try.prog ops Q (o :: rest) a (W.alloc (.cells #[] 3)) := by
  have hlt := ints_lt hsl (by omega)
  obtain ⟨i0, hi, hz0, hz1, hz2⟩ := info_parts Try.infoI
  have hb1 : Below W.heap.size W (W.alloc (.cells #[] 3)) := (Below.refl _ _).alloc (Nat.le_refl _) _
  have hown : (W.alloc (.cells #[] 3)).ownsRow W.heap.size 3 1 (.slice (some ⟨W.heap.size, 0, none⟩) 0 0) 0 [] :=
    World.ownsRow_made W #[] 0 (Nat.le_refl _) (by unfold maxLen; omega) rfl
  refine wpList_append_own (P := Try.prog) (W.alloc (.cells #[] 3)) hgd s x 23 ho W.heap.size 3 i0 (.int .i64 0) 1 8 Try.underlying23 hi hz0 hz1 hz2 rfl (by decide) _ _ _ hs hown ⟨g, off, none⟩ n c (cellI bs) hx (by rw [cellI_len, hn]; omega) (intsAt_cells (intsAt_below hsl hb1 hlt)) (cellI_one bs) (by unfold maxLen; omega) (by omega) (by simp) ?_
  intro v' w1 hown' hgrow _
  simp only [Nat.zero_add, List.nil_append] at hown'
  obtain ⟨g', cap', hv, hb, hl', hc', hs'⟩ := ints_of_own hown' h0 hn
  rw [hv]
  exact h g' cap' w1 ⟨g', cap', by rw [hn], hb, hl', by rw [hn]; exact hc', by rw [hn]; exact h0, hs'⟩ (hb1.grown hgrow (by simp) (fun k e => by cases e; exact Nat.le_refl _))

theorem grown_below {w W : World} {r : Option Nat} (h : Below w.heap.size w W) : w.grownBy W r := ⟨h.os, h.tape, h.output, h.size, fun k hk _ => h.block k hk⟩

theorem grown_set {w W : World} {r : Option Nat} (h : w.grownBy W r) (p : Addr) (hp : w.heap.size ≤ p.block) (v : Value) : w.grownBy (W.setCell p v) r :=
  ⟨h.os, h.tape, h.output, by simpa [World.setCell] using h.size, fun k hk hn => (Below.heap_setCell W p v k (fun e => by have e2 : k = p.block := e; omega)).trans (h.block k hk hn)⟩

theorem grown_low {w W : World} {B gs : Nat} (h : w.grownBy W (some gs)) (hB : B ≤ w.heap.size) (hg : B ≤ gs) : Below B w W := (Below.refl B w).grown h hB (fun k e => by cases e; exact hg)

theorem OwnVR.keptFar {B : Nat} {w w' : World} {v : Value} {rs : List Rw} {vs : List Vo} (h : OwnVR B w v rs vs) {gs : Nat} (hg : w.grownBy w' (some gs)) (hp : v.ownBlock ≠ some gs) (hr : ∀ i, i < vs.length → blkOf (rth rs i).val ≠ gs) : OwnVR B w' v rs vs := by
  refine ⟨⟨h.arr.1, ?_⟩, h.len, fun i hi => ?_, h.apart⟩
  · rcases h.arr.2 with h2 | ⟨g, cap, cur, hv, h3, h4, h5⟩
    · exact .inl h2
    · refine .inr ⟨g, cap, cur, hv, h3, (hg.block g (Array.getElem?_eq_some_iff.1 h4).1 (fun e => hp ?_)).trans h4, h5⟩
      rw [hv]; exact e
  · obtain ⟨hn, gb, cap, e, h1, h2, h3, h4, h5, h6⟩ := h.row i hi
    have hne : gb ≠ gs := by
      have := hr i hi
      rw [e] at this; exact this
    exact ⟨hn, gb, cap, e, h1, Nat.lt_of_lt_of_le h2 hg.size, h3, h4, intsW_kept h5 hg h2 (fun e2 => hne (by simpa using e2)), h6⟩

/-- A pool of the call's own. -/
structure OwnP (B : Nat) (w : World) (gs cs : Nat) (v : Value) (rs : List Rw) (p : Po) : Prop where
  low : B ≤ gs
  lt : gs < w.heap.size
  cap : 8 ≤ cs
  sl : SlotsW w gs 0 p.slots
  vols : OwnVR B w v rs p.vols
  farV : v.ownBlock ≠ some gs
  farR : ∀ i, i < p.vols.length → blkOf (rth rs i).val ≠ gs

theorem OwnP.below {B C : Nat} {w w' : World} {gs cs : Nat} {v : Value} {rs : List Rw} {p : Po} (h : OwnP B w gs cs v rs p) (hb : Below C w w') (hC : w.heap.size ≤ C) : OwnP B w' gs cs v rs p :=
  ⟨h.low, Nat.lt_of_lt_of_le h.lt hb.size, h.cap, h.sl.below hb (by have := h.lt; omega), h.vols.below hb hC, h.farV, h.farR⟩

theorem OwnP.far {B : Nat} {w : World} {gs cs : Nat} {v : Value} {rs : List Rw} {p : Po} (h : OwnP B w gs cs v rs p) {W : World} (hb : Below w.heap.size w W) (q : Addr) (hq : w.heap.size ≤ q.block) (u : Value) : OwnP B (W.setCell q u) gs cs v rs p := by
  have h2 := h.below hb (Nat.le_refl _)
  exact ⟨h.low, by simpa [World.setCell] using h2.lt, h.cap, h2.sl.kept (grownBy_setCell W q u) h2.lt (fun e => by have e2 : gs = q.block := (by simpa using e); have := h.lt; omega), h.vols.far hb q hq u, h.farV, h.farR⟩

theorem OwnP.far2 {B : Nat} {w : World} {gs cs : Nat} {v : Value} {rs : List Rw} {p : Po} (h : OwnP B w gs cs v rs p) {W : World} (hb : Below w.heap.size w W) (q r : Addr) (hq : w.heap.size ≤ q.block) (hr : w.heap.size ≤ r.block) (u v2 : Value) : OwnP B ((W.setCell q u).setCell r v2) gs cs v rs p :=
  h.far (W := W.setCell q u) (hb.setCell hq u) r hr v2

theorem inc_take (xs : List Sl) (bs : List Int) (k : Nat) (hk : k < bs.length) : incAll xs (bs.take (k + 1)) = incOne (incAll xs (bs.take k)) (bth bs k) := by
  rw [take_blk _ _ hk]; unfold incAll; rw [List.foldl_append]; rfl

theorem inc_len (xs : List Sl) (bs : List Int) : (incAll xs bs).length = xs.length := by
  induction bs generalizing xs with
  | nil => rfl
  | cons b r ih =>
    show (incAll (incOne xs b) r).length = _
    rw [ih]; unfold incOne; split <;> simp

theorem inc_uses {p : Po} (h : PoolR p) {k : Nat} (hk : k < p.vols.length) (m i : Nat) (hi : i < 8) : 0 ≤ (nth (incAll p.slots ((vth p.vols k).blocks.take m)) i).uses ∧ (nth (incAll p.slots ((vth p.vols k).blocks.take m)) i).uses ≤ 1000 := by
  have hv := h.vol hk
  have hs := h.small i hi
  obtain ⟨_, h2⟩ := incAll_ok ((vth p.vols k).blocks.take m) p.slots h.store (fun b hb => hv.1 b (List.mem_of_mem_take hb)) (fun b hb h0 => (h.used hk b (List.mem_of_mem_take hb) h0).2) (fun j hj => by
    have := h.small j hj
    have : ((vth p.vols k).blocks.take m).length ≤ 6 := by rw [List.length_take]; omega
    omega)
  rw [h2 i hi]
  have := List.count_le_length (a := (i : Int) + 1) (l := (vth p.vols k).blocks.take m)
  have : ((vth p.vols k).blocks.take m).length ≤ 6 := by rw [List.length_take]; omega
  omega

set_option maxHeartbeats 3200000 in
theorem l11Clone_any (gs cs : Nat) (a : Option Addr) (n c B : Nat) (rs : List Rw) (p : Po) (fr tn : ByteArray) (w : World) (hO : OwnP B w gs cs (.slice a n c) rs p) (hP : PoolR p) (hs : tn.size ≤ maxLen) (hB : B ≤ w.heap.size) :
    Calls Try.prog 45 #[.agg #[.slice (some ⟨gs, 0, none⟩) 8 cs, .slice a n c], .string fr, .string tn] w fun e w' => ∃ v' rs', e = .returned (.tuple #[.agg #[.slice (some ⟨gs, 0, none⟩) 8 cs, v'], .bool (cloneF p fr tn).2]) ∧
      OwnP B w' gs cs v' rs' (cloneF p fr tn).1 ∧ w.grownBy w' (some gs) := by
  have hl := own_len hO.vols
  have h4 := hP.len4
  have hbx := boxPool w (some ⟨gs, 0, none⟩) 8 cs a n c 50
  have HBX := Lib.hid hbx
  have HO := Lib.hid hO
  have HP := Lib.hid hP
  have HL := Lib.hid hl
  have HNM := Lib.hid (fun W => l3Name_any tn W hs)
  have HAF := Lib.hid (fun W (hb2 : Below w.heap.size w W) => l11At_any (some ⟨gs, 0, none⟩) 8 cs a n c p.vols fr W (rdV_below (rdV_of_own hO.vols (by omega) hP.vols) hb2 (Nat.le_refl _)))
  have HAT := Lib.hid (fun W (hb2 : Below w.heap.size w W) => l11At_any (some ⟨gs, 0, none⟩) 8 cs a n c p.vols tn W (rdV_below (rdV_of_own hO.vols (by omega) hP.vols) hb2 (Nat.le_refl _)))
  have HM : Hid (cloneF p fr tn = if (decide (0 ≤ atF p.vols fr) && nameB tn.data.toList && decide (atF p.vols tn < 0)) = true then
    (⟨incAll p.slots (vth p.vols (atF p.vols fr).toNat).blocks, addF p.vols ⟨tn, (vth p.vols (atF p.vols fr).toNat).blocks⟩⟩, true) else (p, false)) := Lib.hid rfl
  have HC := Lib.hid (atF_cases p.vols fr)
  obtain ⟨c0, c1, d0, d1, z0, z1, _, _⟩ := hbx
  clear hO hP hl
  obtain ⟨M, hM⟩ : ∃ M, cloneF p fr tn = M := ⟨_, rfl⟩
  rw [hM] at HM
  rw [hM]
  clear hM
  obtain ⟨t, ht⟩ : ∃ t, atF p.vols fr = t := ⟨_, rfl⟩
  rw [ht] at HAF HM HC
  clear ht
  have HAF2 := Lib.hid (HAF.out _ HBX.out.bel)
  by_cases h0 : t < 0
  · have HMN : Hid (M = (p, false)) := Lib.hid (by
      rw [HM.out]
      have : decide (0 ≤ t) = false := by simp; omega
      rw [this]; simp)
    clear HM
    go_enter Try.func45, Try.ntmps45
    go_wp2_with fail
    refine HAF2.out.mono ?_
    rintro e w3 ⟨rfl, hb3⟩
    obtain ⟨c0, c1, d0, d1, z0, z1, big3, bel3⟩ := HBX.out.next hb3
    clear hb3
    go_wp2_with fail
    rw [HMN.out]
    refine bodyPost_ret (v := .tuple #[.agg #[.slice (some ⟨gs, 0, none⟩) 8 cs, .slice a n c], .bool false]) (by simp [results, Try.f45, go_sem, d0, d1]) rfl ⟨_, rs, rfl, ?_, ?_⟩
    · exact HO.out.far2 bel3 _ _ (by simp) (by simp) _ _
    · exact grown_below ((bel3.setCell (by simp) _).setCell (by simp) _)
  · obtain ⟨k, hk, rfl, hkn⟩ : ∃ k : Nat, k < p.vols.length ∧ t = (k : Int) ∧ (vth p.vols k).name = fr := by
      rcases HC.out with ⟨k, h1, h2, h3⟩ | ⟨h2, _⟩
      · exact ⟨k, h1, h2, h3⟩
      · omega
    clear hkn h0
    have dk : decide ((k : Int) < 0) = false := by simp
    rw [Int.toNat_natCast] at HM
    cases q1 : nameB tn.data.toList
    · have HMN : Hid (M = (p, false)) := Lib.hid (by rw [HM.out, q1]; simp)
      rw [q1] at HNM
      clear HM q1
      go_enter Try.func45, Try.ntmps45
      go_wp2_with fail
      refine HAF2.out.mono ?_
      rintro e w3 ⟨rfl, hb3⟩
      obtain ⟨c0, c1, d0, d1, z0, z1, big3, bel3⟩ := HBX.out.next hb3
      clear hb3
      go_wp2_with (go_at_call 22; refine (HNM.out _).mono ?_; rintro e w' ⟨rfl, rfl⟩)
      rw [HMN.out]
      refine bodyPost_ret (v := .tuple #[.agg #[.slice (some ⟨gs, 0, none⟩) 8 cs, .slice a n c], .bool false]) (by simp [results, Try.f45, go_sem, d0, d1]) rfl ⟨_, rs, rfl, ?_, ?_⟩
      · exact HO.out.far2 bel3 _ _ (by simp) (by simp) _ _
      · exact grown_below ((bel3.setCell (by simp) _).setCell (by simp) _)
    · have HQN := Lib.hid q1
      rw [q1] at HNM HM
      clear q1
      obtain ⟨t2, ht2⟩ : ∃ t2, atF p.vols tn = t2 := ⟨_, rfl⟩
      have HT2 := Lib.hid ht2
      rw [ht2] at HAT HM
      clear ht2
      by_cases h2 : 0 ≤ t2
      · have HMN : Hid (M = (p, false)) := Lib.hid (by
          rw [HM.out]
          have : decide (t2 < 0) = false := by simp; omega
          rw [this]; simp)
        have dt : decide (0 ≤ t2) = true := by simpa using h2
        clear HM
        go_enter Try.func45, Try.ntmps45
        go_wp2_with fail
        refine HAF2.out.mono ?_
        rintro e w3 ⟨rfl, hb3⟩
        have hX3 := HBX.out.next hb3
        have HX3 := Lib.hid hX3
        obtain ⟨c0, c1, d0, d1, z0, z1, big3, bel3⟩ := hX3
        have HA3 := Lib.hid (HAT.out _ bel3)
        clear hb3 bel3
        go_wp2_with (go_at_call 22; refine (HNM.out _).mono ?_; rintro e w' ⟨rfl, rfl⟩)
        refine HA3.out.mono ?_
        rintro e w4 ⟨rfl, hb4⟩
        obtain ⟨c0, c1, d0, d1, z0, z1, big4, bel4⟩ := HX3.out.next hb4
        clear hb4
        go_wp2_with fail
        rw [HMN.out]
        refine bodyPost_ret (v := .tuple #[.agg #[.slice (some ⟨gs, 0, none⟩) 8 cs, .slice a n c], .bool false]) (by simp [results, Try.f45, go_sem, d0, d1]) rfl ⟨_, rs, rfl, ?_, ?_⟩
        · exact HO.out.far2 bel4 _ _ (by simp) (by simp) _ _
        · exact grown_below ((bel4.setCell (by simp) _).setCell (by simp) _)
      · have HMN : Hid (M = (⟨incAll p.slots (vth p.vols k).blocks, addF p.vols ⟨tn, (vth p.vols k).blocks⟩⟩, true)) := Lib.hid (by
          rw [HM.out]
          have e1 : decide (t2 < 0) = true := by simp; omega
          have e2 : decide (0 ≤ (k : Int)) = true := by simp
          rw [e1, e2]; rfl)
        have dt : decide (0 ≤ t2) = false := by simpa using h2
        have hv := HP.out.vol hk
        have HV1 := Lib.hid hv.1
        have hlen1 := hv.2.2.1
        have hlen6 := hv.2.2.2
        have HIU := Lib.hid (inc_uses HP.out hk)
        have HIT := Lib.hid (inc_take p.slots (vth p.vols k).blocks)
        have HIL := Lib.hid (fun m => (inc_len p.slots ((vth p.vols k).blocks.take m)).trans (storeB_len HP.out.store))
        obtain ⟨g, cap, hav, hgB, hgl, hcap, hrows, _⟩ := HO.out.vols.rows (by omega)
        injection hav with ea en ec
        subst ea ec
        clear en
        obtain ⟨_, gb, cb, hrv, hgb1, hgb2, hgb3, hgb4, hgb5, _⟩ := HO.out.vols.row k hk
        have HIW := Lib.hid hgb5
        have HRW := Lib.hid (fun W (hb : Below w.heap.size w W) => (rowsAt_below hrows hb hgl k (by rw [HO.out.vols.len]; exact hk)).2)
        rw [hrv] at HRW
        simp only [Nat.zero_add] at HRW
        have hkn : k < n := by rw [← HL.out]; exact hk
        clear hv hrows hrv hgb5 HM
        obtain ⟨bs, hbs⟩ : ∃ bs, (vth p.vols k).blocks = bs := ⟨_, rfl⟩
        rw [hbs] at HMN HV1 hlen1 hlen6 HIU HIT HIL HIW HRW hgb3 hgb4
        clear hbs
        obtain ⟨m, hm⟩ : ∃ m, bs.length = m := ⟨_, rfl⟩
        have HM := Lib.hid hm
        rw [hm] at hlen1 hlen6 HRW hgb3 hgb4 HIT
        clear hm
        go_enter Try.func45, Try.ntmps45
        go_wp2_with fail
        refine HAF2.out.mono ?_
        rintro e w3 ⟨rfl, hb3⟩
        have hX3 := HBX.out.next hb3
        have HX3 := Lib.hid hX3
        obtain ⟨c0, c1, d0, d1, z0, z1, big3, bel3⟩ := hX3
        have HA3 := Lib.hid (HAT.out _ bel3)
        clear hb3 bel3
        go_wp2_with (go_at_call 22; refine (HNM.out _).mono ?_; rintro e w' ⟨rfl, rfl⟩)
        refine HA3.out.mono ?_
        rintro e w4 ⟨rfl, hb4⟩
        have hX4 := HX3.out.next hb4
        have HX4 := Lib.hid hX4
        clear c0 c1 d0 d1 z0 z1
        obtain ⟨c0, c1, d0, d1, z0, z1, big4, bel4⟩ := hX4
        have hrv := HRW.out w4 bel4
        have HI4 := Lib.hid (intsAt_below HIW.out.1 bel4 hgb2)
        have HB4 := Lib.hid bel4
        have l40 : w.heap.size < w4.heap.size := by omega
        have l41 : g < w4.heap.size := by omega
        have l42 : gb < w4.heap.size := by omega
        clear hb4 bel4
        go_upto_region 5 with (at_builtin; refine wpList_copy_ints w4 rfl _ _ rfl rfl gb 0 m cb rfl bs HI4.out HM.out (by omega) (by omega) ?_; intro gu cu w5 hu5 hb5; have HU5 := Lib.hid hu5; have HB5 := Lib.hid hb5; have hs5 := hb5.size; clear hu5 hb5)
        have hb56 : Below w5.heap.size w5 (w5.alloc (.cells #[.string tn, .slice (some ⟨gu, 0, none⟩) m cu] 25)) := (Below.refl _ _).alloc (Nat.le_refl _) _
        have n6 := new_cells w5 #[.string tn, .slice (some ⟨gu, 0, none⟩) m cu] 25
        have hX6 := (HX4.out.next HB5.out).next hb56
        have hU6 := ownBlk_below HU5.out hb56 (Nat.le_refl _)
        have hO6 := HO.out.below hX6.bel (Nat.le_refl _)
        obtain ⟨w6, hw6⟩ : ∃ w6, w6 = w5.alloc (.cells #[.string tn, .slice (some ⟨gu, 0, none⟩) m cu] 25) := ⟨_, rfl⟩
        have hs6 : w5.heap.size < w6.heap.size := by rw [hw6]; simp
        rw [← hw6] at n6 hX6 hU6 hO6
        rw [← hw6]
        obtain ⟨gu', cu', hve, hgu1, hgu2, _, _, hIW6⟩ := hU6
        obtain ⟨rfl, rfl⟩ : gu' = gu ∧ cu' = cu := by
          injection hve with h1 _ h3
          injection h1 with h1
          injection h1 with h1
          exact ⟨h1.symm, h3.symm⟩
        have hsl6 := hO6.sl
        have hgs6 := HO.out.lt
        have HFA : Hid (∀ W, w6.grownBy W (some gs) → (W.cell? ⟨w.heap.size, 0, none⟩ = some (.slice (some ⟨gs, 0, none⟩) 8 cs) ∧ W.cell? ⟨w.heap.size, 1, none⟩ = some (.slice (some ⟨g, 0, none⟩) n c) ∧
            W.cell? ⟨w.heap.size + 1, 0, none⟩ = some (.slice none 0 0) ∧ W.cell? ⟨w.heap.size + 1, 1, none⟩ = some (.slice none 0 0) ∧ W.frozen? ⟨w.heap.size + 1, 0, none⟩ = false ∧ W.frozen? ⟨w.heap.size + 1, 1, none⟩ = false ∧
            W.cell? ⟨w5.heap.size, 0, none⟩ = some (.string tn) ∧ W.cell? ⟨w5.heap.size, 1, none⟩ = some (.slice (some ⟨gu', 0, none⟩) m cu'))) := Lib.hid (fun W hg => by
          have f : ∀ b i, b < w6.heap.size → b ≠ gs → W.cell? ⟨b, i, none⟩ = w6.cell? ⟨b, i, none⟩ ∧ W.frozen? ⟨b, i, none⟩ = w6.frozen? ⟨b, i, none⟩ := fun b i h1 h2 =>
            ⟨World.cell?_of_block (w := w6) (a := ⟨b, i, none⟩) (hg.block b h1 (fun e => h2 (by injection e))), World.frozen?_of_block (w := w6) (a := ⟨b, i, none⟩) (hg.block b h1 (fun e => h2 (by injection e)))⟩
          have big := hX6.big
          exact ⟨(f _ 0 (by omega) (by omega)).1.trans hX6.c0, (f _ 1 (by omega) (by omega)).1.trans hX6.c1, (f _ 0 (by omega) (by omega)).1.trans hX6.d0, (f _ 1 (by omega) (by omega)).1.trans hX6.d1, (f _ 0 (by omega) (by omega)).2.trans hX6.z0, (f _ 1 (by omega) (by omega)).2.trans hX6.z1,
            (f _ 0 (by omega) (by omega)).1.trans (n6.1 0), (f _ 1 (by omega) (by omega)).1.trans (n6.1 1)⟩)
        have HIW : Hid (∀ W, w6.grownBy W (some gs) → IntsW W gu' bs) := Lib.hid (fun W hg => intsW_kept hIW6 hg hgu2 (fun e => by have e2 : gu' = gs := (by simpa using e); omega))
        have HX6 := Lib.hid hX6
        have HO6 := Lib.hid hO6
        have HSL := Lib.hid hsl6
        have big6 := hX6.big
        clear n6 hX6 hO6 hsl6 hIW6 hw6 hb56 c0 c1 d0 d1 z0 z1 hrv hve
        go_wp2_with fail
        go_loopw [10] (fun i wr => ∃ q : Nat, q ≤ m ∧ i = .int .i64 (q : Int) ∧ SlotsW wr gs 0 (incAll p.slots (bs.take q)) ∧ w6.grownBy wr (some gs)) (fun i _ => m - (intOf i).toNat)
        case atStart => exact ⟨0, by omega, rfl, HSL.out, grownBy_refl _ _⟩
        case round =>
          obtain ⟨q, hq, rfl, hsl, hg⟩ := hrel
          have HS := Lib.hid hsl
          have HG := Lib.hid hg
          obtain ⟨c0, c1, d0, d1, z0, z1, b0, b1⟩ := HFA.out wr hg
          clear hsl hg
          by_cases hqm : q < m
          · have hbq := (HIW.out wr HG.out).1 q (by rw [HM.out]; exact hqm)
            rw [Nat.zero_add] at hbq
            have hmem : bth bs q ∈ bs := by rw [bth_get _ _ (by rw [HM.out]; exact hqm)]; exact List.getElem_mem _
            obtain ⟨hb0, hb8⟩ := HV1.out _ hmem
            have HT := Lib.hid (HIT.out q hqm)
            have HU := Lib.hid (HIU.out q)
            have HLL := Lib.hid (HIL.out q)
            obtain ⟨X, hX⟩ : ∃ X, incAll p.slots (bs.take q) = X := ⟨_, rfl⟩
            rw [hX] at HT HU HLL HS
            obtain ⟨b, hb⟩ : ∃ b, bth bs q = b := ⟨_, rfl⟩
            rw [hb] at hbq hb0 hb8 HT
            clear hmem hX hb
            by_cases hz : 0 < b
            · obtain ⟨j, rfl⟩ : ∃ j : Nat, b = (j : Int) + 1 := ⟨(b - 1).toNat, by omega⟩
              have hj : j < 8 := by omega
              have HE : Hid (incAll p.slots (bs.take (q + 1)) = X.set j ⟨(nth X j).text, (nth X j).uses + 1⟩) := Lib.hid (by
                rw [HT.out]; unfold incOne; rw [if_pos hz, show ((j : Int) + 1 - 1).toNat = j from by omega])
              obtain ⟨hu0, hu1⟩ := HU.out j hj
              have h7 := HS.out.drawn drawn_drew
              obtain ⟨_, hsu⟩ := HS.out.1.at0 j (by rw [HLL.out]; exact hj)
              obtain ⟨_, hsu7⟩ := h7.1.at0 j (by rw [HLL.out]; exact hj)
              have hsf7 := h7.2 (j * 2 + 1)
              have H2 := h7.uses j (by rw [HLL.out]; exact hj) ((nth X j).uses + 1)
              rw [Nat.zero_add, ← HE.out] at H2
              have H2 := Lib.hid H2
              have hg7 := grownBy_trans HG.out ((drawn_drew (w := wr)).grown (some gs))
              have HG7 := Lib.hid hg7
              obtain ⟨u, hu⟩ : ∃ u, (nth X j).uses = u := ⟨_, rfl⟩
              rw [hu] at hu0 hu1 hsu hsu7 H2
              clear hu h7 hg7 HT
              have q1 : IntKind.i64.wrap ((j : Int) + 1 - 1) = (j : Int) := by rw [IntWalk.i64_in _ (by omega)]; omega
              have q3 : IntKind.i64.wrap (j : Int) = (j : Int) := IntWalk.i64_in _ (by omega)
              have q4 : (0 : Int) ≤ (j : Int) := by omega
              have q5 : (j : Int) < 8 := by omega
              have q6 : ¬ (j : Int) < 0 := by omega
              have q7 : ¬ (8 : Int) ≤ (j : Int) := by omega
              have q2 : IntKind.i64.wrap (u + 1) = u + 1 := IntWalk.i64_in _ (by omega)
              go_wp2_with fail
              go_still_tail 22, (by kernel_rfl)
              change wpList _ _ _ _ _ wr.drew
              generalize wr.drew = w7 at *
              go_wp2_with fail
              go_roundw
              case rel => exact ⟨q + 1, by omega, by go_num, H2.out, grownBy_trans HG7.out (grownBy_setCell w7 ⟨gs, j * 2 + 1, none⟩ _)⟩
              case measure => simp [intOf]; omega
            · have HE : Hid (incAll p.slots (bs.take (q + 1)) = X) := Lib.hid (by rw [HT.out]; unfold incOne; rw [if_neg hz])
              go_wp2_with fail
              go_roundw
              case rel => exact ⟨q + 1, by omega, by go_num, by rw [HE.out]; exact HS.out, HG.out⟩
              case measure => simp [intOf]; omega
          · obtain rfl : q = m := by omega
            have HTK : Hid (bs.take q = bs) := Lib.hid (List.take_of_length_le (by rw [HM.out]; omega))
            have hVr := HO6.out.vols.keptFar HG.out HO6.out.farV HO6.out.farR
            have hsr := HG.out.size
            have hgo : (Value.slice (some (⟨g, 0, none⟩ : Addr)) n c).ownBlock = some g := rfl
            have hY : RowOk B wr (.slice (some ⟨g, 0, none⟩) n c) ⟨tn, .slice (some ⟨gu', 0, none⟩) q cu'⟩ ⟨tn, bs⟩ := by
              obtain ⟨gu2, cu2, he2, h1, h2, h3, h4, _⟩ := HU5.out
              injection he2 with e1 _ e3
              injection e1 with e1
              injection e1 with e1
              subst e1 e3
              exact ⟨rfl, gu', cu', by rw [HM.out], by omega, by omega, h3, h4, HIW.out wr HG.out, fun e => by rw [hgo] at e; injection e with e; omega⟩
            have HAD := Lib.hid (l11Add_any (some ⟨gs, 0, none⟩) 8 cs (some ⟨g, 0, none⟩) n c B gu' q cu' rs p.vols tn bs wr hVr HL.out (by have := HL.out; omega) hY (fun i hi => by have := (HO.out.vols.blk_lt i (by rw [HL.out]; exact hi)).2; omega) HQN.out (fun i hi => (HP.out.vol (k := i) (by rw [HL.out]; exact hi)).2.1) (by omega))
            clear hVr hY hgo
            go_wp2_with fail
            refine HAD.out.mono ?_
            rintro e w9 ⟨v9, rs9, rfl, hV9, hl9, hfr9, hb9⟩
            have hs9 := hb9.size
            have hd0 := (hb9.cell (p := ⟨w.heap.size + 1, 0, none⟩) (by show w.heap.size + 1 < _; omega)).trans d0
            have hd1 := (hb9.cell (p := ⟨w.heap.size + 1, 1, none⟩) (by show w.heap.size + 1 < _; omega)).trans d1
            have hz0 := (hb9.frozen (p := ⟨w.heap.size + 1, 0, none⟩) (by show w.heap.size + 1 < _; omega)).trans z0
            have hz1 := (hb9.frozen (p := ⟨w.heap.size + 1, 1, none⟩) (by show w.heap.size + 1 < _; omega)).trans z1
            obtain ⟨ta, tn9, tc, rfl⟩ := arr_slice hV9.arr
            have HV9 := Lib.hid hV9
            have HFR := Lib.hid hfr9
            have HS9 := Lib.hid (HS.out.below hb9 (by omega))
            have HB9 : Hid (w.grownBy w9 (some gs)) := Lib.hid (grownBy_trans (grownBy_trans (grown_below HX6.out.bel) HG.out) (grown_below hb9))
            clear hV9 hfr9 hb9
            go_wp2_with fail
            rw [HMN.out]
            refine bodyPost_ret (v := .tuple #[.agg #[.slice (some ⟨gs, 0, none⟩) 8 cs, .slice ta tn9 tc], .bool true]) (by simp [results, Try.f45, go_sem, hd0, hd1]) rfl ⟨_, rs9, rfl, ⟨HO.out.low, by simp [World.setCell]; omega, HO.out.cap, ?_, ?_, ?_, ?_⟩, ?_⟩
            · have h1 := HS9.out
              rw [HTK.out] at h1
              exact h1.kept (grownBy_trans (grownBy_setCell _ ⟨w.heap.size + 1, 0, none⟩ _) (grownBy_setCell _ ⟨w.heap.size + 1, 1, none⟩ _)) (by omega) (fun e => by have e2 : gs = w.heap.size + 1 := (by simpa using e); omega)
            · have hne : ∀ i, i < (addF p.vols ⟨tn, bs⟩).length → blkOf (rth rs9 i).val ≠ w.heap.size + 1 := fun i hi => by
                rcases HFR.out i hi with ⟨j, hj, e⟩ | e
                · rw [e]; have := (HO.out.vols.blk_lt j (by rw [HL.out]; exact hj)).2; omega
                · rw [e]; show gu' ≠ _; omega
              exact (HV9.out.setFar _ (fun e => by have := hl9 _ e; simp at this; omega) hne _).setFar _ (fun e => by have := hl9 _ e; simp at this; omega) hne _
            · exact fun e => by have := hl9 _ e; omega
            · intro i hi
              rcases HFR.out i hi with ⟨j, hj, e⟩ | e
              · rw [e]; exact HO.out.farR j (by rw [HL.out]; exact hj)
              · rw [e]; show gu' ≠ _; omega
            · exact grown_set (grown_set HB9.out _ (by simp) _) _ (by simp) _

end Go.Proofs.Ytgogokahpmljbaa
