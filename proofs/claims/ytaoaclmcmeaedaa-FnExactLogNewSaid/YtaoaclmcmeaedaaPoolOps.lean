/- Plain mathematics on pools: what a write, a clone, a deletion leave is a pool. -/
import Derived.Test.YtaoaclmcmeaedaaPool
namespace Go.Proofs.Ytaoaclmcmeaedaa
open Go.RowKit
set_option linter.unusedVariables false

/-- Every place of a list of blocks gets one use more. -/
def incOne (xs : List Sl) (b : Int) : List Sl := if 0 < b then xs.set (b - 1).toNat ⟨(nth xs (b - 1).toNat).text, (nth xs (b - 1).toNat).uses + 1⟩ else xs

def decOne (xs : List Sl) (b : Int) : List Sl := if 0 < b then dropS xs (b - 1).toNat else xs

def incAll (xs : List Sl) (bs : List Int) : List Sl := bs.foldl incOne xs

def decAll (xs : List Sl) (bs : List Int) : List Sl := bs.foldl decOne xs

theorem incAll_ok : ∀ (bs : List Int) (xs : List Sl), storeB xs = true → (∀ b ∈ bs, 0 ≤ b ∧ b ≤ 8) → (∀ b ∈ bs, 0 < b → 0 < (nth xs (b - 1).toNat).uses) → (∀ i, i < 8 → (nth xs i).uses + bs.length ≤ 99) →
    storeB (incAll xs bs) = true ∧ ∀ i, i < 8 → (nth (incAll xs bs) i).uses = (nth xs i).uses + (bs.count ((i : Int) + 1) : Nat)
  | [], xs, hs, _, _, _ => ⟨hs, fun i _ => by simp [incAll]⟩
  | b :: r, xs, hs, hb, hu, hm => by
    have hl := storeB_len hs
    have hb0 := hb b (by simp)
    show storeB (incAll (incOne xs b) r) = true ∧ _
    by_cases h0 : 0 < b
    · have hj : (b - 1).toNat < 8 := by omega
      have hu0 := hu b (by simp) h0
      have hm0 := hm _ hj
      simp only [List.length_cons] at hm0
      have h1 := inc_ok hs (b - 1).toNat hj hu0 (by omega)
      have hnu : ∀ i, (nth (incOne xs b) i).uses = (nth xs i).uses + (if (b - 1).toNat = i then 1 else 0) := fun i => by
        unfold incOne
        rw [if_pos h0, nth_set _ _ _ _ (by omega)]
        by_cases e : (b - 1).toNat = i
        · subst e; rw [if_pos rfl, if_pos rfl]
        · rw [if_neg e, if_neg e]; omega
      have hst : storeB (incOne xs b) = true := by unfold incOne; rw [if_pos h0]; exact h1
      obtain ⟨h2, h3⟩ := incAll_ok r (incOne xs b) hst (fun c hc => hb c (by simp [hc])) (fun c hc hc0 => by
          have := hu c (by simp [hc]) hc0
          rw [hnu]; split <;> omega)
        (fun i hi => by
          have := hm i hi
          simp only [List.length_cons] at this
          rw [hnu]; split <;> omega)
      refine ⟨h2, fun i hi => ?_⟩
      show (nth (incAll (incOne xs b) r) i).uses = _
      rw [h3 i hi, hnu, List.count_cons]
      by_cases e : (b - 1).toNat = i
      · have e2 : (b == (i : Int) + 1) = true := by simp; omega
        rw [e2, if_pos e]; simp; omega
      · have e2 : (b == (i : Int) + 1) = false := by simp; omega
        rw [e2, if_neg e]; simp
    · obtain ⟨h2, h3⟩ := incAll_ok r xs hs (fun c hc => hb c (by simp [hc])) (fun c hc => hu c (by simp [hc])) (fun i hi => by have := hm i hi; simp only [List.length_cons] at this; omega)
      have e1 : incOne xs b = xs := by unfold incOne; rw [if_neg h0]
      rw [e1]
      refine ⟨h2, fun i hi => ?_⟩
      show (nth (incAll (incOne xs b) r) i).uses = _
      rw [e1, h3 i hi, List.count_cons]
      have e2 : (b == (i : Int) + 1) = false := by simp; omega
      rw [e2]; simp

theorem decAll_ok : ∀ (bs : List Int) (xs : List Sl), storeB xs = true → (∀ b ∈ bs, 0 ≤ b ∧ b ≤ 8) → (∀ i : Nat, i < 8 → ((bs.count ((i : Int) + 1) : Nat) : Int) ≤ (nth xs i).uses) →
    storeB (decAll xs bs) = true ∧ ∀ i : Nat, i < 8 → (nth (decAll xs bs) i).uses = (nth xs i).uses - (bs.count ((i : Int) + 1) : Nat)
  | [], xs, hs, _, _ => ⟨hs, fun i _ => by simp [decAll]⟩
  | b :: r, xs, hs, hb, hc => by
    have hl := storeB_len hs
    have hb0 := hb b (by simp)
    show storeB (decAll (decOne xs b) r) = true ∧ _
    by_cases h0 : 0 < b
    · have hj : (b - 1).toNat < 8 := by omega
      have hc0 := hc _ hj
      rw [List.count_cons] at hc0
      have eb : (b == (((b - 1).toNat : Nat) : Int) + 1) = true := by simp; omega
      rw [eb] at hc0
      simp only [if_true] at hc0
      have h1 := drop_ok hs (b - 1).toNat hj (by omega)
      have e1 : decOne xs b = dropS xs (b - 1).toNat := by unfold decOne; rw [if_pos h0]
      rw [e1]
      have hnu := fun i => uses_drop xs (b - 1).toNat i (by omega)
      obtain ⟨h2, h3⟩ := decAll_ok r (dropS xs (b - 1).toNat) h1 (fun c hc => hb c (by simp [hc])) (fun i hi => by
          have := hc i hi
          rw [List.count_cons] at this
          rw [hnu]
          by_cases e : (b - 1).toNat = i
          · have e2 : (b == (i : Int) + 1) = true := by simp; omega
            rw [e2] at this; rw [if_pos e]; simp only [if_true] at this; omega
          · have e2 : (b == (i : Int) + 1) = false := by simp; omega
            rw [e2] at this; rw [if_neg e]; simp at this; omega)
      refine ⟨h2, fun i hi => ?_⟩
      show (nth (decAll (decOne xs b) r) i).uses = _
      rw [e1, h3 i hi, hnu, List.count_cons]
      by_cases e : (b - 1).toNat = i
      · have e2 : (b == (i : Int) + 1) = true := by simp; omega
        rw [e2, if_pos e]; simp only [if_true]; omega
      · have e2 : (b == (i : Int) + 1) = false := by simp; omega
        rw [e2, if_neg e]; simp
    · have e1 : decOne xs b = xs := by unfold decOne; rw [if_neg h0]
      have e2 : ∀ i : Nat, (b == (i : Int) + 1) = false := fun i => by simp; omega
      obtain ⟨h2, h3⟩ := decAll_ok r xs hs (fun c hc => hb c (by simp [hc])) (fun i hi => by have := hc i hi; rw [List.count_cons, e2] at this; simpa using this)
      rw [e1]
      refine ⟨h2, fun i hi => ?_⟩
      show (nth (decAll (decOne xs b) r) i).uses = _
      rw [e1, h3 i hi, List.count_cons, e2]; simp

theorem vth_mem {vs : List Vo} {k : Nat} (hk : k < vs.length) : vth vs k ∈ vs := by rw [vth_get _ _ hk]; exact List.getElem_mem hk

theorem PoolR.vol {p : Po} (h : PoolR p) {k : Nat} (hk : k < p.vols.length) : (∀ b ∈ (vth p.vols k).blocks, 0 ≤ b ∧ b ≤ 8) ∧ nameB (vth p.vols k).name.data.toList = true ∧ 1 ≤ (vth p.vols k).blocks.length ∧ (vth p.vols k).blocks.length ≤ 6 :=
  (volB_iff _).1 (h.vols _ (vth_mem hk))

/-- A place that a block names is used. -/
theorem PoolR.used {p : Po} (h : PoolR p) {k : Nat} (hk : k < p.vols.length) (b : Int) (hb : b ∈ (vth p.vols k).blocks) (h0 : 0 < b) : (b - 1).toNat < 8 ∧ 0 < (nth p.slots (b - 1).toNat).uses := by
  have h8 := (h.vol hk).1 b hb
  refine ⟨by omega, ?_⟩
  rw [h.tot _ (by omega), show (((b - 1).toNat : Nat) : Int) + 1 = b from by omega]
  have := totU_at p.vols k b hk
  have : 0 < usesV (vth p.vols k) b := by
    unfold usesV
    have := List.count_pos_iff.2 hb
    omega
  omega

/-- PoolClone. -/
def cloneF (p : Po) (a b : ByteArray) : Po × Bool :=
  if (decide (0 ≤ atF p.vols a) && nameB b.data.toList && decide (atF p.vols b < 0)) = true then
    (⟨incAll p.slots (vth p.vols (atF p.vols a).toNat).blocks, addF p.vols ⟨b, (vth p.vols (atF p.vols a).toNat).blocks⟩⟩, true) else (p, false)

theorem cloneF_ok {p : Po} (h : PoolR p) (a b : ByteArray) : PoolR (cloneF p a b).1 := by
  unfold cloneF
  split
  · rename_i hc
    simp only [Bool.and_eq_true, decide_eq_true_eq] at hc
    obtain ⟨⟨ha, hn⟩, hat⟩ := hc
    rcases atF_cases p.vols a with ⟨k, hk, he, _⟩ | ⟨he, _⟩
    · rw [he] at ha ⊢
      simp only [Int.toNat_natCast]
      have hv := h.vol hk
      obtain ⟨h1, h2⟩ := incAll_ok (vth p.vols k).blocks p.slots h.store hv.1 (fun c hc h0 => (h.used hk c hc h0).2) (fun i hi => by have := h.small i hi; omega)
      refine ⟨h1, fun v hv' => ?_, sort_addF _ _ h.sort (fun u hu => nodup_key h hn (atF_neg hat) u hu), fun i hi => ?_⟩
      · rcases (mem_addF _ _ _).1 hv' with rfl | hv'
        · rw [volB_iff]; exact ⟨hv.1, hn, hv.2.2⟩
        · exact h.vols v hv'
      · rw [h2 i hi, totU_addF, h.tot i hi]; rfl
    · omega
  · exact h

/-- PoolGone. -/
def goneF (p : Po) (n : ByteArray) : Po × Bool :=
  if 0 ≤ atF p.vols n then (⟨decAll p.slots (vth p.vols (atF p.vols n).toNat).blocks, p.vols.eraseIdx (atF p.vols n).toNat⟩, true) else (p, false)

theorem goneF_ok {p : Po} (h : PoolR p) (n : ByteArray) : PoolR (goneF p n).1 := by
  unfold goneF
  split
  · rename_i hc
    rcases atF_cases p.vols n with ⟨k, hk, he, _⟩ | ⟨he, _⟩
    · rw [he]
      simp only [Int.toNat_natCast]
      have hv := h.vol hk
      obtain ⟨h1, h2⟩ := decAll_ok (vth p.vols k).blocks p.slots h.store hv.1 (fun i hi => by rw [h.tot i hi]; exact totU_at p.vols k _ hk)
      refine ⟨h1, fun v hv' => h.vols v (List.mem_of_mem_eraseIdx hv'), h.sort.sublist (List.eraseIdx_sublist _ _), fun i hi => ?_⟩
      rw [h2 i hi, totU_erase _ _ _ hk, h.tot i hi]; rfl
    · omega
  · exact h

/-- A block of a disk is set. -/
def setBlk (vs : List Vo) (k b : Nat) (x : Int) : List Vo := vs.set k ⟨(vth vs k).name, (vth vs k).blocks.set b x⟩

theorem sort_setBlk {vs : List Vo} (h : sortV vs) (k b : Nat) (x : Int) : sortV (setBlk vs k b x) := by
  have e : ∀ us : List Vo, sortV us ↔ (us.map keyOf).Pairwise (· < ·) := fun us => by
    unfold sortV; rw [List.pairwise_map]
  rw [e] at h ⊢
  have : (setBlk vs k b x).map keyOf = vs.map keyOf := by
    unfold setBlk
    rw [List.map_set]
    by_cases hk : k < vs.length
    · have : keyOf ⟨(vth vs k).name, (vth vs k).blocks.set b x⟩ = (vs.map keyOf)[k]'(by simpa using hk) := by
        rw [List.getElem_map, vth_get _ _ hk]; rfl
      rw [this, List.set_getElem_self]
    · rw [List.set_eq_of_length_le (by simpa using Nat.le_of_not_lt hk)]
  rw [this]; exact h

theorem setBlk_vol {p : Po} (h : PoolR p) {k b : Nat} (hk : k < p.vols.length) (x : Int) (hx : 0 ≤ x ∧ x ≤ 8) : ∀ v ∈ setBlk p.vols k b x, volB v = true := by
  intro v hv
  rcases List.mem_or_eq_of_mem_set hv with hv | rfl
  · exact h.vols v hv
  · obtain ⟨h1, h2, h3, h4⟩ := h.vol hk
    rw [volB_iff]
    refine ⟨fun c hc => ?_, h2, by simpa using h3, by simpa using h4⟩
    rcases List.mem_or_eq_of_mem_set hc with hc | rfl
    · exact h1 c hc
    · exact hx

theorem totU_setBlk (vs : List Vo) (k b : Nat) (x p : Int) (hk : k < vs.length) (hb : b < (vth vs k).blocks.length) :
    totU (setBlk vs k b x) p = totU vs p - (if bth (vth vs k).blocks b = p then 1 else 0) + (if x = p then 1 else 0) := by
  unfold setBlk
  rw [totU_set _ _ _ _ hk, usesV_set _ _ _ _ hb]; omega

/-- The slots when a block has been freed. -/
def freeBlk (xs : List Sl) (old : Int) : List Sl := decOne xs old

/-- PoolWrite. -/
def writeF (p : Po) (n : ByteArray) (block : Int) (t : ByteArray) : Po × Bool :=
  if (decide (0 ≤ atF p.vols n) && (decide (0 ≤ block) && decide (block ≤ ((vth p.vols (atF p.vols n).toNat).blocks.length : Int) - 1)) && tokB t.data.toList) = true then
    if t.toList.isEmpty = true then (⟨decOne p.slots (bth (vth p.vols (atF p.vols n).toNat).blocks block.toNat), setBlk p.vols (atF p.vols n).toNat block.toNat 0⟩, true)
    else if (putS (decOne p.slots (bth (vth p.vols (atF p.vols n).toNat).blocks block.toNat)) t).2.2 = true then
      (⟨(putS (decOne p.slots (bth (vth p.vols (atF p.vols n).toNat).blocks block.toNat)) t).1, setBlk p.vols (atF p.vols n).toNat block.toNat (putS (decOne p.slots (bth (vth p.vols (atF p.vols n).toNat).blocks block.toNat)) t).2.1⟩, true)
    else (p, false)
  else (p, false)

/-- The slots without the piece of one block. -/
theorem freed {p : Po} (h : PoolR p) {k b : Nat} (hk : k < p.vols.length) (hb : b < (vth p.vols k).blocks.length) :
    storeB (decOne p.slots (bth (vth p.vols k).blocks b)) = true ∧
      ∀ i, i < 8 → (nth (decOne p.slots (bth (vth p.vols k).blocks b)) i).uses = totU p.vols ((i : Int) + 1) - (if bth (vth p.vols k).blocks b = (i : Int) + 1 then 1 else 0) := by
  have hl := storeB_len h.store
  have hm : bth (vth p.vols k).blocks b ∈ (vth p.vols k).blocks := by rw [bth_get _ _ hb]; exact List.getElem_mem hb
  have h8 := (h.vol hk).1 _ hm
  have hu := h.used hk _ hm
  generalize bth (vth p.vols k).blocks b = c at *
  unfold decOne
  by_cases h0 : 0 < c
  · rw [if_pos h0]
    refine ⟨drop_ok h.store _ (hu h0).1 (hu h0).2, fun i hi => ?_⟩
    rw [uses_drop _ _ _ (by have := (hu h0).1; omega), h.tot i hi]
    by_cases e : (c - 1).toNat = i
    · rw [if_pos e, if_pos (by omega)]
    · rw [if_neg e, if_neg (by omega)]
  · rw [if_neg h0]
    refine ⟨h.store, fun i hi => ?_⟩
    rw [h.tot i hi, if_neg (by omega)]; omega

theorem writeF_ok {p : Po} (h : PoolR p) (n : ByteArray) (block : Int) (t : ByteArray) : PoolR (writeF p n block t).1 := by
  unfold writeF
  split
  · rename_i hc
    simp only [Bool.and_eq_true, decide_eq_true_eq] at hc
    obtain ⟨⟨ha, hb0, hb1⟩, htk⟩ := hc
    rcases atF_cases p.vols n with ⟨k, hk, he, _⟩ | ⟨he, _⟩
    · rw [he] at hb1 ⊢
      simp only [Int.toNat_natCast] at hb1 ⊢
      have hb : block.toNat < (vth p.vols k).blocks.length := by omega
      obtain ⟨h1, h2⟩ := freed h hk hb
      split
      · refine ⟨h1, setBlk_vol h hk 0 (by omega), sort_setBlk h.sort _ _ _, fun i hi => ?_⟩
        rw [h2 i hi, totU_setBlk _ _ _ _ _ hk hb, if_neg (show ¬ (0 : Int) = (i : Int) + 1 by omega)]; omega
      · rename_i hne
        have hg : goodB (decOne p.slots (bth (vth p.vols k).blocks block.toNat)) t = true := (goodB_iff _ _).2 ⟨h1, htk, by simpa using hne⟩
        split
        · rename_i hok
          rcases put_cases _ t hg with ⟨j, hj, _⟩ | ⟨hno, _⟩
          · have e := hj.eq
            simp only [putB, hg, if_true] at e
            rw [e]
            simp only
            have hlen := storeB_len h1
            refine ⟨hj.ok, setBlk_vol h hk _ (by have := hj.lt; omega), sort_setBlk h.sort _ _ _, fun i hi => ?_⟩
            rw [nth_set _ _ _ _ (by rw [hlen]; exact hj.lt), totU_setBlk _ _ _ _ _ hk hb, ← h2 i hi]
            by_cases e : j = i
            · subst e; rw [if_pos rfl, if_pos rfl]
            · rw [if_neg e, if_neg (by omega)]; omega
          · simp only [putB, hg, if_true] at hno
            rw [hno] at hok; cases hok
        · exact h
    · omega
  · exact h

theorem freshS_ok : storeB freshS = true := by
  have e : ∀ i, i < 8 → nth freshS i = ⟨⟨#[]⟩, 0⟩ := fun i hi => by
    obtain rfl | rfl | rfl | rfl | rfl | rfl | rfl | rfl : i = 0 ∨ i = 1 ∨ i = 2 ∨ i = 3 ∨ i = 4 ∨ i = 5 ∨ i = 6 ∨ i = 7 := by omega
    all_goals rfl
  rw [storeB_iff]
  refine ⟨rfl, fun i hi => ⟨by rw [e i hi]; exact okB_none, fun k hk => dupB_empty _ _ (by rw [e i hi]; simp only [empty_list]; rfl)⟩⟩

def freshP : Po := ⟨freshS, []⟩

theorem freshP_ok : PoolR freshP := by
  refine ⟨freshS_ok, fun v hv => by simp [freshP] at hv, List.Pairwise.nil, fun i hi => ?_⟩
  show (nth freshS i).uses = totU [] _
  rw [totU_nil]
  obtain rfl | rfl | rfl | rfl | rfl | rfl | rfl | rfl : i = 0 ∨ i = 1 ∨ i = 2 ∨ i = 3 ∨ i = 4 ∨ i = 5 ∨ i = 6 ∨ i = 7 := by omega
  all_goals rfl

end Go.Proofs.Ytaoaclmcmeaedaa
