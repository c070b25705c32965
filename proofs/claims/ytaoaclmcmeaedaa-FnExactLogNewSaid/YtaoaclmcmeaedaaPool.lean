/- Plain mathematics on disks and pools: no program is named here. -/
import Derived.Test.YtaoaclmcmeaedaaStoreMath2
namespace Go.Proofs.Ytaoaclmcmeaedaa
open Go.RowKit
set_option linter.unusedVariables false

/-- A disk: its name, and of each block the place, or 0. -/
structure Vo where
  name : ByteArray
  blocks : List Int

def Vo.none : Vo := ⟨⟨#[]⟩, []⟩

/-- A pool. -/
structure Po where
  slots : List Sl
  vols : List Vo

def vth (vs : List Vo) (i : Nat) : Vo := vs.getD i Vo.none

def bth (bs : List Int) (i : Nat) : Int := bs.getD i 0

theorem vth_get (vs : List Vo) (i : Nat) (h : i < vs.length) : vth vs i = vs[i] := by
  simp [vth, List.getD_eq_getElem?_getD, List.getElem?_eq_getElem h]

theorem bth_get (bs : List Int) (i : Nat) (h : i < bs.length) : bth bs i = bs[i] := by
  simp [bth, List.getD_eq_getElem?_getD, List.getElem?_eq_getElem h]

/-- A name of a disk: one letter from A to D. -/
def nameB (l : List UInt8) : Bool := match l with
  | [c] => decide (65 ≤ c.toNat) && decide (c.toNat ≤ 68)
  | _ => false

/-- The first byte of a name. -/
def keyL (l : List UInt8) : Nat := match l with
  | c :: _ => c.toNat
  | [] => 0

def keyOf (v : Vo) : Nat := keyL v.name.data.toList

/-- A block is empty, or a place. -/
def blkB (b : Int) : Bool := decide (0 ≤ b) && decide (b ≤ 8)

def volB (v : Vo) : Bool := v.blocks.all blkB && (nameB v.name.data.toList && (decide (1 ≤ v.blocks.length) && decide (v.blocks.length ≤ 6)))

/-- How often a disk uses a place. -/
def usesV (v : Vo) (p : Int) : Int := (v.blocks.count p : Nat)

def totU (vs : List Vo) (p : Int) : Int := (vs.map (fun v => usesV v p)).sum

def sortV (vs : List Vo) : Prop := vs.Pairwise (fun a b => keyOf a < keyOf b)

theorem nameB_key {l : List UInt8} (h : nameB l = true) : 65 ≤ keyL l ∧ keyL l ≤ 68 ∧ ∃ c, l = [c] := by
  match l, h with
  | [c], h => simp [nameB] at h; exact ⟨h.1, h.2, c, rfl⟩

theorem nameB_same {l m : List UInt8} (h : nameB l = true) (h2 : nameB m = true) (hk : keyL l = keyL m) : l = m := by
  obtain ⟨_, _, c, rfl⟩ := nameB_key h
  obtain ⟨_, _, d, rfl⟩ := nameB_key h2
  simp only [keyL] at hk
  rw [UInt8.toNat_inj.1 hk]

theorem volB_iff (v : Vo) : volB v = true ↔ (∀ b ∈ v.blocks, 0 ≤ b ∧ b ≤ 8) ∧ nameB v.name.data.toList = true ∧ 1 ≤ v.blocks.length ∧ v.blocks.length ≤ 6 := by
  simp [volB, blkB, List.all_eq_true]

theorem usesV_range (v : Vo) (p : Int) : 0 ≤ usesV v p ∧ usesV v p ≤ v.blocks.length := by
  unfold usesV
  have := List.count_le_length (a := p) (l := v.blocks)
  omega

theorem totU_nil (p : Int) : totU [] p = 0 := rfl

theorem totU_cons (v : Vo) (vs : List Vo) (p : Int) : totU (v :: vs) p = usesV v p + totU vs p := by simp [totU]

theorem totU_append (vs us : List Vo) (p : Int) : totU (vs ++ us) p = totU vs p + totU us p := by
  induction vs with
  | nil => simp [totU_nil]
  | cons v vs ih => rw [List.cons_append, totU_cons, totU_cons, ih]; omega

theorem totU_nonneg (vs : List Vo) (p : Int) : 0 ≤ totU vs p := by
  induction vs with
  | nil => rw [totU_nil]; omega
  | cons v vs ih => rw [totU_cons]; have := (usesV_range v p).1; omega

theorem totU_set (vs : List Vo) (k : Nat) (v : Vo) (p : Int) (hk : k < vs.length) : totU (vs.set k v) p = totU vs p - usesV (vth vs k) p + usesV v p := by
  induction vs generalizing k with
  | nil => simp at hk
  | cons x vs ih =>
    cases k with
    | zero => rw [List.set_cons_zero, totU_cons, totU_cons]; simp only [vth, List.getD_cons_zero]; omega
    | succ k =>
      rw [List.set_cons_succ, totU_cons, totU_cons, ih k (by simpa using hk)]
      have : vth (x :: vs) (k + 1) = vth vs k := by simp [vth]
      rw [this]; omega

theorem totU_erase (vs : List Vo) (k : Nat) (p : Int) (hk : k < vs.length) : totU (vs.eraseIdx k) p = totU vs p - usesV (vth vs k) p := by
  induction vs generalizing k with
  | nil => simp at hk
  | cons x vs ih =>
    cases k with
    | zero => rw [List.eraseIdx_cons_zero, totU_cons]; simp only [vth, List.getD_cons_zero]; omega
    | succ k =>
      rw [List.eraseIdx_cons_succ, totU_cons, totU_cons, ih k (by simpa using hk)]
      have : vth (x :: vs) (k + 1) = vth vs k := by simp [vth]
      rw [this]; omega

theorem totU_at (vs : List Vo) (k : Nat) (p : Int) (hk : k < vs.length) : usesV (vth vs k) p ≤ totU vs p := by
  have := totU_erase vs k p hk
  have := totU_nonneg (vs.eraseIdx k) p
  omega

theorem usesV_set (v : Vo) (b : Nat) (x p : Int) (hb : b < v.blocks.length) : usesV ⟨v.name, v.blocks.set b x⟩ p = usesV v p - (if bth v.blocks b = p then 1 else 0) + (if x = p then 1 else 0) := by
  unfold usesV
  simp only
  rw [List.count_set hb, bth_get _ _ hb]
  have h1 : (v.blocks[b] == p) = decide (v.blocks[b] = p) := rfl
  have h2 : (x == p) = decide (x = p) := rfl
  have hm : v.blocks[b] = p → 1 ≤ v.blocks.count p := fun e => by
    have : 0 < v.blocks.count p := List.count_pos_iff.2 (e ▸ List.getElem_mem hb)
    omega
  rw [h1, h2]
  by_cases e1 : v.blocks[b] = p <;> by_cases e2 : x = p <;> simp [e1, e2] <;> (first | omega | (have := hm e1; omega))

theorem sorted_len {vs : List Vo} (h : sortV vs) (hn : ∀ v ∈ vs, nameB v.name.data.toList = true) : vs.length ≤ 4 := by
  have key : ∀ (us : List Vo) (lo : Nat), us.Pairwise (fun a b => keyOf a < keyOf b) → (∀ v ∈ us, lo ≤ keyOf v ∧ keyOf v ≤ 68) → us.length + lo ≤ 69 ∨ us = [] := by
    intro us
    induction us with
    | nil => intro lo _ _; exact .inr rfl
    | cons a us ih =>
      intro lo hp hb
      rw [List.pairwise_cons] at hp
      have ha := hb a (by simp)
      rcases ih (keyOf a + 1) hp.2 (fun v hv => ⟨hp.1 v hv, (hb v (by simp [hv])).2⟩) with h | rfl
      · left; simp only [List.length_cons]; omega
      · left; simp; omega
  rcases key vs 65 h (fun v hv => by have := nameB_key (hn v hv); exact ⟨this.1, this.2.1⟩) with h | rfl
  · omega
  · simp

/-- A pool, said plainly. -/
structure PoolR (p : Po) : Prop where
  store : storeB p.slots = true
  vols : ∀ v ∈ p.vols, volB v = true
  sort : sortV p.vols
  tot : ∀ i, i < 8 → (nth p.slots i).uses = totU p.vols ((i : Int) + 1)

theorem PoolR.len4 {p : Po} (h : PoolR p) : p.vols.length ≤ 4 := sorted_len h.sort (fun v hv => ((volB_iff v).1 (h.vols v hv)).2.1)

theorem totU_le (vs : List Vo) (p : Int) (h : ∀ v ∈ vs, v.blocks.length ≤ 6) : totU vs p ≤ 6 * vs.length := by
  induction vs with
  | nil => simp [totU_nil]
  | cons v vs ih =>
    rw [totU_cons]
    have h1 := (usesV_range v p).2
    have h2 := h v (by simp)
    have h3 := ih (fun u hu => h u (by simp [hu]))
    simp only [List.length_cons]; push_cast; omega

theorem PoolR.small {p : Po} (h : PoolR p) (i : Nat) (hi : i < 8) : 0 ≤ (nth p.slots i).uses ∧ (nth p.slots i).uses ≤ 24 := by
  rw [h.tot i hi]
  have h1 := totU_nonneg p.vols ((i : Int) + 1)
  have h2 := totU_le p.vols ((i : Int) + 1) (fun v hv => ((volB_iff v).1 (h.vols v hv)).2.2.2)
  have := h.len4
  omega

/-- A disk is put where its name stands. -/
def addF : List Vo → Vo → List Vo
  | [], v => [v]
  | x :: r, v => if keyOf v < keyOf x then v :: x :: r else x :: addF r v

theorem mem_addF (vs : List Vo) (v u : Vo) : u ∈ addF vs v ↔ u = v ∨ u ∈ vs := by
  induction vs with
  | nil => simp [addF]
  | cons x r ih =>
    unfold addF
    split
    · simp
    · simp only [List.mem_cons, ih]
      constructor
      · rintro (h | h | h)
        · exact .inr (.inl h)
        · exact .inl h
        · exact .inr (.inr h)
      · rintro (h | h | h)
        · exact .inr (.inl h)
        · exact .inl h
        · exact .inr (.inr h)

theorem sort_addF (vs : List Vo) (v : Vo) (h : sortV vs) (hne : ∀ u ∈ vs, keyOf u ≠ keyOf v) : sortV (addF vs v) := by
  induction vs with
  | nil => simp [addF, sortV]
  | cons x r ih =>
    have h2 := List.pairwise_cons.1 h
    unfold addF
    split
    · rename_i hlt
      refine List.pairwise_cons.2 ⟨fun u hu => ?_, h⟩
      rcases List.mem_cons.1 hu with rfl | hu
      · exact hlt
      · exact Nat.lt_trans hlt (h2.1 u hu)
    · rename_i hge
      refine List.pairwise_cons.2 ⟨fun u hu => ?_, ih h2.2 (fun u hu => hne u (by simp [hu]))⟩
      rcases (mem_addF r v u).1 hu with rfl | hu
      · have := hne x (by simp); omega
      · exact h2.1 u hu

theorem totU_addF (vs : List Vo) (v : Vo) (p : Int) : totU (addF vs v) p = totU vs p + usesV v p := by
  induction vs with
  | nil => simp [addF, totU_cons, totU_nil]
  | cons x r ih =>
    unfold addF
    split
    · rw [totU_cons]; omega
    · rw [totU_cons, totU_cons, ih]; omega

theorem len_addF (vs : List Vo) (v : Vo) : (addF vs v).length = vs.length + 1 := by
  induction vs with
  | nil => rfl
  | cons x r ih => unfold addF; split <;> simp [ih]

/-- The place of a disk; -1, if there is none. -/
def isN (vs : List Vo) (n : ByteArray) (i : Nat) : Bool := (vth vs i).name.toList == n.toList

def atF (vs : List Vo) (n : ByteArray) : Int := match (List.range vs.length).find? (isN vs n) with
  | some i => (i : Int)
  | none => -1

theorem atF_hit (vs : List Vo) (n : ByteArray) (k : Nat) (hk : k < vs.length) (h : isN vs n k = true) (hno : ∀ j, j < k → isN vs n j = false) : atF vs n = (k : Int) := by
  have : (List.range vs.length).find? (isN vs n) = some k := by
    rw [List.find?_range_eq_some]
    exact ⟨h, List.mem_range.2 hk, fun j hj => by simp [hno j hj]⟩
  simp only [atF, this]

theorem atF_none (vs : List Vo) (n : ByteArray) (hno : ∀ j, j < vs.length → isN vs n j = false) : atF vs n = -1 := by
  have : (List.range vs.length).find? (isN vs n) = none := by
    rw [List.find?_range_eq_none]
    exact fun j hj => by simp [hno j hj]
  simp only [atF, this]

theorem atF_cases (vs : List Vo) (n : ByteArray) : (∃ k : Nat, k < vs.length ∧ atF vs n = (k : Int) ∧ (vth vs k).name = n) ∨ (atF vs n = -1 ∧ ∀ v ∈ vs, v.name ≠ n) := by
  cases hf : (List.range vs.length).find? (isN vs n) with
  | none =>
    right
    refine ⟨by simp only [atF, hf], fun v hv => ?_⟩
    rw [List.find?_range_eq_none] at hf
    obtain ⟨i, hi, rfl⟩ := List.getElem_of_mem hv
    have := hf i hi
    intro e
    simp [isN, vth_get vs i hi, e] at this
  | some k =>
    left
    have h2 := hf
    rw [List.find?_range_eq_some] at h2
    exact ⟨k, List.mem_range.1 h2.2.1, by simp only [atF, hf], ba_ext _ _ h2.1⟩

theorem nodup_key {p : Po} (h : PoolR p) {n : ByteArray} (hn : nameB n.data.toList = true) (hat : atF p.vols n = -1) : ∀ u ∈ p.vols, keyOf u ≠ keyL n.data.toList := by
  intro u hu e
  rcases atF_cases p.vols n with ⟨k, _, he, _⟩ | ⟨_, hno⟩
  · omega
  · refine hno u hu ?_
    have := nameB_same ((volB_iff u).1 (h.vols u hu)).2.1 hn e
    rw [← ByteArray.toList_eq, ← ByteArray.toList_eq] at this
    exact ba_ext _ _ (by rw [this]; simp)

/-- PoolMake. -/
def makeF (p : Po) (n : ByteArray) (size : Int) : Po × Bool :=
  if (nameB n.data.toList && (decide (1 ≤ size) && decide (size ≤ 6)) && decide (atF p.vols n < 0)) = true then (⟨p.slots, addF p.vols ⟨n, List.replicate size.toNat 0⟩⟩, true) else (p, false)

theorem usesV_fresh (n : ByteArray) (k : Nat) (p : Int) (hp : p ≠ 0) : usesV ⟨n, List.replicate k 0⟩ p = 0 := by
  unfold usesV
  simp only
  rw [List.count_replicate]
  have : (0 == p) = false := by simpa using fun e => hp e.symm
  rw [this]; simp

theorem atF_neg {vs : List Vo} {n : ByteArray} (h : atF vs n < 0) : atF vs n = -1 := by
  rcases atF_cases vs n with ⟨k, _, he, _⟩ | ⟨he, _⟩ <;> omega

theorem makeF_ok {p : Po} (h : PoolR p) (n : ByteArray) (size : Int) : PoolR (makeF p n size).1 := by
  unfold makeF
  split
  · rename_i hc
    simp only [Bool.and_eq_true, decide_eq_true_eq] at hc
    obtain ⟨⟨hn, h1, h2⟩, hat⟩ := hc
    refine ⟨h.store, fun v hv => ?_, sort_addF _ _ h.sort (fun u hu => nodup_key h hn (atF_neg hat) u hu), fun i hi => ?_⟩
    · rcases (mem_addF _ _ _).1 hv with rfl | hv
      · rw [volB_iff]
        refine ⟨fun b hb => ?_, hn, by simp; omega, by simp; omega⟩
        have := List.eq_of_mem_replicate hb
        omega
      · exact h.vols v hv
    · rw [totU_addF, usesV_fresh _ _ _ (by omega), h.tot i hi]; omega
  · exact h

theorem uses_drop (xs : List Sl) (j i : Nat) (hj : j < xs.length) : (nth (dropS xs j) i).uses = (nth xs i).uses - (if j = i then 1 else 0) := by
  unfold dropS
  rw [nth_set _ _ _ _ hj]
  by_cases e : j = i
  · subst e
    rw [if_pos rfl, if_pos rfl]
    split <;> rfl
  · rw [if_neg e, if_neg e]; omega

theorem drop_ok {xs : List Sl} (hs : storeB xs = true) (j : Nat) (hj : j < 8) (hu : 0 < (nth xs j).uses) : storeB (dropS xs j) = true := by
  obtain ⟨j', hj', hp, hc⟩ := drop_cases xs ((j : Int) + 1) hs (by omega) (by omega)
  obtain rfl : j' = j := by omega
  rcases hc with ⟨_, h0⟩ | ⟨_, _, h⟩
  · omega
  · exact h

theorem inc_ok {xs : List Sl} (hs : storeB xs = true) (j : Nat) (hj : j < 8) (hu : 0 < (nth xs j).uses) (hu2 : (nth xs j).uses < 99) : storeB (xs.set j ⟨(nth xs j).text, (nth xs j).uses + 1⟩) = true := by
  have hok := storeB_ok hs j hj
  have hem := okB_empty hok
  have e0 : ((nth xs j).uses == 0) = false := by simp; omega
  rw [e0] at hem
  refine storeB_set hs j _ hj ?_ ?_
  · simp only [okB, Bool.and_eq_true, emptyB] at hok ⊢
    refine ⟨⟨hok.1.1, ?_⟩, ?_⟩
    · simp; omega
    · have e1 : (((nth xs j).uses + 1 : Int) == 0) = false := by simp; omega
      rw [e1, ← hem]; rfl
  · right
    intro i hi hij
    cases hc : TextAt xs i (nth xs j).text
    · rfl
    · exact absurd (dup_unique hs (nth xs j).text hem.symm i j hi hj hc (by simp [TextAt])) hij

end Go.Proofs.Ytaoaclmcmeaedaa
