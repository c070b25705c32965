/- Plain mathematics on stores: what is found, what a put and a drop leave. -/
import Derived.Test.YtaoaclmcmeaedaaSlotLaws
namespace Go.Proofs.Ytaoaclmcmeaedaa

/-- Slot j stores the text t. -/
def TextAt (xs : List Sl) (j : Nat) (t : ByteArray) : Bool := (nth xs j).text.toList == t.toList

theorem ba_ext (a b : ByteArray) (h : (a.toList == b.toList) = true) : a = b := by
  have h2 : a.toList = b.toList := by simpa using h
  rw [ByteArray.toList_eq, ByteArray.toList_eq] at h2
  obtain ⟨⟨x⟩⟩ := a
  obtain ⟨⟨y⟩⟩ := b
  simp at h2
  rw [h2]

theorem go_spot (j k : Nat) (_ : j < 8) : (((j : Int) + 1) % 8 + 1) = (((j + 1) % 8 : Nat) : Int) + 1 ∧ ((j + 1) % 8 + k) % 8 = (j + (k + 1)) % 8 := by
  constructor
  · push_cast; rfl
  · omega

theorem findGo_true (xs : List Sl) (t : ByteArray) : ∀ (n j : Nat) (free : Int), j < 8 → (findGo xs t n ((j : Int) + 1) free).2 = true →
    ∃ k, k < n ∧ (findGo xs t n ((j : Int) + 1) free).1 = (((j + k) % 8 : Nat) : Int) + 1 ∧ TextAt xs ((j + k) % 8) t = true := by
  intro n
  induction n with
  | zero => intro j free _ h; simp [findGo] at h
  | succ n ih =>
    intro j free hj h
    cases he : TextAt xs j t
    · rw [findGo_on xs t n j free he] at h ⊢
      rw [(go_spot j 0 hj).1] at h ⊢
      obtain ⟨k, hk, h1, h2⟩ := ih ((j + 1) % 8) _ (Nat.mod_lt _ (by omega)) h
      rw [(go_spot j k hj).2] at h1 h2
      exact ⟨k + 1, by omega, h1, h2⟩
    · rw [findGo_hit xs t n j free he]
      have e : (j + 0) % 8 = j := by omega
      exact ⟨0, by omega, by rw [e], by rw [e]; exact he⟩

theorem findGo_some (xs : List Sl) (t : ByteArray) : ∀ (n j : Nat) (free : Int), j < 8 → (∃ k, k < n ∧ TextAt xs ((j + k) % 8) t = true) → (findGo xs t n ((j : Int) + 1) free).2 = true := by
  intro n
  induction n with
  | zero => intro j free _ ⟨k, hk, _⟩; omega
  | succ n ih =>
    intro j free hj ⟨k, hk, h⟩
    cases he : TextAt xs j t
    · rw [findGo_on xs t n j free he, (go_spot j 0 hj).1]
      refine ih _ _ (Nat.mod_lt _ (by omega)) ?_
      cases k with
      | zero =>
        rw [show (j + 0) % 8 = j from by omega, he] at h
        cases h
      | succ k => exact ⟨k, by omega, by rw [(go_spot j k hj).2]; exact h⟩
    · rw [findGo_hit xs t n j free he]

/-- Nothing found: the first free slot, if one is met. -/
theorem findGo_none (xs : List Sl) (t : ByteArray) : ∀ (n j : Nat) (free : Int), j < 8 → (∀ k, k < n → TextAt xs ((j + k) % 8) t = false) →
    (free ≠ 0 → findGo xs t n ((j : Int) + 1) free = (free, false)) ∧
    (free = 0 → (∃ k, k < n ∧ (nth xs ((j + k) % 8)).uses = 0 ∧ (∀ q, q < k → (nth xs ((j + q) % 8)).uses ≠ 0) ∧ findGo xs t n ((j : Int) + 1) free = ((((j + k) % 8 : Nat) : Int) + 1, false)) ∨
      ((∀ q, q < n → (nth xs ((j + q) % 8)).uses ≠ 0) ∧ findGo xs t n ((j : Int) + 1) free = (0, false))) := by
  intro n
  induction n with
  | zero =>
    intro j free _ _
    exact ⟨fun _ => rfl, fun h => .inr ⟨fun q hq => by omega, by rw [h]; rfl⟩⟩
  | succ n ih =>
    intro j free hj hno
    have e0 : (j + 0) % 8 = j := by omega
    have he : TextAt xs j t = false := by have := hno 0 (by omega); rwa [e0] at this
    have hno2 : ∀ k, k < n → TextAt xs (((j + 1) % 8 + k) % 8) t = false := fun k hk => by rw [(go_spot j k hj).2]; exact hno (k + 1) (by omega)
    rw [findGo_on xs t n j free he, (go_spot j 0 hj).1]
    by_cases hu : (nth xs j).uses = 0
    · constructor
      · intro hf
        have hc : ((nth xs j).uses == 0 && free == 0) = false := by simp [hf]
        rw [hc, if_neg (by simp)]
        exact (ih ((j + 1) % 8) free (Nat.mod_lt _ (by omega)) hno2).1 hf
      · intro hf
        have hc : ((nth xs j).uses == 0 && free == 0) = true := by simp [hf, hu]
        rw [hc, if_pos rfl]
        refine .inl ⟨0, by omega, by rw [e0]; exact hu, fun q hq => by omega, ?_⟩
        rw [e0]
        exact (ih ((j + 1) % 8) ((j : Int) + 1) (Nat.mod_lt _ (by omega)) hno2).1 (by omega)
    · have hc : ((nth xs j).uses == 0 && free == 0) = false := by simp [hu]
      rw [hc, if_neg (by simp)]
      obtain ⟨i1, i2⟩ := ih ((j + 1) % 8) free (Nat.mod_lt _ (by omega)) hno2
      refine ⟨i1, fun hf => ?_⟩
      rcases i2 hf with ⟨k, hk, h1, h2, h3⟩ | ⟨h1, h2⟩
      · rw [(go_spot j k hj).2] at h1 h3
        refine .inl ⟨k + 1, by omega, h1, fun q hq => ?_, h3⟩
        cases q with
        | zero => rw [e0]; exact hu
        | succ q => have := h2 q (by omega); rwa [(go_spot j q hj).2] at this
      · refine .inr ⟨fun q hq => ?_, h2⟩
        cases q with
        | zero => rw [e0]; exact hu
        | succ q => have := h1 q (by omega); rwa [(go_spot j q hj).2] at this

/-- Where the search for t starts. -/
def startOf (t : ByteArray) : Nat := (ws 0 t.data.toList % 8).toNat

theorem startOf_lt (t : ByteArray) : startOf t < 8 := by unfold startOf; omega

theorem findS_start (xs : List Sl) (t : ByteArray) : findS xs t = findGo xs t 8 ((startOf t : Int) + 1) 0 := by
  have h0 : 0 ≤ ws 0 t.data.toList % 8 := Int.emod_nonneg _ (by omega)
  unfold findS startOf
  rw [Int.toNat_of_nonneg h0]

theorem turn (s j : Nat) (hs : s < 8) (hj : j < 8) : ∃ k, k < 8 ∧ (s + k) % 8 = j := ⟨(j + 8 - s) % 8, by omega, by omega⟩

theorem findS_true (xs : List Sl) (t : ByteArray) (h : (findS xs t).2 = true) : ∃ j : Nat, j < 8 ∧ findS xs t = ((j : Int) + 1, true) ∧ TextAt xs j t = true := by
  rw [findS_start] at h
  obtain ⟨k, hk, h1, h2⟩ := findGo_true xs t 8 (startOf t) 0 (startOf_lt t) h
  refine ⟨(startOf t + k) % 8, Nat.mod_lt _ (by omega), ?_, h2⟩
  rw [findS_start]
  exact Prod.ext h1 h

theorem findS_some (xs : List Sl) (t : ByteArray) (j : Nat) (hj : j < 8) (h : TextAt xs j t = true) : (findS xs t).2 = true := by
  rw [findS_start]
  obtain ⟨k, hk, e⟩ := turn (startOf t) j (startOf_lt t) hj
  exact findGo_some xs t 8 (startOf t) 0 (startOf_lt t) ⟨k, hk, by rw [e]; exact h⟩

theorem findS_none (xs : List Sl) (t : ByteArray) (h : ∀ j, j < 8 → TextAt xs j t = false) :
    (∃ k, k < 8 ∧ (nth xs ((startOf t + k) % 8)).uses = 0 ∧ (∀ q, q < k → (nth xs ((startOf t + q) % 8)).uses ≠ 0) ∧ findS xs t = ((((startOf t + k) % 8 : Nat) : Int) + 1, false)) ∨
      ((∀ j, j < 8 → (nth xs j).uses ≠ 0) ∧ findS xs t = (0, false)) := by
  have h2 := (findGo_none xs t 8 (startOf t) 0 (startOf_lt t) (fun k _ => h _ (Nat.mod_lt _ (by omega)))).2 rfl
  rw [← findS_start] at h2
  rcases h2 with h2 | ⟨h3, h4⟩
  · exact .inl h2
  · refine .inr ⟨fun j hj => ?_, h4⟩
    obtain ⟨k, hk, e⟩ := turn (startOf t) j (startOf_lt t) hj
    rw [← e]
    exact h3 k hk

/-- A right store, said plainly. -/
theorem storeB_iff (xs : List Sl) : storeB xs = true ↔ xs.length = 8 ∧ ∀ i, i < 8 → okB (nth xs i) = true ∧ ∀ k, k < i → dupB (nth xs i) (nth xs k) = false := by
  constructor
  · intro h
    refine ⟨storeB_len h, fun i hi => ⟨storeB_ok h i hi, fun k hk => ?_⟩⟩
    have := storeB_row h i hi
    simp only [rowB, Bool.and_eq_true, List.all_eq_true] at this
    have := this.2 k (List.mem_range.2 hk)
    simpa using this
  · intro ⟨hl, h⟩
    simp only [storeB, Bool.and_eq_true, List.all_eq_true, decide_eq_true_eq]
    refine ⟨fun i hi => ?_, hl⟩
    have hi8 : i < 8 := by rw [← hl]; exact List.mem_range.1 hi
    simp only [rowB, Bool.and_eq_true, List.all_eq_true]
    refine ⟨(h i hi8).1, fun k hk => ?_⟩
    have := (h i hi8).2 k (List.mem_range.1 hk)
    simp [this]

theorem dup_unique {xs : List Sl} (h : storeB xs = true) (t : ByteArray) (ht : t.toList.isEmpty = false) (i j : Nat) (hi : i < 8) (hj : j < 8) (h1 : TextAt xs i t = true) (h2 : TextAt xs j t = true) : i = j := by
  have key : ∀ a b, a < 8 → b < a → TextAt xs a t = true → TextAt xs b t = true → False := by
    intro a b ha hb ha1 hb1
    have hd := (((storeB_iff xs).1 h).2 a ha).2 b hb
    have ea := ba_ext _ _ ha1
    have eb := ba_ext _ _ hb1
    have hne : (nth xs a).text.toList.isEmpty = false := by rw [ea]; exact ht
    rw [dupB_eq _ _ hne, ea, eb] at hd
    simp at hd
  rcases Nat.lt_trichotomy i j with hlt | rfl | hlt
  · exact (key j i hj hlt h2 h1).elim
  · rfl
  · exact (key i j hi hlt h1 h2).elim

theorem findS_at {xs : List Sl} (h : storeB xs = true) (t : ByteArray) (ht : t.toList.isEmpty = false) (j : Nat) (hj : j < 8) (h1 : TextAt xs j t = true) : findS xs t = ((j : Int) + 1, true) := by
  obtain ⟨i, hi, e, h2⟩ := findS_true xs t (findS_some xs t j hj h1)
  rw [e, dup_unique h t ht i j hi hj h2 h1]

/-- A right store stays one where a right slot is laid into it that stores nothing which another slot stores. -/
theorem storeB_set {xs : List Sl} (h : storeB xs = true) (j : Nat) (x : Sl) (hj : j < 8) (hx : okB x = true) (hd : x.text.toList.isEmpty = true ∨ ∀ i, i < 8 → i ≠ j → TextAt xs i x.text = false) : storeB (xs.set j x) = true := by
  have hl := storeB_len h
  rw [storeB_iff] at h ⊢
  refine ⟨by rw [List.length_set]; exact hl, fun i hi => ?_⟩
  have hjl : j < xs.length := by omega
  constructor
  · rw [nth_set _ _ _ _ hjl]
    by_cases e : j = i
    · rw [if_pos e]; exact hx
    · rw [if_neg e]; exact (h.2 i hi).1
  · intro k hk
    rw [nth_set _ _ _ _ hjl, nth_set _ _ _ _ hjl]
    by_cases e : j = i
    · rw [if_pos e, if_neg (by omega)]
      cases he : x.text.toList.isEmpty
      · rcases hd with hd | hd
        · rw [hd] at he; cases he
        · rw [dupB_eq _ _ he]
          have := hd k (by omega) (by omega)
          unfold TextAt at this
          simp only [beq_eq_false_iff_ne, ne_eq] at this ⊢
          exact fun e => this e.symm
      · exact dupB_empty _ _ he
    · rw [if_neg e]
      by_cases e2 : j = k
      · rw [if_pos e2]
        cases he : (nth xs i).text.toList.isEmpty
        · rw [dupB_eq _ _ he]
          rcases hd with hd | hd
          · cases hb : ((nth xs i).text.toList == x.text.toList)
            · rfl
            · have := ba_ext _ _ hb
              rw [this, hd] at he; cases he
          · exact hd i hi (fun e' => e e'.symm)
        · exact dupB_empty _ _ he
      · rw [if_neg e2]
        exact (h.2 i hi).2 k hk

theorem freeTo_set (xs : List Sl) (j : Nat) (x : Sl) (hj : j < xs.length) : ∀ k, freeTo (xs.set j x) k = freeTo xs k + (if j < k then (if (x.uses == 0) = true then 1 else 0) - (if ((nth xs j).uses == 0) = true then 1 else 0) else 0) := by
  intro k
  induction k with
  | zero => simp [freeTo]
  | succ k ih =>
    simp only [freeTo, ih, nth_set _ _ _ _ hj]
    by_cases e : j = k
    · subst e
      have h1 : ¬ j < j := by omega
      have h2 : j < j + 1 := by omega
      simp only [if_neg h1, if_pos h2, if_true]
      generalize (if (x.uses == 0) = true then (1 : Int) else 0) = a
      generalize (if ((nth xs j).uses == 0) = true then (1 : Int) else 0) = b
      omega
    · simp only [if_neg e]
      by_cases hlt : j < k
      · have h2 : j < k + 1 := by omega
        simp only [if_pos hlt, if_pos h2]
        generalize (if (x.uses == 0) = true then (1 : Int) else 0) = a
        generalize (if ((nth xs j).uses == 0) = true then (1 : Int) else 0) = b
        generalize (if ((nth xs k).uses == 0) = true then (1 : Int) else 0) = c
        omega
      · have h2 : ¬ j < k + 1 := by omega
        simp only [if_neg hlt, if_neg h2]
        omega

end Go.Proofs.Ytaoaclmcmeaedaa
