/- Plain mathematics on pieces (texts of letters): no program is named here. -/
namespace Go.Proofs.Ytjbmhmlmgihplaa

/-- A letter of a piece. -/
def letB (c : UInt8) : Bool := decide (97 ≤ c.toNat) && decide (c.toNat ≤ 100)

/-- A piece: at most four letters. -/
def tokB (l : List UInt8) : Bool := decide (l.length ≤ 4) && l.all letB

theorem letB_true {c : UInt8} (h1 : 97 ≤ c.toNat) (h2 : c.toNat ≤ 100) : letB c = true := by
  simp [letB, h1, h2]

theorem letB_low {c : UInt8} (h1 : c.toNat < 97) : letB c = false := by
  simp [letB]; intro; omega

theorem letB_high {c : UInt8} (h1 : 100 < c.toNat) : letB c = false := by
  simp [letB]; intro; omega

theorem letB_iff (c : UInt8) : letB c = true ↔ 97 ≤ c.toNat ∧ c.toNat ≤ 100 := by
  simp [letB]

theorem take_snoc (s : ByteArray) (k : Nat) (h : k < s.size) : s.data.toList.take (k + 1) = s.data.toList.take k ++ [s[k]] := by
  rw [List.take_succ_eq_append_getElem (by simpa using h)]; rfl

theorem all_snoc (s : ByteArray) (k : Nat) (h : k < s.size) (ha : (s.data.toList.take k).all letB = true) (hc : letB s[k] = true) :
    (s.data.toList.take (k + 1)).all letB = true := by
  rw [take_snoc s k h, List.all_append, ha]; simp [hc]

theorem not_all (s : ByteArray) (k : Nat) (h : k < s.size) (hc : letB s[k] = false) : s.data.toList.all letB = false := by
  rw [← List.take_append_drop (k + 1) s.data.toList, List.all_append, take_snoc s k h, List.all_append]
  simp [hc]

theorem tokB_long (s : ByteArray) (h : 4 < s.size) : tokB s.data.toList = false := by
  have : ¬ s.data.toList.length ≤ 4 := by simp; omega
  simp [tokB]
  intro h'
  have : s.data.size = s.size := rfl
  omega

theorem tokB_bad (s : ByteArray) (k : Nat) (h : k < s.size) (hc : letB s[k] = false) : tokB s.data.toList = false := by
  simp [tokB, not_all s k h hc]

theorem tokB_all (s : ByteArray) (h : s.size ≤ 4) (ha : s.data.toList.all letB = true) : tokB s.data.toList = true := by
  have : s.data.size = s.size := rfl
  simp [tokB, ha]; omega

/-- The sum of the letters' values, each times its place, the first letter at place i + 1. -/
def ws : Nat → List UInt8 → Int
  | _, [] => 0
  | i, c :: r => ((i : Int) + 1) * ((c.toNat : Int) - 96) + ws (i + 1) r

/-- The slot at which the search for a piece starts. -/
def placeOf (l : List UInt8) : Int := if tokB l then ws 0 l % 8 + 1 else 0

theorem ws_snoc (l : List UInt8) (c : UInt8) : ∀ i : Nat, ws i (l ++ [c]) = ws i l + ((i : Int) + l.length + 1) * ((c.toNat : Int) - 96) := by
  induction l with
  | nil => intro i; simp [ws]
  | cons a r ih =>
    intro i
    simp only [List.cons_append, ws, ih (i + 1), List.length_cons]
    push_cast
    rw [show ((i : Int) + 1 + r.length + 1) = (i + (r.length + 1) + 1) from by omega]
    omega

theorem mul_small (a b : Int) (h0 : 0 ≤ a) (h1 : a ≤ 4) (h2 : 1 ≤ b) (h3 : b ≤ 4) : 0 ≤ a * b ∧ a * b ≤ 16 := by
  obtain rfl | rfl | rfl | rfl | rfl : a = 0 ∨ a = 1 ∨ a = 2 ∨ a = 3 ∨ a = 4 := by omega
  all_goals omega

theorem ws_bound (l : List UInt8) : ∀ i : Nat, i + l.length ≤ 4 → l.all letB = true → 0 ≤ ws i l ∧ ws i l ≤ 16 * l.length := by
  induction l with
  | nil => intro i _ _; simp [ws]
  | cons c r ih =>
    intro i h ha
    simp only [List.all_cons, Bool.and_eq_true, letB_iff] at ha
    simp only [List.length_cons] at h
    have b := ih (i + 1) (by omega) ha.2
    have m := mul_small ((i : Int) + 1) ((c.toNat : Int) - 96) (by omega) (by omega) (by omega) (by omega)
    simp only [ws, List.length_cons]
    omega

theorem tokB_len {l : List UInt8} (h : tokB l = true) : l.length ≤ 4 := by
  simp [tokB] at h; exact h.1

theorem tokB_let {l : List UInt8} (h : tokB l = true) : l.all letB = true := by
  simp only [tokB, Bool.and_eq_true] at h; exact h.2

theorem all_take {l : List UInt8} (k : Nat) (h : l.all letB = true) : (l.take k).all letB = true := by
  simp only [List.all_eq_true] at h ⊢
  intro x hx; exact h x (List.mem_of_mem_take hx)

theorem let_at (s : ByteArray) (k : Nat) (h : k < s.size) (ha : s.data.toList.all letB = true) : letB s[k] = true := by
  simp only [List.all_eq_true] at ha
  exact ha _ (by have : s[k] = s.data.toList[k]'(by simpa using h) := rfl
                 rw [this]; exact List.getElem_mem _)

theorem ws_take_bound (s : ByteArray) (k : Nat) (h : tokB s.data.toList = true) : 0 ≤ ws 0 (s.data.toList.take k) ∧ ws 0 (s.data.toList.take k) ≤ 64 := by
  have h1 := tokB_len h
  have h2 := List.length_take_le k s.data.toList
  have h3 : (s.data.toList.take k).length ≤ s.data.toList.length := by simp; omega
  have b := ws_bound (s.data.toList.take k) 0 (by omega) (all_take k (tokB_let h))
  omega

theorem ws_step (s : ByteArray) (k : Nat) (h : k < s.size) :
    ws 0 (s.data.toList.take (k + 1)) = ws 0 (s.data.toList.take k) + ((k : Int) + 1) * ((s[k].toNat : Int) - 96) := by
  rw [take_snoc s k h, ws_snoc]
  have : (s.data.toList.take k).length = k := by
    rw [List.length_take]; have : s.data.toList.length = s.size := by simp
    omega
  rw [this]; simp

theorem placeOf_no {l : List UInt8} (h : tokB l = false) : placeOf l = 0 := by simp [placeOf, h]

theorem placeOf_yes {l : List UInt8} (h : tokB l = true) : placeOf l = ws 0 l % 8 + 1 := by simp [placeOf, h]

theorem tokB_sub {l l' : List UInt8} (hs : l'.Sublist l) (h : tokB l = true) : tokB l' = true := by
  have h1 := tokB_len h
  have h2 := tokB_let h
  have h3 := hs.length_le
  have h4 : l'.all letB = true := by
    simp only [List.all_eq_true] at h2 ⊢
    exact fun x hx => h2 x (hs.subset hx)
  simp [tokB, h4]; omega

theorem tokB_cut (s : ByteArray) (i j : Nat) (h : tokB s.data.toList = true) : tokB (s.extract i j).data.toList = true := by
  refine tokB_sub ?_ h
  rw [ByteArray.data_extract, Array.toList_extract]
  exact (List.take_sublist _ _).trans (List.drop_sublist _ _)

theorem tokB_other (s t : ByteArray) (c : UInt8) (ht : t.data.toList = [c]) (hc : letB c = false) : tokB (s ++ t).data.toList = false := by
  simp [tokB, ByteArray.data_append, ht, hc]

theorem tokB_more (s t : ByteArray) (ht : 4 < t.size) : tokB (t ++ s).data.toList = false := by
  exact tokB_long (t ++ s) (by rw [ByteArray.size_append]; omega)

/-- The slot that is probed after another one. -/
def nextOf (n : Int) : Int := if 1 ≤ n ∧ n ≤ 8 then n % 8 + 1 else 0

/-- A slot: a piece, and how often it is used. -/
structure Sl where
  text : ByteArray
  uses : Int

def Sl.none : Sl := ⟨⟨#[]⟩, 0⟩

def emptyB (t : ByteArray) : Bool := t.toList.isEmpty

/-- A slot by itself is right. -/
def okB (x : Sl) : Bool := tokB x.text.data.toList && (decide (0 ≤ x.uses) && decide (x.uses ≤ 99)) && ((x.uses == 0) == emptyB x.text)

/-- Two slots store one piece. -/
def dupB (x y : Sl) : Bool := !emptyB x.text && x.text.toList == y.text.toList

def nth (xs : List Sl) (i : Nat) : Sl := xs.getD i Sl.none

def rowB (xs : List Sl) (i : Nat) : Bool := okB (nth xs i) && (List.range i).all fun k => !dupB (nth xs i) (nth xs k)

def storeB (xs : List Sl) : Bool := (List.range xs.length).all (rowB xs) && decide (xs.length = 8)

/-- How many slots are free. -/
def freeOf (xs : List Sl) : Int := ((xs.filter fun x => x.uses == 0).length : Int)

theorem nth_get (xs : List Sl) (i : Nat) (h : i < xs.length) : nth xs i = xs[i] := by
  simp [nth, List.getD_eq_getElem?_getD, List.getElem?_eq_getElem h]

theorem all_range_succ (f : Nat → Bool) (k : Nat) (h : (List.range k).all f = true) (hk : f k = true) : (List.range (k + 1)).all f = true := by
  rw [List.range_succ, List.all_append, h]; simp [hk]

theorem all_range_no (f : Nat → Bool) (n k : Nat) (hk : k < n) (h : f k = false) : (List.range n).all f = false := by
  rw [List.all_eq_false]
  exact ⟨k, List.mem_range.2 hk, by simp [h]⟩

theorem storeB_no (xs : List Sl) (k : Nat) (hk : k < xs.length) (h : rowB xs k = false) : storeB xs = false := by
  simp [storeB, all_range_no _ _ _ hk h]

theorem rowB_ok (xs : List Sl) (k : Nat) (h : okB (nth xs k) = false) : rowB xs k = false := by simp [rowB, h]

theorem rowB_dup (xs : List Sl) (k j : Nat) (hj : j < k) (h : dupB (nth xs k) (nth xs j) = true) : rowB xs k = false := by
  simp only [rowB, all_range_no (fun q => !dupB (nth xs k) (nth xs q)) k j hj (by simp [h]), Bool.and_false]

theorem rowB_yes (xs : List Sl) (k : Nat) (h : okB (nth xs k) = true) (ha : (List.range k).all (fun q => !dupB (nth xs k) (nth xs q)) = true) : rowB xs k = true := by
  simp only [rowB, h, ha, Bool.and_true]

theorem storeB_all (xs : List Sl) (h : (List.range xs.length).all (rowB xs) = true) : storeB xs = decide (xs.length = 8) := by simp [storeB, h]

theorem okB_tok (x : Sl) (h : tokB x.text.data.toList = false) : okB x = false := by simp [okB, h]

theorem okB_low (x : Sl) (h : x.uses < 0) : okB x = false := by
  have : decide (0 ≤ x.uses) = false := by simpa using h
  simp [okB, this]

theorem okB_high (x : Sl) (h : 99 < x.uses) : okB x = false := by
  have : decide (x.uses ≤ 99) = false := by simpa using h
  simp [okB, this]

theorem okB_free (x : Sl) (h : (!((x.uses == 0) == x.text.toList.isEmpty)) = true) : okB x = false := by
  have : ((x.uses == 0) == emptyB x.text) = false := by simpa [emptyB] using h
  simp [okB, this]

theorem okB_yes (x : Sl) (h1 : tokB x.text.data.toList = true) (h2 : 0 ≤ x.uses) (h3 : x.uses ≤ 99) (h : (!((x.uses == 0) == x.text.toList.isEmpty)) = false) : okB x = true := by
  have : ((x.uses == 0) == emptyB x.text) = true := by simpa [emptyB] using h
  simp [okB, this, h1, h2, h3]

theorem int_eq8 (k : Nat) : ((k : Int) == 8) = decide (k = 8) := by
  rw [Bool.eq_iff_iff]; simp; omega

theorem dupB_empty (x y : Sl) (h : x.text.toList.isEmpty = true) : dupB x y = false := by simp [dupB, emptyB, h]

theorem dupB_eq (x y : Sl) (h : x.text.toList.isEmpty = false) : dupB x y = (x.text.toList == y.text.toList) := by simp [dupB, emptyB, h]

/-- The search for a piece: n slots from 'at' on, going round; 'free': the first free one met so far. -/
def findGo (xs : List Sl) (t : ByteArray) : Nat → Int → Int → Int × Bool
  | 0, _, free => (free, false)
  | n + 1, p, free =>
    if (nth xs (p - 1).toNat).text.toList == t.toList then (p, true)
    else findGo xs t n (p % 8 + 1) (if (nth xs (p - 1).toNat).uses == 0 && free == 0 then p else free)

def findS (xs : List Sl) (t : ByteArray) : Int × Bool := findGo xs t 8 (ws 0 t.data.toList % 8 + 1) 0

theorem findGo_range (xs : List Sl) (t : ByteArray) : ∀ (n : Nat) (p free : Int), 1 ≤ p ∧ p ≤ 8 → 0 ≤ free ∧ free ≤ 8 → 0 ≤ (findGo xs t n p free).1 ∧ (findGo xs t n p free).1 ≤ 8 := by
  intro n
  induction n with
  | zero => intro p free _ hf; exact hf
  | succ n ih =>
    intro p free hp hf
    unfold findGo
    split
    · exact ⟨by simp; omega, by simp; omega⟩
    · apply ih
      · omega
      · split <;> omega

theorem findS_range (xs : List Sl) (t : ByteArray) : 0 ≤ (findS xs t).1 ∧ (findS xs t).1 ≤ 8 := findGo_range xs t 8 _ 0 (by omega) (by omega)

theorem findGo_hit (xs : List Sl) (t : ByteArray) (n j : Nat) (free : Int) (h : ((nth xs j).text.toList == t.toList) = true) : findGo xs t (n + 1) ((j : Int) + 1) free = ((j : Int) + 1, true) := by
  unfold findGo
  rw [show ((j : Int) + 1 - 1).toNat = j from by omega, if_pos h]

theorem findGo_on (xs : List Sl) (t : ByteArray) (n j : Nat) (free : Int) (h : ((nth xs j).text.toList == t.toList) = false) :
    findGo xs t (n + 1) ((j : Int) + 1) free = findGo xs t n (((j : Int) + 1) % 8 + 1) (if ((nth xs j).uses == 0 && free == 0) = true then (j : Int) + 1 else free) := by
  rw [findGo]
  rw [show ((j : Int) + 1 - 1).toNat = j from by omega, if_neg (by simp [h])]

/-- One more use of a piece. -/
def putS (xs : List Sl) (t : ByteArray) : List Sl × Int × Bool :=
  if (findS xs t).1 = 0 ∨ 99 ≤ (nth xs ((findS xs t).1 - 1).toNat).uses then (xs, 0, false)
  else (xs.set ((findS xs t).1 - 1).toNat ⟨t, (nth xs ((findS xs t).1 - 1).toNat).uses + 1⟩, (findS xs t).1, true)

/-- One use less of slot j + 1. -/
def dropS (xs : List Sl) (j : Nat) : List Sl := xs.set j (if (nth xs j).uses - 1 = 0 then ⟨⟨#[]⟩, (nth xs j).uses - 1⟩ else ⟨(nth xs j).text, (nth xs j).uses - 1⟩)

end Go.Proofs.Ytjbmhmlmgihplaa
