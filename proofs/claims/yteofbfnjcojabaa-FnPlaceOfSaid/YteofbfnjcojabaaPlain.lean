/- Plain mathematics on pieces (texts of letters): no program is named here. -/
namespace Go.Proofs.Yteofbfnjcojabaa

/-- A letter of a piece. -/
def letB (c : UInt8) : Bool := decide (97 ≤ c.toNat) && decide (c.toNat ≤ 100)
/-- A piece: at most four letters. -/
def tokB (l : List UInt8) : Bool := decide (l.length ≤ 4) && l.all letB

theorem letB_true {c : UInt8} (h1 : 97 ≤ c.toNat) (h2 : c.toNat ≤ 100) : letB c = true := by
  simp [letB, h1, h2]
theorem letB_low {c : UInt8} (h1 : c.toNat < 97) : letB c = false := by
  simp [letB]; intro; omega
theorem letB_high {c : UInt8} (h1 : 100 < c.toNat) : letB c = false := by
  simp [letB]; intro; omega
theorem letB_iff (c : UInt8) : letB c = true ↔ 97 ≤ c.toNat ∧ c.toNat ≤ 100 := by
  simp [letB]

theorem take_snoc (s : ByteArray) (k : Nat) (h : k < s.size) : s.data.toList.take (k + 1) = s.data.toList.take k ++ [s[k]] := by
  rw [List.take_succ_eq_append_getElem (by simpa using h)]; rfl

theorem all_snoc (s : ByteArray) (k : Nat) (h : k < s.size) (ha : (s.data.toList.take k).all letB = true) (hc : letB s[k] = true) :
    (s.data.toList.take (k + 1)).all letB = true := by
  rw [take_snoc s k h, List.all_append, ha]; simp [hc]

theorem not_all (s : ByteArray) (k : Nat) (h : k < s.size) (hc : letB s[k] = false) : s.data.toList.all letB = false := by
  rw [← List.take_append_drop (k + 1) s.data.toList, List.all_append, take_snoc s k h, List.all_append]
  simp [hc]

theorem tokB_long (s : ByteArray) (h : 4 < s.size) : tokB s.data.toList = false := by
  have : ¬ s.data.toList.length ≤ 4 := by simp; omega
  simp [tokB]
  intro h'
  have : s.data.size = s.size := rfl
  omega

theorem tokB_bad (s : ByteArray) (k : Nat) (h : k < s.size) (hc : letB s[k] = false) : tokB s.data.toList = false := by
  simp [tokB, not_all s k h hc]

theorem tokB_all (s : ByteArray) (h : s.size ≤ 4) (ha : s.data.toList.all letB = true) : tokB s.data.toList = true := by
  have : s.data.size = s.size := rfl
  simp [tokB, ha]; omega

/-- The sum of the letters' values, each times its place, the first letter at place i + 1. -/
def ws : Nat → List UInt8 → Int
  | _, [] => 0
  | i, c :: r => ((i : Int) + 1) * ((c.toNat : Int) - 96) + ws (i + 1) r
/-- The slot at which the search for a piece starts. -/
def placeOf (l : List UInt8) : Int := if tokB l then ws 0 l % 8 + 1 else 0

theorem ws_snoc (l : List UInt8) (c : UInt8) : ∀ i : Nat, ws i (l ++ [c]) = ws i l + ((i : Int) + l.length + 1) * ((c.toNat : Int) - 96) := by
  induction l with
  | nil => intro i; simp [ws]
  | cons a r ih =>
    intro i
    simp only [List.cons_append, ws, ih (i + 1), List.length_cons]
    push_cast
    rw [show ((i : Int) + 1 + r.length + 1) = (i + (r.length + 1) + 1) from by omega]
    omega

theorem mul_small (a b : Int) (h0 : 0 ≤ a) (h1 : a ≤ 4) (h2 : 1 ≤ b) (h3 : b ≤ 4) : 0 ≤ a * b ∧ a * b ≤ 16 := by
  obtain rfl | rfl | rfl | rfl | rfl : a = 0 ∨ a = 1 ∨ a = 2 ∨ a = 3 ∨ a = 4 := by omega
  all_goals omega

theorem ws_bound (l : List UInt8) : ∀ i : Nat, i + l.length ≤ 4 → l.all letB = true → 0 ≤ ws i l ∧ ws i l ≤ 16 * l.length := by
  induction l with
  | nil => intro i _ _; simp [ws]
  | cons c r ih =>
    intro i h ha
    simp only [List.all_cons, Bool.and_eq_true, letB_iff] at ha
    simp only [List.length_cons] at h
    have b := ih (i + 1) (by omega) ha.2
    have m := mul_small ((i : Int) + 1) ((c.toNat : Int) - 96) (by omega) (by omega) (by omega) (by omega)
    simp only [ws, List.length_cons]
    omega

theorem tokB_len {l : List UInt8} (h : tokB l = true) : l.length ≤ 4 := by
  simp [tokB] at h; exact h.1
theorem tokB_let {l : List UInt8} (h : tokB l = true) : l.all letB = true := by
  simp only [tokB, Bool.and_eq_true] at h; exact h.2
theorem all_take {l : List UInt8} (k : Nat) (h : l.all letB = true) : (l.take k).all letB = true := by
  simp only [List.all_eq_true] at h ⊢
  intro x hx; exact h x (List.mem_of_mem_take hx)
theorem let_at (s : ByteArray) (k : Nat) (h : k < s.size) (ha : s.data.toList.all letB = true) : letB s[k] = true := by
  simp only [List.all_eq_true] at ha
  exact ha _ (by have : s[k] = s.data.toList[k]'(by simpa using h) := rfl
                 rw [this]; exact List.getElem_mem _)
theorem ws_take_bound (s : ByteArray) (k : Nat) (h : tokB s.data.toList = true) : 0 ≤ ws 0 (s.data.toList.take k) ∧ ws 0 (s.data.toList.take k) ≤ 64 := by
  have h1 := tokB_len h
  have h2 := List.length_take_le k s.data.toList
  have h3 : (s.data.toList.take k).length ≤ s.data.toList.length := by simp; omega
  have b := ws_bound (s.data.toList.take k) 0 (by omega) (all_take k (tokB_let h))
  omega
theorem ws_step (s : ByteArray) (k : Nat) (h : k < s.size) :
    ws 0 (s.data.toList.take (k + 1)) = ws 0 (s.data.toList.take k) + ((k : Int) + 1) * ((s[k].toNat : Int) - 96) := by
  rw [take_snoc s k h, ws_snoc]
  have : (s.data.toList.take k).length = k := by
    rw [List.length_take]; have : s.data.toList.length = s.size := by simp
    omega
  rw [this]; simp
theorem placeOf_no {l : List UInt8} (h : tokB l = false) : placeOf l = 0 := by simp [placeOf, h]
theorem placeOf_yes {l : List UInt8} (h : tokB l = true) : placeOf l = ws 0 l % 8 + 1 := by simp [placeOf, h]
theorem tokB_sub {l l' : List UInt8} (hs : l'.Sublist l) (h : tokB l = true) : tokB l' = true := by
  have h1 := tokB_len h
  have h2 := tokB_let h
  have h3 := hs.length_le
  have h4 : l'.all letB = true := by
    simp only [List.all_eq_true] at h2 ⊢
    exact fun x hx => h2 x (hs.subset hx)
  simp [tokB, h4]; omega
theorem tokB_cut (s : ByteArray) (i j : Nat) (h : tokB s.data.toList = true) : tokB (s.extract i j).data.toList = true := by
  refine tokB_sub ?_ h
  rw [ByteArray.data_extract, Array.toList_extract]
  exact (List.take_sublist _ _).trans (List.drop_sublist _ _)
theorem tokB_other (s t : ByteArray) (c : UInt8) (ht : t.data.toList = [c]) (hc : letB c = false) : tokB (s ++ t).data.toList = false := by
  simp [tokB, ByteArray.data_append, ht, hc]
theorem tokB_more (s t : ByteArray) (ht : 4 < t.size) : tokB (t ++ s).data.toList = false := by
  exact tokB_long (t ++ s) (by rw [ByteArray.size_append]; omega)
/-- The slot that is probed after another one. -/
def nextOf (n : Int) : Int := if 1 ≤ n ∧ n ≤ 8 then n % 8 + 1 else 0

end Go.Proofs.Yteofbfnjcojabaa
