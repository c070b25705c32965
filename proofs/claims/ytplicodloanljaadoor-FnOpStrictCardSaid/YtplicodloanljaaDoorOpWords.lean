/- The words of a text, and what the program reads out of them: plain mathematics. -/
import Derived.Test.YtplicodloanljaaDoorOpMath
import Derived.Test.YtplicodloanljaaDoorOpI
import Derived.Lib.SplitLaws
import Derived.Lib.AtoiAll
namespace Go.Proofs.YtplicodloanljaaDoor
open Go.RowKit

def wordsL : List UInt8 → List (List UInt8)
  | [] => [[]]
  | c :: r => if c = 32 then [] :: wordsL r else match wordsL r with
    | h :: t => (c :: h) :: t
    | [] => [[c]]

theorem wordsL_ne (l : List UInt8) : ∃ h t, wordsL l = h :: t := by
  cases l with
  | nil => exact ⟨[], [], rfl⟩
  | cons c r =>
    unfold wordsL
    split
    · exact ⟨_, _, rfl⟩
    · split <;> exact ⟨_, _, rfl⟩

theorem wordsL_blank (r : List UInt8) : wordsL (32 :: r) = [] :: wordsL r := by
  rw [wordsL, if_pos rfl]

theorem wordsL_char {c : UInt8} {r h : List UInt8} {t : List (List UInt8)} (hc : ¬ c = 32) (e : wordsL r = h :: t) : wordsL (c :: r) = (c :: h) :: t := by
  rw [wordsL, if_neg hc, e]

theorem split_words (l : List UInt8) : Lib.split l [32] = wordsL l := by
  unfold Lib.split
  induction l with
  | nil => rfl
  | cons c r ih =>
    unfold wordsL
    by_cases hc : c = 32
    · subst hc
      rw [if_pos rfl, Lib.count_cons_eq, Nat.add_comm]
      unfold Lib.splitK
      have hi : Lib.index (32 :: r) [32] = 0 := by simp [Lib.index, List.isPrefixOf]
      rw [hi, if_neg (by decide)]
      simpa using ih
    · rw [if_neg hc, Lib.count_cons_ne c 32 r hc]
      have hi : Lib.index (c :: r) [32] = if Lib.index r [32] == -1 then -1 else Lib.index r [32] + 1 := by
        have : ([32] : List UInt8).isPrefixOf (c :: r) = false := by simp [List.isPrefixOf]; exact fun h => hc h.symm
        rw [Lib.index, this]; simp
      cases hk : Lib.count r [32] with
      | zero =>
        rw [hk] at ih
        rw [← ih]
        rfl
      | succ k =>
        rw [hk] at ih
        unfold Lib.splitK at ih ⊢
        rw [hi]
        by_cases hm : (Lib.index r [32] == -1) = true
        · rw [if_pos hm] at ih ⊢
          rw [← ih]
          rfl
        · rw [if_neg hm] at ih ⊢
          have hge : -1 ≤ Lib.index r [32] := Lib.index_ge r [32]
          have hne : Lib.index r [32] ≠ -1 := by simpa using hm
          rw [if_neg (by simp; omega)]
          rw [← ih]
          have e : (Lib.index r [32] + 1).toNat = (Lib.index r [32]).toNat + 1 := by omega
          rw [e]
          simp [List.take_succ_cons]

def preL (p : List UInt8) : List (List UInt8) → List (List UInt8)
  | h :: t => (p ++ h) :: t
  | [] => [p]

theorem cut_words (l : List UInt8) : ∀ (ws : List ByteArray) (x : ByteArray), (l.foldl cutStep (ws ++ [x])).map (·.data.toList) = ws.map (·.data.toList) ++ preL x.data.toList (wordsL l) := by
  induction l with
  | nil => intro ws x; simp [wordsL, preL]
  | cons c r ih =>
    intro ws x
    simp only [List.foldl_cons]
    by_cases hc : c = 32
    · subst hc
      rw [cutStep_blank _ _ rfl, ih, wordsL_blank]
      obtain ⟨h, t, e⟩ := wordsL_ne r
      simp [preL, e]
    · have hn : c.toNat ≠ 32 := fun h => hc (UInt8.toNat_inj.1 (by rw [h]; rfl))
      rw [cutStep_word _ _ _ hn, ih]
      obtain ⟨h, t, e⟩ := wordsL_ne r
      rw [wordsL_char hc e]
      simp [preL, e]

theorem cutF_words (l : List UInt8) : (cutF l).map (·.data.toList) = wordsL l := by
  have h := cut_words l [] ⟨#[]⟩
  unfold cutF
  obtain ⟨a, t, e⟩ := wordsL_ne l
  rw [e] at h ⊢
  simpa [preL] using h

theorem map_data_inj : ∀ {a b : List ByteArray}, a.map (·.data.toList) = b.map (·.data.toList) → a = b := by
  intro a b h
  refine (List.map_inj_right (fun x y e => ?_)).1 h
  exact ByteArray.ext (Array.toList_inj.1 e)

/-- Go's Split at a blank cuts as the model's l12Cut. -/
theorem splitB_cut (s : ByteArray) : Lib.splitB ⟨#[32]⟩ 0 (Lib.countB s ⟨#[32]⟩) s = cutF s.data.toList := by
  apply map_data_inj
  rw [Lib.splitB_data, cutF_words]
  exact split_words _

theorem cutF_length (s : ByteArray) : (cutF s.data.toList).length = Lib.countB s ⟨#[32]⟩ + 1 := by
  rw [← splitB_cut]
  exact Lib.splitB_all ⟨#[32]⟩ (by decide) 0 _ s rfl

/-- What the program reads out of four words. -/
def progO (w0 w1 w2 w3 : ByteArray) : Option Ov :=
  if (w0.toList == [99, 108, 111, 110, 101]) = true then some ⟨3, w1, w2, 0, ⟨#[]⟩⟩
  else if (w0.toList == [103, 111, 110, 101]) = true then some ⟨4, w1, ⟨#[]⟩, 0, ⟨#[]⟩⟩
  else match Lib.atoiAll w2.data.toList with
    | .ok n => if (w0.toList == [109, 97, 107, 101]) = true then some ⟨1, w1, ⟨#[]⟩, n, ⟨#[]⟩⟩
      else if (w0.toList == [119, 114, 105, 116, 101]) = true then some ⟨2, w1, ⟨#[]⟩, n, w3⟩
      else if (w0.toList == [102, 114, 101, 101]) = true then some ⟨2, w1, ⟨#[]⟩, n, w3⟩ else none
    | _ => none

def progW (ws : List ByteArray) : Option Ov := progO (ws.getD 0 ⟨#[]⟩) (ws.getD 1 ⟨#[]⟩) (ws.getD 2 ⟨#[]⟩) (ws.getD 3 ⟨#[]⟩)

theorem atoi_dec (n : Int) (h0 : 0 ≤ n) (h9 : n ≤ 9) : Lib.atoiAll (decB n).data.toList = .ok n := by
  obtain rfl | rfl | rfl | rfl | rfl | rfl | rfl | rfl | rfl | rfl : n = 0 ∨ n = 1 ∨ n = 2 ∨ n = 3 ∨ n = 4 ∨ n = 5 ∨ n = 6 ∨ n = 7 ∨ n = 8 ∨ n = 9 := by omega
  all_goals rfl

theorem progW_opT {o : Ov} (h : opB o = true) : progW (cutF (opT o).data.toList) = some o := by
  obtain ⟨kind, name, dest, num, text⟩ := o
  have hB := h
  unfold opB at h
  simp only [Bool.and_eq_true] at h
  obtain ⟨hn, h⟩ := h
  have nn := name_noblank hn
  by_cases h1 : kind = 1
  · subst h1
    simp at h
    obtain ⟨⟨hd, hm⟩, ht⟩ := h
    have e : (opT ⟨1, name, dest, num, text⟩).data.toList = [109, 97, 107, 101] ++ 32 :: (name.data.toList ++ 32 :: (decB num).data.toList) := by
      simp [opT, hB]
    rw [e, cut_three _ _ _ (by decide) nn (dec_noblank num (by omega) (by omega))]
    obtain rfl := emp_eq hd
    obtain rfl := emp_eq ht
    unfold progW progO
    simp only [List.getD_cons_zero, List.getD_cons_succ, ba_back]
    rw [if_neg (by rw [ByteArray.toList_eq]; decide), if_neg (by rw [ByteArray.toList_eq]; decide), atoi_dec num (by omega) (by omega)]
    simp only
    rw [if_pos (by rw [ByteArray.toList_eq]; decide)]
  by_cases h2 : kind = 2
  · subst h2
    simp at h
    obtain ⟨⟨hd, hm⟩, ht⟩ := h
    obtain rfl := emp_eq hd
    cases he : emp text
    · have e : (opT ⟨2, name, ⟨#[]⟩, num, text⟩).data.toList = [119, 114, 105, 116, 101] ++ 32 :: (name.data.toList ++ 32 :: ((decB num).data.toList ++ 32 :: text.data.toList)) := by
        simp [opT, hB, he]
      rw [e, cut_four _ _ _ _ (by decide) nn (dec_noblank num (by omega) (by omega)) (tok_noblank ht)]
      unfold progW progO
      simp only [List.getD_cons_zero, List.getD_cons_succ, ba_back]
      rw [if_neg (by rw [ByteArray.toList_eq]; decide), if_neg (by rw [ByteArray.toList_eq]; decide), atoi_dec num (by omega) (by omega)]
      simp only
      rw [if_neg (by rw [ByteArray.toList_eq]; decide), if_pos (by rw [ByteArray.toList_eq]; decide)]
    · have e : (opT ⟨2, name, ⟨#[]⟩, num, text⟩).data.toList = [102, 114, 101, 101] ++ 32 :: (name.data.toList ++ 32 :: (decB num).data.toList) := by
        simp [opT, hB, he]
      rw [e, cut_three _ _ _ (by decide) nn (dec_noblank num (by omega) (by omega))]
      obtain rfl := emp_eq he
      unfold progW progO
      simp only [List.getD_cons_zero, List.getD_cons_succ, ba_back, List.getD_nil]
      rw [if_neg (by rw [ByteArray.toList_eq]; decide), if_neg (by rw [ByteArray.toList_eq]; decide), atoi_dec num (by omega) (by omega)]
      simp only
      rw [if_neg (by rw [ByteArray.toList_eq]; decide), if_neg (by rw [ByteArray.toList_eq]; decide), if_pos (by rw [ByteArray.toList_eq]; decide)]
  by_cases h3 : kind = 3
  · subst h3
    simp at h
    obtain ⟨⟨hd, hz⟩, ht⟩ := h
    have e : (opT ⟨3, name, dest, num, text⟩).data.toList = [99, 108, 111, 110, 101] ++ 32 :: (name.data.toList ++ 32 :: dest.data.toList) := by
      simp [opT, hB]
    rw [e, cut_three _ _ _ (by decide) nn (name_noblank hd)]
    obtain rfl := emp_eq ht
    subst hz
    unfold progW progO
    simp only [List.getD_cons_zero, List.getD_cons_succ, ba_back]
    rw [if_pos (by rw [ByteArray.toList_eq]; decide)]
  by_cases h4 : kind = 4
  · subst h4
    simp at h
    obtain ⟨⟨hd, hz⟩, ht⟩ := h
    have e : (opT ⟨4, name, dest, num, text⟩).data.toList = [103, 111, 110, 101] ++ 32 :: name.data.toList := by
      simp [opT, hB]
    rw [e, cut_two _ _ (by decide) nn]
    obtain rfl := emp_eq ht
    obtain rfl := emp_eq hd
    subst hz
    unfold progW progO
    simp only [List.getD_cons_zero, List.getD_cons_succ, ba_back]
    rw [if_neg (by rw [ByteArray.toList_eq]; decide), if_pos (by rw [ByteArray.toList_eq]; decide)]
  · simp [h1, h2, h3, h4] at h

/-- What the program answers to a text. -/
def progR (s : ByteArray) : Option Ov := match progW (cutF s.data.toList) with
  | some o => if (opB o && (opT o).toList == s.toList) = true then some o else none
  | none => none

theorem progR_read (s : ByteArray) (_ : s.size ≤ 20) : readB s = (match progR s with | some o => (o, true) | none => (Ov.zero, false)) := by
  cases hr : (readB s).2 with
  | true =>
    obtain ⟨h1, h2⟩ := readB_ok hr
    have e : progR s = some (readB s).1 := by
      unfold progR
      have hw := progW_opT h1
      rw [h2] at hw
      rw [hw]
      simp [h1, h2]
    rw [e]
    exact Prod.ext rfl hr
  | false =>
    have hz := readB_not hr
    have e : progR s = none := by
      unfold progR
      cases hw : progW (cutF s.data.toList) with
      | none => rfl
      | some o =>
        simp only
        by_cases hc : (opB o && (opT o).toList == s.toList) = true
        · simp only [Bool.and_eq_true, beq_iff_eq] at hc
          have := readB_opT hc.1
          rw [toList_inj hc.2] at this
          rw [this] at hr
          cases hr
        · rw [if_neg hc]
    rw [e]
    exact Prod.ext hz hr

end Go.Proofs.YtplicodloanljaaDoor
