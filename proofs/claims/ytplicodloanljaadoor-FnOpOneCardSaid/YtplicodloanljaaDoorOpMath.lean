/- Plain mathematics on changes and their texts. -/
import Derived.Test.YtplicodloanljaaDoorDrawOp
namespace Go.Proofs.YtplicodloanljaaDoor
open Go.RowKit

theorem cutStep_word (ws : List ByteArray) (x : ByteArray) (c : UInt8) (h : c.toNat ≠ 32) : cutStep (ws ++ [x]) c = ws ++ [x ++ ⟨#[c]⟩] := by
  unfold cutStep
  rw [if_neg h]
  simp

theorem cutStep_blank (ws : List ByteArray) (c : UInt8) (h : c.toNat = 32) : cutStep ws c = ws ++ [⟨#[]⟩] := by
  unfold cutStep
  rw [if_pos h]

theorem ba_snoc (x : ByteArray) (c : UInt8) (l : List UInt8) : x ++ ⟨#[c]⟩ ++ ⟨l.toArray⟩ = x ++ (⟨(c :: l).toArray⟩ : ByteArray) := by
  apply ByteArray.ext
  simp

theorem cut_word (ws : List ByteArray) (l : List UInt8) : ∀ x : ByteArray, (∀ c ∈ l, c.toNat ≠ 32) → l.foldl cutStep (ws ++ [x]) = ws ++ [x ++ ⟨l.toArray⟩] := by
  induction l with
  | nil => intro x _; simp only [List.foldl_nil]; congr 2; apply ByteArray.ext; simp
  | cons c r ih =>
    intro x h
    simp only [List.foldl_cons]
    rw [cutStep_word ws x c (h c (by simp)), ih _ (fun d hd => h d (by simp [hd])), ba_snoc]

/-- A text of words with a blank between each two of them. -/
theorem cut_more (ws : List ByteArray) (a b : List UInt8) (x : ByteArray) (h : ∀ c ∈ a, c.toNat ≠ 32) : (a ++ 32 :: b).foldl cutStep (ws ++ [x]) = b.foldl cutStep (ws ++ [x ++ ⟨a.toArray⟩] ++ [⟨#[]⟩]) := by
  rw [List.foldl_append, cut_word ws a x h, List.foldl_cons, cutStep_blank _ _ rfl]

theorem ba_nil (l : List UInt8) : (⟨#[]⟩ : ByteArray) ++ ⟨l.toArray⟩ = ⟨l.toArray⟩ := by
  apply ByteArray.ext; simp

theorem cut_one (a : List UInt8) (ha : ∀ c ∈ a, c.toNat ≠ 32) : cutF a = [⟨a.toArray⟩] := by
  have := cut_word [] a ⟨#[]⟩ ha
  rw [ba_nil] at this
  exact this

theorem cut_two (a b : List UInt8) (ha : ∀ c ∈ a, c.toNat ≠ 32) (hb : ∀ c ∈ b, c.toNat ≠ 32) : cutF (a ++ 32 :: b) = [⟨a.toArray⟩, ⟨b.toArray⟩] := by
  have h := cut_more [] a b ⟨#[]⟩ ha
  rw [ba_nil, cut_word _ b _ hb, ba_nil] at h
  exact h

theorem cut_three (a b c : List UInt8) (ha : ∀ x ∈ a, x.toNat ≠ 32) (hb : ∀ x ∈ b, x.toNat ≠ 32) (hc : ∀ x ∈ c, x.toNat ≠ 32) : cutF (a ++ 32 :: (b ++ 32 :: c)) = [⟨a.toArray⟩, ⟨b.toArray⟩, ⟨c.toArray⟩] := by
  have h := cut_more [] a (b ++ 32 :: c) ⟨#[]⟩ ha
  rw [ba_nil, cut_more _ b c _ hb, ba_nil, cut_word _ c _ hc, ba_nil] at h
  exact h

theorem cut_four (a b c d : List UInt8) (ha : ∀ x ∈ a, x.toNat ≠ 32) (hb : ∀ x ∈ b, x.toNat ≠ 32) (hc : ∀ x ∈ c, x.toNat ≠ 32) (hd : ∀ x ∈ d, x.toNat ≠ 32) : cutF (a ++ 32 :: (b ++ 32 :: (c ++ 32 :: d))) = [⟨a.toArray⟩, ⟨b.toArray⟩, ⟨c.toArray⟩, ⟨d.toArray⟩] := by
  have h := cut_more [] a (b ++ 32 :: (c ++ 32 :: d)) ⟨#[]⟩ ha
  rw [ba_nil, cut_more _ b (c ++ 32 :: d) _ hb, ba_nil, cut_more _ c d _ hc, ba_nil, cut_word _ d _ hd, ba_nil] at h
  exact h

theorem emp_eq {s : ByteArray} (h : emp s = true) : s = ⟨#[]⟩ := by
  unfold emp at h
  rw [ByteArray.toList_eq] at h
  apply ByteArray.ext
  have : s.data.toList = [] := by simpa using h
  simpa using this

theorem ba_back (s : ByteArray) : (⟨s.data.toList.toArray⟩ : ByteArray) = s := by apply ByteArray.ext; simp

theorem name_noblank {s : ByteArray} (h : nameB s.data.toList = true) : ∀ c ∈ s.data.toList, c.toNat ≠ 32 := by
  have h1 := nameB_size s h
  rw [nameB_one s h1] at h
  simp at h
  intro c hc
  obtain ⟨i, hi, rfl⟩ := List.getElem_of_mem hc
  have : i = 0 := by simp at hi; have : s.data.size = s.size := rfl; omega
  subst this
  show (s[0]'(by omega)).toNat ≠ 32
  omega

theorem dec_noblank (n : Int) (h0 : 0 ≤ n) (h9 : n ≤ 9) : ∀ c ∈ (decB n).data.toList, c.toNat ≠ 32 := by
  obtain rfl | rfl | rfl | rfl | rfl | rfl | rfl | rfl | rfl | rfl : n = 0 ∨ n = 1 ∨ n = 2 ∨ n = 3 ∨ n = 4 ∨ n = 5 ∨ n = 6 ∨ n = 7 ∨ n = 8 ∨ n = 9 := by omega
  all_goals decide

theorem decF_decB (n : Int) (h0 : 0 ≤ n) (h9 : n ≤ 9) : decF (decB n).data.toList = n := by
  obtain rfl | rfl | rfl | rfl | rfl | rfl | rfl | rfl | rfl | rfl : n = 0 ∨ n = 1 ∨ n = 2 ∨ n = 3 ∨ n = 4 ∨ n = 5 ∨ n = 6 ∨ n = 7 ∨ n = 8 ∨ n = 9 := by omega
  all_goals decide

theorem tok_noblank {s : ByteArray} (h : tokB s.data.toList = true) : ∀ c ∈ s.data.toList, c.toNat ≠ 32 := by
  intro c hc
  have := List.all_eq_true.1 (tokB_let h) c hc
  rw [letB_iff] at this
  omega

theorem readO_opT {o : Ov} (h : opB o = true) : readO (cutF (opT o).data.toList) = o := by
  obtain ⟨kind, name, dest, num, text⟩ := o
  have hB := h
  unfold opB at h
  simp only [Bool.and_eq_true] at h
  obtain ⟨hn, h⟩ := h
  have nn := name_noblank hn
  by_cases h1 : kind = 1
  · subst h1
    simp at h
    obtain ⟨⟨hd, hm⟩, ht⟩ := h
    have e : (opT ⟨1, name, dest, num, text⟩).data.toList = [109, 97, 107, 101] ++ 32 :: (name.data.toList ++ 32 :: (decB num).data.toList) := by
      simp [opT, hB]
    rw [e, cut_three _ _ _ (by decide) nn (dec_noblank num (by omega) (by omega))]
    obtain rfl := emp_eq hd
    obtain rfl := emp_eq ht
    unfold readO
    simp only [List.getD_cons_zero, List.getD_cons_succ, ba_back]
    rw [if_pos (by rw [ByteArray.toList_eq]; decide), decF_decB num (by omega) (by omega)]
  by_cases h2 : kind = 2
  · subst h2
    simp at h
    obtain ⟨⟨hd, hm⟩, ht⟩ := h
    obtain rfl := emp_eq hd
    cases he : emp text
    · have e : (opT ⟨2, name, ⟨#[]⟩, num, text⟩).data.toList = [119, 114, 105, 116, 101] ++ 32 :: (name.data.toList ++ 32 :: ((decB num).data.toList ++ 32 :: text.data.toList)) := by
        simp [opT, hB, he]
      rw [e, cut_four _ _ _ _ (by decide) nn (dec_noblank num (by omega) (by omega)) (tok_noblank ht)]
      unfold readO
      simp only [List.getD_cons_zero, List.getD_cons_succ, ba_back]
      rw [if_neg (by rw [ByteArray.toList_eq]; decide), if_neg (by rw [ByteArray.toList_eq]; decide), if_pos (by rw [ByteArray.toList_eq]; decide), decF_decB num (by omega) (by omega)]
    · have e : (opT ⟨2, name, ⟨#[]⟩, num, text⟩).data.toList = [102, 114, 101, 101] ++ 32 :: (name.data.toList ++ 32 :: (decB num).data.toList) := by
        simp [opT, hB, he]
      rw [e, cut_three _ _ _ (by decide) nn (dec_noblank num (by omega) (by omega))]
      obtain rfl := emp_eq he
      unfold readO
      simp only [List.getD_cons_zero, List.getD_cons_succ, ba_back, List.getD_nil]
      rw [if_neg (by rw [ByteArray.toList_eq]; decide), if_pos (by rw [ByteArray.toList_eq]; decide), decF_decB num (by omega) (by omega)]
  by_cases h3 : kind = 3
  · subst h3
    simp at h
    obtain ⟨⟨hd, hz⟩, ht⟩ := h
    have e : (opT ⟨3, name, dest, num, text⟩).data.toList = [99, 108, 111, 110, 101] ++ 32 :: (name.data.toList ++ 32 :: dest.data.toList) := by
      simp [opT, hB]
    rw [e, cut_three _ _ _ (by decide) nn (name_noblank hd)]
    obtain rfl := emp_eq ht
    subst hz
    unfold readO
    simp only [List.getD_cons_zero, List.getD_cons_succ, ba_back]
    rw [if_neg (by rw [ByteArray.toList_eq]; decide), if_neg (by rw [ByteArray.toList_eq]; decide), if_neg (by rw [ByteArray.toList_eq]; decide), if_pos (by rw [ByteArray.toList_eq]; decide)]
  by_cases h4 : kind = 4
  · subst h4
    simp at h
    obtain ⟨⟨hd, hz⟩, ht⟩ := h
    have e : (opT ⟨4, name, dest, num, text⟩).data.toList = [103, 111, 110, 101] ++ 32 :: name.data.toList := by
      simp [opT, hB]
    rw [e, cut_two _ _ (by decide) nn]
    obtain rfl := emp_eq ht
    obtain rfl := emp_eq hd
    subst hz
    unfold readO
    simp only [List.getD_cons_zero, List.getD_cons_succ, ba_back]
    rw [if_neg (by rw [ByteArray.toList_eq]; decide), if_neg (by rw [ByteArray.toList_eq]; decide), if_neg (by rw [ByteArray.toList_eq]; decide), if_neg (by rw [ByteArray.toList_eq]; decide), if_pos (by rw [ByteArray.toList_eq]; decide)]
  · simp [h1, h2, h3, h4] at h

theorem opT_bad {o : Ov} (h : opB o = false) : opT o = ⟨#[]⟩ := by simp [opT, h]

theorem opT_pos {o : Ov} (h : opB o = true) : 0 < (opT o).size := by
  unfold opT
  rw [if_pos h]
  split
  · simp only [ByteArray.size_append]; show 0 < 5 + _ + _ + _; omega
  split
  · split
    · simp only [ByteArray.size_append]; show 0 < 5 + _ + _ + _; omega
    · simp only [ByteArray.size_append]; show 0 < 6 + _ + _ + _ + _ + _; omega
  split
  · simp only [ByteArray.size_append]; show 0 < 6 + _ + _ + _; omega
  · simp only [ByteArray.size_append]; show 0 < 5 + _; omega

theorem notEmpty {s : ByteArray} (h : 0 < s.size) : s.toList.isEmpty = false := by
  cases he : s.toList.isEmpty
  · rfl
  · have := emp_eq (s := s) he
    rw [this] at h
    exact absurd h (by decide)

theorem readB_opT {o : Ov} (h : opB o = true) : readB (opT o) = (o, true) := by
  have hs := opT_size o
  unfold readB
  rw [if_neg (by omega)]
  unfold readT
  rw [notEmpty (opT_pos h), if_neg Bool.false_ne_true, readO_opT h, if_pos (by simp)]

theorem readB_ok {s : ByteArray} (h : (readB s).2 = true) : opB (readB s).1 = true ∧ opT (readB s).1 = s := by
  unfold readB at h ⊢
  split at h
  · exact absurd h Bool.false_ne_true
  rename_i hs
  rw [if_neg hs]
  unfold readT at h ⊢
  cases he : s.toList.isEmpty
  · rw [he, if_neg Bool.false_ne_true] at h
    rw [if_neg Bool.false_ne_true]
    split at h
    · rename_i hq
      rw [if_pos hq]
      have e := ba_ext _ _ hq
      refine ⟨?_, e⟩
      cases hb : opB (readO (cutF s.data.toList))
      · rw [opT_bad hb] at e
        rw [← e, ByteArray.toList_eq] at he
        exact absurd he (by decide)
      · rfl
    · exact absurd h Bool.false_ne_true
  · rw [he, if_pos rfl] at h
    exact absurd h Bool.false_ne_true

theorem readB_not {s : ByteArray} (h : (readB s).2 = false) : (readB s).1 = Ov.zero := by
  unfold readB at h ⊢
  split
  · rfl
  rename_i hs
  rw [if_neg hs] at h
  unfold readT at h ⊢
  split
  · rfl
  rename_i h1
  rw [if_neg h1] at h
  split
  · rename_i h2
    rw [if_pos h2] at h
    exact absurd h.symm Bool.false_ne_true
  · rfl

theorem opT_inj {o p : Ov} (ho : opB o = true) (hp : opB p = true) (h : opT o = opT p) : o = p := by
  rw [← readO_opT ho, h, readO_opT hp]

/-- No text of a change begins or ends with a blank. -/
theorem opT_ends {o : Ov} (h : opB o = true) : (opT o).data.toList.head? ≠ some 32 ∧ (opT o).data.toList.getLast? ≠ some 32 := by
  obtain ⟨kind, name, dest, num, text⟩ := o
  have hB := h
  unfold opB at h
  simp only [Bool.and_eq_true] at h
  obtain ⟨hn, h⟩ := h
  have nn := name_noblank hn
  have last : ∀ (a b : List UInt8), b ≠ [] → (∀ c ∈ b, c.toNat ≠ 32) → (a ++ b).getLast? ≠ some 32 := by
    intro a b hb hc e
    rw [List.getLast?_append] at e
    cases hl : b.getLast? with
    | none => exact hb (List.getLast?_eq_none_iff.1 hl)
    | some x =>
      rw [hl] at e
      have e2 : x = 32 := by simpa using e
      subst e2
      exact hc 32 (List.mem_of_getLast? hl) rfl
  have n1 : name.data.toList ≠ [] := by
    intro e
    have h1 := nameB_size name hn
    have : name.data.toList.length = name.size := by simp
    rw [e] at this
    simp at this
    omega
  by_cases h1 : kind = 1
  · subst h1
    simp at h
    obtain ⟨⟨hd, hm⟩, ht⟩ := h
    have e : (opT ⟨1, name, dest, num, text⟩).data.toList = ([109, 97, 107, 101, 32] ++ name.data.toList ++ [32]) ++ (decB num).data.toList := by
      simp [opT, hB]
    rw [e]
    exact ⟨by simp, last _ _ (by simp [decB]) (dec_noblank num (by omega) (by omega))⟩
  by_cases h2 : kind = 2
  · subst h2
    simp at h
    obtain ⟨⟨hd, hm⟩, ht⟩ := h
    cases he : emp text
    · have e : (opT ⟨2, name, dest, num, text⟩).data.toList = ([119, 114, 105, 116, 101, 32] ++ name.data.toList ++ [32] ++ (decB num).data.toList ++ [32]) ++ text.data.toList := by
        simp [opT, hB, he]
      rw [e]
      refine ⟨by simp, last _ _ ?_ (tok_noblank ht)⟩
      intro e2
      unfold emp at he
      rw [ByteArray.toList_eq, e2] at he
      exact absurd he (by decide)
    · have e : (opT ⟨2, name, dest, num, text⟩).data.toList = ([102, 114, 101, 101, 32] ++ name.data.toList ++ [32]) ++ (decB num).data.toList := by
        simp [opT, hB, he]
      rw [e]
      exact ⟨by simp, last _ _ (by simp [decB]) (dec_noblank num (by omega) (by omega))⟩
  by_cases h3 : kind = 3
  · subst h3
    simp at h
    obtain ⟨⟨hd, hz⟩, ht⟩ := h
    have e : (opT ⟨3, name, dest, num, text⟩).data.toList = ([99, 108, 111, 110, 101, 32] ++ name.data.toList ++ [32]) ++ dest.data.toList := by
      simp [opT, hB]
    rw [e]
    refine ⟨by simp, last _ _ ?_ (name_noblank hd)⟩
    intro e2
    have h1 := nameB_size dest hd
    have : dest.data.toList.length = dest.size := by simp
    rw [e2] at this
    simp at this
    omega
  by_cases h4 : kind = 4
  · subst h4
    have e : (opT ⟨4, name, dest, num, text⟩).data.toList = [103, 111, 110, 101, 32] ++ name.data.toList := by
      simp [opT, hB]
    rw [e]
    exact ⟨by simp, last _ _ n1 nn⟩
  · simp [h1, h2, h3, h4] at h

theorem readB_behind (s : ByteArray) : (readB (s ++ ⟨#[32]⟩)).2 = false := by
  cases h : (readB (s ++ ⟨#[32]⟩)).2
  · rfl
  · obtain ⟨hb, he⟩ := readB_ok h
    have := (opT_ends hb).2
    rw [he] at this
    exact absurd (by simp) this

theorem readB_ahead (s : ByteArray) : (readB (⟨#[32]⟩ ++ s)).2 = false := by
  cases h : (readB (⟨#[32]⟩ ++ s)).2
  · rfl
  · obtain ⟨hb, he⟩ := readB_ok h
    have := (opT_ends hb).1
    rw [he] at this
    exact absurd (by simp) this

theorem readB_less {o : Ov} (ho : opB o = true) : (readB ((opT o).extract 0 ((opT o).size - 1))).2 = true → (readB ((opT o).extract 0 ((opT o).size - 1))).1 ≠ o := by
  intro h e
  obtain ⟨hb, he⟩ := readB_ok h
  rw [e] at he
  have h1 := congrArg ByteArray.size he
  have h2 := opT_pos ho
  simp only [ByteArray.size_extract] at h1
  omega

end Go.Proofs.YtplicodloanljaaDoor
