/- How the model reads a change's text: a number, a word. -/
import Derived.Test.YtplicodloanljaaOp
namespace Go.Proofs.Ytplicodloanljaa
open Go.RowKit
set_option linter.unusedVariables false
set_option maxRecDepth 100000

def digB (c : UInt8) : Bool := decide (48 ≤ c.toNat) && decide (c.toNat ≤ 57)

def decV (l : List UInt8) : Int := l.foldl (fun n c => 10 * n + ((c.toNat : Int) - 48)) 0

/-- A number of one figure, or two; -1, if it is none. -/
def decF (l : List UInt8) : Int := if (decide (1 ≤ l.length) && decide (l.length ≤ 2)) && l.all digB then decV l else -1

theorem decF_long {s : ByteArray} (h : s.size < 1 ∨ 2 < s.size) : decF s.data.toList = -1 := by
  have hl : s.data.toList.length = s.size := by simp
  unfold decF
  rw [if_neg]
  simp only [hl, Bool.and_eq_true, decide_eq_true_eq]
  omega

theorem decF_bad (s : ByteArray) (k : Nat) (h : k < s.size) (hc : digB s[k] = false) : decF s.data.toList = -1 := by
  unfold decF
  rw [if_neg]
  simp only [Bool.and_eq_true]
  rintro ⟨_, ha⟩
  rw [← List.take_append_drop (k + 1) s.data.toList, List.all_append, take_snoc s k h, List.all_append] at ha
  simp [hc] at ha

theorem decF_all {s : ByteArray} (h1 : 1 ≤ s.size) (h2 : s.size ≤ 2) (ha : s.data.toList.all digB = true) : decF s.data.toList = decV s.data.toList := by
  have hl : s.data.toList.length = s.size := by simp
  unfold decF
  rw [if_pos]
  simp only [hl, Bool.and_eq_true, decide_eq_true_eq]
  exact ⟨⟨h1, h2⟩, ha⟩

theorem decV_snoc (s : ByteArray) (k : Nat) (h : k < s.size) : decV (s.data.toList.take (k + 1)) = 10 * decV (s.data.toList.take k) + ((s[k].toNat : Int) - 48) := by
  rw [take_snoc s k h]; simp [decV]

theorem dig_snoc (s : ByteArray) (k : Nat) (h : k < s.size) (ha : (s.data.toList.take k).all digB = true) (hc : digB s[k] = true) :
    (s.data.toList.take (k + 1)).all digB = true := by
  rw [take_snoc s k h, List.all_append, ha]; simp [hc]

/-- A text cut at its blanks: one byte more. -/
def cutStep (ws : List ByteArray) (c : UInt8) : List ByteArray := if c.toNat = 32 then ws ++ [⟨#[]⟩] else ws.set (ws.length - 1) (ws.getD (ws.length - 1) ⟨#[]⟩ ++ ⟨#[c]⟩)

def cutF (l : List UInt8) : List ByteArray := l.foldl cutStep [⟨#[]⟩]

theorem cutF_snoc (s : ByteArray) (k : Nat) (h : k < s.size) : cutF (s.data.toList.take (k + 1)) = cutStep (cutF (s.data.toList.take k)) s[k] := by
  rw [take_snoc s k h]; simp [cutF]

def strs (ws : List ByteArray) : List Value := ws.map Value.string

theorem strs_len (ws : List ByteArray) : (strs ws).length = ws.length := by simp [strs]

theorem strs_at (ws : List ByteArray) (i : Nat) (h : i < ws.length) : (strs ws)[i]? = some (.string (ws.getD i ⟨#[]⟩)) := by
  simp [strs, List.getD_eq_getElem?_getD, List.getElem?_eq_getElem h]

theorem strs_set (ws : List ByteArray) (i : Nat) (x : ByteArray) : (strs ws).set i (.string x) = strs (ws.set i x) := by
  simp [strs, List.map_set]

theorem infoStr : (Try.prog.info? 9).map (fun i => (i.zero, i.size, i.bytes)) = some (some (.string ⟨#[]⟩), 1, 16) := by kernel_rfl

/-- A word is appended. -/
theorem wpList_append_str {ops : Array Oper} {rest : List Oper} {x : Oper} {a : Act} {Q : Exit → Act → World → Prop} (W : World) (hgd : x.guard = none) (s y : Operand)
    (ho : x.op = .call { callee := .builtin .append, args := #[s, y], argTypes := #[37, 37] })
    (B : Nat) (v : Value) (k : Nat) (xs : List Value) (hV : W.ownsRow B 9 1 v k xs) (hs : a.eval s = v) (tx : ByteArray)
    (hx : a.eval y = .slice (some ⟨W.heap.size, 0, none⟩) 1 1) (hk : k ≤ 1000) (hB : B ≤ W.heap.size)
    (h : ∀ g cap w1, w1.ownsRow B 9 1 (.slice (some ⟨g, 0, none⟩) (k + 1) cap) (k + 1) (xs ++ [.string tx]) → W.grownBy w1 v.ownBlock → (v.ownBlock = some g ∨ W.heap.size ≤ g) → g < w1.heap.size → wpList Try.prog ops Q rest (a.put x.dst (.slice (some ⟨g, 0, none⟩) (k + 1) cap)) w1) :
    wpList Try.prog ops Q (x :: rest) a (W.alloc (.cells #[.string tx] 9)) := by
  obtain ⟨i0, hi, hz0, hz1, hz2⟩ := info_parts infoStr
  have hg1 := World.grownBy_alloc W (.cells #[.string tx] 9) none
  have hV1 := hV.kept hg1 (by
    rcases hV.2 with ⟨e, _⟩ | ⟨g, cap, cur, e, _⟩
    · exact .inl (by rw [e]; rfl)
    · exact .inr (by rw [e]; simp [Value.ownBlock]))
  refine wpList_append_lies (W.alloc (.cells #[.string tx] 9)) hgd s y 37 ho B 9 i0 _ 1 16 Try.underlying37 hi hz0 hz1 hz2 rfl (by decide) v k xs hs hV1
    ⟨W.heap.size, 0, none⟩ 1 1 [.string tx] hx rfl (World.news_of_block (cs := #[.string tx]) (heap_alloc_new W _)) ?_ (by decide) (by unfold maxLen; omega) (by omega) (by simp; omega) (W.heap.size + 1) (by simp) ?_
  · intro u hu
    simp only [List.mem_cons, List.not_mem_nil, or_false] at hu
    rcases hu with rfl
    rfl
  · intro g cap w1 hown hgrow hat hlt
    refine h g cap w1 hown ⟨hgrow.os, hgrow.tape, hgrow.output, by have := hgrow.size; simp at this; omega, fun k hk hn => ?_⟩ (hat.imp id (fun e => by omega)) hlt
    exact (hgrow.block k (by simp; omega) hn).trans (heap_alloc_old W _ hk)

end Go.Proofs.Ytplicodloanljaa
