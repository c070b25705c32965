/- The words of the program's head, one by one: what a claim asks of the head, at little cost. -/
import Derived.Test.YtjbmhmlmgihplaaRows
import Derived.WalkKit
import Derived.ProofKit
import Derived.OpenShut
namespace Go.Proofs.Ytjbmhmlmgihplaa
open Go.ChangeShapes Go.WideShapes Go.ChangeAt Go.RowKit
set_option maxRecDepth 100000

/-- The words of a text, with what has been read of the word at hand. -/
def wordsGo : List Char → List Char → List (List Char)
  | [], acc => [acc.reverse]
  | c :: r, acc => if c = Char.ofNat 32 then acc.reverse :: wordsGo r [] else wordsGo r (c :: acc)

theorem words_sp (r : List Char) : wordsSigns (Char.ofNat 32 :: r) = [] :: wordsSigns r := rfl

theorem words_other (c : Char) (r : List Char) (h : c ≠ Char.ofNat 32) : wordsSigns (c :: r) = match wordsSigns r with
    | w :: ws => (c :: w) :: ws
    | [] => [[c]] := wordsSigns.eq_3 c r h

theorem words_ne : ∀ l, wordsSigns l ≠ []
  | [] => by intro h; cases h
  | c :: r => by
    by_cases h : c = Char.ofNat 32
    · subst h; rw [words_sp]; intro e; cases e
    · rw [words_other c r h]
      split
      · intro e; cases e
      · intro e; cases e

theorem words_go : ∀ (l acc : List Char), wordsGo l acc = (acc.reverse ++ (wordsSigns l).headD []) :: (wordsSigns l).tail
  | [], acc => by simp [wordsGo, wordsSigns]
  | c :: r, acc => by
    have hne := words_ne r
    by_cases h : c = Char.ofNat 32
    · subst h
      rw [words_sp, wordsGo, if_pos rfl, words_go r []]
      cases hw : wordsSigns r with
      | nil => exact absurd hw hne
      | cons w ws => simp
    · rw [words_other c r h, wordsGo, if_neg h, words_go r (c :: acc)]
      cases hw : wordsSigns r with
      | nil => exact absurd hw hne
      | cons w ws => simp

theorem words_eq (l : List Char) : wordsSigns l = wordsGo l [] := by
  rw [words_go]
  cases hw : wordsSigns l with
  | nil => exact absurd hw (words_ne l)
  | cons w ws => simp

theorem chars_of {s : String} {l : List Char} (h : s = String.ofList l) : s.toList = l := by rw [h]; exact String.toList_ofList

def headChars : { l : List Char // Try.prog.initOrder.toList = l } := ⟨_, chars_of (by unfold Try.prog Try.progTables; exact rfl)⟩

theorem head_eq : wordsSigns Try.prog.initOrder.toList = wordsGo headChars.1 [] := by rw [← words_eq]; exact congrArg wordsSigns headChars.2

theorem make_of (P : Program) (ws : List (List Char)) (h : wordsSigns P.initOrder.toList = ws) (c : List Char) (r : List (List Char)) (hw : behindMainWord ws = c :: r) (hc : c = "cut".toList) : P.make = some .cut := by
  unfold Program.make
  rw [h, hw]
  subst hc
  kernel_rfl

theorem may_of (P : Program) (ws : List (List Char)) (h : wordsSigns P.initOrder.toList = ws) (c : List Char) (r : List (List Char)) (hw : behindMainWord ws = c :: r) (hc : c = "cut".toList)
    (h1 : P.laysLater = false) (h2 : P.bearsReflect = false) (h3 : P.doorFits [] = true) : P.mayEnter = true := by
  unfold Program.mayEnter
  rw [h, hw]
  subst hc
  have hs : stripLifts liftWords ("cut".toList :: r) = ([], "cut".toList :: r) := by kernel_rfl
  dsimp only
  rw [hs, h1, h2, h3]
  exact rfl

theorem head_cut : behindMainWord (wordsGo headChars.1 []) = "cut".toList :: (behindMainWord (wordsGo headChars.1 [])).tail := by kernel_rfl

theorem head_make : Try.prog.make = some .cut := make_of _ _ head_eq _ _ head_cut rfl

theorem head_may : Try.prog.mayEnter = true := may_of _ _ head_eq _ _ head_cut rfl (by kernel_rfl) (by kernel_rfl) (by kernel_rfl)

theorem head_lifts : Try.prog.liftsFinal = false := by
  unfold Program.liftsFinal Program.headLifts
  rw [head_eq]
  kernel_rfl

end Go.Proofs.Ytjbmhmlmgihplaa
