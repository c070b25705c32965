/-
  No cell of these rows narrows 'for every input' (looked for: loops, veiled, ifaces, maps, wideKeys, modest, calm, conditions, laid).
  DERIVED. THE GIVEN ROWS OF THIS SEAT. 18 by the template 'for every input the law returns true; each argument reads behind the call as it read before'; 0 by the template 'total and deterministic' (their statements: YtgajhknljnhfmaaTotals.lean).
  GIVEN WITH THE SEED: the statements are not yours to turn. If you find one false, say at which input.
  Laid BY PROGRAM, IN A SANDBOX (cutbox-rows.mjs): the forced cells as the released guide's own fill.sh prints them over the translation c4b1451f8d1ce5c4… (all of the seat's roots in one cut). By AI agents, Wed Nov 11 2026. No macro, syntax, notation, axiom, sorry.
-/
import Derived.Test.YtgajhknljnhfmaaChecked
import GoSem.Claim
import GoSem.ClaimJoined
import GoSem.ClaimMapViews
import Derived.JoinedTies
import Derived.KernelRfl
namespace Go.Proofs.Ytgajhknljnhfmaa
/- THE CELL 'sum', in the pinned program and in every row, IS THE sha256 OF THE DUMP (.gsa) THAT YtgajhknljnhfmaaProg.lean LOADS. Nothing in Lean hashes anything: it is a label: what it is worth is what the hold of that sum in a sandbox is worth. -/
noncomputable def Try.pinned : Pinned := { name := "ytgajhknljnhfmaa", sum := "c4b1451f8d1ce5c41247c9ea5ee41bc5167ab4c98305cf89e59d0b21f3b46953", checked := Try.checked }
namespace Rows
def none {H : Type} : Left H := { results := [], args := [] }

/-- 'laws.FnNextRound': WHATEVER THE INPUT: true; the input reads as it did. -/
def fnNextRoundSpec : ChangeSpec := { name := "fnNextRound", fn := fun _ => fun
  | [d] => { results := [.lit (.bool true)], args := [d] }
  | _ => none }
def fnNextRoundRow : OpenClaim := { program := "ytgajhknljnhfmaa", sum := "c4b1451f8d1ce5c41247c9ea5ee41bc5167ab4c98305cf89e59d0b21f3b46953", func := "loop.example/garner/laws.FnNextRound", spec := "fnNextRound", unfollowed := true, recurses := true, apart := false }
def FnNextRoundSaid : Prop := fnNextRoundRow.holds Try.pinned (OpenSpec.ofChange fnNextRoundSpec)

/-- ITS FALSE NEIGHBOUR: 'it returns false'. Refute it at one input. -/
def fnNextRoundWrong : ChangeSpec := { name := "fnNextRound", fn := fun _ => fun
  | [d] => { results := [.lit (.bool false)], args := [d] }
  | _ => none }
def FnNextRoundWrongFalsely : Prop := fnNextRoundRow.holds Try.pinned (OpenSpec.ofChange fnNextRoundWrong)

/-- 'laws.FnPutUses': WHATEVER THE INPUT: true; the input reads as it did. -/
def fnPutUsesSpec : ChangeSpec := { name := "fnPutUses", fn := fun _ => fun
  | [d] => { results := [.lit (.bool true)], args := [d] }
  | _ => none }
def fnPutUsesRow : OpenClaim := { program := "ytgajhknljnhfmaa", sum := "c4b1451f8d1ce5c41247c9ea5ee41bc5167ab4c98305cf89e59d0b21f3b46953", func := "loop.example/garner/laws.FnPutUses", spec := "fnPutUses", unfollowed := true, recurses := true, apart := false }
def FnPutUsesSaid : Prop := fnPutUsesRow.holds Try.pinned (OpenSpec.ofChange fnPutUsesSpec)

/-- ITS FALSE NEIGHBOUR: 'it returns false'. Refute it at one input. -/
def fnPutUsesWrong : ChangeSpec := { name := "fnPutUses", fn := fun _ => fun
  | [d] => { results := [.lit (.bool false)], args := [d] }
  | _ => none }
def FnPutUsesWrongFalsely : Prop := fnPutUsesRow.holds Try.pinned (OpenSpec.ofChange fnPutUsesWrong)

/-- 'laws.FnPutFree': WHATEVER THE INPUT: true; the input reads as it did. -/
def fnPutFreeSpec : ChangeSpec := { name := "fnPutFree", fn := fun _ => fun
  | [d] => { results := [.lit (.bool true)], args := [d] }
  | _ => none }
def fnPutFreeRow : OpenClaim := { program := "ytgajhknljnhfmaa", sum := "c4b1451f8d1ce5c41247c9ea5ee41bc5167ab4c98305cf89e59d0b21f3b46953", func := "loop.example/garner/laws.FnPutFree", spec := "fnPutFree", unfollowed := true, recurses := true, apart := false }
def FnPutFreeSaid : Prop := fnPutFreeRow.holds Try.pinned (OpenSpec.ofChange fnPutFreeSpec)

/-- ITS FALSE NEIGHBOUR: 'it returns false'. Refute it at one input. -/
def fnPutFreeWrong : ChangeSpec := { name := "fnPutFree", fn := fun _ => fun
  | [d] => { results := [.lit (.bool false)], args := [d] }
  | _ => none }
def FnPutFreeWrongFalsely : Prop := fnPutFreeRow.holds Try.pinned (OpenSpec.ofChange fnPutFreeWrong)

/-- 'laws.FnPutDrop': WHATEVER THE INPUT: true; the input reads as it did. -/
def fnPutDropSpec : ChangeSpec := { name := "fnPutDrop", fn := fun _ => fun
  | [d] => { results := [.lit (.bool true)], args := [d] }
  | _ => none }
def fnPutDropRow : OpenClaim := { program := "ytgajhknljnhfmaa", sum := "c4b1451f8d1ce5c41247c9ea5ee41bc5167ab4c98305cf89e59d0b21f3b46953", func := "loop.example/garner/laws.FnPutDrop", spec := "fnPutDrop", unfollowed := true, recurses := true, apart := false }
def FnPutDropSaid : Prop := fnPutDropRow.holds Try.pinned (OpenSpec.ofChange fnPutDropSpec)

/-- ITS FALSE NEIGHBOUR: 'it returns false'. Refute it at one input. -/
def fnPutDropWrong : ChangeSpec := { name := "fnPutDrop", fn := fun _ => fun
  | [d] => { results := [.lit (.bool false)], args := [d] }
  | _ => none }
def FnPutDropWrongFalsely : Prop := fnPutDropRow.holds Try.pinned (OpenSpec.ofChange fnPutDropWrong)

/-- 'laws.FnDropUses': WHATEVER THE INPUT: true; the input reads as it did. -/
def fnDropUsesSpec : ChangeSpec := { name := "fnDropUses", fn := fun _ => fun
  | [d] => { results := [.lit (.bool true)], args := [d] }
  | _ => none }
def fnDropUsesRow : OpenClaim := { program := "ytgajhknljnhfmaa", sum := "c4b1451f8d1ce5c41247c9ea5ee41bc5167ab4c98305cf89e59d0b21f3b46953", func := "loop.example/garner/laws.FnDropUses", spec := "fnDropUses", apart := false }
def FnDropUsesSaid : Prop := fnDropUsesRow.holds Try.pinned (OpenSpec.ofChange fnDropUsesSpec)

/-- ITS FALSE NEIGHBOUR: 'it returns false'. Refute it at one input. -/
def fnDropUsesWrong : ChangeSpec := { name := "fnDropUses", fn := fun _ => fun
  | [d] => { results := [.lit (.bool false)], args := [d] }
  | _ => none }
def FnDropUsesWrongFalsely : Prop := fnDropUsesRow.holds Try.pinned (OpenSpec.ofChange fnDropUsesWrong)

/-- 'laws.FnPutTwo': WHATEVER THE INPUT: true; the input reads as it did. -/
def fnPutTwoSpec : ChangeSpec := { name := "fnPutTwo", fn := fun _ => fun
  | [d1, d2] => { results := [.lit (.bool true)], args := [d1, d2] }
  | _ => none }
def fnPutTwoRow : OpenClaim := { program := "ytgajhknljnhfmaa", sum := "c4b1451f8d1ce5c41247c9ea5ee41bc5167ab4c98305cf89e59d0b21f3b46953", func := "loop.example/garner/laws.FnPutTwo", spec := "fnPutTwo", unfollowed := true, recurses := true, apart := false }
def FnPutTwoSaid : Prop := fnPutTwoRow.holds Try.pinned (OpenSpec.ofChange fnPutTwoSpec)

/-- ITS FALSE NEIGHBOUR: 'it returns false'. Refute it at one input. -/
def fnPutTwoWrong : ChangeSpec := { name := "fnPutTwo", fn := fun _ => fun
  | [d1, d2] => { results := [.lit (.bool false)], args := [d1, d2] }
  | _ => none }
def FnPutTwoWrongFalsely : Prop := fnPutTwoRow.holds Try.pinned (OpenSpec.ofChange fnPutTwoWrong)

/-- 'laws.FnDropAll': WHATEVER THE INPUT: true; the input reads as it did. -/
def fnDropAllSpec : ChangeSpec := { name := "fnDropAll", fn := fun _ => fun
  | [d] => { results := [.lit (.bool true)], args := [d] }
  | _ => none }
def fnDropAllRow : OpenClaim := { program := "ytgajhknljnhfmaa", sum := "c4b1451f8d1ce5c41247c9ea5ee41bc5167ab4c98305cf89e59d0b21f3b46953", func := "loop.example/garner/laws.FnDropAll", spec := "fnDropAll", apart := false }
def FnDropAllSaid : Prop := fnDropAllRow.holds Try.pinned (OpenSpec.ofChange fnDropAllSpec)

/-- ITS FALSE NEIGHBOUR: 'it returns false'. Refute it at one input. -/
def fnDropAllWrong : ChangeSpec := { name := "fnDropAll", fn := fun _ => fun
  | [d] => { results := [.lit (.bool false)], args := [d] }
  | _ => none }
def FnDropAllWrongFalsely : Prop := fnDropAllRow.holds Try.pinned (OpenSpec.ofChange fnDropAllWrong)

/-- 'laws.FnFindSame': WHATEVER THE INPUT: true; the input reads as it did. -/
def fnFindSameSpec : ChangeSpec := { name := "fnFindSame", fn := fun _ => fun
  | [d1, d2] => { results := [.lit (.bool true)], args := [d1, d2] }
  | _ => none }
def fnFindSameRow : OpenClaim := { program := "ytgajhknljnhfmaa", sum := "c4b1451f8d1ce5c41247c9ea5ee41bc5167ab4c98305cf89e59d0b21f3b46953", func := "loop.example/garner/laws.FnFindSame", spec := "fnFindSame", unfollowed := true, recurses := true, apart := false }
def FnFindSameSaid : Prop := fnFindSameRow.holds Try.pinned (OpenSpec.ofChange fnFindSameSpec)

/-- ITS FALSE NEIGHBOUR: 'it returns false'. Refute it at one input. -/
def fnFindSameWrong : ChangeSpec := { name := "fnFindSame", fn := fun _ => fun
  | [d1, d2] => { results := [.lit (.bool false)], args := [d1, d2] }
  | _ => none }
def FnFindSameWrongFalsely : Prop := fnFindSameRow.holds Try.pinned (OpenSpec.ofChange fnFindSameWrong)

/-- 'laws.FnVolUses': WHATEVER THE INPUT: true; the input reads as it did. -/
def fnVolUsesSpec : ChangeSpec := { name := "fnVolUses", fn := fun _ => fun
  | [d] => { results := [.lit (.bool true)], args := [d] }
  | _ => none }
def fnVolUsesRow : OpenClaim := { program := "ytgajhknljnhfmaa", sum := "c4b1451f8d1ce5c41247c9ea5ee41bc5167ab4c98305cf89e59d0b21f3b46953", func := "loop.example/garner/laws.FnVolUses", spec := "fnVolUses", unfollowed := true, recurses := true, apart := false }
def FnVolUsesSaid : Prop := fnVolUsesRow.holds Try.pinned (OpenSpec.ofChange fnVolUsesSpec)

/-- ITS FALSE NEIGHBOUR: 'it returns false'. Refute it at one input. -/
def fnVolUsesWrong : ChangeSpec := { name := "fnVolUses", fn := fun _ => fun
  | [d] => { results := [.lit (.bool false)], args := [d] }
  | _ => none }
def FnVolUsesWrongFalsely : Prop := fnVolUsesRow.holds Try.pinned (OpenSpec.ofChange fnVolUsesWrong)

/-- 'laws.FnVolForm': WHATEVER THE INPUT: true; the input reads as it did. -/
def fnVolFormSpec : ChangeSpec := { name := "fnVolForm", fn := fun _ => fun
  | [d1, d2] => { results := [.lit (.bool true)], args := [d1, d2] }
  | _ => none }
def fnVolFormRow : OpenClaim := { program := "ytgajhknljnhfmaa", sum := "c4b1451f8d1ce5c41247c9ea5ee41bc5167ab4c98305cf89e59d0b21f3b46953", func := "loop.example/garner/laws.FnVolForm", spec := "fnVolForm", unfollowed := true, recurses := true, apart := false }
def FnVolFormSaid : Prop := fnVolFormRow.holds Try.pinned (OpenSpec.ofChange fnVolFormSpec)

/-- ITS FALSE NEIGHBOUR: 'it returns false'. Refute it at one input. -/
def fnVolFormWrong : ChangeSpec := { name := "fnVolForm", fn := fun _ => fun
  | [d1, d2] => { results := [.lit (.bool false)], args := [d1, d2] }
  | _ => none }
def FnVolFormWrongFalsely : Prop := fnVolFormRow.holds Try.pinned (OpenSpec.ofChange fnVolFormWrong)

/-- 'laws.FnVolText': WHATEVER THE INPUT: true; the input reads as it did. -/
def fnVolTextSpec : ChangeSpec := { name := "fnVolText", fn := fun _ => fun
  | [d] => { results := [.lit (.bool true)], args := [d] }
  | _ => none }
def fnVolTextRow : OpenClaim := { program := "ytgajhknljnhfmaa", sum := "c4b1451f8d1ce5c41247c9ea5ee41bc5167ab4c98305cf89e59d0b21f3b46953", func := "loop.example/garner/laws.FnVolText", spec := "fnVolText", unfollowed := true, recurses := true, apart := false }
def FnVolTextSaid : Prop := fnVolTextRow.holds Try.pinned (OpenSpec.ofChange fnVolTextSpec)

/-- ITS FALSE NEIGHBOUR: 'it returns false'. Refute it at one input. -/
def fnVolTextWrong : ChangeSpec := { name := "fnVolText", fn := fun _ => fun
  | [d] => { results := [.lit (.bool false)], args := [d] }
  | _ => none }
def FnVolTextWrongFalsely : Prop := fnVolTextRow.holds Try.pinned (OpenSpec.ofChange fnVolTextWrong)

/-- 'laws.FnVolCount': WHATEVER THE INPUT: true; the input reads as it did. -/
def fnVolCountSpec : ChangeSpec := { name := "fnVolCount", fn := fun _ => fun
  | [d1, d2] => { results := [.lit (.bool true)], args := [d1, d2] }
  | _ => none }
def fnVolCountRow : OpenClaim := { program := "ytgajhknljnhfmaa", sum := "c4b1451f8d1ce5c41247c9ea5ee41bc5167ab4c98305cf89e59d0b21f3b46953", func := "loop.example/garner/laws.FnVolCount", spec := "fnVolCount", unfollowed := true, recurses := true, apart := false }
def FnVolCountSaid : Prop := fnVolCountRow.holds Try.pinned (OpenSpec.ofChange fnVolCountSpec)

/-- ITS FALSE NEIGHBOUR: 'it returns false'. Refute it at one input. -/
def fnVolCountWrong : ChangeSpec := { name := "fnVolCount", fn := fun _ => fun
  | [d1, d2] => { results := [.lit (.bool false)], args := [d1, d2] }
  | _ => none }
def FnVolCountWrongFalsely : Prop := fnVolCountRow.holds Try.pinned (OpenSpec.ofChange fnVolCountWrong)

/-- 'laws.FnExactTextNext': WHATEVER THE INPUT: true; the input reads as it did. -/
def fnExactTextNextSpec : ChangeSpec := { name := "fnExactTextNext", fn := fun _ => fun
  | [d] => { results := [.lit (.bool true)], args := [d] }
  | _ => none }
def fnExactTextNextRow : OpenClaim := { program := "ytgajhknljnhfmaa", sum := "c4b1451f8d1ce5c41247c9ea5ee41bc5167ab4c98305cf89e59d0b21f3b46953", func := "loop.example/garner/laws.FnExactTextNext", spec := "fnExactTextNext", unfollowed := true, recurses := true, apart := false }
def FnExactTextNextSaid : Prop := fnExactTextNextRow.holds Try.pinned (OpenSpec.ofChange fnExactTextNextSpec)

/-- ITS FALSE NEIGHBOUR: 'it returns false'. Refute it at one input. -/
def fnExactTextNextWrong : ChangeSpec := { name := "fnExactTextNext", fn := fun _ => fun
  | [d] => { results := [.lit (.bool false)], args := [d] }
  | _ => none }
def FnExactTextNextWrongFalsely : Prop := fnExactTextNextRow.holds Try.pinned (OpenSpec.ofChange fnExactTextNextWrong)

/-- 'laws.FnExactStorePut': WHATEVER THE INPUT: true; the input reads as it did. -/
def fnExactStorePutSpec : ChangeSpec := { name := "fnExactStorePut", fn := fun _ => fun
  | [d1, d2] => { results := [.lit (.bool true)], args := [d1, d2] }
  | _ => none }
def fnExactStorePutRow : OpenClaim := { program := "ytgajhknljnhfmaa", sum := "c4b1451f8d1ce5c41247c9ea5ee41bc5167ab4c98305cf89e59d0b21f3b46953", func := "loop.example/garner/laws.FnExactStorePut", spec := "fnExactStorePut", unfollowed := true, recurses := true, apart := false }
def FnExactStorePutSaid : Prop := fnExactStorePutRow.holds Try.pinned (OpenSpec.ofChange fnExactStorePutSpec)

/-- ITS FALSE NEIGHBOUR: 'it returns false'. Refute it at one input. -/
def fnExactStorePutWrong : ChangeSpec := { name := "fnExactStorePut", fn := fun _ => fun
  | [d1, d2] => { results := [.lit (.bool false)], args := [d1, d2] }
  | _ => none }
def FnExactStorePutWrongFalsely : Prop := fnExactStorePutRow.holds Try.pinned (OpenSpec.ofChange fnExactStorePutWrong)

/-- 'laws.FnExactStoreDrop': WHATEVER THE INPUT: true; the input reads as it did. -/
def fnExactStoreDropSpec : ChangeSpec := { name := "fnExactStoreDrop", fn := fun _ => fun
  | [d1, d2] => { results := [.lit (.bool true)], args := [d1, d2] }
  | _ => none }
def fnExactStoreDropRow : OpenClaim := { program := "ytgajhknljnhfmaa", sum := "c4b1451f8d1ce5c41247c9ea5ee41bc5167ab4c98305cf89e59d0b21f3b46953", func := "loop.example/garner/laws.FnExactStoreDrop", spec := "fnExactStoreDrop", apart := false }
def FnExactStoreDropSaid : Prop := fnExactStoreDropRow.holds Try.pinned (OpenSpec.ofChange fnExactStoreDropSpec)

/-- ITS FALSE NEIGHBOUR: 'it returns false'. Refute it at one input. -/
def fnExactStoreDropWrong : ChangeSpec := { name := "fnExactStoreDrop", fn := fun _ => fun
  | [d1, d2] => { results := [.lit (.bool false)], args := [d1, d2] }
  | _ => none }
def FnExactStoreDropWrongFalsely : Prop := fnExactStoreDropRow.holds Try.pinned (OpenSpec.ofChange fnExactStoreDropWrong)

/-- 'laws.FnExactVolOk': WHATEVER THE INPUT: true; the input reads as it did. -/
def fnExactVolOkSpec : ChangeSpec := { name := "fnExactVolOk", fn := fun _ => fun
  | [d] => { results := [.lit (.bool true)], args := [d] }
  | _ => none }
def fnExactVolOkRow : OpenClaim := { program := "ytgajhknljnhfmaa", sum := "c4b1451f8d1ce5c41247c9ea5ee41bc5167ab4c98305cf89e59d0b21f3b46953", func := "loop.example/garner/laws.FnExactVolOk", spec := "fnExactVolOk", unfollowed := true, recurses := true, apart := false }
def FnExactVolOkSaid : Prop := fnExactVolOkRow.holds Try.pinned (OpenSpec.ofChange fnExactVolOkSpec)

/-- ITS FALSE NEIGHBOUR: 'it returns false'. Refute it at one input. -/
def fnExactVolOkWrong : ChangeSpec := { name := "fnExactVolOk", fn := fun _ => fun
  | [d] => { results := [.lit (.bool false)], args := [d] }
  | _ => none }
def FnExactVolOkWrongFalsely : Prop := fnExactVolOkRow.holds Try.pinned (OpenSpec.ofChange fnExactVolOkWrong)

/-- 'laws.FnExactVolUses': WHATEVER THE INPUT: true; the input reads as it did. -/
def fnExactVolUsesSpec : ChangeSpec := { name := "fnExactVolUses", fn := fun _ => fun
  | [d1, d2] => { results := [.lit (.bool true)], args := [d1, d2] }
  | _ => none }
def fnExactVolUsesRow : OpenClaim := { program := "ytgajhknljnhfmaa", sum := "c4b1451f8d1ce5c41247c9ea5ee41bc5167ab4c98305cf89e59d0b21f3b46953", func := "loop.example/garner/laws.FnExactVolUses", spec := "fnExactVolUses", unfollowed := true, recurses := true, apart := false }
def FnExactVolUsesSaid : Prop := fnExactVolUsesRow.holds Try.pinned (OpenSpec.ofChange fnExactVolUsesSpec)

/-- ITS FALSE NEIGHBOUR: 'it returns false'. Refute it at one input. -/
def fnExactVolUsesWrong : ChangeSpec := { name := "fnExactVolUses", fn := fun _ => fun
  | [d1, d2] => { results := [.lit (.bool false)], args := [d1, d2] }
  | _ => none }
def FnExactVolUsesWrongFalsely : Prop := fnExactVolUsesRow.holds Try.pinned (OpenSpec.ofChange fnExactVolUsesWrong)

/-- 'laws.FnExactVolText': WHATEVER THE INPUT: true; the input reads as it did. -/
def fnExactVolTextSpec : ChangeSpec := { name := "fnExactVolText", fn := fun _ => fun
  | [d1, d2] => { results := [.lit (.bool true)], args := [d1, d2] }
  | _ => none }
def fnExactVolTextRow : OpenClaim := { program := "ytgajhknljnhfmaa", sum := "c4b1451f8d1ce5c41247c9ea5ee41bc5167ab4c98305cf89e59d0b21f3b46953", func := "loop.example/garner/laws.FnExactVolText", spec := "fnExactVolText", unfollowed := true, recurses := true, apart := false }
def FnExactVolTextSaid : Prop := fnExactVolTextRow.holds Try.pinned (OpenSpec.ofChange fnExactVolTextSpec)

/-- ITS FALSE NEIGHBOUR: 'it returns false'. Refute it at one input. -/
def fnExactVolTextWrong : ChangeSpec := { name := "fnExactVolText", fn := fun _ => fun
  | [d1, d2] => { results := [.lit (.bool false)], args := [d1, d2] }
  | _ => none }
def FnExactVolTextWrongFalsely : Prop := fnExactVolTextRow.holds Try.pinned (OpenSpec.ofChange fnExactVolTextWrong)

/- THE SECOND FORM. 'bulk': how many values and letters a reading holds, each counted each time it is reached (what is shared counts as often as it is met; a slice's spare places count too). A statement '..UptoSaid' is the law's where the arguments, and the package variables that the reading takes, are together of bulk at most 1048576: NARROWER than '..Said'. Prove '..Said' where nothing that the law and all that it calls make is longer than what came in: it says more and counts as full. Else prove '..UptoSaid'. A law counts once. -/
mutual
def uptoBulk {H : Type} : DataW H → Nat
  | .lit (.string bytes) => bytes.length + 1
  | .lit _ => 1
  | .nil => 1
  | .ptr d => uptoBulk d + 1
  | .slice elems spare => uptoBulkAll elems + uptoBulkAll spare + 1
  | .agg parts => uptoBulkAll parts + 1
  | .iface _ d => uptoBulk d + 1
  | .map entries => uptoBulkEntries entries + 1
  | .held _ => 1
def uptoBulkAll {H : Type} : List (DataW H) → Nat
  | [] => 0
  | d :: r => uptoBulk d + uptoBulkAll r
def uptoBulkEntries {H : Type} : List (Lit × DataW H) → Nat
  | [] => 0
  | x :: r => uptoBulkEntry x + uptoBulkEntries r
def uptoBulkEntry {H : Type} : Lit × DataW H → Nat
  | (.string bytes, d) => bytes.length + uptoBulk d + 1
  | (_, d) => uptoBulk d + 1
 end
def uptoSmall : (H : Type) → List (DataW H) → Bool := fun _ ds => decide (uptoBulkAll ds ≤ 1048576)
def OpenSpec.upto (s : _root_.Go.ChangeSpec) : _root_.Go.OpenSpec := { _root_.Go.OpenSpec.ofChange s with cond := some uptoSmall }

/-- 'laws.FnNextRound', WHERE WHAT IT READS IS OF BULK AT MOST 1048576: true; the input reads as it did. -/
def fnNextRoundUptoRow : OpenClaim := { program := "ytgajhknljnhfmaa", sum := "c4b1451f8d1ce5c41247c9ea5ee41bc5167ab4c98305cf89e59d0b21f3b46953", func := "loop.example/garner/laws.FnNextRound", spec := "fnNextRound", unfollowed := true, recurses := true, apart := false, narrowed := true }
def FnNextRoundUptoSaid : Prop := fnNextRoundUptoRow.holds Try.pinned (OpenSpec.upto fnNextRoundSpec)

/-- 'laws.FnPutUses', WHERE WHAT IT READS IS OF BULK AT MOST 1048576: true; the input reads as it did. -/
def fnPutUsesUptoRow : OpenClaim := { program := "ytgajhknljnhfmaa", sum := "c4b1451f8d1ce5c41247c9ea5ee41bc5167ab4c98305cf89e59d0b21f3b46953", func := "loop.example/garner/laws.FnPutUses", spec := "fnPutUses", unfollowed := true, recurses := true, apart := false, narrowed := true }
def FnPutUsesUptoSaid : Prop := fnPutUsesUptoRow.holds Try.pinned (OpenSpec.upto fnPutUsesSpec)

/-- 'laws.FnPutFree', WHERE WHAT IT READS IS OF BULK AT MOST 1048576: true; the input reads as it did. -/
def fnPutFreeUptoRow : OpenClaim := { program := "ytgajhknljnhfmaa", sum := "c4b1451f8d1ce5c41247c9ea5ee41bc5167ab4c98305cf89e59d0b21f3b46953", func := "loop.example/garner/laws.FnPutFree", spec := "fnPutFree", unfollowed := true, recurses := true, apart := false, narrowed := true }
def FnPutFreeUptoSaid : Prop := fnPutFreeUptoRow.holds Try.pinned (OpenSpec.upto fnPutFreeSpec)

/-- 'laws.FnPutDrop', WHERE WHAT IT READS IS OF BULK AT MOST 1048576: true; the input reads as it did. -/
def fnPutDropUptoRow : OpenClaim := { program := "ytgajhknljnhfmaa", sum := "c4b1451f8d1ce5c41247c9ea5ee41bc5167ab4c98305cf89e59d0b21f3b46953", func := "loop.example/garner/laws.FnPutDrop", spec := "fnPutDrop", unfollowed := true, recurses := true, apart := false, narrowed := true }
def FnPutDropUptoSaid : Prop := fnPutDropUptoRow.holds Try.pinned (OpenSpec.upto fnPutDropSpec)

/-- 'laws.FnDropUses', WHERE WHAT IT READS IS OF BULK AT MOST 1048576: true; the input reads as it did. -/
def fnDropUsesUptoRow : OpenClaim := { program := "ytgajhknljnhfmaa", sum := "c4b1451f8d1ce5c41247c9ea5ee41bc5167ab4c98305cf89e59d0b21f3b46953", func := "loop.example/garner/laws.FnDropUses", spec := "fnDropUses", apart := false, narrowed := true }
def FnDropUsesUptoSaid : Prop := fnDropUsesUptoRow.holds Try.pinned (OpenSpec.upto fnDropUsesSpec)

/-- 'laws.FnPutTwo', WHERE WHAT IT READS IS OF BULK AT MOST 1048576: true; the input reads as it did. -/
def fnPutTwoUptoRow : OpenClaim := { program := "ytgajhknljnhfmaa", sum := "c4b1451f8d1ce5c41247c9ea5ee41bc5167ab4c98305cf89e59d0b21f3b46953", func := "loop.example/garner/laws.FnPutTwo", spec := "fnPutTwo", unfollowed := true, recurses := true, apart := false, narrowed := true }
def FnPutTwoUptoSaid : Prop := fnPutTwoUptoRow.holds Try.pinned (OpenSpec.upto fnPutTwoSpec)

/-- 'laws.FnDropAll', WHERE WHAT IT READS IS OF BULK AT MOST 1048576: true; the input reads as it did. -/
def fnDropAllUptoRow : OpenClaim := { program := "ytgajhknljnhfmaa", sum := "c4b1451f8d1ce5c41247c9ea5ee41bc5167ab4c98305cf89e59d0b21f3b46953", func := "loop.example/garner/laws.FnDropAll", spec := "fnDropAll", apart := false, narrowed := true }
def FnDropAllUptoSaid : Prop := fnDropAllUptoRow.holds Try.pinned (OpenSpec.upto fnDropAllSpec)

/-- 'laws.FnFindSame', WHERE WHAT IT READS IS OF BULK AT MOST 1048576: true; the input reads as it did. -/
def fnFindSameUptoRow : OpenClaim := { program := "ytgajhknljnhfmaa", sum := "c4b1451f8d1ce5c41247c9ea5ee41bc5167ab4c98305cf89e59d0b21f3b46953", func := "loop.example/garner/laws.FnFindSame", spec := "fnFindSame", unfollowed := true, recurses := true, apart := false, narrowed := true }
def FnFindSameUptoSaid : Prop := fnFindSameUptoRow.holds Try.pinned (OpenSpec.upto fnFindSameSpec)

/-- 'laws.FnVolUses', WHERE WHAT IT READS IS OF BULK AT MOST 1048576: true; the input reads as it did. -/
def fnVolUsesUptoRow : OpenClaim := { program := "ytgajhknljnhfmaa", sum := "c4b1451f8d1ce5c41247c9ea5ee41bc5167ab4c98305cf89e59d0b21f3b46953", func := "loop.example/garner/laws.FnVolUses", spec := "fnVolUses", unfollowed := true, recurses := true, apart := false, narrowed := true }
def FnVolUsesUptoSaid : Prop := fnVolUsesUptoRow.holds Try.pinned (OpenSpec.upto fnVolUsesSpec)

/-- 'laws.FnVolForm', WHERE WHAT IT READS IS OF BULK AT MOST 1048576: true; the input reads as it did. -/
def fnVolFormUptoRow : OpenClaim := { program := "ytgajhknljnhfmaa", sum := "c4b1451f8d1ce5c41247c9ea5ee41bc5167ab4c98305cf89e59d0b21f3b46953", func := "loop.example/garner/laws.FnVolForm", spec := "fnVolForm", unfollowed := true, recurses := true, apart := false, narrowed := true }
def FnVolFormUptoSaid : Prop := fnVolFormUptoRow.holds Try.pinned (OpenSpec.upto fnVolFormSpec)

/-- 'laws.FnVolText', WHERE WHAT IT READS IS OF BULK AT MOST 1048576: true; the input reads as it did. -/
def fnVolTextUptoRow : OpenClaim := { program := "ytgajhknljnhfmaa", sum := "c4b1451f8d1ce5c41247c9ea5ee41bc5167ab4c98305cf89e59d0b21f3b46953", func := "loop.example/garner/laws.FnVolText", spec := "fnVolText", unfollowed := true, recurses := true, apart := false, narrowed := true }
def FnVolTextUptoSaid : Prop := fnVolTextUptoRow.holds Try.pinned (OpenSpec.upto fnVolTextSpec)

/-- 'laws.FnVolCount', WHERE WHAT IT READS IS OF BULK AT MOST 1048576: true; the input reads as it did. -/
def fnVolCountUptoRow : OpenClaim := { program := "ytgajhknljnhfmaa", sum := "c4b1451f8d1ce5c41247c9ea5ee41bc5167ab4c98305cf89e59d0b21f3b46953", func := "loop.example/garner/laws.FnVolCount", spec := "fnVolCount", unfollowed := true, recurses := true, apart := false, narrowed := true }
def FnVolCountUptoSaid : Prop := fnVolCountUptoRow.holds Try.pinned (OpenSpec.upto fnVolCountSpec)

/-- 'laws.FnExactTextNext', WHERE WHAT IT READS IS OF BULK AT MOST 1048576: true; the input reads as it did. -/
def fnExactTextNextUptoRow : OpenClaim := { program := "ytgajhknljnhfmaa", sum := "c4b1451f8d1ce5c41247c9ea5ee41bc5167ab4c98305cf89e59d0b21f3b46953", func := "loop.example/garner/laws.FnExactTextNext", spec := "fnExactTextNext", unfollowed := true, recurses := true, apart := false, narrowed := true }
def FnExactTextNextUptoSaid : Prop := fnExactTextNextUptoRow.holds Try.pinned (OpenSpec.upto fnExactTextNextSpec)

/-- 'laws.FnExactStorePut', WHERE WHAT IT READS IS OF BULK AT MOST 1048576: true; the input reads as it did. -/
def fnExactStorePutUptoRow : OpenClaim := { program := "ytgajhknljnhfmaa", sum := "c4b1451f8d1ce5c41247c9ea5ee41bc5167ab4c98305cf89e59d0b21f3b46953", func := "loop.example/garner/laws.FnExactStorePut", spec := "fnExactStorePut", unfollowed := true, recurses := true, apart := false, narrowed := true }
def FnExactStorePutUptoSaid : Prop := fnExactStorePutUptoRow.holds Try.pinned (OpenSpec.upto fnExactStorePutSpec)

/-- 'laws.FnExactStoreDrop', WHERE WHAT IT READS IS OF BULK AT MOST 1048576: true; the input reads as it did. -/
def fnExactStoreDropUptoRow : OpenClaim := { program := "ytgajhknljnhfmaa", sum := "c4b1451f8d1ce5c41247c9ea5ee41bc5167ab4c98305cf89e59d0b21f3b46953", func := "loop.example/garner/laws.FnExactStoreDrop", spec := "fnExactStoreDrop", apart := false, narrowed := true }
def FnExactStoreDropUptoSaid : Prop := fnExactStoreDropUptoRow.holds Try.pinned (OpenSpec.upto fnExactStoreDropSpec)

/-- 'laws.FnExactVolOk', WHERE WHAT IT READS IS OF BULK AT MOST 1048576: true; the input reads as it did. -/
def fnExactVolOkUptoRow : OpenClaim := { program := "ytgajhknljnhfmaa", sum := "c4b1451f8d1ce5c41247c9ea5ee41bc5167ab4c98305cf89e59d0b21f3b46953", func := "loop.example/garner/laws.FnExactVolOk", spec := "fnExactVolOk", unfollowed := true, recurses := true, apart := false, narrowed := true }
def FnExactVolOkUptoSaid : Prop := fnExactVolOkUptoRow.holds Try.pinned (OpenSpec.upto fnExactVolOkSpec)

/-- 'laws.FnExactVolUses', WHERE WHAT IT READS IS OF BULK AT MOST 1048576: true; the input reads as it did. -/
def fnExactVolUsesUptoRow : OpenClaim := { program := "ytgajhknljnhfmaa", sum := "c4b1451f8d1ce5c41247c9ea5ee41bc5167ab4c98305cf89e59d0b21f3b46953", func := "loop.example/garner/laws.FnExactVolUses", spec := "fnExactVolUses", unfollowed := true, recurses := true, apart := false, narrowed := true }
def FnExactVolUsesUptoSaid : Prop := fnExactVolUsesUptoRow.holds Try.pinned (OpenSpec.upto fnExactVolUsesSpec)

/-- 'laws.FnExactVolText', WHERE WHAT IT READS IS OF BULK AT MOST 1048576: true; the input reads as it did. -/
def fnExactVolTextUptoRow : OpenClaim := { program := "ytgajhknljnhfmaa", sum := "c4b1451f8d1ce5c41247c9ea5ee41bc5167ab4c98305cf89e59d0b21f3b46953", func := "loop.example/garner/laws.FnExactVolText", spec := "fnExactVolText", unfollowed := true, recurses := true, apart := false, narrowed := true }
def FnExactVolTextUptoSaid : Prop := fnExactVolTextUptoRow.holds Try.pinned (OpenSpec.upto fnExactVolTextSpec)

end Rows
end Go.Proofs.Ytgajhknljnhfmaa
