/-
  No cell of these rows narrows 'for every input' (looked for: loops, veiled, ifaces, maps, wideKeys, modest, calm, conditions, laid).
  DERIVED. THE GIVEN ROWS OF THIS SEAT. 4 by the template 'for every input the law returns true; each argument reads behind the call as it read before'; 0 by the template 'total and deterministic' (their statements: YtgogokahpmljbaaTotals.lean).
  GIVEN WITH THE SEED: the statements are not yours to turn. If you find one false, say at which input.
  Laid BY PROGRAM, IN A SANDBOX (cutbox-rows.mjs): the forced cells as the released guide's own fill.sh prints them over the translation 7b885218a2f160d1… (all of the seat's roots in one cut). By AI agents, Wed Nov 11 2026. No macro, syntax, notation, axiom, sorry.
-/
import Derived.Test.YtgogokahpmljbaaChecked
import GoSem.Claim
import GoSem.ClaimJoined
import GoSem.ClaimMapViews
import Derived.JoinedTies
import Derived.KernelRfl
namespace Go.Proofs.Ytgogokahpmljbaa
/- THE CELL 'sum', in the pinned program and in every row, IS THE sha256 OF THE DUMP (.gsa) THAT YtgogokahpmljbaaProg.lean LOADS. Nothing in Lean hashes anything: it is a label: what it is worth is what the hold of that sum in a sandbox is worth. -/
noncomputable def Try.pinned : Pinned := { name := "ytgogokahpmljbaa", sum := "7b885218a2f160d1ca03cafba2e605ba0a711d816081beafe0b7309599031849", checked := Try.checked }
namespace Rows
def none {H : Type} : Left H := { results := [], args := [] }

/-- 'laws.FnVolUses': WHATEVER THE INPUT: true; the input reads as it did. -/
def fnVolUsesSpec : ChangeSpec := { name := "fnVolUses", fn := fun _ => fun
  | [d] => { results := [.lit (.bool true)], args := [d] }
  | _ => none }
def fnVolUsesRow : OpenClaim := { program := "ytgogokahpmljbaa", sum := "7b885218a2f160d1ca03cafba2e605ba0a711d816081beafe0b7309599031849", func := "loop.example/garner/laws.FnVolUses", spec := "fnVolUses", unfollowed := true, recurses := true, apart := false }
def FnVolUsesSaid : Prop := fnVolUsesRow.holds Try.pinned (OpenSpec.ofChange fnVolUsesSpec)

/-- ITS FALSE NEIGHBOUR: 'it returns false'. Refute it at one input. -/
def fnVolUsesWrong : ChangeSpec := { name := "fnVolUses", fn := fun _ => fun
  | [d] => { results := [.lit (.bool false)], args := [d] }
  | _ => none }
def FnVolUsesWrongFalsely : Prop := fnVolUsesRow.holds Try.pinned (OpenSpec.ofChange fnVolUsesWrong)

/-- 'laws.FnVolForm': WHATEVER THE INPUT: true; the input reads as it did. -/
def fnVolFormSpec : ChangeSpec := { name := "fnVolForm", fn := fun _ => fun
  | [d1, d2] => { results := [.lit (.bool true)], args := [d1, d2] }
  | _ => none }
def fnVolFormRow : OpenClaim := { program := "ytgogokahpmljbaa", sum := "7b885218a2f160d1ca03cafba2e605ba0a711d816081beafe0b7309599031849", func := "loop.example/garner/laws.FnVolForm", spec := "fnVolForm", unfollowed := true, recurses := true, apart := false }
def FnVolFormSaid : Prop := fnVolFormRow.holds Try.pinned (OpenSpec.ofChange fnVolFormSpec)

/-- ITS FALSE NEIGHBOUR: 'it returns false'. Refute it at one input. -/
def fnVolFormWrong : ChangeSpec := { name := "fnVolForm", fn := fun _ => fun
  | [d1, d2] => { results := [.lit (.bool false)], args := [d1, d2] }
  | _ => none }
def FnVolFormWrongFalsely : Prop := fnVolFormRow.holds Try.pinned (OpenSpec.ofChange fnVolFormWrong)

/-- 'laws.FnVolText': WHATEVER THE INPUT: true; the input reads as it did. -/
def fnVolTextSpec : ChangeSpec := { name := "fnVolText", fn := fun _ => fun
  | [d] => { results := [.lit (.bool true)], args := [d] }
  | _ => none }
def fnVolTextRow : OpenClaim := { program := "ytgogokahpmljbaa", sum := "7b885218a2f160d1ca03cafba2e605ba0a711d816081beafe0b7309599031849", func := "loop.example/garner/laws.FnVolText", spec := "fnVolText", unfollowed := true, recurses := true, apart := false }
def FnVolTextSaid : Prop := fnVolTextRow.holds Try.pinned (OpenSpec.ofChange fnVolTextSpec)

/-- ITS FALSE NEIGHBOUR: 'it returns false'. Refute it at one input. -/
def fnVolTextWrong : ChangeSpec := { name := "fnVolText", fn := fun _ => fun
  | [d] => { results := [.lit (.bool false)], args := [d] }
  | _ => none }
def FnVolTextWrongFalsely : Prop := fnVolTextRow.holds Try.pinned (OpenSpec.ofChange fnVolTextWrong)

/-- 'laws.FnVolCount': WHATEVER THE INPUT: true; the input reads as it did. -/
def fnVolCountSpec : ChangeSpec := { name := "fnVolCount", fn := fun _ => fun
  | [d1, d2] => { results := [.lit (.bool true)], args := [d1, d2] }
  | _ => none }
def fnVolCountRow : OpenClaim := { program := "ytgogokahpmljbaa", sum := "7b885218a2f160d1ca03cafba2e605ba0a711d816081beafe0b7309599031849", func := "loop.example/garner/laws.FnVolCount", spec := "fnVolCount", unfollowed := true, recurses := true, apart := false }
def FnVolCountSaid : Prop := fnVolCountRow.holds Try.pinned (OpenSpec.ofChange fnVolCountSpec)

/-- ITS FALSE NEIGHBOUR: 'it returns false'. Refute it at one input. -/
def fnVolCountWrong : ChangeSpec := { name := "fnVolCount", fn := fun _ => fun
  | [d1, d2] => { results := [.lit (.bool false)], args := [d1, d2] }
  | _ => none }
def FnVolCountWrongFalsely : Prop := fnVolCountRow.holds Try.pinned (OpenSpec.ofChange fnVolCountWrong)

/- THE SECOND FORM. 'bulk': how many values and letters a reading holds, each counted each time it is reached (what is shared counts as often as it is met; a slice's spare places count too). A statement '..UptoSaid' is the law's where the arguments, and the package variables that the reading takes, are together of bulk at most 1048576: NARROWER than '..Said'. Prove '..Said' where nothing that the law and all that it calls make is longer than what came in: it says more and counts as full. Else prove '..UptoSaid'. A law counts once. -/
mutual
def uptoBulk {H : Type} : DataW H → Nat
  | .lit (.string bytes) => bytes.length + 1
  | .lit _ => 1
  | .nil => 1
  | .ptr d => uptoBulk d + 1
  | .slice elems spare => uptoBulkAll elems + uptoBulkAll spare + 1
  | .agg parts => uptoBulkAll parts + 1
  | .iface _ d => uptoBulk d + 1
  | .map entries => uptoBulkEntries entries + 1
  | .held _ => 1
def uptoBulkAll {H : Type} : List (DataW H) → Nat
  | [] => 0
  | d :: r => uptoBulk d + uptoBulkAll r
def uptoBulkEntries {H : Type} : List (Lit × DataW H) → Nat
  | [] => 0
  | x :: r => uptoBulkEntry x + uptoBulkEntries r
def uptoBulkEntry {H : Type} : Lit × DataW H → Nat
  | (.string bytes, d) => bytes.length + uptoBulk d + 1
  | (_, d) => uptoBulk d + 1
 end
def uptoSmall : (H : Type) → List (DataW H) → Bool := fun _ ds => decide (uptoBulkAll ds ≤ 1048576)
def OpenSpec.upto (s : _root_.Go.ChangeSpec) : _root_.Go.OpenSpec := { _root_.Go.OpenSpec.ofChange s with cond := some uptoSmall }

/-- 'laws.FnVolUses', WHERE WHAT IT READS IS OF BULK AT MOST 1048576: true; the input reads as it did. -/
def fnVolUsesUptoRow : OpenClaim := { program := "ytgogokahpmljbaa", sum := "7b885218a2f160d1ca03cafba2e605ba0a711d816081beafe0b7309599031849", func := "loop.example/garner/laws.FnVolUses", spec := "fnVolUses", unfollowed := true, recurses := true, apart := false, narrowed := true }
def FnVolUsesUptoSaid : Prop := fnVolUsesUptoRow.holds Try.pinned (OpenSpec.upto fnVolUsesSpec)

/-- 'laws.FnVolForm', WHERE WHAT IT READS IS OF BULK AT MOST 1048576: true; the input reads as it did. -/
def fnVolFormUptoRow : OpenClaim := { program := "ytgogokahpmljbaa", sum := "7b885218a2f160d1ca03cafba2e605ba0a711d816081beafe0b7309599031849", func := "loop.example/garner/laws.FnVolForm", spec := "fnVolForm", unfollowed := true, recurses := true, apart := false, narrowed := true }
def FnVolFormUptoSaid : Prop := fnVolFormUptoRow.holds Try.pinned (OpenSpec.upto fnVolFormSpec)

/-- 'laws.FnVolText', WHERE WHAT IT READS IS OF BULK AT MOST 1048576: true; the input reads as it did. -/
def fnVolTextUptoRow : OpenClaim := { program := "ytgogokahpmljbaa", sum := "7b885218a2f160d1ca03cafba2e605ba0a711d816081beafe0b7309599031849", func := "loop.example/garner/laws.FnVolText", spec := "fnVolText", unfollowed := true, recurses := true, apart := false, narrowed := true }
def FnVolTextUptoSaid : Prop := fnVolTextUptoRow.holds Try.pinned (OpenSpec.upto fnVolTextSpec)

/-- 'laws.FnVolCount', WHERE WHAT IT READS IS OF BULK AT MOST 1048576: true; the input reads as it did. -/
def fnVolCountUptoRow : OpenClaim := { program := "ytgogokahpmljbaa", sum := "7b885218a2f160d1ca03cafba2e605ba0a711d816081beafe0b7309599031849", func := "loop.example/garner/laws.FnVolCount", spec := "fnVolCount", unfollowed := true, recurses := true, apart := false, narrowed := true }
def FnVolCountUptoSaid : Prop := fnVolCountUptoRow.holds Try.pinned (OpenSpec.upto fnVolCountSpec)

end Rows
end Go.Proofs.Ytgogokahpmljbaa
