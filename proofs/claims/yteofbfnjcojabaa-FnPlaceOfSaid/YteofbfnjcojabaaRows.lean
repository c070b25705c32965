/-
  No cell of these rows narrows 'for every input' (looked for: loops, veiled, ifaces, maps, wideKeys, modest, calm, conditions, laid).
  DERIVED. THE GIVEN ROWS OF THIS SEAT. 6 by the template 'for every input the law returns true; each argument reads behind the call as it read before'; 0 by the template 'total and deterministic' (their statements: YteofbfnjcojabaaTotals.lean).
  GIVEN WITH THE SEED: the statements are not yours to turn. If you find one false, say at which input.
  Laid BY PROGRAM, IN A SANDBOX (cutbox-rows.mjs): the forced cells as the released guide's own fill.sh prints them over the translation 1047e0c90b4b3bf1… (all of the seat's roots in one cut). By AI agents, Wed Nov 11 2026. No macro, syntax, notation, axiom, sorry.
-/
import Derived.Test.YteofbfnjcojabaaChecked
import GoSem.Claim
import GoSem.ClaimJoined
import GoSem.ClaimMapViews
import Derived.JoinedTies
import Derived.KernelRfl
namespace Go.Proofs.Yteofbfnjcojabaa
/- THE CELL 'sum', in the pinned program and in every row, IS THE sha256 OF THE DUMP (.gsa) THAT YteofbfnjcojabaaProg.lean LOADS. Nothing in Lean hashes anything: it is a label: what it is worth is what the hold of that sum in a sandbox is worth. -/
noncomputable def Try.pinned : Pinned := { name := "yteofbfnjcojabaa", sum := "1047e0c90b4b3bf1e8d35bc7130f0eefe8aab214dd8426ac0cd4a2bbde9965f7", checked := Try.checked }
namespace Rows
def none {H : Type} : Left H := { results := [], args := [] }

/-- 'laws.FnTextCut': WHATEVER THE INPUT: true; the input reads as it did. -/
def fnTextCutSpec : ChangeSpec := { name := "fnTextCut", fn := fun _ => fun
  | [d1, d2] => { results := [.lit (.bool true)], args := [d1, d2] }
  | _ => none }
def fnTextCutRow : OpenClaim := { program := "yteofbfnjcojabaa", sum := "1047e0c90b4b3bf1e8d35bc7130f0eefe8aab214dd8426ac0cd4a2bbde9965f7", func := "loop.example/garner/laws.FnTextCut", spec := "fnTextCut", apart := false }
def FnTextCutSaid : Prop := fnTextCutRow.holds Try.pinned (OpenSpec.ofChange fnTextCutSpec)

/-- ITS FALSE NEIGHBOUR: 'it returns false'. Refute it at one input. -/
def fnTextCutWrong : ChangeSpec := { name := "fnTextCut", fn := fun _ => fun
  | [d1, d2] => { results := [.lit (.bool false)], args := [d1, d2] }
  | _ => none }
def FnTextCutWrongFalsely : Prop := fnTextCutRow.holds Try.pinned (OpenSpec.ofChange fnTextCutWrong)

/-- 'laws.FnPlaceOf': WHATEVER THE INPUT: true; the input reads as it did. -/
def fnPlaceOfSpec : ChangeSpec := { name := "fnPlaceOf", fn := fun _ => fun
  | [d1, d2] => { results := [.lit (.bool true)], args := [d1, d2] }
  | _ => none }
def fnPlaceOfRow : OpenClaim := { program := "yteofbfnjcojabaa", sum := "1047e0c90b4b3bf1e8d35bc7130f0eefe8aab214dd8426ac0cd4a2bbde9965f7", func := "loop.example/garner/laws.FnPlaceOf", spec := "fnPlaceOf", unfollowed := true, recurses := true, apart := false }
def FnPlaceOfSaid : Prop := fnPlaceOfRow.holds Try.pinned (OpenSpec.ofChange fnPlaceOfSpec)

/-- ITS FALSE NEIGHBOUR: 'it returns false'. Refute it at one input. -/
def fnPlaceOfWrong : ChangeSpec := { name := "fnPlaceOf", fn := fun _ => fun
  | [d1, d2] => { results := [.lit (.bool false)], args := [d1, d2] }
  | _ => none }
def FnPlaceOfWrongFalsely : Prop := fnPlaceOfRow.holds Try.pinned (OpenSpec.ofChange fnPlaceOfWrong)

/-- 'laws.FnNextRound': WHATEVER THE INPUT: true; the input reads as it did. -/
def fnNextRoundSpec : ChangeSpec := { name := "fnNextRound", fn := fun _ => fun
  | [d] => { results := [.lit (.bool true)], args := [d] }
  | _ => none }
def fnNextRoundRow : OpenClaim := { program := "yteofbfnjcojabaa", sum := "1047e0c90b4b3bf1e8d35bc7130f0eefe8aab214dd8426ac0cd4a2bbde9965f7", func := "loop.example/garner/laws.FnNextRound", spec := "fnNextRound", unfollowed := true, recurses := true, apart := false }
def FnNextRoundSaid : Prop := fnNextRoundRow.holds Try.pinned (OpenSpec.ofChange fnNextRoundSpec)

/-- ITS FALSE NEIGHBOUR: 'it returns false'. Refute it at one input. -/
def fnNextRoundWrong : ChangeSpec := { name := "fnNextRound", fn := fun _ => fun
  | [d] => { results := [.lit (.bool false)], args := [d] }
  | _ => none }
def FnNextRoundWrongFalsely : Prop := fnNextRoundRow.holds Try.pinned (OpenSpec.ofChange fnNextRoundWrong)

/-- 'laws.FnExactTextOk': WHATEVER THE INPUT: true; the input reads as it did. -/
def fnExactTextOkSpec : ChangeSpec := { name := "fnExactTextOk", fn := fun _ => fun
  | [d] => { results := [.lit (.bool true)], args := [d] }
  | _ => none }
def fnExactTextOkRow : OpenClaim := { program := "yteofbfnjcojabaa", sum := "1047e0c90b4b3bf1e8d35bc7130f0eefe8aab214dd8426ac0cd4a2bbde9965f7", func := "loop.example/garner/laws.FnExactTextOk", spec := "fnExactTextOk", apart := false }
def FnExactTextOkSaid : Prop := fnExactTextOkRow.holds Try.pinned (OpenSpec.ofChange fnExactTextOkSpec)

/-- ITS FALSE NEIGHBOUR: 'it returns false'. Refute it at one input. -/
def fnExactTextOkWrong : ChangeSpec := { name := "fnExactTextOk", fn := fun _ => fun
  | [d] => { results := [.lit (.bool false)], args := [d] }
  | _ => none }
def FnExactTextOkWrongFalsely : Prop := fnExactTextOkRow.holds Try.pinned (OpenSpec.ofChange fnExactTextOkWrong)

/-- 'laws.FnExactTextPlace': WHATEVER THE INPUT: true; the input reads as it did. -/
def fnExactTextPlaceSpec : ChangeSpec := { name := "fnExactTextPlace", fn := fun _ => fun
  | [d] => { results := [.lit (.bool true)], args := [d] }
  | _ => none }
def fnExactTextPlaceRow : OpenClaim := { program := "yteofbfnjcojabaa", sum := "1047e0c90b4b3bf1e8d35bc7130f0eefe8aab214dd8426ac0cd4a2bbde9965f7", func := "loop.example/garner/laws.FnExactTextPlace", spec := "fnExactTextPlace", apart := false }
def FnExactTextPlaceSaid : Prop := fnExactTextPlaceRow.holds Try.pinned (OpenSpec.ofChange fnExactTextPlaceSpec)

/-- ITS FALSE NEIGHBOUR: 'it returns false'. Refute it at one input. -/
def fnExactTextPlaceWrong : ChangeSpec := { name := "fnExactTextPlace", fn := fun _ => fun
  | [d] => { results := [.lit (.bool false)], args := [d] }
  | _ => none }
def FnExactTextPlaceWrongFalsely : Prop := fnExactTextPlaceRow.holds Try.pinned (OpenSpec.ofChange fnExactTextPlaceWrong)

/-- 'laws.FnExactTextNext': WHATEVER THE INPUT: true; the input reads as it did. -/
def fnExactTextNextSpec : ChangeSpec := { name := "fnExactTextNext", fn := fun _ => fun
  | [d] => { results := [.lit (.bool true)], args := [d] }
  | _ => none }
def fnExactTextNextRow : OpenClaim := { program := "yteofbfnjcojabaa", sum := "1047e0c90b4b3bf1e8d35bc7130f0eefe8aab214dd8426ac0cd4a2bbde9965f7", func := "loop.example/garner/laws.FnExactTextNext", spec := "fnExactTextNext", unfollowed := true, recurses := true, apart := false }
def FnExactTextNextSaid : Prop := fnExactTextNextRow.holds Try.pinned (OpenSpec.ofChange fnExactTextNextSpec)

/-- ITS FALSE NEIGHBOUR: 'it returns false'. Refute it at one input. -/
def fnExactTextNextWrong : ChangeSpec := { name := "fnExactTextNext", fn := fun _ => fun
  | [d] => { results := [.lit (.bool false)], args := [d] }
  | _ => none }
def FnExactTextNextWrongFalsely : Prop := fnExactTextNextRow.holds Try.pinned (OpenSpec.ofChange fnExactTextNextWrong)

/- THE SECOND FORM. 'bulk': how many values and letters a reading holds, each counted each time it is reached (what is shared counts as often as it is met; a slice's spare places count too). A statement '..UptoSaid' is the law's where the arguments, and the package variables that the reading takes, are together of bulk at most 1048576: NARROWER than '..Said'. Prove '..Said' where nothing that the law and all that it calls make is longer than what came in: it says more and counts as full. Else prove '..UptoSaid'. A law counts once. -/
mutual
def uptoBulk {H : Type} : DataW H → Nat
  | .lit (.string bytes) => bytes.length + 1
  | .lit _ => 1
  | .nil => 1
  | .ptr d => uptoBulk d + 1
  | .slice elems spare => uptoBulkAll elems + uptoBulkAll spare + 1
  | .agg parts => uptoBulkAll parts + 1
  | .iface _ d => uptoBulk d + 1
  | .map entries => uptoBulkEntries entries + 1
  | .held _ => 1
def uptoBulkAll {H : Type} : List (DataW H) → Nat
  | [] => 0
  | d :: r => uptoBulk d + uptoBulkAll r
def uptoBulkEntries {H : Type} : List (Lit × DataW H) → Nat
  | [] => 0
  | x :: r => uptoBulkEntry x + uptoBulkEntries r
def uptoBulkEntry {H : Type} : Lit × DataW H → Nat
  | (.string bytes, d) => bytes.length + uptoBulk d + 1
  | (_, d) => uptoBulk d + 1
 end
def uptoSmall : (H : Type) → List (DataW H) → Bool := fun _ ds => decide (uptoBulkAll ds ≤ 1048576)
def OpenSpec.upto (s : _root_.Go.ChangeSpec) : _root_.Go.OpenSpec := { _root_.Go.OpenSpec.ofChange s with cond := some uptoSmall }

/-- 'laws.FnTextCut', WHERE WHAT IT READS IS OF BULK AT MOST 1048576: true; the input reads as it did. -/
def fnTextCutUptoRow : OpenClaim := { program := "yteofbfnjcojabaa", sum := "1047e0c90b4b3bf1e8d35bc7130f0eefe8aab214dd8426ac0cd4a2bbde9965f7", func := "loop.example/garner/laws.FnTextCut", spec := "fnTextCut", apart := false, narrowed := true }
def FnTextCutUptoSaid : Prop := fnTextCutUptoRow.holds Try.pinned (OpenSpec.upto fnTextCutSpec)

/-- 'laws.FnPlaceOf', WHERE WHAT IT READS IS OF BULK AT MOST 1048576: true; the input reads as it did. -/
def fnPlaceOfUptoRow : OpenClaim := { program := "yteofbfnjcojabaa", sum := "1047e0c90b4b3bf1e8d35bc7130f0eefe8aab214dd8426ac0cd4a2bbde9965f7", func := "loop.example/garner/laws.FnPlaceOf", spec := "fnPlaceOf", unfollowed := true, recurses := true, apart := false, narrowed := true }
def FnPlaceOfUptoSaid : Prop := fnPlaceOfUptoRow.holds Try.pinned (OpenSpec.upto fnPlaceOfSpec)

/-- 'laws.FnNextRound', WHERE WHAT IT READS IS OF BULK AT MOST 1048576: true; the input reads as it did. -/
def fnNextRoundUptoRow : OpenClaim := { program := "yteofbfnjcojabaa", sum := "1047e0c90b4b3bf1e8d35bc7130f0eefe8aab214dd8426ac0cd4a2bbde9965f7", func := "loop.example/garner/laws.FnNextRound", spec := "fnNextRound", unfollowed := true, recurses := true, apart := false, narrowed := true }
def FnNextRoundUptoSaid : Prop := fnNextRoundUptoRow.holds Try.pinned (OpenSpec.upto fnNextRoundSpec)

/-- 'laws.FnExactTextOk', WHERE WHAT IT READS IS OF BULK AT MOST 1048576: true; the input reads as it did. -/
def fnExactTextOkUptoRow : OpenClaim := { program := "yteofbfnjcojabaa", sum := "1047e0c90b4b3bf1e8d35bc7130f0eefe8aab214dd8426ac0cd4a2bbde9965f7", func := "loop.example/garner/laws.FnExactTextOk", spec := "fnExactTextOk", apart := false, narrowed := true }
def FnExactTextOkUptoSaid : Prop := fnExactTextOkUptoRow.holds Try.pinned (OpenSpec.upto fnExactTextOkSpec)

/-- 'laws.FnExactTextPlace', WHERE WHAT IT READS IS OF BULK AT MOST 1048576: true; the input reads as it did. -/
def fnExactTextPlaceUptoRow : OpenClaim := { program := "yteofbfnjcojabaa", sum := "1047e0c90b4b3bf1e8d35bc7130f0eefe8aab214dd8426ac0cd4a2bbde9965f7", func := "loop.example/garner/laws.FnExactTextPlace", spec := "fnExactTextPlace", apart := false, narrowed := true }
def FnExactTextPlaceUptoSaid : Prop := fnExactTextPlaceUptoRow.holds Try.pinned (OpenSpec.upto fnExactTextPlaceSpec)

/-- 'laws.FnExactTextNext', WHERE WHAT IT READS IS OF BULK AT MOST 1048576: true; the input reads as it did. -/
def fnExactTextNextUptoRow : OpenClaim := { program := "yteofbfnjcojabaa", sum := "1047e0c90b4b3bf1e8d35bc7130f0eefe8aab214dd8426ac0cd4a2bbde9965f7", func := "loop.example/garner/laws.FnExactTextNext", spec := "fnExactTextNext", unfollowed := true, recurses := true, apart := false, narrowed := true }
def FnExactTextNextUptoSaid : Prop := fnExactTextNextUptoRow.holds Try.pinned (OpenSpec.upto fnExactTextNextSpec)

end Rows
end Go.Proofs.Yteofbfnjcojabaa
