/-
  DERIVED. GIVEN WITH THE SEED: THE CARDS: each row of YtplicodloanljaaDoorRows.lean that lists a variable, with what it lists TIED to the program's text (the seventh form; the later family's looks); each row that meets fmt, with fmt's text TOLD by the authors' own Lean function (tested against real Go, not proved from fmt's source: count such statements apart). THE CARD IS WHAT COUNTS. Prove the row's statement (the work); the ties are given (YtplicodloanljaaDoorTie.lean); close each card by the builder's one call (the guide's Derived/Test/ToyasCard.lean, 'card_holds'). Laid BY PROGRAM, IN A SANDBOX (cutbox-door.mjs). By AI agents, Wed Nov 11 2026. No macro, syntax, notation, axiom, sorry.
-/
import Derived.Test.YtplicodloanljaaDoorRows
import GoSem.ClaimSeven
namespace Go.Proofs.YtplicodloanljaaDoor
namespace Rows

/-- THE TIED CARD OF 'laws.FnOpBack'. -/
def fnOpBackCard : Claim7 := { stood := { row := fnOpBackRow, standIns := [], harness := (true, "cc804952601688b809ab80a6f1cb388cd4d55860990d6773acb88f14ba794cd6"), looks := true }, kinds := [], alts := [], laidByText := true, laidKinds := [.data, .data, .data, .data, .sentinel, .sentinel, .sentinel, .pinned], laidTests := true, laidLooks := .later }
def FnOpBackCardSaid : Prop := Claim7.holds Tryd.pinned (.plain (OpenSpec.ofChange fnOpBackSpec)) fnOpBackCard

/-- THE TIED CARD OF 'laws.FnOpStrict'. -/
def fnOpStrictCard : Claim7 := { stood := { row := fnOpStrictRow, standIns := [], harness := (true, "cc804952601688b809ab80a6f1cb388cd4d55860990d6773acb88f14ba794cd6"), looks := true }, kinds := [], alts := [], laidByText := true, laidKinds := [.data, .data, .data, .data, .sentinel, .sentinel, .sentinel, .pinned], laidTests := true, laidLooks := .later }
def FnOpStrictCardSaid : Prop := Claim7.holds Tryd.pinned (.plain (OpenSpec.ofChange fnOpStrictSpec)) fnOpStrictCard

/-- THE TIED CARD OF 'laws.FnOpOne'. -/
def fnOpOneCard : Claim7 := { stood := { row := fnOpOneRow, standIns := [], harness := (true, "cc804952601688b809ab80a6f1cb388cd4d55860990d6773acb88f14ba794cd6"), looks := true }, kinds := [], alts := [], laidByText := true, laidKinds := [.data, .data, .data], laidTests := true, laidLooks := .later }
def FnOpOneCardSaid : Prop := Claim7.holds Tryd.pinned (.plain (OpenSpec.ofChange fnOpOneSpec)) fnOpOneCard

/-- THE TIED CARD OF 'laws.FnOpCut'. -/
def fnOpCutCard : Claim7 := { stood := { row := fnOpCutRow, standIns := [], harness := (true, "cc804952601688b809ab80a6f1cb388cd4d55860990d6773acb88f14ba794cd6"), looks := true }, kinds := [], alts := [], laidByText := true, laidKinds := [.data, .data, .data, .data, .sentinel, .sentinel, .sentinel, .pinned], laidTests := true, laidLooks := .later }
def FnOpCutCardSaid : Prop := Claim7.holds Tryd.pinned (.plain (OpenSpec.ofChange fnOpCutSpec)) fnOpCutCard

/-- THE TIED CARD OF 'laws.FnExactOpText'. -/
def fnExactOpTextCard : Claim7 := { stood := { row := fnExactOpTextRow, standIns := [], harness := (true, "cc804952601688b809ab80a6f1cb388cd4d55860990d6773acb88f14ba794cd6"), looks := true }, kinds := [], alts := [], laidByText := true, laidKinds := [.data, .data, .data], laidTests := true, laidLooks := .later }
def FnExactOpTextCardSaid : Prop := Claim7.holds Tryd.pinned (.plain (OpenSpec.ofChange fnExactOpTextSpec)) fnExactOpTextCard

/-- THE TIED CARD OF 'laws.FnExactOpRead'. -/
def fnExactOpReadCard : Claim7 := { stood := { row := fnExactOpReadRow, standIns := [], harness := (true, "cc804952601688b809ab80a6f1cb388cd4d55860990d6773acb88f14ba794cd6"), looks := true }, kinds := [], alts := [], laidByText := true, laidKinds := [.data, .data, .data, .data, .sentinel, .sentinel, .sentinel, .pinned], laidTests := true, laidLooks := .later }
def FnExactOpReadCardSaid : Prop := Claim7.holds Tryd.pinned (.plain (OpenSpec.ofChange fnExactOpReadSpec)) fnExactOpReadCard

/-- THE SECOND FORM's CARD OF 'laws.FnOpBack'. -/
def fnOpBackUptoCard : Claim7 := { stood := { row := fnOpBackUptoRow, standIns := [], harness := (true, "cc804952601688b809ab80a6f1cb388cd4d55860990d6773acb88f14ba794cd6"), looks := true }, kinds := [], alts := [], laidByText := true, laidKinds := [.data, .data, .data, .data, .sentinel, .sentinel, .sentinel, .pinned], laidTests := true, laidLooks := .later }
def FnOpBackUptoCardSaid : Prop := Claim7.holds Tryd.pinned (.plain (OpenSpec.upto fnOpBackSpec)) fnOpBackUptoCard

/-- THE SECOND FORM's CARD OF 'laws.FnOpStrict'. -/
def fnOpStrictUptoCard : Claim7 := { stood := { row := fnOpStrictUptoRow, standIns := [], harness := (true, "cc804952601688b809ab80a6f1cb388cd4d55860990d6773acb88f14ba794cd6"), looks := true }, kinds := [], alts := [], laidByText := true, laidKinds := [.data, .data, .data, .data, .sentinel, .sentinel, .sentinel, .pinned], laidTests := true, laidLooks := .later }
def FnOpStrictUptoCardSaid : Prop := Claim7.holds Tryd.pinned (.plain (OpenSpec.upto fnOpStrictSpec)) fnOpStrictUptoCard

/-- THE SECOND FORM's CARD OF 'laws.FnOpOne'. -/
def fnOpOneUptoCard : Claim7 := { stood := { row := fnOpOneUptoRow, standIns := [], harness := (true, "cc804952601688b809ab80a6f1cb388cd4d55860990d6773acb88f14ba794cd6"), looks := true }, kinds := [], alts := [], laidByText := true, laidKinds := [.data, .data, .data], laidTests := true, laidLooks := .later }
def FnOpOneUptoCardSaid : Prop := Claim7.holds Tryd.pinned (.plain (OpenSpec.upto fnOpOneSpec)) fnOpOneUptoCard

/-- THE SECOND FORM's CARD OF 'laws.FnOpCut'. -/
def fnOpCutUptoCard : Claim7 := { stood := { row := fnOpCutUptoRow, standIns := [], harness := (true, "cc804952601688b809ab80a6f1cb388cd4d55860990d6773acb88f14ba794cd6"), looks := true }, kinds := [], alts := [], laidByText := true, laidKinds := [.data, .data, .data, .data, .sentinel, .sentinel, .sentinel, .pinned], laidTests := true, laidLooks := .later }
def FnOpCutUptoCardSaid : Prop := Claim7.holds Tryd.pinned (.plain (OpenSpec.upto fnOpCutSpec)) fnOpCutUptoCard

/-- THE SECOND FORM's CARD OF 'laws.FnExactOpText'. -/
def fnExactOpTextUptoCard : Claim7 := { stood := { row := fnExactOpTextUptoRow, standIns := [], harness := (true, "cc804952601688b809ab80a6f1cb388cd4d55860990d6773acb88f14ba794cd6"), looks := true }, kinds := [], alts := [], laidByText := true, laidKinds := [.data, .data, .data], laidTests := true, laidLooks := .later }
def FnExactOpTextUptoCardSaid : Prop := Claim7.holds Tryd.pinned (.plain (OpenSpec.upto fnExactOpTextSpec)) fnExactOpTextUptoCard

/-- THE SECOND FORM's CARD OF 'laws.FnExactOpRead'. -/
def fnExactOpReadUptoCard : Claim7 := { stood := { row := fnExactOpReadUptoRow, standIns := [], harness := (true, "cc804952601688b809ab80a6f1cb388cd4d55860990d6773acb88f14ba794cd6"), looks := true }, kinds := [], alts := [], laidByText := true, laidKinds := [.data, .data, .data, .data, .sentinel, .sentinel, .sentinel, .pinned], laidTests := true, laidLooks := .later }
def FnExactOpReadUptoCardSaid : Prop := Claim7.holds Tryd.pinned (.plain (OpenSpec.upto fnExactOpReadSpec)) fnExactOpReadUptoCard
end Rows
end Go.Proofs.YtplicodloanljaaDoor
