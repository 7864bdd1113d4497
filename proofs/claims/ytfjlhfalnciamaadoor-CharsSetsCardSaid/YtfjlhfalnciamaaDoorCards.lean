/-
  DERIVED. GIVEN WITH THE SEED: THE CARDS: each row of YtfjlhfalnciamaaDoorRows.lean that lists a variable, with what it lists TIED to the program's text (the seventh form; the later family's looks); each row that meets fmt, with fmt's text TOLD by the authors' own Lean function (tested against real Go, not proved from fmt's source: count such statements apart). THE CARD IS WHAT COUNTS. Prove the row's statement (the work); the ties are given (YtfjlhfalnciamaaDoorTie.lean); close each card by the builder's one call (the guide's Derived/Test/ToyasCard.lean, 'card_holds'). Laid BY PROGRAM, IN A SANDBOX (cutbox-door.mjs). By AI agents, Wed Nov 11 2026. No macro, syntax, notation, axiom, sorry.
-/
import Derived.Test.YtfjlhfalnciamaaDoorRows
import GoSem.ClaimSeven
namespace Go.Proofs.YtfjlhfalnciamaaDoor
namespace Rows

/-- THE TIED CARD OF 'souffleurlaw03.CharsSets'. -/
def charsSetsCard : Claim7 := { stood := { row := charsSetsRow, standIns := [], harness := (true, "c0bbb02db44b5af11781e51f039bd061e09dbe5aaa5219ae05ee80ae63e630d9"), looks := false }, kinds := [], alts := [], laidByText := true, laidKinds := [.data, .data, .data, .data, .pinned], laidTests := true, laidLooks := .later }
def CharsSetsCardSaid : Prop := Claim7.holds Tryd.pinned (.plain (OpenSpec.ofChange charsSetsSpec)) charsSetsCard

/-- THE TIED CARD OF 'souffleurlaw03.CharsParts'. -/
def charsPartsCard : Claim7 := { stood := { row := charsPartsRow, standIns := [], harness := (true, "c0bbb02db44b5af11781e51f039bd061e09dbe5aaa5219ae05ee80ae63e630d9"), looks := false }, kinds := [], alts := [], laidByText := true, laidKinds := [.data, .data, .data, .data, .pinned], laidTests := true, laidLooks := .later }
def CharsPartsCardSaid : Prop := Claim7.holds Tryd.pinned (.plain (OpenSpec.ofChange charsPartsSpec)) charsPartsCard

/-- THE TIED CARD OF 'souffleurlaw03.CharsBack'. -/
def charsBackCard : Claim7 := { stood := { row := charsBackRow, standIns := [], harness := (true, "c0bbb02db44b5af11781e51f039bd061e09dbe5aaa5219ae05ee80ae63e630d9"), looks := false }, kinds := [], alts := [], laidByText := true, laidKinds := [.data, .data, .data, .data, .pinned], laidTests := true, laidLooks := .later }
def CharsBackCardSaid : Prop := Claim7.holds Tryd.pinned (.plain (OpenSpec.ofChange charsBackSpec)) charsBackCard

/-- THE TIED CARD OF 'souffleurlaw03.CharsLaws'. -/
def charsLawsCard : Claim7 := { stood := { row := charsLawsRow, standIns := [], harness := (true, "c0bbb02db44b5af11781e51f039bd061e09dbe5aaa5219ae05ee80ae63e630d9"), looks := false }, kinds := [], alts := [], laidByText := true, laidKinds := [.data, .data, .data, .data, .pinned], laidTests := true, laidLooks := .later }
def CharsLawsCardSaid : Prop := Claim7.holds Tryd.pinned (.plain (OpenSpec.ofChange charsLawsSpec)) charsLawsCard

/-- THE TIED CARD OF 'souffleurlaw04.LexNames'. -/
def lexNamesCard : Claim7 := { stood := { row := lexNamesRow, standIns := [], harness := (true, "c0bbb02db44b5af11781e51f039bd061e09dbe5aaa5219ae05ee80ae63e630d9"), looks := false }, kinds := [], alts := [], laidByText := true, laidKinds := [.data, .data, .data, .data, .pinned], laidTests := true, laidLooks := .later }
def LexNamesCardSaid : Prop := Claim7.holds Tryd.pinned (.plain (OpenSpec.ofChange lexNamesSpec)) lexNamesCard

/-- THE TIED CARD OF 'souffleurlaw04.LexBack'. -/
def lexBackCard : Claim7 := { stood := { row := lexBackRow, standIns := [], harness := (true, "c0bbb02db44b5af11781e51f039bd061e09dbe5aaa5219ae05ee80ae63e630d9"), looks := false }, kinds := [], alts := [], laidByText := true, laidKinds := [.data, .data, .data, .data, .pinned], laidTests := true, laidLooks := .later }
def LexBackCardSaid : Prop := Claim7.holds Tryd.pinned (.plain (OpenSpec.ofChange lexBackSpec)) lexBackCard

/-- THE TIED CARD OF 'souffleurlaw04.LexSpreads'. -/
def lexSpreadsCard : Claim7 := { stood := { row := lexSpreadsRow, standIns := [], harness := (true, "c0bbb02db44b5af11781e51f039bd061e09dbe5aaa5219ae05ee80ae63e630d9"), looks := false }, kinds := [], alts := [], laidByText := true, laidKinds := [.data, .data, .data, .data, .pinned], laidTests := true, laidLooks := .later }
def LexSpreadsCardSaid : Prop := Claim7.holds Tryd.pinned (.plain (OpenSpec.ofChange lexSpreadsSpec)) lexSpreadsCard

/-- THE TIED CARD OF 'souffleurlaw05.GramDeep'. -/
def gramDeepCard : Claim7 := { stood := { row := gramDeepRow, standIns := [], harness := (true, "c0bbb02db44b5af11781e51f039bd061e09dbe5aaa5219ae05ee80ae63e630d9"), looks := false }, kinds := [], alts := [], laidByText := true, laidKinds := [.data, .pinned], laidTests := true, laidLooks := .later }
def GramDeepCardSaid : Prop := Claim7.holds Tryd.pinned (.plain (OpenSpec.ofChange gramDeepSpec)) gramDeepCard

/-- THE TIED CARD OF 'souffleurlaw05.GramJoins'. -/
def gramJoinsCard : Claim7 := { stood := { row := gramJoinsRow, standIns := [], harness := (true, "c0bbb02db44b5af11781e51f039bd061e09dbe5aaa5219ae05ee80ae63e630d9"), looks := false }, kinds := [], alts := [], laidByText := true, laidKinds := [.data, .pinned], laidTests := true, laidLooks := .later }
def GramJoinsCardSaid : Prop := Claim7.holds Tryd.pinned (.plain (OpenSpec.ofChange gramJoinsSpec)) gramJoinsCard

/-- THE SECOND FORM's CARD OF 'souffleurlaw03.CharsSets'. -/
def charsSetsUptoCard : Claim7 := { stood := { row := charsSetsUptoRow, standIns := [], harness := (true, "c0bbb02db44b5af11781e51f039bd061e09dbe5aaa5219ae05ee80ae63e630d9"), looks := false }, kinds := [], alts := [], laidByText := true, laidKinds := [.data, .data, .data, .data, .pinned], laidTests := true, laidLooks := .later }
def CharsSetsUptoCardSaid : Prop := Claim7.holds Tryd.pinned (.plain (OpenSpec.upto charsSetsSpec)) charsSetsUptoCard

/-- THE SECOND FORM's CARD OF 'souffleurlaw03.CharsParts'. -/
def charsPartsUptoCard : Claim7 := { stood := { row := charsPartsUptoRow, standIns := [], harness := (true, "c0bbb02db44b5af11781e51f039bd061e09dbe5aaa5219ae05ee80ae63e630d9"), looks := false }, kinds := [], alts := [], laidByText := true, laidKinds := [.data, .data, .data, .data, .pinned], laidTests := true, laidLooks := .later }
def CharsPartsUptoCardSaid : Prop := Claim7.holds Tryd.pinned (.plain (OpenSpec.upto charsPartsSpec)) charsPartsUptoCard

/-- THE SECOND FORM's CARD OF 'souffleurlaw03.CharsBack'. -/
def charsBackUptoCard : Claim7 := { stood := { row := charsBackUptoRow, standIns := [], harness := (true, "c0bbb02db44b5af11781e51f039bd061e09dbe5aaa5219ae05ee80ae63e630d9"), looks := false }, kinds := [], alts := [], laidByText := true, laidKinds := [.data, .data, .data, .data, .pinned], laidTests := true, laidLooks := .later }
def CharsBackUptoCardSaid : Prop := Claim7.holds Tryd.pinned (.plain (OpenSpec.upto charsBackSpec)) charsBackUptoCard

/-- THE SECOND FORM's CARD OF 'souffleurlaw03.CharsLaws'. -/
def charsLawsUptoCard : Claim7 := { stood := { row := charsLawsUptoRow, standIns := [], harness := (true, "c0bbb02db44b5af11781e51f039bd061e09dbe5aaa5219ae05ee80ae63e630d9"), looks := false }, kinds := [], alts := [], laidByText := true, laidKinds := [.data, .data, .data, .data, .pinned], laidTests := true, laidLooks := .later }
def CharsLawsUptoCardSaid : Prop := Claim7.holds Tryd.pinned (.plain (OpenSpec.upto charsLawsSpec)) charsLawsUptoCard

/-- THE SECOND FORM's CARD OF 'souffleurlaw04.LexNames'. -/
def lexNamesUptoCard : Claim7 := { stood := { row := lexNamesUptoRow, standIns := [], harness := (true, "c0bbb02db44b5af11781e51f039bd061e09dbe5aaa5219ae05ee80ae63e630d9"), looks := false }, kinds := [], alts := [], laidByText := true, laidKinds := [.data, .data, .data, .data, .pinned], laidTests := true, laidLooks := .later }
def LexNamesUptoCardSaid : Prop := Claim7.holds Tryd.pinned (.plain (OpenSpec.upto lexNamesSpec)) lexNamesUptoCard

/-- THE SECOND FORM's CARD OF 'souffleurlaw04.LexBack'. -/
def lexBackUptoCard : Claim7 := { stood := { row := lexBackUptoRow, standIns := [], harness := (true, "c0bbb02db44b5af11781e51f039bd061e09dbe5aaa5219ae05ee80ae63e630d9"), looks := false }, kinds := [], alts := [], laidByText := true, laidKinds := [.data, .data, .data, .data, .pinned], laidTests := true, laidLooks := .later }
def LexBackUptoCardSaid : Prop := Claim7.holds Tryd.pinned (.plain (OpenSpec.upto lexBackSpec)) lexBackUptoCard

/-- THE SECOND FORM's CARD OF 'souffleurlaw04.LexSpreads'. -/
def lexSpreadsUptoCard : Claim7 := { stood := { row := lexSpreadsUptoRow, standIns := [], harness := (true, "c0bbb02db44b5af11781e51f039bd061e09dbe5aaa5219ae05ee80ae63e630d9"), looks := false }, kinds := [], alts := [], laidByText := true, laidKinds := [.data, .data, .data, .data, .pinned], laidTests := true, laidLooks := .later }
def LexSpreadsUptoCardSaid : Prop := Claim7.holds Tryd.pinned (.plain (OpenSpec.upto lexSpreadsSpec)) lexSpreadsUptoCard

/-- THE SECOND FORM's CARD OF 'souffleurlaw05.GramDeep'. -/
def gramDeepUptoCard : Claim7 := { stood := { row := gramDeepUptoRow, standIns := [], harness := (true, "c0bbb02db44b5af11781e51f039bd061e09dbe5aaa5219ae05ee80ae63e630d9"), looks := false }, kinds := [], alts := [], laidByText := true, laidKinds := [.data, .pinned], laidTests := true, laidLooks := .later }
def GramDeepUptoCardSaid : Prop := Claim7.holds Tryd.pinned (.plain (OpenSpec.upto gramDeepSpec)) gramDeepUptoCard

/-- THE SECOND FORM's CARD OF 'souffleurlaw05.GramJoins'. -/
def gramJoinsUptoCard : Claim7 := { stood := { row := gramJoinsUptoRow, standIns := [], harness := (true, "c0bbb02db44b5af11781e51f039bd061e09dbe5aaa5219ae05ee80ae63e630d9"), looks := false }, kinds := [], alts := [], laidByText := true, laidKinds := [.data, .pinned], laidTests := true, laidLooks := .later }
def GramJoinsUptoCardSaid : Prop := Claim7.holds Tryd.pinned (.plain (OpenSpec.upto gramJoinsSpec)) gramJoinsUptoCard
end Rows
end Go.Proofs.YtfjlhfalnciamaaDoor
