/-
  DERIVED. GIVEN WITH THE SEED: THE CARDS: each row of YtjkfkecabhcnfaaDoorRows.lean that lists a variable, with what it lists TIED to the program's text (the seventh form; the later family's looks); each row that meets fmt, with fmt's text TOLD by the authors' own Lean function (tested against real Go, not proved from fmt's source: count such statements apart). THE CARD IS WHAT COUNTS. Prove the row's statement (the work); the ties are given (YtjkfkecabhcnfaaDoorTie.lean); close each card by the builder's one call (the guide's Derived/Test/ToyasCard.lean, 'card_holds'). Laid BY PROGRAM, IN A SANDBOX (cutbox-door.mjs). By AI agents, Wed Nov 11 2026. No macro, syntax, notation, axiom, sorry.
-/
import Derived.Test.YtjkfkecabhcnfaaDoorRows
import GoSem.ClaimSeven
namespace Go.Proofs.YtjkfkecabhcnfaaDoor
namespace Rows

/-- THE TIED CARD OF 'rescindlaw19.LexSplits'. -/
def lexSplitsCard : Claim7 := { stood := { row := lexSplitsRow, standIns := [], harness := (true, "bd56231dd5489482c4af13ce5dffce38edb0acb1ef8912a6aa7db6cef5c132a5"), looks := false }, kinds := [], alts := [], laidByText := true, laidKinds := [.data, .pinned], laidTests := true, laidLooks := .later }
def LexSplitsCardSaid : Prop := Claim7.holds Tryd.pinned (.plain (OpenSpec.ofChange lexSplitsSpec)) lexSplitsCard

/-- THE TIED CARD OF 'rescindlaw19.LexMay'. -/
def lexMayCard : Claim7 := { stood := { row := lexMayRow, standIns := [], harness := (true, "bd56231dd5489482c4af13ce5dffce38edb0acb1ef8912a6aa7db6cef5c132a5"), looks := false }, kinds := [], alts := [], laidByText := true, laidKinds := [.data, .pinned], laidTests := true, laidLooks := .later }
def LexMayCardSaid : Prop := Claim7.holds Tryd.pinned (.plain (OpenSpec.ofChange lexMaySpec)) lexMayCard

/-- THE TIED CARD OF 'rescindlaw19.LexBack'. -/
def lexBackCard : Claim7 := { stood := { row := lexBackRow, standIns := [], harness := (true, "bd56231dd5489482c4af13ce5dffce38edb0acb1ef8912a6aa7db6cef5c132a5"), looks := false }, kinds := [], alts := [], laidByText := true, laidKinds := [.data, .pinned], laidTests := true, laidLooks := .later }
def LexBackCardSaid : Prop := Claim7.holds Tryd.pinned (.plain (OpenSpec.ofChange lexBackSpec)) lexBackCard

/-- THE TIED CARD OF 'rescindlaw19.LexKeeps'. -/
def lexKeepsCard : Claim7 := { stood := { row := lexKeepsRow, standIns := [], harness := (true, "bd56231dd5489482c4af13ce5dffce38edb0acb1ef8912a6aa7db6cef5c132a5"), looks := false }, kinds := [], alts := [], laidByText := true, laidKinds := [.data, .pinned], laidTests := true, laidLooks := .later }
def LexKeepsCardSaid : Prop := Claim7.holds Tryd.pinned (.plain (OpenSpec.ofChange lexKeepsSpec)) lexKeepsCard

/-- THE SECOND FORM's CARD OF 'rescindlaw19.LexSplits'. -/
def lexSplitsUptoCard : Claim7 := { stood := { row := lexSplitsUptoRow, standIns := [], harness := (true, "bd56231dd5489482c4af13ce5dffce38edb0acb1ef8912a6aa7db6cef5c132a5"), looks := false }, kinds := [], alts := [], laidByText := true, laidKinds := [.data, .pinned], laidTests := true, laidLooks := .later }
def LexSplitsUptoCardSaid : Prop := Claim7.holds Tryd.pinned (.plain (OpenSpec.upto lexSplitsSpec)) lexSplitsUptoCard

/-- THE SECOND FORM's CARD OF 'rescindlaw19.LexMay'. -/
def lexMayUptoCard : Claim7 := { stood := { row := lexMayUptoRow, standIns := [], harness := (true, "bd56231dd5489482c4af13ce5dffce38edb0acb1ef8912a6aa7db6cef5c132a5"), looks := false }, kinds := [], alts := [], laidByText := true, laidKinds := [.data, .pinned], laidTests := true, laidLooks := .later }
def LexMayUptoCardSaid : Prop := Claim7.holds Tryd.pinned (.plain (OpenSpec.upto lexMaySpec)) lexMayUptoCard

/-- THE SECOND FORM's CARD OF 'rescindlaw19.LexBack'. -/
def lexBackUptoCard : Claim7 := { stood := { row := lexBackUptoRow, standIns := [], harness := (true, "bd56231dd5489482c4af13ce5dffce38edb0acb1ef8912a6aa7db6cef5c132a5"), looks := false }, kinds := [], alts := [], laidByText := true, laidKinds := [.data, .pinned], laidTests := true, laidLooks := .later }
def LexBackUptoCardSaid : Prop := Claim7.holds Tryd.pinned (.plain (OpenSpec.upto lexBackSpec)) lexBackUptoCard

/-- THE SECOND FORM's CARD OF 'rescindlaw19.LexKeeps'. -/
def lexKeepsUptoCard : Claim7 := { stood := { row := lexKeepsUptoRow, standIns := [], harness := (true, "bd56231dd5489482c4af13ce5dffce38edb0acb1ef8912a6aa7db6cef5c132a5"), looks := false }, kinds := [], alts := [], laidByText := true, laidKinds := [.data, .pinned], laidTests := true, laidLooks := .later }
def LexKeepsUptoCardSaid : Prop := Claim7.holds Tryd.pinned (.plain (OpenSpec.upto lexKeepsSpec)) lexKeepsUptoCard
end Rows
end Go.Proofs.YtjkfkecabhcnfaaDoor
