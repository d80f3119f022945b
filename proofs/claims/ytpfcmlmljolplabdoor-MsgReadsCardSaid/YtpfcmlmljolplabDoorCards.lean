/-
  DERIVED. GIVEN WITH THE SEED: THE CARDS: each row of YtpfcmlmljolplabDoorRows.lean that lists a variable, with what it lists TIED to the program's text (the seventh form; the later family's looks); each row that meets fmt, with fmt's text TOLD by the authors' own Lean function (tested against real Go, not proved from fmt's source: count such statements apart). THE CARD IS WHAT COUNTS. Prove the row's statement (the work); the ties are given (YtpfcmlmljolplabDoorTie.lean); close each card by the builder's one call (the guide's Derived/Test/ToyasCard.lean, 'card_holds'). Laid BY PROGRAM, IN A SANDBOX (cutbox-door.mjs). By AI agents, Wed Nov 11 2026. No macro, syntax, notation, axiom, sorry.
-/
import Derived.Test.YtpfcmlmljolplabDoorRows
import GoSem.ClaimSeven
namespace Go.Proofs.YtpfcmlmljolplabDoor
namespace Rows

/-- THE TIED CARD OF 'rescindlaw08.MsgChecks'. -/
def msgChecksCard : Claim7 := { stood := { row := msgChecksRow, standIns := [], harness := (true, "3a84535d0f060867b75cf113146c03c7ffb60d80c82f5b61757ee22490c00891"), looks := false }, kinds := [], alts := [], laidByText := true, laidKinds := [.data, .data, .data], laidTests := true, laidLooks := .later }
def MsgChecksCardSaid : Prop := Claim7.holds Tryd.pinned (.plain (OpenSpec.ofChange msgChecksSpec)) msgChecksCard

/-- THE TIED CARD OF 'rescindlaw08.MsgMakes'. -/
def msgMakesCard : Claim7 := { stood := { row := msgMakesRow, standIns := [], harness := (true, "3a84535d0f060867b75cf113146c03c7ffb60d80c82f5b61757ee22490c00891"), looks := false }, kinds := [], alts := [], laidByText := true, laidKinds := [.data, .data, .data], laidTests := true, laidLooks := .later }
def MsgMakesCardSaid : Prop := Claim7.holds Tryd.pinned (.plain (OpenSpec.ofChange msgMakesSpec)) msgMakesCard

/-- THE TIED CARD OF 'rescindlaw08.MsgBytes'. -/
def msgBytesCard : Claim7 := { stood := { row := msgBytesRow, standIns := [], harness := (true, "3a84535d0f060867b75cf113146c03c7ffb60d80c82f5b61757ee22490c00891"), looks := false }, kinds := [], alts := [], laidByText := true, laidKinds := [.data, .data, .data], laidTests := true, laidLooks := .later }
def MsgBytesCardSaid : Prop := Claim7.holds Tryd.pinned (.plain (OpenSpec.ofChange msgBytesSpec)) msgBytesCard

/-- THE TIED CARD OF 'rescindlaw08.MsgReads'. -/
def msgReadsCard : Claim7 := { stood := { row := msgReadsRow, standIns := [], harness := (true, "3a84535d0f060867b75cf113146c03c7ffb60d80c82f5b61757ee22490c00891"), looks := false }, kinds := [], alts := [], laidByText := true, laidKinds := [.data, .data, .data], laidTests := true, laidLooks := .later }
def MsgReadsCardSaid : Prop := Claim7.holds Tryd.pinned (.plain (OpenSpec.ofChange msgReadsSpec)) msgReadsCard

/-- THE SECOND FORM's CARD OF 'rescindlaw08.MsgChecks'. -/
def msgChecksUptoCard : Claim7 := { stood := { row := msgChecksUptoRow, standIns := [], harness := (true, "3a84535d0f060867b75cf113146c03c7ffb60d80c82f5b61757ee22490c00891"), looks := false }, kinds := [], alts := [], laidByText := true, laidKinds := [.data, .data, .data], laidTests := true, laidLooks := .later }
def MsgChecksUptoCardSaid : Prop := Claim7.holds Tryd.pinned (.plain (OpenSpec.upto msgChecksSpec)) msgChecksUptoCard

/-- THE SECOND FORM's CARD OF 'rescindlaw08.MsgMakes'. -/
def msgMakesUptoCard : Claim7 := { stood := { row := msgMakesUptoRow, standIns := [], harness := (true, "3a84535d0f060867b75cf113146c03c7ffb60d80c82f5b61757ee22490c00891"), looks := false }, kinds := [], alts := [], laidByText := true, laidKinds := [.data, .data, .data], laidTests := true, laidLooks := .later }
def MsgMakesUptoCardSaid : Prop := Claim7.holds Tryd.pinned (.plain (OpenSpec.upto msgMakesSpec)) msgMakesUptoCard

/-- THE SECOND FORM's CARD OF 'rescindlaw08.MsgBytes'. -/
def msgBytesUptoCard : Claim7 := { stood := { row := msgBytesUptoRow, standIns := [], harness := (true, "3a84535d0f060867b75cf113146c03c7ffb60d80c82f5b61757ee22490c00891"), looks := false }, kinds := [], alts := [], laidByText := true, laidKinds := [.data, .data, .data], laidTests := true, laidLooks := .later }
def MsgBytesUptoCardSaid : Prop := Claim7.holds Tryd.pinned (.plain (OpenSpec.upto msgBytesSpec)) msgBytesUptoCard

/-- THE SECOND FORM's CARD OF 'rescindlaw08.MsgReads'. -/
def msgReadsUptoCard : Claim7 := { stood := { row := msgReadsUptoRow, standIns := [], harness := (true, "3a84535d0f060867b75cf113146c03c7ffb60d80c82f5b61757ee22490c00891"), looks := false }, kinds := [], alts := [], laidByText := true, laidKinds := [.data, .data, .data], laidTests := true, laidLooks := .later }
def MsgReadsUptoCardSaid : Prop := Claim7.holds Tryd.pinned (.plain (OpenSpec.upto msgReadsSpec)) msgReadsUptoCard
end Rows
end Go.Proofs.YtpfcmlmljolplabDoor
