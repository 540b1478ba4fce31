/-
  DERIVED. GIVEN WITH THE SEED: THE CARDS: each row of YtahdlejgjcjeoabGreatDoorRows.lean that lists a variable, with what it lists TIED to the program's text (the seventh form; the later family's looks); each row that meets fmt, with fmt's text TOLD by the authors' own Lean function (tested against real Go, not proved from fmt's source: count such statements apart). THE CARD IS WHAT COUNTS. Prove the row's statement (the work); the ties are given (YtahdlejgjcjeoabGreatDoorTie.lean); close each card by the builder's one call (the guide's Derived/Test/ToyasCard.lean, 'card_holds'). Laid BY PROGRAM, IN A SANDBOX (cutbox-door.mjs). By AI agents, Wed Nov 11 2026. No macro, syntax, notation, axiom, sorry.
-/
import Derived.Test.YtahdlejgjcjeoabGreatDoorRows
import GoSem.ClaimSeven
namespace Go.Proofs.YtahdlejgjcjeoabGreatDoor
namespace Rows

/-- THE TIED CARD OF 'ripplelaw.Apart'. -/
def apartCard : Claim7 := { stood := { row := apartRow, standIns := [], harness := (true, "bad252f23230b4625a2e77a753160050ce66a23fbfe16c039644b02ca166fb14"), looks := false }, kinds := [], alts := [], laidByText := true, laidKinds := [.data, .data], laidTests := true, laidLooks := .later }
def ApartCardSaid : Prop := Claim7.holds Tryz.pinned (.plain (OpenSpec.ofChange apartSpec)) apartCard

/-- THE TIED CARD OF 'ripplelaw.Meets'. -/
def meetsCard : Claim7 := { stood := { row := meetsRow, standIns := [], harness := (true, "bad252f23230b4625a2e77a753160050ce66a23fbfe16c039644b02ca166fb14"), looks := false }, kinds := [], alts := [], laidByText := true, laidKinds := [.data, .data], laidTests := true, laidLooks := .later }
def MeetsCardSaid : Prop := Claim7.holds Tryz.pinned (.plain (OpenSpec.ofChange meetsSpec)) meetsCard

/-- THE TIED CARD OF 'ripplelaw.Same'. -/
def sameCard : Claim7 := { stood := { row := sameRow, standIns := [], harness := (true, "bad252f23230b4625a2e77a753160050ce66a23fbfe16c039644b02ca166fb14"), looks := false }, kinds := [], alts := [], laidByText := true, laidKinds := [.data, .data], laidTests := true, laidLooks := .later }
def SameCardSaid : Prop := Claim7.holds Tryz.pinned (.plain (OpenSpec.ofChange sameSpec)) sameCard

/-- THE SECOND FORM's CARD OF 'ripplelaw.Apart'. -/
def apartUptoCard : Claim7 := { stood := { row := apartUptoRow, standIns := [], harness := (true, "bad252f23230b4625a2e77a753160050ce66a23fbfe16c039644b02ca166fb14"), looks := false }, kinds := [], alts := [], laidByText := true, laidKinds := [.data, .data], laidTests := true, laidLooks := .later }
def ApartUptoCardSaid : Prop := Claim7.holds Tryz.pinned (.plain (OpenSpec.upto apartSpec)) apartUptoCard

/-- THE SECOND FORM's CARD OF 'ripplelaw.Meets'. -/
def meetsUptoCard : Claim7 := { stood := { row := meetsUptoRow, standIns := [], harness := (true, "bad252f23230b4625a2e77a753160050ce66a23fbfe16c039644b02ca166fb14"), looks := false }, kinds := [], alts := [], laidByText := true, laidKinds := [.data, .data], laidTests := true, laidLooks := .later }
def MeetsUptoCardSaid : Prop := Claim7.holds Tryz.pinned (.plain (OpenSpec.upto meetsSpec)) meetsUptoCard

/-- THE SECOND FORM's CARD OF 'ripplelaw.Same'. -/
def sameUptoCard : Claim7 := { stood := { row := sameUptoRow, standIns := [], harness := (true, "bad252f23230b4625a2e77a753160050ce66a23fbfe16c039644b02ca166fb14"), looks := false }, kinds := [], alts := [], laidByText := true, laidKinds := [.data, .data], laidTests := true, laidLooks := .later }
def SameUptoCardSaid : Prop := Claim7.holds Tryz.pinned (.plain (OpenSpec.upto sameSpec)) sameUptoCard
end Rows
end Go.Proofs.YtahdlejgjcjeoabGreatDoor
