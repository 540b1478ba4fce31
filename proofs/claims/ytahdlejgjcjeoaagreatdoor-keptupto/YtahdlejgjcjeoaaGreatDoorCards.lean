/-
  DERIVED. GIVEN WITH THE SEED: THE CARDS: each row of YtahdlejgjcjeoaaGreatDoorRows.lean that lists a variable, with what it lists TIED to the program's text (the seventh form; the later family's looks); each row that meets fmt, with fmt's text TOLD by the authors' own Lean function (tested against real Go, not proved from fmt's source: count such statements apart). THE CARD IS WHAT COUNTS. Prove the row's statement (the work); the ties are given (YtahdlejgjcjeoaaGreatDoorTie.lean); close each card by the builder's one call (the guide's Derived/Test/ToyasCard.lean, 'card_holds'). Laid BY PROGRAM, IN A SANDBOX (cutbox-door.mjs). By AI agents, Wed Nov 11 2026. No macro, syntax, notation, axiom, sorry.
-/
import Derived.Test.YtahdlejgjcjeoaaGreatDoorRows
import GoSem.ClaimSeven
namespace Go.Proofs.YtahdlejgjcjeoaaGreatDoor
namespace Rows

/-- THE TIED CARD OF 'ripplelaw.News'. -/
def newsCard : Claim7 := { stood := { row := newsRow, standIns := [], harness := (true, "07c1410ee12510a5fcc37aee5a3c0bdd0edb0815fe9c60448a584d71942eddb9"), looks := false }, kinds := [], alts := [], laidByText := true, laidKinds := [.data, .data], laidTests := true, laidLooks := .later }
def NewsCardSaid : Prop := Claim7.holds Tryz.pinned (.plain (OpenSpec.ofChange newsSpec)) newsCard

/-- THE TIED CARD OF 'ripplelaw.Solo'. -/
def soloCard : Claim7 := { stood := { row := soloRow, standIns := [], harness := (true, "07c1410ee12510a5fcc37aee5a3c0bdd0edb0815fe9c60448a584d71942eddb9"), looks := false }, kinds := [], alts := [], laidByText := true, laidKinds := [.data, .data], laidTests := true, laidLooks := .later }
def SoloCardSaid : Prop := Claim7.holds Tryz.pinned (.plain (OpenSpec.ofChange soloSpec)) soloCard

/-- THE TIED CARD OF 'ripplelaw.Kept'. -/
def keptCard : Claim7 := { stood := { row := keptRow, standIns := [], harness := (true, "07c1410ee12510a5fcc37aee5a3c0bdd0edb0815fe9c60448a584d71942eddb9"), looks := false }, kinds := [], alts := [], laidByText := true, laidKinds := [.data, .data], laidTests := true, laidLooks := .later }
def KeptCardSaid : Prop := Claim7.holds Tryz.pinned (.plain (OpenSpec.ofChange keptSpec)) keptCard

/-- THE TIED CARD OF 'ripplelaw.Clusters'. -/
def clustersCard : Claim7 := { stood := { row := clustersRow, standIns := [], harness := (true, "07c1410ee12510a5fcc37aee5a3c0bdd0edb0815fe9c60448a584d71942eddb9"), looks := false }, kinds := [], alts := [], laidByText := true, laidKinds := [.data, .data], laidTests := true, laidLooks := .later }
def ClustersCardSaid : Prop := Claim7.holds Tryz.pinned (.plain (OpenSpec.ofChange clustersSpec)) clustersCard

/-- THE SECOND FORM's CARD OF 'ripplelaw.News'. -/
def newsUptoCard : Claim7 := { stood := { row := newsUptoRow, standIns := [], harness := (true, "07c1410ee12510a5fcc37aee5a3c0bdd0edb0815fe9c60448a584d71942eddb9"), looks := false }, kinds := [], alts := [], laidByText := true, laidKinds := [.data, .data], laidTests := true, laidLooks := .later }
def NewsUptoCardSaid : Prop := Claim7.holds Tryz.pinned (.plain (OpenSpec.upto newsSpec)) newsUptoCard

/-- THE SECOND FORM's CARD OF 'ripplelaw.Solo'. -/
def soloUptoCard : Claim7 := { stood := { row := soloUptoRow, standIns := [], harness := (true, "07c1410ee12510a5fcc37aee5a3c0bdd0edb0815fe9c60448a584d71942eddb9"), looks := false }, kinds := [], alts := [], laidByText := true, laidKinds := [.data, .data], laidTests := true, laidLooks := .later }
def SoloUptoCardSaid : Prop := Claim7.holds Tryz.pinned (.plain (OpenSpec.upto soloSpec)) soloUptoCard

/-- THE SECOND FORM's CARD OF 'ripplelaw.Kept'. -/
def keptUptoCard : Claim7 := { stood := { row := keptUptoRow, standIns := [], harness := (true, "07c1410ee12510a5fcc37aee5a3c0bdd0edb0815fe9c60448a584d71942eddb9"), looks := false }, kinds := [], alts := [], laidByText := true, laidKinds := [.data, .data], laidTests := true, laidLooks := .later }
def KeptUptoCardSaid : Prop := Claim7.holds Tryz.pinned (.plain (OpenSpec.upto keptSpec)) keptUptoCard

/-- THE SECOND FORM's CARD OF 'ripplelaw.Clusters'. -/
def clustersUptoCard : Claim7 := { stood := { row := clustersUptoRow, standIns := [], harness := (true, "07c1410ee12510a5fcc37aee5a3c0bdd0edb0815fe9c60448a584d71942eddb9"), looks := false }, kinds := [], alts := [], laidByText := true, laidKinds := [.data, .data], laidTests := true, laidLooks := .later }
def ClustersUptoCardSaid : Prop := Claim7.holds Tryz.pinned (.plain (OpenSpec.upto clustersSpec)) clustersUptoCard
end Rows
end Go.Proofs.YtahdlejgjcjeoaaGreatDoor
