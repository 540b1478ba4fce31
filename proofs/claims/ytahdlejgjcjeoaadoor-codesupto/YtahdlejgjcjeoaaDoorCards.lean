/-
  DERIVED. GIVEN WITH THE SEED: THE CARDS: each row of YtahdlejgjcjeoaaDoorRows.lean that lists a variable, with what it lists TIED to the program's text (the seventh form; the later family's looks); each row that meets fmt, with fmt's text TOLD by the authors' own Lean function (tested against real Go, not proved from fmt's source: count such statements apart). THE CARD IS WHAT COUNTS. Prove the row's statement (the work); the ties are given (YtahdlejgjcjeoaaDoorTie.lean); close each card by the builder's one call (the guide's Derived/Test/ToyasCard.lean, 'card_holds'). Laid BY PROGRAM, IN A SANDBOX (cutbox-door.mjs). By AI agents, Wed Nov 11 2026. No macro, syntax, notation, axiom, sorry.
-/
import Derived.Test.YtahdlejgjcjeoaaDoorRows
import GoSem.ClaimSeven
namespace Go.Proofs.YtahdlejgjcjeoaaDoor
namespace Rows

/-- THE TIED CARD OF 'ripplelaw.Joins'. -/
def joinsCard : Claim7 := { stood := { row := joinsRow, standIns := [], harness := (true, "aef69a469fd2ee2ddacc9fdf0fa1c502a262fbc098159509513a870938aad03c"), looks := false }, kinds := [], alts := [], goes := true, laidByText := true, laidKinds := [.data], laidTests := true, laidLooks := .later }
def JoinsCardSaid : Prop := Claim7.holds Tryd.pinned (.plain (OpenSpec.ofChange joinsSpec)) joinsCard

/-- THE TIED CARD OF 'ripplelaw.Deltas'. -/
def deltasCard : Claim7 := { stood := { row := deltasRow, standIns := [], harness := (true, "aef69a469fd2ee2ddacc9fdf0fa1c502a262fbc098159509513a870938aad03c"), looks := false }, kinds := [], alts := [], goes := true, laidByText := true, laidKinds := [.data], laidTests := true, laidLooks := .later }
def DeltasCardSaid : Prop := Claim7.holds Tryd.pinned (.plain (OpenSpec.ofChange deltasSpec)) deltasCard

/-- THE TIED CARD OF 'ripplelaw.Alls'. -/
def allsCard : Claim7 := { stood := { row := allsRow, standIns := [], harness := (true, "aef69a469fd2ee2ddacc9fdf0fa1c502a262fbc098159509513a870938aad03c"), looks := false }, kinds := [], alts := [], goes := true, laidByText := true, laidKinds := [.data], laidTests := true, laidLooks := .later }
def AllsCardSaid : Prop := Claim7.holds Tryd.pinned (.plain (OpenSpec.ofChange allsSpec)) allsCard

/-- THE TIED CARD OF 'ripplelaw.Reads'. -/
def readsCard : Claim7 := { stood := { row := readsRow, standIns := [], harness := (true, "aef69a469fd2ee2ddacc9fdf0fa1c502a262fbc098159509513a870938aad03c"), looks := false }, kinds := [], alts := [], laidByText := true, laidKinds := [.data], laidTests := true, laidLooks := .later }
def ReadsCardSaid : Prop := Claim7.holds Tryd.pinned (.plain (OpenSpec.ofChange readsSpec)) readsCard

/-- THE TIED CARD OF 'ripplelaw.Joined'. -/
def joinedCard : Claim7 := { stood := { row := joinedRow, standIns := [], harness := (true, "aef69a469fd2ee2ddacc9fdf0fa1c502a262fbc098159509513a870938aad03c"), looks := false }, kinds := [], alts := [], goes := true, laidByText := true, laidKinds := [.data], laidTests := true, laidLooks := .later }
def JoinedCardSaid : Prop := Claim7.holds Tryd.pinned (.plain (OpenSpec.ofChange joinedSpec)) joinedCard

/-- THE TIED CARD OF 'ripplelaw.Least'. -/
def leastCard : Claim7 := { stood := { row := leastRow, standIns := [], harness := (true, "aef69a469fd2ee2ddacc9fdf0fa1c502a262fbc098159509513a870938aad03c"), looks := false }, kinds := [], alts := [], goes := true, laidByText := true, laidKinds := [.data], laidTests := true, laidLooks := .later }
def LeastCardSaid : Prop := Claim7.holds Tryd.pinned (.plain (OpenSpec.ofChange leastSpec)) leastCard

/-- THE TIED CARD OF 'ripplelaw.Codes'. -/
def codesCard : Claim7 := { stood := { row := codesRow, standIns := [], harness := (true, "aef69a469fd2ee2ddacc9fdf0fa1c502a262fbc098159509513a870938aad03c"), looks := false }, kinds := [], alts := [], goes := true, laidByText := true, laidKinds := [.data], laidTests := true, laidLooks := .later }
def CodesCardSaid : Prop := Claim7.holds Tryd.pinned (.plain (OpenSpec.ofChange codesSpec)) codesCard

/-- THE TIED CARD OF 'ripplelaw.Back'. -/
def backCard : Claim7 := { stood := { row := backRow, standIns := [], harness := (true, "aef69a469fd2ee2ddacc9fdf0fa1c502a262fbc098159509513a870938aad03c"), looks := false }, kinds := [], alts := [], goes := true, laidByText := true, laidKinds := [.data], laidTests := true, laidLooks := .later }
def BackCardSaid : Prop := Claim7.holds Tryd.pinned (.plain (OpenSpec.ofChange backSpec)) backCard

/-- THE SECOND FORM's CARD OF 'ripplelaw.Joins'. -/
def joinsUptoCard : Claim7 := { stood := { row := joinsUptoRow, standIns := [], harness := (true, "aef69a469fd2ee2ddacc9fdf0fa1c502a262fbc098159509513a870938aad03c"), looks := false }, kinds := [], alts := [], goes := true, laidByText := true, laidKinds := [.data], laidTests := true, laidLooks := .later }
def JoinsUptoCardSaid : Prop := Claim7.holds Tryd.pinned (.plain (OpenSpec.upto joinsSpec)) joinsUptoCard

/-- THE SECOND FORM's CARD OF 'ripplelaw.Deltas'. -/
def deltasUptoCard : Claim7 := { stood := { row := deltasUptoRow, standIns := [], harness := (true, "aef69a469fd2ee2ddacc9fdf0fa1c502a262fbc098159509513a870938aad03c"), looks := false }, kinds := [], alts := [], goes := true, laidByText := true, laidKinds := [.data], laidTests := true, laidLooks := .later }
def DeltasUptoCardSaid : Prop := Claim7.holds Tryd.pinned (.plain (OpenSpec.upto deltasSpec)) deltasUptoCard

/-- THE SECOND FORM's CARD OF 'ripplelaw.Reads'. -/
def readsUptoCard : Claim7 := { stood := { row := readsUptoRow, standIns := [], harness := (true, "aef69a469fd2ee2ddacc9fdf0fa1c502a262fbc098159509513a870938aad03c"), looks := false }, kinds := [], alts := [], laidByText := true, laidKinds := [.data], laidTests := true, laidLooks := .later }
def ReadsUptoCardSaid : Prop := Claim7.holds Tryd.pinned (.plain (OpenSpec.upto readsSpec)) readsUptoCard

/-- THE SECOND FORM's CARD OF 'ripplelaw.Least'. -/
def leastUptoCard : Claim7 := { stood := { row := leastUptoRow, standIns := [], harness := (true, "aef69a469fd2ee2ddacc9fdf0fa1c502a262fbc098159509513a870938aad03c"), looks := false }, kinds := [], alts := [], goes := true, laidByText := true, laidKinds := [.data], laidTests := true, laidLooks := .later }
def LeastUptoCardSaid : Prop := Claim7.holds Tryd.pinned (.plain (OpenSpec.upto leastSpec)) leastUptoCard

/-- THE SECOND FORM's CARD OF 'ripplelaw.Codes'. -/
def codesUptoCard : Claim7 := { stood := { row := codesUptoRow, standIns := [], harness := (true, "aef69a469fd2ee2ddacc9fdf0fa1c502a262fbc098159509513a870938aad03c"), looks := false }, kinds := [], alts := [], goes := true, laidByText := true, laidKinds := [.data], laidTests := true, laidLooks := .later }
def CodesUptoCardSaid : Prop := Claim7.holds Tryd.pinned (.plain (OpenSpec.upto codesSpec)) codesUptoCard

/-- THE SECOND FORM's CARD OF 'ripplelaw.Back'. -/
def backUptoCard : Claim7 := { stood := { row := backUptoRow, standIns := [], harness := (true, "aef69a469fd2ee2ddacc9fdf0fa1c502a262fbc098159509513a870938aad03c"), looks := false }, kinds := [], alts := [], goes := true, laidByText := true, laidKinds := [.data], laidTests := true, laidLooks := .later }
def BackUptoCardSaid : Prop := Claim7.holds Tryd.pinned (.plain (OpenSpec.upto backSpec)) backUptoCard
end Rows
end Go.Proofs.YtahdlejgjcjeoaaDoor
