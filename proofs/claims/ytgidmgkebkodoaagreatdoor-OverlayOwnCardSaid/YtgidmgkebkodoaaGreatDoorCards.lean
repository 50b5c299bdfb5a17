/-
  DERIVED. GIVEN WITH THE SEED: THE CARDS: each row of YtgidmgkebkodoaaGreatDoorRows.lean that lists a variable, with what it lists TIED to the program's text (the seventh form; the later family's looks); each row that meets fmt, with fmt's text TOLD by the authors' own Lean function (tested against real Go, not proved from fmt's source: count such statements apart). THE CARD IS WHAT COUNTS. Prove the row's statement (the work); the ties are given (YtgidmgkebkodoaaGreatDoorTie.lean); close each card by the builder's one call (the guide's Derived/Test/ToyasCard.lean, 'card_holds'). Laid BY PROGRAM, IN A SANDBOX (cutbox-door.mjs). By AI agents, Wed Nov 11 2026. No macro, syntax, notation, axiom, sorry.
-/
import Derived.Test.YtgidmgkebkodoaaGreatDoorRows
import GoSem.ClaimSeven
namespace Go.Proofs.YtgidmgkebkodoaaGreatDoor
namespace Rows

/-- THE TIED CARD OF 'commonplacelaw12.OverlayNil'. -/
def overlayNilCard : Claim7 := { stood := { row := overlayNilRow, standIns := [], harness := (true, "8fb0526638845647b65474568599b926a9fb280932eed8f9b327f713a038fe44"), looks := false }, kinds := [], alts := [], laidByText := true, laidKinds := [.data, .data, .data, .data, .pinned], laidTests := true, laidLooks := .later }
def OverlayNilCardSaid : Prop := Claim7.holds Tryz.pinned (.plain (OpenSpec.ofChange overlayNilSpec)) overlayNilCard

/-- THE TIED CARD OF 'commonplacelaw13.InterpNil'. -/
def interpNilCard : Claim7 := { stood := { row := interpNilRow, standIns := [], harness := (true, "8fb0526638845647b65474568599b926a9fb280932eed8f9b327f713a038fe44"), looks := false }, kinds := [], alts := [], laidByText := true, laidKinds := [.data, .data, .data, .data, .pinned], laidTests := true, laidLooks := .later }
def InterpNilCardSaid : Prop := Claim7.holds Tryz.pinned (.plain (OpenSpec.ofChange interpNilSpec)) interpNilCard

/-- THE TIED CARD OF 'commonplacelaw12.OverlayOwn'. -/
def overlayOwnCard : Claim7 := { stood := { row := overlayOwnRow, standIns := [], harness := (true, "8fb0526638845647b65474568599b926a9fb280932eed8f9b327f713a038fe44"), looks := false }, kinds := [], alts := [], laidByText := true, laidKinds := [.data, .data, .data, .data, .pinned], laidTests := true, laidLooks := .later }
def OverlayOwnCardSaid : Prop := Claim7.holds Tryz.pinned (.plain (OpenSpec.ofChange overlayOwnSpec)) overlayOwnCard

/-- THE TIED CARD OF 'commonplacelaw24.RebaseOwn'. -/
def rebaseOwnCard : Claim7 := { stood := { row := rebaseOwnRow, standIns := [], harness := (true, "8fb0526638845647b65474568599b926a9fb280932eed8f9b327f713a038fe44"), looks := false }, kinds := [], alts := [], laidByText := true, laidKinds := [.data, .data, .data, .data, .pinned], laidTests := true, laidLooks := .later }
def RebaseOwnCardSaid : Prop := Claim7.holds Tryz.pinned (.plain (OpenSpec.ofChange rebaseOwnSpec)) rebaseOwnCard

/-- THE SECOND FORM's CARD OF 'commonplacelaw12.OverlayNil'. -/
def overlayNilUptoCard : Claim7 := { stood := { row := overlayNilUptoRow, standIns := [], harness := (true, "8fb0526638845647b65474568599b926a9fb280932eed8f9b327f713a038fe44"), looks := false }, kinds := [], alts := [], laidByText := true, laidKinds := [.data, .data, .data, .data, .pinned], laidTests := true, laidLooks := .later }
def OverlayNilUptoCardSaid : Prop := Claim7.holds Tryz.pinned (.plain (OpenSpec.upto overlayNilSpec)) overlayNilUptoCard

/-- THE SECOND FORM's CARD OF 'commonplacelaw13.InterpNil'. -/
def interpNilUptoCard : Claim7 := { stood := { row := interpNilUptoRow, standIns := [], harness := (true, "8fb0526638845647b65474568599b926a9fb280932eed8f9b327f713a038fe44"), looks := false }, kinds := [], alts := [], laidByText := true, laidKinds := [.data, .data, .data, .data, .pinned], laidTests := true, laidLooks := .later }
def InterpNilUptoCardSaid : Prop := Claim7.holds Tryz.pinned (.plain (OpenSpec.upto interpNilSpec)) interpNilUptoCard

/-- THE SECOND FORM's CARD OF 'commonplacelaw12.OverlayOwn'. -/
def overlayOwnUptoCard : Claim7 := { stood := { row := overlayOwnUptoRow, standIns := [], harness := (true, "8fb0526638845647b65474568599b926a9fb280932eed8f9b327f713a038fe44"), looks := false }, kinds := [], alts := [], laidByText := true, laidKinds := [.data, .data, .data, .data, .pinned], laidTests := true, laidLooks := .later }
def OverlayOwnUptoCardSaid : Prop := Claim7.holds Tryz.pinned (.plain (OpenSpec.upto overlayOwnSpec)) overlayOwnUptoCard

/-- THE SECOND FORM's CARD OF 'commonplacelaw24.RebaseOwn'. -/
def rebaseOwnUptoCard : Claim7 := { stood := { row := rebaseOwnUptoRow, standIns := [], harness := (true, "8fb0526638845647b65474568599b926a9fb280932eed8f9b327f713a038fe44"), looks := false }, kinds := [], alts := [], laidByText := true, laidKinds := [.data, .data, .data, .data, .pinned], laidTests := true, laidLooks := .later }
def RebaseOwnUptoCardSaid : Prop := Claim7.holds Tryz.pinned (.plain (OpenSpec.upto rebaseOwnSpec)) rebaseOwnUptoCard
end Rows
end Go.Proofs.YtgidmgkebkodoaaGreatDoor
