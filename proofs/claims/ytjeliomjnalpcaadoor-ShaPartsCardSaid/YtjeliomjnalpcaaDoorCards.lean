/-
  DERIVED. GIVEN WITH THE SEED: THE CARDS: each row of YtjeliomjnalpcaaDoorRows.lean that lists a variable, with what it lists TIED to the program's text (the seventh form; the later family's looks); each row that meets fmt, with fmt's text TOLD by the authors' own Lean function (tested against real Go, not proved from fmt's source: count such statements apart). THE CARD IS WHAT COUNTS. Prove the row's statement (the work); the ties are given (YtjeliomjnalpcaaDoorTie.lean); close each card by the builder's one call (the guide's Derived/Test/ToyasCard.lean, 'card_holds'). Laid BY PROGRAM, IN A SANDBOX (cutbox-door.mjs). By AI agents, Wed Nov 11 2026. No macro, syntax, notation, axiom, sorry.
-/
import Derived.Test.YtjeliomjnalpcaaDoorRows
import GoSem.ClaimSeven
namespace Go.Proofs.YtjeliomjnalpcaaDoor
namespace Rows

/-- THE TIED CARD OF 'caltroplaw07.ShaFractions'. -/
def shaFractionsCard : Claim7 := { stood := { row := shaFractionsRow, standIns := [], harness := (true, "1f2f47b0be334ca1c07f9f1004d150dc8acc646b57bd0eb6dcfe8ab582c7a9ae"), looks := false }, kinds := [], alts := [], laidByText := true, laidKinds := [.data, .data], laidTests := true, laidLooks := .later }
def ShaFractionsCardSaid : Prop := Claim7.holds Tryd.pinned (.plain (OpenSpec.ofChange shaFractionsSpec)) shaFractionsCard

/-- THE TIED CARD OF 'caltroplaw07.ShaBetween'. -/
def shaBetweenCard : Claim7 := { stood := { row := shaBetweenRow, standIns := [], harness := (true, "1f2f47b0be334ca1c07f9f1004d150dc8acc646b57bd0eb6dcfe8ab582c7a9ae"), looks := false }, kinds := [], alts := [], laidByText := true, laidKinds := [.data, .data], laidTests := true, laidLooks := .later }
def ShaBetweenCardSaid : Prop := Claim7.holds Tryd.pinned (.plain (OpenSpec.ofChange shaBetweenSpec)) shaBetweenCard

/-- THE TIED CARD OF 'caltroplaw07.ShaSums'. -/
def shaSumsCard : Claim7 := { stood := { row := shaSumsRow, standIns := [], harness := (true, "1f2f47b0be334ca1c07f9f1004d150dc8acc646b57bd0eb6dcfe8ab582c7a9ae"), looks := false }, kinds := [], alts := [], laidByText := true, laidKinds := [.data, .data], laidTests := true, laidLooks := .later }
def ShaSumsCardSaid : Prop := Claim7.holds Tryd.pinned (.plain (OpenSpec.ofChange shaSumsSpec)) shaSumsCard

/-- THE TIED CARD OF 'caltroplaw07.ShaParts'. -/
def shaPartsCard : Claim7 := { stood := { row := shaPartsRow, standIns := [], harness := (true, "1f2f47b0be334ca1c07f9f1004d150dc8acc646b57bd0eb6dcfe8ab582c7a9ae"), looks := false }, kinds := [], alts := [], laidByText := true, laidKinds := [.data, .data], laidTests := true, laidLooks := .later }
def ShaPartsCardSaid : Prop := Claim7.holds Tryd.pinned (.plain (OpenSpec.ofChange shaPartsSpec)) shaPartsCard

/-- THE TIED CARD OF 'caltroplaw07.ShaLengths'. -/
def shaLengthsCard : Claim7 := { stood := { row := shaLengthsRow, standIns := [], harness := (true, "1f2f47b0be334ca1c07f9f1004d150dc8acc646b57bd0eb6dcfe8ab582c7a9ae"), looks := false }, kinds := [], alts := [], laidByText := true, laidKinds := [.data, .data], laidTests := true, laidLooks := .later }
def ShaLengthsCardSaid : Prop := Claim7.holds Tryd.pinned (.plain (OpenSpec.ofChange shaLengthsSpec)) shaLengthsCard

/-- THE SECOND FORM's CARD OF 'caltroplaw07.ShaFractions'. -/
def shaFractionsUptoCard : Claim7 := { stood := { row := shaFractionsUptoRow, standIns := [], harness := (true, "1f2f47b0be334ca1c07f9f1004d150dc8acc646b57bd0eb6dcfe8ab582c7a9ae"), looks := false }, kinds := [], alts := [], laidByText := true, laidKinds := [.data, .data], laidTests := true, laidLooks := .later }
def ShaFractionsUptoCardSaid : Prop := Claim7.holds Tryd.pinned (.plain (OpenSpec.upto shaFractionsSpec)) shaFractionsUptoCard

/-- THE SECOND FORM's CARD OF 'caltroplaw07.ShaBetween'. -/
def shaBetweenUptoCard : Claim7 := { stood := { row := shaBetweenUptoRow, standIns := [], harness := (true, "1f2f47b0be334ca1c07f9f1004d150dc8acc646b57bd0eb6dcfe8ab582c7a9ae"), looks := false }, kinds := [], alts := [], laidByText := true, laidKinds := [.data, .data], laidTests := true, laidLooks := .later }
def ShaBetweenUptoCardSaid : Prop := Claim7.holds Tryd.pinned (.plain (OpenSpec.upto shaBetweenSpec)) shaBetweenUptoCard

/-- THE SECOND FORM's CARD OF 'caltroplaw07.ShaSums'. -/
def shaSumsUptoCard : Claim7 := { stood := { row := shaSumsUptoRow, standIns := [], harness := (true, "1f2f47b0be334ca1c07f9f1004d150dc8acc646b57bd0eb6dcfe8ab582c7a9ae"), looks := false }, kinds := [], alts := [], laidByText := true, laidKinds := [.data, .data], laidTests := true, laidLooks := .later }
def ShaSumsUptoCardSaid : Prop := Claim7.holds Tryd.pinned (.plain (OpenSpec.upto shaSumsSpec)) shaSumsUptoCard

/-- THE SECOND FORM's CARD OF 'caltroplaw07.ShaParts'. -/
def shaPartsUptoCard : Claim7 := { stood := { row := shaPartsUptoRow, standIns := [], harness := (true, "1f2f47b0be334ca1c07f9f1004d150dc8acc646b57bd0eb6dcfe8ab582c7a9ae"), looks := false }, kinds := [], alts := [], laidByText := true, laidKinds := [.data, .data], laidTests := true, laidLooks := .later }
def ShaPartsUptoCardSaid : Prop := Claim7.holds Tryd.pinned (.plain (OpenSpec.upto shaPartsSpec)) shaPartsUptoCard

/-- THE SECOND FORM's CARD OF 'caltroplaw07.ShaLengths'. -/
def shaLengthsUptoCard : Claim7 := { stood := { row := shaLengthsUptoRow, standIns := [], harness := (true, "1f2f47b0be334ca1c07f9f1004d150dc8acc646b57bd0eb6dcfe8ab582c7a9ae"), looks := false }, kinds := [], alts := [], laidByText := true, laidKinds := [.data, .data], laidTests := true, laidLooks := .later }
def ShaLengthsUptoCardSaid : Prop := Claim7.holds Tryd.pinned (.plain (OpenSpec.upto shaLengthsSpec)) shaLengthsUptoCard
end Rows
end Go.Proofs.YtjeliomjnalpcaaDoor
