/-
  DERIVED. GIVEN WITH THE SEED: THE CARDS: each row of YtabcmdhjbjioiaaDoorRows.lean that lists a variable, with what it lists TIED to the program's text (the seventh form; the later family's looks); each row that meets fmt, with fmt's text TOLD by the authors' own Lean function (tested against real Go, not proved from fmt's source: count such statements apart). THE CARD IS WHAT COUNTS. Prove the row's statement (the work); the ties are given (YtabcmdhjbjioiaaDoorTie.lean); close each card by the builder's one call (the guide's Derived/Test/ToyasCard.lean, 'card_holds'). Laid BY PROGRAM, IN A SANDBOX (cutbox-door.mjs). By AI agents, Wed Nov 11 2026. No macro, syntax, notation, axiom, sorry.
-/
import Derived.Test.YtabcmdhjbjioiaaDoorRows
import GoSem.ClaimSeven
namespace Go.Proofs.YtabcmdhjbjioiaaDoor
namespace Rows

/-- THE TIED CARD OF 'caltroplaw08.PowerExp'. -/
def powerExpCard : Claim7 := { stood := { row := powerExpRow, standIns := [], harness := (true, "df7cbeea1224fd8deb98c6a6bb64ea7d50522d13321c340fb79f1b19bbea01be"), looks := false }, kinds := [], alts := [], laidByText := true, laidKinds := [.data], laidTests := true, laidLooks := .later }
def PowerExpCardSaid : Prop := Claim7.holds Tryd.pinned (.plain (OpenSpec.ofChange powerExpSpec)) powerExpCard

/-- THE TIED CARD OF 'caltroplaw08.PowerSums'. -/
def powerSumsCard : Claim7 := { stood := { row := powerSumsRow, standIns := [], harness := (true, "df7cbeea1224fd8deb98c6a6bb64ea7d50522d13321c340fb79f1b19bbea01be"), looks := false }, kinds := [], alts := [], laidByText := true, laidKinds := [.data], laidTests := true, laidLooks := .later }
def PowerSumsCardSaid : Prop := Claim7.holds Tryd.pinned (.plain (OpenSpec.ofChange powerSumsSpec)) powerSumsCard

/-- THE TIED CARD OF 'caltroplaw08.PowerSmall'. -/
def powerSmallCard : Claim7 := { stood := { row := powerSmallRow, standIns := [], harness := (true, "df7cbeea1224fd8deb98c6a6bb64ea7d50522d13321c340fb79f1b19bbea01be"), looks := false }, kinds := [], alts := [], laidByText := true, laidKinds := [.data], laidTests := true, laidLooks := .later }
def PowerSmallCardSaid : Prop := Claim7.holds Tryd.pinned (.plain (OpenSpec.ofChange powerSmallSpec)) powerSmallCard

/-- THE TIED CARD OF 'caltroplaw08.PowerSymbols'. -/
def powerSymbolsCard : Claim7 := { stood := { row := powerSymbolsRow, standIns := [], harness := (true, "df7cbeea1224fd8deb98c6a6bb64ea7d50522d13321c340fb79f1b19bbea01be"), looks := false }, kinds := [], alts := [], laidByText := true, laidKinds := [.data], laidTests := true, laidLooks := .later }
def PowerSymbolsCardSaid : Prop := Claim7.holds Tryd.pinned (.plain (OpenSpec.ofChange powerSymbolsSpec)) powerSymbolsCard

/-- THE TIED CARD OF 'caltroplaw08.PowerEuler'. -/
def powerEulerCard : Claim7 := { stood := { row := powerEulerRow, standIns := [], harness := (true, "df7cbeea1224fd8deb98c6a6bb64ea7d50522d13321c340fb79f1b19bbea01be"), looks := false }, kinds := [], alts := [], laidByText := true, laidKinds := [.data], laidTests := true, laidLooks := .later }
def PowerEulerCardSaid : Prop := Claim7.holds Tryd.pinned (.plain (OpenSpec.ofChange powerEulerSpec)) powerEulerCard

/-- THE TIED CARD OF 'caltroplaw08.PowerTower'. -/
def powerTowerCard : Claim7 := { stood := { row := powerTowerRow, standIns := [], harness := (true, "df7cbeea1224fd8deb98c6a6bb64ea7d50522d13321c340fb79f1b19bbea01be"), looks := false }, kinds := [], alts := [], laidByText := true, laidKinds := [.data], laidTests := true, laidLooks := .later }
def PowerTowerCardSaid : Prop := Claim7.holds Tryd.pinned (.plain (OpenSpec.ofChange powerTowerSpec)) powerTowerCard

/-- THE TIED CARD OF 'caltroplaw08.PowerRests'. -/
def powerRestsCard : Claim7 := { stood := { row := powerRestsRow, standIns := [], harness := (true, "df7cbeea1224fd8deb98c6a6bb64ea7d50522d13321c340fb79f1b19bbea01be"), looks := false }, kinds := [], alts := [], laidByText := true, laidKinds := [.data], laidTests := true, laidLooks := .later }
def PowerRestsCardSaid : Prop := Claim7.holds Tryd.pinned (.plain (OpenSpec.ofChange powerRestsSpec)) powerRestsCard

/-- THE SECOND FORM's CARD OF 'caltroplaw08.PowerExp'. -/
def powerExpUptoCard : Claim7 := { stood := { row := powerExpUptoRow, standIns := [], harness := (true, "df7cbeea1224fd8deb98c6a6bb64ea7d50522d13321c340fb79f1b19bbea01be"), looks := false }, kinds := [], alts := [], laidByText := true, laidKinds := [.data], laidTests := true, laidLooks := .later }
def PowerExpUptoCardSaid : Prop := Claim7.holds Tryd.pinned (.plain (OpenSpec.upto powerExpSpec)) powerExpUptoCard

/-- THE SECOND FORM's CARD OF 'caltroplaw08.PowerSums'. -/
def powerSumsUptoCard : Claim7 := { stood := { row := powerSumsUptoRow, standIns := [], harness := (true, "df7cbeea1224fd8deb98c6a6bb64ea7d50522d13321c340fb79f1b19bbea01be"), looks := false }, kinds := [], alts := [], laidByText := true, laidKinds := [.data], laidTests := true, laidLooks := .later }
def PowerSumsUptoCardSaid : Prop := Claim7.holds Tryd.pinned (.plain (OpenSpec.upto powerSumsSpec)) powerSumsUptoCard

/-- THE SECOND FORM's CARD OF 'caltroplaw08.PowerSmall'. -/
def powerSmallUptoCard : Claim7 := { stood := { row := powerSmallUptoRow, standIns := [], harness := (true, "df7cbeea1224fd8deb98c6a6bb64ea7d50522d13321c340fb79f1b19bbea01be"), looks := false }, kinds := [], alts := [], laidByText := true, laidKinds := [.data], laidTests := true, laidLooks := .later }
def PowerSmallUptoCardSaid : Prop := Claim7.holds Tryd.pinned (.plain (OpenSpec.upto powerSmallSpec)) powerSmallUptoCard

/-- THE SECOND FORM's CARD OF 'caltroplaw08.PowerSymbols'. -/
def powerSymbolsUptoCard : Claim7 := { stood := { row := powerSymbolsUptoRow, standIns := [], harness := (true, "df7cbeea1224fd8deb98c6a6bb64ea7d50522d13321c340fb79f1b19bbea01be"), looks := false }, kinds := [], alts := [], laidByText := true, laidKinds := [.data], laidTests := true, laidLooks := .later }
def PowerSymbolsUptoCardSaid : Prop := Claim7.holds Tryd.pinned (.plain (OpenSpec.upto powerSymbolsSpec)) powerSymbolsUptoCard

/-- THE SECOND FORM's CARD OF 'caltroplaw08.PowerEuler'. -/
def powerEulerUptoCard : Claim7 := { stood := { row := powerEulerUptoRow, standIns := [], harness := (true, "df7cbeea1224fd8deb98c6a6bb64ea7d50522d13321c340fb79f1b19bbea01be"), looks := false }, kinds := [], alts := [], laidByText := true, laidKinds := [.data], laidTests := true, laidLooks := .later }
def PowerEulerUptoCardSaid : Prop := Claim7.holds Tryd.pinned (.plain (OpenSpec.upto powerEulerSpec)) powerEulerUptoCard

/-- THE SECOND FORM's CARD OF 'caltroplaw08.PowerTower'. -/
def powerTowerUptoCard : Claim7 := { stood := { row := powerTowerUptoRow, standIns := [], harness := (true, "df7cbeea1224fd8deb98c6a6bb64ea7d50522d13321c340fb79f1b19bbea01be"), looks := false }, kinds := [], alts := [], laidByText := true, laidKinds := [.data], laidTests := true, laidLooks := .later }
def PowerTowerUptoCardSaid : Prop := Claim7.holds Tryd.pinned (.plain (OpenSpec.upto powerTowerSpec)) powerTowerUptoCard

/-- THE SECOND FORM's CARD OF 'caltroplaw08.PowerRests'. -/
def powerRestsUptoCard : Claim7 := { stood := { row := powerRestsUptoRow, standIns := [], harness := (true, "df7cbeea1224fd8deb98c6a6bb64ea7d50522d13321c340fb79f1b19bbea01be"), looks := false }, kinds := [], alts := [], laidByText := true, laidKinds := [.data], laidTests := true, laidLooks := .later }
def PowerRestsUptoCardSaid : Prop := Claim7.holds Tryd.pinned (.plain (OpenSpec.upto powerRestsSpec)) powerRestsUptoCard
end Rows
end Go.Proofs.YtabcmdhjbjioiaaDoor
