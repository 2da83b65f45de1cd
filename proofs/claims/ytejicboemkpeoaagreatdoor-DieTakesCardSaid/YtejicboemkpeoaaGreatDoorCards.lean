/-
  DERIVED. GIVEN WITH THE SEED: THE CARDS: each row of YtejicboemkpeoaaGreatDoorRows.lean that lists a variable, with what it lists TIED to the program's text (the seventh form; the later family's looks); each row that meets fmt, with fmt's text TOLD by the authors' own Lean function (tested against real Go, not proved from fmt's source: count such statements apart). THE CARD IS WHAT COUNTS. Prove the row's statement (the work); the ties are given (YtejicboemkpeoaaGreatDoorTie.lean); close each card by the builder's one call (the guide's Derived/Test/ToyasCard.lean, 'card_holds'). Laid BY PROGRAM, IN A SANDBOX (cutbox-door.mjs). By AI agents, Wed Nov 11 2026. No macro, syntax, notation, axiom, sorry.
-/
import Derived.Test.YtejicboemkpeoaaGreatDoorRows
import GoSem.ClaimSeven
namespace Go.Proofs.YtejicboemkpeoaaGreatDoor
namespace Rows

/-- THE TIED CARD OF 'sindrilaw11.LinkmapTexts'. -/
def linkmapTextsCard : Claim7 := { stood := { row := linkmapTextsRow, standIns := [], harness := (true, "e830f0f87b6c9f0fc236ff1c139dcd68a93f433ba2eee1af7dda3b0270445f02"), looks := true }, kinds := [], alts := [], laidByText := true, laidKinds := [.data, .data, .data, .data, .sentinel, .sentinel, .pinned], laidTests := true, laidLooks := .later }
def LinkmapTextsCardSaid : Prop := Claim7.holds Tryz.pinned (.plain (OpenSpec.ofChange linkmapTextsSpec)) linkmapTextsCard

/-- THE TIED CARD OF 'sindrilaw11.LinkmapRead'. -/
def linkmapReadCard : Claim7 := { stood := { row := linkmapReadRow, standIns := [], harness := (true, "e830f0f87b6c9f0fc236ff1c139dcd68a93f433ba2eee1af7dda3b0270445f02"), looks := true }, kinds := [], alts := [], laidByText := true, laidKinds := [.data, .data, .data, .data, .sentinel, .sentinel, .pinned], laidTests := true, laidLooks := .later }
def LinkmapReadCardSaid : Prop := Claim7.holds Tryz.pinned (.plain (OpenSpec.ofChange linkmapReadSpec)) linkmapReadCard

/-- THE TIED CARD OF 'sindrilaw17.DieTakes'. -/
def dieTakesCard : Claim7 := { stood := { row := dieTakesRow, standIns := [], harness := (true, "e830f0f87b6c9f0fc236ff1c139dcd68a93f433ba2eee1af7dda3b0270445f02"), looks := true }, kinds := [], alts := [], laidByText := true, laidKinds := [.data, .data], laidTests := true, laidLooks := .later }
def DieTakesCardSaid : Prop := Claim7.holds Tryz.pinned (.plain (OpenSpec.ofChange dieTakesSpec)) dieTakesCard

/-- THE TIED CARD OF 'sindrilaw17.DiePuts'. -/
def diePutsCard : Claim7 := { stood := { row := diePutsRow, standIns := [], harness := (true, "e830f0f87b6c9f0fc236ff1c139dcd68a93f433ba2eee1af7dda3b0270445f02"), looks := true }, kinds := [], alts := [], laidByText := true, laidKinds := [.data, .data], laidTests := true, laidLooks := .later }
def DiePutsCardSaid : Prop := Claim7.holds Tryz.pinned (.plain (OpenSpec.ofChange diePutsSpec)) diePutsCard

/-- THE SECOND FORM's CARD OF 'sindrilaw11.LinkmapTexts'. -/
def linkmapTextsUptoCard : Claim7 := { stood := { row := linkmapTextsUptoRow, standIns := [], harness := (true, "e830f0f87b6c9f0fc236ff1c139dcd68a93f433ba2eee1af7dda3b0270445f02"), looks := true }, kinds := [], alts := [], laidByText := true, laidKinds := [.data, .data, .data, .data, .sentinel, .sentinel, .pinned], laidTests := true, laidLooks := .later }
def LinkmapTextsUptoCardSaid : Prop := Claim7.holds Tryz.pinned (.plain (OpenSpec.upto linkmapTextsSpec)) linkmapTextsUptoCard

/-- THE SECOND FORM's CARD OF 'sindrilaw11.LinkmapRead'. -/
def linkmapReadUptoCard : Claim7 := { stood := { row := linkmapReadUptoRow, standIns := [], harness := (true, "e830f0f87b6c9f0fc236ff1c139dcd68a93f433ba2eee1af7dda3b0270445f02"), looks := true }, kinds := [], alts := [], laidByText := true, laidKinds := [.data, .data, .data, .data, .sentinel, .sentinel, .pinned], laidTests := true, laidLooks := .later }
def LinkmapReadUptoCardSaid : Prop := Claim7.holds Tryz.pinned (.plain (OpenSpec.upto linkmapReadSpec)) linkmapReadUptoCard

/-- THE SECOND FORM's CARD OF 'sindrilaw17.DieTakes'. -/
def dieTakesUptoCard : Claim7 := { stood := { row := dieTakesUptoRow, standIns := [], harness := (true, "e830f0f87b6c9f0fc236ff1c139dcd68a93f433ba2eee1af7dda3b0270445f02"), looks := true }, kinds := [], alts := [], laidByText := true, laidKinds := [.data, .data], laidTests := true, laidLooks := .later }
def DieTakesUptoCardSaid : Prop := Claim7.holds Tryz.pinned (.plain (OpenSpec.upto dieTakesSpec)) dieTakesUptoCard

/-- THE SECOND FORM's CARD OF 'sindrilaw17.DiePuts'. -/
def diePutsUptoCard : Claim7 := { stood := { row := diePutsUptoRow, standIns := [], harness := (true, "e830f0f87b6c9f0fc236ff1c139dcd68a93f433ba2eee1af7dda3b0270445f02"), looks := true }, kinds := [], alts := [], laidByText := true, laidKinds := [.data, .data], laidTests := true, laidLooks := .later }
def DiePutsUptoCardSaid : Prop := Claim7.holds Tryz.pinned (.plain (OpenSpec.upto diePutsSpec)) diePutsUptoCard
end Rows
end Go.Proofs.YtejicboemkpeoaaGreatDoor
