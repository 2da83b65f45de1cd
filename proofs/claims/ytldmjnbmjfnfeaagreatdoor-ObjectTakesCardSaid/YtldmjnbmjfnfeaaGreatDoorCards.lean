/-
  DERIVED. GIVEN WITH THE SEED: THE CARDS: each row of YtldmjnbmjfnfeaaGreatDoorRows.lean that lists a variable, with what it lists TIED to the program's text (the seventh form; the later family's looks); each row that meets fmt, with fmt's text TOLD by the authors' own Lean function (tested against real Go, not proved from fmt's source: count such statements apart). THE CARD IS WHAT COUNTS. Prove the row's statement (the work); the ties are given (YtldmjnbmjfnfeaaGreatDoorTie.lean); close each card by the builder's one call (the guide's Derived/Test/ToyasCard.lean, 'card_holds'). Laid BY PROGRAM, IN A SANDBOX (cutbox-door.mjs). By AI agents, Wed Nov 11 2026. No macro, syntax, notation, axiom, sorry.
-/
import Derived.Test.YtldmjnbmjfnfeaaGreatDoorRows
import GoSem.ClaimSeven
namespace Go.Proofs.YtldmjnbmjfnfeaaGreatDoor
namespace Rows

/-- THE TIED CARD OF 'sindrilaw09.ObjectTakes'. -/
def objectTakesCard : Claim7 := { stood := { row := objectTakesRow, standIns := [], harness := (true, "56804c00e0913f4861cc3352ec9c5938f20e1e93203494ba815c8eba7ee83018"), looks := false }, kinds := [], alts := [], laidByText := true, laidKinds := [.data], laidTests := true, laidLooks := .later }
def ObjectTakesCardSaid : Prop := Claim7.holds Tryz.pinned (.plain (OpenSpec.ofChange objectTakesSpec)) objectTakesCard

/-- THE TIED CARD OF 'sindrilaw09.ObjectPuts'. -/
def objectPutsCard : Claim7 := { stood := { row := objectPutsRow, standIns := [], harness := (true, "56804c00e0913f4861cc3352ec9c5938f20e1e93203494ba815c8eba7ee83018"), looks := false }, kinds := [], alts := [], laidByText := true, laidKinds := [.data], laidTests := true, laidLooks := .later }
def ObjectPutsCardSaid : Prop := Claim7.holds Tryz.pinned (.plain (OpenSpec.ofChange objectPutsSpec)) objectPutsCard

/-- THE TIED CARD OF 'sindrilaw09.ObjectBack'. -/
def objectBackCard : Claim7 := { stood := { row := objectBackRow, standIns := [], harness := (true, "56804c00e0913f4861cc3352ec9c5938f20e1e93203494ba815c8eba7ee83018"), looks := false }, kinds := [], alts := [], laidByText := true, laidKinds := [.data], laidTests := true, laidLooks := .later }
def ObjectBackCardSaid : Prop := Claim7.holds Tryz.pinned (.plain (OpenSpec.ofChange objectBackSpec)) objectBackCard

/-- THE SECOND FORM's CARD OF 'sindrilaw09.ObjectTakes'. -/
def objectTakesUptoCard : Claim7 := { stood := { row := objectTakesUptoRow, standIns := [], harness := (true, "56804c00e0913f4861cc3352ec9c5938f20e1e93203494ba815c8eba7ee83018"), looks := false }, kinds := [], alts := [], laidByText := true, laidKinds := [.data], laidTests := true, laidLooks := .later }
def ObjectTakesUptoCardSaid : Prop := Claim7.holds Tryz.pinned (.plain (OpenSpec.upto objectTakesSpec)) objectTakesUptoCard

/-- THE SECOND FORM's CARD OF 'sindrilaw09.ObjectPuts'. -/
def objectPutsUptoCard : Claim7 := { stood := { row := objectPutsUptoRow, standIns := [], harness := (true, "56804c00e0913f4861cc3352ec9c5938f20e1e93203494ba815c8eba7ee83018"), looks := false }, kinds := [], alts := [], laidByText := true, laidKinds := [.data], laidTests := true, laidLooks := .later }
def ObjectPutsUptoCardSaid : Prop := Claim7.holds Tryz.pinned (.plain (OpenSpec.upto objectPutsSpec)) objectPutsUptoCard

/-- THE SECOND FORM's CARD OF 'sindrilaw09.ObjectBack'. -/
def objectBackUptoCard : Claim7 := { stood := { row := objectBackUptoRow, standIns := [], harness := (true, "56804c00e0913f4861cc3352ec9c5938f20e1e93203494ba815c8eba7ee83018"), looks := false }, kinds := [], alts := [], laidByText := true, laidKinds := [.data], laidTests := true, laidLooks := .later }
def ObjectBackUptoCardSaid : Prop := Claim7.holds Tryz.pinned (.plain (OpenSpec.upto objectBackSpec)) objectBackUptoCard
end Rows
end Go.Proofs.YtldmjnbmjfnfeaaGreatDoor
