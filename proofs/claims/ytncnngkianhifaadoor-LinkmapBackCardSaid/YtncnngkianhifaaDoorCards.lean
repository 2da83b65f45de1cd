/-
  DERIVED. GIVEN WITH THE SEED: THE CARDS: each row of YtncnngkianhifaaDoorRows.lean that lists a variable, with what it lists TIED to the program's text (the seventh form; the later family's looks); each row that meets fmt, with fmt's text TOLD by the authors' own Lean function (tested against real Go, not proved from fmt's source: count such statements apart). THE CARD IS WHAT COUNTS. Prove the row's statement (the work); the ties are given (YtncnngkianhifaaDoorTie.lean); close each card by the builder's one call (the guide's Derived/Test/ToyasCard.lean, 'card_holds'). Laid BY PROGRAM, IN A SANDBOX (cutbox-door.mjs). By AI agents, Wed Nov 11 2026. No macro, syntax, notation, axiom, sorry.
-/
import Derived.Test.YtncnngkianhifaaDoorRows
import GoSem.ClaimSeven
namespace Go.Proofs.YtncnngkianhifaaDoor
namespace Rows

/-- THE TIED CARD OF 'sindrilaw11.LinkmapAsks'. -/
def linkmapAsksCard : Claim7 := { stood := { row := linkmapAsksRow, standIns := [], harness := (true, "e0dc8a38167f73cf01aefd8b26a666b72752b79728040393c9dafc68f335b616"), looks := true }, kinds := [], alts := [], laidByText := true, laidKinds := [.data, .data, .data], laidTests := true, laidLooks := .later }
def LinkmapAsksCardSaid : Prop := Claim7.holds Tryd.pinned (.plain (OpenSpec.ofChange linkmapAsksSpec)) linkmapAsksCard

/-- THE TIED CARD OF 'sindrilaw11.LinkmapBack'. -/
def linkmapBackCard : Claim7 := { stood := { row := linkmapBackRow, standIns := [], harness := (true, "e0dc8a38167f73cf01aefd8b26a666b72752b79728040393c9dafc68f335b616"), looks := true }, kinds := [], alts := [], laidByText := true, laidKinds := [.data, .data, .data], laidTests := true, laidLooks := .later }
def LinkmapBackCardSaid : Prop := Claim7.holds Tryd.pinned (.plain (OpenSpec.ofChange linkmapBackSpec)) linkmapBackCard

/-- THE TIED CARD OF 'sindrilaw11.LinkmapOrders'. -/
def linkmapOrdersCard : Claim7 := { stood := { row := linkmapOrdersRow, standIns := [], harness := (true, "e0dc8a38167f73cf01aefd8b26a666b72752b79728040393c9dafc68f335b616"), looks := true }, kinds := [], alts := [], laidByText := true, laidKinds := [.data, .data, .data], laidTests := true, laidLooks := .later }
def LinkmapOrdersCardSaid : Prop := Claim7.holds Tryd.pinned (.plain (OpenSpec.ofChange linkmapOrdersSpec)) linkmapOrdersCard

/-- THE SECOND FORM's CARD OF 'sindrilaw11.LinkmapAsks'. -/
def linkmapAsksUptoCard : Claim7 := { stood := { row := linkmapAsksUptoRow, standIns := [], harness := (true, "e0dc8a38167f73cf01aefd8b26a666b72752b79728040393c9dafc68f335b616"), looks := true }, kinds := [], alts := [], laidByText := true, laidKinds := [.data, .data, .data], laidTests := true, laidLooks := .later }
def LinkmapAsksUptoCardSaid : Prop := Claim7.holds Tryd.pinned (.plain (OpenSpec.upto linkmapAsksSpec)) linkmapAsksUptoCard

/-- THE SECOND FORM's CARD OF 'sindrilaw11.LinkmapBack'. -/
def linkmapBackUptoCard : Claim7 := { stood := { row := linkmapBackUptoRow, standIns := [], harness := (true, "e0dc8a38167f73cf01aefd8b26a666b72752b79728040393c9dafc68f335b616"), looks := true }, kinds := [], alts := [], laidByText := true, laidKinds := [.data, .data, .data], laidTests := true, laidLooks := .later }
def LinkmapBackUptoCardSaid : Prop := Claim7.holds Tryd.pinned (.plain (OpenSpec.upto linkmapBackSpec)) linkmapBackUptoCard

/-- THE SECOND FORM's CARD OF 'sindrilaw11.LinkmapOrders'. -/
def linkmapOrdersUptoCard : Claim7 := { stood := { row := linkmapOrdersUptoRow, standIns := [], harness := (true, "e0dc8a38167f73cf01aefd8b26a666b72752b79728040393c9dafc68f335b616"), looks := true }, kinds := [], alts := [], laidByText := true, laidKinds := [.data, .data, .data], laidTests := true, laidLooks := .later }
def LinkmapOrdersUptoCardSaid : Prop := Claim7.holds Tryd.pinned (.plain (OpenSpec.upto linkmapOrdersSpec)) linkmapOrdersUptoCard
end Rows
end Go.Proofs.YtncnngkianhifaaDoor
