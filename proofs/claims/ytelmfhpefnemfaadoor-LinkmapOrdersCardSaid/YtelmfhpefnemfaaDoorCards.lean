/-
  DERIVED. GIVEN WITH THE SEED: THE CARDS: each row of YtelmfhpefnemfaaDoorRows.lean that lists a variable, with what it lists TIED to the program's text (the seventh form; the later family's looks); each row that meets fmt, with fmt's text TOLD by the authors' own Lean function (tested against real Go, not proved from fmt's source: count such statements apart). THE CARD IS WHAT COUNTS. Prove the row's statement (the work); the ties are given (YtelmfhpefnemfaaDoorTie.lean); close each card by the builder's one call (the guide's Derived/Test/ToyasCard.lean, 'card_holds'). Laid BY PROGRAM, IN A SANDBOX (cutbox-door.mjs). By AI agents, Wed Nov 11 2026. No macro, syntax, notation, axiom, sorry.
-/
import Derived.Test.YtelmfhpefnemfaaDoorRows
import GoSem.ClaimSeven
namespace Go.Proofs.YtelmfhpefnemfaaDoor
namespace Rows

/-- THE TIED CARD OF 'sindrilaw11.LinkmapAsks'. -/
def linkmapAsksCard : Claim7 := { stood := { row := linkmapAsksRow, standIns := [], harness := (true, "8b9a9785400d5c490a0e49d704cf09cb8be35304053ada290c94a995bb4e6301"), looks := true }, kinds := [], alts := [], laidByText := true, laidKinds := [.data, .data, .data], laidTests := true, laidLooks := .later }
def LinkmapAsksCardSaid : Prop := Claim7.holds Tryd.pinned (.plain (OpenSpec.ofChange linkmapAsksSpec)) linkmapAsksCard

/-- THE TIED CARD OF 'sindrilaw11.LinkmapOrders'. -/
def linkmapOrdersCard : Claim7 := { stood := { row := linkmapOrdersRow, standIns := [], harness := (true, "8b9a9785400d5c490a0e49d704cf09cb8be35304053ada290c94a995bb4e6301"), looks := true }, kinds := [], alts := [], laidByText := true, laidKinds := [.data, .data, .data], laidTests := true, laidLooks := .later }
def LinkmapOrdersCardSaid : Prop := Claim7.holds Tryd.pinned (.plain (OpenSpec.ofChange linkmapOrdersSpec)) linkmapOrdersCard

/-- THE TIED CARD OF 'sindrilaw15.UnitAll'. -/
def unitAllCard : Claim7 := { stood := { row := unitAllRow, standIns := [], harness := (true, "8b9a9785400d5c490a0e49d704cf09cb8be35304053ada290c94a995bb4e6301"), looks := true }, kinds := [], alts := [], laidByText := true, laidKinds := [.data], laidTests := true, laidLooks := .later }
def UnitAllCardSaid : Prop := Claim7.holds Tryd.pinned (.plain (OpenSpec.ofChange unitAllSpec)) unitAllCard

/-- THE TIED CARD OF 'sindrilaw15.UnitPuts'. -/
def unitPutsCard : Claim7 := { stood := { row := unitPutsRow, standIns := [], harness := (true, "8b9a9785400d5c490a0e49d704cf09cb8be35304053ada290c94a995bb4e6301"), looks := true }, kinds := [], alts := [], laidByText := true, laidKinds := [.data], laidTests := true, laidLooks := .later }
def UnitPutsCardSaid : Prop := Claim7.holds Tryd.pinned (.plain (OpenSpec.ofChange unitPutsSpec)) unitPutsCard

/-- THE TIED CARD OF 'sindrilaw15.UnitBack'. -/
def unitBackCard : Claim7 := { stood := { row := unitBackRow, standIns := [], harness := (true, "8b9a9785400d5c490a0e49d704cf09cb8be35304053ada290c94a995bb4e6301"), looks := true }, kinds := [], alts := [], laidByText := true, laidKinds := [.data], laidTests := true, laidLooks := .later }
def UnitBackCardSaid : Prop := Claim7.holds Tryd.pinned (.plain (OpenSpec.ofChange unitBackSpec)) unitBackCard

/-- THE SECOND FORM's CARD OF 'sindrilaw11.LinkmapAsks'. -/
def linkmapAsksUptoCard : Claim7 := { stood := { row := linkmapAsksUptoRow, standIns := [], harness := (true, "8b9a9785400d5c490a0e49d704cf09cb8be35304053ada290c94a995bb4e6301"), looks := true }, kinds := [], alts := [], laidByText := true, laidKinds := [.data, .data, .data], laidTests := true, laidLooks := .later }
def LinkmapAsksUptoCardSaid : Prop := Claim7.holds Tryd.pinned (.plain (OpenSpec.upto linkmapAsksSpec)) linkmapAsksUptoCard

/-- THE SECOND FORM's CARD OF 'sindrilaw11.LinkmapOrders'. -/
def linkmapOrdersUptoCard : Claim7 := { stood := { row := linkmapOrdersUptoRow, standIns := [], harness := (true, "8b9a9785400d5c490a0e49d704cf09cb8be35304053ada290c94a995bb4e6301"), looks := true }, kinds := [], alts := [], laidByText := true, laidKinds := [.data, .data, .data], laidTests := true, laidLooks := .later }
def LinkmapOrdersUptoCardSaid : Prop := Claim7.holds Tryd.pinned (.plain (OpenSpec.upto linkmapOrdersSpec)) linkmapOrdersUptoCard

/-- THE SECOND FORM's CARD OF 'sindrilaw15.UnitAll'. -/
def unitAllUptoCard : Claim7 := { stood := { row := unitAllUptoRow, standIns := [], harness := (true, "8b9a9785400d5c490a0e49d704cf09cb8be35304053ada290c94a995bb4e6301"), looks := true }, kinds := [], alts := [], laidByText := true, laidKinds := [.data], laidTests := true, laidLooks := .later }
def UnitAllUptoCardSaid : Prop := Claim7.holds Tryd.pinned (.plain (OpenSpec.upto unitAllSpec)) unitAllUptoCard

/-- THE SECOND FORM's CARD OF 'sindrilaw15.UnitPuts'. -/
def unitPutsUptoCard : Claim7 := { stood := { row := unitPutsUptoRow, standIns := [], harness := (true, "8b9a9785400d5c490a0e49d704cf09cb8be35304053ada290c94a995bb4e6301"), looks := true }, kinds := [], alts := [], laidByText := true, laidKinds := [.data], laidTests := true, laidLooks := .later }
def UnitPutsUptoCardSaid : Prop := Claim7.holds Tryd.pinned (.plain (OpenSpec.upto unitPutsSpec)) unitPutsUptoCard

/-- THE SECOND FORM's CARD OF 'sindrilaw15.UnitBack'. -/
def unitBackUptoCard : Claim7 := { stood := { row := unitBackUptoRow, standIns := [], harness := (true, "8b9a9785400d5c490a0e49d704cf09cb8be35304053ada290c94a995bb4e6301"), looks := true }, kinds := [], alts := [], laidByText := true, laidKinds := [.data], laidTests := true, laidLooks := .later }
def UnitBackUptoCardSaid : Prop := Claim7.holds Tryd.pinned (.plain (OpenSpec.upto unitBackSpec)) unitBackUptoCard
end Rows
end Go.Proofs.YtelmfhpefnemfaaDoor
