/-
  DERIVED. GIVEN WITH THE SEED: THE CARDS: each row of YtpdjpafchfbabaaDoorRows.lean that lists a variable, with what it lists TIED to the program's text (the seventh form; the later family's looks); each row that meets fmt, with fmt's text TOLD by the authors' own Lean function (tested against real Go, not proved from fmt's source: count such statements apart). THE CARD IS WHAT COUNTS. Prove the row's statement (the work); the ties are given (YtpdjpafchfbabaaDoorTie.lean); close each card by the builder's one call (the guide's Derived/Test/ToyasCard.lean, 'card_holds'). Laid BY PROGRAM, IN A SANDBOX (cutbox-door.mjs). By AI agents, Wed Nov 11 2026. No macro, syntax, notation, axiom, sorry.
-/
import Derived.Test.YtpdjpafchfbabaaDoorRows
import GoSem.ClaimSeven
namespace Go.Proofs.YtpdjpafchfbabaaDoor
namespace Rows

/-- THE TIED CARD OF 'sindrilaw07.SectsTakes'. -/
def sectsTakesCard : Claim7 := { stood := { row := sectsTakesRow, standIns := [], harness := (true, "aa8c5712ad711f0442b2e9947e4eff53a4e43cbfb1c303fdf4b3d07e70a94e0a"), looks := false }, kinds := [], alts := [], laidByText := true, laidKinds := [.data], laidTests := true, laidLooks := .later }
def SectsTakesCardSaid : Prop := Claim7.holds Tryd.pinned (.plain (OpenSpec.ofChange sectsTakesSpec)) sectsTakesCard

/-- THE TIED CARD OF 'sindrilaw07.SectsPuts'. -/
def sectsPutsCard : Claim7 := { stood := { row := sectsPutsRow, standIns := [], harness := (true, "aa8c5712ad711f0442b2e9947e4eff53a4e43cbfb1c303fdf4b3d07e70a94e0a"), looks := false }, kinds := [], alts := [], laidByText := true, laidKinds := [.data], laidTests := true, laidLooks := .later }
def SectsPutsCardSaid : Prop := Claim7.holds Tryd.pinned (.plain (OpenSpec.ofChange sectsPutsSpec)) sectsPutsCard

/-- THE TIED CARD OF 'sindrilaw07.SectsBack'. -/
def sectsBackCard : Claim7 := { stood := { row := sectsBackRow, standIns := [], harness := (true, "aa8c5712ad711f0442b2e9947e4eff53a4e43cbfb1c303fdf4b3d07e70a94e0a"), looks := false }, kinds := [], alts := [], laidByText := true, laidKinds := [.data], laidTests := true, laidLooks := .later }
def SectsBackCardSaid : Prop := Claim7.holds Tryd.pinned (.plain (OpenSpec.ofChange sectsBackSpec)) sectsBackCard

/-- THE SECOND FORM's CARD OF 'sindrilaw07.SectsTakes'. -/
def sectsTakesUptoCard : Claim7 := { stood := { row := sectsTakesUptoRow, standIns := [], harness := (true, "aa8c5712ad711f0442b2e9947e4eff53a4e43cbfb1c303fdf4b3d07e70a94e0a"), looks := false }, kinds := [], alts := [], laidByText := true, laidKinds := [.data], laidTests := true, laidLooks := .later }
def SectsTakesUptoCardSaid : Prop := Claim7.holds Tryd.pinned (.plain (OpenSpec.upto sectsTakesSpec)) sectsTakesUptoCard

/-- THE SECOND FORM's CARD OF 'sindrilaw07.SectsPuts'. -/
def sectsPutsUptoCard : Claim7 := { stood := { row := sectsPutsUptoRow, standIns := [], harness := (true, "aa8c5712ad711f0442b2e9947e4eff53a4e43cbfb1c303fdf4b3d07e70a94e0a"), looks := false }, kinds := [], alts := [], laidByText := true, laidKinds := [.data], laidTests := true, laidLooks := .later }
def SectsPutsUptoCardSaid : Prop := Claim7.holds Tryd.pinned (.plain (OpenSpec.upto sectsPutsSpec)) sectsPutsUptoCard

/-- THE SECOND FORM's CARD OF 'sindrilaw07.SectsBack'. -/
def sectsBackUptoCard : Claim7 := { stood := { row := sectsBackUptoRow, standIns := [], harness := (true, "aa8c5712ad711f0442b2e9947e4eff53a4e43cbfb1c303fdf4b3d07e70a94e0a"), looks := false }, kinds := [], alts := [], laidByText := true, laidKinds := [.data], laidTests := true, laidLooks := .later }
def SectsBackUptoCardSaid : Prop := Claim7.holds Tryd.pinned (.plain (OpenSpec.upto sectsBackSpec)) sectsBackUptoCard
end Rows
end Go.Proofs.YtpdjpafchfbabaaDoor
