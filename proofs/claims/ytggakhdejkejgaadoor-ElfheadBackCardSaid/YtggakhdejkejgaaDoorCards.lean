/-
  DERIVED. GIVEN WITH THE SEED: THE CARDS: each row of YtggakhdejkejgaaDoorRows.lean that lists a variable, with what it lists TIED to the program's text (the seventh form; the later family's looks); each row that meets fmt, with fmt's text TOLD by the authors' own Lean function (tested against real Go, not proved from fmt's source: count such statements apart). THE CARD IS WHAT COUNTS. Prove the row's statement (the work); the ties are given (YtggakhdejkejgaaDoorTie.lean); close each card by the builder's one call (the guide's Derived/Test/ToyasCard.lean, 'card_holds'). Laid BY PROGRAM, IN A SANDBOX (cutbox-door.mjs). By AI agents, Wed Nov 11 2026. No macro, syntax, notation, axiom, sorry.
-/
import Derived.Test.YtggakhdejkejgaaDoorRows
import GoSem.ClaimSeven
namespace Go.Proofs.YtggakhdejkejgaaDoor
namespace Rows

/-- THE TIED CARD OF 'sindrilaw06.ElfheadTakes'. -/
def elfheadTakesCard : Claim7 := { stood := { row := elfheadTakesRow, standIns := [], harness := (true, "3154cab1ad226645cf2e05f2c68df866ed36a8af28bda5b2f1fa41576b0667d1"), looks := false }, kinds := [], alts := [], laidByText := true, laidKinds := [.data], laidTests := true, laidLooks := .later }
def ElfheadTakesCardSaid : Prop := Claim7.holds Tryd.pinned (.plain (OpenSpec.ofChange elfheadTakesSpec)) elfheadTakesCard

/-- THE TIED CARD OF 'sindrilaw06.ElfheadPuts'. -/
def elfheadPutsCard : Claim7 := { stood := { row := elfheadPutsRow, standIns := [], harness := (true, "3154cab1ad226645cf2e05f2c68df866ed36a8af28bda5b2f1fa41576b0667d1"), looks := false }, kinds := [], alts := [], laidByText := true, laidKinds := [.data], laidTests := true, laidLooks := .later }
def ElfheadPutsCardSaid : Prop := Claim7.holds Tryd.pinned (.plain (OpenSpec.ofChange elfheadPutsSpec)) elfheadPutsCard

/-- THE TIED CARD OF 'sindrilaw06.ElfheadBack'. -/
def elfheadBackCard : Claim7 := { stood := { row := elfheadBackRow, standIns := [], harness := (true, "3154cab1ad226645cf2e05f2c68df866ed36a8af28bda5b2f1fa41576b0667d1"), looks := false }, kinds := [], alts := [], laidByText := true, laidKinds := [.data], laidTests := true, laidLooks := .later }
def ElfheadBackCardSaid : Prop := Claim7.holds Tryd.pinned (.plain (OpenSpec.ofChange elfheadBackSpec)) elfheadBackCard

/-- THE SECOND FORM's CARD OF 'sindrilaw06.ElfheadTakes'. -/
def elfheadTakesUptoCard : Claim7 := { stood := { row := elfheadTakesUptoRow, standIns := [], harness := (true, "3154cab1ad226645cf2e05f2c68df866ed36a8af28bda5b2f1fa41576b0667d1"), looks := false }, kinds := [], alts := [], laidByText := true, laidKinds := [.data], laidTests := true, laidLooks := .later }
def ElfheadTakesUptoCardSaid : Prop := Claim7.holds Tryd.pinned (.plain (OpenSpec.upto elfheadTakesSpec)) elfheadTakesUptoCard

/-- THE SECOND FORM's CARD OF 'sindrilaw06.ElfheadPuts'. -/
def elfheadPutsUptoCard : Claim7 := { stood := { row := elfheadPutsUptoRow, standIns := [], harness := (true, "3154cab1ad226645cf2e05f2c68df866ed36a8af28bda5b2f1fa41576b0667d1"), looks := false }, kinds := [], alts := [], laidByText := true, laidKinds := [.data], laidTests := true, laidLooks := .later }
def ElfheadPutsUptoCardSaid : Prop := Claim7.holds Tryd.pinned (.plain (OpenSpec.upto elfheadPutsSpec)) elfheadPutsUptoCard

/-- THE SECOND FORM's CARD OF 'sindrilaw06.ElfheadBack'. -/
def elfheadBackUptoCard : Claim7 := { stood := { row := elfheadBackUptoRow, standIns := [], harness := (true, "3154cab1ad226645cf2e05f2c68df866ed36a8af28bda5b2f1fa41576b0667d1"), looks := false }, kinds := [], alts := [], laidByText := true, laidKinds := [.data], laidTests := true, laidLooks := .later }
def ElfheadBackUptoCardSaid : Prop := Claim7.holds Tryd.pinned (.plain (OpenSpec.upto elfheadBackSpec)) elfheadBackUptoCard
end Rows
end Go.Proofs.YtggakhdejkejgaaDoor
