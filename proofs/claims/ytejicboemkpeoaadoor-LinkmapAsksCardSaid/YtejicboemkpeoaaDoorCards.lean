/-
  DERIVED. GIVEN WITH THE SEED: THE CARDS: each row of YtejicboemkpeoaaDoorRows.lean that lists a variable, with what it lists TIED to the program's text (the seventh form; the later family's looks); each row that meets fmt, with fmt's text TOLD by the authors' own Lean function (tested against real Go, not proved from fmt's source: count such statements apart). THE CARD IS WHAT COUNTS. Prove the row's statement (the work); the ties are given (YtejicboemkpeoaaDoorTie.lean); close each card by the builder's one call (the guide's Derived/Test/ToyasCard.lean, 'card_holds'). Laid BY PROGRAM, IN A SANDBOX (cutbox-door.mjs). By AI agents, Wed Nov 11 2026. No macro, syntax, notation, axiom, sorry.
-/
import Derived.Test.YtejicboemkpeoaaDoorRows
import GoSem.ClaimSeven
namespace Go.Proofs.YtejicboemkpeoaaDoor
namespace Rows

/-- THE TIED CARD OF 'sindrilaw11.LinkmapAsks'. -/
def linkmapAsksCard : Claim7 := { stood := { row := linkmapAsksRow, standIns := [], harness := (true, "8a71bd9ce6f9fdbca1bd2631b04243a05bccfb369b8d643502bd9254128d54bd"), looks := true }, kinds := [], alts := [], laidByText := true, laidKinds := [.data, .data, .data], laidTests := true, laidLooks := .later }
def LinkmapAsksCardSaid : Prop := Claim7.holds Tryd.pinned (.plain (OpenSpec.ofChange linkmapAsksSpec)) linkmapAsksCard

/-- THE SECOND FORM's CARD OF 'sindrilaw11.LinkmapAsks'. -/
def linkmapAsksUptoCard : Claim7 := { stood := { row := linkmapAsksUptoRow, standIns := [], harness := (true, "8a71bd9ce6f9fdbca1bd2631b04243a05bccfb369b8d643502bd9254128d54bd"), looks := true }, kinds := [], alts := [], laidByText := true, laidKinds := [.data, .data, .data], laidTests := true, laidLooks := .later }
def LinkmapAsksUptoCardSaid : Prop := Claim7.holds Tryd.pinned (.plain (OpenSpec.upto linkmapAsksSpec)) linkmapAsksUptoCard
end Rows
end Go.Proofs.YtejicboemkpeoaaDoor
