/-
  SectsBack.
-/
import Derived.Test.YtejicboemkpeoaaDoorSeV
import Derived.Test.YtejicboemkpeoaaDoorEhL
import Derived.Test.YtejicboemkpeoaaDoorEhH
import Derived.Test.YtejicboemkpeoaaDoorSeY
import Derived.Test.YtejicboemkpeoaaDoorSeR
namespace Go.Proofs.YtejicboemkpeoaaDoor
open Go Go.RowKit

theorem SecsIn.below {w w' : World} {B : Nat} {a : Option Addr} {L : List Lay} (h : SecsIn w B a L) (hb : Below B w w') : SecsIn w' B a L :=
  ⟨fun hl => by
    obtain ⟨b, o, e, hlt, hc⟩ := h.row hl
    exact ⟨b, o, e, hlt, fun i x hx j v hv => by rw [hb.cell (p := ⟨b, o + i * 9 + j, none⟩) hlt]; exact hc i x hx j v hv⟩, fun x hx => by
    obtain ⟨h1, h2⟩ := h.rd x hx
    exact ⟨h1.below hb, h2⟩⟩
end Go.Proofs.YtejicboemkpeoaaDoor
