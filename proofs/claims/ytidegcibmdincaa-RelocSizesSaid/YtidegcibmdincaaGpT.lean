/-
  The statements' own helpers: objects turned into the program's (Objects); are objects too great (Great)?
-/
import Derived.Test.YtidegcibmdincaaOcC
import Derived.Test.YtidegcibmdincaaGpP
import Derived.Test.YtidegcibmdincaaLmC
import Derived.Test.YtidegcibmdincaaSyA
import Derived.Test.YtidegcibmdincaaSeR
import Derived.Deep.DeepCutAuto
import Derived.Deep.LoopGhost
import Derived.Test.YtidegcibmdincaaObT
import Derived.Test.YtidegcibmdincaaSyF
import Derived.Deep.RegionHeldLaw
import Derived.Deep.AppendLies
import Derived.Test.YtidegcibmdincaaSeV
import Derived.Test.YtidegcibmdincaaCopyB
import Derived.Test.YtidegcibmdincaaSeBe
import Derived.RegionTactic
import Derived.BigRegion
import Derived.ChangeAlike
namespace Go.Proofs.Ytidegcibmdincaa
open Go Go.RowKit

theorem Lists.take {w : World} {B : Nat} {a : Option Addr} {Q : List RLay} (h : Lists w B a Q) (n : Nat) : Lists w B a (Q.take n) :=
  ⟨fun hl => by
    obtain ⟨b, o, e, hlt, hc⟩ := h.row (by simp at hl; omega)
    exact ⟨b, o, e, hlt, fun i x hx j v hv => hc i x (by
      have hi : i < (Q.take n).length := (List.getElem?_eq_some_iff.1 hx).1
      rw [List.getElem?_take] at hx
      split at hx
      · exact hx
      · cases hx) j v hv⟩, fun q hq => h.rels q (List.mem_of_mem_take hq)⟩
theorem ObjV.In.ok {w : World} {B : Nat} {o : ObjV} (h : o.In w B) (hs : o.Small) : o.Ok w B :=
  ⟨h.secs.secs (fun x hx => ⟨Nat.le_trans (hs.s x hx).1 (by decide), Nat.le_trans (hs.s x hx).2 (by decide)⟩), h.syms, h.lists, h.capS, h.capR⟩
theorem SecsIn.more {w : World} {B B' : Nat} {a : Option Addr} {L : List Lay} (h : SecsIn w B a L) (hB : B ≤ B') : SecsIn w B' a L :=
  ⟨fun hl => by
    obtain ⟨b, o, e, hlt, hc⟩ := h.row hl
    exact ⟨b, o, e, by omega, hc⟩, fun x hx => ⟨(h.rd x hx).1.more hB, (h.rd x hx).2⟩⟩
theorem ObjV.In.below {w w' : World} {B : Nat} {o : ObjV} (h : o.In w B) (hb : Below B w w') : o.In w' B := ⟨h.secs.below hb, Row.below h.syms hb, h.lists.below hb, h.capS, h.capR, h.numY, h.numQ⟩
theorem ObjV.In.more {w : World} {B B' : Nat} {o : ObjV} (h : o.In w B) (hB : B ≤ B') : o.In w B' := ⟨h.secs.more hB, Row.more h.syms hB, h.lists.more hB, h.capS, h.capR, h.numY, h.numQ⟩

end Go.Proofs.Ytidegcibmdincaa

namespace Go.Proofs.Ytidegcibmdincaa
open Go Go.RowKit

/-- Objects that came in: nothing is said of how much they have. -/
structure ObjsIn (w : World) (B : Nat) (a : Option Addr) (O : List ObjV) : Prop where
  row : Row 5 ObjV.cells w B a O
  ok : ∀ o ∈ O, o.In w B
section
variable {w w' : World} {B B' : Nat} {a : Option Addr} {O : List ObjV} {o : ObjV}
theorem ObjsIn.below (h : ObjsIn w B a O) (hb : Below B w w') : ObjsIn w' B a O := ⟨h.row.below hb, fun o ho => (h.ok o ho).below hb⟩
theorem ObjsIn.more (h : ObjsIn w B a O) (hB : B ≤ B') : ObjsIn w B' a O := ⟨h.row.more hB, fun o ho => (h.ok o ho).more hB⟩
theorem ObjsIn.up (h : ObjsIn w w.heap.size a O) (hb : Below w.heap.size w w') : ObjsIn w' w'.heap.size a O := (h.below hb).more hb.size
end
theorem ObjV.one (o : ObjV) : ∀ u ∈ o.cells, u.oneCell' = true := fun u hu => by
  simp only [ObjV.cells, List.mem_cons, List.not_mem_nil, or_false] at hu
  rcases hu with rfl | rfl | rfl | rfl | rfl <;> rfl
end Go.Proofs.Ytidegcibmdincaa
