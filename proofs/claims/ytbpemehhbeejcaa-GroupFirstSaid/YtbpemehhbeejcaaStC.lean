/-
  The document's Take of sections: what goes along in its rounds.
-/
import Derived.Test.YtbpemehhbeejcaaSeV
import Derived.Test.YtbpemehhbeejcaaRefR
import Derived.Test.YtbpemehhbeejcaaPoX
import Derived.Test.YtbpemehhbeejcaaLawA
import Derived.Test.YtbpemehhbeejcaaEhL
import Derived.Test.YtbpemehhbeejcaaSeM
import Derived.Test.YtbpemehhbeejcaaSeN
import Derived.Test.YtbpemehhbeejcaaCopyB
import Derived.Test.YtbpemehhbeejcaaCsA
import Derived.Test.YtbpemehhbeejcaaCsM
import Derived.Test.YtbpemehhbeejcaaCurN
import Derived.Lib.BytesEntry
import Derived.Lib.AppendStr
import Derived.Laws.Externs
import Derived.Deep.Slices
import Derived.Laws.IdiomStrings
import Derived.Laws.BytesArg
import Derived.Test.YtbpemehhbeejcaaCsL
namespace Go.Proofs.Ytbpemehhbeejcaa
open Go Go.RowKit

/-- An entry's section, without its name. -/
def sectZ (l : List UInt8) (ns : List Nat) : Sect :=
  ⟨[], (kindN ns : Int), ns.getD 2 0, ns.getD 3 0, dataT l ns, (ns.getD 6 0 : Int), (ns.getD 7 0 : Int), (ns.getD 8 0 : Int), (ns.getD 9 0 : Int)⟩
end Go.Proofs.Ytbpemehhbeejcaa

namespace Go.Proofs.Ytbpemehhbeejcaa
open Go Go.RowKit

theorem RR.only {B : Nat} {w w' : World} {g : Nat} {v : Value} {l : List UInt8} {a : Nat} {e : Int} {bad : Obj → Prop} (h : RR B w g v l a e) (hb : Only B bad w w') (hC : ∀ cs f, ¬ bad (.cells cs 70 f)) : RR B w' g v l a e :=
  ⟨hb.2 _ _ h.1 (hC _ _), h.2.1.imp fun _ => Exists.imp fun _ k => ⟨k.1, k.2.1, k.2.2.1, k.2.2.2.below hb.1⟩, h.2.2.1, h.2.2.2⟩

/-- Sections' bytes: below a place, or rows of the call's own. -/
def KeepL (w : World) (B : Nat) (L : List Lay) : Prop := ∀ x ∈ L, (Rd w B x.A x.s.data ∨ Own w B x.dv x.s.data) ∧ x.s.data.length ≤ x.c ∧ x.c ≤ maxLen
theorem KeepL.only {w w' : World} {B : Nat} {L : List Lay} {bad : Obj → Prop} (h : KeepL w B L) (hb : Only B bad w w') (hn : ∀ cs f, ¬ bad (.cells cs 5 f)) : KeepL w' B L := fun x hx => by
  obtain ⟨h1, h2⟩ := h x hx
  exact ⟨h1.imp (fun h => h.below hb.1) (fun h => row_only h hb hn), h2⟩
theorem KeepL.rd {w : World} {B : Nat} {L : List Lay} (h : KeepL w B L) (hB : B ≤ w.heap.size) {x : Lay} (hx : x ∈ L) : Rd w w.heap.size x.A x.s.data ∧ x.s.data.length ≤ x.c ∧ x.c ≤ maxLen := by
  obtain ⟨h1, h2⟩ := h x hx
  refine ⟨?_, h2⟩
  rcases h1 with h1 | h1
  · exact h1.more hB
  · obtain ⟨A, c, e, _, _, hr⟩ := own_slice h1
    unfold Lay.dv at e
    injection e with e1 _ _
    rw [e1]
    exact hr

/-- Sections without their names, and where those stand, entry by entry. -/
def secsZ (l : List UInt8) (off k : Nat) : List Sect := (List.range k).map fun i => sectZ l (entN l (off + 64 * i))
def atsZ (l : List UInt8) (off k : Nat) : List Nat := (List.range k).map fun i => nameN (entN l (off + 64 * i))
theorem secsZ_length (l : List UInt8) (off k : Nat) : (secsZ l off k).length = k := by simp [secsZ]
/-- What goes along in the rounds over the entries. -/
structure TkSt (w wr : World) (gc : Nat) (v u ua : Value) (L : List Lay) (l : List UInt8) (off k : Nat) : Prop where
  cur : RR w.heap.size wr gc v l (off + 64 * k) 0
  out : OwnL wr w.heap.size u L
  secs : secsOf L = secsZ l off k
  keep : KeepL wr w.heap.size L
  ats : OwnU wr w.heap.size ua (atsZ l off k)
theorem TkSt.len {w wr : World} {gc : Nat} {v u ua : Value} {L : List Lay} {l : List UInt8} {off k : Nat} (h : TkSt w wr gc v u ua L l off k) : L.length = k := by
  have := congrArg List.length h.secs
  rw [secsZ_length] at this
  simpa using this

end Go.Proofs.Ytbpemehhbeejcaa
