/-
  Package object: the sections of the file that an object is put as.
-/
import Derived.Test.YtidegcibmdincaaStB
import Derived.Test.YtidegcibmdincaaSeV
import Derived.Test.YtidegcibmdincaaEhL
import Derived.Test.YtidegcibmdincaaCopyB
import Derived.Test.YtidegcibmdincaaCsA
import Derived.Test.YtidegcibmdincaaCsP
import Derived.Test.YtidegcibmdincaaRefR
import Derived.Test.YtidegcibmdincaaCsL
import Derived.Test.YtidegcibmdincaaLmC
import Derived.Test.YtidegcibmdincaaSyX
import Derived.Test.YtidegcibmdincaaPoA
import Derived.Test.YtidegcibmdincaaPoK
import Derived.Deep.RegionHeldLaw
import Derived.Test.YtidegcibmdincaaSeR
import Derived.Test.YtidegcibmdincaaSyA
import Derived.Test.YtidegcibmdincaaEhG
import Derived.Lib.SlBytesConst
import Derived.Laws.Concat
namespace Go.Proofs.Ytidegcibmdincaa
open Go Go.RowKit

/-- Sections' bytes: below a place, or rows of the call's own. -/
def KeepL (w : World) (B : Nat) (L : List Lay) : Prop := ∀ x ∈ L, (Rd w B x.A x.s.data ∨ Own w B x.dv x.s.data) ∧ x.s.data.length ≤ x.c ∧ x.c ≤ maxLen
theorem KeepL.only {w w' : World} {B : Nat} {L : List Lay} {bad : Obj → Prop} (h : KeepL w B L) (hb : Only B bad w w') (hn : ∀ cs f, ¬ bad (.cells cs 5 f)) : KeepL w' B L := fun x hx => by
  obtain ⟨h1, h2⟩ := h x hx
  exact ⟨h1.imp (fun h => h.below hb.1) (fun h => row_only h hb hn), h2⟩
theorem KeepL.rd {w : World} {B : Nat} {L : List Lay} (h : KeepL w B L) (hB : B ≤ w.heap.size) {x : Lay} (hx : x ∈ L) : Rd w w.heap.size x.A x.s.data ∧ x.s.data.length ≤ x.c ∧ x.c ≤ maxLen := by
  obtain ⟨h1, h2⟩ := h x hx
  refine ⟨?_, h2⟩
  rcases h1 with h1 | h1
  · exact h1.more hB
  · obtain ⟨A, c, e, _, _, hr⟩ := own_slice h1
    unfold Lay.dv at e
    injection e with e1 _ _
    rw [e1]
    exact hr

end Go.Proofs.Ytidegcibmdincaa

namespace Go.Proofs.Ytidegcibmdincaa
open Go Go.RowKit

variable {S : List Sect} {Y : List Sym} {R : List (List Rel)} {k : Nat} {s : Sect} {l : List Rel}
/-! ### The row that grows -/
/-- Sections laid one behind the other in a row of the call's own. -/
structure FileSt (w wr : World) (v : Value) (L : List Lay) : Prop where
  row : OwnL wr w.heap.size v L
  keep : KeepL wr w.heap.size L
  fits : ∀ x ∈ L, x.s.Fits
  below : Below w.heap.size w wr
theorem FileSt.later {w wr w' : World} {v : Value} {L : List Lay} (h : FileSt w wr v L) (hb : Below wr.heap.size wr w') : FileSt w w' v L :=
  ⟨row_below h.row hb, h.keep.only (Only.below (bad := fun _ => False) hb h.below.size) (fun _ _ x => x), h.fits, h.below.trans (hb.mono h.below.size)⟩
theorem FileSt.alloc {w wr : World} {v : Value} {L : List Lay} (h : FileSt w wr v L) (o : Obj) : FileSt w (wr.alloc o) v L := h.later ((Below.refl _ _).alloc (Nat.le_refl _) o)
theorem FileSt.more {w wr w' : World} {v : Value} {L M : List Lay} {g c : Nat} (h : FileSt w wr v L) (hM : ∀ x ∈ M, Own wr w.heap.size x.dv x.s.data ∧ x.s.Fits) (hr : w'.ownsRow w.heap.size 48 9 (.slice (some ⟨g, 0, none⟩) (L.length + M.length) c) (L.length + M.length) (cellsL L ++ cellsL M)) (hg : wr.grownBy w' v.ownBlock) :
    FileSt w w' (.slice (some ⟨g, 0, none⟩) (L ++ M).length c) (L ++ M) := by
  have ho := row_turns h.row hg h.below.size
  refine ⟨by rw [OwnL, List.length_append, cellsL_append]; exact hr, fun x hx => ?_, fun x hx => ?_, h.below.trans ho.1⟩
  · rcases List.mem_append.1 hx with hx | hx
    · exact (h.keep.only ho (fun cs f hh => absurd (show 5 = 48 from hh) (by decide))) x hx
    · have h1 : Own w' w.heap.size x.dv x.s.data := row_only (hM x hx).1 ho (fun cs f hh => absurd (show 5 = 48 from hh) (by decide))
      obtain ⟨A, c', e, hle, hcm, _⟩ := own_slice h1
      unfold Lay.dv at e
      injection e with e1 e2 e3
      exact ⟨.inr h1, by rw [e3]; exact hle, by rw [e3]; exact hcm⟩
  · rcases List.mem_append.1 hx with hx | hx
    · exact h.fits x hx
    · exact (hM x hx).2
/-- The row, as sections that lie. -/
theorem FileSt.secs {w wr : World} {v : Value} {L : List Lay} (h : FileSt w wr v L) : ∃ A c, v = .slice A L.length c ∧ L.length ≤ c ∧ c ≤ maxLen ∧ Secs wr wr.heap.size A L :=
  ownl_secs h.row (fun x hx => by
    obtain ⟨h1, h2, h3⟩ := h.keep.rd h.below.size hx
    exact ⟨h1, h2, h3, h.fits x hx⟩)

end Go.Proofs.Ytidegcibmdincaa
