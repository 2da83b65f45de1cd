/-
  Package object: the sections of the file that an object is put as.
-/
import Derived.Test.YtbpemehhbeejcaaGpF
import Derived.Test.YtbpemehhbeejcaaStC
import Derived.Test.YtbpemehhbeejcaaSyT
import Derived.Test.YtbpemehhbeejcaaPoA
import Derived.Test.YtbpemehhbeejcaaPoK
import Derived.Deep.RegionHeldLaw
import Derived.Test.YtbpemehhbeejcaaObA
import Derived.Test.YtbpemehhbeejcaaCsM
import Derived.Test.YtbpemehhbeejcaaCurN
import Derived.Lib.BytesEntry
import Derived.Lib.AppendStr
import Derived.Laws.Externs
import Derived.Deep.Slices
import Derived.Laws.IdiomStrings
import Derived.Laws.BytesArg
import Derived.Test.YtbpemehhbeejcaaPoO
import Derived.Test.YtbpemehhbeejcaaEhC
import Derived.Test.YtbpemehhbeejcaaKeep
import Derived.Lib.AppendZerosOnto
import Derived.Test.YtbpemehhbeejcaaParts
import Derived.Laws.ResultCell
import Derived.Stop.BytesEq
import Derived.Laws.Cover3
import Derived.Shelf.Bytes.SlCountOne
import Derived.Laws.Rows
import Derived.Test.YtbpemehhbeejcaaSyDa
import Derived.Test.YtbpemehhbeejcaaSeM
import Derived.Laws.Concat
namespace Go.Proofs.Ytbpemehhbeejcaa
open Go Go.RowKit

variable {S : List Sect} {Y : List Sym} {R : List (List Rel)} {k : Nat} {s : Sect} {l : List Rel}
/-! ### The row that grows -/
/-- Sections laid one behind the other in a row of the call's own. -/
structure FileSt (w wr : World) (v : Value) (L : List Lay) : Prop where
  row : OwnL wr w.heap.size v L
  keep : KeepL wr w.heap.size L
  fits : ∀ x ∈ L, x.s.Fits
  below : Below w.heap.size w wr
theorem FileSt.later {w wr w' : World} {v : Value} {L : List Lay} (h : FileSt w wr v L) (hb : Below wr.heap.size wr w') : FileSt w w' v L :=
  ⟨row_below h.row hb, h.keep.only (Only.below (bad := fun _ => False) hb h.below.size) (fun _ _ x => x), h.fits, h.below.trans (hb.mono h.below.size)⟩
theorem FileSt.alloc {w wr : World} {v : Value} {L : List Lay} (h : FileSt w wr v L) (o : Obj) : FileSt w (wr.alloc o) v L := h.later ((Below.refl _ _).alloc (Nat.le_refl _) o)
theorem FileSt.more {w wr w' : World} {v : Value} {L M : List Lay} {g c : Nat} (h : FileSt w wr v L) (hM : ∀ x ∈ M, Own wr w.heap.size x.dv x.s.data ∧ x.s.Fits) (hr : w'.ownsRow w.heap.size 61 9 (.slice (some ⟨g, 0, none⟩) (L.length + M.length) c) (L.length + M.length) (cellsL L ++ cellsL M)) (hg : wr.grownBy w' v.ownBlock) :
    FileSt w w' (.slice (some ⟨g, 0, none⟩) (L ++ M).length c) (L ++ M) := by
  have ho := row_turns h.row hg h.below.size
  refine ⟨by rw [OwnL, List.length_append, cellsL_append]; exact hr, fun x hx => ?_, fun x hx => ?_, h.below.trans ho.1⟩
  · rcases List.mem_append.1 hx with hx | hx
    · exact (h.keep.only ho (fun cs f hh => absurd (show 5 = 61 from hh) (by decide))) x hx
    · have h1 : Own w' w.heap.size x.dv x.s.data := row_only (hM x hx).1 ho (fun cs f hh => absurd (show 5 = 61 from hh) (by decide))
      obtain ⟨A, c', e, hle, hcm, _⟩ := own_slice h1
      unfold Lay.dv at e
      injection e with e1 e2 e3
      exact ⟨.inr h1, by rw [e3]; exact hle, by rw [e3]; exact hcm⟩
  · rcases List.mem_append.1 hx with hx | hx
    · exact h.fits x hx
    · exact (hM x hx).2
/-- The row, as sections that lie. -/
theorem FileSt.secs {w wr : World} {v : Value} {L : List Lay} (h : FileSt w wr v L) : ∃ A c, v = .slice A L.length c ∧ L.length ≤ c ∧ c ≤ maxLen ∧ Secs wr wr.heap.size A L :=
  ownl_secs h.row (fun x hx => by
    obtain ⟨h1, h2, h3⟩ := h.keep.rd h.below.size hx
    exact ⟨h1, h2, h3, h.fits x hx⟩)

end Go.Proofs.Ytbpemehhbeejcaa
