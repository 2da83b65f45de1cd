/-
  The document's Put of symbols.
-/

import Derived.Test.YtkadjejjillmmaaSyT
import Derived.Test.YtkadjejjillmmaaSyR
import Derived.Test.YtkadjejjillmmaaPoR
import Derived.Test.YtkadjejjillmmaaParts
namespace Go.Proofs.Ytkadjejjillmmaa
open Go Go.RowKit

theorem ref_rows {w w' : World} {base b g : Nat} {t : Value} {T : List (List UInt8)} (h : RefAt w base g t T) (hb : Only b (CellsOf 5) w w') : RefAt w' base g t T :=
  h.kept hb (fun cs f hh => absurd (show 81 = 5 from hh) (by decide)) (fun cs f hh => absurd (show 9 = 5 from hh) (by decide))
/-- A row of bytes of the call's own, and the document's pool. -/
structure DocSt (w wr : World) (g : Nat) (u : Value) (T : List UInt8) (ls : List (List UInt8)) : Prop where
  st : RelSt w wr u T
  pool : ∃ t, RefAt wr w.heap.size g t ls
section
variable {w wr w' w2 w3 : World} {g : Nat} {u u' : Value} {T T' : List UInt8} {ls ls' : List (List UInt8)}
theorem DocSt.more (h : DocSt w wr g u T ls) (hb : Below wr.heap.size wr w2) (ho : Own w3 w.heap.size u' T') (hg : w2.grownBy w3 u.ownBlock) : DocSt w w3 g u' T' ls := by
  refine ⟨h.st.more hb ho hg, ?_⟩
  obtain ⟨t, ht⟩ := h.pool
  exact ⟨t, ref_rows (ht.below hb) (row_turns (own_below h.st.row hb) hg (Nat.le_trans h.st.below.size hb.size))⟩
theorem DocSt.added (h : DocSt w wr g u T ls) (hp : ∃ t, RefAt w' w.heap.size g t ls') (ho : Only w.heap.size RefObj wr w') : DocSt w w' g u T ls' :=
  ⟨⟨row_only h.st.row ho (fun cs f hh => by rcases hh with hh | hh <;> revert hh <;> decide), h.st.below.trans ho.1⟩, hp⟩
end
theorem texK_good (L : List Sym) (k : Nat) : GoodT (texK L k) := gat_good _
end Go.Proofs.Ytkadjejjillmmaa
