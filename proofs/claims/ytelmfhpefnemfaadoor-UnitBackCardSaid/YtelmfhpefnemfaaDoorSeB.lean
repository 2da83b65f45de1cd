/-
  Package sects: numbers within their limit (small, and the document's), a count of bytes 0, the entry of a section (describe), which section may not be (wrong).
-/
import Derived.Test.YtelmfhpefnemfaaDoorSeA
import Derived.Test.YtelmfhpefnemfaaDoorPutR
import Derived.Test.YtelmfhpefnemfaaDoorEhA
import Derived.Test.YtelmfhpefnemfaaDoorKeep
import Derived.Lib.AppendZerosOnto
import Derived.Test.YtelmfhpefnemfaaDoorLawC
import Derived.Test.YtelmfhpefnemfaaDoorCurE
import Derived.Laws.ResultCell
import Derived.Stop.BytesEq
import Derived.Laws.Cover3
import Derived.Test.YtelmfhpefnemfaaDoorCsM
import Derived.Test.YtelmfhpefnemfaaDoorPut
import Derived.Lib.BytesEntry
import Derived.Lib.AppendStr
import Derived.Laws.Externs
import Derived.Deep.Slices
import Derived.Shelf.Bytes.SlCountOne
import Derived.Laws.Rows
namespace Go.Proofs.YtelmfhpefnemfaaDoor
open Go Go.RowKit

/-! ### What a struct is told as -/
theorem ret_one {fn : Func} {p : Tmp} {T : TypeId} {fs : Array Field} (hT : Tryd.prog.underlying T = some (.struct fs)) (hres : fn.results = #[.cell p T]) {R : Ending → World → Prop} {a : Act} {W : World} {H : Nat} {cs : Array Value} (hB : Box W H T cs) (hcs : (Tryd.prog.info? T).map (·.size) = some cs.size)
    (hp : a.tmps.getD p undef = .pointer (some ⟨H, 0, none⟩)) (hd : a.defers = []) (h : R (.returned (.agg cs)) W) : bodyPost Tryd.prog fn R .ret a W := by
  refine bodyPost_ret (v := .agg cs) ?_ hd h
  have hl := run_loadVar_row (P := Tryd.prog) W H T T cs (0, 0) _ hB hT rfl hcs
  have hp' : a.tmps[p]?.getD undef = .pointer (some ⟨H, 0, none⟩) := by simpa using hp
  simp only [results, hres]
  simp [hp', asAddr, hl]
theorem all_take {α : Type} (p : α → Bool) (l : List α) (k : Nat) (x : α) (hx : l[k]? = some x) (h : (l.take k).all p = true) (hp : p x = true) : (l.take (k + 1)).all p = true := by
  rw [List.take_add_one, hx]
  simp only [List.all_append, h, Option.toList, List.all_cons, List.all_nil, hp, Bool.and_self]
theorem all_not {α : Type} (p : α → Bool) (l : List α) (k : Nat) (x : α) (hx : l[k]? = some x) (hp : p x = false) : l.all p = false := by
  rw [List.all_eq_false]
  exact ⟨x, List.mem_of_getElem? hx, by simp [hp]⟩

end Go.Proofs.YtelmfhpefnemfaaDoor
