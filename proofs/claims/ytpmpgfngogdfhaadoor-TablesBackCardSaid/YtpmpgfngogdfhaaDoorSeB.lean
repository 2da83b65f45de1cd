/-
  Package sects: numbers within their limit (small, and the document's), a count of bytes 0, the entry of a section (describe), which section may not be (wrong).
-/
import Derived.Test.YtpmpgfngogdfhaaDoorSeA
import Derived.Test.YtpmpgfngogdfhaaDoorEhC
import Derived.Test.YtpmpgfngogdfhaaDoorEhA
import Derived.Test.YtpmpgfngogdfhaaDoorKeep
import Derived.Lib.AppendZerosOnto
import Derived.Test.YtpmpgfngogdfhaaDoorLawC
import Derived.Test.YtpmpgfngogdfhaaDoorCurE
import Derived.Laws.ResultCell
import Derived.Stop.BytesEq
import Derived.Laws.Cover3
import Derived.Test.YtpmpgfngogdfhaaDoorCsM
import Derived.Test.YtpmpgfngogdfhaaDoorPut
import Derived.Lib.BytesEntry
import Derived.Lib.AppendStr
import Derived.Laws.Externs
import Derived.Deep.Slices
import Derived.Test.YtpmpgfngogdfhaaDoorPutR
import Derived.Shelf.Bytes.SlCountOne
import Derived.Laws.Rows
namespace Go.Proofs.YtpmpgfngogdfhaaDoor
open Go Go.RowKit

/-! ### What a struct is told as -/
theorem ret_one {fn : Func} {p : Tmp} {T : TypeId} {fs : Array Field} (hT : Tryd.prog.underlying T = some (.struct fs)) (hres : fn.results = #[.cell p T]) {R : Ending → World → Prop} {a : Act} {W : World} {H : Nat} {cs : Array Value} (hB : Box W H T cs) (hcs : (Tryd.prog.info? T).map (·.size) = some cs.size)
    (hp : a.tmps.getD p undef = .pointer (some ⟨H, 0, none⟩)) (hd : a.defers = []) (h : R (.returned (.agg cs)) W) : bodyPost Tryd.prog fn R .ret a W := by
  refine bodyPost_ret (v := .agg cs) ?_ hd h
  have hl := run_loadVar_row (P := Tryd.prog) W H T T cs (0, 0) _ hB hT rfl hcs
  have hp' : a.tmps[p]?.getD undef = .pointer (some ⟨H, 0, none⟩) := by simpa using hp
  simp only [results, hres]
  simp [hp', asAddr, hl]
end Go.Proofs.YtpmpgfngogdfhaaDoor
