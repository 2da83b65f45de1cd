/-
  The contract of layer 3's All: the texts of a table in a row of the call's own.
-/
import Derived.Test.YtidegcibmdincaaLawA
import Derived.Deep.RegionHeldLaw
import Derived.Deep.DrawnRows
import Derived.Handy
import Derived.Test.YtidegcibmdincaaPoM
import Derived.Test.YtidegcibmdincaaPut
import Derived.WalkMore
import Derived.Maps.AppendAt
namespace Go.Proofs.Ytidegcibmdincaa
open Go Go.RowKit

/-- A row of bytes that came in, as a list of bytes. -/
theorem row_bytes {w : World} {a : Option Addr} {len cap : Nat} {zs : List Int} (h : IsRow .u8 w a len cap zs) :
    ∃ l : List UInt8, l.length = len ∧ Rd w w.heap.size a l ∧ len ≤ cap ∧ cap ≤ maxLen := by
  rcases h with ⟨rfl, rfl, rfl, rfl⟩ | ⟨x, rfl, hl, hm, hz, hcell, hwz⟩
  · exact ⟨[], rfl, Rd.nil_, Nat.le_refl _, by simp⟩
  · refine ⟨(zs.take len).map fun n => UInt8.ofNat n.toNat, by simp; omega, fun h0 => ?_, hl, hm⟩
    have hlen : 0 < len := by simp at h0; omega
    have hc0 := hcell 0 (by omega)
    obtain ⟨b, o, spot⟩ := x
    have hspot : spot = none := by simpa [Addr.add] using World.cell?_spot hc0
    subst hspot
    refine ⟨b, o, rfl, ?_, fun j u hu => ?_⟩
    · have := World.block_lt_of_cell? w _ hc0
      simpa [addr_add] using this
    · have hj : j < len := by
        have := (List.getElem?_eq_some_iff.1 hu).1
        simp at this; omega
      have hcj := hcell j (by omega)
      rw [addr_add] at hcj
      rw [hcj]
      have hzj : zs[j]? = some (zs[j]'(by omega)) := List.getElem?_eq_getElem (by omega)
      have hw := bounds_u8 (hwz (zs[j]'(by omega)) (List.getElem_mem _))
      simp only [List.getElem?_map, List.getElem?_take, if_pos hj, hzj, Option.map_some, Option.some.injEq] at hu
      subst hu
      simp only [List.getD, hzj, Option.getD_some]
      have e : (UInt8.ofNat (zs[j]'(by omega)).toNat).toNat = (zs[j]'(by omega)).toNat := by simp; omega
      rw [e]
      congr 2
      omega

theorem own_below {w w' : World} {base : Nat} {v : Value} {l : List UInt8} (h : Own w base v l) (hb : Below w.heap.size w w') : Own w' base v l :=
  h.kept (only_below hb none) (by rcases v.ownBlock with _ | k <;> simp)
end Go.Proofs.Ytidegcibmdincaa

namespace Go.Proofs.Ytidegcibmdincaa
open Go Go.RowKit

/-- Texts as the cells that hold them. -/
def strV (ts : List (List UInt8)) : List Value := ts.map fun t => Value.string ⟨t.toArray⟩
@[simp] theorem strV_length (ts : List (List UInt8)) : (strV ts).length = ts.length := by simp [strV]
theorem strV_append (ts us : List (List UInt8)) : strV (ts ++ us) = strV ts ++ strV us := by simp [strV]

/-- A row of texts of the call's own. -/
abbrev OwnS (w : World) (base : Nat) (u : Value) (ts : List (List UInt8)) : Prop := w.ownsRow base 9 1 u ts.length (strV ts)

end Go.Proofs.Ytidegcibmdincaa
