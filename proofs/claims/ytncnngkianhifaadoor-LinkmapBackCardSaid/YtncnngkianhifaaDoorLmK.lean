/-
  The document's Text: a map's text.
-/
import Derived.Test.YtncnngkianhifaaDoorSeR
import Derived.Test.YtncnngkianhifaaDoorPoM
import Derived.Test.YtncnngkianhifaaDoorCsA
import Derived.Test.YtncnngkianhifaaDoorCsP
import Derived.Test.YtncnngkianhifaaDoorRefR
import Derived.Test.YtncnngkianhifaaDoorCsL
import Derived.Lib.SlBytesConst
import Derived.Laws.StructEq
import Derived.Test.YtncnngkianhifaaDoorObT
import Derived.Test.YtncnngkianhifaaDoorPoX
import Derived.Deep.Cut
import Derived.BigQuiet
namespace Go.Proofs.YtncnngkianhifaaDoor

/-- A place's line, a symbol's, without the line feed. -/
def placeT (p : Place) : List UInt8 := [112, 108, 97, 99, 101] ++ 32 :: (decB p.obj ++ 32 :: (decB p.sect ++ 32 :: digB 16 p.addr))
def namedT (s : Named) : List UInt8 := [115, 121, 109] ++ 32 :: (s.name ++ 32 :: digB 16 s.addr)
/-- A map's text. -/
def textM (P : List Place) (Y : List Named) : List UInt8 := (P.map placeT ++ Y.map namedT).flatMap fun l => l ++ [10]
end Go.Proofs.YtncnngkianhifaaDoor

namespace Go.Proofs.YtncnngkianhifaaDoor
open Go Go.RowKit

/-- The lines of the first k places; of all places and the first k symbols. -/
def textP (P : List Place) (k : Nat) : List UInt8 := ((P.take k).map placeT).flatMap fun l => l ++ [10]
def textY (P : List Place) (Y : List Named) (k : Nat) : List UInt8 := textP P P.length ++ ((Y.take k).map namedT).flatMap fun l => l ++ [10]
theorem textP_next {P : List Place} {k : Nat} {p : Place} (h : P[k]? = some p) : textP P (k + 1) = textP P k ++ (placeT p ++ [10]) := by
  obtain ⟨hk, rfl⟩ := List.getElem?_eq_some_iff.1 h
  unfold textP
  rw [List.take_succ_eq_append_getElem hk, List.map_append, List.flatMap_append]
  simp
theorem textY_next {P : List Place} {Y : List Named} {k : Nat} {s : Named} (h : Y[k]? = some s) : textY P Y (k + 1) = textY P Y k ++ (namedT s ++ [10]) := by
  obtain ⟨hk, rfl⟩ := List.getElem?_eq_some_iff.1 h
  unfold textY
  rw [List.take_succ_eq_append_getElem hk, List.map_append, List.flatMap_append, List.append_assoc]
  simp
theorem textY_all (P : List Place) (Y : List Named) : textY P Y Y.length = textM P Y := by
  unfold textY textP textM
  rw [List.take_length, List.take_length, List.flatMap_append]
theorem textY_zero (P : List Place) (Y : List Named) : textY P Y 0 = textP P P.length := by simp [textY]
theorem textP_le (P : List Place) (Y : List Named) (k : Nat) : (textP P k).length ≤ (textM P Y).length := by
  rw [← textY_all, textY, List.length_append]
  have : (textP P P.length).length = (textP P k).length + (((P.drop k).map placeT).flatMap fun l => l ++ [10]).length := by
    unfold textP
    rw [List.take_length, ← List.length_append, ← List.flatMap_append, ← List.map_append, List.take_append_drop]
  omega
theorem textY_le (P : List Place) (Y : List Named) (k : Nat) : (textY P Y k).length ≤ (textM P Y).length := by
  rw [← textY_all, textY, textY, List.length_append, List.length_append]
  have : (((Y.take Y.length).map namedT).flatMap fun l => l ++ [10]).length = (((Y.take k).map namedT).flatMap fun l => l ++ [10]).length + (((Y.drop k).map namedT).flatMap fun l => l ++ [10]).length := by
    rw [List.take_length, ← List.length_append, ← List.flatMap_append, ← List.map_append, List.take_append_drop]
  omega

end Go.Proofs.YtncnngkianhifaaDoor
