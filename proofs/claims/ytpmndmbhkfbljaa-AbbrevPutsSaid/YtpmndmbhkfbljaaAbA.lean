/-
  Abbreviations: what bytes are told as, what may be, what is put. No walk.
-/
import Derived.Test.YtpmndmbhkfbljaaLebC
import Derived.Test.YtpmndmbhkfbljaaLebB
import Derived.Test.YtpmndmbhkfbljaaSyA
namespace Go.Proofs.Ytpmndmbhkfbljaa
open Go Go.RowKit

/-! ### Pairs, abbreviations -/
/-- A pair: its attribute, its form, its constant. -/
structure Spc where
  at_ : Int
  form : Int
  imp : Int
def Spc.cells (x : Spc) : List Value := [.int .i64 x.at_, .int .i64 x.form, .int .i64 x.imp]
def Spc.val (x : Spc) : Value := .agg x.cells.toArray
theorem spc_three (x : Spc) : x.cells.length = 3 := rfl
theorem spc_one (x : Spc) : ∀ u ∈ x.cells, u.oneCell' = true := by
  intro u hu
  simp only [Spc.cells, List.mem_cons, List.not_mem_nil, or_false] at hu
  rcases hu with rfl | rfl | rfl <;> rfl
/-- An abbreviation, as it is told. -/
structure Abb where
  code : Nat
  tag : Int
  kids : Bool
  l : List Spc
/-- An abbreviation in memory: with where its pairs are. -/
structure ALay where
  x : Abb
  a : Option Addr
  c : Nat
def ALay.cells (y : ALay) : List Value := [.int .u64 (y.x.code : Int), .int .i64 y.x.tag, .bool y.x.kids, .slice y.a y.x.l.length y.c]
def ALay.val (y : ALay) : Value := .agg y.cells.toArray
theorem abb_four (x : ALay) : x.cells.length = 4 := rfl
theorem abb_one (x : ALay) : ∀ u ∈ x.cells, u.oneCell' = true := by
  intro u hu
  simp only [ALay.cells, List.mem_cons, List.not_mem_nil, or_false] at hu
  rcases hu with rfl | rfl | rfl | rfl <;> rfl
/-- The abbreviations of what lies. -/
def absOf (L : List ALay) : List Abb := L.map ALay.x
@[simp] theorem absOf_length (L : List ALay) : (absOf L).length = L.length := by simp [absOf]
theorem absOf_at {L : List ALay} {i : Nat} {y : ALay} (h : L[i]? = some y) : (absOf L)[i]? = some y.x := by simp [absOf, h]

/-! ### What is read -/
/-- A cursor over bytes: where it stands, why it refused. -/
abbrev CSt := Nat × Int
def tU (l : List UInt8) (s : CSt) : Nat := (uOf (l.drop s.1) s.2).1
def sU (l : List UInt8) (s : CSt) : CSt := (s.1 + (uOf (l.drop s.1) s.2).2.1, (uOf (l.drop s.1) s.2).2.2)
def tS (l : List UInt8) (s : CSt) : Int := (sOf (l.drop s.1) s.2).1
def sS (l : List UInt8) (s : CSt) : CSt := (s.1 + (sOf (l.drop s.1) s.2).2.1, (sOf (l.drop s.1) s.2).2.2)
def tB (l : List UInt8) (s : CSt) : Nat := leNat (nextGot l s.1 s.2 1)
def sB (l : List UInt8) (s : CSt) : CSt := (nextAt l s.1 s.2 1, nextErr l s.1 s.2 1)
def sF (s : CSt) (f : Int) : CSt := (s.1, failOf s.2 f)
/-- Whether a pair's numbers may not be. -/
def badP (a f : Nat) : Bool := decide (a = 0) || (decide (f = 0) || (decide (65535 < a) || decide (65535 < f)))
/-- Pairs up to their end, or to where the cursor refuses: of n - 1 at most. -/
def specsF (l : List UInt8) : Nat → CSt → List Spc × CSt
  | 0, s => ([], s)
  | n + 1, s =>
    if tU l s = 0 ∧ tU l (sU l s) = 0 then ([], sU l (sU l s))
    else if badP (tU l s) (tU l (sU l s)) = true then ([], sF (sU l (sU l s)) 40)
    else if n = 0 then ([], sF (sU l (sU l s)) 3)
    else if tU l (sU l s) = 33 then (⟨tU l s, tU l (sU l s), tS l (sU l (sU l s))⟩ :: (specsF l n (sS l (sU l (sU l s)))).1, (specsF l n (sS l (sU l (sU l s)))).2)
    else (⟨tU l s, tU l (sU l s), 0⟩ :: (specsF l n (sU l (sU l s))).1, (specsF l n (sU l (sU l s))).2)
section
variable {l : List UInt8} {n : Nat} {s : CSt}
theorem specsF_end (h : tU l s = 0 ∧ tU l (sU l s) = 0) : specsF l (n + 1) s = ([], sU l (sU l s)) := by
  rw [specsF, if_pos h]
theorem specsF_bad (h : ¬ (tU l s = 0 ∧ tU l (sU l s) = 0)) (hb : badP (tU l s) (tU l (sU l s)) = true) : specsF l (n + 1) s = ([], sF (sU l (sU l s)) 40) := by
  rw [specsF, if_neg h, if_pos hb]
theorem specsF_full (h : ¬ (tU l s = 0 ∧ tU l (sU l s) = 0)) (hb : badP (tU l s) (tU l (sU l s)) = false) : specsF l 1 s = ([], sF (sU l (sU l s)) 3) := by
  rw [specsF, if_neg h, if_neg (by rw [hb]; simp), if_pos rfl]
theorem specsF_imp (hn : n ≠ 0) (h : ¬ (tU l s = 0 ∧ tU l (sU l s) = 0)) (hb : badP (tU l s) (tU l (sU l s)) = false) (hf : tU l (sU l s) = 33) : specsF l (n + 1) s = (⟨tU l s, tU l (sU l s), tS l (sU l (sU l s))⟩ :: (specsF l n (sS l (sU l (sU l s)))).1, (specsF l n (sS l (sU l (sU l s)))).2) := by
  rw [specsF, if_neg h, if_neg (by rw [hb]; simp), if_neg hn, if_pos hf]
theorem specsF_more (hn : n ≠ 0) (h : ¬ (tU l s = 0 ∧ tU l (sU l s) = 0)) (hb : badP (tU l s) (tU l (sU l s)) = false) (hf : tU l (sU l s) ≠ 33) : specsF l (n + 1) s = (⟨tU l s, tU l (sU l s), 0⟩ :: (specsF l n (sU l (sU l s))).1, (specsF l n (sU l (sU l s))).2) := by
  rw [specsF, if_neg h, if_neg (by rw [hb]; simp), if_neg hn, if_neg hf]
end
/-- A tag; whether there are children. -/
def tagT (l : List UInt8) (s : CSt) : Nat := if 65535 < tU l s then 0 else tU l s
def tagS (l : List UInt8) (s : CSt) : CSt := if 65535 < tU l s then sF (sU l s) 40 else sU l s
def kidT (l : List UInt8) (s : CSt) : Bool := decide (tB l s = 1)
def kidS (l : List UInt8) (s : CSt) : CSt := if 1 < tB l s then sF (sB l s) 40 else sB l s
/-- An abbreviation behind its code. -/
def abbT (l : List UInt8) (code : Nat) (s : CSt) : Abb := ⟨code, (tagT l s : Int), kidT l (tagS l s), (specsF l 41 (kidS l (tagS l s))).1⟩
def abbS (l : List UInt8) (s : CSt) : CSt := (specsF l 41 (kidS l (tagS l s))).2
/-- Abbreviations up to their end, or to where the cursor refuses: of n - 1 at most. -/
def tabF (l : List UInt8) : Nat → CSt → List Abb × CSt
  | 0, s => ([], s)
  | n + 1, s =>
    if tU l s = 0 then ([], sU l s)
    else if n = 0 then ([], sF (sU l s) 3)
    else (abbT l (tU l s) (sU l s) :: (tabF l n (abbS l (sU l s))).1, (tabF l n (abbS l (sU l s))).2)
section
variable {l : List UInt8} {n : Nat} {s : CSt}
theorem tabF_end (h : tU l s = 0) : tabF l (n + 1) s = ([], sU l s) := by
  rw [tabF, if_pos h]
theorem tabF_full (h : tU l s ≠ 0) : tabF l 1 s = ([], sF (sU l s) 3) := by
  rw [tabF, if_neg h, if_pos rfl]
theorem tabF_more (hn : n ≠ 0) (h : tU l s ≠ 0) : tabF l (n + 1) s = (abbT l (tU l s) (sU l s) :: (tabF l n (abbS l (sU l s))).1, (tabF l n (abbS l (sU l s))).2) := by
  rw [tabF, if_neg h, if_neg hn]
end

/-! ### What may be -/
def numbK (n : Int) : Bool := decide (1 ≤ n) && decide (n ≤ 65535)
def okP (x : Spc) : Bool := numbK x.at_ && (numbK x.form && (decide (x.form = 33) || decide (x.imp = 0)))
/-- Whether none of a list stands twice. -/
def onceB {α : Type} [DecidableEq α] (l : List α) : Bool := decide l.Nodup
def okA (x : Abb) : Bool := !decide (x.code = 0) && (numbK x.tag && (decide (x.l.length ≤ 40) && (x.l.all okP && onceB (x.l.map Spc.at_))))
def rightA (l : List Abb) : Bool := decide (l.length ≤ 300) && (l.all okA && onceB (l.map Abb.code))

/-- What Take tells. -/
def takeAE (l : List UInt8) (s : CSt) : Int := if (tabF l 301 s).2.2 = 0 then (if rightA (tabF l 301 s).1 then 0 else 40) else (tabF l 301 s).2.2
def takeAL (l : List UInt8) (s : CSt) : List Abb := if takeAE l s = 0 then (tabF l 301 s).1 else []
def takeAP (l : List UInt8) (s : CSt) : Nat := (tabF l 301 s).2.1

/-! ### What is put -/
def spcB (x : Spc) : List UInt8 := lebPut (sizeU x.at_.toNat) (x.at_.toNat : Int) ++ lebPut (sizeU x.form.toNat) (x.form.toNat : Int) ++ (if x.form = 33 then lebPut (sizeS x.imp) x.imp else [])
def spcsB (l : List Spc) : List UInt8 := l.flatMap spcB
def kidB (b : Bool) : UInt8 := if b then 1 else 0
def abbB (x : Abb) : List UInt8 := lebPut (sizeU x.code) (x.code : Int) ++ lebPut (sizeU x.tag.toNat) (x.tag.toNat : Int) ++ [kidB x.kids] ++ spcsB x.l ++ [0, 0]
def abbsB (l : List Abb) : List UInt8 := l.flatMap abbB
/-- A table's bytes. -/
def tabB (l : List Abb) : List UInt8 := abbsB l ++ [0]

def eqP (x y : Spc) : Bool := decide (x.at_ = y.at_) && (decide (x.form = y.form) && decide (x.imp = y.imp))

end Go.Proofs.Ytpmndmbhkfbljaa
