/-
  Link maps: places, symbols, ranges, as values and side by side in memory; what a map tells, as functions over lists. No program is named here.
-/
import Derived.Test.YtpmndmbhkfbljaaSyA
import Derived.Test.YtpmndmbhkfbljaaCsA
import Derived.Test.YtpmndmbhkfbljaaCsM
import Derived.Test.YtpmndmbhkfbljaaPut
import Derived.Lib.BytesEntry
import Derived.Lib.AppendStr
import Derived.Laws.Externs
import Derived.Deep.Slices
import Derived.Test.YtpmndmbhkfbljaaPutR
import Derived.Test.YtpmndmbhkfbljaaRefR
import Derived.Test.YtpmndmbhkfbljaaCsL
import Derived.Lib.SlBytesConst
import Derived.Test.YtpmndmbhkfbljaaParts
import Derived.Laws.StructEq
namespace Go.Proofs.Ytpmndmbhkfbljaa
open Go Go.RowKit

/-- All alike, one by one. -/
def alikeL {α : Type} (p : α → α → Bool) (l m : List α) : Bool := decide (l.length = m.length) && (l.zip m).all fun q => p q.1 q.2
theorem zip_get {α : Type} {l m : List α} {k : Nat} {x y : α} (hx : l[k]? = some x) (hy : m[k]? = some y) : (l.zip m)[k]? = some (x, y) := by rw [List.getElem?_zip_eq_some]; exact ⟨hx, hy⟩

section
theorem part_int (xs : Array Value) (k : Nat) (u : Value) (hx : xs[k]? = some u) (W : World) : (part 3 xs k).run Try.prog W = .ok u W := by
  simp only [part, Sem.run_bind, isAgg, run_underlying Try.underlying3, Result.andThen_ok, Sem.run_pure]
  simp [hx]
theorem part_i64 (xs : Array Value) (k : Nat) (u : Value) (hx : xs[k]? = some u) (W : World) : (part 2 xs k).run Try.prog W = .ok u W := by
  simp only [part, Sem.run_bind, isAgg, run_underlying Try.underlying2, Result.andThen_ok, Sem.run_pure]
  simp [hx]
theorem eq_fields {d : Nat} {xs ys : Array Value} {f : Field} {fs : List Field} {W : World} {u v : Value} {b r : Bool} (hn : f.name ≠ "_") (hu : (part f.type xs f.offset).run Try.prog W = .ok u W) (hv : (part f.type ys f.offset).run Try.prog W = .ok v W)
    (he : (Op.equalIn (d + 1) f.type u v).run Try.prog W = .ok b W) (hr : (Op.eqFields (d + 1) xs ys fs).run Try.prog W = .ok r W) : (Op.eqFields (d + 1) xs ys (f :: fs)).run Try.prog W = .ok (b && r) W := by
  simp only [Op.eqFields, if_pos hn, Sem.run_bind, hu, hv, he, Result.andThen_ok]
  cases b
  · simp
  · simp [hr]
theorem beq_int (a b : Int) : (a == b) = decide (a = b) := by rw [Bool.eq_iff_iff, beq_iff_eq, decide_eq_true_eq]
end

end Go.Proofs.Ytpmndmbhkfbljaa

namespace Go.Proofs.Ytpmndmbhkfbljaa
open Go Go.RowKit

/-! ### Values -/
/-- A place. -/
structure Place where
  obj : Int
  sect : Int
  addr : Nat
/-- A symbol of a map. -/
structure Named where
  name : List UInt8
  addr : Nat
/-- A range of addresses. -/
structure Span where
  lo : Nat
  hi : Nat
def Place.cells (p : Place) : List Value := [.int .i64 p.obj, .int .i64 p.sect, .int .u64 (p.addr : Int)]
def Named.cells (s : Named) : List Value := [.string ⟨s.name.toArray⟩, .int .u64 (s.addr : Int)]
def Span.cells (r : Span) : List Value := [.int .u64 (r.lo : Int), .int .u64 (r.hi : Int)]
theorem Place.one (p : Place) : ∀ u ∈ p.cells, u.oneCell' = true := fun u hu => by
  simp only [Place.cells, List.mem_cons, List.not_mem_nil, or_false] at hu
  rcases hu with rfl | rfl | rfl <;> rfl
theorem Named.one (s : Named) : ∀ u ∈ s.cells, u.oneCell' = true := fun u hu => by
  simp only [Named.cells, List.mem_cons, List.not_mem_nil, or_false] at hu
  rcases hu with rfl | rfl <;> rfl
theorem Span.one (r : Span) : ∀ u ∈ r.cells, u.oneCell' = true := fun u hu => by
  simp only [Span.cells, List.mem_cons, List.not_mem_nil, or_false] at hu
  rcases hu with rfl | rfl <;> rfl
/-- Numbers that the types hold. -/
def Place.Nums (p : Place) : Prop := InI p.obj ∧ InI p.sect ∧ p.addr < two64
def Named.Nums (s : Named) : Prop := s.addr < two64
def Span.Nums (r : Span) : Prop := r.lo < two64 ∧ r.hi < two64

section
variable {w : World} {B : Nat} {a : Option Addr} {i : Nat}
end

/-! ### What a map tells -/
/-- The first place from number i on of which p holds. -/
def firstK {α : Type} (p : α → Bool) : Nat → List α → Option Nat
  | _, [] => none
  | i, x :: l => if p x then some i else firstK p (i + 1) l
section
variable {α : Type} {p : α → Bool}
theorem firstK_take : ∀ (l : List α) (i k : Nat) (x : α), l[k]? = some x → (l.take k).all (fun y => !(p y)) = true → p x = true → firstK p i l = some (i + k)
  | [], _, _, _, h, _, _ => by simp at h
  | y :: l, i, 0, x, h, _, hp => by
    simp at h
    subst h
    simp [firstK, hp]
  | y :: l, i, k + 1, x, h, ha, hp => by
    simp only [List.take_succ_cons, List.all_cons, Bool.and_eq_true, Bool.not_eq_true'] at ha
    simp only [firstK, ha.1]
    have := firstK_take l (i + 1) k x (by simpa using h) ha.2 hp
    rw [show i + 1 + k = i + (k + 1) by omega] at this
    simpa using this
theorem firstK_none : ∀ (l : List α) (i : Nat), l.all (fun y => !(p y)) = true → firstK p i l = none
  | [], _, _ => rfl
  | y :: l, i, ha => by
    simp only [List.all_cons, Bool.and_eq_true, Bool.not_eq_true'] at ha
    simp only [firstK, ha.1]
    simpa using firstK_none l (i + 1) ha.2
theorem firstK_some : ∀ {l : List α} {i k : Nat}, firstK p i l = some (i + k) → ∃ x, l[k]? = some x ∧ p x = true ∧ (l.take k).all (fun y => !(p y)) = true
  | [], _, _, h => by cases h
  | y :: l, i, k, h => by
    unfold firstK at h
    by_cases hp : p y = true
    · rw [if_pos hp] at h
      have : k = 0 := by injection h with h; omega
      subst this
      exact ⟨y, rfl, hp, rfl⟩
    · rw [if_neg hp] at h
      have hk : ∀ {l : List α} {i m : Nat}, firstK p i l = some m → i ≤ m := by
        intro l
        induction l with
        | nil => intro i m h; cases h
        | cons z l ih =>
          intro i m h
          unfold firstK at h
          split at h
          · injection h with h; omega
          · have := ih h; omega
      have h0 := hk h
      obtain ⟨k', rfl⟩ : ∃ k', k = k' + 1 := ⟨k - 1, by omega⟩
      rw [show i + (k' + 1) = i + 1 + k' by omega] at h
      obtain ⟨x, h1, h2, h3⟩ := firstK_some h
      refine ⟨x, by simpa using h1, h2, ?_⟩
      simp only [List.take_succ_cons, List.all_cons, Bool.and_eq_true, Bool.not_eq_true']
      exact ⟨by simpa using hp, h3⟩
end
/-- The symbol of a name. -/
def nameK (Y : List Named) (n : List UInt8) : Option Nat := firstK (fun s => decide (s.name = n)) 0 Y

end Go.Proofs.Ytpmndmbhkfbljaa
