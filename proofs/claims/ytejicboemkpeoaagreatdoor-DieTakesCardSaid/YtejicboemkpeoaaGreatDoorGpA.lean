/-
  Groups of sections: what the bytes of an object's groups say, and which sections are left out. No program.
-/
import Derived.Test.YtejicboemkpeoaaGreatDoorSyA
import Derived.Test.YtejicboemkpeoaaGreatDoorPoO
import Derived.Test.YtejicboemkpeoaaGreatDoorCsL
import Derived.Lib.SlBytesConst
import Derived.Laws.StructEq
import Derived.Test.YtejicboemkpeoaaGreatDoorSeA
import Derived.Test.YtejicboemkpeoaaGreatDoorEhC
namespace Go.Proofs.YtejicboemkpeoaaGreatDoor
open Go Go.RowKit

/-! ### Values -/
/-- A place. -/
structure Place where
  obj : Int
  sect : Int
  addr : Nat
/-- A symbol of a map. -/
structure Named where
  name : List UInt8
  addr : Nat
/-- A range of addresses. -/
structure Span where
  lo : Nat
  hi : Nat
def Place.cells (p : Place) : List Value := [.int .i64 p.obj, .int .i64 p.sect, .int .u64 (p.addr : Int)]
def Named.cells (s : Named) : List Value := [.string ⟨s.name.toArray⟩, .int .u64 (s.addr : Int)]
def Span.cells (r : Span) : List Value := [.int .u64 (r.lo : Int), .int .u64 (r.hi : Int)]
theorem Place.one (p : Place) : ∀ u ∈ p.cells, u.oneCell' = true := fun u hu => by
  simp only [Place.cells, List.mem_cons, List.not_mem_nil, or_false] at hu
  rcases hu with rfl | rfl | rfl <;> rfl
theorem Named.one (s : Named) : ∀ u ∈ s.cells, u.oneCell' = true := fun u hu => by
  simp only [Named.cells, List.mem_cons, List.not_mem_nil, or_false] at hu
  rcases hu with rfl | rfl <;> rfl
theorem Span.one (r : Span) : ∀ u ∈ r.cells, u.oneCell' = true := fun u hu => by
  simp only [Span.cells, List.mem_cons, List.not_mem_nil, or_false] at hu
  rcases hu with rfl | rfl <;> rfl
/-- Numbers that the types hold. -/
def Place.Nums (p : Place) : Prop := InI p.obj ∧ InI p.sect ∧ p.addr < two64
def Named.Nums (s : Named) : Prop := s.addr < two64
def Span.Nums (r : Span) : Prop := r.lo < two64 ∧ r.hi < two64

section
variable {w : World} {B : Nat} {a : Option Addr} {i : Nat}
end

/-! ### What a map tells -/
/-- The first place from number i on of which p holds. -/
def firstK {α : Type} (p : α → Bool) : Nat → List α → Option Nat
  | _, [] => none
  | i, x :: l => if p x then some i else firstK p (i + 1) l
section
variable {α : Type} {p : α → Bool}
theorem firstK_take : ∀ (l : List α) (i k : Nat) (x : α), l[k]? = some x → (l.take k).all (fun y => !(p y)) = true → p x = true → firstK p i l = some (i + k)
  | [], _, _, _, h, _, _ => by simp at h
  | y :: l, i, 0, x, h, _, hp => by
    simp at h
    subst h
    simp [firstK, hp]
  | y :: l, i, k + 1, x, h, ha, hp => by
    simp only [List.take_succ_cons, List.all_cons, Bool.and_eq_true, Bool.not_eq_true'] at ha
    simp only [firstK, ha.1]
    have := firstK_take l (i + 1) k x (by simpa using h) ha.2 hp
    rw [show i + 1 + k = i + (k + 1) by omega] at this
    simpa using this
theorem firstK_none : ∀ (l : List α) (i : Nat), l.all (fun y => !(p y)) = true → firstK p i l = none
  | [], _, _ => rfl
  | y :: l, i, ha => by
    simp only [List.all_cons, Bool.and_eq_true, Bool.not_eq_true'] at ha
    simp only [firstK, ha.1]
    simpa using firstK_none l (i + 1) ha.2
theorem firstK_some : ∀ {l : List α} {i k : Nat}, firstK p i l = some (i + k) → ∃ x, l[k]? = some x ∧ p x = true ∧ (l.take k).all (fun y => !(p y)) = true
  | [], _, _, h => by cases h
  | y :: l, i, k, h => by
    unfold firstK at h
    by_cases hp : p y = true
    · rw [if_pos hp] at h
      have : k = 0 := by injection h with h; omega
      subst this
      exact ⟨y, rfl, hp, rfl⟩
    · rw [if_neg hp] at h
      have hk : ∀ {l : List α} {i m : Nat}, firstK p i l = some m → i ≤ m := by
        intro l
        induction l with
        | nil => intro i m h; cases h
        | cons z l ih =>
          intro i m h
          unfold firstK at h
          split at h
          · injection h with h; omega
          · have := ih h; omega
      have h0 := hk h
      obtain ⟨k', rfl⟩ : ∃ k', k = k' + 1 := ⟨k - 1, by omega⟩
      rw [show i + (k' + 1) = i + 1 + k' by omega] at h
      obtain ⟨x, h1, h2, h3⟩ := firstK_some h
      refine ⟨x, by simpa using h1, h2, ?_⟩
      simp only [List.take_succ_cons, List.all_cons, Bool.and_eq_true, Bool.not_eq_true']
      exact ⟨by simpa using hp, h3⟩
end
/-- Is a place that of a section of an object? -/
def hasP (o s : Int) (p : Place) : Bool := decide (p.obj = o) && decide (p.sect = s)
/-- The place of a section of an object. -/
def outK (P : List Place) (o s : Int) : Option Nat := firstK (hasP o s) 0 P
/-- The symbol of a name. -/
def nameK (Y : List Named) (n : List UInt8) : Option Nat := firstK (fun s => decide (s.name = n)) 0 Y

end Go.Proofs.YtejicboemkpeoaaGreatDoor

namespace Go.Proofs.YtejicboemkpeoaaGreatDoor
open Go Go.RowKit

/-- A group. -/
structure Grp where
  place : Nat
  one : Bool
  name : List UInt8
  mem : List Nat

/-- Where the first section of symbols stands; -1. -/
def tabG (S : List Sect) : Int := match S.findIdx? (fun s => s.kind == 2) with
  | some i => (i : Int)
  | none => -1
theorem tabG_none {S : List Sect} (hk : ∀ (j : Nat) (t : Sect), S[j]? = some t → t.kind ≠ 2) : tabG S = -1 := by
  have : S.findIdx? (fun s => s.kind == 2) = none := by
    rw [List.findIdx?_eq_none_iff]
    intro x hx
    obtain ⟨j, hj⟩ := List.getElem?_of_mem hx
    simpa using hk j x hj
  unfold tabG
  rw [this]
section
variable {S : List Sect} {Y : List Sym} {k : Nat} {l : List Grp} {met b : List Bool} {s : Sect}
end
end Go.Proofs.YtejicboemkpeoaaGreatDoor
