/-
  The contracts of layer 3's first and At.
-/
import Derived.Test.YtejicboemkpeoaaGreatDoorPoM
import Derived.Test.YtejicboemkpeoaaGreatDoorCsJ
import Derived.Lib.BufferWrite
import Derived.Lib.UnsafeStr
import Derived.Laws.MakeOwn
import Derived.Test.YtejicboemkpeoaaGreatDoorCsL
namespace Go.Proofs.YtejicboemkpeoaaGreatDoor
open Go Go.RowKit Go.Maps

/-- Nothing below 'base' has turned, and no block but of the kinds told. -/
def Only (base : Nat) (bad : Obj → Prop) (w w' : World) : Prop := Below base w w' ∧ ∀ (k : Nat) (o : Obj), w.heap[k]? = some o → ¬ bad o → w'.heap[k]? = some o

theorem Only.refl (base : Nat) (bad : Obj → Prop) (w : World) : Only base bad w w := ⟨Below.refl _ _, fun _ _ h _ => h⟩
theorem Only.trans {base : Nat} {bad : Obj → Prop} {a b c : World} (h : Only base bad a b) (k : Only base bad b c) : Only base bad a c := ⟨h.1.trans k.1, fun j o hj hb => k.2 j o (h.2 j o hj hb) hb⟩
theorem Only.below {base : Nat} {bad : Obj → Prop} {a b : World} (h : Below a.heap.size a b) (hb : base ≤ a.heap.size) : Only base bad a b :=
  ⟨h.mono hb, fun j _ hj _ => (h.block j (Array.getElem?_eq_some_iff.1 hj).1).trans hj⟩
theorem Only.then_ {base : Nat} {bad : Obj → Prop} {a b c : World} (h : Only base bad a b) (k : Below b.heap.size b c) (hb : base ≤ a.heap.size) : Only base bad a c := h.trans (Only.below k (Nat.le_trans hb h.1.size))
theorem Only.row {base g : Nat} {bad : Obj → Prop} {a b : World} {o : Obj} (h : a.grownBy b (some g)) (hg : a.heap[g]? = some o) (ho : bad o) (hb : base ≤ g) : Only base bad a b := by
  refine ⟨below_of_only h (by have := (Array.getElem?_eq_some_iff.1 hg).1; omega) (fun k hk => by injection hk with hk; omega), fun j p hj hp => ?_⟩
  by_cases e : j = g
  · subst e
    rw [hg] at hj
    injection hj with hj
    subst hj
    exact absurd ho hp
  · exact (h.block j (Array.getElem?_eq_some_iff.1 hj).1 (by simpa using e)).trans hj
theorem Only.drewN {base : Nat} {bad : Obj → Prop} {a b : World} (h : Only base bad a b) (n : Nat) : Only base bad a (b.drewN n) := ⟨below_drewN h.1 n, h.2⟩

section
variable {w w' : World} {base g mb : Nat} {v : Value} {ls : List (List UInt8)}

end

theorem string_law : Keyed Tryz.prog 9 := string_keyed Tryz.underlying9
theorem map_nil (w : World) (m : Option Nat) : (binOp .neq 94 (.map m) (.map none)).run Tryz.prog w = .ok (.bool (!m.isNone)) w := run_neq_map_nil w _ _ _ m Tryz.underlying94
theorem key_text (t : List UInt8) (h : t.length ≤ maxLen) : keyOf Tryz.prog 9 (.string ⟨t.toArray⟩) = some (keyT t) := Go.WideMaps.keyOf_string_mk Tryz.underlying9 h

end Go.Proofs.YtejicboemkpeoaaGreatDoor

namespace Go.Proofs.YtejicboemkpeoaaGreatDoor
open Go Go.RowKit

theorem rd_cut {w : World} {B : Nat} {A : Option Addr} {l : List UInt8} (h : Rd w B A l) (f n : Nat) : Rd w B (Option.map (fun x => x.add f) A) ((l.drop f).take n) := by
  intro hl
  have hll : 0 < l.length := by simp at hl; omega
  obtain ⟨b, o, rfl, hb, hc⟩ := h hll
  refine ⟨b, o + f, by simp [addr_add], hb, fun j x hx => ?_⟩
  have hx' : l[f + j]? = some x := by
    rw [List.getElem?_take] at hx
    split at hx
    · rwa [List.getElem?_drop] at hx
    · cases hx
  rw [Nat.add_assoc]
  exact hc _ _ hx'

theorem size_u8 (W : World) : (sizeOf (Tryz.prog.elem 26)).run Tryz.prog W = .ok 1 W := by kernel_rfl

/-- What At tells. -/
def atT (l : List UInt8) (off : Nat) : List UInt8 × Int := if off < l.length then ((readT (l.drop off)).1, (readT (l.drop off)).2.2) else ([], 10)

end Go.Proofs.YtejicboemkpeoaaGreatDoor
