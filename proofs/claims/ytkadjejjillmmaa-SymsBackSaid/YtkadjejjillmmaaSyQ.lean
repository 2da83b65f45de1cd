/-
  What Put of symbols makes: plain facts.
-/

import Derived.Test.YtkadjejjillmmaaSyP
import Derived.Test.YtkadjejjillmmaaSeM
import Derived.Test.YtkadjejjillmmaaEhG
namespace Go.Proofs.Ytkadjejjillmmaa
open Go Go.RowKit

/-- The names, the empty one first; the texts behind k symbols. -/
def namesY (L : List Sym) : List (List UInt8) := [] :: L.map fun x => x.name
def texK (L : List Sym) (k : Nat) : List (List UInt8) := (gat ((namesY L).take (k + 1))).1
/-- A symbol's numbers, with how many bytes each has. -/
def itsY (p : Nat) (x : Sym) : List (Nat × Nat) := [(p, 4), (wrapN (x.bind * 16 + x.kind), 1), (0, 1), (wrapN x.sect, 2), (x.value, 8), (x.size, 8)]
/-- The table of the first k. -/
def tabK (L : List Sym) : Nat → List UInt8
  | 0 => []
  | k + 1 => tabK L k ++ (match L[k]? with | none => [] | some x => itsB (itsY (addT (texK L k) x.name).2.1 x))
def tabY (L : List Sym) : List UInt8 := match rightY L with | true => tabK L L.length | false => []
def txtY (L : List Sym) : List UInt8 := match rightY L with | true => putsT (texK L L.length) | false => []
section
variable {L : List Sym} {k : Nat} {x : Sym}
theorem texK_zero : texK L 0 = (addT [] []).1 := rfl
theorem texK_next (h : L[k]? = some x) : texK L (k + 1) = (addT (texK L k) x.name).1 := by
  unfold texK
  rw [gat_take (ns := namesY L) (k := k + 1) (t := x.name) (by simp [namesY, h])]
theorem tabK_next (h : L[k]? = some x) : tabK L (k + 1) = tabK L k ++ itsB (itsY (addT (texK L k) x.name).2.1 x) := by
  rw [tabK, h]
theorem addT_span (l : List (List UInt8)) (t : List UInt8) : spanT (addT l t).1 ≤ spanT l + t.length + 1 := by
  rcases addT_cases l t with ⟨_, e⟩ | ⟨q, _, _, e⟩ | ⟨_, _, _, e⟩ | ⟨_, _, _, e⟩ <;> rw [e] <;> simp only [spanT_append, spanT] <;> omega
theorem texK_span (L : List Sym) : ∀ k, k ≤ L.length → spanT (texK L k) ≤ 1 + k + sumN (L.take k)
  | 0, _ => by
    have := addT_span [] []
    rw [texK_zero]
    simpa [spanT, sumN] using this
  | k + 1, hk => by
    have hx : L[k]? = some (L[k]'(by omega)) := List.getElem?_eq_getElem _
    have ih := texK_span L k (by omega)
    have h1 := addT_span (texK L k) (L[k]'(by omega)).name
    rw [texK_next hx, sumN_next hx]
    omega
theorem sumN_take (L : List Sym) (k : Nat) : sumN (L.take k) ≤ sumN L := by
  have h := congrArg sumN (List.take_append_drop k L)
  unfold sumN at h ⊢
  rw [List.map_append, List.sum_append] at h
  omega
theorem tabK_length (L : List Sym) : ∀ k, (tabK L k).length ≤ 24 * k
  | 0 => Nat.le_refl _
  | k + 1 => by
    have ih := tabK_length L k
    rcases hx : L[k]? with _ | x
    · rw [tabK, hx]; simp; omega
    · rw [tabK_next hx]; simp [itsY, itsB]; omega
theorem okY_facts (h : okY x = true) : rightT x.name = true ∧ (0 ≤ x.bind ∧ x.bind ≤ 15) ∧ (0 ≤ x.kind ∧ x.kind ≤ 15) ∧ (0 ≤ x.sect ∧ x.sect ≤ 65534) := by
  unfold okY inTo at h
  simp only [Bool.and_eq_true, decide_eq_true_eq] at h
  exact ⟨h.1, h.2.1, h.2.2.1, h.2.2.2⟩
theorem rightY_all (h : rightY L = true) : L.length ≤ 400 ∧ ∀ x ∈ L, okY x = true := by
  unfold rightY at h
  rw [Bool.and_eq_true, decide_eq_true_eq, List.all_eq_true] at h
  exact h
end
theorem wrap_next {k : Nat} (h : k ≤ 1000000) : wrap64 ((k : Int) + 1) = (k : Int) + 1 := by unfold wrap64; omega
theorem step_less {k N : Nat} (h : k < N) : N - (intOf (Value.int .i64 ((k : Int) + 1))).toNat < N - (intOf (Value.int .i64 (k : Int))).toNat := by simp [intOf]; omega
theorem or_low (a b : Nat) (ha : a ≤ 15) (hb : b ≤ 15) : bits .or .i64 ((a * 16 : Nat) : Int) (b : Int) = ((a * 16 + b : Nat) : Int) := by
  have key : ∀ a b : Fin 16, bits .or .i64 ((a.val * 16 : Nat) : Int) (b.val : Int) = ((a.val * 16 + b.val : Nat) : Int) := by decide +kernel
  exact key ⟨a, by omega⟩ ⟨b, by omega⟩

end Go.Proofs.Ytkadjejjillmmaa
