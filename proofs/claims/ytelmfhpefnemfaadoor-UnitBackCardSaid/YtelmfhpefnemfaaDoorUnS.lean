/-
  Which unit a place is of, among units one behind the other: plain facts.
-/
import Derived.Test.YtelmfhpefnemfaaDoorUnR
namespace Go.Proofs.YtelmfhpefnemfaaDoor
open Go Go.RowKit

theorem find_in : ∀ (L : List UHd) (off k i : Nat), findU L off k = ((k + i : Nat) : Int) → ∃ x, L[i]? = some x ∧ inU x off = true
  | [], off, k, i, h => by
    rw [findU] at h
    omega
  | y :: L, off, k, i, h => by
    rw [findU] at h
    cases hy : inU y off with
    | true =>
      rw [hy] at h
      simp only at h
      have : i = 0 := by omega
      subst this
      exact ⟨y, rfl, hy⟩
    | false =>
      rw [hy] at h
      simp only at h
      cases i with
      | zero =>
        have : ∀ (L : List UHd) (k : Nat), findU L off k = -1 ∨ (k : Int) ≤ findU L off k := by
          intro L
          induction L with
          | nil => intro k; exact .inl rfl
          | cons z L ih =>
            intro k
            rw [findU]
            cases inU z off with
            | true => exact .inr (Int.le_refl _)
            | false =>
              rcases ih (k + 1) with e | e
              · exact .inl e
              · exact .inr (by simp only; omega)
        rcases this L (k + 1) with e | e <;> omega
      | succ i =>
        obtain ⟨x, h1, h2⟩ := find_in L off (k + 1) i (by rw [h]; omega)
        exact ⟨x, by simpa using h1, h2⟩
theorem find_none : ∀ (L : List UHd) (off k : Nat), (∀ x ∈ L, inU x off = false) → findU L off k = -1
  | [], _, _, _ => rfl
  | y :: L, off, k, h => by
    rw [findU, h y (List.mem_cons_self ..)]
    exact find_none L off (k + 1) fun x hx => h x (List.mem_cons_of_mem _ hx)
/-- The heads told, rising. -/
theorem heads_ge : ∀ (L : List (UHd × List UInt8)) (a : Nat), (∀ y ∈ L, UFit y) → ∀ x ∈ headsAt a L, a ≤ x.off ∧ x.first ≤ x.stop ∧ x.stop ≤ a + (secB L).length ∧ a < x.first
  | [], _, _, x, hx => by cases hx
  | y :: L, a, hf, x, hx => by
    have hy := hf y (List.mem_cons_self ..)
    have hl := putUB_len hy.r y.2 hy.b
    have hz : 0 < sizN y.1 := by
      have := headU_len y.1
      unfold sizN
      omega
    have e : (secB (y :: L)).length = (putUB y.1 y.2).length + (secB L).length := by simp [secB]
    rw [headsAt] at hx
    rcases List.mem_cons.1 hx with rfl | hx
    · simp only [headAt]
      omega
    · have := heads_ge L (a + (putUB y.1 y.2).length) (fun z hz => hf z (List.mem_cons_of_mem _ hz)) x hx
      omega
theorem heads_at : ∀ (L : List (UHd × List UInt8)) (a i : Nat) (y : UHd × List UInt8), L[i]? = some y → ∃ b, (headsAt a L)[i]? = some (headAt b y.1 y.2.length)
  | [], _, _, _, h => by simp at h
  | z :: L, a, 0, y, h => by
    simp at h
    subst h
    exact ⟨a, rfl⟩
  | z :: L, a, i + 1, y, h => by
    obtain ⟨b, e⟩ := heads_at L (a + (putUB z.1 z.2).length) i y (by simpa using h)
    exact ⟨b, by rw [headsAt]; simpa using e⟩
theorem find_head : ∀ (L : List (UHd × List UInt8)) (a k i off : Nat) (x : UHd), (∀ y ∈ L, UFit y) → (headsAt a L)[i]? = some x → x.first ≤ off → off < x.stop → findU (headsAt a L) off k = ((k + i : Nat) : Int)
  | [], _, _, _, _, _, _, h, _, _ => by simp [headsAt] at h
  | y :: L, a, k, i, off, x, hf, h, h1, h2 => by
    have hy := hf y (List.mem_cons_self ..)
    have hl := putUB_len hy.r y.2 hy.b
    rw [headsAt] at h ⊢
    rw [findU]
    cases i with
    | zero =>
      simp at h
      subst h
      rw [show inU (headAt a y.1 y.2.length) off = true by unfold inU; rw [decide_eq_true h1, decide_eq_true h2]; rfl]
      rfl
    | succ i =>
      have h' : (headsAt (a + (putUB y.1 y.2).length) L)[i]? = some x := by simpa using h
      have hg := heads_ge L (a + (putUB y.1 y.2).length) (fun z hz => hf z (List.mem_cons_of_mem _ hz)) x (List.mem_of_getElem? h')
      rw [show inU (headAt a y.1 y.2.length) off = false by unfold inU headAt; rw [show decide (off < a + sizN y.1 + y.2.length) = false by simp; omega]; simp]
      simp only
      rw [find_head L _ (k + 1) i off x (fun z hz => hf z (List.mem_cons_of_mem _ hz)) h' h1 h2]
      omega

/-- What UnitBack asks of a unit that was put, told. -/
theorem back_asks {L : List (UHd × List UInt8)} (hf : ∀ y ∈ L, UFit y) {i : Nat} {y : UHd × List UInt8} {x : UHd} (hy : L[i]? = some y) (hx : (headsAt 0 L)[i]? = some x) :
    x.stop = x.first + y.2.length ∧ 0 < x.first ∧ x.stop ≤ (secB L).length ∧ (x.first < x.stop → findU (headsAt 0 L) x.first 0 = (i : Int) ∧ findU (headsAt 0 L) (x.stop - 1) 0 = (i : Int)) ∧ findU (headsAt 0 L) (x.first - 1) 0 ≠ (i : Int) := by
  obtain ⟨b, e⟩ := heads_at L 0 i y hy
  have hxe : x = headAt b y.1 y.2.length := by rw [hx] at e; exact Option.some.inj e
  have hg := heads_ge L 0 hf x (List.mem_of_getElem? hx)
  refine ⟨by rw [hxe]; rfl, by omega, by omega, fun hlt => ⟨?_, ?_⟩, fun h => ?_⟩
  · have := find_head L 0 0 i x.first x hf hx (Nat.le_refl _) hlt
    simpa using this
  · have := find_head L 0 0 i (x.stop - 1) x hf hx (by omega) (by omega)
    simpa using this
  · obtain ⟨z, h1, h2⟩ := find_in (headsAt 0 L) (x.first - 1) 0 i (by rw [h]; simp)
    rw [hx] at h1
    injection h1 with h1
    subst h1
    unfold inU at h2
    simp at h2
    omega
theorem back_end {L : List (UHd × List UInt8)} (hf : ∀ y ∈ L, UFit y) : findU (headsAt 0 L) (secB L).length 0 = -1 := by
  refine find_none _ _ _ fun x hx => ?_
  have hg := heads_ge L 0 hf x hx
  unfold inU
  rw [show decide ((secB L).length < x.stop) = false by simp; omega]
  simp

end Go.Proofs.YtelmfhpefnemfaaDoor
