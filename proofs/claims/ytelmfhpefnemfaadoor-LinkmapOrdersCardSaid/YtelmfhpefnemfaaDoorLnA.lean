/-
  A queue of images, lowest first: plain facts; no program is named here.
-/
import Derived.Test.YtelmfhpefnemfaaDoorSyI
namespace Go.Proofs.YtelmfhpefnemfaaDoor
open Go Go.RowKit

/-! ### Images -/
/-- An image: its addresses, and the section that it is of. -/
structure Img where
  lo : Nat
  hi : Nat
  obj : Int
  sect : Int
def Img.cells (x : Img) : List Value := [.int .u64 (x.lo : Int), .int .u64 (x.hi : Int), .int .i64 x.obj, .int .i64 x.sect]
theorem img_four (x : Img) : x.cells.length = 4 := rfl
theorem Img.one (x : Img) : ∀ u ∈ x.cells, u.oneCell' = true := fun u hu => by
  simp only [Img.cells, List.mem_cons, List.not_mem_nil, or_false] at hu
  rcases hu with rfl | rfl | rfl | rfl <;> rfl
def Img.span (x : Img) : Span := ⟨x.lo, x.hi⟩
theorem img_at {w : World} {B : Nat} {a : Option Addr} {i : Nat} {L : List Img} {x : Img} (h : Row 4 Img.cells w B a L) (hx : L[i]? = some x) : ∃ b o, a = some ⟨b, o, none⟩ ∧ b < B ∧ w.cell? ⟨b, o + i * 4, none⟩ = some (.int .u64 (x.lo : Int)) ∧ w.cell? ⟨b, o + i * 4 + 1, none⟩ = some (.int .u64 (x.hi : Int)) ∧ w.cell? ⟨b, o + i * 4 + 2, none⟩ = some (.int .i64 x.obj) ∧ w.cell? ⟨b, o + i * 4 + 3, none⟩ = some (.int .i64 x.sect) := by
  have hl : 0 < L.length := by have := (List.getElem?_eq_some_iff.1 hx).1; omega
  obtain ⟨b, o, e, hlt, hc⟩ := h hl
  exact ⟨b, o, e, hlt, hc i x hx 0 _ rfl, hc i x hx 1 _ rfl, hc i x hx 2 _ rfl, hc i x hx 3 _ rfl⟩

/-! ### Keys, by place -/
/-- The first address of the image at a place. -/
def kl (L : List Img) (i : Nat) : Nat := match L[i]? with | some x => x.lo | none => 0
theorem kl_of {L : List Img} {i : Nat} {x : Img} (h : L[i]? = some x) : kl L i = x.lo := by unfold kl; rw [h]
/-- Two places changed. -/
def swp (L : List Img) (i j : Nat) : List Img := match L[i]?, L[j]? with | some x, some y => (L.set i y).set j x | _, _ => L
theorem swp_of {L : List Img} {i j : Nat} {x y : Img} (hi : L[i]? = some x) (hj : L[j]? = some y) : swp L i j = (L.set i y).set j x := by unfold swp; rw [hi, hj]
theorem swp_length (L : List Img) (i j : Nat) : (swp L i j).length = L.length := by
  unfold swp
  split <;> simp
theorem swp_perm (L : List Img) (i j : Nat) : (swp L i j).Perm L := by
  unfold swp
  split
  · rename_i x y hx hy
    obtain ⟨hi, rfl⟩ := List.getElem?_eq_some_iff.1 hx
    obtain ⟨hj, rfl⟩ := List.getElem?_eq_some_iff.1 hy
    have h := Array.swap_perm (xs := L.toArray) (i := i) (j := j) (by simpa using hi) (by simpa using hj)
    have h2 := h.toList
    simpa [Array.swap] using h2
  · exact List.Perm.refl _
theorem swp_at {L : List Img} {i j : Nat} (hi : i < L.length) (hj : j < L.length) (k : Nat) : (swp L i j)[k]? = if k = j then L[i]? else if k = i then L[j]? else L[k]? := by
  obtain ⟨x, hx⟩ : ∃ x, L[i]? = some x := ⟨_, List.getElem?_eq_getElem hi⟩
  obtain ⟨y, hy⟩ : ∃ y, L[j]? = some y := ⟨_, List.getElem?_eq_getElem hj⟩
  rw [swp_of hx hy, hx, hy]
  rw [List.getElem?_set]
  by_cases e : k = j
  · subst e
    simp [hj]
  · rw [if_neg (fun h => e h.symm), if_neg e, List.getElem?_set]
    by_cases e2 : k = i
    · subst e2
      simp [hi]
    · rw [if_neg (fun h => e2 h.symm), if_neg e2]
theorem swp_kl {L : List Img} {i j : Nat} (hi : i < L.length) (hj : j < L.length) (k : Nat) : kl (swp L i j) k = if k = j then kl L i else if k = i then kl L j else kl L k := by
  unfold kl
  rw [swp_at hi hj]
  by_cases e : k = j
  · rw [if_pos e, if_pos e]
  · rw [if_neg e, if_neg e]
    by_cases e2 : k = i
    · rw [if_pos e2, if_pos e2]
    · rw [if_neg e2, if_neg e2]

/-! ### Heaps -/
/-- Each place's key is not below that of the place above it. -/
def HeapK (K : Nat → Nat) (n : Nat) : Prop := ∀ i, 0 < i → i < n → K ((i - 1) / 2) ≤ K i
/-- .. but perhaps at j, which may be too low. -/
def UpK (K : Nat → Nat) (n j : Nat) : Prop := (∀ i, 0 < i → i < n → i ≠ j → K ((i - 1) / 2) ≤ K i) ∧ ∀ i, 0 < i → i < n → (i - 1) / 2 = j → 0 < j → K ((j - 1) / 2) ≤ K i
/-- .. but perhaps below j, which may be too high. -/
def DownK (K : Nat → Nat) (n j : Nat) : Prop := (∀ i, 0 < i → i < n → (i - 1) / 2 ≠ j → K ((i - 1) / 2) ≤ K i) ∧ ∀ i, 0 < i → i < n → (i - 1) / 2 = j → 0 < j → K ((j - 1) / 2) ≤ K i
theorem heap_up {K : Nat → Nat} {n : Nat} (h : HeapK K n) : UpK K (n + 1) n :=
  ⟨fun i h0 h1 h2 => h i h0 (by omega), fun i h0 h1 h2 h3 => by omega⟩
theorem up_done {K : Nat → Nat} {n j : Nat} (h : UpK K n j) (hj : j = 0 ∨ K ((j - 1) / 2) ≤ K j) : HeapK K n := fun i h0 h1 => by
  by_cases e : i = j
  · subst e
    rcases hj with hj | hj
    · omega
    · exact hj
  · exact h.1 i h0 h1 e
theorem up_step {K K' : Nat → Nat} {n j : Nat} (h : UpK K n j) (hj : j < n) (h0 : 0 < j) (hlt : K j < K ((j - 1) / 2)) (hs : ∀ k, K' k = if k = j then K ((j - 1) / 2) else if k = (j - 1) / 2 then K j else K k) : UpK K' n ((j - 1) / 2) := by
  obtain ⟨h1, h2⟩ := h
  generalize hp : (j - 1) / 2 = p at *
  have hpj : p < j := by omega
  refine ⟨fun i hi0 hi1 hi2 => ?_, fun i hi0 hi1 hi2 hp0 => ?_⟩
  · by_cases e : i = j
    · subst e
      rw [hp, hs, hs, if_neg (by omega), if_pos rfl, if_pos rfl]
      omega
    · by_cases e2 : (i - 1) / 2 = j
      · rw [e2, hs, hs, if_pos rfl, if_neg e, if_neg hi2]
        have := h2 i hi0 hi1 e2 h0
        omega
      · by_cases e3 : (i - 1) / 2 = p
        · rw [e3, hs, hs, if_neg (by omega), if_pos rfl, if_neg e, if_neg hi2]
          have := h1 i hi0 hi1 e
          rw [e3] at this
          omega
        · rw [hs, hs, if_neg e2, if_neg e3, if_neg e, if_neg hi2]
          exact h1 i hi0 hi1 e
  · have hpp : (p - 1) / 2 ≠ j := by omega
    have hpp2 : (p - 1) / 2 ≠ p := by omega
    have hi_p : i ≠ p := by omega
    have a := h1 p hp0 (by omega) (by omega)
    rw [hs, hs, if_neg hpp, if_neg hpp2, if_neg hi_p]
    by_cases e : i = j
    · rw [if_pos e]
      exact a
    · rw [if_neg e]
      have b := h1 i hi0 hi1 e
      rw [hi2] at b
      omega
/-- The last one put first: the others may be lower. -/
theorem heap_down {K K' : Nat → Nat} {n : Nat} (h : HeapK K (n + 1)) (hs : ∀ k, K' k = if k = n then K 0 else if k = 0 then K n else K k) : DownK K' n 0 := by
  refine ⟨fun i h0 h1 h2 => ?_, fun i h0 h1 h2 h3 => by omega⟩
  rw [hs, hs, if_neg (by omega), if_neg h2, if_neg (by omega), if_neg (by omega)]
  exact h i h0 (by omega)
theorem down_done {K : Nat → Nat} {n j : Nat} (h : DownK K n j) (hj : ∀ i, 0 < i → i < n → (i - 1) / 2 = j → K j ≤ K i) : HeapK K n := fun i h0 h1 => by
  by_cases e : (i - 1) / 2 = j
  · rw [e]
    exact hj i h0 h1 e
  · exact h.1 i h0 h1 e
theorem down_step {K K' : Nat → Nat} {n j c : Nat} (h : DownK K n j) (hc : c < n) (hcj : (c - 1) / 2 = j) (h0 : 0 < c) (hmin : ∀ i, 0 < i → i < n → (i - 1) / 2 = j → K c ≤ K i) (hlt : K c < K j) (hs : ∀ k, K' k = if k = c then K j else if k = j then K c else K k) : DownK K' n c := by
  obtain ⟨h1, h2⟩ := h
  have hjc : j < c := by omega
  refine ⟨fun i hi0 hi1 hi2 => ?_, fun i hi0 hi1 hi2 hc0 => ?_⟩
  · by_cases e : (i - 1) / 2 = j
    · rw [e, hs, hs, if_neg (by omega), if_pos rfl]
      by_cases e2 : i = c
      · rw [if_pos e2]
        omega
      · have : i ≠ j := by omega
        rw [if_neg e2, if_neg this]
        exact hmin i hi0 hi1 e
    · have hic : i ≠ c := fun e2 => e (by rw [e2]; exact hcj)
      rw [hs, hs, if_neg hi2, if_neg e, if_neg hic]
      by_cases e2 : i = j
      · subst e2
        rw [if_pos rfl]
        exact h2 c h0 hc hcj hi0
      · rw [if_neg e2]
        exact h1 i hi0 hi1 e
  · have hij : i ≠ j := by omega
    have hic : i ≠ c := by omega
    rw [hcj, hs, hs, if_neg (by omega), if_pos rfl, if_neg hic, if_neg hij]
    have := h1 i hi0 hi1 (by omega)
    rw [hi2] at this
    exact this
/-- The first one is the lowest. -/
theorem heap_min {K : Nat → Nat} {n : Nat} (h : HeapK K n) : ∀ i, i < n → K 0 ≤ K i := by
  intro i
  induction i using Nat.strongRecOn with
  | ind i ih =>
    intro hi
    by_cases e : i = 0
    · rw [e]; exact Nat.le_refl _
    · have a := h i (by omega) hi
      have b := ih ((i - 1) / 2) (by omega) (by omega)
      omega

/-! ### Rising -/
/-- Images that rise. -/
def RiseI (L : List Img) : Prop := L.Pairwise fun x y => x.lo ≤ y.lo
theorem rise_snoc {L : List Img} {x : Img} (h : RiseI L) (hx : ∀ y ∈ L, y.lo ≤ x.lo) : RiseI (L ++ [x]) := by
  unfold RiseI
  rw [List.pairwise_append]
  exact ⟨h, by simp, fun a ha b hb => by rw [List.mem_singleton.1 hb]; exact hx a ha⟩

end Go.Proofs.YtelmfhpefnemfaaDoor
