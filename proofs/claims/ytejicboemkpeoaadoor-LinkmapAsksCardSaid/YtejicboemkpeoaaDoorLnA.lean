/-
  A queue of images, lowest first: plain facts; no program is named here.
-/
import Derived.Test.YtejicboemkpeoaaDoorSyI
namespace Go.Proofs.YtejicboemkpeoaaDoor

/-- A range put among others, behind those that begin no later. -/
def insG (r : Span) : List Span → List Span
  | [] => [r]
  | x :: l => if r.lo < x.lo then r :: x :: l else x :: insG r l
theorem insG_mem {r x : Span} : ∀ {l : List Span}, x ∈ insG r l ↔ x = r ∨ x ∈ l
  | [] => by simp [insG]
  | y :: l => by
    unfold insG
    split
    · simp
    · rw [List.mem_cons, insG_mem, List.mem_cons]
      constructor
      · rintro (h | h | h)
        · exact .inr (.inl h)
        · exact .inl h
        · exact .inr (.inr h)
      · rintro (h | h | h)
        · exact .inr (.inl h)
        · exact .inl h
        · exact .inr (.inr h)
theorem insG_length {r : Span} : ∀ (l : List Span), (insG r l).length = l.length + 1
  | [] => rfl
  | y :: l => by
    unfold insG
    split
    · simp
    · simp [insG_length l]
/-- Where it is put. -/
theorem insG_at {r : Span} : ∀ {A B : List Span}, (∀ x ∈ A, x.lo ≤ r.lo) → (∀ x ∈ B, r.lo < x.lo) → insG r (A ++ B) = A ++ r :: B
  | [], [], _, _ => rfl
  | [], y :: B, _, h => by
    show insG r (y :: B) = r :: y :: B
    unfold insG
    rw [if_pos (h y (by simp))]
  | y :: A, B, h, h2 => by
    show insG r (y :: (A ++ B)) = y :: (A ++ r :: B)
    unfold insG
    rw [if_neg (by have := h y (by simp); omega), insG_at (fun x hx => h x (by simp [hx])) h2]
/-- Rising. -/
def Rise (l : List Span) : Prop := l.Pairwise fun x y => x.lo ≤ y.lo
theorem insG_rise {r : Span} : ∀ {l : List Span}, Rise l → Rise (insG r l)
  | [], _ => by simp [insG, Rise]
  | y :: l, h => by
    unfold insG
    obtain ⟨h1, h2⟩ := List.pairwise_cons.1 h
    split
    · rename_i hr
      refine List.pairwise_cons.2 ⟨fun x hx => ?_, h⟩
      rcases List.mem_cons.1 hx with rfl | hx
      · omega
      · have := h1 x hx
        omega
    · rename_i hr
      refine List.pairwise_cons.2 ⟨fun x hx => ?_, insG_rise h2⟩
      rcases insG_mem.1 hx with rfl | hx
      · omega
      · exact h1 x hx
/-- Lists that rise, of which no two begin alike, and that have the same members are the same. -/
theorem rise_same : ∀ {L M : List Span}, L.Pairwise (fun x y => x.lo < y.lo) → M.Pairwise (fun x y => x.lo < y.lo) → (∀ x, x ∈ L ↔ x ∈ M) → L = M
  | [], [], _, _, _ => rfl
  | [], y :: M, _, _, h => absurd ((h y).2 (by simp)) (by simp)
  | x :: L, [], _, _, h => absurd ((h x).1 (by simp)) (by simp)
  | x :: L, y :: M, hl, hm, h => by
    obtain ⟨h1, h2⟩ := List.pairwise_cons.1 hl
    obtain ⟨h3, h4⟩ := List.pairwise_cons.1 hm
    have e : x = y := by
      rcases List.mem_cons.1 ((h x).1 (by simp)) with e | hx
      · exact e
      · rcases List.mem_cons.1 ((h y).2 (by simp)) with e | hy
        · exact e.symm
        · have a := h3 x hx
          have b := h1 y hy
          omega
    subst e
    have ht : L = M := rise_same h2 h4 fun z => by
      constructor
      · intro hz
        rcases List.mem_cons.1 ((h z).1 (by simp [hz])) with e | h5
        · have := h1 z hz
          rw [e] at this
          omega
        · exact h5
      · intro hz
        rcases List.mem_cons.1 ((h z).2 (by simp [hz])) with e | h5
        · have := h3 z hz
          rw [e] at this
          omega
        · exact h5
    rw [ht]

/-! ### Images -/
/-- A place's image. -/
def imgG (q : Place × Nat) : Span := ⟨q.1.addr, q.1.addr + q.2⟩
/-- The images of places with sections of so many bytes, in order: those that have an address. -/
def imagesG (l : List (Place × Nat)) : List Span := l.foldl (fun out q => if q.2 = 0 then out else insG (imgG q) out) []
theorem imagesG_snoc (l : List (Place × Nat)) (q : Place × Nat) : imagesG (l ++ [q]) = if q.2 = 0 then imagesG l else insG (imgG q) (imagesG l) := by simp [imagesG]
theorem imagesG_rise (l : List (Place × Nat)) : Rise (imagesG l) := by
  have : ∀ (l : List (Place × Nat)) (out : List Span), Rise out → Rise (l.foldl (fun out q => if q.2 = 0 then out else insG (imgG q) out) out) := by
    intro l
    induction l with
    | nil => intro out h; exact h
    | cons q l ih =>
      intro out h
      rw [List.foldl_cons]
      refine ih _ ?_
      split
      · exact h
      · exact insG_rise h
  exact this l [] List.Pairwise.nil
theorem imagesG_mem (l : List (Place × Nat)) (x : Span) : x ∈ imagesG l ↔ ∃ q ∈ l, q.2 ≠ 0 ∧ x = imgG q := by
  have : ∀ (l : List (Place × Nat)) (out : List Span), x ∈ (l.foldl (fun out q => if q.2 = 0 then out else insG (imgG q) out) out) ↔ x ∈ out ∨ ∃ q ∈ l, q.2 ≠ 0 ∧ x = imgG q := by
    intro l
    induction l with
    | nil => intro out; simp
    | cons q l ih =>
      intro out
      rw [List.foldl_cons, ih]
      by_cases hq : q.2 = 0
      · rw [if_pos hq]
        simp [hq]
      · rw [if_neg hq, insG_mem]
        constructor
        · rintro ((h | h) | ⟨p, h, h1⟩)
          · exact .inr ⟨q, by simp, hq, h⟩
          · exact .inl h
          · exact .inr ⟨p, by simp [h], h1⟩
        · rintro (h | ⟨p, h, h1, h2⟩)
          · exact .inl (.inr h)
          · rcases List.mem_cons.1 h with rfl | h
            · exact .inl (.inl h2)
            · exact .inr ⟨p, h, h1, h2⟩
  simpa [imagesG] using this l []

/-! ### Images that are apart -/
/-- No two images have an address in common. -/
def Apart (l : List (Place × Nat)) : Prop := ∀ (i j : Nat) (p q : Place × Nat), i < j → l[i]? = some p → l[j]? = some q → ¬ (q.1.addr < p.1.addr + p.2 ∧ p.1.addr < q.1.addr + q.2 ∧ 0 < q.2 ∧ 0 < p.2)
theorem inQ_spec {a : Nat} {q : Place × Nat} : inQ a q = true ↔ q.1.addr ≤ a ∧ a < q.1.addr + q.2 := by
  unfold inQ
  rw [Bool.and_eq_true, decide_eq_true_eq, decide_eq_true_eq]
  omega
/-- Rising, and apart. -/
def RiseS (l : List Span) : Prop := l.Pairwise fun x y => x.hi ≤ y.lo
theorem insG_strict {r : Span} (hr : r.lo < r.hi) : ∀ {l : List Span}, RiseS l → (∀ x ∈ l, x.lo < x.hi ∧ (x.hi ≤ r.lo ∨ r.hi ≤ x.lo)) → RiseS (insG r l)
  | [], _, _ => by simp [insG, RiseS]
  | y :: l, h, ha => by
    unfold insG
    obtain ⟨h1, h2⟩ := List.pairwise_cons.1 h
    have hy := ha y (by simp)
    split
    · rename_i hlt
      refine List.pairwise_cons.2 ⟨fun x hx => ?_, h⟩
      rcases List.mem_cons.1 hx with rfl | hx
      · omega
      · have := h1 x hx
        omega
    · rename_i hlt
      refine List.pairwise_cons.2 ⟨fun x hx => ?_, insG_strict hr h2 (fun x hx => ha x (by simp [hx]))⟩
      rcases insG_mem.1 hx with rfl | hx
      · omega
      · exact h1 x hx
theorem imagesG_strict {l : List (Place × Nat)} (h : Apart l) : RiseS (imagesG l) ∧ ∀ x ∈ imagesG l, x.lo < x.hi := by
  refine ⟨?_, fun x hx => ?_⟩
  · have : ∀ k, k ≤ l.length → RiseS (imagesG (l.take k)) := by
      intro k
      induction k with
      | zero => intro _; exact List.Pairwise.nil
      | succ k ih =>
        intro hk
        rw [List.take_succ_eq_append_getElem (show k < l.length by omega), imagesG_snoc]
        split
        · exact ih (by omega)
        · rename_i h0
          refine insG_strict (by simp [imgG]; omega) (ih (by omega)) (fun x hx => ?_)
          obtain ⟨q, hq, hq0, rfl⟩ := (imagesG_mem _ _).1 hx
          obtain ⟨j, hj⟩ := List.getElem?_of_mem hq
          have hji : j < k := by
            have := (List.getElem?_eq_some_iff.1 hj).1
            simp at this
            omega
          have hjl : l[j]? = some q := by rw [List.getElem?_take, if_pos hji] at hj; exact hj
          have := h j k q l[k] hji hjl (List.getElem?_eq_getElem _)
          simp only [imgG]
          omega
    have h1 := this l.length (Nat.le_refl _)
    rwa [List.take_length] at h1
  · obtain ⟨q, _, hq0, rfl⟩ := (imagesG_mem _ _).1 hx
    simp only [imgG]
    omega
end Go.Proofs.YtejicboemkpeoaaDoor

namespace Go.Proofs.YtejicboemkpeoaaDoor
open Go Go.RowKit

/-! ### Images -/
/-- An image: its addresses, and the section that it is of. -/
structure Img where
  lo : Nat
  hi : Nat
  obj : Int
  sect : Int
def Img.cells (x : Img) : List Value := [.int .u64 (x.lo : Int), .int .u64 (x.hi : Int), .int .i64 x.obj, .int .i64 x.sect]
theorem img_four (x : Img) : x.cells.length = 4 := rfl
theorem Img.one (x : Img) : ∀ u ∈ x.cells, u.oneCell' = true := fun u hu => by
  simp only [Img.cells, List.mem_cons, List.not_mem_nil, or_false] at hu
  rcases hu with rfl | rfl | rfl | rfl <;> rfl
def Img.span (x : Img) : Span := ⟨x.lo, x.hi⟩
theorem img_at {w : World} {B : Nat} {a : Option Addr} {i : Nat} {L : List Img} {x : Img} (h : Row 4 Img.cells w B a L) (hx : L[i]? = some x) : ∃ b o, a = some ⟨b, o, none⟩ ∧ b < B ∧ w.cell? ⟨b, o + i * 4, none⟩ = some (.int .u64 (x.lo : Int)) ∧ w.cell? ⟨b, o + i * 4 + 1, none⟩ = some (.int .u64 (x.hi : Int)) ∧ w.cell? ⟨b, o + i * 4 + 2, none⟩ = some (.int .i64 x.obj) ∧ w.cell? ⟨b, o + i * 4 + 3, none⟩ = some (.int .i64 x.sect) := by
  have hl : 0 < L.length := by have := (List.getElem?_eq_some_iff.1 hx).1; omega
  obtain ⟨b, o, e, hlt, hc⟩ := h hl
  exact ⟨b, o, e, hlt, hc i x hx 0 _ rfl, hc i x hx 1 _ rfl, hc i x hx 2 _ rfl, hc i x hx 3 _ rfl⟩

/-! ### Keys, by place -/
/-- The first address of the image at a place. -/
def kl (L : List Img) (i : Nat) : Nat := match L[i]? with | some x => x.lo | none => 0
theorem kl_of {L : List Img} {i : Nat} {x : Img} (h : L[i]? = some x) : kl L i = x.lo := by unfold kl; rw [h]
/-- Two places changed. -/
def swp (L : List Img) (i j : Nat) : List Img := match L[i]?, L[j]? with | some x, some y => (L.set i y).set j x | _, _ => L
theorem swp_of {L : List Img} {i j : Nat} {x y : Img} (hi : L[i]? = some x) (hj : L[j]? = some y) : swp L i j = (L.set i y).set j x := by unfold swp; rw [hi, hj]
theorem swp_length (L : List Img) (i j : Nat) : (swp L i j).length = L.length := by
  unfold swp
  split <;> simp
theorem swp_perm (L : List Img) (i j : Nat) : (swp L i j).Perm L := by
  unfold swp
  split
  · rename_i x y hx hy
    obtain ⟨hi, rfl⟩ := List.getElem?_eq_some_iff.1 hx
    obtain ⟨hj, rfl⟩ := List.getElem?_eq_some_iff.1 hy
    have h := Array.swap_perm (xs := L.toArray) (i := i) (j := j) (by simpa using hi) (by simpa using hj)
    have h2 := h.toList
    simpa [Array.swap] using h2
  · exact List.Perm.refl _
theorem swp_at {L : List Img} {i j : Nat} (hi : i < L.length) (hj : j < L.length) (k : Nat) : (swp L i j)[k]? = if k = j then L[i]? else if k = i then L[j]? else L[k]? := by
  obtain ⟨x, hx⟩ : ∃ x, L[i]? = some x := ⟨_, List.getElem?_eq_getElem hi⟩
  obtain ⟨y, hy⟩ : ∃ y, L[j]? = some y := ⟨_, List.getElem?_eq_getElem hj⟩
  rw [swp_of hx hy, hx, hy]
  rw [List.getElem?_set]
  by_cases e : k = j
  · subst e
    simp [hj]
  · rw [if_neg (fun h => e h.symm), if_neg e, List.getElem?_set]
    by_cases e2 : k = i
    · subst e2
      simp [hi]
    · rw [if_neg (fun h => e2 h.symm), if_neg e2]
theorem swp_kl {L : List Img} {i j : Nat} (hi : i < L.length) (hj : j < L.length) (k : Nat) : kl (swp L i j) k = if k = j then kl L i else if k = i then kl L j else kl L k := by
  unfold kl
  rw [swp_at hi hj]
  by_cases e : k = j
  · rw [if_pos e, if_pos e]
  · rw [if_neg e, if_neg e]
    by_cases e2 : k = i
    · rw [if_pos e2, if_pos e2]
    · rw [if_neg e2, if_neg e2]

/-! ### Heaps -/
/-- Each place's key is not below that of the place above it. -/
def HeapK (K : Nat → Nat) (n : Nat) : Prop := ∀ i, 0 < i → i < n → K ((i - 1) / 2) ≤ K i
/-- .. but perhaps at j, which may be too low. -/
def UpK (K : Nat → Nat) (n j : Nat) : Prop := (∀ i, 0 < i → i < n → i ≠ j → K ((i - 1) / 2) ≤ K i) ∧ ∀ i, 0 < i → i < n → (i - 1) / 2 = j → 0 < j → K ((j - 1) / 2) ≤ K i
/-- .. but perhaps below j, which may be too high. -/
def DownK (K : Nat → Nat) (n j : Nat) : Prop := (∀ i, 0 < i → i < n → (i - 1) / 2 ≠ j → K ((i - 1) / 2) ≤ K i) ∧ ∀ i, 0 < i → i < n → (i - 1) / 2 = j → 0 < j → K ((j - 1) / 2) ≤ K i
theorem heap_up {K : Nat → Nat} {n : Nat} (h : HeapK K n) : UpK K (n + 1) n :=
  ⟨fun i h0 h1 h2 => h i h0 (by omega), fun i h0 h1 h2 h3 => by omega⟩
theorem up_done {K : Nat → Nat} {n j : Nat} (h : UpK K n j) (hj : j = 0 ∨ K ((j - 1) / 2) ≤ K j) : HeapK K n := fun i h0 h1 => by
  by_cases e : i = j
  · subst e
    rcases hj with hj | hj
    · omega
    · exact hj
  · exact h.1 i h0 h1 e
theorem up_step {K K' : Nat → Nat} {n j : Nat} (h : UpK K n j) (hj : j < n) (h0 : 0 < j) (hlt : K j < K ((j - 1) / 2)) (hs : ∀ k, K' k = if k = j then K ((j - 1) / 2) else if k = (j - 1) / 2 then K j else K k) : UpK K' n ((j - 1) / 2) := by
  obtain ⟨h1, h2⟩ := h
  generalize hp : (j - 1) / 2 = p at *
  have hpj : p < j := by omega
  refine ⟨fun i hi0 hi1 hi2 => ?_, fun i hi0 hi1 hi2 hp0 => ?_⟩
  · by_cases e : i = j
    · subst e
      rw [hp, hs, hs, if_neg (by omega), if_pos rfl, if_pos rfl]
      omega
    · by_cases e2 : (i - 1) / 2 = j
      · rw [e2, hs, hs, if_pos rfl, if_neg e, if_neg hi2]
        have := h2 i hi0 hi1 e2 h0
        omega
      · by_cases e3 : (i - 1) / 2 = p
        · rw [e3, hs, hs, if_neg (by omega), if_pos rfl, if_neg e, if_neg hi2]
          have := h1 i hi0 hi1 e
          rw [e3] at this
          omega
        · rw [hs, hs, if_neg e2, if_neg e3, if_neg e, if_neg hi2]
          exact h1 i hi0 hi1 e
  · have hpp : (p - 1) / 2 ≠ j := by omega
    have hpp2 : (p - 1) / 2 ≠ p := by omega
    have hi_p : i ≠ p := by omega
    have a := h1 p hp0 (by omega) (by omega)
    rw [hs, hs, if_neg hpp, if_neg hpp2, if_neg hi_p]
    by_cases e : i = j
    · rw [if_pos e]
      exact a
    · rw [if_neg e]
      have b := h1 i hi0 hi1 e
      rw [hi2] at b
      omega
/-- The last one put first: the others may be lower. -/
theorem heap_down {K K' : Nat → Nat} {n : Nat} (h : HeapK K (n + 1)) (hs : ∀ k, K' k = if k = n then K 0 else if k = 0 then K n else K k) : DownK K' n 0 := by
  refine ⟨fun i h0 h1 h2 => ?_, fun i h0 h1 h2 h3 => by omega⟩
  rw [hs, hs, if_neg (by omega), if_neg h2, if_neg (by omega), if_neg (by omega)]
  exact h i h0 (by omega)
theorem down_done {K : Nat → Nat} {n j : Nat} (h : DownK K n j) (hj : ∀ i, 0 < i → i < n → (i - 1) / 2 = j → K j ≤ K i) : HeapK K n := fun i h0 h1 => by
  by_cases e : (i - 1) / 2 = j
  · rw [e]
    exact hj i h0 h1 e
  · exact h.1 i h0 h1 e
theorem down_step {K K' : Nat → Nat} {n j c : Nat} (h : DownK K n j) (hc : c < n) (hcj : (c - 1) / 2 = j) (h0 : 0 < c) (hmin : ∀ i, 0 < i → i < n → (i - 1) / 2 = j → K c ≤ K i) (hlt : K c < K j) (hs : ∀ k, K' k = if k = c then K j else if k = j then K c else K k) : DownK K' n c := by
  obtain ⟨h1, h2⟩ := h
  have hjc : j < c := by omega
  refine ⟨fun i hi0 hi1 hi2 => ?_, fun i hi0 hi1 hi2 hc0 => ?_⟩
  · by_cases e : (i - 1) / 2 = j
    · rw [e, hs, hs, if_neg (by omega), if_pos rfl]
      by_cases e2 : i = c
      · rw [if_pos e2]
        omega
      · have : i ≠ j := by omega
        rw [if_neg e2, if_neg this]
        exact hmin i hi0 hi1 e
    · have hic : i ≠ c := fun e2 => e (by rw [e2]; exact hcj)
      rw [hs, hs, if_neg hi2, if_neg e, if_neg hic]
      by_cases e2 : i = j
      · subst e2
        rw [if_pos rfl]
        exact h2 c h0 hc hcj hi0
      · rw [if_neg e2]
        exact h1 i hi0 hi1 e
  · have hij : i ≠ j := by omega
    have hic : i ≠ c := by omega
    rw [hcj, hs, hs, if_neg (by omega), if_pos rfl, if_neg hic, if_neg hij]
    have := h1 i hi0 hi1 (by omega)
    rw [hi2] at this
    exact this
/-- The first one is the lowest. -/
theorem heap_min {K : Nat → Nat} {n : Nat} (h : HeapK K n) : ∀ i, i < n → K 0 ≤ K i := by
  intro i
  induction i using Nat.strongRecOn with
  | ind i ih =>
    intro hi
    by_cases e : i = 0
    · rw [e]; exact Nat.le_refl _
    · have a := h i (by omega) hi
      have b := ih ((i - 1) / 2) (by omega) (by omega)
      omega

/-! ### Rising -/
/-- Images that rise. -/
def RiseI (L : List Img) : Prop := L.Pairwise fun x y => x.lo ≤ y.lo
theorem rise_snoc {L : List Img} {x : Img} (h : RiseI L) (hx : ∀ y ∈ L, y.lo ≤ x.lo) : RiseI (L ++ [x]) := by
  unfold RiseI
  rw [List.pairwise_append]
  exact ⟨h, by simp, fun a ha b hb => by rw [List.mem_singleton.1 hb]; exact hx a ha⟩

end Go.Proofs.YtejicboemkpeoaaDoor
