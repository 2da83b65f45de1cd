/-
  What a map that may be tells of its addresses: plain facts.
-/
import Derived.Test.YtncnngkianhifaaDoorLnW
namespace Go.Proofs.YtncnngkianhifaaDoor
open Go Go.RowKit

theorem okTo_at {ok : Nat → Bool} {n i : Nat} (h : okTo ok n = true) (hi : i < n) : ok i = true := by
  unfold okTo at h
  rw [List.all_eq_true] at h
  exact h i (List.mem_range.2 hi)
theorem ref_good {O : List ObjV} {Q : List BLay} {P : List Place} {Y : List Named} (h : refM O Q P Y = false) : P.length ≤ 200 ∧ Y.length ≤ 200 ∧ ∀ i p, P[i]? = some p → goodP O Q (P.take i) p = true := by
  unfold refM at h
  simp only [Bool.or_eq_false_iff, decide_eq_false_iff_not, Bool.not_eq_false'] at h
  obtain ⟨⟨h1, h2⟩, h3, -⟩ := h
  refine ⟨by omega, by omega, fun i p hp => ?_⟩
  have := okTo_at h3 (List.getElem?_eq_some_iff.1 hp).1
  simpa only [hp] using this
theorem goodP_parts {O : List ObjV} {Q : List BLay} {P : List Place} {p : Place} (h : goodP O Q P p = true) : outK P p.obj p.sect = none ∧ p.addr + sizK O p < 18446744073709551615 ∧ ∃ x, secK O p.obj p.sect = some x := by
  unfold goodP at h
  unfold sizK
  cases hs : secK O p.obj p.sect with
  | none => rw [hs] at h; cases h
  | some x =>
    rw [hs] at h
    simp only [Bool.and_eq_true, decide_eq_true_eq, Option.isNone_iff_eq_none] at h
    obtain ⟨-, -, h1, h2⟩ := h
    exact ⟨h1, by show p.addr + x.s.data.length < _; omega, x, rfl⟩
theorem firstK_noneP {α : Type} {p : α → Bool} : ∀ {l : List α} {i : Nat}, firstK p i l = none → ∀ x ∈ l, p x = false
  | [], _, _, x, hx => by cases hx
  | y :: l, i, h, x, hx => by
    unfold firstK at h
    split at h
    · cases h
    · rename_i hy
      rcases List.mem_cons.1 hx with rfl | hx
      · simpa using hy
      · exact firstK_noneP h x hx

/-- What is true of a map that may be, and of its images. -/
structure MapR (O : List ObjV) (P : List Place) (R : List Img) : Prop where
  mem : ∀ x ∈ R, ∃ p ∈ P, x = imgP O p
  has : ∀ p ∈ P, 0 < sizK O p → imgP O p ∈ R
  lt : ∀ x ∈ R, x.lo < x.hi
  fit : ∀ p ∈ P, p.addr + sizK O p < 18446744073709551615
  one : ∀ p ∈ P, ∀ q ∈ P, p.obj = q.obj → p.sect = q.sect → p = q
  part : PartI R
  len : R.length ≤ 200
theorem mapR_of {O : List ObjV} {Q : List BLay} {P : List Place} {Y : List Named} {R : List Img} (h : refM O Q P Y = false) (hp : R.Perm (imgsP O P)) (hr : PartI R) : MapR O P R := by
  obtain ⟨h1, -, h3⟩ := ref_good h
  have hm : ∀ p ∈ P, ∃ i, P[i]? = some p := fun p hp => List.mem_iff_getElem?.1 hp
  refine ⟨fun x hx => ?_, fun p hpP hs => ?_, fun x hx => imgsP_lt x (hp.mem_iff.1 hx), fun p hpP => ?_, ?_, hr, ?_⟩
  · have := (List.mem_filter.1 (hp.mem_iff.1 hx)).1
    obtain ⟨p, h4, h5⟩ := List.mem_map.1 this
    exact ⟨p, h4, h5.symm⟩
  · refine hp.mem_iff.2 (List.mem_filter.2 ⟨List.mem_map.2 ⟨p, hpP, rfl⟩, ?_⟩)
    exact decide_eq_true (by show p.addr < p.addr + sizK O p; omega)
  · obtain ⟨i, hi⟩ := hm p hpP
    exact (goodP_parts (h3 i p hi)).2.1
  · have key : ∀ (i j : Nat) (p q : Place), i < j → P[i]? = some p → P[j]? = some q → ¬ (p.obj = q.obj ∧ p.sect = q.sect) := fun i j p q hij hi hj ⟨e1, e2⟩ => by
      have h4 := (goodP_parts (h3 j q hj)).1
      have h5 := firstK_noneP h4 p (List.mem_of_getElem? (by rw [List.getElem?_take, if_pos hij]; exact hi))
      simp [hasP, e1, e2] at h5
    intro p hpP q hqP e1 e2
    obtain ⟨i, hi⟩ := hm p hpP
    obtain ⟨j, hj⟩ := hm q hqP
    rcases Nat.lt_trichotomy i j with hij | hij | hij
    · exact absurd ⟨e1, e2⟩ (key i j p q hij hi hj)
    · subst hij
      rw [hi] at hj
      injection hj
    · exact absurd ⟨e1.symm, e2.symm⟩ (key j i q p hij hj hi)
  · rw [hp.length_eq]
    refine Nat.le_trans (List.length_filter_le _ _) ?_
    rw [List.length_map]
    exact h1

theorem atI_mem : ∀ {R : List Img} {a : Nat} {x : Img}, PartI R → (∀ y ∈ R, y.lo < y.hi) → x ∈ R → x.lo ≤ a → a < x.hi → atI R a = some x
  | [], _, _, _, _, h, _, _ => by cases h
  | y :: R, a, x, hp, hl, hx, h1, h2 => by
    rcases List.mem_cons.1 hx with rfl | hx
    · unfold atI
      rw [List.find?_cons, decide_eq_true h2]
      simp only []
      rw [if_neg (by omega)]
    · have h3 := (List.pairwise_cons.1 hp).1 x hx
      have h4 := atI_mem (List.pairwise_cons.1 hp).2 (fun z hz => hl z (List.mem_cons_of_mem _ hz)) hx h1 h2
      unfold atI at h4 ⊢
      rw [List.find?_cons, decide_eq_false (by omega)]
      exact h4

section
variable {O : List ObjV} {P : List Place} {R : List Img}
theorem MapR.le (h : MapR O P R) : ∀ x ∈ R, x.lo ≤ x.hi := fun x hx => Nat.le_of_lt (h.lt x hx)
theorem MapR.back (h : MapR O P R) {p : Place} (hp : p ∈ P) {n : Nat} (hn : n < sizK O p) : inV R (p.addr + n) = .tuple #[.int .i64 p.obj, .int .i64 p.sect, .int .u64 (n : Int), .bool true] := by
  unfold inV
  rw [atI_mem h.part h.lt (h.has p hp (by omega)) (by show p.addr ≤ _; omega) (by show _ < p.addr + sizK O p; omega)]
  simp only [inT, imgP]
  rw [show p.addr + n - p.addr = n by omega]
theorem MapR.behind (h : MapR O P R) {p : Place} (hp : p ∈ P) {y : Img} (hy : atI R (p.addr + sizK O p) = some y) : ¬ (y.obj = p.obj ∧ y.sect = p.sect) := by
  rintro ⟨e1, e2⟩
  obtain ⟨h1, h2, h3⟩ := atI_lo hy
  obtain ⟨q, hq, rfl⟩ := h.mem y h3
  have := h.one q hq p hp e1 e2
  subst this
  simp only [imgP] at h2
  omega
theorem MapR.whole (h : MapR O P R) {x : Img} (hx : x ∈ R) : wholeI R x.lo x.hi = true ∧ wholeI R x.lo (x.hi + 1) = false := by
  have h1 := h.lt x hx
  unfold wholeI
  rw [atI_mem h.part h.lt hx (Nat.le_refl _) h1]
  constructor
  · simp [h1]
  · simp
theorem MapR.hi (h : MapR O P R) {x : Img} (hx : x ∈ R) : x.hi < 18446744073709551615 := by
  obtain ⟨p, hp, rfl⟩ := h.mem x hx
  exact h.fit p hp
theorem outK_place {P : List Place} {o s : Int} (h : (outK P o s).isSome = true) : ∃ p ∈ P, p.obj = o ∧ p.sect = s ∧ outA P o s = p.addr := by
  obtain ⟨k, hk⟩ := Option.isSome_iff_exists.1 h
  obtain ⟨p, hp, h2, -⟩ := firstK_some (i := 0) (p := hasP o s) (l := P) (k := k) (by rw [Nat.zero_add]; exact hk)
  simp only [hasP, Bool.and_eq_true, decide_eq_true_eq] at h2
  exact ⟨p, List.mem_of_getElem? hp, h2.1, h2.2, by unfold outA; rw [hk]; simp only [hp]⟩
end
end Go.Proofs.YtncnngkianhifaaDoor
