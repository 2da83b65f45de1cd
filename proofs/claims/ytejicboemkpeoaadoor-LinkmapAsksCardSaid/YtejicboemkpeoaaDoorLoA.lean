/-
  The order of places and symbols changes nothing that a map tells: plain facts.
-/
import Derived.Test.YtejicboemkpeoaaDoorLnY
namespace Go.Proofs.YtejicboemkpeoaaDoor
open Go Go.RowKit

theorem okTo_iff {ok : Nat → Bool} {n : Nat} : okTo ok n = true ↔ ∀ i, i < n → ok i = true := by
  unfold okTo
  rw [List.all_eq_true]
  exact ⟨fun h i hi => h i (List.mem_range.2 hi), fun h i hi => h i (List.mem_range.1 hi)⟩
theorem goodPs_iff {O : List ObjV} {Q : List BLay} {P : List Place} : goodPs O Q P P.length = true ↔ (∀ p ∈ P, goodP O Q [] p = true) ∧ P.Pairwise fun p q => ¬ (p.obj = q.obj ∧ p.sect = q.sect) := by
  have hsplit : ∀ (L : List Place) (p : Place), goodP O Q L p = (goodP O Q [] p && (outK L p.obj p.sect).isNone) := fun L p => by
    unfold goodP
    cases secK O p.obj p.sect with
    | none => rfl
    | some x =>
      show (_ && (_ && (_ && _))) = ((_ && (_ && ((outK [] p.obj p.sect).isNone && _))) && _)
      rw [show (outK [] p.obj p.sect).isNone = true from rfl]
      generalize outB Q p.obj p.sect = a
      generalize memB x.s.flags = b
      generalize (outK L p.obj p.sect).isNone = c
      generalize decide (p.addr < 18446744073709551615 - x.s.data.length) = d
      cases a <;> cases b <;> cases c <;> cases d <;> rfl
  have hall : goodPs O Q P P.length = true ↔ ∀ i p, P[i]? = some p → goodP O Q (P.take i) p = true := by
    unfold goodPs
    rw [okTo_iff]
    constructor
    · intro h i p hp
      have := h i (List.getElem?_eq_some_iff.1 hp).1
      simpa only [hp] using this
    · intro h i hi
      have hp := List.getElem?_eq_getElem hi
      simp only [hp]
      exact h i _ hp
  rw [hall]
  constructor
  · intro h
    refine ⟨fun p hp => ?_, List.pairwise_iff_getElem.2 fun i j hi hj hij => ?_⟩
    · obtain ⟨i, hi⟩ := List.mem_iff_getElem?.1 hp
      have := h i p hi
      rw [hsplit] at this
      exact (Bool.and_eq_true _ _ ▸ this).1
    · rintro ⟨e1, e2⟩
      have h4 := (goodP_parts (h j _ (List.getElem?_eq_getElem hj))).1
      have h5 := firstK_noneP h4 P[i] (List.mem_of_getElem? (i := i) (by rw [List.getElem?_take, if_pos hij]; exact List.getElem?_eq_getElem hi))
      simp [hasP, e1, e2] at h5
  · rintro ⟨h1, h2⟩ i p hp
    rw [hsplit, h1 p (List.mem_of_getElem? hp), Bool.true_and]
    have : outK (P.take i) p.obj p.sect = none := firstK_none _ 0 (by
      rw [List.all_eq_true]
      intro y hy
      obtain ⟨j, hj⟩ := List.mem_iff_getElem?.1 hy
      rw [List.getElem?_take] at hj
      split at hj
      · rename_i hji
        obtain ⟨hi', rfl⟩ := List.getElem?_eq_some_iff.1 hp
        obtain ⟨hj', rfl⟩ := List.getElem?_eq_some_iff.1 hj
        have := List.pairwise_iff_getElem.1 h2 j i hj' hi' hji
        simp [hasP]
        omega
      · cases hj)
    rw [this]; rfl
theorem goodPs_perm {O : List ObjV} {Q : List BLay} {P P' : List Place} (h : P.Perm P') : goodPs O Q P P.length = goodPs O Q P' P'.length := by
  rw [Bool.eq_iff_iff, goodPs_iff, goodPs_iff]
  refine and_congr ⟨fun h1 p hp => h1 p (h.mem_iff.2 hp), fun h1 p hp => h1 p (h.mem_iff.1 hp)⟩ (h.pairwise_iff fun h1 h2 => h1 ⟨h2.1.symm, h2.2.symm⟩)

theorem imgsP_perm {O : List ObjV} {P P' : List Place} (h : P.Perm P') : (imgsP O P).Perm (imgsP O P') := (h.map _).filter _
theorem same_rise : ∀ {R R' : List Img}, R.Pairwise (fun x y => x.lo < y.lo) → R'.Pairwise (fun x y => x.lo < y.lo) → R.Perm R' → R = R'
  | [], R', _, _, h => h.nil_eq
  | x :: l, R', h1, h2, h => by
    cases R' with
    | nil => exact h.eq_nil
    | cons y l' =>
      obtain ⟨a1, b1⟩ := List.pairwise_cons.1 h1
      obtain ⟨a2, b2⟩ := List.pairwise_cons.1 h2
      have e : x = y := by
        rcases List.mem_cons.1 (h.mem_iff.1 (List.mem_cons_self (a := x) (l := l))) with e | hx
        · exact e
        · rcases List.mem_cons.1 (h.mem_iff.2 (List.mem_cons_self (a := y) (l := l'))) with e | hy
          · exact e.symm
          · have := a1 y hy
            have := a2 x hx
            omega
      subst e
      rw [same_rise b1 b2 h.cons_inv]
theorem part_strict {R : List Img} (hp : PartI R) (hl : ∀ x ∈ R, x.lo < x.hi) : R.Pairwise (fun x y => x.lo < y.lo) :=
  List.Pairwise.imp_of_mem (fun hx _ h => Nat.lt_of_lt_of_le (hl _ hx) h) hp
/-- The images of a map do not hang on the order of its places. -/
theorem MapR.same {O : List ObjV} {P P' : List Place} {R R' : List Img} (h : MapR O P R) (h' : MapR O P' R') (hp : P.Perm P') (hr : R.Perm (imgsP O P)) (hr' : R'.Perm (imgsP O P')) : R = R' :=
  same_rise (part_strict h.part h.lt) (part_strict h'.part h'.lt) (hr.trans ((imgsP_perm hp).trans hr'.symm))

theorem outK_isSome {P : List Place} {o s : Int} : (outK P o s).isSome = true ↔ ∃ p ∈ P, p.obj = o ∧ p.sect = s := by
  constructor
  · intro h
    obtain ⟨p, hp, h1, h2, _⟩ := outK_place h
    exact ⟨p, hp, h1, h2⟩
  · rintro ⟨p, hp, h1, h2⟩
    cases h : outK P o s with
    | some k => rfl
    | none =>
      have := firstK_noneP h p hp
      simp [hasP, h1, h2] at this
theorem MapR.out {O : List ObjV} {P : List Place} {R : List Img} (h : MapR O P R) {p : Place} (hp : p ∈ P) : (outK P p.obj p.sect).isSome = true ∧ outA P p.obj p.sect = p.addr := by
  have hs := outK_isSome.2 ⟨p, hp, rfl, rfl⟩
  obtain ⟨q, hq, h1, h2, h3⟩ := outK_place hs
  rw [h.one q hq p hp h1 h2] at h3
  exact ⟨hs, h3⟩

theorem goodYs_iff {Y : List Named} : goodYs Y Y.length = true ↔ (∀ y ∈ Y, goodN y.name = true) ∧ Y.Pairwise fun p q => ¬ p.name = q.name := by
  have hall : goodYs Y Y.length = true ↔ ∀ i y, Y[i]? = some y → goodY (Y.take i) y = true := by
    unfold goodYs
    rw [okTo_iff]
    constructor
    · intro h i p hp
      have := h i (List.getElem?_eq_some_iff.1 hp).1
      simpa only [hp] using this
    · intro h i hi
      have hp := List.getElem?_eq_getElem hi
      simp only [hp]
      exact h i _ hp
  rw [hall]
  constructor
  · intro h
    refine ⟨fun p hp => ?_, List.pairwise_iff_getElem.2 fun i j hi hj hij => ?_⟩
    · obtain ⟨i, hi⟩ := List.mem_iff_getElem?.1 hp
      have := h i p hi
      unfold goodY at this
      exact (Bool.and_eq_true _ _ ▸ this).1
    · intro e1
      have h4 := h j _ (List.getElem?_eq_getElem hj)
      unfold goodY at h4
      simp only [Bool.and_eq_true, Option.isNone_iff_eq_none] at h4
      have h5 := firstK_noneP h4.2 Y[i] (List.mem_of_getElem? (i := i) (by rw [List.getElem?_take, if_pos hij]; exact List.getElem?_eq_getElem hi))
      simp [e1] at h5
  · rintro ⟨h1, h2⟩ i p hp
    unfold goodY
    rw [h1 p (List.mem_of_getElem? hp), Bool.true_and]
    have : nameK (Y.take i) p.name = none := firstK_none _ 0 (by
      rw [List.all_eq_true]
      intro y hy
      obtain ⟨j, hj⟩ := List.mem_iff_getElem?.1 hy
      rw [List.getElem?_take] at hj
      split at hj
      · rename_i hji
        obtain ⟨hi', rfl⟩ := List.getElem?_eq_some_iff.1 hp
        obtain ⟨hj', rfl⟩ := List.getElem?_eq_some_iff.1 hj
        have := List.pairwise_iff_getElem.1 h2 j i hj' hi' hji
        simpa using this
      · cases hj)
    rw [this]; rfl
theorem goodYs_perm {Y Y' : List Named} (h : Y.Perm Y') : goodYs Y Y.length = goodYs Y' Y'.length := by
  rw [Bool.eq_iff_iff, goodYs_iff, goodYs_iff]
  exact and_congr ⟨fun h1 p hp => h1 p (h.mem_iff.2 hp), fun h1 p hp => h1 p (h.mem_iff.1 hp)⟩ (h.pairwise_iff fun h1 h2 => h1 h2.symm)
theorem refM_perm {O : List ObjV} {Q : List BLay} {P P' : List Place} {Y Y' : List Named} (hP : P.Perm P') (hY : Y.Perm Y') : refM O Q P Y = refM O Q P' Y' := by
  unfold refM
  rw [goodPs_perm hP, goodYs_perm hY, hP.length_eq, hY.length_eq]
end Go.Proofs.YtejicboemkpeoaaDoor
