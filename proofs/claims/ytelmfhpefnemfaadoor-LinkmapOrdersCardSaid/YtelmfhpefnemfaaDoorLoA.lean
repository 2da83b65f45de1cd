/-
  The order of places and symbols changes nothing that a map tells: plain facts.
-/
import Derived.Test.YtelmfhpefnemfaaDoorLnW
import Derived.Test.YtelmfhpefnemfaaDoorGpT
import Derived.Test.YtelmfhpefnemfaaDoorLnY
namespace Go.Proofs.YtelmfhpefnemfaaDoor
open Go Go.RowKit

/-- What New tells, by its value and its refusal. -/
def NewIs (w' : World) (B : Nat) (O : List ObjV) (P : List Place) (Y : List Named) (v : Value) (e : Int) : Prop :=
  (v = .pointer none ∧ (e = 30 ∨ e = 31)) ∨ (e = 0 ∧ ∃ g, v = .pointer (some ⟨g, 0, none⟩) ∧ LinkG w' B g O P Y ∧ refM O [] P Y = false)
end Go.Proofs.YtelmfhpefnemfaaDoor

namespace Go.Proofs.YtelmfhpefnemfaaDoor
open Go Go.RowKit

theorem okTo_iff {ok : Nat → Bool} {n : Nat} : okTo ok n = true ↔ ∀ i, i < n → ok i = true := by
  unfold okTo
  rw [List.all_eq_true]
  exact ⟨fun h i hi => h i (List.mem_range.2 hi), fun h i hi => h i (List.mem_range.1 hi)⟩
theorem goodPs_iff {O : List ObjV} {Q : List BLay} {P : List Place} : goodPs O Q P P.length = true ↔ (∀ p ∈ P, goodP O Q [] p = true) ∧ P.Pairwise fun p q => ¬ (p.obj = q.obj ∧ p.sect = q.sect) := by
  have hsplit : ∀ (L : List Place) (p : Place), goodP O Q L p = (goodP O Q [] p && (outK L p.obj p.sect).isNone) := fun L p => by
    unfold goodP
    cases secK O p.obj p.sect with
    | none => rfl
    | some x =>
      show (_ && (_ && (_ && _))) = ((_ && (_ && ((outK [] p.obj p.sect).isNone && _))) && _)
      rw [show (outK [] p.obj p.sect).isNone = true from rfl]
      generalize outB Q p.obj p.sect = a
      generalize memB x.s.flags = b
      generalize (outK L p.obj p.sect).isNone = c
      generalize decide (p.addr < 18446744073709551615 - x.s.data.length) = d
      cases a <;> cases b <;> cases c <;> cases d <;> rfl
  have hall : goodPs O Q P P.length = true ↔ ∀ i p, P[i]? = some p → goodP O Q (P.take i) p = true := by
    unfold goodPs
    rw [okTo_iff]
    constructor
    · intro h i p hp
      have := h i (List.getElem?_eq_some_iff.1 hp).1
      simpa only [hp] using this
    · intro h i hi
      have hp := List.getElem?_eq_getElem hi
      simp only [hp]
      exact h i _ hp
  rw [hall]
  constructor
  · intro h
    refine ⟨fun p hp => ?_, List.pairwise_iff_getElem.2 fun i j hi hj hij => ?_⟩
    · obtain ⟨i, hi⟩ := List.mem_iff_getElem?.1 hp
      have := h i p hi
      rw [hsplit] at this
      exact (Bool.and_eq_true _ _ ▸ this).1
    · rintro ⟨e1, e2⟩
      have h4 := (goodP_parts (h j _ (List.getElem?_eq_getElem hj))).1
      have h5 := firstK_noneP h4 P[i] (List.mem_of_getElem? (i := i) (by rw [List.getElem?_take, if_pos hij]; exact List.getElem?_eq_getElem hi))
      simp [hasP, e1, e2] at h5
  · rintro ⟨h1, h2⟩ i p hp
    rw [hsplit, h1 p (List.mem_of_getElem? hp), Bool.true_and]
    have : outK (P.take i) p.obj p.sect = none := firstK_none _ 0 (by
      rw [List.all_eq_true]
      intro y hy
      obtain ⟨j, hj⟩ := List.mem_iff_getElem?.1 hy
      rw [List.getElem?_take] at hj
      split at hj
      · rename_i hji
        obtain ⟨hi', rfl⟩ := List.getElem?_eq_some_iff.1 hp
        obtain ⟨hj', rfl⟩ := List.getElem?_eq_some_iff.1 hj
        have := List.pairwise_iff_getElem.1 h2 j i hj' hi' hji
        simp [hasP]
        omega
      · cases hj)
    rw [this]; rfl
theorem goodPs_perm {O : List ObjV} {Q : List BLay} {P P' : List Place} (h : P.Perm P') : goodPs O Q P P.length = goodPs O Q P' P'.length := by
  rw [Bool.eq_iff_iff, goodPs_iff, goodPs_iff]
  refine and_congr ⟨fun h1 p hp => h1 p (h.mem_iff.2 hp), fun h1 p hp => h1 p (h.mem_iff.1 hp)⟩ (h.pairwise_iff fun h1 h2 => h1 ⟨h2.1.symm, h2.2.symm⟩)

theorem imgsP_perm {O : List ObjV} {P P' : List Place} (h : P.Perm P') : (imgsP O P).Perm (imgsP O P') := (h.map _).filter _
theorem same_rise : ∀ {R R' : List Img}, R.Pairwise (fun x y => x.lo < y.lo) → R'.Pairwise (fun x y => x.lo < y.lo) → R.Perm R' → R = R'
  | [], R', _, _, h => h.nil_eq
  | x :: l, R', h1, h2, h => by
    cases R' with
    | nil => exact h.eq_nil
    | cons y l' =>
      obtain ⟨a1, b1⟩ := List.pairwise_cons.1 h1
      obtain ⟨a2, b2⟩ := List.pairwise_cons.1 h2
      have e : x = y := by
        rcases List.mem_cons.1 (h.mem_iff.1 (List.mem_cons_self (a := x) (l := l))) with e | hx
        · exact e
        · rcases List.mem_cons.1 (h.mem_iff.2 (List.mem_cons_self (a := y) (l := l'))) with e | hy
          · exact e.symm
          · have := a1 y hy
            have := a2 x hx
            omega
      subst e
      rw [same_rise b1 b2 h.cons_inv]
theorem part_strict {R : List Img} (hp : PartI R) (hl : ∀ x ∈ R, x.lo < x.hi) : R.Pairwise (fun x y => x.lo < y.lo) :=
  List.Pairwise.imp_of_mem (fun hx _ h => Nat.lt_of_lt_of_le (hl _ hx) h) hp
/-- The images of a map do not hang on the order of its places. -/
theorem MapR.same {O : List ObjV} {P P' : List Place} {R R' : List Img} (h : MapR O P R) (h' : MapR O P' R') (hp : P.Perm P') (hr : R.Perm (imgsP O P)) (hr' : R'.Perm (imgsP O P')) : R = R' :=
  same_rise (part_strict h.part h.lt) (part_strict h'.part h'.lt) (hr.trans ((imgsP_perm hp).trans hr'.symm))

theorem outK_isSome {P : List Place} {o s : Int} : (outK P o s).isSome = true ↔ ∃ p ∈ P, p.obj = o ∧ p.sect = s := by
  constructor
  · intro h
    obtain ⟨p, hp, h1, h2, _⟩ := outK_place h
    exact ⟨p, hp, h1, h2⟩
  · rintro ⟨p, hp, h1, h2⟩
    cases h : outK P o s with
    | some k => rfl
    | none =>
      have := firstK_noneP h p hp
      simp [hasP, h1, h2] at this
theorem MapR.out {O : List ObjV} {P : List Place} {R : List Img} (h : MapR O P R) {p : Place} (hp : p ∈ P) : (outK P p.obj p.sect).isSome = true ∧ outA P p.obj p.sect = p.addr := by
  have hs := outK_isSome.2 ⟨p, hp, rfl, rfl⟩
  obtain ⟨q, hq, h1, h2, h3⟩ := outK_place hs
  rw [h.one q hq p hp h1 h2] at h3
  exact ⟨hs, h3⟩

theorem goodYs_iff {Y : List Named} : goodYs Y Y.length = true ↔ (∀ y ∈ Y, goodN y.name = true) ∧ Y.Pairwise fun p q => ¬ p.name = q.name := by
  have hall : goodYs Y Y.length = true ↔ ∀ i y, Y[i]? = some y → goodY (Y.take i) y = true := by
    unfold goodYs
    rw [okTo_iff]
    constructor
    · intro h i p hp
      have := h i (List.getElem?_eq_some_iff.1 hp).1
      simpa only [hp] using this
    · intro h i hi
      have hp := List.getElem?_eq_getElem hi
      simp only [hp]
      exact h i _ hp
  rw [hall]
  constructor
  · intro h
    refine ⟨fun p hp => ?_, List.pairwise_iff_getElem.2 fun i j hi hj hij => ?_⟩
    · obtain ⟨i, hi⟩ := List.mem_iff_getElem?.1 hp
      have := h i p hi
      unfold goodY at this
      exact (Bool.and_eq_true _ _ ▸ this).1
    · intro e1
      have h4 := h j _ (List.getElem?_eq_getElem hj)
      unfold goodY at h4
      simp only [Bool.and_eq_true, Option.isNone_iff_eq_none] at h4
      have h5 := firstK_noneP h4.2 Y[i] (List.mem_of_getElem? (i := i) (by rw [List.getElem?_take, if_pos hij]; exact List.getElem?_eq_getElem hi))
      simp [e1] at h5
  · rintro ⟨h1, h2⟩ i p hp
    unfold goodY
    rw [h1 p (List.mem_of_getElem? hp), Bool.true_and]
    have : nameK (Y.take i) p.name = none := firstK_none _ 0 (by
      rw [List.all_eq_true]
      intro y hy
      obtain ⟨j, hj⟩ := List.mem_iff_getElem?.1 hy
      rw [List.getElem?_take] at hj
      split at hj
      · rename_i hji
        obtain ⟨hi', rfl⟩ := List.getElem?_eq_some_iff.1 hp
        obtain ⟨hj', rfl⟩ := List.getElem?_eq_some_iff.1 hj
        have := List.pairwise_iff_getElem.1 h2 j i hj' hi' hji
        simpa using this
      · cases hj)
    rw [this]; rfl
theorem goodYs_perm {Y Y' : List Named} (h : Y.Perm Y') : goodYs Y Y.length = goodYs Y' Y'.length := by
  rw [Bool.eq_iff_iff, goodYs_iff, goodYs_iff]
  exact and_congr ⟨fun h1 p hp => h1 p (h.mem_iff.2 hp), fun h1 p hp => h1 p (h.mem_iff.1 hp)⟩ (h.pairwise_iff fun h1 h2 => h1 h2.symm)
theorem refM_perm {O : List ObjV} {Q : List BLay} {P P' : List Place} {Y Y' : List Named} (hP : P.Perm P') (hY : Y.Perm Y') : refM O Q P Y = refM O Q P' Y' := by
  unfold refM
  rw [goodPs_perm hP, goodYs_perm hY, hP.length_eq, hY.length_eq]
theorem nameA_val {Y : List Named} {n : List UInt8} : ((∀ y ∈ Y, ¬ y.name = n) ∧ nameA Y n = 18446744073709551615) ∨ ∃ y ∈ Y, y.name = n ∧ nameA Y n = y.addr := by
  cases h : nameK Y n with
  | none =>
    refine .inl ⟨fun y hy e => ?_, by unfold nameA; rw [h]⟩
    have := firstK_noneP h y hy
    simp [e] at this
  | some k =>
    obtain ⟨y, hy, h2, -⟩ := firstK_some (i := 0) (k := k) (l := Y) (p := fun s : Named => decide (s.name = n)) (by rw [Nat.zero_add]; exact h)
    exact .inr ⟨y, List.mem_of_getElem? hy, by simpa using h2, by unfold nameA; rw [h]; simp only [hy]⟩
theorem pair_one {Y : List Named} (h : Y.Pairwise fun p q => ¬ p.name = q.name) {y z : Named} (hy : y ∈ Y) (hz : z ∈ Y) (e : y.name = z.name) : y = z := by
  obtain ⟨i, hi⟩ := List.mem_iff_getElem?.1 hy
  obtain ⟨j, hj⟩ := List.mem_iff_getElem?.1 hz
  obtain ⟨hi', rfl⟩ := List.getElem?_eq_some_iff.1 hi
  obtain ⟨hj', rfl⟩ := List.getElem?_eq_some_iff.1 hj
  rcases Nat.lt_trichotomy i j with hij | hij | hij
  · exact absurd e (List.pairwise_iff_getElem.1 h i j hi' hj' hij)
  · subst hij; rfl
  · exact absurd e.symm (List.pairwise_iff_getElem.1 h j i hj' hi' hij)
/-- What a name is does not hang on the order of the symbols. -/
theorem nameA_perm {O : List ObjV} {Q : List BLay} {P : List Place} {Y Y' : List Named} (h : refM O Q P Y = false) (hY : Y.Perm Y') (n : List UInt8) : nameA Y n = nameA Y' n := by
  have hg : goodYs Y Y.length = true := by
    unfold refM at h
    simp only [Bool.or_eq_false_iff, Bool.not_eq_false'] at h
    exact h.2.2
  have hp := (goodYs_iff.1 hg).2
  rcases nameA_val (Y := Y) (n := n) with ⟨h1, e1⟩ | ⟨y, hy, h1, e1⟩
  · rcases nameA_val (Y := Y') (n := n) with ⟨h2, e2⟩ | ⟨z, hz, h2, e2⟩
    · rw [e1, e2]
    · exact absurd h2 (h1 z (hY.mem_iff.2 hz))
  · rcases nameA_val (Y := Y') (n := n) with ⟨h2, e2⟩ | ⟨z, hz, h2, e2⟩
    · exact absurd h1 (h2 y (hY.mem_iff.1 hy))
    · rw [e1, e2, pair_one hp hy (hY.mem_iff.2 hz) (h1.trans h2.symm)]
theorem rot_perm {α : Type} (l : List α) (k : Nat) : l.Perm (l.drop k ++ l.take k) := by
  have h := (List.perm_append_comm (l₁ := l.take k) (l₂ := l.drop k))
  rwa [List.take_append_drop] at h
end Go.Proofs.YtelmfhpefnemfaaDoor
