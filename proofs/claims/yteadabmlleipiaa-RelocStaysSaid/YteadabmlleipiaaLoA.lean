/-
  The order of places and symbols changes nothing that a map tells: plain facts.
-/
import Derived.Test.YteadabmlleipiaaLnV
namespace Go.Proofs.Yteadabmlleipiaa
open Go Go.RowKit

theorem firstK_noneP {α : Type} {p : α → Bool} : ∀ {l : List α} {i : Nat}, firstK p i l = none → ∀ x ∈ l, p x = false
  | [], _, _, x, hx => by cases hx
  | y :: l, i, h, x, hx => by
    unfold firstK at h
    split at h
    · cases h
    · rename_i hy
      rcases List.mem_cons.1 hx with rfl | hx
      · simpa using hy
      · exact firstK_noneP h x hx

/-- What is true of a map that may be, and of its images. -/
structure MapR (O : List ObjV) (P : List Place) (R : List Img) : Prop where
  mem : ∀ x ∈ R, ∃ p ∈ P, x = imgP O p
  has : ∀ p ∈ P, 0 < sizK O p → imgP O p ∈ R
  lt : ∀ x ∈ R, x.lo < x.hi
  fit : ∀ p ∈ P, p.addr + sizK O p < 18446744073709551615
  one : ∀ p ∈ P, ∀ q ∈ P, p.obj = q.obj → p.sect = q.sect → p = q
  part : PartI R
  len : R.length ≤ 200
theorem atI_mem : ∀ {R : List Img} {a : Nat} {x : Img}, PartI R → (∀ y ∈ R, y.lo < y.hi) → x ∈ R → x.lo ≤ a → a < x.hi → atI R a = some x
  | [], _, _, _, _, h, _, _ => by cases h
  | y :: R, a, x, hp, hl, hx, h1, h2 => by
    rcases List.mem_cons.1 hx with rfl | hx
    · unfold atI
      rw [List.find?_cons, decide_eq_true h2]
      simp only []
      rw [if_neg (by omega)]
    · have h3 := (List.pairwise_cons.1 hp).1 x hx
      have h4 := atI_mem (List.pairwise_cons.1 hp).2 (fun z hz => hl z (List.mem_cons_of_mem _ hz)) hx h1 h2
      unfold atI at h4 ⊢
      rw [List.find?_cons, decide_eq_false (by omega)]
      exact h4

section
variable {O : List ObjV} {P : List Place} {R : List Img}
theorem MapR.le (h : MapR O P R) : ∀ x ∈ R, x.lo ≤ x.hi := fun x hx => Nat.le_of_lt (h.lt x hx)
theorem MapR.behind (h : MapR O P R) {p : Place} (hp : p ∈ P) {y : Img} (hy : atI R (p.addr + sizK O p) = some y) : ¬ (y.obj = p.obj ∧ y.sect = p.sect) := by
  rintro ⟨e1, e2⟩
  obtain ⟨h1, h2, h3⟩ := atI_lo hy
  obtain ⟨q, hq, rfl⟩ := h.mem y h3
  have := h.one q hq p hp e1 e2
  subst this
  simp only [imgP] at h2
  omega
theorem MapR.whole (h : MapR O P R) {x : Img} (hx : x ∈ R) : wholeI R x.lo x.hi = true ∧ wholeI R x.lo (x.hi + 1) = false := by
  have h1 := h.lt x hx
  unfold wholeI
  rw [atI_mem h.part h.lt hx (Nat.le_refl _) h1]
  constructor
  · simp [h1]
  · simp
theorem MapR.hi (h : MapR O P R) {x : Img} (hx : x ∈ R) : x.hi < 18446744073709551615 := by
  obtain ⟨p, hp, rfl⟩ := h.mem x hx
  exact h.fit p hp
theorem outK_place {P : List Place} {o s : Int} (h : (outK P o s).isSome = true) : ∃ p ∈ P, p.obj = o ∧ p.sect = s ∧ outA P o s = p.addr := by
  obtain ⟨k, hk⟩ := Option.isSome_iff_exists.1 h
  obtain ⟨p, hp, h2, -⟩ := firstK_some (i := 0) (p := hasP o s) (l := P) (k := k) (by rw [Nat.zero_add]; exact hk)
  simp only [hasP, Bool.and_eq_true, decide_eq_true_eq] at h2
  exact ⟨p, List.mem_of_getElem? hp, h2.1, h2.2, by unfold outA; rw [hk]; simp only [hp]⟩
end
end Go.Proofs.Yteadabmlleipiaa

namespace Go.Proofs.Yteadabmlleipiaa
open Go Go.RowKit

theorem imgsP_perm {O : List ObjV} {P P' : List Place} (h : P.Perm P') : (imgsP O P).Perm (imgsP O P') := (h.map _).filter _
theorem same_rise : ∀ {R R' : List Img}, R.Pairwise (fun x y => x.lo < y.lo) → R'.Pairwise (fun x y => x.lo < y.lo) → R.Perm R' → R = R'
  | [], R', _, _, h => h.nil_eq
  | x :: l, R', h1, h2, h => by
    cases R' with
    | nil => exact h.eq_nil
    | cons y l' =>
      obtain ⟨a1, b1⟩ := List.pairwise_cons.1 h1
      obtain ⟨a2, b2⟩ := List.pairwise_cons.1 h2
      have e : x = y := by
        rcases List.mem_cons.1 (h.mem_iff.1 (List.mem_cons_self (a := x) (l := l))) with e | hx
        · exact e
        · rcases List.mem_cons.1 (h.mem_iff.2 (List.mem_cons_self (a := y) (l := l'))) with e | hy
          · exact e.symm
          · have := a1 y hy
            have := a2 x hx
            omega
      subst e
      rw [same_rise b1 b2 h.cons_inv]
theorem part_strict {R : List Img} (hp : PartI R) (hl : ∀ x ∈ R, x.lo < x.hi) : R.Pairwise (fun x y => x.lo < y.lo) :=
  List.Pairwise.imp_of_mem (fun hx _ h => Nat.lt_of_lt_of_le (hl _ hx) h) hp
/-- The images of a map do not hang on the order of its places. -/
theorem MapR.same {O : List ObjV} {P P' : List Place} {R R' : List Img} (h : MapR O P R) (h' : MapR O P' R') (hp : P.Perm P') (hr : R.Perm (imgsP O P)) (hr' : R'.Perm (imgsP O P')) : R = R' :=
  same_rise (part_strict h.part h.lt) (part_strict h'.part h'.lt) (hr.trans ((imgsP_perm hp).trans hr'.symm))

theorem outK_isSome {P : List Place} {o s : Int} : (outK P o s).isSome = true ↔ ∃ p ∈ P, p.obj = o ∧ p.sect = s := by
  constructor
  · intro h
    obtain ⟨p, hp, h1, h2, _⟩ := outK_place h
    exact ⟨p, hp, h1, h2⟩
  · rintro ⟨p, hp, h1, h2⟩
    cases h : outK P o s with
    | some k => rfl
    | none =>
      have := firstK_noneP h p hp
      simp [hasP, h1, h2] at this
theorem MapR.out {O : List ObjV} {P : List Place} {R : List Img} (h : MapR O P R) {p : Place} (hp : p ∈ P) : (outK P p.obj p.sect).isSome = true ∧ outA P p.obj p.sect = p.addr := by
  have hs := outK_isSome.2 ⟨p, hp, rfl, rfl⟩
  obtain ⟨q, hq, h1, h2, h3⟩ := outK_place hs
  rw [h.one q hq p hp h1 h2] at h3
  exact ⟨hs, h3⟩

end Go.Proofs.Yteadabmlleipiaa
