/-
  What a relocation makes when a place is moved: plain facts.
-/
import Derived.Test.YtidegcibmdincaaLpA
import Derived.Test.YtidegcibmdincaaLoA
namespace Go.Proofs.Ytidegcibmdincaa
open Go Go.RowKit

theorem add64_turn (a b v t : Nat) : add64 (add64 (add64 a b) v) t = add64 (add64 (add64 a v) t) b := by
  unfold add64; omega

section
variable {P : List Place} {i by_ : Nat} {p : Place}
/-- A map's places with one moved. -/
def movedP (P : List Place) (i : Nat) (p : Place) (b : Nat) : List Place := P.set i ⟨p.obj, p.sect, add64 p.addr b⟩
theorem moved_pair (hp : P[i]? = some p) (h : P.Pairwise fun p q => ¬ (p.obj = q.obj ∧ p.sect = q.sect)) : (movedP P i p by_).Pairwise fun p q => ¬ (p.obj = q.obj ∧ p.sect = q.sect) := by
  rw [List.pairwise_iff_getElem] at h ⊢
  intro j k hj hk hjk
  unfold movedP at hj hk ⊢
  simp only [List.length_set] at hj hk
  obtain ⟨hi, hp⟩ := List.getElem?_eq_some_iff.1 hp
  have := h j k hj hk hjk
  simp only [List.getElem_set]
  split
  · rename_i e
    subst e
    split
    · omega
    · rw [hp] at this; exact this
  · split
    · rename_i e
      subst e
      rw [hp] at this; exact this
    · exact this
theorem pair_place (h : P.Pairwise fun p q => ¬ (p.obj = q.obj ∧ p.sect = q.sect)) {x y : Place} (hx : x ∈ P) (hy : y ∈ P) (e1 : x.obj = y.obj) (e2 : x.sect = y.sect) : x = y := by
  obtain ⟨j, hj, rfl⟩ := List.getElem_of_mem hx
  obtain ⟨k, hk, rfl⟩ := List.getElem_of_mem hy
  rcases Nat.lt_trichotomy j k with h1 | h1 | h1
  · exact absurd ⟨e1, e2⟩ (List.pairwise_iff_getElem.1 h j k hj hk h1)
  · subst h1; rfl
  · exact absurd ⟨e1.symm, e2.symm⟩ (List.pairwise_iff_getElem.1 h k j hk hj h1)
theorem outA_one (h : P.Pairwise fun p q => ¬ (p.obj = q.obj ∧ p.sect = q.sect)) {x : Place} (hx : x ∈ P) : (outK P x.obj x.sect).isSome = true ∧ outA P x.obj x.sect = x.addr := by
  have h1 : (outK P x.obj x.sect).isSome = true := outK_isSome.2 ⟨x, hx, rfl, rfl⟩
  obtain ⟨y, hy, e1, e2, e3⟩ := outK_place h1
  rw [pair_place h hy hx e1 e2] at e3
  exact ⟨h1, e3⟩
theorem outA_no {o s : Int} (h : (outK P o s).isSome = false) : outA P o s = 0 := by
  unfold outA
  cases hk : outK P o s with
  | none => rfl
  | some k => rw [hk] at h; cases h
theorem mem_moved (hp : P[i]? = some p) {x : Place} (hx : x ∈ P) (hn : ¬ (x.obj = p.obj ∧ x.sect = p.sect)) : x ∈ movedP P i p by_ := by
  obtain ⟨j, hj, rfl⟩ := List.getElem_of_mem hx
  obtain ⟨hi, hp⟩ := List.getElem?_eq_some_iff.1 hp
  have hji : i ≠ j := fun e => hn (by subst e; rw [hp]; exact ⟨rfl, rfl⟩)
  unfold movedP
  rw [List.mem_iff_getElem]
  exact ⟨j, by simpa using hj, by rw [List.getElem_set_ne hji]⟩
theorem moved_mem (hp : P[i]? = some p) : (⟨p.obj, p.sect, add64 p.addr by_⟩ : Place) ∈ movedP P i p by_ := by
  obtain ⟨hi, hp⟩ := List.getElem?_eq_some_iff.1 hp
  exact List.mem_set hi _
/-- The moved place is found where it is now, all others as before. -/
theorem moved_out (hp : P[i]? = some p) (h : P.Pairwise fun p q => ¬ (p.obj = q.obj ∧ p.sect = q.sect)) (o s : Int) :
    (outK (movedP P i p by_) o s).isSome = (outK P o s).isSome ∧ outA (movedP P i p by_) o s = if p.obj = o ∧ p.sect = s then add64 (outA P o s) by_ else outA P o s := by
  have hpm := List.mem_of_getElem? hp
  have h' := moved_pair (by_ := by_) hp h
  by_cases e : p.obj = o ∧ p.sect = s
  · obtain ⟨rfl, rfl⟩ := e
    have h1 := outA_one h hpm
    have h2 := outA_one h' (moved_mem (by_ := by_) hp)
    simp only at h2
    rw [if_pos ⟨rfl, rfl⟩, h1.1, h2.1, h1.2, h2.2]
    exact ⟨rfl, rfl⟩
  · rw [if_neg e]
    cases hs : (outK P o s).isSome with
    | true =>
      obtain ⟨x, hx, rfl, rfl⟩ := outK_isSome.1 hs
      have h1 := outA_one h hx
      have h2 := outA_one h' (mem_moved (by_ := by_) hp hx (fun c => e ⟨c.1.symm, c.2.symm⟩))
      rw [h1.2, h2.1, h2.2]
      exact ⟨rfl, rfl⟩
    | false =>
      have hno : (outK (movedP P i p by_) o s).isSome = false := by
        rw [Bool.eq_false_iff]
        intro hc
        obtain ⟨x, hx, e1, e2⟩ := outK_isSome.1 hc
        have : (outK P o s).isSome = true := by
          unfold movedP at hx
          obtain ⟨j, hj, hx⟩ := List.mem_iff_getElem.1 hx
          rw [List.getElem_set] at hx
          split at hx
          · subst hx; exact absurd ⟨e1, e2⟩ e
          · rw [outK_isSome]
            exact ⟨x, by rw [← hx]; exact List.getElem_mem _, e1, e2⟩
        rw [hs] at this; cases this
      rw [hno, outA_no hno, outA_no hs]
      exact ⟨rfl, rfl⟩

/-- What a relocation makes then. -/
theorem moved_val {O : List ObjV} {Y : List Named} (hg : goodPs O [] P P.length = true) (hp : P[i]? = some p) {k : Nat} {o : ObjV} (ho : O[k]? = some o) (r : Rel) :
    (valR o (k : Int) (movedP P i p by_) Y r).2 = (valR o (k : Int) P Y r).2 ∧
    ∀ s, o.Y[r.sym.toNat]? = some s → 0 ≤ r.sym → (valR o (k : Int) P Y r).2 = 0 →
      (valR o (k : Int) (movedP P i p by_) Y r).1 = if 0 < s.sect ∧ s.sect < o.L.length ∧ s.sect ≠ 65521 ∧ p.obj = (k : Int) ∧ p.sect = s.sect then add64 (valR o (k : Int) P Y r).1 by_ else (valR o (k : Int) P Y r).1 := by
  obtain ⟨hgood, hpair⟩ := goodPs_iff.1 hg
  have hM := moved_out (by_ := by_) hp hpair
  have hpg := hgood p (List.mem_of_getElem? hp)
  unfold valR
  by_cases h1 : r.sym < 0 ∨ (o.Y.length : Int) ≤ r.sym
  · rw [if_pos h1, if_pos h1]
    exact ⟨rfl, fun s hs h0 h => absurd h (by decide)⟩
  · rw [if_neg h1, if_neg h1]
    cases hs : o.Y[r.sym.toNat]? with
    | none => exact ⟨rfl, fun s hs => by cases hs⟩
    | some s =>
      simp only
      by_cases h2 : s.sect ≠ 65521 ∧ standsB o.L.length s.sect = false
      · rw [if_pos h2, if_pos h2]
        exact ⟨rfl, fun s hs h0 h => absurd h (by decide)⟩
      · rw [if_neg h2, if_neg h2]
        by_cases c1 : s.sect = 65521
        · have ea : ∀ P, addrS o (k : Int) P Y s = (s.value, true) := fun P => by unfold addrS; rw [if_pos c1]
          rw [ea, ea]
          refine ⟨rfl, fun s' hs' _ _ => ?_⟩
          injection hs' with hs'
          subst hs'
          rw [if_neg (c := 0 < s.sect ∧ s.sect < (o.L.length : Int) ∧ s.sect ≠ 65521 ∧ p.obj = (k : Int) ∧ p.sect = s.sect) (fun c => c.2.2.1 c1)]
        · have hst : standsB o.L.length s.sect = true := by
            cases hb : standsB o.L.length s.sect with
            | true => rfl
            | false => exact absurd ⟨c1, hb⟩ h2
          unfold standsB at hst
          rw [Bool.and_eq_true, decide_eq_true_eq, decide_eq_true_eq] at hst
          by_cases c2 : s.sect = 0
          · have ea : ∀ P, addrS o (k : Int) P Y s = (if s.name = [] then (0, true) else (nameA Y s.name, decide (nameA Y s.name ≠ tombN))) := fun P => by unfold addrS; rw [if_neg c1, if_pos c2]
            rw [ea, ea]
            refine ⟨by split <;> rfl, fun s' hs' _ _ => ?_⟩
            injection hs' with hs'
            subst hs'
            rw [if_neg (c := 0 < s.sect ∧ s.sect < (o.L.length : Int) ∧ s.sect ≠ 65521 ∧ p.obj = (k : Int) ∧ p.sect = s.sect) (fun c => by omega)]
          · obtain ⟨x, hx⟩ : ∃ x, o.L[s.sect.toNat]? = some x := ⟨_, List.getElem?_eq_getElem (by omega)⟩
            have ea : ∀ P, addrS o (k : Int) P Y s = if memB x.s.flags = true then (add64 (outA P (k : Int) s.sect) s.value, (outK P (k : Int) s.sect).isSome) else (s.value, true) := fun P => by unfold addrS; rw [if_neg c1, if_neg c2, hx]
            rw [ea, ea]
            have hmem : p.obj = (k : Int) ∧ p.sect = s.sect → memB x.s.flags = true := fun e => by
              unfold goodP at hpg
              have hk : secK O p.obj p.sect = some x := by
                unfold secK
                rw [if_pos ⟨by omega, by omega⟩, e.1, e.2]
                simp [ho, hx]
              rw [hk] at hpg
              simp only [Bool.and_eq_true] at hpg
              exact hpg.2.1
            by_cases hb : memB x.s.flags = true
            · rw [if_pos hb, if_pos hb]
              obtain ⟨m1, m2⟩ := hM (k : Int) s.sect
              simp only
              rw [m1, m2]
              cases hso : (outK P (k : Int) s.sect).isSome with
              | false =>
                simp only [if_true]
                refine ⟨trivial, fun s' hs' _ _ => ?_⟩
                injection hs' with hs'
                subst hs'
                rw [if_neg (c := 0 < s.sect ∧ s.sect < (o.L.length : Int) ∧ s.sect ≠ 65521 ∧ p.obj = (k : Int) ∧ p.sect = s.sect) ?_]
                rintro ⟨_, _, _, e1, e2⟩
                have := (outA_one hpair (List.mem_of_getElem? hp)).1
                rw [e1, e2, hso] at this
                cases this
              | true =>
                simp only [Bool.true_eq_false, if_false]
                refine ⟨trivial, fun s' hs' _ _ => ?_⟩
                injection hs' with hs'
                subst hs'
                by_cases e : p.obj = (k : Int) ∧ p.sect = s.sect
                · rw [if_pos e, if_pos ⟨by omega, by omega, c1, e.1, e.2⟩]
                  exact add64_turn _ _ _ _
                · rw [if_neg e, if_neg (fun c => e ⟨c.2.2.2.1, c.2.2.2.2⟩)]
            · rw [if_neg hb, if_neg hb]
              refine ⟨rfl, fun s' hs' _ _ => ?_⟩
              injection hs' with hs'
              subst hs'
              rw [if_neg (c := 0 < s.sect ∧ s.sect < (o.L.length : Int) ∧ s.sect ≠ 65521 ∧ p.obj = (k : Int) ∧ p.sect = s.sect) (fun c => hb (hmem ⟨c.2.2.2.1, c.2.2.2.2⟩))]
end

end Go.Proofs.Ytidegcibmdincaa
