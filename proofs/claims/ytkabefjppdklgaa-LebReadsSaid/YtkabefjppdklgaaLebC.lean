/-
  U and S of a cursor that New or Sub made, and of nobody.
-/
import Derived.Test.YtkabefjppdklgaaLebS
import Derived.Test.YtkabefjppdklgaaCurE
namespace Go.Proofs.Ytkabefjppdklgaa
open Go Go.RowKit

theorem own_lt {w : World} {base : Nat} {v : Value} {l : List UInt8} (h : Own w base v l) : ∀ k, v.ownBlock = some k → k < w.heap.size := by
  intro k hk
  rcases h.2 with ⟨rfl, _⟩ | ⟨g', cap, cur, rfl, _, hh, _⟩
  · simp [Value.ownBlock] at hk
  · have e : g' = k := by simpa [Value.ownBlock] using hk
    subst e
    rcases Nat.lt_or_ge g' w.heap.size with hlt | hge
    · exact hlt
    · rw [Array.getElem?_eq_none hge] at hh; cases hh

theorem cur_like {B g : Nat} {v : Value} {l : List UInt8} {a : Nat} (hg : g < B) (hv : ∀ k, v.ownBlock = some k → k < B) (hlen : l.length ≤ 140737488355328) (ha : a ≤ l.length) :
    CurLike B (.pointer (some ⟨g, 0, none⟩)) (l.drop a) (some g) (fun k e W => Cur W g v l (a + k) e) where
  u8 W k h hC := by
    have h' : a + k < l.length := by simp at h; omega
    refine (u8_cur hC hlen).mono ?_
    rintro r w' ⟨rfl, hC', hG⟩
    have e1 : nextGot l (a + k) 0 1 = [l[a + k]] := by
      unfold nextGot
      rw [if_pos ⟨rfl, by omega⟩, List.drop_eq_getElem_cons h']
      rfl
    have e2 : nextAt l (a + k) 0 1 = a + (k + 1) := by unfold nextAt; rw [if_pos ⟨rfl, by omega⟩]; omega
    have e3 : nextErr l (a + k) 0 1 = 0 := by unfold nextErr; rw [if_pos rfl, if_pos (by omega)]
    rw [e2, e3] at hC'
    exact ⟨by rw [e1]; simp [leNat], hC', hG⟩
  short W hC := by
    refine (u8_cur hC hlen).mono ?_
    rintro r w' ⟨rfl, hC', hG⟩
    have hl : (l.drop a).length = l.length - a := by simp
    have e1 : nextGot l (a + (l.drop a).length) 0 1 = [] := by unfold nextGot; rw [if_neg (by omega)]
    have e2 : nextAt l (a + (l.drop a).length) 0 1 = a + (l.drop a).length := by unfold nextAt; rw [if_neg (by omega)]
    have e3 : nextErr l (a + (l.drop a).length) 0 1 = 10 := by unfold nextErr; rw [if_pos rfl, if_neg (by omega)]
    rw [e2, e3] at hC'
    exact ⟨by rw [e1]; simp [leNat], hC', hG⟩
  stop W k e he hC := by
    refine (u8_cur hC hlen).mono ?_
    rintro r w' ⟨rfl, hC', hG⟩
    have e1 : nextGot l (a + k) e 1 = [] := by unfold nextGot; rw [if_neg (fun x => he x.1)]
    have e2 : nextAt l (a + k) e 1 = a + k := by unfold nextAt; rw [if_neg (fun x => he x.1)]
    have e3 : nextErr l (a + k) e 1 = e := by unfold nextErr; rw [if_neg he]
    rw [e2, e3] at hC'
    exact ⟨by rw [e1]; simp [leNat], hC', hG⟩
  err W k e hC := err_cur hC
  fail W k e f hC := fail_cur hC f
  keep W W' k e q hC hq hB := hC.grown hq (by rintro rfl; have := hB g rfl; omega) (by
    rcases hvb : v.ownBlock with _ | x
    · exact .inl rfl
    · refine .inr ?_
      rintro rfl
      have := hB x rfl
      have := hv x hvb
      omega)
  row_lt x e := by cases e; exact hg
  row_cells W k e x o hC hx ho := by
    cases hx
    have := hC.1
    unfold Box at this
    rw [this] at ho
    cases ho
    rfl

theorem fail_nil (f : Int) (w : World) : Calls Try.prog 55 #[.pointer none, .int .i64 f] w fun r w' => r = .returned (.tuple #[]) ∧ w = w' := by
  have hE := fun W => err_nob (p := none) (w := W) (.inl rfl)
  go_enter Try.func55, Try.ntmps55
  go_wp2_with (go_at_call 20; refine (hE _).mono ?_; rintro r w' ⟨rfl, rfl⟩)
  go_end0
  exact ⟨rfl, rfl⟩

theorem nil_like (B : Nat) : CurLike B (.pointer none) [] none (fun k e _ => k = 0 ∧ e = 1) where
  u8 W k h _ := by simp at h
  short W hC := by simp at hC
  stop W k e he hC := by
    refine (u8_nob (p := none) (w := W) (.inl rfl)).mono ?_
    rintro r w' ⟨rfl, rfl⟩
    exact ⟨rfl, hC, only_refl _ _⟩
  err W k e hC := by
    refine (err_nob (p := none) (w := W) (.inl rfl)).mono ?_
    rintro r w' ⟨rfl, rfl⟩
    exact ⟨by rw [hC.2], rfl⟩
  fail W k e f hC := by
    refine (fail_nil f W).mono ?_
    rintro r w' ⟨rfl, rfl⟩
    exact ⟨rfl, ⟨hC.1, by rw [hC.2]; rfl⟩, only_refl _ _⟩
  keep W W' k e q hC _ _ := hC
  row_lt x e := by cases e
  row_cells W k e x o _ hx _ := by cases hx

theorem u_cur {w : World} {g : Nat} {v : Value} {l : List UInt8} {a : Nat} {e : Int} (h : Cur w g v l a e) (hlen : l.length ≤ 140737488355328) :
    Calls Try.prog 38 #[.pointer (some ⟨g, 0, none⟩)] w fun x w' => x = .returned (.int .u64 ((uOf (l.drop a) e).1 : Int)) ∧ Cur w' g v l (a + (uOf (l.drop a) e).2.1) (uOf (l.drop a) e).2.2 ∧ w.grownBy w' (some g) :=
  u_any (cur_like (B := w.heap.size) h.1.lt (own_lt h.2.1) hlen h.2.2) (Nat.le_refl _) (CS := fun k e W => Cur W g v l (a + k) e) h

theorem s_cur {w : World} {g : Nat} {v : Value} {l : List UInt8} {a : Nat} {e : Int} (h : Cur w g v l a e) (hlen : l.length ≤ 140737488355328) :
    Calls Try.prog 40 #[.pointer (some ⟨g, 0, none⟩)] w fun x w' => x = .returned (.int .i64 (sOf (l.drop a) e).1) ∧ Cur w' g v l (a + (sOf (l.drop a) e).2.1) (sOf (l.drop a) e).2.2 ∧ w.grownBy w' (some g) :=
  s_any (cur_like (B := w.heap.size) h.1.lt (own_lt h.2.1) hlen h.2.2) (Nat.le_refl _) (CS := fun k e W => Cur W g v l (a + k) e) h

theorem u_nil (w : World) : Calls Try.prog 38 #[.pointer none] w fun x w' => x = .returned (.int .u64 0) ∧ w.grownBy w' none :=
  (u_any (nil_like w.heap.size) (Nat.le_refl _) (e := 1) (w := w) ⟨rfl, rfl⟩).mono fun _ _ h => ⟨h.1, h.2.2⟩

end Go.Proofs.Ytkabefjppdklgaa
