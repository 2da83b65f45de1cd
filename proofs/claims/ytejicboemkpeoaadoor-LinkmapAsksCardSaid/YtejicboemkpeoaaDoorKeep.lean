/-
  What 'append' does to the row that it was handed: within its capacity the same block, from the same place on; else a new block, and nothing that was there turns. So the row that was handed in is still there, whatever is put behind it. No program is named here.
-/
import Derived.Test.YtejicboemkpeoaaDoorPut
import Derived.Laws.OwnMore
namespace Go.Proofs.YtejicboemkpeoaaDoor
open Go Go.RowKit

/-- Of a row of n items v, one of n' that was made behind it: in the same memory, or in new memory. -/
def After (w w' : World) (v v' : Value) (n n' : Nat) : Prop :=
  (∃ g c, v = .slice (some ⟨g, 0, none⟩) n c ∧ v' = .slice (some ⟨g, 0, none⟩) n' c) ∨ (w.grownBy w' none ∧ ∀ x, v'.ownBlock = some x → w.heap.size ≤ x)

section
variable {P : Program}
end

/-- The front of a row of the call's own, in the same memory. -/
theorem own_front {w : World} {base g c : Nat} {l l' : List UInt8} (h : Own w base (.slice (some ⟨g, 0, none⟩) l'.length c) l') (hp : l <+: l') : Own w base (.slice (some ⟨g, 0, none⟩) l.length c) l := by
  refine ⟨by simp, .inr ?_⟩
  rcases h.2 with ⟨h', _⟩ | ⟨g', cap', cur, h', hb, hg, hnc, hcm, hcs, htake⟩
  · simp at h'
  · simp only [Value.slice.injEq, Option.some.injEq, Addr.mk.injEq, and_true, true_and] at h'
    obtain ⟨rfl, rfl⟩ := h'
    refine ⟨g, c, cur, rfl, hb, hg, Nat.le_trans hp.length_le hnc, hcm, hcs, ?_⟩
    obtain ⟨t, rfl⟩ := hp
    have h1 : (cur.toList.take ((l ++ t).length * 1)).take (l.length * 1) = (u8s (l ++ t)).take (l.length * 1) := by rw [htake]
    rw [List.take_take, Nat.min_eq_left (by simp)] at h1
    rw [h1, u8s_append, Nat.mul_one]
    exact List.take_left' (by simp)

/-- Bytes that were laid behind a row of the call's own, which is still there. -/
def Onto (w w' : World) (base : Nat) (v v' : Value) (l l' : List UInt8) : Prop :=
  Laid w w' base v v' l' ∧ Own w' base v l ∧ l <+: l' ∧ ((∃ g c, v = .slice (some ⟨g, 0, none⟩) l.length c ∧ v' = .slice (some ⟨g, 0, none⟩) l'.length c) ∨ ∀ x, v'.ownBlock = some x → w.heap.size ≤ x)

theorem Onto.refl {w : World} {base : Nat} {v : Value} {l : List UInt8} (h : Own w base v l) : Onto w w base v v l l := by
  refine ⟨Laid.refl h, h, List.prefix_refl _, ?_⟩
  rcases h.2 with ⟨rfl, _⟩ | ⟨g, cap, cur, rfl, _⟩
  · exact .inr fun x hx => by simp [Value.ownBlock] at hx
  · exact .inl ⟨g, cap, rfl, rfl⟩

theorem Onto.step {w w1 w0 w2 : World} {base : Nat} {v v1 v2 : Value} {l l1 m : List UInt8} (hv : ∀ k, v.ownBlock = some k → k < w.heap.size) (h : Onto w w1 base v v1 l l1) (hb : Below w1.heap.size w1 w0) (ho : Own w2 base v2 (l1 ++ m)) (hg : w0.grownBy w2 v1.ownBlock) (ha : v2.ownBlock = v1.ownBlock ∨ v2.ownBlock = some w0.heap.size)
    (hD : After w0 w2 v1 v2 l1.length (l1 ++ m).length) : Onto w w2 base v v2 l (l1 ++ m) := by
  have hp : l <+: l1 ++ m := h.2.2.1.trans (List.prefix_append _ _)
  have hown0 : Own w0 base v l := h.2.1.kept (only_below hb none) (by rcases v.ownBlock with _ | k <;> simp)
  have hw0 : w.heap.size ≤ w0.heap.size := Nat.le_trans h.1.2.1.size hb.size
  refine ⟨h.1.trans (Laid.of_append hb ho hg ha), ?_, hp, ?_⟩
  · rcases hD with ⟨g, c, e1, e2⟩ | ⟨hn, hf⟩
    · rcases h.2.2.2 with ⟨g', c', e3, e4⟩ | hfr
      · subst e3
        rw [e1] at e4
        simp only [Value.slice.injEq, Option.some.injEq, Addr.mk.injEq, and_true, true_and] at e4
        obtain ⟨rfl, rfl⟩ := e4
        subst e2
        exact own_front ho hp
      · refine hown0.kept hg ?_
        rcases hvb : v.ownBlock with _ | k
        · exact .inl rfl
        · refine .inr fun e => ?_
          have h1 := hv k hvb
          have h2 := hfr k e.symm
          omega
    · exact hown0.kept hn (by rcases v.ownBlock with _ | k <;> simp)
  · rcases hD with ⟨g, c, e1, e2⟩ | ⟨hn, hf⟩
    · rcases h.2.2.2 with ⟨g', c', e3, e4⟩ | hfr
      · rw [e1] at e4
        simp only [Value.slice.injEq, Option.some.injEq, Addr.mk.injEq, and_true, true_and] at e4
        obtain ⟨rfl, rfl⟩ := e4
        exact .inl ⟨g, c, e3, e2⟩
      · refine .inr fun x hx => hfr x ?_
        rw [e2] at hx
        rw [e1]
        exact hx
    · exact .inr fun x hx => Nat.le_trans hw0 (hf x hx)

end Go.Proofs.YtejicboemkpeoaaDoor
