/-
  What 'append' does to the row that it was handed: within its capacity the same block, from the same place on; else a new block, and nothing that was there turns. So the row that was handed in is still there, whatever is put behind it. No program is named here.
-/
import Derived.Test.YtldmjnbmjfnfeaaGreatDoorPut
import Derived.Laws.OwnMore
namespace Go.Proofs.YtldmjnbmjfnfeaaGreatDoor
open Go Go.RowKit

/-- Of a row of n items v, one of n' that was made behind it: in the same memory, or in new memory. -/
def After (w w' : World) (v v' : Value) (n n' : Nat) : Prop :=
  (∃ g c, v = .slice (some ⟨g, 0, none⟩) n c ∧ v' = .slice (some ⟨g, 0, none⟩) n' c) ∨ (w.grownBy w' none ∧ ∀ x, v'.ownBlock = some x → w.heap.size ≤ x)

section
variable {P : Program}
theorem run_append_keep (w : World) (base : Nat) (t ty : TypeId) (i : TypeInfo) (ht : P.underlying t = some (.slice 5)) (hi : P.info? 5 = some i) (hz : i.zero = some (.int .u8 0))
    (hs : i.size = 1) (hy : i.bytes = 1) (v : Value) (l : List UInt8) (hown : Own w base v l) (B : Nat) (A : Option Addr) (c : Nat) (m : List UInt8) (hr : Rd w B A m)
    (hl : l.length + m.length ≤ 140737488355328) (hbase : base ≤ w.heap.size) :
    ∃ v' w', (Builtin.append_ #[t, t] ty #[v, .slice A m.length c]).run P w = .ok v' w' ∧ Own w' base v' (l ++ m) ∧ w.grownBy w' v.ownBlock ∧ (v'.ownBlock = v.ownBlock ∨ v'.ownBlock = some w.heap.size) ∧ After w w' v v' l.length (l ++ m).length := by
  obtain ⟨v', w', h1, h2, h3, h5⟩ := run_append_bytes (P := P) w base t ty i ht hi hz hs hy v l hown B A c m hr hl hbase
  refine ⟨v', w', h1, h2, h3, h5, ?_⟩
  rcases hown.2 with ⟨rfl, h0⟩ | ⟨g, cap, cur, rfl, hbg, hg, hnc, hcm, hcs, htake⟩
  · refine .inr ⟨h3, fun x hx => ?_⟩
    rcases h5 with h5 | h5
    · rw [h5] at hx; simp [Value.ownBlock] at hx
    · rw [h5] at hx; cases hx; exact Nat.le_refl _
  · rcases A with _ | ad
    · have hm : m = [] := by
        rcases m with _ | ⟨x, r⟩
        · rfl
        · obtain ⟨b, o, e, _⟩ := hr (by simp); cases e
      subst hm
      have h6 : (Builtin.append_ #[t, t] ty #[.slice (some ⟨g, 0, none⟩) l.length cap, .slice none ([] : List UInt8).length c]).run P w = .ok (.slice (some ⟨g, 0, none⟩) l.length cap) w := by
        simp [Builtin.append_, run_underlying ht, sizeOf, typeInfo, hi, Builtin.lenOf, Builtin.firstCells, hnc, storeCells]
      rw [h6] at h1
      cases h1
      exact .inl ⟨g, cap, rfl, by simp⟩
    · have hnews : ∀ j u, (u8s m)[j]? = some u → w.cell? (ad.add j) = some u := fun j u hu => by
        rw [u8s_get] at hu
        rcases hj : m[j]? with _ | x
        · rw [hj] at hu; cases hu
        · rw [hj] at hu
          have hlt : j < m.length := (List.getElem?_eq_some_iff.1 hj).1
          obtain ⟨b, o, e, _, hc⟩ := hr (by omega)
          injection e with e
          subst e
          rw [addr_add, hc j x hj]
          simpa using hu
      by_cases hroom : l.length + m.length ≤ cap
      · obtain ⟨w2, h6, _, _⟩ := run_append_fits (P := P) w base t ty 5 i 1 ht hi hs g l.length cap (u8s l) hown ad m.length c (u8s m) (by simp) hnews (u8s_one m) hroom
        rw [h6] at h1
        cases h1
        exact .inl ⟨g, cap, rfl, by simp⟩
      · have holds : ∀ j u, (u8s l)[j]? = some u → w.cell? ((⟨g, 0, none⟩ : Addr).add j) = some u := World.ownsRow.cells (g := g) hown rfl
        have h6 := run_append_grow (P := P) w t ty 5 i (.int .u8 0) ht hi hz ⟨g, 0, none⟩ l.length cap (u8s l) (by simp [hs]) holds ad m.length c (u8s m) (by simp [hs]) hnews (by omega) (by omega) (growslice_fits (by omega) (by rw [hy]; omega))
        rw [h6] at h1
        cases h1
        exact .inr ⟨only_below (((Below.refl _ w).drew).alloc (by simp) _) none, fun x hx => by simp [Value.ownBlock] at hx; omega⟩

theorem wpList_append_keep {w : World} {ops : Array Oper} {rest : List Oper} {o : Oper} {a : Act} {Q : Exit → Act → World → Prop} (hgd : o.guard = none) (s x : Operand) (t : TypeId)
    (ho : o.op = .call { callee := .builtin .append, args := #[s, x], argTypes := #[t, t] })
    (base : Nat) (i : TypeInfo) (ht : P.underlying t = some (.slice 5)) (hi : P.info? 5 = some i) (hz : i.zero = some (.int .u8 0)) (hs : i.size = 1) (hy : i.bytes = 1)
    (v : Value) (l : List UInt8) (hv : a.eval s = v) (hown : Own w base v l) (B : Nat) (A : Option Addr) (n c : Nat) (m : List UInt8) (hn : m.length = n) (hx : a.eval x = .slice A n c) (hr : Rd w B A m)
    (hl : l.length + m.length ≤ 140737488355328) (hbase : base ≤ w.heap.size)
    (h : ∀ v' w', Own w' base v' (l ++ m) → w.grownBy w' v.ownBlock → (v'.ownBlock = v.ownBlock ∨ v'.ownBlock = some w.heap.size) → After w w' v v' l.length (l ++ m).length → wpList P ops Q rest (a.put o.dst v') w') :
    wpList P ops Q (o :: rest) a w := by
  subst hn
  refine wpList_plain hgd fun K hK => ?_
  obtain ⟨v', w', hrun, h2, h3, h4, h5⟩ := run_append_keep (P := P) w base t o.type i ht hi hz hs hy v l hown B A c m hr hl hbase
  unfold Oper.wp execOp
  simp only [ho, resolve, invoke, builtin, Sem.run_bind, Sem.run_pure, Result.andThen_ok, List.map_toArray, List.map_cons, List.map_nil, hv, hx, hrun]
  exact hK _ _ (h v' w' h2 h3 h4 h5)
end

/-- The front of a row of the call's own, in the same memory. -/
theorem own_front {w : World} {base g c : Nat} {l l' : List UInt8} (h : Own w base (.slice (some ⟨g, 0, none⟩) l'.length c) l') (hp : l <+: l') : Own w base (.slice (some ⟨g, 0, none⟩) l.length c) l := by
  refine ⟨by simp, .inr ?_⟩
  rcases h.2 with ⟨h', _⟩ | ⟨g', cap', cur, h', hb, hg, hnc, hcm, hcs, htake⟩
  · simp at h'
  · simp only [Value.slice.injEq, Option.some.injEq, Addr.mk.injEq, and_true, true_and] at h'
    obtain ⟨rfl, rfl⟩ := h'
    refine ⟨g, c, cur, rfl, hb, hg, Nat.le_trans hp.length_le hnc, hcm, hcs, ?_⟩
    obtain ⟨t, rfl⟩ := hp
    have h1 : (cur.toList.take ((l ++ t).length * 1)).take (l.length * 1) = (u8s (l ++ t)).take (l.length * 1) := by rw [htake]
    rw [List.take_take, Nat.min_eq_left (by simp)] at h1
    rw [h1, u8s_append, Nat.mul_one]
    exact List.take_left' (by simp)

/-- Bytes that were laid behind a row of the call's own, which is still there. -/
def Onto (w w' : World) (base : Nat) (v v' : Value) (l l' : List UInt8) : Prop :=
  Laid w w' base v v' l' ∧ Own w' base v l ∧ l <+: l' ∧ ((∃ g c, v = .slice (some ⟨g, 0, none⟩) l.length c ∧ v' = .slice (some ⟨g, 0, none⟩) l'.length c) ∨ ∀ x, v'.ownBlock = some x → w.heap.size ≤ x)

theorem Onto.refl {w : World} {base : Nat} {v : Value} {l : List UInt8} (h : Own w base v l) : Onto w w base v v l l := by
  refine ⟨Laid.refl h, h, List.prefix_refl _, ?_⟩
  rcases h.2 with ⟨rfl, _⟩ | ⟨g, cap, cur, rfl, _⟩
  · exact .inr fun x hx => by simp [Value.ownBlock] at hx
  · exact .inl ⟨g, cap, rfl, rfl⟩

theorem own_lt_keep {w : World} {base : Nat} {v : Value} {l : List UInt8} (h : Own w base v l) : ∀ k, v.ownBlock = some k → k < w.heap.size := by
  intro k hk
  rcases h.2 with ⟨rfl, _⟩ | ⟨g', cap, cur, rfl, _, hh, _⟩
  · simp [Value.ownBlock] at hk
  · have e : g' = k := by simpa [Value.ownBlock] using hk
    subst e
    rcases Nat.lt_or_ge g' w.heap.size with hlt | hge
    · exact hlt
    · rw [Array.getElem?_eq_none hge] at hh; cases hh

theorem Onto.step {w w1 w0 w2 : World} {base : Nat} {v v1 v2 : Value} {l l1 m : List UInt8} (hv : ∀ k, v.ownBlock = some k → k < w.heap.size) (h : Onto w w1 base v v1 l l1) (hb : Below w1.heap.size w1 w0) (ho : Own w2 base v2 (l1 ++ m)) (hg : w0.grownBy w2 v1.ownBlock) (ha : v2.ownBlock = v1.ownBlock ∨ v2.ownBlock = some w0.heap.size)
    (hD : After w0 w2 v1 v2 l1.length (l1 ++ m).length) : Onto w w2 base v v2 l (l1 ++ m) := by
  have hp : l <+: l1 ++ m := h.2.2.1.trans (List.prefix_append _ _)
  have hown0 : Own w0 base v l := h.2.1.kept (only_below hb none) (by rcases v.ownBlock with _ | k <;> simp)
  have hw0 : w.heap.size ≤ w0.heap.size := Nat.le_trans h.1.2.1.size hb.size
  refine ⟨h.1.trans (Laid.of_append hb ho hg ha), ?_, hp, ?_⟩
  · rcases hD with ⟨g, c, e1, e2⟩ | ⟨hn, hf⟩
    · rcases h.2.2.2 with ⟨g', c', e3, e4⟩ | hfr
      · subst e3
        rw [e1] at e4
        simp only [Value.slice.injEq, Option.some.injEq, Addr.mk.injEq, and_true, true_and] at e4
        obtain ⟨rfl, rfl⟩ := e4
        subst e2
        exact own_front ho hp
      · refine hown0.kept hg ?_
        rcases hvb : v.ownBlock with _ | k
        · exact .inl rfl
        · refine .inr fun e => ?_
          have h1 := hv k hvb
          have h2 := hfr k e.symm
          omega
    · exact hown0.kept hn (by rcases v.ownBlock with _ | k <;> simp)
  · rcases hD with ⟨g, c, e1, e2⟩ | ⟨hn, hf⟩
    · rcases h.2.2.2 with ⟨g', c', e3, e4⟩ | hfr
      · rw [e1] at e4
        simp only [Value.slice.injEq, Option.some.injEq, Addr.mk.injEq, and_true, true_and] at e4
        obtain ⟨rfl, rfl⟩ := e4
        exact .inl ⟨g, c, e3, e2⟩
      · refine .inr fun x hx => hfr x ?_
        rw [e2] at hx
        rw [e1]
        exact hx
    · exact .inr fun x hx => Nat.le_trans hw0 (hf x hx)

end Go.Proofs.YtldmjnbmjfnfeaaGreatDoor
