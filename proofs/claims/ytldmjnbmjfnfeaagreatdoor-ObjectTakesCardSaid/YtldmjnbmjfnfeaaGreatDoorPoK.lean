/-
  The contract of layer 3's Put once more: the row behind which it puts is still there.
-/
import Derived.Test.YtldmjnbmjfnfeaaGreatDoorCsQ
import Derived.Test.YtldmjnbmjfnfeaaGreatDoorKeep
namespace Go.Proofs.YtldmjnbmjfnfeaaGreatDoor
open Go Go.RowKit

section
variable {P : Program}
theorem run_append_str_keep (w : World) (base : Nat) (t u ty : TypeId) (i : TypeInfo) (ht : P.underlying t = some (.slice 5)) (hu : P.underlying u = some .string) (hi : P.info? 5 = some i) (hz : i.zero = some (.int .u8 0))
    (hs : i.size = 1) (hy : i.bytes = 1) (v : Value) (l : List UInt8) (hown : Own w base v l) (m : List UInt8)
    (hl : l.length + m.length ≤ 140737488355328) (hbase : base ≤ w.heap.size) :
    ∃ v' w', (Builtin.append_ #[t, u] ty #[v, .string ⟨m.toArray⟩]).run P w = .ok v' w' ∧ Own w' base v' (l ++ m) ∧ w.grownBy w' v.ownBlock ∧ (v'.ownBlock = v.ownBlock ∨ ∀ x, v'.ownBlock = some x → w.heap.size ≤ x) ∧ After w w' v v' l.length (l ++ m).length := by
  obtain ⟨v', w', h1, h2, h3, h5⟩ := run_append_str (P := P) w base t u ty i ht hu hi hz hs hy v l hown m hl hbase
  refine ⟨v', w', h1, h2, h3, h5, ?_⟩
  have hm : (ByteArray.mk m.toArray).size = m.length := rfl
  rcases hown.2 with ⟨rfl, h0⟩ | ⟨g, cap, cur, rfl, hbg, hg, hnc, hcm, hcs, htake⟩
  · refine .inr ⟨h3, fun x hx => ?_⟩
    rcases h5 with h5 | h5
    · rw [h5] at hx; simp [Value.ownBlock] at hx
    · exact h5 x hx
  · by_cases hroom : l.length + m.length ≤ cap
    · have hr := Lib.run_append_room_string (P := P) w t u ty 5 i ht hu hi hs g l.length cap cur hg ⟨m.toArray⟩ hroom (by rw [hm]; omega)
      rw [h1] at hr
      injection hr with e _
      exact .inl ⟨g, cap, rfl, by rw [e, hm]; simp⟩
    · have holds : ∀ j x, (u8s l)[j]? = some x → w.cell? ((⟨g, 0, none⟩ : Addr).add j) = some x := hown.cells (g := g) rfl
      have hr := Lib.run_append_grow_string (P := P) w t u ty 5 i (.int .u8 0) ht hu hi hz ⟨g, 0, none⟩ l.length cap (u8s l) (by rw [hs]; simp) holds ⟨m.toArray⟩ (by rw [hm]; omega) (by rw [hm]; omega) (by rw [hy, hm]; exact growslice_fits (by omega) (by omega))
      rw [h1] at hr
      injection hr with e e2
      subst e e2
      exact .inr ⟨only_below (((Below.refl _ w).drew).alloc (by simp) _) none, fun x hx => by simp [Value.ownBlock] at hx; omega⟩

theorem wpList_append_str_keep {w : World} {ops : Array Oper} {rest : List Oper} {o : Oper} {a : Act} {Q : Exit → Act → World → Prop} (hgd : o.guard = none) (s x : Operand) (t u : TypeId)
    (ho : o.op = .call { callee := .builtin .append, args := #[s, x], argTypes := #[t, u] })
    (base : Nat) (i : TypeInfo) (ht : P.underlying t = some (.slice 5)) (hu : P.underlying u = some .string) (hi : P.info? 5 = some i) (hz : i.zero = some (.int .u8 0)) (hs : i.size = 1) (hy : i.bytes = 1)
    (v : Value) (l : List UInt8) (hv : a.eval s = v) (hown : Own w base v l) (m : List UInt8) (hx : a.eval x = .string ⟨m.toArray⟩)
    (hl : l.length + m.length ≤ 140737488355328) (hbase : base ≤ w.heap.size)
    (h : ∀ v' w', Own w' base v' (l ++ m) → w.grownBy w' v.ownBlock → (v'.ownBlock = v.ownBlock ∨ ∀ x, v'.ownBlock = some x → w.heap.size ≤ x) → After w w' v v' l.length (l ++ m).length → wpList P ops Q rest (a.put o.dst v') w') :
    wpList P ops Q (o :: rest) a w := by
  refine wpList_plain hgd fun K hK => ?_
  obtain ⟨v', w', hrun, h2, h3, h4, h5⟩ := run_append_str_keep (P := P) w base t u o.type i ht hu hi hz hs hy v l hown m hl hbase
  unfold Oper.wp execOp
  simp only [ho, resolve, invoke, builtin, Sem.run_bind, Sem.run_pure, Result.andThen_ok, List.map_toArray, List.map_cons, List.map_nil, hv, hx, hrun]
  exact hK _ _ (h v' w' h2 h3 h4 h5)
end

theorem after_drewN {w w2 : World} {v v2 : Value} {n m k : Nat} (h : After (w.drewN k) w2 v v2 n m) : After w w2 v v2 n m := h.imp id fun h => ⟨only_drewN_left h.1, h.2⟩

/-- The first step behind a row. -/
theorem Onto.first {w w2 : World} {base : Nat} {v v2 : Value} {l m : List UInt8} (hown : Own w base v l) (ho : Own w2 base v2 (l ++ m)) (hg : w.grownBy w2 v.ownBlock) (ha : v2.ownBlock = v.ownBlock ∨ ∀ x, v2.ownBlock = some x → w.heap.size ≤ x)
    (hD : After w w2 v v2 l.length (l ++ m).length) : Onto w w2 base v v2 l (l ++ m) := by
  refine ⟨⟨ho, hg, ha⟩, ?_, List.prefix_append _ _, ?_⟩
  · rcases hD with ⟨g, c, rfl, rfl⟩ | ⟨hn, _⟩
    · exact own_front ho (List.prefix_append _ _)
    · exact hown.kept hn (by rcases v.ownBlock with _ | k <;> simp)
  · rcases hD with ⟨g, c, e1, e2⟩ | ⟨_, hf⟩
    · exact .inl ⟨g, c, e1, e2⟩
    · exact .inr hf

set_option maxRecDepth 10000 in
set_option maxHeartbeats 800000 in
theorem putt_onto {w : World} {base : Nat} {v : Value} {l : List UInt8} (hown : Own w base v l) (hbase : base ≤ w.heap.size) (s : List UInt8) (hlen : l.length + s.length ≤ 140737488355000) :
    Calls Tryz.prog 137 #[v, .string ⟨s.toArray⟩] w fun r w' => ∃ v', r = .returned v' ∧ Onto w w' base v v' l (l ++ putT s) := by
  obtain ⟨i0, hi, hz0, hz1, hz2⟩ := info_parts u8_info
  have hC := fun W => cut_zero s (by omega) W
  have hle := tlen_le s
  have hputs : l ++ putT s = (l ++ s.take (tlen s)) ++ [0] := by unfold putT; rw [List.append_assoc]
  have hsum : l.length + (s.take (tlen s)).length ≤ 140737488355328 := by simp; omega
  have hsum2 : (l ++ s.take (tlen s)).length + [(0 : UInt8)].length ≤ 140737488355328 := by simp; omega
  have HP := Lib.hid hputs
  unfold headT at hC
  have HO := Lib.hid hown
  have HV := Lib.hid (own_lt_keep hown)
  have HR := Lib.hid (fun W => rd_one W 0 0 rfl)
  clear hputs hlen hle hown
  generalize s.take (tlen s) = t at *
  generalize ByteArray.mk s.toArray = b at *
  go_enter Tryz.func137, Tryz.ntmps137
  go_wp2_with (first
    | (go_at_call 144; refine (hC _).mono ?_; rintro r w1 ⟨⟨u, f, rfl⟩, n, rfl⟩)
    | (at_builtin; refine wpList_append_str_keep (by rfl) (.tmp 14) (.tmp 15) _ _ (by rfl) base i0 Tryz.underlying22 Tryz.underlying9 hi hz0 hz1 hz2 v l (by rfl) (World.ownsRow.kept (w := w) HO.out (only_drewN (only_refl w none) n) (by rcases v.ownBlock with _ | k <;> simp)) t (by rfl) hsum (by exact hbase) ?_; intro v1 w1 hown1 hg1 hat1 haf1; have HL1 := Lib.hid (show Onto w w1 base v v1 l (l ++ t) from Onto.first HO.out hown1 (only_drewN_left hg1) hat1 (after_drewN haf1)); clear hown1 hg1 hat1 haf1)
    | (at_builtin; refine wpList_append_keep (by rfl) (.tmp 17) (.tmp 18) _ (by rfl) base i0 Tryz.underlying22 hi hz0 hz1 hz2 v1 (l ++ t) (by rfl) (HL1.out.1.1.alloc _) (w1.heap.size + 1) (some ⟨w1.heap.size, 0, none⟩) 1 1 [0] rfl (by rfl) (HR.out _) hsum2 (by have := HL1.out.1.2.1.size; simp; omega) ?_; intro v2 w2 hown2 hg2 hat2 haf2))
  go_ret
  exact ⟨_, rfl, by rw [HP.out]; exact HL1.out.step HV.out ((Below.refl w1.heap.size w1).alloc (Nat.le_refl _) _) hown2 hg2 hat2 haf2⟩

end Go.Proofs.YtldmjnbmjfnfeaaGreatDoor
