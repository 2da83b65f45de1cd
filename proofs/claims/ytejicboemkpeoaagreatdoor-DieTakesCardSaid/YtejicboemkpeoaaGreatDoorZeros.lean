/-
  'append(b, make([]byte, n)...)': zeros laid behind bytes of the call's own. No function of the program is named here.
-/
import Derived.Test.YtejicboemkpeoaaGreatDoorKeep
import Derived.Lib.AppendZerosOnto
namespace Go.Proofs.YtejicboemkpeoaaGreatDoor
open Go Go.RowKit

theorem zeroCells_u8 (n : Nat) : Builtin.zeroCells (Value.int .u8 0).cells n = (u8s (List.replicate n 0)).toArray := by
  apply Array.ext
  · simp [Builtin.zeroCells, u8s, Value.cells]
  · intro i h1 h2
    simp [Builtin.zeroCells, u8s, Value.cells, Nat.mod_one]

section
variable {P : Program}
theorem run_append_zeros (w : World) (base : Nat) (t tn ty : TypeId) (i : TypeInfo) (kn kq : IntKind) (ht : P.underlying t = some (.slice 5)) (htn : P.underlying tn = some (.int kn)) (hi : P.info? 5 = some i) (hz : i.zero = some (.int .u8 0))
    (hs : i.size = 1) (hy : i.bytes = 1) (v : Value) (l : List UInt8) (hown : Own w base v l) (n : Nat) (h0 : 0 < n) (hl : l.length + n ≤ 140737488355328) (hbase : base ≤ w.heap.size) :
    ∃ v' w', (Builtin.append_ #[t, tn] ty #[v, .int kq (n : Int)]).run P w = .ok v' w' ∧ Own w' base v' (l ++ List.replicate n 0) ∧ w.grownBy w' v.ownBlock ∧ (v'.ownBlock = v.ownBlock ∨ v'.ownBlock = some w.heap.size) ∧ Own w' base v l := by
  have hlen : (l ++ List.replicate n (0 : UInt8)).length = l.length + n := by simp
  have h63 : l.length + n ≤ maxLen := by unfold maxLen; omega
  have grown : ∀ (old : Nat), old < l.length + n → ∀ (row : Option Nat),
      (w.drew.alloc (.cells ((u8s l).toArray ++ Builtin.zeroCells (Value.int .u8 0).cells n ++ Builtin.zeroCells (Value.int .u8 0).cells (grownCap w (l.length + n) old 5 - (l.length + n))) 5)).ownsRow base 5 1
        (.slice (some ⟨w.heap.size, 0, none⟩) (l.length + n) (grownCap w (l.length + n) old 5)) (l.length + n) (u8s (l ++ List.replicate n 0)) ∧
      w.grownBy (w.drew.alloc (.cells ((u8s l).toArray ++ Builtin.zeroCells (Value.int .u8 0).cells n ++ Builtin.zeroCells (Value.int .u8 0).cells (grownCap w (l.length + n) old 5 - (l.length + n))) 5)) row := by
    intro old ho row
    have hge := grownCap_ge w (l.length + n) old 5
    have hcm : grownCap w (l.length + n) old 5 ≤ maxLen := grownCap_le_maxLen w (l.length + n) old 5 h63
    refine ⟨⟨by simp, .inr ⟨w.heap.size, _, _, rfl, hbase, heap_alloc_new w.drew _, hge, hcm, ?_, ?_⟩⟩, ⟨rfl, rfl, rfl, by simp, fun k hk _ => _root_.Go.heap_alloc_old w.drew _ hk⟩⟩
    · simp [Builtin.zeroCells, Value.cells]; omega
    · rw [zeroCells_u8, u8s_append]
      simp only [Array.toList_append, Nat.mul_one]
      exact List.take_left' (by simp)
  rcases hown.2 with ⟨rfl, h00⟩ | ⟨g, cap, cur, rfl, hbg, hg, hnc, hcm, hcs, htake⟩
  · have hx : l = [] := List.eq_nil_of_length_eq_zero h00
    subst hx
    have hr : (Builtin.append_ #[t, tn] ty #[.slice none 0 0, .int kq (n : Int)]).run P w = _ :=
      Lib.run_append_nil_zeros (P := P) w t tn ty 5 i (.int .u8 0) kq kn ht htn hi hz n h0 (by omega) (by omega) (by rw [hy]; omega)
    have hgr := grown 0 (by omega) (Value.ownBlock (.slice none 0 0))
    simp only [List.length_nil, Nat.zero_add, List.nil_append, u8s_nil, Array.empty_append] at hgr
    refine ⟨_, _, hr, ?_, hgr.2, Or.inr rfl, World.ownsRow_nil _ _ _ _⟩
    have := hgr.1
    rw [List.nil_append, Own, List.length_replicate]
    exact this
  · by_cases hroom : l.length + n ≤ cap
    · have hk : n ≠ 0 := by omega
      have hw : IntKind.i64.wrap (n : Int) = n := by rw [IntKind.wrap_i64]; omega
      have hneg : ¬ ((n : Int) < 0) := by omega
      have h48i : ¬ (281474976710656 < (n : Int)) := by omega
      have hst := run_storeCells_at P g l.length 5 (u8s (List.replicate n 0)) 0 cur w hg (by simp [hcs]; omega) (u8s_one _)
      simp only [Nat.add_zero] at hst
      have hzc : (Builtin.zeroCells #[Value.int .u8 0] n).toList = u8s (List.replicate n 0) := by
        have := zeroCells_u8 n
        rw [show (Value.int .u8 0).cells = #[Value.int .u8 0] from rfl] at this
        rw [this]
      have hr : (Builtin.append_ #[t, tn] ty #[.slice (some ⟨g, 0, none⟩) l.length cap, .int kq (n : Int)]).run P w = .ok (.slice (some ⟨g, 0, none⟩) (l.length + n) cap) (w.setRow g (cur.toList.take l.length ++ u8s (List.replicate n 0) ++ cur.toList.drop (l.length + (u8s (List.replicate n 0)).length)).toArray) := by
        simp [Builtin.append_, run_underlying ht, run_underlying htn, sizeOf, typeInfo, zeroValue, hi, hz, hs, hy, asInt, asIntOf, hw, hneg, hk, h48i, hroom, Addr.add_lit, Value.cells, hzc, hst]
      have hnew : Own (w.setRow g (cur.toList.take l.length ++ u8s (List.replicate n 0) ++ cur.toList.drop (l.length + (u8s (List.replicate n 0)).length)).toArray) base (.slice (some ⟨g, 0, none⟩) (l ++ List.replicate n (0 : UInt8)).length cap) (l ++ List.replicate n 0) := by
        refine ⟨by simp, .inr ⟨g, cap, _, rfl, hbg, setRow_heap w g cur _ 5 _ hg, by rw [hlen]; exact hroom, hcm, ?_, ?_⟩⟩
        · simp only [List.size_toArray, List.length_append, List.length_take, List.length_drop, Array.length_toList, u8s_length, List.length_replicate]
          omega
        · have ht' : cur.toList.take l.length = u8s l := by simpa using htake
          rw [ht', u8s_append]
          have e : (u8s l ++ u8s (List.replicate n (0 : UInt8))).length = (l ++ List.replicate n (0 : UInt8)).length * 1 := by simp
          rw [← e]
          exact List.take_left
      refine ⟨_, _, hr, by rw [← hlen]; exact hnew, ⟨rfl, rfl, rfl, by simp, fun k _ hk => setRow_other w g k _ (fun e => hk (by simp [Value.ownBlock, e]))⟩, Or.inl rfl, own_front hnew (List.prefix_append l _)⟩
    · have holds : ∀ j u, (u8s l)[j]? = some u → w.cell? ((⟨g, 0, none⟩ : Addr).add j) = some u := hown.cells (g := g) rfl
      have hfc : (Builtin.firstCells i.size l.length (.slice (some ⟨g, 0, none⟩) l.length cap)).run P w.drew = .ok (u8s l).toArray w.drew :=
        run_firstCells_some (P := P) w.drew i.size l.length ⟨g, 0, none⟩ l.length cap (u8s l) (by simp [hs]) holds
      have hr := Lib.run_append_grow_zeros (P := P) w t tn ty 5 i (.int .u8 0) kq kn ht htn hi hz (some ⟨g, 0, none⟩) l.length cap (u8s l) hfc n h0 (by omega) (by omega) (by omega) (by rw [hy]; omega)
        (growslice_fits (by omega) (by rw [hy]; omega))
      have hgr := grown cap (by omega) (Value.ownBlock (.slice (some ⟨g, 0, none⟩) l.length cap))
      refine ⟨_, _, hr, ?_, hgr.2, Or.inr rfl, World.ownsRow.alloc (w := w.drew) hown _⟩
      rw [Own, hlen]
      exact hgr.1

theorem wpList_append_zeros {w : World} {ops : Array Oper} {rest : List Oper} {o : Oper} {a : Act} {Q : Exit → Act → World → Prop} (hgd : o.guard = none) (s x : Operand) (t tn : TypeId)
    (ho : o.op = .call { callee := .builtin .append, args := #[s, x], argTypes := #[t, tn] })
    (base : Nat) (i : TypeInfo) (kn kq : IntKind) (ht : P.underlying t = some (.slice 5)) (htn : P.underlying tn = some (.int kn)) (hi : P.info? 5 = some i) (hz : i.zero = some (.int .u8 0)) (hs : i.size = 1) (hy : i.bytes = 1)
    (v : Value) (l : List UInt8) (hv : a.eval s = v) (hown : Own w base v l) (n : Nat) (z : Int) (hx : a.eval x = .int kq z) (hzn : z = (n : Int)) (h0 : 0 < n)
    (hl : l.length + n ≤ 140737488355328) (hbase : base ≤ w.heap.size)
    (h : ∀ v' w', Own w' base v' (l ++ List.replicate n 0) → w.grownBy w' v.ownBlock → (v'.ownBlock = v.ownBlock ∨ v'.ownBlock = some w.heap.size) → Own w' base v l → wpList P ops Q rest (a.put o.dst v') w') :
    wpList P ops Q (o :: rest) a w := by
  subst hzn
  refine wpList_plain hgd fun K hK => ?_
  obtain ⟨v', w', hrun, h2, h3, h4, h5⟩ := run_append_zeros (P := P) w base t tn o.type i kn kq ht htn hi hz hs hy v l hown n h0 hl hbase
  unfold Oper.wp execOp
  simp only [ho, resolve, invoke, builtin, Sem.run_bind, Sem.run_pure, Result.andThen_ok, List.map_toArray, List.map_cons, List.map_nil, hv, hx, hrun]
  exact hK _ _ (h v' w' h2 h3 h4 h5)
end

end Go.Proofs.YtejicboemkpeoaaGreatDoor
