/-
  strings.Clone of a text: the same text; what was there stays.
-/
import Derived.Test.YtejicboemkpeoaaDoorPoM
import Derived.Test.YtejicboemkpeoaaDoorPut
import Derived.Lib.BytesEntry
import Derived.Lib.AppendStr
import Derived.Laws.Externs
import Derived.Deep.Slices
import Derived.Lib.BufferWrite
import Derived.Lib.UnsafeStr
import Derived.Laws.MakeOwn
namespace Go.Proofs.YtejicboemkpeoaaDoor
open Go Go.RowKit

/-- Where the first byte 0 stands, or -1. -/
def zeroAt (r : List UInt8) : Int := if tlen r < r.length then (tlen r : Int) else -1

theorem indexByte_zero (r : List UInt8) : Lib.indexByte r 0 = zeroAt r := by
  unfold zeroAt
  induction r with
  | nil => rfl
  | cons b r ih =>
    unfold Lib.indexByte
    by_cases hb : b = 0
    · simp [tlen, hb]
    · have hb' : (b == 0) = false := by simpa using hb
      rw [hb', ih]
      simp only [tlen, if_neg hb, List.length_cons]
      by_cases h : tlen r < r.length
      · have h2 : tlen r + 1 < r.length + 1 := by omega
        have e : ((tlen r : Int) == -1) = false := by simp
        simp only [if_pos h, if_pos h2, e]
        simp
      · have h2 : ¬ tlen r + 1 < r.length + 1 := by omega
        simp only [if_neg h, if_neg h2]
        simp

set_option maxRecDepth 100000 in
theorem lindex_str (s : List UInt8) (w : World) :
    Calls Tryd.prog 70 #[.string ⟨s.toArray⟩, .int .u8 0] w fun r w' => r = .returned (.int .i64 (zeroAt s)) ∧ w = w' := by
  have hr := Lib.run_indexByteString (P := Tryd.prog) ⟨s.toArray⟩ 0 w
  rw [show ((0 : Int).toNat.toUInt8) = 0 from rfl, show (ByteArray.mk s.toArray).data.toList = s from rfl, indexByte_zero] at hr
  generalize zeroAt s = z at *
  generalize (ByteArray.mk s.toArray) = b at *
  go_enter Tryd.func70, Tryd.ntmps70
  go_wp2
  rw [run_callFunc_extern Tryd.func75 (by kernel_rfl) (by kernel_rfl) (by kernel_rfl) (e := Extern.BytealgIndexByte.indexByte) (by kernel_rfl), hr]
  simp only [Result.andThen]
  rw [Oper.upon_value]
  go_wp2
  go_ret
  exact ⟨rfl, rfl⟩

theorem index_str (s : List UInt8) (w : World) :
    Calls Tryd.prog 62 #[.string ⟨s.toArray⟩, .int .u8 0] w fun r w' => r = .returned (.int .i64 (zeroAt s)) ∧ w = w' := by
  have hL := fun W => lindex_str s W
  generalize zeroAt s = z at *
  generalize (ByteArray.mk s.toArray) = b at *
  go_enter Tryd.func62, Tryd.ntmps62
  go_wp2_with (go_at_call 70; refine (hL _).mono ?_; rintro r w' ⟨rfl, rfl⟩)
  go_ret
  exact ⟨rfl, rfl⟩

end Go.Proofs.YtejicboemkpeoaaDoor

namespace Go.Proofs.YtejicboemkpeoaaDoor
open Go Go.RowKit

/-! 'append' of a string's bytes to a row of the call's own, with its block told. -/
theorem strCells_u8s (m : List UInt8) : Lib.strCells ⟨m.toArray⟩ = u8s m := rfl

section
variable {P : Program}
theorem run_append_str (w : World) (base : Nat) (t u ty : TypeId) (i : TypeInfo) (ht : P.underlying t = some (.slice 5)) (hu : P.underlying u = some .string) (hi : P.info? 5 = some i) (hz : i.zero = some (.int .u8 0))
    (hs : i.size = 1) (hy : i.bytes = 1) (v : Value) (l : List UInt8) (hown : Own w base v l) (m : List UInt8)
    (hl : l.length + m.length ≤ 140737488355328) (hbase : base ≤ w.heap.size) :
    ∃ v' w', (Builtin.append_ #[t, u] ty #[v, .string ⟨m.toArray⟩]).run P w = .ok v' w' ∧ Own w' base v' (l ++ m) ∧ w.grownBy w' v.ownBlock ∧ (v'.ownBlock = v.ownBlock ∨ ∀ x, v'.ownBlock = some x → w.heap.size ≤ x) := by
  have hm : (ByteArray.mk m.toArray).size = m.length := rfl
  have big : l.length + (ByteArray.mk m.toArray).size ≤ maxLen := by rw [hm]; unfold maxLen; omega
  rcases hown.2 with ⟨rfl, h0⟩ | ⟨g, cap, cur, rfl, hb, hg, hc, hmx, hsz, htk⟩
  · have hl0 : l = [] := List.eq_nil_of_length_eq_zero h0
    subst hl0
    obtain ⟨v', w', h1, h2, h3, _⟩ := Lib.run_append_own_string (P := P) w w.heap.size t u ty 5 i ht hu hi hz hs hy (.slice none 0 0) 0 (u8s []) (World.ownsRow_nil w w.heap.size 5 1) ⟨m.toArray⟩ big (by rw [hm]; simpa using hl) (Nat.le_refl _)
    rw [strCells_u8s, hm] at h2
    have h2' : Own w' w.heap.size v' m := by simpa [Own, u8s_nil] using h2
    refine ⟨v', w', h1, ⟨by simp, h2'.2.imp id fun ⟨g', cap', cur', p, q, r⟩ => ⟨g', cap', cur', p, Nat.le_trans hbase q, by simpa using r⟩⟩, h3, .inr fun x hx => (own_ge h2' x hx).1⟩
  · obtain ⟨v', w', h1, h2, h3, _⟩ := Lib.run_append_own_string (P := P) w base t u ty 5 i ht hu hi hz hs hy (.slice (some ⟨g, 0, none⟩) l.length cap) l.length (u8s l) hown ⟨m.toArray⟩ big (by rw [hm]; exact hl) hbase
    have h2' : Own w' base v' (l ++ m) := by
      rw [Own, List.length_append, u8s_append]
      exact h2
    refine ⟨v', w', h1, h2', h3, ?_⟩
    by_cases hroom : l.length + m.length ≤ cap
    · have hr := Lib.run_append_room_string (P := P) w t u ty 5 i ht hu hi hs g l.length cap cur hg ⟨m.toArray⟩ hroom (by rw [hm]; omega)
      rw [h1] at hr
      injection hr with e _
      rw [e]
      exact .inl rfl
    · have holds : ∀ j x, (u8s l)[j]? = some x → w.cell? ((⟨g, 0, none⟩ : Addr).add j) = some x := hown.cells (g := g) rfl
      have hr := Lib.run_append_grow_string (P := P) w t u ty 5 i (.int .u8 0) ht hu hi hz ⟨g, 0, none⟩ l.length cap (u8s l) (by rw [hs]; simp) holds ⟨m.toArray⟩ (by rw [hm]; omega) (by rw [hm]; omega) (by rw [hy, hm]; exact growslice_fits (by omega) (by omega))
      rw [h1] at hr
      injection hr with e _
      rw [e]
      exact .inr fun x hx => by simp [Value.ownBlock] at hx; omega

theorem wpList_append_str {w : World} {ops : Array Oper} {rest : List Oper} {o : Oper} {a : Act} {Q : Exit → Act → World → Prop} (hgd : o.guard = none) (s x : Operand) (t u : TypeId)
    (ho : o.op = .call { callee := .builtin .append, args := #[s, x], argTypes := #[t, u] })
    (base : Nat) (i : TypeInfo) (ht : P.underlying t = some (.slice 5)) (hu : P.underlying u = some .string) (hi : P.info? 5 = some i) (hz : i.zero = some (.int .u8 0)) (hs : i.size = 1) (hy : i.bytes = 1)
    (v : Value) (l : List UInt8) (hv : a.eval s = v) (hown : Own w base v l) (m : List UInt8) (hx : a.eval x = .string ⟨m.toArray⟩)
    (hl : l.length + m.length ≤ 140737488355328) (hbase : base ≤ w.heap.size)
    (h : ∀ v' w', Own w' base v' (l ++ m) → w.grownBy w' v.ownBlock → (v'.ownBlock = v.ownBlock ∨ ∀ x, v'.ownBlock = some x → w.heap.size ≤ x) → wpList P ops Q rest (a.put o.dst v') w') :
    wpList P ops Q (o :: rest) a w := by
  refine wpList_plain hgd fun K hK => ?_
  obtain ⟨v', w', hrun, h2, h3, h4⟩ := run_append_str (P := P) w base t u o.type i ht hu hi hz hs hy v l hown m hl hbase
  unfold Oper.wp execOp
  simp only [ho, resolve, invoke, builtin, Sem.run_bind, Sem.run_pure, Result.andThen_ok, List.map_toArray, List.map_cons, List.map_nil, hv, hx, hrun]
  exact hK _ _ (h v' w' h2 h3 h4)
end

end Go.Proofs.YtejicboemkpeoaaDoor

namespace Go.Proofs.YtejicboemkpeoaaDoor
open Go Go.RowKit

theorem u8s_bytes (s : List UInt8) : Lib.byteCells s = u8s s := rfl

/-- What the three steps of a clone do: room is made (M), the text's bytes come into it, they are a string. -/
theorem clone_steps (s : List UInt8) (h0 : s ≠ []) (hs : s.length ≤ 1000000) (w : World) : ∃ M : Array Value,
    (∀ W : World, (Instr.makeSlice 68 (.int .i64 (s.length : Int)) (.int .i64 (s.length : Int))).run Tryd.prog W = .ok (.slice (some ⟨W.heap.size, 0, none⟩) s.length s.length) (W.alloc (.cells M 5))) ∧
    (∀ ty, (Builtin.copy_ #[68, 9] ty #[.slice (some ⟨w.heap.size, 0, none⟩) s.length s.length, .string ⟨s.toArray⟩]).run Tryd.prog (w.alloc (.cells M 5)) = .ok (.int .i64 (s.length : Int)) ((w.alloc (.cells M 5)).setRow w.heap.size (u8s s).toArray)) ∧
    (∀ ty, (Builtin.unsafeString_ #[136, 3] ty #[.pointer (some ⟨w.heap.size, 0, none⟩), .int .i64 (s.length : Int)]).run Tryd.prog ((w.alloc (.cells M 5)).setRow w.heap.size (u8s s).toArray) = .ok (.string ⟨s.toArray⟩) (((w.alloc (.cells M 5)).setRow w.heap.size (u8s s).toArray).freeze ⟨w.heap.size, 0, none⟩ s.length)) ∧
    Below w.heap.size w (((w.alloc (.cells M 5)).setRow w.heap.size (u8s s).toArray).freeze ⟨w.heap.size, 0, none⟩ s.length) := by
  obtain ⟨i0, hi, hz0, hz1, hz2⟩ := info_parts u8_info
  refine ⟨madeCells (Value.int .u8 0).cells (s.length * i0.size), fun W => ?_, fun ty => ?_, fun ty => ?_, ?_⟩
  · have h := run_make (P := Tryd.prog) W 68 5 i0 (.int .u8 0) Tryd.underlying68 hi hz0 .i64 .i64 (s.length : Int) (s.length : Int) (by omega) (by omega) (by rw [hz2]; omega) (by omega)
    simpa using h
  · have hM : (madeCells (Value.int .u8 0).cells (s.length * i0.size)).size = s.length := by rw [size_madeCells, hz1]; simp
    have h := Lib.run_copy_row_string (P := Tryd.prog) (w.alloc (.cells (madeCells (Value.int .u8 0).cells (s.length * i0.size)) 5)) 68 9 ty 5 w.heap.size 0 s.length s.length ⟨s.toArray⟩ (madeCells (Value.int .u8 0).cells (s.length * i0.size)) 5 Tryd.underlying68 (by rw [hi]; simp [hz1]) (heap_alloc_new w _) (Nat.le_refl _) (by rw [hM]; show 0 + s.length ≤ _; omega)
    rw [show (ByteArray.mk s.toArray).size = s.length from rfl] at h
    have e : ((madeCells (Value.int .u8 0).cells (s.length * i0.size)).toList.take 0 ++ Lib.byteCells (ByteArray.mk s.toArray).data.toList ++ (madeCells (Value.int .u8 0).cells (s.length * i0.size)).toList.drop (0 + s.length)).toArray = (u8s s).toArray := by
      rw [List.take_zero, List.nil_append, List.drop_of_length_le (by rw [Array.length_toList]; omega), List.append_nil, ← u8s_bytes]
    rw [e] at h
    exact h
  · have hg : ((w.alloc (.cells (madeCells (Value.int .u8 0).cells (s.length * i0.size)) 5)).setRow w.heap.size (u8s s).toArray).heap[w.heap.size]? = some (.cells (u8s s).toArray 5 (0, 0)) := setRow_heap _ _ (madeCells (Value.int .u8 0).cells (s.length * i0.size)) _ 5 (0, 0) (heap_alloc_new w _)
    exact Lib.run_unsafeString_row (P := Tryd.prog) _ 136 3 ty 5 Tryd.underlying136 (by simp [Program.cellsOf, hi, hz1]) w.heap.size (u8s s).toArray.size (by unfold World.shape?; rw [hg]) s h0 (by simp) (by omega)
      (fun j x hx => by rw [addr_add, Nat.zero_add, cell_of_row _ _ _ _ _ _ hg]; simp [u8s_get, hx])
  · have hb1 : Below w.heap.size w (w.alloc (.cells (madeCells (Value.int .u8 0).cells (s.length * i0.size)) 5)) := (Below.refl _ w).alloc (Nat.le_refl _) _
    have hb2 : Below w.heap.size (w.alloc (.cells (madeCells (Value.int .u8 0).cells (s.length * i0.size)) 5)) ((w.alloc (.cells (madeCells (Value.int .u8 0).cells (s.length * i0.size)) 5)).setRow w.heap.size (u8s s).toArray) :=
      ⟨rfl, rfl, rfl, by simp, fun k hk => setRow_other _ _ _ _ (Nat.ne_of_lt hk)⟩
    exact Lib.below_freeze (hb1.trans hb2) (p := ⟨w.heap.size, 0, none⟩) (Nat.le_refl _) _

set_option maxRecDepth 100000 in
theorem lclone_str (s : List UInt8) (w : World) (hs : s.length ≤ 1000000) :
    Calls Tryd.prog 52 #[.string ⟨s.toArray⟩] w fun e w' => e = .returned (.string ⟨s.toArray⟩) ∧ Below w.heap.size w w' := by
  by_cases h0 : s = []
  · subst h0
    go_enter Tryd.func52, Tryd.ntmps52
    go_wp2
    go_ret
    exact ⟨rfl, Below.refl _ _⟩
  · have hn : 0 < s.length := List.length_pos_iff.2 h0
    obtain ⟨M, hmk, hcp, hus, hb⟩ := clone_steps s h0 hs w
    have hcp3 := hcp 3
    have hus9 := hus 9
    have HB := Lib.hid hb
    have hsz : (ByteArray.mk s.toArray).size = s.length := rfl
    have hul : (u8s s).toArray.size = s.length := by simp
    clear hcp hus hb h0
    generalize (u8s s).toArray = Y at *
    generalize ByteArray.mk s.toArray = b at *
    generalize s.length = n at *
    subst hsz
    go_enter Tryd.func52, Tryd.ntmps52
    go_wp2
    go_ret
    exact ⟨rfl, HB.out⟩

theorem sclone_str (s : List UInt8) (w : World) (hs : s.length ≤ 1000000) :
    Calls Tryd.prog 43 #[.string ⟨s.toArray⟩] w fun e w' => e = .returned (.string ⟨s.toArray⟩) ∧ Below w.heap.size w w' := by
  have hL := lclone_str s w hs
  generalize ByteArray.mk s.toArray = b at *
  go_enter Tryd.func43, Tryd.ntmps43
  go_wp2_with (go_at_call 52; refine hL.mono ?_; rintro r w' ⟨rfl, hb⟩)
  go_ret
  exact ⟨rfl, hb⟩

end Go.Proofs.YtejicboemkpeoaaDoor
