/-
  strings.Cut at a byte 0; a string put behind bytes of the call's own.
-/
import Derived.Test.YtejicboemkpeoaaGreatDoorPoM
import Derived.Test.YtejicboemkpeoaaGreatDoorPut
import Derived.Lib.BytesEntry
import Derived.Lib.AppendStr
import Derived.Laws.Externs
import Derived.Deep.Slices
namespace Go.Proofs.YtejicboemkpeoaaGreatDoor
open Go Go.RowKit

/-- Where the first byte 0 stands, or -1. -/
def zeroAt (r : List UInt8) : Int := if tlen r < r.length then (tlen r : Int) else -1

theorem indexByte_zero (r : List UInt8) : Lib.indexByte r 0 = zeroAt r := by
  unfold zeroAt
  induction r with
  | nil => rfl
  | cons b r ih =>
    unfold Lib.indexByte
    by_cases hb : b = 0
    · simp [tlen, hb]
    · have hb' : (b == 0) = false := by simpa using hb
      rw [hb', ih]
      simp only [tlen, if_neg hb, List.length_cons]
      by_cases h : tlen r < r.length
      · have h2 : tlen r + 1 < r.length + 1 := by omega
        have e : ((tlen r : Int) == -1) = false := by simp
        simp only [if_pos h, if_pos h2, e]
        simp
      · have h2 : ¬ tlen r + 1 < r.length + 1 := by omega
        simp only [if_neg h, if_neg h2]
        simp

set_option maxRecDepth 100000 in
theorem lindex_str (s : List UInt8) (w : World) :
    Calls Tryz.prog 86 #[.string ⟨s.toArray⟩, .int .u8 0] w fun r w' => r = .returned (.int .i64 (zeroAt s)) ∧ w = w' := by
  have hr := Lib.run_indexByteString (P := Tryz.prog) ⟨s.toArray⟩ 0 w
  rw [show ((0 : Int).toNat.toUInt8) = 0 from rfl, show (ByteArray.mk s.toArray).data.toList = s from rfl, indexByte_zero] at hr
  generalize zeroAt s = z at *
  generalize (ByteArray.mk s.toArray) = b at *
  go_enter Tryz.func86, Tryz.ntmps86
  go_wp2
  rw [run_callFunc_extern Tryz.func131 (by kernel_rfl) (by kernel_rfl) (by kernel_rfl) (e := Extern.BytealgIndexByte.indexByte) (by kernel_rfl), hr]
  simp only [Result.andThen]
  rw [Oper.upon_value]
  go_wp2
  go_ret
  exact ⟨rfl, rfl⟩

theorem index_str (s : List UInt8) (w : World) :
    Calls Tryz.prog 49 #[.string ⟨s.toArray⟩, .int .u8 0] w fun r w' => r = .returned (.int .i64 (zeroAt s)) ∧ w = w' := by
  have hL := fun W => lindex_str s W
  generalize zeroAt s = z at *
  generalize (ByteArray.mk s.toArray) = b at *
  go_enter Tryz.func49, Tryz.ntmps49
  go_wp2_with (go_at_call 86; refine (hL _).mono ?_; rintro r w' ⟨rfl, rfl⟩)
  go_ret
  exact ⟨rfl, rfl⟩

end Go.Proofs.YtejicboemkpeoaaGreatDoor

namespace Go.Proofs.YtejicboemkpeoaaGreatDoor
open Go Go.RowKit

set_option maxHeartbeats 2000000 in
set_option maxRecDepth 100000 in
theorem sindex_zero (s : List UInt8) (w : World) :
    Calls Tryz.prog 156 #[.string ⟨s.toArray⟩, .string ⟨#[0]⟩] w fun r w' => r = .returned (.int .i64 (zeroAt s)) ∧ w = w' := by
  have hL := fun W => lindex_str s W
  have hb : ([(0 : UInt8)] == (ByteArray.mk s.toArray).toList) = true → zeroAt s = 0 := fun h => by
    have e : (ByteArray.mk s.toArray).data.toList = [0] := by rw [← Lib.toList_data]; exact (beq_iff_eq.1 h).symm
    have e2 : s = [0] := e
    subst e2
    rfl
  have HB := Lib.hid hb
  clear hb
  generalize zeroAt s = z at *
  generalize ByteArray.mk s.toArray = b at *
  go_enter Tryz.func156, Tryz.ntmps156
  go_wp2_with (go_at_call 86; refine (hL _).mono ?_; rintro r w' ⟨rfl, rfl⟩)
  · have h : ([0] == b.toList) = true := by assumption
    go_ret
    exact ⟨by rw [HB.out h]; rfl, rfl⟩
  · go_ret
    exact ⟨rfl, rfl⟩

/-- The text ahead of the first byte 0. -/
abbrev headT (s : List UInt8) : ByteArray := ⟨(s.take (tlen s)).toArray⟩

theorem slice_head (s : List UInt8) : (ByteArray.mk s.toArray).extract 0 (tlen s) = headT s := by
  apply ByteArray.ext
  simp

set_option maxHeartbeats 2000000 in
theorem lcut_zero (s : List UInt8) (hs : s.length ≤ 140737488355328) (w : World) :
    Calls Tryz.prog 212 #[.string ⟨s.toArray⟩, .string ⟨#[0]⟩] w fun r w' => (∃ t f, r = .returned (.tuple #[.string (headT s), t, f])) ∧ ∃ n, w' = w.drewN n := by
  have hL := fun W => sindex_zero s W
  by_cases h : tlen s < s.length
  · have hz : zeroAt s = (tlen s : Int) := if_pos h
    have hx := Lib.hid (slice_head s)
    have hsz : (ByteArray.mk s.toArray).size = s.length := rfl
    rw [hz] at hL
    have hle := tlen_le s
    generalize headT s = t at *
    clear hz
    generalize tlen s = k at *
    generalize ByteArray.mk s.toArray = b at *
    generalize s.length = n at *
    subst hsz
    have b1 : (k : Int) ≤ (b.size : Int) := by omega
    have b2 : (k : Int) + 1 ≤ (b.size : Int) := by omega
    have b3 : (0 : Int) ≤ (k : Int) + 1 := by omega
    have s1 : IntKind.i64.wrap ((k : Int) + 1) = (k : Int) + 1 := by rw [IntWalk.i64_in _ (by omega)]
    go_enter Tryz.func212, Tryz.ntmps212
    go_wp2_with (go_at_call 156; refine (hL _).mono ?_; rintro r w' ⟨rfl, rfl⟩)
    go_quiet (fail)
    go_wp2
    go_ret3
    exact ⟨⟨.string (b.extract (k + 1) b.size), .bool true, by rw [← hx.out]; rfl⟩, _, rfl⟩
  · have hz : zeroAt s = -1 := if_neg h
    have he : headT s = ⟨s.toArray⟩ := by
      have := tlen_le s
      rw [headT, show tlen s = s.length by omega, List.take_length]
    rw [hz] at hL
    rw [he]
    generalize ByteArray.mk s.toArray = b at *
    clear h hz he hs
    go_enter Tryz.func212, Tryz.ntmps212
    go_wp2_with (go_at_call 156; refine (hL _).mono ?_; rintro r w' ⟨rfl, rfl⟩)
    go_ret3
    exact ⟨⟨_, _, rfl⟩, 0, rfl⟩

theorem cut_zero (s : List UInt8) (hs : s.length ≤ 140737488355328) (w : World) :
    Calls Tryz.prog 205 #[.string ⟨s.toArray⟩, .string ⟨#[0]⟩] w fun r w' => (∃ t f, r = .returned (.tuple #[.string (headT s), t, f])) ∧ ∃ n, w' = w.drewN n := by
  have hL := fun W => lcut_zero s hs W
  generalize headT s = t at *
  generalize ByteArray.mk s.toArray = b at *
  go_enter Tryz.func205, Tryz.ntmps205
  go_wp2_with (go_at_call 212; refine (hL _).mono ?_; rintro r w' ⟨⟨u, f, rfl⟩, n, rfl⟩)
  go_ret3
  exact ⟨⟨_, _, rfl⟩, _, rfl⟩

/-! 'append' of a string's bytes to a row of the call's own, with its block told. -/
theorem strCells_u8s (m : List UInt8) : Lib.strCells ⟨m.toArray⟩ = u8s m := rfl

section
variable {P : Program}
theorem run_append_str (w : World) (base : Nat) (t u ty : TypeId) (i : TypeInfo) (ht : P.underlying t = some (.slice 5)) (hu : P.underlying u = some .string) (hi : P.info? 5 = some i) (hz : i.zero = some (.int .u8 0))
    (hs : i.size = 1) (hy : i.bytes = 1) (v : Value) (l : List UInt8) (hown : Own w base v l) (m : List UInt8)
    (hl : l.length + m.length ≤ 140737488355328) (hbase : base ≤ w.heap.size) :
    ∃ v' w', (Builtin.append_ #[t, u] ty #[v, .string ⟨m.toArray⟩]).run P w = .ok v' w' ∧ Own w' base v' (l ++ m) ∧ w.grownBy w' v.ownBlock ∧ (v'.ownBlock = v.ownBlock ∨ ∀ x, v'.ownBlock = some x → w.heap.size ≤ x) := by
  have hm : (ByteArray.mk m.toArray).size = m.length := rfl
  have big : l.length + (ByteArray.mk m.toArray).size ≤ maxLen := by rw [hm]; unfold maxLen; omega
  rcases hown.2 with ⟨rfl, h0⟩ | ⟨g, cap, cur, rfl, hb, hg, hc, hmx, hsz, htk⟩
  · have hl0 : l = [] := List.eq_nil_of_length_eq_zero h0
    subst hl0
    obtain ⟨v', w', h1, h2, h3, _⟩ := Lib.run_append_own_string (P := P) w w.heap.size t u ty 5 i ht hu hi hz hs hy (.slice none 0 0) 0 (u8s []) (World.ownsRow_nil w w.heap.size 5 1) ⟨m.toArray⟩ big (by rw [hm]; simpa using hl) (Nat.le_refl _)
    rw [strCells_u8s, hm] at h2
    have h2' : Own w' w.heap.size v' m := by simpa [Own, u8s_nil] using h2
    refine ⟨v', w', h1, ⟨by simp, h2'.2.imp id fun ⟨g', cap', cur', p, q, r⟩ => ⟨g', cap', cur', p, Nat.le_trans hbase q, by simpa using r⟩⟩, h3, .inr fun x hx => (own_ge h2' x hx).1⟩
  · obtain ⟨v', w', h1, h2, h3, _⟩ := Lib.run_append_own_string (P := P) w base t u ty 5 i ht hu hi hz hs hy (.slice (some ⟨g, 0, none⟩) l.length cap) l.length (u8s l) hown ⟨m.toArray⟩ big (by rw [hm]; exact hl) hbase
    have h2' : Own w' base v' (l ++ m) := by
      rw [Own, List.length_append, u8s_append]
      exact h2
    refine ⟨v', w', h1, h2', h3, ?_⟩
    by_cases hroom : l.length + m.length ≤ cap
    · have hr := Lib.run_append_room_string (P := P) w t u ty 5 i ht hu hi hs g l.length cap cur hg ⟨m.toArray⟩ hroom (by rw [hm]; omega)
      rw [h1] at hr
      injection hr with e _
      rw [e]
      exact .inl rfl
    · have holds : ∀ j x, (u8s l)[j]? = some x → w.cell? ((⟨g, 0, none⟩ : Addr).add j) = some x := hown.cells (g := g) rfl
      have hr := Lib.run_append_grow_string (P := P) w t u ty 5 i (.int .u8 0) ht hu hi hz ⟨g, 0, none⟩ l.length cap (u8s l) (by rw [hs]; simp) holds ⟨m.toArray⟩ (by rw [hm]; omega) (by rw [hm]; omega) (by rw [hy, hm]; exact growslice_fits (by omega) (by omega))
      rw [h1] at hr
      injection hr with e _
      rw [e]
      exact .inr fun x hx => by simp [Value.ownBlock] at hx; omega

theorem wpList_append_str {w : World} {ops : Array Oper} {rest : List Oper} {o : Oper} {a : Act} {Q : Exit → Act → World → Prop} (hgd : o.guard = none) (s x : Operand) (t u : TypeId)
    (ho : o.op = .call { callee := .builtin .append, args := #[s, x], argTypes := #[t, u] })
    (base : Nat) (i : TypeInfo) (ht : P.underlying t = some (.slice 5)) (hu : P.underlying u = some .string) (hi : P.info? 5 = some i) (hz : i.zero = some (.int .u8 0)) (hs : i.size = 1) (hy : i.bytes = 1)
    (v : Value) (l : List UInt8) (hv : a.eval s = v) (hown : Own w base v l) (m : List UInt8) (hx : a.eval x = .string ⟨m.toArray⟩)
    (hl : l.length + m.length ≤ 140737488355328) (hbase : base ≤ w.heap.size)
    (h : ∀ v' w', Own w' base v' (l ++ m) → w.grownBy w' v.ownBlock → (v'.ownBlock = v.ownBlock ∨ ∀ x, v'.ownBlock = some x → w.heap.size ≤ x) → wpList P ops Q rest (a.put o.dst v') w') :
    wpList P ops Q (o :: rest) a w := by
  refine wpList_plain hgd fun K hK => ?_
  obtain ⟨v', w', hrun, h2, h3, h4⟩ := run_append_str (P := P) w base t u o.type i ht hu hi hz hs hy v l hown m hl hbase
  unfold Oper.wp execOp
  simp only [ho, resolve, invoke, builtin, Sem.run_bind, Sem.run_pure, Result.andThen_ok, List.map_toArray, List.map_cons, List.map_nil, hv, hx, hrun]
  exact hK _ _ (h v' w' h2 h3 h4)
end

end Go.Proofs.YtejicboemkpeoaaGreatDoor
