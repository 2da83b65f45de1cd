/-
  'copy(b[o:], p)' into a row of the call's own that is known whole, and 'b[i] = x': no function of the program is named here.
-/

import Derived.Test.YtpdjpafchfbabaaDoorParts
import Derived.Laws.CopyOwn
import Derived.Lib.BufferWrite
namespace Go.Proofs.YtpdjpafchfbabaaDoor
open Go Go.RowKit

/-- Bytes laid over others from a place on. -/
def putAt (l : List UInt8) (o : Nat) (m : List UInt8) : List UInt8 := l.take o ++ m ++ l.drop (o + m.length)
theorem putAt_length (l : List UInt8) (o : Nat) (m : List UInt8) (h : o + m.length ≤ l.length) : (putAt l o m).length = l.length := by simp [putAt]; omega
theorem u8s_putAt (l : List UInt8) (o : Nat) (m : List UInt8) : u8s (putAt l o m) = (u8s l).take o ++ u8s m ++ (u8s l).drop (o + m.length) := by
  simp [putAt, u8s, List.map_take, List.map_drop]

/-- A row of bytes that is known whole. -/
abbrev RowB (w : World) (g : Nat) (l : List UInt8) : Prop := Box w g 5 (u8s l).toArray

theorem RowB.own {w : World} {g base : Nat} {l : List UInt8} (h : RowB w g l) (hb : base ≤ g) (hl : l.length ≤ maxLen) : Own w base (.slice (some ⟨g, 0, none⟩) l.length l.length) l :=
  ⟨by simp, .inr ⟨g, l.length, (u8s l).toArray, rfl, hb, h, Nat.le_refl _, hl, by simp, by simpa using List.take_of_length_le (show (u8s l).length ≤ l.length by simp)⟩⟩
theorem RowB.store {w : World} {g : Nat} {l : List UInt8} (h : RowB w g l) (i : Nat) (b : UInt8) : RowB (w.setCell ⟨g, i, none⟩ (.int .u8 (b.toNat : Int))) g (l.set i b) := by
  have := h.set i (.int .u8 (b.toNat : Int))
  unfold RowB
  rw [show u8s (l.set i b) = (u8s l).set i (.int .u8 (b.toNat : Int)) by simp [u8s, List.map_set]]
  simpa using this
theorem RowB.cell_ {w : World} {g : Nat} {l : List UInt8} (h : RowB w g l) (i : Nat) (hi : i < l.length) : w.cell? ⟨g, i, none⟩ = some (.int .u8 (l[i].toNat : Int)) := by
  rw [h.cell, List.getElem?_toArray, u8s_get, List.getElem?_eq_getElem hi]
  rfl

section
variable {P : Program}
theorem grown_setRow (w : World) (g : Nat) (cs : Array Value) : w.grownBy (w.setRow g cs) (some g) := ⟨rfl, rfl, rfl, by simp [World.setRow], fun k _ hk => setRow_other w g k cs (fun e => hk (by rw [e]))⟩

theorem run_copy_bytes (w : World) (t ty : TypeId) (i : TypeInfo) (ht : P.underlying t = some (.slice 5)) (hi : P.info? 5 = some i) (hs : i.size = 1)
    (g o dl dc : Nat) (l : List UInt8) (h : RowB w g l) (A : Option Addr) (c B : Nat) (m : List UInt8) (hr : Rd w B A m) (hm : 0 < m.length) (hd : m.length ≤ dl) (hf : o + m.length ≤ l.length) :
    ∃ w', (Builtin.copy_ #[t, t] ty #[.slice (some ⟨g, o, none⟩) dl dc, .slice A m.length c]).run P w = .ok (goInt m.length) w' ∧ RowB w' g (putAt l o m) ∧ w.grownBy w' (some g) := by
  obtain ⟨b, q, rfl, _, hc⟩ := hr hm
  have hrun := run_copy_row (P := P) w t t ty 5 g o dl dc ⟨b, q, none⟩ m.length c (u8s l).toArray 5 (u8s m) ht (by rw [hi]; simp [hs]) h (by rw [u8s_length]; exact (Nat.min_eq_left hd).symm)
    (fun j v hv => by
      rw [u8s_get] at hv
      rcases hj : m[j]? with _ | x
      · rw [hj] at hv; cases hv
      · rw [hj] at hv
        rw [addr_add, hc j x hj]
        simpa using hv) (by simpa using hf) (u8s_one m)
  rw [u8s_length] at hrun
  refine ⟨_, hrun, ?_, grown_setRow w g _⟩
  have := setRow_heap w g _ ((u8s l).take o ++ u8s m ++ (u8s l).drop (o + m.length)).toArray 5 _ h
  unfold RowB Box
  rw [u8s_putAt]
  exact this

theorem step_copy_bytes {w : World} {ops : Array Oper} {o : Oper} {a : Act} {K : Act → World → Prop} {Q : Exit → Act → World → Prop} {E : Prop} (hw : Region.wanted o (yielded ops a.tmps) = true) (s x : Operand) (t : TypeId)
    (ho : o.op = .call { callee := .builtin .copy, args := #[s, x], argTypes := #[t, t] })
    (i : TypeInfo) (ht : P.underlying t = some (.slice 5)) (hi : P.info? 5 = some i) (hs : i.size = 1)
    (g p dl dc : Nat) (hv : a.eval s = .slice (some ⟨g, p, none⟩) dl dc) (l : List UInt8) (h : RowB w g l) (A : Option Addr) (n c B : Nat) (m : List UInt8) (hn : m.length = n) (hx : a.eval x = .slice A n c) (hr : Rd w B A m)
    (hm : 0 < m.length) (hd : m.length ≤ dl) (hf : p + m.length ≤ l.length)
    (hk : ∀ w', RowB w' g (putAt l p m) → w.grownBy w' (some g) → K (a.put o.dst (goInt m.length)) w') :
    if Region.wanted o (yielded ops a.tmps) = true then Oper.wp P o a w K Q else E := by
  subst hn
  rw [if_pos hw]
  obtain ⟨w', hrun, h2, h3⟩ := run_copy_bytes (P := P) w t o.type i ht hi hs g p dl dc l h A c B m hr hm hd hf
  unfold Oper.wp execOp
  simp only [ho, resolve, invoke, builtin, Sem.run_bind, Sem.run_pure, Result.andThen_ok, List.map_toArray, List.map_cons, List.map_nil, hv, hx, hrun]
  exact hk w' h2 h3

end

end Go.Proofs.YtpdjpafchfbabaaDoor
