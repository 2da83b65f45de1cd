/-
  The contract of Put: behind bytes of the call's own it lays a number's lowest bytes.
-/
import Derived.Test.YteadabmlleipiaaCurB
import Derived.Test.YteadabmlleipiaaNums
import Derived.Deep.DeepMust
namespace Go.Proofs.Yteadabmlleipiaa
open Go Go.RowKit


theorem nextGot_le (l : List UInt8) (a : Nat) (e : Int) (n : Nat) : (nextGot l a e n).length ≤ n := by
  unfold nextGot; split
  · simp; omega
  · simp

set_option maxHeartbeats 400000 in
theorem uint_cur {w : World} {g : Nat} {v : Value} {l : List UInt8} {a : Nat} {e : Int} (h : Cur w g v l a e) (s : Int) (hs : -9223372036854775808 ≤ s ∧ s ≤ 9223372036854775807) (hlen : l.length ≤ 140737488355328) :
    Calls Try.prog 109 #[.pointer (some ⟨g, 0, none⟩), .int .i64 s] w fun r w' =>
      r = .returned (.int .u64 (leNat (nextGot l a e (clampOf s)) : Int)) ∧ Cur w' g v l (nextAt l a e (clampOf s)) (nextErr l a e (clampOf s)) ∧ w.grownBy w' (some g) := by
  have hc8 := clampOf_le s
  have hc := fun W => clamp_any s W hs
  have hN := fun W (hW : W = w) => next_any (w := W) (hW ▸ h) (clampOf s) hlen
  clear hs
  generalize clampOf s = n at *
  go_enter Try.func109, Try.ntmps109
  go_wp2_with (first | (go_at_call 76; refine (hc _).mono ?_; rintro r w' ⟨rfl, rfl⟩) | (go_at_call 113; refine (hN _ rfl).mono ?_; rintro r w' ⟨A, rfl, hR, hC, hG⟩))
  have hm8 : (nextGot l a e n).length ≤ 8 := by have := nextGot_le l a e n; omega
  clear hN hc
  have HC := Lib.hid hC
  have HG := Lib.hid hG
  clear hC hG
  generalize hgot : nextGot l a e n = got at *
  have HGOT := Lib.hid hgot
  clear hgot
  go_loop [5, 14] (fun acc i => ∃ k : Nat, k ≤ got.length ∧ i = .int .i64 k ∧ acc = .int .u64 (leNat (got.take k))) (fun _ i => got.length - (intOf i).toNat)
  case atStart => exact ⟨0, Nat.zero_le _, rfl, rfl⟩
  case round =>
    obtain ⟨k, hk, rfl, rfl⟩ := hrel
    by_cases hlt : k < got.length
    · obtain ⟨b, o, rfl, hb, hcell⟩ := hR (by omega)
      have hck := hcell k _ (List.getElem?_eq_getElem hlt)
      clear hcell hR
      have hst := or_shift k (leNat (got.take k)) got[k].toNat (by omega) (leNat_take_lt _ _) got[k].toNat_lt
      have HS := Lib.hid (show bits BinOp.or IntKind.u64 (leNat (got.take k) : Int) (IntKind.u64.wrap (IntKind.u64.wrap (got[k].toNat : Int) * 2 ^ (8 * k))) = (leNat (got.take (k + 1)) : Int) by rw [hst, leNat_take_succ got k hlt])
      clear hst
      go_wp2
      go_round
      case rel => exact ⟨k + 1, by omega, by go_num, by rw [HS.out]⟩
      case measure => simp [intOf]; omega
    · have hkk : k = got.length := by omega
      have HL := Lib.hid (show leNat (got.take k) = leNat got by rw [hkk, List.take_length])
      clear hkk
      go_wp2
      go_ret
      exact ⟨by rw [HGOT.out, ← HL.out]; rfl, HC.out, HG.out⟩

theorem u8_cur {w : World} {g : Nat} {v : Value} {l : List UInt8} {a : Nat} {e : Int} (h : Cur w g v l a e) (hlen : l.length ≤ 140737488355328) :
    Calls Try.prog 100 #[.pointer (some ⟨g, 0, none⟩)] w fun r w' =>
      r = .returned (.int .u64 (leNat (nextGot l a e 1) : Int)) ∧ Cur w' g v l (nextAt l a e 1) (nextErr l a e 1) ∧ w.grownBy w' (some g) := by
  have hU := fun W (hW : W = w) => uint_cur (w := W) (hW ▸ h) 1 (by omega) hlen
  have hc : clampOf 1 = 1 := rfl
  simp only [hc] at hU
  clear hc h hlen
  go_enter Try.func100, Try.ntmps100
  go_wp2_with (go_at_call 109; refine (hU _ rfl).mono ?_; rintro r w' ⟨rfl, hC, hG⟩)
  go_ret
  exact ⟨rfl, hC, hG⟩

end Go.Proofs.Yteadabmlleipiaa

namespace Go.Proofs.Yteadabmlleipiaa
open Go Go.RowKit

theorem u8_info : (Try.prog.info? 5).map (fun i => (i.zero, i.size, i.bytes)) = some (some (.int .u8 0), 1, 1) := by kernel_rfl

theorem own_ge {w : World} {base : Nat} {v : Value} {l : List UInt8} (h : Own w base v l) : ∀ k, v.ownBlock = some k → base ≤ k ∧ k < w.heap.size := fun k hk => h.lt k hk
/-- 2 to the 64. -/
def two64 : Nat := 18446744073709551616
/-- Sum, and whether it is not too great; whether items lie within others. -/
def sumOf (a b : Nat) : Nat := if a + b < two64 then a + b else 0
def sumOk (a b : Nat) : Bool := decide (a + b < two64)
def withinOf (a n m : Nat) : Bool := sumOk a n && decide (sumOf a n ≤ m)
theorem within_iff (a n m : Nat) (hm : m < two64) : withinOf a n m = decide (a + n ≤ m) := by
  unfold withinOf sumOk sumOf
  by_cases h : a + n < two64
  · simp [h]
  · rw [if_neg h, decide_eq_false h]
    simp; omega
theorem sum_fits (a b : Nat) (h : a + b < two64) : (sumOf a b : Int) = (a : Int) + (b : Int) ∧ sumOk a b = true := by
  unfold sumOf sumOk
  rw [if_pos h]; simp [h]
theorem sum_over (a b : Nat) (h : ¬ a + b < two64) : (sumOf a b : Int) = 0 ∧ sumOk a b = false := by
  unfold sumOf sumOk
  rw [if_neg h]; simp; omega
theorem wrap_fits (a b : Nat) (h : a + b < two64) : IntKind.u64.wrap ((a : Int) + (b : Int)) = (a : Int) + (b : Int) := by
  unfold two64 at h
  rw [IntKind.wrap_u64]; omega
theorem wrap_over (a b : Nat) (ha : a < two64) (hb : b < two64) (h : ¬ a + b < two64) : IntKind.u64.wrap ((a : Int) + (b : Int)) < (a : Int) := by
  unfold two64 at *
  rw [IntKind.wrap_u64]; omega

theorem sum_any (a b : Nat) (w : World) (ha : a < two64) (hb : b < two64) :
    Calls Try.prog 73 #[.int .u64 (a : Int), .int .u64 (b : Int)] w fun r w' => r = .returned (.tuple #[.int .u64 (sumOf a b : Int), .bool (sumOk a b)]) ∧ w = w' := by
  by_cases h : a + b < two64
  · have H := Lib.hid (sum_fits a b h)
    have hs : IntKind.u64.wrap ((a : Int) + (b : Int)) = (a : Int) + (b : Int) := wrap_fits a b h
    clear h ha hb
    go_enter Try.func73, Try.ntmps73
    go_wp2
    go_ret2
    exact ⟨by rw [H.out.1, H.out.2]; rfl, rfl⟩
  · have H := Lib.hid (sum_over a b h)
    obtain ⟨s, hs, h0⟩ : ∃ s : Int, IntKind.u64.wrap ((a : Int) + (b : Int)) = s ∧ s < (a : Int) := ⟨_, rfl, wrap_over a b ha hb h⟩
    clear h ha hb
    go_enter Try.func73, Try.ntmps73
    go_wp2
    go_ret2
    exact ⟨by rw [H.out.1, H.out.2]; rfl, rfl⟩

theorem within_any (a n m : Nat) (w : World) (ha : a < two64) (hb : n < two64) :
    Calls Try.prog 44 #[.int .u64 (a : Int), .int .u64 (n : Int), .int .u64 (m : Int)] w fun r w' => r = .returned (.bool (withinOf a n m)) ∧ w = w' := by
  have hS := sum_any a n w ha hb
  clear ha hb
  have hW : withinOf a n m = (sumOk a n && decide (sumOf a n ≤ m)) := rfl
  have HW := Lib.hid hW
  clear hW
  generalize sumOf a n = s at *
  generalize sumOk a n = k at *
  cases k
  all_goals
    by_cases hd : s ≤ m
    all_goals
      go_enter Try.func44, Try.ntmps44
      go_wp2_with (go_at_call 73; refine hS.mono ?_; rintro r w' ⟨rfl, rfl⟩)
      go_ret
      exact ⟨by rw [HW.out]; simp [hd], rfl⟩

end Go.Proofs.Yteadabmlleipiaa

namespace Go.Proofs.Yteadabmlleipiaa
open Go Go.RowKit

theorem only_trans {a b c : World} {r s : Option Nat} (h : a.grownBy b r) (k : b.grownBy c s) (hs : s = r ∨ ∀ x, s = some x → a.heap.size ≤ x) : a.grownBy c r :=
  ⟨k.os.trans h.os, k.tape.trans h.tape, k.output.trans h.output, Nat.le_trans h.size k.size, fun i hi hne => (k.block i (Nat.lt_of_lt_of_le hi h.size) (by
    rintro e
    rcases hs with hs | hs
    · exact hne (e.trans hs)
    · have := hs i e.symm; omega)).trans (h.block i hi hne)⟩

/-- Bytes that were laid behind bytes of the call's own. -/
def Laid (w w' : World) (base : Nat) (v v' : Value) (l' : List UInt8) : Prop :=
  Own w' base v' l' ∧ w.grownBy w' v.ownBlock ∧ (v'.ownBlock = v.ownBlock ∨ ∀ x, v'.ownBlock = some x → w.heap.size ≤ x)

theorem Laid.refl {w : World} {base : Nat} {v : Value} {l : List UInt8} (h : Own w base v l) : Laid w w base v v l := ⟨h, ⟨rfl, rfl, rfl, Nat.le_refl _, fun _ _ _ => rfl⟩, .inl rfl⟩
theorem Laid.trans {w w1 w2 : World} {base : Nat} {v v1 v2 : Value} {l1 l2 : List UInt8} (h : Laid w w1 base v v1 l1) (k : Laid w1 w2 base v1 v2 l2) : Laid w w2 base v v2 l2 := by
  refine ⟨k.1, only_trans h.2.1 k.2.1 h.2.2, ?_⟩
  rcases k.2.2 with e | e
  · rw [e]; exact h.2.2
  · exact .inr fun x hx => Nat.le_trans h.2.1.size (e x hx)
theorem Laid.of_append {w w0 w1 : World} {base : Nat} {v v1 : Value} {l1 : List UInt8} (hb : Below w.heap.size w w0) (h1 : Own w1 base v1 l1) (hg : w0.grownBy w1 v.ownBlock) (ha : v1.ownBlock = v.ownBlock ∨ v1.ownBlock = some w0.heap.size) : Laid w w1 base v v1 l1 := by
  refine ⟨h1, only_trans (only_below hb v.ownBlock) hg (.inl rfl), ?_⟩
  rcases ha with e | e
  · exact .inl e
  · exact .inr fun x hx => by rw [e] at hx; injection hx with hx; have := hb.size; omega

/-- One byte in a block of its own, as 'append' lays it first. -/
theorem rd_one (w : World) (x : Int) (b : UInt8) (h : x = (b.toNat : Int)) : Rd (w.alloc (.cells #[.int .u8 x] 5)) (w.heap.size + 1) (some ⟨w.heap.size, 0, none⟩) [b] := by
  subst h
  exact fun _ => ⟨w.heap.size, 0, rfl, by omega, fun j u hu => by
    have h := (Box.new w 5 #[.int .u8 (b.toNat : Int)]).cell j
    rw [Nat.zero_add, h]
    match j, hu with
    | 0, hu => simp at hu; subst hu; rfl⟩

theorem byte_at (x k : Nat) : ((x : Int) / 2 ^ (8 * k) % 256) = ((UInt8.ofNat (x / 256 ^ k % 256)).toNat : Int) := by
  have h : (UInt8.ofNat (x / 256 ^ k % 256)).toNat = x / 256 ^ k % 256 := by simp
  have e : (256 : Nat) ^ k = 2 ^ (8 * k) := by rw [Nat.pow_mul]
  rw [h, e]
  simp

set_option maxHeartbeats 400000 in
theorem put_any {w : World} {base : Nat} {v : Value} {l : List UInt8} (hown : Own w base v l) (hbase : base ≤ w.heap.size) (x : Nat) (s : Int) (hs : -9223372036854775808 ≤ s ∧ s ≤ 9223372036854775807) (hlen : l.length ≤ 140737488355000) :
    Calls Try.prog 47 #[v, .int .u64 (x : Int), .int .i64 s] w fun r w' => ∃ v', r = .returned v' ∧ Laid w w' base v v' (l ++ leBytes x (clampOf s)) := by
  obtain ⟨i0, hi, hz0, hz1, hz2⟩ := info_parts u8_info
  have hc8 := clampOf_le s
  have hc := fun W => clamp_any s W hs
  have HO := Lib.hid (Laid.refl hown)
  clear hs hown
  generalize clampOf s = n at *
  go_enter Try.func47, Try.ntmps47
  go_wp2_with (go_at_call 76; refine (hc _).mono ?_; rintro r w' ⟨rfl, rfl⟩)
  go_loopw [0, 10] (fun u i wr => ∃ k : Nat, k ≤ n ∧ i = .int .i64 k ∧ Laid w wr base v u (l ++ leBytes x k)) (fun _ i _ => n - (intOf i).toNat)
  case atStart => exact ⟨0, Nat.zero_le _, rfl, by simpa [leBytes] using HO.out⟩
  case round =>
    obtain ⟨k, hk, rfl, hL⟩ := hrel
    have HL := Lib.hid hL
    clear hL HO
    by_cases hlt : k < n
    · have hk8 : (8 * (k : Int)) < 64 := by omega
      have hbyte := byte_at x k
      have hsum : (l ++ leBytes x k).length + [UInt8.ofNat (x / 256 ^ k % 256)].length ≤ 140737488355328 := by simp; omega
      have hb1 : base ≤ (wr.alloc (.cells #[.int .u8 ((x : Int) / 2 ^ (8 * k) % 256)] 5)).heap.size := by
        have := HL.out.2.1.size
        simp; omega
      have HR := Lib.hid (rd_one wr _ _ hbyte)
      clear hbyte
      go_wp2_with (at_builtin; refine wpList_append_bytes (by rfl) (.tmp 13) (.tmp 19) _ (by rfl) base i0 Try.underlying41 hi hz0 hz1 hz2 u0 (l ++ leBytes x k) (by rfl) (HL.out.1.alloc _) (wr.heap.size + 1) (some ⟨wr.heap.size, 0, none⟩) 1 1 [UInt8.ofNat (x / 256 ^ k % 256)] rfl (by rfl) HR.out hsum hb1 ?_; intro v1 w1 hown1 hg1 hat1)
      have HL1 := Lib.hid (HL.out.trans (Laid.of_append ((Below.refl wr.heap.size wr).alloc (Nat.le_refl _) _) hown1 hg1 hat1))
      clear hown1 hg1 hat1
      go_roundw
      case rel => exact ⟨k + 1, by omega, by go_num, by rw [leBytes_succ, ← List.append_assoc]; exact HL1.out⟩
      case measure => simp [intOf]; omega
    · have hkn : k = n := by omega
      have HL1 := Lib.hid (show Laid w wr base v u0 (l ++ leBytes x n) by rw [← hkn]; exact HL.out)
      clear hkn
      go_wp2
      go_ret
      exact ⟨_, rfl, HL1.out⟩

end Go.Proofs.Yteadabmlleipiaa
