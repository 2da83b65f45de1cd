/-
  Package object: sections of memory, and of debugging.
-/
import Derived.Test.YtidegcibmdincaaLmC
import Derived.Test.YtidegcibmdincaaSyA
import Derived.Test.YtidegcibmdincaaPut
import Derived.Test.YtidegcibmdincaaEhC
import Derived.Test.YtidegcibmdincaaEhA
import Derived.Laws.ResultCell
namespace Go.Proofs.Ytidegcibmdincaa
open Go Go.RowKit

def memB (n : Nat) : Bool := decide (n / 2 % 2 = 1)
theorem and_two (n : Nat) (hn : n < two64) : (bits .and .u64 (n : Int) 2 != 0) = memB n := by
  have h7 : (BitVec.ofInt 64 2).toNat = 2 := by decide
  have hm : ((n : Int) % ((2 ^ 64 : Nat) : Int)).toNat = n := by unfold two64 at hn; omega
  have key : (BitVec.ofInt 64 n &&& BitVec.ofInt 64 2).toNat = n &&& 2 := by
    rw [BitVec.toNat_and, BitVec.toNat_ofInt, h7, hm]
  have e1 : (n &&& 2) / 2 = n / 2 % 2 := by
    rw [Nat.and_div_two, show (2 : Nat) / 2 = 1 from rfl, Nat.and_one_is_mod]
  have e2 : (n &&& 2) ≤ 2 := Nat.and_le_right
  have hb : bits .and .u64 (n : Int) 2 = ((n &&& 2 : Nat) : Int) := by
    show IntKind.u64.wrap ((BitVec.ofInt 64 n &&& BitVec.ofInt 64 2).toNat : Nat) = _
    rw [key, IntKind.wrap_u64]
    omega
  have e3 : (n &&& 2) % 2 = 0 := by
    have := Nat.and_mod_two_pow (a := n) (b := 2) (n := 1)
    simpa using this
  rw [hb]
  unfold memB
  by_cases h : n / 2 % 2 = 1
  · rw [decide_eq_true h]
    exact bne_iff_ne.2 (by omega)
  · rw [decide_eq_false h]
    have : n &&& 2 = 0 := by omega
    rw [this]; rfl
section
variable (nm : Value) (sb : ByteArray) (kd : Int) (fl : Nat) (c3 c4 c5 c6 c7 c8 : Value) (hfl : fl < two64) (w : World)
include hfl
set_option maxHeartbeats 1600000 in
theorem alloc_any : Calls Try.prog 36 #[.agg #[nm, .int .i64 kd, .int .u64 (fl : Int), c3, c4, c5, c6, c7, c8]] w fun r w' => r = .returned (.bool (memB fl)) ∧ Below w.heap.size w w' := by
  have hb0 : Below w.heap.size w (w.alloc (.cells #[nm, .int .i64 kd, .int .u64 (fl : Int), c3, c4, c5, c6, c7, c8] 48)) := (Below.refl _ _).alloc (Nat.le_refl _) _
  have HB0 := Lib.hid hb0
  have HF := Lib.hid (and_two fl hfl)
  clear hb0
  go_enter Try.func36, Try.ntmps36
  go_wp2_with fail
  go_ret
  exact ⟨by rw [← HF.out]; rfl, HB0.out⟩

end

end Go.Proofs.Ytidegcibmdincaa
