/-
  The library's own functions that layer 3 calls, one contract each: the first byte 0 of bytes and of a string, a string cut at it; and a string put behind bytes of the call's own.
-/
import Derived.Test.YtidegcibmdincaaPoM
import Derived.Test.YtidegcibmdincaaPut
import Derived.Lib.BytesEntry
import Derived.Lib.AppendStr
import Derived.Laws.Externs
import Derived.Deep.Slices
namespace Go.Proofs.Ytidegcibmdincaa
open Go Go.RowKit

/-- Where the first byte 0 stands, or -1. -/
def zeroAt (r : List UInt8) : Int := if tlen r < r.length then (tlen r : Int) else -1

theorem indexByte_zero (r : List UInt8) : Lib.indexByte r 0 = zeroAt r := by
  unfold zeroAt
  induction r with
  | nil => rfl
  | cons b r ih =>
    unfold Lib.indexByte
    by_cases hb : b = 0
    · simp [tlen, hb]
    · have hb' : (b == 0) = false := by simpa using hb
      rw [hb', ih]
      simp only [tlen, if_neg hb, List.length_cons]
      by_cases h : tlen r < r.length
      · have h2 : tlen r + 1 < r.length + 1 := by omega
        have e : ((tlen r : Int) == -1) = false := by simp
        simp only [if_pos h, if_pos h2, e]
        simp
      · have h2 : ¬ tlen r + 1 < r.length + 1 := by omega
        simp only [if_neg h, if_neg h2]
        simp

set_option maxRecDepth 100000 in
theorem lindex_str (s : List UInt8) (w : World) :
    Calls Try.prog 50 #[.string ⟨s.toArray⟩, .int .u8 0] w fun r w' => r = .returned (.int .i64 (zeroAt s)) ∧ w = w' := by
  have hr := Lib.run_indexByteString (P := Try.prog) ⟨s.toArray⟩ 0 w
  rw [show ((0 : Int).toNat.toUInt8) = 0 from rfl, show (ByteArray.mk s.toArray).data.toList = s from rfl, indexByte_zero] at hr
  generalize zeroAt s = z at *
  generalize (ByteArray.mk s.toArray) = b at *
  go_enter Try.func50, Try.ntmps50
  go_wp2
  rw [run_callFunc_extern Try.func51 (by kernel_rfl) (by kernel_rfl) (by kernel_rfl) (e := Extern.BytealgIndexByte.indexByte) (by kernel_rfl), hr]
  simp only [Result.andThen]
  rw [Oper.upon_value]
  go_wp2
  go_ret
  exact ⟨rfl, rfl⟩

theorem index_str (s : List UInt8) (w : World) :
    Calls Try.prog 49 #[.string ⟨s.toArray⟩, .int .u8 0] w fun r w' => r = .returned (.int .i64 (zeroAt s)) ∧ w = w' := by
  have hL := fun W => lindex_str s W
  generalize zeroAt s = z at *
  generalize (ByteArray.mk s.toArray) = b at *
  go_enter Try.func49, Try.ntmps49
  go_wp2_with (go_at_call 50; refine (hL _).mono ?_; rintro r w' ⟨rfl, rfl⟩)
  go_ret
  exact ⟨rfl, rfl⟩

end Go.Proofs.Ytidegcibmdincaa
