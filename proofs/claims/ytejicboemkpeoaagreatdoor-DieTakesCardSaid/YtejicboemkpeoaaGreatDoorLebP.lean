/-
  The contracts of SizeU, SizeS, put, PutU, PutS, PutWide.
-/
import Derived.Test.YtejicboemkpeoaaGreatDoorLen64
import Derived.Test.YtejicboemkpeoaaGreatDoorLebQ
import Derived.Test.YtejicboemkpeoaaGreatDoorPut
namespace Go.Proofs.YtejicboemkpeoaaGreatDoor
open Go Go.RowKit

theorem hold_any (b : Nat) (hb : b ≤ 100) (w : World) :
    Calls Tryz.prog 174 #[.int .i64 (b : Int)] w fun r w' => r = .returned (.int .i64 (sizeBits b : Int)) ∧ w = w' := by
  have H := Lib.hid (show ((sizeBits b : Nat) : Int) = ((b : Int) + 6) / 7 by unfold sizeBits; omega)
  go_enter Tryz.func174, Tryz.ntmps174
  go_wp2
  go_ret
  refine ⟨?_, rfl⟩
  rw [H.out]
  refine congrArg Ending.returned (congrArg (Value.int IntKind.i64) ?_)
  omega

theorem sizeU_any (n : Nat) (hn : n < 2 ^ 64) (w : World) :
    Calls Tryz.prog 143 #[.int .u64 (n : Int)] w fun r w' => r = .returned (.int .i64 (sizeU n : Int)) ∧ w = w' := by
  have h64 := (bitLen_le_iff n 64 hn (by omega)).2 hn
  have hL := fun W => len64_any (n : Int) W (by omega) (by omega)
  simp only [Int.toNat_natCast] at hL
  have hH := fun W => hold_any (max (Lib.bitLen n) 1) (by omega) W
  have HS := Lib.hid (show sizeBits (max (Lib.bitLen n) 1) = sizeU n from rfl)
  have hm : max (Lib.bitLen n : Int) 1 = ((max (Lib.bitLen n) 1 : Nat) : Int) := by omega
  clear h64 hn
  generalize Lib.bitLen n = b at *
  go_enter Tryz.func143, Tryz.ntmps143
  go_wp2_with (first | (go_at_call 160; refine (hL _).mono ?_; rintro r w' ⟨rfl, rfl⟩) | (go_at_call 174; refine (hH _).mono ?_; rintro r w' ⟨rfl, rfl⟩))
  go_ret
  exact ⟨by rw [HS.out]; rfl, rfl⟩

theorem xor_sign (n : Int) (h : -9223372036854775808 ≤ n ∧ n ≤ 9223372036854775807) : bits .xor .i64 n (n / 9223372036854775808) = if 0 ≤ n then n else -1 - n := by
  show IntKind.i64.wrap ((BitVec.ofInt 64 n ^^^ BitVec.ofInt 64 (n / 9223372036854775808)).toNat : Nat) = _
  rw [IntKind.wrap_i64]
  split
  · rw [show n / 9223372036854775808 = 0 by omega, show BitVec.ofInt 64 0 = 0#64 from rfl, BitVec.xor_zero, BitVec.toNat_ofInt]
    omega
  · rw [show n / 9223372036854775808 = -1 by omega, show BitVec.ofInt 64 (-1) = BitVec.allOnes 64 by decide, BitVec.xor_allOnes, BitVec.toNat_not, BitVec.toNat_ofInt]
    omega

theorem sizeS_any (n : Int) (hn : -9223372036854775808 ≤ n ∧ n ≤ 9223372036854775807) (w : World) :
    Calls Tryz.prog 208 #[.int .i64 n] w fun r w' => r = .returned (.int .i64 (sizeS n : Int)) ∧ w = w' := by
  obtain ⟨m, hm⟩ : ∃ m : Nat, m = (if 0 ≤ n then n.toNat else (-1 - n).toNat) := ⟨_, rfl⟩
  have hx : bits .xor .i64 n (n / 9223372036854775808) = (m : Int) := by
    rw [xor_sign n hn, hm]
    split <;> omega
  have hm63 : m < 2 ^ 63 := by rw [hm]; split <;> omega
  have h63 := (bitLen_le_iff m 63 (by omega) (by omega)).2 hm63
  have hL := fun W => len64_any (m : Int) W (by omega) (by omega)
  simp only [Int.toNat_natCast] at hL
  have hH := fun W => hold_any (Lib.bitLen m + 1) (by omega) W
  have HS := Lib.hid (show sizeBits (Lib.bitLen m + 1) = sizeS n by rw [hm]; rfl)
  have hw : IntKind.u64.wrap (m : Int) = (m : Int) := by rw [IntKind.wrap_u64]; omega
  simp only [Int.natCast_add] at hH
  have hmm : (m : Int) < 9223372036854775808 := by omega
  clear hm hm63
  generalize Lib.bitLen m = b at *
  go_enter Tryz.func208, Tryz.ntmps208
  go_wp2_with (first | (go_at_call 160; refine (hL _).mono ?_; rintro r w' ⟨rfl, rfl⟩) | (go_at_call 174; refine (hH _).mono ?_; rintro r w' ⟨rfl, rfl⟩))
  go_ret
  exact ⟨by rw [HS.out]; rfl, rfl⟩

theorem lebPut_eq (s : Nat) (n : Int) (k : Nat) (hk : k = s - 1) : lebMore k n ++ [UInt8.ofNat (n / 128 ^ k % 128).toNat] = lebPut s n := by subst hk; rfl

set_option maxRecDepth 10000 in
set_option maxHeartbeats 1000000 in
theorem putu_any {w : World} {base : Nat} {v : Value} {l : List UInt8} (hown : Own w base v l) (hbase : base ≤ w.heap.size) (x : Nat) (hx : x < 2 ^ 64) (s : Nat) (hs : 1 ≤ s ∧ s ≤ 10) (hlen : l.length ≤ 140737488355000) :
    Calls Tryz.prog 142 #[v, .int .u64 (x : Int), .int .i64 (s : Int)] w fun r w' => ∃ v', r = .returned v' ∧ Laid w w' base v v' (l ++ lebPut s (x : Int)) := by
  obtain ⟨i0, hi, hz0, hz1, hz2⟩ := info_parts u8_info
  have HO := Lib.hid (Laid.refl hown)
  clear hown
  go_enter Tryz.func142, Tryz.ntmps142
  go_wp2_with fail
  go_loopw [0, 1, 9] (fun u y i wr => ∃ k : Nat, k ≤ s - 1 ∧ i = .int .i64 k ∧ y = .int .u64 ((x : Int) / 128 ^ k) ∧ Laid w wr base v u (l ++ lebMore k (x : Int))) (fun _ _ i _ => s - 1 - (intOf i).toNat)
  case atStart => exact ⟨0, Nat.zero_le _, rfl, by simp, by simpa [lebMore] using HO.out⟩
  case round =>
    obtain ⟨k, hk, rfl, rfl, hL⟩ := hrel
    have HL := Lib.hid hL
    clear hL HO
    have hle : (x : Int) / 128 ^ k ≤ 18446744073709551615 := by
      have : (x : Int) / 128 ^ k ≤ x := Int.ediv_le_self _ (by omega)
      omega
    have hge : 0 ≤ (x : Int) / 128 ^ k := Int.ediv_nonneg (by omega) (Int.pow_nonneg (by decide))
    have hbyte := byte_more ((x : Int) / 128 ^ k)
    have hlast := byte_last ((x : Int) / 128 ^ k)
    have HN := Lib.hid (int_div_pow' (x : Int) k)
    have HM := Lib.hid (lebMore_succ k (x : Int))
    have HP := Lib.hid (fun h => lebPut_eq s (x : Int) k h)
    generalize (x : Int) / 128 ^ k = y at *
    have hsum : (l ++ lebMore k (x : Int)).length + [UInt8.ofNat ((y % 128).toNat + 128)].length ≤ 140737488355328 := by simp; omega
    have hsum2 : (l ++ lebMore k (x : Int)).length + [UInt8.ofNat (y % 128).toNat].length ≤ 140737488355328 := by simp; omega
    have HR := Lib.hid (rd_one wr _ _ hbyte)
    have HR2 := Lib.hid (rd_one wr _ _ hlast)
    have hb1 : ∀ X, base ≤ (wr.alloc (.cells #[.int .u8 X] 5)).heap.size := by
      intro X
      have := HL.out.2.1.size
      simp; omega
    clear hbyte hlast
    by_cases hlt : k < s - 1
    · go_wp2_with (at_builtin; refine wpList_append_bytes (by rfl) (.tmp 11) (.tmp 15) _ (by rfl) base i0 Tryz.underlying26 hi hz0 hz1 hz2 u0 (l ++ lebMore k (x : Int)) (by rfl) (HL.out.1.alloc _) (wr.heap.size + 1) (some ⟨wr.heap.size, 0, none⟩) 1 1 [UInt8.ofNat ((y % 128).toNat + 128)] rfl (by rfl) HR.out hsum (hb1 _) ?_; intro v1 w1 hown1 hg1 hat1)
      have HL1 := Lib.hid (HL.out.trans (Laid.of_append ((Below.refl wr.heap.size wr).alloc (Nat.le_refl _) _) hown1 hg1 hat1))
      clear hown1 hg1 hat1
      go_roundw
      case rel => exact ⟨k + 1, by omega, by go_num, by rw [← HN.out], by rw [HM.out, ← List.append_assoc]; exact HL1.out⟩
      case measure => simp [intOf]; omega
    · go_wp2_with (at_builtin; refine wpList_append_bytes (by rfl) (.tmp 20) (.tmp 24) _ (by rfl) base i0 Tryz.underlying26 hi hz0 hz1 hz2 u0 (l ++ lebMore k (x : Int)) (by rfl) (HL.out.1.alloc _) (wr.heap.size + 1) (some ⟨wr.heap.size, 0, none⟩) 1 1 [UInt8.ofNat (y % 128).toNat] rfl (by rfl) HR2.out hsum2 (hb1 _) ?_; intro v1 w1 hown1 hg1 hat1)
      have HL1 := Lib.hid (HL.out.trans (Laid.of_append ((Below.refl wr.heap.size wr).alloc (Nat.le_refl _) _) hown1 hg1 hat1))
      clear hown1 hg1 hat1
      go_ret
      exact ⟨_, rfl, by rw [← HP.out (by omega), ← List.append_assoc]; exact HL1.out⟩

theorem div_within (x : Int) (k : Nat) (hx : -9223372036854775808 ≤ x ∧ x ≤ 9223372036854775807) : -9223372036854775808 ≤ x / 128 ^ k ∧ x / 128 ^ k ≤ 9223372036854775807 := by
  induction k with
  | zero => simpa using hx
  | succ k ih =>
    rw [← int_div_pow']
    omega

set_option maxRecDepth 10000 in
set_option maxHeartbeats 1000000 in
theorem puts_any {w : World} {base : Nat} {v : Value} {l : List UInt8} (hown : Own w base v l) (hbase : base ≤ w.heap.size) (x : Int) (hx : -9223372036854775808 ≤ x ∧ x ≤ 9223372036854775807) (s : Nat) (hs : 1 ≤ s ∧ s ≤ 10) (hlen : l.length ≤ 140737488355000) :
    Calls Tryz.prog 207 #[v, .int .i64 x, .int .i64 (s : Int)] w fun r w' => ∃ v', r = .returned v' ∧ Laid w w' base v v' (l ++ lebPut s x) := by
  obtain ⟨i0, hi, hz0, hz1, hz2⟩ := info_parts u8_info
  have HO := Lib.hid (Laid.refl hown)
  clear hown
  go_enter Tryz.func207, Tryz.ntmps207
  go_wp2_with fail
  go_loopw [0, 1, 9] (fun u y i wr => ∃ k : Nat, k ≤ s - 1 ∧ i = .int .i64 k ∧ y = .int .i64 (x / 128 ^ k) ∧ Laid w wr base v u (l ++ lebMore k x)) (fun _ _ i _ => s - 1 - (intOf i).toNat)
  case atStart => exact ⟨0, Nat.zero_le _, rfl, by simp, by simpa [lebMore] using HO.out⟩
  case round =>
    obtain ⟨k, hk, rfl, rfl, hL⟩ := hrel
    have HL := Lib.hid hL
    clear hL HO
    have hle := div_within x k hx
    have hbyte := byte_more (x / 128 ^ k)
    have hlast := byte_last (x / 128 ^ k)
    have HN := Lib.hid (int_div_pow' x k)
    have HM := Lib.hid (lebMore_succ k x)
    have HP := Lib.hid (fun h => lebPut_eq s x k h)
    generalize x / 128 ^ k = y at *
    have hsum : (l ++ lebMore k x).length + [UInt8.ofNat ((y % 128).toNat + 128)].length ≤ 140737488355328 := by simp; omega
    have hsum2 : (l ++ lebMore k x).length + [UInt8.ofNat (y % 128).toNat].length ≤ 140737488355328 := by simp; omega
    have HR := Lib.hid (rd_one wr _ _ hbyte)
    have HR2 := Lib.hid (rd_one wr _ _ hlast)
    have hb1 : ∀ X, base ≤ (wr.alloc (.cells #[.int .u8 X] 5)).heap.size := by
      intro X
      have := HL.out.2.1.size
      simp; omega
    clear hbyte hlast
    by_cases hlt : k < s - 1
    · go_wp2_with (at_builtin; refine wpList_append_bytes (by rfl) (.tmp 11) (.tmp 15) _ (by rfl) base i0 Tryz.underlying26 hi hz0 hz1 hz2 u0 (l ++ lebMore k x) (by rfl) (HL.out.1.alloc _) (wr.heap.size + 1) (some ⟨wr.heap.size, 0, none⟩) 1 1 [UInt8.ofNat ((y % 128).toNat + 128)] rfl (by rfl) HR.out hsum (hb1 _) ?_; intro v1 w1 hown1 hg1 hat1)
      have HL1 := Lib.hid (HL.out.trans (Laid.of_append ((Below.refl wr.heap.size wr).alloc (Nat.le_refl _) _) hown1 hg1 hat1))
      clear hown1 hg1 hat1
      go_roundw
      case rel => exact ⟨k + 1, by omega, by go_num, by rw [← HN.out], by rw [HM.out, ← List.append_assoc]; exact HL1.out⟩
      case measure => simp [intOf]; omega
    · go_wp2_with (at_builtin; refine wpList_append_bytes (by rfl) (.tmp 20) (.tmp 24) _ (by rfl) base i0 Tryz.underlying26 hi hz0 hz1 hz2 u0 (l ++ lebMore k x) (by rfl) (HL.out.1.alloc _) (wr.heap.size + 1) (some ⟨wr.heap.size, 0, none⟩) 1 1 [UInt8.ofNat (y % 128).toNat] rfl (by rfl) HR2.out hsum2 (hb1 _) ?_; intro v1 w1 hown1 hg1 hat1)
      have HL1 := Lib.hid (HL.out.trans (Laid.of_append ((Below.refl wr.heap.size wr).alloc (Nat.le_refl _) _) hown1 hg1 hat1))
      clear hown1 hg1 hat1
      go_ret
      exact ⟨_, rfl, by rw [← HP.out (by omega), ← List.append_assoc]; exact HL1.out⟩

theorem putU_any {w : World} {base : Nat} {v : Value} {l : List UInt8} (hown : Own w base v l) (hbase : base ≤ w.heap.size) (x : Nat) (hx : x < 2 ^ 64) (hlen : l.length ≤ 140737488355000) :
    Calls Tryz.prog 102 #[v, .int .u64 (x : Int)] w fun r w' => ∃ v', r = .returned v' ∧ Laid w w' base v v' (l ++ lebPut (sizeU x) (x : Int)) := by
  have hS := fun W => sizeU_any x hx W
  have hP := putu_any hown hbase x hx (sizeU x) (sizeU_range x hx) hlen
  have hr := sizeU_range x hx
  clear hown hx
  generalize sizeU x = s at *
  go_enter Tryz.func102, Tryz.ntmps102
  go_wp2_with (first | (go_at_call 143; refine (hS _).mono ?_; rintro r w' ⟨rfl, rfl⟩) | (go_at_call 142; refine hP.mono ?_; rintro r w' ⟨v', rfl, hL⟩))
  go_ret
  exact ⟨_, rfl, hL⟩

theorem putS_any {w : World} {base : Nat} {v : Value} {l : List UInt8} (hown : Own w base v l) (hbase : base ≤ w.heap.size) (x : Int) (hx : -9223372036854775808 ≤ x ∧ x ≤ 9223372036854775807) (hlen : l.length ≤ 140737488355000) :
    Calls Tryz.prog 183 #[v, .int .i64 x] w fun r w' => ∃ v', r = .returned v' ∧ Laid w w' base v v' (l ++ lebPut (sizeS x) x) := by
  have hS := fun W => sizeS_any x hx W
  have hP := puts_any hown hbase x hx (sizeS x) (sizeS_range x hx) hlen
  have hr := sizeS_range x hx
  clear hown hx
  generalize sizeS x = s at *
  go_enter Tryz.func183, Tryz.ntmps183
  go_wp2_with (first | (go_at_call 208; refine (hS _).mono ?_; rintro r w' ⟨rfl, rfl⟩) | (go_at_call 207; refine hP.mono ?_; rintro r w' ⟨v', rfl, hL⟩))
  go_ret
  exact ⟨_, rfl, hL⟩

end Go.Proofs.YtejicboemkpeoaaGreatDoor
