/-
  The document's own PutU, PutS, PutWide of layer 2.
-/
import Derived.Test.YtejicboemkpeoaaGreatDoorLebP
import Derived.Laws.OwnMore
namespace Go.Proofs.YtejicboemkpeoaaGreatDoor
open Go Go.RowKit

theorem div_small (n k : Nat) (hn : n < 2 ^ 64) (hk : k + 1 ≤ sizeU n) : (128 ≤ n / 128 ^ k ↔ k + 2 ≤ sizeU n) := by
  have hr := sizeU_range n hn
  have hp : 0 < 128 ^ k := Nat.pow_pos (by decide)
  by_cases h9 : k + 1 ≤ 9
  · have h1 := sizeU_le n (k + 1) hn (by omega) h9
    rw [Nat.pow_succ, Nat.mul_comm] at h1
    have h2 := Nat.div_lt_iff_lt_mul (x := n) (y := 128) hp
    constructor
    · intro h
      rcases Nat.lt_or_ge (sizeU n) (k + 2) with hlt | hge
      · have := h2.2 (h1.1 (by omega)); omega
      · exact hge
    · intro h
      rcases Nat.lt_or_ge (n / 128 ^ k) 128 with hlt | hge
      · have := h1.2 (h2.1 hlt); omega
      · exact hge
  · have hk9 : k = 9 := by omega
    subst hk9
    constructor
    · intro h; omega
    · intro h; omega

theorem byte_full (y : Int) (h0 : 0 ≤ y) (h1 : y < 128) : y = ((UInt8.ofNat (y % 128).toNat).toNat : Int) := by
  rw [UInt8.toNat_ofNat']; omega

theorem byte_plus (y : Int) : y % 128 + 128 = ((UInt8.ofNat ((y % 128).toNat + 128)).toNat : Int) := by
  rw [UInt8.toNat_ofNat']; omega

set_option maxRecDepth 10000 in
set_option maxHeartbeats 1000000 in
theorem rputU_any (w : World) (x : Nat) (hx : x < 2 ^ 64) :
    Calls Tryz.prog 69 #[.int .u64 (x : Int)] w fun r w' => ∃ v', r = .returned v' ∧ Own w' w.heap.size v' (lebPut (sizeU x) (x : Int)) ∧ Below w.heap.size w w' := by
  obtain ⟨i0, hi, hz0, hz1, hz2⟩ := info_parts u8_info
  have HO := Lib.hid (Laid.refl (l := []) (World.ownsRow_nil w w.heap.size 5 1))
  have hr := sizeU_range x hx
  go_enter Tryz.func69, Tryz.ntmps69
  go_wp2_with fail
  go_loopw [0, 3] (fun y u wr => ∃ k : Nat, k + 1 ≤ sizeU x ∧ y = .int .u64 ((x : Int) / 128 ^ k) ∧ Laid w wr w.heap.size (.slice none 0 0) u (lebMore k (x : Int))) (fun y _ _ => (intOf y).toNat)
  case atStart => exact ⟨0, by omega, by simp, by simpa [lebMore] using HO.out⟩
  case round =>
    obtain ⟨k, hk, rfl, hL⟩ := hrel
    have HL := Lib.hid hL
    clear hL HO
    have hds := div_small x k hx hk
    have hcast : (x : Int) / 128 ^ k = ((x / 128 ^ k : Nat) : Int) := by simp
    have hle : (x : Int) / 128 ^ k ≤ 18446744073709551615 := by
      have : (x : Int) / 128 ^ k ≤ x := Int.ediv_le_self _ (by omega)
      omega
    have hge : 0 ≤ (x : Int) / 128 ^ k := Int.ediv_nonneg (by omega) (Int.pow_nonneg (by decide))
    have hbyte := byte_plus ((x : Int) / 128 ^ k)
    have hfull := fun h => byte_full ((x : Int) / 128 ^ k) hge h
    have HN := Lib.hid (int_div_pow' (x : Int) k)
    have HM := Lib.hid (lebMore_succ k (x : Int))
    have HP := Lib.hid (fun h => lebPut_eq (sizeU x) (x : Int) k h)
    have hbig : 128 ≤ (x : Int) / 128 ^ k ↔ k + 2 ≤ sizeU x := by rw [hcast]; omega
    clear hds hcast
    generalize (x : Int) / 128 ^ k = y at *
    have hsum : (lebMore k (x : Int)).length + [UInt8.ofNat ((y % 128).toNat + 128)].length ≤ 140737488355328 := by simp; omega
    have hsum2 : (lebMore k (x : Int)).length + [UInt8.ofNat (y % 128).toNat].length ≤ 140737488355328 := by simp; omega
    have HR := Lib.hid (rd_one wr _ _ hbyte)
    have HR2 := Lib.hid (fun h => rd_one wr _ _ (hfull h))
    have hb1 : ∀ X, w.heap.size ≤ (wr.alloc (.cells #[.int .u8 X] 5)).heap.size := by
      intro X
      have := HL.out.2.1.size
      simp; omega
    clear hbyte hfull
    by_cases hlt : 128 ≤ y
    · have hk2 := hbig.1 hlt
      go_wp2_with (at_builtin; refine wpList_append_bytes (by rfl) (.tmp 6) (.tmp 11) _ (by rfl) w.heap.size i0 Tryz.underlying26 hi hz0 hz1 hz2 u3 (lebMore k (x : Int)) (by rfl) (HL.out.1.alloc _) (wr.heap.size + 1) (some ⟨wr.heap.size, 0, none⟩) 1 1 [UInt8.ofNat ((y % 128).toNat + 128)] rfl (by rfl) HR.out hsum (hb1 _) ?_; intro v1 w1 hown1 hg1 hat1)
      have HL1 := Lib.hid (HL.out.trans (Laid.of_append ((Below.refl wr.heap.size wr).alloc (Nat.le_refl _) _) hown1 hg1 hat1))
      clear hown1 hg1 hat1
      go_roundw
      case rel => exact ⟨k + 1, by omega, by rw [← HN.out], by rw [HM.out]; exact HL1.out⟩
      case measure => simp [intOf]; omega
    · have hlt' : y < 128 := by omega
      have HR3 := Lib.hid (HR2.out hlt')
      go_wp2_with (at_builtin; refine wpList_append_bytes (by rfl) (.tmp 15) (.tmp 18) _ (by rfl) w.heap.size i0 Tryz.underlying26 hi hz0 hz1 hz2 u3 (lebMore k (x : Int)) (by rfl) (HL.out.1.alloc _) (wr.heap.size + 1) (some ⟨wr.heap.size, 0, none⟩) 1 1 [UInt8.ofNat (y % 128).toNat] rfl (by rfl) HR3.out hsum2 (hb1 _) ?_; intro v1 w1 hown1 hg1 hat1)
      have HL1 := Lib.hid (HL.out.trans (Laid.of_append ((Below.refl wr.heap.size wr).alloc (Nat.le_refl _) _) hown1 hg1 hat1))
      clear hown1 hg1 hat1
      go_ret
      exact ⟨_, rfl, by rw [← HP.out (by omega)]; exact HL1.out.1, below_of_only HL1.out.2.1 (Nat.le_refl _) (by simp [Value.ownBlock])⟩

theorem div_small_s (n : Int) (k : Nat) (hn : -9223372036854775808 ≤ n ∧ n ≤ 9223372036854775807) (hk : k + 1 ≤ sizeS n) : (-64 ≤ n / 128 ^ k ∧ n / 128 ^ k ≤ 63) ↔ sizeS n = k + 1 := by
  have hr := sizeS_range n hn
  have hp : (0 : Int) < 128 ^ k := Int.pow_pos (by decide)
  have h3 := Int.le_ediv_iff_mul_le (a := -64) (b := n) hp
  have h4 := Int.ediv_lt_iff_lt_mul (a := n) (b := 64) hp
  by_cases h9 : k + 1 ≤ 9
  · have h1 := sizeS_le n (k + 1) hn (by omega) h9
    rw [Nat.add_sub_cancel] at h1
    have e : ((64 * 128 ^ k : Nat) : Int) = 64 * 128 ^ k := by simp
    rw [e] at h1
    constructor
    · intro h
      have h5 := h3.1 h.1
      have h6 := h4.1 (by omega)
      have := h1.2 ⟨by omega, by omega⟩
      omega
    · intro h
      have h5 := h1.1 (by omega)
      have h6 := h3.2 (by omega)
      have h7 := h4.2 (by omega)
      omega
  · have hk9 : k = 9 := by omega
    subst hk9
    have h6 := h3.2 (by omega)
    have h7 := h4.2 (by omega)
    omega

theorem tmod_128 (y : Int) : (y.tmod 128 < 0 → y.tmod 128 + 128 = y % 128) ∧ (0 ≤ y.tmod 128 → y.tmod 128 = y % 128) := by
  rw [Int.tmod_eq_emod]
  split <;> constructor <;> intro h <;> omega

set_option maxRecDepth 10000 in
set_option maxHeartbeats 2000000 in
theorem rputS_any (w : World) (x : Int) (hx : -9223372036854775808 ≤ x ∧ x ≤ 9223372036854775807) :
    Calls Tryz.prog 106 #[.int .i64 x] w fun r w' => ∃ v', r = .returned v' ∧ Own w' w.heap.size v' (lebPut (sizeS x) x) ∧ Below w.heap.size w w' := by
  obtain ⟨i0, hi, hz0, hz1, hz2⟩ := info_parts u8_info
  have HO := Lib.hid (Laid.refl (l := []) (World.ownsRow_nil w w.heap.size 5 1))
  have hr := sizeS_range x hx
  go_enter Tryz.func106, Tryz.ntmps106
  go_wp2_with fail
  go_loopw [0, 3, 4] (fun y u _ wr => ∃ k : Nat, k + 1 ≤ sizeS x ∧ y = .int .i64 (x / 128 ^ k) ∧ Laid w wr w.heap.size (.slice none 0 0) u (lebMore k x)) (fun y _ _ _ => (intOf y).toNat + (-(intOf y)).toNat)
  case atStart => exact ⟨0, by omega, by simp, by simpa [lebMore] using HO.out⟩
  case round =>
    obtain ⟨k, hk, rfl, hL⟩ := hrel
    have HL := Lib.hid hL
    clear hL HO
    have hds := div_small_s x k hx hk
    have hin := div_within x k hx
    have hbyte := byte_plus (x / 128 ^ k)
    have HN := Lib.hid (int_div_pow' x k)
    have HM := Lib.hid (lebMore_succ k x)
    have HP := Lib.hid (fun h => lebPut_eq (sizeS x) x k h)
    generalize x / 128 ^ k = y at *
    have hsum : (lebMore k x).length + [UInt8.ofNat ((y % 128).toNat + 128)].length ≤ 140737488355328 := by simp; omega
    have hsum2 : (lebMore k x).length + [UInt8.ofNat (y % 128).toNat].length ≤ 140737488355328 := by simp; omega
    have HR := Lib.hid (rd_one wr _ _ hbyte)
    have hb1 : ∀ X, w.heap.size ≤ (wr.alloc (.cells #[.int .u8 X] 5)).heap.size := by
      intro X
      have := HL.out.2.1.size
      simp; omega
    clear hbyte
    by_cases hlt : -64 ≤ y ∧ y ≤ 63
    · have HP2 := Lib.hid (HP.out (by have := hds.1 hlt; omega))
      clear hds
      have c1 : decide (y < -64) = false := by simp; omega
      have c2 : decide (63 < y) = false := by simp; omega
      by_cases hneg : y < 0
      · have hfull : y + 128 = ((UInt8.ofNat (y % 128).toNat).toNat : Int) := by rw [UInt8.toNat_ofNat']; omega
        have HR3 := Lib.hid (rd_one wr _ _ hfull)
        clear hfull
        go_wp2_with (at_builtin; refine wpList_append_bytes (by rfl) (.tmp 31) (.tmp 34) _ (by rfl) w.heap.size i0 Tryz.underlying26 hi hz0 hz1 hz2 u3 (lebMore k x) (by rfl) (HL.out.1.alloc _) (wr.heap.size + 1) (some ⟨wr.heap.size, 0, none⟩) 1 1 [UInt8.ofNat (y % 128).toNat] rfl (by rfl) HR3.out hsum2 (hb1 _) ?_; intro v1 w1 hown1 hg1 hat1)
        have HL1 := Lib.hid (HL.out.trans (Laid.of_append ((Below.refl wr.heap.size wr).alloc (Nat.le_refl _) _) hown1 hg1 hat1))
        clear hown1 hg1 hat1
        go_ret
        exact ⟨_, rfl, by rw [← HP2.out]; exact HL1.out.1, below_of_only HL1.out.2.1 (Nat.le_refl _) (by simp [Value.ownBlock])⟩
      · have hfull : y = ((UInt8.ofNat (y % 128).toNat).toNat : Int) := by rw [UInt8.toNat_ofNat']; omega
        have HR3 := Lib.hid (rd_one wr _ _ hfull)
        clear hfull
        go_wp2_with (at_builtin; refine wpList_append_bytes (by rfl) (.tmp 31) (.tmp 34) _ (by rfl) w.heap.size i0 Tryz.underlying26 hi hz0 hz1 hz2 u3 (lebMore k x) (by rfl) (HL.out.1.alloc _) (wr.heap.size + 1) (some ⟨wr.heap.size, 0, none⟩) 1 1 [UInt8.ofNat (y % 128).toNat] rfl (by rfl) HR3.out hsum2 (hb1 _) ?_; intro v1 w1 hown1 hg1 hat1)
        have HL1 := Lib.hid (HL.out.trans (Laid.of_append ((Below.refl wr.heap.size wr).alloc (Nat.le_refl _) _) hown1 hg1 hat1))
        clear hown1 hg1 hat1
        go_ret
        exact ⟨_, rfl, by rw [← HP2.out]; exact HL1.out.1, below_of_only HL1.out.2.1 (Nat.le_refl _) (by simp [Value.ownBlock])⟩
    · have hnl : ¬ sizeS x = k + 1 := fun h => hlt (hds.2 h)
      have q1 : (y - y % 128).tdiv 128 = y / 128 := by
        rw [Int.tdiv_eq_ediv_of_dvd (by omega)]; omega
      have q2 : -9223372036854775808 ≤ y - y % 128 ∧ y - y % 128 ≤ 9223372036854775807 := by omega
      have q3 : IntKind.i64.wrap (y - y % 128) = y - y % 128 := by rw [IntWalk.i64_in _ q2]
      have q6 := tmod_128 y
      have q4 : 0 ≤ y % 128 ∧ y % 128 < 128 := by omega
      by_cases hneg : y.tmod 128 < 0
      · have q5 := q6.1 hneg
        clear q6
        by_cases hlow : y < -64
        · have c1 : decide (y < -64) = true := by simp; omega
          go_wp2_with (at_builtin; refine wpList_append_bytes (by rfl) (.tmp 17) (.tmp 21) _ (by rfl) w.heap.size i0 Tryz.underlying26 hi hz0 hz1 hz2 u3 (lebMore k x) (by rfl) (HL.out.1.alloc _) (wr.heap.size + 1) (some ⟨wr.heap.size, 0, none⟩) 1 1 [UInt8.ofNat ((y % 128).toNat + 128)] rfl (by rfl) HR.out hsum (hb1 _) ?_; intro v1 w1 hown1 hg1 hat1)
          have HL1 := Lib.hid (HL.out.trans (Laid.of_append ((Below.refl wr.heap.size wr).alloc (Nat.le_refl _) _) hown1 hg1 hat1))
          clear hown1 hg1 hat1
          go_roundw
          case rel => exact ⟨k + 1, by omega, by rw [← HN.out], by rw [HM.out]; exact HL1.out⟩
          case measure => simp [intOf]; omega
        · have c1 : decide (y < -64) = false := by simp; omega
          have c2 : decide (63 < y) = true := by simp; omega
          go_wp2_with (at_builtin; refine wpList_append_bytes (by rfl) (.tmp 17) (.tmp 21) _ (by rfl) w.heap.size i0 Tryz.underlying26 hi hz0 hz1 hz2 u3 (lebMore k x) (by rfl) (HL.out.1.alloc _) (wr.heap.size + 1) (some ⟨wr.heap.size, 0, none⟩) 1 1 [UInt8.ofNat ((y % 128).toNat + 128)] rfl (by rfl) HR.out hsum (hb1 _) ?_; intro v1 w1 hown1 hg1 hat1)
          have HL1 := Lib.hid (HL.out.trans (Laid.of_append ((Below.refl wr.heap.size wr).alloc (Nat.le_refl _) _) hown1 hg1 hat1))
          clear hown1 hg1 hat1
          go_roundw
          case rel => exact ⟨k + 1, by omega, by rw [← HN.out], by rw [HM.out]; exact HL1.out⟩
          case measure => simp [intOf]; omega
      · have q5 := q6.2 (by omega)
        have q7 : 0 ≤ y.tmod 128 := by omega
        clear q6
        by_cases hlow : y < -64
        · have c1 : decide (y < -64) = true := by simp; omega
          go_wp2_with (at_builtin; refine wpList_append_bytes (by rfl) (.tmp 17) (.tmp 21) _ (by rfl) w.heap.size i0 Tryz.underlying26 hi hz0 hz1 hz2 u3 (lebMore k x) (by rfl) (HL.out.1.alloc _) (wr.heap.size + 1) (some ⟨wr.heap.size, 0, none⟩) 1 1 [UInt8.ofNat ((y % 128).toNat + 128)] rfl (by rfl) HR.out hsum (hb1 _) ?_; intro v1 w1 hown1 hg1 hat1)
          have HL1 := Lib.hid (HL.out.trans (Laid.of_append ((Below.refl wr.heap.size wr).alloc (Nat.le_refl _) _) hown1 hg1 hat1))
          clear hown1 hg1 hat1
          go_roundw
          case rel => exact ⟨k + 1, by omega, by rw [← HN.out], by rw [HM.out]; exact HL1.out⟩
          case measure => simp [intOf]; omega
        · have c1 : decide (y < -64) = false := by simp; omega
          have c2 : decide (63 < y) = true := by simp; omega
          go_wp2_with (at_builtin; refine wpList_append_bytes (by rfl) (.tmp 17) (.tmp 21) _ (by rfl) w.heap.size i0 Tryz.underlying26 hi hz0 hz1 hz2 u3 (lebMore k x) (by rfl) (HL.out.1.alloc _) (wr.heap.size + 1) (some ⟨wr.heap.size, 0, none⟩) 1 1 [UInt8.ofNat ((y % 128).toNat + 128)] rfl (by rfl) HR.out hsum (hb1 _) ?_; intro v1 w1 hown1 hg1 hat1)
          have HL1 := Lib.hid (HL.out.trans (Laid.of_append ((Below.refl wr.heap.size wr).alloc (Nat.le_refl _) _) hown1 hg1 hat1))
          clear hown1 hg1 hat1
          go_roundw
          case rel => exact ⟨k + 1, by omega, by rw [← HN.out], by rw [HM.out]; exact HL1.out⟩
          case measure => simp [intOf]; omega

end Go.Proofs.YtejicboemkpeoaaGreatDoor
