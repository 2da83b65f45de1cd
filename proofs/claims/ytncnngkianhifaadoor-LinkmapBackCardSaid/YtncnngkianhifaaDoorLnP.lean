/-
  strconv.FormatUint at base 16: which digits a number has.
-/
import Derived.Test.YtncnngkianhifaaDoorSeR
import Derived.Test.YtncnngkianhifaaDoorCsA
import Derived.Test.YtncnngkianhifaaDoorCsP
import Derived.Test.YtncnngkianhifaaDoorRefR
import Derived.Test.YtncnngkianhifaaDoorCsL
import Derived.Lib.SlBytesConst
import Derived.Laws.StructEq
import Derived.Test.YtncnngkianhifaaDoorObT
import Derived.Test.YtncnngkianhifaaDoorLawA
import Derived.Laws.BitsAllLaws
import Derived.Laws.Bits64b
import Derived.Deep.DeepCutAuto
import Derived.Deep.LoopGhost
namespace Go.Proofs.YtncnngkianhifaaDoor
open Go Go.RowKit

set_option maxRecDepth 10000 in
theorem pow2_16 (w : World) : Calls Tryd.prog 70 #[.int .i64 16] w fun r w' => r = .returned (.bool true) ∧ w = w' := by
  have h1 : bits .and .i64 16 15 = 0 := by decide
  go_enter Tryd.func70, Tryd.ntmps70
  go_wp2_with fail
  go_ret
  exact ⟨rfl, rfl⟩

set_option maxRecDepth 100000 in
theorem tz64_16 (w : World) (h : w.cell? ⟨3, 15, none⟩ = some (.int .u8 4)) : Calls Tryd.prog 76 #[.int .u64 16] w fun r w' => r = .returned (.int .i64 4) ∧ w = w' := by
  have h1 : bits .and .u64 16 18446744073709551600 = 16 := by decide
  have h2 : IntKind.u64.wrap (-16) = 18446744073709551600 := by decide
  have h3 : IntKind.u64.wrap (16 * 285870213051353865) = 4573923408821661840 := by decide
  go_enter Tryd.func76, Tryd.ntmps76
  go_wp2_with fail
  go_ret
  exact ⟨rfl, rfl⟩

set_option maxRecDepth 10000 in
theorem tz_16 (w : World) (h : w.cell? ⟨3, 15, none⟩ = some (.int .u8 4)) : Calls Tryd.prog 71 #[.int .u64 16] w fun r w' => r = .returned (.int .i64 4) ∧ w = w' := by
  have hT := tz64_16 w h
  clear h
  go_enter Tryd.func71, Tryd.ntmps71
  go_wp2_with (go_at_call 76; refine hT.mono ?_; rintro r w1 ⟨rfl, rfl⟩)
  go_ret
  exact ⟨rfl, rfl⟩

/-- The digits so far, at the row's end. -/
def arrD (D : List UInt8) : Array Value := (List.replicate (65 - D.length) (Value.int .u8 0) ++ u8s D).toArray
theorem arrD_size {D : List UInt8} (h : D.length ≤ 65) : (arrD D).size = 65 := by simp [arrD, u8s]; omega
theorem arrD_set {D : List UInt8} (h : D.length < 65) (c : UInt8) : (arrD D).setIfInBounds (65 - D.length - 1) (.int .u8 (c.toNat : Int)) = arrD (c :: D) := by
  unfold arrD
  rw [List.setIfInBounds_toArray]
  congr 1
  rw [List.set_append_left _ _ (by simp; omega)]
  rw [show 65 - D.length = (65 - (c :: D).length) + 1 by simp; omega, List.replicate_succ', List.set_append_right _ _ (by simp)]
  simp [u8s]
theorem digit_byte {d : Nat} (h : d < 16) : (ByteArray.mk #[48, 49, 50, 51, 52, 53, 54, 55, 56, 57, 97, 98, 99, 100, 101, 102, 103, 104, 105, 106, 107, 108, 109, 110, 111, 112, 113, 114, 115, 116, 117, 118, 119, 120, 121, 122])[d]? = some (digC d) := by
  have : ∀ d : Fin 16, (ByteArray.mk #[48, 49, 50, 51, 52, 53, 54, 55, 56, 57, 97, 98, 99, 100, 101, 102, 103, 104, 105, 106, 107, 108, 109, 110, 111, 112, 113, 114, 115, 116, 117, 118, 119, 120, 121, 122])[d.val]? = some (digC d.val) := by decide
  exact this ⟨d, h⟩
theorem mask_16 (n : Nat) (h : n < two64) : bits .and .u64 (n : Int) 15 = ((n % 16 : Nat) : Int) := by
  have := bits_and_u64_nat n 15 h (by decide)
  rw [show ((15 : Nat) : Int) = 15 from rfl] at this
  rw [this, show n &&& 15 = n % 16 from Nat.and_two_pow_sub_one_eq_mod n 4]

set_option maxRecDepth 10000 in
theorem slice_65 (W : World) (H i : Nat) (hi : i < 65) : (Instr.sliceAt 143 (.pointer (some ⟨H, 0, none⟩)) (some (.int .i64 (i : Int))) none none).run Tryd.prog W = .ok (.slice (some ⟨H, i, none⟩) (65 - i) (65 - i)) W := by
  have hl : Tryd.prog.arrayLen 143 = 65 := by kernel_rfl
  have he : Tryd.prog.elem 143 = 5 := by kernel_rfl
  have h1 := run_sliceAt_array_l (P := Tryd.prog) W 143 ⟨H, 0, none⟩ (by rw [hl, he]; exact Tryd.underlying143) .i64 (i : Int) (by omega) (by rw [hl]; omega)
  rw [h1, hl, he]
  have hs : (sizeOf 5).run Tryd.prog W = .ok 1 W := by kernel_rfl
  rw [hs]
  show Result.ok _ W = _
  unfold slicedAt
  rw [if_neg (by simp; omega)]
  simp [Addr.add]
  omega

set_option maxRecDepth 10000 in
set_option maxHeartbeats 1600000 in
theorem bits16_any {w : World} (n : Nat) (hn : n < two64) (h : w.cell? ⟨3, 15, none⟩ = some (.int .u8 4)) (hg : 3 < w.heap.size) :
    Calls Tryd.prog 63 #[.slice none 0 0, .int .u64 (n : Int), .int .i64 16, .bool false, .bool false] w fun r w' => r = .returned (.tuple #[.slice none 0 0, .string ⟨(digB 16 n).toArray⟩]) ∧ Below w.heap.size w w' := by
  have hP := pow2_16
  have HT := Lib.hid (fun W (hW : Below w.heap.size w W) => tz_16 W (by rw [hW.cell (p := ⟨3, 15, none⟩) hg]; exact h))
  clear h hg
  go_enter Tryd.func63, Tryd.ntmps63
  go_wp2_with (first
    | (go_at_call 70; refine (hP _).mono ?_; rintro r w1 ⟨rfl, rfl⟩)
    | (go_at_call 71; refine (HT.out _ (by exact (Below.refl _ _).alloc (Nat.le_refl _) _)).mono ?_; rintro r w1 ⟨rfl, rfl⟩))
  go_loopg [1, 13] n (fun gk u i wr => ∃ (m : Nat) (D : List UInt8), gk = m ∧ u = .int .u64 m ∧ (∃ z : Nat, i = .int .i64 ((z + 1 : Nat) : Int) ∧ Hid (z + 1 + D.length = 65)) ∧ Hid (digB 16 n = digB 16 m ++ D) ∧ Hid (m < two64) ∧ D.length ≤ 15 ∧ Hid (Box wr w.heap.size 143 (arrD D)) ∧ Hid (Below w.heap.size w wr))
  case atStart => exact ⟨n, [], rfl, rfl, ⟨64, rfl, Lib.hid rfl⟩, Lib.hid (by simp), Lib.hid hn, by simp, Lib.hid (Box.new _ _ _), Lib.hid ((Below.refl _ _).alloc (Nat.le_refl _) _)⟩
  case round =>
    obtain ⟨m, D, rfl, rfl, ⟨i, rfl, HZ⟩, HD, HM, hl, HX, HB⟩ := hrel
    have hm2 := HM.out
    unfold two64 at hm2
    have hz := HZ.out
    have hi65 : i < 65 := by omega
    have hi : 65 - D.length - 1 = i := by omega
    have hcell : ∃ v, wr.cell? ⟨w.heap.size, i, none⟩ = some v := by
      rw [HX.out.cell]
      exact ⟨_, Array.getElem?_eq_getElem (by rw [arrD_size (by omega)]; omega)⟩
    obtain ⟨cv, c0⟩ := hcell
    have f0 := HX.out.free i
    have hs1 : ((i + 1 : Nat) : Int) - 1 = (i : Int) := by omega
    have hs2 : (i : Int) + 1 - 1 = (i : Int) := by omega
    by_cases hm : 16 ≤ gk
    · have hd1 : decide ((16 : Int) ≤ (gk : Int)) = true := decide_eq_true (by omega)
      have hd2 : decide (16 ≤ gk) = true := decide_eq_true hm
      have hmask := mask_16 gk HM.out
      have hdig := digit_byte (d := gk % 16) (by omega)
      obtain ⟨hb36, hdg⟩ := getElem?_eq_some_iff.1 hdig
      have HDG := Lib.hid hdg
      have hlen := digB_len (b := 16) (by decide) 15 n (by unfold two64 at hn; exact Nat.lt_of_lt_of_le hn (by decide))
      rw [HD.out, List.length_append, digB_next hm (by decide), List.length_append] at hlen
      have hne := List.length_pos_iff.2 (digB_ne 16 (gk / 16))
      have hl14 : D.length ≤ 14 := by simp at hlen; omega
      have HX2 := Lib.hid (show Box (wr.setCell ⟨w.heap.size, i, none⟩ (.int .u8 ((digC (gk % 16)).toNat : Int))) w.heap.size 143 (arrD (digC (gk % 16) :: D)) from by
        have h1 := HX.out.set i (.int .u8 ((digC (gk % 16)).toNat : Int))
        rw [← hi, arrD_set (by omega), hi] at h1
        exact h1)
      have HB2 := Lib.hid (below_only HB.out (Nat.le_refl _) (only_set (only_refl wr w.heap.size) i (.int .u8 ((digC (gk % 16)).toNat : Int))) (Nat.le_refl _))
      have HD2 := Lib.hid (show digB 16 n = digB 16 (gk / 16) ++ (digC (gk % 16) :: D) by rw [HD.out, digB_next hm (by decide), List.append_assoc]; rfl)
      have HL := Lib.hid hl14
      clear hlen hne hdg hi hz
      go_wp2_with fail
      go_roundg (gk / 16)
      case measure => omega
      case rel =>
        obtain ⟨z, rfl⟩ : ∃ z, i = z + 1 := ⟨i - 1, by have := HZ.out; have := HL.out; omega⟩
        refine ⟨gk / 16, digC (gk % 16) :: D, rfl, by simp, ⟨z, rfl, Lib.hid (by have := HZ.out; simp; omega)⟩, HD2, Lib.hid (by unfold two64; omega), by simp; have := HL.out; omega, ?_, ?_⟩
        · rw [HDG.out]
          exact HX2
        · rw [HDG.out]
          exact HB2
    · have hd1 : decide ((16 : Int) ≤ (gk : Int)) = false := decide_eq_false (by omega)
      have hd2 : decide (16 ≤ gk) = false := decide_eq_false hm
      have hdig := digit_byte (d := gk) (by omega)
      obtain ⟨hb36, hdg⟩ := getElem?_eq_some_iff.1 hdig
      have HX2 := Lib.hid (show Box (wr.setCell ⟨w.heap.size, i, none⟩ (.int .u8 ((digC gk).toNat : Int))) w.heap.size 143 (arrD (digC gk :: D)) from by
        have h1 := HX.out.set i (.int .u8 ((digC gk).toNat : Int))
        rw [← hi, arrD_set (by omega), hi] at h1
        exact h1)
      have HB2 := Lib.hid (below_only HB.out (Nat.le_refl _) (only_set (only_refl wr w.heap.size) i (.int .u8 ((digC gk).toNat : Int))) (Nat.le_refl _))
      have HE := Lib.hid (show digB 16 n = digC gk :: D by rw [HD.out, digB_low (by omega)]; rfl)
      have HRD := Lib.hid (show Rd (wr.setCell ⟨w.heap.size, i, none⟩ (.int .u8 ((digC gk).toNat : Int))) (w.heap.size + 1) (some ⟨w.heap.size, i, none⟩) (digC gk :: D) from fun _ => ⟨w.heap.size, i, rfl, by omega, fun j u hu => by
        rw [HX2.out.cell]
        unfold arrD
        rw [List.getElem?_toArray, List.getElem?_append_right (by simp; omega)]
        rw [show i + j - (List.replicate (65 - (digC gk :: D).length) (Value.int .u8 0)).length = j by simp; omega, u8s_get, hu]
        rfl⟩)
      have hcv := conv_rd HRD.out (digC gk :: D).length
      have hlen2 : (digC gk :: D).length = 65 - i := by simp; omega
      rw [hlen2] at hcv
      have hsl := fun W => slice_65 W w.heap.size i hi65
      clear hz hi
      go_wp2_with fail
      go_ret2
      exact ⟨by rw [HE.out]; rfl, HB2.out⟩

set_option maxRecDepth 10000 in
theorem lfmt16_any {w : World} (n : Nat) (hn : n < two64) (h : w.cell? ⟨3, 15, none⟩ = some (.int .u8 4)) (hg : 3 < w.heap.size) :
    Calls Tryd.prog 52 #[.int .u64 (n : Int), .int .i64 16] w fun r w' => r = .returned (.string ⟨(digB 16 n).toArray⟩) ∧ Below w.heap.size w w' := by
  have HB := Lib.hid (bits16_any n hn h hg)
  clear h hg hn
  go_enter Tryd.func52, Tryd.ntmps52
  go_wp2_with (go_at_call 63; refine HB.out.mono ?_; rintro r w1 ⟨rfl, hb⟩)
  go_ret
  exact ⟨rfl, hb⟩
set_option maxRecDepth 10000 in
theorem fmt16_any {w : World} (n : Nat) (hn : n < two64) (h : w.cell? ⟨3, 15, none⟩ = some (.int .u8 4)) (hg : 3 < w.heap.size) :
    Calls Tryd.prog 39 #[.int .u64 (n : Int), .int .i64 16] w fun r w' => r = .returned (.string ⟨(digB 16 n).toArray⟩) ∧ Below w.heap.size w w' := by
  have HB := Lib.hid (lfmt16_any n hn h hg)
  clear h hg hn
  go_enter Tryd.func39, Tryd.ntmps39
  go_wp2_with (go_at_call 52; refine HB.out.mono ?_; rintro r w1 ⟨rfl, hb⟩)
  go_ret
  exact ⟨rfl, hb⟩

end Go.Proofs.YtncnngkianhifaaDoor
