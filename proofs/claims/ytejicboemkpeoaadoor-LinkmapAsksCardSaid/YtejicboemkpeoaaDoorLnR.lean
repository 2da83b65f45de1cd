/-
  Package linkmap: Text.
-/
import Derived.Test.YtejicboemkpeoaaDoorSyI
import Derived.Test.YtejicboemkpeoaaDoorObT
import Derived.Test.YtejicboemkpeoaaDoorPoO
import Derived.Test.YtejicboemkpeoaaDoorCsL
import Derived.Laws.BitsAllLaws
import Derived.Laws.Bits64b
import Derived.Deep.DeepCutAuto
import Derived.Deep.LoopGhost
import Derived.Test.YtejicboemkpeoaaDoorPoM
import Derived.Test.YtejicboemkpeoaaDoorPoX
import Derived.Deep.Cut
import Derived.BigQuiet
import Derived.Test.YtejicboemkpeoaaDoorCsQ
import Derived.Test.YtejicboemkpeoaaDoorShelf
import Derived.Lib.LaidTab
import Derived.Lib.AppendIntMem
namespace Go.Proofs.YtejicboemkpeoaaDoor
open Go Go.RowKit

set_option maxRecDepth 10000 in
theorem pow2_16 (w : World) : Calls Tryd.prog 68 #[.int .i64 16] w fun r w' => r = .returned (.bool true) ∧ w = w' := by
  have h1 : bits .and .i64 16 15 = 0 := by decide
  go_enter Tryd.func68, Tryd.ntmps68
  go_wp2_with fail
  go_ret
  exact ⟨rfl, rfl⟩

set_option maxRecDepth 100000 in
theorem tz64_16 (w : World) (h : w.cell? ⟨3, 15, none⟩ = some (.int .u8 4)) : Calls Tryd.prog 74 #[.int .u64 16] w fun r w' => r = .returned (.int .i64 4) ∧ w = w' := by
  have h1 : bits .and .u64 16 18446744073709551600 = 16 := by decide
  have h2 : IntKind.u64.wrap (-16) = 18446744073709551600 := by decide
  have h3 : IntKind.u64.wrap (16 * 285870213051353865) = 4573923408821661840 := by decide
  go_enter Tryd.func74, Tryd.ntmps74
  go_wp2_with fail
  go_ret
  exact ⟨rfl, rfl⟩

set_option maxRecDepth 10000 in
theorem tz_16 (w : World) (h : w.cell? ⟨3, 15, none⟩ = some (.int .u8 4)) : Calls Tryd.prog 69 #[.int .u64 16] w fun r w' => r = .returned (.int .i64 4) ∧ w = w' := by
  have hT := tz64_16 w h
  clear h
  go_enter Tryd.func69, Tryd.ntmps69
  go_wp2_with (go_at_call 74; refine hT.mono ?_; rintro r w1 ⟨rfl, rfl⟩)
  go_ret
  exact ⟨rfl, rfl⟩

/-- The digits so far, at the row's end. -/
def arrD (D : List UInt8) : Array Value := (List.replicate (65 - D.length) (Value.int .u8 0) ++ u8s D).toArray
theorem arrD_size {D : List UInt8} (h : D.length ≤ 65) : (arrD D).size = 65 := by simp [arrD, u8s]; omega
theorem arrD_set {D : List UInt8} (h : D.length < 65) (c : UInt8) : (arrD D).setIfInBounds (65 - D.length - 1) (.int .u8 (c.toNat : Int)) = arrD (c :: D) := by
  unfold arrD
  rw [List.setIfInBounds_toArray]
  congr 1
  rw [List.set_append_left _ _ (by simp; omega)]
  rw [show 65 - D.length = (65 - (c :: D).length) + 1 by simp; omega, List.replicate_succ', List.set_append_right _ _ (by simp)]
  simp [u8s]
theorem digit_byte {d : Nat} (h : d < 16) : (ByteArray.mk #[48, 49, 50, 51, 52, 53, 54, 55, 56, 57, 97, 98, 99, 100, 101, 102, 103, 104, 105, 106, 107, 108, 109, 110, 111, 112, 113, 114, 115, 116, 117, 118, 119, 120, 121, 122])[d]? = some (digC d) := by
  have : ∀ d : Fin 16, (ByteArray.mk #[48, 49, 50, 51, 52, 53, 54, 55, 56, 57, 97, 98, 99, 100, 101, 102, 103, 104, 105, 106, 107, 108, 109, 110, 111, 112, 113, 114, 115, 116, 117, 118, 119, 120, 121, 122])[d.val]? = some (digC d.val) := by decide
  exact this ⟨d, h⟩
theorem mask_16 (n : Nat) (h : n < two64) : bits .and .u64 (n : Int) 15 = ((n % 16 : Nat) : Int) := by
  have := bits_and_u64_nat n 15 h (by decide)
  rw [show ((15 : Nat) : Int) = 15 from rfl] at this
  rw [this, show n &&& 15 = n % 16 from Nat.and_two_pow_sub_one_eq_mod n 4]

set_option maxRecDepth 10000 in
theorem slice_65 (W : World) (H i : Nat) (hi : i < 65) : (Instr.sliceAt 141 (.pointer (some ⟨H, 0, none⟩)) (some (.int .i64 (i : Int))) none none).run Tryd.prog W = .ok (.slice (some ⟨H, i, none⟩) (65 - i) (65 - i)) W := by
  have hl : Tryd.prog.arrayLen 141 = 65 := by kernel_rfl
  have he : Tryd.prog.elem 141 = 5 := by kernel_rfl
  have h1 := run_sliceAt_array_l (P := Tryd.prog) W 141 ⟨H, 0, none⟩ (by rw [hl, he]; exact Tryd.underlying141) .i64 (i : Int) (by omega) (by rw [hl]; omega)
  rw [h1, hl, he]
  have hs : (sizeOf 5).run Tryd.prog W = .ok 1 W := by kernel_rfl
  rw [hs]
  show Result.ok _ W = _
  unfold slicedAt
  rw [if_neg (by simp; omega)]
  simp [Addr.add]
  omega

set_option maxRecDepth 10000 in
set_option maxHeartbeats 1600000 in
theorem bits16_any {w : World} (n : Nat) (hn : n < two64) (h : w.cell? ⟨3, 15, none⟩ = some (.int .u8 4)) (hg : 3 < w.heap.size) :
    Calls Tryd.prog 61 #[.slice none 0 0, .int .u64 (n : Int), .int .i64 16, .bool false, .bool false] w fun r w' => r = .returned (.tuple #[.slice none 0 0, .string ⟨(digB 16 n).toArray⟩]) ∧ Below w.heap.size w w' := by
  have hP := pow2_16
  have HT := Lib.hid (fun W (hW : Below w.heap.size w W) => tz_16 W (by rw [hW.cell (p := ⟨3, 15, none⟩) hg]; exact h))
  clear h hg
  go_enter Tryd.func61, Tryd.ntmps61
  go_wp2_with (first
    | (go_at_call 68; refine (hP _).mono ?_; rintro r w1 ⟨rfl, rfl⟩)
    | (go_at_call 69; refine (HT.out _ (by exact (Below.refl _ _).alloc (Nat.le_refl _) _)).mono ?_; rintro r w1 ⟨rfl, rfl⟩))
  go_loopg [1, 13] n (fun gk u i wr => ∃ (m : Nat) (D : List UInt8), gk = m ∧ u = .int .u64 m ∧ (∃ z : Nat, i = .int .i64 ((z + 1 : Nat) : Int) ∧ Hid (z + 1 + D.length = 65)) ∧ Hid (digB 16 n = digB 16 m ++ D) ∧ Hid (m < two64) ∧ D.length ≤ 15 ∧ Hid (Box wr w.heap.size 141 (arrD D)) ∧ Hid (Below w.heap.size w wr))
  case atStart => exact ⟨n, [], rfl, rfl, ⟨64, rfl, Lib.hid rfl⟩, Lib.hid (by simp), Lib.hid hn, by simp, Lib.hid (Box.new _ _ _), Lib.hid ((Below.refl _ _).alloc (Nat.le_refl _) _)⟩
  case round =>
    obtain ⟨m, D, rfl, rfl, ⟨i, rfl, HZ⟩, HD, HM, hl, HX, HB⟩ := hrel
    have hm2 := HM.out
    unfold two64 at hm2
    have hz := HZ.out
    have hi65 : i < 65 := by omega
    have hi : 65 - D.length - 1 = i := by omega
    have hcell : ∃ v, wr.cell? ⟨w.heap.size, i, none⟩ = some v := by
      rw [HX.out.cell]
      exact ⟨_, Array.getElem?_eq_getElem (by rw [arrD_size (by omega)]; omega)⟩
    obtain ⟨cv, c0⟩ := hcell
    have f0 := HX.out.free i
    have hs1 : ((i + 1 : Nat) : Int) - 1 = (i : Int) := by omega
    have hs2 : (i : Int) + 1 - 1 = (i : Int) := by omega
    by_cases hm : 16 ≤ gk
    · have hd1 : decide ((16 : Int) ≤ (gk : Int)) = true := decide_eq_true (by omega)
      have hd2 : decide (16 ≤ gk) = true := decide_eq_true hm
      have hmask := mask_16 gk HM.out
      have hdig := digit_byte (d := gk % 16) (by omega)
      obtain ⟨hb36, hdg⟩ := getElem?_eq_some_iff.1 hdig
      have HDG := Lib.hid hdg
      have hlen := digB_len (b := 16) (by decide) 15 n (by unfold two64 at hn; exact Nat.lt_of_lt_of_le hn (by decide))
      rw [HD.out, List.length_append, digB_next hm (by decide), List.length_append] at hlen
      have hne := List.length_pos_iff.2 (digB_ne 16 (gk / 16))
      have hl14 : D.length ≤ 14 := by simp at hlen; omega
      have HX2 := Lib.hid (show Box (wr.setCell ⟨w.heap.size, i, none⟩ (.int .u8 ((digC (gk % 16)).toNat : Int))) w.heap.size 141 (arrD (digC (gk % 16) :: D)) from by
        have h1 := HX.out.set i (.int .u8 ((digC (gk % 16)).toNat : Int))
        rw [← hi, arrD_set (by omega), hi] at h1
        exact h1)
      have HB2 := Lib.hid (below_only HB.out (Nat.le_refl _) (only_set (only_refl wr w.heap.size) i (.int .u8 ((digC (gk % 16)).toNat : Int))) (Nat.le_refl _))
      have HD2 := Lib.hid (show digB 16 n = digB 16 (gk / 16) ++ (digC (gk % 16) :: D) by rw [HD.out, digB_next hm (by decide), List.append_assoc]; rfl)
      have HL := Lib.hid hl14
      clear hlen hne hdg hi hz
      go_wp2_with fail
      go_roundg (gk / 16)
      case measure => omega
      case rel =>
        obtain ⟨z, rfl⟩ : ∃ z, i = z + 1 := ⟨i - 1, by have := HZ.out; have := HL.out; omega⟩
        refine ⟨gk / 16, digC (gk % 16) :: D, rfl, by simp, ⟨z, rfl, Lib.hid (by have := HZ.out; simp; omega)⟩, HD2, Lib.hid (by unfold two64; omega), by simp; have := HL.out; omega, ?_, ?_⟩
        · rw [HDG.out]
          exact HX2
        · rw [HDG.out]
          exact HB2
    · have hd1 : decide ((16 : Int) ≤ (gk : Int)) = false := decide_eq_false (by omega)
      have hd2 : decide (16 ≤ gk) = false := decide_eq_false hm
      have hdig := digit_byte (d := gk) (by omega)
      obtain ⟨hb36, hdg⟩ := getElem?_eq_some_iff.1 hdig
      have HX2 := Lib.hid (show Box (wr.setCell ⟨w.heap.size, i, none⟩ (.int .u8 ((digC gk).toNat : Int))) w.heap.size 141 (arrD (digC gk :: D)) from by
        have h1 := HX.out.set i (.int .u8 ((digC gk).toNat : Int))
        rw [← hi, arrD_set (by omega), hi] at h1
        exact h1)
      have HB2 := Lib.hid (below_only HB.out (Nat.le_refl _) (only_set (only_refl wr w.heap.size) i (.int .u8 ((digC gk).toNat : Int))) (Nat.le_refl _))
      have HE := Lib.hid (show digB 16 n = digC gk :: D by rw [HD.out, digB_low (by omega)]; rfl)
      have HRD := Lib.hid (show Rd (wr.setCell ⟨w.heap.size, i, none⟩ (.int .u8 ((digC gk).toNat : Int))) (w.heap.size + 1) (some ⟨w.heap.size, i, none⟩) (digC gk :: D) from fun _ => ⟨w.heap.size, i, rfl, by omega, fun j u hu => by
        rw [HX2.out.cell]
        unfold arrD
        rw [List.getElem?_toArray, List.getElem?_append_right (by simp; omega)]
        rw [show i + j - (List.replicate (65 - (digC gk :: D).length) (Value.int .u8 0)).length = j by simp; omega, u8s_get, hu]
        rfl⟩)
      have hcv := conv_rd HRD.out (digC gk :: D).length
      have hlen2 : (digC gk :: D).length = 65 - i := by simp; omega
      rw [hlen2] at hcv
      have hsl := fun W => slice_65 W w.heap.size i hi65
      clear hz hi
      go_wp2_with fail
      go_ret2
      exact ⟨by rw [HE.out]; rfl, HB2.out⟩

set_option maxRecDepth 10000 in
theorem lfmt16_any {w : World} (n : Nat) (hn : n < two64) (h : w.cell? ⟨3, 15, none⟩ = some (.int .u8 4)) (hg : 3 < w.heap.size) :
    Calls Tryd.prog 50 #[.int .u64 (n : Int), .int .i64 16] w fun r w' => r = .returned (.string ⟨(digB 16 n).toArray⟩) ∧ Below w.heap.size w w' := by
  have HB := Lib.hid (bits16_any n hn h hg)
  clear h hg hn
  go_enter Tryd.func50, Tryd.ntmps50
  go_wp2_with (go_at_call 61; refine HB.out.mono ?_; rintro r w1 ⟨rfl, hb⟩)
  go_ret
  exact ⟨rfl, hb⟩
set_option maxRecDepth 10000 in
theorem fmt16_any {w : World} (n : Nat) (hn : n < two64) (h : w.cell? ⟨3, 15, none⟩ = some (.int .u8 4)) (hg : 3 < w.heap.size) :
    Calls Tryd.prog 37 #[.int .u64 (n : Int), .int .i64 16] w fun r w' => r = .returned (.string ⟨(digB 16 n).toArray⟩) ∧ Below w.heap.size w w' := by
  have HB := Lib.hid (lfmt16_any n hn h hg)
  clear h hg hn
  go_enter Tryd.func37, Tryd.ntmps37
  go_wp2_with (go_at_call 50; refine HB.out.mono ?_; rintro r w1 ⟨rfl, hb⟩)
  go_ret
  exact ⟨rfl, hb⟩

end Go.Proofs.YtejicboemkpeoaaDoor

namespace Go.Proofs.YtejicboemkpeoaaDoor

/-- A place's line, a symbol's, without the line feed. -/
def placeT (p : Place) : List UInt8 := [112, 108, 97, 99, 101] ++ 32 :: (decB p.obj ++ 32 :: (decB p.sect ++ 32 :: digB 16 p.addr))
def namedT (s : Named) : List UInt8 := [115, 121, 109] ++ 32 :: (s.name ++ 32 :: digB 16 s.addr)
/-- A map's text. -/
def textM (P : List Place) (Y : List Named) : List UInt8 := (P.map placeT ++ Y.map namedT).flatMap fun l => l ++ [10]
end Go.Proofs.YtejicboemkpeoaaDoor

namespace Go.Proofs.YtejicboemkpeoaaDoor
open Go Go.RowKit

/-- The lines of the first k places; of all places and the first k symbols. -/
def textP (P : List Place) (k : Nat) : List UInt8 := ((P.take k).map placeT).flatMap fun l => l ++ [10]
def textY (P : List Place) (Y : List Named) (k : Nat) : List UInt8 := textP P P.length ++ ((Y.take k).map namedT).flatMap fun l => l ++ [10]
theorem textP_next {P : List Place} {k : Nat} {p : Place} (h : P[k]? = some p) : textP P (k + 1) = textP P k ++ (placeT p ++ [10]) := by
  obtain ⟨hk, rfl⟩ := List.getElem?_eq_some_iff.1 h
  unfold textP
  rw [List.take_succ_eq_append_getElem hk, List.map_append, List.flatMap_append]
  simp
theorem textY_next {P : List Place} {Y : List Named} {k : Nat} {s : Named} (h : Y[k]? = some s) : textY P Y (k + 1) = textY P Y k ++ (namedT s ++ [10]) := by
  obtain ⟨hk, rfl⟩ := List.getElem?_eq_some_iff.1 h
  unfold textY
  rw [List.take_succ_eq_append_getElem hk, List.map_append, List.flatMap_append, List.append_assoc]
  simp
theorem textY_all (P : List Place) (Y : List Named) : textY P Y Y.length = textM P Y := by
  unfold textY textP textM
  rw [List.take_length, List.take_length, List.flatMap_append]
theorem textY_zero (P : List Place) (Y : List Named) : textY P Y 0 = textP P P.length := by simp [textY]
theorem textP_le (P : List Place) (Y : List Named) (k : Nat) : (textP P k).length ≤ (textM P Y).length := by
  rw [← textY_all, textY, List.length_append]
  have : (textP P P.length).length = (textP P k).length + (((P.drop k).map placeT).flatMap fun l => l ++ [10]).length := by
    unfold textP
    rw [List.take_length, ← List.length_append, ← List.flatMap_append, ← List.map_append, List.take_append_drop]
  omega
theorem textY_le (P : List Place) (Y : List Named) (k : Nat) : (textY P Y k).length ≤ (textM P Y).length := by
  rw [← textY_all, textY, textY, List.length_append, List.length_append]
  have : (((Y.take Y.length).map namedT).flatMap fun l => l ++ [10]).length = (((Y.take k).map namedT).flatMap fun l => l ++ [10]).length + (((Y.drop k).map namedT).flatMap fun l => l ++ [10]).length := by
    rw [List.take_length, ← List.length_append, ← List.flatMap_append, ← List.map_append, List.take_append_drop]
  omega

end Go.Proofs.YtejicboemkpeoaaDoor

namespace Go.Proofs.YtejicboemkpeoaaDoor
open Go Go.RowKit

/-- The tables of digits as they lie in the variables. -/
structure Tabs (w : World) : Prop where
  pow : Lib.TabIs Tryd.prog w "internal/strconv.uint64pow10" .u64 Lib.pow10Tab
  bit : w.cell? ⟨3, 15, none⟩ = some (.int .u8 4)
  powLt : 0 < w.heap.size
  bitLt : 3 < w.heap.size
theorem pow_named : Tryd.prog.globalNamed "internal/strconv.uint64pow10" = some 0 := by kernel_rfl
theorem Tabs.below {w w' : World} (h : Tabs w) (hb : Below w.heap.size w w') : Tabs w' := by
  obtain ⟨h1, h2, h3, h4⟩ := h
  refine ⟨?_, (hb.cell (p := ⟨3, 15, none⟩) h4).trans h2, Nat.lt_of_lt_of_le h3 hb.size, Nat.lt_of_lt_of_le h4 hb.size⟩
  unfold Lib.TabIs World.var? at *
  rw [pow_named] at *
  simp only [Option.bind_some] at *
  rw [hb.block _ h3]
  exact h1

theorem dec10 : ∀ u : Nat, Lib.decDigits u = digB 10 u := by
  intro u
  induction u using Nat.strongRecOn with
  | ind u ih =>
    unfold Lib.decDigits
    by_cases h : u < 10
    · rw [dif_pos h, digB_low h]
      unfold digC
      rw [if_pos h]
    · rw [dif_neg h, digB_next (by omega) (by decide), ih _ (by omega)]
      unfold digC
      rw [if_pos (by omega)]
theorem itoa_dec (z : Int) : Lib.itoa z = decB z := by
  unfold Lib.itoa decB
  split <;> rw [dec10]
theorem itoa_any {w : World} (h : Tabs w) (z : Int) (hz : InI z) : Calls Tryd.prog 36 #[.int .i64 z] w fun r w' => r = .returned (.string ⟨(decB z).toArray⟩) ∧ Below w.heap.size w w' :=
  (Tryd.strconv_Itoa z hz.1 hz.2 w h.pow).mono fun r w' ⟨h1, k, os, h2⟩ => ⟨by rw [h1, itoa_dec], h2 ▸ Lib.below_grow _ w (Nat.le_refl _) k os⟩

theorem laid_then {w w0 w1 : World} {base : Nat} {v v1 : Value} {l1 : List UInt8} (hb : Below w.heap.size w w0) (h1 : Own w1 base v1 l1) (hg : w0.grownBy w1 v.ownBlock) (ha : v1.ownBlock = v.ownBlock ∨ ∀ x, v1.ownBlock = some x → w0.heap.size ≤ x) : Laid w w1 base v v1 l1 :=
  ⟨h1, (only_below hb v.ownBlock).trans hg, ha.imp id (fun h x hx => Nat.le_trans hb.size (h x hx))⟩
/-- Words with a space between them. -/
def joinT (xs : List (List UInt8)) : List UInt8 := Lib.join xs [32]
theorem join_any {w : World} {bk o c : Nat} {xs : List (List UInt8)} (hc : ∀ (j : Nat) x, xs[j]? = some x → w.cell? ⟨bk, o + j, none⟩ = some (.string ⟨x.toArray⟩)) (hb : bk < w.heap.size) (hN : xs.length ≤ 1000) (hcap : xs.length ≤ c) (hl : (joinT xs).length ≤ 140737488355328) :
    Calls Tryd.prog 48 #[.slice (some ⟨bk, o, none⟩) xs.length c, .string ⟨#[32]⟩] w fun r w' => r = .returned (.string ⟨(joinT xs).toArray⟩) ∧ Below w.heap.size w w' := by
  have e : (xs.map fun x => ByteArray.mk x.toArray).map (·.data.toList) = xs := by rw [List.map_map]; simp [Function.comp_def]
  have h := Tryd.strings_Join bk o c (xs.map fun x => ByteArray.mk x.toArray) ⟨#[32]⟩ w (fun j x hx => by
    rw [List.getElem?_map] at hx
    obtain ⟨y, hy, rfl⟩ := Option.map_eq_some_iff.1 hx
    exact hc j y hy) hb (by simp; omega) (by simpa using hcap) (by rw [e]; exact hl)
  rw [e, List.length_map] at h
  exact h

set_option maxRecDepth 10000 in
set_option maxHeartbeats 800000 in
theorem putline_any {w : World} {base bk o c : Nat} {v : Value} {l : List UInt8} {xs : List (List UInt8)} (hown : Own w base v l) (hbase : base ≤ w.heap.size) (hc : ∀ (j : Nat) x, xs[j]? = some x → w.cell? ⟨bk, o + j, none⟩ = some (.string ⟨x.toArray⟩)) (hb : bk < w.heap.size) (hN : xs.length ≤ 1000) (hcap : xs.length ≤ c) (hl : l.length + (joinT xs).length ≤ 140737488355000) :
    Calls Tryd.prog 35 #[v, .slice (some ⟨bk, o, none⟩) xs.length c] w fun r w' => ∃ v', r = .returned v' ∧ Laid w w' base v v' (l ++ (joinT xs ++ [10])) := by
  obtain ⟨i0, hi, hz0, hz1, hz2⟩ := info_parts u8_info
  have HJ := Lib.hid (join_any hc hb hN hcap (by omega))
  have hsum : l.length + (joinT xs).length ≤ 140737488355328 := by omega
  have hsum2 : (l ++ joinT xs).length + [(10 : UInt8)].length ≤ 140737488355328 := by simp; omega
  have HO := Lib.hid hown
  have HR := Lib.hid (fun W => rd_one W 10 10 rfl)
  clear hown hc hb hN hcap hl
  generalize joinT xs = t at *
  generalize xs.length = n at *
  go_enter Tryd.func35, Tryd.ntmps35
  go_wp2_with (first
    | (go_at_call 48; refine HJ.out.mono ?_; rintro r w1 ⟨rfl, hb1⟩; have HB1 := Lib.hid hb1; have hs1 := hb1.size; clear hb1)
    | (at_builtin; refine wpList_append_str (by rfl) (.tmp 5) (.tmp 7) _ _ (by rfl) base i0 Tryd.underlying68 Tryd.underlying9 hi hz0 hz1 hz2 v l (by rfl) (own_below HO.out HB1.out) t (by rfl) hsum (by omega) ?_; intro v1 w2 hown1 hg1 hat1; have HL1 := Lib.hid (laid_then HB1.out hown1 hg1 hat1); clear hown1 hg1 hat1)
    | (at_builtin; refine wpList_append_bytes (by rfl) (.tmp 9) (.tmp 10) _ (by rfl) base i0 Tryd.underlying68 hi hz0 hz1 hz2 v1 (l ++ t) (by rfl) (HL1.out.1.alloc _) (w2.heap.size + 1) (some ⟨w2.heap.size, 0, none⟩) 1 1 [10] rfl (by rfl) (HR.out _) hsum2 (by have := HL1.out.2.1.size; simp; omega) ?_; intro v2 w3 hown2 hg2 hat2))
  go_ret
  exact ⟨_, rfl, by rw [← List.append_assoc]; exact HL1.out.trans (Laid.of_append ((Below.refl w2.heap.size w2).alloc (Nat.le_refl _) _) hown2 hg2 hat2)⟩

end Go.Proofs.YtejicboemkpeoaaDoor

namespace Go.Proofs.YtejicboemkpeoaaDoor
open Go Go.RowKit

theorem join_place (p : Place) : joinT [[112, 108, 97, 99, 101], decB p.obj, decB p.sect, digB 16 p.addr] = placeT p := by
  simp [joinT, Lib.join, placeT, List.intercalate, List.intersperse]
theorem join_named (y : Named) : joinT [[115, 121, 109], y.name, digB 16 y.addr] = namedT y := by
  simp [joinT, Lib.join, namedT, List.intercalate, List.intersperse]
theorem words_cells (W : World) (T : TypeId) (xs : List (List UInt8)) : ∀ (j : Nat) x, xs[j]? = some x → (W.alloc (.cells (xs.map fun x => (Value.string ⟨x.toArray⟩)).toArray T)).cell? ⟨W.heap.size, 0 + j, none⟩ = some (.string ⟨x.toArray⟩) := fun j x hx => by
  rw [(Box.new W T _).cell, Nat.zero_add]
  simp [hx]

theorem put_step {W0 Wr W : World} {base g n : Nat} {v : Value} {l l' : List UInt8} {T : TypeId} {cs A : Array Value} (xs : List (List UInt8)) (hown : Own Wr base v l) (hb : Below base W0 Wr) (hbase : base ≤ W0.heap.size) (hW : Below Wr.heap.size Wr W) (hg : Wr.heap.size ≤ g) (hx : Box W g T cs) (hA : (xs.map fun x => (Value.string ⟨x.toArray⟩)).toArray = A) (hn : xs.length = n) (hn1 : n ≤ 1000) (hl : l ++ (joinT xs ++ [10]) = l') (hl1 : l'.length ≤ 1000000000) :
    Calls Tryd.prog 35 #[v, .slice (some ⟨W.heap.size, 0, none⟩) n n] (W.alloc (.cells A 9)) fun r w6 => ∃ v6, r = .returned v6 ∧ Hid (Own w6 base v6 l') ∧ Hid (Below base W0 w6) ∧ Hid (Box w6 g T cs) := by
  subst hA hn hl
  have ha := (Below.refl W.heap.size W).alloc (Nat.le_refl _) (.cells (xs.map fun x => (Value.string ⟨x.toArray⟩)).toArray 9)
  have hs := hb.size
  have hs2 := hW.size
  have hbz : Below base W0 W := hb.trans (hW.mono (by omega))
  have hown2 := own_below (own_below hown hW) ha
  have h3 := putline_any (bk := W.heap.size) (o := 0) (c := xs.length) (xs := xs) hown2 (by simp; omega) (words_cells W 9 _) (by simp) hn1 (Nat.le_refl _) (by simp at hl1; omega)
  refine h3.mono ?_
  rintro r w6 ⟨v6, rfl, hL6⟩
  exact ⟨v6, rfl, Lib.hid hL6.1, Lib.hid (below_laid (hbz.alloc (by omega) _) hown2 hL6 hbase), Lib.hid ((hx.below ha hx.lt).grown hL6.2.1 (fun e => by have := (own_ge hown _ e.symm).2; omega))⟩

set_option maxRecDepth 10000 in
set_option maxHeartbeats 1600000 in
theorem text_any {w : World} {B : Nat} {aP aY : Option Addr} {P : List Place} {Y : List Named} (cP cY : Nat) (hT : Tabs w) (hP : Row 3 Place.cells w B aP P) (hY : Row 2 Named.cells w B aY Y) (hB : B ≤ w.heap.size) (hp : ∀ p ∈ P, p.Nums) (hy : ∀ s ∈ Y, s.Nums) (h1 : P.length ≤ 100000) (h2 : Y.length ≤ 100000) (hl : (textM P Y).length ≤ 1000000000) :
    Calls Tryd.prog 23 #[.agg #[.slice aP P.length cP, .slice aY Y.length cY]] w fun r w' => ∃ v, r = .returned v ∧ Own w' w.heap.size v (textM P Y) ∧ Below w.heap.size w w' := by
  obtain ⟨N, hN⟩ : ∃ N, P.length = N := ⟨_, rfl⟩
  obtain ⟨M, hM⟩ : ∃ M, Y.length = M := ⟨_, rfl⟩
  have HN := Lib.hid hN
  have HM := Lib.hid hM
  have HL := Lib.hid hl
  generalize hw0 : w.alloc (.cells #[.slice aP P.length cP, .slice aY Y.length cY] 25) = w0 at *
  have hX := Box.new w 25 #[.slice aP P.length cP, .slice aY Y.length cY]
  have hb0 : Below w.heap.size w w0 := hw0 ▸ (Below.refl _ _).alloc (Nat.le_refl _) _
  have hs0 : w.heap.size < w0.heap.size := by rw [← hw0]; simp
  rw [hw0] at hX
  have x0 := hX.cell 0
  simp only [List.getElem?_toArray, List.getElem?_cons_zero] at x0
  rw [hN] at x0
  have HX := Lib.hid (fun W (hW : Below w0.heap.size w0 W) => hX.below hW hs0)
  have HB0 := Lib.hid hb0
  have HPR := Lib.hid (fun W (hW : Below w.heap.size w W) => (⟨(hP.below (hW.mono hB)), (hY.below (hW.mono hB)), hT.below hW⟩ : Row 3 Place.cells W B aP P ∧ Row 2 Named.cells W B aY Y ∧ Tabs W))
  have HPN := Lib.hid (And.intro hp hy)
  rw [hN] at h1
  rw [hM] at h2
  clear hT hP hY hB hp hy hl hX hb0 hN hM
  go_enter Tryd.func23, Tryd.ntmps23
  go_upto_region 1 with fail
  try rw [hw0]
  clear hw0
  go_wp2_with fail
  clear x0
  go_loopg [3, 11] N (fun gk v i wr => ∃ k : Nat, k ≤ N ∧ gk = N - k ∧ i = .int .i64 k ∧ Hid (Own wr w0.heap.size v (textP P k)) ∧ Hid (Below w0.heap.size w0 wr))
  case atStart => exact ⟨0, Nat.zero_le _, rfl, rfl, Lib.hid (World.ownsRow_nil _ _ _ _), Lib.hid (Below.refl _ _)⟩
  case round =>
    obtain ⟨k, hk, rfl, rfl, HO, HB⟩ := hrel
    have hbw : Below w.heap.size w wr := HB0.out.trans (HB.out.mono HB0.out.size)
    by_cases hlt : k < N
    · obtain ⟨p, hpk⟩ : ∃ p, P[k]? = some p := ⟨_, List.getElem?_eq_getElem (by rw [HN.out]; exact hlt)⟩
      obtain ⟨b, o, rfl, hb, c0, c1, c2⟩ := place_at (HPR.out _ hbw).1 hpk
      obtain ⟨hn1, hn2, hn3⟩ := HPN.out.1 p (List.mem_of_getElem? hpk)
      have HNX := Lib.hid (textP_next hpk)
      have HLT := Lib.hid hlt
      have hle := Nat.le_trans (textP_le P Y (k + 1)) HL.out
      rw [HNX.out, List.length_append, List.length_append] at hle
      generalize hw2 : wr.alloc (.cells #[.int .i64 p.obj, .int .i64 p.sect, .int .u64 (p.addr : Int)] 43) = w2 at *
      have hb2 : Below wr.heap.size wr w2 := hw2 ▸ (Below.refl _ _).alloc (Nat.le_refl _) _
      have hx2 := Box.new wr 43 #[.int .i64 p.obj, .int .i64 p.sect, .int .u64 (p.addr : Int)]
      rw [hw2] at hx2
      have hs2 : wr.heap.size < w2.heap.size := by rw [← hw2]; simp
      have HB2 := Lib.hid (hbw.trans (hb2.mono hbw.size))
      have HBZ := Lib.hid (HB.out.trans (hb2.mono HB.out.size))
      have KS := Lib.hid (fun W (hW : Below w2.heap.size w2 W) => (by
        have h3 := hx2.below hW hs2
        exact ⟨by rw [h3.cell]; rfl, by rw [h3.cell]; rfl, by rw [h3.cell]; rfl⟩ : W.cell? ⟨wr.heap.size, 0, none⟩ = some (.int .i64 p.obj) ∧ W.cell? ⟨wr.heap.size, 1, none⟩ = some (.int .i64 p.sect) ∧ W.cell? ⟨wr.heap.size, 2, none⟩ = some (.int .u64 (p.addr : Int))))
      have KT := Lib.hid (fun W (hW : Below w2.heap.size w2 W) => (HPR.out _ (HB2.out.trans (hW.mono HB2.out.size))).2.2)
      have HI1 := Lib.hid (fun W hW => itoa_any (KT.out W hW) p.obj hn1)
      have HI2 := Lib.hid (fun W hW => itoa_any (KT.out W hW) p.sect hn2)
      have HF := Lib.hid (fun W hW => fmt16_any (w := W) p.addr hn3 (KT.out W hW).bit (KT.out W hW).bitLt)
      have HPL := Lib.hid (fun W (hW : Below w2.heap.size w2 W) => put_step (base := w0.heap.size) (l' := textP P (k + 1)) [[112, 108, 97, 99, 101], decB p.obj, decB p.sect, digB 16 p.addr] HO.out HB.out (Nat.le_refl _) (hb2.trans (hW.mono (Nat.le_of_lt hs2))) (Nat.le_refl _) (hx2.below hW hs2) (A := #[.string ⟨#[112, 108, 97, 99, 101]⟩, .string ⟨(decB p.obj).toArray⟩, .string ⟨(decB p.sect).toArray⟩, .string ⟨(digB 16 p.addr).toArray⟩]) (by simp) rfl (by simp) (by rw [join_place]; exact HNX.out.symm) (by rw [HNX.out, List.length_append, List.length_append]; exact hle))
      have HX6 := Lib.hid (fun W (h : Box W wr.heap.size 43 #[.int .i64 p.obj, .int .i64 p.sect, .int .u64 (p.addr : Int)]) => (⟨by rw [h.cell]; rfl, by rw [h.cell]; rfl, by rw [h.cell]; rfl⟩ : W.cell? ⟨wr.heap.size, 0, none⟩ = some (.int .i64 p.obj) ∧ W.cell? ⟨wr.heap.size, 1, none⟩ = some (.int .i64 p.sect) ∧ W.cell? ⟨wr.heap.size, 2, none⟩ = some (.int .u64 (p.addr : Int))))
      obtain ⟨q0, q1, q2⟩ := KS.out _ (Below.refl _ _)
      have hA2 := (Below.refl w2.heap.size w2)
      have HW2 := Lib.hid hw2
      clear hw2 hb2 hx2 hbw hpk hlt hn1 hn2 hn3 hle
      go_upto_region 5 with fail
      try rw [HW2.out]
      go_region_held_law (fun W => W.cell? ⟨wr.heap.size, 0, none⟩ = some (.int .i64 p.obj) ∧ W.cell? ⟨wr.heap.size, 1, none⟩ = some (.int .i64 p.sect) ∧ W.cell? ⟨wr.heap.size, 2, none⟩ = some (.int .u64 (p.addr : Int)))
        (first | exact hS6 | (refine KS.out _ ?_; first | assumption | exact hA2.drew | exact hA5 _ | exact (hA5 _).drew))
        (first
          | (go_at_call 36; refine (HI1.out _ (by exact hA2.drew)).mono ?_; clear HI1; rintro r w3 ⟨rfl, hb3⟩; have hA3 := hA2.drew.trans (hb3.mono (Nat.le_refl _)); clear hb3)
          | (go_at_call 36; refine (HI2.out _ (by exact hA3)).mono ?_; rintro r w4 ⟨rfl, hb4⟩; have hA4 := hA3.trans (hb4.mono hA3.size); clear hb4)
          | (go_at_call 37; refine (HF.out _ (by exact hA4)).mono ?_; rintro r w5 ⟨rfl, hb5⟩; have hA5 := fun o => (hA4.trans (hb5.mono hA4.size)).alloc (hA4.trans (hb5.mono hA4.size)).size o; have hA6 := hA4.trans (hb5.mono hA4.size); clear hb5)
          | (go_at_call 35; refine (HPL.out _ hA6).mono ?_; rintro r w6 ⟨v6, rfl, HO6, HB6, HS6⟩; have hS6 := HX6.out _ HS6.out))
      go_wp2_with fail
      go_roundg (N - (k + 1))
      case measure => have := HLT.out; omega
      case rel => exact ⟨k + 1, HLT.out, rfl, by go_num, HO6, HB6⟩
    · have hkN : k = N := by omega
      subst hkN
      have HT0 := Lib.hid (show textY P Y 0 = textP P k by rw [textY_zero, HN.out])
      rw [← HT0.out] at HO
      clear HT0 hlt
      have HYR := Lib.hid (fun W hW => (HPR.out W hW).2)
      have x1 := (HX.out _ HB.out).cell 1
      simp only [List.getElem?_toArray, List.getElem?_cons_succ, List.getElem?_cons_zero] at x1
      rw [HM.out] at x1
      have HO := Lib.hid HO.out
      clear HPR
      go_wp2_with fail
      clear x1
      go_loopg [3, 31] M (fun gk v i wr => ∃ q : Nat, q ≤ M ∧ gk = M - q ∧ i = .int .i64 q ∧ Hid (Own wr w0.heap.size v (textY P Y q)) ∧ Hid (Below w0.heap.size w0 wr))
      case atStart => exact ⟨0, Nat.zero_le _, rfl, rfl, HO, HB⟩
      case round =>
        clear HO HB
        obtain ⟨q, hq, rfl, rfl, HO, HB⟩ := hrel
        have hbw : Below w.heap.size w wr := HB0.out.trans (HB.out.mono HB0.out.size)
        by_cases hlt : q < M
        · obtain ⟨p, hpk⟩ : ∃ p, Y[q]? = some p := ⟨_, List.getElem?_eq_getElem (by rw [HM.out]; exact hlt)⟩
          obtain ⟨b, o, rfl, hb, c0, c1⟩ := named_at (HYR.out _ hbw).1 hpk
          have hn3 : p.addr < two64 := HPN.out.2 p (List.mem_of_getElem? hpk)
          have HNX := Lib.hid (textY_next (P := P) hpk)
          have HLT := Lib.hid hlt
          have hle := Nat.le_trans (textY_le P Y (q + 1)) HL.out
          generalize hw2 : wr.alloc (.cells #[.string ⟨p.name.toArray⟩, .int .u64 (p.addr : Int)] 67) = w2 at *
          have hb2 : Below wr.heap.size wr w2 := hw2 ▸ (Below.refl _ _).alloc (Nat.le_refl _) _
          have hx2 := Box.new wr 67 #[.string ⟨p.name.toArray⟩, .int .u64 (p.addr : Int)]
          rw [hw2] at hx2
          have hs2 : wr.heap.size < w2.heap.size := by rw [← hw2]; simp
          have HB2 := Lib.hid (hbw.trans (hb2.mono hbw.size))
          have HBZ := Lib.hid (HB.out.trans (hb2.mono HB.out.size))
          have HX6 := Lib.hid (fun W (h : Box W wr.heap.size 67 #[.string ⟨p.name.toArray⟩, .int .u64 (p.addr : Int)]) => (⟨by rw [h.cell]; rfl, by rw [h.cell]; rfl⟩ : W.cell? ⟨wr.heap.size, 0, none⟩ = some (.string ⟨p.name.toArray⟩) ∧ W.cell? ⟨wr.heap.size, 1, none⟩ = some (.int .u64 (p.addr : Int))))
          have KS := Lib.hid (fun W (hW : Below w2.heap.size w2 W) => HX6.out W (hx2.below hW hs2))
          have KT := Lib.hid (fun W (hW : Below w2.heap.size w2 W) => (HYR.out _ (HB2.out.trans (hW.mono HB2.out.size))).2)
          have HF := Lib.hid (fun W hW => fmt16_any (w := W) p.addr hn3 (KT.out W hW).bit (KT.out W hW).bitLt)
          have HPL := Lib.hid (fun W (hW : Below w2.heap.size w2 W) => put_step (base := w0.heap.size) (l' := textY P Y (q + 1)) [[115, 121, 109], p.name, digB 16 p.addr] HO.out HB.out (Nat.le_refl _) (hb2.trans (hW.mono (Nat.le_of_lt hs2))) (Nat.le_refl _) (hx2.below hW hs2) (A := #[.string ⟨#[115, 121, 109]⟩, .string ⟨p.name.toArray⟩, .string ⟨(digB 16 p.addr).toArray⟩]) (by simp) rfl (by simp) (by rw [join_named]; exact HNX.out.symm) hle)
          obtain ⟨q0, q1⟩ := KS.out _ (Below.refl _ _)
          have hA2 := (Below.refl w2.heap.size w2)
          have HW2 := Lib.hid hw2
          clear hw2 hb2 hx2 hbw hpk hlt hn3 hle
          go_upto_region 10 with fail
          try rw [HW2.out]
          go_region_held_law (fun W => W.cell? ⟨wr.heap.size, 0, none⟩ = some (.string ⟨p.name.toArray⟩) ∧ W.cell? ⟨wr.heap.size, 1, none⟩ = some (.int .u64 (p.addr : Int)))
            (first | exact hS6 | (refine KS.out _ ?_; first | assumption | exact hA2.drew | exact hA5 _ | exact (hA5 _).drew))
            (first
              | (go_at_call 37; refine (HF.out _ (by exact hA2.drew)).mono ?_; rintro r w5 ⟨rfl, hb5⟩; have hA6 := hA2.drew.trans (hb5.mono (Nat.le_refl _)); have hA5 := fun o => hA6.alloc hA6.size o; clear hb5)
              | (go_at_call 35; refine (HPL.out _ hA6).mono ?_; rintro r w6 ⟨v6, rfl, HO6, HB6, HS6⟩; have hS6 := HX6.out _ HS6.out))
          go_wp2_with fail
          go_roundg (M - (q + 1))
          case measure => have := HLT.out; omega
          case rel => exact ⟨q + 1, HLT.out, rfl, by go_num, HO6, HB6⟩
        · have hqM : q = M := by omega
          subst hqM
          have HT := Lib.hid (show textY P Y q = textM P Y by rw [← textY_all, HM.out])
          rw [HT.out] at HO
          have HO := Lib.hid HO.out
          go_wp2_with fail
          go_ret
          exact ⟨_, rfl, row_base HO.out HB0.out.size, HB0.out.trans (HB.out.mono HB0.out.size)⟩

end Go.Proofs.YtejicboemkpeoaaDoor
