/-
  Package unit: right, Put, Size.
-/
import Derived.Test.YtelmfhpefnemfaaDoorUnE
import Derived.Test.YtelmfhpefnemfaaDoorLtB
namespace Go.Proofs.YtelmfhpefnemfaaDoor
open Go Go.RowKit

/-- Whether a number fits an offset's bytes; whether a head may be put. -/
def fitsO (wide : Bool) (n : Nat) : Bool := wide || decide (n < 4294967296)
def rightU (h : UHd) : Bool := kindOk h.kind && (fitsO h.wide h.ab && (if h.kind = 2 then fitsO h.wide h.ty else decide (h.sig = 0) && decide (h.ty = 0)))
/-- A head of numbers of 64 bits. -/
structure UHd.In (h : UHd) : Prop where
  k : -9223372036854775808 ≤ h.kind ∧ h.kind ≤ 9223372036854775807
  ab : h.ab < two64
  sig : h.sig < two64
  ty : h.ty < two64

set_option maxRecDepth 10000 in
set_option maxHeartbeats 1600000 in
theorem right_unit {w : World} (hs : Sz w) (h : UHd) (hi : h.In) :
    Calls Tryd.prog 56 #[.agg #[.int .i64 h.kind, .bool h.wide, .int .u64 (h.ab : Int), .int .u64 (h.sig : Int), .int .u64 (h.ty : Int), .int .u64 (h.off : Int), .int .u64 (h.first : Int), .int .u64 (h.stop : Int)]] w fun r w' => r = .returned (.bool (rightU h)) ∧ Below w.heap.size w w' := by
  have H := Lib.hid (show rightU h = (kindOk h.kind && (fitsO h.wide h.ab && (if h.kind = 2 then fitsO h.wide h.ty else decide (h.sig = 0) && decide (h.ty = 0)))) from rfl)
  have hb1 : Below w.heap.size w (w.alloc (.cells #[.int .i64 h.kind, .bool h.wide, .int .u64 (h.ab : Int), .int .u64 (h.sig : Int), .int .u64 (h.ty : Int), .int .u64 (h.off : Int), .int .u64 (h.first : Int), .int .u64 (h.stop : Int)] 82)) := (Below.refl _ _).alloc (Nat.le_refl _) _
  have hX := Box.new w 82 #[.int .i64 h.kind, .bool h.wide, .int .u64 (h.ab : Int), .int .u64 (h.sig : Int), .int .u64 (h.ty : Int), .int .u64 (h.off : Int), .int .u64 (h.first : Int), .int .u64 (h.stop : Int)]
  have HB := Lib.hid hb1
  have HS := Lib.hid (hs.below hb1 hs.pos)
  have hab := hi.ab
  have hty := hi.ty
  have CK := Lib.hid (fun W => known_any h.kind W)
  have CO := Lib.hid (fun (W : World) (hS : Sz W) => off_len h.wide hS)
  unfold two64 at hab hty
  clear hs hb1 hi
  generalize rightU h = R at *
  go_enter Tryd.func56, Tryd.ntmps56
  go_upto_region 1 with fail
  generalize w.alloc (.cells #[.int .i64 h.kind, .bool h.wide, .int .u64 (h.ab : Int), .int .u64 (h.sig : Int), .int .u64 (h.ty : Int), .int .u64 (h.off : Int), .int .u64 (h.first : Int), .int .u64 (h.stop : Int)] 82) = w1 at *
  obtain ⟨y0, y1, y2, y3, y4, y5, y6, y7⟩ := eight_cells hX
  clear hX
  generalize h.kind = kd at *
  generalize h.ab = ab at *
  generalize h.sig = sg at *
  generalize h.ty = ty at *
  cases hw : h.wide with
  | false =>
    rw [hw] at H CO y1
    have CO := Lib.hid (fun (W : World) (hS : Sz W) => show Calls Tryd.prog 57 #[.bool false] W fun r w' => r = .returned (.int .i64 4) ∧ W = w' from CO.out W hS)
    have F := Lib.hid (fun (m : Nat) (hm : m < 18446744073709551616) => show (((m : Int) / 4294967296 != 0) = !(fitsO false m)) ∧ (((m : Int) / 4294967296 == 0) = fitsO false m) from by
      have : fitsO false m = decide (m < 4294967296) := by simp [fitsO]
      rw [this]
      by_cases h : m < 4294967296
      · rw [decide_eq_true h, show (m : Int) / 4294967296 = 0 by omega]
        exact ⟨rfl, rfl⟩
      · rw [decide_eq_false h]
        constructor
        · simp; omega
        · simp; omega)
    obtain ⟨qa, -⟩ := F.out ab hab
    obtain ⟨-, qt⟩ := F.out ty hty
    generalize fitsO false ab = fa at *
    generalize fitsO false ty = ft at *
    clear F hw
    cases hk : kindOk kd with
    | false =>
      rw [hk] at H CK
      clear qa qt
      go_wp2_with (first
        | (go_at_call 57; refine (CO.out _ HS.out).mono ?_; rintro r w2 ⟨rfl, rfl⟩)
        | (go_at_call 90; refine (CK.out _).mono ?_; rintro r w2 ⟨rfl, rfl⟩))
      go_ret
      exact ⟨by rw [H.out]; rfl, HB.out⟩
    | true =>
      rw [hk] at H CK
      clear hk
      cases fa with
      | false =>
        go_wp2_with (first
          | (go_at_call 57; refine (CO.out _ HS.out).mono ?_; rintro r w2 ⟨rfl, rfl⟩)
          | (go_at_call 90; refine (CK.out _).mono ?_; rintro r w2 ⟨rfl, rfl⟩))
        go_ret
        exact ⟨by rw [H.out]; rfl, HB.out⟩
      | true =>
        by_cases h2 : kd = 2
        · have q2 : (kd == 2) = true := by simpa using h2
          rw [if_pos h2] at H
          clear h2
          go_wp2_with (first
            | (go_at_call 57; refine (CO.out _ HS.out).mono ?_; rintro r w2 ⟨rfl, rfl⟩)
            | (go_at_call 90; refine (CK.out _).mono ?_; rintro r w2 ⟨rfl, rfl⟩))
          go_ret
          exact ⟨by rw [H.out]; simp, HB.out⟩
        · have q2 : (kd == 2) = false := by simpa using h2
          rw [if_neg h2] at H
          clear h2 qt
          by_cases h0 : sg = 0
          · have q0 : ((sg : Int) == 0) = true := by simp; omega
            rw [decide_eq_true h0] at H
            clear h0
            have qz : ((ty : Int) == 0) = decide (ty = 0) := by rw [Bool.eq_iff_iff]; simp
            go_wp2_with (first
              | (go_at_call 57; refine (CO.out _ HS.out).mono ?_; rintro r w2 ⟨rfl, rfl⟩)
              | (go_at_call 90; refine (CK.out _).mono ?_; rintro r w2 ⟨rfl, rfl⟩))
            go_ret
            exact ⟨by rw [H.out]; simp, HB.out⟩
          · have q0 : ((sg : Int) == 0) = false := by simp; omega
            rw [decide_eq_false h0] at H
            clear h0
            go_wp2_with (first
              | (go_at_call 57; refine (CO.out _ HS.out).mono ?_; rintro r w2 ⟨rfl, rfl⟩)
              | (go_at_call 90; refine (CK.out _).mono ?_; rintro r w2 ⟨rfl, rfl⟩))
            go_ret
            exact ⟨by rw [H.out]; rfl, HB.out⟩
  | true =>
    rw [hw] at H CO y1
    have CO := Lib.hid (fun (W : World) (hS : Sz W) => show Calls Tryd.prog 57 #[.bool true] W fun r w' => r = .returned (.int .i64 8) ∧ W = w' from CO.out W hS)
    have F := Lib.hid (fun (m : Nat) (hm : m < 18446744073709551616) => show (((m : Int) / 18446744073709551616 != 0) = !(fitsO true m)) ∧ (((m : Int) / 18446744073709551616 == 0) = fitsO true m) from by
      have : fitsO true m = decide (m < 18446744073709551616) := by simp [fitsO]; omega
      rw [this]
      by_cases h : m < 18446744073709551616
      · rw [decide_eq_true h, show (m : Int) / 18446744073709551616 = 0 by omega]
        exact ⟨rfl, rfl⟩
      · rw [decide_eq_false h]
        constructor
        · simp; omega
        · simp; omega)
    obtain ⟨qa, -⟩ := F.out ab hab
    obtain ⟨-, qt⟩ := F.out ty hty
    generalize fitsO true ab = fa at *
    generalize fitsO true ty = ft at *
    clear F hw
    cases hk : kindOk kd with
    | false =>
      rw [hk] at H CK
      clear qa qt
      go_wp2_with (first
        | (go_at_call 57; refine (CO.out _ HS.out).mono ?_; rintro r w2 ⟨rfl, rfl⟩)
        | (go_at_call 90; refine (CK.out _).mono ?_; rintro r w2 ⟨rfl, rfl⟩))
      go_ret
      exact ⟨by rw [H.out]; rfl, HB.out⟩
    | true =>
      rw [hk] at H CK
      clear hk
      cases fa with
      | false =>
        go_wp2_with (first
          | (go_at_call 57; refine (CO.out _ HS.out).mono ?_; rintro r w2 ⟨rfl, rfl⟩)
          | (go_at_call 90; refine (CK.out _).mono ?_; rintro r w2 ⟨rfl, rfl⟩))
        go_ret
        exact ⟨by rw [H.out]; rfl, HB.out⟩
      | true =>
        by_cases h2 : kd = 2
        · have q2 : (kd == 2) = true := by simpa using h2
          rw [if_pos h2] at H
          clear h2
          go_wp2_with (first
            | (go_at_call 57; refine (CO.out _ HS.out).mono ?_; rintro r w2 ⟨rfl, rfl⟩)
            | (go_at_call 90; refine (CK.out _).mono ?_; rintro r w2 ⟨rfl, rfl⟩))
          go_ret
          exact ⟨by rw [H.out]; simp, HB.out⟩
        · have q2 : (kd == 2) = false := by simpa using h2
          rw [if_neg h2] at H
          clear h2 qt
          by_cases h0 : sg = 0
          · have q0 : ((sg : Int) == 0) = true := by simp; omega
            rw [decide_eq_true h0] at H
            clear h0
            have qz : ((ty : Int) == 0) = decide (ty = 0) := by rw [Bool.eq_iff_iff]; simp
            go_wp2_with (first
              | (go_at_call 57; refine (CO.out _ HS.out).mono ?_; rintro r w2 ⟨rfl, rfl⟩)
              | (go_at_call 90; refine (CK.out _).mono ?_; rintro r w2 ⟨rfl, rfl⟩))
            go_ret
            exact ⟨by rw [H.out]; simp, HB.out⟩
          · have q0 : ((sg : Int) == 0) = false := by simp; omega
            rw [decide_eq_false h0] at H
            clear h0
            go_wp2_with (first
              | (go_at_call 57; refine (CO.out _ HS.out).mono ?_; rintro r w2 ⟨rfl, rfl⟩)
              | (go_at_call 90; refine (CK.out _).mono ?_; rintro r w2 ⟨rfl, rfl⟩))
            go_ret
            exact ⟨by rw [H.out]; rfl, HB.out⟩

end Go.Proofs.YtelmfhpefnemfaaDoor
