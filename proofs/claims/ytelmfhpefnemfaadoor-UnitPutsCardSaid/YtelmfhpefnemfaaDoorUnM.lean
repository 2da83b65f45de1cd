/-
  Package unit: the document's Put and Size.
-/
import Derived.Test.YtelmfhpefnemfaaDoorUnL
import Derived.Test.YtelmfhpefnemfaaDoorUnF
import Derived.Test.YtelmfhpefnemfaaDoorPutR
namespace Go.Proofs.YtelmfhpefnemfaaDoor
open Go Go.RowKit

set_option maxRecDepth 10000 in
theorem rsize_unit (w : World) (k : Int) (wide : Bool) :
    Calls Tryd.prog 36 #[.int .i64 k, .bool wide] w fun r w' => r = .returned (.int .i64 (sizU k wide)) ∧ w = w' := by
  have HO := Lib.hid (fun W => roff_len wide W)
  have HZ := Lib.hid (show sizU k wide = match kindOk k with | true => (if wide then 24 else 12) + (if k = 2 then 8 + lenO wide else 0) | false => 0 from rfl)
  generalize sizU k wide = z at *
  by_cases h1 : k < 1
  · have q1 : decide (k < (1 : Int)) = true := by simpa using h1
    have HZ2 := Lib.hid (show z = 0 by rw [HZ.out, show kindOk k = false by unfold kindOk; rw [show decide ((1 : Int) ≤ k) = false by simp; omega]; rfl])
    clear h1
    go_enter Tryd.func36, Tryd.ntmps36
    go_wp2
    go_ret
    exact ⟨by rw [HZ2.out]; rfl, rfl⟩
  have q1 : decide (k < (1 : Int)) = false := by simpa using h1
  by_cases h3 : 3 < k
  · have q3 : decide ((3 : Int) < k) = true := by simpa using h3
    have HZ2 := Lib.hid (show z = 0 by rw [HZ.out, show kindOk k = false by unfold kindOk; rw [show decide (k ≤ (3 : Int)) = false by simp; omega]; simp])
    clear h1 h3
    go_enter Tryd.func36, Tryd.ntmps36
    go_wp2
    go_ret
    exact ⟨by rw [HZ2.out]; rfl, rfl⟩
  have q3 : decide ((3 : Int) < k) = false := by simpa using h3
  rw [show kindOk k = true by unfold kindOk; simp; omega] at HZ
  simp only at HZ
  by_cases h2 : k = 2
  · have q2 : (k == 2) = true := by simpa using h2
    rw [if_pos h2] at HZ
    clear h1 h2 h3
    cases wide with
    | false =>
      have HO := Lib.hid (fun (W : World) => show Calls Tryd.prog 60 #[.bool false] W fun r w' => r = .returned (.int .i64 4) ∧ W = w' from HO.out W)
      go_enter Tryd.func36, Tryd.ntmps36
      go_wp2_with (go_at_call 60; refine (HO.out _).mono ?_; rintro r w2 ⟨rfl, rfl⟩)
      go_ret
      exact ⟨by rw [HZ.out]; rfl, rfl⟩
    | true =>
      have HO := Lib.hid (fun (W : World) => show Calls Tryd.prog 60 #[.bool true] W fun r w' => r = .returned (.int .i64 8) ∧ W = w' from HO.out W)
      go_enter Tryd.func36, Tryd.ntmps36
      go_wp2_with (go_at_call 60; refine (HO.out _).mono ?_; rintro r w2 ⟨rfl, rfl⟩)
      go_ret
      exact ⟨by rw [HZ.out]; rfl, rfl⟩
  · have q2 : (k == 2) = false := by simpa using h2
    rw [if_neg h2] at HZ
    clear h1 h2 h3
    cases wide with
    | false =>
      go_enter Tryd.func36, Tryd.ntmps36
      go_wp2
      go_ret
      exact ⟨by rw [HZ.out]; rfl, rfl⟩
    | true =>
      go_enter Tryd.func36, Tryd.ntmps36
      go_wp2
      go_ret
      exact ⟨by rw [HZ.out]; rfl, rfl⟩

/-- The bytes so far, the head's box. -/
structure DpU (w0 W : World) (X : Nat) (cs : Array Value) (v : Value) (l : List UInt8) : Prop where
  x : Box W X 79 cs
  o : Own W w0.heap.size v l
  b : Below w0.heap.size w0 W
section
variable {w0 W W' : World} {X : Nat} {cs : Array Value} {v v' : Value} {l l' : List UInt8}
theorem DpU.below (h : DpU w0 W X cs v l) (hb : Below W.heap.size W W') : DpU w0 W' X cs v l :=
  ⟨h.x.below hb h.x.lt, own_below h.o hb, h.b.trans (hb.mono h.b.size)⟩
theorem DpU.put (h : DpU w0 W X cs v l) (ho : Own W' w0.heap.size v' l') (hg : W.grownBy W' v.ownBlock) : DpU w0 W' X cs v' l' :=
  ⟨un_box h.x h.o (by decide) hg, ho, h.b.grown hg h.b.size (fun y hy => (h.o.lt y hy).1)⟩
end
theorem own_litU (w : World) (k : Int) (kb : UInt8) (hk : k = (kb.toNat : Int)) : Own (w.alloc (.cells #[.int .u8 5, .int .u8 0, .int .u8 k, .int .u8 8] 5)) w.heap.size (.slice (some ⟨w.heap.size, 0, none⟩) 4 4) [5, 0, kb, 8] := by
  subst hk
  exact World.ownsRow_lit w #[.int .u8 5, .int .u8 0, .int .u8 (kb.toNat : Int), .int .u8 8] 4 (Nat.le_refl _) (by unfold maxLen; decide) rfl

set_option maxRecDepth 10000 in
set_option maxHeartbeats 3200000 in
theorem ruput_any {w : World} (h : UHd) (hi : h.In) {B : Nat} {A : Option Addr} {body : List UInt8} (hr : Rd w B A body) (hB : B ≤ w.heap.size) (c : Nat) (hlen : body.length ≤ 900000) :
    Calls Tryd.prog 34 #[.agg #[.int .i64 h.kind, .bool h.wide, .int .u64 (h.ab : Int), .int .u64 (h.sig : Int), .int .u64 (h.ty : Int), .int .u64 (h.off : Int), .int .u64 (h.first : Int), .int .u64 (h.stop : Int)], .slice A body.length c] w fun r w' => ∃ u, r = .returned (.tuple #[u, .int .i64 (putUE h)]) ∧ Own w' w.heap.size u (putUB h body) ∧ Below w.heap.size w w' := by
  obtain ⟨i0, hi0, hz0, hz1, hz2⟩ := info_parts u8_info
  have hb1 : Below w.heap.size w (w.alloc (.cells #[.int .i64 h.kind, .bool h.wide, .int .u64 (h.ab : Int), .int .u64 (h.sig : Int), .int .u64 (h.ty : Int), .int .u64 (h.off : Int), .int .u64 (h.first : Int), .int .u64 (h.stop : Int)] 79)) := (Below.refl _ _).alloc (Nat.le_refl _) _
  have hX := Box.new w 79 #[.int .i64 h.kind, .bool h.wide, .int .u64 (h.ab : Int), .int .u64 (h.sig : Int), .int .u64 (h.ty : Int), .int .u64 (h.off : Int), .int .u64 (h.first : Int), .int .u64 (h.stop : Int)]
  have HB1 := Lib.hid hb1
  have HX1 := Lib.hid hX
  have HRD := Lib.hid (fun (W : World) (hW : Below w.heap.size w W) => (hr.below (hW.mono hB)))
  have HO := Lib.hid (fun (W : World) => roff_len h.wide W)
  have HUE := Lib.hid (show putUE h = if rightU h = true then 0 else 2 from rfl)
  have HUB := Lib.hid (show putUB h body = if rightU h = true then lenB (unitB h body).length h.wide ++ unitB h body else [] from rfl)
  have HK := Lib.hid (@right_kind h)
  have HIN := Lib.hid hi
  have HRU := Lib.hid (show rightU h = (kindOk h.kind && (fitsO h.wide h.ab && (if h.kind = 2 then fitsO h.wide h.ty else decide (h.sig = 0) && decide (h.ty = 0)))) from rfl)
  clear hr hi hX hb1
  obtain ⟨rt, hrt⟩ : ∃ b, rightU h = b := ⟨_, rfl⟩
  rw [hrt] at HUE HUB HK HRU
  clear hrt
  generalize putUE h = PE at *
  generalize putUB h body = PB at *
  generalize hnb : body.length = nb at *
  have HNB := Lib.hid hnb
  clear hnb
  go_enter Tryd.func34, Tryd.ntmps34
  go_upto_region 2 with fail
  obtain ⟨y0, y1, y2, y3, y4, y5, y6, y7⟩ := eight_cells HX1.out
  generalize w.alloc (.cells #[.int .i64 h.kind, .bool h.wide, .int .u64 (h.ab : Int), .int .u64 (h.sig : Int), .int .u64 (h.ty : Int), .int .u64 (h.off : Int), .int .u64 (h.first : Int), .int .u64 (h.stop : Int)] 79) = w1 at *
  generalize Value.agg #[.int .i64 h.kind, .bool h.wide, .int .u64 (h.ab : Int), .int .u64 (h.sig : Int), .int .u64 (h.ty : Int), .int .u64 (h.off : Int), .int .u64 (h.first : Int), .int .u64 (h.stop : Int)] = V0
  go_cut [6, 12, 13, 49] (fun a b c u wx => a = .bool (!h.wide) ∧ b = .bool h.wide ∧ c = .bool (!h.wide) ∧ u = .bool (!rt) ∧ w1 = wx)
  case first =>
    by_cases h1 : h.kind < 1
    · have q1 : decide (h.kind < (1 : Int)) = true := by simpa using h1
      have HR := Lib.hid (show rt = false by rw [HRU.out, show kindOk h.kind = false by unfold kindOk; rw [show decide ((1 : Int) ≤ h.kind) = false by simp; omega]; rfl]; rfl)
      clear h1
      go_wp2_with fail
      go_meet
      case rel => exact ⟨by first | rfl | (rw [HWH.out]; rfl), by first | rfl | (rw [HWH.out]), by first | rfl | (rw [HWH.out]; rfl), by rw [HR.out]; rfl, rfl⟩
    have q1 : decide (h.kind < (1 : Int)) = false := by simpa using h1
    by_cases h3 : 3 < h.kind
    · have q3 : decide ((3 : Int) < h.kind) = true := by simpa using h3
      have HR := Lib.hid (show rt = false by rw [HRU.out, show kindOk h.kind = false by unfold kindOk; rw [show decide (h.kind ≤ (3 : Int)) = false by simp; omega]; simp]; rfl)
      clear h1 h3
      go_wp2_with fail
      go_meet
      case rel => exact ⟨by first | rfl | (rw [HWH.out]; rfl), by first | rfl | (rw [HWH.out]), by first | rfl | (rw [HWH.out]; rfl), by rw [HR.out]; rfl, rfl⟩
    have q3 : decide ((3 : Int) < h.kind) = false := by simpa using h3
    rw [show kindOk h.kind = true by unfold kindOk; simp; omega, Bool.true_and] at HRU
    clear h1 h3
    have hfit : ∀ n : Nat, fitsO false n = decide (n < 4294967296) := fun n => by simp [fitsO]
    have HW : h.wide = true ∨ h.wide = false := by cases h.wide <;> simp
    by_cases h2 : h.kind = 2
    · have q2 : (h.kind != 2) = false := by simpa using h2
      rw [if_pos h2] at HRU
      clear h2
      rcases HW with hw | hw
      all_goals have HWH := Lib.hid hw
      · rw [hw] at HRU y1
        have HR := Lib.hid (show rt = true by rw [HRU.out]; rfl)
        clear hfit
        go_wp2_with fail
        go_meet
        case rel => exact ⟨by first | rfl | (rw [HWH.out]; rfl), by first | rfl | (rw [HWH.out]), by first | rfl | (rw [HWH.out]; rfl), by rw [HR.out]; rfl, rfl⟩
      · rw [hw, hfit, hfit] at HRU
        rw [hw] at y1
        by_cases ha : 4294967295 < h.ab
        · have qa : decide ((4294967295 : Int) < (h.ab : Int)) = true := by simp; omega
          have qa' : decide (4294967295 < h.ab) = true := by simpa using ha
          have HR := Lib.hid (show rt = false by rw [HRU.out, decide_eq_false (show ¬ h.ab < 4294967296 by omega)]; rfl)
          clear ha hfit
          go_wp2_with fail
          go_meet
          case rel => exact ⟨by first | rfl | (rw [HWH.out]; rfl), by first | rfl | (rw [HWH.out]), by first | rfl | (rw [HWH.out]; rfl), by rw [HR.out]; rfl, rfl⟩
        · have qa : decide ((4294967295 : Int) < (h.ab : Int)) = false := by simp; omega
          have qa' : decide (4294967295 < h.ab) = false := by simpa using ha
          by_cases ht : 4294967295 < h.ty
          · have qt : decide ((4294967295 : Int) < (h.ty : Int)) = true := by simp; omega
            have qt' : decide (4294967295 < h.ty) = true := by simpa using ht
            have HR := Lib.hid (show rt = false by rw [HRU.out, decide_eq_false (show ¬ h.ty < 4294967296 by omega)]; simp)
            clear ha ht hfit
            go_wp2_with fail
            go_meet
            case rel => exact ⟨by first | rfl | (rw [HWH.out]; rfl), by first | rfl | (rw [HWH.out]), by first | rfl | (rw [HWH.out]; rfl), by rw [HR.out]; rfl, rfl⟩
          · have qt : decide ((4294967295 : Int) < (h.ty : Int)) = false := by simp; omega
            have qt' : decide (4294967295 < h.ty) = false := by simpa using ht
            have HR := Lib.hid (show rt = true by rw [HRU.out, decide_eq_true (show h.ty < 4294967296 by omega), decide_eq_true (show h.ab < 4294967296 by omega)]; rfl)
            clear ha ht hfit
            go_wp2_with fail
            go_meet
            case rel => exact ⟨by first | rfl | (rw [HWH.out]; rfl), by first | rfl | (rw [HWH.out]), by first | rfl | (rw [HWH.out]; rfl), by rw [HR.out]; rfl, rfl⟩
    · have q2 : (h.kind != 2) = true := by simpa using h2
      rw [if_neg h2] at HRU
      clear h2
      rcases HW with hw | hw
      all_goals have HWH := Lib.hid hw
      · rw [hw] at HRU y1
        by_cases hs0 : h.sig = 0
        · have qs : ((h.sig : Int) != 0) = false := by simp; omega
          by_cases ht0 : h.ty = 0
          · have qt : ((h.ty : Int) != 0) = false := by simp; omega
            have HR := Lib.hid (show rt = true by rw [HRU.out, decide_eq_true hs0, decide_eq_true ht0]; rfl)
            clear hs0 ht0 hfit
            go_wp2_with fail
            go_meet
            case rel => exact ⟨by first | rfl | (rw [HWH.out]; rfl), by first | rfl | (rw [HWH.out]), by first | rfl | (rw [HWH.out]; rfl), by rw [HR.out]; rfl, rfl⟩
          · have qt : ((h.ty : Int) != 0) = true := by simp; omega
            have HR := Lib.hid (show rt = false by rw [HRU.out, decide_eq_false ht0]; simp)
            clear hs0 ht0 hfit
            go_wp2_with fail
            go_meet
            case rel => exact ⟨by first | rfl | (rw [HWH.out]; rfl), by first | rfl | (rw [HWH.out]), by first | rfl | (rw [HWH.out]; rfl), by rw [HR.out]; rfl, rfl⟩
        · have qs : ((h.sig : Int) != 0) = true := by simp; omega
          have HR := Lib.hid (show rt = false by rw [HRU.out, decide_eq_false hs0]; simp)
          clear hs0 hfit
          go_wp2_with fail
          go_meet
          case rel => exact ⟨by first | rfl | (rw [HWH.out]; rfl), by first | rfl | (rw [HWH.out]), by first | rfl | (rw [HWH.out]; rfl), by rw [HR.out]; rfl, rfl⟩
      · rw [hw, hfit] at HRU
        rw [hw] at y1
        by_cases ha : 4294967295 < h.ab
        · have qa : decide ((4294967295 : Int) < (h.ab : Int)) = true := by simp; omega
          have qa' : decide (4294967295 < h.ab) = true := by simpa using ha
          have HR := Lib.hid (show rt = false by rw [HRU.out, decide_eq_false (show ¬ h.ab < 4294967296 by omega)]; rfl)
          clear ha hfit
          go_wp2_with fail
          go_meet
          case rel => exact ⟨by first | rfl | (rw [HWH.out]; rfl), by first | rfl | (rw [HWH.out]), by first | rfl | (rw [HWH.out]; rfl), by rw [HR.out]; rfl, rfl⟩
        · have qa : decide ((4294967295 : Int) < (h.ab : Int)) = false := by simp; omega
          have qa' : decide (4294967295 < h.ab) = false := by simpa using ha
          by_cases ht : 4294967295 < h.ty
          · have qt : decide ((4294967295 : Int) < (h.ty : Int)) = true := by simp; omega
            have qt' : decide (4294967295 < h.ty) = true := by simpa using ht
            have HR := Lib.hid (show rt = false by rw [HRU.out, decide_eq_false (show ¬ h.ty = 0 by omega)]; simp)
            clear ha ht hfit
            go_wp2_with fail
            go_meet
            case rel => exact ⟨by first | rfl | (rw [HWH.out]; rfl), by first | rfl | (rw [HWH.out]), by first | rfl | (rw [HWH.out]; rfl), by rw [HR.out]; rfl, rfl⟩
          · have qt : decide ((4294967295 : Int) < (h.ty : Int)) = false := by simp; omega
            have qt' : decide (4294967295 < h.ty) = false := by simpa using ht
            rw [decide_eq_true (show h.ab < 4294967296 by omega)] at HRU
            by_cases hs0 : h.sig = 0
            · have qs : ((h.sig : Int) != 0) = false := by simp; omega
              by_cases ht0 : h.ty = 0
              · have qz : ((h.ty : Int) != 0) = false := by simp; omega
                have HR := Lib.hid (show rt = true by rw [HRU.out, decide_eq_true hs0, decide_eq_true ht0]; rfl)
                clear hs0 ht0 ha ht hfit
                go_wp2_with fail
                go_meet
                case rel => exact ⟨by first | rfl | (rw [HWH.out]; rfl), by first | rfl | (rw [HWH.out]), by first | rfl | (rw [HWH.out]; rfl), by rw [HR.out]; rfl, rfl⟩
              · have qz : ((h.ty : Int) != 0) = true := by simp; omega
                have HR := Lib.hid (show rt = false by rw [HRU.out, decide_eq_false ht0]; simp)
                clear hs0 ht0 ha ht hfit
                go_wp2_with fail
                go_meet
                case rel => exact ⟨by first | rfl | (rw [HWH.out]; rfl), by first | rfl | (rw [HWH.out]), by first | rfl | (rw [HWH.out]; rfl), by rw [HR.out]; rfl, rfl⟩
            · have qs : ((h.sig : Int) != 0) = true := by simp; omega
              have HR := Lib.hid (show rt = false by rw [HRU.out, decide_eq_false hs0]; simp)
              clear hs0 ha ht hfit
              go_wp2_with fail
              go_meet
              case rel => exact ⟨by first | rfl | (rw [HWH.out]; rfl), by first | rfl | (rw [HWH.out]), by first | rfl | (rw [HWH.out]; rfl), by rw [HR.out]; rfl, rfl⟩
  case rest =>
  obtain ⟨rfl, rfl, rfl, rfl, rfl⟩ := hcut
  clear HRU
  cases rt with
  | false =>
    rw [if_neg (by decide)] at HUE HUB
    go_wp2_with fail
    go_ret2
    exact ⟨_, by rw [HUE.out]; rfl, by rw [HUB.out]; exact World.ownsRow_nil _ _ _ _, HB1.out⟩
  | true =>
  rw [if_pos rfl] at HUE HUB
  obtain ⟨hk1, hk3⟩ := HK.out rfl
  have HHD := Lib.hid (show headU h = [5, 0, kindB h, 8] ++ leBytes h.ab (offN h.wide) from rfl)
  have HSG := Lib.hid (show sigU h = if h.kind = 2 then leBytes h.sig 8 ++ leBytes h.ty (offN h.wide) else [] from rfl)
  have HUN := Lib.hid (show unitB h body = headU h ++ sigU h ++ body from rfl)
  have HLU := Lib.hid (unitB_len h body)
  have HLH := Lib.hid (headU_len h)
  have HOF := Lib.hid (offN_le h.wide)
  have HKB := Lib.hid (show h.kind = ((kindB h).toNat : Int) by
    have : h.kind = 1 ∨ h.kind = 2 ∨ h.kind = 3 := by omega
    unfold kindB
    rcases this with e | e | e <;> (rw [e]; rfl))
  have HCO := Lib.hid (clamp_off h.wide)
  have HLI := Lib.hid (show -9223372036854775808 ≤ lenO h.wide ∧ lenO h.wide ≤ 9223372036854775807 by unfold lenO; split <;> omega)
  have s1 : IntKind.u8.wrap h.kind = h.kind := by rw [IntWalk.u8_in _ (by omega)]
  have s2 : h.kind % 256 = h.kind := by omega
  generalize kindB h = kb at *
  clear y0 y1 y2 y3 y4 y5 y6 y7
  obtain ⟨y0, y1, y2, y3, y4, y5, y6, y7⟩ := eight_cells HX1.out
  go_upto_region 6 with (go_at_call 60; refine (HO.out _).mono ?_; rintro r w2 ⟨rfl, rfl⟩)
  have HLT := Lib.hid (own_litU w1 h.kind kb HKB.out)
  have hb3 : Below w1.heap.size w1 (w1.alloc (.cells #[.int .u8 5, .int .u8 0, .int .u8 h.kind, .int .u8 8] 5)) := (Below.refl _ _).alloc (Nat.le_refl _) _
  have HE3 := Lib.hid (show DpU w (w1.alloc (.cells #[.int .u8 5, .int .u8 0, .int .u8 h.kind, .int .u8 8] 5)) w.heap.size #[.int .i64 h.kind, .bool h.wide, .int .u64 (h.ab : Int), .int .u64 (h.sig : Int), .int .u64 (h.ty : Int), .int .u64 (h.off : Int), .int .u64 (h.first : Int), .int .u64 (h.stop : Int)] (.slice (some ⟨w1.heap.size, 0, none⟩) 4 4) [5, 0, kb, 8] from ⟨HX1.out.below hb3 HX1.out.lt, row_base HLT.out HB1.out.size, HB1.out.trans (hb3.mono HB1.out.size)⟩)
  generalize w1.alloc (.cells #[.int .u8 5, .int .u8 0, .int .u8 h.kind, .int .u8 8] 5) = w3 at *
  clear y0 y1 y2 y3 y4 y5 y6 y7 HX1 HB1 HLT hb3 HKB
  generalize w1.heap.size = Xl at *
  obtain ⟨y0, y1, y2, y3, y4, y5, y6, y7⟩ := eight_cells HE3.out.x
  go_upto_region 7 with (first
      | (go_at_call 61; refine (rput_any _ h.ab HIN.out.ab (lenO h.wide) HLI.out).mono ?_; rintro r w4 ⟨v4, rfl, ho, hb⟩; rw [HCO.out] at ho; have HE4 := Lib.hid (HE3.out.below hb); (obtain ⟨A4, c4, hv, -, -, hr4⟩ := own_slice ho); rw [leBytes_length] at hv; subst hv; have HR4 := Lib.hid hr4; clear ho hb hr4)
      | (at_builtin; refine wpList_append_bytes (by rfl) (.tmp 57) (.tmp 61) _ (by rfl) w.heap.size i0 Tryd.underlying66 hi0 hz0 hz1 hz2 (.slice (some ⟨Xl, 0, none⟩) 4 4) [5, 0, kb, 8] (by rfl) HE4.out.o w4.heap.size A4 (offN h.wide) c4 (leBytes h.ab (offN h.wide)) (leBytes_length _ _) (by rfl) HR4.out (by have := HOF.out; simp [leBytes_length]; omega) HE4.out.b.size ?_; intro v5 w5 hown hg hat; have HE5 := Lib.hid (HE4.out.put hown hg); clear hown hg hat))
  rw [← HHD.out] at HE5
  clear y0 y1 y2 y3 y4 y5 y6 y7 HE3 HE4
  obtain ⟨y0, y1, y2, y3, y4, y5, y6, y7⟩ := eight_cells HE5.out.x
  go_upto_if 65 with fail
  go_cut [8] (fun u wx => DpU w wx w.heap.size #[.int .i64 h.kind, .bool h.wide, .int .u64 (h.ab : Int), .int .u64 (h.sig : Int), .int .u64 (h.ty : Int), .int .u64 (h.off : Int), .int .u64 (h.first : Int), .int .u64 (h.stop : Int)] u (headU h ++ sigU h))
  case first =>
    by_cases h2 : h.kind = 2
    · have q : (h.kind == 2) = true := by simpa using h2
      rw [if_pos h2] at HSG
      clear h2
      go_upto_region 9 with (first
          | (go_at_call 61; refine (rput_any _ h.sig HIN.out.sig 8 (by decide)).mono ?_; rintro r w6 ⟨v6, rfl, ho, hb⟩; rw [show clampOf 8 = 8 from rfl] at ho; have HE6 := Lib.hid (HE5.out.below hb); (obtain ⟨A6, c6, hv, -, -, hr6⟩ := own_slice ho); rw [leBytes_length] at hv; subst hv; have HR6 := Lib.hid hr6; clear ho hb hr6)
          | (at_builtin; refine wpList_append_bytes (by rfl) (.tmp 66) (.tmp 69) _ (by rfl) w.heap.size i0 Tryd.underlying66 hi0 hz0 hz1 hz2 v5 (headU h) (by rfl) HE6.out.o w6.heap.size A6 8 c6 (leBytes h.sig 8) (leBytes_length _ _) (by rfl) HR6.out (by have := HLH.out; have := HOF.out; simp [leBytes_length]; omega) HE6.out.b.size ?_; intro v7 w7 hown hg hat; have HE7 := Lib.hid (HE6.out.put hown hg); clear hown hg hat))
      clear y0 y1 y2 y3 y4 y5 y6 y7 HE5 HE6
      obtain ⟨y0, y1, y2, y3, y4, y5, y6, y7⟩ := eight_cells HE7.out.x
      go_wp2_with (first
          | (go_at_call 61; refine (rput_any _ h.ty HIN.out.ty (lenO h.wide) HLI.out).mono ?_; rintro r w8 ⟨v8, rfl, ho, hb⟩; rw [HCO.out] at ho; have HE8 := Lib.hid (HE7.out.below hb); (obtain ⟨A8, c8, hv, -, -, hr8⟩ := own_slice ho); rw [leBytes_length] at hv; subst hv; have HR8 := Lib.hid hr8; clear ho hb hr8)
          | (at_builtin; refine wpList_append_bytes (by rfl) (.tmp 71) (.tmp 75) _ (by rfl) w.heap.size i0 Tryd.underlying66 hi0 hz0 hz1 hz2 v7 (headU h ++ leBytes h.sig 8) (by rfl) HE8.out.o w8.heap.size A8 (offN h.wide) c8 (leBytes h.ty (offN h.wide)) (leBytes_length _ _) (by rfl) HR8.out (by have := HLH.out; have := HOF.out; simp [leBytes_length]; omega) HE8.out.b.size ?_; intro v9 w9 hown hg hat; have HE9 := Lib.hid (HE8.out.put hown hg); clear hown hg hat))
      go_meet
      case rel => rw [HSG.out, ← List.append_assoc]; exact HE9.out
    · have q : (h.kind == 2) = false := by simpa using h2
      rw [if_neg h2] at HSG
      clear h2
      go_wp2_with fail
      go_meet
      case rel => rw [HSG.out, List.append_nil]; exact HE5.out
  case rest =>
  have HE10 := Lib.hid hcut
  clear hcut y0 y1 y2 y3 y4 y5 y6 y7 HE5 HHD HSG HCO HLI HK HLH HOF
  generalize wc = w10 at *
  obtain ⟨y0, y1, y2, y3, y4, y5, y6, y7⟩ := eight_cells HE10.out.x
  generalize headU h ++ sigU h = hd at *
  obtain ⟨un, hun⟩ : ∃ un, un = hd ++ body := ⟨_, rfl⟩
  rw [← hun] at HUN
  rw [HUN.out] at HUB HLU
  have hlu : un.length ≤ 900028 := by have := HLU.out; rw [HNB.out] at this; omega
  have hsum : hd.length + body.length ≤ 140737488355328 := by rw [hun, List.length_append] at hlu; omega
  have HRB := Lib.hid (HRD.out _ HE10.out.b)
  obtain ⟨n, hn⟩ : ∃ n, un.length = n := ⟨_, rfl⟩
  have HUU := Lib.hid hun
  have HNN := Lib.hid hn
  rw [hn] at HUB hlu
  clear hun hn HUN HLU
  have s3 : IntKind.u64.wrap (n : Int) = (n : Int) := by rw [IntWalk.u64_in _ (by omega)]
  have HLE := Lib.hid (fun W => (by
    have := rput_len W n (by unfold two64; omega) h.wide
    rw [lenE_small n h.wide (by omega)] at this
    exact this : Calls Tryd.prog 62 #[.int .u64 (n : Int), .bool h.wide] W fun r w' => ∃ v', r = .returned (.tuple #[v', .int .i64 0]) ∧ Own w' W.heap.size v' (lenB n h.wide) ∧ Below W.heap.size W w'))
  have HL12 := Lib.hid (lenB_le n h.wide)
  generalize lenB n h.wide = lb at *
  go_upto_region 11 with (at_builtin; refine wpList_append_bytes (by rfl) (.tmp 77) (.tmp 78) _ (by rfl) w.heap.size i0 Tryd.underlying66 hi0 hz0 hz1 hz2 u8 hd (by rfl) HE10.out.o B A nb c body HNB.out (by rfl) HRB.out hsum HE10.out.b.size ?_; intro v11 w11 hown hg hat; have HE11 := Lib.hid (show DpU w w11 w.heap.size #[.int .i64 h.kind, .bool h.wide, .int .u64 (h.ab : Int), .int .u64 (h.sig : Int), .int .u64 (h.ty : Int), .int .u64 (h.off : Int), .int .u64 (h.first : Int), .int .u64 (h.stop : Int)] v11 un from HE10.out.put (by rw [HUU.out]; exact hown) hg); clear hown hg hat)
  obtain ⟨A11, c11, hv, -, -, hr11⟩ := own_slice HE11.out.o
  rw [HNN.out] at hv
  have HR11 := Lib.hid hr11
  subst hv
  clear y0 y1 y2 y3 y4 y5 y6 y7 HE10 HRB hr11
  obtain ⟨y0, y1, y2, y3, y4, y5, y6, y7⟩ := eight_cells HE11.out.x
  go_upto_region 14 with (go_at_call 62; refine (HLE.out _).mono ?_; rintro r w12 ⟨v12, rfl, ho, hb⟩; have HO12 := Lib.hid ho; have HB12 := Lib.hid hb; clear ho hb)
  have HR12 := Lib.hid (HR11.out.below HB12.out)
  have HB13 := Lib.hid (HE11.out.b.trans (HB12.out.mono HE11.out.b.size))
  have HWS := Lib.hid HE11.out.b.size
  have HOB := Lib.hid (row_base HO12.out HE11.out.b.size)
  go_wp2_with (at_builtin; refine wpList_append_bytes (by rfl) (.tmp 92) (.tmp 93) _ (by rfl) w.heap.size i0 Tryd.underlying66 hi0 hz0 hz1 hz2 v12 lb (by rfl) HOB.out w11.heap.size A11 n c11 un HNN.out (by rfl) HR12.out (by have := HL12.out; rw [HNN.out]; omega) HB13.out.size ?_; intro v14 w14 hown hg hat; have HO14 := Lib.hid hown; have HB14 := Lib.hid (HB13.out.grown hg HB13.out.size (fun y hy => (HOB.out.lt y hy).1)); clear hown hg hat)
  go_ret2
  exact ⟨_, by rw [HUE.out]; rfl, by rw [HUB.out]; exact HO14.out, HB14.out⟩

end Go.Proofs.YtelmfhpefnemfaaDoor
