/-
  The walk of UnitPuts.
-/
import Derived.Test.YtelmfhpefnemfaaDoorUnM
import Derived.Test.YtelmfhpefnemfaaDoorUnN
import Derived.Deep.RegionHeldLaw
namespace Go.Proofs.YtelmfhpefnemfaaDoor
open Go Go.RowKit

set_option maxRecDepth 10000 in
set_option maxHeartbeats 1600000 in
theorem uputs15_walk (y : UHd) (a1 : Option Addr) (len1 cap1 : Nat) (z1 : List Int) (w : World) (hs : Sz w) (hi : y.In) (w1 : IsRow .u8 w a1 len1 cap1 z1) :
    Calls Tryd.prog 6 #[.agg #[.int .i64 y.kind, .bool y.wide, .int .u64 (y.ab : Int), .int .u64 (y.sig : Int), .int .u64 (y.ty : Int), .int .u64 (y.off : Int), .int .u64 (y.first : Int), .int .u64 (y.stop : Int)], .slice a1 len1 cap1] w fun e w' => e = .returned (.bool true) ∧ Below w.heap.size w w' := by
  obtain ⟨l, hlen, hrd, hlc, hcm⟩ := row_bytes w1
  clear w1
  have hbx : Below w.heap.size w (w.alloc (.cells #[.int .i64 y.kind, .bool y.wide, .int .u64 (y.ab : Int), .int .u64 (y.sig : Int), .int .u64 (y.ty : Int), .int .u64 (y.off : Int), .int .u64 (y.first : Int), .int .u64 (y.stop : Int)] 79)) := (Below.refl _ _).alloc (Nat.le_refl _) _
  have HX := Lib.hid (Box.new w 79 #[.int .i64 y.kind, .bool y.wide, .int .u64 (y.ab : Int), .int .u64 (y.sig : Int), .int .u64 (y.ty : Int), .int .u64 (y.off : Int), .int .u64 (y.first : Int), .int .u64 (y.stop : Int)])
  have HBX := Lib.hid hbx
  have HSZ := Lib.hid (fun (W : World) (hb : Below w.heap.size w W) => hs.below hb hs.pos)
  have HWK := Lib.hid (fun (W : World) (hb : Below w.heap.size w W) => works15_any (hs.below hb hs.pos))
  by_cases h5 : 5000 < len1
  · have d : decide ((5000 : Int) < (len1 : Int)) = true := by simp; omega
    have d' : decide (5000 < len1) = true := by simpa using h5
    clear h5 hrd hlen
    go_enter Tryd.func6, Tryd.ntmps6
    go_wp2_with (go_at_call 26; refine (HWK.out _ HBX.out).mono ?_; rintro r w2 ⟨rfl, hb2⟩; have HB2 := Lib.hid (HBX.out.trans (hb2.mono HBX.out.size)); clear hb2)
    go_ret
    exact ⟨rfl, HB2.out⟩
  have d : decide ((5000 : Int) < (len1 : Int)) = false := by simp; omega
  have d' : decide (5000 < len1) = false := by simpa using h5
  subst hlen
  have HP := Lib.hid (fun (W : World) (hb : Below w.heap.size w W) => uput_any (hs.below hb hs.pos) y hi (hrd.below hb) hb.size cap1 (by omega))
  have HR := Lib.hid (fun (W : World) (hb : Below w.heap.size w W) => ruput_any y hi (hrd.below hb) hb.size cap1 (by omega))
  have HZ1 := Lib.hid (fun (W : World) (hb : Below w.heap.size w W) => usize_any (hs.below hb hs.pos) y.kind hi.k y.wide)
  have HZ2 := Lib.hid (fun (W : World) => rsize_unit W y.kind y.wide)
  have hE : putUE y = 0 ∨ putUE y = 2 := by unfold putUE; split <;> simp
  clear h5 hrd hs hi hbx
  generalize putUE y = E at *
  generalize hub : putUB y l = ub at *
  clear hub
  generalize sizU y.kind y.wide = sz at *
  generalize l.length = n at *
  obtain ⟨s, hsd⟩ : ∃ s : ByteArray, s = ⟨ub.toArray⟩ := ⟨_, rfl⟩
  have ES := Lib.hid hsd
  clear hsd
  have q1 : (s.toList == s.toList) = true := by simp
  have q2 : ∀ i : Int, (i == i) = true := fun i => by simp
  obtain ⟨k0, k1, k2, k3, k4, k5, k6, k7⟩ := eight_cells HX.out
  go_enter Tryd.func6, Tryd.ntmps6
  go_upto_region 3 with fail
  generalize w.alloc (.cells #[.int .i64 y.kind, .bool y.wide, .int .u64 (y.ab : Int), .int .u64 (y.sig : Int), .int .u64 (y.ty : Int), .int .u64 (y.off : Int), .int .u64 (y.first : Int), .int .u64 (y.stop : Int)] 79) = w1 at *
  go_upto_region 4 with (go_at_call 33; refine (HP.out _ HBX.out).mono ?_; rintro r w2 ⟨u2, rfl, ho, hb⟩; have HB2 := Lib.hid (HBX.out.trans (hb.mono HBX.out.size)); have HX2 := Lib.hid (HX.out.below hb HX.out.lt); have HO2 := Lib.hid ho; clear ho hb)
  clear k0 k1 k2 k3 k4 k5 k6 k7
  obtain ⟨k0, k1, k2, k3, k4, k5, k6, k7⟩ := eight_cells HX2.out
  go_upto_region 5 with (go_at_call 34; refine (HR.out _ HB2.out).mono ?_; rintro r w3 ⟨u3, rfl, ho, hb⟩; have HB3 := Lib.hid (HB2.out.trans (hb.mono HB2.out.size)); have HX3 := Lib.hid (HX2.out.below hb HX2.out.lt); have HO3 := Lib.hid ho; have HO23 := Lib.hid (own_below HO2.out hb); clear ho hb)
  clear k0 k1 k2 k3 k4 k5 k6 k7
  obtain ⟨A2, c2, hv2, -, -, -⟩ := own_slice HO23.out
  obtain ⟨A3, c3, hv3, -, -, -⟩ := own_slice HO3.out
  generalize ub.length = un at *
  subst hv2 hv3
  have KS := Lib.hid (fun (W : World) (hb : Below w3.heap.size w3 W) => (by
    obtain ⟨k0, k1, k2, k3, k4, k5, k6, k7⟩ := eight_cells (HX3.out.below hb HX3.out.lt)
    refine ⟨?_, ?_, k0, k1⟩
    · have := conv_own (own_below HO23.out hb); rw [← ES.out] at this; exact this
    · have := conv_own (own_below HO3.out hb); rw [← ES.out] at this; exact this : (convert 66 9 (.slice A2 un c2)).run Tryd.prog W = .ok (.string s) W ∧ (convert 66 9 (.slice A3 un c3)).run Tryd.prog W = .ok (.string s) W ∧ W.cell? ⟨w.heap.size, 0, none⟩ = some (.int .i64 y.kind) ∧ W.cell? ⟨w.heap.size, 1, none⟩ = some (.bool y.wide)))
  rcases hE with rfl | rfl
  all_goals
    go_region_held_law (fun W => (convert 66 9 (.slice A2 un c2)).run Tryd.prog W = .ok (.string s) W ∧ (convert 66 9 (.slice A3 un c3)).run Tryd.prog W = .ok (.string s) W ∧ W.cell? ⟨w.heap.size, 0, none⟩ = some (.int .i64 y.kind) ∧ W.cell? ⟨w.heap.size, 1, none⟩ = some (.bool y.wide)) ((refine KS.out _ ?_; repeat' (first | (with_reducible exact Below.refl _ _) | (with_reducible assumption) | (with_reducible refine below_drewN ?_ _) | (with_reducible refine Below.drew ?_)))) (first
      | (go_at_call 35; refine (HZ1.out _ (HB3.out.trans (Below.mono (show Below w3.heap.size w3 _ by (repeat' (first | (with_reducible exact Below.refl _ _) | (with_reducible assumption) | (with_reducible refine below_drewN ?_ _) | (with_reducible refine Below.drew ?_)))) HB3.out.size))).mono ?_; rintro r w4 ⟨rfl, hb⟩; have hb4 := (show Below w3.heap.size w3 _ by (repeat' (first | (with_reducible exact Below.refl _ _) | (with_reducible assumption) | (with_reducible refine below_drewN ?_ _) | (with_reducible refine Below.drew ?_)))).trans (hb.mono (by simp)); clear hb)
      | (go_at_call 36; refine (HZ2.out _).mono ?_; rintro r w5 ⟨rfl, rfl⟩)
      | (go_at_call 26; refine (HWK.out _ (HB3.out.trans (hb4.mono HB3.out.size))).mono ?_; rintro r w6 ⟨rfl, hb⟩; have hb6 := hb4.trans (hb.mono hb4.size); clear hb))
    go_wp2_with fail
    go_ret
    exact ⟨rfl, HB3.out.trans (hb6.mono HB3.out.size)⟩

end Go.Proofs.YtelmfhpefnemfaaDoor
