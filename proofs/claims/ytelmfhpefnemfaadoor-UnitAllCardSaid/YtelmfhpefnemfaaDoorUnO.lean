/-
  The walks of UnitAll and UnitPuts.
-/
import Derived.Test.YtelmfhpefnemfaaDoorUnJ
import Derived.Test.YtelmfhpefnemfaaDoorUnM
import Derived.Test.YtelmfhpefnemfaaDoorUnN
import Derived.Test.YtelmfhpefnemfaaDoorLtB
import Derived.Test.YtelmfhpefnemfaaDoorLtC
import Derived.Test.YtelmfhpefnemfaaDoorLawC
namespace Go.Proofs.YtelmfhpefnemfaaDoor
open Go Go.RowKit

theorem allL_len (sec : List UInt8) : (allL sec).length ≤ 61 := by
  have key : ∀ (n : Nat) (s : UAt), (runU sec n s).L.length ≤ n + s.L.length := by
    intro n
    induction n with
    | zero => intro s; simp [runU]
    | succ n ih =>
      intro s
      rw [runU]
      split
      · have := ih (stepU sec s)
        have h2 : (stepU sec s).L.length = s.L.length + 1 := by simp [stepU]
        omega
      · omega
  unfold allL
  split
  · exact key 61 _
  · exact Nat.zero_le _

set_option maxRecDepth 10000 in
set_option maxHeartbeats 1600000 in
theorem uall15_walk (a0 : Option Addr) (len0 cap0 : Nat) (z0 : List Int) (a1 : Int) (w : World) (hs : Sz w) (w0 : IsRow .u8 w a0 len0 cap0 z0) (w1 : (Lit.int .u64 a1).wf = true) :
    Calls Tryd.prog 5 #[.slice a0 len0 cap0, .int .u64 a1] w fun e w' => e = .returned (.bool true) ∧ Below w.heap.size w w' := by
  obtain ⟨l, hlen, hrd, hlc, hcm⟩ := row_bytes w0
  obtain ⟨off, rfl, hx⟩ := nat_of_u64 w1
  clear w0 w1 hx
  have HWK := Lib.hid (fun (W : World) (hb : Below w.heap.size w W) => works15_any (hs.below hb hs.pos))
  by_cases h5 : 5000 < len0
  · have d : decide ((5000 : Int) < (len0 : Int)) = true := by simp; omega
    have d' : decide (5000 < len0) = true := by simpa using h5
    clear h5 hrd hlen
    go_enter Tryd.func5, Tryd.ntmps5
    go_wp2_with (go_at_call 26; refine (HWK.out _ (Below.refl _ _)).mono ?_; rintro r w2 ⟨rfl, hb2⟩; have HB2 := Lib.hid hb2; clear hb2)
    go_ret
    exact ⟨rfl, HB2.out⟩
  have d : decide ((5000 : Int) < (len0 : Int)) = false := by simp; omega
  have d' : decide (5000 < len0) = false := by simpa using h5
  subst hlen
  have HA := Lib.hid (uall_any hs cap0 hrd (Nat.le_refl _) (by omega))
  have HR := Lib.hid (fun (W : World) (hb : Below w.heap.size w W) => rall_unit (B := w.heap.size) cap0 (hrd.below hb) hb.size hlc hcm (by omega))
  have hl61 := allL_len l
  clear h5 hrd hs
  generalize allE l = E at *
  generalize allL l = L at *
  have HAL := Lib.hid (show alikeL sameU L L = true from alikeU.2 rfl)
  obtain ⟨N, hN⟩ : ∃ N, L.length = N := ⟨_, rfl⟩
  have HN := Lib.hid hN
  rw [hN] at hl61
  clear hN
  generalize l.length = n at *
  go_enter Tryd.func5, Tryd.ntmps5
  go_upto_region 5 with (first
    | (go_at_call 27; refine HA.out.mono ?_; rintro r w2 ⟨u2, rfl, ho, hb⟩; have HB2 := Lib.hid hb; (obtain ⟨A2, c2, hu2, -, -, hr2⟩ := own_row uhd_eight ho); rw [HN.out] at hu2; subst hu2; have HR2 := Lib.hid hr2; clear ho hb hr2)
    | (go_at_call 28; refine (HR.out _ HB2.out).mono ?_; rintro r w3 ⟨u3, rfl, ho, hb⟩; have HB3 := Lib.hid (HB2.out.trans (hb.mono HB2.out.size)); have HR23 := Lib.hid (HR2.out.up hb); (obtain ⟨A3, c3, hu3, -, -, hr3⟩ := own_row uhd_eight ho); rw [HN.out] at hu3; subst hu3; have HR3 := Lib.hid hr3; clear ho hb hr3))
  have HT := Lib.hid (by
    have := told_unit HR23.out (Nat.le_refl _) c2 (by rw [HN.out]; omega)
    rw [HN.out] at this
    exact this : Calls Tryd.prog 30 #[.slice A2 N c2] w3 fun r w' => ∃ u, r = .returned u ∧ OwnH 79 w' w3.heap.size u L ∧ Below w3.heap.size w3 w')
  have HSM := Lib.hid (fun (W : World) (A A' : Option Addr) (c c' : Nat) (h : Row 8 UHd.cells W W.heap.size A L) (h' : Row 8 UHd.cells W W.heap.size A' L) => (by
    have := rsame_unit h h' (Nat.le_refl _) c c' (by rw [HN.out]; omega)
    rw [HN.out, HAL.out] at this
    exact this : Calls Tryd.prog 29 #[.slice A N c, .slice A' N c'] W fun r w' => r = .returned (.bool true) ∧ Below W.heap.size W w'))
  have HO1 := Lib.hid (fun (W : World) (A : Option Addr) (c : Nat) (h : Row 8 UHd.cells W W.heap.size A L) => (by
    have := of_unit h (Nat.le_refl _) c off (by rw [HN.out]; omega)
    rw [HN.out] at this
    exact this : Calls Tryd.prog 31 #[.slice A N c, .int .u64 (off : Int)] W fun r w' => r = .returned (.int .i64 (findU L off 0)) ∧ Below W.heap.size W w'))
  have HO2 := Lib.hid (fun (W : World) (A : Option Addr) (c : Nat) (h : Row 8 UHd.cells W W.heap.size A L) => (by
    have := rof_unit h (Nat.le_refl _) c off (by rw [HN.out]; omega)
    rw [HN.out] at this
    exact this : Calls Tryd.prog 32 #[.slice A N c, .int .u64 (off : Int)] W fun r w' => r = .returned (.int .i64 (findU L off 0)) ∧ Below W.heap.size W w'))
  clear HA HR
  generalize findU L off 0 = fi at *
  have q1 : (E == E) = true := by simp
  have q2 : (fi == fi) = true := by simp
  go_wp2_with (first
    | (go_at_call 30; refine HT.out.mono ?_; rintro r w4 ⟨u4, rfl, ho, hb⟩; have HB4 := Lib.hid (HB3.out.trans (hb.mono HB3.out.size)); have HR24 := Lib.hid (HR23.out.up hb); have HR34 := Lib.hid (HR3.out.up hb); (obtain ⟨A4, c4, hu4, -, -, hr4⟩ := own_row uhd_eight ho); rw [HN.out] at hu4; subst hu4; have HR4 := Lib.hid hr4; clear ho hb hr4)
    | (go_at_call 29; refine (HSM.out _ _ _ _ _ HR4.out HR34.out).mono ?_; rintro r w5 ⟨rfl, hb⟩; have HB5 := Lib.hid (HB4.out.trans (hb.mono HB4.out.size)); have HR25 := Lib.hid (HR24.out.up hb); have HR35 := Lib.hid (HR34.out.up hb); clear hb)
    | (go_at_call 31; refine (HO1.out _ _ _ HR25.out).mono ?_; rintro r w6 ⟨rfl, hb⟩; have HB6 := Lib.hid (HB5.out.trans (hb.mono HB5.out.size)); have HR36 := Lib.hid (HR35.out.up hb); clear hb)
    | (go_at_call 32; refine (HO2.out _ _ _ HR36.out).mono ?_; rintro r w7 ⟨rfl, hb⟩; have HB7 := Lib.hid (HB6.out.trans (hb.mono HB6.out.size)); clear hb)
    | (go_at_call 26; refine (HWK.out _ HB7.out).mono ?_; rintro r w8 ⟨rfl, hb⟩; have HB8 := Lib.hid (HB7.out.trans (hb.mono HB7.out.size)); clear hb))
  go_ret
  exact ⟨rfl, HB8.out⟩

end Go.Proofs.YtelmfhpefnemfaaDoor
