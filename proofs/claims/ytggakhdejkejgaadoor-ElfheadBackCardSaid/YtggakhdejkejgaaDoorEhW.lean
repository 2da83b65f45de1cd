/-
  The chapter's example of layer 6, as the statements ask for it: it comes out true, and nothing that was there turns.
-/
import Derived.Test.YtggakhdejkejgaaDoorEhE
import Derived.Test.YtggakhdejkejgaaDoorEhG
import Derived.Test.YtggakhdejkejgaaDoorLawC
import Derived.KernelRfl
namespace Go.Proofs.YtggakhdejkejgaaDoor
open Go Go.RowKit

/-- The example's bytes. -/
def exB : List UInt8 := headB 1 62 64 2 1
theorem exB_length : exB.length = 64 := by kernel_rfl
theorem exB_7 : exB.take 7 = magB := by kernel_rfl
theorem ex_long : (exB ++ List.replicate 128 (0 : UInt8)).length = 192 := by kernel_rfl
theorem ex_take : takeE (exB ++ List.replicate 128 0) = 0 := by kernel_rfl
theorem ex_head : takeH (exB ++ List.replicate 128 0) = hdV 1 62 64 2 1 := by kernel_rfl
theorem ex_short : takeE exB = 21 := by kernel_rfl
theorem ex_none : takeH exB = hdV 0 0 0 0 0 := by kernel_rfl

set_option maxHeartbeats 1600000 in
set_option maxRecDepth 10000 in
theorem ehworks_any {w : World} (hM : Mg w) : Calls Tryd.prog 8 #[] w fun r w' => r = .returned (.bool true) ∧ Below w.heap.size w w' := by
  obtain ⟨i0, hi, hz0, hz1, hz2⟩ := info_parts u8_info
  have hpos := hM.pos
  have hb1 : Below w.heap.size w (w.alloc (.cells #[.int .i64 1, .int .i64 62, .int .u64 64, .int .i64 2, .int .i64 1] 25)) := (Below.refl _ _).alloc (Nat.le_refl _) _
  have HX1 := Lib.hid (Box.new w 25 #[.int .i64 1, .int .i64 62, .int .u64 64, .int .i64 2, .int .i64 1])
  have HP := Lib.hid (fun W hMW => show Calls Tryd.prog 11 #[.agg #[.int .i64 1, .int .i64 62, .int .u64 64, .int .i64 2, .int .i64 1]] W fun r w' => ∃ v', r = .returned v' ∧ Own w' W.heap.size v' exB ∧ Below W.heap.size W w' from puth_any 1 62 64 2 1 (w := W) hMW)
  have HB1 := Lib.hid hb1
  clear hb1
  go_enter Tryd.func8, Tryd.ntmps8
  go_wp2_with fail
  refine (HP.out _ (hM.below HB1.out hpos)).mono ?_
  rintro r w2 ⟨v2, rfl, hown2, hb2⟩
  have HB2 := Lib.hid (HB1.out.trans (hb2.mono HB1.out.size))
  have HX2 := Lib.hid (HX1.out.below hb2 HX1.out.lt)
  have hsz : exB.length + 128 ≤ 140737488355328 := by rw [exB_length]; decide
  have hge2 : ∀ k, v2.ownBlock = some k → w.heap.size + 1 ≤ k := fun k hk => by have := (own_ge hown2 k hk).1; simpa using this
  have HO2 := Lib.hid (own_zero hown2)
  obtain ⟨A2, c2, hv2, hlc2, _, _⟩ := own_slice hown2
  rw [exB_length] at hv2 hlc2
  subst hv2
  have HG2 := Lib.hid hge2
  have HT := Lib.hid (fun W A c (hr : Rd W W.heap.size A (exB ++ List.replicate 128 0)) (hc : (exB ++ List.replicate 128 (0 : UInt8)).length ≤ c) (hM : Mg W) => take_any hr (Nat.le_refl _) c hc hM (by rw [ex_long]; decide))
  have HT2 := Lib.hid (fun W A c (hr : Rd W W.heap.size A exB) (hc : exB.length ≤ c) (hM : Mg W) => take_any hr (Nat.le_refl _) c hc hM (by rw [exB_length]; decide))
  rw [ex_long, ex_take, ex_head] at HT
  rw [exB_length, ex_short, ex_none] at HT2
  clear hown2 hb2 HX1 HB1 hge2 HP
  go_wp2_with (at_builtin; refine wpList_append_zeros (by rfl) (.tmp 11) _ _ _ (by rfl) 0 i0 .i64 .i64 Tryd.underlying22 Tryd.underlying3 hi hz0 hz1 hz2 (.slice A2 64 c2) exB (by rfl) HO2.out 128 128 (by rfl) (by simp) (by simp) hsz (Nat.zero_le _) ?_; intro v3 w3 hown3 hg3 hat3 hold3; have HM3 := Lib.hid ((hM.below HB2.out hpos).grown hg3 (by rintro e; have := HG2.out _ e; omega)); have HX3 := Lib.hid (HX2.out.grown hg3 (by rintro e; have := HG2.out _ e.symm; omega)); have HB3 := Lib.hid (HB2.out.trans (below_of_only hg3 HB2.out.size (by rintro k hk; have := HG2.out _ hk; omega))); have HO3 := Lib.hid hold3; (obtain ⟨A3, c3, hv3, hlc3, hcm3, hrd3⟩ := own_slice hown3); have HR3 := Lib.hid hrd3; have HC3 := Lib.hid hlc3; rw [ex_long] at hv3 HC3; subst hv3; clear hown3 hg3 hat3 hold3 hsz HO2 HX2 HB2 hrd3 hlc3 hcm3)
  refine (HT.out _ _ _ HR3.out HC3.out HM3.out).mono ?_
  rintro r w4 ⟨rfl, hb4⟩
  have HM4 := Lib.hid (HM3.out.below hb4 HM3.out.pos)
  have HX4 := Lib.hid (HX3.out.below hb4 HX3.out.lt)
  have HO4 := Lib.hid (own_below HO3.out hb4)
  have HB4 := Lib.hid (HB3.out.trans (hb4.mono HB3.out.size))
  clear hb4 HT HM3 HX3 HO3 HB3 HR3 HC3 HG2
  go_wp2_with fail
  have hrd5 : Rd (w4.alloc (.cells #[.int .i64 1, .int .i64 62, .int .u64 64, .int .i64 2, .int .i64 1] 25)) (w4.alloc (.cells #[.int .i64 1, .int .i64 62, .int .u64 64, .int .i64 2, .int .i64 1] 25)).heap.size A2 exB := by
    obtain ⟨A', c', hv, _, _, hr⟩ := own_slice (HO4.out.alloc (.cells #[.int .i64 1, .int .i64 62, .int .u64 64, .int .i64 2, .int .i64 1] 25))
    injection hv with e1
    rw [e1]
    exact hr
  refine (HT2.out _ _ _ hrd5 hlc2 (HM4.out.alloc _)).mono ?_
  rintro r w6 ⟨rfl, hb6⟩
  have hb5 := (Below.refl w4.heap.size w4).alloc (Nat.le_refl _) (.cells #[.int .i64 1, .int .i64 62, .int .u64 64, .int .i64 2, .int .i64 1] 25)
  have HX6 := Lib.hid ((HX4.out.below hb5 HX4.out.lt).below hb6 (by have := HX4.out.lt; simp; omega))
  have HY6 := Lib.hid ((Box.new w4 25 #[.int .i64 1, .int .i64 62, .int .u64 64, .int .i64 2, .int .i64 1]).below hb6 (by simp))
  have HB6 := Lib.hid ((HB4.out.alloc HB4.out.size (.cells #[.int .i64 1, .int .i64 62, .int .u64 64, .int .i64 2, .int .i64 1] 25)).trans (hb6.mono (by have := HB4.out.size; simp; omega)))
  have hrd6 : Rd w6 (w4.alloc (.cells #[.int .i64 1, .int .i64 62, .int .u64 64, .int .i64 2, .int .i64 1] 25)).heap.size A2 exB := hrd5.below hb6
  obtain ⟨sX, hsX⟩ : ∃ s : ByteArray, s = ⟨magB.toArray⟩ := ⟨_, rfl⟩
  have hcv : ∀ o1, (convert 22 9 (.slice A2 7 c2)).run Tryd.prog (w6.alloc o1) = .ok (.string sX) (w6.alloc o1) := fun o1 => by
    have h7 : Rd (w6.alloc o1) (w4.alloc (.cells #[.int .i64 1, .int .i64 62, .int .u64 64, .int .i64 2, .int .i64 1] 25)).heap.size A2 magB := fun h0 => by
      obtain ⟨b, q, e, hb, hc⟩ := (hrd6.alloc hb6.size o1) (by rw [exB_length]; decide)
      exact ⟨b, q, e, hb, fun j u hu => hc j u (by
        have hj : j < 7 := (List.getElem?_eq_some_iff.1 hu).1
        rw [← exB_7, List.getElem?_take, if_pos hj] at hu
        exact hu)⟩
    have h := conv_rd h7 c2
    rw [← hsX] at h
    exact h
  have hq : (sX.toList == [127, 69, 76, 70, 2, 1, 1]) = true := by rw [hsX, ByteArray.toList_eq]; rfl
  have hA2 : ∃ b q, A2 = some ⟨b, q, none⟩ := by
    obtain ⟨b, q, e, _⟩ := hrd5 (by rw [exB_length]; decide)
    exact ⟨b, q, e⟩
  obtain ⟨bA, qA, rfl⟩ := hA2
  have l4 : w4.heap.size < w6.heap.size := HY6.out.lt
  have l0 : w.heap.size < w6.heap.size := HX6.out.lt
  have hc7 : (7 : Nat) ≤ c2 := by omega
  clear hsX hrd5 hrd6 hb5 hb6 HT2 HM4 HX4 HO4 HB4
  have x0 := HX6.out.cell 0
  have y0 := HY6.out.cell 0
  have x1 := HX6.out.cell 1
  have y1 := HY6.out.cell 1
  have x2 := HX6.out.cell 2
  have y2 := HY6.out.cell 2
  have x3 := HX6.out.cell 3
  have y3 := HY6.out.cell 3
  have x4 := HX6.out.cell 4
  have y4 := HY6.out.cell 4
  simp at x0 x1 x2 x3 x4 y0 y1 y2 y3 y4
  go_wp2
  go_ret
  exact ⟨rfl, HB6.out.alloc HB6.out.size _⟩

end Go.Proofs.YtggakhdejkejgaaDoor
