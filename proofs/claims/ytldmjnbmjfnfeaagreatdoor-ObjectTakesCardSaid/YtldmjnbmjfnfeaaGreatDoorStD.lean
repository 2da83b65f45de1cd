/-
  The document's Take of sections.
-/
import Derived.Test.YtldmjnbmjfnfeaaGreatDoorSyP
import Derived.Deep.DeepCutAuto
import Derived.Deep.LoopGhost
namespace Go.Proofs.YtldmjnbmjfnfeaaGreatDoor
open Go Go.RowKit

set_option maxRecDepth 10000 in
set_option maxHeartbeats 3200000 in
theorem rstake_bad {w : World} {A : Option Addr} {l : List UInt8} (hr : Rd w w.heap.size A l) (c : Nat) (hlc : l.length ≤ c) (hl : l.length ≤ 140737488355328) (hbad : 1048576 < l.length ∨ takeE l ≠ 0) :
    Calls Tryz.prog 23 #[.slice A l.length c] w (RSTake l w) := by
  have HXR := Lib.hid (Box.new w 64 #[.int .i64 0, .int .i64 0, .int .u64 0, .int .i64 0, .int .i64 0])
  have hb0 : Below w.heap.size w ((w.alloc (.cells #[.int .i64 0, .int .i64 0, .int .u64 0, .int .i64 0, .int .i64 0] 64)).alloc (.cells #[.int .i64 0, .int .i64 0, .int .u64 0, .int .i64 0, .int .i64 0] 64)) := ((Below.refl _ _).alloc (Nat.le_refl _) _).alloc (by simp) _
  have HXR0 := Lib.hid (box_keep HXR.out (.cells #[.int .i64 0, .int .i64 0, .int .u64 0, .int .i64 0, .int .i64 0] 64))
  by_cases hbig : 1048576 < l.length
  · have hE : secE l = 3 := by unfold secE; rw [if_pos hbig]
    obtain ⟨hH, hL⟩ := sec_bad hE (by decide)
    have HF := Lib.hid (And.intro hE (And.intro hH hL))
    have hd : decide ((1048576 : Int) < (l.length : Int)) = true := decide_eq_true (by omega)
    have HB0 := Lib.hid hb0
    clear hbig hE hH hL hr hb0 hbad
    unfold RSTake
    generalize secE l = se at *
    generalize secH l = sh at *
    generalize secL l = sl at *
    generalize l.length = n at *
    go_enter Tryz.func23, Tryz.ntmps23
    go_wp2_with fail
    refine ret_three Tryz.underlying64 Tryz.results23 HXR0.out (by kernel_rfl) (by rfl) rfl ?_
    exact ⟨none, 0, [], by rw [HF.out.1, HF.out.2.1]; rfl, by rw [HF.out.2.2]; rfl, secs_nil _ _, Nat.le_refl _, HB0.out⟩
  · have hd : decide ((1048576 : Int) < (l.length : Int)) = false := decide_eq_false (by omega)
    have hte : takeE l ≠ 0 := hbad.resolve_left hbig
    have HTK := Lib.hid (rtake_any (hr.below hb0) hb0.size c hlc hl)
    have hE1 : secE l = takeE l := by unfold secE; rw [if_neg hbig, if_pos hte]
    obtain ⟨hH1, hL1⟩ := sec_bad hE1 hte
    have hTH : takeH l = hdV 0 0 0 0 0 := by unfold takeH; rw [if_neg hte]
    have HF := Lib.hid (And.intro hE1 (And.intro hH1 hL1))
    unfold TakeIs at HTK
    rw [hTH] at HTK
    have q1 : (takeE l != 0) = true := by simpa using hte
    have HN0 := Lib.hid (show Box ((w.alloc (.cells #[.int .i64 0, .int .i64 0, .int .u64 0, .int .i64 0, .int .i64 0] 64)).alloc (.cells #[.int .i64 0, .int .i64 0, .int .u64 0, .int .i64 0, .int .i64 0] 64)) (w.heap.size + 1) 64 #[.int .i64 0, .int .i64 0, .int .u64 0, .int .i64 0, .int .i64 0] by simpa using Box.new (w.alloc (.cells #[.int .i64 0, .int .i64 0, .int .u64 0, .int .i64 0, .int .i64 0] 64)) 64 #[.int .i64 0, .int .i64 0, .int .u64 0, .int .i64 0, .int .i64 0])
    have HB0 := Lib.hid hb0
    unfold RSTake
    clear hE1 hH1 hL1 hTH hte hbig hr hb0 hbad HXR
    generalize secE l = se at *
    generalize secH l = sh at *
    generalize secL l = sl at *
    generalize takeE l = te at *
    generalize l.length = n at *
    go_enter Tryz.func23, Tryz.ntmps23
    go_wp2_with (go_at_call 52; refine HTK.out.mono ?_; rintro r w1 ⟨rfl, hb1⟩; have HB1 := Lib.hid (HB0.out.trans (hb1.mono HB0.out.size)); have hX1 := HXR0.out.below hb1 HXR0.out.lt; have HX1 := Lib.hid hX1; have hN1 := HN0.out.below hb1 HN0.out.lt; have r0 := hX1.cell 0; have r1 := hX1.cell 1; have r2 := hX1.cell 2; have r3 := hX1.cell 3; have r4 := hX1.cell 4; have n0 := hN1.cell 0; have n1 := hN1.cell 1; have n2 := hN1.cell 2; have n3 := hN1.cell 3; have n4 := hN1.cell 4; simp at r0 r1 r2 r3 r4 n0 n1 n2 n3 n4; have f0 := hX1.free 0; have f1 := hX1.free 1; have f2 := hX1.free 2; have f3 := hX1.free 3; have f4 := hX1.free 4; have hlt1 := hX1.lt; have hlt2 := hN1.lt; clear hb1 HTK hX1 hN1)
    have hb6 := five_box HX1.out (.int .i64 0) (.int .i64 0) (.int .u64 0) (.int .i64 0) (.int .i64 0)
    have HZ6 := Lib.hid (hb6.below ((Below.refl _ _).alloc (Nat.le_refl _) (.cells #[.int .i64 0, .int .i64 0, .int .u64 0, .int .i64 0, .int .i64 0] 64)) hb6.lt)
    refine ret_three Tryz.underlying64 Tryz.results23 HZ6.out (by kernel_rfl) (by rfl) rfl ?_
    exact ⟨none, 0, [], by rw [HF.out.1, HF.out.2.1]; rfl, by rw [HF.out.2.2]; rfl, secs_nil _ _, Nat.le_refl _, (five_below HB1.out (Nat.le_refl _) _ _ _ _ _).alloc (Nat.le_of_lt hb6.lt) _⟩

end Go.Proofs.YtldmjnbmjfnfeaaGreatDoor
