/-
  SymsPuts' walk.
-/

import Derived.Test.YtkadjejjillmmaaSyU
import Derived.Test.YtkadjejjillmmaaSyF
import Derived.Test.YtkadjejjillmmaaSyE
import Derived.Test.YtkadjejjillmmaaSyH
import Derived.Test.YtkadjejjillmmaaSyT
import Derived.Deep.RegionHeldLaw
namespace Go.Proofs.Ytkadjejjillmmaa
open Go Go.RowKit

def exY : List Sym := [⟨[], 0, 0, 0, 0, 0⟩, ⟨[109, 97, 105, 110], 1, 2, 1, 8, 0⟩]
def exR : List Rel := [⟨1, 2, 3, -4⟩]
theorem exy_right : rightY exY = true := by kernel_rfl
theorem exy_len : (tabY exY).length = 48 := by kernel_rfl
theorem exy_txt : txtY exY = [0, 109, 97, 105, 110, 0] := by kernel_rfl
theorem exy_err : takeEY 48 (okK (tabY exY) [0, 109, 97, 105, 110, 0]) 23 = 0 := by kernel_rfl
theorem exy_take : takeLY 48 (okK (tabY exY) [0, 109, 97, 105, 110, 0]) (symK (tabY exY) [0, 109, 97, 105, 110, 0]) = exY := by kernel_rfl
theorem exr_len : (relB exR 1).length = 24 := by kernel_rfl
theorem exr_err : takeEY 24 (okR (relB exR 1)) 24 = 0 := by kernel_rfl
theorem exr_take : takeLY 24 (okR (relB exR 1)) (relK (relB exR 1)) = exR := by kernel_rfl

set_option maxRecDepth 10000 in
set_option maxHeartbeats 3200000 in
theorem yworks_any {w : World} : Calls Try.prog 6 #[] w fun r w' => r = .returned (.bool true) ∧ Below w.heap.size w w' := by
  have hY0 := lit_row sym_six w 51 exY
  have hlit : (cellsF Sym.cells exY).toArray = #[.string ⟨#[]⟩, .int .i64 0, .int .i64 0, .int .i64 0, .int .u64 0, .int .u64 0, .string ⟨#[109, 97, 105, 110]⟩, .int .i64 1, .int .i64 2, .int .i64 1, .int .u64 8, .int .u64 0] := rfl
  rw [hlit] at hY0
  have hb0 : Below w.heap.size w (w.alloc (.cells #[.string ⟨#[]⟩, .int .i64 0, .int .i64 0, .int .i64 0, .int .u64 0, .int .u64 0, .string ⟨#[109, 97, 105, 110]⟩, .int .i64 1, .int .i64 2, .int .i64 1, .int .u64 8, .int .u64 0] 51)) := (Below.refl _ _).alloc (Nat.le_refl _) _
  have hY1 := hY0.more (B' := (w.alloc (.cells #[.string ⟨#[]⟩, .int .i64 0, .int .i64 0, .int .i64 0, .int .u64 0, .int .u64 0, .string ⟨#[109, 97, 105, 110]⟩, .int .i64 1, .int .i64 2, .int .i64 1, .int .u64 8, .int .u64 0] 51)).heap.size) (by simp)
  have HP := Lib.hid (yput_any hY1 2 (by decide) (by decide))
  rw [exy_right, exy_txt] at HP
  have HY := Lib.hid hY1
  have HB0 := Lib.hid hb0
  clear hY0 hlit hb0 hY1
  go_enter Try.func6, Try.ntmps6
  go_wp2_with fail
  refine HP.out.mono ?_
  rintro r w1 ⟨u1, v1, rfl, hu1, hv1, -, hb1⟩
  have HB1 := Lib.hid (HB0.out.trans (hb1.mono HB0.out.size))
  have HY1 := Lib.hid (HY.out.up hb1)
  obtain ⟨A1, c1, rfl, hc1, hm1, hr1⟩ := own_slice hu1
  obtain ⟨A2, c2, rfl, hc2, hm2, hr2⟩ := own_slice hv1
  have HT := Lib.hid (ytake_any hr1 hr2 c1 c2 hc2 (by rw [exy_len]; decide) (by decide))
  rw [exy_len, show ([0, 109, 97, 105, 110, 0] : List UInt8).length = 6 from rfl, exy_err, exy_take] at HT
  have HCV := Lib.hid (fun (W : World) (hW : Below w1.heap.size w1 W) => conv_rd (hr2.below hW) c2)
  rw [show ([0, 109, 97, 105, 110, 0] : List UInt8).length = 6 from rfl, show (ByteArray.mk [0, 109, 97, 105, 110, 0].toArray) = ⟨#[0, 109, 97, 105, 110, 0]⟩ from rfl] at HCV
  rw [exy_len, show ([0, 109, 97, 105, 110, 0] : List UInt8).length = 6 from rfl]
  clear hu1 hv1 hb1 hc1 hc2 hm1 hm2 hr1 hr2 HP HB0 HY
  go_wp2_with fail
  refine HT.out.mono ?_
  rintro r w2 ⟨u2, rfl, hO2, hb2⟩
  obtain ⟨A3, c3, rfl, hc3, hm3, hS3⟩ := own_row sym_six hO2
  rw [show exY.length = 2 from rfl]
  have hb3 : Below w2.heap.size w2 (w2.alloc (.cells #[.int .u64 1, .int .i64 2, .int .i64 3, .int .i64 (-4)] 48)) := (Below.refl _ _).alloc (Nat.le_refl _) _
  have hR0 := (lit_row rel_four w2 48 exR).more (B' := (w2.alloc (.cells #[.int .u64 1, .int .i64 2, .int .i64 3, .int .i64 (-4)] 48)).heap.size) (by simp)
  rw [show (cellsF Rel.cells exR).toArray = #[.int .u64 1, .int .i64 2, .int .i64 3, .int .i64 (-4)] from rfl] at hR0
  have HPR := Lib.hid (yputr_any hR0 1 (by decide))
  rw [show exR.length = 1 from rfl] at HPR
  have HB3 := Lib.hid (HB1.out.trans ((hb2.trans (hb3.mono hb2.size)).mono HB1.out.size))
  have HY3 := Lib.hid ((HY1.out.up hb2).up hb3)
  have HS3 := Lib.hid (hS3.up hb3)
  have HW3 := Lib.hid (hb2.trans (hb3.mono hb2.size))
  clear hO2 hb2 hb3 hR0 hS3 hc3 hm3 HT HB1 HY1
  go_wp2_with fail
  refine HPR.out.mono ?_
  rintro r w4 ⟨u4, rfl, hO4, hb4⟩
  obtain ⟨A4, c4, rfl, hc4, hm4, hr4⟩ := own_slice hO4
  have HTR := Lib.hid (yrel_any hr4 c4 (by rw [exr_len]; decide))
  rw [exr_len, exr_err, exr_take] at HTR
  rw [exr_len]
  have HB4 := Lib.hid (HB3.out.trans (hb4.mono HB3.out.size))
  have HY4 := Lib.hid (HY3.out.up hb4)
  have HS4 := Lib.hid (HS3.out.up hb4)
  have HW4 := Lib.hid (HW3.out.trans (hb4.mono HW3.out.size))
  clear hO4 hb4 hc4 hm4 hr4 HPR HB3 HY3 HS3 HW3
  go_wp2_with fail
  refine HTR.out.mono ?_
  rintro r w5 ⟨u5, rfl, hO5, hb5⟩
  obtain ⟨A5, c5, rfl, hc5, hm5, hS5⟩ := own_row rel_four hO5
  rw [show exR.length = 1 from rfl]
  obtain ⟨b, o, rfl, hbb, -, -, -, k3⟩ := rel_at hS5 (i := 0) (x := ⟨1, 2, 3, -4⟩) rfl
  rw [Nat.zero_mul, Nat.add_zero] at k3
  have HB5 := Lib.hid (HB4.out.trans (hb5.mono HB4.out.size))
  have HSM := Lib.hid (ysame_any (HY4.out.up hb5) (HS4.out.up hb5) (Nat.le_refl _) 2 c3 (by decide))
  rw [alikeL_refl sameY_refl, show exY.length = 2 from rfl] at HSM
  have hcv := HCV.out _ (HW4.out.trans (hb5.mono HW4.out.size))
  clear hO5 hb5 hc5 hm5 hS5 HTR HB4 HY4 HS4 HW4 HCV
  go_wp2_with (go_at_call 11; refine HSM.out.mono ?_; rintro r w6 ⟨rfl, hb6⟩; have k4 := (hb6.cell (p := ⟨b, o + 3, none⟩) hbb).trans k3; have HB6 := Lib.hid (HB5.out.trans (hb6.mono HB5.out.size)); clear hb6)
  go_ret
  exact ⟨rfl, HB6.out⟩

end Go.Proofs.Ytkadjejjillmmaa

namespace Go.Proofs.Ytkadjejjillmmaa
open Go Go.RowKit

/-- A symbol's, a relocation's numbers are what their types may be. -/
structure Sym.Nums (s : Sym) : Prop where
  bind : InI s.bind
  kind : InI s.kind
  sect : InI s.sect
  value : s.value < two64
  size : s.size < two64
structure Rel.Nums (s : Rel) : Prop where
  off : s.off < two64
  sym : InI s.sym
  kind : InI s.kind
  add : InI s.add
end Go.Proofs.Ytkadjejjillmmaa
