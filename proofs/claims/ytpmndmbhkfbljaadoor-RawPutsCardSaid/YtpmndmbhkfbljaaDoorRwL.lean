/-
  The document's Right of values.
-/
import Derived.Test.YtpmndmbhkfbljaaDoorRwM
import Derived.Test.YtpmndmbhkfbljaaDoorRwE
import Derived.Test.YtpmndmbhkfbljaaDoorCurN
import Derived.Test.YtpmndmbhkfbljaaDoorLawA
import Derived.Test.YtpmndmbhkfbljaaDoorAbG
import Derived.Test.YtpmndmbhkfbljaaDoorCsA
import Derived.Test.YtpmndmbhkfbljaaDoorRwB
import Derived.Test.YtpmndmbhkfbljaaDoorRefU
import Derived.Test.YtpmndmbhkfbljaaDoorRefR
import Derived.Test.YtpmndmbhkfbljaaDoorCsQ
import Derived.Test.YtpmndmbhkfbljaaDoorRwJ
import Derived.Deep.DeepCutAuto
import Derived.Deep.LoopGhost
namespace Go.Proofs.YtpmndmbhkfbljaaDoor
open Go Go.RowKit

/-! ### Of nobody -/
set_option maxRecDepth 10000 in
theorem number_nil {w : World} (hF : Ft w) (hS : Sz w) :
    Calls Tryd.prog 26 #[.agg #[.pointer none, .int .i64 0, .int .i64 1, .int .i64 0, .bool true]] w fun r w' => r = .returned (.int .u64 0) ∧ Below w.heap.size w w' := by
  have HA := Lib.hid ((Below.refl w.heap.size w).alloc (Nat.le_refl _) (.cells #[.pointer none, .int .i64 0, .int .i64 1, .int .i64 0, .bool true] 56))
  have HW := Lib.hid (fun W (hW : Below w.heap.size w W) => (show Calls Tryd.prog 37 #[.int .i64 1, .bool true] W fun r w' => r = .returned (.int .i64 8) ∧ W = w' from width_any (n := 1) (hF.up hW) (hS.below hW hS.pos) (by decide) true))
  have HN := Lib.hid (fun W => uint_nob (p := none) (w := W) (.inl rfl) 8 (by decide))
  clear hF hS
  go_enter Tryd.func26, Tryd.ntmps26
  go_wp2_with (first
    | (go_at_call 37; refine (HW.out _ HA.out).mono ?_; rintro r w1 ⟨rfl, rfl⟩)
    | (go_at_call 50; refine (HN.out _).mono ?_; rintro r w2 ⟨rfl, rfl⟩))
  go_ret
  exact ⟨rfl, HA.out⟩
set_option maxRecDepth 10000 in
set_option maxHeartbeats 1600000 in
theorem value_nil {w : World} (hF : Ft w) (hS : Sz w) :
    Calls Tryd.prog 25 #[.int .i64 1, .func (.func 26) #[.agg #[.pointer none, .int .i64 0, .int .i64 1, .int .i64 0, .bool true]] #[], .func (.func 27) #[.agg #[.pointer none, .int .i64 0, .int .i64 1, .int .i64 0, .bool true]] #[], .func (.func 28) #[.agg #[.pointer none, .int .i64 0, .int .i64 1, .int .i64 0, .bool true]] #[], .func (.func 29) #[.agg #[.pointer none, .int .i64 0, .int .i64 1, .int .i64 0, .bool true]] #[]] w fun r w' =>
      r = .returned (.agg #[.int .i64 1, .int .u64 0, .int .i64 0, .slice none 0 0, .string ⟨#[]⟩]) ∧ Below w.heap.size w w' := by
  have HK := Lib.hid (fun W (hW : Below w.heap.size w W) => (show Calls Tryd.prog 14 #[.int .i64 1] W fun r w' => r = .returned (.int .i64 1) ∧ W = w' from kind_any (hF.up hW) 1))
  have HNU := Lib.hid (fun W (hW : Below w.heap.size w W) => number_nil (hF.up hW) (hS.below hW hS.pos))
  clear hF hS
  go_enter Tryd.func25, Tryd.ntmps25
  go_upto_region 2 with fail
  generalize hw0 : w.alloc (.cells #[.int .i64 0, .int .u64 0, .int .i64 0, .slice none 0 0, .string ⟨#[]⟩] 33) = w0
  have hs0 : w0.heap.size = w.heap.size + 1 := by rw [← hw0]; simp
  generalize hw1 : w0.alloc (.cells #[.int .i64 1, .int .u64 0, .int .i64 0, .slice none 0 0, .string ⟨#[]⟩] 33) = w1
  have hX0 := Box.new w 33 #[.int .i64 0, .int .u64 0, .int .i64 0, .slice none 0 0, .string ⟨#[]⟩]
  rw [hw0] at hX0
  have hX1 := Box.new w0 33 #[.int .i64 1, .int .u64 0, .int .i64 0, .slice none 0 0, .string ⟨#[]⟩]
  rw [hw1, hs0] at hX1
  have hb0 : Below w.heap.size w w0 := hw0 ▸ (Below.refl _ _).alloc (Nat.le_refl _) _
  have hb1 : Below w0.heap.size w0 w1 := hw1 ▸ (Below.refl _ _).alloc (Nat.le_refl _) _
  have HV := Lib.hid (show HSt w w1 w.heap.size (w.heap.size + 1) #[.int .i64 1, .int .u64 0, .int .i64 0, .slice none 0 0, .string ⟨#[]⟩] from ⟨hX1, hX0.below hb1 hX0.lt, hb0.trans (hb1.mono hb0.size), Nat.le_refl _, Nat.le_succ _, by omega⟩)
  clear hw0 hs0 hw1 hX0 hX1 hb0 hb1
  generalize hH1 : w.heap.size + 1 = H1 at *
  generalize hH0 : w.heap.size = H0 at HV ⊢
  clear hH1 hH0
  go_wp2_with (first
    | (go_at_call 14; refine (HK.out _ HV.out.b).mono ?_; rintro r w2 ⟨rfl, rfl⟩)
    | (go_at_call 26; refine (HNU.out _ HV.out.b).mono ?_; rintro r w2 ⟨rfl, hb2⟩; have HV2 := Lib.hid (HV.out.later hb2); have HV3 := Lib.hid (HV2.out.set 1 (.int .u64 0)); (obtain ⟨p0, p1, p2, p3, p4⟩ := five_cellsR HV2.out.x); (obtain ⟨e0, e1, e2, e3, e4⟩ := five_freeR HV2.out.x); (obtain ⟨z0, z1, z2, z3, z4⟩ := five_cellsR HV2.out.r); (obtain ⟨f0, f1, f2, f3, f4⟩ := five_freeR HV2.out.r); have hne01 := HV2.out.ne; have hne10 := HV2.out.ne.symm; clear hb2))
  refine ret_one Tryd.underlying33 Tryd.results25 (HV3.out.told _ _ _ _ _).1 (by kernel_rfl) (by rfl) rfl ?_
  obtain ⟨-, t2⟩ := HV3.out.told (.int .i64 1) (.int .u64 0) (.int .i64 0) (.slice none 0 0) (.string ⟨#[]⟩)
  exact ⟨rfl, t2⟩
set_option maxRecDepth 10000 in
set_option maxHeartbeats 1600000 in
theorem takeW_nil {w : World} (hF : Ft w) (hS : Sz w) :
    Calls Tryd.prog 9 #[.pointer none, .agg #[.int .i64 0, .int .i64 1, .int .i64 0], .bool true] w fun r w' => r = .returned (.agg #[.int .i64 0, .int .u64 0, .int .i64 0, .slice none 0 0, .string ⟨#[]⟩]) ∧ Below w.heap.size w w' := by
  have hmf : ∀ (fn : Fn) (first cap : Array Value) (W : World), (Instr.makeFunc fn first cap).run Tryd.prog W = .ok (.func fn first cap) W := fun _ _ _ _ => rfl
  have HK := Lib.hid (fun W (hW : Below w.heap.size w W) => (show Calls Tryd.prog 14 #[.int .i64 1] W fun r w' => r = .returned (.int .i64 1) ∧ W = w' from kind_any (hF.up hW) 1))
  have HVA := Lib.hid (fun W (hW : Below w.heap.size w W) => value_nil (hF.up hW) (hS.below hW hS.pos))
  have HER := Lib.hid (fun W => err_nob (p := none) (w := W) (.inl rfl))
  clear hF hS
  go_enter Tryd.func9, Tryd.ntmps9
  go_upto_region 1 with fail
  generalize hw0 : w.alloc (.cells #[.int .i64 0, .int .i64 1, .int .i64 0] 24) = w0
  have hs0 : w0.heap.size = w.heap.size + 1 := by rw [← hw0]; simp
  generalize hw1 : w0.alloc (.cells #[.int .i64 0, .int .u64 0, .int .i64 0, .slice none 0 0, .string ⟨#[]⟩] 33) = w1
  have hX0 := Box.new w 24 #[.int .i64 0, .int .i64 1, .int .i64 0]
  rw [hw0] at hX0
  have hX1 := Box.new w0 33 #[.int .i64 0, .int .u64 0, .int .i64 0, .slice none 0 0, .string ⟨#[]⟩]
  rw [hw1, hs0] at hX1
  have hb0 : Below w.heap.size w w0 := hw0 ▸ (Below.refl _ _).alloc (Nat.le_refl _) _
  have hb1 : Below w0.heap.size w0 w1 := hw1 ▸ (Below.refl _ _).alloc (Nat.le_refl _) _
  have HB1 := Lib.hid (hb0.trans (hb1.mono hb0.size))
  have HX0 := Lib.hid (hX0.below hb1 hX0.lt)
  have HX1 := Lib.hid hX1
  have HSR := Lib.hid (show w.heap.size ≤ w.heap.size + 1 from Nat.le_succ _)
  clear hw0 hs0 hw1 hX0 hX1 hb0 hb1
  obtain ⟨p0, p1, p2⟩ := three_cellsR HX0.out
  generalize w.heap.size + 1 = Hr at *
  go_upto_region 7 with (go_at_call 14; refine (HK.out _ HB1.out).mono ?_; rintro r w2 ⟨rfl, rfl⟩)
  have hX4 := Box.new w1 56 #[.pointer none, .int .i64 0, .int .i64 1, .int .i64 0, .bool true]
  have hb4 : Below w1.heap.size w1 (w1.alloc (.cells #[.pointer none, .int .i64 0, .int .i64 1, .int .i64 0, .bool true] 56)) := (Below.refl _ _).alloc (Nat.le_refl _) _
  generalize hw4 : w1.alloc (.cells #[.pointer none, .int .i64 0, .int .i64 1, .int .i64 0, .bool true] 56) = w4 at *
  have HB4 := Lib.hid (HB1.out.trans (hb4.mono HB1.out.size))
  have HX04 := Lib.hid (HX0.out.below hb4 HX0.out.lt)
  have HX14 := Lib.hid (HX1.out.below hb4 HX1.out.lt)
  clear hw4 hb4 p0 p1 p2
  obtain ⟨p0, p1, p2⟩ := three_cellsR HX04.out
  obtain ⟨x0, x1, x2, x3, x4⟩ := five_cellsR hX4
  clear hX4
  generalize w1.heap.size = Hd at *
  go_upto_region 8 with (go_at_call 25; refine (HVA.out _ HB4.out).mono ?_; rintro r w5 ⟨rfl, hb5⟩; have HB5 := Lib.hid (HB4.out.trans (hb5.mono HB4.out.size)); have HX5 := Lib.hid (HX14.out.below hb5 HX14.out.lt); clear hb5)
  have hb6 : Below w5.heap.size w5 (w5.alloc (.cells #[.int .i64 1, .int .u64 0, .int .i64 0, .slice none 0 0, .string ⟨#[]⟩] 33)) := (Below.refl _ _).alloc (Nat.le_refl _) _
  generalize hw6 : w5.alloc (.cells #[.int .i64 1, .int .u64 0, .int .i64 0, .slice none 0 0, .string ⟨#[]⟩] 33) = w6 at *
  have HB6 := Lib.hid (HB5.out.trans (hb6.mono HB5.out.size))
  have HX6 := Lib.hid (HX5.out.below hb6 HX5.out.lt)
  clear hw6 hb6
  obtain ⟨z0, z1, z2, z3, z4⟩ := five_cellsR HX6.out
  obtain ⟨f0, f1, f2, f3, f4⟩ := five_freeR HX6.out
  generalize w5.heap.size = Hx at *
  go_wp2_with (go_at_call 12; refine (HER.out _).mono ?_; rintro r w7 ⟨rfl, rfl⟩)
  refine ret_one Tryd.underlying33 Tryd.results9 (five_boxR HX6.out rfl _ _ _ _ _) (by kernel_rfl) (by rfl) rfl ?_
  exact ⟨rfl, ((((HB6.out.setCell HSR.out _).setCell HSR.out _).setCell HSR.out _).setCell HSR.out _).setCell HSR.out _⟩

/-! ### The examples -/
theorem ex15_right : rightV ⟨15, 624485, 0, [], []⟩ false = true := by decide
theorem ex15_put : putV ⟨15, 624485, 0, [], []⟩ false = [229, 142, 38] := by decide
theorem ex10_right : rightV ⟨10, 0, 0, [1, 2], []⟩ true = true := by decide
theorem ex10_put : putV ⟨10, 0, 0, [1, 2], []⟩ true = [2, 1, 2] := by decide
theorem ex10_take : takeW [2, 1, 2] 10 0 false (0, 0) = (⟨10, 0, 0, [1, 2], []⟩, (3, 0)) := by rfl

end Go.Proofs.YtpmndmbhkfbljaaDoor

namespace Go.Proofs.YtpmndmbhkfbljaaDoor
open Go Go.RowKit

theorem inI_zero : InI 0 := ⟨by omega, by omega⟩

set_option maxRecDepth 10000 in
set_option maxHeartbeats 3200000 in
theorem works14_any {w : World} (hF : Ft w) (hS : Sz w) : Calls Tryd.prog 7 #[] w fun r w' => r = .returned (.bool true) ∧ Below w.heap.size w w' := by
  have P1 := Lib.hid (show Calls Tryd.prog 16 #[.slice none 0 0, .agg #[.int .i64 15, .int .u64 624485, .int .i64 0, .slice none 0 0, .string ⟨#[]⟩], .bool false] w fun r w' => ∃ A c, r = .returned (.tuple #[.slice A 3 c, .int .i64 0]) ∧ Own w' w.heap.size (.slice A 3 c) [229, 142, 38] ∧ Below w.heap.size w w' from
    (putW_any (own_nil0 w) (Nat.le_refl _) hF hS ⟨⟨15, 624485, 0, [], []⟩, none, 0⟩ (fun h => absurd h (by decide)) (by decide) inI_zero (by decide) false (by decide)).mono fun r w' ⟨v', e, h, _⟩ => by
      have hL := h ex15_right
      rw [ex15_put, List.nil_append] at hL
      have hl := hL.1
      obtain ⟨A, c, rfl, -, -, -⟩ := own_slice hl
      exact ⟨A, c, e, hl, laid_nilR hL (Nat.le_refl _)⟩)
  have HF := Lib.hid hF
  have HS := Lib.hid hS
  have P2 := Lib.hid (fun W (hW : Below w.heap.size w W) (hh0 : Nat) (_ : hh0 < W.heap.size) (hr : Rd W W.heap.size (some ⟨hh0, 0, none⟩) [1, 2]) => (show Calls Tryd.prog 16 #[.slice none 0 0, .agg #[.int .i64 10, .int .u64 0, .int .i64 0, .slice (some ⟨hh0, 0, none⟩) 2 2, .string ⟨#[]⟩], .bool true] W fun r w' => ∃ A c, r = .returned (.tuple #[.slice A 3 c, .int .i64 0]) ∧ Own w' W.heap.size (.slice A 3 c) [2, 1, 2] ∧ Below W.heap.size W w' from
    (putW_any (own_nil0 W) (Nat.le_refl _) (hF.up hW) (hS.below hW hS.pos) ⟨⟨10, 0, 0, [1, 2], []⟩, some ⟨hh0, 0, none⟩, 2⟩ hr (show 0 < two64 by decide) inI_zero (show 2 ≤ 9223372036854775807 by decide) true (by decide)).mono fun r w' ⟨v', e, h, _⟩ => by
      have hL := h ex10_right
      rw [ex10_put, List.nil_append] at hL
      rw [show putWE (WLay.x ⟨⟨10, 0, 0, [1, 2], []⟩, some ⟨hh0, 0, none⟩, 2⟩) true = 0 from if_pos ex10_right] at e
      have hl := hL.1
      obtain ⟨A, c, rfl, -, -, -⟩ := own_slice hl
      exact ⟨A, c, e, hl, laid_nilR hL (Nat.le_refl _)⟩))
  have TK := Lib.hid (fun W g v (hC : CT W g v [2, 1, 2] (0, 0)) => (show Calls Tryd.prog 9 #[.pointer (some ⟨g, 0, none⟩), .agg #[.int .i64 0, .int .i64 10, .int .i64 0], .bool false] W fun r w' => ∃ A c, r = .returned (.agg #[.int .i64 10, .int .u64 0, .int .i64 0, .slice A 2 c, .string ⟨#[]⟩]) ∧ Own w' W.heap.size (.slice A 2 c) [1, 2] ∧ W.grownBy w' (some g) from
    (takeW_st hC (by decide) 0 10 0 false).mono fun r w' ⟨h1, h2, h3⟩ => by
      rw [ex10_take] at h1
      obtain ⟨A, c, e, ho⟩ := h1
      exact ⟨A, c, e, ho, h3⟩))
  have TN := Lib.hid (fun W (hW : Below w.heap.size w W) => takeW_nil (hF.up hW) (hS.below hW hS.pos))
  have KD := Lib.hid (fun W (hW : Below w.heap.size w W) => (show Calls Tryd.prog 14 #[.int .i64 24] W fun r w' => r = .returned (.int .i64 10) ∧ W = w' from kind_any (hF.up hW) 24))
  obtain ⟨s1, hs1⟩ : ∃ s : ByteArray, s = ⟨([229, 142, 38] : List UInt8).toArray⟩ := ⟨_, rfl⟩
  obtain ⟨s2, hs2⟩ : ∃ s : ByteArray, s = ⟨([2, 1, 2] : List UInt8).toArray⟩ := ⟨_, rfl⟩
  obtain ⟨s3, hs3⟩ : ∃ s : ByteArray, s = ⟨([1, 2] : List UInt8).toArray⟩ := ⟨_, rfl⟩
  have E1 := Lib.hid hs1
  have E2 := Lib.hid hs2
  have E3 := Lib.hid hs3
  have q1 : (s1.toList == [229, 142, 38]) = true := by rw [hs1, Lib.toList_data]; rfl
  have q2 : (s2.toList == [2, 1, 2]) = true := by rw [hs2, Lib.toList_data]; rfl
  have q3 : (s3.toList == [1, 2]) = true := by rw [hs3, Lib.toList_data]; rfl
  clear hF hS hs1 hs2 hs3
  go_enter Tryd.func7, Tryd.ntmps7
  go_upto_region 2 with (go_at_call 16; refine P1.out.mono ?_; rintro r w1 ⟨A1, c1, rfl, hO1, hb1⟩; have HO1 := Lib.hid hO1; have HB1 := Lib.hid hb1; clear hO1 hb1)
  have hb2 : Below w1.heap.size w1 (w1.alloc (.cells #[.int .u8 1, .int .u8 2] 5)) := (Below.refl _ _).alloc (Nat.le_refl _) _
  have HR2 := Lib.hid (show Rd (w1.alloc (.cells #[.int .u8 1, .int .u8 2] 5)) (w1.heap.size + 1) (some ⟨w1.heap.size, 0, none⟩) ([1, 2] : List UInt8) from rd_lit w1 [1, 2])
  have HZ2 := Lib.hid (show (w1.alloc (.cells #[.int .u8 1, .int .u8 2] 5)).heap.size = w1.heap.size + 1 by simp)
  have HB2 := Lib.hid (HB1.out.trans (hb2.mono HB1.out.size))
  have HO1' := Lib.hid (own_below HO1.out hb2)
  clear hb2
  go_upto_region 3 with (go_at_call 16; refine (P2.out _ HB2.out _ (by rw [HZ2.out]; omega) (by rw [HZ2.out]; exact HR2.out)).mono ?_; rintro r w3 ⟨A3, c3, rfl, hO3, hb3⟩; have HO3 := Lib.hid hO3; have HB3 := Lib.hid (HB2.out.trans (hb3.mono HB2.out.size)); have HO13 := Lib.hid (own_below HO1'.out hb3); clear hO3 hb3)
  have HN := Lib.hid (by
    obtain ⟨A, c, e, h1, -, h2⟩ := own_slice HO3.out
    have h3 := new_any (w := w3) c3 (A := A3) (l := [2, 1, 2]) (by injection e with e1; rw [e1]; exact h2) (Nat.le_refl _) (by decide)
    exact h3 : Calls Tryd.prog 8 #[.slice A3 3 c3] w3 fun r w' => ∃ g v, r = .returned (.pointer (some ⟨g, 0, none⟩)) ∧ Made w3.heap.size w' g v [2, 1, 2] 0 ∧ Below w3.heap.size w3 w')
  go_upto_region 4 with (first
    | (go_at_call 8; refine HN.out.mono ?_; rintro r w4 ⟨g, v, rfl, hM, hb4⟩; have HB4 := Lib.hid (HB3.out.trans (hb4.mono HB3.out.size)); have HC4 := Lib.hid (show CT w4 g v [2, 1, 2] (0, 0) from ⟨hM.1, HF.out.up HB4.out, HS.out.below HB4.out HS.out.pos⟩); have HO14 := Lib.hid (own_below HO13.out hb4); have HO34 := Lib.hid (own_below HO3.out hb4); have HGM := Lib.hid hM.2.1; have HS34 := Lib.hid hb4.size; clear hM hb4)
    | (go_at_call 9; refine (TK.out _ _ _ HC4.out).mono ?_; rintro r w5 ⟨A5, c5, rfl, hO5, hG5⟩; have hb5 : Below w3.heap.size w4 w5 := below_of_only hG5 HS34.out (fun x hx => by cases hx; exact HGM.out); have HB5 := Lib.hid (HB4.out.trans (hb5.mono HB3.out.size)); have HO5 := Lib.hid hO5; have HO15 := Lib.hid (own_pastR HO14.out HC4.out.c.1 (by decide) hG5); have HO35 := Lib.hid (own_pastR HO34.out HC4.out.c.1 (by decide) hG5); clear hO5 hG5 hb5))
  have hX6 := Box.new w5 33 #[.int .i64 10, .int .u64 0, .int .i64 0, .slice A5 2 c5, .string ⟨#[]⟩]
  have hb6 : Below w5.heap.size w5 (w5.alloc (.cells #[.int .i64 10, .int .u64 0, .int .i64 0, .slice A5 2 c5, .string ⟨#[]⟩] 33)) := (Below.refl _ _).alloc (Nat.le_refl _) _
  generalize hw6 : w5.alloc (.cells #[.int .i64 10, .int .u64 0, .int .i64 0, .slice A5 2 c5, .string ⟨#[]⟩] 33) = w6 at *
  have HB6 := Lib.hid (HB5.out.trans (hb6.mono HB5.out.size))
  have cv1 := conv_as E1.out (conv_own (own_below HO15.out hb6))
  have cv2 := conv_as E2.out (conv_own (own_below HO35.out hb6))
  have cv3 := conv_as E3.out (conv_own (own_below HO5.out hb6))
  clear hw6 hb6
  obtain ⟨x0, x1, x2, x3, x4⟩ := five_cellsR hX6
  generalize w5.heap.size = Hx at *
  have hfd : ∀ W : World, (Instr.field 33 (.agg #[.int .i64 0, .int .u64 0, .int .i64 0, .slice none 0 0, .string ⟨#[]⟩]) 0).run Tryd.prog W = .ok (.int .i64 0) W := fun W => by rfl
  go_wp2_with (first
    | (go_at_call 14; refine (KD.out _ HB6.out).mono ?_; rintro r w7 ⟨rfl, rfl⟩)
    | (go_at_call 9; refine (TN.out _ HB6.out).mono ?_; rintro r w8 ⟨rfl, hb8⟩; have HB8 := Lib.hid (HB6.out.trans (hb8.mono HB6.out.size)); clear hb8))
  go_ret
  exact ⟨rfl, HB8.out⟩

end Go.Proofs.YtpmndmbhkfbljaaDoor

namespace Go.Proofs.YtpmndmbhkfbljaaDoor
open Go Go.RowKit

/-- What came in as a value: its bytes lie, its numbers are numbers. -/
structure WLay.In (w : World) (y : WLay) : Prop where
  rd : Rd w w.heap.size y.a y.x.b
  u : y.x.u < two64
  s : InI y.x.s
  b : y.x.b.length ≤ 9223372036854775807
theorem WLay.In.up {w w' : World} {y : WLay} (h : y.In w) (hb : Below w.heap.size w w') : y.In w' := ⟨(h.rd.below hb).more hb.size, h.u, h.s, h.b⟩

end Go.Proofs.YtpmndmbhkfbljaaDoor

namespace Go.Proofs.YtpmndmbhkfbljaaDoor
open Go Go.RowKit

theorem kind5 {n : Nat} (hn : n < 45) (h : kindF (n : Int) = 5) : n = 8 := by
  have : ∀ m : Fin 45, kindF ((m : Nat) : Int) = 5 → (m : Nat) = 8 := by decide
  exact this ⟨n, hn⟩ h
theorem kind3 {n : Nat} (hn : n < 45) (h : kindF (n : Int) = 3) : n = 13 ∨ n = 33 := by
  have : ∀ m : Fin 45, kindF ((m : Nat) : Int) = 3 → (m : Nat) = 13 ∨ (m : Nat) = 33 := by decide
  exact this ⟨n, hn⟩ h
def sizOk (m : Nat) (b : Bool) : Bool := decide (kindF (m : Int) = 0) || decide (m = 25) || decide (m = 33) || decide (m = 8) || decide (m = 30) || (decide (rsizF (m : Int) b = 0) && decide (widF (m : Int) b = -1)) || (decide (rsizF (m : Int) b ≠ 0) && decide (widF (m : Int) b = rsizF (m : Int) b) && decide (widF (m : Int) b ≠ -1))
theorem rsizF_ways {n : Nat} (hn : n < 45) (hk : kindF (n : Int) ≠ 0) (h25 : n ≠ 25) (h33 : n ≠ 33) (h8 : n ≠ 8) (h30 : n ≠ 30) (wide : Bool) : (rsizF (n : Int) wide = 0 ∧ widF (n : Int) wide = -1) ∨ (rsizF (n : Int) wide ≠ 0 ∧ widF (n : Int) wide = rsizF (n : Int) wide ∧ widF (n : Int) wide ≠ -1) := by
  have h : ∀ m : Fin 45, sizOk m wide = true := by cases wide <;> decide
  have := h ⟨n, hn⟩
  simp only [sizOk, Bool.or_eq_true, Bool.and_eq_true, decide_eq_true_eq] at this
  rcases this with (((((e | e) | e) | e) | e) | e) | e
  · exact absurd e hk
  · exact absurd e h25
  · exact absurd e h33
  · exact absurd e h8
  · exact absurd e h30
  · exact .inl e
  · exact .inr ⟨e.1.1, e.1.2, e.2⟩
end Go.Proofs.YtpmndmbhkfbljaaDoor

namespace Go.Proofs.YtpmndmbhkfbljaaDoor
open Go Go.RowKit

def rfitsV (z : Int) (n : Nat) : Bool := decide (z = 0) || (decide (z = 8) || decide (n / 256 ^ z.toNat = 0))
theorem rsizF_in {n : Nat} (hn : n < 45) (wide : Bool) : rsizF (n : Int) wide = 8 ∨ ∃ k : Nat, k ≤ 4 ∧ rsizF (n : Int) wide = (k : Int) := by
  have h : ∀ m : Fin 45, ([0, 1, 2, 3, 4, 8].contains (rsizF ((m : Nat) : Int) wide)) = true := by cases wide <;> decide
  have := h ⟨n, hn⟩
  simp at this
  rcases this with h | h | h | h | h | h
  · exact .inr ⟨0, by omega, by rw [h]; rfl⟩
  · exact .inr ⟨1, by omega, by rw [h]; rfl⟩
  · exact .inr ⟨2, by omega, by rw [h]; rfl⟩
  · exact .inr ⟨3, by omega, by rw [h]; rfl⟩
  · exact .inr ⟨4, by omega, by rw [h]; rfl⟩
  · exact .inl h
theorem div_next (n k : Nat) : n / 256 ^ k / 256 = n / 256 ^ (k + 1) := by rw [Nat.div_div_eq_div_mul, Nat.pow_succ]

set_option maxRecDepth 10000 in
set_option maxHeartbeats 1600000 in
theorem rfits_any (w : World) {f : Nat} (hf : f < 45) (wide : Bool) (n : Nat) (hn : n < two64) :
    Calls Tryd.prog 46 #[.int .u64 (n : Int), .int .i64 (f : Int), .bool wide] w fun r w' => r = .returned (.bool (rfitsV (rsizF (f : Int) wide) n)) ∧ w = w' := by
  have HS := Lib.hid (fun W => rsize_any W (f : Int) wide)
  rcases rsizF_in hf wide with h8 | ⟨k, hk, hkz⟩
  · rw [h8] at HS ⊢
    have HR := Lib.hid (show rfitsV 8 n = true from rfl)
    clear h8 hf hn
    go_enter Tryd.func46, Tryd.ntmps46
    go_wp2_with (go_at_call 56; refine (HS.out _).mono ?_; rintro r w1 ⟨rfl, rfl⟩)
    go_loop [8, 0] (fun i m => i = .int .i64 0 ∧ m = .int .u64 (n : Int)) (fun _ _ => 0)
    case atStart => exact ⟨rfl, rfl⟩
    case round =>
      obtain ⟨rfl, rfl⟩ := hrel
      go_wp2_with fail
      go_ret
      exact ⟨by rw [HR.out]; rfl, rfl⟩
  · rw [hkz] at HS ⊢
    clear hkz hf
    have HN := Lib.hid hn
    have d8 : decide ((k : Int) < 8) = true := by simp; omega
    have n8 : ((k : Int) == 8) = false := by simp; omega
    clear hn
    go_enter Tryd.func46, Tryd.ntmps46
    go_upto_region 2 with (go_at_call 56; refine (HS.out _).mono ?_; rintro r w1 ⟨rfl, rfl⟩)
    go_wp2_with fail
    go_loop [8, 0] (fun i m => ∃ j : Nat, j ≤ k ∧ i = .int .i64 j ∧ Hid (m = .int .u64 ((n / 256 ^ j : Nat) : Int))) (fun i _ => k - (intOf i).toNat)
    case atStart => exact ⟨0, Nat.zero_le _, rfl, Lib.hid (by simp)⟩
    case round =>
      obtain ⟨j, hj, rfl, HM⟩ := hrel
      obtain rfl := HM.out
      have HX := Lib.hid (div_next n j)
      have hlt64 : n / 256 ^ j < two64 := Nat.lt_of_le_of_lt (Nat.div_le_self _ _) HN.out
      have HE := Lib.hid (fun (e : j = k) => (show rfitsV (k : Int) n = (decide ((k : Int) = 0) || (decide ((k : Int) = 8) || decide (n / 256 ^ j = 0))) by unfold rfitsV; rw [Int.toNat_natCast, e]))
      generalize n / 256 ^ j = m at *
      by_cases hlt : j < k
      · obtain ⟨q, hq0⟩ : ∃ q, m / 256 = q := ⟨_, rfl⟩
        have hq : (m : Int).tdiv 256 = (q : Int) := by rw [Int.tdiv_eq_ediv_of_nonneg (by omega)]; omega
        have hq2 : (m : Int) / 256 = (q : Int) := by omega
        have hqw : IntKind.u64.wrap (q : Int) = (q : Int) := by rw [IntWalk.u64_in _ (by unfold two64 at hlt64; omega)]
        rw [hq0] at HX
        clear HM hq0 hlt64 HE
        go_wp2_with fail
        exact ⟨⟨j + 1, by omega, by go_num, Lib.hid (by rw [← HX.out])⟩, by simp [intOf]; omega⟩
      · have hjk : j = k := by omega
        subst hjk
        have hee := HE.out rfl
        have HEE := Lib.hid hee
        have em := nat_beqR m 0
        have em' : ((m : Int) == 0) = decide (m = 0) := em
        clear hee HE HM em
        by_cases h0 : j = 0
        · have q0 : ((j : Int) == 0) = true := by simp [h0]
          have e0 : decide ((j : Int) = 0) = true := by simp [h0]
          have HR := Lib.hid (show rfitsV (j : Int) n = true by rw [HEE.out, e0]; rfl)
          clear h0 e0
          go_wp2_with fail
          go_ret
          exact ⟨by rw [HR.out]; rfl, rfl⟩
        · have q0 : ((j : Int) == 0) = false := by simp; omega
          have e0 : decide ((j : Int) = 0) = false := by simp; omega
          have e8 : decide ((j : Int) = 8) = false := by simp; omega
          have HR := Lib.hid (show rfitsV (j : Int) n = decide (m = 0) by rw [HEE.out, e0, e8]; rfl)
          clear h0 e0 e8
          go_wp2_with fail
          go_ret
          exact ⟨by rw [HR.out, ← em']; rfl, rfl⟩

end Go.Proofs.YtpmndmbhkfbljaaDoor

namespace Go.Proofs.YtpmndmbhkfbljaaDoor
open Go Go.RowKit

/-- A value without what its form has. -/
def noneV (x : RV) : RV :=
  if kindF x.form = 3 then ⟨x.form, x.u, 0, x.b, x.t⟩
  else if kindF x.form = 5 then ⟨x.form, x.u, x.s, x.b, []⟩
  else if kindF x.form = 9 ∨ kindF x.form = 10 then ⟨x.form, x.u, x.s, [], x.t⟩
  else ⟨x.form, 0, x.s, x.b, x.t⟩
def fitsD (x : RV) (wide : Bool) : Bool :=
  if x.form = 25 then decide (x.u = 1) else if x.form = 30 then decide (x.b.length = 16)
  else if kindF x.form = 9 ∨ kindF x.form = 10 then (decide (x.b.length ≤ 65536) && rfitsV (rsizF x.form wide) x.b.length)
  else rightT x.t && rfitsV (rsizF x.form wide) x.u
theorem alone_none (x : RV) : sameV x (aloneV x) = (decide ((noneV x).u = 0) && (decide ((noneV x).s = 0) && (decide ((noneV x).b.length = 0) && decide ((noneV x).t = [])))) := by
  unfold aloneV noneV
  by_cases h5 : kindF x.form = 5
  · rw [if_pos h5, if_neg (by omega), if_pos h5]
    simp [sameV]
  · rw [if_neg h5]
    by_cases h9 : kindF x.form = 9 ∨ kindF x.form = 10
    · rw [if_pos h9, if_neg (by omega), if_neg h5, if_pos h9]
      simp [sameV]
    · rw [if_neg h9]
      by_cases h3 : kindF x.form = 3
      · rw [if_pos h3, if_pos h3]
        simp [sameV]
      · rw [if_neg h3, if_neg h3, if_neg h5, if_neg h9]
        simp [sameV]
theorem rfitsV_zero (z : Int) : rfitsV z 0 = true := by simp [rfitsV]
theorem fits_hold {n : Nat} (hn : n < 45) (hk : kindF (n : Int) ≠ 0) (h25 : n ≠ 25) (h33 : n ≠ 33) (h8 : n ≠ 8) (h30 : n ≠ 30) (wide : Bool) (m : Nat) (hm : m < two64) : rfitsV (rsizF (n : Int) wide) m = holdsV (widF (n : Int) wide) m := by
  rcases rsizF_ways hn hk h25 h33 h8 h30 wide with ⟨h1, h2⟩ | ⟨h1, h2, h3⟩
  · rw [h1, h2]; rfl
  · rw [h2] at h3 ⊢
    unfold rfitsV holdsV
    rw [decide_eq_false h1, decide_eq_false h3, Bool.false_or, Bool.false_or]
    by_cases h8' : rsizF (n : Int) wide = 8
    · rw [h8']
      have : m / 256 ^ (8 : Int).toNat = 0 := Nat.div_eq_of_lt (by unfold two64 at hm; exact hm)
      rw [this]; rfl
    · rw [decide_eq_false h8', Bool.false_or]
theorem fitsD_eq {x : RV} (hk : kindF x.form ≠ 0) (hs : sameV x (aloneV x) = true) (hu : x.u < two64) (hb : x.b.length < two64) (wide : Bool) : fitsD x wide = fitsV x wide := by
  obtain ⟨n, hfn, hn⟩ := kindF_in hk
  rw [sameV_iff] at hs
  unfold fitsD fitsV
  by_cases h5 : kindF x.form = 5
  · have h8 : n = 8 := kind5 hn (hfn ▸ h5)
    have hu0 : x.u = 0 := by rw [hs]; unfold aloneV; rw [if_pos h5]
    rw [if_neg (by omega), if_neg (by omega), if_neg (by omega), if_pos h5, hu0, rfitsV_zero, Bool.and_true]
  rw [if_neg h5]
  by_cases h9 : kindF x.form = 9 ∨ kindF x.form = 10
  · have h25 : n ≠ 25 := by rintro rfl; rw [hfn] at h9; exact absurd h9 (by decide)
    have h33 : n ≠ 33 := by rintro rfl; rw [hfn] at h9; exact absurd h9 (by decide)
    have h8 : n ≠ 8 := by rintro rfl; rw [hfn] at h9; exact absurd h9 (by decide)
    rw [if_neg (by omega), if_pos h9]
    by_cases h30 : x.form = 30
    · rw [if_pos h30, if_pos h9, if_pos h30]
    · rw [if_neg h30, if_neg h30, if_pos h9, hfn, fits_hold hn (hfn ▸ hk) h25 h33 h8 (by omega) wide _ hb]
  rw [if_neg h9, if_neg h9]
  have h30 : n ≠ 30 := by rintro rfl; rw [hfn] at h9; exact absurd h9 (by decide)
  have ht : x.t = [] := by rw [hs]; unfold aloneV; rw [if_neg h5, if_neg h9]; split <;> rfl
  by_cases h3 : kindF x.form = 3
  · have hu0 : x.u = 0 := by rw [hs]; unfold aloneV; rw [if_neg h5, if_neg h9, if_pos h3]
    have h25 : n ≠ 25 := by rintro rfl; rw [hfn] at h3; exact absurd h3 (by decide)
    rw [if_pos h3, if_neg (by omega), if_neg (by omega), ht, hu0, rfitsV_zero]; rfl
  · have h33 : n ≠ 33 := by rintro rfl; rw [hfn] at h3; exact absurd h3 (by decide)
    have h8 : n ≠ 8 := by rintro rfl; rw [hfn] at h5; exact absurd h5 (by decide)
    rw [if_neg h3]
    by_cases h25 : x.form = 25
    · rw [if_pos h25, if_pos h25]
    · rw [if_neg h25, if_neg h25, if_neg (by omega), ht, hfn, fits_hold hn (hfn ▸ hk) (by omega) h33 h8 h30 wide _ hu]; rfl

set_option maxRecDepth 10000 in
set_option maxHeartbeats 3200000 in
theorem rrightV_any {w : World} (y : WLay) (hu : y.x.u < two64) (hb : y.x.b.length ≤ 9223372036854775807) (ht : y.x.t.length ≤ 140737488355328) (wide : Bool) :
    Calls Tryd.prog 19 #[.agg #[.int .i64 y.x.form, .int .u64 (y.x.u : Int), .int .i64 y.x.s, .slice y.a y.x.b.length y.c, .string ⟨y.x.t.toArray⟩], .bool wide] w fun r w' => r = .returned (.bool (rightV y.x wide)) ∧ Below w.heap.size w w' := by
  have HE := Lib.hid (show rightV y.x wide = (!decide (kindF y.x.form = 0) && (sameV y.x (aloneV y.x) && fitsV y.x wide)) from rfl)
  have HAN := Lib.hid (alone_none y.x)
  have hA := (Below.refl w.heap.size w).alloc (Nat.le_refl _) (.cells #[.int .i64 y.x.form, .int .u64 (y.x.u : Int), .int .i64 y.x.s, .slice y.a y.x.b.length y.c, .string ⟨y.x.t.toArray⟩] 33)
  have HA := Lib.hid hA
  have hX0 := Box.new w 33 #[.int .i64 y.x.form, .int .u64 (y.x.u : Int), .int .i64 y.x.s, .slice y.a y.x.b.length y.c, .string ⟨y.x.t.toArray⟩]
  have HK := Lib.hid (fun W => rkind_any W y.x.form)
  by_cases h0 : kindF y.x.form = 0
  · have HR := Lib.hid (show rightV y.x wide = false by rw [HE.out, decide_eq_true h0]; rfl)
    have HK0 := Lib.hid (fun W => (by have := HK.out W; rwa [h0] at this : Calls Tryd.prog 15 #[.int .i64 y.x.form] W fun r w' => r = .returned (.int .i64 0) ∧ W = w'))
    clear hA hX0 HK hu hb ht h0 HE
    generalize y.x.b.length = bn at *
    go_enter Tryd.func19, Tryd.ntmps19
    go_wp2_with (go_at_call 15; refine (HK0.out _).mono ?_; rintro r w1 ⟨rfl, rfl⟩)
    go_ret
    exact ⟨by rw [HR.out]; rfl, HA.out⟩
  have HR := Lib.hid (show rightV y.x wide = (sameV y.x (aloneV y.x) && fitsD y.x wide) by
    rw [HE.out, decide_eq_false h0]
    cases hsv : sameV y.x (aloneV y.x) with
    | false => rfl
    | true => rw [fitsD_eq h0 hsv hu (by unfold two64; omega)]; rfl)
  obtain ⟨n, hfn, hn⟩ := kindF_in h0
  have q0 : (kindF y.x.form == 0) = false := by simpa using h0
  have HFI := Lib.hid (fun W (m : Nat) (hm : m < two64) => (by have := rfits_any W hn wide m hm; rwa [← hfn] at this : Calls Tryd.prog 46 #[.int .u64 (m : Int), .int .i64 y.x.form, .bool wide] W fun r w' => r = .returned (.bool (rfitsV (rsizF y.x.form wide) m)) ∧ W = w'))
  have HT := Lib.hid (fun W => rright_any y.x.t W ht)
  have HU := Lib.hid hu
  have HB2 := Lib.hid (show y.x.b.length < two64 by unfold two64; omega)
  have hwb : IntKind.u64.wrap (y.x.b.length : Int) = (y.x.b.length : Int) := by rw [IntWalk.u64_in _ (by omega)]
  have HD := Lib.hid (show fitsD y.x wide = if y.x.form = 25 then decide (y.x.u = 1) else if y.x.form = 30 then decide (y.x.b.length = 16) else if kindF y.x.form = 9 ∨ kindF y.x.form = 10 then (decide (y.x.b.length ≤ 65536) && rfitsV (rsizF y.x.form wide) y.x.b.length) else rightT y.x.t && rfitsV (rsizF y.x.form wide) y.x.u from rfl)
  have HNV := Lib.hid (show noneV y.x = if kindF y.x.form = 3 then ⟨y.x.form, y.x.u, 0, y.x.b, y.x.t⟩ else if kindF y.x.form = 5 then ⟨y.x.form, y.x.u, y.x.s, y.x.b, []⟩ else if kindF y.x.form = 9 ∨ kindF y.x.form = 10 then ⟨y.x.form, y.x.u, y.x.s, [], y.x.t⟩ else ⟨y.x.form, 0, y.x.s, y.x.b, y.x.t⟩ from rfl)
  clear hA h0 hfn hn hu hb ht HE
  go_enter Tryd.func19, Tryd.ntmps19
  go_upto_region 4 with (go_at_call 15; refine (HK.out _).mono ?_; rintro r w1 ⟨rfl, rfl⟩)
  generalize hw1 : w.alloc (.cells #[.int .i64 y.x.form, .int .u64 (y.x.u : Int), .int .i64 y.x.s, .slice y.a y.x.b.length y.c, .string ⟨y.x.t.toArray⟩] 33) = w1 at *
  obtain ⟨x0, x1, x2, x3, x4⟩ := five_cellsR hX0
  have hA2 := (Below.refl w1.heap.size w1).alloc (Nat.le_refl _) (.cells #[.int .i64 y.x.form, .int .u64 (y.x.u : Int), .int .i64 y.x.s, .slice y.a y.x.b.length y.c, .string ⟨y.x.t.toArray⟩] 33)
  have hX2 := Box.new w1 33 #[.int .i64 y.x.form, .int .u64 (y.x.u : Int), .int .i64 y.x.s, .slice y.a y.x.b.length y.c, .string ⟨y.x.t.toArray⟩]
  have hX02 := hX0.below hA2 hX0.lt
  have hne : w.heap.size ≠ w1.heap.size := Nat.ne_of_lt hX0.lt
  clear hw1
  go_upto_region 5 with fail
  generalize hw2 : w1.alloc (.cells #[.int .i64 y.x.form, .int .u64 (y.x.u : Int), .int .i64 y.x.s, .slice y.a y.x.b.length y.c, .string ⟨y.x.t.toArray⟩] 33) = w2 at *
  have HB2' := Lib.hid (HA.out.trans (hA2.mono HA.out.size))
  have HH2 := Lib.hid (show w.heap.size ≤ w1.heap.size from HA.out.size)
  have HX02 := Lib.hid hX02
  have HX2 := Lib.hid hX2
  have HNE := Lib.hid hne
  clear hw2 x0 x1 x2 x3 x4 hX0
  obtain ⟨x0, x1, x2, x3, x4⟩ := five_cellsR hX02
  obtain ⟨y0, y1, y2, y3, y4⟩ := five_cellsR hX2
  obtain ⟨b0, b1, b2, b3, b4⟩ := five_freeR hX2
  clear hA2 hX2 hX02
  generalize w1.heap.size = H2 at *
  clear HK
  obtain ⟨bn, hbn⟩ : ∃ bn, y.x.b.length = bn := ⟨_, rfl⟩
  have HBN := Lib.hid hbn
  rw [hbn] at hwb HB2 HD y3 x3 ⊢
  clear hbn
  obtain ⟨ts, hts⟩ : ∃ ts : ByteArray, ts = ⟨y.x.t.toArray⟩ := ⟨_, rfl⟩
  have e4 := str_eq y.x.t []
  have e4' : ((ByteArray.mk ([] : List UInt8).toArray).toList) = [] := by rw [Lib.toList_data]
  rw [e4', ← hts] at e4
  have HTE := Lib.hid (show (ts.toList == []) = decide (y.x.t = []) from e4)
  rw [← hts] at HT y4 x4 ⊢
  clear hts e4 e4'
  obtain ⟨k, hkk⟩ : ∃ k, kindF y.x.form = k := ⟨_, rfl⟩
  have HKF := Lib.hid hkk
  rw [hkk] at HD HNV q0 ⊢
  clear hkk
  generalize sameV y.x (aloneV y.x) = sv at *
  generalize rightT y.x.t = rt at *
  generalize fitsD y.x wide = fd at *
  generalize rsizF y.x.form wide = z at *
  generalize noneV y.x = N at *
  generalize y.x.form = f at *
  generalize y.x.u = u at *
  generalize y.x.s = s at *
  generalize y.a = ya at *
  generalize y.c = yc at *
  have HUB := Lib.hid (nat_beqR u 0)
  have HBB := Lib.hid HBN.out
  by_cases h3 : k = 3
  · have c3 : (k == 3) = true := by simpa using h3
    have HN := Lib.hid (by rw [HNV.out, if_pos h3] : N = ⟨f, u, 0, y.x.b, y.x.t⟩)
    have hf25 : f ≠ 25 := fun e => by have := HKF.out; rw [e, h3] at this; exact absurd this (by decide)
    have hf30 : f ≠ 30 := fun e => by have := HKF.out; rw [e, h3] at this; exact absurd this (by decide)
    have hk9 : ¬ (k = 9 ∨ k = 10) := by omega
    have c9 : (k == 9) = false := by simp; omega
    have c10 : (k == 10) = false := by simp; omega
    clear h3 HNV
    by_cases hu0 : u = 0
    rotate_left
    · have hsv : sv = false := by rw [HAN.out, HN.out]; simp [hu0]
      have cu : ((u : Int) != 0) = true := by simp; omega
      have HRF := Lib.hid (show rightV y.x wide = false by rw [HR.out, hsv]; rfl)
      clear hu0 hsv
      go_wp2_with fail
      go_ret
      exact ⟨by rw [HRF.out]; rfl, by first | exact HB2'.out | exact HB2'.out.setCell HH2.out _⟩
    have cu : ((u : Int) != 0) = false := by simp; omega
    by_cases hb0 : bn = 0
    rotate_left
    · have hsv : sv = false := by rw [HAN.out, HN.out]; simp [HBN.out, hb0]
      have cb : decide ((0 : Int) < (bn : Int)) = true := by simp; omega
      have db : decide (0 < bn) = true := by simp; omega
      have HRF := Lib.hid (show rightV y.x wide = false by rw [HR.out, hsv]; rfl)
      clear hb0 hsv
      go_wp2_with fail
      go_ret
      exact ⟨by rw [HRF.out]; rfl, by first | exact HB2'.out | exact HB2'.out.setCell HH2.out _⟩
    have cb : decide ((0 : Int) < (bn : Int)) = false := by simp; omega
    have db : decide (0 < bn) = false := by simp; omega
    by_cases ht0 : y.x.t = []
    rotate_left
    · have hsv : sv = false := by rw [HAN.out, HN.out]; simp [ht0]
      have ct : (ts.toList == []) = false := by rw [HTE.out, decide_eq_false ht0]
      have dt : (ts.toList != []) = true := by rw [bne, ct]; rfl
      have HRF := Lib.hid (show rightV y.x wide = false by rw [HR.out, hsv]; rfl)
      clear ht0 hsv
      go_wp2_with fail
      go_ret
      exact ⟨by rw [HRF.out]; rfl, by first | exact HB2'.out | exact HB2'.out.setCell HH2.out _⟩
    have ct : (ts.toList == []) = true := by rw [HTE.out, decide_eq_true ht0]
    have dt : (ts.toList != []) = false := by rw [bne, ct]; rfl
    have hsv : sv = true := by rw [HAN.out, HN.out]; simp [hu0, HBN.out, hb0, ht0]
    have HRF := Lib.hid (show rightV y.x wide = fd by rw [HR.out, hsv]; rfl)
    clear hsv
    rw [if_neg hf25, if_neg hf30, if_neg hk9] at HD
    have q25 : (f == 25) = false := by simpa using hf25
    have q30 : (f == 30) = false := by simpa using hf30
    clear hu0 hb0 ht0 hf25 hf30
    cases rt with
    | false =>
      go_wp2_with (first | (go_at_call 47; refine (HT.out _).mono ?_; rintro r w3 ⟨rfl, rfl⟩) | (go_at_call 46; refine (HFI.out _ _ HU.out).mono ?_; rintro r w4 ⟨rfl, rfl⟩))
      go_ret
      exact ⟨by rw [HRF.out, HD.out]; rfl, by first | exact HB2'.out | exact HB2'.out.setCell HH2.out _⟩
    | true =>
      go_wp2_with (first | (go_at_call 47; refine (HT.out _).mono ?_; rintro r w3 ⟨rfl, rfl⟩) | (go_at_call 46; refine (HFI.out _ _ HU.out).mono ?_; rintro r w4 ⟨rfl, rfl⟩))
      go_ret
      exact ⟨by rw [HRF.out, HD.out]; rfl, by first | exact HB2'.out | exact HB2'.out.setCell HH2.out _⟩
  have c3 : (k == 3) = false := by simpa using h3
  by_cases h5 : k = 5
  · have c5 : (k == 5) = true := by simpa using h5
    have HN := Lib.hid (by rw [HNV.out, if_neg h3, if_pos h5] : N = ⟨f, u, s, y.x.b, []⟩)
    have hf25 : f ≠ 25 := fun e => by have := HKF.out; rw [e, h5] at this; exact absurd this (by decide)
    have hf30 : f ≠ 30 := fun e => by have := HKF.out; rw [e, h5] at this; exact absurd this (by decide)
    have hk9 : ¬ (k = 9 ∨ k = 10) := by omega
    have c9 : (k == 9) = false := by simp; omega
    have c10 : (k == 10) = false := by simp; omega
    clear h3 h5 HNV
    by_cases hu0 : u = 0
    rotate_left
    · have hsv : sv = false := by rw [HAN.out, HN.out]; simp [hu0]
      have cu : ((u : Int) != 0) = true := by simp; omega
      have HRF := Lib.hid (show rightV y.x wide = false by rw [HR.out, hsv]; rfl)
      clear hu0 hsv
      go_wp2_with fail
      go_ret
      exact ⟨by rw [HRF.out]; rfl, by first | exact HB2'.out | exact HB2'.out.setCell HH2.out _⟩
    have cu : ((u : Int) != 0) = false := by simp; omega
    by_cases hs0 : s = 0
    rotate_left
    · have hsv : sv = false := by rw [HAN.out, HN.out]; simp [hs0]
      have cs : (s != 0) = true := by simpa using hs0
      have HRF := Lib.hid (show rightV y.x wide = false by rw [HR.out, hsv]; rfl)
      clear hs0 hsv
      go_wp2_with fail
      go_ret
      exact ⟨by rw [HRF.out]; rfl, by first | exact HB2'.out | exact HB2'.out.setCell HH2.out _⟩
    have cs : (s != 0) = false := by simpa using hs0
    by_cases hb0 : bn = 0
    rotate_left
    · have hsv : sv = false := by rw [HAN.out, HN.out]; simp [HBN.out, hb0]
      have cb : decide ((0 : Int) < (bn : Int)) = true := by simp; omega
      have db : decide (0 < bn) = true := by simp; omega
      have HRF := Lib.hid (show rightV y.x wide = false by rw [HR.out, hsv]; rfl)
      clear hb0 hsv
      go_wp2_with fail
      go_ret
      exact ⟨by rw [HRF.out]; rfl, by first | exact HB2'.out | exact HB2'.out.setCell HH2.out _⟩
    have cb : decide ((0 : Int) < (bn : Int)) = false := by simp; omega
    have db : decide (0 < bn) = false := by simp; omega
    have hsv : sv = true := by rw [HAN.out, HN.out]; simp [hu0, hs0, HBN.out, hb0]
    have HRF := Lib.hid (show rightV y.x wide = fd by rw [HR.out, hsv]; rfl)
    clear hsv
    rw [if_neg hf25, if_neg hf30, if_neg hk9] at HD
    have q25 : (f == 25) = false := by simpa using hf25
    have q30 : (f == 30) = false := by simpa using hf30
    clear hu0 hs0 hb0 hf25 hf30
    cases rt with
    | false =>
      go_wp2_with (first | (go_at_call 47; refine (HT.out _).mono ?_; rintro r w3 ⟨rfl, rfl⟩) | (go_at_call 46; refine (HFI.out _ _ HU.out).mono ?_; rintro r w4 ⟨rfl, rfl⟩))
      go_ret
      exact ⟨by rw [HRF.out, HD.out]; rfl, by first | exact HB2'.out | exact HB2'.out.setCell HH2.out _⟩
    | true =>
      go_wp2_with (first | (go_at_call 47; refine (HT.out _).mono ?_; rintro r w3 ⟨rfl, rfl⟩) | (go_at_call 46; refine (HFI.out _ _ HU.out).mono ?_; rintro r w4 ⟨rfl, rfl⟩))
      go_ret
      exact ⟨by rw [HRF.out, HD.out]; rfl, by first | exact HB2'.out | exact HB2'.out.setCell HH2.out _⟩
  have c5 : (k == 5) = false := by simpa using h5
  by_cases hk9 : k = 9 ∨ k = 10
  · have HN := Lib.hid (by rw [HNV.out, if_neg h3, if_neg h5, if_pos hk9] : N = ⟨f, u, s, [], y.x.t⟩)
    have c9 : (k == 9) = true ∨ (k == 9) = false ∧ (k == 10) = true := by
      rcases hk9 with rfl | rfl
      · exact .inl rfl
      · exact .inr ⟨rfl, rfl⟩
    have hf25 : f ≠ 25 := fun e => by
      have := HKF.out
      rw [e] at this
      rw [← this] at hk9
      exact absurd hk9 (by decide)
    clear h3 h5 HNV
    rcases c9 with c9 | ⟨c9, c10⟩
    all_goals
      by_cases hu0 : u = 0
      rotate_left
      · have hsv : sv = false := by rw [HAN.out, HN.out]; simp [hu0]
        have cu : ((u : Int) != 0) = true := by simp; omega
        have HRF := Lib.hid (show rightV y.x wide = false by rw [HR.out, hsv]; rfl)
        clear hu0 hsv
        go_wp2_with fail
        go_ret
        exact ⟨by rw [HRF.out]; rfl, by first | exact HB2'.out | exact HB2'.out.setCell HH2.out _⟩
      have cu : ((u : Int) != 0) = false := by simp; omega
      by_cases hs0 : s = 0
      rotate_left
      · have hsv : sv = false := by rw [HAN.out, HN.out]; simp [hs0]
        have cs : (s != 0) = true := by simpa using hs0
        have HRF := Lib.hid (show rightV y.x wide = false by rw [HR.out, hsv]; rfl)
        clear hs0 hsv
        go_wp2_with fail
        go_ret
        exact ⟨by rw [HRF.out]; rfl, by first | exact HB2'.out | exact HB2'.out.setCell HH2.out _⟩
      have cs : (s != 0) = false := by simpa using hs0
      by_cases ht0 : y.x.t = []
      rotate_left
      · have hsv : sv = false := by rw [HAN.out, HN.out]; simp [ht0]
        have ct : (ts.toList == []) = false := by rw [HTE.out, decide_eq_false ht0]
        have dt : (ts.toList != []) = true := by rw [bne, ct]; rfl
        have HRF := Lib.hid (show rightV y.x wide = false by rw [HR.out, hsv]; rfl)
        clear ht0 hsv
        go_wp2_with fail
        go_ret
        exact ⟨by rw [HRF.out]; rfl, by first | exact HB2'.out | exact HB2'.out.setCell HH2.out _⟩
      have ct : (ts.toList == []) = true := by rw [HTE.out, decide_eq_true ht0]
      have dt : (ts.toList != []) = false := by rw [bne, ct]; rfl
      have hsv : sv = true := by rw [HAN.out, HN.out]; simp [hu0, hs0, ht0]
      have HRF := Lib.hid (show rightV y.x wide = fd by rw [HR.out, hsv]; rfl)
      clear hsv
      rw [if_neg hf25] at HD
      have q25 : (f == 25) = false := by simpa using hf25
      have q16 : ((bn : Int) == 16) = decide (bn = 16) := nat_beqR bn 16
      by_cases hf30 : f = 30
      · have q30 : (f == 30) = true := by simpa using hf30
        rw [if_pos hf30] at HD
        clear hf30 hf25 hu0 hs0 ht0
        go_wp2_with fail
        go_ret
        exact ⟨by rw [HRF.out, HD.out, ← q16]; rfl, by first | exact HB2'.out | exact HB2'.out.setCell HH2.out _⟩
      · have q30 : (f == 30) = false := by simpa using hf30
        rw [if_neg hf30, if_pos hk9] at HD
        clear hf30 hf25 hu0 hs0 ht0 q16
        by_cases h65 : bn ≤ 65536
        · have c65 : decide ((bn : Int) ≤ 65536) = true := by simp; omega
          rw [decide_eq_true h65] at HD
          clear h65
          go_wp2_with (first | (go_at_call 47; refine (HT.out _).mono ?_; rintro r w3 ⟨rfl, rfl⟩) | (go_at_call 46; refine (HFI.out _ _ HB2.out).mono ?_; rintro r w4 ⟨rfl, rfl⟩))
          go_ret
          exact ⟨by rw [HRF.out, HD.out]; rfl, by first | exact HB2'.out | exact HB2'.out.setCell HH2.out _⟩
        · have c65 : decide ((bn : Int) ≤ 65536) = false := by simp; omega
          rw [decide_eq_false h65] at HD
          clear h65
          go_wp2_with fail
          go_ret
          exact ⟨by rw [HRF.out, HD.out]; rfl, by first | exact HB2'.out | exact HB2'.out.setCell HH2.out _⟩
  have HN := Lib.hid (by rw [HNV.out, if_neg h3, if_neg h5, if_neg hk9] : N = ⟨f, 0, s, y.x.b, y.x.t⟩)
  have c9 : (k == 9) = false := by simp; omega
  have c10 : (k == 10) = false := by simp; omega
  have hf30 : f ≠ 30 := fun e => by
    have := HKF.out
    rw [e] at this
    exact hk9 (.inl (by rw [← this]; rfl))
  clear h3 h5 HNV
  by_cases hs0 : s = 0
  rotate_left
  · have hsv : sv = false := by rw [HAN.out, HN.out]; simp [hs0]
    have cs : (s != 0) = true := by simpa using hs0
    have HRF := Lib.hid (show rightV y.x wide = false by rw [HR.out, hsv]; rfl)
    clear hs0 hsv
    go_wp2_with fail
    go_ret
    exact ⟨by rw [HRF.out]; rfl, by first | exact HB2'.out | exact HB2'.out.setCell HH2.out _⟩
  have cs : (s != 0) = false := by simpa using hs0
  by_cases hb0 : bn = 0
  rotate_left
  · have hsv : sv = false := by rw [HAN.out, HN.out]; simp [HBN.out, hb0]
    have cb : decide ((0 : Int) < (bn : Int)) = true := by simp; omega
    have db : decide (0 < bn) = true := by simp; omega
    have HRF := Lib.hid (show rightV y.x wide = false by rw [HR.out, hsv]; rfl)
    clear hb0 hsv
    go_wp2_with fail
    go_ret
    exact ⟨by rw [HRF.out]; rfl, by first | exact HB2'.out | exact HB2'.out.setCell HH2.out _⟩
  have cb : decide ((0 : Int) < (bn : Int)) = false := by simp; omega
  have db : decide (0 < bn) = false := by simp; omega
  by_cases ht0 : y.x.t = []
  rotate_left
  · have hsv : sv = false := by rw [HAN.out, HN.out]; simp [ht0]
    have ct : (ts.toList == []) = false := by rw [HTE.out, decide_eq_false ht0]
    have dt : (ts.toList != []) = true := by rw [bne, ct]; rfl
    have HRF := Lib.hid (show rightV y.x wide = false by rw [HR.out, hsv]; rfl)
    clear ht0 hsv
    go_wp2_with fail
    go_ret
    exact ⟨by rw [HRF.out]; rfl, by first | exact HB2'.out | exact HB2'.out.setCell HH2.out _⟩
  have ct : (ts.toList == []) = true := by rw [HTE.out, decide_eq_true ht0]
  have dt : (ts.toList != []) = false := by rw [bne, ct]; rfl
  have hsv : sv = true := by rw [HAN.out, HN.out]; simp [hs0, HBN.out, hb0, ht0]
  have HRF := Lib.hid (show rightV y.x wide = fd by rw [HR.out, hsv]; rfl)
  clear hsv
  by_cases hf25 : f = 25
  · have q25 : (f == 25) = true := by simpa using hf25
    have q1 : ((u : Int) == 1) = decide (u = 1) := nat_beqR u 1
    rw [if_pos hf25] at HD
    clear hf25 hs0 hb0 ht0
    go_wp2_with fail
    go_ret
    exact ⟨by rw [HRF.out, HD.out, ← q1]; rfl, by first | exact HB2'.out | exact HB2'.out.setCell HH2.out _⟩
  · have q25 : (f == 25) = false := by simpa using hf25
    rw [if_neg hf25, if_neg hf30, if_neg hk9] at HD
    have q30 : (f == 30) = false := by simpa using hf30
    clear hf25 hf30 hs0 hb0 ht0
    cases rt with
    | false =>
      go_wp2_with (first | (go_at_call 47; refine (HT.out _).mono ?_; rintro r w3 ⟨rfl, rfl⟩) | (go_at_call 46; refine (HFI.out _ _ HU.out).mono ?_; rintro r w4 ⟨rfl, rfl⟩))
      go_ret
      exact ⟨by rw [HRF.out, HD.out]; rfl, by first | exact HB2'.out | exact HB2'.out.setCell HH2.out _⟩
    | true =>
      go_wp2_with (first | (go_at_call 47; refine (HT.out _).mono ?_; rintro r w3 ⟨rfl, rfl⟩) | (go_at_call 46; refine (HFI.out _ _ HU.out).mono ?_; rintro r w4 ⟨rfl, rfl⟩))
      go_ret
      exact ⟨by rw [HRF.out, HD.out]; rfl, by first | exact HB2'.out | exact HB2'.out.setCell HH2.out _⟩

end Go.Proofs.YtpmndmbhkfbljaaDoor
