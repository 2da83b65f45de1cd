/-
  RawBack's walk.
-/
import Derived.Test.YtpmndmbhkfbljaaDoorRwE
import Derived.Test.YtpmndmbhkfbljaaDoorCsA
import Derived.Test.YtpmndmbhkfbljaaDoorRwB
import Derived.Test.YtpmndmbhkfbljaaDoorRefS
import Derived.Test.YtpmndmbhkfbljaaDoorCurN
import Derived.Test.YtpmndmbhkfbljaaDoorLawA
namespace Go.Proofs.YtpmndmbhkfbljaaDoor
open Go Go.RowKit Go.Maps

/-! ### Of a state -/
section
variable {l : List UInt8} {s : CSt}
theorem sU_ref (h : s.2 ≠ 0) : tU l s = 0 ∧ sU l s = s := by
  unfold tU sU uOf
  rw [if_neg h]
  exact ⟨rfl, rfl⟩
theorem sS_ref (h : s.2 ≠ 0) : tS l s = 0 ∧ sS l s = s := by
  unfold tS sS sOf
  rw [if_neg h]
  exact ⟨rfl, rfl⟩
end

section
variable {B : Nat} {w : World} {g : Nat} {v : Value} {l : List UInt8}
theorem rparts_ref {a : Nat} {e : Int} (h : RR B w g v l a e) (he : e ≠ 0) :
    Calls Tryd.prog 54 #[.pointer (some ⟨g, 0, none⟩)] w fun r w' => r = .returned (.slice none 0 0) ∧ RR B w' g v l a e ∧ w.grownBy w' (some g) := by
  have HU := Lib.hid (quint_ref h he 1 (by omega))
  have HC := Lib.hid h
  have hk := cell_e h
  have hne : (e != 0) = true := by simp [he]
  clear h
  go_enter Tryd.func54, Tryd.ntmps54
  go_wp2_with fail
  go_loopg [3, 4] 0 (fun gk u i wr => gk = 0 ∧ u = .slice none 0 0 ∧ i = .int .i64 0 ∧ wr = w)
  case atStart => exact ⟨rfl, rfl, rfl, rfl⟩
  case round =>
    obtain ⟨rfl, rfl, rfl, rfl⟩ := hrel
    go_wp2_with (go_at_call 57; refine HU.out.mono ?_; rintro r w1 ⟨rfl, rfl⟩)
    go_ret
    exact ⟨rfl, HC.out, only_refl _ _⟩
theorem rU_ref {a : Nat} {e : Int} (h : RR B w g v l a e) (he : e ≠ 0) :
    Calls Tryd.prog 30 #[.pointer (some ⟨g, 0, none⟩)] w fun r w' => r = .returned (.int .u64 0) ∧ RR B w' g v l a e ∧ w.grownBy w' (some g) := by
  have HP := Lib.hid (rparts_ref h he)
  clear h
  go_enter Tryd.func30, Tryd.ntmps30
  go_wp2_with (go_at_call 54; refine HP.out.mono ?_; rintro r w1 ⟨rfl, hC1, hG1⟩; have HC1 := Lib.hid hC1; have HG1 := Lib.hid hG1; clear hC1 hG1)
  go_loopg [4, 5] 0 (fun gk u i wr => gk = 0 ∧ u = .int .u64 0 ∧ i = .int .i64 (-1) ∧ wr = w1)
  case atStart => exact ⟨rfl, rfl, rfl, rfl⟩
  case round =>
    obtain ⟨rfl, rfl, rfl, rfl⟩ := hrel
    go_wp2_with fail
    go_ret
    exact ⟨rfl, HC1.out, HG1.out⟩
theorem rS_ref {a : Nat} {e : Int} (h : RR B w g v l a e) (he : e ≠ 0) :
    Calls Tryd.prog 32 #[.pointer (some ⟨g, 0, none⟩)] w fun r w' => r = .returned (.int .i64 0) ∧ RR B w' g v l a e ∧ w.grownBy w' (some g) := by
  have HP := Lib.hid (rparts_ref h he)
  clear h
  go_enter Tryd.func32, Tryd.ntmps32
  go_wp2_with (go_at_call 54; refine HP.out.mono ?_; rintro r w1 ⟨rfl, hC1, hG1⟩; have HC1 := Lib.hid hC1; have HG1 := Lib.hid hG1; clear hC1 hG1)
  go_ret
  exact ⟨rfl, HC1.out, HG1.out⟩

theorem ru_st {s : CSt} (h : RR B w g v l s.1 s.2) (hlen : l.length ≤ 140737488355328) :
    Calls Tryd.prog 30 #[.pointer (some ⟨g, 0, none⟩)] w fun x w' => x = .returned (.int .u64 (tU l s : Int)) ∧ RR B w' g v l (sU l s).1 (sU l s).2 ∧ w.grownBy w' (some g) := by
  by_cases he : s.2 = 0
  · obtain ⟨a, e⟩ := s
    simp only at he h
    subst he
    exact rU_ok h hlen
  · rw [(sU_ref he).1, (sU_ref he).2]
    exact rU_ref h he
theorem rs_st {s : CSt} (h : RR B w g v l s.1 s.2) (hlen : l.length ≤ 140737488355328) :
    Calls Tryd.prog 32 #[.pointer (some ⟨g, 0, none⟩)] w fun x w' => x = .returned (.int .i64 (tS l s)) ∧ RR B w' g v l (sS l s).1 (sS l s).2 ∧ w.grownBy w' (some g) := by
  by_cases he : s.2 = 0
  · obtain ⟨a, e⟩ := s
    simp only at he h
    subst he
    exact rS_ok h hlen
  · rw [(sS_ref he).1, (sS_ref he).2]
    exact rS_ref h he
theorem rf_st {s : CSt} (h : RR B w g v l s.1 s.2) (f : Int) :
    Calls Tryd.prog 31 #[.pointer (some ⟨g, 0, none⟩), .int .i64 f] w fun x w' => x = .returned (.tuple #[]) ∧ RR B w' g v l (sF s f).1 (sF s f).2 ∧ w.grownBy w' (some g) := qfail h f

end

end Go.Proofs.YtpmndmbhkfbljaaDoor

namespace Go.Proofs.YtpmndmbhkfbljaaDoor
open Go Go.RowKit

/-! ### Of nobody -/
set_option maxRecDepth 10000 in
theorem number_nil {w : World} (hF : Ft w) (hS : Sz w) :
    Calls Tryd.prog 26 #[.agg #[.pointer none, .int .i64 0, .int .i64 1, .int .i64 0, .bool true]] w fun r w' => r = .returned (.int .u64 0) ∧ Below w.heap.size w w' := by
  have HA := Lib.hid ((Below.refl w.heap.size w).alloc (Nat.le_refl _) (.cells #[.pointer none, .int .i64 0, .int .i64 1, .int .i64 0, .bool true] 56))
  have HW := Lib.hid (fun W (hW : Below w.heap.size w W) => (show Calls Tryd.prog 37 #[.int .i64 1, .bool true] W fun r w' => r = .returned (.int .i64 8) ∧ W = w' from width_any (n := 1) (hF.up hW) (hS.below hW hS.pos) (by decide) true))
  have HN := Lib.hid (fun W => uint_nob (p := none) (w := W) (.inl rfl) 8 (by decide))
  clear hF hS
  go_enter Tryd.func26, Tryd.ntmps26
  go_wp2_with (first
    | (go_at_call 37; refine (HW.out _ HA.out).mono ?_; rintro r w1 ⟨rfl, rfl⟩)
    | (go_at_call 50; refine (HN.out _).mono ?_; rintro r w2 ⟨rfl, rfl⟩))
  go_ret
  exact ⟨rfl, HA.out⟩
set_option maxRecDepth 10000 in
set_option maxHeartbeats 1600000 in
theorem value_nil {w : World} (hF : Ft w) (hS : Sz w) :
    Calls Tryd.prog 25 #[.int .i64 1, .func (.func 26) #[.agg #[.pointer none, .int .i64 0, .int .i64 1, .int .i64 0, .bool true]] #[], .func (.func 27) #[.agg #[.pointer none, .int .i64 0, .int .i64 1, .int .i64 0, .bool true]] #[], .func (.func 28) #[.agg #[.pointer none, .int .i64 0, .int .i64 1, .int .i64 0, .bool true]] #[], .func (.func 29) #[.agg #[.pointer none, .int .i64 0, .int .i64 1, .int .i64 0, .bool true]] #[]] w fun r w' =>
      r = .returned (.agg #[.int .i64 1, .int .u64 0, .int .i64 0, .slice none 0 0, .string ⟨#[]⟩]) ∧ Below w.heap.size w w' := by
  have HK := Lib.hid (fun W (hW : Below w.heap.size w W) => (show Calls Tryd.prog 14 #[.int .i64 1] W fun r w' => r = .returned (.int .i64 1) ∧ W = w' from kind_any (hF.up hW) 1))
  have HNU := Lib.hid (fun W (hW : Below w.heap.size w W) => number_nil (hF.up hW) (hS.below hW hS.pos))
  clear hF hS
  go_enter Tryd.func25, Tryd.ntmps25
  go_upto_region 2 with fail
  generalize hw0 : w.alloc (.cells #[.int .i64 0, .int .u64 0, .int .i64 0, .slice none 0 0, .string ⟨#[]⟩] 33) = w0
  have hs0 : w0.heap.size = w.heap.size + 1 := by rw [← hw0]; simp
  generalize hw1 : w0.alloc (.cells #[.int .i64 1, .int .u64 0, .int .i64 0, .slice none 0 0, .string ⟨#[]⟩] 33) = w1
  have hX0 := Box.new w 33 #[.int .i64 0, .int .u64 0, .int .i64 0, .slice none 0 0, .string ⟨#[]⟩]
  rw [hw0] at hX0
  have hX1 := Box.new w0 33 #[.int .i64 1, .int .u64 0, .int .i64 0, .slice none 0 0, .string ⟨#[]⟩]
  rw [hw1, hs0] at hX1
  have hb0 : Below w.heap.size w w0 := hw0 ▸ (Below.refl _ _).alloc (Nat.le_refl _) _
  have hb1 : Below w0.heap.size w0 w1 := hw1 ▸ (Below.refl _ _).alloc (Nat.le_refl _) _
  have HV := Lib.hid (show HSt w w1 w.heap.size (w.heap.size + 1) #[.int .i64 1, .int .u64 0, .int .i64 0, .slice none 0 0, .string ⟨#[]⟩] from ⟨hX1, hX0.below hb1 hX0.lt, hb0.trans (hb1.mono hb0.size), Nat.le_refl _, Nat.le_succ _, by omega⟩)
  clear hw0 hs0 hw1 hX0 hX1 hb0 hb1
  generalize hH1 : w.heap.size + 1 = H1 at *
  generalize hH0 : w.heap.size = H0 at HV ⊢
  clear hH1 hH0
  go_wp2_with (first
    | (go_at_call 14; refine (HK.out _ HV.out.b).mono ?_; rintro r w2 ⟨rfl, rfl⟩)
    | (go_at_call 26; refine (HNU.out _ HV.out.b).mono ?_; rintro r w2 ⟨rfl, hb2⟩; have HV2 := Lib.hid (HV.out.later hb2); have HV3 := Lib.hid (HV2.out.set 1 (.int .u64 0)); (obtain ⟨p0, p1, p2, p3, p4⟩ := five_cellsR HV2.out.x); (obtain ⟨e0, e1, e2, e3, e4⟩ := five_freeR HV2.out.x); (obtain ⟨z0, z1, z2, z3, z4⟩ := five_cellsR HV2.out.r); (obtain ⟨f0, f1, f2, f3, f4⟩ := five_freeR HV2.out.r); have hne01 := HV2.out.ne; have hne10 := HV2.out.ne.symm; clear hb2))
  refine ret_one Tryd.underlying33 Tryd.results25 (HV3.out.told _ _ _ _ _).1 (by kernel_rfl) (by rfl) rfl ?_
  obtain ⟨-, t2⟩ := HV3.out.told (.int .i64 1) (.int .u64 0) (.int .i64 0) (.slice none 0 0) (.string ⟨#[]⟩)
  exact ⟨rfl, t2⟩
set_option maxRecDepth 10000 in
set_option maxHeartbeats 1600000 in
theorem takeW_nil {w : World} (hF : Ft w) (hS : Sz w) :
    Calls Tryd.prog 9 #[.pointer none, .agg #[.int .i64 0, .int .i64 1, .int .i64 0], .bool true] w fun r w' => r = .returned (.agg #[.int .i64 0, .int .u64 0, .int .i64 0, .slice none 0 0, .string ⟨#[]⟩]) ∧ Below w.heap.size w w' := by
  have hmf : ∀ (fn : Fn) (first cap : Array Value) (W : World), (Instr.makeFunc fn first cap).run Tryd.prog W = .ok (.func fn first cap) W := fun _ _ _ _ => rfl
  have HK := Lib.hid (fun W (hW : Below w.heap.size w W) => (show Calls Tryd.prog 14 #[.int .i64 1] W fun r w' => r = .returned (.int .i64 1) ∧ W = w' from kind_any (hF.up hW) 1))
  have HVA := Lib.hid (fun W (hW : Below w.heap.size w W) => value_nil (hF.up hW) (hS.below hW hS.pos))
  have HER := Lib.hid (fun W => err_nob (p := none) (w := W) (.inl rfl))
  clear hF hS
  go_enter Tryd.func9, Tryd.ntmps9
  go_upto_region 1 with fail
  generalize hw0 : w.alloc (.cells #[.int .i64 0, .int .i64 1, .int .i64 0] 24) = w0
  have hs0 : w0.heap.size = w.heap.size + 1 := by rw [← hw0]; simp
  generalize hw1 : w0.alloc (.cells #[.int .i64 0, .int .u64 0, .int .i64 0, .slice none 0 0, .string ⟨#[]⟩] 33) = w1
  have hX0 := Box.new w 24 #[.int .i64 0, .int .i64 1, .int .i64 0]
  rw [hw0] at hX0
  have hX1 := Box.new w0 33 #[.int .i64 0, .int .u64 0, .int .i64 0, .slice none 0 0, .string ⟨#[]⟩]
  rw [hw1, hs0] at hX1
  have hb0 : Below w.heap.size w w0 := hw0 ▸ (Below.refl _ _).alloc (Nat.le_refl _) _
  have hb1 : Below w0.heap.size w0 w1 := hw1 ▸ (Below.refl _ _).alloc (Nat.le_refl _) _
  have HB1 := Lib.hid (hb0.trans (hb1.mono hb0.size))
  have HX0 := Lib.hid (hX0.below hb1 hX0.lt)
  have HX1 := Lib.hid hX1
  have HSR := Lib.hid (show w.heap.size ≤ w.heap.size + 1 from Nat.le_succ _)
  clear hw0 hs0 hw1 hX0 hX1 hb0 hb1
  obtain ⟨p0, p1, p2⟩ := three_cellsR HX0.out
  generalize w.heap.size + 1 = Hr at *
  go_upto_region 7 with (go_at_call 14; refine (HK.out _ HB1.out).mono ?_; rintro r w2 ⟨rfl, rfl⟩)
  have hX4 := Box.new w1 56 #[.pointer none, .int .i64 0, .int .i64 1, .int .i64 0, .bool true]
  have hb4 : Below w1.heap.size w1 (w1.alloc (.cells #[.pointer none, .int .i64 0, .int .i64 1, .int .i64 0, .bool true] 56)) := (Below.refl _ _).alloc (Nat.le_refl _) _
  generalize hw4 : w1.alloc (.cells #[.pointer none, .int .i64 0, .int .i64 1, .int .i64 0, .bool true] 56) = w4 at *
  have HB4 := Lib.hid (HB1.out.trans (hb4.mono HB1.out.size))
  have HX04 := Lib.hid (HX0.out.below hb4 HX0.out.lt)
  have HX14 := Lib.hid (HX1.out.below hb4 HX1.out.lt)
  clear hw4 hb4 p0 p1 p2
  obtain ⟨p0, p1, p2⟩ := three_cellsR HX04.out
  obtain ⟨x0, x1, x2, x3, x4⟩ := five_cellsR hX4
  clear hX4
  generalize w1.heap.size = Hd at *
  go_upto_region 8 with (go_at_call 25; refine (HVA.out _ HB4.out).mono ?_; rintro r w5 ⟨rfl, hb5⟩; have HB5 := Lib.hid (HB4.out.trans (hb5.mono HB4.out.size)); have HX5 := Lib.hid (HX14.out.below hb5 HX14.out.lt); clear hb5)
  have hb6 : Below w5.heap.size w5 (w5.alloc (.cells #[.int .i64 1, .int .u64 0, .int .i64 0, .slice none 0 0, .string ⟨#[]⟩] 33)) := (Below.refl _ _).alloc (Nat.le_refl _) _
  generalize hw6 : w5.alloc (.cells #[.int .i64 1, .int .u64 0, .int .i64 0, .slice none 0 0, .string ⟨#[]⟩] 33) = w6 at *
  have HB6 := Lib.hid (HB5.out.trans (hb6.mono HB5.out.size))
  have HX6 := Lib.hid (HX5.out.below hb6 HX5.out.lt)
  clear hw6 hb6
  obtain ⟨z0, z1, z2, z3, z4⟩ := five_cellsR HX6.out
  obtain ⟨f0, f1, f2, f3, f4⟩ := five_freeR HX6.out
  generalize w5.heap.size = Hx at *
  go_wp2_with (go_at_call 12; refine (HER.out _).mono ?_; rintro r w7 ⟨rfl, rfl⟩)
  refine ret_one Tryd.underlying33 Tryd.results9 (five_boxR HX6.out rfl _ _ _ _ _) (by kernel_rfl) (by rfl) rfl ?_
  exact ⟨rfl, ((((HB6.out.setCell HSR.out _).setCell HSR.out _).setCell HSR.out _).setCell HSR.out _).setCell HSR.out _⟩

/-! ### The examples -/
theorem ex15_right : rightV ⟨15, 624485, 0, [], []⟩ false = true := by decide
theorem ex15_put : putV ⟨15, 624485, 0, [], []⟩ false = [229, 142, 38] := by decide
theorem ex10_right : rightV ⟨10, 0, 0, [1, 2], []⟩ true = true := by decide
theorem ex10_put : putV ⟨10, 0, 0, [1, 2], []⟩ true = [2, 1, 2] := by decide
theorem ex10_take : takeW [2, 1, 2] 10 0 false (0, 0) = (⟨10, 0, 0, [1, 2], []⟩, (3, 0)) := by rfl

end Go.Proofs.YtpmndmbhkfbljaaDoor

namespace Go.Proofs.YtpmndmbhkfbljaaDoor
open Go Go.RowKit

theorem inI_zero : InI 0 := ⟨by omega, by omega⟩

set_option maxRecDepth 10000 in
set_option maxHeartbeats 3200000 in
theorem works14_any {w : World} (hF : Ft w) (hS : Sz w) : Calls Tryd.prog 7 #[] w fun r w' => r = .returned (.bool true) ∧ Below w.heap.size w w' := by
  have P1 := Lib.hid (show Calls Tryd.prog 16 #[.slice none 0 0, .agg #[.int .i64 15, .int .u64 624485, .int .i64 0, .slice none 0 0, .string ⟨#[]⟩], .bool false] w fun r w' => ∃ A c, r = .returned (.tuple #[.slice A 3 c, .int .i64 0]) ∧ Own w' w.heap.size (.slice A 3 c) [229, 142, 38] ∧ Below w.heap.size w w' from
    (putW_any (own_nil0 w) (Nat.le_refl _) hF hS ⟨⟨15, 624485, 0, [], []⟩, none, 0⟩ (fun h => absurd h (by decide)) (by decide) inI_zero (by decide) false (by decide)).mono fun r w' ⟨v', e, h, _⟩ => by
      have hL := h ex15_right
      rw [ex15_put, List.nil_append] at hL
      have hl := hL.1
      obtain ⟨A, c, rfl, -, -, -⟩ := own_slice hl
      exact ⟨A, c, e, hl, laid_nilR hL (Nat.le_refl _)⟩)
  have HF := Lib.hid hF
  have HS := Lib.hid hS
  have P2 := Lib.hid (fun W (hW : Below w.heap.size w W) (hh0 : Nat) (_ : hh0 < W.heap.size) (hr : Rd W W.heap.size (some ⟨hh0, 0, none⟩) [1, 2]) => (show Calls Tryd.prog 16 #[.slice none 0 0, .agg #[.int .i64 10, .int .u64 0, .int .i64 0, .slice (some ⟨hh0, 0, none⟩) 2 2, .string ⟨#[]⟩], .bool true] W fun r w' => ∃ A c, r = .returned (.tuple #[.slice A 3 c, .int .i64 0]) ∧ Own w' W.heap.size (.slice A 3 c) [2, 1, 2] ∧ Below W.heap.size W w' from
    (putW_any (own_nil0 W) (Nat.le_refl _) (hF.up hW) (hS.below hW hS.pos) ⟨⟨10, 0, 0, [1, 2], []⟩, some ⟨hh0, 0, none⟩, 2⟩ hr (show 0 < two64 by decide) inI_zero (show 2 ≤ 9223372036854775807 by decide) true (by decide)).mono fun r w' ⟨v', e, h, _⟩ => by
      have hL := h ex10_right
      rw [ex10_put, List.nil_append] at hL
      rw [show putWE (WLay.x ⟨⟨10, 0, 0, [1, 2], []⟩, some ⟨hh0, 0, none⟩, 2⟩) true = 0 from if_pos ex10_right] at e
      have hl := hL.1
      obtain ⟨A, c, rfl, -, -, -⟩ := own_slice hl
      exact ⟨A, c, e, hl, laid_nilR hL (Nat.le_refl _)⟩))
  have TK := Lib.hid (fun W g v (hC : CT W g v [2, 1, 2] (0, 0)) => (show Calls Tryd.prog 9 #[.pointer (some ⟨g, 0, none⟩), .agg #[.int .i64 0, .int .i64 10, .int .i64 0], .bool false] W fun r w' => ∃ A c, r = .returned (.agg #[.int .i64 10, .int .u64 0, .int .i64 0, .slice A 2 c, .string ⟨#[]⟩]) ∧ Own w' W.heap.size (.slice A 2 c) [1, 2] ∧ W.grownBy w' (some g) from
    (takeW_st hC (by decide) 0 10 0 false).mono fun r w' ⟨h1, h2, h3⟩ => by
      rw [ex10_take] at h1
      obtain ⟨A, c, e, ho⟩ := h1
      exact ⟨A, c, e, ho, h3⟩))
  have TN := Lib.hid (fun W (hW : Below w.heap.size w W) => takeW_nil (hF.up hW) (hS.below hW hS.pos))
  have KD := Lib.hid (fun W (hW : Below w.heap.size w W) => (show Calls Tryd.prog 14 #[.int .i64 24] W fun r w' => r = .returned (.int .i64 10) ∧ W = w' from kind_any (hF.up hW) 24))
  obtain ⟨s1, hs1⟩ : ∃ s : ByteArray, s = ⟨([229, 142, 38] : List UInt8).toArray⟩ := ⟨_, rfl⟩
  obtain ⟨s2, hs2⟩ : ∃ s : ByteArray, s = ⟨([2, 1, 2] : List UInt8).toArray⟩ := ⟨_, rfl⟩
  obtain ⟨s3, hs3⟩ : ∃ s : ByteArray, s = ⟨([1, 2] : List UInt8).toArray⟩ := ⟨_, rfl⟩
  have E1 := Lib.hid hs1
  have E2 := Lib.hid hs2
  have E3 := Lib.hid hs3
  have q1 : (s1.toList == [229, 142, 38]) = true := by rw [hs1, Lib.toList_data]; rfl
  have q2 : (s2.toList == [2, 1, 2]) = true := by rw [hs2, Lib.toList_data]; rfl
  have q3 : (s3.toList == [1, 2]) = true := by rw [hs3, Lib.toList_data]; rfl
  clear hF hS hs1 hs2 hs3
  go_enter Tryd.func7, Tryd.ntmps7
  go_upto_region 2 with (go_at_call 16; refine P1.out.mono ?_; rintro r w1 ⟨A1, c1, rfl, hO1, hb1⟩; have HO1 := Lib.hid hO1; have HB1 := Lib.hid hb1; clear hO1 hb1)
  have hb2 : Below w1.heap.size w1 (w1.alloc (.cells #[.int .u8 1, .int .u8 2] 5)) := (Below.refl _ _).alloc (Nat.le_refl _) _
  have HR2 := Lib.hid (show Rd (w1.alloc (.cells #[.int .u8 1, .int .u8 2] 5)) (w1.heap.size + 1) (some ⟨w1.heap.size, 0, none⟩) ([1, 2] : List UInt8) from rd_lit w1 [1, 2])
  have HZ2 := Lib.hid (show (w1.alloc (.cells #[.int .u8 1, .int .u8 2] 5)).heap.size = w1.heap.size + 1 by simp)
  have HB2 := Lib.hid (HB1.out.trans (hb2.mono HB1.out.size))
  have HO1' := Lib.hid (own_below HO1.out hb2)
  clear hb2
  go_upto_region 3 with (go_at_call 16; refine (P2.out _ HB2.out _ (by rw [HZ2.out]; omega) (by rw [HZ2.out]; exact HR2.out)).mono ?_; rintro r w3 ⟨A3, c3, rfl, hO3, hb3⟩; have HO3 := Lib.hid hO3; have HB3 := Lib.hid (HB2.out.trans (hb3.mono HB2.out.size)); have HO13 := Lib.hid (own_below HO1'.out hb3); clear hO3 hb3)
  have HN := Lib.hid (by
    obtain ⟨A, c, e, h1, -, h2⟩ := own_slice HO3.out
    have h3 := new_any (w := w3) c3 (A := A3) (l := [2, 1, 2]) (by injection e with e1; rw [e1]; exact h2) (Nat.le_refl _) (by decide)
    exact h3 : Calls Tryd.prog 8 #[.slice A3 3 c3] w3 fun r w' => ∃ g v, r = .returned (.pointer (some ⟨g, 0, none⟩)) ∧ Made w3.heap.size w' g v [2, 1, 2] 0 ∧ Below w3.heap.size w3 w')
  go_upto_region 4 with (first
    | (go_at_call 8; refine HN.out.mono ?_; rintro r w4 ⟨g, v, rfl, hM, hb4⟩; have HB4 := Lib.hid (HB3.out.trans (hb4.mono HB3.out.size)); have HC4 := Lib.hid (show CT w4 g v [2, 1, 2] (0, 0) from ⟨hM.1, HF.out.up HB4.out, HS.out.below HB4.out HS.out.pos⟩); have HO14 := Lib.hid (own_below HO13.out hb4); have HO34 := Lib.hid (own_below HO3.out hb4); have HGM := Lib.hid hM.2.1; have HS34 := Lib.hid hb4.size; clear hM hb4)
    | (go_at_call 9; refine (TK.out _ _ _ HC4.out).mono ?_; rintro r w5 ⟨A5, c5, rfl, hO5, hG5⟩; have hb5 : Below w3.heap.size w4 w5 := below_of_only hG5 HS34.out (fun x hx => by cases hx; exact HGM.out); have HB5 := Lib.hid (HB4.out.trans (hb5.mono HB3.out.size)); have HO5 := Lib.hid hO5; have HO15 := Lib.hid (own_pastR HO14.out HC4.out.c.1 (by decide) hG5); have HO35 := Lib.hid (own_pastR HO34.out HC4.out.c.1 (by decide) hG5); clear hO5 hG5 hb5))
  have hX6 := Box.new w5 33 #[.int .i64 10, .int .u64 0, .int .i64 0, .slice A5 2 c5, .string ⟨#[]⟩]
  have hb6 : Below w5.heap.size w5 (w5.alloc (.cells #[.int .i64 10, .int .u64 0, .int .i64 0, .slice A5 2 c5, .string ⟨#[]⟩] 33)) := (Below.refl _ _).alloc (Nat.le_refl _) _
  generalize hw6 : w5.alloc (.cells #[.int .i64 10, .int .u64 0, .int .i64 0, .slice A5 2 c5, .string ⟨#[]⟩] 33) = w6 at *
  have HB6 := Lib.hid (HB5.out.trans (hb6.mono HB5.out.size))
  have cv1 := conv_as E1.out (conv_own (own_below HO15.out hb6))
  have cv2 := conv_as E2.out (conv_own (own_below HO35.out hb6))
  have cv3 := conv_as E3.out (conv_own (own_below HO5.out hb6))
  clear hw6 hb6
  obtain ⟨x0, x1, x2, x3, x4⟩ := five_cellsR hX6
  generalize w5.heap.size = Hx at *
  have hfd : ∀ W : World, (Instr.field 33 (.agg #[.int .i64 0, .int .u64 0, .int .i64 0, .slice none 0 0, .string ⟨#[]⟩]) 0).run Tryd.prog W = .ok (.int .i64 0) W := fun W => by rfl
  go_wp2_with (first
    | (go_at_call 14; refine (KD.out _ HB6.out).mono ?_; rintro r w7 ⟨rfl, rfl⟩)
    | (go_at_call 9; refine (TN.out _ HB6.out).mono ?_; rintro r w8 ⟨rfl, hb8⟩; have HB8 := Lib.hid (HB6.out.trans (hb8.mono HB6.out.size)); clear hb8))
  go_ret
  exact ⟨rfl, HB8.out⟩

end Go.Proofs.YtpmndmbhkfbljaaDoor

namespace Go.Proofs.YtpmndmbhkfbljaaDoor
open Go Go.RowKit

/-- What came in as a value: its bytes lie, its numbers are numbers. -/
structure WLay.In (w : World) (y : WLay) : Prop where
  rd : Rd w w.heap.size y.a y.x.b
  u : y.x.u < two64
  s : InI y.x.s
  b : y.x.b.length ≤ 9223372036854775807
theorem WLay.In.up {w w' : World} {y : WLay} (h : y.In w) (hb : Below w.heap.size w w') : y.In w' := ⟨(h.rd.below hb).more hb.size, h.u, h.s, h.b⟩

end Go.Proofs.YtpmndmbhkfbljaaDoor
