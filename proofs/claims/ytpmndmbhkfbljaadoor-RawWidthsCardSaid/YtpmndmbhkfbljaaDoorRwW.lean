/-
  RawWidths' walk.
-/
import Derived.Test.YtpmndmbhkfbljaaDoorRwT
import Derived.Test.YtpmndmbhkfbljaaDoorRwV
namespace Go.Proofs.YtpmndmbhkfbljaaDoor
open Go Go.RowKit

/-- How far the region of the two Takes has come: with which cursors are made. -/
structure WB where
  t : TB
  m1 : Bool
  g1 : Nat
  v1 : Value
  m2 : Bool
  g2 : Nat
  v2 : Value
def WB.zero : WB := ⟨TB.zero, false, 0, .int .i64 0, false, 0, .int .i64 0⟩
structure WOk (B : Nat) (w0 : World) (x : RV) (P0 P1 : List UInt8) (b : WB) (W : World) : Prop where
  hb : Below w0.heap.size w0 W
  two : Two B x b.t W
  c1 : b.m1 = true → b.t.d1 = false → Cur W b.g1 b.v1 P0 0 0
  c2 : b.m2 = true → b.t.d2 = false → Cur W b.g2 b.v2 P1 0 0
  k1 : b.m1 = true → w0.heap.size ≤ b.g1
  k2 : b.m2 = true → w0.heap.size ≤ b.g2
def SW9 (h : Nat) (v3 v5 : Value) (x : RV) (b : WB) (i : Nat) (v : Value) (_ : World) : Prop :=
  match i with
  | 0 => v = v3
  | 1 => b.m1 = true ∧ v = .pointer (some ⟨b.g1, 0, none⟩)
  | 2 => v = .pointer (some ⟨h, 0, none⟩)
  | 3 => v = .int .i64 x.form
  | 4 => v = .pointer (some ⟨h, 2, none⟩)
  | 5 => v = .int .i64 x.s
  | 6 => v = .agg #[.int .i64 0, .int .i64 x.form, .int .i64 x.s]
  | 7 => b.t.d1 = true ∧ v = .agg (xcells x b.t.A1 b.t.c1)
  | 8 => v = v5
  | 9 => (b.m2 = true ∧ b.t.d1 = true) ∧ v = .pointer (some ⟨b.g2, 0, none⟩)
  | 10 => v = .pointer (some ⟨h, 0, none⟩)
  | 11 => v = .int .i64 x.form
  | 12 => v = .pointer (some ⟨h, 2, none⟩)
  | 13 => v = .int .i64 x.s
  | 14 => v = .agg #[.int .i64 0, .int .i64 x.form, .int .i64 x.s]
  | 15 => b.t.d2 = true ∧ v = .agg (xcells x b.t.A2 b.t.c2)
  | 16 => b.t.a1 = true ∧ v = .pointer (some ⟨b.t.h1, 0, none⟩)
  | 17 => b.t.a2 = true ∧ v = .pointer (some ⟨b.t.h2, 0, none⟩)
  | 18 => b.t.s1 = true
  | 19 => b.t.s2 = true
  | _ => True
def RW9 (b : WB) (i : Nat) : Prop := (i = 7 → b.t.d1 = false ∧ b.m2 = false) ∧ (i = 15 → b.t.d2 = false) ∧ (i = 16 → b.t.a1 = false) ∧ (i = 17 → b.t.a2 = false)

set_option maxRecDepth 10000 in
set_option maxHeartbeats 6400000 in
theorem rwidths14_walk (y : WLay) (w : World) (hF : Ft w) (hS : Sz w) (hy : y.In w) :
    Calls Tryd.prog 6 #[.agg #[.int .i64 y.x.form, .int .u64 (y.x.u : Int), .int .i64 y.x.s, .slice y.a y.x.b.length y.c, .string ⟨y.x.t.toArray⟩]] w fun r w' => r = .returned (.bool true) ∧ Below w.heap.size w w' := by
  have hA := (Below.refl w.heap.size w).alloc (Nat.le_refl _) (.cells #[.int .i64 y.x.form, .int .u64 (y.x.u : Int), .int .i64 y.x.s, .slice y.a y.x.b.length y.c, .string ⟨y.x.t.toArray⟩] 33)
  have hX0 := Box.new w 33 #[.int .i64 y.x.form, .int .u64 (y.x.u : Int), .int .i64 y.x.s, .slice y.a y.x.b.length y.c, .string ⟨y.x.t.toArray⟩]
  have HWK := Lib.hid (fun W (hW : Below w.heap.size w W) => works14_any (hF.up hW) (hS.below hW hS.pos))
  have HP := Lib.hid (fun W (wide : Bool) (hW : Below w.heap.size w W) => putW_any (v := .slice none 0 0) (l := []) (own_nil0 W) (Nat.le_refl _) (hF.up hW) (hS.below hW hS.pos) y (hy.up hW).rd hy.u hy.s hy.b wide (show 0 ≤ 140737488280000 by decide))
  have HPW := Lib.hid (fun W (wide : Bool) (hW : Below w.heap.size w W) => (show Calls Tryd.prog 16 #[.slice none 0 0, .agg #[.int .i64 y.x.form, .int .u64 (y.x.u : Int), .int .i64 y.x.s, .slice y.a y.x.b.length y.c, .string ⟨y.x.t.toArray⟩], .bool wide] W fun r w' => ∃ (v' : Value) (e : Int), r = .returned (.tuple #[v', .int .i64 e]) ∧ Below W.heap.size W w' from (HP.out W wide hW).mono fun r w' ⟨v', h1, h2, h3⟩ => ⟨v', _, h1, by
    cases hrr : rightV y.x wide with
    | true => exact laid_nilR (h2 hrr) (Nat.le_refl _)
    | false => exact (h3 hrr).2⟩))
  have HCT := Lib.hid (fun W g v l (hW : Below w.heap.size w W) (hC : Cur W g v l 0 0) => (⟨hC, hF.up hW, hS.below hW hS.pos⟩ : CT W g v l (0, 0)))
  have HTK := Lib.hid (fun W g v (wide : Bool) (hr : rightV y.x wide = true) (hC : CT W g v (putV y.x wide) (0, 0)) (hl : (putV y.x wide).length ≤ 140737488355328) => (by
    have := wtake_back (tl := []) (by rw [List.append_nil]; exact hC) (by rw [List.append_nil]; exact hl) hr hy.u hy.s
    rw [List.append_nil] at this
    exact this.mono fun r w' ⟨A, c, _, h1, h2, _, _, h5⟩ => ⟨A, c, h1, h2, h5⟩ :
    Calls Tryd.prog 9 #[.pointer (some ⟨g, 0, none⟩), .agg #[.int .i64 0, .int .i64 y.x.form, .int .i64 y.x.s], .bool wide] W fun r w' => ∃ A c, r = .returned (.agg (xcells y.x A c)) ∧ Own w' W.heap.size (.slice A y.x.b.length c) y.x.b ∧ W.grownBy w' (some g)))
  have HSM := Lib.hid (fun W (hW : Below w.heap.size w W) (A : Option Addr) (c : Nat) (h : Rd W W.heap.size A y.x.b) => (by
    have := sameV_any (w := W) ⟨y.x, A, c⟩ y h (hy.up hW).rd
    rwa [show sameV (WLay.x ⟨y.x, A, c⟩) y.x = true from sameV_self _] at this :
    Calls Tryd.prog 20 #[.agg (xcells y.x A c), .agg #[.int .i64 y.x.form, .int .u64 (y.x.u : Int), .int .i64 y.x.s, .slice y.a y.x.b.length y.c, .string ⟨y.x.t.toArray⟩]] W fun r w' => r = .returned (.bool true) ∧ Below W.heap.size W w'))
  have HKD := Lib.hid (fun W (hW : Below w.heap.size w W) => kind_any (hF.up hW) y.x.form)
  have HBB := Lib.hid hy.b
  have HU := Lib.hid hy.u
  have HSI := Lib.hid hy.s
  clear hF hS hy
  go_enter Tryd.func6, Tryd.ntmps6
  go_upto_region 1 with fail
  generalize hw0 : w.alloc (.cells #[.int .i64 y.x.form, .int .u64 (y.x.u : Int), .int .i64 y.x.s, .slice y.a y.x.b.length y.c, .string ⟨y.x.t.toArray⟩] 33) = w0 at *
  clear hw0
  have HA := Lib.hid hA
  have HX0 := Lib.hid hX0
  clear hA hX0
  go_upto_region 3 with (go_at_call 7; refine (HWK.out _ HA.out).mono ?_; rintro r w2 ⟨rfl, hb2⟩; have HB2 := Lib.hid (HA.out.trans (hb2.mono HA.out.size)); have HX2 := Lib.hid (HX0.out.below hb2 HX0.out.lt); clear hb2)
  obtain ⟨x0, x1, x2, x3, x4⟩ := five_cellsR HX2.out
  by_cases hb2 : 2000 < y.x.b.length
  · have d : decide ((2000 : Int) < (y.x.b.length : Int)) = true := decide_eq_true (by omega)
    clear hb2
    go_wp2_with fail
    go_ret
    exact ⟨rfl, HB2.out⟩
  have d : decide ((2000 : Int) < (y.x.b.length : Int)) = false := decide_eq_false (by omega)
  clear hb2
  obtain ⟨rr, hrr⟩ : ∃ rr, rightV y.x false = rr := ⟨_, rfl⟩
  have HRR := Lib.hid hrr
  have hpe : putWE y.x false = if rr = true then 0 else 2 := by rw [← hrr]; rfl
  have HP2 := Lib.hid (HP.out _ false HB2.out)
  simp only [hrr, hpe] at HP2
  clear hrr hpe
  cases rr with
  | false =>
    have HP3 := Lib.hid (show Calls Tryd.prog 16 #[.slice none 0 0, .agg #[.int .i64 y.x.form, .int .u64 (y.x.u : Int), .int .i64 y.x.s, .slice y.a y.x.b.length y.c, .string ⟨y.x.t.toArray⟩], .bool false] w2 fun r w' => r = .returned (.tuple #[.slice none 0 0, .int .i64 2]) ∧ Below w2.heap.size w2 w' from HP2.out.mono fun r w' ⟨v', h1, _, h3⟩ => by
      obtain ⟨rfl, hb⟩ := h3 (by first | rfl | trivial)
      exact ⟨h1, hb⟩)
    clear HP2
    go_upto_region 6 with (go_at_call 16; refine HP3.out.mono ?_; rintro r w3 ⟨rfl, hb3⟩; have HB3 := Lib.hid (HB2.out.trans (hb3.mono HB2.out.size)); have HX3 := Lib.hid (HX2.out.below hb3 HX2.out.lt); clear hb3)
    clear x0 x1 x2 x3 x4
    obtain ⟨x0, x1, x2, x3, x4⟩ := five_cellsR HX3.out
    go_wp2_with (go_at_call 16; refine (HPW.out _ true HB3.out).mono ?_; rintro r w4 ⟨v4, e4, rfl, hb4⟩; have HB4 := Lib.hid (HB3.out.trans (hb4.mono HB3.out.size)); clear hb4)
    go_ret
    exact ⟨rfl, HB4.out⟩
  | true =>
    obtain ⟨P0, hP0⟩ : ∃ P, putV y.x false = P := ⟨_, rfl⟩
    obtain ⟨P1, hP1⟩ : ∃ P, putV y.x true = P := ⟨_, rfl⟩
    have hoff : rightV y.x true = true ∧ P0.length ≤ 65600 ∧ P1.length ≤ 65600 ∧ ((offK (kindF y.x.form) ∧ P1.length = P0.length + 4) ∨ (¬ offK (kindF y.x.form) ∧ P1 = P0)) := by
      have hr := HRR.out
      obtain ⟨hk0, hb9, ht5⟩ := rightV_spec hr
      have l0 : P0.length ≤ 65600 := by rw [← hP0]; exact wholeV_len HU.out HSI.out hb9 ht5
      by_cases h : sizF y.x.form = -2
      · obtain ⟨r1, r2⟩ := right_off hr h
        rw [hP0, hP1] at r2
        obtain ⟨-, hb9', ht5'⟩ := rightV_spec r1
        exact ⟨r1, l0, by rw [← hP1]; exact wholeV_len HU.out HSI.out hb9' ht5', .inl ⟨(off_siz hk0).2 h, r2⟩⟩
      · have r1 := right_same h
        have r2 := put_same h
        rw [hP0, hP1] at r2
        exact ⟨r1.trans hr, l0, by rw [r2]; exact l0, .inr ⟨fun k => h ((off_siz hk0).1 k), r2⟩⟩
    obtain ⟨hr1, hl0, hl1, hoff⟩ := hoff
    have HL0 := Lib.hid hl0
    have HL1 := Lib.hid hl1
    have HOFF := Lib.hid hoff
    have HP3 := Lib.hid (show Calls Tryd.prog 16 #[.slice none 0 0, .agg #[.int .i64 y.x.form, .int .u64 (y.x.u : Int), .int .i64 y.x.s, .slice y.a y.x.b.length y.c, .string ⟨y.x.t.toArray⟩], .bool false] w2 fun r w' => ∃ A c, r = .returned (.tuple #[.slice A P0.length c, .int .i64 0]) ∧ Own w' w2.heap.size (.slice A P0.length c) P0 ∧ Below w2.heap.size w2 w' from HP2.out.mono fun r w' ⟨v', h1, h2, _⟩ => by
      have hL := h2 (by first | rfl | trivial)
      rw [hP0, List.nil_append] at hL
      have hl := hL.1
      obtain ⟨A, c, rfl, -, -, -⟩ := own_slice hl
      exact ⟨A, c, h1, hl, laid_nilR hL (Nat.le_refl _)⟩)
    have HP4 := Lib.hid (fun W (hW : Below w.heap.size w W) => (show Calls Tryd.prog 16 #[.slice none 0 0, .agg #[.int .i64 y.x.form, .int .u64 (y.x.u : Int), .int .i64 y.x.s, .slice y.a y.x.b.length y.c, .string ⟨y.x.t.toArray⟩], .bool true] W fun r w' => ∃ A c, r = .returned (.tuple #[.slice A P1.length c, .int .i64 0]) ∧ Own w' W.heap.size (.slice A P1.length c) P1 ∧ Below W.heap.size W w' from (HP.out W true hW).mono fun r w' ⟨v', h1, h2, _⟩ => by
      have hL := h2 hr1
      rw [hP1, List.nil_append] at hL
      have hl := hL.1
      rw [show putWE y.x true = 0 from if_pos hr1] at h1
      obtain ⟨A, c, rfl, -, -, -⟩ := own_slice hl
      exact ⟨A, c, h1, hl, laid_nilR hL (Nat.le_refl _)⟩))
    have HT0 := Lib.hid (fun W g v (hW : Below w.heap.size w W) (hC : Cur W g v P0 0 0) => (by
      have := HTK.out W g v false HRR.out (by rw [hP0]; exact HCT.out W g v P0 hW hC) (by rw [hP0]; omega)
      exact this : Calls Tryd.prog 9 #[.pointer (some ⟨g, 0, none⟩), .agg #[.int .i64 0, .int .i64 y.x.form, .int .i64 y.x.s], .bool false] W fun r w' => ∃ A c, r = .returned (.agg (xcells y.x A c)) ∧ Own w' W.heap.size (.slice A y.x.b.length c) y.x.b ∧ W.grownBy w' (some g)))
    have HT1 := Lib.hid (fun W g v (hW : Below w.heap.size w W) (hC : Cur W g v P1 0 0) => (by
      have := HTK.out W g v true hr1 (by rw [hP1]; exact HCT.out W g v P1 hW hC) (by rw [hP1]; omega)
      exact this : Calls Tryd.prog 9 #[.pointer (some ⟨g, 0, none⟩), .agg #[.int .i64 0, .int .i64 y.x.form, .int .i64 y.x.s], .bool true] W fun r w' => ∃ A c, r = .returned (.agg (xcells y.x A c)) ∧ Own w' W.heap.size (.slice A y.x.b.length c) y.x.b ∧ W.grownBy w' (some g)))
    clear HP HP2 HPW HTK HCT HRR hP0 hP1 hr1 hl0 hl1 hoff HU HSI
    go_upto_region 6 with (go_at_call 16; refine HP3.out.mono ?_; rintro r w3 ⟨A3, c3, rfl, hO3, hb3⟩; have HO3 := Lib.hid hO3; have HB3 := Lib.hid (HB2.out.trans (hb3.mono HB2.out.size)); have HX3 := Lib.hid (HX2.out.below hb3 HX2.out.lt); clear hO3 hb3)
    clear x0 x1 x2 x3 x4
    obtain ⟨x0, x1, x2, x3, x4⟩ := five_cellsR HX3.out
    go_upto_region 9 with (go_at_call 16; refine (HP4.out _ HB3.out).mono ?_; rintro r w5 ⟨A5, c5, rfl, hO5, hb5⟩; have HO5 := Lib.hid hO5; have HB35 := Lib.hid hb5; clear hO5 hb5)
    clear x0 x1 x2 x3 x4 d
    have HB5 := Lib.hid (HB3.out.trans (HB35.out.mono HB3.out.size))
    have HX5 := Lib.hid (HX3.out.below HB35.out HX3.out.lt)
    have HO35 := Lib.hid (own_below HO3.out HB35.out)
    have hrd3 : Rd w5 w5.heap.size A3 P0 := by
      obtain ⟨A', c', e, -, -, h⟩ := own_slice HO35.out
      injection e with e1
      rw [e1]; exact h
    have hrd5 : Rd w5 w5.heap.size A5 P1 := by
      obtain ⟨A', c', e, -, -, h⟩ := own_slice HO5.out
      injection e with e1
      rw [e1]; exact h
    have HN0 := Lib.hid (fun W (hW : Below w5.heap.size w5 W) => new_any (w := W) c3 (hrd3.below hW) hW.size (by have := HL0.out; omega))
    have HN1 := Lib.hid (fun W (hW : Below w5.heap.size w5 W) => new_any (w := W) c5 (hrd5.below hW) hW.size (by have := HL1.out; omega))
    have HKX := Lib.hid (fun W (hW : Below w5.heap.size w5 W) => five_cellsR (HX5.out.below hW HX5.out.lt))
    clear HP3 HP4 hrd3 hrd5
    obtain ⟨n0, hn0⟩ : ∃ n, P0.length = n := ⟨_, rfl⟩
    obtain ⟨n1, hn1⟩ : ∃ n, P1.length = n := ⟨_, rfl⟩
    have HE0 := Lib.hid hn0
    have HE1 := Lib.hid hn1
    rw [hn0] at HN0
    rw [hn1] at HN1
    rw [hn0, hn1]
    clear hn0 hn1
    refine region_ey 87 (SW9 w.heap.size (.slice A3 n0 c3) (.slice A5 n1 c5) y.x) (WOk w5.heap.size w5 y.x P0 P1) RW9 WB.zero (fun _ => ⟨fun _ => ⟨rfl, rfl⟩, fun _ => rfl, fun _ => rfl, fun _ => rfl⟩) (by kernel_rfl) rfl (by kernel_rfl) (by kernel_rfl) ⟨(Below.refl _ _).drew, Two.zero _ _ _, (fun h => by cases h), (fun h => by cases h), (fun h => by cases h), (fun h => by cases h)⟩ ?steps ?rest
    case steps =>
      intro i o ho b a X hN hk hg hRb hdep K hK
      have s1 : a.tmps[1]? = some (.pointer (some ⟨w.heap.size, 0, none⟩)) := slot_some hN (by decide) (kept_at hk (by kernel_rfl))
      have s3 : a.tmps[3]? = some (.slice A3 n0 c3) := slot_some hN (by decide) (kept_at hk (by kernel_rfl))
      have s5 : a.tmps[5]? = some (.slice A5 n1 c5) := slot_some hN (by decide) (kept_at hk (by kernel_rfl))
      have hBW := HB5.out.trans (hg.hb.mono HB5.out.size)
      rcases i with _ | _ | _ | _ | _ | _ | _ | _ | _ | _ | _ | _ | _ | _ | _ | _ | _ | _ | _ | _ | i
      · obtain rfl := Option.some.inj ho
        clear ho hk
        refine (if_pos (by rfl)).mpr ?_
        clear hN
        go_simp
        exact hK _ _ b hg rfl (fun _ _ _ _ h => h) (fun _ _ h => h)
      · obtain rfl := Option.some.inj ho
        clear ho hk
        refine (if_pos (by rfl)).mpr ?_
        have e0 := slot_some hN (by decide) (hdep { on := 0, ground := .data } (by simp) rfl)
        clear hN
        go_simp
        refine (HN0.out _ hg.hb).mono ?_
        rintro r w' ⟨g', v', rfl, hM, hb⟩
        refine hK _ _ { b with m1 := true, g1 := g', v1 := v' } ⟨hg.hb.trans (hb.mono hg.hb.size), hg.two.up hb, (fun _ _ => hM.1), (fun h1 h2 => (hg.c2 h1 h2).below hb), (fun _ => Nat.le_trans hg.hb.size hM.2.1), hg.k2⟩ ⟨rfl, rfl⟩ ?_ (fun j hj h => ⟨h.1, h.2.1, h.2.2.1, h.2.2.2⟩)
        intro j u hji hw h
        rcases j with _ | _ | _ | _ | _ | _ | _ | _ | _ | _ | _ | _ | _ | _ | _ | _ | _ | _ | _ | _ | j
        all_goals first | exact h | exact absurd rfl hji | exact trivial | exact absurd (hw.symm.trans (by kernel_rfl)) Bool.false_ne_true
      · obtain rfl := Option.some.inj ho
        clear ho hk
        refine (if_pos (by rfl)).mpr ?_
        clear hN
        go_simp
        exact hK _ _ b hg rfl (fun _ _ _ _ h => h) (fun _ _ h => h)
      · obtain rfl := Option.some.inj ho
        clear ho hk
        refine (if_pos (by rfl)).mpr ?_
        have e0 := slot_some hN (by decide) (hdep { on := 2, ground := .data } (by simp) rfl)
        obtain ⟨x0, x1, x2, x3, x4⟩ := HKX.out _ hg.hb
        clear hN
        go_simp
        exact hK _ _ b hg rfl (fun _ _ _ _ h => h) (fun _ _ h => h)
      · obtain rfl := Option.some.inj ho
        clear ho hk
        refine (if_pos (by rfl)).mpr ?_
        clear hN
        go_simp
        exact hK _ _ b hg rfl (fun _ _ _ _ h => h) (fun _ _ h => h)
      · obtain rfl := Option.some.inj ho
        clear ho hk
        refine (if_pos (by rfl)).mpr ?_
        have e0 := slot_some hN (by decide) (hdep { on := 4, ground := .data } (by simp) rfl)
        obtain ⟨x0, x1, x2, x3, x4⟩ := HKX.out _ hg.hb
        clear hN
        go_simp
        exact hK _ _ b hg rfl (fun _ _ _ _ h => h) (fun _ _ h => h)
      · obtain rfl := Option.some.inj ho
        clear ho hk
        refine (if_pos (by rfl)).mpr ?_
        have e0 := slot_some hN (by decide) (hdep { on := 3, ground := .data } (by simp) rfl)
        have e1 := slot_some hN (by decide) (hdep { on := 5, ground := .data } (by simp) rfl)
        clear hN
        go_simp
        exact hK _ _ b hg rfl (fun _ _ _ _ h => h) (fun _ _ h => h)
      · obtain rfl := Option.some.inj ho
        clear ho hk
        refine (if_pos (by rfl)).mpr ?_
        obtain ⟨hm, e0⟩ := hdep { on := 1, ground := .data } (by simp) rfl
        have e0 := slot_some hN (by decide) e0
        have e1 := slot_some hN (by decide) (hdep { on := 6, ground := .data } (by simp) rfl)
        have hd := hRb.1 rfl
        have hc := hg.c1 hm hd.1
        have hkg := hg.k1 hm
        clear hN
        go_simp
        refine (HT0.out _ _ _ hBW hc).mono ?_
        rintro r w' ⟨A', c', rfl, hO, hG⟩
        have hb' : Below w5.heap.size w5 w' := hg.hb.trans (below_of_only hG hg.hb.size (fun x hx => by cases hx; exact hkg))
        refine hK _ _ { b with t := { b.t with d1 := true, A1 := A', c1 := c' } } ⟨hb', (hg.two.far hc.1 (by decide) (by decide) hG).got1 hd.1 (own_base hO hg.hb.size), (fun _ h => by cases h), (fun h1 _ => by have h1' : b.m2 = true := h1; rw [hd.2] at h1'; cases h1'), hg.k1, hg.k2⟩ ⟨rfl, rfl⟩ ?_ (fun j hj h => ⟨fun e => absurd e hj, h.2.1, h.2.2.1, h.2.2.2⟩)
        intro j u hji hw h
        rcases j with _ | _ | _ | _ | _ | _ | _ | _ | _ | _ | _ | _ | _ | _ | _ | _ | _ | _ | _ | _ | j
        all_goals first | exact h | exact absurd rfl hji | exact trivial | exact absurd (hw.symm.trans (by kernel_rfl)) Bool.false_ne_true
      · obtain rfl := Option.some.inj ho
        clear ho hk
        refine (if_pos (by rfl)).mpr ?_
        clear hN
        go_simp
        exact hK _ _ b hg rfl (fun _ _ _ _ h => h) (fun _ _ h => h)
      · obtain rfl := Option.some.inj ho
        clear ho hk
        refine (if_pos (by rfl)).mpr ?_
        have e0 := slot_some hN (by decide) (hdep { on := 8, ground := .data } (by simp) rfl)
        obtain ⟨hd7, -⟩ := hdep { on := 7, ground := .chain } (by simp) rfl
        clear hN
        go_simp
        refine (HN1.out _ hg.hb).mono ?_
        rintro r w' ⟨g', v', rfl, hM, hb⟩
        refine hK _ _ { b with m2 := true, g2 := g', v2 := v' } ⟨hg.hb.trans (hb.mono hg.hb.size), hg.two.up hb, (fun h1 h2 => (hg.c1 h1 h2).below hb), (fun _ _ => hM.1), hg.k1, (fun _ => Nat.le_trans hg.hb.size hM.2.1)⟩ ⟨⟨rfl, hd7⟩, rfl⟩ ?_ (fun j hj h => ⟨fun e => absurd (h.1 e).1 (by rw [hd7]; exact Bool.noConfusion), h.2.1, h.2.2.1, h.2.2.2⟩)
        intro j u hji hw h
        rcases j with _ | _ | _ | _ | _ | _ | _ | _ | _ | _ | _ | _ | _ | _ | _ | _ | _ | _ | _ | _ | j
        all_goals first | exact h | exact absurd rfl hji | exact trivial | exact absurd (hw.symm.trans (by kernel_rfl)) Bool.false_ne_true
      · obtain rfl := Option.some.inj ho
        clear ho hk
        refine (if_pos (by rfl)).mpr ?_
        clear hN
        go_simp
        exact hK _ _ b hg rfl (fun _ _ _ _ h => h) (fun _ _ h => h)
      · obtain rfl := Option.some.inj ho
        clear ho hk
        refine (if_pos (by rfl)).mpr ?_
        have e0 := slot_some hN (by decide) (hdep { on := 10, ground := .data } (by simp) rfl)
        obtain ⟨x0, x1, x2, x3, x4⟩ := HKX.out _ hg.hb
        clear hN
        go_simp
        exact hK _ _ b hg rfl (fun _ _ _ _ h => h) (fun _ _ h => h)
      · obtain rfl := Option.some.inj ho
        clear ho hk
        refine (if_pos (by rfl)).mpr ?_
        clear hN
        go_simp
        exact hK _ _ b hg rfl (fun _ _ _ _ h => h) (fun _ _ h => h)
      · obtain rfl := Option.some.inj ho
        clear ho hk
        refine (if_pos (by rfl)).mpr ?_
        have e0 := slot_some hN (by decide) (hdep { on := 12, ground := .data } (by simp) rfl)
        obtain ⟨x0, x1, x2, x3, x4⟩ := HKX.out _ hg.hb
        clear hN
        go_simp
        exact hK _ _ b hg rfl (fun _ _ _ _ h => h) (fun _ _ h => h)
      · obtain rfl := Option.some.inj ho
        clear ho hk
        refine (if_pos (by rfl)).mpr ?_
        have e0 := slot_some hN (by decide) (hdep { on := 11, ground := .data } (by simp) rfl)
        have e1 := slot_some hN (by decide) (hdep { on := 13, ground := .data } (by simp) rfl)
        clear hN
        go_simp
        exact hK _ _ b hg rfl (fun _ _ _ _ h => h) (fun _ _ h => h)
      · obtain rfl := Option.some.inj ho
        clear ho hk
        refine (if_pos (by rfl)).mpr ?_
        obtain ⟨hm, e0⟩ := hdep { on := 9, ground := .data } (by simp) rfl
        have e0 := slot_some hN (by decide) e0
        have e1 := slot_some hN (by decide) (hdep { on := 14, ground := .data } (by simp) rfl)
        have hd := hRb.2.1 rfl
        have hc := hg.c2 hm.1 hd
        have hkg := hg.k2 hm.1
        clear hN
        go_simp
        refine (HT1.out _ _ _ hBW hc).mono ?_
        rintro r w' ⟨A', c', rfl, hO, hG⟩
        have hb' : Below w5.heap.size w5 w' := hg.hb.trans (below_of_only hG hg.hb.size (fun x hx => by cases hx; exact hkg))
        refine hK _ _ { b with t := { b.t with d2 := true, A2 := A', c2 := c' } } ⟨hb', (hg.two.far hc.1 (by decide) (by decide) hG).got2 hd (own_base hO hg.hb.size), (fun _ h2 => by have h2' : b.t.d1 = false := h2; rw [hm.2] at h2'; cases h2'), (fun _ h => by cases h), hg.k1, hg.k2⟩ ⟨rfl, rfl⟩ ?_ (fun j hj h => ⟨h.1, fun e => absurd e hj, h.2.2.1, h.2.2.2⟩)
        intro j u hji hw h
        rcases j with _ | _ | _ | _ | _ | _ | _ | _ | _ | _ | _ | _ | _ | _ | _ | _ | _ | _ | _ | _ | j
        all_goals first | exact h | exact absurd rfl hji | exact trivial | exact absurd (hw.symm.trans (by kernel_rfl)) Bool.false_ne_true
      · obtain rfl := Option.some.inj ho
        clear ho hk
        refine (if_pos (by rfl)).mpr ?_
        have ha := hRb.2.2.1 rfl
        go_simp
        have hb : Below X.heap.size X (X.alloc (.cells zcells 33)) := (Below.refl _ _).alloc (Nat.le_refl _) _
        refine hK _ _ { b with t := { b.t with a1 := true, h1 := X.heap.size } } ⟨hg.hb.trans (hb.mono hg.hb.size), hg.two.new1 ha hg.hb.size, (fun h1 h2 => (hg.c1 h1 h2).below hb), (fun h1 h2 => (hg.c2 h1 h2).below hb), hg.k1, hg.k2⟩ ⟨rfl, rfl⟩ ?_ (fun j hj h => ⟨h.1, h.2.1, fun e => absurd e hj, h.2.2.2⟩)
        intro j u hji hw h
        rcases j with _ | _ | _ | _ | _ | _ | _ | _ | _ | _ | _ | _ | _ | _ | _ | _ | _ | _ | _ | _ | j
        all_goals first | exact h | exact absurd rfl hji | exact trivial | exact absurd (hw.symm.trans (by kernel_rfl)) Bool.false_ne_true
      · obtain rfl := Option.some.inj ho
        clear ho hk
        refine (if_pos (by rfl)).mpr ?_
        have ha := hRb.2.2.2 rfl
        go_simp
        have hb : Below X.heap.size X (X.alloc (.cells zcells 33)) := (Below.refl _ _).alloc (Nat.le_refl _) _
        refine hK _ _ { b with t := { b.t with a2 := true, h2 := X.heap.size } } ⟨hg.hb.trans (hb.mono hg.hb.size), hg.two.new2 ha hg.hb.size, (fun h1 h2 => (hg.c1 h1 h2).below hb), (fun h1 h2 => (hg.c2 h1 h2).below hb), hg.k1, hg.k2⟩ ⟨rfl, rfl⟩ ?_ (fun j hj h => ⟨h.1, h.2.1, h.2.2.1, fun e => absurd e hj⟩)
        intro j u hji hw h
        rcases j with _ | _ | _ | _ | _ | _ | _ | _ | _ | _ | _ | _ | _ | _ | _ | _ | _ | _ | _ | _ | j
        all_goals first | exact h | exact absurd rfl hji | exact trivial | exact absurd (hw.symm.trans (by kernel_rfl)) Bool.false_ne_true
      · obtain rfl := Option.some.inj ho
        clear ho hk
        refine (if_pos (by rfl)).mpr ?_
        obtain ⟨ha, e0⟩ := hdep { on := 16, ground := .data } (by simp) rfl
        obtain ⟨hd, e1⟩ := hdep { on := 7, ground := .data } (by simp) rfl
        have e0 := slot_some hN (by decide) e0
        have e1 := slot_some hN (by decide) e1
        obtain ⟨hB, hX⟩ := hg.two.x1 ha
        obtain ⟨⟨_, v0⟩, ⟨_, v1⟩, ⟨_, v2⟩, ⟨_, v3⟩, ⟨_, v4⟩⟩ := stored_cells hX
        obtain ⟨f0, f1, f2, f3, f4⟩ := five_freeR hX
        have hput := hg.two.put1 ha hd
        have hG := set5_only X b.t.h1 y.x b.t.A1 b.t.c1
        have hfar : ∀ g v l, Cur X g v l 0 0 → Cur (set5 X b.t.h1 y.x b.t.A1 b.t.c1) g v l 0 0 := fun g v l h => h.grown hG (fun e => h.1.other hX (by decide) (Option.some.inj e)) (.inr (own_other h.2.1 hX (by decide)))
        have hb' : Below w5.heap.size w5 (set5 X b.t.h1 y.x b.t.A1 b.t.c1) := hg.hb.trans (below_of_only hG hg.hb.size (fun x hx => by cases hx; exact hB))
        clear hN
        go_simp
        refine hK undef _ { b with t := { b.t with s1 := true } } ⟨hb', hput, (fun h1 h2 => hfar _ _ _ (hg.c1 h1 h2)), (fun h1 h2 => hfar _ _ _ (hg.c2 h1 h2)), hg.k1, hg.k2⟩ rfl ?_ (fun _ _ h => h)
        intro j u hji hw h
        rcases j with _ | _ | _ | _ | _ | _ | _ | _ | _ | _ | _ | _ | _ | _ | _ | _ | _ | _ | _ | _ | j
        all_goals first | exact h | exact absurd rfl hji | exact trivial | exact absurd (hw.symm.trans (by kernel_rfl)) Bool.false_ne_true
      · obtain rfl := Option.some.inj ho
        clear ho hk
        refine (if_pos (by rfl)).mpr ?_
        obtain ⟨ha, e0⟩ := hdep { on := 17, ground := .data } (by simp) rfl
        obtain ⟨hd, e1⟩ := hdep { on := 15, ground := .data } (by simp) rfl
        have e0 := slot_some hN (by decide) e0
        have e1 := slot_some hN (by decide) e1
        obtain ⟨hB, hX⟩ := hg.two.x2 ha
        obtain ⟨⟨_, v0⟩, ⟨_, v1⟩, ⟨_, v2⟩, ⟨_, v3⟩, ⟨_, v4⟩⟩ := stored_cells hX
        obtain ⟨f0, f1, f2, f3, f4⟩ := five_freeR hX
        have hput := hg.two.put2 ha hd
        have hG := set5_only X b.t.h2 y.x b.t.A2 b.t.c2
        have hfar : ∀ g v l, Cur X g v l 0 0 → Cur (set5 X b.t.h2 y.x b.t.A2 b.t.c2) g v l 0 0 := fun g v l h => h.grown hG (fun e => h.1.other hX (by decide) (Option.some.inj e)) (.inr (own_other h.2.1 hX (by decide)))
        have hb' : Below w5.heap.size w5 (set5 X b.t.h2 y.x b.t.A2 b.t.c2) := hg.hb.trans (below_of_only hG hg.hb.size (fun x hx => by cases hx; exact hB))
        clear hN
        go_simp
        refine hK undef _ { b with t := { b.t with s2 := true } } ⟨hb', hput, (fun h1 h2 => hfar _ _ _ (hg.c1 h1 h2)), (fun h1 h2 => hfar _ _ _ (hg.c2 h1 h2)), hg.k1, hg.k2⟩ rfl ?_ (fun _ _ h => h)
        intro j u hji hw h
        rcases j with _ | _ | _ | _ | _ | _ | _ | _ | _ | _ | _ | _ | _ | _ | _ | _ | _ | _ | _ | _ | j
        all_goals first | exact h | exact absurd rfl hji | exact trivial | exact absurd (hw.symm.trans (by kernel_rfl)) Bool.false_ne_true
      · exact absurd ho (by simp)
    case rest =>
      intro b a X hN hdf hk hg hall
      obtain ⟨hd1, -⟩ := hall 7 (by decide)
      obtain ⟨hd2, -⟩ := hall 15 (by decide)
      obtain ⟨ha1, e7⟩ := hall 16 (by decide)
      obtain ⟨ha2, e8⟩ := hall 17 (by decide)
      have hs1 : b.t.s1 = true := hall 18 (by decide)
      have hs2 : b.t.s2 = true := hall 19 (by decide)
      have hx1 := (hg.two.x1 ha1).2
      have hx2 := (hg.two.x2 ha2).2
      rw [hs1] at hx1
      rw [hs2] at hx2
      have HBX := Lib.hid hg.hb
      have HX1 := Lib.hid (show Box X b.t.h1 33 (xcells y.x b.t.A1 b.t.c1) from hx1)
      have HX2 := Lib.hid (show Box X b.t.h2 33 (xcells y.x b.t.A2 b.t.c2) from hx2)
      have HO1 := Lib.hid (hg.two.o1 hd1)
      have HO2 := Lib.hid (hg.two.o2 hd2)
      rw [act_eq [31, 32, 33, 34, 35, 36, 37, 38, 39, 40, 41, 42, 43, 44, 45, 46, 7, 8] hN rfl hdf hk (by kernel_rfl)]
      obtain ⟨F, hF⟩ : ∃ F : Tmp → Value, F = fun t => a.tmps.getD t undef := ⟨_, rfl⟩
      have e7 : F 7 = .pointer (some ⟨b.t.h1, 0, none⟩) := by rw [hF]; exact e7
      have e8 : F 8 = .pointer (some ⟨b.t.h2, 0, none⟩) := by rw [hF]; exact e8
      rw [← hF]
      clear hF hk hall hN hdf hg hx1 hx2 hd1 hd2 ha1 ha2 hs1 hs2 HT0 HT1 HN0 HN1
      simp only [laySlots, List.setIfInBounds_toArray, List.set_cons_succ, List.set_cons_zero]
      rw [e7, e8]
      clear e7 e8
      generalize b.t.h1 = h1 at *
      generalize b.t.h2 = h2 at *
      generalize b.t.A1 = A1 at *
      generalize b.t.A2 = A2 at *
      generalize b.t.c1 = c1 at *
      generalize b.t.c2 = c2 at *
      refine ‹∀ (a : Act) (w : World), Code.wp Tryd.prog _ _ a w → _› _ _ ?_
      have HB := Lib.hid (HB5.out.trans (HBX.out.mono HB5.out.size))
      have hr1 : Rd X X.heap.size A1 y.x.b := by obtain ⟨A', c', e, -, -, h⟩ := own_slice HO1.out; injection e with e1; rw [e1]; exact h
      have hr2 : Rd X X.heap.size A2 y.x.b := by obtain ⟨A', c', e, -, -, h⟩ := own_slice HO2.out; injection e with e1; rw [e1]; exact h
      have HS1 := Lib.hid (show Calls Tryd.prog 20 #[.agg #[.int .i64 y.x.form, .int .u64 (y.x.u : Int), .int .i64 y.x.s, .slice A1 y.x.b.length c1, .string ⟨y.x.t.toArray⟩], .agg #[.int .i64 y.x.form, .int .u64 (y.x.u : Int), .int .i64 y.x.s, .slice y.a y.x.b.length y.c, .string ⟨y.x.t.toArray⟩]] X fun r w' => r = .returned (.bool true) ∧ Below X.heap.size X w' from HSM.out X HB.out A1 c1 hr1)
      have HS2 := Lib.hid (fun W (hW : Below X.heap.size X W) => (show Calls Tryd.prog 20 #[.agg #[.int .i64 y.x.form, .int .u64 (y.x.u : Int), .int .i64 y.x.s, .slice A2 y.x.b.length c2, .string ⟨y.x.t.toArray⟩], .agg #[.int .i64 y.x.form, .int .u64 (y.x.u : Int), .int .i64 y.x.s, .slice y.a y.x.b.length y.c, .string ⟨y.x.t.toArray⟩]] W fun r w' => r = .returned (.bool true) ∧ Below W.heap.size W w' from HSM.out W (HB.out.trans (hW.mono HB.out.size)) A2 c2 ((hr2.below hW).more hW.size)))
      have HK := Lib.hid (HKD.out X HB.out)
      have cva := Lib.hid (fun W (hW : Below X.heap.size X W) => (by have := conv_own (own_below HO35.out (HBX.out.trans (hW.mono HBX.out.size))); rwa [HE0.out] at this : (convert 22 9 (.slice A3 n0 c3)).run Tryd.prog W = .ok (.string ⟨P0.toArray⟩) W))
      have cvb := Lib.hid (fun W (hW : Below X.heap.size X W) => (by have := conv_own (own_below HO5.out (HBX.out.trans (hW.mono HBX.out.size))); rwa [HE1.out] at this : (convert 22 9 (.slice A5 n1 c5)).run Tryd.prog W = .ok (.string ⟨P1.toArray⟩) W))
      have KX := Lib.hid (fun W (hW : Below X.heap.size X W) => And.intro (HKX.out W (HBX.out.trans (hW.mono HBX.out.size))) (five_cellsR (HX2.out.below hW HX2.out.lt)))
      obtain ⟨x0, x1, x2, x3, x4⟩ := HKX.out _ HBX.out
      obtain ⟨p0, p1, p2, p3, p4⟩ := five_cellsR HX1.out
      clear HSM HKD HO1 HO2 hr1 hr2 HX1 HX2 HKX HWK HBB HX0 HX3 HX5 HO3 HB2 HB3 HA
      have HOF := HOFF
      generalize kindF y.x.form = k at *
      generalize y.x.form = f at *
      generalize y.x.u = u at *
      generalize y.x.s = s at *
      generalize y.x.b.length = bn at *
      generalize (ByteArray.mk y.x.t.toArray) = ts at *
      generalize y.a = ya at *
      generalize y.c = yc at *
      have hn0 : n0 ≤ 65600 := by have := HL0.out; have := HE0.out; omega
      rcases HOF.out with ⟨hk, hlen⟩ | ⟨hk, hpp⟩
      · have hn1 : n1 = n0 + 4 := by have := HE0.out; have := HE1.out; omega
        subst hn1
        have hw : IntKind.i64.wrap ((n0 : Int) + 4) = (n0 : Int) + 4 := IntWalk.i64_in _ (by omega)
        clear HOFF HOF hlen
        rcases hk with rfl | rfl | rfl | rfl
        all_goals
          go_upto_region 12 with (go_at_call 14; refine HK.out.mono ?_; rintro r w9 ⟨rfl, rfl⟩)
          go_upto_region 17 with fail
          go_wp2_with fail
          refine HS1.out.mono ?_
          rintro r w11 ⟨rfl, hb11⟩
          have HB11 := Lib.hid hb11
          obtain ⟨⟨y0, y1, y2, y3, y4⟩, q0, q1, q2, q3, q4⟩ := KX.out _ hb11
          clear hb11 x0 x1 x2 x3 x4 p0 p1 p2 p3 p4
          go_wp2_with fail
          refine (HS2.out _ HB11.out).mono ?_
          rintro r w12 ⟨rfl, hb12⟩
          have HB12 := Lib.hid (HB11.out.trans (hb12.mono HB11.out.size))
          have cv1 := cva.out _ HB12.out
          have cv2 := cvb.out _ HB12.out
          clear hb12
          go_wp2_with fail
          go_ret
          exact ⟨rfl, HB.out.trans (HB12.out.mono HB.out.size)⟩
      · subst hpp
        have hn1 : n1 = n0 := HE1.out.symm.trans HE0.out
        subst hn1
        obtain ⟨st, hst⟩ : ∃ s : ByteArray, s = ⟨P1.toArray⟩ := ⟨_, rfl⟩
        simp only [← hst] at cva cvb
        have hw : IntKind.i64.wrap ((n1 : Int) + 0) = (n1 : Int) := IntWalk.i64_in _ (by omega)
        have hw' : IntKind.i64.wrap (n1 : Int) = (n1 : Int) := IntWalk.i64_in _ (by omega)
        have k6 : (k == 6) = false := by simpa using fun e : k = 6 => hk (.inl e)
        have k7 : (k == 7) = false := by simpa using fun e : k = 7 => hk (.inr (.inl e))
        have k12 : (k == 12) = false := by simpa using fun e : k = 12 => hk (.inr (.inr (.inl e)))
        have k14 : (k == 14) = false := by simpa using fun e : k = 14 => hk (.inr (.inr (.inr e)))
        clear HOFF HOF hk hst
        go_upto_region 12 with (go_at_call 14; refine HK.out.mono ?_; rintro r w9 ⟨rfl, rfl⟩)
        go_upto_region 17 with fail
        go_wp2_with fail
        refine HS1.out.mono ?_
        rintro r w11 ⟨rfl, hb11⟩
        have HB11 := Lib.hid hb11
        obtain ⟨⟨y0, y1, y2, y3, y4⟩, q0, q1, q2, q3, q4⟩ := KX.out _ hb11
        clear hb11 x0 x1 x2 x3 x4 p0 p1 p2 p3 p4
        go_wp2_with fail
        refine (HS2.out _ HB11.out).mono ?_
        rintro r w12 ⟨rfl, hb12⟩
        have HB12 := Lib.hid (HB11.out.trans (hb12.mono HB11.out.size))
        have cv1 := cva.out _ HB12.out
        have cv2 := cvb.out _ HB12.out
        clear hb12
        go_wp2_with fail
        go_ret
        exact ⟨rfl, HB.out.trans (HB12.out.mono HB.out.size)⟩

end Go.Proofs.YtpmndmbhkfbljaaDoor
