/-
  The walks of GroupTakes and GroupLeft.
-/
import Derived.Test.YtbpemehhbeejcaaGpU
import Derived.Test.YtbpemehhbeejcaaGpT
import Derived.Test.YtbpemehhbeejcaaGpR
import Derived.Test.YtbpemehhbeejcaaGpS
import Derived.Deep.DeepCutAuto
import Derived.Deep.LoopGhost
import Derived.Deep.RegionHeldLaw
namespace Go.Proofs.Ytbpemehhbeejcaa
open Go Go.RowKit

theorem grpL_bounds (S : List Sect) (Y : List Sym) (hS : S.length ≤ 6000) (hD : ∀ s ∈ S, s.data.length ≤ 6000) (hY : Y.length + sumN Y ≤ 6000) : (grpL S Y).length ≤ 6000 ∧ ∀ g ∈ grpL S Y, g.mem.length ≤ 6000 := by
  unfold grpL
  cases h : grpT S Y with
  | none => exact ⟨Nat.zero_le _, fun g hg => by cases hg⟩
  | some R =>
    obtain ⟨h1, h2⟩ := grpT_bounds h hS hD hY
    exact ⟨h1, fun g hg => (h2 g hg).2.1⟩

set_option maxRecDepth 20000 in
set_option maxHeartbeats 6400000 in
theorem gtakes_walk (o : ObjV) (p : Int) (one : Bool) (sb : ByteArray) (a : Option Addr) (M : List Int) (c : Nat) (w : World) (ho : o.In w w.heap.size) (hg : Row 1 memI w w.heap.size a M) :
    Calls Try.prog 3 #[o.val, .agg #[.int .i64 p, .bool one, .string sb, .slice a M.length c]] w fun e w' => e = .returned (.bool true) ∧ Below w.heap.size w w' := by
  have HW := Lib.hid (fun (W : World) => gworks_any (w := W))
  obtain ⟨kd, mc, aS, cS, L, aY, cY, Y, aR, cR, Q⟩ := o
  rw [show ObjV.val ⟨kd, mc, aS, cS, L, aY, cY, Y, aR, cR, Q⟩ = .agg #[.int .i64 kd, .int .i64 mc, .slice aS L.length cS, .slice aY Y.length cY, .slice aR Q.length cR] from rfl]
  obtain ⟨o, hoe⟩ : ∃ o : ObjV, o = ⟨kd, mc, aS, cS, L, aY, cY, Y, aR, cR, Q⟩ := ⟨_, rfl⟩
  rw [← hoe] at ho
  have hval : o.val = .agg #[.int .i64 kd, .int .i64 mc, .slice aS L.length cS, .slice aY Y.length cY, .slice aR Q.length cR] := by rw [hoe]; rfl
  have hcells : o.cells = [.int .i64 kd, .int .i64 mc, .slice aS L.length cS, .slice aY Y.length cY, .slice aR Q.length cR] := by rw [hoe]; rfl
  clear hoe
  generalize L.length = nS at *
  generalize Y.length = nY at *
  generalize Q.length = nR at *
  obtain ⟨wg, hwg⟩ : ∃ wg, (w.alloc (.cells #[.int .i64 kd, .int .i64 mc, .slice aS nS cS, .slice aY nY cY, .slice aR nR cR] 26)).alloc (.cells #[.int .i64 p, .bool one, .string sb, .slice a M.length c] 29) = wg := ⟨_, rfl⟩
  have hbo : Below w.heap.size w (w.alloc (.cells #[.int .i64 kd, .int .i64 mc, .slice aS nS cS, .slice aY nY cY, .slice aR nR cR] 26)) := (Below.refl _ _).alloc (Nat.le_refl _) _
  have hzo : (w.alloc (.cells #[.int .i64 kd, .int .i64 mc, .slice aS nS cS, .slice aY nY cY, .slice aR nR cR] 26)).heap.size = w.heap.size + 1 := by simp
  have hXo := Box.new w 26 #[.int .i64 kd, .int .i64 mc, .slice aS nS cS, .slice aY nY cY, .slice aR nR cR]
  have hXg := Box.new (w.alloc (.cells #[.int .i64 kd, .int .i64 mc, .slice aS nS cS, .slice aY nY cY, .slice aR nR cR] 26)) 29 #[.int .i64 p, .bool one, .string sb, .slice a M.length c]
  have hbg : Below (w.alloc (.cells #[.int .i64 kd, .int .i64 mc, .slice aS nS cS, .slice aY nY cY, .slice aR nR cR] 26)).heap.size (w.alloc (.cells #[.int .i64 kd, .int .i64 mc, .slice aS nS cS, .slice aY nY cY, .slice aR nR cR] 26)) wg := hwg ▸ (Below.refl _ _).alloc (Nat.le_refl _) _
  rw [hwg, hzo] at hXg
  have hXo2 := hXo.below hbg hXo.lt
  have HB0 := Lib.hid (hbo.trans (hbg.mono hbo.size))
  have KX := Lib.hid (fun W (hW : Below wg.heap.size wg W) => And.intro (five_cells (hXo2.below hW hXo2.lt)) (four_cells (hXg.below hW hXg.lt)))
  have HO := Lib.hid ho
  have HG := Lib.hid hg
  have HWG := Lib.hid hwg
  have hval2 := Lib.hid hval
  have hcel := Lib.hid hcells
  clear hwg hbo hzo hXo hXg hXo2 hbg ho hg hval hcells
  -- the literal of one object
  have hbl : Below wg.heap.size wg (wg.alloc (.cells #[.int .i64 kd, .int .i64 mc, .slice aS nS cS, .slice aY nY cY, .slice aR nR cR] 26)) := (Below.refl _ _).alloc (Nat.le_refl _) _
  have hrow := lit_row obj_cells wg 26 [o]
  rw [cellsF_one, hcel.out] at hrow
  have hzl : (wg.alloc (.cells #[.int .i64 kd, .int .i64 mc, .slice aS nS cS, .slice aY nY cY, .slice aR nR cR] 26)).heap.size = wg.heap.size + 1 := by simp
  have hobjs : ObjsIn (wg.alloc (.cells #[.int .i64 kd, .int .i64 mc, .slice aS nS cS, .slice aY nY cY, .slice aR nR cR] 26)) (wg.alloc (.cells #[.int .i64 kd, .int .i64 mc, .slice aS nS cS, .slice aY nY cY, .slice aR nR cR] 26)).heap.size (some ⟨wg.heap.size, 0, none⟩) [o] :=
    ⟨by rw [hzl]; exact hrow, fun o' ho' => by
      obtain rfl := List.mem_singleton.1 ho'
      exact (HO.out.below (HB0.out.trans (hbl.mono HB0.out.size))).more (Nat.le_trans HB0.out.size hbl.size)⟩
  have HGR := Lib.hid (great_any hobjs 1)
  have HBL := Lib.hid hbl
  clear hrow hzl hobjs hbl
  obtain ⟨⟨x0, x1, x2, x3, x4⟩, y0, y1, y2, y3⟩ := KX.out _ (Below.refl _ _)
  go_enter Try.func3, Try.ntmps3
  go_upto_region 1 with fail
  rw [HWG.out]
  clear HWG
  go_wp2_with fail
  refine HGR.out.mono ?_
  rintro r w2 ⟨b, rfl, hsm, hb2⟩
  have HGB := Lib.hid (HBL.out.trans (hb2.mono HBL.out.size))
  have HB2 := Lib.hid (HB0.out.trans (HGB.out.mono HB0.out.size))
  have HSM := Lib.hid hsm
  clear hb2 hsm x0 x1 x2 x3 x4 y0 y1 y2 y3 HGR
  obtain ⟨⟨x0, x1, x2, x3, x4⟩, y0, y1, y2, y3⟩ := KX.out _ HGB.out
  cases b with
  | true =>
    go_wp2_with (go_at_call 7; refine (HW.out _).mono ?_; rintro r w3 ⟨rfl, hb3⟩; have HB3 := Lib.hid (HB2.out.trans (hb3.mono HB2.out.size)); clear hb3)
    go_ret
    exact ⟨rfl, HB3.out⟩
  | false =>
    have hs := (HSM.out rfl).2 o (List.mem_singleton.2 rfl)
    by_cases hbig : 6000 < M.length
    · have hd : decide ((6000 : Int) < (M.length : Int)) = true := decide_eq_true (by omega)
      clear hbig
      go_wp2_with (go_at_call 7; refine (HW.out _).mono ?_; rintro r w3 ⟨rfl, hb3⟩; have HB3 := Lib.hid (HB2.out.trans (hb3.mono HB2.out.size)); clear hb3)
      go_ret
      exact ⟨rfl, HB3.out⟩
    · have hd : decide ((6000 : Int) < (M.length : Int)) = false := decide_eq_false (by omega)
      have hM6 : M.length ≤ 6000 := by omega
      clear hbig
      have HOK := Lib.hid (fun W (hW : Below w.heap.size w W) => (((HO.out.below hW).more hW.size).ok hs : o.Ok W W.heap.size))
      have HTK := Lib.hid (gtake_any (w := w2) o (HOK.out _ HB2.out) hs.S (fun x hx => (hs.s x hx).1) (by have := hs.Y; omega))
      have HRT := Lib.hid (fun W (hW : Below w.heap.size w W) => rgtake_any (w := W) o (HOK.out _ hW) hs.S (fun x hx => (hs.s x hx).1) (by have := hs.Y; omega))
      obtain ⟨hR6, hRm⟩ := grpL_bounds (secsOf o.L) o.Y (by simp [secsOf]; exact hs.S) (fun s hs' => by
        obtain ⟨x, hx, rfl⟩ := List.mem_map.1 hs'
        exact (hs.s x hx).1) hs.Y
      rw [hval2.out] at HTK HRT
      generalize grpE (secsOf o.L) o.Y = ee at *
      generalize grpL (secsOf o.L) o.Y = R at *
      have HRM := Lib.hid hRm
      have HBY := Lib.hid (fun W (hW : Below w.heap.size w W) => gbytes_any ((Row.below HG.out hW).more hW.size) c p one sb hM6)
      have HRBY := Lib.hid (fun W (hW : Below w.heap.size w W) => rgbytes_any ((Row.below HG.out hW).more hW.size) c p one sb hM6)
      clear hs HOK hRm HO
      generalize hml : M.length = ml at *
      go_wp2_with fail
      refine HTK.out.mono ?_
      rintro r w3 ⟨u3, rfl, hG3, hb3⟩
      obtain ⟨L3, A3, c3, rfl, -, -, hL3, hGr3⟩ := owng_grps hG3
      have HB3 := Lib.hid (HB2.out.trans (hb3.mono HB2.out.size))
      have HGB3 := Lib.hid (HGB.out.trans (hb3.mono HGB.out.size))
      have HG3 := Lib.hid hGr3
      have HL3 := Lib.hid hL3
      clear hG3 hb3 hGr3 hL3 HTK x0 x1 x2 x3 x4 y0 y1 y2 y3
      obtain ⟨⟨x0, x1, x2, x3, x4⟩, y0, y1, y2, y3⟩ := KX.out _ HGB3.out
      go_wp2_with fail
      refine (HRT.out _ HB3.out).mono ?_
      rintro r w4 ⟨u4, rfl, hG4, hb4⟩
      obtain ⟨L4, A4, c4, rfl, -, -, hL4, hGr4⟩ := owng_grps hG4
      have HB4 := Lib.hid (HB3.out.trans (hb4.mono HB3.out.size))
      have HGB4 := Lib.hid (HGB3.out.trans (hb4.mono HGB3.out.size))
      have HG4 := Lib.hid hGr4
      have HG34 := Lib.hid ((HG3.out.below hb4).more hb4.size)
      have hLe : L3.map (·.g) = L4.map (·.g) := HL3.out.trans hL4.symm
      have hl3 : L3.length ≤ 100000 := by have := congrArg List.length HL3.out; simp at this; omega
      have hm3 : ∀ x ∈ L3, x.g.mem.length ≤ 100000 := fun x hx => by
        have h1 : x.g ∈ R := by rw [← HL3.out]; exact List.mem_map_of_mem hx
        exact Nat.le_trans (HRM.out _ h1) (by decide)
      have HTD := Lib.hid (fun W (hW : Below w4.heap.size w4 W) => (told_any ((HG34.out.below hW).more hW.size) c3 hl3).mono (fun r w' hh => (by
        obtain ⟨A, cap, h1, h2, h3⟩ := hh
        exact ⟨A, cap, h1, h2, hW.trans (h3.mono hW.size)⟩ : ∃ A cap, r = .returned (.slice A L3.length cap) ∧ Grps w' w'.heap.size A L3 ∧ Below w4.heap.size w4 w')))
      have HSA := Lib.hid (fun W (hW : Below w4.heap.size w4 W) (A : Option Addr) (cap : Nat) (hA : Grps W W.heap.size A L3) => (rgsame_any hA ((HG4.out.below hW).more hW.size) cap c4 hLe hl3 hm3).mono (fun r w' hh => (⟨hh.1, hW.trans (hh.2.mono hW.size)⟩ : r = .returned (.bool true) ∧ Below w4.heap.size w4 w')))
      obtain ⟨st, hst⟩ : ∃ s : ByteArray, s = ⟨(bytesG one M).toArray⟩ := ⟨_, rfl⟩
      have HST := Lib.hid hst
      have HUP := Lib.hid (fun W (hW : Below w4.heap.size w4 W) => HB4.out.trans (hW.mono HB4.out.size))
      have HBY4 := Lib.hid (fun W (hW : Below w4.heap.size w4 W) => (HBY.out W (HUP.out W hW)).mono (fun r w' hh => (by
        obtain ⟨u, h1, h2, h3⟩ := hh
        exact ⟨u, h1, h2, h3, hW.trans (h3.mono hW.size)⟩ : ∃ u, r = .returned u ∧ Own w' W.heap.size u (bytesG one M) ∧ Below W.heap.size W w' ∧ Below w4.heap.size w4 w')))
      have HRBY4 := Lib.hid (fun W (hW : Below w4.heap.size w4 W) => (HRBY.out W (HUP.out W hW)).mono (fun r w' hh => (by
        obtain ⟨u, h1, h2, h3⟩ := hh
        exact ⟨u, h1, h2, h3, hW.trans (h3.mono hW.size)⟩ : ∃ u, r = .returned u ∧ Own w' W.heap.size u (bytesG one M) ∧ Below W.heap.size W w' ∧ Below w4.heap.size w4 w')))
      have HW4 := Lib.hid (fun W (hW : Below w4.heap.size w4 W) => (show Calls Try.prog 7 #[] W (fun r w' => r = .returned (.bool true) ∧ Below w4.heap.size w4 w') from (HW.out W).mono fun r w' ⟨h1, h2⟩ => ⟨h1, hW.trans (h2.mono hW.size)⟩))
      have q1 : (ee == ee) = true := by simp
      have q2 : (st.toList == st.toList) = true := by simp
      have hlen4 : L4.length = L3.length := map_length hLe
      rw [hlen4] at HSA ⊢
      have KY := Lib.hid (fun W (hW : Below w4.heap.size w4 W) => And.intro hW (KX.out W (HGB4.out.trans (hW.mono HGB4.out.size))).2)
      clear hG4 hb4 hGr4 hL4 hLe hl3 hm3 hst HRT HBY HRBY HW HB2 HB3 HGB HGB3 HG3 HG4 HG34 HL3 HRM x0 x1 x2 x3 x4 y0 y1 y2 y3 hlen4 hd hml hM6 hR6
      generalize L3.length = n3 at *
      obtain ⟨-, y0, y1, y2, y3⟩ := KY.out _ (Below.refl _ _)
      go_wp2_with fail
      go_region_held_law (fun W => Below w4.heap.size w4 W ∧ W.cell? ⟨w.heap.size + 1, 0, none⟩ = some (.int .i64 p) ∧ W.cell? ⟨w.heap.size + 1, 1, none⟩ = some (.bool one) ∧ W.cell? ⟨w.heap.size + 1, 2, none⟩ = some (.string sb) ∧ W.cell? ⟨w.heap.size + 1, 3, none⟩ = some (.slice a ml c))
        ((refine KY.out _ ?_; first | assumption | exact (Below.refl _ _).drew))
        (first
          | (go_at_call 11; refine (HTD.out _ ((Below.refl _ _).drew)).mono ?_; rintro r w5 ⟨A5, c5, rfl, hG5, hb5⟩; have HG5 := Lib.hid hG5; clear hG5)
          | (go_at_call 10; refine (HSA.out _ hb5 _ _ HG5.out).mono ?_; rintro r w6 ⟨rfl, hb6⟩; clear hb5)
          | (go_at_call 12; refine (HBY4.out _ hb6).mono ?_; rintro r w7 ⟨u7, rfl, ho7, hb7, hb7'⟩; have hc7 := conv_as HST.out (conv_own ho7); clear hb6)
          | (go_at_call 13; refine (HRBY4.out _ hb7').mono ?_; rintro r w8 ⟨u8, rfl, ho8, hb8, hb8'⟩; have hc8 := conv_as HST.out (conv_own ho8); have hc9 := conv_as HST.out (conv_own (own_below ho7 hb8)); clear hb7')
          | (go_at_call 7; refine (HW4.out _ hb8').mono ?_; rintro r w9 ⟨rfl, hb9⟩; clear hb8'))
      all_goals trace "WAY"
      all_goals go_wp2_with fail
      all_goals go_ret
      all_goals exact ⟨rfl, HUP.out _ (by first | assumption | exact below_drewN hb9 _)⟩

end Go.Proofs.Ytbpemehhbeejcaa
