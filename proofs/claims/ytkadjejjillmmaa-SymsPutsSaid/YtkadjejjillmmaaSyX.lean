/-
  SymsPuts' walk.
-/

import Derived.Test.YtkadjejjillmmaaSyV
import Derived.Test.YtkadjejjillmmaaSyT
import Derived.Deep.RegionHeldLaw
namespace Go.Proofs.Ytkadjejjillmmaa
open Go Go.RowKit

/-- A symbol's, a relocation's numbers are what their types may be. -/
structure Sym.Nums (s : Sym) : Prop where
  bind : InI s.bind
  kind : InI s.kind
  sect : InI s.sect
  value : s.value < two64
  size : s.size < two64
structure Rel.Nums (s : Rel) : Prop where
  off : s.off < two64
  sym : InI s.sym
  kind : InI s.kind
  add : InI s.add
theorem name_sum {L : List Sym} {x : Sym} (h : x ∈ L) : x.name.length ≤ sumN L := by
  obtain ⟨i, hi, e⟩ := List.getElem_of_mem h
  have h1 := sumN_next (L := L) (k := i) (x := x) (by rw [← e]; exact List.getElem?_eq_getElem hi)
  have h2 := sumN_take L (i + 1)
  omega

set_option maxRecDepth 20000 in
set_option maxHeartbeats 6400000 in
theorem yputs_walk (a0 : Option Addr) (c0 : Nat) (L : List Sym) (a1 : Option Addr) (c1 : Nat) (M : List Rel) (w : World) (hS : Syms w w.heap.size a0 L) (hN : ∀ x ∈ L, x.Nums) (hR : Rels w w.heap.size a1 M) (hN' : ∀ x ∈ M, x.Nums) :
    Calls Try.prog 4 #[.slice a0 L.length c0, .slice a1 M.length c1] w fun e w' => e = .returned (.bool true) ∧ Below w.heap.size w w' := by
  have HW := Lib.hid (fun (W : World) => yworks_any (w := W))
  have HBK := Lib.hid (ybulk_any hS c0)
  have HS := Lib.hid hS
  have HR := Lib.hid hR
  have HNS := Lib.hid hN
  have HNR := Lib.hid hN'
  obtain ⟨n, hn⟩ : ∃ n, L.length = n := ⟨_, rfl⟩
  obtain ⟨m, hm⟩ : ∃ m, M.length = m := ⟨_, rfl⟩
  have HNL := Lib.hid hn
  have HML := Lib.hid hm
  rw [hn] at HBK ⊢
  rw [hm]
  clear hS hR hn hm hN hN'
  go_enter Try.func4, Try.ntmps4
  go_wp2_with fail
  refine HBK.out.mono ?_
  rintro r w2 ⟨k, rfl, hk, q, rfl⟩
  have HB2 := Lib.hid (below_drewN (Below.refl w.heap.size w) q)
  clear HBK
  by_cases hbig : 2000 < k
  · have hd : decide ((2000 : Int) < k) = true := decide_eq_true hbig
    clear hk hbig
    go_wp2_with (go_at_call 6; refine (HW.out _).mono ?_; rintro r w3 ⟨rfl, hb3⟩; have HB3 := Lib.hid (HB2.out.trans (hb3.mono HB2.out.size)); clear hb3)
    go_ret
    exact ⟨rfl, HB3.out⟩
  · have hd : decide ((2000 : Int) < k) = false := decide_eq_false hbig
    have hs := hk (by omega)
    rw [← HNL.out] at hs
    by_cases hmb : 2000 < m
    · have hd2 : decide ((2000 : Int) < (m : Int)) = true := decide_eq_true (by omega)
      clear hk hbig hmb hs
      go_wp2_with (go_at_call 6; refine (HW.out _).mono ?_; rintro r w3 ⟨rfl, hb3⟩; have HB3 := Lib.hid (HB2.out.trans (hb3.mono HB2.out.size)); clear hb3)
      go_ret
      exact ⟨rfl, HB3.out⟩
    · have hd2 : decide ((2000 : Int) < (m : Int)) = false := decide_eq_false (by omega)
      have HM2 := Lib.hid (show M.length ≤ 100000 by rw [HML.out]; omega)
      have HSU := Lib.hid (show sumN L ≤ 50000 ∧ L.length ≤ 100000 by omega)
      have HSW := Lib.hid (fun W (hW : Below w.heap.size w W) => ((HS.out.below hW).more hW.size : Syms W W.heap.size a0 L))
      have HRW := Lib.hid (fun W (hW : Below w.heap.size w W) => ((HR.out.below hW).more hW.size : Rels W W.heap.size a1 M))
      have HNF := Lib.hid (fun x (hx : x ∈ L) => (⟨Nat.le_trans (name_sum hx) (Nat.le_trans HSU.out.1 (by decide)), (HNS.out x hx).value, (HNS.out x hx).size⟩ : x.name.length ≤ 100000 ∧ x.value < two64 ∧ x.size < two64))
      have HPU := Lib.hid (fun W (hW : Below w.heap.size w W) => yput_any (HSW.out W hW) c0 HSU.out.2 HSU.out.1)
      have HRP := Lib.hid (fun W (hW : Below w.heap.size w W) => ryput_any (HSW.out W hW) c0 HSU.out.2 HNF.out HSU.out.1)
      have HRT := Lib.hid (fun W (hW : Below w.heap.size w W) => yright_any (HSW.out W hW) c0 HSU.out.2)
      have HRR := Lib.hid (fun W (hW : Below w.heap.size w W) => ryright_any (HSW.out W hW) c0 HSU.out.2 (fun x hx => (HNF.out x hx).1))
      have HPR := Lib.hid (fun W (hW : Below w.heap.size w W) => yputr_any (HRW.out W hW) c1 HM2.out)
      have HRPR := Lib.hid (fun W (hW : Below w.heap.size w W) => ryputr_any (HRW.out W hW) c1 HM2.out (fun x hx => (HNR.out x hx).off))
      rw [HNL.out] at HPU HRP HRT HRR
      rw [HML.out] at HPR HRPR
      clear hk hbig hmb hs HS HR HSW HRW HNF HNS HNR
      generalize rightY L = rs at *
      generalize tabY L = tl at *
      generalize txtY L = xl at *
      generalize relB M m = rl at *
      generalize errOf rs 2 = ee at *
      go_wp2_with fail
      refine (HPU.out _ HB2.out).mono ?_
      rintro r w3 ⟨u3, v3, rfl, hu3, hv3, -, hb3⟩
      obtain ⟨A3, c3, rfl, _, _, _⟩ := own_slice hu3
      obtain ⟨A3', c3', rfl, _, _, _⟩ := own_slice hv3
      have HU3 := Lib.hid hu3
      have HV3 := Lib.hid hv3
      have HB3 := Lib.hid (HB2.out.trans (hb3.mono HB2.out.size))
      clear hu3 hv3 hb3 HPU
      go_wp2_with fail
      refine (HRP.out _ HB3.out).mono ?_
      rintro r w4 ⟨u4, v4, rfl, hu4, hv4, hb4⟩
      obtain ⟨A4, c4, rfl, _, _, _⟩ := own_slice hu4
      obtain ⟨A4', c4', rfl, _, _, _⟩ := own_slice hv4
      have HU4 := Lib.hid hu4
      have HV4 := Lib.hid hv4
      have HU34 := Lib.hid (own_below HU3.out hb4)
      have HV34 := Lib.hid (own_below HV3.out hb4)
      have HB4 := Lib.hid (HB3.out.trans (hb4.mono HB3.out.size))
      obtain ⟨st, hst⟩ : ∃ s : ByteArray, s = ⟨tl.toArray⟩ := ⟨_, rfl⟩
      obtain ⟨sx, hsx⟩ : ∃ s : ByteArray, s = ⟨xl.toArray⟩ := ⟨_, rfl⟩
      obtain ⟨sr, hsr⟩ : ∃ s : ByteArray, s = ⟨rl.toArray⟩ := ⟨_, rfl⟩
      have EM := Lib.hid hsr
      have KS := Lib.hid (fun W (hW : Below w4.heap.size w4 W) => (⟨hW, conv_as hst (conv_own (own_below HU34.out hW)), conv_as hst (conv_own (own_below HU4.out hW)), conv_as hsx (conv_own (own_below HV34.out hW)), conv_as hsx (conv_own (own_below HV4.out hW))⟩ :
        Below w4.heap.size w4 W ∧ (convert 22 9 (.slice A3 tl.length c3)).run Try.prog W = .ok (.string st) W ∧ (convert 22 9 (.slice A4 tl.length c4)).run Try.prog W = .ok (.string st) W ∧
        (convert 22 9 (.slice A3' xl.length c3')).run Try.prog W = .ok (.string sx) W ∧ (convert 22 9 (.slice A4' xl.length c4')).run Try.prog W = .ok (.string sx) W))
      have HUP := Lib.hid (fun W (hW : Below w4.heap.size w4 W) => HB4.out.trans (hW.mono HB4.out.size))
      have HRT4 := Lib.hid (fun W (hW : Below w4.heap.size w4 W) => (show Calls Try.prog 16 #[.slice a0 n c0] W (fun r w' => r = .returned (.bool rs) ∧ Below w4.heap.size w4 w') from (HRT.out W (HUP.out W hW)).mono fun r w' ⟨h1, h2⟩ => ⟨h1, hW.trans (h2.mono hW.size)⟩))
      have HRR4 := Lib.hid (fun W (hW : Below w4.heap.size w4 W) => (show Calls Try.prog 17 #[.slice a0 n c0] W (fun r w' => r = .returned (.bool rs) ∧ Below w4.heap.size w4 w') from (HRR.out W (HUP.out W hW)).mono fun r w' ⟨h1, h2⟩ => ⟨h1, hW.trans (h2.mono hW.size)⟩))
      have HPR4 := Lib.hid (fun W (hW : Below w4.heap.size w4 W) => (show Calls Try.prog 18 #[.slice a1 m c1] W (fun r w' => ∃ u, r = .returned u ∧ Own w' W.heap.size u rl ∧ Below W.heap.size W w' ∧ Below w4.heap.size w4 w') from (HPR.out W (HUP.out W hW)).mono fun r w' ⟨u, h1, h3, h2⟩ => ⟨u, h1, h3, h2, hW.trans (h2.mono hW.size)⟩))
      have HRPR4 := Lib.hid (fun W (hW : Below w4.heap.size w4 W) => (show Calls Try.prog 19 #[.slice a1 m c1] W (fun r w' => ∃ u, r = .returned u ∧ Own w' W.heap.size u rl ∧ Below W.heap.size W w' ∧ Below w4.heap.size w4 w') from (HRPR.out W (HUP.out W hW)).mono fun r w' ⟨u, h1, h3, h2⟩ => ⟨u, h1, h3, h2, hW.trans (h2.mono hW.size)⟩))
      have HW4 := Lib.hid (fun W (hW : Below w4.heap.size w4 W) => (show Calls Try.prog 6 #[] W (fun r w' => r = .returned (.bool true) ∧ Below w4.heap.size w4 w') from (HW.out W).mono fun r w' ⟨h1, h2⟩ => ⟨h1, hW.trans (h2.mono hW.size)⟩))
      have q1 : (rs == rs) = true := by simp
      have q2 : (st.toList == st.toList) = true := by simp
      have q3 : (sx.toList == sx.toList) = true := by simp
      have q4 : (sr.toList == sr.toList) = true := by simp
      have q5 : (ee == ee) = true := by simp
      clear hu4 hv4 hb4 HRP HU3 HV3 HU4 HV4 HU34 HV34 hst hsx hsr HRT HRR HPR HRPR HW HB2 HB3 HNL HML HM2 HSU hd hd2
      generalize tl.length = ntl at *
      generalize xl.length = nxl at *
      go_wp2_with fail
      go_region_held_law (fun W => Below w4.heap.size w4 W ∧ (convert 22 9 (.slice A3 ntl c3)).run Try.prog W = .ok (.string st) W ∧ (convert 22 9 (.slice A4 ntl c4)).run Try.prog W = .ok (.string st) W ∧
        (convert 22 9 (.slice A3' nxl c3')).run Try.prog W = .ok (.string sx) W ∧ (convert 22 9 (.slice A4' nxl c4')).run Try.prog W = .ok (.string sx) W)
        ((refine KS.out _ ?_; first | assumption | exact (Below.refl _ _).drew))
        (first
          | (go_at_call 16; refine (HRT4.out _ ((Below.refl _ _).drew)).mono ?_; rintro r w5 ⟨rfl, hb5⟩)
          | (go_at_call 17; refine (HRR4.out _ hb5).mono ?_; rintro r w6 ⟨rfl, hb6⟩; clear hb5)
          | (go_at_call 18; refine (HPR4.out _ hb6).mono ?_; rintro r w7 ⟨u7, rfl, ho7, hb7, hb7'⟩; have hc7 := conv_as EM.out (conv_own ho7); clear hb6)
          | (go_at_call 19; refine (HRPR4.out _ hb7').mono ?_; rintro r w8 ⟨u8, rfl, ho8, hb8, hb8'⟩; have hc8 := conv_as EM.out (conv_own ho8); have hc9 := conv_as EM.out (conv_own (own_below ho7 hb8)); clear hb7')
          | (go_at_call 6; refine (HW4.out _ hb8').mono ?_; rintro r w9 ⟨rfl, hb9⟩; clear hb8'))
      all_goals trace "WAY"
      all_goals go_wp2_with fail
      all_goals go_ret
      all_goals exact ⟨rfl, HUP.out _ (by first | assumption | exact below_drewN hb9 _)⟩

end Go.Proofs.Ytkadjejjillmmaa
