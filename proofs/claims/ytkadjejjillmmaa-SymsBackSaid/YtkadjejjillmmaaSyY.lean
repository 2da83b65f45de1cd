/-
  SymsBack's walk.
-/

import Derived.Test.YtkadjejjillmmaaSyK
import Derived.Test.YtkadjejjillmmaaSyX
import Derived.Test.YtkadjejjillmmaaParts
namespace Go.Proofs.Ytkadjejjillmmaa
open Go Go.RowKit

set_option maxRecDepth 20000 in
set_option maxHeartbeats 6400000 in
theorem yback_walk (a0 : Option Addr) (c0 : Nat) (L : List Sym) (a1 : Option Addr) (c1 : Nat) (M : List Rel) (a2 : Option Addr) (len2 cap2 : Nat) (z2 : List Int) (w : World) (hS : Syms w w.heap.size a0 L) (hN : ∀ x ∈ L, x.Nums) (hR : Rels w w.heap.size a1 M) (hN' : ∀ x ∈ M, x.Nums) (w2 : IsRow .u8 w a2 len2 cap2 z2) :
    Calls Try.prog 5 #[.slice a0 L.length c0, .slice a1 M.length c1, .slice a2 len2 cap2] w fun e w' => e = .returned (.bool true) ∧ Below w.heap.size w w' := by
  obtain ⟨i0, hi, hz0, hz1, hz2⟩ := info_parts u8_info
  obtain ⟨tail, hlen, hrd, hlc, hcm⟩ := row_bytes w2
  have HW := Lib.hid (yworks_any (w := w))
  have HBK := Lib.hid (fun W (hW : Below w.heap.size w W) => ybulk_any ((hS.below hW).more hW.size) c0)
  have HS := Lib.hid hS
  have HR := Lib.hid hR
  have HNM := Lib.hid hN'
  have HNS := Lib.hid hN
  obtain ⟨n, hn⟩ : ∃ n, L.length = n := ⟨_, rfl⟩
  obtain ⟨m, hm⟩ : ∃ m, M.length = m := ⟨_, rfl⟩
  have HNL := Lib.hid hn
  have HML := Lib.hid hm
  have HTL := Lib.hid hlen
  have HRD := Lib.hid hrd
  rw [hn] at HBK ⊢
  rw [hm]
  clear hS hR hn hm hN hN' w2 hlc hcm hrd hlen
  go_enter Try.func5, Try.ntmps5
  go_wp2_with fail
  refine HW.out.mono ?_
  rintro r w1 ⟨rfl, hb1⟩
  have HB1 := Lib.hid hb1
  clear hb1 HW
  go_wp2_with fail
  refine (HBK.out _ HB1.out).mono ?_
  rintro r w2 ⟨kb, rfl, hkb, q, rfl⟩
  have HB2 := Lib.hid (below_drewN HB1.out q)
  clear HBK HB1
  by_cases hbig : 2000 < kb
  · have hd : decide ((2000 : Int) < kb) = true := decide_eq_true hbig
    clear hkb hbig
    go_wp2_with fail
    go_ret
    exact ⟨rfl, HB2.out⟩
  have hd1 : decide ((2000 : Int) < kb) = false := decide_eq_false hbig
  have hs := hkb (by omega)
  rw [← HNL.out] at hs
  by_cases hmb : 400 < m
  · have hd2 : decide ((400 : Int) < (m : Int)) = true := decide_eq_true (by omega)
    clear hkb hbig hmb hs
    go_wp2_with fail
    go_ret
    exact ⟨rfl, HB2.out⟩
  have hd2 : decide ((400 : Int) < (m : Int)) = false := decide_eq_false (by omega)
  have hMn : m ≤ 400 := by omega
  by_cases htb : 2000 < len2
  · have hd3 : decide ((2000 : Int) < (len2 : Int)) = true := decide_eq_true (by omega)
    clear hkb hbig hmb hs htb
    go_wp2_with fail
    go_ret
    exact ⟨rfl, HB2.out⟩
  have hd3 : decide ((2000 : Int) < (len2 : Int)) = false := decide_eq_false (by omega)
  have HTB := Lib.hid (show tail.length ≤ 2000 by rw [HTL.out]; omega)
  have HSU := Lib.hid (show sumN L ≤ 50000 ∧ L.length ≤ 100000 by omega)
  have HPU := Lib.hid (yput_any ((HS.out.below HB2.out).more HB2.out.size) c0 HSU.out.2 HSU.out.1)
  rw [HNL.out] at HPU
  clear hkb hbig hmb hs htb
  cases hr : rightY L with
  | true =>
    rw [hr] at HPU
    obtain ⟨hE, hL⟩ := syms_back (tail := tail) hr HSU.out.1 HNS.out
    have hlT : (tabY L).length ≤ 1000000 := by
      unfold tabY
      rw [hr]
      exact Nat.le_trans (tabK_length L L.length) (by have := HSU.out.2; have := (rightY_all hr).1; omega)
    have hlX : (txtY L).length ≤ 65536 := by
      unfold txtY
      rw [hr]
      simp only
      rw [spanT_puts (texK_good L L.length).1]
      exact (texK_good L L.length).2.1
    have HTK := Lib.hid (fun (W : World) (A A' : Option Addr) (c c' : Nat) (h : Rd W W.heap.size A (tabY L)) (h' : Rd W W.heap.size A' (txtY L ++ tail)) (hc : (txtY L ++ tail).length ≤ c') => ytake_any h h' c c' hc hlT (by rw [List.length_append]; have := HTB.out; omega))
    rw [hE, hL] at HTK
    have HSUM := Lib.hid (show (txtY L).length + tail.length ≤ 140737488355328 by have := HTB.out; omega)
    clear hr hE hL hlT hlX
    generalize tabY L = T at *
    generalize txtY L = X at *
    go_wp2_with fail
    refine HPU.out.mono ?_
    rintro r w3 ⟨u3, v3, rfl, hu3, hv3, hap3, hb3⟩
    have HU3 := Lib.hid hu3
    have HV3 := Lib.hid hv3
    have HAP := Lib.hid hap3
    have HB3 := Lib.hid (HB2.out.trans (hb3.mono HB2.out.size))
    have hrd3 := (HRD.out.below HB3.out).more HB3.out.size
    have hz3 := hb3.size
    clear hu3 hv3 hap3 hb3 HPU
    go_wp2_with (at_builtin; refine wpList_append_bytes (by rfl) (.tmp 41) (.tmp 42) _ (by rfl) (w.drewN 0).heap.size i0 Try.underlying22 hi hz0 hz1 hz2 v3 X (by rfl) (by exact own_up HV3.out HB2.out.size) w3.heap.size a2 len2 cap2 tail HTL.out (by rfl) hrd3 HSUM.out (by exact HB3.out.size) ?_; intro v4 w4 hown4 hg4 hat4)
    have hap : u3.ownBlock = none ∨ u3.ownBlock ≠ v3.ownBlock := by
      rcases hu : u3.ownBlock with _ | y
      · exact .inl rfl
      · exact .inr fun e => HAP.out y hu e.symm
    have hu4 := World.ownsRow.kept (w := w3) HU3.out hg4 hap
    obtain ⟨A5, d5, rfl, _, _, hr5⟩ := own_slice hu4
    obtain ⟨A6, d6, rfl, hl6, _, hr6⟩ := own_slice hown4
    have HTK4 := Lib.hid (HTK.out w4 A5 A6 d5 d6 hr5 hr6 hl6)
    have HB4 := Lib.hid (HB3.out.grown hg4 HB3.out.size (fun x hx => Nat.le_trans HB2.out.size (own_ge HV3.out x hx).1))
    clear hap hu4 hr5 hr6 hl6 hown4 hg4 hat4 HTK HAP HU3 HV3 hz3 hrd3
    generalize T.length = nT at *
    generalize (X ++ tail).length = nX at *
    refine HTK4.out.mono ?_
    rintro r w5 ⟨u5, rfl, ho5, hb5⟩
    obtain ⟨A7, d7, rfl, _, _, hr7⟩ := own_row sym_six ho5
    have HB5 := Lib.hid (HB4.out.trans (hb5.mono HB4.out.size))
    have HSM := Lib.hid (ysame_any hr7 ((HS.out.below HB5.out).more HB5.out.size) (Nat.le_refl _) d7 c0 HSU.out.2)
    rw [alikeL_refl sameY_refl, HNL.out] at HSM
    rw [HNL.out]
    clear ho5 hb5 hr7 HTK4
    go_wp2_with (go_at_call 11; refine HSM.out.mono ?_; rintro r w6 ⟨rfl, hb6⟩; have HZ := Lib.hid (HB5.out.trans (hb6.mono HB5.out.size)); clear hb6)
    clear hd1 hd2 hd3
    generalize w6 = wz at *
    have HMN := Lib.hid hMn
    go_loopw [59] (fun i wr => ∃ k : Nat, k ≤ m ∧ i = .int .i64 k ∧ Below w.heap.size w wr ∧ Hid ((M.take k).all goodR = true)) (fun i _ => m - (intOf i).toNat)
    case atStart => exact ⟨0, Nat.zero_le _, rfl, HZ.out, Lib.hid rfl⟩
    case round =>
      obtain ⟨k, hk, rfl, hB, HY⟩ := hrel
      by_cases hlt : k < m
      · have HLT := Lib.hid hlt
        obtain ⟨x, hx⟩ : ∃ x, M[k]? = some x := ⟨M[k]'(by rw [HML.out]; exact hlt), List.getElem?_eq_getElem _⟩
        obtain ⟨b, o, rfl, hb, c0, c1, c2, c3⟩ := rel_at (HR.out.below hB) hx
        have HB := Lib.hid (below_alloc_any hB (.cells #[.int .u64 (x.off : Int), .int .i64 x.sym, .int .i64 x.kind, .int .i64 x.add] 48))
        have HT := Lib.hid (fun (e : goodR x = true) => all_take goodR M k x hx HY.out e)
        have HG := Lib.hid (show goodR x = (inTo x.sym 2147483647 && inTo x.kind 2147483647) from rfl)
        clear hB hx hb
        generalize goodR x = gx at *
        generalize x.off = x0 at *
        generalize x.sym = x1 at *
        generalize x.kind = x2 at *
        generalize x.add = x3 at *
        by_cases h1 : inTo x1 2147483647 = true
        · obtain ⟨p1, q1⟩ := inTo_true h1
          rw [h1, Bool.true_and] at HG
          by_cases h2 : inTo x2 2147483647 = true
          · obtain ⟨p2, q2⟩ := inTo_true h2
            rw [h2] at HG
            have HN1 := Lib.hid (HT.out HG.out)
            clear h1 h2 HT
            go_wp2_with fail
            first
              | exact ⟨⟨k + 1, HLT.out, rfl, HB.out, HN1⟩, step_less HLT.out⟩
              | (have h3 := wrap_next (k := k) (Nat.le_trans (Nat.le_of_lt HLT.out) (Nat.le_trans HMN.out (by decide)))
                 rw [h3]
                 exact ⟨⟨k + 1, HLT.out, rfl, HB.out, HN1⟩, step_less HLT.out⟩)
          · rcases inTo_false (by simpa using h2 : inTo x2 2147483647 = false) with p2 | ⟨p2, q2⟩
            all_goals
              clear h1 h2 HT
              go_wp2_with fail
              go_ret
              exact ⟨rfl, HB.out⟩
        · rcases inTo_false (by simpa using h1 : inTo x1 2147483647 = false) with p1 | ⟨p1, q1⟩
          all_goals
            clear h1 HT
            go_wp2_with fail
            go_ret
            exact ⟨rfl, HB.out⟩
      · have hall : ∀ x ∈ M, goodR x = true := by
          have := HY.out
          rw [List.take_of_length_le (by rw [HML.out]; omega), List.all_eq_true] at this
          exact this
        obtain ⟨hE, hL⟩ := rels_back (by rw [HML.out]; exact HMN.out) hall HNM.out
        have HP := Lib.hid (yputr_any ((HR.out.below hB).more hB.size) c1 (by rw [HML.out]; have := HMN.out; omega))
        rw [HML.out] at HP hE hL
        have hlenB : (relB M m).length ≤ 1000000 := Nat.le_trans (relB_length M m) (by have := HMN.out; omega)
        have HTK := Lib.hid (fun (W : World) (A : Option Addr) (c : Nat) (h : Rd W W.heap.size A (relB M m)) => yrel_any h c hlenB)
        rw [hE, hL] at HTK
        have HB := Lib.hid hB
        clear hB hall hE hL hlenB
        go_wp2_with fail
        refine HP.out.mono ?_
        rintro r w9 ⟨u9, rfl, ho9, hb9⟩
        obtain ⟨A9, c9, rfl, _, _, hr9⟩ := own_slice ho9
        have HTK9 := Lib.hid (HTK.out w9 A9 c9 hr9)
        have HB9 := Lib.hid (HB.out.trans (hb9.mono HB.out.size))
        clear ho9 hb9 hr9 HP HTK HB
        generalize (relB M m).length = nb at *
        go_wp2_with fail
        refine HTK9.out.mono ?_
        rintro r w10 ⟨u10, rfl, ho10, hb10⟩
        obtain ⟨A10, c10, rfl, _, _, hr10⟩ := own_row rel_four ho10
        have HB10 := Lib.hid (HB9.out.trans (hb10.mono HB9.out.size))
        have HSM := Lib.hid (yrsame_any hr10 ((HR.out.below HB10.out).more HB10.out.size) (Nat.le_refl _) c10 c1 (by rw [HML.out]; have := HMN.out; omega))
        rw [alikeL_refl sameR_refl, HML.out] at HSM
        rw [HML.out]
        clear ho10 hb10 hr10 HTK9
        go_wp2_with (go_at_call 12; refine HSM.out.mono ?_; rintro r w11 ⟨rfl, hb11⟩; have HB11 := Lib.hid (HB10.out.trans (hb11.mono HB10.out.size)); clear hb11)
        go_ret
        exact ⟨rfl, HB11.out⟩
  | false =>
    rw [hr] at HPU
    have HRT := Lib.hid (fun W (hW : Below w.heap.size w W) => yright_any ((HS.out.below hW).more hW.size) c0 HSU.out.2)
    rw [hr, HNL.out] at HRT
    clear hr
    go_wp2_with fail
    refine HPU.out.mono ?_
    rintro r w3 ⟨u3, v3, rfl, -, -, -, hb3⟩
    have HB3 := Lib.hid (HB2.out.trans (hb3.mono HB2.out.size))
    clear hb3 HPU
    go_wp2_with (go_at_call 16; refine (HRT.out _ HB3.out).mono ?_; rintro r w6 ⟨rfl, hb6⟩; have HZ := Lib.hid (HB3.out.trans (hb6.mono HB3.out.size)); clear hb6)
    clear hd1 hd2 hd3
    generalize w6 = wz at *
    have HMN := Lib.hid hMn
    go_loopw [59] (fun i wr => ∃ k : Nat, k ≤ m ∧ i = .int .i64 k ∧ Below w.heap.size w wr ∧ Hid ((M.take k).all goodR = true)) (fun i _ => m - (intOf i).toNat)
    case atStart => exact ⟨0, Nat.zero_le _, rfl, HZ.out, Lib.hid rfl⟩
    case round =>
      obtain ⟨k, hk, rfl, hB, HY⟩ := hrel
      by_cases hlt : k < m
      · have HLT := Lib.hid hlt
        obtain ⟨x, hx⟩ : ∃ x, M[k]? = some x := ⟨M[k]'(by rw [HML.out]; exact hlt), List.getElem?_eq_getElem _⟩
        obtain ⟨b, o, rfl, hb, c0, c1, c2, c3⟩ := rel_at (HR.out.below hB) hx
        have HB := Lib.hid (below_alloc_any hB (.cells #[.int .u64 (x.off : Int), .int .i64 x.sym, .int .i64 x.kind, .int .i64 x.add] 48))
        have HT := Lib.hid (fun (e : goodR x = true) => all_take goodR M k x hx HY.out e)
        have HG := Lib.hid (show goodR x = (inTo x.sym 2147483647 && inTo x.kind 2147483647) from rfl)
        clear hB hx hb
        generalize goodR x = gx at *
        generalize x.off = x0 at *
        generalize x.sym = x1 at *
        generalize x.kind = x2 at *
        generalize x.add = x3 at *
        by_cases h1 : inTo x1 2147483647 = true
        · obtain ⟨p1, q1⟩ := inTo_true h1
          rw [h1, Bool.true_and] at HG
          by_cases h2 : inTo x2 2147483647 = true
          · obtain ⟨p2, q2⟩ := inTo_true h2
            rw [h2] at HG
            have HN1 := Lib.hid (HT.out HG.out)
            clear h1 h2 HT
            go_wp2_with fail
            first
              | exact ⟨⟨k + 1, HLT.out, rfl, HB.out, HN1⟩, step_less HLT.out⟩
              | (have h3 := wrap_next (k := k) (Nat.le_trans (Nat.le_of_lt HLT.out) (Nat.le_trans HMN.out (by decide)))
                 rw [h3]
                 exact ⟨⟨k + 1, HLT.out, rfl, HB.out, HN1⟩, step_less HLT.out⟩)
          · rcases inTo_false (by simpa using h2 : inTo x2 2147483647 = false) with p2 | ⟨p2, q2⟩
            all_goals
              clear h1 h2 HT
              go_wp2_with fail
              go_ret
              exact ⟨rfl, HB.out⟩
        · rcases inTo_false (by simpa using h1 : inTo x1 2147483647 = false) with p1 | ⟨p1, q1⟩
          all_goals
            clear h1 HT
            go_wp2_with fail
            go_ret
            exact ⟨rfl, HB.out⟩
      · have hall : ∀ x ∈ M, goodR x = true := by
          have := HY.out
          rw [List.take_of_length_le (by rw [HML.out]; omega), List.all_eq_true] at this
          exact this
        obtain ⟨hE, hL⟩ := rels_back (by rw [HML.out]; exact HMN.out) hall HNM.out
        have HP := Lib.hid (yputr_any ((HR.out.below hB).more hB.size) c1 (by rw [HML.out]; have := HMN.out; omega))
        rw [HML.out] at HP hE hL
        have hlenB : (relB M m).length ≤ 1000000 := Nat.le_trans (relB_length M m) (by have := HMN.out; omega)
        have HTK := Lib.hid (fun (W : World) (A : Option Addr) (c : Nat) (h : Rd W W.heap.size A (relB M m)) => yrel_any h c hlenB)
        rw [hE, hL] at HTK
        have HB := Lib.hid hB
        clear hB hall hE hL hlenB
        go_wp2_with fail
        refine HP.out.mono ?_
        rintro r w9 ⟨u9, rfl, ho9, hb9⟩
        obtain ⟨A9, c9, rfl, _, _, hr9⟩ := own_slice ho9
        have HTK9 := Lib.hid (HTK.out w9 A9 c9 hr9)
        have HB9 := Lib.hid (HB.out.trans (hb9.mono HB.out.size))
        clear ho9 hb9 hr9 HP HTK HB
        generalize (relB M m).length = nb at *
        go_wp2_with fail
        refine HTK9.out.mono ?_
        rintro r w10 ⟨u10, rfl, ho10, hb10⟩
        obtain ⟨A10, c10, rfl, _, _, hr10⟩ := own_row rel_four ho10
        have HB10 := Lib.hid (HB9.out.trans (hb10.mono HB9.out.size))
        have HSM := Lib.hid (yrsame_any hr10 ((HR.out.below HB10.out).more HB10.out.size) (Nat.le_refl _) c10 c1 (by rw [HML.out]; have := HMN.out; omega))
        rw [alikeL_refl sameR_refl, HML.out] at HSM
        rw [HML.out]
        clear ho10 hb10 hr10 HTK9
        go_wp2_with (go_at_call 12; refine HSM.out.mono ?_; rintro r w11 ⟨rfl, hb11⟩; have HB11 := Lib.hid (HB10.out.trans (hb11.mono HB10.out.size)); clear hb11)
        go_ret
        exact ⟨rfl, HB11.out⟩

end Go.Proofs.Ytkadjejjillmmaa
