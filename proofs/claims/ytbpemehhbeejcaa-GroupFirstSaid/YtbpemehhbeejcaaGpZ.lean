/-
  The walk of GroupFirst.
-/
import Derived.Test.YtbpemehhbeejcaaGpY
import Derived.Deep.DeepCutAuto
import Derived.Deep.LoopGhost
import Derived.Deep.RegionHeldLaw
namespace Go.Proofs.Ytbpemehhbeejcaa
open Go Go.RowKit Go.Maps

set_option maxRecDepth 20000 in
set_option maxHeartbeats 6400000 in
theorem gfirst_walk (a : Option Addr) (c : Nat) (O : List ObjV) (w : World) (h : ObjsIn w w.heap.size a O) :
    Calls Try.prog 5 #[.slice a O.length c] w fun e w' => e = .returned (.bool true) ∧ Below w.heap.size w w' := by
  have HW := Lib.hid (gworks_any (w := w))
  have HH := Lib.hid h
  have HGR := Lib.hid (fun W (hW : Below w.heap.size w W) => great_any (h.up hW) c)
  generalize hN : O.length = N at *
  have HN := Lib.hid hN
  obtain ⟨i1, hj, hy0, hy1, hy2⟩ := info_parts bool_info
  obtain ⟨i2, hj2, hz0, hz1, hz2⟩ := info_parts object_info
  clear h hN
  go_enter Try.func5, Try.ntmps5
  go_wp2_with fail
  refine HW.out.mono ?_
  rintro r w1 ⟨rfl, hb1⟩
  have HB1 := Lib.hid hb1
  clear hb1 HW
  go_wp2_with fail
  refine (HGR.out _ HB1.out).mono ?_
  rintro r w2 ⟨b, rfl, hsm, hb2⟩
  have HB2 := Lib.hid (HB1.out.trans (hb2.mono HB1.out.size))
  have HSM := Lib.hid hsm
  clear hb2 hsm HGR
  cases b with
  | true =>
    go_wp2_with fail
    go_ret
    exact ⟨rfl, HB2.out⟩
  | false =>
    obtain ⟨hn10, hs⟩ := HSM.out rfl
    by_cases h5 : 5 < N
    · have d5 : decide ((5 : Int) < (N : Int)) = true := decide_eq_true (by omega)
      clear h5
      go_wp2_with fail
      go_ret
      exact ⟨rfl, HB2.out⟩
    · have d5 : decide ((5 : Int) < (N : Int)) = false := decide_eq_false (by omega)
      by_cases h0 : N = 0
      · have d0 : ((N : Int) == 0) = true := by simp [h0]
        clear h5
        rw [h0] at d5
        subst h0
        go_wp2_with fail
        go_ret
        exact ⟨rfl, HB2.out⟩
      · have d0 : ((N : Int) == 0) = false := by simp [h0]
        have HN5 := Lib.hid (show N ≤ 5 by omega)
        have HN0 := Lib.hid (show 0 < N by omega)
        have hn5 : N ≤ 5 := by omega
        have hn0 : 0 < N := by omega
        have HS := Lib.hid hs
        have HOS := Lib.hid (objects_any ((HH.out.up HB2.out).objs hs) c (by rw [HN.out]; omega))
        rw [HN.out] at HOS
        clear h5 h0 hs HSM
        go_wp2_with fail
        refine HOS.out.mono ?_
        rintro r w3 ⟨A3, c3, rfl, hc3, hO3, hb3⟩
        have HB3 := Lib.hid (HB2.out.trans (hb3.mono HB2.out.size))
        have HO3 := Lib.hid hO3
        have HLF := Lib.hid (gleft_any hO3 c3 HS.out)
        rw [HN.out] at HLF
        clear hO3 hb3 HOS
        obtain ⟨o0, ho0⟩ : ∃ o, O[0]? = some o := ⟨O[0]'(by rw [HN.out]; exact hn0), List.getElem?_eq_getElem _⟩
        have HO0 := Lib.hid ho0
        have hlen1 : (O ++ [o0]).length = N + 1 := by simp [HN.out]
        have HL1 := Lib.hid hlen1
        have HSA := Lib.hid (show ∀ o ∈ O ++ [o0], o.Small from fun o ho => by
          rcases List.mem_append.1 ho with h1 | h1
          · exact HS.out o h1
          · rw [List.mem_singleton.1 h1]; exact HS.out o0 (List.mem_of_getElem? ho0))
        have HLA := Lib.hid (left_again (O := O.map objO) (S := secsOf o0.L) (Y := o0.Y) (by rw [List.getElem?_map, ho0]; rfl) (by simp [HN.out]; omega))
        rw [show O.map objO ++ [(secsOf o0.L, o0.Y)] = (O ++ [o0]).map objO by simp [objO]] at HLA
        obtain ⟨b3, o3, rfl, hb3', n0, n1, n2, n3, n4⟩ := HO3.out.at_ ho0
        clear n0 n1 n2 n3 n4 ho0 hlen1
        go_wp2_with fail
        refine HLF.out.mono ?_
        rintro r w4 ⟨u4, Q4, rfl, hQ4, hm4, hb4⟩
        have HB4 := Lib.hid (HB3.out.trans (hb4.mono HB3.out.size))
        have HO4 := Lib.hid (HO3.out.up hb4)
        have HQ4 := Lib.hid hQ4
        have HM4 := Lib.hid hm4
        obtain ⟨A4, c4, rfl, -⟩ := hQ4.rows
        clear hQ4 hm4 hb4 HLF HO3
        obtain ⟨b4, o4, e4, hb4', n0, n1, n2, n3, n4⟩ := HO4.out.at_ HO0.out
        cases e4
        rw [Nat.zero_mul, Nat.add_zero] at n0 n1 n2 n3 n4
        go_upto_region 7 with fail
        have hEL := HLA.out
        go_cut [6, 7] (fun u e wx => ∃ Q6, e = .int .i64 (leftE ((O ++ [o0]).map objO)) ∧ Hid (BSt wx w4.heap.size u Q6) ∧ Hid (Q6.map (·.l) = leftL ((O ++ [o0]).map objO)) ∧ Hid (Below w4.heap.size w4 wx))
        case first =>
          have HLEN := Lib.hid (show (cellsF ObjV.cells O).length = N * 5 by rw [cellsF_length obj_cells, HN.out])
          have HCE := Lib.hid (show ∀ j u, (cellsF ObjV.cells O)[j]? = some u → w4.cell? ((⟨b3, o3, none⟩ : Addr).add j) = some u from fun j u hu => by
            have hjl : j < O.length * 5 := by rw [← cellsF_length obj_cells]; exact (List.getElem?_eq_some_iff.1 hu).1
            have hx : O[j / 5]? = some (O[j / 5]'(by omega)) := List.getElem?_eq_getElem _
            have hv : (O[j / 5]'(by omega)).cells[j % 5]? = some ((O[j / 5]'(by omega)).cells[j % 5]'(by show j % 5 < 5; omega)) := List.getElem?_eq_getElem _
            have h2 := cellsF_at obj_cells O _ _ _ _ hx hv
            rw [show j / 5 * 5 + j % 5 = j by omega, hu] at h2
            injection h2 with h2
            obtain ⟨b', o', e', _, hc⟩ := HO4.out.row (by omega)
            cases e'
            have h3 := hc _ _ hx _ _ hv
            rw [addr_add, h2]
            rwa [show o3 + j / 5 * 5 + j % 5 = o3 + j by omega] at h3)
          have H1C := Lib.hid (show ∀ u ∈ cellsF ObjV.cells O, u.oneCell' = true from fun u hu => by
            obtain ⟨x, _, hx⟩ := List.mem_flatMap.1 hu
            exact ObjV.one x u hx)
          have h63 : N ≤ maxLen := by unfold maxLen; omega
          have hby : N * 88 ≤ 140737488355328 := by omega
          have hN63 : N + 1 ≤ maxLen := by unfold maxLen; omega
          have hby2 : (N + 1) * 88 ≤ 140737488355328 := by omega
          have KS := Lib.hid (fun X (hX : Below w4.heap.size w4 X) => (⟨hX, (hX.cell (p := ⟨b3, o3, none⟩) hb4').trans n0, (hX.cell (p := ⟨b3, o3 + 1, none⟩) hb4').trans n1, (hX.cell (p := ⟨b3, o3 + 2, none⟩) hb4').trans n2, (hX.cell (p := ⟨b3, o3 + 3, none⟩) hb4').trans n3, (hX.cell (p := ⟨b3, o3 + 4, none⟩) hb4').trans n4⟩ :
            Below w4.heap.size w4 X ∧ X.cell? ⟨b3, o3, none⟩ = some (.int .i64 o0.kind) ∧ X.cell? ⟨b3, o3 + 1, none⟩ = some (.int .i64 o0.machine) ∧ X.cell? ⟨b3, o3 + 2, none⟩ = some (.slice o0.aS o0.L.length o0.cS) ∧ X.cell? ⟨b3, o3 + 3, none⟩ = some (.slice o0.aY o0.Y.length o0.cY) ∧ X.cell? ⟨b3, o3 + 4, none⟩ = some (.slice o0.aR o0.Q.length o0.cR)))
          have HLF2 := Lib.hid (fun (w6 : World) (g6 cap6 : Nat) (hown6 : w6.ownsRow w4.heap.size 37 5 (.slice (some ⟨g6, 0, none⟩) (N + 1) cap6) (N + 1) (cellsF ObjV.cells O ++ (#[.int .i64 o0.kind, .int .i64 o0.machine, .slice o0.aS o0.L.length o0.cS, .slice o0.aY o0.Y.length o0.cY, .slice o0.aR o0.Q.length o0.cR] : Array Value).toList)) (hb6 : Below w4.heap.size w4 w6) => (by
            have hrow : w6.ownsRow w4.heap.size 37 5 (.slice (some ⟨g6, 0, none⟩) (N + 1) cap6) (O ++ [o0]).length (cellsF ObjV.cells (O ++ [o0])) := by
              rw [HL1.out, cellsF_append, cellsF_one]
              exact hown6
            obtain ⟨A, cc, e, _, _, hr⟩ := own_row obj_cells hrow
            injection e with e1 e2 e3
            have hobjs : Objs w6 w6.heap.size (some ⟨g6, 0, none⟩) (O ++ [o0]) := ⟨by rw [e1]; exact hr, fun o ho => by
              have h1 := HO4.out.ok o (by
                rcases List.mem_append.1 ho with h1 | h1
                · exact h1
                · rw [List.mem_singleton.1 h1]; exact List.mem_of_getElem? HO0.out)
              exact (h1.below hb6).more hb6.size⟩
            have := gleft_any hobjs cap6 HSA.out
            rw [HL1.out] at this
            refine this.mono fun r w' hh => ?_
            obtain ⟨u, Q, h1, h2, h3, h4⟩ := hh
            exact ⟨u, Q, h1, h2.base_ hb6.size, h3, hb6.trans (h4.mono hb6.size)⟩ :
            Calls Try.prog 14 #[.slice (some ⟨g6, 0, none⟩) (N + 1) cap6] w6 fun r w' => ∃ (u : Value) (Q : List BLay), r = .returned (.tuple #[u, .int .i64 (leftE ((O ++ [o0]).map objO))]) ∧ BSt w' w4.heap.size u Q ∧ Q.map (·.l) = leftL ((O ++ [o0]).map objO) ∧ Below w4.heap.size w4 w'))
          generalize leftE ((O ++ [o0]).map objO) = ee at *
          generalize leftL ((O ++ [o0]).map objO) = RR at *
          clear hEL HLA
          go_region_held_law (fun X => Below w4.heap.size w4 X ∧ X.cell? ⟨b3, o3, none⟩ = some (.int .i64 o0.kind) ∧ X.cell? ⟨b3, o3 + 1, none⟩ = some (.int .i64 o0.machine) ∧ X.cell? ⟨b3, o3 + 2, none⟩ = some (.slice o0.aS o0.L.length o0.cS) ∧ X.cell? ⟨b3, o3 + 3, none⟩ = some (.slice o0.aY o0.Y.length o0.cY) ∧ X.cell? ⟨b3, o3 + 4, none⟩ = some (.slice o0.aR o0.Q.length o0.cR))
            ((refine KS.out _ ?_; repeat' (first | (with_reducible assumption) | (with_reducible exact Below.refl _ _) | (with_reducible refine Below.drew ?_) | (with_reducible refine Below.alloc ?_ ?_ _) | omega | (simp; done) | (simp; omega))))
            (first
              | (refine step_copy (w := w4) (by rfl) (.tmp 47) (.tmp 48) _ (by rfl) 37 i2 _ 5 88 Try.underlying51 hj2 hz0 hz1 hz2 (by rfl) (by decide) _ (by rfl) (by first | exact heap_alloc_new _ _ | exact lit_first _ _ _ | exact lit_second _ _ _) (by first | exact Nat.le_refl _ | (simp; done) | (simp; omega)) (by repeat' (first | (with_reducible exact Below.refl _ _) | (with_reducible refine Below.drew ?_) | (with_reducible refine Below.alloc ?_ ?_ _) | (simp; done) | omega)) ⟨b3, o3, none⟩ N c3 (cellsF ObjV.cells O) (by rfl) HLEN.out hb4' HCE.out H1C.out hn0 h63 hby ?_; intro g5 cap5 w5 hown5 hg5 hb5; have hs5 := hb5.size)
              | (refine step_one (w := w5) (by rfl) (.tmp 49) (.tmp 53) _ (by rfl) w4.heap.size 37 i2 _ 5 88 Try.underlying51 hj2 hz0 hz1 hz2 (by rfl) (by decide) (.slice (some ⟨g5, 0, none⟩) N cap5) N (cellsF ObjV.cells O) (by rfl) hown5 (by repeat' (first | (with_reducible exact Below.refl _ _) | (with_reducible refine Below.drew ?_) | (with_reducible refine Below.alloc ?_ ?_ _) | (simp; done) | omega)) _ _ #[.int .i64 o0.kind, .int .i64 o0.machine, .slice o0.aS o0.L.length o0.cS, .slice o0.aY o0.Y.length o0.cY, .slice o0.aR o0.Q.length o0.cR] (by rfl) (by first | exact heap_alloc_new _ _ | exact (hg5.block _ (by first | (simp; done) | (simp; omega)) (by simp)).trans (lit_second _ _ _) | exact (hg5.block _ (by first | (simp; done) | (simp; omega)) (by simp)).trans (lit_first _ _ _)) (by rfl) (ObjV.one o0) hN63 hby2 hs5 ?_; intro g6 cap6 w6 hown6 hb6'; have hb6 := hb5.trans hb6'; have hs6 := hb6.size)
              | (go_at_call 14; refine (HLF2.out w6 g6 cap6 hown6 hb6).mono ?_; rintro r w7 ⟨u7, Q7, rfl, hQ7, hm7, hb7⟩; have HQ7 := Lib.hid hQ7; have HM7 := Lib.hid hm7; have HB7 := Lib.hid hb7; clear hQ7 hm7))
          all_goals trace "WAY"
          all_goals go_wp2_with fail
          all_goals go_meet
          all_goals exact ⟨_, rfl, HQ7, HM7, HB7⟩
        case rest =>
          obtain ⟨Q6, rfl, HQ6, HM6, HB6⟩ := hcut
          clear hEL n0 n1 n2 n3 n4
          obtain ⟨A6, c6, e6, -⟩ := HQ6.out.rows
          subst e6
          have HB6w := Lib.hid (HB4.out.trans (HB6.out.mono HB4.out.size))
          rcases HLA.out with ⟨e1, e2, e3⟩ | ⟨names, out, G0, last, g1, g2, g3, g4, g5, g6, g7, g8, g9⟩
          · rw [e1, e3]
            have hq4 : Q4.length = 0 := by
              have := congrArg List.length HM4.out
              rw [e2] at this
              simpa using this
            rw [hq4]
            clear hq4 e1 e2 e3 HLA
            go_wp2_with fail
            go_ret
            exact ⟨rfl, HB6w.out⟩
          · rw [g2, g6]
            have hq4 : Q4.length = N := by
              have := congrArg List.length HM4.out
              rw [g3, List.length_map, g4, List.length_map, HN.out] at this
              exact this
            have hq6 : Q6.length = N + 1 := by
              have := congrArg List.length HM6.out
              rw [g7, List.length_map, List.length_append, g4, List.length_map, HN.out] at this
              exact this
            have HM4' := Lib.hid (show Q4.map (·.l) = out from HM4.out.trans g3)
            have HM6' := Lib.hid (show Q6.map (·.l) = out ++ [last] from HM6.out.trans g7)
            have HG1 := Lib.hid g1
            have HG4 := Lib.hid (show out.length = N by rw [g4, List.length_map, HN.out])
            have HG5 := Lib.hid g5
            have HG9 := Lib.hid g9
            have HOSL := Lib.hid (show (O.map objO).length = N by rw [List.length_map, HN.out])
            obtain ⟨A4', c4', e4', hk4⟩ := (HQ4.out.below HB6.out).rows
            injection e4' with e4a e4b e4c
            subst e4a e4c
            obtain ⟨A6', c6', e6', hk6⟩ := HQ6.out.rows
            injection e6' with e6a e6b e6c
            subst e6a e6c
            have KA := Lib.hid hk4
            have KB := Lib.hid hk6
            have KO := Lib.hid (HO4.out.up HB6.out)
            rw [hq4, hq6]
            clear hk4 hk6 e4b e6b g1 g2 g3 g4 g5 g6 g7 g8 g9 HLA HM4 HM6 HQ4 HQ6 HO4 hq4 hq6
            obtain ⟨w1', hw1'⟩ : ∃ w1', wc.alloc (.map #[] 0) = w1' := ⟨_, rfl⟩
            have hb1' : Below wc.heap.size wc w1' := hw1' ▸ (Below.refl _ _).alloc (Nat.le_refl _) _
            have HSE0 := Lib.hid (show SeenAt w1' wc.heap.size wc.heap.size [] from hw1' ▸ SeenAt.made wc)
            have HBW0 := Lib.hid hb1'
            have HW1' := Lib.hid hw1'
            have hmm := @run_makeMap Try.prog
            have q0 : ((N : Int) != (N : Int)) = false := by simp
            have q1 : ((N : Int) + 1 != (N : Int) + 1) = false := by simp
            clear hw1' hb1'
            go_upto_region 13 with fail
            rw [HW1'.out]
            clear HW1' hmm q0 q1
            generalize hmb : wc.heap.size = mb at *
            have HMB := Lib.hid hmb
            clear hmb
            go_wp2_with fail
            go_loopg [88] N (fun gk i wr => ∃ (k : Nat) (nms : List (List UInt8)) (out' : List (List Bool)), k ≤ N ∧ gk = N - k ∧ i = .int .i64 k ∧ Hid (leftS (O.map objO) k = some (nms, out')) ∧ Hid (SeenAt wr mb mb nms) ∧ Hid (Below mb wc wr))
            case atStart => exact ⟨0, [], [], Nat.zero_le _, rfl, rfl, Lib.hid rfl, HSE0, HBW0⟩
            case round =>
              obtain ⟨k, nms, out', hk, rfl, rfl, HK, HSE, HBW⟩ := hrel
              clear HSE0 HBW0
              have hmr : mb ≤ wr.heap.size := by have := HBW.out.size; rw [HMB.out] at this; exact this
              by_cases hlt : k < N
              · have HLT := Lib.hid hlt
                obtain ⟨nms2, out2, S, Y, G, r1, r2, r3, r4, out3, r5⟩ := leftS_at (by rw [HOSL.out]; exact Nat.le_refl _) (by rw [HOSL.out] at HG1; exact HG1.out) k hlt
                rw [HK.out] at r1
                injection r1 with r1
                injection r1 with r1a r1b
                subst r1a r1b
                obtain ⟨o, ho⟩ : ∃ o, O[k]? = some o := ⟨O[k]'(by rw [HN.out]; exact hlt), List.getElem?_eq_getElem _⟩
                rw [List.getElem?_map, ho] at r2
                injection r2 with r2
                injection r2 with r2a r2b
                subst r2a r2b
                have HSMo := Lib.hid (HS.out o (List.mem_of_getElem? ho))
                have HSL := Lib.hid (show (secsOf o.L).length = o.L.length by simp [secsOf])
                obtain ⟨hG6, hGm⟩ := grpT_bounds r3 (by rw [HSL.out]; exact HSMo.out.S) (fun s hs' => by
                  obtain ⟨x, hx, rfl⟩ := List.mem_map.1 hs'
                  exact (HSMo.out.s x hx).1) HSMo.out.Y
                have HGM := Lib.hid hGm
                have HAP := Lib.hid (grpT_apart r3)
                rw [HSL.out] at r4 r5
                have HR4 := Lib.hid r4
                have HR5 := Lib.hid r5
                have hE : grpE (secsOf o.L) o.Y = 0 := by unfold grpE; rw [r3]
                have hGL : grpL (secsOf o.L) o.Y = G := by unfold grpL; rw [r3]; rfl
                have HNC := Lib.hid (leftS_count (O := O.map objO) (fun q hq R' hR' => by
                  obtain ⟨o', ho', rfl⟩ := List.mem_map.1 hq
                  have hs' := HS.out o' ho'
                  exact (grpT_bounds hR' (by simp [secsOf]; exact hs'.S) (fun s hs => by
                    obtain ⟨x, hx, rfl⟩ := List.mem_map.1 hs
                    exact (hs'.s x hx).1) hs'.Y).1) HK.out)
                obtain ⟨bo, oo, eo, hbo, n0, n1, n2, n3, n4⟩ := (KO.out.below HBW.out).at_ ho
                cases eo
                obtain ⟨ws, hws⟩ : ∃ ws, wr.alloc (.cells #[.int .i64 o.kind, .int .i64 o.machine, .slice o.aS o.L.length o.cS, .slice o.aY o.Y.length o.cY, .slice o.aR o.Q.length o.cR] 37) = ws := ⟨_, rfl⟩
                have hbs : Below wr.heap.size wr ws := hws ▸ (Below.refl _ _).alloc (Nat.le_refl _) _
                have hXs := Box.new wr 37 #[.int .i64 o.kind, .int .i64 o.machine, .slice o.aS o.L.length o.cS, .slice o.aY o.Y.length o.cY, .slice o.aR o.Q.length o.cR]
                rw [hws] at hXs
                have HBS := Lib.hid (HBW.out.trans (hbs.mono hmr))
                have HSE1 := Lib.hid (HSE.out.below hbs)
                have hmw : mb ≤ ws.heap.size := Nat.le_trans hmr hbs.size
                have hok : o.Ok ws ws.heap.size := ((KO.out.ok o (List.mem_of_getElem? ho)).below HBS.out).more hmw
                have HTK := Lib.hid (gtake_any o hok HSMo.out.S (fun x hx => (HSMo.out.s x hx).1) (by have := HSMo.out.Y; omega))
                rw [hE, hGL, show o.val = .agg #[.int .i64 o.kind, .int .i64 o.machine, .slice o.aS o.L.length o.cS, .slice o.aY o.Y.length o.cY, .slice o.aR o.Q.length o.cR] from rfl] at HTK
                have HWS := Lib.hid hws
                have HXS := Lib.hid hXs
                clear hws hE hGL r3 r4 r5 hGm hok ho
                -- the rows of truths of this object
                obtain ⟨qa, hqa⟩ : ∃ q, Q4[k]? = some q := ⟨Q4[k]'(by have := congrArg List.length HM4'.out; rw [List.length_map, HG4.out] at this; omega), List.getElem?_eq_getElem _⟩
                obtain ⟨qb, hqb⟩ : ∃ q, Q6[k]? = some q := ⟨Q6[k]'(by have := congrArg List.length HM6'.out; rw [List.length_map, List.length_append, HG4.out] at this; simp at this; omega), List.getElem?_eq_getElem _⟩
                have hqal : qa.l = (leftK o.L.length G nms G.length).2 := by
                  have h1 : (Q4.map (·.l))[k]? = some qa.l := by rw [List.getElem?_map, hqa]; rfl
                  rw [HM4'.out, HR4.out] at h1
                  injection h1 with h1
                  exact h1.symm
                have hqbl : qb.l = (leftK o.L.length G nms G.length).2 := by
                  have h1 : (Q6.map (·.l))[k]? = some qb.l := by rw [List.getElem?_map, hqb]; rfl
                  rw [HM6'.out, List.getElem?_append_left (by rw [HG4.out]; exact hlt), HR4.out] at h1
                  injection h1 with h1
                  exact h1.symm
                have hlnB : (leftK o.L.length G nms G.length).2.length = o.L.length := leftK_length _
                have KAr := Lib.hid (fun (W : World) (hW : Below mb wc W) => (by
                  have hB := KA.out.below hW
                  obtain ⟨b5, o5, e5, _, c5⟩ := hB.at_ hqa
                  have ht := hB.ok qa (List.mem_of_getElem? hqa)
                  rw [hqal] at c5 ht
                  rw [hlnB] at c5
                  exact ⟨b5, o5, e5, c5, ht⟩ :
                  ∃ b5 o5, A4 = some ⟨b5, o5, none⟩ ∧ W.cell? ⟨b5, o5 + k, none⟩ = some (.slice qa.a o.L.length qa.c) ∧ Truths W mb qa.a (leftK o.L.length G nms G.length).2))
                have KBr := Lib.hid (fun (W : World) (hW : Below mb wc W) => (by
                  have hB := KB.out.below hW
                  obtain ⟨b5, o5, e5, _, c5⟩ := hB.at_ hqb
                  have ht := hB.ok qb (List.mem_of_getElem? hqb)
                  rw [hqbl] at c5 ht
                  rw [hlnB] at c5
                  exact ⟨b5, o5, e5, c5, ht⟩ :
                  ∃ b5 o5, A6 = some ⟨b5, o5, none⟩ ∧ W.cell? ⟨b5, o5 + k, none⟩ = some (.slice qb.a o.L.length qb.c) ∧ Truths W mb qb.a (leftK o.L.length G nms G.length).2))
                have HLNB := Lib.hid hlnB
                clear hqa hqb hqal hqbl hlnB
                generalize qa.a = qaa at *
                generalize qb.a = qba at *
                go_upto_region 16 with fail
                rw [HWS.out]
                obtain ⟨y0, y1, y2, y3, y4⟩ := five_cells hXs
                have hln := HSMo.out.S
                clear n0 n1 n2 n3 n4 HWS hXs hbs
                generalize hLn : o.L.length = ln at *
                have HLN := Lib.hid hLn
                clear hLn
                go_upto_region 17 with (go_at_call 8; refine HTK.out.mono ?_; rintro r w3 ⟨u3, rfl, hG3, hb3⟩; have HG3 := Lib.hid hG3; have HB3 := Lib.hid hb3; clear hG3 hb3)
                obtain ⟨LG, Ag, cg, rfl, -, -, hLG, hGr⟩ := owng_grps HG3.out
                have HBW3 := Lib.hid (HBS.out.trans (HB3.out.mono hmw))
                have hX3 := HXS.out.below HB3.out HXS.out.lt
                have HX3 := Lib.hid hX3
                clear y0 y1 y2 y3 y4 HG3 HTK
                have y2 := hX3.cell 2
                simp at y2
                clear hX3
                obtain ⟨b5, o5, rfl, c5, -⟩ := KAr.out _ HBW3.out
                have hki : (k : Int) < (N : Int) := by omega
                have hM6 : LG.length ≤ 6000 := by have := congrArg List.length hLG; simp at this; omega
                have HSE3 := Lib.hid (HSE1.out.below HB3.out)
                have HGR3 := Lib.hid hGr
                have HLG := Lib.hid hLG
                have hmw3 : mb ≤ w3.heap.size := Nat.le_trans hmw HB3.out.size
                have hm1 : i1.bytes * ln ≤ 281474976710656 := by rw [hy2]; omega
                have hm2 : ln ≤ maxLen := by unfold maxLen; omega
                clear hGr hLG
                go_wp2_with fail
                go_quiet (fail)
                clear c5 y2
                have hbq : Below w3.heap.size w3 (w3.drewN nq) := below_drewN (Below.refl _ _) nq
                have HBW4 := Lib.hid (HBW3.out.trans (hbq.mono hmw3))
                have HX4 := Lib.hid (Box.drewN HX3.out nq)
                have HSE4 := Lib.hid (HSE3.out.below hbq)
                have HGR4 := Lib.hid ((HGR3.out.below hbq).more hbq.size)
                have hmw4 : mb ≤ (w3.drewN nq).heap.size := Nat.le_trans hmw3 hbq.size
                clear hbq HX3 HSE3 HGR3 HBW3
                generalize w3.drewN nq = w4' at *
                have y2 := HX4.out.cell 2
                simp at y2
                go_upto_region 20 with (at_make; refine wpList_make_full _ rfl _ _ 57 rfl w4'.heap.size 4 i1 _ 1 Try.underlying57 hj hy0 hy1 .i64 .i64 (ln : Int) (ln : Int) ln rfl rfl rfl rfl hm1 hm2 (Nat.le_refl _) ?_; intro w5 hown5 hg5)
                have hb45 : Below w4'.heap.size w4' w5 := below_of_only hg5 (Nat.le_refl _) (by simp)
                have HOB := Lib.hid (show Met w5 mb w4'.heap.size ln (leftK ln G nms 0).2 from met_made (by have h := row_base hown5 hmw4; rwa [show (Value.bool false).cells = #[Value.bool false] from rfl, made_one] at h))
                have HSE5 := Lib.hid (show SeenAt w5 mb mb (leftK ln G nms 0).1 from HSE4.out.below hb45)
                have HGR5 := Lib.hid (HGR4.out.below hb45)
                have HBW5 := Lib.hid (HBW4.out.trans (hb45.mono hmw4))
                have hmap := HSE5.out.block
                clear hown5 hg5 hb45 y2 hm1 hm2 HSE4 HGR4 HX4
                generalize hob : w4'.heap.size = ob at *
                have HOBE := Lib.hid hob
                clear hob
                generalize hM : LG.length = M at *
                have HMM := Lib.hid hM
                have HMG := Lib.hid (show M = G.length by rw [← hM, ← HLG.out, List.length_map])
                clear hM
                go_wp2_with fail
                generalize wr = wo at *
                go_loopg [117] M (fun gk i wr => ∃ j : Nat, j ≤ M ∧ gk = M - j ∧ i = .int .i64 j ∧ Hid (Met wr mb ob ln (leftK ln G nms j).2) ∧ Hid (SeenAt wr mb mb (leftK ln G nms j).1) ∧ Hid (But (fun z => z = ob ∨ z = mb) w5 wr))
                case atStart => exact ⟨0, Nat.zero_le _, rfl, rfl, HOB, HSE5, Lib.hid (But.refl _ _)⟩
                case round =>
                  obtain ⟨j, hjM, rfl, rfl, HMj, HSj, HBj⟩ := hrel
                  clear HOB HSE5
                  have hobr : ob < wr.heap.size := HMj.out.lt.2
                  have hobm : ob ≠ mb := by
                    obtain ⟨cs, f, h1⟩ := HMj.out.box
                    obtain ⟨es, c', h2⟩ := HSj.out.block
                    rintro rfl
                    rw [h1] at h2; cases h2
                  by_cases hltj : j < M
                  · have HLTJ := Lib.hid hltj
                    obtain ⟨x, hx⟩ : ∃ x, LG[j]? = some x := ⟨LG[j]'(by rw [HMM.out]; exact hltj), List.getElem?_eq_getElem _⟩
                    have hGj := HGR5.out.but HBj.out (fun z hz => by
                      rcases hz with rfl | rfl
                      · exact .inl (Nat.le_refl _)
                      · exact .inr hmap)
                    obtain ⟨bg, og, rfl, hbg, n0, n1, n2, n3⟩ := hGj.at_ hx
                    obtain ⟨w6, hw6⟩ : ∃ w6, wr.alloc (.cells #[.int .i64 (x.g.place : Int), .bool x.g.one, .string ⟨x.g.name.toArray⟩, .slice x.a x.g.mem.length x.c] 45) = w6 := ⟨_, rfl⟩
                    have hb6 : Below wr.heap.size wr w6 := hw6 ▸ (Below.refl _ _).alloc (Nat.le_refl _) _
                    have hX6 := Box.new wr 45 #[.int .i64 (x.g.place : Int), .bool x.g.one, .string ⟨x.g.name.toArray⟩, .slice x.a x.g.mem.length x.c]
                    rw [hw6] at hX6
                    have hxR : G[j]? = some x.g := by rw [← HLG.out, List.getElem?_map, hx]; rfl
                    obtain ⟨q1, q2, q3⟩ := HGM.out x.g (List.mem_of_getElem? hxR)
                    have HMQ := Lib.hid (show ∀ m ∈ x.g.mem, m < ln by rw [← HSL.out]; exact q1)
                    have HME := Lib.hid (Row.below (hGj.ok x (List.mem_of_getElem? hx)).mem (hb6.mono (Nat.le_of_lt hobr)))
                    have HRDS := Lib.hid (leftK_reads (n := ln) (names := nms) HAP.out hxR)
                    have HB6 := Lib.hid (HBj.out.then_ hb6)
                    have HM6 := Lib.hid (HMj.out.below hb6)
                    have HSE6 := Lib.hid (HSj.out.below hb6)
                    have HXG := Lib.hid hX6
                    have HW6 := Lib.hid hw6
                    have HKX := Lib.hid (show (leftK ln G nms (j + 1)).1 = leaveN x.g (leftK ln G nms j).1 by rw [leaveK hxR])
                    have hcnt := leftK_count (n := ln) (G := G) (names := nms) j
                    have hncc := HNC.out
                    have hbs6 : ob ≤ w6.heap.size := by have := hb6.size; omega
                    clear hw6 hb6 hx hGj hxR q1
                    go_upto_region 23 with fail
                    rw [HW6.out]
                    obtain ⟨y0, y1, y2, y3⟩ := four_cells hX6
                    clear n0 n1 n2 n3 hX6 HW6
                    generalize hml : x.g.mem.length = ml at *
                    have HML := Lib.hid hml
                    clear hml
                    generalize x.a = xa at *
                    generalize (leftK ln G nms j).1 = nmsj at *
                    generalize (leftK ln G nms j).2 = bits at *
                    generalize hct : nmsj.contains x.g.name = ct at *
                    have HCT := Lib.hid hct
                    clear hct
                    have hml6 : ml ≤ 6000 := q2
                    have hnmj : nmsj.length ≤ 100000 := by omega
                    clear hcnt hncc
                    go_wp2_with fail
                    clear y0 y1 y2 y3
                    generalize wr = wj at *
                    have hgo : wj.heap.size ≠ ob := by omega
                    go_loopg [124] ml (fun gk i wr => ∃ m : Nat, m ≤ ml ∧ gk = ml - m ∧ i = .int .i64 m ∧ Hid (Met wr mb ob ln (putAll bits (x.g.one && ct) (x.g.mem.take m))) ∧ Hid (But (fun z => z = ob) w6 wr))
                    case atStart => exact ⟨0, Nat.zero_le _, rfl, rfl, HM6, Lib.hid (But.refl _ _)⟩
                    case round =>
                      obtain ⟨m, hm, rfl, rfl, HKm, HBm⟩ := hrel
                      obtain ⟨y0, y1, y2, y3⟩ := four_cells (HBm.out.box HXG.out hgo)
                      have HSEm := Lib.hid (HSE6.out.but HBm.out (fun e => hobm e.symm))
                      have hlk := HSEm.out.look x.g.name (by unfold maxLen; omega)
                      rw [HCT.out] at hlk
                      have hone2 : x.g.one = false ∨ x.g.one = true := by cases x.g.one <;> simp
                      by_cases hltm : m < ml
                      · have HLM := Lib.hid hltm
                        obtain ⟨mm, hmm⟩ : ∃ mm, x.g.mem[m]? = some mm := ⟨x.g.mem[m]'(by rw [HML.out]; exact hltm), List.getElem?_eq_getElem _⟩
                        obtain ⟨bm, om, rfl, hbm, cm⟩ := Mems.at_ (Row.below HME.out (HBm.out.below hbs6 (fun z hz => by omega))) hmm
                        have hmn := HMQ.out mm (List.mem_of_getElem? hmm)
                        have HNM := Lib.hid (putAll_next bits (x.g.one && ct) x.g.mem m mm hmm)
                        have hml2 : mm < (putAll bits (x.g.one && ct) (x.g.mem.take m)).length := by rw [HKm.out.1]; exact hmn
                        have xm := HKm.out.cell (List.getElem?_eq_getElem hml2)
                        have xf := HKm.out.free mm
                        have hK2 := HKm.out.store mm (x.g.one && ct)
                        have HB2 := Lib.hid (fun v => HBm.out.grown (only_set (only_refl _ (some ob)) mm v) (fun z hz => .inl (by injection hz with hz; exact hz.symm)))
                        have hmi : (mm : Int) < (ln : Int) := by omega
                        generalize (putAll bits (x.g.one && ct) (x.g.mem.take m))[mm] = bv at *
                        rcases hone2 with hone | hone
                        · rw [hone] at y1
                          have HK3 := Lib.hid (show Met (wr.setCell ⟨ob, mm, none⟩ (.bool false)) mb ob ln (putAll bits (x.g.one && ct) (x.g.mem.take (m + 1))) by
                            rw [HNM.out]
                            have h1 := hK2
                            rw [show (x.g.one && ct) = false by rw [hone]; rfl] at h1 ⊢
                            exact h1)
                          clear hmm hone hml2 hK2 hlk
                          go_wp2_with fail
                          go_roundg (ml - (m + 1))
                          case measure => have := HLM.out; omega
                          case rel => exact ⟨m + 1, HLM.out, rfl, by go_num, HK3, Lib.hid (HB2.out _)⟩
                        · rw [hone] at y1
                          have HK3 := Lib.hid (show Met (wr.setCell ⟨ob, mm, none⟩ (.bool ct)) mb ob ln (putAll bits (x.g.one && ct) (x.g.mem.take (m + 1))) by
                            rw [HNM.out]
                            have h1 := hK2
                            rw [show (x.g.one && ct) = ct by rw [hone]; rfl] at h1 ⊢
                            exact h1)
                          clear hmm hone hml2 hK2
                          go_wp2_with fail
                          go_roundg (ml - (m + 1))
                          case measure => have := HLM.out; omega
                          case rel => exact ⟨m + 1, HLM.out, rfl, by go_num, HK3, Lib.hid (HB2.out _)⟩
                      · have hmn : m = ml := by omega
                        subst hmn
                        have hM1 := HKm.out
                        rw [List.take_of_length_le (by rw [HML.out]; omega), HRDS.out] at hM1
                        have HM7 := Lib.hid hM1
                        have HB7 := Lib.hid (HB6.out.trans (HBm.out.mono (fun z _ hz => .inl hz)))
                        clear hM1
                        rcases hone2 with hone | hone
                        · rw [hone] at y1
                          have HN7 := Lib.hid (show SeenAt wr mb mb (leftK ln G nms (j + 1)).1 by
                            rw [HKX.out]
                            unfold leaveN
                            rw [hone]
                            exact HSEm.out)
                          clear hone hlk
                          go_wp2_with fail
                          go_roundg (M - (j + 1))
                          case measure => have := HLTJ.out; omega
                          case rel => exact ⟨j + 1, HLTJ.out, rfl, by go_num, HM7, HN7, HB7⟩
                        · rw [hone] at y1
                          have HKN := Lib.hid (show (leftK ln G nms (j + 1)).1 = nmsj ++ [x.g.name] by
                            rw [HKX.out]
                            unfold leaveN
                            rw [hone]; rfl)
                          obtain ⟨hbm, nn, D, hnn, hown, hat⟩ := HSEm.out
                          have HAT := Lib.hid hat
                          have HOW := Lib.hid hown
                          have hkey := key_text x.g.name (by unfold maxLen; omega)
                          have hnx : nn < maxLen := by unfold maxLen; omega
                          clear hone hlk hat hown
                          go_wp2_with (at_mapUpdate; refine wpList_mapUpdate_own _ (by rfl) _ _ _ 56 (by rfl) 9 4 string_law Try.underlying56 (plainElem (H := Unit) Try.prog 4) mb nn _ (by rfl) HOW.out hnx _ _ _ (by rfl) (by rfl) hkey _ [] (plainElem_bool Try.underlying4 true) ?_; intro w7 hown7 hg7; have HOW7 := Lib.hid hown7; have HG7 := Lib.hid hg7; clear hown7 hg7)
                          have HN8 := Lib.hid (show SeenAt w7 mb mb (leftK ln G nms (j + 1)).1 by
                            rw [HKN.out]
                            exact ⟨hbm, nn + 1, _, by simp; omega, HOW7.out, SeenAt.put HAT.out (HOW.out.isMap)⟩)
                          have HM8 := Lib.hid (HM7.out.grown HG7.out (by simpa using hobm))
                          have HB8 := Lib.hid (HB7.out.grown HG7.out (fun z hz => .inl (.inr (by injection hz with hz; exact hz.symm))))
                          go_roundg (M - (j + 1))
                          case measure => have := HLTJ.out; omega
                          case rel => exact ⟨j + 1, HLTJ.out, rfl, by go_num, HM8, HN8, HB8⟩
                  · have hjM2 : j = G.length := by have := HMG.out; omega
                    rw [hjM2] at HMj HSj
                    have HBWr := Lib.hid (HBW5.out.trans (HBj.out.below (by have := HBW5.out.size; rw [HMB.out] at this; exact this) (fun z hz => by
                      rcases hz with rfl | rfl
                      · exact HMj.out.lt.1
                      · exact Nat.le_refl _)))
                    generalize hbt : (leftK ln G nms G.length).2 = bits at *
                    have hbl : bits.length = ln := HMj.out.1
                    have HBL := Lib.hid hbl
                    obtain ⟨b6, o6, e6, -, -⟩ := KBr.out _ HBWr.out
                    subst e6
                    clear hjM2 hbt hbl
                    go_wp2_with fail
                    generalize wr = wj at *
                    go_loopg [148] ln (fun gk i wr => ∃ q z : Nat, q ≤ ln ∧ gk = ln - q ∧ i = .int .i64 q ∧ wr = wj.drewN z)
                    case atStart => exact ⟨0, 0, Nat.zero_le _, rfl, rfl, rfl⟩
                    case round =>
                      obtain ⟨q, z, hq, rfl, rfl, rfl⟩ := hrel
                      by_cases hltq : q < ln
                      · have HLQ := Lib.hid hltq
                        obtain ⟨bv, hbv⟩ : ∃ bv, bits[q]? = some bv := ⟨bits[q]'(by rw [HBL.out]; exact hltq), List.getElem?_eq_getElem _⟩
                        have xi := HMj.out.cell hbv
                        obtain ⟨b5', o5', e5, c5, t5⟩ := KAr.out _ HBWr.out
                        cases e5
                        obtain ⟨b6', o6', e6, c6', t6⟩ := KBr.out _ HBWr.out
                        cases e6
                        obtain ⟨b7, o7, e7, -, c7⟩ := Truths.at_ t5 hbv
                        obtain ⟨b8, o8, e8, -, c8⟩ := Truths.at_ t6 hbv
                        rw [e7] at c5
                        rw [e8] at c6'
                        have hi1 : (k : Int) < (N : Int) + 1 := by omega
                        have hi2 : (q : Int) < (ln : Int) := by omega
                        clear hbv t5 t6 e7 e8
                        cases bv
                        all_goals
                          go_wp2_with fail
                          go_quiet (fail)
                          go_wp2_with fail
                          go_roundg (ln - (q + 1))
                          case measure => have := HLQ.out; omega
                          case rel => exact ⟨q + 1, _, HLQ.out, rfl, by go_num, by first | rfl | (simp; rfl)⟩
                      · have hqn : q = ln := by omega
                        have hbz : Below wj.heap.size wj (wj.drewN z) := below_drewN (Below.refl _ _) z
                        have HSE8 := Lib.hid (HSj.out.below hbz)
                        have HBW8 := Lib.hid (HBWr.out.trans (hbz.mono (by have := HBWr.out.size; rw [HMB.out] at this; exact this)))
                        clear hbz
                        go_wp2_with fail
                        go_roundg (N - (k + 1))
                        case measure => have := HLT.out; omega
                        case rel => exact ⟨k + 1, _, _, HLT.out, rfl, by go_num, HR5, HSE8, HBW8⟩
              · have hkN : k = N := by omega
                subst hkN
                have hE : grpE (secsOf o0.L) o0.Y = 0 := by unfold grpE; rw [HG5.out]
                have hGL : grpL (secsOf o0.L) o0.Y = G0 := by unfold grpL; rw [HG5.out]; rfl
                obtain ⟨b', o', e', hbb, n0, n1, n2, n3, n4⟩ := (KO.out.below HBW.out).at_ HO0.out
                cases e'
                rw [Nat.zero_mul, Nat.add_zero] at n0 n1 n2 n3 n4
                have hs0 := HS.out o0 (List.mem_of_getElem? HO0.out)
                have hok : o0.Ok wr wr.heap.size := ((KO.out.ok o0 (List.mem_of_getElem? HO0.out)).below HBW.out).more hmr
                have HTK := Lib.hid (gtake_any (w := wr) o0 hok hs0.S (fun x hx => (hs0.s x hx).1) (by have := hs0.Y; omega))
                rw [hE, hGL, show o0.val = .agg #[.int .i64 o0.kind, .int .i64 o0.machine, .slice o0.aS o0.L.length o0.cS, .slice o0.aY o0.Y.length o0.cY, .slice o0.aR o0.Q.length o0.cR] from rfl] at HTK
                obtain ⟨hG6, hGm⟩ := grpT_bounds HG5.out (by simp [secsOf]; exact hs0.S) (fun s hs' => by
                  obtain ⟨x, hx, rfl⟩ := List.mem_map.1 hs'
                  exact (hs0.s x hx).1) hs0.Y
                have HGM := Lib.hid hGm
                have hi0 : (0 : Int) < (k : Int) := by omega
                obtain ⟨qL, hqL⟩ : ∃ q, Q6[k]? = some q := by
                  have h1 : Q6.length = k + 1 := by
                    have := congrArg List.length HM6'.out
                    rw [List.length_map, List.length_append, HG4.out] at this
                    exact this
                  exact ⟨Q6[k]'(by omega), List.getElem?_eq_getElem _⟩
                have hqLl : qL.l = last := by
                  have h1 : (Q6.map (·.l))[k]? = some qL.l := by rw [List.getElem?_map, hqL]; rfl
                  rw [HM6'.out, List.getElem?_append_right (by rw [HG4.out]; exact Nat.le_refl _), HG4.out, Nat.sub_self] at h1
                  injection h1 with h1
                  exact h1.symm
                have KL := Lib.hid (fun (W : World) (hW : Below mb wc W) (mm : Nat) (hmm : last[mm]? = some true) => (by
                  have hB := KB.out.below hW
                  obtain ⟨b6, o6, rfl, _, c6⟩ := hB.at_ hqL
                  have ht := hB.ok qL (List.mem_of_getElem? hqL)
                  rw [hqLl] at c6 ht
                  obtain ⟨b7, o7, e7, _, c7⟩ := Truths.at_ ht hmm
                  rw [e7] at c6
                  exact ⟨b6, o6, b7, o7, last.length, qL.c, rfl, c6, c7, (List.getElem?_eq_some_iff.1 hmm).1⟩ :
                  ∃ b6 o6 b7 o7 ll cc, A6 = some ⟨b6, o6, none⟩ ∧ W.cell? ⟨b6, o6 + k, none⟩ = some (.slice (some ⟨b7, o7, none⟩) ll cc) ∧ W.cell? ⟨b7, o7 + mm, none⟩ = some (.bool true) ∧ mm < ll))
                clear hE hGL hok hs0 hGm hqL hqLl
                go_wp2_with fail
                refine HTK.out.mono ?_
                rintro r w3 ⟨u3, rfl, hG3, hb3⟩
                obtain ⟨LG, Ag, cg, rfl, -, -, hLG, hGr⟩ := owng_grps hG3
                have HB3 := Lib.hid (HBW.out.trans (hb3.mono hmr))
                have HGR3 := Lib.hid hGr
                have HLG := Lib.hid hLG
                have hM6 : LG.length ≤ 6000 := by have := congrArg List.length hLG; simp at this; omega
                have hm3 : mb ≤ w3.heap.size := Nat.le_trans hmr hb3.size
                clear hG3 hb3 hLG hGr HTK n0 n1 n2 n3 n4
                generalize hM : LG.length = M at *
                have HMM := Lib.hid hM
                clear hM
                go_wp2_with fail
                generalize wr = wo at *
                go_loopg [191] M (fun gk i wr => ∃ j : Nat, j ≤ M ∧ gk = M - j ∧ i = .int .i64 j ∧ Hid (Below w3.heap.size w3 wr))
                case atStart => exact ⟨0, Nat.zero_le _, rfl, rfl, Lib.hid (Below.refl _ _)⟩
                case round =>
                  obtain ⟨j, hjM, rfl, rfl, HBj⟩ := hrel
                  by_cases hltj : j < M
                  · have HLTJ := Lib.hid hltj
                    obtain ⟨x, hx⟩ : ∃ x, LG[j]? = some x := ⟨LG[j]'(by rw [HMM.out]; exact hltj), List.getElem?_eq_getElem _⟩
                    have hGj := HGR3.out.below HBj.out
                    obtain ⟨bg, og, rfl, hbg, n0, n1, n2, n3⟩ := hGj.at_ hx
                    obtain ⟨w6, hw6⟩ : ∃ w6, wr.alloc (.cells #[.int .i64 (x.g.place : Int), .bool x.g.one, .string ⟨x.g.name.toArray⟩, .slice x.a x.g.mem.length x.c] 45) = w6 := ⟨_, rfl⟩
                    have hb6 : Below wr.heap.size wr w6 := hw6 ▸ (Below.refl _ _).alloc (Nat.le_refl _) _
                    have hX6 := Box.new wr 45 #[.int .i64 (x.g.place : Int), .bool x.g.one, .string ⟨x.g.name.toArray⟩, .slice x.a x.g.mem.length x.c]
                    rw [hw6] at hX6
                    have HB6j := Lib.hid (HBj.out.trans (hb6.mono HBj.out.size))
                    have HME := Lib.hid (Row.below (hGj.ok x (List.mem_of_getElem? hx)).mem (hb6.mono HBj.out.size))
                    have hxG : x.g ∈ G0 := by rw [← HLG.out]; exact List.mem_map_of_mem (List.mem_of_getElem? hx)
                    have HGX := Lib.hid (HG9.out x.g hxG)
                    have hml6 := (HGM.out x.g hxG).2.1
                    have HW6 := Lib.hid hw6
                    clear hw6 hb6 hx hGj hxG
                    go_upto_region 42 with fail
                    rw [HW6.out]
                    obtain ⟨y0, y1, y2, y3⟩ := four_cells hX6
                    clear n0 n1 n2 n3 hX6 HW6
                    generalize hml : x.g.mem.length = ml at *
                    have HML := Lib.hid hml
                    clear hml
                    generalize x.a = xa at *
                    have KL6 := Lib.hid (KL.out w6 (HB3.out.trans (HB6j.out.mono hm3)))
                    go_wp2_with fail
                    generalize wr = wj at *
                    go_loopg [198] ml (fun gk i wr => ∃ m : Nat, m ≤ ml ∧ gk = ml - m ∧ i = .int .i64 m ∧ w6 = wr)
                    case atStart => exact ⟨0, Nat.zero_le _, rfl, rfl, rfl⟩
                    case round =>
                      obtain ⟨m, hm, rfl, rfl, rfl⟩ := hrel
                      by_cases hltm : m < ml
                      · have HLM := Lib.hid hltm
                        obtain ⟨mm, hmm⟩ : ∃ mm, x.g.mem[m]? = some mm := ⟨x.g.mem[m]'(by rw [HML.out]; exact hltm), List.getElem?_eq_getElem _⟩
                        obtain ⟨bm, om, rfl, hbm, cm⟩ := Mems.at_ HME.out hmm
                        have hone2 : x.g.one = false ∨ x.g.one = true := by cases x.g.one <;> simp
                        rcases hone2 with hone | hone
                        · rw [hone] at y1
                          clear hmm hone
                          go_wp2_with fail
                          go_roundg (ml - (m + 1))
                          case measure => have := HLM.out; omega
                          case rel => exact ⟨m + 1, HLM.out, rfl, by go_num, rfl⟩
                        · rw [hone] at y1
                          obtain ⟨b6, o6, b7, o7, ll, cc, rfl, c6', c7', hll⟩ := KL6.out mm (HGX.out hone mm (List.mem_of_getElem? hmm))
                          clear hmm hone
                          have hi1 : (k : Int) < (k : Int) + 1 := by omega
                          have hi2 : (mm : Int) < (ll : Int) := by omega
                          go_wp2_with fail
                          go_roundg (ml - (m + 1))
                          case measure => have := HLM.out; omega
                          case rel => exact ⟨m + 1, HLM.out, rfl, by go_num, rfl⟩
                      · have hmn : m = ml := by omega
                        subst hmn
                        go_wp2_with fail
                        go_roundg (M - (j + 1))
                        case measure => have := HLTJ.out; omega
                        case rel => exact ⟨j + 1, HLTJ.out, rfl, by go_num, HB6j⟩
                  · have hjn : j = M := by omega
                    go_wp2_with fail
                    go_ret
                    exact ⟨rfl, HB6w.out.trans ((HB3.out.trans (HBj.out.mono hm3)).mono (by rw [← HMB.out]; exact HB6w.out.size))⟩

end Go.Proofs.Ytbpemehhbeejcaa
