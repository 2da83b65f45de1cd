/-
  Objects that are put are taken as they were (plain facts): the file.
-/
import Derived.Test.YtldmjnbmjfnfeaaGreatDoorSeBd
import Derived.Deep.DeepCutAuto
import Derived.Deep.LoopGhost
import Derived.Deep.RegionHeldLaw
import Derived.Deep.AppendLies
import Derived.Test.YtldmjnbmjfnfeaaGreatDoorObR
namespace Go.Proofs.YtldmjnbmjfnfeaaGreatDoor
open Go Go.RowKit

set_option maxRecDepth 10000 in
set_option maxHeartbeats 6400000 in
theorem file_any {w : World} (o : ObjV) (h : o.Ok w w.heap.size) (hR : rightO (secsOf o.L) o.Y (o.Q.map (·.l)) = true) (hS : o.L.length ≤ 8000) (hY : o.Y.length ≤ 100000) (hQ : o.Q.length ≤ 8000) (hnm : ∀ x ∈ o.L, x.s.name.length ≤ 8000) (hsum : sumN o.Y ≤ 50000) :
    Calls Tryz.prog 32 #[o.val] w fun r w' => ∃ A c L', r = .returned (.tuple #[.slice A L'.length c, .int .i64 0]) ∧ Secs w' w'.heap.size A L' ∧ L'.length ≤ c ∧ secsOf L' = fileO (secsOf o.L) o.Y (o.Q.map (·.l)) ∧ Below w.heap.size w w' := by
  obtain ⟨kd, mc, aS, cS, L, aY, cY, Y, aR, cR, Q⟩ := o
  rw [show ObjV.val ⟨kd, mc, aS, cS, L, aY, cY, Y, aR, cR, Q⟩ = .agg #[.int .i64 kd, .int .i64 mc, .slice aS L.length cS, .slice aY Y.length cY, .slice aR Q.length cR] from rfl]
  obtain ⟨hs, hy, hl, hcS, hcR⟩ := h
  simp only at hs hy hl hcS hcR hS hY hQ hnm hR hsum ⊢
  have hI := right_iso hR
  have hpos : 0 < L.length := by have := hI.pos; simpa using this
  have hb0 : Below w.heap.size w (w.alloc (.cells #[.int .i64 kd, .int .i64 mc, .slice aS L.length cS, .slice aY Y.length cY, .slice aR Q.length cR] 28)) := (Below.refl _ _).alloc (Nat.le_refl _) _
  have hX0 := Box.new w 28 #[.int .i64 kd, .int .i64 mc, .slice aS L.length cS, .slice aY Y.length cY, .slice aR Q.length cR]
  have hz0 : (w.alloc (.cells #[.int .i64 kd, .int .i64 mc, .slice aS L.length cS, .slice aY Y.length cY, .slice aR Q.length cR] 28)).heap.size = w.heap.size + 1 := by simp
  have HI := Lib.hid hI
  have HS := Lib.hid ((hs.below hb0).more hb0.size)
  have HY := Lib.hid (Row.more (Row.below hy hb0) hb0.size)
  have HL := Lib.hid ((hl.below hb0).more hb0.size)
  have HB0 := Lib.hid hb0
  have HCL := Lib.hid (sclone_any ((hs.below hb0).more hb0.size) cS hpos (by omega))
  have HSUM := Lib.hid hsum
  have HNM := Lib.hid hnm
  have HSL := Lib.hid (show (secsOf L).length = L.length by simp)
  have hlt0 : w.heap.size < (w.alloc (.cells #[.int .i64 kd, .int .i64 mc, .slice aS L.length cS, .slice aY Y.length cY, .slice aR Q.length cR] 28)).heap.size := by omega
  clear hs hy hl hR hI hsum hnm hz0 hb0
  generalize hN : L.length = N at *
  generalize hny : Y.length = ny at *
  generalize hnr : Q.length = nr at *
  have HN := Lib.hid hN
  have HNY := Lib.hid hny
  have HNR := Lib.hid hnr
  clear hN hny hnr
  obtain ⟨i2, hj2, hy0, hy1, hy2⟩ := info_parts sect_info
  have KX := Lib.hid (fun W (hW : Below (w.alloc (.cells #[.int .i64 kd, .int .i64 mc, .slice aS N cS, .slice aY ny cY, .slice aR nr cR] 28)).heap.size (w.alloc (.cells #[.int .i64 kd, .int .i64 mc, .slice aS N cS, .slice aY ny cY, .slice aR nr cR] 28)) W) => five_cells (hX0.below hW hlt0))
  obtain ⟨x0, x1, x2, x3, x4⟩ := KX.out _ (Below.refl _ _)
  go_enter Tryz.func32, Tryz.ntmps32
  go_wp2_with fail
  refine HCL.out.mono ?_
  rintro r w1 ⟨v1, rfl, hO1, hb1⟩
  clear HCL
  generalize w.alloc (.cells #[.int .i64 kd, .int .i64 mc, .slice aS N cS, .slice aY ny cY, .slice aR nr cR] 28) = w0 at *
  have HF1 := Lib.hid (show FileSt w0 w1 v1 L from ⟨hO1, fun x hx => ⟨.inl ((HS.out.below hb1).ok x hx).rd, (HS.out.ok x hx).le, (HS.out.ok x hx).cap⟩, fun x hx => (HS.out.ok x hx).fits, hb1⟩)
  obtain ⟨A1, c1, rfl, hc1, hm1, -⟩ := HF1.out.secs
  rw [HN.out]
  clear x0 x1 x2 x3 x4 hX0
  obtain ⟨x0, x1, x2, x3, x4⟩ := KX.out _ hb1
  clear hO1 hb1
  go_upto_if 19 with fail
  go_cut [4] (fun v wx => ∃ A L1 c, v = .slice A L1.length c ∧ FileSt w0 wx v L1 ∧ secsOf L1 = headF (secsOf L) Y)
  case first =>
    by_cases hy00 : ny = 0
    · have d1 : decide (0 < ny) = false := decide_eq_false (by omega)
      have HHF := Lib.hid (show secsOf L = headF (secsOf L) Y by unfold headF; rw [HNY.out, if_pos hy00, List.append_nil])
      subst hy00
      go_wp2_with fail
      go_meet
      case rel => exact ⟨A1, L, c1, by rw [HN.out], by have := HF1.out; rwa [HN.out] at this, HHF.out⟩
    · have d1 : decide (0 < ny) = true := decide_eq_true (by omega)
      have hnyp : 0 < ny := by omega
      have hB1 := HF1.out.below
      have HPU := Lib.hid (yput_any (Row.more (Row.below HY.out hB1) hB1.size) cY (by rw [HNY.out]; exact hY) HSUM.out)
      rw [HI.out.syms, show errOf true 2 = 0 from rfl, HNY.out] at HPU
      have HHF := Lib.hid (show headF (secsOf L) Y = secsOf L ++ [symtabS N (tabY Y), strtabS (txtY Y)] by unfold headF; rw [HNY.out, if_neg hy00, HSL.out])
      have HTS := Lib.hid (tabY_size HI.out.syms)
      have HXS := Lib.hid (txtY_size HI.out.syms HSUM.out)
      clear hy00 hB1
      go_wp2_with fail
      refine HPU.out.mono ?_
      rintro r w2 ⟨u2, v2, rfl, hu2, hv2, -, hb2⟩
      obtain ⟨Au, cu, rfl, _, _, _⟩ := own_slice hu2
      obtain ⟨Av, cv, rfl, _, _, _⟩ := own_slice hv2
      have HF2 := Lib.hid (HF1.out.later hb2)
      have HU2 := Lib.hid (show Own w2 w0.heap.size (.slice Au (tabY Y).length cu) (tabY Y) from row_base hu2 HF1.out.below.size)
      have HV2 := Lib.hid (show Own w2 w0.heap.size (.slice Av (txtY Y).length cv) (txtY Y) from row_base hv2 HF1.out.below.size)
      have hr2 : w2.ownsRow w0.heap.size 39 9 (.slice A1 N c1) N (cellsL L) := by have := HF2.out.row; rwa [OwnL, HN.out] at this
      have h63 : N + 2 ≤ maxLen := by unfold maxLen; omega
      have hby : (N + 2) * 96 ≤ 140737488355328 := by omega
      have hbz := HF2.out.below.size
      have H1 := Lib.hid (show ∀ u ∈ cellsL [(⟨symtabS N (tabY Y), Au, cu⟩ : Lay), ⟨strtabS (txtY Y), Av, cv⟩], u.oneCell' = true from fun u hu => by
        obtain ⟨x, _, hx⟩ := List.mem_flatMap.1 hu
        exact cells_one x u hx)
      clear hu2 hv2 hb2 HPU x0 x1 x2 x3 x4
      go_wp2_with (at_builtin; (refine wpList_append_lies _ (by rfl) (.tmp 30) (.tmp 37) _ (by rfl) w0.heap.size 39 i2 _ 9 96 Tryz.underlying24 hj2 hy0 hy1 hy2 (by rfl) (by decide) (.slice A1 N c1) N (cellsL L) (by rfl) (by exact hr2.alloc _) ⟨w2.heap.size, 0, none⟩ 2 2 (cellsL [(⟨symtabS N (tabY Y), Au, cu⟩ : Lay), ⟨strtabS (txtY Y), Av, cv⟩]) (by rfl) rfl (fun j u h => cells_new w2 (cellsL [(⟨symtabS N (tabY Y), Au, cu⟩ : Lay), ⟨strtabS (txtY Y), Av, cv⟩]) _ j u h) H1.out (by decide) h63 hby (by simp; omega) _ rfl ?_); intro g8 cap8 w8 hown8 hg8 hat8 hlt8)
      have HFn := Lib.hid (FileSt.more (w' := w8) (HF2.out.alloc (.cells (cellsL [(⟨symtabS N (tabY Y), Au, cu⟩ : Lay), ⟨strtabS (txtY Y), Av, cv⟩]).toArray 39)) (M := [(⟨symtabS N (tabY Y), Au, cu⟩ : Lay), ⟨strtabS (txtY Y), Av, cv⟩]) (g := g8) (c := cap8) (fun x hx => by
        simp only [List.mem_cons, List.not_mem_nil, or_false] at hx
        rcases hx with rfl | rfl
        · exact ⟨row_below HU2.out ((Below.refl _ _).alloc (Nat.le_refl _) _), symtab_fits N (by omega) _ (by have := HTS.out; omega)⟩
        · exact ⟨row_below HV2.out ((Below.refl _ _).alloc (Nat.le_refl _) _), strtab_fits _ (by have := HXS.out; omega)⟩) (by rw [HN.out]; exact hown8) (by rw [HN.out]; exact hg8))
      clear hown8 hg8 hat8 hlt8 hr2
      go_meet
      case rel => exact ⟨some ⟨g8, 0, none⟩, L ++ [(⟨symtabS N (tabY Y), Au, cu⟩ : Lay), ⟨strtabS (txtY Y), Av, cv⟩], cap8, by rw [List.length_append, HN.out]; rfl, by rw [show N + 2 = (L ++ [(⟨symtabS N (tabY Y), Au, cu⟩ : Lay), ⟨strtabS (txtY Y), Av, cv⟩]).length by rw [List.length_append, HN.out]; rfl]; exact HFn.out, by rw [HHF.out]; simp [secsOf]⟩
  case rest =>
    obtain ⟨A2, L2, c2, rfl, hF, hS2⟩ := hcut
    have HF := Lib.hid hF
    have HS2 := Lib.hid hS2
    have hlen2 : L2.length ≤ 8002 := by
      have h1 := congrArg List.length hS2
      have h2 := HSL.out
      unfold headF at h1
      rw [List.length_append, HSL.out] at h1
      have h3 : (if Y.length = 0 then [] else [symtabS N (tabY Y), strtabS (txtY Y)] : List Sect).length ≤ 2 := by split <;> simp
      simp only [secsOf, List.length_map] at h1
      omega
    have HLN2 := Lib.hid (show (headF (secsOf L) Y).length ≤ 8002 by rw [← hS2]; simpa using hlen2)
    obtain ⟨x0, x1, x2, x3, x4⟩ := KX.out _ hF.below
    clear hF hS2 hlen2 HF1
    go_wp2_with fail
    go_loopg [4, 42] nr (fun gk v i wx => ∃ (k : Nat) (A : Option Addr) (L1 : List Lay) (c : Nat), k ≤ nr ∧ gk = nr - k ∧ i = .int .i64 k ∧ v = .slice A L1.length c ∧ FileSt w0 wx v L1 ∧ Hid (secsOf L1 = headF (secsOf L) Y ++ relF (secsOf L) (Q.map (·.l)) k))
    case atStart => exact ⟨0, A2, L2, c2, Nat.zero_le _, rfl, rfl, rfl, HF.out, Lib.hid (by rw [HS2.out]; simp [relF])⟩
    case round =>
      obtain ⟨k, A3, L3, c3, hk, rfl, rfl, rfl, hF, HSE⟩ := hrel
      clear x0 x1 x2 x3 x4
      have HFk := Lib.hid hF
      obtain ⟨x0, x1, x2, x3, x4⟩ := KX.out _ hF.below
      have hL3 : L3.length ≤ 8002 + k := by
        have h1 := congrArg List.length HSE.out
        rw [List.length_append] at h1
        have h2 := relF_length (secsOf L) (Q.map (·.l)) k
        have h3 := HLN2.out
        simp only [secsOf, List.length_map] at h1 h2 h3
        omega
      by_cases hlt : k < nr
      · obtain ⟨q, hq⟩ : ∃ q, Q[k]? = some q := ⟨Q[k]'(by rw [HNR.out]; exact hlt), List.getElem?_eq_getElem _⟩
        have hLw := HL.out.below hF.below
        obtain ⟨b2, o2, rfl, hb2, c0⟩ := hLw.at_ hq
        have hm : (Q.map (·.l))[k]? = some q.l := by rw [List.getElem?_map, hq]; rfl
        have hnN : nr = N := by
          have := HI.out.len
          rw [List.length_map, HNR.out, HSL.out] at this
          omega
        have hkN : k < N := by omega
        clear hnN
        obtain ⟨x, hx⟩ : ∃ x, L[k]? = some x := ⟨L[k]'(by rw [HN.out]; exact hkN), List.getElem?_eq_getElem _⟩
        obtain ⟨b, oo, rfl, hb, n0, -⟩ := (HS.out.below hF.below).at_ hx
        have hfit := (HI.out.fit (List.mem_of_getElem? hm)).1
        have hqr := hLw.rels q (List.mem_of_getElem? hq)
        have hgs := get_secsOf hx
        have hxn := HNM.out x (List.mem_of_getElem? hx)
        have HLT := Lib.hid hlt
        by_cases hq0 : q.l.length = 0
        · have d1 : decide (0 < q.l.length) = false := decide_eq_false (by omega)
          have HE1 := Lib.hid (relF_none hgs hm hq0)
          rw [hq0] at c0 d1
          clear hq hLw hm hx hgs hqr hF n0
          go_wp2_with fail
          go_roundg (nr - (k + 1))
          case measure => have := HLT.out; omega
          case rel => exact ⟨k + 1, A3, L3, c3, HLT.out, rfl, by go_num, rfl, HFk.out, Lib.hid (by rw [HE1.out]; exact HSE.out)⟩
        · have d1 : decide (0 < q.l.length) = true := decide_eq_true (by omega)
          have hqp : 0 < q.l.length := by omega
          have HE1 := Lib.hid (relF_some hgs hm hq0)
          have hFs := hF.below.size
          have HPR := Lib.hid (fun W (hW : Below wr.heap.size wr W) => (show Calls Tryz.prog 59 #[.slice q.a q.l.length q.c] W (fun r w' => ∃ u, r = .returned u ∧ Own w' w0.heap.size u (relB q.l q.l.length) ∧ Below wr.heap.size wr w') from
            (yputr_any (Row.more (Row.below (Row.more hqr hFs) hW) hW.size) q.c (by omega)).mono fun r w' ⟨u, h1, h2, h3⟩ => ⟨u, h1, row_base h2 (Nat.le_trans hFs hW.size), hW.trans (h3.mono hW.size)⟩))
          have hA0 := hF.below
          have KC := Lib.hid (fun W (hW : Below w0.heap.size w0 W) => (⟨hW, (KX.out W hW).2.2.1, by rw [hW.cell (p := ⟨b, oo + k * 9, none⟩) hb, ← hF.below.cell (p := ⟨b, oo + k * 9, none⟩) hb]; exact n0⟩ :
            Below w0.heap.size w0 W ∧ W.cell? ⟨w.heap.size, 2, none⟩ = some (.slice (some ⟨b, oo, none⟩) N cS) ∧ W.cell? ⟨b, oo + k * 9, none⟩ = some (.string ⟨x.s.name.toArray⟩)))
          have hcat := cat_rela x.s.name (by omega)
          have hqb := relB_length q.l q.l.length
          have HRF := Lib.hid (rela_fits N k (by omega) (by omega) x.s.name hxn q.l hfit)
          have h63 : L3.length + 1 ≤ maxLen := by unfold maxLen; omega
          have hby : (L3.length + 1) * 96 ≤ 140737488355328 := by omega
          have HSLk := HSL
          have hi1 : (0 : Int) ≤ (k : Int) := by omega
          have hi2 : (k : Int) < (N : Int) := by omega
          rw [HSL.out] at HE1
          clear hq hLw hm hx hgs hqr hF x0 x1 x3 x4
          go_upto_region 12 with fail
          clear c0
          go_region_held_law (fun W => Below w0.heap.size w0 W ∧ W.cell? ⟨w.heap.size, 2, none⟩ = some (.slice (some ⟨b, oo, none⟩) N cS) ∧ W.cell? ⟨b, oo + k * 9, none⟩ = some (.string ⟨x.s.name.toArray⟩))
            ((refine KC.out _ ?_; first | assumption | exact hA0.drew | exact hb7a _))
            (first
              | (go_at_call 59; refine (HPR.out _ ((Below.refl _ _).drew)).mono ?_; rintro r w7 ⟨u7, rfl, hown7, hb7⟩; (obtain ⟨A7, c7, rfl, hc7, hcm7, hrd7⟩ := own_slice hown7); have HF7 := Lib.hid (HFk.out.later hb7); have HO7 := Lib.hid hown7; have hb7b := HF7.out.below; have hb7a := (fun o => hb7b.alloc hb7b.size o); have hr7 := HF7.out.row; have hbs7 := HF7.out.below.size; have hB7 := Lib.hid hb7; clear hown7 HPR)
              | (refine step_append_lies _ (by rfl) (.tmp 50) (.tmp 63) _ (by rfl) w0.heap.size 39 i2 _ 9 96 Tryz.underlying24 hj2 hy0 hy1 hy2 (by rfl) (by decide) (.slice A3 L3.length c3) L3.length (cellsL L3) (by rfl) (by exact hr7.alloc _) ⟨w7.heap.size, 0, none⟩ 1 1 (Lay.cells ⟨relaS N k x.s.name q.l, A7, c7⟩) (by rfl) rfl (fun j u h => cells_at ⟨relaS N k x.s.name q.l, A7, c7⟩ w7 _ j u h) (cells_one _) (by decide) h63 hby (by simp; omega) _ rfl ?_; intro g8 cap8 w8 hown8 hg8 hat8 hlt8; have hb8 := (hb7a _).trans (row_turns (hr7.alloc _) hg8 (by simp; omega)).1; have HG8 := Lib.hid hg8; have HW8 := Lib.hid hown8; clear hg8 hown8 hat8))
          have HFn := Lib.hid (FileSt.more (w' := w8) (HF7.out.alloc (.cells (Lay.cells ⟨relaS N k x.s.name q.l, A7, c7⟩).toArray 39)) (M := [⟨relaS N k x.s.name q.l, A7, c7⟩]) (g := g8) (c := cap8) (fun y hy => by
            simp only [List.mem_cons, List.not_mem_nil, or_false] at hy
            subst hy
            exact ⟨row_below HO7.out ((Below.refl _ _).alloc (Nat.le_refl _) _), HRF.out⟩) (by simpa [cellsL] using HW8.out) HG8.out)
          rw [show (L3 ++ [(⟨relaS N k x.s.name q.l, A7, c7⟩ : Lay)]).length = L3.length + 1 by simp] at HFn
          clear hb7 hb7a hb7b hb8 hr7 hbs7 hlt8
          go_wp2_with fail
          go_roundg (nr - (k + 1))
          case measure => have := HLT.out; omega
          case rel => exact ⟨k + 1, some ⟨g8, 0, none⟩, L3 ++ [⟨relaS N k x.s.name q.l, A7, c7⟩], cap8, HLT.out, rfl, by go_num, by rw [List.length_append]; rfl, HFn.out, Lib.hid (by rw [HE1.out, ← List.append_assoc, ← HSE.out]; simp [secsOf])⟩
      · have hkn : k = nr := by omega
        have hr3 := HFk.out.row
        have hbs3 := HFk.out.below.size
        have h63 : L3.length + 1 ≤ maxLen := by unfold maxLen; omega
        have hby : (L3.length + 1) * 96 ≤ 140737488355328 := by omega
        clear hF x0 x1 x2 x3 x4
        go_wp2_with (at_builtin; refine wpList_append_lies _ (by rfl) (.tmp 66) (.tmp 68) _ (by rfl) w0.heap.size 39 i2 _ 9 96 Tryz.underlying24 hj2 hy0 hy1 hy2 (by rfl) (by decide) (.slice A3 L3.length c3) L3.length (cellsL L3) (by rfl) (by exact hr3.alloc _) ⟨wr.heap.size, 0, none⟩ 1 1 (Lay.cells ⟨tabS, none, 0⟩) (by rfl) rfl (fun j u h => cells_at ⟨tabS, none, 0⟩ wr _ j u h) (cells_one _) (by decide) h63 hby (by simp; omega) _ rfl ?_; intro g8 cap8 w8 hown8 hg8 hat8 hlt8)
        have HFn := Lib.hid (FileSt.more (w' := w8) (HFk.out.alloc (.cells (Lay.cells ⟨tabS, none, 0⟩).toArray 39)) (M := [⟨tabS, none, 0⟩]) (g := g8) (c := cap8) (fun y hy => by
          simp only [List.mem_cons, List.not_mem_nil, or_false] at hy
          subst hy
          exact ⟨World.ownsRow_nil _ _ _ _, tab_fits⟩) (by simpa [cellsL] using hown8) hg8)
        obtain ⟨A9, c9, e9, hc9, _, hS9⟩ := HFn.out.secs
        injection e9 with e91 e92 e93
        have HS9 := Lib.hid hS9
        have HC9 := Lib.hid hc9
        have HA9 := Lib.hid e91
        have HC9' := Lib.hid e93
        clear hown8 hg8 hat8 hlt8 e91 e92 e93 hS9 hc9
        go_ret2
        refine ⟨some ⟨g8, 0, none⟩, cap8, L3 ++ [⟨tabS, none, 0⟩], by rw [List.length_append]; rfl, by rw [HA9.out]; exact HS9.out, by rw [HC9'.out]; exact HC9.out, ?_, HB0.out.trans (HFn.out.below.mono HB0.out.size)⟩
        unfold fileO
        rw [← List.append_assoc, List.length_map, HNR.out, ← hkn, ← HSE.out]
        simp [secsOf]

end Go.Proofs.YtldmjnbmjfnfeaaGreatDoor

namespace Go.Proofs.YtldmjnbmjfnfeaaGreatDoor
open Go Go.RowKit

theorem fileO_length {S : List Sect} {Y : List Sym} {R : List (List Rel)} (hS : S.length ≤ 8000) (hR : R.length ≤ 8000) : (fileO S Y R).length ≤ 100000 := by
  unfold fileO headF
  rw [List.length_append, List.length_append, List.length_append]
  have h1 := relF_length S R R.length
  have h2 : (if Y.length = 0 then [] else [symtabS S.length (tabY Y), strtabS (txtY Y)] : List Sect).length ≤ 2 := by split <;> simp
  simp only [List.length_cons, List.length_nil]
  omega
/-- Within what the walks ask of an object. -/
structure ObjV.Bulk (o : ObjV) : Prop where
  S : o.L.length ≤ 8000
  nm : ∀ x ∈ o.L, x.s.name.length ≤ 8000
  Y : o.Y.length ≤ 8000
  sum : sumN o.Y ≤ 50000
  Q : o.Q.length ≤ 8000
  q : ∀ q ∈ o.Q, q.l.length ≤ 100000

set_option maxRecDepth 10000 in
set_option maxHeartbeats 6400000 in
theorem oput_any {w : World} (o : ObjV) (h : o.Ok w w.heap.size) (hK : o.Bulk) (hM : Mg w) :
    Calls Tryz.prog 11 #[o.val] w fun r w' => ∃ v, r = .returned (.tuple #[v, .int .i64 (oputE o.kind o.machine (secsOf o.L) o.Y (o.Q.map (·.l)))]) ∧ Own w' w.heap.size v (oputR o.kind o.machine (secsOf o.L) o.Y (o.Q.map (·.l))) ∧ Below w.heap.size w w' := by
  have hb0 : Below w.heap.size w (w.alloc (.cells o.cells.toArray 28)) := (Below.refl _ _).alloc (Nat.le_refl _) _
  have hX0 := Box.new w 28 o.cells.toArray
  have hz0 : w.heap.size < (w.alloc (.cells o.cells.toArray 28)).heap.size := by simp
  have hO1 := (h.below hb0).more hb0.size
  have HRT := Lib.hid (oright_any o hO1 (Nat.le_trans hK.S (by decide)) (Nat.le_trans hK.Y (by decide)) (Nat.le_trans hK.Q (by decide)) hK.q)
  have HFI := Lib.hid (fun W (hW : Below w.heap.size w W) (hR : rightO (secsOf o.L) o.Y (o.Q.map (·.l)) = true) => file_any o ((h.below hW).more hW.size) hR hK.S (Nat.le_trans hK.Y (by decide)) hK.Q hK.nm hK.sum)
  have HLN := Lib.hid (show (fileO (secsOf o.L) o.Y (o.Q.map (·.l))).length ≤ 100000 from fileO_length (by have := hK.S; simpa using this) (by have := hK.Q; simpa using this))
  have HPE := Lib.hid (show ∀ b, rightO (secsOf o.L) o.Y (o.Q.map (·.l)) = b → (b = false → oputE o.kind o.machine (secsOf o.L) o.Y (o.Q.map (·.l)) = 2 ∧ oputR o.kind o.machine (secsOf o.L) o.Y (o.Q.map (·.l)) = []) ∧ (b = true → oputE o.kind o.machine (secsOf o.L) o.Y (o.Q.map (·.l)) = putE o.kind o.machine (fileO (secsOf o.L) o.Y (o.Q.map (·.l))) ∧ oputR o.kind o.machine (secsOf o.L) o.Y (o.Q.map (·.l)) = putR o.kind o.machine (fileO (secsOf o.L) o.Y (o.Q.map (·.l)))) from fun b hb =>
    ⟨fun e => by unfold oputE oputR; rw [hb, e]; exact ⟨rfl, rfl⟩, fun e => by unfold oputE oputR; rw [hb, e]; exact ⟨rfl, rfl⟩⟩)
  have HM := Lib.hid hM
  have hMp := hM.pos
  have KX := Lib.hid (fun W (hW : Below (w.alloc (.cells o.cells.toArray 28)).heap.size (w.alloc (.cells o.cells.toArray 28)) W) => five_cells (c0 := .int .i64 o.kind) (c1 := .int .i64 o.machine) (c2 := .slice o.aS o.L.length o.cS) (c3 := .slice o.aY o.Y.length o.cY) (c4 := .slice o.aR o.Q.length o.cR) (hX0.below hW hz0))
  have HB0 := Lib.hid hb0
  rw [show o.val = .agg #[.int .i64 o.kind, .int .i64 o.machine, .slice o.aS o.L.length o.cS, .slice o.aY o.Y.length o.cY, .slice o.aR o.Q.length o.cR] from rfl] at HRT HFI ⊢
  rw [show o.cells.toArray = #[.int .i64 o.kind, .int .i64 o.machine, .slice o.aS o.L.length o.cS, .slice o.aY o.Y.length o.cY, .slice o.aR o.Q.length o.cR] from rfl] at HRT KX HB0
  clear hb0 hX0 hz0 hO1 h hK hM
  generalize secsOf o.L = S at *
  generalize o.Y.length = ny at *
  generalize o.L.length = n at *
  generalize o.Q.length = nr at *
  generalize o.Q.map (·.l) = R at *
  generalize o.Y = Y at *
  generalize o.kind = kd at *
  generalize o.machine = mc at *
  generalize o.aS = aS at *
  generalize o.cS = cS at *
  generalize o.aY = aY at *
  generalize o.cY = cY at *
  generalize o.aR = aR at *
  generalize o.cR = cR at *
  obtain ⟨x0, x1, x2, x3, x4⟩ := KX.out _ (Below.refl _ _)
  go_enter Tryz.func11, Tryz.ntmps11
  go_wp2_with fail
  refine HRT.out.mono ?_
  rintro r w1 ⟨rfl, hb1⟩
  clear x0 x1 x2 x3 x4
  obtain ⟨x0, x1, x2, x3, x4⟩ := KX.out _ hb1
  have HB1 := Lib.hid hb1
  have HW1 := Lib.hid (HB0.out.trans (hb1.mono HB0.out.size))
  clear hb1
  cases hr : rightO S Y R with
  | false =>
    have HF := Lib.hid ((HPE.out _ hr).1 rfl)
    clear hr
    go_wp2_with fail
    go_ret2
    exact ⟨_, by rw [HF.out.1]; rfl, by rw [HF.out.2]; exact World.ownsRow_nil _ _ _ _, HW1.out⟩
  | true =>
    have HF := Lib.hid ((HPE.out _ hr).2 rfl)
    have HFI1 := Lib.hid (HFI.out w1 HW1.out hr)
    clear hr HFI HPE
    go_wp2_with fail
    refine HFI1.out.mono ?_
    rintro r w2 ⟨A2, c2, L2, rfl, hS2, hc2, hL2, hb2⟩
    have HB2 := Lib.hid (HB1.out.trans (hb2.mono HB1.out.size))
    have HW2 := Lib.hid (HW1.out.trans (hb2.mono HW1.out.size))
    clear x0 x1 x2 x3 x4
    obtain ⟨x0, x1, x2, x3, x4⟩ := KX.out _ HB2.out
    have HPU := Lib.hid (sput_any kd mc hS2 (HM.out.below HW2.out hMp) c2 hc2 (by have h1 := HLN.out; rw [← hL2] at h1; simpa using h1))
    rw [hL2, ← HF.out.1, ← HF.out.2] at HPU
    clear hS2 hb2 hL2 HFI1
    generalize L2.length = n2 at *
    go_wp2_with (go_at_call 33; refine HPU.out.mono ?_; rintro r w3 ⟨v3, rfl, ho3, hb3⟩; have HO3 := Lib.hid (row_base ho3 HW2.out.size); have HW3 := Lib.hid (HW2.out.trans (hb3.mono HW2.out.size)); clear ho3 hb3)
    go_ret2
    exact ⟨_, rfl, HO3.out, HW3.out⟩

end Go.Proofs.YtldmjnbmjfnfeaaGreatDoor

namespace Go.Proofs.YtldmjnbmjfnfeaaGreatDoor
open Go Go.RowKit

set_option maxRecDepth 4000 in
theorem put_take2 {kind machine : Int} {l : List Sect} {m : Nat} {z : Sect} (h : RightIs7 l m z) (hkm : (kind = 1 ∨ kind = 2) ∧ (machine = 62 ∨ machine = 183)) (hN : ∀ s ∈ l, s.flags < two64 ∧ s.addr < two64 ∧ s.data.length ≤ 12864) :
    secE (fileB kind machine l) = 0 ∧ (∃ o : Nat, secH (fileB kind machine l) = hdV kind machine o ((m + 1 : Nat) : Int) (m : Int)) ∧ secL (fileB kind machine l) = tabled l (putsT (gat (l.map (·.name))).1) ∧ (fileB kind machine l).length ≤ 1000000 := by
  obtain ⟨T, hT⟩ : ∃ T, putsT (gat (l.map (·.name))).1 = T := ⟨_, rfl⟩
  obtain ⟨ps, hps⟩ : ∃ ps, (gat (l.map (·.name))).2 = ps := ⟨_, rfl⟩
  have hnl : (l.map (·.name)).length = m + 1 := by rw [List.length_map, h.len]
  have hm1 := h.one
  have hm63 := h.most
  have hrn := right_names h
  have hTl : T.length ≤ 12864 := by
    have h1 := (gat_knows _ hrn (by omega)).2
    rw [← hT, spanT_puts (gat_good _).1]
    omega
  have hR := tabled_right h (t := T) (by omega)
  obtain ⟨ss, hss⟩ : ∃ ss, tabled l T = ss := ⟨_, rfl⟩
  rw [hss] at hR
  have hpl : ps.length = m + 1 := by rw [← hps, gat_count, hnl]
  have hnm : ss.map (·.name) = l.map (·.name) := by rw [← hss]; exact tabled_names T h.len h.last
  have hsd : ∀ s ∈ ss, s.data.length ≤ 12864 ∧ s.flags < two64 ∧ s.addr < two64 := by
    intro s hs
    obtain ⟨i, hi, e⟩ := List.getElem_of_mem hs
    have hs' : ss[i]? = some s := by rw [← e]; exact List.getElem?_eq_getElem hi
    rw [← hss, tabled_get h.len h.last] at hs'
    by_cases him : i = m
    · rw [if_pos him] at hs'
      injection hs' with hs'
      subst hs'
      have := hN z (List.mem_of_getElem? h.last)
      exact ⟨hTl, this.1, this.2.1⟩
    · rw [if_neg him] at hs'
      have := hN s (List.mem_of_getElem? hs')
      exact ⟨by omega, this.1, this.2.1⟩
  -- what is laid
  obtain ⟨Y, hY⟩ : ∃ Y, (layK ss ps m).1 = Y := ⟨_, rfl⟩
  obtain ⟨es, hes⟩ : ∃ es, (layK ss ps m).2 = es := ⟨_, rfl⟩
  have hYl : Y.length ≤ 64 + m * 12871 := by rw [← hY]; exact layK_size2 ss ps 12864 (fun s hs => (hsd s hs).1) m
  have hY64 : 64 ≤ Y.length := by rw [← hY]; exact layK_64 _ _ _
  have hel : es.length = m + 1 := by rw [← hes]; exact layK_all (by rw [hR.len]; omega) (by omega)
  have het : ∀ e ∈ es, e.length = 10 := by rw [← hes]; exact layK_tens _ _ _
  have hlaid : laidS l = (padB Y, es) := by
    unfold laidS
    simp only
    rw [hT, hps, hss, h.len, Nat.add_sub_cancel, hY, hes]
  obtain ⟨bb, hbb⟩ : ∃ bb, padB Y = bb := ⟨_, rfl⟩
  have hbbl : bb.length = Y.length + padN Y.length := by rw [← hbb, padB_length]
  have hpad := padN_lt Y.length
  have hebl : (entsB es).length = 64 * (m + 1) := by rw [entsB_length es het, hel]
  obtain ⟨X, hX⟩ : ∃ X, bb ++ entsB es = X := ⟨_, rfl⟩
  have hXl : X.length = bb.length + 64 * (m + 1) := by rw [← hX, List.length_append, hebl]
  obtain ⟨B, hB⟩ : ∃ B, headB kind machine bb.length ((m + 1 : Nat) : Int) (m : Int) ++ X.drop 64 = B := ⟨_, rfl⟩
  have hfile : fileB kind machine l = B := by
    unfold fileB
    rw [hlaid]
    simp only
    rw [hbb, hX, h.len, Nat.add_sub_cancel, hB]
  have hBX : ∀ q, 64 ≤ q → B.drop q = X.drop q := fun q hq => by rw [← hB]; exact file_drop _ _ (headB_length _ _ _ _ _) q hq
  have hYX : X = Y ++ (List.replicate (padN Y.length) 0 ++ entsB es) := by rw [← hX, ← hbb]; unfold padB; rw [List.append_assoc]
  -- the header
  have hr : (X.drop 64).length = X.length - 64 := List.length_drop
  have hto : (64 + (X.drop 64).length : Nat) = X.length := by omega
  have hRO : rightOf kind machine bb.length ((m + 1 : Nat) : Int) (m : Int) (64 + (X.drop 64).length : Nat) = true := by
    rw [hto, hXl]
    unfold rightOf
    rw [decide_eq_true hkm.1, decide_eq_true hkm.2, decide_eq_true (show 1 ≤ ((m + 1 : Nat) : Int) ∧ ((m + 1 : Nat) : Int) ≤ 64 by omega), decide_eq_true (show 1 ≤ (m : Int) ∧ (m : Int) < ((m + 1 : Nat) : Int) by omega), decide_eq_true (show (0 : Int) ≤ ((bb.length + 64 * (m + 1) : Nat) : Int) ∧ (bb.length : Int) + ((m + 1 : Nat) : Int) * 64 ≤ ((bb.length + 64 * (m + 1) : Nat) : Int) by omega)]
    rfl
  obtain ⟨hTE, hTH, hBl⟩ := take_back (t := kind) (m := machine) (o := bb.length) (n := ((m + 1 : Nat) : Int)) (s := (m : Int)) (r := X.drop 64) (l' := B) (by unfold two64; omega) hRO (by rw [hB]; exact Alike.refl _)
  rw [hto] at hBl
  obtain ⟨_, _, _, _, _, _, _, hTF⟩ := take_facts hTE
  rw [hTH] at hTF
  have hinj : bb.length = offT B ∧ m + 1 = cntT B ∧ m = shsT B := by
    have h1 : [Value.int .i64 kind, .int .i64 machine, .int .u64 (bb.length : Int), .int .i64 ((m + 1 : Nat) : Int), .int .i64 (m : Int)] = [Value.int .i64 (numT (B.take 64) 16 2 : Int), .int .i64 (numT (B.take 64) 18 2 : Int), .int .u64 (offT B : Int), .int .i64 (cntT B : Int), .int .i64 (shsT B : Int)] := by
      have := Value.agg.inj hTF
      exact congrArg Array.toList this
    simp only [List.cons.injEq, Value.int.injEq, true_and, and_true] at h1
    omega
  obtain ⟨hof, hcn, hsh⟩ := hinj
  have hbig : ¬ 1048576 < B.length := by rw [hBl, hXl, hbbl]; omega
  rw [hfile]
  -- entry by entry
  have hcut : ∀ (i : Nat) (e : List Nat), es[i]? = some e → (B.drop (bb.length + 64 * i)).take 64 = entB e := fun i e he => by
    rw [hBX _ (by omega), ← hX, List.drop_append, List.drop_eq_nil_of_le (by omega), List.nil_append, Nat.add_sub_cancel_left]
    exact entsB_cut het he
  have key : ∀ (i : Nat) (s : Sect), ss[i + 1]? = some s → ∃ e, es[i + 1]? = some e ∧ entN B (bb.length + 64 * (i + 1)) = e ∧ entE e B.length = 0 ∧ dataT B e = s.data ∧ kindN e = wrapN s.kind ∧ (atT T (nameN e)).2 = 0 ∧ sectT B T e = s := fun i s hs => by
    have him : i + 1 ≤ m := by have := (List.getElem?_eq_some_iff.1 hs).1; rw [hR.len] at this; omega
    have hn : (l.map (·.name))[i + 1]? = some s.name := by rw [← hnm, List.getElem?_map, hs]; rfl
    obtain ⟨p, hp, hat, hpb⟩ := gat_names _ hrn (by omega) hn
    rw [hps] at hp
    rw [hT] at hat
    obtain ⟨h1, h2⟩ := layK_at hs hp him (by rw [hR.len]; omega) (by omega)
    rw [hes] at h1
    rw [hY] at h2
    have hq64 : 64 ≤ (padB (layK ss ps i).1).length := by rw [padB_length]; have := layK_64 ss ps i; omega
    have hqY : (padB (layK ss ps i).1).length ≤ Y.length := by
      have := h2.length_le
      rw [List.length_append] at this
      omega
    obtain ⟨hd1, hd2, hd3⟩ := hsd s (List.mem_of_getElem? hs)
    have hin : s.kind ≠ 8 → (padB (layK ss ps i).1).length + s.data.length ≤ B.length ∧ (B.drop (padB (layK ss ps i).1).length).take s.data.length = s.data := fun h8 => by
      rw [if_neg h8] at h2
      have hc := cut_prefix h2 (List.replicate (padN Y.length) 0 ++ entsB es)
      rw [← hYX] at hc
      rw [hBX _ hq64]
      exact ⟨by rw [hBl, hXl, hbbl]; omega, hc.1⟩
    obtain ⟨f1, f2, f3, f4, f5⟩ := ent_facts (hR.ok (i + 1) s (by omega) hs) hd2 hd3 (p := p) (q := (padB (layK ss ps i).1).length) (by omega) (by unfold two64; omega) hin
    exact ⟨_, h1, entN_of (hcut _ _ h1) f1, f2, f3, f4, by show (atT T p).2 = 0; rw [hat], f5 T hat⟩
  have h0 : entN B bb.length = List.replicate 10 0 := by
    have h1 := layK_first ss ps m
    rw [hes] at h1
    have := entN_of (hcut 0 _ h1) zeros_enc
    rwa [Nat.mul_zero, Nat.add_zero] at this
  have hent : ∀ k, k < m + 1 → entE (entN B (bb.length + 64 * k)) B.length = 0 := fun k hk => by
    rcases k with _ | k
    · rw [Nat.mul_zero, Nat.add_zero, h0]; rfl
    · obtain ⟨e, _, g1, g2, _⟩ := key k _ (List.getElem?_eq_getElem (show k + 1 < ss.length by rw [hR.len]; omega))
      rw [g1]; exact g2
  have hERR : errUp B (offT B) (cntT B) = 0 := by rw [← hof, ← hcn]; exact errUp_zero hent
  obtain ⟨m', rfl⟩ : ∃ m', m = m' + 1 := ⟨m - 1, by omega⟩
  obtain ⟨el, _, gl1, gl2, gl3, gl4, _, _⟩ := key m' _ hR.last
  have hTB : tblT B bb.length (m' + 1) = T := by unfold tblT; rw [gl1]; exact gl3
  have hgz := gat_zero (ns := l.map (·.name)) (by rw [List.getElem?_map, h.first]; rfl) hrn (by omega)
  rw [hT] at hgz
  have hTL : tellE B (offT B) (cntT B) (shsT B) = 0 := by
    rw [← hof, ← hcn, ← hsh]
    unfold tellE
    rw [hTB, if_pos]
    refine ⟨h0, by rw [gl1, gl4]; show wrapN z.kind = 3; rw [h.kind]; rfl, fun i hi => ?_⟩
    rcases i with _ | i
    · rw [Nat.mul_zero, Nat.add_zero, h0]
      show (atT T 0).2 = 0
      rw [hgz.2]
    · obtain ⟨e, _, g1, _, _, _, g5, _⟩ := key i _ (List.getElem?_eq_getElem (show i + 1 < ss.length by rw [hR.len]; omega))
      rw [g1]; exact g5
  have hSE : secE B = 0 := by rw [secE_tell hbig hTE hERR]; exact hTL
  refine ⟨hSE, ⟨bb.length, by unfold secH; rw [if_pos hSE]; exact hTH⟩, ?_, by rw [hBl, hXl, hbbl]; omega⟩
  unfold secL
  rw [if_pos hSE, ← hof, ← hcn, ← hsh, hT, hss]
  apply List.ext_getElem?
  intro i
  by_cases hi : i < m' + 1 + 1
  · have e : (secsT B bb.length (m' + 1 + 1) (m' + 1))[i]? = some (sectT B T (entN B (bb.length + 64 * i))) := by
      unfold secsT
      rw [hTB]
      simp [hi]
    rw [e]
    rcases i with _ | i
    · rw [Nat.mul_zero, Nat.add_zero, h0, hR.first]
      have : sectT B T (List.replicate 10 0) = ⟨(atT T 0).1, 0, 0, 0, [], 0, 0, 0, 0⟩ := rfl
      rw [this, hgz.2]
      rfl
    · have hs : ss[i + 1]? = some (ss[i + 1]'(by rw [hR.len]; omega)) := List.getElem?_eq_getElem _
      obtain ⟨e, _, g1, _, _, _, _, g6⟩ := key i _ hs
      rw [g1, g6, hs]
  · rw [List.getElem?_eq_none (by simp [secsT]; omega), List.getElem?_eq_none (by rw [hR.len]; omega)]

theorem txtY_small {Y : List Sym} (h : rightY Y = true) (hs : sumN Y ≤ 6000) : (txtY Y).length ≤ 12000 := by
  have h1 := texK_span Y Y.length (Nat.le_refl _)
  have h2 := (rightY_all h).1
  have h3 := sumN_take Y Y.length
  unfold txtY
  rw [h]
  show (putsT (texK Y Y.length)).length ≤ _
  rw [(show (putsT (texK Y Y.length)).length = spanT (texK Y Y.length) from spanT_puts (texK_good Y Y.length).1)]
  omega
section
variable {S : List Sect} {Y : List Sym} {R : List (List Rel)} {kd mc : Int}
theorem file_small (hI : RightOb S Y R) (hs : sumN Y ≤ 6000) (hS : ∀ s ∈ S, s.flags < two64 ∧ s.addr < two64 ∧ s.data.length ≤ 6000) : ∀ s ∈ fileO S Y R, s.flags < two64 ∧ s.addr < two64 ∧ s.data.length ≤ 12864 := by
  have h0 : (0 : Nat) < two64 := by decide
  intro s hm
  unfold fileO at hm
  rw [List.mem_append, List.mem_append] at hm
  rcases hm with hm | hm | hm
  · unfold headF at hm
    rw [List.mem_append] at hm
    rcases hm with hm | hm
    · obtain ⟨h1, h2, h3⟩ := hS s hm
      exact ⟨h1, h2, by omega⟩
    · by_cases h : Y.length = 0
      · rw [if_pos h] at hm; cases hm
      · rw [if_neg h] at hm
        simp only [List.mem_cons, List.not_mem_nil, or_false] at hm
        rcases hm with rfl | rfl
        · exact ⟨h0, h0, by have := tabY_size hI.syms; show (tabY Y).length ≤ _; omega⟩
        · exact ⟨h0, h0, by have := txtY_small hI.syms hs; show (txtY Y).length ≤ _; omega⟩
  · obtain ⟨i, s', l, _, _, hl, _, rfl⟩ := relF_mem _ hm
    have h1 := (hI.fit (List.mem_of_getElem? hl)).1
    exact ⟨h0, h0, by have := relB_length l l.length; show (relB l l.length).length ≤ _; omega⟩
  · simp only [List.mem_cons, List.not_mem_nil, or_false] at hm
    subst hm
    exact ⟨h0, h0, by decide⟩
/-- The file of an object that may be put, taken. -/
theorem file_back (hr : rightO S Y R = true) (hm : mayPut kd mc (fileO S Y R) = true) (hs : sumN Y ≤ 6000) (hS : ∀ s ∈ S, s.flags < two64 ∧ s.addr < two64 ∧ s.data.length ≤ 6000) (hnY : ∀ x ∈ Y, x.Nums) (hnR : ∀ l ∈ R, ∀ x ∈ l, x.Nums) :
    ∃ z : Sect, z.kind = 3 ∧ objE (fileB kd mc (fileO S Y R)) = 0 ∧ kindT (fileB kd mc (fileO S Y R)) = kd ∧ machT (fileB kd mc (fileO S Y R)) = mc ∧ secL (fileB kd mc (fileO S Y R)) = backF S Y R z ∧
      symY (backF S Y R z) = Y ∧ relaK (backF S Y R z) (backF S Y R z).length = ((List.range (backF S Y R z).length).map fun i => R[i]?.getD []) ∧ (fileB kd mc (fileO S Y R)).length ≤ 1000000 := by
  have hI := right_iso hr
  have hm2 := hm
  unfold mayPut at hm2
  simp only [Bool.and_eq_true, decide_eq_true_eq] at hm2
  obtain ⟨m, z0, h7⟩ := right_is hm2.1
  obtain ⟨t1, ⟨o, t2⟩, t3, t4⟩ := put_take2 h7 hm2.2 (file_small hI hs hS)
  obtain ⟨T, hT⟩ : ∃ T, putsT (gat ((fileO S Y R).map (·.name))).1 = T := ⟨_, rfl⟩
  rw [hT] at t3
  have hF : fileO S Y R = (headF S Y ++ relF S R R.length) ++ [tabS] := by unfold fileO; rw [List.append_assoc]
  rw [show tabled (fileO S Y R) T = backF S Y R { tabS with data := T } from by rw [hF, tabled_end]; unfold backF; rw [List.append_assoc]] at t3
  generalize fileB kd mc (fileO S Y R) = b at *
  obtain ⟨b1, b2, b3⟩ := obj_back (z := { tabS with data := T }) hI rfl (Nat.le_trans hs (by decide)) hnY hnR
  have hk : kindT b = kd ∧ machT b = mc := by
    rcases secL_is b with ⟨_, _, _, _, hh⟩ | ⟨h, _⟩
    · rw [t2] at hh
      have h1 : [Value.int .i64 kd, Value.int .i64 mc, Value.int .u64 (o : Int), Value.int .i64 ((m + 1 : Nat) : Int), Value.int .i64 (m : Int)] = [Value.int .i64 (kindT b), Value.int .i64 (machT b), Value.int .u64 (offT b : Int), Value.int .i64 (cntT b : Int), Value.int .i64 (shsT b : Int)] := by
        have := Value.agg.inj hh
        exact congrArg Array.toList this
      simp only [List.cons.injEq, Value.int.injEq, true_and, and_true] at h1
      exact ⟨h1.1.symm, h1.2.1.symm⟩
    · exact absurd t1 h
  exact ⟨_, rfl, by unfold objE; rw [if_neg (by simp [t1]), t3]; exact b1, hk.1, hk.2, t3, b2, b3, t4⟩
end

end Go.Proofs.YtldmjnbmjfnfeaaGreatDoor
