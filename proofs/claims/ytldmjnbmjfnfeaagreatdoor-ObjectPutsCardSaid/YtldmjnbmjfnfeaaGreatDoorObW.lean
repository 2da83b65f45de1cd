/-
  Package object: the document's Put.
-/
import Derived.Test.YtldmjnbmjfnfeaaGreatDoorObV
import Derived.Test.YtldmjnbmjfnfeaaGreatDoorObS
import Derived.Test.YtldmjnbmjfnfeaaGreatDoorSpD
import Derived.Test.YtldmjnbmjfnfeaaGreatDoorFront
namespace Go.Proofs.YtldmjnbmjfnfeaaGreatDoor
open Go Go.RowKit

/-- In numbers that have a limit in the chapter's bytes. -/
structure ObjV.Word (o : ObjV) : Prop where
  nm : ∀ x ∈ o.Y, x.name.length ≤ 100000 ∧ x.value < two64 ∧ x.size < two64
  off : ∀ q ∈ o.Q, ∀ r ∈ q.l, r.off < two64

set_option maxRecDepth 10000 in
set_option maxHeartbeats 12800000 in
theorem roput_any {w : World} (o : ObjV) (h : o.Ok w w.heap.size) (hK : o.Bulk) (hO : o.Word) :
    Calls Tryz.prog 12 #[o.val] w fun r w' => ∃ v, r = .returned (.tuple #[v, .int .i64 (oputE o.kind o.machine (secsOf o.L) o.Y (o.Q.map (·.l)))]) ∧ Own w' w.heap.size v (oputR o.kind o.machine (secsOf o.L) o.Y (o.Q.map (·.l))) ∧ Below w.heap.size w w' := by
  obtain ⟨kd, mc, aS, cS, L, aY, cY, Y, aR, cR, Q⟩ := o
  have hb0 : Below w.heap.size w (w.alloc (.cells #[.int .i64 kd, .int .i64 mc, .slice aS L.length cS, .slice aY Y.length cY, .slice aR Q.length cR] 32)) := (Below.refl _ _).alloc (Nat.le_refl _) _
  have hX0 := Box.new w 32 #[.int .i64 kd, .int .i64 mc, .slice aS L.length cS, .slice aY Y.length cY, .slice aR Q.length cR]
  have HRT := roright_any ⟨kd, mc, aS, cS, L, aY, cY, Y, aR, cR, Q⟩ ((h.below hb0).more hb0.size) (Nat.le_trans hK.S (by decide)) (Nat.le_trans hK.Y (by decide)) (Nat.le_trans hK.Q (by decide)) hK.q (fun x hx => (hO.nm x hx).1)
  rw [show ObjV.val ⟨kd, mc, aS, cS, L, aY, cY, Y, aR, cR, Q⟩ = .agg #[.int .i64 kd, .int .i64 mc, .slice aS L.length cS, .slice aY Y.length cY, .slice aR Q.length cR] from rfl] at HRT ⊢
  obtain ⟨hs, hy, hl, hcS, hcR⟩ := h
  obtain ⟨hS, hnm, hY, hsum, hQ, hq⟩ := hK
  obtain ⟨hyn, hof⟩ := hO
  simp only at hs hy hl hcS hcR hS hY hQ hnm hsum hq hyn hof HRT ⊢
  have hz0 : (w.alloc (.cells #[.int .i64 kd, .int .i64 mc, .slice aS L.length cS, .slice aY Y.length cY, .slice aR Q.length cR] 32)).heap.size = w.heap.size + 1 := by simp
  have HS := Lib.hid ((hs.below hb0).more hb0.size)
  have HY := Lib.hid (Row.more (Row.below hy hb0) hb0.size)
  have HL := Lib.hid ((hl.below hb0).more hb0.size)
  have HB0 := Lib.hid hb0
  have HSUM := Lib.hid hsum
  have HNM := Lib.hid hnm
  have HYN := Lib.hid hyn
  have HOF := Lib.hid hof
  have HSL := Lib.hid (show (secsOf L).length = L.length by simp)
  have HLQ := Lib.hid (show (Q.map (·.l)).length = Q.length by simp)
  have hlt0 : w.heap.size < (w.alloc (.cells #[.int .i64 kd, .int .i64 mc, .slice aS L.length cS, .slice aY Y.length cY, .slice aR Q.length cR] 32)).heap.size := by omega
  clear hs hy hl hsum hnm hz0 hb0 hyn hof
  have HPE := Lib.hid (show ∀ b, rightO (secsOf L) Y (Q.map (·.l)) = b → (b = false → oputE kd mc (secsOf L) Y (Q.map (·.l)) = 2 ∧ oputR kd mc (secsOf L) Y (Q.map (·.l)) = []) ∧ (b = true → oputE kd mc (secsOf L) Y (Q.map (·.l)) = putE kd mc (fileO (secsOf L) Y (Q.map (·.l))) ∧ oputR kd mc (secsOf L) Y (Q.map (·.l)) = putR kd mc (fileO (secsOf L) Y (Q.map (·.l)))) from fun b hb =>
    ⟨fun e => by unfold oputE oputR; rw [hb, e]; exact ⟨rfl, rfl⟩, fun e => by unfold oputE oputR; rw [hb, e]; exact ⟨rfl, rfl⟩⟩)
  have HLF := Lib.hid (show (fileO (secsOf L) Y (Q.map (·.l))).length ≤ 100000 from fileO_length (by have := hS; simpa using this) (by have := hQ; simpa using this))
  generalize hN : L.length = N at *
  generalize hny : Y.length = ny at *
  generalize hnr : Q.length = nr at *
  have HN := Lib.hid hN
  have HNY := Lib.hid hny
  have HNR := Lib.hid hnr
  have HRT := Lib.hid HRT
  clear hN hny hnr
  obtain ⟨i2, hj2, hy0, hy1, hy2⟩ := info_parts sect_info
  have KX := Lib.hid (fun W (hW : Below (w.alloc (.cells #[.int .i64 kd, .int .i64 mc, .slice aS N cS, .slice aY ny cY, .slice aR nr cR] 32)).heap.size (w.alloc (.cells #[.int .i64 kd, .int .i64 mc, .slice aS N cS, .slice aY ny cY, .slice aR nr cR] 32)) W) => five_cells (hX0.below hW hlt0))
  obtain ⟨x0, x1, x2, x3, x4⟩ := KX.out _ (Below.refl _ _)
  go_enter Tryz.func12, Tryz.ntmps12
  go_wp2_with fail
  refine HRT.out.mono ?_
  rintro r w1 ⟨rfl, hb1⟩
  clear HRT
  generalize (w.alloc (.cells #[.int .i64 kd, .int .i64 mc, .slice aS N cS, .slice aY ny cY, .slice aR nr cR] 32)) = w0 at *
  clear x0 x1 x2 x3 x4 hX0
  obtain ⟨x0, x1, x2, x3, x4⟩ := KX.out _ hb1
  cases hr : rightO (secsOf L) Y (Q.map (·.l)) with
  | false =>
    have HF := Lib.hid ((HPE.out _ hr).1 rfl)
    have HB1 := Lib.hid (HB0.out.trans (hb1.mono HB0.out.size))
    clear hr hb1 HPE
    go_wp2_with fail
    go_ret2
    exact ⟨_, by rw [HF.out.1]; rfl, by rw [HF.out.2]; exact World.ownsRow_nil _ _ _ _, HB1.out⟩
  | true =>
    have hI := right_iso hr
    have HPT := Lib.hid ((HPE.out _ hr).2 rfl)
    have hpos : 0 < N := by have := hI.pos; rwa [HSL.out] at this
    have HI := Lib.hid hI
    have hbe : Below w0.heap.size w0 (w1.alloc (.cells #[] 39)) := hb1.alloc hb1.size _
    obtain ⟨bS, oS, rfl, -, -⟩ := HS.out.row (by rw [HN.out]; exact hpos)
    have HCL := Lib.hid (show ∀ j u, (cellsL L)[j]? = some u → (w1.alloc (.cells #[] 39)).cell? ((⟨bS, oS, none⟩ : Addr).add j) = some u from fun j u hu => by
      obtain ⟨x, hx, hv⟩ := cellsL_get L j u hu
      obtain ⟨b', o', e', _, hc'⟩ := (HS.out.below hbe).row (by rw [HN.out]; exact hpos)
      cases e'
      rw [addr_add]
      have := hc' _ x hx _ u hv
      rwa [show oS + j / 9 * 9 + j % 9 = oS + j by omega] at this)
    have HOE := Lib.hid (own_empty w1 w0.heap.size hb1.size 39 9)
    have H1L := Lib.hid (show ∀ u ∈ cellsL L, u.oneCell' = true from fun u hu => by
      obtain ⟨x, _, hx⟩ := List.mem_flatMap.1 hu
      exact cells_one x u hx)
    have HLN := Lib.hid (show (cellsL L).length = N * 9 by rw [cellsL_length, HN.out])
    have hmx : 0 + N ≤ maxLen := by unfold maxLen; omega
    have hby0 : (0 + N) * 96 ≤ 140737488355328 := by omega
    have HBE := Lib.hid hbe
    obtain ⟨-, -, y2, -, -⟩ := KX.out _ hbe
    have hs1 := hb1.size
    clear hr hI hbe HPE hb1
    go_upto_if 22 with (at_builtin; refine wpList_append_lies _ (by rfl) (.tmp 13) (.tmp 15) _ (by rfl) w0.heap.size 39 i2 _ 9 96 Tryz.underlying24 hj2 hy0 hy1 hy2 (by rfl) (by decide) (.slice (some ⟨w1.heap.size, 0, none⟩) 0 0) 0 ([]) (by rfl) HOE.out ⟨bS, oS, none⟩ N cS (cellsL L) (by rfl) HLN.out HCL.out H1L.out hpos hmx hby0 (by simp; omega) _ rfl ?_; intro g3 c1 w3 hown3 hg3 hat3 hlt3; rw [Nat.zero_add, List.nil_append] at hown3; rw [show 0 + N = N from Nat.zero_add N]; have hB3 : Below w0.heap.size w0 w3 := HBE.out.trans (row_turns HOE.out hg3 (by simp; omega)).1; have HF1 := Lib.hid (show FileSt w0 w3 (.slice (some ⟨g3, 0, none⟩) N c1) L from ⟨by rw [OwnL, HN.out]; exact hown3, fun x hx => ⟨.inl ((HS.out.below hB3).ok x hx).rd, (HS.out.ok x hx).le, (HS.out.ok x hx).cap⟩, fun x hx => (HS.out.ok x hx).fits, hB3⟩); clear hown3 hg3 hat3 hlt3 hB3 x0 x1 x2 x3 x4 y2; obtain ⟨x0, x1, x2, x3, x4⟩ := KX.out _ HF1.out.below)
    clear hmx hby0 HOE HCL H1L HLN
    go_cut [4] (fun v wx => ∃ g L1 c, v = .slice (some ⟨g, 0, none⟩) L1.length c ∧ FileSt w0 wx v L1 ∧ secsOf L1 = headF (secsOf L) Y)
    case first =>
      by_cases hy00 : ny = 0
      · have d1 : decide (0 < ny) = false := decide_eq_false (by omega)
        have HHF := Lib.hid (show secsOf L = headF (secsOf L) Y by unfold headF; rw [HNY.out, if_pos hy00, List.append_nil])
        subst hy00
        go_wp2_with fail
        go_meet
        case rel => exact ⟨g3, L, c1, by rw [HN.out], HF1.out, HHF.out⟩
      · have d1 : decide (0 < ny) = true := decide_eq_true (by omega)
        have hnyp : 0 < ny := by omega
        have hB1 := HF1.out.below
        have HPU := Lib.hid (ryput_any (Row.more (Row.below HY.out hB1) hB1.size) cY (by rw [HNY.out]; omega) HYN.out HSUM.out)
        rw [HI.out.syms, show errOf true 2 = 0 from rfl, HNY.out] at HPU
        have HHF := Lib.hid (show headF (secsOf L) Y = secsOf L ++ [symtabS N (tabY Y), strtabS (txtY Y)] by unfold headF; rw [HNY.out, if_neg hy00, HSL.out])
        have HTS := Lib.hid (tabY_size HI.out.syms)
        have HXS := Lib.hid (txtY_size HI.out.syms HSUM.out)
        clear hy00 hB1
        go_wp2_with fail
        refine HPU.out.mono ?_
        rintro r w2 ⟨u2, v2, rfl, hu2, hv2, hb2⟩
        obtain ⟨Au, cu, rfl, _, _, _⟩ := own_slice hu2
        obtain ⟨Av, cv, rfl, _, _, _⟩ := own_slice hv2
        have HF2 := Lib.hid (HF1.out.later hb2)
        have HU2 := Lib.hid (show Own w2 w0.heap.size (.slice Au (tabY Y).length cu) (tabY Y) from row_base hu2 HF1.out.below.size)
        have HV2 := Lib.hid (show Own w2 w0.heap.size (.slice Av (txtY Y).length cv) (txtY Y) from row_base hv2 HF1.out.below.size)
        have hr2 : w2.ownsRow w0.heap.size 39 9 (.slice (some ⟨g3, 0, none⟩) N c1) N (cellsL L) := by have := HF2.out.row; rwa [OwnL, HN.out] at this
        have h63 : N + 1 ≤ maxLen := by unfold maxLen; omega
        have hby : (N + 1) * 96 ≤ 140737488355328 := by omega
        have h64 : N + 1 + 1 ≤ maxLen := by unfold maxLen; omega
        have hbyb : (N + 1 + 1) * 96 ≤ 140737488355328 := Nat.le_trans (Nat.mul_le_mul_right 96 (show N + 1 + 1 ≤ 8002 by omega)) (by decide)
        have hbz := HF2.out.below.size
        clear hu2 hv2 hb2 HPU x0 x1 x2 x3 x4
        go_upto_region 10 with (at_builtin; refine wpList_append_lies _ (by rfl) (.tmp 33) (.tmp 38) _ (by rfl) w0.heap.size 39 i2 _ 9 96 Tryz.underlying24 hj2 hy0 hy1 hy2 (by rfl) (by decide) (.slice (some ⟨g3, 0, none⟩) N c1) N (cellsL L) (by rfl) (by exact hr2.alloc _) ⟨w2.heap.size, 0, none⟩ 1 1 (Lay.cells ⟨symtabS N (tabY Y), Au, cu⟩) (by rfl) rfl (fun j u h => cells_at ⟨symtabS N (tabY Y), Au, cu⟩ w2 _ j u h) (cells_one _) (by decide) h63 hby (by simp; omega) _ rfl ?_; intro g8 cap8 w8 hown8 hg8 hat8 hlt8)
        have HW8 := Lib.hid hown8
        have HF8 := Lib.hid (FileSt.more (w' := w8) (HF2.out.alloc (.cells (Lay.cells ⟨symtabS N (tabY Y), Au, cu⟩).toArray 39)) (M := [(⟨symtabS N (tabY Y), Au, cu⟩ : Lay)]) (g := g8) (c := cap8) (fun x hx => by
          simp only [List.mem_cons, List.not_mem_nil, or_false] at hx
          subst hx
          exact ⟨row_below HU2.out ((Below.refl _ _).alloc (Nat.le_refl _) _), symtab_fits N (by omega) _ (by have := HTS.out; omega)⟩) (by rw [HN.out]; simpa [cellsL] using hown8) hg8)
        have HV8 := Lib.hid (show Own w8 w0.heap.size (.slice Av (txtY Y).length cv) (txtY Y) from row_only (row_below HV2.out ((Below.refl _ _).alloc (Nat.le_refl _) _)) (row_turns (hr2.alloc _) hg8 (by simp; omega)) (fun cs f hh => absurd (show 5 = 39 from hh) (by decide)))
        have hbz8 := HF8.out.below.size
        clear hown8 hg8 hat8 hlt8 hr2
        go_wp2_with (at_builtin; refine wpList_append_lies _ (by rfl) (.tmp 40) (.tmp 43) _ (by rfl) w0.heap.size 39 i2 _ 9 96 Tryz.underlying24 hj2 hy0 hy1 hy2 (by rfl) (by decide) (.slice (some ⟨g8, 0, none⟩) (N + 1) cap8) (N + 1) (cellsL L ++ Lay.cells ⟨symtabS N (tabY Y), Au, cu⟩) (by rfl) (by exact HW8.out.alloc _) ⟨w8.heap.size, 0, none⟩ 1 1 (Lay.cells ⟨strtabS (txtY Y), Av, cv⟩) (by rfl) rfl (fun j u h => cells_at ⟨strtabS (txtY Y), Av, cv⟩ w8 _ j u h) (cells_one _) (by decide) h64 hbyb (by simp; omega) _ rfl ?_; intro g9 cap9 w9 hown9 hg9 hat9 hlt9)
        have HFn := Lib.hid (FileSt.more (w' := w9) (HF8.out.alloc (.cells (Lay.cells ⟨strtabS (txtY Y), Av, cv⟩).toArray 39)) (M := [(⟨strtabS (txtY Y), Av, cv⟩ : Lay)]) (g := g9) (c := cap9) (fun x hx => by
          simp only [List.mem_cons, List.not_mem_nil, or_false] at hx
          subst hx
          exact ⟨row_below HV8.out ((Below.refl _ _).alloc (Nat.le_refl _) _), strtab_fits _ (by have := HXS.out; omega)⟩) (by rw [List.length_append, HN.out]; simpa [cellsL] using hown9) hg9)
        clear hown9 hg9 hat9 hlt9
        go_meet
        case rel => exact ⟨g9, (L ++ [(⟨symtabS N (tabY Y), Au, cu⟩ : Lay)]) ++ [(⟨strtabS (txtY Y), Av, cv⟩ : Lay)], cap9, by rw [List.length_append, List.length_append, HN.out]; rfl, by rw [show N + 1 + 1 = ((L ++ [(⟨symtabS N (tabY Y), Au, cu⟩ : Lay)]) ++ [(⟨strtabS (txtY Y), Av, cv⟩ : Lay)]).length by rw [List.length_append, List.length_append, HN.out]; rfl]; exact HFn.out, by rw [HHF.out]; simp [secsOf]⟩
    case rest =>
      obtain ⟨g2, L2, c2, rfl, hF, hS2⟩ := hcut
      have HF := Lib.hid hF
      have HS2 := Lib.hid hS2
      have hlen2 : L2.length ≤ 8002 := by
        have h1 := congrArg List.length hS2
        have h2 := HSL.out
        unfold headF at h1
        rw [List.length_append, HSL.out] at h1
        have h3 : (if Y.length = 0 then [] else [symtabS N (tabY Y), strtabS (txtY Y)] : List Sect).length ≤ 2 := by split <;> simp
        simp only [secsOf, List.length_map] at h1
        omega
      have HLN2 := Lib.hid (show (headF (secsOf L) Y).length ≤ 8002 by rw [← hS2]; simpa using hlen2)
      obtain ⟨x0, x1, x2, x3, x4⟩ := KX.out _ hF.below
      clear hF hS2 hlen2 HF1
      go_wp2_with fail
      go_loopg [4, 9] nr (fun gk v i wx => ∃ (k : Nat) (g : Nat) (L1 : List Lay) (c : Nat), k ≤ nr ∧ gk = nr - k ∧ i = .int .i64 k ∧ v = .slice (some ⟨g, 0, none⟩) L1.length c ∧ FileSt w0 wx v L1 ∧ Hid (secsOf L1 = headF (secsOf L) Y ++ relF (secsOf L) (Q.map (·.l)) k))
      case atStart => exact ⟨0, g2, L2, c2, Nat.zero_le _, rfl, rfl, rfl, HF.out, Lib.hid (by rw [HS2.out]; simp [relF])⟩
      case round =>
        obtain ⟨k, g3, L3, c3, hk, rfl, rfl, rfl, hF, HSE⟩ := hrel
        clear x0 x1 x2 x3 x4
        have HFk := Lib.hid hF
        obtain ⟨x0, x1, x2, x3, x4⟩ := KX.out _ hF.below
        have hL3 : L3.length ≤ 8002 + k := by
          have h1 := congrArg List.length HSE.out
          rw [List.length_append] at h1
          have h2 := relF_length (secsOf L) (Q.map (·.l)) k
          have h3 := HLN2.out
          simp only [secsOf, List.length_map] at h1 h2 h3
          omega
        by_cases hlt : k < nr
        · obtain ⟨q, hq1⟩ : ∃ q, Q[k]? = some q := ⟨Q[k]'(by rw [HNR.out]; exact hlt), List.getElem?_eq_getElem _⟩
          have hLw := HL.out.below hF.below
          obtain ⟨b2, o2, rfl, hb2, c0⟩ := hLw.at_ hq1
          have hm : (Q.map (·.l))[k]? = some q.l := by rw [List.getElem?_map, hq1]; rfl
          have hnN : nr = N := by
            have := HI.out.len
            rw [List.length_map, HNR.out, HSL.out] at this
            omega
          have hkN : k < N := by omega
          clear hnN
          obtain ⟨x, hx⟩ : ∃ x, L[k]? = some x := ⟨L[k]'(by rw [HN.out]; exact hkN), List.getElem?_eq_getElem _⟩
          have hfit := (HI.out.fit (List.mem_of_getElem? hm)).1
          have hqr := hLw.rels q (List.mem_of_getElem? hq1)
          have hgs := get_secsOf hx
          have hxn := HNM.out x (List.mem_of_getElem? hx)
          have hqo := HOF.out q (List.mem_of_getElem? hq1)
          have HLT := Lib.hid hlt
          by_cases hq0 : q.l.length = 0
          · have d1 : decide (0 < q.l.length) = false := decide_eq_false (by omega)
            have HE1 := Lib.hid (relF_none hgs hm hq0)
            rw [hq0] at c0 d1
            clear hq1 hLw hm hx hgs hqr hF hqo
            go_wp2_with fail
            go_roundg (nr - (k + 1))
            case measure => have := HLT.out; omega
            case rel => exact ⟨k + 1, g3, L3, c3, HLT.out, rfl, by go_num, rfl, HFk.out, Lib.hid (by rw [HE1.out]; exact HSE.out)⟩
          · have d1 : decide (0 < q.l.length) = true := decide_eq_true (by omega)
            have hqp : 0 < q.l.length := by omega
            have HE1 := Lib.hid (relF_some hgs hm hq0)
            have hFs := hF.below.size
            have HPR := Lib.hid (fun W (hW : Below wr.heap.size wr W) => (show Calls Tryz.prog 35 #[.slice q.a q.l.length q.c] W (fun r w' => ∃ u, r = .returned u ∧ Own w' w0.heap.size u (relB q.l q.l.length) ∧ Below wr.heap.size wr w') from
              (ryputr_any (Row.more (Row.below (Row.more hqr hFs) hW) hW.size) q.c (by omega) hqo).mono fun r w' ⟨u, h1, h2, h3⟩ => ⟨u, h1, row_base h2 (Nat.le_trans hFs hW.size), hW.trans (h3.mono hW.size)⟩))
            have hA0 := hF.below
            -- the section's own name, in the row that grows
            have hx3 : ∃ x3, L3[k]? = some x3 ∧ x3.s = x.s := by
              have h1 : (secsOf L3)[k]? = some x.s := by
                rw [HSE.out, List.getElem?_append_left (by unfold headF; rw [List.length_append, HSL.out]; omega)]
                unfold headF
                rw [List.getElem?_append_left (by rw [HSL.out]; exact hkN)]
                exact hgs
              unfold secsOf at h1
              rw [List.getElem?_map] at h1
              cases h2 : L3[k]? with
              | none => rw [h2] at h1; cases h1
              | some x3 => rw [h2] at h1; injection h1 with h1; exact ⟨x3, rfl, h1⟩
            obtain ⟨x3', hx3, hx3s⟩ := hx3
            have hkL : k < L3.length := (List.getElem?_eq_some_iff.1 hx3).1
            have hnc : (cellsL L3)[k * 9]? = some (.string ⟨x.s.name.toArray⟩) := by
              have := cellsL_at L3 k x3' 0 _ hx3 rfl
              rw [hx3s] at this
              exact this
            have hr3 := hF.row
            have hg3c : wr.cell? ⟨g3, k * 9, none⟩ = some (.string ⟨x.s.name.toArray⟩) := by
              rw [World.ownsRow.cellAt (g := g3) (cap := c3) hr3 (k * 9) (by omega)]; exact hnc
            have hg3l := World.block_lt_of_cell? wr _ hg3c
            have HNC := Lib.hid hnc
            have KC := Lib.hid (fun W (hW : Below w0.heap.size w0 W) (hg : W.cell? ⟨g3, k * 9, none⟩ = some (.string ⟨x.s.name.toArray⟩)) => (⟨hW, (KX.out W hW).2.2.2.2, by rw [hW.cell (p := ⟨b2, o2 + k, none⟩) (by assumption), ← hF.below.cell (p := ⟨b2, o2 + k, none⟩) (by assumption)]; exact c0, hg⟩ :
              Below w0.heap.size w0 W ∧ W.cell? ⟨w.heap.size, 4, none⟩ = some (.slice (some ⟨b2, o2, none⟩) nr cR) ∧ W.cell? ⟨b2, o2 + k, none⟩ = some (.slice q.a q.l.length q.c) ∧ W.cell? ⟨g3, k * 9, none⟩ = some (.string ⟨x.s.name.toArray⟩)))
            have hcat := cat_rela x.s.name (by omega)
            have hqb := relB_length q.l q.l.length
            have HRF := Lib.hid (rela_fits N k (by omega) (by omega) x.s.name hxn q.l hfit)
            have h63 : L3.length + 1 ≤ maxLen := by unfold maxLen; omega
            have hby : (L3.length + 1) * 96 ≤ 140737488355328 := by omega
            have hi1 : (0 : Int) ≤ (k : Int) := by omega
            have hi2 : (k : Int) < (L3.length : Int) := by omega
            rw [HSL.out] at HE1
            clear hq1 hLw hm hx hgs hqr hF hnc hx3 hx3s hr3 hqo
            go_upto_region 15 with fail
            go_region_held_law (fun W => Below w0.heap.size w0 W ∧ W.cell? ⟨w.heap.size, 4, none⟩ = some (.slice (some ⟨b2, o2, none⟩) nr cR) ∧ W.cell? ⟨b2, o2 + k, none⟩ = some (.slice q.a q.l.length q.c) ∧ W.cell? ⟨g3, k * 9, none⟩ = some (.string ⟨x.s.name.toArray⟩))
              (first | exact KC.out _ hA0.drew (by simpa using hg3c) | exact KC.out _ hb7b hg7c | exact KC.out _ (hb7a _) (hg7a _) | exact KC.out _ hb8 hg8c)
              (first
                | (go_at_call 35; refine (HPR.out _ ((Below.refl _ _).drew)).mono ?_; rintro r w7 ⟨u7, rfl, hown7, hb7⟩; (obtain ⟨A7, c7, rfl, hc7, hcm7, hrd7⟩ := own_slice hown7); have HF7 := Lib.hid (HFk.out.later hb7); have HO7 := Lib.hid hown7; have hb7b := HF7.out.below; have hb7a := (fun o => hb7b.alloc hb7b.size o); have hr7 := HF7.out.row; have hbs7 := HF7.out.below.size; have hg7c : w7.cell? ⟨g3, k * 9, none⟩ = some (.string ⟨x.s.name.toArray⟩) := by { rw [hb7.cell (p := ⟨g3, k * 9, none⟩) hg3l]; exact hg3c }; have hg7a := (fun o => (show (w7.alloc o).cell? ⟨g3, k * 9, none⟩ = some (.string ⟨x.s.name.toArray⟩) from by rw [((Below.refl w7.heap.size w7).alloc (Nat.le_refl _) o).cell (p := ⟨g3, k * 9, none⟩) (World.block_lt_of_cell? w7 _ hg7c)]; exact hg7c)); have hB7 := Lib.hid hb7; clear hown7 HPR)
                | (refine step_append_front _ (by rfl) (.tmp 59) (.tmp 75) _ (by rfl) w0.heap.size 39 i2 _ 9 96 Tryz.underlying24 hj2 hy0 hy1 hy2 (by rfl) (by decide) g3 L3.length c3 (cellsL L3) (by rfl) (by exact hr7.alloc _) ⟨w7.heap.size, 0, none⟩ 1 1 (Lay.cells ⟨relaS N k x.s.name q.l, A7, c7⟩) (by rfl) rfl (fun j u h => cells_at ⟨relaS N k x.s.name q.l, A7, c7⟩ w7 _ j u h) (cells_one _) (by decide) h63 hby (by simp; omega) _ rfl ?_; intro g8 cap8 w8 hown8 hg8 hfr8; have hb8 := (hb7a _).trans (row_turns (hr7.alloc _) hg8 (by simp; omega)).1; have hg8c : w8.cell? ⟨g3, k * 9, none⟩ = some (.string ⟨x.s.name.toArray⟩) := hfr8 _ _ HNC.out; have HG8 := Lib.hid hg8; have HW8 := Lib.hid hown8; clear hg8 hown8 hfr8))
            have HFn := Lib.hid (FileSt.more (w' := w8) (HF7.out.alloc (.cells (Lay.cells ⟨relaS N k x.s.name q.l, A7, c7⟩).toArray 39)) (M := [⟨relaS N k x.s.name q.l, A7, c7⟩]) (g := g8) (c := cap8) (fun y hy => by
              simp only [List.mem_cons, List.not_mem_nil, or_false] at hy
              subst hy
              exact ⟨row_below HO7.out ((Below.refl _ _).alloc (Nat.le_refl _) _), HRF.out⟩) (by simpa [cellsL] using HW8.out) HG8.out)
            rw [show (L3 ++ [(⟨relaS N k x.s.name q.l, A7, c7⟩ : Lay)]).length = L3.length + 1 by simp] at HFn
            clear hb7 hb7a hb7b hb8 hr7 hbs7 hg7c hg7a hg8c
            go_wp2_with fail
            go_roundg (nr - (k + 1))
            case measure => have := HLT.out; omega
            case rel => exact ⟨k + 1, g8, L3 ++ [⟨relaS N k x.s.name q.l, A7, c7⟩], cap8, HLT.out, rfl, by go_num, by rw [List.length_append]; rfl, HFn.out, Lib.hid (by rw [HE1.out, ← List.append_assoc, ← HSE.out]; simp [secsOf])⟩
        · have hkn : k = nr := by omega
          have hr3 := HFk.out.row
          have hbs3 := HFk.out.below.size
          have h63 : L3.length + 1 ≤ maxLen := by unfold maxLen; omega
          have hby : (L3.length + 1) * 96 ≤ 140737488355328 := by omega
          have HSF := Lib.hid (show secsOf (L3 ++ [⟨tabS, none, 0⟩]) = fileO (secsOf L) Y (Q.map (·.l)) by
            unfold fileO
            rw [← List.append_assoc, HLQ.out, ← hkn, ← HSE.out]
            simp [secsOf])
          have HSZ := Lib.hid (show (L3 ++ [(⟨tabS, none, 0⟩ : Lay)]).length = L3.length + 1 by simp)
          clear hF
          go_upto_region 17 with (at_builtin; refine wpList_append_lies _ (by rfl) (.tmp 77) (.tmp 79) _ (by rfl) w0.heap.size 39 i2 _ 9 96 Tryz.underlying24 hj2 hy0 hy1 hy2 (by rfl) (by decide) (.slice (some ⟨g3, 0, none⟩) L3.length c3) L3.length (cellsL L3) (by rfl) (by exact hr3.alloc _) ⟨wr.heap.size, 0, none⟩ 1 1 (Lay.cells ⟨tabS, none, 0⟩) (by rfl) rfl (fun j u h => cells_at ⟨tabS, none, 0⟩ wr _ j u h) (cells_one _) (by decide) h63 hby (by simp; omega) _ rfl ?_; intro g8 cap8 w8 hown8 hg8 hat8 hlt8)
          have HFn := Lib.hid (FileSt.more (w' := w8) (HFk.out.alloc (.cells (Lay.cells ⟨tabS, none, 0⟩).toArray 39)) (M := [⟨tabS, none, 0⟩]) (g := g8) (c := cap8) (fun y hy => by
            simp only [List.mem_cons, List.not_mem_nil, or_false] at hy
            subst hy
            exact ⟨World.ownsRow_nil _ _ _ _, tab_fits⟩) (by simpa [cellsL] using hown8) hg8)
          obtain ⟨A9, c9, e9, hc9, _, hS9⟩ := HFn.out.secs
          injection e9 with e91 e92 e93
          have HPP := Lib.hid (rsput_any kd mc hS9 c9 hc9 (by
            have h1 := HLF.out
            rw [← HSF.out] at h1
            simpa using h1))
          rw [HSF.out, ← HPT.out.1, ← HPT.out.2, ← e91, ← e93, HSZ.out] at HPP
          clear x0 x1 x2 x3 x4
          obtain ⟨x0, x1, x2, x3, x4⟩ := KX.out _ HFn.out.below
          clear hown8 hg8 hat8 hlt8 e91 e92 e93 hS9 hc9
          go_wp2_with (go_at_call 36; refine HPP.out.mono ?_; rintro r w9 ⟨v9, rfl, ho9, hb9⟩; have HO9 := Lib.hid (row_base ho9 (Nat.le_trans HB0.out.size HFn.out.below.size)); have HB9 := Lib.hid (HB0.out.trans ((HFn.out.below.trans (hb9.mono HFn.out.below.size)).mono HB0.out.size)); clear ho9 hb9)
          go_ret2
          exact ⟨_, rfl, HO9.out, HB9.out⟩

end Go.Proofs.YtldmjnbmjfnfeaaGreatDoor
