/-
  The document's groups of an object.
-/
import Derived.Test.YtbpemehhbeejcaaGpJ
import Derived.Deep.DeepCutAuto
import Derived.Deep.LoopGhost
namespace Go.Proofs.Ytbpemehhbeejcaa
open Go Go.RowKit

theorem headG_six {S : List Sect} {Y : List Sym} {s : Sect} (h : (decide (tabG S < 0) || ((s.link != tabG S) || (decide (s.inf < 0) || (decide ((Y.length : Int) ≤ s.inf) || (decide (0 < s.data.length % 4) || decide ((s.data.length : Int) < 8)))))) = true) : headG S Y.length s = false := by
  unfold headG
  refine decide_eq_false (fun hh => ?_)
  obtain ⟨h1, h2, h3, h4, h5, h6, -⟩ := hh
  rw [decide_eq_false (by omega : ¬ tabG S < 0), decide_eq_false (by omega : ¬ s.inf < 0), decide_eq_false (by omega : ¬ (Y.length : Int) ≤ s.inf), decide_eq_false (by omega : ¬ 0 < s.data.length % 4), decide_eq_false (by omega : ¬ (s.data.length : Int) < 8), h2] at h
  simp at h
theorem frontG_six {S : List Sect} {Y : List Sym} {s : Sect} (h : (decide (tabG S < 0) || ((s.link != tabG S) || (decide (s.inf < 0) || (decide ((Y.length : Int) ≤ s.inf) || (decide (0 < s.data.length % 4) || decide ((s.data.length : Int) < 8)))))) = false) : frontG S Y.length s = true ∧ s.data.length % 4 = 0 ∧ 8 ≤ s.data.length := by
  obtain ⟨p0, h⟩ := Bool.or_eq_false_iff.1 h
  obtain ⟨p1, h⟩ := Bool.or_eq_false_iff.1 h
  obtain ⟨p2, h⟩ := Bool.or_eq_false_iff.1 h
  obtain ⟨p3, h⟩ := Bool.or_eq_false_iff.1 h
  obtain ⟨p4, p5⟩ := Bool.or_eq_false_iff.1 h
  refine ⟨by unfold frontG; rw [p0, p1, p2, p3]; rfl, ?_, ?_⟩
  · have := of_decide_eq_false p4; omega
  · have := of_decide_eq_false p5; omega

set_option maxRecDepth 10000 in
set_option maxHeartbeats 6400000 in
theorem rgtake_any {w : World} (o : ObjV) (h : o.Ok w w.heap.size) (hlS : o.L.length ≤ 6000) (hlD : ∀ x ∈ o.L, x.s.data.length ≤ 6000) (hlY : o.Y.length ≤ 6000) :
    Calls Try.prog 9 #[o.val] w fun r w' => ∃ u, r = .returned (.tuple #[u, .int .i64 (grpE (secsOf o.L) o.Y)]) ∧ OwnG 29 w' w.heap.size u (grpL (secsOf o.L) o.Y) ∧ Below w.heap.size w w' := by
  obtain ⟨kd, mc, aS, cS, L, aY, cY, Y, aR, cR, Q⟩ := o
  rw [show ObjV.val ⟨kd, mc, aS, cS, L, aY, cY, Y, aR, cR, Q⟩ = .agg #[.int .i64 kd, .int .i64 mc, .slice aS L.length cS, .slice aY Y.length cY, .slice aR Q.length cR] from rfl]
  obtain ⟨hs, hy, -, -, -⟩ := h
  simp only at hs hy hlS hlD hlY ⊢
  obtain ⟨i1, hj, hy0, hy1, hy2⟩ := info_parts bool_info
  obtain ⟨i2, hj2, hz0, hz1, hz2⟩ := info_parts rgroup_info
  obtain ⟨i3, hj3, hx0, hx1, hx2⟩ := info_parts int_info
  generalize hw0 : (w.alloc (.cells #[.int .i64 kd, .int .i64 mc, .slice aS L.length cS, .slice aY Y.length cY, .slice aR Q.length cR] 26)) = w0 at *
  have hb0 : Below w.heap.size w w0 := hw0 ▸ (Below.refl _ _).alloc (Nat.le_refl _) _
  have hX0 := Box.new w 26 #[.int .i64 kd, .int .i64 mc, .slice aS L.length cS, .slice aY Y.length cY, .slice aR Q.length cR]
  rw [hw0] at hX0
  have hlt0 : w.heap.size < w0.heap.size := by rw [← hw0]; simp
  have HB0 := Lib.hid hb0
  have HS := Lib.hid (hs.below hb0)
  have HY := Lib.hid (Row.below hy hb0)
  have HIX := Lib.hid (fun W (hW : Below w0.heap.size w0 W) => rsymbols_any ((hs.below hb0).below (hW.mono hb0.size)) cS (by omega))
  have HSN := Lib.hid (show (secsOf L).length = L.length by simp [secsOf])
  have HLD := Lib.hid hlD
  have htb := tabG_bound (secsOf L)
  rw [HSN.out] at htb
  generalize hN : L.length = N at *
  have HN := Lib.hid hN
  generalize hNY : Y.length = ny at *
  have HNY := Lib.hid hNY
  have KX := Lib.hid (fun W (hW : Below w0.heap.size w0 W) => five_cells (hX0.below hW hlt0))
  have hm1 : i1.bytes * N ≤ 281474976710656 := by rw [hy2]; omega
  have hm2 : N ≤ maxLen := by unfold maxLen; omega
  clear hs hy hX0 hN hNY hlD
  obtain ⟨x0, x1, x2, x3, x4⟩ := KX.out _ (Below.refl _ _)
  go_enter Try.func9, Try.ntmps9
  go_upto_region 1 with fail
  try rw [hw0]
  clear hw0
  go_upto_region 3 with (at_make; refine wpList_make_full _ rfl _ _ 57 rfl w0.heap.size 4 i1 _ 1 Try.underlying57 hj hy0 hy1 .i64 .i64 (N : Int) (N : Int) N rfl rfl rfl rfl hm1 hm2 (Nat.le_refl _) ?_; intro w2 hown2 hg2)
  have hb12 : Below w0.heap.size w0 w2 := below_of_only hg2 (Nat.le_refl _) (by simp)
  have HT0 := Lib.hid (show TakeG 29 w0 w2 w0.heap.size w0.heap.size N (.slice none 0 0) [] [] (List.replicate (secsOf L).length false) from
    ⟨rfl, GSt.nil _ _ _, by rw [HSN.out]; exact met_made (by have h := hown2; rwa [show (Value.bool false).cells = #[Value.bool false] from rfl, made_one] at h), hb12⟩)
  have HIX2 := Lib.hid (HIX.out _ hb12)
  clear hown2 hg2 x0 x1 x2 x3 x4 hm1 hm2 hj hy0 hy1 hy2 HIX hb12
  obtain ⟨x0, x1, x2, x3, x4⟩ := KX.out _ HT0.out.below
  obtain ⟨mb, hmb⟩ : ∃ mb, w0.heap.size = mb := ⟨_, rfl⟩
  have HMB := Lib.hid hmb
  rw [show TakeG 29 w0 w2 w0.heap.size w0.heap.size N (.slice none 0 0) [] [] (List.replicate (secsOf L).length false) = TakeG 29 w0 w2 w0.heap.size mb N (.slice none 0 0) [] [] (List.replicate (secsOf L).length false) by rw [← hmb]] at HT0
  rw [hmb]
  clear hmb
  go_wp2_with (go_at_call 22; refine HIX2.out.mono ?_; rintro r w3 ⟨rfl, rfl⟩)
  clear x0 x1 x2 x3 x4 HIX2
  go_loopg [4, 7] N (fun gk v i wr => ∃ (k : Nat) (G : List GLay) (l : List Grp) (met : List Bool), k ≤ N ∧ gk = N - k ∧ i = .int .i64 k ∧ Hid (grpS (secsOf L) Y k = some (l, met)) ∧ Hid (TakeG 29 w0 wr w0.heap.size mb N v G l met))
  case atStart => exact ⟨0, [], [], _, Nat.zero_le _, rfl, rfl, Lib.hid rfl, HT0⟩
  case round =>
    obtain ⟨k, G, l, met, hk, rfl, rfl, HG, HT⟩ := hrel
    clear HT0
    have hbr := HT.out.below
    obtain ⟨x0, x1, x2, x3, x4⟩ := KX.out _ hbr
    by_cases hlt : k < N
    · have HLT := Lib.hid hlt
      obtain ⟨x, hx⟩ : ∃ x, L[k]? = some x := ⟨L[k]'(by rw [HN.out]; exact hlt), List.getElem?_eq_getElem _⟩
      obtain ⟨b, oo, rfl, hb, n0, n1, n2, n3, n4, n5, n6, n7, n8⟩ := (HS.out.below (hbr.mono hb0.size)).at_ hx
      generalize hws : wr.alloc (.cells #[.string ⟨x.s.name.toArray⟩, .int .i64 x.s.kind, .int .u64 (x.s.flags : Int), .int .u64 (x.s.addr : Int), .slice x.A x.s.data.length x.c, .int .i64 x.s.link, .int .i64 x.s.inf, .int .i64 x.s.algn, .int .i64 x.s.ent] 61) = ws at *
      have hbs : Below wr.heap.size wr ws := hws ▸ (Below.refl _ _).alloc (Nat.le_refl _) _
      have HT1 := Lib.hid (HT.out.later hbs (by have := hbr.size; exact this))
      have hXs := Box.new wr 61 #[.string ⟨x.s.name.toArray⟩, .int .i64 x.s.kind, .int .u64 (x.s.flags : Int), .int .u64 (x.s.addr : Int), .slice x.A x.s.data.length x.c, .int .i64 x.s.link, .int .i64 x.s.inf, .int .i64 x.s.algn, .int .i64 x.s.ent]
      rw [hws] at hXs
      have HXS := Lib.hid hXs
      have HWS := Lib.hid hws
      clear hws
      go_upto_region 8 with fail
      rw [HWS.out]
      have hbw := HT1.out.below
      have hrz : w0.heap.size ≤ wr.heap.size := hbr.size
      clear x0 x1 x2 x3 x4 n0 n1 n2 n3 n4 n5 n6 n7 n8 HWS hbs hbr
      obtain ⟨x0, x1, x2, x3, x4⟩ := KX.out _ hbw
      have y1 := hXs.cell 1
      have y4 := hXs.cell 4
      have y5 := hXs.cell 5
      have y6 := hXs.cell 6
      simp at y1 y4 y5 y6
      clear hXs
      have HXX := Lib.hid hx
      have HSX := Lib.hid (get_secsOf hx)
      have hdx := HLD.out x (List.mem_of_getElem? hx)
      have hok := (HS.out.below (hbw.mono hb0.size)).get hx
      by_cases h17 : x.s.kind = 17
      · have q17 : (x.s.kind != 17) = false := by simp [h17]
        have hmod := four_mod x.s.data.length
        cases hsix : (decide (tabG (secsOf L) < 0) || ((x.s.link != tabG (secsOf L)) || (decide (x.s.inf < 0) || (decide ((Y.length : Int) ≤ x.s.inf) || (decide (0 < x.s.data.length % 4) || decide ((x.s.data.length : Int) < 8)))))) with
        | true =>
          have HNO := Lib.hid (grp_none (S := secsOf L) (Y := Y) (by rw [HSN.out]; exact grpS_head HG.out HSX.out h17 (headG_six hsix) hlt))
          rw [HNY.out] at hsix
          clear h17 hok hx
          generalize tabG (secsOf L) = tb at *
          generalize x.s.kind = ki at *
          generalize x.s.link = lk at *
          generalize x.s.inf = nf at *
          generalize x.s.data.length % 4 = dm at *
          generalize x.s.data.length = dl at *
          generalize he0 : decide (tb < 0) = e0 at *
          generalize he1 : (lk != tb) = e1 at *
          generalize he2 : decide (nf < 0) = e2 at *
          generalize he3 : decide ((ny : Int) ≤ nf) = e3 at *
          generalize he4 : decide (0 < dm) = e4 at *
          generalize he5 : decide ((dl : Int) < 8) = e5 at *
          have h6 : e0 = true ∨ (e0 = false ∧ e1 = true) ∨ (e0 = false ∧ e1 = false ∧ e2 = true) ∨ (e0 = false ∧ e1 = false ∧ e2 = false ∧ e3 = true) ∨ (e0 = false ∧ e1 = false ∧ e2 = false ∧ e3 = false ∧ e4 = true) ∨ (e0 = false ∧ e1 = false ∧ e2 = false ∧ e3 = false ∧ e4 = false ∧ e5 = true) := by revert hsix; cases e0 <;> cases e1 <;> cases e2 <;> cases e3 <;> cases e4 <;> cases e5 <;> simp
          clear hsix
          rcases h6 with rfl | ⟨rfl, rfl⟩ | ⟨rfl, rfl, rfl⟩ | ⟨rfl, rfl, rfl, rfl⟩ | ⟨rfl, rfl, rfl, rfl, rfl⟩ | ⟨rfl, rfl, rfl, rfl, rfl, rfl⟩
          all_goals
            go_wp2_with fail
            go_ret2
            exact ⟨_, by rw [HNO.out.1]; rfl, by rw [HNO.out.2]; exact owng_nil _ _ _, HB0.out.trans (hbw.mono hb0.size)⟩
        | false =>
          obtain ⟨hf, hd4, hd8⟩ := frontG_six hsix
          obtain ⟨⟨j, y, hji, hy⟩, -⟩ := frontG_true hf
          have hjn : j < ny := by rw [← HNY.out]; exact (List.getElem?_eq_some_iff.1 hy).1
          obtain ⟨HR1, HR2⟩ := grpS_read HG.out HSX.out h17 hf
          obtain ⟨p0, hq⟩ := Bool.or_eq_false_iff.1 hsix
          obtain ⟨p1, -⟩ := Bool.or_eq_false_iff.1 hq
          obtain ⟨b', o', rfl, hb', s0, -⟩ := sym_at (Row.below HY.out (hbw.mono hb0.size)) hy
          have hb'0 : b' < w0.heap.size := Nat.lt_of_lt_of_le hb' hb0.size
          have HGO := Lib.hid (show grpOf Y k x.s = ⟨k, numT x.s.data 0 4 == 1, y.name, memsG x.s.data (cntG x.s.data)⟩ by
            unfold grpOf
            rw [hji, Int.toNat_natCast, hy]; rfl)
          have HNO := Lib.hid (fun hh => grp_none (S := secsOf L) (Y := Y) (by rw [HSN.out]; exact HR1 hh N hlt))
          have HNX := Lib.hid HR2
          rw [show (secsOf L).length = N from HSN.out] at HNO HNX
          rw [hji] at y6 HXS
          have hjl : decide (ny ≤ j) = false := decide_eq_false (by omega)
          have hmod0 : ((x.s.data.length : Int)).tmod 4 = 0 := by rw [hmod, hd4]; rfl
          have p5 : decide ((x.s.data.length : Int) < 8) = false := decide_eq_false (by omega)
          obtain ⟨q, hq4⟩ : ∃ q, x.s.data.length = 4 * (q + 1) := ⟨x.s.data.length / 4 - 1, by omega⟩
          have hq1 : 1 ≤ q := by omega
          have hq5 : q ≤ 6000 := by omega
          have HRI := Lib.hid (fun (n i : Nat) (M : List Bool) (h1 : numT x.s.data 0 4 ≤ 1) => readG_is (n := n) (i := i) (M := M) hq4 hq1 h1)
          have HRB := Lib.hid (fun (n i : Nat) (M : List Bool) (h1 : 2 ≤ numT x.s.data 0 4) => readG_not (n := n) (i := i) (d := x.s.data) (M := M) (fun hh => by omega))
          have HCG := Lib.hid (show cntG x.s.data = q by unfold cntG; omega)
          have hHs : w.heap.size ≤ ws.heap.size := Nat.le_trans hb0.size hbw.size
          obtain ⟨wc, hwc⟩ : ∃ wc, ws.alloc (.cells #[.slice x.A x.s.data.length x.c, .int .i64 0, .int .i64 0] 70) = wc := ⟨_, rfl⟩
          have hbc : Below ws.heap.size ws wc := hwc ▸ (Below.refl _ _).alloc (Nat.le_refl _) _
          have hXc := Box.new ws 70 #[.slice x.A x.s.data.length x.c, .int .i64 0, .int .i64 0]
          rw [hwc] at hXc
          have hRR : RR w.heap.size wc ws.heap.size (.slice x.A x.s.data.length x.c) x.s.data 0 0 := ⟨hXc, ⟨x.A, x.c, rfl, hok.le, hok.cap, hok.rd.below (hbc.mono hHs)⟩, Nat.zero_le _, hHs⟩
          have HU1 := Lib.hid (by
            obtain ⟨e1, e2, e3⟩ := got_inY (l := x.s.data) (a := 0) (n := 4) (by omega)
            have := quint_cur hRR 4 (by omega) (by omega)
            rw [show clampOf 4 = 4 from rfl, e1, e2, e3] at this
            exact this : Calls Try.prog 23 #[.pointer (some ⟨ws.heap.size, 0, none⟩), .int .i64 4] wc fun r w' => r = .returned (.int .u64 (numT x.s.data 0 4 : Int)) ∧ RR w.heap.size w' ws.heap.size (.slice x.A x.s.data.length x.c) x.s.data (0 + 4) 0 ∧ wc.grownBy w' (some ws.heap.size))
          have HU2 := Lib.hid (fun (W : World) (gc : Nat) (vc : Value) (k : Nat) (hk : k < q) (hC : RR w.heap.size W gc vc x.s.data (4 * (k + 1)) 0) => (by
            obtain ⟨e1, e2, e3⟩ := got_inY (l := x.s.data) (a := 4 * (k + 1)) (n := 4) (by omega)
            have := quint_cur hC 4 (by omega) (by omega)
            rw [show clampOf 4 = 4 from rfl, e1, e2, e3, show 4 * (k + 1) + 4 = 4 * (k + 1 + 1) by omega] at this
            exact this : Calls Try.prog 23 #[.pointer (some ⟨gc, 0, none⟩), .int .i64 4] W fun r w' => r = .returned (.int .u64 (memG x.s.data k : Int)) ∧ RR w.heap.size w' gc vc x.s.data (4 * (k + 1 + 1)) 0 ∧ W.grownBy w' (some gc)))
          have hGl : G.length ≤ 6000 := by
            have h1 := (grpS_length HG.out).2
            rw [← HT1.out.list, List.length_map] at h1
            omega
          obtain ⟨Ag, cg, rfl, -, -, -⟩ := own_row glay_four HT1.out.rows.row
          have HQ4 := Lib.hid hq4
          have HWC := Lib.hid hwc
          have HBC := Lib.hid hbc
          clear hf hsix h17 hok hx hq HR1 HR2 hmod hd4 hd8 hq4 hq1 hwc hXc hRR
          generalize tabG (secsOf L) = tb at *
          generalize x.s.kind = ki at *
          generalize x.s.link = lk at *
          generalize hdl : x.s.data.length = dl at *
          have HDL := Lib.hid hdl
          clear hdl
          go_upto_region 12 with fail
          rw [HWC.out]
          have hF4 := num4 x.s.data 0
          have HP0 := Lib.hid (fun (w2 : World) (hG2 : wc.grownBy w2 (some ws.heap.size)) => (by
            have h1 : But (fun k => k = mb) ws w2 := (But.of_below HBC.out).grown hG2 (fun x hx => by injection hx with hx; right; omega)
            have h2 : Below w0.heap.size ws w2 := h1.below hbw.size (fun z hz => by have := HT1.out.met_.lt.1; omega)
            exact ⟨h1, hbw.trans h2, (h2.cell (p := ⟨b', o' + j * 6, none⟩) hb'0).trans s0⟩ : But (fun k => k = mb) ws w2 ∧ Below w0.heap.size w0 w2 ∧ w2.cell? ⟨b', o' + j * 6, none⟩ = some (.string ⟨y.name.toArray⟩)))
          by_cases hF2 : 2 ≤ numT x.s.data 0 4
          · have HNN := Lib.hid (HNO.out (HRB.out _ _ _ hF2))
            have d1 : decide (1 < numT x.s.data 0 4) = true := decide_eq_true (by omega)
            have d2 : decide ((1 : Int) < (numT x.s.data 0 4 : Int)) = true := decide_eq_true (by omega)
            generalize numT x.s.data 0 4 = F at *
            clear hF2
            go_wp2_with (go_at_call 23; refine HU1.out.mono ?_; rintro r w2 ⟨rfl, -, hG2⟩; have HB2 := Lib.hid (HP0.out _ hG2).2.1; clear hG2)
            go_ret2
            exact ⟨_, by rw [HNN.out.1]; rfl, by rw [HNN.out.2]; exact owng_nil _ _ _, HB0.out.trans (HB2.out.mono hb0.size)⟩
          · have d1 : decide (1 < numT x.s.data 0 4) = false := decide_eq_false (by omega)
            have d2 : decide ((1 : Int) < (numT x.s.data 0 4 : Int)) = false := decide_eq_false (by omega)
            have HRG := Lib.hid (HRI.out N k met (by omega))
            have hone : ((numT x.s.data 0 4 : Int) == 1) = (numT x.s.data 0 4 == 1) := by rw [Bool.eq_iff_iff]; simp; omega
            generalize (numT x.s.data 0 4 == 1) = one at *
            generalize numT x.s.data 0 4 = F at *
            have HFF := Lib.hid hone
            have HS2 := Lib.hid (fun (w2 : World) (hC2 : RR w.heap.size w2 ws.heap.size (.slice x.A dl x.c) x.s.data (0 + 4) 0) (hG2 : wc.grownBy w2 (some ws.heap.size)) => (by
              have hne := (HXS.out.below HBC.out HXS.out.lt)
              have hlt := HXS.out.lt
              exact ⟨hne.grown hG2 (by simp; omega), (HT1.out.met_.below HBC.out).grown hG2 (by have := HT1.out.met_.lt.2; simp; omega)⟩ : Box w2 wr.heap.size 61 #[.string ⟨x.s.name.toArray⟩, .int .i64 ki, .int .u64 (x.s.flags : Int), .int .u64 (x.s.addr : Int), .slice x.A dl x.c, .int .i64 lk, .int .i64 (j : Int), .int .i64 x.s.algn, .int .i64 x.s.ent] ∧ Met w2 w0.heap.size mb N met))
            clear x0 x1 x2 x3 x4 y1 y4 y5 y6 p1 p5 hmod0 hjl
            go_upto_region 15 with (go_at_call 23; refine HU1.out.mono ?_; rintro r w2 ⟨rfl, hC2, hG2⟩; (obtain ⟨hp1, hp2, hp5⟩ := HP0.out _ hG2); (obtain ⟨hp3, hp4⟩ := HS2.out _ hC2 hG2); have HC2 := Lib.hid hC2; have HP1 := Lib.hid hp1; have HP2 := Lib.hid hp2; have HP3 := Lib.hid hp3; have HP4 := Lib.hid hp4; clear hC2 hG2 hp1 hp2 hp3 hp4)
            clear HS2 HU1 HP0 s0 d1 d2
            obtain ⟨x0, x1, x2, x3, x4⟩ := KX.out _ HP2.out
            have y4 := HP3.out.cell 4
            have y6 := HP3.out.cell 6
            simp at y4 y6
            have HR0 := Lib.hid (show RReadSt w.heap.size ws (w2.alloc (.cells #[.int .i64 (k : Int), .bool one, .string ⟨y.name.toArray⟩, .slice none 0 0] 29)) w2.heap.size ws.heap.size w0.heap.size mb N k ⟨y.name.toArray⟩ one (.slice x.A dl x.c) (.slice none 0 0) x.s.data met met 0 from
              ⟨rfl, Box.new _ _ _, World.ownsRow_nil _ _ _ _, HP4.out.below ((Below.refl _ _).alloc (Nat.le_refl _) _), HC2.out.below ((Below.refl _ _).alloc (Nat.le_refl _) _), HP1.out.then_ ((Below.refl _ _).alloc (Nat.le_refl _) _)⟩)
            have HX3 := Lib.hid (HP3.out.below ((Below.refl w2.heap.size w2).alloc (Nat.le_refl _) (.cells #[.int .i64 (k : Int), .bool one, .string ⟨y.name.toArray⟩, .slice none 0 0] 29)) HP3.out.lt)
            have hg0 : ws.heap.size ≤ w2.heap.size := HP1.out.1.size
            have hgm : w2.heap.size ≠ mb := by have := HP4.out.lt.2; omega
            have hcm : ws.heap.size ≠ mb := by have := HT1.out.met_.lt.2; omega
            have hBm : w.heap.size ≤ mb := Nat.le_trans hb0.size HT1.out.met_.lt.1
            have hgcg : ws.heap.size < w2.heap.size := HC2.out.1.lt
            go_wp2_with fail
            have HXSL := Lib.hid (show Box ws wr.heap.size 61 #[.string ⟨x.s.name.toArray⟩, .int .i64 ki, .int .u64 (x.s.flags : Int), .int .u64 (x.s.addr : Int), .slice x.A dl x.c, .int .i64 lk, .int .i64 (j : Int), .int .i64 x.s.algn, .int .i64 x.s.ent] from HXS.out)
            have hsm : wr.heap.size ≠ mb := by have := HT1.out.met_.lt.2; have := HT.out.met_.lt.2; omega
            clear x0 x1 x2 x3 x4 y4 y6 HX3 HC2 HP1 HP2 HP3 HP4 HXS
            generalize hg1 : w2.heap.size = g at *
            clear hg1
            generalize hgc1 : ws.heap.size = gc at *
            have HGC := Lib.hid hgc1
            clear hgc1
            generalize wr = wo at *
            go_loopg [12] q (fun gk _ wr => ∃ (k' : Nat) (b : List Bool) (v : Value), k' ≤ q ∧ gk = q - k' ∧ Hid (RReadSt w.heap.size ws wr g gc w0.heap.size mb N k ⟨y.name.toArray⟩ one (.slice x.A dl x.c) v x.s.data met b k'))
            case atStart => exact ⟨0, met, _, Nat.zero_le _, rfl, HR0⟩
            case round =>
              obtain ⟨k', b2, v, hk', rfl, HR⟩ := hrel
              clear HR0
              have hBx := hbw.trans (HR.out.but.below hbw.size (fun z hz => by have := HT1.out.met_.lt.1; omega))
              obtain ⟨x0, x1, x2, x3, x4⟩ := KX.out _ hBx
              have y4 := (HR.out.but.box HXSL.out hsm).cell 4
              simp at y4
              obtain ⟨P, hP⟩ : ∃ P, 4 * (k' + 1) = P := ⟨_, rfl⟩
              have c1 : wr.cell? ⟨gc, 1, none⟩ = some (.int .i64 (P : Int)) := by rw [← hP]; exact HR.out.cur.1.cell 1
              by_cases hlk : k' < q
              · have dlt : decide (P < dl) = true := decide_eq_true (by have := HQ4.out; omega)
                have dlt2 : decide ((P : Int) < (dl : Int)) = true := decide_eq_true (by have := HQ4.out; omega)
                have HUk := Lib.hid (fun n => HU2.out (wr.drewN n) _ _ k' hlk (HR.out.cur.drewN n))
                clear hP
                have hm4 := num4 x.s.data (4 * (k' + 1))
                rw [show numT x.s.data (4 * (k' + 1)) 4 = memG x.s.data k' from rfl] at hm4
                have HG3 := Lib.hid (fun hb => (HNO.out (HRG.out.trans (metG_bad (k := k') HR.out.met hb hlk))))
                have HNX2 := Lib.hid (fun h => metG_next (k := k') HR.out.met h)
                have HMS := Lib.hid (memsG_succ x.s.data k')
                have hbl : b2.length = N := HR.out.row.1
                have HLK := Lib.hid hlk
                have hk5 : k' ≤ 6000 := by omega
                have HPB := Lib.hid (fun W (hW : But (fun z => z = mb) ws W) => hbw.trans (hW.below hbw.size (fun z hz => by have := HT1.out.met_.lt.1; omega)))
                generalize memG x.s.data k' = m at *
                have hcv : IntKind.i64.wrap (m : Int) = (m : Int) := by rw [IntWalk.i64_in _ (by omega)]
                by_cases hmn : m < N
                · obtain ⟨bv, hbv⟩ : ∃ bv, b2[m]? = some bv := ⟨b2[m]'(by omega), List.getElem?_eq_getElem _⟩
                  have hbadv : badM N k b2 m = (((m : Int) == 0) || (((m : Int) == (k : Int)) || bv)) := by
                    rw [Bool.eq_iff_iff]
                    unfold badM
                    rw [hbv]
                    simp [show ¬ N ≤ m by omega]
                    rw [show (m = k) = ((m : Int) = (k : Int)) from propext (by omega)]
                  have HBV := Lib.hid hbv
                  have d1 : decide (N ≤ m) = false := decide_eq_false (by omega)
                  have hmn' : (m : Int) < (N : Int) := by omega
                  have hm0 : (0 : Int) ≤ (m : Int) := by omega
                  generalize he0 : ((m : Int) == 0) = e0 at *
                  generalize he2 : ((m : Int) == (k : Int)) = e2 at *
                  clear hbv hbl hlk
                  by_cases hbb : (e0 || (e2 || bv)) = true
                  · have HNN := Lib.hid (HG3.out (hbadv.trans hbb))
                    clear HG3 HNX2 hbadv HNX HNO HRB HRI HRG HU2
                    have h3 : e0 = true ∨ (e0 = false ∧ e2 = true) ∨ (e0 = false ∧ e2 = false ∧ bv = true) := by revert hbb; cases e0 <;> cases e2 <;> cases bv <;> simp
                    clear hbb
                    go_wp2_with fail
                    go_quiet (fail)
                    clear x0 x1 x2 x3 x4 y4 c1
                    rcases h3 with rfl | ⟨rfl, rfl⟩ | ⟨rfl, rfl, rfl⟩
                    all_goals
                      go_wp2_with (go_at_call 23; refine (HUk.out _).mono ?_; rintro r w3 ⟨rfl, -, hG3⟩; (obtain ⟨-, -, -, r4, r5⟩ := (HR.out.drewN _).read (Nat.le_of_eq HGC.out) hG3); (obtain ⟨x0, x1, x2, x3, x4⟩ := KX.out _ (HPB.out _ r5)); have HB5 := Lib.hid (HPB.out _ r5); have xm := r4.cell HBV.out; clear hG3 r4 r5)
                      go_ret2
                      exact ⟨_, by rw [HNN.out.1]; rfl, by rw [HNN.out.2]; exact owng_nil _ _ _, HB0.out.trans (HB5.out.mono hb0.size)⟩
                  · have hbb' : (e0 || (e2 || bv)) = false := by simpa using hbb
                    have HMT := Lib.hid (HNX2.out (hbadv.trans hbb'))
                    obtain ⟨rfl, hbb2⟩ := Bool.or_eq_false_iff.1 hbb'
                    obtain ⟨rfl, rfl⟩ := Bool.or_eq_false_iff.1 hbb2
                    obtain ⟨Av, cv, rfl, -, -, -⟩ := own_row mem_one HR.out.mem
                    have h63 : k' + 1 ≤ maxLen := by unfold maxLen; omega
                    have hby : (k' + 1) * 8 ≤ 140737488355328 := by omega
                    rw [memsG_length] at HR
                    clear HG3 HNX2 hbadv HNX HNO HRB HRI HRG HU2 hbb hbb' hbb2
                    go_wp2_with fail
                    go_quiet (fail)
                    clear x0 x1 x2 x3 x4 y4 c1
                    go_upto_region 21 with (go_at_call 23; refine (HUk.out _).mono ?_; rintro r w3 ⟨rfl, hC3, hG3⟩; (obtain ⟨r1, r2, r3, r4, r5⟩ := (HR.out.drewN _).read (Nat.le_of_eq HGC.out) hG3); (obtain ⟨x0, x1, x2, x3, x4⟩ := KX.out _ (HPB.out _ r5)); have HR2 := Lib.hid r2; have HR3 := Lib.hid r3; have HR4 := Lib.hid r4; have HR5 := Lib.hid r5; have HC3 := Lib.hid hC3; have xm := r4.cell HBV.out; have xf := r4.free m; clear hG3 hC3 r1 r2 r3 r4 r5)
                    obtain ⟨t1, t2, t3, t4, t5⟩ := rread_mark HR2.out HR3.out HR4.out HR5.out HC3.out m hgm hcm hBm
                    generalize w3.setCell ⟨mb, m, none⟩ (.bool true) = w4 at *
                    have y3 := t1.cell 3
                    simp at y3
                    have HT11 := Lib.hid t1
                    have HT12 := Lib.hid t2
                    have HT13 := Lib.hid t3
                    have HT14 := Lib.hid t4
                    have HT15 := Lib.hid t5
                    have hb4 : ws.heap.size ≤ w4.heap.size := t5.1.size
                    clear t1 t2 t3 t4 t5 x0 x1 x2 x3 x4 xm xf HR2 HR3 HR4 HR5 HC3
                    have hown4 : w4.ownsRow ws.heap.size 3 1 (.slice Av k' cv) k' (cellsF memC (memsG x.s.data k')) := by have := HT12.out; rw [OwnM, memsG_length] at this; exact this
                    have FB := Lib.hid (fun (g5 cap5 : Nat) (w5 : World) (hown5 : w5.ownsRow ws.heap.size 3 1 (.slice (some ⟨g5, 0, none⟩) (k' + 1) cap5) (k' + 1) (cellsF memC (memsG x.s.data k') ++ memC m)) (hg5 : (w4.alloc (.cells #[.int .i64 (m : Int)] 3)).grownBy w5 (Value.slice Av k' cv).ownBlock) => rread_more HMT.out HMS.out HT11.out HT12.out HT13.out HT15.out HT14.out (by rw [HGC.out]; exact hg0) hgm (by have h1 := hb0.size; have h2 := hbw.size; omega) hown5 hg5)
                    go_wp2_with (at_builtin; refine wpList_append_lies _ (by rfl) (.tmp 123) (.tmp 125) _ (by rfl) ws.heap.size 3 i3 _ 1 8 Try.underlying27 hj3 hx0 hx1 hx2 (by rfl) (by decide) (.slice Av k' cv) k' (cellsF memC (memsG x.s.data k')) (by rfl) (by exact hown4.alloc _) ⟨w4.heap.size, 0, none⟩ 1 1 (memC m) (by rfl) rfl (mem_lit w4 m) (mem_cell m) (by decide) h63 hby (by simp; omega) _ rfl ?_; intro g5 cap5 w5 hown5 hg5 hat5 hlt5; (obtain ⟨z0, z1, hz2⟩ := FB.out g5 cap5 w5 hown5 hg5); have HZ2 := Lib.hid hz2; clear hown5 hg5 hat5 hlt5 hz2)
                    go_roundg (q - (k' + 1))
                    case measure => have := HLK.out; omega
                    case rel => exact ⟨k' + 1, _, _, HLK.out, rfl, HZ2⟩
                · have d1 : decide (N ≤ m) = true := decide_eq_true (by omega)
                  have HNN := Lib.hid (HG3.out (by unfold badM; exact decide_eq_true (.inr (.inl (by omega)))))
                  generalize he0 : ((m : Int) == 0) = e0 at *
                  clear HG3 hmn hbl HNX2 HNX HNO HRB HRI HRG HU2 hlk
                  go_wp2_with fail
                  go_quiet (fail)
                  clear x0 x1 x2 x3 x4 y4 c1
                  cases e0
                  all_goals
                    go_wp2_with (go_at_call 23; refine (HUk.out _).mono ?_; rintro r w3 ⟨rfl, -, hG3⟩; (obtain ⟨-, -, -, r4, r5⟩ := (HR.out.drewN _).read (Nat.le_of_eq HGC.out) hG3); (obtain ⟨x0, x1, x2, x3, x4⟩ := KX.out _ (HPB.out _ r5)); have HB5 := Lib.hid (HPB.out _ r5); clear hG3 r4 r5)
                    go_ret2
                    exact ⟨_, by rw [HNN.out.1]; rfl, by rw [HNN.out.2]; exact owng_nil _ _ _, HB0.out.trans (HB5.out.mono hb0.size)⟩
              · have hkq : k' = q := by omega
                have dlt : decide (P < dl) = false := decide_eq_false (by have := HQ4.out; omega)
                have dlt2 : decide ((P : Int) < (dl : Int)) = false := decide_eq_false (by have := HQ4.out; omega)
                clear hP
                subst hkq
                obtain ⟨Av, cv, rfl, -, -, -⟩ := own_row mem_one HR.out.mem
                have HT3 := Lib.hid (HT1.out.rread hbw.size (by decide) HR.out.row HR.out.but)
                have HNN := Lib.hid (HNX.out b2 (HRG.out.trans HR.out.met))
                have HX5 := Lib.hid (by
                  rw [HGO.out, HCG.out]
                  exact HR.out.box : Box wr g 29 #[.int .i64 ((grpOf Y k x.s).place : Int), .bool (grpOf Y k x.s).one, .string ⟨(grpOf Y k x.s).name.toArray⟩, .slice Av (grpOf Y k x.s).mem.length cv])
                have HM5 := Lib.hid (by
                  rw [HGO.out, HCG.out]
                  exact row_base HR.out.mem hbw.size : OwnM wr w0.heap.size (.slice Av (grpOf Y k x.s).mem.length cv) (grpOf Y k x.s).mem)
                have h63 : G.length + 1 ≤ maxLen := by unfold maxLen; omega
                have hby : (G.length + 1) * 56 ≤ 140737488355328 := by omega
                clear HU2 HNO HRB HRI HRG
                go_wp2_with fail
                go_quiet (fail)
                go_upto_region 22 with fail
                clear x0 x1 x2 x3 x4 y4 c1 dlt dlt2
                have HT4 := Lib.hid (HT3.out.later (below_drewN (Below.refl _ _) nq) (Nat.le_trans hbw.size HR.out.but.1.size))
                have HX6 := Lib.hid (Box.drewN HX5.out nq)
                have HM6 := Lib.hid (row_below HM5.out (below_drewN (Below.refl _ _) nq))
                clear HT3 HX5 HM5 HGO
                generalize hwd : wr.drewN nq = wd at *
                clear hwd
                obtain ⟨c0, c1, c2, c3⟩ := four_cells HX6.out
                generalize grpOf Y k x.s = gx at *
                have hb3 := HT4.out.below.size
                have hown3 := HT4.out.rows.row
                go_wp2_with (at_builtin; refine wpList_append_lies _ (by rfl) (.tmp 128) (.tmp 130) _ (by rfl) w0.heap.size 29 i2 _ 4 56 Try.underlying38 hj2 hz0 hz1 hz2 (by rfl) (by decide) (.slice Ag G.length cg) G.length (cellsF GLay.cells G) (by rfl) (by exact hown3.alloc _) ⟨wd.heap.size, 0, none⟩ 1 1 (GLay.cells ⟨gx, Av, cv⟩) (by rfl) rfl (glay_lit _ wd ⟨gx, Av, cv⟩) (GLay.one ⟨gx, Av, cv⟩) (by decide) h63 hby (by simp; omega) _ rfl ?_; intro g5 cap5 w5 hown5 hg5 hat5 hlt5; have HT5 := Lib.hid (HT4.out.more hb3 (by decide) (by decide) (x := ⟨gx, Av, cv⟩) HM6.out hown5 hg5); clear hown5 hg5 hat5 hlt5)
                go_roundg (N - (k + 1))
                case measure => have := HLT.out; omega
                case rel => exact ⟨k + 1, _, _, _, HLT.out, rfl, by go_num, HNN, HT5⟩
      · have q17 : (x.s.kind != 17) = true := by simp [h17]
        have HN1 := Lib.hid (grpS_other HG.out HSX.out h17)
        clear h17 hok hx
        generalize x.s.kind = ki at *
        go_wp2_with fail
        go_roundg (N - (k + 1))
        case measure => have := HLT.out; omega
        case rel => exact ⟨k + 1, G, l, met, HLT.out, rfl, by go_num, HN1, HT1⟩
    · have hkN : k = N := by omega
      subst hkN
      obtain ⟨e1, e2⟩ := grp_some (S := secsOf L) (Y := Y) (by rw [HSN.out]; exact HG.out)
      go_wp2_with fail
      go_ret2
      rw [e1, e2]
      exact ⟨_, rfl, by rw [← HT.out.list]; exact (HT.out.rows.base_ hb0.size).own, HB0.out.trans (HT.out.below.mono hb0.size)⟩

end Go.Proofs.Ytbpemehhbeejcaa
