/-
  The document's groups of an object: how things stand while a group's members are read.
-/
import Derived.Test.YtbpemehhbeejcaaGpM
import Derived.Deep.DeepCutAuto
import Derived.Deep.LoopGhost
import Derived.Test.YtbpemehhbeejcaaRefR
namespace Go.Proofs.Ytbpemehhbeejcaa
open Go Go.RowKit

/-- How things stand behind k sections. -/
structure TakeG (T : TypeId) (w1 w : World) (base mb N : Nat) (v : Value) (L : List GLay) (l : List Grp) (met : List Bool) : Prop where
  list : L.map (·.g) = l
  rows : GSt T w base v L
  met_ : Met w base mb N met
  below : Below base w1 w
section
variable {T : TypeId} {w0 w1 w w' : World} {base mb N : Nat} {v : Value} {L : List GLay} {l : List Grp} {met : List Bool}
theorem TakeG.later (h : TakeG T w1 w base mb N v L l met) (hb : Below w.heap.size w w') (hB : base ≤ w.heap.size) : TakeG T w1 w' base mb N v L l met :=
  ⟨h.list, h.rows.below hb, h.met_.below hb, h.below.trans (hb.mono hB)⟩
/-- A group's bytes were read. -/
theorem TakeG.read (h : TakeG T w1 w base mb N v L l met) (hB : base ≤ w.heap.size) {g : Nat} (hg : w.heap.size = g) (hT : T ≠ 4) {o : Obj} {met' : List Bool} (hM : Met w' base mb N met') (hb : But (ReadP g mb) (w.alloc o) w') : TakeG T w1 w' base mb N v L l met' := by
  have h1 := h.later ((Below.refl w.heap.size w).alloc (Nat.le_refl _) o) hB
  obtain ⟨cs, f, hh⟩ := h1.met_.box
  have hlt := h.met_.lt
  refine ⟨h.list, h1.rows.but hb (fun k hk => ?_) (fun x hx k hk => ?_), hM, h1.below.trans (hb.below (by have := h.met_.lt; simp; omega) (fun k hk => ?_))⟩
  · rintro (rfl | rfl)
    · have := (h.rows.row.lt k hk).2; omega
    · exact row_other h1.rows.row hh hT k hk rfl
  · rintro (rfl | rfl)
    · have := ((h.rows.mem x hx).lt k hk).2; omega
    · exact row_other (h1.rows.mem x hx) hh (by decide) k hk rfl
  · rcases hk with rfl | rfl
    · omega
    · omega
/-- A group more. -/
theorem TakeG.more (h : TakeG T w1 w base mb N v L l met) (hB : base ≤ w.heap.size) (hT : 3 ≠ T) (hT2 : T ≠ 4) {x : GLay} (hx : OwnM w base (.slice x.a x.g.mem.length x.c) x.g.mem) {o : Obj} {v' : Value} (hown : w'.ownsRow base T 4 v' (L.length + 1) (cellsF GLay.cells L ++ x.cells)) (hg : (w.alloc o).grownBy w' v.ownBlock) : TakeG T w1 w' base mb N v' (L ++ [x]) (l ++ [x.g]) met := by
  have hb : Below w.heap.size w (w.alloc o) := (Below.refl w.heap.size w).alloc (Nat.le_refl _) o
  have h1 := h.later hb hB
  obtain ⟨cs, f, hh⟩ := h1.met_.box
  exact ⟨by simp [h.list], h1.rows.more (row_below hx hb) hT hown hg, h1.met_.grown hg (fun e => row_other h1.rows.row hh hT2 _ e.symm rfl), h1.below.trans (below_of_only hg (by have := hb.size; omega) (fun k hk => (h1.rows.row.lt k hk).1))⟩
end

theorem not_is {b : Bool} (h : false = !b) : b = true := by cases b <;> simp_all
theorem not_isn {b : Bool} (h : true = !b) : b = false := by cases b <;> simp_all
theorem glay_lit (T : TypeId) (w : World) (x : GLay) : ∀ j u, x.cells[j]? = some u → (w.alloc (.cells #[.int .i64 (x.g.place : Int), .bool x.g.one, .string ⟨x.g.name.toArray⟩, .slice x.a x.g.mem.length x.c] T)).cell? ((⟨w.heap.size, 0, none⟩ : Addr).add j) = some u := fun j u h => by
  rw [addr_add, (Box.new w T #[.int .i64 (x.g.place : Int), .bool x.g.one, .string ⟨x.g.name.toArray⟩, .slice x.a x.g.mem.length x.c]).cell, Nat.zero_add]
  simpa [GLay.cells] using h

set_option maxRecDepth 10000 in
set_option maxHeartbeats 3200000 in
theorem gtake_any {w : World} (o : ObjV) (h : o.Ok w w.heap.size) (hlS : o.L.length ≤ 6000) (hlD : ∀ x ∈ o.L, x.s.data.length ≤ 6000) (hlY : o.Y.length ≤ 6000) :
    Calls Try.prog 8 #[o.val] w fun r w' => ∃ u, r = .returned (.tuple #[u, .int .i64 (grpE (secsOf o.L) o.Y)]) ∧ OwnG 45 w' w.heap.size u (grpL (secsOf o.L) o.Y) ∧ Below w.heap.size w w' := by
  obtain ⟨kd, mc, aS, cS, L, aY, cY, Y, aR, cR, Q⟩ := o
  rw [show ObjV.val ⟨kd, mc, aS, cS, L, aY, cY, Y, aR, cR, Q⟩ = .agg #[.int .i64 kd, .int .i64 mc, .slice aS L.length cS, .slice aY Y.length cY, .slice aR Q.length cR] from rfl]
  obtain ⟨hs, hy, -, -, -⟩ := h
  simp only at hs hy hlS hlD hlY ⊢
  obtain ⟨i1, hj, hy0, hy1, hy2⟩ := info_parts bool_info
  obtain ⟨i2, hj2, hz0, hz1, hz2⟩ := info_parts group_info
  generalize hw0 : (w.alloc (.cells #[.int .i64 kd, .int .i64 mc, .slice aS L.length cS, .slice aY Y.length cY, .slice aR Q.length cR] 37)) = w0 at *
  have hb0 : Below w.heap.size w w0 := hw0 ▸ (Below.refl _ _).alloc (Nat.le_refl _) _
  have hX0 := Box.new w 37 #[.int .i64 kd, .int .i64 mc, .slice aS L.length cS, .slice aY Y.length cY, .slice aR Q.length cR]
  rw [hw0] at hX0
  have hlt0 : w.heap.size < w0.heap.size := by rw [← hw0]; simp
  have HB0 := Lib.hid hb0
  have HS := Lib.hid (hs.below hb0)
  have HY := Lib.hid (Row.below hy hb0)
  have HIX := Lib.hid (index_tab ((hs.below hb0).more hb0.size) cS (by omega))
  have HSN := Lib.hid (show (secsOf L).length = L.length by simp [secsOf])
  have HLD := Lib.hid hlD
  have htb := tabG_bound (secsOf L)
  rw [HSN.out] at htb
  generalize hN : L.length = N at *
  have HN := Lib.hid hN
  generalize hNY : Y.length = ny at *
  have HNY := Lib.hid hNY
  have KX := Lib.hid (fun W (hW : Below w0.heap.size w0 W) => five_cells (hX0.below hW hlt0))
  have hm1 : i1.bytes * N ≤ 281474976710656 := by rw [hy2]; omega
  have hm2 : N ≤ maxLen := by unfold maxLen; omega
  clear hs hy hX0 hN hNY hlD
  obtain ⟨x0, x1, x2, x3, x4⟩ := KX.out _ (Below.refl _ _)
  go_enter Try.func8, Try.ntmps8
  go_upto_region 1 with fail
  try rw [hw0]
  clear hw0
  go_upto_region 4 with (first
    | (go_at_call 19; refine HIX.out.mono ?_; rintro r w1 ⟨rfl, hb1⟩; have HB1 := Lib.hid hb1; (obtain ⟨y0, y1, y2, y3, y4⟩ := KX.out _ hb1); clear hb1)
    | (at_make; refine wpList_make_full _ rfl _ _ 57 rfl w1.heap.size 4 i1 _ 1 Try.underlying57 hj hy0 hy1 .i64 .i64 (N : Int) (N : Int) N rfl rfl rfl rfl hm1 hm2 (Nat.le_refl _) ?_; intro w2 hown2 hg2))
  have hb12 : Below w1.heap.size w1 w2 := below_of_only hg2 (Nat.le_refl _) (by simp)
  have hbw1 := HB1.out.size
  have HT0 := Lib.hid (show TakeG 45 w0 w2 w0.heap.size w1.heap.size N (.slice none 0 0) [] [] (List.replicate (secsOf L).length false) from
    ⟨rfl, GSt.nil _ _ _, by rw [HSN.out]; exact met_made (by have h := row_base hown2 hbw1; rwa [show (Value.bool false).cells = #[Value.bool false] from rfl, made_one] at h), HB1.out.trans (hb12.mono hbw1)⟩)
  clear hown2 hg2 y0 y1 y2 y3 y4 x0 x1 x2 x3 x4 hm1 hm2 hj hy0 hy1 hy2 HIX
  obtain ⟨x0, x1, x2, x3, x4⟩ := KX.out _ HT0.out.below
  generalize w1.heap.size = mb at *
  go_wp2_with fail
  clear x0 x1 x2 x3 x4
  go_loopg [6, 20] N (fun gk v i wr => ∃ (k : Nat) (G : List GLay) (l : List Grp) (met : List Bool), k ≤ N ∧ gk = N - k ∧ i = .int .i64 k ∧ Hid (grpS (secsOf L) Y k = some (l, met)) ∧ Hid (TakeG 45 w0 wr w0.heap.size mb N v G l met))
  case atStart => exact ⟨0, [], [], _, Nat.zero_le _, rfl, rfl, Lib.hid rfl, HT0⟩
  case round =>
    obtain ⟨k, G, l, met, hk, rfl, rfl, HG, HT⟩ := hrel
    clear HT0
    have hbr := HT.out.below
    obtain ⟨x0, x1, x2, x3, x4⟩ := KX.out _ hbr
    by_cases hlt : k < N
    · have HLT := Lib.hid hlt
      obtain ⟨x, hx⟩ : ∃ x, L[k]? = some x := ⟨L[k]'(by rw [HN.out]; exact hlt), List.getElem?_eq_getElem _⟩
      obtain ⟨b, oo, rfl, hb, n0, n1, n2, n3, n4, n5, n6, n7, n8⟩ := (HS.out.below (hbr.mono hb0.size)).at_ hx
      generalize hws : wr.alloc (.cells #[.string ⟨x.s.name.toArray⟩, .int .i64 x.s.kind, .int .u64 (x.s.flags : Int), .int .u64 (x.s.addr : Int), .slice x.A x.s.data.length x.c, .int .i64 x.s.link, .int .i64 x.s.inf, .int .i64 x.s.algn, .int .i64 x.s.ent] 61) = ws at *
      have hbs : Below wr.heap.size wr ws := hws ▸ (Below.refl _ _).alloc (Nat.le_refl _) _
      have HT1 := Lib.hid (HT.out.later hbs (by have := hbr.size; exact this))
      have hXs := Box.new wr 61 #[.string ⟨x.s.name.toArray⟩, .int .i64 x.s.kind, .int .u64 (x.s.flags : Int), .int .u64 (x.s.addr : Int), .slice x.A x.s.data.length x.c, .int .i64 x.s.link, .int .i64 x.s.inf, .int .i64 x.s.algn, .int .i64 x.s.ent]
      rw [hws] at hXs
      have HXS := Lib.hid hXs
      go_upto_region 7 with fail
      try rw [hws]
      have hbw := HT1.out.below
      have hrz : w0.heap.size ≤ wr.heap.size := hbr.size
      clear x0 x1 x2 x3 x4 n0 n1 n2 n3 n4 n5 n6 n7 n8 hws hbs hbr
      obtain ⟨x0, x1, x2, x3, x4⟩ := KX.out _ hbw
      have y1 := hXs.cell 1
      have y4 := hXs.cell 4
      have y5 := hXs.cell 5
      have y6 := hXs.cell 6
      simp at y1 y4 y5 y6
      clear hXs
      have HXX := Lib.hid hx
      have HSX := Lib.hid (get_secsOf hx)
      have hdx := HLD.out x (List.mem_of_getElem? hx)
      have hok := (HS.out.below (hbw.mono hb0.size)).get hx
      by_cases h17 : x.s.kind = 17
      · have q17 : (x.s.kind != 17) = false := by simp [h17]
        have HFR : frontG (secsOf L) Y.length x.s = !(decide (tabG (secsOf L) < 0) || ((x.s.link != tabG (secsOf L)) || (decide (x.s.inf < 0) || decide ((Y.length : Int) ≤ x.s.inf)))) := rfl
        rw [HNY.out] at HFR
        by_cases hf : frontG (secsOf L) Y.length x.s = true
        · obtain ⟨⟨j, y, hji, hy⟩, -⟩ := frontG_true hf
          have hjn : j < ny := by rw [← HNY.out]; exact (List.getElem?_eq_some_iff.1 hy).1
          obtain ⟨HR1, HR2⟩ := grpS_read HG.out HSX.out h17 hf
          rw [HNY.out] at hf
          rw [hf] at HFR
          have hq : (decide (tabG (secsOf L) < 0) || ((x.s.link != tabG (secsOf L)) || (decide (x.s.inf < 0) || decide ((ny : Int) ≤ x.s.inf)))) = false := not_isn HFR
          obtain ⟨p0, hq⟩ := Bool.or_eq_false_iff.1 hq
          obtain ⟨p1, -⟩ := Bool.or_eq_false_iff.1 hq
          obtain ⟨b', o', rfl, hb', s0, -⟩ := sym_at (Row.below HY.out (hbw.mono hb0.size)) hy
          have HGO := Lib.hid (show grpOf Y k x.s = ⟨k, numT x.s.data 0 4 == 1, y.name, memsG x.s.data (cntG x.s.data)⟩ by
            unfold grpOf
            rw [hji, Int.toNat_natCast, hy]; rfl)
          have HNO := Lib.hid (fun hh => grp_none (S := secsOf L) (Y := Y) (by rw [HSN.out]; exact HR1 hh N hlt))
          have HNX := Lib.hid HR2
          rw [hji] at y6
          have hjl : decide (ny ≤ j) = false := decide_eq_false (by omega)
          generalize hwg : ws.alloc (.cells #[.int .i64 (k : Int), .bool false, .string ⟨y.name.toArray⟩, .slice none 0 0] 45) = wg at *
          have hbg : Below ws.heap.size ws wg := hwg ▸ (Below.refl _ _).alloc (Nat.le_refl _) _
          have hXg := Box.new ws 45 #[.int .i64 (k : Int), .bool false, .string ⟨y.name.toArray⟩, .slice none 0 0]
          rw [hwg] at hXg
          have hHs : w.heap.size ≤ ws.heap.size := Nat.le_trans hb0.size hbw.size
          have HRD := Lib.hid (read_any hXg (HT1.out.met_.below hbg) (hok.rd.below (hbg.mono hHs)) (Nat.le_trans hHs hbg.size) x.c (by omega))
          rw [show (secsOf L).length = N from HSN.out] at HNO HNX
          have hPm : ∀ z, ReadP ws.heap.size mb z → w0.heap.size ≤ z := fun z hz => by
            rcases hz with rfl | rfl
            · exact hbw.size
            · exact HT1.out.met_.lt.1
          have HPM := Lib.hid (fun w3 (hB3 : But (ReadP ws.heap.size mb) wg w3) => hbw.trans ((hbg.mono hbw.size).trans (hB3.below (Nat.le_trans hbw.size hbg.size) hPm)))
          have hGl : G.length ≤ 6000 := by
            have h1 := (grpS_length HG.out).2
            rw [← HT1.out.list, List.length_map] at h1
            omega
          obtain ⟨Ag, cg, rfl, -, -, -⟩ := own_row glay_four HT1.out.rows.row
          clear hf HFR h17 hok hx hq HR1 HR2 hPm
          generalize tabG (secsOf L) = tb at *
          generalize x.s.kind = ki at *
          generalize x.s.link = lk at *
          have z4 := (HXS.out.below hbg HXS.out.lt).cell 4
          simp at z4
          have HWG := Lib.hid hwg
          have HB4 := Lib.hid hbg
          have HXG := Lib.hid hXg
          clear hwg hbg hXg
          go_upto_region 11 with fail
          rw [HWG.out]
          clear x0 x1 x2 x3 x4 y1 y4 y5 y6 s0
          cases hrg : readG N k x.s.data met with
          | none =>
            have HNN := Lib.hid (HNO.out hrg)
            rw [hrg] at HRD
            go_wp2_with (go_at_call 21; refine HRD.out.mono ?_; rintro r w3 ⟨rfl, hB3, -⟩; have HB3 := Lib.hid (HPM.out _ hB3); clear hB3)
            go_ret2
            exact ⟨_, by rw [HNN.out.1]; rfl, by rw [HNN.out.2]; exact owng_nil _ _ _, HB0.out.trans (HB3.out.mono hb0.size)⟩
          | some b2 =>
            have HNN := Lib.hid (HNX.out _ hrg)
            rw [hrg] at HRD
            have HGX := Lib.hid (fun (w3 : World) (v3 : Value) (hX3 : Box w3 ws.heap.size 45 #[.int .i64 (k : Int), .bool (numT x.s.data 0 4 == 1), .string ⟨y.name.toArray⟩, v3]) (hM3 : OwnM w3 wg.heap.size v3 (memsG x.s.data (cntG x.s.data))) => (by
              obtain ⟨Av, cv, rfl, -, -, -⟩ := own_row mem_one hM3
              rw [HGO.out]
              exact ⟨Av, cv, hX3, row_base hM3 (Nat.le_trans hbw.size HB4.out.size)⟩ : ∃ Av cv, Box w3 ws.heap.size 45 #[.int .i64 ((grpOf Y k x.s).place : Int), .bool (grpOf Y k x.s).one, .string ⟨(grpOf Y k x.s).name.toArray⟩, .slice Av (grpOf Y k x.s).mem.length cv] ∧ OwnM w3 w0.heap.size (.slice Av (grpOf Y k x.s).mem.length cv) (grpOf Y k x.s).mem))
            have h63 : G.length + 1 ≤ maxLen := by unfold maxLen; omega
            have hby : (G.length + 1) * 56 ≤ 140737488355328 := by omega
            go_upto_region 13 with (go_at_call 21; refine HRD.out.mono ?_; rintro r w3 ⟨rfl, hB3, hR3⟩; (obtain ⟨v3, hX3, hM3, hT3⟩ := hR3 _ rfl); (obtain ⟨Av, cv, hX4, hM4⟩ := HGX.out _ _ hX3 hM3); have HT3 := Lib.hid (HT1.out.read hbw.size rfl (by decide) hT3 (by rw [HWG.out]; exact hB3)); have HM4 := Lib.hid hM4; (obtain ⟨c0, c1, c2, c3⟩ := four_cells hX4); clear hB3 hR3 hX3 hM3 hT3 hX4 hM4)
            clear z4 HGX HGO HXG HB4
            generalize grpOf Y k x.s = gx at *
            have hb3 := HT3.out.below.size
            have hown3 := HT3.out.rows.row
            go_wp2_with (at_builtin; refine wpList_append_lies _ (by rfl) (.tmp 63) (.tmp 65) _ (by rfl) w0.heap.size 45 i2 _ 4 56 Try.underlying33 hj2 hz0 hz1 hz2 (by rfl) (by decide) (.slice Ag G.length cg) G.length (cellsF GLay.cells G) (by rfl) (by exact hown3.alloc _) ⟨w3.heap.size, 0, none⟩ 1 1 (GLay.cells ⟨gx, Av, cv⟩) (by rfl) rfl (glay_lit _ w3 ⟨gx, Av, cv⟩) (GLay.one ⟨gx, Av, cv⟩) (by decide) h63 hby (by simp; omega) _ rfl ?_; intro g5 cap5 w5 hown5 hg5 hat5 hlt5; have HT5 := Lib.hid (HT3.out.more hb3 (by decide) (by decide) (x := ⟨gx, Av, cv⟩) HM4.out hown5 hg5); clear hown5 hg5 hat5 hlt5)
            go_roundg (N - (k + 1))
            case measure => have := HLT.out; omega
            case rel => exact ⟨k + 1, _, _, _, HLT.out, rfl, by go_num, HNN, HT5⟩
        · have hf' : frontG (secsOf L) Y.length x.s = false := by simpa using hf
          have HNO := Lib.hid (grp_none (S := secsOf L) (Y := Y) (by rw [HSN.out]; exact grpS_head HG.out HSX.out h17 (frontG_false hf') hlt))
          rw [HNY.out] at hf'
          rw [hf'] at HFR
          have hq : (decide (tabG (secsOf L) < 0) || ((x.s.link != tabG (secsOf L)) || (decide (x.s.inf < 0) || decide ((ny : Int) ≤ x.s.inf)))) = true := not_is HFR
          clear hf hf' HFR h17 hok hx
          generalize tabG (secsOf L) = tb at *
          generalize x.s.kind = ki at *
          generalize x.s.link = lk at *
          generalize x.s.inf = nf at *
          generalize he0 : decide (tb < 0) = e0 at *
          generalize he1 : (lk != tb) = e1 at *
          generalize he2 : decide (nf < 0) = e2 at *
          generalize he3 : decide ((ny : Int) ≤ nf) = e3 at *
          have h4 : e0 = true ∨ (e0 = false ∧ e1 = true) ∨ (e0 = false ∧ e1 = false ∧ e2 = true) ∨ (e0 = false ∧ e1 = false ∧ e2 = false ∧ e3 = true) := by revert hq; cases e0 <;> cases e1 <;> cases e2 <;> cases e3 <;> simp
          clear hq
          rcases h4 with rfl | ⟨rfl, rfl⟩ | ⟨rfl, rfl, rfl⟩ | ⟨rfl, rfl, rfl, rfl⟩
          all_goals
            go_wp2_with fail
            go_ret2
            exact ⟨_, by rw [HNO.out.1]; rfl, by rw [HNO.out.2]; exact owng_nil _ _ _, HB0.out.trans (hbw.mono hb0.size)⟩
      · have q17 : (x.s.kind != 17) = true := by simp [h17]
        have HN1 := Lib.hid (grpS_other HG.out HSX.out h17)
        clear h17 hok hx
        generalize x.s.kind = ki at *
        go_wp2_with fail
        go_roundg (N - (k + 1))
        case measure => have := HLT.out; omega
        case rel => exact ⟨k + 1, G, l, met, HLT.out, rfl, by go_num, HN1, HT1⟩
    · have hkN : k = N := by omega
      subst hkN
      obtain ⟨e1, e2⟩ := grp_some (S := secsOf L) (Y := Y) (by rw [HSN.out]; exact HG.out)
      go_wp2_with fail
      go_ret2
      rw [e1, e2]
      exact ⟨_, rfl, by rw [← HT.out.list]; exact (HT.out.rows.base_ hb0.size).own, HB0.out.trans (HT.out.below.mono hb0.size)⟩

end Go.Proofs.Ytbpemehhbeejcaa

namespace Go.Proofs.Ytbpemehhbeejcaa
open Go Go.RowKit

/-- How things stand behind k members: since ws nothing turned but the block mb, and new ones. -/
structure RReadSt (B : Nat) (ws w : World) (g gc base mb n i : Nat) (sb : ByteArray) (one : Bool) (vc v : Value) (d : List UInt8) (M b : List Bool) (k : Nat) : Prop where
  met : metG n i d M k = some b
  box : Box w g 29 #[.int .i64 (i : Int), .bool one, .string sb, v]
  mem : OwnM w ws.heap.size v (memsG d k)
  row : Met w base mb n b
  cur : RR B w gc vc d (4 * (k + 1)) 0
  but : But (fun k => k = mb) ws w
section
variable {B : Nat} {ws w w' : World} {g gc base mb n i : Nat} {sb : ByteArray} {one : Bool} {vc v : Value} {d : List UInt8} {M b : List Bool} {k : Nat}
theorem RReadSt.drewN (h : RReadSt B ws w g gc base mb n i sb one vc v d M b k) (q : Nat) : RReadSt B ws (w.drewN q) g gc base mb n i sb one vc v d M b k :=
  ⟨h.met, h.box, h.mem, h.row, h.cur, h.but.grown (only_drewN (only_refl w none) q) (by simp)⟩
/-- A number more is read. -/
theorem RReadSt.read (h : RReadSt B ws w g gc base mb n i sb one vc v d M b k) (hgc : ws.heap.size ≤ gc) (hG : w.grownBy w' (some gc)) :
    metG n i d M k = some b ∧ Box w' g 29 #[.int .i64 (i : Int), .bool one, .string sb, v] ∧ OwnM w' ws.heap.size v (memsG d k) ∧ Met w' base mb n b ∧ But (fun k => k = mb) ws w' := by
  obtain ⟨cs, f, hb⟩ := h.row.box
  exact ⟨h.met, h.box.grown hG (fun e => by injection e with e; exact absurd e (Box.other h.box h.cur.1 (by decide))), World.ownsRow.kept (w := w) h.mem hG (.inr (fun e => row_other h.mem h.cur.1 (by decide) _ e rfl)), h.row.grown hG (fun e => by
    injection e with e
    have := h.cur.1
    unfold Box at this
    rw [← e, hb] at this
    injection this with this
    injection this with _ ht
    exact absurd ht (by decide)), h.but.grown hG (fun x hx => by injection hx with hx; right; omega)⟩
end
end Go.Proofs.Ytbpemehhbeejcaa
