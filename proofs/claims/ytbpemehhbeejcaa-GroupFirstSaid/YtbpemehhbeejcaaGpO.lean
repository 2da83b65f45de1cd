/-
  Package group: what is left out of objects (Left).
-/
import Derived.Test.YtbpemehhbeejcaaGpN
import Derived.Test.YtbpemehhbeejcaaGpJ
import Derived.Test.YtbpemehhbeejcaaGpS
namespace Go.Proofs.Ytbpemehhbeejcaa
open Go Go.RowKit Go.Maps

/-- How things stand behind k objects. -/
structure LeftSt (w1 w : World) (base mb : Nat) (v : Value) (Q : List BLay) (names : List (List UInt8)) (out : List (List Bool)) : Prop where
  list : Q.map (·.l) = out
  rows : BSt w base v Q
  set : SetAt w base mb names
  below : Below base w1 w
section
variable {w1 w w' : World} {base mb : Nat} {v : Value} {Q : List BLay} {names : List (List UInt8)} {out : List (List Bool)}
theorem LeftSt.later (h : LeftSt w1 w base mb v Q names out) (hb : Below w.heap.size w w') (hB : base ≤ w.heap.size) : LeftSt w1 w' base mb v Q names out :=
  ⟨h.list, h.rows.below hb, h.set.below hb, h.below.trans (hb.mono hB)⟩
/-- Behind a group of an object that is left out, or not: a new row's block 'ob' and the names' turned. -/
theorem LeftSt.leave (h : LeftSt w1 w base mb v Q names out) (hB : base ≤ w.heap.size) {ob : Nat} (hob : w.heap.size ≤ ob) {names' : List (List UInt8)} (hS : SetAt w' base mb names') (hb : But (fun k => k = ob ∨ k = mb) w w') : LeftSt w1 w' base mb v Q names' out := by
  obtain ⟨es, c, hm⟩ := h.set.block
  refine ⟨h.list, h.rows.but hb (fun k hk => ?_) (fun q hq k hk => ?_), hS, h.below.trans (hb.below hB (fun k hk => ?_))⟩
  · rintro (rfl | rfl)
    · have := (h.rows.row.lt k hk).2; omega
    · exact row_no_map h.rows.row hm k hk rfl
  · rintro (rfl | rfl)
    · have := ((h.rows.mem q hq).lt k hk).2; omega
    · exact row_no_map (h.rows.mem q hq) hm k hk rfl
  · rcases hk with rfl | rfl
    · omega
    · exact h.set.1
/-- A row of truths more. -/
theorem LeftSt.more (h : LeftSt w1 w base mb v Q names out) (hB : base ≤ w.heap.size) {q : BLay} (hq : OwnB w base q.val q.l) {o : Obj} {v' : Value} (hown : w'.ownsRow base 57 1 v' (Q.length + 1) (cellsF BLay.cells1 Q ++ q.cells1)) (hg : (w.alloc o).grownBy w' v.ownBlock) : LeftSt w1 w' base mb v' (Q ++ [q]) names (out ++ [q.l]) := by
  have hb : Below w.heap.size w (w.alloc o) := (Below.refl w.heap.size w).alloc (Nat.le_refl _) o
  have h1 := h.later hb hB
  obtain ⟨es, c, hm⟩ := h1.set.block
  exact ⟨by simp [h.list], h1.rows.more (row_below hq hb) hown hg, h1.set.but ((But.refl (fun k => some k = v.ownBlock) _).grown hg (fun x hx => .inl hx.symm)) (fun e => row_no_map h1.rows.row hm _ e.symm rfl), h1.below.trans (below_of_only hg (by have := hb.size; omega) (fun k hk => (h1.rows.row.lt k hk).1))⟩
end

set_option maxRecDepth 10000 in
set_option maxHeartbeats 6400000 in
theorem gleft_any {w : World} {a : Option Addr} {O : List ObjV} (h : Objs w w.heap.size a O) (c : Nat) (hs : ∀ o ∈ O, o.Small) :
    Calls Try.prog 14 #[.slice a O.length c] w fun r w' => ∃ (u : Value) (Q : List BLay), r = .returned (.tuple #[u, .int .i64 (leftE (O.map objO))]) ∧ BSt w' w.heap.size u Q ∧ Q.map (·.l) = leftL (O.map objO) ∧ Below w.heap.size w w' := by
  have HH := Lib.hid h
  have HSM := Lib.hid hs
  have HON := Lib.hid (show (O.map objO).length = O.length by simp)
  generalize hN : O.length = N at *
  have HN := Lib.hid hN
  clear h hs hN
  by_cases hbig : 6 < N
  · have HF := Lib.hid (left_big (O := O.map objO) (by rw [HON.out]; exact hbig))
    have hd : decide ((6 : Int) < (N : Int)) = true := decide_eq_true (by omega)
    clear hbig
    go_enter Try.func14, Try.ntmps14
    go_wp2_with fail
    go_ret2
    exact ⟨_, [], by rw [HF.out.1]; rfl, BSt.nil _ _, by rw [HF.out.2]; rfl, Below.refl _ _⟩
  · have hd : decide ((6 : Int) < (N : Int)) = false := decide_eq_false (by omega)
    have HN6 := Lib.hid hbig
    have hn6 : N ≤ 6 := by omega
    obtain ⟨i1, hj, hy0, hy1, hy2⟩ := info_parts bool_info
    obtain ⟨i2, hj2, hz0, hz1, hz2⟩ := info_parts bools_info
    have hmm := @run_makeMap Try.prog
    obtain ⟨w1, hw1⟩ : ∃ w1, w.alloc (.map #[] 0) = w1 := ⟨_, rfl⟩
    have hb1 : Below w.heap.size w w1 := hw1 ▸ (Below.refl _ _).alloc (Nat.le_refl _) _
    have HST0 := Lib.hid (show LeftSt w w1 w.heap.size w.heap.size (.slice none 0 0) [] [] [] from
      ⟨rfl, BSt.nil _ _, ⟨Nat.le_refl _, 0, [], Nat.le_refl _, hw1 ▸ World.ownsMap_made w _ _ _, fun t => Iff.rfl⟩, hb1⟩)
    have HW1 := Lib.hid hw1
    clear hbig hw1
    go_enter Try.func14, Try.ntmps14
    go_upto_region 5 with fail
    rw [HW1.out]
    clear hmm hd HW1
    generalize hmb : w.heap.size = mb at *
    have HMB := Lib.hid hmb
    clear hmb
    go_wp2_with fail
    go_loopg [5, 19] N (fun gk v i wr => ∃ (k : Nat) (Q : List BLay) (names : List (List UInt8)) (out : List (List Bool)), k ≤ N ∧ gk = N - k ∧ i = .int .i64 k ∧ Hid (leftS (O.map objO) k = some (names, out)) ∧ Hid (LeftSt w wr mb mb v Q names out))
    case atStart => exact ⟨0, [], [], [], Nat.zero_le _, rfl, rfl, Lib.hid rfl, HST0⟩
    case round =>
      obtain ⟨k, Q, names, out, hk, rfl, rfl, HK, HST⟩ := hrel
      clear HST0
      have hmr : mb ≤ wr.heap.size := by have := HST.out.below.size; rw [HMB.out] at this; exact this
      by_cases hlt : k < N
      · have HLT := Lib.hid hlt
        obtain ⟨o, ho⟩ : ∃ o, O[k]? = some o := ⟨O[k]'(by rw [HN.out]; exact hlt), List.getElem?_eq_getElem _⟩
        obtain ⟨b, oo, rfl, hb, n0, n1, n2, n3, n4⟩ := (HH.out.below HST.out.below).at_ ho
        have HSMo := Lib.hid (HSM.out o (List.mem_of_getElem? ho))
        have HOO := Lib.hid (show (O.map objO)[k]? = some (secsOf o.L, o.Y) by rw [List.getElem?_map, ho]; rfl)
        obtain ⟨ws, hws⟩ : ∃ ws, wr.alloc (.cells #[.int .i64 o.kind, .int .i64 o.machine, .slice o.aS o.L.length o.cS, .slice o.aY o.Y.length o.cY, .slice o.aR o.Q.length o.cR] 37) = ws := ⟨_, rfl⟩
        have hbs : Below wr.heap.size wr ws := hws ▸ (Below.refl _ _).alloc (Nat.le_refl _) _
        have hXs := Box.new wr 37 #[.int .i64 o.kind, .int .i64 o.machine, .slice o.aS o.L.length o.cS, .slice o.aY o.Y.length o.cY, .slice o.aR o.Q.length o.cR]
        rw [hws] at hXs
        have HST1 := Lib.hid (HST.out.later hbs hmr)
        have hmw : mb ≤ ws.heap.size := Nat.le_trans hmr hbs.size
        have hok : o.Ok ws ws.heap.size := ((HH.out.ok o (List.mem_of_getElem? ho)).below HST1.out.below).more hmw
        have HTK := Lib.hid (gtake_any o hok HSMo.out.S (fun x hx => (HSMo.out.s x hx).1) (by have := HSMo.out.Y; omega))
        rw [show o.val = .agg #[.int .i64 o.kind, .int .i64 o.machine, .slice o.aS o.L.length o.cS, .slice o.aY o.Y.length o.cY, .slice o.aR o.Q.length o.cR] from rfl] at HTK
        have HWS := Lib.hid hws
        clear hws
        go_upto_region 8 with fail
        rw [HWS.out]
        have HXS := Lib.hid hXs
        obtain ⟨y0, y1, y2, y3, y4⟩ := five_cells hXs
        have HSL := Lib.hid (show (secsOf o.L).length = o.L.length by simp [secsOf])
        have HBT := Lib.hid (fun R h => grpT_bounds (S := secsOf o.L) (Y := o.Y) (R := R) h (by rw [HSL.out]; exact HSMo.out.S) (fun s hs => by
          obtain ⟨x, hx, rfl⟩ := List.mem_map.1 hs
          exact (HSMo.out.s x hx).1) HSMo.out.Y)
        have hln := HSMo.out.S
        clear n0 n1 n2 n3 n4 HWS hXs hbs hok
        cases hg : grpT (secsOf o.L) o.Y with
        | none =>
          have HE := Lib.hid (show grpE (secsOf o.L) o.Y = 25 by unfold grpE; rw [hg])
          have HF := Lib.hid (left_none (O := O.map objO) (by rw [HON.out]; exact HN6.out) (by rw [HON.out]; exact leftS_none (leftS_bad HK.out HOO.out hg) N hlt))
          rw [HE.out] at HTK
          clear hg
          go_wp2_with (go_at_call 8; refine HTK.out.mono ?_; rintro r w3 ⟨u3, rfl, -, hb3⟩; have HB3 := Lib.hid (HST1.out.below.trans (hb3.mono hmw)); clear hb3)
          go_ret2
          rw [HF.out.1, HF.out.2, HMB.out]
          exact ⟨_, [], rfl, BSt.nil _ _, rfl, HB3.out⟩
        | some R =>
          obtain ⟨hR6, hRg⟩ := HBT.out R hg
          have HRG := Lib.hid hRg
          have hE : grpE (secsOf o.L) o.Y = 0 := by unfold grpE; rw [hg]
          have hGL : grpL (secsOf o.L) o.Y = R := by unfold grpL; rw [hg]; rfl
          have HNX := Lib.hid (leftS_next HK.out HOO.out hg)
          rw [HSL.out] at HNX
          have HNC := Lib.hid (leftS_count (O := O.map objO) (fun q hq R' hR' => by
            obtain ⟨o', ho', rfl⟩ := List.mem_map.1 hq
            have hs' := HSM.out o' ho'
            exact (grpT_bounds hR' (by simp [secsOf]; exact hs'.S) (fun s hs => by
              obtain ⟨x, hx, rfl⟩ := List.mem_map.1 hs
              exact (hs'.s x hx).1) hs'.Y).1) HK.out)
          rw [hE, hGL] at HTK
          clear hE hGL hg hRg
          generalize hLn : o.L.length = ln at *
          have HLN := Lib.hid hLn
          clear hLn
          have hm1 : i1.bytes * ln ≤ 281474976710656 := by rw [hy2]; omega
          have hm2 : ln ≤ maxLen := by unfold maxLen; omega
          go_upto_region 11 with (go_at_call 8; refine HTK.out.mono ?_; rintro r w3 ⟨u3, rfl, hG3, hb3⟩; have HG3 := Lib.hid hG3; have HB3 := Lib.hid hb3; clear hG3 hb3)
          obtain ⟨LG, Ag, cg, rfl, -, -, hLG, hGr⟩ := owng_grps HG3.out
          clear y0 y1 y2 y3 y4 HG3 HTK
          have y2 := (HXS.out.below HB3.out HXS.out.lt).cell 2
          simp at y2
          have HST3 := Lib.hid (HST1.out.later HB3.out hmw)
          have hm3 : mb ≤ w3.heap.size := Nat.le_trans hmw HB3.out.size
          go_upto_region 12 with (at_make; refine wpList_make_full _ rfl _ _ 57 rfl w3.heap.size 4 i1 _ 1 Try.underlying57 hj hy0 hy1 .i64 .i64 (ln : Int) (ln : Int) ln rfl rfl rfl rfl hm1 hm2 (Nat.le_refl _) ?_; intro w4 hown4 hg4)
          have hb34 : Below w3.heap.size w3 w4 := below_of_only hg4 (Nat.le_refl _) (by simp)
          have HOB := Lib.hid (show Met w4 mb w3.heap.size ln (List.replicate ln false) from met_made (by have h := row_base hown4 hm3; rwa [show (Value.bool false).cells = #[Value.bool false] from rfl, made_one] at h))
          have HS4 := Lib.hid (HST3.out.set.below hb34)
          have HGR4 := Lib.hid (hGr.below hb34)
          have HB34 := Lib.hid hb34
          have hlR : LG.length = R.length := by rw [← hLG, List.length_map]
          have hM6 : LG.length ≤ 6000 := by omega
          have HLRR := Lib.hid hlR
          have HLR := Lib.hid hLG
          have hmap := HS4.out.block
          clear hown4 hg4 hb34 hGr hLG y2 hm1 hm2 hlR
          generalize hob : w3.heap.size = ob at *
          have HOBE := Lib.hid hob
          clear hob
          generalize hM : LG.length = M at *
          have HMM := Lib.hid hM
          clear hM
          go_wp2_with fail
          generalize wr = wo at *
          go_loopg [37] M (fun gk i wr => ∃ j : Nat, j ≤ M ∧ gk = M - j ∧ i = .int .i64 j ∧ Hid (Met wr mb ob ln (leftK ln R names j).2) ∧ Hid (SetAt wr mb mb (leftK ln R names j).1) ∧ Hid (But (fun z => z = ob ∨ z = mb) w4 wr))
          case atStart => exact ⟨0, Nat.zero_le _, rfl, rfl, HOB, HS4, Lib.hid (But.refl _ _)⟩
          case round =>
            obtain ⟨j, hjM, rfl, rfl, HMj, HSj, HBj⟩ := hrel
            by_cases hltj : j < M
            · have HLTJ := Lib.hid hltj
              obtain ⟨x, hx⟩ : ∃ x, LG[j]? = some x := ⟨LG[j]'(by rw [HMM.out]; exact hltj), List.getElem?_eq_getElem _⟩
              have hGj := HGR4.out.but HBj.out (fun z hz => by
                rcases hz with rfl | rfl
                · exact .inl (Nat.le_refl _)
                · exact .inr hmap)
              obtain ⟨bg, og, rfl, hbg, n0, n1, n2, n3⟩ := hGj.at_ hx
              obtain ⟨w6, hw6⟩ : ∃ w6, wr.alloc (.cells #[.int .i64 (x.g.place : Int), .bool x.g.one, .string ⟨x.g.name.toArray⟩, .slice x.a x.g.mem.length x.c] 45) = w6 := ⟨_, rfl⟩
              have hb6 : Below wr.heap.size wr w6 := hw6 ▸ (Below.refl _ _).alloc (Nat.le_refl _) _
              have hobs : ob ≤ w6.heap.size := by have h1 := HMj.out.lt.2; have h2 := hb6.size; omega
              have hxR : R[j]? = some x.g := by rw [← HLR.out, List.getElem?_map, hx]; rfl
              obtain ⟨q1, q2, q3⟩ := HRG.out x.g (List.mem_of_getElem? hxR)
              have HLV := Lib.hid (leave_any ((hGj.ok x (List.mem_of_getElem? hx)).below (hb6.mono (by have h1 := HMj.out.lt.2; omega))) hobs (Nat.le_refl _) (by rw [← HSL.out]; exact q1) (HMj.out.below hb6) (HSj.out.below hb6) (by
                have h1 := leftK_count (n := ln) (G := R) (names := names) j
                have h2 := HNC.out
                omega) (by omega) (by omega))
              have HKX := Lib.hid (leaveK (n := ln) (names := names) hxR)
              have HB6 := Lib.hid hb6
              have HW6 := Lib.hid hw6
              clear hw6 hb6 hx hGj hxR q1 q2 q3
              go_upto_region 15 with fail
              rw [HW6.out]
              have hX6 := Box.new wr 45 #[.int .i64 (x.g.place : Int), .bool x.g.one, .string ⟨x.g.name.toArray⟩, .slice x.a x.g.mem.length x.c]
              rw [HW6.out] at hX6
              obtain ⟨y0, y1, y2, y3⟩ := four_cells hX6
              clear n0 n1 n2 n3 hX6 HW6
              go_wp2_with (go_at_call 26; refine HLV.out.mono ?_; rintro r w7 ⟨rfl, hb7, hm7, hs7⟩; have HB7 := Lib.hid ((HBj.out.then_ HB6.out).trans hb7); have HM7 := Lib.hid hm7; have HS7 := Lib.hid hs7; clear hb7 hm7 hs7)
              go_roundg (M - (j + 1))
              case measure => have := HLTJ.out; omega
              case rel => exact ⟨j + 1, HLTJ.out, rfl, by go_num, Lib.hid (by rw [HKX.out]; exact HM7.out), Lib.hid (by rw [HKX.out]; exact HS7.out), HB7⟩
            · have hjM2 : j = M := by omega
              have hjR : (leftK ln R names j) = leftK ln R names R.length := by rw [hjM2, HLRR.out]
              subst hjM2
              have hmj := HMj.out
              have hsj := HSj.out
              rw [hjR] at hmj hsj
              have HX1 := Lib.hid (HST3.out.leave (by rw [HOBE.out]; exact hm3) (Nat.le_of_eq HOBE.out) hsj ((But.of_below (by rw [HOBE.out]; exact HB34.out)).trans HBj.out))
              have HBI := Lib.hid hmj
              have HNN := Lib.hid HNX.out
              obtain ⟨Av, cv, rfl, -, -, -⟩ := own_row blay_one HX1.out.rows.row
              have hQl : Q.length ≤ 6 := by
                have h1 := (leftS_facts (by rw [HON.out]; omega) HK.out).1
                rw [← HST.out.list, List.length_map] at h1
                omega
              have h63 : Q.length + 1 ≤ maxLen := by unfold maxLen; omega
              have hby : (Q.length + 1) * 24 ≤ 140737488355328 := by omega
              have hlit := blay_lit wr ⟨some ⟨ob, 0, none⟩, ln, (leftK ln R names R.length).2⟩
              simp only at hlit
              rw [hmj.1] at hlit
              have hown5 := HX1.out.rows.row
              have hmr5 : mb ≤ wr.heap.size := HX1.out.below.size |> Nat.le_trans (by rw [HMB.out]; exact Nat.le_refl _)
              have hown := HBI.out.own
              rw [← hmj.1] at hown
              have HQO := Lib.hid (show OwnB wr mb (BLay.val ⟨some ⟨ob, 0, none⟩, ln, (leftK ln R names R.length).2⟩) (leftK ln R names R.length).2 from by
                show OwnB wr mb (.slice (some ⟨ob, 0, none⟩) (leftK ln R names R.length).2.length ln) _
                rw [hmj.1]
                exact HBI.out.own)
              clear hmj hsj hjR hmap
              go_wp2_with (at_builtin; refine wpList_append_lies _ (by rfl) (.tmp 46) (.tmp 48) _ (by rfl) mb 57 i2 _ 1 24 Try.underlying48 hj2 hz0 hz1 hz2 (by rfl) (by decide) (.slice Av Q.length cv) Q.length (cellsF BLay.cells1 Q) (by rfl) (by exact hown5.alloc _) ⟨wr.heap.size, 0, none⟩ 1 1 (BLay.cells1 ⟨some ⟨ob, 0, none⟩, ln, (leftK ln R names R.length).2⟩) (by rfl) rfl hlit (BLay.one _) (by decide) h63 hby (by simp; omega) _ rfl ?_; intro g5 cap5 w5 hown6 hg6 hat5 hlt5; have HX2 := Lib.hid (HX1.out.more hmr5 HQO.out hown6 hg6); clear hown6 hg6 hat5 hlt5)
              go_roundg (N - (k + 1))
              case measure => have := HLT.out; omega
              case rel => exact ⟨k + 1, _, _, _, HLT.out, rfl, by go_num, HNN, HX2⟩
      · have hkN : k = N := by omega
        subst hkN
        obtain ⟨e1, e2⟩ := left_some (O := O.map objO) (by rw [HON.out]; exact HN6.out) (by rw [HON.out]; exact HK.out)
        go_wp2_with fail
        go_ret2
        rw [e1, e2, HMB.out]
        exact ⟨_, Q, rfl, HST.out.rows, HST.out.list, HST.out.below⟩

end Go.Proofs.Ytbpemehhbeejcaa
