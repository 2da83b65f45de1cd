/-
  The document's answer for what is left out of objects.
-/
import Derived.Test.YtbpemehhbeejcaaGpS
import Derived.Deep.DeepCutAuto
import Derived.Deep.LoopGhost
namespace Go.Proofs.Ytbpemehhbeejcaa
open Go Go.RowKit

theorem map_at {α β : Type} {f : α → β} {L L' : List α} (h : L.map f = L'.map f) {i : Nat} {x : α} (hx : L[i]? = some x) : ∃ y, L'[i]? = some y ∧ f y = f x := by
  have h1 : (L.map f)[i]? = some (f x) := by rw [List.getElem?_map, hx]; rfl
  rw [h, List.getElem?_map] at h1
  cases hy : L'[i]? with
  | none => rw [hy] at h1; cases h1
  | some y => rw [hy] at h1; exact ⟨y, rfl, by simpa using h1⟩
theorem map_length {α β : Type} {f : α → β} {L L' : List α} (h : L.map f = L'.map f) : L'.length = L.length := by
  have := congrArg List.length h
  simpa using this.symm

set_option maxRecDepth 10000 in
set_option maxHeartbeats 3200000 in
theorem rflags_any {w : World} {B B' : Nat} {a a' : Option Addr} {Q Q' : List BLay} (h : BRows w B a Q) (h' : BRows w B' a' Q') (c c' : Nat) (he : Q.map (·.l) = Q'.map (·.l)) (hl : Q.length ≤ 100000) (hb : ∀ q ∈ Q, q.l.length ≤ 100000) :
    Calls Try.prog 17 #[.slice a Q.length c, .slice a' Q'.length c'] w fun r w' => r = .returned (.bool true) ∧ Below w.heap.size w w' := by
  have HH := Lib.hid h
  have HH' := Lib.hid h'
  have HE := Lib.hid he
  have HBL := Lib.hid hb
  rw [map_length he]
  generalize hN : Q.length = N at *
  have HN := Lib.hid hN
  clear h h' he hb hN
  go_enter Try.func17, Try.ntmps17
  go_wp2_with fail
  go_loopg [5] N (fun gk i wr => ∃ k z : Nat, k ≤ N ∧ gk = N - k ∧ i = .int .i64 k ∧ wr = w.drewN z)
  case atStart => exact ⟨0, 0, Nat.zero_le _, rfl, rfl, rfl⟩
  case round =>
    obtain ⟨k, z, hk, rfl, rfl, rfl⟩ := hrel
    by_cases hlt : k < N
    · have HLT := Lib.hid hlt
      obtain ⟨q, hq⟩ : ∃ q, Q[k]? = some q := ⟨Q[k]'(by rw [HN.out]; exact hlt), List.getElem?_eq_getElem _⟩
      obtain ⟨q', hq', hqe⟩ := map_at HE.out hq
      obtain ⟨b, o, rfl, -, c0⟩ := HH.out.at_ hq
      obtain ⟨b', o', rfl, -, c0'⟩ := HH'.out.at_ hq'
      have HT := Lib.hid (HH.out.ok q (List.mem_of_getElem? hq))
      have HT' := Lib.hid (HH'.out.ok q' (List.mem_of_getElem? hq'))
      have hm := HBL.out q (List.mem_of_getElem? hq)
      rw [hqe] at c0' HT'
      clear hq hq' hqe
      generalize hM : q.l.length = M at *
      have HM := Lib.hid hM
      clear hM
      go_wp2_with fail
      go_quiet (fail)
      go_wp2_with fail
      go_loopg [6] M (fun gk i wr => ∃ j z : Nat, j ≤ M ∧ gk = M - j ∧ i = .int .i64 j ∧ wr = w.drewN z)
      case atStart => exact ⟨0, _, Nat.zero_le _, rfl, rfl, by first | rfl | (simp; rfl)⟩
      case round =>
        obtain ⟨j, z2, hj, rfl, rfl, rfl⟩ := hrel
        by_cases hltj : j < M
        · have HLJ := Lib.hid hltj
          obtain ⟨bb, hbb⟩ : ∃ bb, q.l[j]? = some bb := ⟨q.l[j]'(by rw [HM.out]; exact hltj), List.getElem?_eq_getElem _⟩
          obtain ⟨b2, o2, e2, -, d0⟩ := Truths.at_ HT.out hbb
          obtain ⟨b3, o3, e3, -, d0'⟩ := Truths.at_ HT'.out hbb
          rw [e2] at c0
          rw [e3] at c0'
          clear hbb
          go_wp2_with fail
          go_quiet (fail)
          go_wp2_with fail
          go_roundg (M - (j + 1))
          case measure => have := HLJ.out; omega
          case rel => exact ⟨j + 1, _, HLJ.out, rfl, by go_num, by first | rfl | (simp; rfl)⟩
        · have hjn : j = M := by omega
          subst hjn
          go_wp2_with fail
          go_roundg (N - (k + 1))
          case measure => have := HLT.out; omega
          case rel => exact ⟨k + 1, _, HLT.out, rfl, by go_num, by first | rfl | (simp; rfl)⟩
    · go_wp2_with fail
      go_ret
      exact ⟨rfl, below_drewN (Below.refl _ _) _⟩

end Go.Proofs.Ytbpemehhbeejcaa

namespace Go.Proofs.Ytbpemehhbeejcaa
open Go Go.RowKit

set_option maxRecDepth 10000 in
set_option maxHeartbeats 6400000 in
theorem rgleft_any {w : World} {a : Option Addr} {O : List ObjV} (h : Objs w w.heap.size a O) (c : Nat) (hs : ∀ o ∈ O, o.Small) :
    Calls Try.prog 16 #[.slice a O.length c] w fun r w' => ∃ (u : Value) (Q : List BLay), r = .returned (.tuple #[u, .int .i64 (leftE (O.map objO))]) ∧ BSt w' w.heap.size u Q ∧ Q.map (·.l) = leftL (O.map objO) ∧ Below w.heap.size w w' := by
  have HH := Lib.hid h
  have HSM := Lib.hid hs
  have HON := Lib.hid (show (O.map objO).length = O.length by simp)
  generalize hN : O.length = N at *
  have HN := Lib.hid hN
  clear h hs hN
  by_cases hbig : 6 < N
  · have HF := Lib.hid (left_big (O := O.map objO) (by rw [HON.out]; exact hbig))
    have hd : decide ((6 : Int) < (N : Int)) = true := decide_eq_true (by omega)
    clear hbig
    go_enter Try.func16, Try.ntmps16
    go_wp2_with fail
    go_ret2
    exact ⟨_, [], by rw [HF.out.1]; rfl, BSt.nil _ _, by rw [HF.out.2]; rfl, Below.refl _ _⟩
  · have hd : decide ((6 : Int) < (N : Int)) = false := decide_eq_false (by omega)
    have HN6 := Lib.hid hbig
    have hn6 : N ≤ 6 := by omega
    obtain ⟨i1, hj, hy0, hy1, hy2⟩ := info_parts bool_info
    obtain ⟨i2, hj2, hz0, hz1, hz2⟩ := info_parts bools_info
    obtain ⟨i3, hj3, hx0, hx1, hx2⟩ := info_parts str_info
    obtain ⟨mb, hmb⟩ : ∃ mb, w.heap.size = mb := ⟨_, rfl⟩
    have HMB := Lib.hid hmb
    have HST0 := Lib.hid (show RLeftSt w w mb (.slice none 0 0) (.slice none 0 0) [] [] [] from
      ⟨rfl, BSt.nil _ _, World.ownsRow_nil _ _ _ _, Below.refl _ _⟩)
    rw [hmb] at HH
    clear hbig hmb
    go_enter Try.func16, Try.ntmps16
    go_wp2_with fail
    clear hd
    go_loopg [4, 5, 6] N (fun gk vn v i wr => ∃ (k : Nat) (Q : List BLay) (names : List (List UInt8)) (out : List (List Bool)), k ≤ N ∧ gk = N - k ∧ i = .int .i64 k ∧ Hid (leftS (O.map objO) k = some (names, out)) ∧ Hid (RLeftSt w wr mb vn v Q names out))
    case atStart => exact ⟨0, [], [], [], Nat.zero_le _, rfl, rfl, Lib.hid rfl, HST0⟩
    case round =>
      obtain ⟨k, Q, names, out, hk, rfl, rfl, HK, HST⟩ := hrel
      clear HST0
      have hmr : mb ≤ wr.heap.size := by have := HST.out.below.size; rw [HMB.out] at this; exact this
      by_cases hlt : k < N
      · have HLT := Lib.hid hlt
        obtain ⟨o, ho⟩ : ∃ o, O[k]? = some o := ⟨O[k]'(by rw [HN.out]; exact hlt), List.getElem?_eq_getElem _⟩
        have HAT := Lib.hid (fun W (hW : Below mb w W) => (HH.out.below hW).at_ ho)
        obtain ⟨b, oo, rfl, hb, n0, n1, n2, n3, n4⟩ := HAT.out _ HST.out.below
        have HSMo := Lib.hid (HSM.out o (List.mem_of_getElem? ho))
        have HOO := Lib.hid (show (O.map objO)[k]? = some (secsOf o.L, o.Y) by rw [List.getElem?_map, ho]; rfl)
        have hok : o.Ok wr wr.heap.size := ((HH.out.ok o (List.mem_of_getElem? ho)).below HST.out.below).more hmr
        have HTK := Lib.hid (rgtake_any o hok HSMo.out.S (fun x hx => (HSMo.out.s x hx).1) (by have := HSMo.out.Y; omega))
        rw [show o.val = .agg #[.int .i64 o.kind, .int .i64 o.machine, .slice o.aS o.L.length o.cS, .slice o.aY o.Y.length o.cY, .slice o.aR o.Q.length o.cR] from rfl] at HTK
        have HSL := Lib.hid (show (secsOf o.L).length = o.L.length by simp [secsOf])
        have HBT := Lib.hid (fun R h => grpT_bounds (S := secsOf o.L) (Y := o.Y) (R := R) h (by rw [HSL.out]; exact HSMo.out.S) (fun s hs => by
          obtain ⟨x, hx, rfl⟩ := List.mem_map.1 hs
          exact (HSMo.out.s x hx).1) HSMo.out.Y)
        have hln := HSMo.out.S
        clear hok
        cases hg : grpT (secsOf o.L) o.Y with
        | none =>
          have HE := Lib.hid (show grpE (secsOf o.L) o.Y = 25 by unfold grpE; rw [hg])
          have HF := Lib.hid (left_none (O := O.map objO) (by rw [HON.out]; exact HN6.out) (by rw [HON.out]; exact leftS_none (leftS_bad HK.out HOO.out hg) N hlt))
          rw [HE.out] at HTK
          clear hg
          go_wp2_with (go_at_call 9; refine HTK.out.mono ?_; rintro r w3 ⟨u3, rfl, -, hb3⟩; have HB3 := Lib.hid (HST.out.below.trans (hb3.mono hmr)); clear hb3)
          go_ret2
          rw [HF.out.1, HF.out.2, HMB.out]
          exact ⟨_, [], rfl, BSt.nil _ _, rfl, HB3.out⟩
        | some R =>
          obtain ⟨hR6, hRg⟩ := HBT.out R hg
          have HRG := Lib.hid hRg
          have hE : grpE (secsOf o.L) o.Y = 0 := by unfold grpE; rw [hg]
          have hGL : grpL (secsOf o.L) o.Y = R := by unfold grpL; rw [hg]; rfl
          have HNX := Lib.hid (leftS_next HK.out HOO.out hg)
          rw [HSL.out] at HNX
          have HNC := Lib.hid (leftS_count (O := O.map objO) (fun q hq R' hR' => by
            obtain ⟨o', ho', rfl⟩ := List.mem_map.1 hq
            have hs' := HSM.out o' ho'
            exact (grpT_bounds hR' (by simp [secsOf]; exact hs'.S) (fun s hs => by
              obtain ⟨x, hx, rfl⟩ := List.mem_map.1 hs
              exact (hs'.s x hx).1) hs'.Y).1) HK.out)
          rw [hE, hGL] at HTK
          clear hE hGL hg hRg
          generalize hLn : o.L.length = ln at *
          have HLN := Lib.hid hLn
          clear hLn
          have hm1 : i1.bytes * ln ≤ 281474976710656 := by rw [hy2]; omega
          have hm2 : ln ≤ maxLen := by unfold maxLen; omega
          go_upto_region 11 with (go_at_call 9; refine HTK.out.mono ?_; rintro r w3 ⟨u3, rfl, hG3, hb3⟩; have HG3 := Lib.hid hG3; have HB3 := Lib.hid hb3; clear hG3 hb3)
          obtain ⟨LG, hLG, hGr, hGm⟩ := HG3.out
          have hGS : GSt 29 w3 mb u3 LG := (GSt.mk hGr hGm).base_ hmr
          obtain ⟨Ag, cg, rfl, -⟩ := hGS.grps
          have HST3 := Lib.hid (HST.out.later HB3.out hmr)
          have hm3 : mb ≤ w3.heap.size := Nat.le_trans hmr HB3.out.size
          clear n0 n1 n2 n3 n4 HG3 HTK hGr hGm
          obtain ⟨b2, oo2, e, hb2, n0, n1, n2, n3, n4⟩ := HAT.out _ HST3.out.below
          cases e
          go_upto_region 12 with (at_make; refine wpList_make_full _ rfl _ _ 57 rfl w3.heap.size 4 i1 _ 1 Try.underlying57 hj hy0 hy1 .i64 .i64 (ln : Int) (ln : Int) ln rfl rfl rfl rfl hm1 hm2 (Nat.le_refl _) ?_; intro w4 hown4 hg4)
          have hb34 : Below w3.heap.size w3 w4 := below_of_only hg4 (Nat.le_refl _) (by simp)
          have HOB := Lib.hid (show Met w4 mb w3.heap.size ln (List.replicate ln false) from met_made (by have h := row_base hown4 hm3; rwa [show (Value.bool false).cells = #[Value.bool false] from rfl, made_one] at h))
          have HLV0 := Lib.hid (show RLvSt 29 w4 w4 mb w3.heap.size ln (.slice Ag LG.length cg) u4 u4 LG (leftK ln R names 0).1 (leftK ln R names 0).2 from
            ⟨HOB.out, row_below HST3.out.names hb34, hGS.below hb34, But.refl _ _, .inl rfl⟩)
          have HB34 := Lib.hid hb34
          have hlR : LG.length = R.length := by rw [← hLG, List.length_map]
          have hM6 : LG.length ≤ 6000 := by omega
          have HLRR := Lib.hid hlR
          have HLR := Lib.hid hLG
          clear hown4 hg4 hb34 hLG hlR n0 n1 n2 n3 n4 hm1 hm2 hGS HOB
          generalize hob : w3.heap.size = ob at *
          have HOBE := Lib.hid hob
          clear hob
          generalize hM : LG.length = M at *
          have HMM := Lib.hid hM
          clear hM
          go_wp2_with fail
          generalize wr = wo at *
          obtain ⟨vn0, hvn0⟩ : ∃ vn0, u4 = vn0 := ⟨_, rfl⟩
          have HVN := Lib.hid hvn0
          go_loopg [4, 10] M (fun gk vn i wr => ∃ j : Nat, j ≤ M ∧ gk = M - j ∧ i = .int .i64 j ∧ Hid (RLvSt 29 w4 wr mb ob ln (.slice Ag M cg) vn0 vn LG (leftK ln R names j).1 (leftK ln R names j).2))
          case atStart => exact ⟨0, Nat.zero_le _, rfl, rfl, hvn0 ▸ HLV0⟩
          case round =>
            obtain ⟨j, hjM, rfl, rfl, HLV⟩ := hrel
            clear HLV0 hvn0
            have hlR5 := HLV.out.but.1.size
            have KG := Lib.hid (fun (W : World) (h : GSt 29 W mb (.slice Ag M cg) LG) => (by
              obtain ⟨Ax, cx, e, hg⟩ := h.grps
              injection e with e1 e2 e3
              subst e1
              exact hg : Grps W W.heap.size Ag LG))
            by_cases hltj : j < M
            · have HLTJ := Lib.hid hltj
              obtain ⟨x, hx⟩ : ∃ x, LG[j]? = some x := ⟨LG[j]'(by rw [HMM.out]; exact hltj), List.getElem?_eq_getElem _⟩
              have KAT := Lib.hid (fun (W : World) (h : GSt 29 W mb (.slice Ag M cg) LG) => (KG.out W h).at_ hx)
              have KOK := Lib.hid (fun (W : World) (h : GSt 29 W mb (.slice Ag M cg) LG) => (KG.out W h).ok x (List.mem_of_getElem? hx))
              obtain ⟨bg, og, rfl, hbg, n0, n1, n2, n3⟩ := KAT.out _ HLV.out.grps
              have hxR : R[j]? = some x.g := by rw [← HLR.out, List.getElem?_map, hx]; rfl
              obtain ⟨q1, q2, q3⟩ := HRG.out x.g (List.mem_of_getElem? hxR)
              have HKX := Lib.hid (leaveK (n := ln) (names := names) hxR)
              have hcnt := leftK_count (n := ln) (G := R) (names := names) j
              have hncc := HNC.out
              generalize (leftK ln R names j).1 = nms at *
              generalize (leftK ln R names j).2 = bits at *
              have hnl : nms.length ≤ 50000 := by omega
              have HMQ := Lib.hid (show ∀ m ∈ x.g.mem, m < ln by rw [← HSL.out]; exact q1)
              clear hx hxR q1 hcnt hncc
              cases hone : x.g.one with
              | false =>
                rw [hone] at n1
                have HKN := Lib.hid (show leftK ln R names (j + 1) = (nms, bits) by rw [HKX.out]; unfold leaveN leaveB; rw [hone]; rfl)
                clear hone
                go_wp2_with fail
                go_roundg (M - (j + 1))
                case measure => have := HLTJ.out; omega
                case rel => exact ⟨j + 1, HLTJ.out, rfl, by go_num, Lib.hid (by rw [HKN.out]; exact HLV.out)⟩
              | true =>
                rw [hone] at n1
                have HKN := Lib.hid (show leftK ln R names (j + 1) = (nms ++ [x.g.name], if nms.contains x.g.name then putAll bits true x.g.mem else bits) by rw [HKX.out]; unfold leaveN leaveB; rw [hone]; rfl)
                clear hone HKX
                obtain ⟨An, cn, rfl, hNA⟩ := names_at HLV.out.names
                have HNA := Lib.hid hNA
                clear hNA
                generalize hnn : nms.length = nl at *
                have HNN := Lib.hid hnn
                clear hnn
                go_wp2_with fail
                generalize wr = wj at *
                go_loopg [11, 12] nl (fun gk sn i wr => ∃ q z : Nat, q ≤ nl ∧ gk = nl - q ∧ i = .int .i64 q ∧ sn = .bool ((nms.take q).contains x.g.name) ∧ wr = wj.drewN z)
                case atStart => exact ⟨0, 0, Nat.zero_le _, rfl, rfl, rfl, rfl⟩
                case round =>
                  obtain ⟨q, z, hq, rfl, rfl, rfl, rfl⟩ := hrel
                  by_cases hltq : q < nl
                  · have HLQ := Lib.hid hltq
                    obtain ⟨s, hs⟩ : ∃ s, nms[q]? = some s := ⟨nms[q]'(by rw [HNN.out]; exact hltq), List.getElem?_eq_getElem _⟩
                    have HNQ := Lib.hid (names_next (t := x.g.name) hs)
                    obtain ⟨gn, rfl, cnq⟩ := HNA.out q s hs
                    have hqs := str_eq s x.g.name
                    have b1 : (q : Int) < (nl : Int) := by omega
                    have b2 : (j : Int) < (M : Int) := by omega
                    generalize hsn : (nms.take q).contains x.g.name = sn at *
                    generalize decide (s = x.g.name) = eq at *
                    generalize ByteArray.mk x.g.name.toArray = xb at *
                    generalize ByteArray.mk s.toArray = sb at *
                    clear hs hsn
                    cases sn
                    all_goals
                      go_wp2_with fail
                      go_quiet (fail)
                      go_wp2_with fail
                      go_roundg (nl - (q + 1))
                      case measure => have := HLQ.out; omega
                      case rel => exact ⟨q + 1, _, HLQ.out, rfl, by go_num, by rw [HNQ.out]; first | rfl | simp, by first | rfl | (simp; rfl)⟩
                  · have hqn : q = nl := by omega
                    have hfull : (nms.take q).contains x.g.name = nms.contains x.g.name := by rw [List.take_of_length_le (by rw [HNN.out]; omega)]
                    rw [hfull]
                    clear hfull
                    generalize nms.contains x.g.name = sn at *
                    have HLW := Lib.hid (HLV.out.drewN z)
                    subst hqn
                    generalize hwd : wj.drewN z = wd at *
                    have hHD := hwd ▸ HLV.out.drewN z
                    have HLD := Lib.hid hHD
                    clear hwd hHD HLW
                    obtain ⟨bg2, og2, e2, hbg2, m0, m1, m2, m3⟩ := KAT.out _ HLD.out.grps
                    cases e2
                    have h63 : q + 1 ≤ maxLen := by unfold maxLen; omega
                    have hby : (q + 1) * 16 ≤ 140737488355328 := by omega
                    have hown3 := HLD.out.names
                    rw [OwnS, HNN.out] at hown3
                    have hbd : mb ≤ wd.heap.size := by have h1 := HLD.out.but.1.size; have h2 := HB34.out.size; have h3 := HOBE.out; omega
                    clear n0 n1 n2 n3
                    go_upto_region 22 with (at_builtin; refine wpList_append_lies _ (by rfl) (.tmp 72) (.tmp 78) _ (by rfl) mb 9 i3 _ 1 16 Try.underlying76 hj3 hx0 hx1 hx2 (by rfl) (by decide) (.slice An q cn) q (strV nms) (by rfl) (by exact hown3.alloc _) ⟨wd.heap.size, 0, none⟩ 1 1 [.string ⟨x.g.name.toArray⟩] (by rfl) rfl (str_lit wd x.g.name) (by simp [Value.oneCell']) (by decide) h63 hby (by simp; omega) _ rfl ?_; intro g5 cap5 w5 hown5 hg5 hat5 hlt5; have HLX := Lib.hid (HLD.out.name (by decide) (by rw [HNN.out]; exact hown5) hg5 hat5); clear hown5 hg5 hat5 hlt5)
                    rw [HNN.out] at HLX
                    clear m0 m1 m2 m3 hown3
                    have b2 : (j : Int) < (M : Int) := by omega
                    generalize hml : x.g.mem.length = ml at *
                    have HML := Lib.hid hml
                    clear hml
                    cases sn with
                    | false =>
                      go_wp2_with fail
                      go_loopg [13] 0 (fun gk i wr => gk = 0 ∧ i = .int .i64 0 ∧ w5 = wr)
                      case atStart => exact ⟨rfl, rfl, rfl⟩
                      case round =>
                        obtain ⟨rfl, rfl, rfl⟩ := hrel
                        obtain ⟨bg3, og3, e3, hbg3, m0, m1, m2, m3⟩ := KAT.out _ HLX.out.grps
                        cases e3
                        rcases Nat.eq_zero_or_pos ml with h0 | h0
                        · have d0 : decide (0 < ml) = false := decide_eq_false (by omega)
                          clear h0
                          go_wp2_with fail
                          go_roundg (M - (j + 1))
                          case measure => have := HLTJ.out; omega
                          case rel => exact ⟨j + 1, HLTJ.out, rfl, by go_num, Lib.hid (by rw [HKN.out]; exact HLX.out)⟩
                        · have d0 : decide (0 < ml) = true := decide_eq_true h0
                          go_wp2_with fail
                          go_roundg (M - (j + 1))
                          case measure => have := HLTJ.out; omega
                          case rel => exact ⟨j + 1, HLTJ.out, rfl, by go_num, Lib.hid (by rw [HKN.out]; exact HLX.out)⟩
                    | true =>
                      go_wp2_with fail
                      go_loopg [13] ml (fun gk i wr => ∃ m : Nat, m ≤ ml ∧ gk = ml - m ∧ i = .int .i64 m ∧ Hid (RLvSt 29 w4 wr mb ob ln (.slice (some ⟨bg, og, none⟩) M cg) vn0 (.slice (some ⟨g5, 0, none⟩) (q + 1) cap5) LG (nms ++ [x.g.name]) (putAll bits true (x.g.mem.take m))))
                      case atStart => exact ⟨0, Nat.zero_le _, rfl, rfl, HLX⟩
                      case round =>
                        obtain ⟨m, hm, rfl, rfl, HLY⟩ := hrel
                        obtain ⟨bg3, og3, e3, hbg3, m0, m1, m2, m3⟩ := KAT.out _ HLY.out.grps
                        cases e3
                        by_cases hltm : m < ml
                        · have HLM := Lib.hid hltm
                          obtain ⟨mm, hmm⟩ : ∃ mm, x.g.mem[m]? = some mm := ⟨x.g.mem[m]'(by rw [HML.out]; exact hltm), List.getElem?_eq_getElem _⟩
                          obtain ⟨bm, om, em, hbm, cm⟩ := Mems.at_ (KOK.out _ HLY.out.grps).mem hmm
                          rw [em] at m3
                          have hmn := HMQ.out mm (List.mem_of_getElem? hmm)
                          have HNM := Lib.hid (putAll_next bits true x.g.mem m mm hmm)
                          have hml2 : mm < (putAll bits true (x.g.mem.take m)).length := by rw [HLY.out.met.1]; exact hmn
                          have xm := HLY.out.met.cell (List.getElem?_eq_getElem hml2)
                          have xf := HLY.out.met.free mm
                          have HLZ := Lib.hid (HLY.out.store (by decide) mm)
                          have hmi : (mm : Int) < (ln : Int) := by omega
                          have hmi2 : (m : Int) < (ml : Int) := by omega
                          generalize (putAll bits true (x.g.mem.take m))[mm] = bv at *
                          clear hmm hml2 em
                          go_wp2_with fail
                          go_roundg (ml - (m + 1))
                          case measure => have := HLM.out; omega
                          case rel => exact ⟨m + 1, HLM.out, rfl, by go_num, Lib.hid (by rw [HNM.out]; exact HLZ.out)⟩
                        · have hmn : m = ml := by omega
                          subst hmn
                          have hY := HLY.out
                          rw [List.take_of_length_le (by rw [HML.out]; omega)] at hY
                          have HYY := Lib.hid hY
                          clear hY
                          go_wp2_with fail
                          go_roundg (M - (j + 1))
                          case measure => have := HLTJ.out; omega
                          case rel => exact ⟨j + 1, HLTJ.out, rfl, by go_num, Lib.hid (by rw [HKN.out]; exact HYY.out)⟩
            · have hjM2 : j = M := by omega
              have hjR : (leftK ln R names j) = leftK ln R names R.length := by rw [hjM2, HLRR.out]
              subst hjM2
              have HLE := Lib.hid HLV.out
              rw [hjR] at HLE
              have HX1 := Lib.hid (HST3.out.leave (by rw [HOBE.out]; exact hm3) (Nat.le_of_eq HOBE.out) HLE.out.names ((But.of_below (by rw [HOBE.out]; exact HB34.out)).trans (by rw [HVN.out]; exact HLE.out.but)))
              have hmj := HLE.out.met
              have HNN := Lib.hid HNX.out
              obtain ⟨Av, cv, rfl, -, -, -⟩ := own_row blay_one HX1.out.rows.row
              have hQl : Q.length ≤ 6 := by
                have h1 := (leftS_facts (by rw [HON.out]; omega) HK.out).1
                rw [← HST.out.list, List.length_map] at h1
                omega
              have h63 : Q.length + 1 ≤ maxLen := by unfold maxLen; omega
              have hby : (Q.length + 1) * 24 ≤ 140737488355328 := by omega
              have hlit := blay_lit wr ⟨some ⟨ob, 0, none⟩, ln, (leftK ln R names R.length).2⟩
              simp only at hlit
              rw [hmj.1] at hlit
              have hown5 := HX1.out.rows.row
              have hmr5 : mb ≤ wr.heap.size := HX1.out.below.size |> Nat.le_trans (by rw [HMB.out]; exact Nat.le_refl _)
              have HQO := Lib.hid (show OwnB wr mb (BLay.val ⟨some ⟨ob, 0, none⟩, ln, (leftK ln R names R.length).2⟩) (leftK ln R names R.length).2 from by
                show OwnB wr mb (.slice (some ⟨ob, 0, none⟩) (leftK ln R names R.length).2.length ln) _
                rw [hmj.1]
                exact hmj.own)
              obtain ⟨A7, c7, e7, -⟩ := HLE.out.grps.grps
              clear hmj hjR e7
              go_wp2_with (at_builtin; refine wpList_append_lies _ (by rfl) (.tmp 103) (.tmp 105) _ (by rfl) mb 57 i2 _ 1 24 Try.underlying48 hj2 hz0 hz1 hz2 (by rfl) (by decide) (.slice Av Q.length cv) Q.length (cellsF BLay.cells1 Q) (by rfl) (by exact hown5.alloc _) ⟨wr.heap.size, 0, none⟩ 1 1 (BLay.cells1 ⟨some ⟨ob, 0, none⟩, ln, (leftK ln R names R.length).2⟩) (by rfl) rfl hlit (BLay.one _) (by decide) h63 hby (by simp; omega) _ rfl ?_; intro g5 cap5 w5 hown6 hg6 hat5 hlt5; have HX2 := Lib.hid (HX1.out.more hmr5 HQO.out hown6 hg6); clear hown6 hg6 hat5 hlt5)
              go_roundg (N - (k + 1))
              case measure => have := HLT.out; omega
              case rel => exact ⟨k + 1, _, _, _, HLT.out, rfl, by go_num, HNN, HX2⟩
      · have hkN : k = N := by omega
        subst hkN
        obtain ⟨e1, e2⟩ := left_some (O := O.map objO) (by rw [HON.out]; exact HN6.out) (by rw [HON.out]; exact HK.out)
        go_wp2_with fail
        go_ret2
        rw [e1, e2, HMB.out]
        exact ⟨_, Q, rfl, HST.out.rows, HST.out.list, HST.out.below⟩

end Go.Proofs.Ytbpemehhbeejcaa
