/-
  The document's Put of sections.
-/
import Derived.Test.YtldmjnbmjfnfeaaGreatDoorSpB
import Derived.Deep.DeepCutAuto
import Derived.Deep.LoopGhost
namespace Go.Proofs.YtldmjnbmjfnfeaaGreatDoor
open Go Go.RowKit

set_option maxRecDepth 10000 in
set_option maxHeartbeats 6400000 in
theorem rsput_no (kind machine : Int) {w : World} {a : Option Addr} {L : List Lay} (h : Secs w w.heap.size a L) (c : Nat) (hlc : L.length ≤ c) (hl : L.length ≤ 100000) (hmay : mayPut kind machine (secsOf L) = false) :
    Calls Tryz.prog 36 #[.int .i64 kind, .int .i64 machine, .slice a L.length c] w fun r w' => r = .returned (.tuple #[.slice none 0 0, .int .i64 2]) ∧ Below w.heap.size w w' := by
  have HR := Lib.hid (srright_any h c hlc hl)
  unfold mayPut at hmay
  clear h
  generalize rightS (secsOf L) = rs at *
  generalize L.length = n at *
  cases rs with
  | false =>
    clear hmay
    go_enter Tryz.func36, Tryz.ntmps36
    go_wp2_with (go_at_call 69; refine HR.out.mono ?_; rintro r w1 ⟨rfl, hb1⟩)
    go_ret2
    exact ⟨rfl, hb1⟩
  | true =>
    rw [Bool.true_and, Bool.and_eq_false_iff, decide_eq_false_iff_not, decide_eq_false_iff_not] at hmay
    by_cases hk : kind = 1 ∨ kind = 2
    · have hm : ¬ (machine = 62 ∨ machine = 183) := hmay.resolve_left fun h => h hk
      have q1 : (machine != 62) = true := by simp; omega
      have q2 : (machine != 183) = true := by simp; omega
      clear hmay hm
      rcases hk with rfl | rfl
      all_goals
        go_enter Tryz.func36, Tryz.ntmps36
        go_wp2_with (go_at_call 69; refine HR.out.mono ?_; rintro r w1 ⟨rfl, hb1⟩)
        go_ret2
        exact ⟨rfl, hb1⟩
    · have q1 : (kind != 1) = true := by simp; omega
      have q2 : (kind != 2) = true := by simp; omega
      clear hmay hk
      go_enter Tryz.func36, Tryz.ntmps36
      go_wp2_with (go_at_call 69; refine HR.out.mono ?_; rintro r w1 ⟨rfl, hb1⟩)
      go_ret2
      exact ⟨rfl, hb1⟩

def lenOf : Value → Nat
  | .slice _ n _ => n
  | _ => 0

set_option maxRecDepth 10000 in
set_option maxHeartbeats 12800000 in
theorem rsput_yes (kind machine : Int) {w : World} {a : Option Addr} {L : List Lay} (h : Secs w w.heap.size a L) (c : Nat) (hlc : L.length ≤ c) (hl : L.length ≤ 100000) (hmay : mayPut kind machine (secsOf L) = true) :
    Calls Tryz.prog 36 #[.int .i64 kind, .int .i64 machine, .slice a L.length c] w fun r w' => ∃ v, r = .returned (.tuple #[v, .int .i64 0]) ∧ Own w' w.heap.size v (fileB kind machine (secsOf L)) ∧ Below w.heap.size w w' := by
  obtain ⟨i0, hi, hz0, hz1, hz2⟩ := info_parts u8_info
  have HR := Lib.hid (srright_any h c hlc hl)
  unfold mayPut at hmay
  simp only [Bool.and_eq_true, decide_eq_true_eq] at hmay
  obtain ⟨hr, hkm⟩ := hmay
  rw [hr] at HR
  obtain ⟨m, z, hR⟩ := right_is hr
  have hLm : L.length = m + 1 := by have := hR.len; simpa using this
  have hm1 := hR.one
  have hm63 := hR.most
  obtain ⟨ns, hns⟩ : ∃ ns, (secsOf L).map (·.name) = ns := ⟨_, rfl⟩
  have hrn := right_names hR
  rw [hns] at hrn
  have hnl : ns.length = m + 1 := by rw [← hns]; simpa using hLm
  obtain ⟨hkn, -⟩ := gat_knows ns hrn (by omega)
  have hgood := fun k => gat_good (ns.take k)
  have hgT := gat_good ns
  obtain ⟨tab, htab⟩ : ∃ tab, putsT (gat ns).1 = tab := ⟨_, rfl⟩
  have htl : tab.length ≤ 65536 := by rw [← htab]; exact gat_table ns
  have hdat : ∀ s ∈ tabled (secsOf L) tab, s.data.length ≤ 100000 := tabled_data (fun s hs => by
      obtain ⟨x, hx, rfl⟩ := List.mem_map.1 hs
      exact (h.ok x hx).fits.data) htl
  have hfile : fileB kind machine (secsOf L) = headB kind machine (padB (docB (tabled (secsOf L) tab) (gat ns).2 (m + 1))).length ((m : Int) + 1) (m : Int) ++ (padB (docB (tabled (secsOf L) tab) (gat ns).2 (m + 1))).drop 64 ++ docE (tabled (secsOf L) tab) (gat ns).2 (m + 1) := by
    have h64 : 64 ≤ (padB (docB (tabled (secsOf L) tab) (gat ns).2 (m + 1))).length := by
      rw [padB_length]; exact Nat.le_trans (layK_64 _ _ _) (Nat.le_add_right _ _)
    unfold fileB laidS
    rw [hns, htab, hR.len, Nat.add_sub_cancel]
    show headB kind machine (padB (docB (tabled (secsOf L) tab) (gat ns).2 (m + 1))).length _ _ ++ (padB (docB (tabled (secsOf L) tab) (gat ns).2 (m + 1)) ++ docE (tabled (secsOf L) tab) (gat ns).2 (m + 1)).drop 64 = _
    rw [List.drop_append_of_le_length h64, List.append_assoc]
    rfl
  have hzero : entNs zeroS 0 0 = List.replicate 10 0 := by decide
  have hg0 : (gat ns).2[0]? = some 0 := (gat_zero (ns := ns) (by rw [← hns, List.getElem?_map, hR.first]; rfl) hrn (by omega)).1
  have HFL := Lib.hid hfile
  have HHS := Lib.hid h
  have HRT := Lib.hid hR
  have HNS := Lib.hid hns
  have HNL := Lib.hid hnl
  have HKN := Lib.hid hkn
  have HGD := Lib.hid hgood
  have HGT := Lib.hid hgT
  have HTB := Lib.hid htab
  have HTL := Lib.hid htl
  have HDT := Lib.hid hdat
  have HKM := Lib.hid hkm
  have HLM := Lib.hid hLm
  have HG0 := Lib.hid hg0
  rw [hLm] at HR hlc ⊢
  clear h hl hr hkm hR hns hrn hnl hkn hgood hgT htab htl hdat hfile hzero hLm hg0
  go_enter Tryz.func36, Tryz.ntmps36
  go_upto_region 1 with fail
  go_cut [41] from 23 to 41 (fun s41 wx => s41 = .bool false ∧ Below w.heap.size w wx)
  case first =>
    rcases HKM.out with ⟨rfl | rfl, rfl | rfl⟩
    all_goals
      go_wp2_with (go_at_call 69; refine HR.out.mono ?_; rintro r w1 ⟨rfl, hb1⟩)
      go_meet
      exact ⟨rfl, hb1⟩
  case rest =>
    obtain ⟨rfl, hb1⟩ := hcut
    have hb2 : Below w.heap.size w (wc.alloc (.cells #[.slice none 0 0] 132)) := hb1.alloc hb1.size _
    have hr2 : RefAt (wc.alloc (.cells #[.slice none 0 0] 132)) w.heap.size wc.heap.size (.slice none 0 0) [] := ⟨Box.new _ _ _, hb1.size, World.ownsRow_nil _ _ _ _⟩
    have HB2 := Lib.hid hb2
    have HR2 := Lib.hid hr2
    clear HR hb1 hb2 hr2
    go_wp2_with fail
    generalize hgn : wc.heap.size = g at *
    generalize wc.alloc (.cells #[.slice none 0 0] 132) = w2 at *
    clear hgn
    -- the names go into the pool
    go_loopw [9] (fun i wr => ∃ k : Nat, k ≤ m + 1 ∧ i = .int .i64 k ∧ (∃ t, RefAt wr w.heap.size g t (gat (ns.take k)).1) ∧ Below w.heap.size w wr) (fun i _ => m + 1 - (intOf i).toNat)
    case atStart => exact ⟨0, Nat.zero_le _, rfl, ⟨_, HR2.out⟩, HB2.out⟩
    case round =>
      obtain ⟨k, hk, rfl, ⟨t, hP⟩, hB⟩ := hrel
      clear HB2 HR2
      by_cases hlt : k < m + 1
      · obtain ⟨x, hx⟩ : ∃ x, L[k]? = some x := ⟨L[k]'(by rw [HLM.out]; exact hlt), List.getElem?_eq_getElem _⟩
        obtain ⟨b, o, rfl, hb, c0, -⟩ := (HHS.out.below hB).at_ hx
        have hnk : ns[k]? = some x.s.name := by rw [← HNS.out]; simp [hx]
        have hA := radd_at hP (HGD.out k) x.s.name (Nat.le_trans ((HHS.out.below hB).get hx).fits.name (by decide))
        rw [← (congrArg Prod.fst (gat_take hnk) : (gat (ns.take (k + 1))).1 = _)] at hA
        have HA := Lib.hid hA
        have HB := Lib.hid hB
        clear hx hnk hA hP hB
        generalize ByteArray.mk x.s.name.toArray = sb at *
        generalize (addT (gat (ns.take k)).1 x.s.name).2.1 = e1 at *
        generalize (addT (gat (ns.take k)).1 x.s.name).2.2 = e2 at *
        go_wp2_with (go_at_call 66; refine HA.out.mono ?_; rintro r w3 ⟨rfl, hp3, ho3⟩; clear HA)
        have HB3 := Lib.hid (HB.out.trans ho3.1)
        go_roundw
        case rel => exact ⟨k + 1, by omega, by go_num, hp3, HB3.out⟩
        case measure => simp [intOf]; omega
      · have hkm : k = m + 1 := by omega
        have htk : ns.take k = ns := List.take_of_length_le (by rw [HNL.out]; omega)
        rw [htk] at hP
        have HP := Lib.hid (show ∃ t, RefAt wr w.heap.size g t (gat ns).1 from ⟨t, hP⟩)
        have HB := Lib.hid hB
        clear hk hkm htk hP hB
        generalize hT : (gat ns).1 = T at *
        go_wp2_with (at_make; refine wpList_make_bytes rfl _ _ 22 rfl i0 Tryz.underlying22 hi hz0 hz1 hz2 64 (by decide) rfl rfl wr.heap.size rfl ?_; intro w4 hr4 hb4)
        clear hlt
        have hown4 : Own w4 w.heap.size (.slice (some ⟨wr.heap.size, 0, none⟩) 64 64) (List.replicate 64 0) := by
          have := hr4.own (base := w.heap.size) HB.out.size (by unfold maxLen; decide)
          simpa using this
        have HS4 := Lib.hid (show PutSt w w4 g T (.slice (some ⟨wr.heap.size, 0, none⟩) 64 64) (.slice none 0 0) (docB (tabled (secsOf L) tab) (gat ns).2 0) (docE (tabled (secsOf L) tab) (gat ns).2 0) from
          ⟨hown4, World.ownsRow_nil _ _ _ _, (fun x _ h => by cases h), (by obtain ⟨t, ht⟩ := HP.out; exact ⟨t, ht.below hb4⟩), HB.out.trans (hb4.mono HB.out.size)⟩)
        clear hown4 hr4 hb4 HP HB
        generalize Value.slice (some ⟨wr.heap.size, 0, none⟩) 64 64 = v0 at *
        clear HGD
        have hspan : spanT T ≤ 1000000 := Nat.le_trans HGT.out.2.1 (by decide)
        obtain ⟨ss, hss⟩ : ∃ ss, tabled (secsOf L) tab = ss := ⟨_, rfl⟩
        obtain ⟨ps, hps⟩ : ∃ ps, (gat ns).2 = ps := ⟨_, rfl⟩
        have HSS := Lib.hid hss
        have HPS := Lib.hid hps
        rw [hss, hps] at HS4
        rw [hss] at HDT
        rw [hps] at HG0
        clear hss hps
        -- the sections are laid
        go_loopg [10, 11, 12] (m + 1) (fun gk u v i wr => ∃ k : Nat, k ≤ m + 1 ∧ gk = m + 1 - k ∧ i = .int .i64 k ∧ PutSt w wr g T u v (docB ss ps k) (docE ss ps k))
        case atStart => exact ⟨0, Nat.zero_le _, rfl, rfl, HS4.out⟩
        case round =>
          obtain ⟨k, hk, rfl, rfl, hSt⟩ := hrel
          clear HS4
          by_cases hlt : k < m + 1
          · obtain ⟨x, hx⟩ : ∃ x, L[k]? = some x := ⟨L[k]'(by rw [HLM.out]; exact hlt), List.getElem?_eq_getElem _⟩
            have hSx := HHS.out.below hSt.below
            obtain ⟨b, o, rfl, hb, c0, c1, c2, c3, c4, c5, c6, c7, c8⟩ := hSx.at_ hx
            have hok := HHS.out.get hx
            have hnk : ns[k]? = some x.s.name := by rw [← HNS.out]; simp [hx]
            obtain ⟨-, p, hpk, hfd⟩ := HKN.out.2 k x.s.name hnk
            rw [HPS.out] at hpk
            -- the section with the bytes that are put
            obtain ⟨s, hsk, hs1, hs2⟩ : ∃ s, ss[k]? = some s ∧ s = { x.s with data := s.data } ∧ s.data = (if k = m then tab else x.s.data) := by
              have h1 := get_secsOf hx
              by_cases hkm : k = m
              · rw [if_pos hkm]
                refine ⟨{ x.s with data := tab }, ?_, rfl, rfl⟩
                rw [← HSS.out, tabled_get HRT.out.len HRT.out.last, if_pos hkm]
                have h2 := HRT.out.last
                rw [← hkm, h1] at h2
                injection h2 with h2
                rw [h2]
              · rw [if_neg hkm]
                refine ⟨x.s, ?_, rfl, rfl⟩
                rw [← HSS.out, tabled_get HRT.out.len HRT.out.last, if_neg hkm, h1]
            have HK0 := Lib.hid (show k = 0 → entNs s p 0 = List.replicate 10 0 from fun hk0 => by
              subst hk0
              have h1 := get_secsOf hx
              rw [HRT.out.first] at h1
              injection h1 with h1
              rw [HG0.out] at hpk
              injection hpk with hpk
              rw [if_neg (by omega), ← h1] at hs2
              rw [hs1, hs2, ← hpk, ← h1]
              decide)
            have HDS := Lib.hid (HDT.out s (List.mem_of_getElem? hsk))
            have HBS := Lib.hid (docB_size (ss := ss) (ps := ps) (k := k) HDT.out (by omega))
            have HES := Lib.hid (docE_size (ss := ss) (ps := ps) (k := k) (by omega))
            have HST := Lib.hid (docE_step hsk hpk HK0.out)
            have HNB := Lib.hid (fun h1 : 1 ≤ k => docB_next h1 hsk hpk)
            have HFD := Lib.hid hfd
            have HSTt := Lib.hid hSt
            have HXR := Lib.hid (hok.rd)
            have HS2 := Lib.hid hs2
            have HBx := Lib.hid (Box.new wr 39 #[.string ⟨x.s.name.toArray⟩, .int .i64 x.s.kind, .int .u64 (x.s.flags : Int), .int .u64 (x.s.addr : Int), .slice x.A x.s.data.length x.c, .int .i64 x.s.link, .int .i64 x.s.inf, .int .i64 x.s.algn, .int .i64 x.s.ent])
            have HEN := Lib.hid (fun q : Nat => (by rw [hs1]; rfl : entNs s p q = [p, wrapN x.s.kind, x.s.flags, x.s.addr, q, s.data.length, wrapN x.s.link, wrapN x.s.inf, wrapN x.s.algn, wrapN x.s.ent]))
            have HSK := Lib.hid (show s.kind = x.s.kind by rw [hs1])
            have HFL2 := Lib.hid (show x.s.flags < two64 ∧ x.s.addr < two64 from ⟨hok.fits.flags, hok.fits.addr⟩)
            have HPB := Lib.hid (show p < 65536 from by have := findT_lt hfd; have := HGT.out.2.1; omega)
            clear hx hSx hok hnk hpk hfd hsk hs1 hs2 hSt
            generalize hdn : x.s.data.length = dn at *
            have HDN := Lib.hid hdn
            clear hdn
            generalize hnm : x.s.name = nm at *
            generalize hsb : ByteArray.mk nm.toArray = sb at *
            generalize x.A = dA at *
            generalize x.c = dc at *
            generalize x.s.kind = i1 at *
            generalize x.s.link = i2 at *
            generalize x.s.inf = i3 at *
            generalize x.s.algn = i4 at *
            generalize x.s.ent = i5 at *
            generalize x.s.flags = n1 at *
            generalize x.s.addr = n2 at *
            have HSB := Lib.hid hsb
            clear hnm hsb
            go_upto_if 74 with fail
            generalize hE : wr.heap.size = E at *
            have HS5 := Lib.hid (HSTt.out.alloc (.cells #[.string sb, .int .i64 i1, .int .u64 (n1 : Int), .int .u64 (n2 : Int), .slice dA dn dc, .int .i64 i2, .int .i64 i3, .int .i64 i4, .int .i64 i5] 39))
            generalize wr.alloc (.cells #[.string sb, .int .i64 i1, .int .u64 (n1 : Int), .int .u64 (n2 : Int), .slice dA dn dc, .int .i64 i2, .int .i64 i3, .int .i64 i4, .int .i64 i5] 39) = w5 at *
            clear hE HSTt c0 c1 c2 c3 c4 c5 c6 c7 c8
            go_cut [14] (fun d wx => ∃ A cd, d = .slice A s.data.length cd ∧ RdOff wx u10 A s.data ∧ PutSt w wx g T u10 u11 (docB ss ps k) (docE ss ps k) ∧ Box wx E 39 #[.string sb, .int .i64 i1, .int .u64 (n1 : Int), .int .u64 (n2 : Int), .slice dA dn dc, .int .i64 i2, .int .i64 i3, .int .i64 i4, .int .i64 i5])
            case first =>
              by_cases hkm : k = m
              · have q : ((k : Int) == (m : Int)) = true := by simp [hkm]
                have hsd : putsT T = s.data := by rw [HS2.out, if_pos hkm, HTB.out]
                obtain ⟨t, ht⟩ := HS5.out.p
                have HBY := Lib.hid (rbytes_at ht hspan)
                rw [hsd] at HBY
                clear hkm hsd ht hlt
                go_wp2_with (go_at_call 68; refine HBY.out.mono ?_; rintro r w6 ⟨v6, rfl, ho6, hb6⟩; clear HBY)
                go_meet
                obtain ⟨A6, c6, rfl, hro⟩ := RdOff.of_new HS5.out ho6
                exact ⟨A6, c6, rfl, hro, HS5.out.later hb6, HBx.out.below hb6 HBx.out.lt⟩
              · have q : ((k : Int) == (m : Int)) = false := by simp; omega
                have hsd : x.s.data = s.data := by rw [HS2.out, if_neg hkm]
                have hr5 := RdOff.of_old HS5.out HXR.out
                have hdn := HDN.out
                rw [hsd] at hr5 hdn
                clear hlt hkm hsd
                go_wp2_with fail
                go_meet
                exact ⟨dA, dc, by rw [hdn], hr5, HS5.out, HBx.out⟩
            case rest =>
              obtain ⟨A, cd, rfl, hro, hSt, hbx⟩ := hcut
              have HRO := Lib.hid hro
              have HST6 := Lib.hid hSt
              have HBX := Lib.hid hbx
              clear hro hSt hbx HS5 HBx HS2 HXR HDN
              go_upto_if 78 with fail
              obtain ⟨bk, hbk⟩ : ∃ bk, decide (0 < k) = bk := ⟨_, rfl⟩
              rw [hbk]
              have HBK := Lib.hid hbk
              clear hbk
              go_cut [10, 15] (fun u' o wx => o = .int .i64 (docO ss ps k : Int) ∧ PutSt w wx g T u' u11 (docB ss ps (k + 1)) (docE ss ps k) ∧ Box wx E 39 #[.string sb, .int .i64 i1, .int .u64 (n1 : Int), .int .u64 (n2 : Int), .slice dA dn dc, .int .i64 i2, .int .i64 i3, .int .i64 i4, .int .i64 i5])
              case first =>
                cases bk with
                | false =>
                  have hk0 : k = 0 := by have := of_decide_eq_false HBK.out; omega
                  have HB1 := Lib.hid (show docO ss ps k = 0 ∧ docB ss ps (k + 1) = docB ss ps k by rw [hk0]; exact ⟨rfl, rfl⟩)
                  clear hk0 hlt
                  go_wp2_with fail
                  go_meet
                  exact ⟨by rw [HB1.out.1]; rfl, by rw [HB1.out.2]; exact HST6.out, HBX.out⟩
                | true =>
                  have hd : 0 < k := of_decide_eq_true HBK.out
                  have HNB1 := Lib.hid (HNB.out (by omega))
                  have HO1 := Lib.hid (docO_next (ss := ss) (ps := ps) (k := k) (by omega))
                  clear hd
                  obtain ⟨B0, hB0⟩ : ∃ B0, docB ss ps k = B0 := ⟨_, rfl⟩
                  rw [hB0] at HST6 HBS HNB1 HO1
                  clear hB0
                  obtain ⟨z0, hz⟩ : ∃ z0, padN B0.length = z0 := ⟨_, rfl⟩
                  have HZ := Lib.hid hz
                  have hz8 : z0 < 8 := by rw [← hz]; exact padN_lt _
                  obtain ⟨N0, hN0⟩ : ∃ N0, B0.length = N0 := ⟨_, rfl⟩
                  have HN0 := Lib.hid hN0
                  have hN0b : N0 ≤ 10000000 := by rw [← hN0]; exact HBS.out
                  have hpn : ∀ j, j ≤ z0 → (0 < (N0 + j) % 8 ↔ j < z0) := fun j hj => by rw [← hz, hN0]; exact padN_next (by rw [← hN0, hz]; exact hj)
                  have HPN := Lib.hid hpn
                  clear hz hN0 hpn
                  go_wp2_with fail
                  go_loopg [10] 8 (fun gk u' wx => ∃ j : Nat, j ≤ z0 ∧ gk = 8 - j ∧ PutSt w wx g T u' u11 (B0 ++ List.replicate j 0) (docE ss ps k) ∧ RdOff wx u' A s.data ∧ Box wx E 39 #[.string sb, .int .i64 i1, .int .u64 (n1 : Int), .int .u64 (n2 : Int), .slice dA dn dc, .int .i64 i2, .int .i64 i3, .int .i64 i4, .int .i64 i5])
                  case atStart => exact ⟨0, Nat.zero_le _, rfl, by rw [List.replicate_zero, List.append_nil]; exact HST6.out, HRO.out, HBX.out⟩
                  case round =>
                    obtain ⟨j, hj, rfl, hSt, hro, hbx⟩ := hrel
                    have hlen : (B0 ++ List.replicate j 0).length = N0 + j := by simp [HN0.out]
                    obtain ⟨Ab, cb, rfl, _, _, _⟩ := own_slice hSt.b
                    have hpj := HPN.out j hj
                    rw [hlen] at hSt hro ⊢
                    have HSTj := Lib.hid hSt
                    have HROj := Lib.hid hro
                    have HBXj := Lib.hid hbx
                    clear hSt hro hbx HRO HST6 HBX hlen
                    by_cases hjl : j < z0
                    · have hd2 : (0 : Int) < ((N0 : Int) + (j : Int)) % 8 := by have := hpj.2 hjl; omega
                      have hsum : (B0 ++ List.replicate j 0).length + [(0 : UInt8)].length ≤ 140737488355328 := by simp [HN0.out]; omega
                      clear hpj
                      go_wp2_with (at_builtin; refine wpList_append_bytes (by rfl) (.tmp 83) (.tmp 84) _ (by rfl) w.heap.size i0 Tryz.underlying22 hi hz0 hz1 hz2 (.slice Ab (N0 + j) cb) (B0 ++ List.replicate j 0) (by rfl) (HSTj.out.alloc _).b (wr.heap.size + 1) _ 1 1 [(0 : UInt8)] rfl (by rfl) (rd_one wr 0 0 rfl) hsum (HSTj.out.alloc _).size ?_; intro v7 w7 hown7 hg7 hat7)
                      have HS7 := Lib.hid ((HSTj.out.alloc _).body hown7 hg7 hat7)
                      have HR7 := Lib.hid ((HROj.out.later ((Below.refl _ _).alloc (Nat.le_refl _) _)).body hg7 hat7)
                      have HX7 := Lib.hid (box_bytes (box_old HBXj.out _) (by decide) ((HSTj.out.alloc _).turns hg7))
                      rw [zeros_more] at HS7
                      clear hown7 hg7 hat7 hd2 hsum
                      go_roundg (8 - (j + 1))
                      case measure => omega
                      case rel => exact ⟨j + 1, hjl, rfl, HS7.out, HR7.out, HX7.out⟩
                    · have hjz : j = z0 := by omega
                      subst hjz
                      have hd2 : ¬ (0 : Int) < ((N0 : Int) + (j : Int)) % 8 := by have := mt hpj.1 hjl; omega
                      have HPA := Lib.hid (padB_eq B0 j HZ.out)
                      have HO2 := Lib.hid (show docO ss ps k = N0 + j by rw [HO1.out, HPA.out]; simp [HN0.out])
                      have c1 : wr.cell? ⟨E, 1, none⟩ = some (.int .i64 i1) := by have := HBXj.out.cell 1; simpa using this
                      clear hpj hjl
                      by_cases h8 : i1 = 8
                      · have q8 : (i1 != 8) = false := by simp [h8]
                        have HNX := Lib.hid (show docB ss ps (k + 1) = B0 ++ List.replicate j 0 by rw [HNB1.out, HSK.out, if_pos h8, List.append_nil, HPA.out])
                        clear h8
                        go_wp2_with fail
                        go_meet
                        exact ⟨by rw [HO2.out]; rfl, by rw [HNX.out]; exact HSTj.out, HBXj.out⟩
                      · have q8 : (i1 != 8) = true := by simp [h8]
                        have HNX := Lib.hid (show docB ss ps (k + 1) = B0 ++ List.replicate j 0 ++ s.data by rw [HNB1.out, HSK.out, if_neg h8, HPA.out])
                        have hsum : (B0 ++ List.replicate j 0).length + s.data.length ≤ 140737488355328 := by have := HDS.out; simp [HN0.out]; omega
                        clear h8
                        go_wp2_with (at_builtin; refine wpList_append_bytes (by rfl) (.tmp 91) (.tmp 92) _ (by rfl) w.heap.size i0 Tryz.underlying22 hi hz0 hz1 hz2 (.slice Ab (N0 + j) cb) (B0 ++ List.replicate j 0) (by rfl) HSTj.out.b wr.heap.size A _ cd s.data rfl (by rfl) HROj.out.rd hsum HSTj.out.size ?_; intro v7 w7 hown7 hg7 hat7)
                        go_meet
                        exact ⟨by rw [HO2.out]; rfl, by rw [HNX.out]; exact HSTj.out.body hown7 hg7 hat7, box_bytes HBXj.out (by decide) (HSTj.out.turns hg7)⟩
              case rest =>
                obtain ⟨rfl, hSt, hbx⟩ := hcut
                have HO := Lib.hid (docO_size (ss := ss) (ps := ps) (k := k) HDT.out (by omega))
                obtain ⟨q0, hq0⟩ : ∃ q0, docO ss ps k = q0 := ⟨_, rfl⟩
                rw [hq0] at HO HST ⊢
                clear hq0 HNB HRO HST6 HBX
                obtain ⟨t, ht⟩ := hSt.p
                have HFI := Lib.hid (rfind_at ht hspan nm)
                rw [HFD.out, HSB.out] at HFI
                simp only [Option.getD_some, Option.isSome_some] at HFI
                have d0 : wc.cell? ⟨E, 0, none⟩ = some (.string sb) := by have := hbx.cell 0; simpa using this
                have d1 : wc.cell? ⟨E, 1, none⟩ = some (.int .i64 i1) := by have := hbx.cell 1; simpa using this
                have d2 : wc.cell? ⟨E, 2, none⟩ = some (.int .u64 (n1 : Int)) := by have := hbx.cell 2; simpa using this
                have d3 : wc.cell? ⟨E, 3, none⟩ = some (.int .u64 (n2 : Int)) := by have := hbx.cell 3; simpa using this
                have d5 : wc.cell? ⟨E, 5, none⟩ = some (.int .i64 i2) := by have := hbx.cell 5; simpa using this
                have d6 : wc.cell? ⟨E, 6, none⟩ = some (.int .i64 i3) := by have := hbx.cell 6; simpa using this
                have d7 : wc.cell? ⟨E, 7, none⟩ = some (.int .i64 i4) := by have := hbx.cell 7; simpa using this
                have d8 : wc.cell? ⟨E, 8, none⟩ = some (.int .i64 i5) := by have := hbx.cell 8; simpa using this
                have f1 := IntWalk.u64_in (q0 : Int) (by have := HO.out; omega)
                have f2 := IntWalk.u64_in (s.data.length : Int) (by have := HDS.out; omega)
                have e1 := wrapN_eq i1
                have e2 := wrapN_eq i2
                have e3 := wrapN_eq i3
                have e4 := wrapN_eq i4
                have e5 := wrapN_eq i5
                have hNS := HEN.out q0
                have hw64 : ∀ y : Int, wrapN y < two64 := fun y => by unfold wrapN two64; rw [IntKind.wrap_u64]; omega
                have HW1 := Lib.hid (hw64 i1)
                have HW2 := Lib.hid (hw64 i2)
                have HW3 := Lib.hid (hw64 i3)
                have HW4 := Lib.hid (hw64 i4)
                have HW5 := Lib.hid (hw64 i5)
                generalize wrapN i1 = k1 at *
                generalize wrapN i2 = k2 at *
                generalize wrapN i3 = k3 at *
                generalize wrapN i4 = k4 at *
                generalize wrapN i5 = k5 at *
                obtain ⟨sl, hsl⟩ : ∃ sl, s.data.length = sl := ⟨_, rfl⟩
                rw [hsl] at hNS f2 HDS ⊢
                have HNS := Lib.hid hNS
                have HS6 := Lib.hid hSt
                have hall : ∀ y ∈ [p, k1, n1, n2, q0, sl, k2, k3, k4, k5], y < two64 := by
                  have h1 := HW1.out; have h2 := HW2.out; have h3 := HW3.out; have h4 := HW4.out; have h5 := HW5.out
                  have h6 := HFL2.out; have h7 := HPB.out; have h8 := HO.out; have h9 := HDS.out
                  unfold two64 at *
                  intro y hy
                  simp only [List.mem_cons, List.not_mem_nil, or_false] at hy
                  omega
                have HALL := Lib.hid hall
                have HLT := Lib.hid hlt
                clear hsl hNS hSt hbx ht hw64 HW1 HW2 HW3 HW4 HW5 HEN HFD HFL2 HPB hlt hall hb
                go_wp2_with (go_at_call 70; refine HFI.out.mono ?_; rintro r w6 ⟨rfl, rfl⟩; clear HFI)
                have hbA : Below wc.heap.size wc ((wc.alloc (.cells #[.int .u64 (p : Int), .int .u64 (k1 : Int), .int .u64 (n1 : Int), .int .u64 (n2 : Int), .int .u64 (q0 : Int), .int .u64 (sl : Int), .int .u64 (k2 : Int), .int .u64 (k3 : Int), .int .u64 (k4 : Int), .int .u64 (k5 : Int)] 37)).alloc (.cells #[.int .i64 4, .int .i64 4, .int .i64 8, .int .i64 8, .int .i64 8, .int .i64 8, .int .i64 4, .int .i64 4, .int .i64 8, .int .i64 8] 3)) := ((Below.refl _ _).alloc (Nat.le_refl _) _).alloc (by simp) _
                have HS7 := Lib.hid (HS6.out.later hbA)
                have HX7 := Lib.hid (box_old (Box.new wc 37 #[.int .u64 (p : Int), .int .u64 (k1 : Int), .int .u64 (n1 : Int), .int .u64 (n2 : Int), .int .u64 (q0 : Int), .int .u64 (sl : Int), .int .u64 (k2 : Int), .int .u64 (k3 : Int), .int .u64 (k4 : Int), .int .u64 (k5 : Int)]) (.cells #[.int .i64 4, .int .i64 4, .int .i64 8, .int .i64 8, .int .i64 8, .int .i64 8, .int .i64 4, .int .i64 4, .int .i64 8, .int .i64 8] 3))
                have HY7 := Lib.hid (Box.new (wc.alloc (.cells #[.int .u64 (p : Int), .int .u64 (k1 : Int), .int .u64 (n1 : Int), .int .u64 (n2 : Int), .int .u64 (q0 : Int), .int .u64 (sl : Int), .int .u64 (k2 : Int), .int .u64 (k3 : Int), .int .u64 (k4 : Int), .int .u64 (k5 : Int)] 37)) 3 #[.int .i64 4, .int .i64 4, .int .i64 8, .int .i64 8, .int .i64 8, .int .i64 8, .int .i64 4, .int .i64 4, .int .i64 8, .int .i64 8])
                rw [show (wc.alloc (.cells #[.int .u64 (p : Int), .int .u64 (k1 : Int), .int .u64 (n1 : Int), .int .u64 (n2 : Int), .int .u64 (q0 : Int), .int .u64 (sl : Int), .int .u64 (k2 : Int), .int .u64 (k3 : Int), .int .u64 (k4 : Int), .int .u64 (k5 : Int)] 37)).heap.size = wc.heap.size + 1 by simp] at HY7
                have hXE : (#[.int .u64 (p : Int), .int .u64 (k1 : Int), .int .u64 (n1 : Int), .int .u64 (n2 : Int), .int .u64 (q0 : Int), .int .u64 (sl : Int), .int .u64 (k2 : Int), .int .u64 (k3 : Int), .int .u64 (k4 : Int), .int .u64 (k5 : Int)] : Array Value) = (entCs [p, k1, n1, n2, q0, sl, k2, k3, k4, k5]).toArray := rfl
                have hYE : (#[.int .i64 4, .int .i64 4, .int .i64 8, .int .i64 8, .int .i64 8, .int .i64 8, .int .i64 4, .int .i64 4, .int .i64 8, .int .i64 8] : Array Value) = (sizesN.map fun q : Nat => Value.int .i64 (q : Int)).toArray := rfl
                have hnl10 : [p, k1, n1, n2, q0, sl, k2, k3, k4, k5].length = 10 := rfl
                generalize wc.alloc (.cells #[.int .u64 (p : Int), .int .u64 (k1 : Int), .int .u64 (n1 : Int), .int .u64 (n2 : Int), .int .u64 (q0 : Int), .int .u64 (sl : Int), .int .u64 (k2 : Int), .int .u64 (k3 : Int), .int .u64 (k4 : Int), .int .u64 (k5 : Int)] 37) = wn at *
                generalize wn.alloc (.cells #[.int .i64 4, .int .i64 4, .int .i64 8, .int .i64 8, .int .i64 8, .int .i64 8, .int .i64 4, .int .i64 4, .int .i64 8, .int .i64 8] 3) = w7 at *
                rw [hXE] at HX7
                rw [hYE] at HY7
                clear hXE hYE hbA HS6 d0 d1 d2 d3 d5 d6 d7 d8 e1 e2 e3 e4 e5 f1 f2
                generalize wc.heap.size = F at *
                rw [HNS.out] at HST
                generalize [p, k1, n1, n2, q0, sl, k2, k3, k4, k5] = es at *
                have HN10 := Lib.hid hnl10
                have hzl10 : (es.zip sizesN).length = 10 := by rw [List.length_zip, hnl10]; rfl
                have HZL := Lib.hid hzl10
                have HZ8 := Lib.hid (show ∀ y ∈ es.zip sizesN, y.2 ≤ 8 from fun y hy => by
                  have : y.2 ∈ sizesN := (List.of_mem_zip hy).2
                  have hall : ∀ s ∈ sizesN, s ≤ 8 := by decide
                  exact hall _ this)
                have HEB := Lib.hid (show entB es = itsB (es.zip sizesN) from rfl)
                clear hnl10 hzl10 HNS
                go_loopg [11, 20] 10 (fun gk v' i wx => ∃ j : Nat, j ≤ 10 ∧ gk = 10 - j ∧ i = .int .i64 j ∧ PutSt w wx g T u10 v' (docB ss ps (k + 1)) (docE ss ps k ++ itsB ((es.zip sizesN).take j)) ∧ Box wx F 37 (entCs es).toArray ∧ Box wx (F + 1) 3 (sizesN.map fun q : Nat => Value.int .i64 (q : Int)).toArray)
                case atStart => exact ⟨0, Nat.zero_le _, rfl, rfl, by rw [List.take_zero, show itsB [] = [] from rfl, List.append_nil]; exact HS7.out, HX7.out, HY7.out⟩
                case round =>
                  obtain ⟨j, hj, rfl, rfl, hSt, hbx, hby⟩ := hrel
                  clear HS7 HX7 HY7
                  by_cases hjl : j < 10
                  · obtain ⟨x, hx⟩ : ∃ x, es[j]? = some x := ⟨es[j]'(by rw [HN10.out]; exact hjl), List.getElem?_eq_getElem _⟩
                    obtain ⟨q, hq⟩ : ∃ q, sizesN[j]? = some q := ⟨sizesN[j]'(by show j < 10; exact hjl), List.getElem?_eq_getElem _⟩
                    have hxq : (es.zip sizesN)[j]? = some (x, q) := by rw [List.getElem?_zip_eq_some]; exact ⟨hx, hq⟩
                    have HIT := Lib.hid (show docE ss ps k ++ itsB ((es.zip sizesN).take (j + 1)) = docE ss ps k ++ itsB ((es.zip sizesN).take j) ++ leBytes x q by rw [itsB_step _ j x q hxq, List.append_assoc])
                    have hq8 : q ≤ 8 := HZ8.out _ (List.mem_of_getElem? hxq)
                    have hx64 := HALL.out x (List.mem_of_getElem? hx)
                    have hil := itsB_le (es.zip sizesN) j HZ8.out
                    rw [HZL.out] at hil
                    have hclamp : clampOf (q : Int) = q := by unfold clampOf; omega
                    have HPU := Lib.hid (fun W => rput_any W x hx64 (q : Int) (by omega))
                    rw [hclamp] at HPU
                    have HLB := Lib.hid (leBytes_len x q)
                    have hsum : (docE ss ps k ++ itsB ((es.zip sizesN).take j)).length + (leBytes x q).length ≤ 140737488355328 := by
                      rw [leBytes_len, List.length_append]
                      have := HES.out
                      omega
                    have HSU := Lib.hid hsum
                    generalize docE ss ps k ++ itsB ((es.zip sizesN).take j) = EJ at *
                    generalize leBytes x q = LB at *
                    have KS := Lib.hid (fun (W : World) (hW : Only w.heap.size (CellsOf 5) wr W) => (by
                      have h1 := box_bytes hbx (by decide) hW
                      have h2 := box_bytes hby (by decide) hW
                      exact ⟨by rw [h1.cell]; simp [entCs, hx], by rw [h2.cell]; simp [hq]⟩ :
                      W.cell? ⟨F, j, none⟩ = some (.int .u64 (x : Int)) ∧ W.cell? ⟨F + 1, j, none⟩ = some (.int .i64 (q : Int))))
                    have HSTj := Lib.hid hSt
                    have HBXj := Lib.hid hbx
                    have HBYj := Lib.hid hby
                    have hO6 : Only w.heap.size (CellsOf 5) wr wr.drew := Only.drew (Only.refl _ _ _)
                    have hB6 : Below wr.heap.size wr wr.drew := (Below.refl _ _).drew
                    have hssz := hSt.size
                    clear hx hq hxq hil hx64 hclamp hsum hSt hbx hby hq8
                    go_wp2_with fail
                    go_region_held_law (fun W => W.cell? ⟨F, j, none⟩ = some (.int .u64 (x : Int)) ∧ W.cell? ⟨F + 1, j, none⟩ = some (.int .i64 (q : Int)))
                      ((refine KS.out _ ?_; (repeat' (first | with_reducible assumption | with_reducible refine Only.drewN ?_ _ | with_reducible refine Only.drew ?_))))
                      (first
                        | (go_at_call 67; refine (HPU.out _).mono ?_; rintro r w9 ⟨v9, rfl, hown9, hb9⟩; have hB9 : Below wr.heap.size wr w9 := Below.trans (by (repeat' (first | with_reducible assumption | with_reducible refine below_drewN ?_ _ | with_reducible refine Below.drew ?_ | with_reducible exact Below.refl _ _))) (hb9.mono (by exact hB6.size)); have ho9 : Only w.heap.size (CellsOf 5) wr w9 := Only.below hB9 hssz; obtain ⟨A9, c9, rfl, _, _, hr9⟩ := own_slice hown9; have HS9 := Lib.hid (HSTj.out.later hB9); clear hown9 hb9 hB9 hO6 hB6 HPU)
                        | (refine step_append_free (by rfl) (.tmp 132) (.tmp 141) _ (by rfl) w.heap.size i0 Tryz.underlying22 hi hz0 hz1 hz2 u11 EJ (by rfl) (by exact HS9.out.e) w9.heap.size A9 _ c9 LB rfl (by rfl) hr9 HSU.out (by exact HS9.out.size) ?_; intro v10 w10 hown10 hg10 hat10; have ho10 := only_entries HS9.out ho9 hg10))
                    have HS10 := Lib.hid (HS9.out.more hown10 hg10 hat10)
                    clear hown10 hg10 hat10 ho9
                    have HX10 := Lib.hid (box_bytes HBXj.out (by decide) ho10)
                    have HY10 := Lib.hid (box_bytes HBYj.out (by decide) ho10)
                    rw [← HIT.out] at HS10
                    clear KS ho10 HS9 HSTj HBXj HBYj
                    go_wp2_with fail
                    go_roundg (10 - (j + 1))
                    case measure => omega
                    case rel => exact ⟨j + 1, hjl, rfl, by go_num, HS10.out, HX10.out, HY10.out⟩
                  · have hj10 : j = 10 := by omega
                    have HSK1 := Lib.hid (show PutSt w wr g T u10 u11 (docB ss ps (k + 1)) (docE ss ps (k + 1)) by
                      rw [HST.out, HEB.out]
                      rw [hj10] at hSt
                      rwa [show (es.zip sizesN).take 10 = es.zip sizesN from List.take_of_length_le (by rw [HZL.out]; exact Nat.le_refl _)] at hSt)
                    clear hSt hbx hby
                    go_wp2_with fail
                    go_roundg (m + 1 - (k + 1))
                    case measure => have := HLT.out; omega
                    case rel => exact ⟨k + 1, HLT.out, rfl, by go_num, HSK1.out⟩
          · obtain rfl : k = m + 1 := by omega
            have HBS := Lib.hid (docB_size (ss := ss) (ps := ps) (k := m + 1) HDT.out (by omega))
            have HES := Lib.hid (docE_size (ss := ss) (ps := ps) (k := m + 1) (by omega))
            have H64 := Lib.hid (show 64 ≤ (docB ss ps (m + 1)).length from layK_64 _ _ _)
            rw [HSS.out, HPS.out] at HFL
            have HSTt := Lib.hid hSt
            clear hSt
            generalize docB ss ps (m + 1) = B0 at *
            generalize docE ss ps (m + 1) = E0 at *
            obtain ⟨z0, hz⟩ : ∃ z0, padN B0.length = z0 := ⟨_, rfl⟩
            have HZ := Lib.hid hz
            have hz8 : z0 < 8 := by rw [← hz]; exact padN_lt _
            obtain ⟨N0, hN0⟩ : ∃ N0, B0.length = N0 := ⟨_, rfl⟩
            have HN0 := Lib.hid hN0
            have hN0b : N0 ≤ 10000000 := by rw [← hN0]; exact HBS.out
            have hN064 : 64 ≤ N0 := by rw [← hN0]; exact H64.out
            have hpn : ∀ j, j ≤ z0 → (0 < (N0 + j) % 8 ↔ j < z0) := fun j hj => by rw [← hz, hN0]; exact padN_next (by rw [← hN0, hz]; exact hj)
            have HPN := Lib.hid hpn
            clear hz hN0 hpn
            go_wp2_with fail
            go_loopg [10] 8 (fun gk u' wx => ∃ j : Nat, j ≤ z0 ∧ gk = 8 - j ∧ PutSt w wx g T u' u11 (B0 ++ List.replicate j 0) E0)
            case atStart => exact ⟨0, Nat.zero_le _, rfl, by rw [List.replicate_zero, List.append_nil]; exact HSTt.out⟩
            case round =>
              obtain ⟨j, hj, rfl, hSt⟩ := hrel
              have hlen : (B0 ++ List.replicate j 0).length = N0 + j := by simp [HN0.out]
              obtain ⟨Ab, cb, rfl, hcb, _, hrb⟩ := own_slice hSt.b
              have hpj := HPN.out j hj
              rw [hlen] at hSt hcb ⊢
              have HSTj := Lib.hid hSt
              have HRb := Lib.hid hrb
              clear hSt HSTt hrb
              by_cases hjl : j < z0
              · have hd2 : (0 : Int) < ((N0 : Int) + (j : Int)) % 8 := by have := hpj.2 hjl; omega
                have hsum : (B0 ++ List.replicate j 0).length + [(0 : UInt8)].length ≤ 140737488355328 := by simp [HN0.out]; omega
                clear hpj hlen hcb HRb
                go_wp2_with (at_builtin; refine wpList_append_bytes (by rfl) (.tmp 147) (.tmp 148) _ (by rfl) w.heap.size i0 Tryz.underlying22 hi hz0 hz1 hz2 (.slice Ab (N0 + j) cb) (B0 ++ List.replicate j 0) (by rfl) (HSTj.out.alloc _).b (wr.heap.size + 1) _ 1 1 [(0 : UInt8)] rfl (by rfl) (rd_one wr 0 0 rfl) hsum (HSTj.out.alloc _).size ?_; intro v7 w7 hown7 hg7 hat7)
                have HS7 := Lib.hid ((HSTj.out.alloc _).body hown7 hg7 hat7)
                rw [zeros_more] at HS7
                clear hown7 hg7 hat7 hd2 hsum
                go_roundg (8 - (j + 1))
                case measure => omega
                case rel => exact ⟨j + 1, hjl, rfl, HS7.out⟩
              · have hjz : j = z0 := by omega
                subst hjz
                have hd2 : ¬ (0 : Int) < ((N0 : Int) + (j : Int)) % 8 := by have := mt hpj.1 hjl; omega
                have HPA := Lib.hid (padB_eq B0 j HZ.out)
                rw [HPA.out, hlen] at HFL
                clear hpj hjl
                obtain ⟨N1, hN1⟩ : ∃ N1, N0 + j = N1 := ⟨_, rfl⟩
                have hN1b : N1 ≤ 10000010 := by omega
                have hN164 : 64 ≤ N1 := by omega
                rw [hN1] at HSTj HFL hlen hcb ⊢
                have hN1i : (N0 : Int) + (j : Int) = (N1 : Int) := by omega
                rw [hN1i] at hd2
                generalize hX : B0 ++ List.replicate j 0 = X at *
                have HXL := Lib.hid hlen
                obtain ⟨Ae, ce, hue, _, _, hre⟩ := own_slice HSTj.out.e
                subst hue
                have HRe := Lib.hid hre
                have hdl : (X.drop 64).length = N1 - 64 := by rw [List.length_drop, hlen]
                obtain ⟨A2, c2, hsl, hra⟩ : ∃ A2 c2, (∀ W : World, (Instr.slice 22 (.slice Ab N1 cb) (some (.int .i64 64)) none none).run Tryz.prog W = .ok (.slice A2 (N1 - 64) c2) W) ∧ Hid (Rd wr wr.heap.size A2 (X.drop 64)) := by
                  refine ⟨if cb = 64 then Ab else Option.map (fun x => x.add 64) Ab, cb - 64, fun W => ?_, ?_⟩
                  · rw [run_slice_l W _ _ _ _ Tryz.underlying22 _ _ (by omega) (by omega), size_u8]
                    simp only [Result.andThen, sliced, Nat.mul_one]
                    rfl
                  · by_cases hc64 : cb = 64
                    · rw [show X.drop 64 = [] from List.drop_eq_nil_of_le (by rw [hlen]; omega)]
                      exact Lib.hid Rd.nil_
                    · rw [if_neg hc64]
                      have := rd_cut HRb.out 64 (N1 - 64)
                      rw [List.take_of_length_le (by rw [hdl]; exact Nat.le_refl _)] at this
                      exact Lib.hid this
                have HDL := Lib.hid hdl
                have f1 := IntWalk.u64_in (N1 : Int) (by omega)
                have hb8 : Below wr.heap.size wr (wr.alloc (.cells #[.int .i64 kind, .int .i64 machine, .int .u64 (N1 : Int), .int .i64 ((m : Int) + 1), .int .i64 (m : Int)] 64)) := (Below.refl _ _).alloc (Nat.le_refl _) _
                have HX8 := Lib.hid (Box.new wr 64 #[.int .i64 kind, .int .i64 machine, .int .u64 (N1 : Int), .int .i64 ((m : Int) + 1), .int .i64 (m : Int)])
                have HS8 := Lib.hid (HSTj.out.later hb8)
                have HA8 := Lib.hid (hra.out.below hb8)
                have hsz8 : (wr.alloc (.cells #[.int .i64 kind, .int .i64 machine, .int .u64 (N1 : Int), .int .i64 ((m : Int) + 1), .int .i64 (m : Int)] 64)).heap.size = wr.heap.size + 1 := by simp
                clear hX hlen hre hdl hra HSTj HRb HRe hb8 hN1 hcb
                have HPU := Lib.hid (fun W => rputh_any kind machine N1 ((m : Int) + 1) (m : Int) W (by unfold two64; omega))
                have HHL := Lib.hid (headB_length kind machine N1 ((m : Int) + 1) (m : Int))
                generalize headB kind machine N1 ((m : Int) + 1) (m : Int) = hbs at *
                have KS := Lib.hid (fun (W : World) (hW : Below (wr.heap.size + 1) (wr.alloc (.cells #[.int .i64 kind, .int .i64 machine, .int .u64 (N1 : Int), .int .i64 ((m : Int) + 1), .int .i64 (m : Int)] 64)) W) => (by
                  have h1 := HX8.out.below hW (by omega)
                  exact ⟨by simpa using h1.cell 0, by simpa using h1.cell 1, by simpa using h1.cell 2, by simpa using h1.cell 3, by simpa using h1.cell 4⟩ :
                  W.cell? ⟨wr.heap.size, 0, none⟩ = some (.int .i64 kind) ∧ W.cell? ⟨wr.heap.size, 1, none⟩ = some (.int .i64 machine) ∧ W.cell? ⟨wr.heap.size, 2, none⟩ = some (.int .u64 (N1 : Int)) ∧ W.cell? ⟨wr.heap.size, 3, none⟩ = some (.int .i64 ((m : Int) + 1)) ∧ W.cell? ⟨wr.heap.size, 4, none⟩ = some (.int .i64 (m : Int))))
                have HE0 := Lib.hid (show E0.length ≤ 4096 from HES.out)
                clear HX8
                go_wp2_with fail
                clear hd2
                generalize wr.alloc (.cells #[.int .i64 kind, .int .i64 machine, .int .u64 (N1 : Int), .int .i64 ((m : Int) + 1), .int .i64 (m : Int)] 64) = w8 at *
                generalize wr.heap.size = E at *
                have hB8 : Below (E + 1) w8 w8.drew := (Below.refl _ _).drew
                have hez : E + 1 ≤ w8.heap.size := by rw [hsz8]; exact Nat.le_refl _
                have HQ9 := Lib.hid (fun (w9 : World) (v9 : Value) (b : Nat) (h : Own w9 w8.drew.heap.size v9 hbs) (hb : Below w8.drew.heap.size w8.drew w9) => (by
                  have h0 : Below w8.heap.size w8 w8.drew := (Below.refl _ _).drew
                  have h1 : Below w8.heap.size w8 w9 := h0.trans hb
                  have h2 : E + 1 ≤ w8.heap.size := by rw [hsz8]; exact Nat.le_refl _
                  exact ⟨h1, h1.mono h2, fun x hx => Nat.le_trans h2 (own_ge h x hx).1, own_apart HS8.out.e h (Nat.le_refl _)⟩ :
                  Below w8.heap.size w8 w9 ∧ Below (E + 1) w8 w9 ∧ (∀ x, v9.ownBlock = some x → E + 1 ≤ x) ∧ ((Value.slice Ae E0.length ce).ownBlock = none ∨ (Value.slice Ae E0.length ce).ownBlock ≠ v9.ownBlock)))
                have hs8 := HS8.out.size
                go_region_held_law (fun W => W.cell? ⟨E, 0, none⟩ = some (.int .i64 kind) ∧ W.cell? ⟨E, 1, none⟩ = some (.int .i64 machine) ∧ W.cell? ⟨E, 2, none⟩ = some (.int .u64 (N1 : Int)) ∧ W.cell? ⟨E, 3, none⟩ = some (.int .i64 ((m : Int) + 1)) ∧ W.cell? ⟨E, 4, none⟩ = some (.int .i64 (m : Int)))
                  ((refine KS.out _ ?_; (repeat' (first | with_reducible assumption | with_reducible refine below_drewN ?_ _ | with_reducible refine Below.drew ?_))))
                  (first
                    | ((go_at_call 71; refine (HPU.out _).mono ?_; rintro r w9 ⟨v9, rfl, hown9, hb9⟩; obtain ⟨hE9, hB9, hv9, hap9⟩ := HQ9.out _ _ 0 hown9 hb9; have HS9 := Lib.hid (HS8.out.later hE9); have HA9 := Lib.hid (HA8.out.below (hB9.mono (Nat.le_succ E))); have HO9 := Lib.hid (own_up hown9 (by exact HS8.out.size)); clear hb9 hB8 HPU hown9 HQ9))
                    | (refine step_append_free (by rfl) (.tmp 162) (.tmp 164) _ (by rfl) w.heap.size i0 Tryz.underlying22 hi hz0 hz1 hz2 v9 hbs (by rfl) (by exact HO9.out) E A2 _ c2 (X.drop 64) HDL.out (by rfl) HA9.out (by rw [HHL.out, HDL.out]; omega) (by exact HS9.out.size) ?_; intro v10 w10 hown10 hg10 hat10; have hB10 := hB9.trans (below_of_only hg10 (Nat.le_trans hez hB9.size) hv9)))
                have HE9 := Lib.hid (World.ownsRow.kept (w := w9) HS9.out.e hg10 hap9)
                have HB10 := Lib.hid (HS9.out.below.grown hg10 HS9.out.size (fun x hx => (own_ge HO9.out x hx).1))
                obtain ⟨A', c', e', _, _, hre10⟩ := own_slice HE9.out
                cases e'
                have hbase10 : w.heap.size ≤ w10.heap.size := HB10.out.size
                have hsum : (hbs ++ X.drop 64).length + E0.length ≤ 140737488355328 := by
                  have h1 := HHL.out; have h2 := HDL.out; have h3 := HE0.out
                  rw [List.length_append, h1, h2]
                  omega
                clear KS hB10 hB9 hv9 hap9 HS8 hg10 hat10 hez hsl
                go_wp2_with (at_builtin; refine wpList_append_bytes (by rfl) (.tmp 166) (.tmp 167) _ (by rfl) w.heap.size i0 Tryz.underlying22 hi hz0 hz1 hz2 v10 (hbs ++ X.drop 64) (by rfl) hown10 w10.heap.size Ae _ ce E0 rfl (by rfl) hre10 hsum hbase10 ?_; intro v11 w11 hown11 hg11 hat11)
                go_ret2
                exact ⟨_, rfl, by rw [HFL.out]; exact hown11, HB10.out.grown hg11 hbase10 (fun x hx => (own_ge hown10 x hx).1)⟩

end Go.Proofs.YtldmjnbmjfnfeaaGreatDoor
