/-
  The document's object: whether an object may be put (Right).
-/
import Derived.Test.YtldmjnbmjfnfeaaGreatDoorSyP
import Derived.Test.YtldmjnbmjfnfeaaGreatDoorSpA
import Derived.Deep.QuietTactic
import Derived.BigQuiet
import Derived.Deep.LoopGhost
import Derived.Deep.DeepCutAuto
namespace Go.Proofs.YtldmjnbmjfnfeaaGreatDoor
open Go Go.RowKit

theorem one_zero (s : Sect) : sameAll [s] [zeroS] = sameS s zeroS := by simp [sameAll]
theorem rest_len {n : Nat} {Y : List Sym} {R : List (List Rel)} (h0 : R.length ≠ 0) (h : R.length ≠ n) : rightRest n Y R = false := by unfold rightRest; rw [decide_eq_false h0, decide_eq_false h]; rfl
theorem rest_bad {n : Nat} {Y : List Sym} {R : List (List Rel)} {k : Nat} {l : List Rel} (hl : R[k]? = some l) (h : badL Y.length l = true) : rightRest n Y R = false := by
  have hk := (List.getElem?_eq_some_iff.1 hl).1
  unfold rightRest
  rw [decide_eq_false (by omega), all_false_not _ _ _ _ hl h]
  simp
theorem rest_first {n : Nat} {Y : List Sym} {R : List (List Rel)} {l : List Rel} (hl : R[0]? = some l) (h : 0 < l.length) : rightRest n Y R = false := by
  match R, hl with
  | l' :: R', hl =>
    simp at hl
    subst hl
    unfold rightRest
    simp
    intro _ h2
    subst h2
    simp at h
theorem rest_good {n : Nat} {Y : List Sym} {R : List (List Rel)} (h0 : R.length = 0 ∨ R.length = n) (h1 : 0 < R.length → (R.headD []).length = 0) (h2 : R.any (badL Y.length) = false) : rightRest n Y R = true := by
  unfold rightRest
  rw [h2]
  rcases Nat.eq_zero_or_pos R.length with e | e
  · rw [decide_eq_true e]; rfl
  · rw [decide_eq_true (h0.resolve_left (by omega)), decide_eq_true (h1 e)]; simp

set_option maxRecDepth 10000 in
set_option maxHeartbeats 6400000 in
theorem roright_any {w : World} (o : ObjV) (h : o.Ok w w.heap.size) (hS : o.L.length ≤ 100000) (hY : o.Y.length ≤ 100000) (hQ : o.Q.length ≤ 100000) (hq : ∀ q ∈ o.Q, q.l.length ≤ 100000) (hn : ∀ x ∈ o.Y, x.name.length ≤ 100000) :
    Calls Tryz.prog 14 #[o.val] w fun r w' => r = .returned (.bool (rightO (secsOf o.L) o.Y (o.Q.map (·.l)))) ∧ Below w.heap.size w w' := by
  obtain ⟨kd, mc, aS, cS, L, aY, cY, Y, aR, cR, Q⟩ := o
  rw [show ObjV.val ⟨kd, mc, aS, cS, L, aY, cY, Y, aR, cR, Q⟩ = .agg #[.int .i64 kd, .int .i64 mc, .slice aS L.length cS, .slice aY Y.length cY, .slice aR Q.length cR] from rfl]
  obtain ⟨hs, hy, hl, hcS, hcR⟩ := h
  simp only at hs hy hl hcS hcR hS hY hQ hq hn ⊢
  have hb0 : Below w.heap.size w (w.alloc (.cells #[.int .i64 kd, .int .i64 mc, .slice aS L.length cS, .slice aY Y.length cY, .slice aR Q.length cR] 32)) := (Below.refl _ _).alloc (Nat.le_refl _) _
  have hX0 := Box.new w 32 #[.int .i64 kd, .int .i64 mc, .slice aS L.length cS, .slice aY Y.length cY, .slice aR Q.length cR]
  have hsl : (secsOf L).length = L.length := by simp
  have HE := Lib.hid (show rightO (secsOf L) Y (Q.map (·.l)) = (decide (0 < (secsOf L).length) && (((secsOf L)[0]?).any (fun s => sameS s zeroS) && (!(anyMade (secsOf L)) && (rightY Y && (placedY Y (secsOf L).length && rightRest (secsOf L).length Y (Q.map (·.l))))))) from rfl)
  rw [hsl] at HE
  by_cases h0 : L.length = 0
  · have HF := Lib.hid (show rightO (secsOf L) Y (Q.map (·.l)) = false by rw [HE.out, h0]; rfl)
    have hd : ((L.length : Int) == 0) = true := by simp [h0]
    have HB0 := Lib.hid hb0
    clear HE hs hy hl hsl hX0 hb0 h0
    generalize rightO (secsOf L) Y (Q.map (·.l)) = res at *
    generalize L.length = n at *
    generalize Y.length = ny at *
    generalize Q.length = nr at *
    go_enter Tryz.func14, Tryz.ntmps14
    go_wp2_with fail
    go_ret
    exact ⟨by rw [HF.out]; rfl, HB0.out⟩
  · obtain ⟨x, hx⟩ : ∃ x, L[0]? = some x := ⟨L[0]'(by omega), List.getElem?_eq_getElem _⟩
    have hd : ((L.length : Int) == 0) = false := beq_eq_false_iff_ne.2 (by omega)
    have hpos : 0 < L.length := by omega
    rw [decide_eq_true hpos, Bool.true_and, get_secsOf hx, Option.any_some] at HE
    -- the two first sections
    have hb1 : Below w.heap.size w ((w.alloc (.cells #[.int .i64 kd, .int .i64 mc, .slice aS L.length cS, .slice aY Y.length cY, .slice aR Q.length cR] 32)).alloc (.cells (cellsL oneZ).toArray 39)) := hb0.alloc (by simp) _
    have hb01 : Below (w.alloc (.cells #[.int .i64 kd, .int .i64 mc, .slice aS L.length cS, .slice aY Y.length cY, .slice aR Q.length cR] 32)).heap.size (w.alloc (.cells #[.int .i64 kd, .int .i64 mc, .slice aS L.length cS, .slice aY Y.length cY, .slice aR Q.length cR] 32)) ((w.alloc (.cells #[.int .i64 kd, .int .i64 mc, .slice aS L.length cS, .slice aY Y.length cY, .slice aR Q.length cR] 32)).alloc (.cells (cellsL oneZ).toArray 39)) := (Below.refl _ _).alloc (Nat.le_refl _) _
    have hX1 := hX0.below hb01 (by simp)
    have hz := (oneZ_secs (w.alloc (.cells #[.int .i64 kd, .int .i64 mc, .slice aS L.length cS, .slice aY Y.length cY, .slice aR Q.length cR] 32))).more (B' := ((w.alloc (.cells #[.int .i64 kd, .int .i64 mc, .slice aS L.length cS, .slice aY Y.length cY, .slice aR Q.length cR] 32)).alloc (.cells (cellsL oneZ).toArray 39)).heap.size) (by simp)
    have hsm := rsame_any (((hs.below hb1).more hb1.size).take 1) hz (Nat.le_refl _) cS 1 (by simp; omega)
    have ht1 : L.take 1 = [x] := by
      match L, hx with
      | x' :: L', h => simp at h ⊢; exact h
    rw [ht1, show secsOf [x] = [x.s] from rfl, show secsOf oneZ = [zeroS] from rfl, one_zero, show ([x] : List Lay).length = 1 from rfl, show oneZ.length = 1 from rfl, show (w.alloc (.cells #[.int .i64 kd, .int .i64 mc, .slice aS L.length cS, .slice aY Y.length cY, .slice aR Q.length cR] 32)).heap.size = w.heap.size + 1 by simp] at hsm
    have hlit : (cellsL oneZ).toArray = #[.string ⟨#[]⟩, .int .i64 0, .int .u64 0, .int .u64 0, .slice none 0 0, .int .i64 0, .int .i64 0, .int .i64 0, .int .i64 0] := rfl
    rw [hlit] at hsm hb1 hX1
    have hX1' : Box ((w.alloc (.cells #[.int .i64 kd, .int .i64 mc, .slice aS L.length cS, .slice aY Y.length cY, .slice aR Q.length cR] 32)).alloc (.cells #[.string ⟨#[]⟩, .int .i64 0, .int .u64 0, .int .u64 0, .slice none 0 0, .int .i64 0, .int .i64 0, .int .i64 0, .int .i64 0] 39)) w.heap.size 32 #[.int .i64 kd, .int .i64 mc, .slice aS L.length cS, .slice aY Y.length cY, .slice aR Q.length cR] := hX1
    obtain ⟨b, oo, rfl, hb, -⟩ := hs.at_ hx
    have HSM := Lib.hid hsm
    have HB1 := Lib.hid hb1
    have KX := Lib.hid (fun W (hW : Below ((w.alloc (.cells #[.int .i64 kd, .int .i64 mc, .slice (some ⟨b, oo, none⟩) L.length cS, .slice aY Y.length cY, .slice aR Q.length cR] 32)).alloc (.cells #[.string ⟨#[]⟩, .int .i64 0, .int .u64 0, .int .u64 0, .slice none 0 0, .int .i64 0, .int .i64 0, .int .i64 0, .int .i64 0] 39)).heap.size ((w.alloc (.cells #[.int .i64 kd, .int .i64 mc, .slice (some ⟨b, oo, none⟩) L.length cS, .slice aY Y.length cY, .slice aR Q.length cR] 32)).alloc (.cells #[.string ⟨#[]⟩, .int .i64 0, .int .u64 0, .int .u64 0, .slice none 0 0, .int .i64 0, .int .i64 0, .int .i64 0, .int .i64 0] 39)) W) =>
      (⟨hb1.trans (hW.mono hb1.size), five_cells (hX1'.below hW (by simp; omega))⟩ : Below w.heap.size w W ∧ _))
    have hne := HB1
    have HS := Lib.hid hs
    have HY := Lib.hid hy
    have HL := Lib.hid hl
    have HQL := Lib.hid hq
    have HRY := Lib.hid (fun W (hW : Below w.heap.size w W) => ryright_any (Row.more (Row.below hy hW) hW.size) cY hY hn)
    clear hX1 hX1' hz hsm ht1 hlit hsl hx hs hy hl hne hb0 hb1 hb01 hX0 hq hn
    have hc1 : 1 ≤ cS := by omega
    have hc1' : (1 : Int) ≤ (cS : Int) := by omega
    obtain ⟨res, hres⟩ : ∃ r, rightO (secsOf L) Y (Q.map (·.l)) = r := ⟨_, rfl⟩
    rw [hres] at HE ⊢
    obtain ⟨n, hnL⟩ : ∃ n, L.length = n := ⟨_, rfl⟩
    obtain ⟨ny, hnY⟩ : ∃ n, Y.length = n := ⟨_, rfl⟩
    obtain ⟨nr, hnQ⟩ : ∃ n, Q.length = n := ⟨_, rfl⟩
    have HNL := Lib.hid hnL
    have HNY := Lib.hid hnY
    have HNQ := Lib.hid hnQ
    rw [hnL] at HE hd hpos hS HSM HB1 KX hcS ⊢
    rw [hnY] at HSM HB1 KX hY HRY ⊢
    rw [hnQ] at HSM HB1 KX hQ hcR ⊢
    obtain ⟨b1, hb1e⟩ : ∃ q, sameS x.s zeroS = q := ⟨_, rfl⟩
    rw [hb1e] at HE HSM
    clear hres hnL hnY hnQ hb1e h0
    go_enter Tryz.func14, Tryz.ntmps14
    cases b1 with
    | false =>
      have HF := Lib.hid (show res = false by rw [HE.out]; rfl)
      clear HE
      go_wp2_with (go_at_call 27; refine HSM.out.mono ?_; rintro r w2 ⟨rfl, hb2⟩; have HW2 := Lib.hid (HB1.out.trans (hb2.mono HB1.out.size)); clear hb2)
      go_ret
      exact ⟨by rw [HF.out]; rfl, HW2.out⟩
    | true =>
      rw [Bool.true_and] at HE
      by_cases hnr0 : nr ≠ 0 ∧ nr ≠ n
      · have e0 : decide (0 < nr) = true := decide_eq_true (by omega)
        have e1 : ((nr : Int) != (n : Int)) = true := bne_iff_ne.2 (by omega)
        have HF := Lib.hid (show res = false by rw [HE.out, rest_len (by simp; have := HNQ.out; intro h; rw [h] at this; simp at this; omega) (by simp; rw [HNQ.out]; exact hnr0.2)]; simp)
        clear HE hnr0
        go_wp2_with (go_at_call 27; refine HSM.out.mono ?_; rintro r w2 ⟨rfl, hb2⟩; (obtain ⟨hW2, x0, x1, x2, x3, x4⟩ := KX.out _ hb2); have HW2 := Lib.hid hW2; clear hb2 hW2)
        go_ret
        exact ⟨by rw [HF.out]; rfl, HW2.out⟩
      · have HR3 := Lib.hid hnr0
        have ee : (decide (0 < nr) = false ∧ nr = 0) ∨ (decide (0 < nr) = true ∧ ((nr : Int) != (n : Int)) = false ∧ nr = n ∧ 0 < nr) := by
          rcases Nat.eq_zero_or_pos nr with e | e
          · exact .inl ⟨decide_eq_false (by omega), e⟩
          · have : nr = n := by omega
            exact .inr ⟨decide_eq_true (by omega), by simp [this], this, e⟩
        clear hnr0
        go_upto_region 2 with fail
        go_cut [42] (fun s wx => s = .bool (!(rightY Y)) ∧ Below w.heap.size w wx ∧ wx.cell? ⟨w.heap.size, 0, none⟩ = some (.int .i64 kd) ∧ wx.cell? ⟨w.heap.size, 2, none⟩ = some (.slice (some ⟨b, oo, none⟩) n cS) ∧ wx.cell? ⟨w.heap.size, 3, none⟩ = some (.slice aY ny cY) ∧ wx.cell? ⟨w.heap.size, 4, none⟩ = some (.slice aR nr cR) ∧ w.heap.size < wx.heap.size)
        case first =>
          rcases ee with ⟨e0, e00⟩ | ⟨e0, e1, e2, e3⟩
          all_goals
            (first | subst e00 | subst e2)
            go_wp2_with (first
              | (go_at_call 27; refine HSM.out.mono ?_; rintro r w2 ⟨rfl, hb2⟩; (obtain ⟨hW2, x0, x1, x2, x3, x4⟩ := KX.out _ hb2); have HW2 := Lib.hid hW2; have HY2 := Lib.hid (HRY.out _ hW2); have HB2 := Lib.hid hb2; clear hb2 hW2)
              | (go_at_call 45; refine HY2.out.mono ?_; rintro r w3 ⟨rfl, hb3⟩; (obtain ⟨hW3, x0, x1, x2, x3, x4⟩ := KX.out _ (HB2.out.trans (hb3.mono HB2.out.size))); have HW3 := Lib.hid hW3; have HX3 := Lib.hid (And.intro x0 (And.intro x2 (And.intro x3 x4))); clear hb3 hW3))
            go_meet
            case rel => exact ⟨rfl, HW3.out, HX3.out.1, HX3.out.2.1, HX3.out.2.2.1, HX3.out.2.2.2, by have := World.block_lt_of_cell? _ _ HX3.out.1; simpa using this⟩
        case rest =>
          obtain ⟨rfl, hW, y0, y2, y3, y4, hlt⟩ := hcut
          have HKC := Lib.hid (fun W (hWc : Below wc.heap.size wc W) => (⟨hW.trans (hWc.mono hW.size), by rw [hWc.cell (p := ⟨w.heap.size, 2, none⟩) hlt]; exact y2, by rw [hWc.cell (p := ⟨w.heap.size, 3, none⟩) hlt]; exact y3, by rw [hWc.cell (p := ⟨w.heap.size, 4, none⟩) hlt]; exact y4⟩ :
            Below w.heap.size w W ∧ W.cell? ⟨w.heap.size, 2, none⟩ = some (.slice (some ⟨b, oo, none⟩) n cS) ∧ W.cell? ⟨w.heap.size, 3, none⟩ = some (.slice aY ny cY) ∧ W.cell? ⟨w.heap.size, 4, none⟩ = some (.slice aR nr cR)))
          have HWC := Lib.hid hW
          clear HSM HB1 KX HRY ee hW y0 y2 y3 y4
          cases hb3 : rightY Y with
          | false =>
            have HF := Lib.hid (show res = false by rw [HE.out, hb3]; simp)
            clear hb3
            go_wp2_with fail
            go_ret
            exact ⟨by rw [HF.out]; rfl, HWC.out⟩
          | true =>
            rw [hb3, Bool.true_and] at HE
            clear hb3
            go_wp2_with fail
            go_loopg [4] n (fun gk i wx => ∃ k : Nat, k ≤ n ∧ gk = n - k ∧ i = .int .i64 k ∧ Below wc.heap.size wc wx ∧ Hid (((secsOf L).take k).any madeS = false))
            case atStart => exact ⟨0, Nat.zero_le _, rfl, rfl, Below.refl _ _, Lib.hid rfl⟩
            case round =>
              obtain ⟨k, hk, rfl, rfl, hB, HMK⟩ := hrel
              have HB := Lib.hid hB
              obtain ⟨hWr, y2, y3, y4⟩ := HKC.out _ hB
              by_cases hlt : k < n
              · obtain ⟨x, hx⟩ : ∃ x, L[k]? = some x := ⟨L[k]'(by rw [HNL.out]; exact hlt), List.getElem?_eq_getElem _⟩
                obtain ⟨b', o', e', _, d0, d1, d2, d3, d4, d5, d6, d7, d8⟩ := (HS.out.below hWr).at_ hx
                cases e'
                have hgs := get_secsOf hx
                have HLT := Lib.hid hlt
                have hq1 := str_eq x.s.name symtabN
                have hq2 := str_eq x.s.name strtabN
                have hq3 := str_eq x.s.name shstrN
                rw [show (ByteArray.mk symtabN.toArray).toList = [46, 115, 121, 109, 116, 97, 98] by rw [Lib.toList_data]; rfl] at hq1
                rw [show (ByteArray.mk strtabN.toArray).toList = [46, 115, 116, 114, 116, 97, 98] by rw [Lib.toList_data]; rfl] at hq2
                rw [show (ByteArray.mk shstrN.toArray).toList = [46, 115, 104, 115, 116, 114, 116, 97, 98] by rw [Lib.toList_data]; rfl] at hq3
                have HMD := Lib.hid (show madeS x.s = (decide (x.s.kind = 2) || (decide (x.s.kind = 4) || (decide (x.s.kind = 9) || (decide (x.s.name = symtabN) || (decide (x.s.name = strtabN) || decide (x.s.name = shstrN)))))) from rfl)
                have HT1 := Lib.hid (fun (h : madeS x.s = true) => (show res = false by rw [HE.out, show anyMade (secsOf L) = true from all_false_not _ _ _ _ hgs h]; rfl))
                have HT2 := Lib.hid (fun (h : madeS x.s = false) => any_take _ _ _ _ hgs HMK.out h)
                have e2 := int_eq_beq x.s.kind 2
                have e4 := int_eq_beq x.s.kind 4
                have e9 := int_eq_beq x.s.kind 9
                generalize madeS x.s = ms at *
                generalize decide (x.s.kind = 2) = b2 at *
                generalize decide (x.s.kind = 4) = b4 at *
                generalize decide (x.s.kind = 9) = b9 at *
                generalize decide (x.s.name = symtabN) = c1 at *
                generalize decide (x.s.name = strtabN) = c2 at *
                generalize decide (x.s.name = shstrN) = c3 at *
                clear hx hgs hB hWr
                generalize x.A = dA at *
                generalize x.s.data.length = dn at *
                generalize x.c = dc at *
                generalize ByteArray.mk x.s.name.toArray = sb at *
                generalize x.s.kind = i1 at *
                cases b2
                · cases b4
                  · cases b9
                    · have HF3 := Lib.hid (show ms = (c1 || (c2 || c3)) by rw [HMD.out]; rfl)
                      clear HMD
                      cases c3
                      · cases c1
                        · cases c2
                          · have HN1 := Lib.hid (HT2.out (by rw [HF3.out]; rfl))
                            clear HT1 HT2 HF3
                            go_wp2_with fail
                            go_roundg (n - (k + 1))
                            case measure => have := HLT.out; omega
                            case rel => exact ⟨k + 1, HLT.out, rfl, by go_num, below_alloc_any HB.out _, HN1⟩
                          · have HF := Lib.hid (HT1.out (by rw [HF3.out]; rfl))
                            clear HT1 HT2 HF3
                            go_wp2_with fail
                            go_ret
                            exact ⟨by rw [HF.out]; rfl, (HKC.out _ (below_alloc_any HB.out _)).1⟩
                        · have HF := Lib.hid (HT1.out (by rw [HF3.out]; rfl))
                          clear HT1 HT2 HF3 hq2
                          go_wp2_with fail
                          go_ret
                          exact ⟨by rw [HF.out]; rfl, (HKC.out _ (below_alloc_any HB.out _)).1⟩
                      · have HF := Lib.hid (HT1.out (by rw [HF3.out]; simp))
                        clear HT1 HT2 HF3 hq1 hq2
                        go_wp2_with fail
                        go_ret
                        exact ⟨by rw [HF.out]; rfl, (HKC.out _ (below_alloc_any HB.out _)).1⟩
                    · have HF := Lib.hid (HT1.out (by rw [HMD.out]; rfl))
                      clear HT1 HT2 HMD hq1 hq2 hq3
                      go_wp2_with fail
                      go_ret
                      exact ⟨by rw [HF.out]; rfl, (HKC.out _ (below_alloc_any HB.out _)).1⟩
                  · have HF := Lib.hid (HT1.out (by rw [HMD.out]; rfl))
                    clear HT1 HT2 HMD hq1 hq2 hq3 e9
                    go_wp2_with fail
                    go_ret
                    exact ⟨by rw [HF.out]; rfl, (HKC.out _ (below_alloc_any HB.out _)).1⟩
                · have HF := Lib.hid (HT1.out (by rw [HMD.out]; rfl))
                  clear HT1 HT2 HMD hq1 hq2 hq3 e9 e4
                  go_wp2_with fail
                  go_ret
                  exact ⟨by rw [HF.out]; rfl, (HKC.out _ (below_alloc_any HB.out _)).1⟩
              · have HM2 := Lib.hid (show anyMade (secsOf L) = false by
                  have := HMK.out
                  rwa [List.take_of_length_le (by simp; rw [HNL.out]; omega)] at this)
                rw [HM2.out] at HE
                clear hB hWr
                generalize wr = wd at *
                go_wp2_with fail
                go_loopg [6] ny (fun gk i wx => ∃ k : Nat, k ≤ ny ∧ gk = ny - k ∧ i = .int .i64 k ∧ wd = wx ∧ Hid ((Y.take k).any (farY n) = false))
                case atStart => exact ⟨0, Nat.zero_le _, rfl, rfl, rfl, Lib.hid rfl⟩
                case round =>
                  obtain ⟨k, hk, rfl, rfl, rfl, HAN⟩ := hrel
                  by_cases hlt : k < ny
                  · obtain ⟨s, hs⟩ : ∃ s, Y[k]? = some s := ⟨Y[k]'(by rw [HNY.out]; exact hlt), List.getElem?_eq_getElem _⟩
                    obtain ⟨b2, o2, e2, hb2, -, -, -, n3, -, -⟩ := sym_at (Row.below HY.out (HKC.out _ HB.out).1) hs
                    subst e2
                    have HFY := Lib.hid (show farY n s = (decide ((n : Int) ≤ s.sect) && decide (s.sect < 65521)) from rfl)
                    have HT1 := Lib.hid (fun (h : farY n s = true) => (show res = false by rw [HE.out, show placedY Y n = false by unfold placedY; rw [all_false_not _ _ _ _ hs h]; rfl]; rfl))
                    have HT2 := Lib.hid (fun (h : farY n s = false) => any_take _ _ _ _ hs HAN.out h)
                    have HLT := Lib.hid hlt
                    clear hs
                    generalize farY n s = fy at *
                    generalize s.sect = ss at *
                    by_cases d1 : (n : Int) ≤ ss
                    · have dd1 : decide ((n : Int) ≤ ss) = true := decide_eq_true d1
                      by_cases d2 : ss < 65521
                      · have dd2 : decide (ss < 65521) = true := decide_eq_true d2
                        have HF := Lib.hid (HT1.out (by rw [HFY.out, dd1, dd2]; rfl))
                        clear d1 d2 HT1 HT2
                        go_wp2_with fail
                        go_ret
                        exact ⟨by rw [HF.out]; rfl, (HKC.out _ HB.out).1⟩
                      · have dd2 : decide (ss < 65521) = false := decide_eq_false d2
                        have HAN1 := Lib.hid (HT2.out (by rw [HFY.out, dd2, Bool.and_false]))
                        clear d1 d2 HT1 HT2
                        go_wp2_with fail
                        go_roundg (ny - (k + 1))
                        case measure => have := HLT.out; omega
                        case rel => exact ⟨k + 1, HLT.out, rfl, by go_num, rfl, HAN1⟩
                    · have dd1 : decide ((n : Int) ≤ ss) = false := decide_eq_false d1
                      have HAN1 := Lib.hid (HT2.out (by rw [HFY.out, dd1, Bool.false_and]))
                      clear d1 HT1 HT2
                      go_wp2_with fail
                      go_roundg (ny - (k + 1))
                      case measure => have := HLT.out; omega
                      case rel => exact ⟨k + 1, HLT.out, rfl, by go_num, rfl, HAN1⟩
                  · have HP2 := Lib.hid (show placedY Y n = true by
                      unfold placedY
                      have h1 := HAN.out
                      rw [List.take_of_length_le (by rw [HNY.out]; omega)] at h1
                      rw [h1]; rfl)
                    rw [HP2.out, Bool.true_and] at HE
                    have HE2 := Lib.hid (show res = rightRest n Y (Q.map (·.l)) by rw [HE.out]; rfl)
                    clear HE
                    go_wp2_with fail
                    go_loopg [7] nr (fun gk i wx => ∃ k : Nat, k ≤ nr ∧ gk = nr - k ∧ i = .int .i64 k ∧ Below wc.heap.size wc wx ∧ Hid (((Q.map (·.l)).take k).any (badL ny) = false) ∧ Hid (0 < k → ((Q.map (·.l)).headD []).length = 0))
                    case atStart => exact ⟨0, Nat.zero_le _, rfl, rfl, HB.out, Lib.hid rfl, Lib.hid (fun h => absurd h (by omega))⟩
                    case round =>
                      obtain ⟨k, hk, rfl, rfl, hB2, HBL, HHD⟩ := hrel
                      have HB := Lib.hid hB2
                      clear y2 y3 y4
                      obtain ⟨hWr, y2, y3, y4⟩ := HKC.out _ hB2
                      by_cases hlt : k < nr
                      · obtain ⟨q, hx⟩ : ∃ q, Q[k]? = some q := ⟨Q[k]'(by rw [HNQ.out]; exact hlt), List.getElem?_eq_getElem _⟩
                        have hLw := HL.out.below hWr
                        obtain ⟨b2, o2, e2, hb2, c0⟩ := hLw.at_ hx
                        subst e2
                        have HQR0 := Lib.hid (hLw.rels q (List.mem_of_getElem? hx))
                        have hm : (Q.map (·.l))[k]? = some q.l := by rw [List.getElem?_map, hx]; rfl
                        have HBAD := Lib.hid (fun (h : badL ny q.l = true) => (show res = false by rw [HE2.out, rest_bad hm (by rw [HNY.out]; exact h)]))
                        have HGOOD := Lib.hid (fun (h : badL ny q.l = false) => any_take _ _ _ _ hm HBL.out h)
                        have HFST := Lib.hid (fun (h0 : k = 0) (h : 0 < q.l.length) => (show res = false by rw [HE2.out, rest_first (by rw [← h0]; exact hm) h]))
                        have HHN := Lib.hid (fun (h0 : k = 0) => (show (Q.map (·.l)).headD [] = q.l by
                          subst h0
                          match Q, hx with
                          | q' :: _, h => simp at h ⊢; rw [h]))
                        obtain ⟨ql, hql⟩ : ∃ ql, q.l.length = ql := ⟨_, rfl⟩
                        have HQN := Lib.hid hql
                        have hqb : ql ≤ 100000 := by rw [← hql]; exact HQL.out q (List.mem_of_getElem? hx)
                        rw [hql] at c0 HFST
                        have hi1 : (0 : Int) ≤ (k : Int) := by omega
                        clear hx hm hLw hB2 hWr hql
                        by_cases g4 : 400 < ql
                        · have gg4 : decide ((400 : Int) < (ql : Int)) = true := decide_eq_true (by omega)
                          have HF := Lib.hid (HBAD.out (by unfold badL; rw [HQN.out, decide_eq_true g4]; rfl))
                          clear HBAD HGOOD HFST HHN g4
                          go_wp2_with fail
                          go_ret
                          exact ⟨by rw [HF.out]; rfl, (HKC.out _ HB.out).1⟩
                        · have gg4 : decide ((400 : Int) < (ql : Int)) = false := decide_eq_false (by omega)
                          by_cases hk0 : k = 0 ∧ 0 < ql
                          · have f1 : (((k : Nat) : Int) == 0) = true := by simp [hk0.1]
                            have f2 : decide (0 < ql) = true := decide_eq_true hk0.2
                            have HF := Lib.hid (HFST.out hk0.1 hk0.2)
                            clear HBAD HGOOD HFST HHN hk0
                            go_wp2_with fail
                            go_ret
                            exact ⟨by rw [HF.out]; rfl, (HKC.out _ HB.out).1⟩
                          · have HH1 := Lib.hid (show 0 < k + 1 → ((Q.map (·.l)).headD []).length = 0 from fun _ => by
                              rcases Nat.eq_zero_or_pos k with e | e
                              · rw [HHN.out e, HQN.out]; omega
                              · exact HHD.out e)
                            have ff : ((((k : Nat) : Int) == 0) = true ∧ decide (0 < ql) = false) ∨ (((k : Nat) : Int) == 0) = false := by
                              rcases Nat.eq_zero_or_pos k with e | e
                              · exact .inl ⟨by simp [e], decide_eq_false (by omega)⟩
                              · exact .inr (beq_eq_false_iff_ne.2 (by omega))
                            clear hk0 HFST HHN
                            generalize wr = we at *
                            go_upto_region 19 with fail
                            go_cut [128] (fun s wx => s = .bool false ∧ we = wx)
                            case first =>
                              rcases ff with ⟨f1, f2⟩ | f1
                              all_goals
                                go_wp2_with fail
                                go_meet
                              all_goals exact ⟨rfl, rfl⟩
                            case rest =>
                              obtain ⟨rfl, rfl⟩ := hcut
                              clear ff
                              have HQR := Lib.hid (show ∀ z, Rels (we.drewN z) w.heap.size q.a q.l from fun z => Row.drewN HQR0.out z)
                              generalize q.a = qa at *
                              generalize q.c = qc at *
                              clear HQR
                              go_wp2_with fail
                              go_loopg [9] ql (fun gk i wx => ∃ j z : Nat, j ≤ ql ∧ gk = ql - j ∧ i = .int .i64 j ∧ wx = we.drewN z ∧ Hid ((q.l.take j).any (badF ny) = false))
                              case atStart => exact ⟨0, 0, Nat.zero_le _, rfl, rfl, rfl, Lib.hid rfl⟩
                              case round =>
                                obtain ⟨j, z, hj, rfl, rfl, rfl, HBF⟩ := hrel
                                by_cases hjl : j < ql
                                · obtain ⟨r, hr⟩ : ∃ r, q.l[j]? = some r := ⟨q.l[j]'(by rw [HQN.out]; exact hjl), List.getElem?_eq_getElem _⟩
                                  obtain ⟨b3, o3, e3, hb3', -, n1, n2, -⟩ := rel_at HQR0.out hr
                                  subst e3
                                  have HT1 := Lib.hid (fun (h : badF ny r = true) => HBAD.out (show badL ny q.l = true by
                                    have hf : fitR q.l ny = false := by unfold fitR; rw [all_false_not _ _ _ _ hr h]; rfl
                                    unfold badL; rw [hf]; simp))
                                  have HT2 := Lib.hid (fun (h : badF ny r = false) => any_take _ _ _ _ hr HBF.out h)
                                  have HBFE := Lib.hid (show badF ny r = (decide (r.sym < 0) || (decide ((ny : Int) ≤ r.sym) || (decide (r.kind < 0) || decide (2147483647 < r.kind)))) from rfl)
                                  have hi1 : (0 : Int) ≤ (j : Int) := by omega
                                  have hi2 : (j : Int) < (ql : Int) := by omega
                                  have HJL := Lib.hid hjl
                                  clear hr
                                  generalize badF ny r = bf at *
                                  generalize r.sym = rs at *
                                  generalize r.kind = rk at *
                                  by_cases d1 : rs < 0
                                  · have dd1 : decide (rs < 0) = true := decide_eq_true d1
                                    have HF := Lib.hid (HT1.out (by rw [HBFE.out, dd1]; rfl))
                                    clear HT1 HT2 HBFE d1
                                    go_wp2_with fail
                                    go_quiet (fail)
                                    go_wp2_with fail
                                    go_ret
                                    exact ⟨by rw [HF.out]; rfl, (HKC.out _ (below_drewN (below_drewN HB.out _) _)).1⟩
                                  · have dd1 : decide (rs < 0) = false := decide_eq_false d1
                                    by_cases d2 : (ny : Int) ≤ rs
                                    · have dd2 : decide ((ny : Int) ≤ rs) = true := decide_eq_true d2
                                      have HF := Lib.hid (HT1.out (by rw [HBFE.out, dd1, dd2]; rfl))
                                      clear HT1 HT2 HBFE d1 d2
                                      go_wp2_with fail
                                      go_quiet (fail)
                                      go_wp2_with fail
                                      go_ret
                                      exact ⟨by rw [HF.out]; rfl, (HKC.out _ (below_drewN (below_drewN HB.out _) _)).1⟩
                                    · have dd2 : decide ((ny : Int) ≤ rs) = false := decide_eq_false d2
                                      by_cases d3 : rk < 0
                                      · have dd3 : decide (rk < 0) = true := decide_eq_true d3
                                        have HF := Lib.hid (HT1.out (by rw [HBFE.out, dd1, dd2, dd3]; rfl))
                                        clear HT1 HT2 HBFE d1 d2 d3
                                        go_wp2_with fail
                                        go_quiet (fail)
                                        go_wp2_with fail
                                        go_ret
                                        exact ⟨by rw [HF.out]; rfl, (HKC.out _ (below_drewN (below_drewN HB.out _) _)).1⟩
                                      · have dd3 : decide (rk < 0) = false := decide_eq_false d3
                                        by_cases d4 : 2147483647 < rk
                                        · have dd4 : decide (2147483647 < rk) = true := decide_eq_true d4
                                          have HF := Lib.hid (HT1.out (by rw [HBFE.out, dd1, dd2, dd3, dd4]; rfl))
                                          clear HT1 HT2 HBFE d1 d2 d3 d4
                                          go_wp2_with fail
                                          go_quiet (fail)
                                          go_wp2_with fail
                                          go_ret
                                          exact ⟨by rw [HF.out]; rfl, (HKC.out _ (below_drewN (below_drewN HB.out _) _)).1⟩
                                        · have dd4 : decide (2147483647 < rk) = false := decide_eq_false d4
                                          have HBF1 := Lib.hid (HT2.out (by rw [HBFE.out, dd1, dd2, dd3, dd4]; rfl))
                                          clear HT1 HT2 HBFE d1 d2 d3 d4
                                          go_wp2_with fail
                                          go_quiet (fail)
                                          go_wp2_with fail
                                          go_roundg (ql - (j + 1))
                                          case measure => have := HJL.out; omega
                                          case rel => exact ⟨j + 1, _, HJL.out, rfl, by go_num, by first | rfl | (simp; rfl), HBF1⟩
                                · have HG := Lib.hid (HGOOD.out (show badL ny q.l = false by
                                    have h1 := HBF.out
                                    rw [List.take_of_length_le (by rw [HQN.out]; omega)] at h1
                                    unfold badL fitR
                                    rw [h1, HQN.out, decide_eq_false (show ¬ 400 < ql by omega)]
                                    rfl))
                                  have HBz := Lib.hid (below_drewN HB.out z)
                                  have HLT := Lib.hid hlt
                                  clear HBAD HGOOD
                                  go_wp2_with fail
                                  go_roundg (nr - (k + 1))
                                  case measure => have := HLT.out; omega
                                  case rel => exact ⟨k + 1, HLT.out, rfl, by go_num, HBz.out, HG, HH1⟩
                      · have HF := Lib.hid (show res = true by
                          have h1 := HBL.out
                          rw [List.take_of_length_le (by simp; rw [HNQ.out]; omega)] at h1
                          rw [HE2.out]
                          refine rest_good ?_ (fun h => HHD.out (by rw [List.length_map, HNQ.out] at h; omega)) (by rw [HNY.out]; exact h1)
                          rw [List.length_map, HNQ.out]
                          have := HR3.out
                          omega)
                        clear hB2 hWr
                        go_wp2_with fail
                        go_ret
                        exact ⟨by rw [HF.out]; rfl, (HKC.out _ HB.out).1⟩

end Go.Proofs.YtldmjnbmjfnfeaaGreatDoor
