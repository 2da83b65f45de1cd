/-
  Package object: sections of memory, and of debugging.
-/
import Derived.Test.YtldmjnbmjfnfeaaGreatDoorObR
import Derived.Test.YtldmjnbmjfnfeaaGreatDoorSyDa
namespace Go.Proofs.YtldmjnbmjfnfeaaGreatDoor
open Go Go.RowKit

/-- What Take tells. -/
def OTake (l : List UInt8) (w : World) (r : Ending) (w' : World) : Prop :=
  ∃ o : ObjV, r = .returned (.tuple #[o.val, .int .i64 (objE l)]) ∧ o.Ok w' w'.heap.size ∧ Below w.heap.size w w' ∧
    (objE l = 0 → o.kind = kindT l ∧ o.machine = machT l ∧ secsOf o.L = secL l ∧ o.Y = symY (secL l) ∧ o.Q.map (·.l) = relaK (secL l) (secL l).length) ∧ (objE l ≠ 0 → o = noneO)
theorem otake_bad {l : List UInt8} {w w' : World} {e : Int} (h : objE l = e) (he : e ≠ 0) (hB : Below w.heap.size w w') : OTake l w (.returned (.tuple #[.agg #[.int .i64 0, .int .i64 0, .slice none 0 0, .slice none 0 0, .slice none 0 0], .int .i64 e])) w' :=
  ⟨noneO, by rw [h]; rfl, noneO_ok _ _, hB, fun h0 => absurd (h.symm.trans h0) he, fun _ => rfl⟩
theorem objE_bad {l : List UInt8} (h : secE l ≠ 0) : objE l = secE l := if_pos h
theorem objE_in {l : List UInt8} (h : secE l = 0) : objE l = objS (secL l) := if_neg (by simp [h])
theorem objS_two {S : List Sect} (h : placeS S = -2) : objS S = 23 := if_pos h
theorem objS_sym {S : List Sect} (h : placeS S ≠ -2) (h2 : symX S ≠ 0) : objS S = symX S := by unfold objS; rw [if_neg h, if_pos h2]
theorem objS_rel {S : List Sect} (h : placeS S ≠ -2) (h2 : symX S = 0) : objS S = relUp S (placeS S) (symY S).length S.length := by unfold objS; rw [if_neg h, if_neg (by simp [h2])]

/-! ### Rows of the call's own behind stores into an object -/
section
variable {w w' : World} {base b' : Nat} {A : Option Addr} {c : Nat}
theorem told_lie {L : List Lay} (h : OwnL w base (.slice A L.length c) L) (hd : ∀ x ∈ L, Own w base x.dv x.s.data) (hf : ∀ x ∈ L, x.s.Fits) (ho : Only b' (CellsOf 28) w w') : Secs w' w'.heap.size A L := by
  have h1 : OwnL w' base (.slice A L.length c) L := row_only h ho (fun cs f hh => absurd (show 39 = 28 from hh) (by decide))
  obtain ⟨A', c', e, _, _, hS⟩ := ownl_secs h1 (fun x hx => by
    have h2 : Own w' base x.dv x.s.data := row_only (hd x hx) ho (fun cs f hh => absurd (show 5 = 28 from hh) (by decide))
    obtain ⟨A', c', e, hle, hcm, hrd⟩ := own_slice h2
    unfold Lay.dv at e
    injection e with e1 e2 e3
    exact ⟨by rw [e1]; exact hrd, by rw [e3]; exact hle, by rw [e3]; exact hcm, hf x hx⟩)
  injection e with e1 e2 e3
  rw [e1]
  exact hS
theorem syms_lie {Y : List Sym} (h : OwnY w base (.slice A Y.length c) Y) (ho : Only b' (CellsOf 28) w w') : Syms w' w'.heap.size A Y := by
  have h1 : OwnY w' base (.slice A Y.length c) Y := row_only h ho (fun cs f hh => absurd (show 51 = 28 from hh) (by decide))
  obtain ⟨A', c', e, _, _, hS⟩ := own_row sym_six h1
  injection e with e1 e2 e3
  rw [e1]
  exact hS
theorem lists_lie {Q : List RLay} (h : w.ownsRow base 49 1 (.slice A Q.length c) Q.length (Q.map RLay.val)) (hq : ∀ q ∈ Q, OwnR w base q.val q.l) (ho : Only b' (CellsOf 28) w w') : Lists w' w'.heap.size A Q := by
  have h1 : w'.ownsRow base 49 1 (.slice A Q.length c) Q.length (Q.map RLay.val) := row_only h ho (fun cs f hh => absurd (show 49 = 28 from hh) (by decide))
  rw [← rlay_map] at h1
  obtain ⟨A', c', e, _, _, hS⟩ := own_row rlay_one h1
  injection e with e1 e2 e3
  rw [e1]
  refine ⟨hS, fun q hm => ?_⟩
  have h2 : OwnR w' base q.val q.l := row_only (hq q hm) ho (fun cs f hh => absurd (show 53 = 28 from hh) (by decide))
  obtain ⟨A', c', e', _, _, hr'⟩ := own_row rel_four h2
  unfold RLay.val at e'
  injection e' with e1 e2 e3
  rw [e1]
  exact hr'
end
theorem rlay_form {w : World} {base : Nat} {v : Value} {Q : List RLay} (h : w.ownsRow base 49 1 v Q.length (Q.map RLay.val)) : ∃ A c, v = .slice A Q.length c ∧ Q.length ≤ c := by
  rw [← rlay_map] at h
  obtain ⟨A, c, e, h1, _, _⟩ := own_row rlay_one h
  exact ⟨A, c, e, h1⟩

set_option maxRecDepth 10000 in
set_option maxHeartbeats 6400000 in
theorem otake_any {w : World} {A : Option Addr} {l : List UInt8} (hr : Rd w w.heap.size A l) (c : Nat) (hlc : l.length ≤ c) (hl : l.length ≤ 140737488355328) (hM : Mg w) :
    Calls Tryz.prog 7 #[.slice A l.length c] w (OTake l w) := by
  have hb0 : Below w.heap.size w (w.alloc (.cells #[.int .i64 0, .int .i64 0, .slice none 0 0, .slice none 0 0, .slice none 0 0] 28)) := (Below.refl _ _).alloc (Nat.le_refl _) _
  have hT := stake_any ((hr.below hb0).more hb0.size) c hlc hl (hM.alloc _)
  have hX0 := Box.new w 28 #[.int .i64 0, .int .i64 0, .slice none 0 0, .slice none 0 0, .slice none 0 0]
  unfold STake at hT
  by_cases hse : secE l = 0
  · rcases secL_is l with ⟨_, _, _, _, hH⟩ | ⟨hn, _⟩
    · rw [hH, hse] at hT
      have HE := Lib.hid (objE_in hse)
      have HT := Lib.hid hT
      have HX0 := Lib.hid hX0
      have HB0 := Lib.hid hb0
      have HNN := Lib.hid (secL_nn l)
      have HFS := Lib.hid (secL_first l)
      have HLN := Lib.hid (secL_length l)
      have HFIT := Lib.hid (secL_fits l)
      clear hT hX0 hb0 hse hH hr hM hlc hl
      unfold OTake
      generalize kindT l = kt at *
      generalize machT l = mt at *
      generalize offT l = ot at *
      generalize cntT l = ct at *
      generalize shsT l = st at *
      generalize secL l = S at *
      generalize objE l = oe at *
      generalize l.length = n at *
      go_enter Tryz.func7, Tryz.ntmps7
      go_wp2_with (go_at_call 19; refine HT.out.mono ?_; rintro r w1 ⟨u1, rfl, hT1, hb1⟩; (obtain ⟨L, hL1, hOL, hOD⟩ := hT1); subst hL1; have hFT := (fun x hx => HFIT.out x.s (List.mem_map_of_mem hx) : ∀ x ∈ L, x.s.Fits); (obtain ⟨A1, c1, rfl, hc1, hm1, hS1⟩ := ownl_secs hOL (fun x hx => (by (obtain ⟨A', c', e, hle, hcm, hrd⟩ := own_slice (hOD x hx)); unfold Lay.dv at e; injection e with e1 e2 e3; exact ⟨by rw [e1]; exact hrd, by rw [e3]; exact hle, by rw [e3]; exact hcm, hFT x hx⟩))); have HOL := Lib.hid hOL; have HOD := Lib.hid hOD; have HFT := Lib.hid hFT; have HB1 := Lib.hid (HB0.out.trans (hb1.mono HB0.out.size)); have HX1 := Lib.hid (HX0.out.below hb1 (by simp)); have HS1 := Lib.hid hS1; clear hb1 hS1 hOL hOD hFT HT)
      have hb2 : Below w1.heap.size w1 (w1.alloc (.cells #[.int .i64 kt, .int .i64 mt, .int .u64 (ot : Int), .int .i64 (ct : Int), .int .i64 (st : Int)] 55)) := (Below.refl _ _).alloc (Nat.le_refl _) _
      have hX2 := HX1.out.below hb2 HX1.out.lt
      have hH2 := Box.new w1 55 #[.int .i64 kt, .int .i64 mt, .int .u64 (ot : Int), .int .i64 (ct : Int), .int .i64 (st : Int)]
      have hS2 := (HS1.out.below hb2).more hb2.size
      have hB2 := HB1.out.trans (hb2.mono HB1.out.size)
      have HOL2 := Lib.hid (show ∀ W, Below (w1.alloc (.cells #[.int .i64 kt, .int .i64 mt, .int .u64 (ot : Int), .int .i64 (ct : Int), .int .i64 (st : Int)] 55)).heap.size (w1.alloc (.cells #[.int .i64 kt, .int .i64 mt, .int .u64 (ot : Int), .int .i64 (ct : Int), .int .i64 (st : Int)] 55)) W → OwnL W w.heap.size (.slice A1 L.length c1) L ∧ ∀ x ∈ L, Own W w.heap.size x.dv x.s.data from fun W hW => ⟨row_below (row_below (row_base HOL.out (by simp)) hb2) hW, fun x hx => row_below (row_below (row_base (HOD.out x hx) (by simp)) hb2) hW⟩)
      clear HX1 HS1 HB1 hb2 HOL HOD
      generalize w1.alloc (.cells #[.int .i64 kt, .int .i64 mt, .int .u64 (ot : Int), .int .i64 (ct : Int), .int .i64 (st : Int)] 55) = w2 at *
      have KS := Lib.hid (fun W (hW : Below w2.heap.size w2 W) => (⟨hX2.below hW hX2.lt, hH2.below hW hH2.lt, (hS2.below hW).more hW.size, hB2.trans (hW.mono hB2.size)⟩ :
        Box W w.heap.size 28 #[.int .i64 0, .int .i64 0, .slice none 0 0, .slice none 0 0, .slice none 0 0] ∧ Box W w1.heap.size 55 #[.int .i64 kt, .int .i64 mt, .int .u64 (ot : Int), .int .i64 (ct : Int), .int .i64 (st : Int)] ∧ Secs W W.heap.size A1 L ∧ Below w.heap.size w W))
      have HLN2 := Lib.hid (show L.length ≤ 64 by have := HLN.out; simpa using this)
      have HST := Lib.hid (symtab_any hS2 c1 (by have := HLN2.out; omega) (fun x hx => HFS.out x.s (get_secsOf hx)))
      have HBW := Lib.hid hB2.size
      clear hX2 hH2 hS2 hB2
      by_cases hp : placeS (secsOf L) = -2
      · have ht : tabI (secsOf L) = 0 ∧ tabE (secsOf L) = 23 := by unfold tabI tabE; rw [hp]; decide
        have HF := Lib.hid (show oe = 23 by rw [HE.out, objS_two hp])
        rw [ht.1, ht.2] at HST
        clear hp ht
        refine HST.out.mono ?_
        rintro r w3 ⟨rfl, hb3⟩
        have HB3 := Lib.hid hb3
        clear hb3 HST
        obtain ⟨hX, -, -, hBw⟩ := KS.out _ HB3.out
        obtain ⟨r0, r1, r2, r3, r4⟩ := five_cells hX
        obtain ⟨f0, f1, f2, f3, f4⟩ := five_free hX
        have HXk := Lib.hid hX
        have HBk := Lib.hid hBw
        clear hX hBw
        go_wp2_with fail
        refine ret_two Tryz.underlying28 Tryz.results7 (fiveO_box HXk.out rfl _ _ _ _ _) (by kernel_rfl) (by rfl) rfl ?_
        exact ⟨noneO, by rw [HF.out]; rfl, noneO_ok _ _, five_below HBk.out (Nat.le_refl _) _ _ _ _ _, fun h0 => absurd (HF.out.symm.trans h0) (by decide), fun _ => rfl⟩
      · obtain ⟨t, ht1, ht2, hpi, hpl⟩ := placeIs (secsOf L) hp (fun s hs => HFS.out s hs)
        rw [ht1, ht2] at HST
        have HPI := Lib.hid hpi
        have HPL := Lib.hid hpl
        have HP2 := Lib.hid hp
        have HTS := Lib.hid (fun W (hS : Secs W W.heap.size A1 L) => tsyms_all hS c1 t hpl (fun s hs => (HNN.out s hs).1))
        have HTR := Lib.hid (fun W (hS : Secs W W.heap.size A1 L) (m : Nat) => trelas_any hS c1 (by have := HLN2.out; omega) (fun x hx => HNN.out x.s (List.mem_map_of_mem hx)) t m (placeS (secsOf L)) hpi)
        have HES := Lib.hid (fun (h : symX (secsOf L) ≠ 0) => (HE.out.trans (objS_sym hp h) : oe = symX (secsOf L)))
        have HER := Lib.hid (fun (h : symX (secsOf L) = 0) => (HE.out.trans (objS_rel hp h) : oe = relUp (secsOf L) (placeS (secsOf L)) (symY (secsOf L)).length (secsOf L).length))
        unfold TRel at HTR
        clear hpi hpl hp ht1 ht2 HE HLN HFS HNN
        generalize symX (secsOf L) = sx at *
        generalize hye : symY (secsOf L) = Y at *
        generalize hsn : (secsOf L).length = sn at *
        have HYE := Lib.hid hye
        have HSN := Lib.hid hsn
        clear hye hsn
        refine HST.out.mono ?_
        rintro r w3 ⟨rfl, hb3⟩
        obtain ⟨-, -, hS3, -⟩ := KS.out _ hb3
        have HTS3 := Lib.hid (HTS.out _ hS3)
        have HB3 := Lib.hid hb3
        clear hb3 hS3 HST HTS
        go_wp2_with fail
        refine HTS3.out.mono ?_
        rintro r w4 ⟨u4, rfl, hO4, hb4⟩
        have HB4 := Lib.hid (HB3.out.trans (hb4.mono HB3.out.size))
        clear hb4 HTS3
        by_cases hsx : sx = 0
        · have q1 : (sx != 0) = false := by simp [hsx]
          obtain ⟨A4, c4, rfl, hc4, hm4, hY4⟩ := own_row sym_six hO4
          obtain ⟨-, -, hS4, -⟩ := KS.out _ HB4.out
          have HO4 := Lib.hid hO4
          have HTR4 := Lib.hid (HTR.out _ hS4 Y.length)
          have HER2 := Lib.hid (HER.out hsx)
          clear hO4 hY4 hS4 HTR HES HER hsx
          generalize relUp (secsOf L) (placeS (secsOf L)) Y.length sn = re at *
          go_wp2_with fail
          refine HTR4.out.mono ?_
          rintro r w5 ⟨u5, rfl, hO5, hb5⟩
          have HB5 := Lib.hid (HB4.out.trans (hb5.mono HB4.out.size))
          have HB45 := Lib.hid hb5
          clear hb5 HTR4
          by_cases hre : re = 0
          · have q2 : (re != 0) = false := by simp [hre]
            have HF := Lib.hid (show oe = 0 from HER2.out.trans hre)
            obtain ⟨Q, hQm, hQr, hQo⟩ := hO5 hre
            obtain ⟨A5, c5, rfl, hc5⟩ := rlay_form hQr
            have HQM := Lib.hid hQm
            have HQR := Lib.hid hQr
            have HQO := Lib.hid hQo
            have HOS := Lib.hid (HOL2.out _ HB5.out)
            have HOY := Lib.hid (row_below HO4.out HB45.out)
            obtain ⟨hX, hH, hS5, hBw⟩ := KS.out _ HB5.out
            obtain ⟨r0, r1, r2, r3, r4⟩ := five_cells hX
            obtain ⟨f0, f1, f2, f3, f4⟩ := five_free hX
            obtain ⟨e0, e1, -, -, -⟩ := five_cells hH
            have HXk := Lib.hid hX
            have HBk := Lib.hid hBw
            have HC1 := Lib.hid hc1
            have HC5 := Lib.hid hc5
            clear hX hH hS5 hBw hO5 hQm hQr hQo hre hc1 hc4 hm4 hc5 hm1
            go_wp2_with fail
            refine ret_two Tryz.underlying28 Tryz.results7 (fiveO_box HXk.out rfl _ _ _ _ _) (by kernel_rfl) (by rfl) rfl ?_
            have hon : Only w.heap.size (CellsOf 28) w5 _ := Only.row (five_only w5 w.heap.size (.int .i64 kt) (.int .i64 mt) (.slice A1 L.length c1) (.slice A4 Y.length c4) (.slice A5 Q.length c5)) HXk.out rfl (Nat.le_refl _)
            exact ⟨⟨kt, mt, A1, c1, L, A4, c4, Y, A5, c5, Q⟩, by rw [HF.out]; rfl, ⟨told_lie HOS.out.1 HOS.out.2 HFT.out hon, syms_lie HOY.out hon, lists_lie HQR.out HQO.out hon, HC1.out, HC5.out⟩, HBk.out.trans hon.1, fun _ => ⟨rfl, rfl, rfl, HYE.out.symm, by rw [HSN.out]; exact HQM.out⟩, fun h => absurd HF.out h⟩
          · have q2 : (re != 0) = true := by simpa using hre
            have HF := Lib.hid HER2.out
            clear hO5
            obtain ⟨hX, -, -, hBw⟩ := KS.out _ HB5.out
            obtain ⟨r0, r1, r2, r3, r4⟩ := five_cells hX
            obtain ⟨f0, f1, f2, f3, f4⟩ := five_free hX
            have HXk := Lib.hid hX
            have HBk := Lib.hid hBw
            clear hX hBw
            go_wp2_with fail
            refine ret_two Tryz.underlying28 Tryz.results7 (fiveO_box HXk.out rfl _ _ _ _ _) (by kernel_rfl) (by rfl) rfl ?_
            exact ⟨noneO, by rw [HF.out]; rfl, noneO_ok _ _, five_below HBk.out (Nat.le_refl _) _ _ _ _ _, fun h0 => absurd (HF.out.symm.trans h0) hre, fun _ => rfl⟩
        · have q1 : (sx != 0) = true := by simpa using hsx
          have HF := Lib.hid (HES.out hsx)
          clear hO4 HTR HES HER
          obtain ⟨hX, -, -, hBw⟩ := KS.out _ HB4.out
          obtain ⟨r0, r1, r2, r3, r4⟩ := five_cells hX
          obtain ⟨f0, f1, f2, f3, f4⟩ := five_free hX
          have HXk := Lib.hid hX
          have HBk := Lib.hid hBw
          clear hX hBw
          go_wp2_with fail
          refine ret_two Tryz.underlying28 Tryz.results7 (fiveO_box HXk.out rfl _ _ _ _ _) (by kernel_rfl) (by rfl) rfl ?_
          exact ⟨noneO, by rw [HF.out]; rfl, noneO_ok _ _, five_below HBk.out (Nat.le_refl _) _ _ _ _ _, fun h0 => absurd (HF.out.symm.trans h0) hsx, fun _ => rfl⟩
    · exact absurd hse hn
  · have hH := (sec_bad rfl hse).1
    rw [hH] at hT
    have HE := Lib.hid (objE_bad hse)
    have HT := Lib.hid hT
    have HX0 := Lib.hid hX0
    have HB0 := Lib.hid hb0
    have q0 : (secE l != 0) = true := by simpa using hse
    have HBAD := Lib.hid (fun w' (hB : Below w.heap.size w w') => otake_bad (objE_bad hse) hse hB)
    clear hT hX0 hb0 hse hH hr hM hlc hl
    generalize secE l = se at *
    generalize l.length = n at *
    go_enter Tryz.func7, Tryz.ntmps7
    go_wp2_with (go_at_call 19; refine HT.out.mono ?_; rintro r w1 ⟨u1, rfl, hT1, hb1⟩; have HB1 := Lib.hid (HB0.out.trans (hb1.mono HB0.out.size)); have hb2 := (Below.refl w1.heap.size w1).alloc (Nat.le_refl _) (.cells #[.int .i64 0, .int .i64 0, .int .u64 0, .int .i64 0, .int .i64 0] 55); have hX2 := (HX0.out.below hb1 (by simp)).below hb2 (HX0.out.below hb1 (by simp)).lt; (obtain ⟨r0, r1, r2, r3, r4⟩ := five_cells hX2); (obtain ⟨f0, f1, f2, f3, f4⟩ := five_free hX2); have HX2 := Lib.hid hX2; have HB2 := Lib.hid (HB1.out.trans (hb2.mono HB1.out.size)); clear hb1 hb2 hX2 hT1 HT)
    refine ret_two Tryz.underlying28 Tryz.results7 (fiveO_box HX2.out rfl _ _ _ _ _) (by kernel_rfl) (by rfl) rfl ?_
    exact HBAD.out _ (five_below HB2.out (Nat.le_refl _) _ _ _ _ _)

end Go.Proofs.YtldmjnbmjfnfeaaGreatDoor

namespace Go.Proofs.YtldmjnbmjfnfeaaGreatDoor
open Go Go.RowKit

def memB (n : Nat) : Bool := decide (n / 2 % 2 = 1)
/-- Whether a name begins so. -/
def debB (nm : ByteArray) : Bool := decide (7 ≤ nm.size) && ((nm.extract 0 7).toList == [46, 100, 101, 98, 117, 103, 95])
def dbgB (kd : Int) (fl : Nat) (nm : ByteArray) : Bool := !memB fl && (decide (kd = 1) && debB nm)
theorem and_two (n : Nat) (hn : n < two64) : (bits .and .u64 (n : Int) 2 != 0) = memB n := by
  have h7 : (BitVec.ofInt 64 2).toNat = 2 := by decide
  have hm : ((n : Int) % ((2 ^ 64 : Nat) : Int)).toNat = n := by unfold two64 at hn; omega
  have key : (BitVec.ofInt 64 n &&& BitVec.ofInt 64 2).toNat = n &&& 2 := by
    rw [BitVec.toNat_and, BitVec.toNat_ofInt, h7, hm]
  have e1 : (n &&& 2) / 2 = n / 2 % 2 := by
    rw [Nat.and_div_two, show (2 : Nat) / 2 = 1 from rfl, Nat.and_one_is_mod]
  have e2 : (n &&& 2) ≤ 2 := Nat.and_le_right
  have hb : bits .and .u64 (n : Int) 2 = ((n &&& 2 : Nat) : Int) := by
    show IntKind.u64.wrap ((BitVec.ofInt 64 n &&& BitVec.ofInt 64 2).toNat : Nat) = _
    rw [key, IntKind.wrap_u64]
    omega
  have e3 : (n &&& 2) % 2 = 0 := by
    have := Nat.and_mod_two_pow (a := n) (b := 2) (n := 1)
    simpa using this
  rw [hb]
  unfold memB
  by_cases h : n / 2 % 2 = 1
  · rw [decide_eq_true h]
    exact bne_iff_ne.2 (by omega)
  · rw [decide_eq_false h]
    have : n &&& 2 = 0 := by omega
    rw [this]; rfl
set_option maxHeartbeats 1600000 in
theorem lhas_any (nm : ByteArray) (w : World) : Calls Tryz.prog 80 #[.string nm, .string ⟨#[46, 100, 101, 98, 117, 103, 95]⟩] w fun r w' => r = .returned (.bool (debB nm)) ∧ w' = w := by
  unfold debB
  by_cases h : 7 ≤ nm.size
  · rw [decide_eq_true h, Bool.true_and]
    have b1 : (7 : Int) ≤ (nm.size : Int) := by omega
    have d1 : decide ((7 : Int) ≤ (nm.size : Int)) = true := decide_eq_true b1
    go_enter Tryz.func80, Tryz.ntmps80
    go_wp2_with fail
    go_ret
    exact ⟨rfl, rfl⟩
  · rw [decide_eq_false h, Bool.false_and]
    have d1 : decide ((7 : Int) ≤ (nm.size : Int)) = false := decide_eq_false (by omega)
    go_enter Tryz.func80, Tryz.ntmps80
    go_wp2_with fail
    go_ret
    exact ⟨rfl, rfl⟩

set_option maxHeartbeats 1600000 in
theorem has_any (nm : ByteArray) (w : World) : Calls Tryz.prog 46 #[.string nm, .string ⟨#[46, 100, 101, 98, 117, 103, 95]⟩] w fun r w' => r = .returned (.bool (debB nm)) ∧ w' = w := by
  have hL := Lib.hid (lhas_any nm w)
  generalize debB nm = b at *
  go_enter Tryz.func46, Tryz.ntmps46
  go_wp2_with fail
  refine hL.out.mono ?_
  rintro r w1 ⟨rfl, rfl⟩
  go_wp2_with fail
  go_ret
  exact ⟨rfl, rfl⟩

section
variable (nm : Value) (sb : ByteArray) (kd : Int) (fl : Nat) (c3 c4 c5 c6 c7 c8 : Value) (hfl : fl < two64) (w : World)
include hfl
set_option maxHeartbeats 1600000 in
theorem alloc_any : Calls Tryz.prog 17 #[.agg #[nm, .int .i64 kd, .int .u64 (fl : Int), c3, c4, c5, c6, c7, c8]] w fun r w' => r = .returned (.bool (memB fl)) ∧ Below w.heap.size w w' := by
  have hb0 : Below w.heap.size w (w.alloc (.cells #[nm, .int .i64 kd, .int .u64 (fl : Int), c3, c4, c5, c6, c7, c8] 39)) := (Below.refl _ _).alloc (Nat.le_refl _) _
  have HB0 := Lib.hid hb0
  have HF := Lib.hid (and_two fl hfl)
  clear hb0
  go_enter Tryz.func17, Tryz.ntmps17
  go_wp2_with fail
  go_ret
  exact ⟨by rw [← HF.out]; rfl, HB0.out⟩

set_option maxHeartbeats 3200000 in
theorem debug_any : Calls Tryz.prog 15 #[.agg #[.string sb, .int .i64 kd, .int .u64 (fl : Int), c3, c4, c5, c6, c7, c8]] w fun r w' => r = .returned (.bool (dbgB kd fl sb)) ∧ Below w.heap.size w w' := by
  have hb0 : Below w.heap.size w (w.alloc (.cells #[.string sb, .int .i64 kd, .int .u64 (fl : Int), c3, c4, c5, c6, c7, c8] 39)) := (Below.refl _ _).alloc (Nat.le_refl _) _
  have hX0 := Box.new w 39 #[.string sb, .int .i64 kd, .int .u64 (fl : Int), c3, c4, c5, c6, c7, c8]
  have HA := Lib.hid (alloc_any (.string sb) kd fl c3 c4 c5 c6 c7 c8 hfl (w.alloc (.cells #[.string sb, .int .i64 kd, .int .u64 (fl : Int), c3, c4, c5, c6, c7, c8] 39)))
  have hlt0 : w.heap.size < (w.alloc (.cells #[.string sb, .int .i64 kd, .int .u64 (fl : Int), c3, c4, c5, c6, c7, c8] 39)).heap.size := by simp
  have HB0 := Lib.hid hb0
  have HE := Lib.hid (show dbgB kd fl sb = (!memB fl && (decide (kd = 1) && debB sb)) from rfl)
  have HH := fun W => has_any sb W
  clear hb0 hfl
  generalize dbgB kd fl sb = res at *
  generalize memB fl = mb at *
  generalize debB sb = db at *
  have HX := Lib.hid hX0
  clear hX0
  go_enter Tryz.func15, Tryz.ntmps15
  go_wp2_with fail
  refine HA.out.mono ?_
  rintro r w1 ⟨rfl, hb1⟩
  have hX1 := HX.out.below hb1 hlt0
  have e0 : w1.cell? ⟨w.heap.size, 0, none⟩ = some (.string sb) := by rw [hX1.cell]; rfl
  have e1 : w1.cell? ⟨w.heap.size, 1, none⟩ = some (.int .i64 kd) := by rw [hX1.cell]; rfl
  have HB1 := Lib.hid (HB0.out.trans (hb1.mono HB0.out.size))
  clear hX1 hb1 HA HX
  cases mb with
  | true =>
    go_wp2_with fail
    go_ret
    exact ⟨by rw [HE.out]; rfl, HB1.out⟩
  | false =>
    by_cases hk : kd = 1
    · subst hk
      go_wp2_with fail
      refine (HH _).mono ?_
      rintro r w2 ⟨rfl, rfl⟩
      go_wp2_with fail
      go_ret
      exact ⟨by rw [HE.out]; simp, HB1.out⟩
    · have hd : (kd == 1) = false := beq_eq_false_iff_ne.2 hk
      have hd2 : decide (kd = 1) = false := decide_eq_false hk
      have HE2 := Lib.hid (show res = false by rw [HE.out, hd2]; rfl)
      clear hk hd2 HE
      go_wp2_with fail
      go_ret
      exact ⟨by rw [HE2.out]; rfl, HB1.out⟩

end

end Go.Proofs.YtldmjnbmjfnfeaaGreatDoor
