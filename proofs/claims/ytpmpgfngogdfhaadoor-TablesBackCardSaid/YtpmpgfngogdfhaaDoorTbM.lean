/-
  The walk of TablesBack.
-/
import Derived.Test.YtpmpgfngogdfhaaDoorTbI
import Derived.Test.YtpmpgfngogdfhaaDoorTbO
namespace Go.Proofs.YtpmpgfngogdfhaaDoor
open Go Go.RowKit

def asT (y : TItm) : Bool × List Nat := (y.wide, y.l)
theorem titm_at {w : World} {B : Nat} {a : Option Addr} {L : List TItm} (h : Row 2 TItm.cells w B a L) {i : Nat} {x : TItm} (hx : L[i]? = some x) : ∃ b o, a = some ⟨b, o, none⟩ ∧ b < B ∧
    w.cell? ⟨b, o + i * 2, none⟩ = some (.bool x.wide) ∧ w.cell? ⟨b, o + i * 2 + 1, none⟩ = some (.slice x.a x.l.length x.c) := by
  have hl : 0 < L.length := by have := (List.getElem?_eq_some_iff.1 hx).1; omega
  obtain ⟨b, o, e, hlt, hc⟩ := h hl
  have h' := hc i x hx
  exact ⟨b, o, e, hlt, h' 0 _ rfl, h' 1 _ rfl⟩
theorem two_cellsT {W : World} {H : Nat} {T : TypeId} {c0 c1 : Value} (h : Box W H T #[c0, c1]) : W.cell? ⟨H, 0, none⟩ = some c0 ∧ W.cell? ⟨H, 1, none⟩ = some c1 := by
  refine ⟨?_, ?_⟩ <;> (rw [h.cell]; rfl)
theorem secTb_len_of {ad : Bool} {L : List (Bool × List Nat)} (hf : ∀ y ∈ L, TFit ad y) {j : Nat} {y : Bool × List Nat} (hy : L[j]? = some y) : y.2.length ≤ 200 := (hf y (List.mem_of_getElem? hy)).l
theorem tbs_items {ad : Bool} : ∀ {L : List (Bool × List Nat)}, (∀ y ∈ L, TFit ad y) → ∀ (a : Nat), ∀ t ∈ tbsAt ad a L, t.items.length ≤ 200
  | [], _, _, t, ht => by cases ht
  | y :: L, hf, a, t, ht => by
    rw [tbsAt] at ht
    rcases List.mem_cons.1 ht with rfl | ht
    · exact (hf y (List.mem_cons_self ..)).l
    · exact tbs_items (fun z hz => hf z (List.mem_cons_of_mem _ hz)) _ t ht
theorem fit_must {ad wide : Bool} {l : List Nat} (h : ∀ x ∈ l, x < two64) (hf : ¬ fitTb (szT ad wide) l = true) : ad = false ∧ wide = false := by
  cases ad with
  | true => exact absurd (fit_wide l h) hf
  | false =>
    cases wide with
    | true => exact absurd (fit_wide l h) hf
    | false => exact ⟨rfl, rfl⟩

set_option maxRecDepth 20000 in
set_option maxHeartbeats 3200000 in
theorem tback16_walk (a0 : Option Addr) (cap0 : Nat) (L : List TItm) (ad : Bool) (w : World) (hs : Sz w) (hi : Row 2 TItm.cells w w.heap.size a0 L ∧ ∀ y ∈ L, y.In w) :
    Calls Tryd.prog 6 #[.slice a0 L.length cap0, .bool ad] w fun e w' => e = .returned (.bool true) ∧ Below w.heap.size w w' := by
  obtain ⟨i0, hi0, hz0, hz1, hz2⟩ := info_parts u8_info
  have HWK := Lib.hid (works16_any hs)
  have HR := Lib.hid hi.1
  have HIN := Lib.hid hi.2
  have HSZ := Lib.hid (fun (W : World) (hb : Below w.heap.size w W) => hs.below hb hs.pos)
  generalize hN : L.length = N at *
  have HN := Lib.hid hN
  clear hs hi hN
  go_enter Tryd.func6, Tryd.ntmps6
  go_upto_region 3 with (go_at_call 25; refine HWK.out.mono ?_; rintro r w1 ⟨rfl, hb⟩; have HB1 := Lib.hid hb; clear hb)
  by_cases h60 : 60 < N
  · have d : decide ((60 : Int) < (N : Int)) = true := by simp; omega
    have d' : decide (60 < N) = true := by simpa using h60
    clear h60
    go_wp2_with fail
    go_ret
    exact ⟨rfl, HB1.out⟩
  have d : decide ((60 : Int) < (N : Int)) = false := by simp; omega
  have d' : decide (60 < N) = false := by simpa using h60
  have hN60 : N ≤ 60 := by omega
  clear h60
  go_upto_region 7 with fail
  clear d d'
  go_loopg [5, 27] N (fun gk sv i wr => ∃ (k : Nat) (M : List (Bool × List Nat)), k ≤ N ∧ gk = N - k ∧ i = .int .i64 k ∧ Hid (M = (L.take k).map asT) ∧ Hid (M.length = k) ∧ Hid (∀ y ∈ M, TFit ad y) ∧ Hid (DpT w w.heap.size wr sv (secTb ad M)))
  case atStart => exact ⟨0, [], Nat.zero_le _, rfl, rfl, Lib.hid rfl, Lib.hid rfl, Lib.hid (by intro y hy; cases hy), Lib.hid ⟨World.ownsRow_nil _ _ _ _, HB1.out⟩⟩
  case round =>
    obtain ⟨k, M, hk, rfl, rfl, HM, HML, HUF, HK⟩ := hrel
    clear HB1 HWK
    by_cases hlt : k < N
    · have HLT := Lib.hid hlt
      obtain ⟨x, hx⟩ : ∃ x, L[k]? = some x := ⟨L[k]'(by rw [HN.out]; exact hlt), List.getElem?_eq_getElem _⟩
      have HXI := Lib.hid (HIN.out x (List.mem_of_getElem? hx))
      have HMN := Lib.hid (show (L.take (k + 1)).map asT = M ++ [asT x] by rw [List.take_add_one, hx, HM.out]; simp)
      obtain ⟨b, o, rfl, hb, c0, c1⟩ := titm_at (HR.out.below HK.out.b) hx
      obtain ⟨bn, hbn⟩ : ∃ bn, x.l.length = bn := ⟨_, rfl⟩
      have HBN := Lib.hid hbn
      rw [hbn] at c1
      clear hx hb hbn
      have hX2 := Box.new wr 84 #[.bool x.wide, .slice x.a bn x.c]
      have hb2 : Below wr.heap.size wr (wr.alloc (.cells #[.bool x.wide, .slice x.a bn x.c] 84)) := (Below.refl _ _).alloc (Nat.le_refl _) _
      go_upto_region 9 with fail
      generalize wr.alloc (.cells #[.bool x.wide, .slice x.a bn x.c] 84) = w2 at *
      have HK2 := Lib.hid (HK.out.below HK.out.b.size hb2)
      have HY2 := Lib.hid hX2
      clear hX2 hb2 c0 c1 HK
      generalize wr.heap.size = Y at *
      obtain ⟨c0, c1⟩ := two_cellsT HY2.out
      by_cases h2 : 200 < bn
      · have d : decide ((200 : Int) < (bn : Int)) = true := by simp; omega
        have d' : decide (200 < bn) = true := by simpa using h2
        clear h2
        go_wp2_with fail
        (try rw [Exit.noGoto_ret])
        go_ret
        exact ⟨rfl, HK2.out.b⟩
      have d : decide ((200 : Int) < (bn : Int)) = false := by simp; omega
      have d' : decide (200 < bn) = false := by simpa using h2
      have hb200 : bn ≤ 200 := by omega
      have HP := Lib.hid (fun (W : World) (hW : Below w.heap.size w W) => (by
        have := puts_strs x.wide (HSZ.out W hW) (HXI.out.r.below hW) hW.size x.c (by rw [HBN.out]; omega) HXI.out.n
        rw [HBN.out] at this
        exact this : Calls Tryd.prog 33 #[.bool x.wide, .slice x.a bn x.c] W fun r w' => ∃ u, r = .returned (.tuple #[u, .int .i64 (putTbE false x.wide x.l)]) ∧ Own w' W.heap.size u (putTbB false x.wide x.l) ∧ Below W.heap.size W w'))
      have HQ := Lib.hid (fun (W : World) (hW : Below w.heap.size w W) => (by
        have := puts_addrs x.wide (HSZ.out W hW) (HXI.out.r.below hW) hW.size x.c (by rw [HBN.out]; omega) HXI.out.n
        rw [HBN.out] at this
        exact this : Calls Tryd.prog 35 #[.bool x.wide, .slice x.a bn x.c] W fun r w' => ∃ u, r = .returned (.tuple #[u, .int .i64 (putTbE true x.wide x.l)]) ∧ Own w' W.heap.size u (putTbB true x.wide x.l) ∧ Below W.heap.size W w'))
      clear h2
      obtain ⟨As, cs, hsv, -, -, -⟩ := own_slice HK2.out.o
      obtain ⟨sn, hsn⟩ : ∃ n, (secTb ad M).length = n := ⟨_, rfl⟩
      have HSN := Lib.hid hsn
      rw [hsn] at hsv
      subst hsv
      clear hsn
      go_upto_if 43 with (go_at_call 33; refine (HP.out _ HK2.out.b).mono ?_; rintro r w3 ⟨u3, rfl, ho, hb⟩; have HK3 := Lib.hid (HK2.out.below HK2.out.b.size hb); have HY3 := Lib.hid (HY2.out.below hb HY2.out.lt); have HO3 := Lib.hid (row_base ho HK2.out.b.size); clear ho hb)
      clear c0 c1 HY2 HK2 HP d d'
      obtain ⟨c0, c1⟩ := two_cellsT HY3.out
      go_cut [8, 9] (fun u8 u9 wx => u9 = .int .i64 (putTbE ad x.wide x.l) ∧ Hid (Own wx w.heap.size u8 (putTbB ad x.wide x.l)) ∧ Hid (Box wx Y 84 #[.bool x.wide, .slice x.a bn x.c]) ∧ Hid (DpT w w.heap.size wx (.slice As sn cs) (secTb ad M)))
      case first =>
        cases ad with
        | true =>
          go_wp2_with (go_at_call 35; refine (HQ.out _ HK3.out.b).mono ?_; rintro r w4 ⟨u4, rfl, ho, hb⟩; have HK4 := Lib.hid (HK3.out.below HK3.out.b.size hb); have HY4 := Lib.hid (HY3.out.below hb HY3.out.lt); have HO4 := Lib.hid (row_base ho HK3.out.b.size); clear ho hb)
          go_meet
          exact ⟨rfl, Lib.hid HO4.out, HY4, HK4⟩
        | false =>
          go_wp2_with fail
          go_meet
          exact ⟨rfl, Lib.hid HO3.out, HY3, HK3⟩
      case rest =>
      obtain ⟨rfl, HO4, HY4, HK4⟩ := hcut
      clear HO3 HY3 HK3 HQ c0 c1
      generalize wc = w4 at *
      obtain ⟨c0, c1⟩ := two_cellsT HY4.out
      by_cases hf : fitTb (szT ad x.wide) x.l = true
      rotate_left
      · have e1 : putTbE ad x.wide x.l = 2 := by unfold putTbE; rw [if_neg hf]
        have e2 : putTbB ad x.wide x.l = [] := by unfold putTbB; rw [if_neg hf]
        obtain ⟨f1, f2⟩ := fit_must HXI.out.n hf
        have HO5 := Lib.hid (by have := HO4.out; rwa [e2] at this : Own w4 w.heap.size u8 [])
        obtain ⟨A5, c5, hv5, -, -, -⟩ := own_slice HO5.out
        have HBQ := Lib.hid HK4.out.b
        rw [e1]
        rw [f2] at c0
        clear hf e1 e2 HO4 HK4 HM HUF
        subst f1 hv5
        go_wp2_with fail
        (try rw [Exit.noGoto_ret])
        go_ret
        exact ⟨rfl, HBQ.out⟩
      · have e1 : putTbE ad x.wide x.l = 0 := by unfold putTbE; rw [if_pos hf]
        have HFX := Lib.hid (show TFit ad (asT x) from ⟨hf, by show x.l.length ≤ 200; rw [HBN.out]; exact hb200⟩)
        have HSS := Lib.hid (show secTb ad (M ++ [asT x]) = secTb ad M ++ putTbB ad x.wide x.l from secTb_snoc ad M (asT x))
        have HSE := Lib.hid (secTb_le M HUF.out)
        have HPL := Lib.hid (show (putTbB ad x.wide x.l).length ≤ 1616 from putTb_le HFX.out)
        rw [HML.out, HSN.out] at HSE
        obtain ⟨A5, c5, hv5, -, -, hr5⟩ := own_slice HO4.out
        obtain ⟨pn, hpn⟩ : ∃ n, (putTbB ad x.wide x.l).length = n := ⟨_, rfl⟩
        rw [hpn] at hv5 HPL
        have HPN := Lib.hid hpn
        have HR5 := Lib.hid hr5
        rw [e1]
        clear hf e1 hpn hr5
        subst hv5
        generalize putTbB ad x.wide x.l = pb at *
        go_wp2_with (at_builtin; refine wpList_append_bytes (by rfl) (.tmp 70) (.tmp 71) _ (by rfl) w.heap.size i0 Tryd.underlying65 hi0 hz0 hz1 hz2 (.slice As sn cs) (secTb ad M) (by rfl) HK4.out.o w4.heap.size A5 pn c5 pb HPN.out (by rfl) HR5.out (by have := HSE.out; have := HSN.out; have := HPN.out; have := HPL.out; omega) HK4.out.b.size ?_; intro v8 w8 hown hg hat; have HK8 := Lib.hid (show DpT w w.heap.size w8 v8 (secTb ad (M ++ [asT x])) from HK4.out.put HK4.out.b.size (by rw [HSS.out]; exact hown) hg); clear hown hg hat)
        go_roundg (N - (k + 1))
        case measure => have := HLT.out; omega
        case rel => exact ⟨k + 1, M ++ [asT x], HLT.out, rfl, by go_num, Lib.hid HMN.out.symm, Lib.hid (by rw [List.length_append, HML.out]; rfl), Lib.hid (fun y hy => by
          rcases List.mem_append.1 hy with hy | hy
          · exact HUF.out y hy
          · rw [List.mem_singleton.1 hy]; exact HFX.out), HK8⟩
    · have hkN : k = N := by omega
      subst hkN
      have HM2 := Lib.hid (show M = L.map asT by rw [HM.out, List.take_of_length_le (by rw [HN.out]; omega)])
      clear HM
      obtain ⟨hae, hal⟩ := all_tbs HUF.out (by rw [HML.out]; exact hN60)
      have HSE := Lib.hid (secTb_le M HUF.out)
      rw [HML.out] at HSE
      have HAS := Lib.hid (fun (j : Nat) (y : TItm) (t : Tbl) (hy : L[j]? = some y) (ht : (tbsAt ad 0 M)[j]? = some t) => tbs_asks HUF.out (i := j) (y := asT y) ht (by rw [HM2.out, List.getElem?_map, hy]; rfl))
      have HRL := Lib.hid (show (tbsAt ad 0 M).length = k by rw [tbsAt_len, HML.out])
      have HRI := Lib.hid (show ∀ t ∈ tbsAt ad 0 M, t.items.length ≤ 200 from tbs_items HUF.out 0)
      obtain ⟨As, cs, hsv, -, -, hrs⟩ := own_slice HK.out.o
      have HRS := Lib.hid hrs
      have PS := Lib.hid (fun (W : World) (hb : Below w.heap.size w W) (hr : Rd W W.heap.size As (secTb ad M)) => (show Calls Tryd.prog 26 #[.slice As (secTb ad M).length cs] W fun r w' => ∃ A2 c2 M2, r = .returned (.tuple #[.slice A2 (allTbL (secTb ad M) false).length c2, .int .i64 (allTbE (secTb ad M) false)]) ∧ M2.map TLay.x = allTbL (secTb ad M) false ∧ Tabs w' w'.heap.size A2 M2 ∧ Below W.heap.size W w' from
        (tables_strs (HSZ.out W hb) cs hr (Nat.le_refl _) (by have := HSE.out; omega)).mono fun r w' ⟨u, M2, e, hM, ho, hb⟩ => by
          obtain ⟨A', c', hu, -, -, hrow⟩ := ho.lies
          rw [← List.length_map (f := TLay.x), hM] at hu
          subst hu
          exact ⟨A', c', M2, e, hM, hrow, hb⟩))
      have PA := Lib.hid (fun (W : World) (hb : Below w.heap.size w W) (hr : Rd W W.heap.size As (secTb ad M)) => (show Calls Tryd.prog 28 #[.slice As (secTb ad M).length cs] W fun r w' => ∃ A2 c2 M2, r = .returned (.tuple #[.slice A2 (allTbL (secTb ad M) true).length c2, .int .i64 (allTbE (secTb ad M) true)]) ∧ M2.map TLay.x = allTbL (secTb ad M) true ∧ Tabs w' w'.heap.size A2 M2 ∧ Below W.heap.size W w' from
        (tables_addrs (HSZ.out W hb) cs hr (Nat.le_refl _) (by have := HSE.out; omega)).mono fun r w' ⟨u, M2, e, hM, ho, hb⟩ => by
          obtain ⟨A', c', hu, -, -, hrow⟩ := ho.lies
          rw [← List.length_map (f := TLay.x), hM] at hu
          subst hu
          exact ⟨A', c', M2, e, hM, hrow, hb⟩))
      have HNW := Lib.hid (fun (W : World) (hr : Rd W W.heap.size As (secTb ad M)) => new_any (w := W) cs hr (Nat.le_refl _) (by have := HSE.out; omega))
      have HSF := Lib.hid HUF.out
      have HAE := Lib.hid hae
      have HAL := Lib.hid hal
      have HBK := Lib.hid HK.out.b
      clear hae hal hrs HK HUF HML
      generalize hsec : secTb ad M = sec at *
      generalize tbsAt ad 0 M = R at *
      clear hsec
      obtain ⟨sn, hsn⟩ : ∃ n, sec.length = n := ⟨_, rfl⟩
      rw [hsn] at hsv PS PA HNW HSE
      have HSN := Lib.hid hsn
      subst hsv
      clear hsn
      have EF := Lib.hid (fun (h : ad = false) => And.intro (show allTbE sec false = 0 by have := HAE.out; rwa [h] at this) (show allTbL sec false = R by have := HAL.out; rwa [h] at this))
      have ET := Lib.hid (fun (h : ad = true) => And.intro (show allTbE sec true = 0 by have := HAE.out; rwa [h] at this) (show allTbL sec true = R by have := HAL.out; rwa [h] at this))
      go_upto_if 79 with (go_at_call 26; refine (PS.out _ HBK.out HRS.out).mono ?_; rintro r w2 ⟨A2, c2, M2, rfl, hM, hT, hb⟩; have HM3 := Lib.hid hM; have HT2 := Lib.hid hT; have HB2 := Lib.hid hb; clear hM hT hb)
      go_cut [10, 11] (fun u10 u11 wx => ∃ A2 c2 M2, u10 = .slice A2 k c2 ∧ u11 = .int .i64 0 ∧ Hid (M2.map TLay.x = R) ∧ Hid (Tabs wx wx.heap.size A2 M2) ∧ Hid (Below wr.heap.size wr wx))
      case first =>
        cases ad with
        | true =>
          obtain ⟨e1, e2⟩ := ET.out (by first | trivial | rfl)
          rw [e1, e2, HRL.out] at PA
          go_wp2_with (go_at_call 28; refine (PA.out _ (HBK.out.trans (HB2.out.mono HBK.out.size)) ((HRS.out.below HB2.out).more HB2.out.size)).mono ?_; rintro r w3 ⟨A3, c3, M3, rfl, hM, hT, hb⟩; have HM4 := Lib.hid hM; have HT3 := Lib.hid hT; have HB3 := Lib.hid (HB2.out.trans (hb.mono HB2.out.size)); clear hM hT hb)
          go_meet
          exact ⟨A3, c3, M3, rfl, rfl, HM4, HT3, HB3⟩
        | false =>
          obtain ⟨e1, e2⟩ := EF.out (by first | trivial | rfl)
          rw [e1, e2, HRL.out]
          rw [e2] at HM3
          go_wp2_with fail
          go_meet
          exact ⟨A2, c2, M2, rfl, rfl, HM3, HT2, HB2⟩
      case rest =>
      obtain ⟨A3, c3, M3, rfl, rfl, HM4, HT3, HB3⟩ := hcut
      clear HM3 HT2 HB2 PS PA EF ET HAE HAL
      have HB10 := Lib.hid (HBK.out.trans (HB3.out.mono HBK.out.size))
      have HRD := Lib.hid ((HRS.out.below HB3.out).more HB3.out.size)
      clear HBK HB3 HRS
      generalize wc = w3 at *
      have q1 : ((k : Int) != (k : Int)) = false := by simp
      have HML3 := Lib.hid (show M3.length = k by rw [← List.length_map (f := TLay.x), HM4.out, HRL.out])
      have HIT := Lib.hid (show ∀ y ∈ M3, y.x.items.length ≤ 1000000000 from fun y hy => by
        have h1 := HRI.out y.x (HM4.out ▸ List.mem_map_of_mem hy)
        omega)
      generalize wr = wq at *
      go_upto_region 24 with fail
      go_loopg [96] k (fun gk i wx => ∃ j : Nat, j ≤ k ∧ gk = k - j ∧ i = .int .i64 j ∧ Hid (Below w3.heap.size w3 wx))
      case atStart => exact ⟨0, Nat.zero_le _, rfl, rfl, Lib.hid (Below.refl _ _)⟩
      case round =>
        obtain ⟨j, hj, rfl, rfl, HBJ⟩ := hrel
        by_cases hjk : j < k
        · have HJK := Lib.hid hjk
          obtain ⟨y, hy⟩ : ∃ y, L[j]? = some y := ⟨L[j]'(by rw [HN.out]; exact hjk), List.getElem?_eq_getElem _⟩
          obtain ⟨z, hz⟩ : ∃ z, M3[j]? = some z := ⟨M3[j]'(by rw [HML3.out]; exact hjk), List.getElem?_eq_getElem _⟩
          obtain ⟨s1, s2, s3, s4⟩ := HAS.out j y z.x hy (by rw [← HM4.out, List.getElem?_map, hz]; rfl)
          rw [show (asT y).1 = y.wide from rfl] at s1 s4
          rw [show (asT y).2 = y.l from rfl] at s2 s4
          obtain ⟨b, o, hbo, hbb, c0, c1, c2⟩ := tbl_at (HT3.out.below HBJ.out) hz
          subst hbo
          obtain ⟨b', o', hbo', hbb', d0, d1⟩ := titm_at (HR.out.below (HB10.out.trans (HBJ.out.mono HB10.out.size))) hy
          subst hbo'
          have HZI := Lib.hid (HT3.out.its z (List.mem_of_getElem? hz))
          have HYI := Lib.hid ((HIN.out y (List.mem_of_getElem? hy)).r)
          have HYL := Lib.hid (HRL.out)
          have hb3 : b' < w3.heap.size := Nat.lt_of_lt_of_le hbb' HB10.out.size
          have D0 := Lib.hid (fun (W : World) (hW : Below wr.heap.size wr W) => (hW.cell (p := ⟨b', o' + j * 2, none⟩) (World.block_lt_of_cell? wr _ d0)).trans d0)
          have D1 := Lib.hid (fun (W : World) (hW : Below wr.heap.size wr W) => (hW.cell (p := ⟨b', o' + j * 2 + 1, none⟩) (World.block_lt_of_cell? wr _ d1)).trans d1)
          have HYJ := Lib.hid hy
          have HB3L := Lib.hid hb3
          have HS3 := Lib.hid s3
          have HS4 := Lib.hid s4
          rw [s1] at c0
          rw [s2] at c2 HZI
          clear s3 s4 hy hz hbb hbb' hb3
          generalize z.x.base = bs at *
          obtain ⟨ln, hln⟩ : ∃ n, y.l.length = n := ⟨_, rfl⟩
          rw [hln] at c2 D1
          have HLN := Lib.hid hln
          have hln2 : ln ≤ 140737488355328 := by
            have h1 := secTb_len_of HSF.out (j := j) (y := asT y) (by rw [HM2.out, List.getElem?_map, HYJ.out]; rfl)
            rw [show (asT y).2 = y.l from rfl, hln] at h1
            omega
          obtain ⟨wd, hwd⟩ : ∃ b, y.wide = b := ⟨_, rfl⟩
          rw [hwd] at c0 D0 HS4
          clear hln hwd s1 s2
          have hX5 := Box.new wr 86 #[.bool wd, .int .u64 (bs : Int), .slice z.a ln z.c]
          have hb5 : Below wr.heap.size wr (wr.alloc (.cells #[.bool wd, .int .u64 (bs : Int), .slice z.a ln z.c] 86)) := (Below.refl _ _).alloc (Nat.le_refl _) _
          go_upto_region 26 with fail
          generalize wr.alloc (.cells #[.bool wd, .int .u64 (bs : Int), .slice z.a ln z.c] 86) = w5 at *
          have HX5 := Lib.hid hX5
          have HB5 := Lib.hid (HBJ.out.trans (hb5.mono HBJ.out.size))
          have HXG := Lib.hid (show w3.heap.size ≤ wr.heap.size from HBJ.out.size)
          have D05 := Lib.hid (fun (W : World) (hW : Below w5.heap.size w5 W) => D0.out W (hb5.trans (hW.mono hb5.size)))
          have D15 := Lib.hid (fun (W : World) (hW : Below w5.heap.size w5 W) => D1.out W (hb5.trans (hW.mono hb5.size)))
          clear hX5 hb5 c0 c1 c2 D0 D1
          generalize wr.heap.size = X at *
          obtain ⟨c0, c1, c2⟩ := three_cellsT HX5.out
          go_upto_region 27 with fail
          go_cut [107] (fun u107 wx => u107 = .bool (!ad && !wd) ∧ w5 = wx)
          case first =>
            cases ad with
            | true =>
              go_wp2_with fail
              go_meet
              exact ⟨rfl, by first | rfl | trivial⟩
            | false =>
              cases wd <;> (go_wp2_with fail; go_meet; exact ⟨rfl, by first | rfl | trivial⟩)
          case rest =>
          obtain ⟨rfl, rfl⟩ := hcut
          obtain ⟨bb, hbb⟩ : ∃ b, (!ad && !wd) = b := ⟨_, rfl⟩
          have H4 := Lib.hid (show bb = true → (4 : Int) = (szT ad wd : Int) from fun h => by rw [h] at hbb; cases ad <;> cases wd <;> first | rfl | (simp at hbb))
          have H8 := Lib.hid (show bb = false → (8 : Int) = (szT ad wd : Int) from fun h => by rw [h] at hbb; cases ad <;> cases wd <;> first | rfl | (simp at hbb))
          rw [hbb]
          clear hbb
          go_upto_if 107 with fail
          go_cut [14] (fun u14 wx => u14 = .int .i64 (szT ad wd : Int) ∧ w5 = wx)
          case first =>
            cases bb with
            | true =>
              go_wp2_with fail
              go_meet
              exact ⟨by first | rw [← H4.out trivial] | rw [← H4.out rfl], by first | rfl | trivial⟩
            | false =>
              go_wp2_with fail
              go_meet
              exact ⟨by first | rw [← H8.out trivial] | rw [← H8.out rfl], by first | rfl | trivial⟩
          case rest =>
          obtain ⟨rfl, rfl⟩ := hcut
          clear H4 H8
          have hcl : clampOf (szT ad wd : Int) = szT ad wd := by cases ad <;> cases wd <;> rfl
          have hn8 := szT_pos ad wd
          generalize szT ad wd = n at *
          have d0 := D05.out w5 (Below.refl _ _)
          have d1 := D15.out w5 (Below.refl _ _)
          have p1 : (wd != wd) = false := by simp
          have p2 : ((ln : Int) != (ln : Int)) = false := by simp
          go_upto_region 29 with fail
          go_quiet (fail)
          go_upto_region 31 with fail
          have HB6 := Lib.hid (below_drewN HB5.out nq)
          have HX6 := Lib.hid (show Box (w5.drewN nq) X _ _ from HX5.out)
          have D16 := Lib.hid (fun (W : World) (hW : Below (w5.drewN nq).heap.size (w5.drewN nq) W) => D15.out W ((below_drewN (Below.refl _ _) nq).trans (hW.mono (below_drewN (Below.refl w5.heap.size w5) nq).size)))
          clear c0 c1 c2 d0 d1 D05 D15 p1 p2 HX5 HB5
          generalize w5.drewN nq = w6 at *
          go_upto_region 32 with (go_at_call 36; refine (HNW.out _ ((HRD.out.below HB6.out).more HB6.out.size)).mono ?_; rintro r w7 ⟨g, v, rfl, hM, hb⟩; have HC7 := Lib.hid hM.1; have HG7 := Lib.hid hM.2.1; have HX7 := Lib.hid (HX6.out.below hb HX6.out.lt); have HB7 := Lib.hid (HB6.out.trans (hb.mono HB6.out.size)); have HBA := Lib.hid hb; clear hM hb)
          have HGX := Lib.hid (show w3.heap.size ≤ g from Nat.le_trans HB6.out.size HG7.out)
          have D17 := Lib.hid (fun (W : World) (hW : Below w7.heap.size w7 W) => D16.out W (HBA.out.trans (hW.mono HBA.out.size)))
          obtain ⟨c0, c1, c2⟩ := three_cellsT HX7.out
          have HSK := Lib.hid (by
            have h1 := seek_cur HC7.out bs (by have := HS3.out; have := HSE.out; have := HSN.out; unfold two64; omega) (by have := HSE.out; have := HSN.out; omega)
            rw [show seekAt sec 0 0 bs = bs from if_pos ⟨rfl, HS3.out⟩, show seekErr sec 0 bs = 0 by unfold seekErr; rw [if_pos rfl, if_pos HS3.out]] at h1
            exact h1 : Calls Tryd.prog 37 #[.pointer (some ⟨g, 0, none⟩), .int .u64 (bs : Int)] w7 fun r w' => r = .returned (.tuple #[]) ∧ Cur w' g v sec bs 0 ∧ w7.grownBy w' (some g))
          go_upto_region 33 with (go_at_call 37; refine HSK.out.mono ?_; rintro r w8 ⟨rfl, hC, hG⟩; have HC8 := Lib.hid hC; have HX8 := Lib.hid (HX7.out.grown hG (fun e => by injection e with e; exact (HX7.out.other HC7.out.1 (by decide)) e)); have HB8 := Lib.hid (HB7.out.grown hG HB7.out.size (fun y hy => by injection hy with hy; have := HGX.out; omega)); have d18 := (World.cell?_of_block (a := ⟨b', o' + j * 2 + 1, none⟩) (hG.block b' (World.block_lt_of_cell? w7 _ (D17.out w7 (Below.refl _ _))) (fun e => by injection e with e; have h1 := HGX.out; have h2 := HB3L.out; omega))).trans (D17.out w7 (Below.refl _ _)); clear hC hG)
          clear c0 c1 c2 D16 D17 HX6 HX7 HB6 HB7 HC7 HSK HBA
          go_upto_region 34 with fail
          clear d18
          generalize wr = wi at *
          go_loopg [140] ln (fun gk i wx => ∃ m : Nat, m ≤ ln ∧ gk = ln - m ∧ i = .int .i64 m ∧ Hid (Cur wx g v sec (bs + m * n) 0) ∧ Hid (Below w3.heap.size w3 wx) ∧ Hid (Box wx X 86 #[.bool wd, .int .u64 (bs : Int), .slice z.a ln z.c]))
          case atStart => exact ⟨0, Nat.zero_le _, rfl, rfl, Lib.hid (by rw [Nat.zero_mul, Nat.add_zero]; exact HC8.out), HB8, HX8⟩
          case round =>
            obtain ⟨m, hm, rfl, rfl, HC, HBM, HXM⟩ := hrel
            clear HC8 HB8 HX8
            by_cases hml : m < ln
            · have HMLT := Lib.hid hml
              obtain ⟨x, hx⟩ : ∃ x, y.l[m]? = some x := ⟨y.l[m]'(by rw [HLN.out]; exact hml), List.getElem?_eq_getElem _⟩
              obtain ⟨t1, t2, t3⟩ := HS4.out m x hx
              obtain ⟨bx, ox, hya, hbx, cx⟩ := num_atT (HYI.out.below (HB10.out.trans (HBM.out.mono HB10.out.size))) hx
              have HZX := Lib.hid (fun (W : World) (hW : Below w3.heap.size w3 W) => num_atT (HZI.out.below hW) hx)
              obtain ⟨bz, oz, hza, hbz, cz0⟩ := num_atT (HZI.out.below HBM.out) hx
              have CZ := Lib.hid (fun (W : World) (hW : Below w3.heap.size w3 W) => (by
                obtain ⟨b1, o1, e1, -, h1⟩ := num_atT (HZI.out.below hW) hx
                rw [hza] at e1
                injection e1 with e1
                injection e1 with e1 e2 _
                rw [← e1, ← e2] at h1
                exact h1 : W.cell? ⟨bz, oz + m, none⟩ = some (.int .u64 (x : Int))))
              have HAT := Lib.hid (by
                have h1 := at_tb (HT3.out.below HBM.out) HBM.out.size c3 bs m (by rw [HML3.out]; omega) HIT.out
                rw [HML3.out, HM4.out, t1] at h1
                exact h1 : Calls Tryd.prog 31 #[.slice (some ⟨b, o, none⟩) k c3, .int .u64 (bs : Int), .int .u64 (m : Int)] wr fun r w' => r = .returned (.tuple #[.int .u64 (x : Int), .bool true]) ∧ Below wr.heap.size wr w')
              have HUI := Lib.hid (fun (W : World) (hC : Cur W g v sec (bs + m * n) 0) => (by
                have h1 := uint_cur hC (n : Int) (by omega) (by have := HSE.out; have := HSN.out; omega)
                rw [hcl, show leNat (nextGot sec (bs + m * n) 0 n) = x from t3] at h1
                exact h1.mono fun r w' ⟨h2, h3, h4⟩ => ⟨h2, (show Cur w' g v sec (nU sec (bs + m * n, 0) n).1 (nU sec (bs + m * n, 0) n).2 from h3), h4⟩ : Calls Tryd.prog 38 #[.pointer (some ⟨g, 0, none⟩), .int .i64 (n : Int)] W fun r w' => r = .returned (.int .u64 (x : Int)) ∧ Cur w' g v sec (nU sec (bs + m * n, 0) n).1 (nU sec (bs + m * n, 0) n).2 ∧ W.grownBy w' (some g)))
              rw [t2] at HUI
              have sm : IntKind.u64.wrap (m : Int) = (m : Int) := by rw [IntWalk.u64_in _ (by omega)]
              have p3 : ((x : Int) != (x : Int)) = false := by simp
              obtain ⟨c0, c1, c2⟩ := three_cellsT HXM.out
              clear hx t1 t2 t3 hbx hbz cz0 HZX
              rw [hya, hza]
              go_upto_region 37 with (go_at_call 31; refine HAT.out.mono ?_; rintro r w9 ⟨rfl, hb⟩; have HC9 := Lib.hid (HC.out.below hb); have HB9 := Lib.hid (HBM.out.trans (hb.mono HBM.out.size)); have HX9 := Lib.hid (HXM.out.below hb HXM.out.lt); have cz9 := CZ.out w9 HB9.out; clear hb)
              clear c0 c1 c2 cx
              obtain ⟨c0, c1, c2⟩ := three_cellsT HX9.out
              rw [hza] at c2
              go_wp2_with (go_at_call 38; refine (HUI.out _ HC9.out).mono ?_; rintro r w10 ⟨rfl, hC, hG⟩; have HC10 := Lib.hid hC; have HX10 := Lib.hid (HX9.out.grown hG (fun e => by injection e with e; exact (HX9.out.other HC9.out.1 (by decide)) e)); have HB10' := Lib.hid (HB9.out.grown hG HB9.out.size (fun y hy => by injection hy with hy; have := HGX.out; omega)); clear hC hG)
              rw [← hya, ← hza]
              go_roundg (ln - (m + 1))
              case measure => have := HMLT.out; omega
              case rel => exact ⟨m + 1, HMLT.out, rfl, by go_num, HC10, HB10', HX10⟩
            · have hml2 : m = ln := by omega
              subst hml2
              go_wp2_with fail
              go_roundg (k - (j + 1))
              case measure => have := HJK.out; omega
              case rel => exact ⟨j + 1, HJK.out, rfl, by go_num, HBM⟩
        · have hjk2 : j = k := by omega
          subst hjk2
          go_wp2_with fail
          go_ret
          exact ⟨rfl, HB10.out.trans (HBJ.out.mono HB10.out.size)⟩

end Go.Proofs.YtpmpgfngogdfhaaDoor
