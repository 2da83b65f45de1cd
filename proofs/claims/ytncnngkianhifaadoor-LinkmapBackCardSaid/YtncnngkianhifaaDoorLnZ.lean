/-
  LinkmapBack's walk.
-/
import Derived.Test.YtncnngkianhifaaDoorLnX
import Derived.Test.YtncnngkianhifaaDoorLnY
import Derived.Test.YtncnngkianhifaaDoorLmP
import Derived.Test.YtncnngkianhifaaDoorGpT
namespace Go.Proofs.YtncnngkianhifaaDoor
open Go Go.RowKit

/-- Where the images so far end. -/
def lastR (R : List Img) : Nat → Nat
  | 0 => 0
  | k + 1 => match R[k]? with | some x => x.hi | none => 0
theorem lastR_next {R : List Img} {k : Nat} {x : Img} (h : R[k]? = some x) : lastR R (k + 1) = x.hi := by simp only [lastR, h]
theorem lastR_le {R : List Img} {k : Nat} {x : Img} (hp : PartI R) (h : R[k]? = some x) : lastR R k ≤ x.lo := by
  cases k with
  | zero => exact Nat.zero_le _
  | succ k =>
    obtain ⟨hk, rfl⟩ := List.getElem?_eq_some_iff.1 h
    have hk' : k < R.length := by omega
    rw [lastR_next (List.getElem?_eq_getElem hk')]
    exact List.pairwise_iff_getElem.1 hp k (k + 1) hk' hk (by omega)

/-- What New tells, by its value and its refusal. -/
def NewIs (w' : World) (B : Nat) (O : List ObjV) (P : List Place) (Y : List Named) (v : Value) (e : Int) : Prop :=
  (v = .pointer none ∧ (e = 30 ∨ e = 31)) ∨ (e = 0 ∧ ∃ g, v = .pointer (some ⟨g, 0, none⟩) ∧ LinkG w' B g O P Y ∧ refM O [] P Y = false)
theorem newis_any {w : World} {aP aY aO : Option Addr} {cP cY cO : Nat} {P : List Place} {Y : List Named} {O : List ObjV} (hP : Row 3 Place.cells w w.heap.size aP P) (hY : Row 2 Named.cells w w.heap.size aY Y) (hpn : ∀ p ∈ P, p.Nums) (hyn : ∀ y ∈ Y, y.Nums) (hyl : ∀ y ∈ Y, y.name.length ≤ 300)
    (hO : Objs w w.heap.size aO O) (hs : ∀ ob ∈ O, ob.Small) :
    Calls Tryd.prog 9 #[.agg #[.slice aP P.length cP, .slice aY Y.length cY], .slice aO O.length cO, .slice none 0 0] w fun r w' => ∃ v e, r = .returned (.tuple #[v, .int .i64 e]) ∧ Below w.heap.size w w' ∧ NewIs w' w.heap.size O P Y v e := by
  refine (lnew_any (cQ := 0) (Q := []) (aQ := none) hP hY hpn hyn (fun y hy => Nat.le_trans (hyl y hy) (by decide)) hO ⟨fun h => absurd h (by decide), fun q hq => by cases hq⟩ (fun ob hob => Nat.le_trans (hs ob hob).S (by decide)) (fun ob hob x hx => ⟨Nat.le_trans ((hs ob hob).s x hx).1 (by decide), ((hO.ok ob hob).secs.ok x hx).fits.flags⟩)).mono ?_
  rintro r w' ⟨hb, h1, h2⟩
  cases h : refM O [] P Y with
  | true => exact ⟨_, _, h1 h, hb, .inl ⟨rfl, .inl rfl⟩⟩
  | false =>
    by_cases ha : ApartI (imgsP O P)
    · obtain ⟨g, hr, hL⟩ := (h2 h).2 ha
      exact ⟨_, _, hr, hb, .inr ⟨rfl, g, rfl, hL, h⟩⟩
    · exact ⟨_, _, (h2 h).1 ha, hb, .inl ⟨rfl, .inr rfl⟩⟩

set_option maxRecDepth 10000 in
set_option maxHeartbeats 1600000 in
theorem lback11_walk (aP aY aO : Option Addr) (cP cY cO : Nat) (P : List Place) (Y : List Named) (O : List ObjV) (w : World) (hT : Tabs w) (hP : Row 3 Place.cells w w.heap.size aP P) (hY : Row 2 Named.cells w w.heap.size aY Y) (hpn : ∀ p ∈ P, p.Nums) (hyn : ∀ y ∈ Y, y.Nums) (hO : ObjsIn w w.heap.size aO O) :
    Calls Tryd.prog 4 #[.agg #[.slice aP P.length cP, .slice aY Y.length cY], .slice aO O.length cO] w fun r w' => r = .returned (.bool true) ∧ Below w.heap.size w w' := by
  generalize hw0 : w.alloc (.cells #[.slice aP P.length cP, .slice aY Y.length cY] 25) = w0 at *
  have hb0 : Below w.heap.size w w0 := hw0 ▸ (Below.refl _ _).alloc (Nat.le_refl _) _
  have hs0 : w.heap.size < w0.heap.size := by rw [← hw0]; simp
  have hX := Box.new w 25 #[.slice aP P.length cP, .slice aY Y.length cY]
  rw [hw0] at hX
  have HB0 := Lib.hid hb0
  have HX := Lib.hid (fun W (hW : Below w0.heap.size w0 W) => (⟨by rw [(hX.below hW hs0).cell]; rfl, by rw [(hX.below hW hs0).cell]; rfl⟩ : W.cell? ⟨w.heap.size, 0, none⟩ = some (.slice aP P.length cP) ∧ W.cell? ⟨w.heap.size, 1, none⟩ = some (.slice aY Y.length cY)))
  have HI := Lib.hid (fun W (hW : Below w0.heap.size w0 W) => (by
    have h := hb0.trans (hW.mono hb0.size)
    exact ⟨Row.more (Row.below hP h) h.size, Row.more (Row.below hY h) h.size, (hO.below h).more h.size⟩ : Row 3 Place.cells W W.heap.size aP P ∧ Row 2 Named.cells W W.heap.size aY Y ∧ ObjsIn W W.heap.size aO O))
  have HN := Lib.hid (And.intro hpn hyn)
  have HWK := Lib.hid (works11_any (hT.below hb0))
  clear hT hP hY hpn hyn hO hX hb0
  go_enter Tryd.func4, Tryd.ntmps4
  go_upto_region 1 with fail
  try rw [hw0]
  clear hw0
  go_upto_region 3 with (go_at_call 8; refine HWK.out.mono ?_; rintro r w1 ⟨rfl, hb1⟩; have HB1 := Lib.hid hb1; clear hb1)
  obtain ⟨x0, x1⟩ := HX.out _ HB1.out
  have HGR := Lib.hid (great_any (HI.out _ HB1.out).2.2 cO)
  have HLO := Lib.hid (fun W hW => long_any (w := W) (aP := aP) (P := P) cP cY (HI.out W hW).2.1 (Nat.le_refl _))
  have HKX := Lib.hid (fun W hW => HX.out W hW)
  go_wp2_with fail
  refine HGR.out.mono ?_
  rintro r w2 ⟨b, rfl, hsm, hb2⟩
  have HB2 := Lib.hid (HB1.out.trans (hb2.mono HB1.out.size))
  have HSM := Lib.hid hsm
  clear hb2 hsm HGR x0 x1
  obtain ⟨x0, x1⟩ := HX.out _ HB2.out
  cases b with
  | true =>
    go_wp2_with fail
    go_ret
    exact ⟨rfl, HB0.out.trans (HB2.out.mono HB0.out.size)⟩
  | false =>
    obtain ⟨hn10, hs⟩ := HSM.out rfl
    have HS := Lib.hid hs
    have HOB := Lib.hid (fun W (hW : Below w0.heap.size w0 W) => ((HI.out W hW).2.2.objs hs : Objs W W.heap.size aO O))
    go_wp2_with fail
    refine (HLO.out _ HB2.out).mono ?_
    rintro r w3 ⟨b3, rfl, hlg, hb3⟩
    have HB3 := Lib.hid (HB2.out.trans (hb3.mono HB2.out.size))
    have HLG := Lib.hid hlg
    clear hb3 hlg HLO HSM hs x0 x1
    obtain ⟨x0, x1⟩ := HX.out _ HB3.out
    cases b3 with
    | true =>
      go_wp2_with fail
      go_ret
      exact ⟨rfl, HB0.out.trans (HB3.out.mono HB0.out.size)⟩
    | false =>
      obtain ⟨h250, h250y, hnm⟩ := HLG.out rfl
      have HNM := Lib.hid hnm
      clear hnm HLG
      go_upto_region 5 with fail
      have HOS := Lib.hid (fun W hW => objects_any (HOB.out W hW) cO (by omega))
      have HNW := Lib.hid (fun W (hW : Below w0.heap.size w0 W) A4 c4 (h4 : Objs W W.heap.size A4 O) => newis_any (cP := cP) (cY := cY) (cO := c4) (HI.out W hW).1 (HI.out W hW).2.1 HN.out.1 HN.out.2 HNM.out h4 HS.out)
      have hA3 := HB3.out
      go_region_held_law (fun W => W.cell? ⟨w.heap.size, 0, none⟩ = some (.slice aP P.length cP) ∧ W.cell? ⟨w.heap.size, 1, none⟩ = some (.slice aY Y.length cY))
        ((refine HX.out _ ?_; first | assumption | exact hA3.drew))
        (first
          | (go_at_call 10; refine (HOS.out _ hA3.drew).mono ?_; rintro r w4 ⟨A4, c4, rfl, -, hO4, hb4⟩; have hA4 := hA3.drew.trans (hb4.mono hA3.size); clear hb4)
          | (go_at_call 9; refine (HNW.out _ hA4 _ _ hO4).mono ?_; rintro r w5 ⟨v5, e5, rfl, hb5, hN5⟩; have hA5 := hA4.trans (hb5.mono hA4.size); have HN5 := Lib.hid hN5; clear hb5 hN5))
      have HB5 := Lib.hid hA5
      clear hA3 hA4 hA5 hO4 HOS HNW HWK HI HNM HB3 HB2 HB1 x0 x1 h250 h250y HX HKX HN
      rcases HN5.out with ⟨rfl, rfl | rfl⟩ | ⟨rfl, g, rfl, hLG, hRF⟩
      · go_wp2_with fail
        go_ret
        exact ⟨rfl, HB0.out.trans (HB5.out.mono HB0.out.size)⟩
      · go_wp2_with fail
        go_ret
        exact ⟨rfl, HB0.out.trans (HB5.out.mono HB0.out.size)⟩
      · obtain ⟨R, hIM, hPM, -, hPT⟩ := hLG.imgs
        have HM := Lib.hid (mapR_of hRF hPM hPT)
        have HIM := Lib.hid (fun W (hW : Below w5.heap.size w5 W) => hIM.below hW)
        have hPL := hLG.places
        have HPL := Lib.hid (fun W (hW : Below w5.heap.size w5 W) => hPL.below hW)
        have HOO := Lib.hid (fun W (hW : Below w5.heap.size w5 W) => HOB.out W (HB5.out.trans (hW.mono HB5.out.size)))
        obtain ⟨N, hN⟩ : ∃ N, O.length = N := ⟨_, rfl⟩
        have HNO := Lib.hid hN
        rw [hN] at hn10
        have HE := Lib.hid (HB0.out.trans (HB5.out.mono HB0.out.size))
        clear hIM hPM hPT hLG hRF HN5 HOB HB5 hPL
        go_upto_region 9 with fail
        rw [hN]
        clear hN
        go_loopg [54] N (fun gk i wr => ∃ k : Nat, k ≤ N ∧ gk = N - k ∧ i = .int .i64 k ∧ Hid (Below w5.heap.size w5 wr))
        case atStart => exact ⟨0, Nat.zero_le _, rfl, rfl, Lib.hid (Below.refl _ _)⟩
        case round =>
          obtain ⟨i, hi, rfl, rfl, HB⟩ := hrel
          by_cases hlt : i < N
          · have HLT := Lib.hid hlt
            obtain ⟨ob, hob⟩ : ∃ ob, O[i]? = some ob := ⟨_, List.getElem?_eq_getElem (by rw [HNO.out]; exact hlt)⟩
            obtain ⟨b, oo, rfl, hb, c0, c1, c2, c3, c4⟩ := (HOO.out _ HB.out).at_ hob
            have HOBI := Lib.hid hob
            have hLl := (HS.out ob (List.mem_of_getElem? hob)).S
            have HSE := Lib.hid (fun W (hW : Below w5.heap.size w5 W) => ((HOO.out W hW).ok ob (List.mem_of_getElem? hob)).secs)
            have HSS := Lib.hid ((HS.out ob (List.mem_of_getElem? hob)).s)
            generalize ob.aS = aS at *
            obtain ⟨M, hM⟩ : ∃ M, ob.L.length = M := ⟨_, rfl⟩
            have HMM := Lib.hid hM
            rw [hM] at c2 hLl
            clear hM
            obtain ⟨w6, hw6⟩ : ∃ w6, wr.alloc (.cells #[.int .i64 ob.kind, .int .i64 ob.machine, .slice aS M ob.cS, .slice ob.aY ob.Y.length ob.cY, .slice ob.aR ob.Q.length ob.cR] 48) = w6 := ⟨_, rfl⟩
            have hb6 : Below wr.heap.size wr w6 := hw6 ▸ (Below.refl _ _).alloc (Nat.le_refl _) _
            have hX6 := Box.new wr 48 #[.int .i64 ob.kind, .int .i64 ob.machine, .slice aS M ob.cS, .slice ob.aY ob.Y.length ob.cY, .slice ob.aR ob.Q.length ob.cR]
            rw [hw6] at hX6
            have HB6 := Lib.hid (HB.out.trans (hb6.mono HB.out.size))
            have HW6 := Lib.hid hw6
            obtain ⟨y0, y1, y2, y3, y4⟩ := five_cells hX6
            have hd0 : decide ((i : Int) < (N : Int)) = true := decide_eq_true (by omega)
            have hd0n : decide (i < N) = true := decide_eq_true hlt
            clear hlt hob hX6 hb6 hw6
            go_upto_region 11 with fail
            rw [HW6.out]
            clear c0 c1 c2 c3 c4 HW6
            go_upto_region 12 with fail
            clear y0 y1 y2 y3 y4 hd0 hd0n
            go_loopg [62] M (fun gk i wr => ∃ k : Nat, k ≤ M ∧ gk = M - k ∧ i = .int .i64 k ∧ Hid (Below w5.heap.size w5 wr))
            case atStart => exact ⟨0, Nat.zero_le _, rfl, rfl, HB6⟩
            case round =>
              obtain ⟨k, hk, rfl, rfl, HB7⟩ := hrel
              by_cases hlt : k < M
              · have HLT2 := Lib.hid hlt
                obtain ⟨x, hx⟩ : ∃ x, ob.L[k]? = some x := ⟨_, List.getElem?_eq_getElem (by rw [HMM.out]; exact hlt)⟩
                obtain ⟨b7, o7, rfl, hb7, d0, d1, d2, d3, d4, d5, d6, d7, d8⟩ := (HSE.out _ HB7.out).at_ hx
                have HSX := Lib.hid (show secK O (i : Int) (k : Int) = some x by
                  unfold secK
                  rw [if_pos (by omega)]
                  simp only [Int.toNat_natCast, HOBI.out, Option.bind_some]
                  exact hx)
                have hdl := (HSS.out x (List.mem_of_getElem? hx)).1
                obtain ⟨D, hD⟩ : ∃ D, x.s.data.length = D := ⟨_, rfl⟩
                have HDD := Lib.hid hD
                rw [hD] at d4 hdl
                clear hD
                obtain ⟨w8, hw8⟩ : ∃ w8, wr.alloc (.cells #[.string ⟨x.s.name.toArray⟩, .int .i64 x.s.kind, .int .u64 (x.s.flags : Int), .int .u64 (x.s.addr : Int), .slice x.A D x.c, .int .i64 x.s.link, .int .i64 x.s.inf, .int .i64 x.s.algn, .int .i64 x.s.ent] 67) = w8 := ⟨_, rfl⟩
                have hb8 : Below wr.heap.size wr w8 := hw8 ▸ (Below.refl _ _).alloc (Nat.le_refl _) _
                have hX8 := Box.new wr 67 #[.string ⟨x.s.name.toArray⟩, .int .i64 x.s.kind, .int .u64 (x.s.flags : Int), .int .u64 (x.s.addr : Int), .slice x.A D x.c, .int .i64 x.s.link, .int .i64 x.s.inf, .int .i64 x.s.algn, .int .i64 x.s.ent]
                rw [hw8] at hX8
                have hs8 : wr.heap.size < w8.heap.size := by rw [← hw8]; simp
                have HB8 := Lib.hid (HB7.out.trans (hb8.mono HB7.out.size))
                have HW8 := Lib.hid hw8
                have HX8 := Lib.hid (fun W (hW : Below w8.heap.size w8 W) => (by rw [(hX8.below hW hs8).cell]; rfl : W.cell? ⟨wr.heap.size, 4, none⟩ = some (.slice x.A D x.c)))
                have hii : InI (i : Int) := by unfold InI; omega
                have hki : InI (k : Int) := by unfold InI; omega
                have HOUT := Lib.hid (lnout_any (HPL.out _ HB8.out) hii hki)
                have hd1 : decide ((k : Int) < (M : Int)) = true := decide_eq_true (by omega)
                have hd1n : decide (k < M) = true := decide_eq_true hlt
                clear hx hlt hw8 hb8 hX8 hii hki
                go_upto_region 14 with fail
                rw [HW8.out]
                clear d0 d1 d2 d3 d4 d5 d6 d7 d8 HW8
                cases hok : (outK P (i : Int) (k : Int)).isSome with
                | false =>
                  rw [hok] at HOUT
                  clear hok
                  go_wp2_with (go_at_call 12; refine HOUT.out.mono ?_; rintro r w9 ⟨rfl, hw9⟩; have hw9' := hw9.symm; subst hw9')
                  go_roundg (M - (k + 1))
                  case measure => have := HLT2.out; omega
                  case rel => exact ⟨k + 1, HLT2.out, rfl, by go_num, HB8⟩
                | true =>
                  obtain ⟨p, hpP, hpo, hps, hpa⟩ := outK_place hok
                  rw [hok, hpa] at HOUT
                  have hsz : sizK O p = D := by unfold sizK; rw [hpo, hps, HSX.out]; exact HDD.out
                  have hfit : p.addr + D < 18446744073709551615 := by have := HM.out.fit p hpP; rwa [hsz] at this
                  have HIN := Lib.hid (fun W (hW : Below w5.heap.size w5 W) n (hn : n < D) => (by
                    have h := in_any (HIM.out W hW) HM.out.part HM.out.le (Nat.le_trans HM.out.len (by decide)) (p.addr + n) (by unfold two64; omega)
                    rw [HM.out.back hpP (by rw [hsz]; exact hn), hpo, hps] at h
                    exact h : Calls Tryd.prog 14 #[.pointer (some ⟨g, 0, none⟩), .int .u64 ((p.addr : Int) + (n : Int))] W fun r w' => r = .returned (.tuple #[.int .i64 (i : Int), .int .i64 (k : Int), .int .u64 (n : Int), .bool true]) ∧ Below W.heap.size W w'))
                  have HEND := Lib.hid (fun W (hW : Below w5.heap.size w5 W) => (by
                    refine (in_any (HIM.out W hW) HM.out.part HM.out.le (Nat.le_trans HM.out.len (by decide)) (p.addr + D) (by unfold two64; omega)).mono ?_
                    rintro r w' ⟨rfl, hb⟩
                    unfold inV
                    cases hat : atI R (p.addr + D) with
                    | none => exact ⟨_, _, _, _, rfl, fun h => by simp at h, hb⟩
                    | some y =>
                      refine ⟨_, _, _, _, rfl, fun _ => ?_, hb⟩
                      rw [← hsz] at hat
                      have := HM.out.behind hpP hat
                      rw [hpo, hps] at this
                      exact this : Calls Tryd.prog 14 #[.pointer (some ⟨g, 0, none⟩), .int .u64 ((p.addr : Int) + (D : Int))] W fun r w' => ∃ (o s : Int) (f : Int) (b : Bool), r = .returned (.tuple #[.int .i64 o, .int .i64 s, .int .u64 f, .bool b]) ∧ (b = true → ¬ (o = (i : Int) ∧ s = (k : Int))) ∧ Below W.heap.size W w'))
                  clear hok hpP hpo hps hpa hsz
                  generalize p.addr = pa at *
                  go_upto_region 16 with (go_at_call 12; refine HOUT.out.mono ?_; rintro r w9 ⟨rfl, hw9⟩; have hw9' := hw9.symm; subst hw9')
                  go_upto_region 17 with fail
                  go_loopg [13] D (fun gk i wr => ∃ n : Nat, n ≤ D ∧ gk = D - n ∧ i = .int .i64 n ∧ Hid (Below w8.heap.size w8 wr))
                  case atStart => exact ⟨0, Nat.zero_le _, rfl, rfl, Lib.hid (Below.refl _ _)⟩
                  case round =>
                    obtain ⟨n, hn, rfl, rfl, HB10⟩ := hrel
                    have z4 := HX8.out _ HB10.out
                    by_cases hnD : n < D
                    · have HLT3 := Lib.hid hnD
                      by_cases hsk : 0 < n % 5 ∧ n + 1 < D
                      · have d5 : decide ((0 : Int) < (n : Int) % 5) = true := decide_eq_true (by omega)
                        have d6 : decide ((n : Int) < (D : Int) - 1) = true := decide_eq_true (by omega)
                        clear hsk hnD
                        go_wp2_with fail
                        go_roundg (D - (n + 1))
                        case measure => have := HLT3.out; omega
                        case rel => exact ⟨n + 1, HLT3.out, rfl, by go_num, HB10⟩
                      · have HI10 := Lib.hid (HIN.out wr (HB8.out.trans (HB10.out.mono HB8.out.size)) n hnD)
                        have hwr : IntKind.u64.wrap ((pa : Int) + (n : Int)) = (pa : Int) + (n : Int) := by rw [IntKind.wrap_u64]; omega
                        have hwn : IntKind.u64.wrap (n : Int) = (n : Int) := by rw [IntKind.wrap_u64]; omega
                        by_cases h5 : 0 < n % 5
                        · have d5 : decide ((0 : Int) < (n : Int) % 5) = true := decide_eq_true (by omega)
                          have d6 : decide ((n : Int) < (D : Int) - 1) = false := decide_eq_false (by omega)
                          clear hsk h5 hnD
                          go_wp2_with (go_at_call 14; refine HI10.out.mono ?_; rintro r w11 ⟨rfl, hb11⟩; have HB11 := Lib.hid (HB10.out.trans (hb11.mono HB10.out.size)); clear hb11)
                          go_roundg (D - (n + 1))
                          case measure => have := HLT3.out; omega
                          case rel => exact ⟨n + 1, HLT3.out, rfl, by go_num, HB11⟩
                        · have d5 : decide ((0 : Int) < (n : Int) % 5) = false := decide_eq_false (by omega)
                          clear hsk h5 hnD
                          go_wp2_with (go_at_call 14; refine HI10.out.mono ?_; rintro r w11 ⟨rfl, hb11⟩; have HB11 := Lib.hid (HB10.out.trans (hb11.mono HB10.out.size)); clear hb11)
                          go_roundg (D - (n + 1))
                          case measure => have := HLT3.out; omega
                          case rel => exact ⟨n + 1, HLT3.out, rfl, by go_num, HB11⟩
                    · have hnD2 : n = D := by omega
                      clear hnD
                      subst hnD2
                      have HI10 := Lib.hid (HEND.out wr (HB8.out.trans (HB10.out.mono HB8.out.size)))
                      have hwr : IntKind.u64.wrap ((pa : Int) + (n : Int)) = (pa : Int) + (n : Int) := by rw [IntKind.wrap_u64]; omega
                      have HB11 := Lib.hid (HB8.out.trans (HB10.out.mono HB8.out.size))
                      go_upto_region 24 with (go_at_call 14; refine HI10.out.mono ?_; rintro r w12 ⟨o, t, f, bb, rfl, hne, hb12⟩; have HB12 := Lib.hid (HB11.out.trans (hb12.mono HB11.out.size)); have HNE := Lib.hid hne; clear hb12 hne)
                      have hd1 : decide ((k : Int) < (M : Int)) = true := decide_eq_true (by have := HLT2.out; omega)
                      have hd1n : decide (k < M) = true := decide_eq_true HLT2.out
                      cases bb with
                      | false =>
                        go_wp2_with fail
                        go_roundg (M - (k + 1))
                        case measure => have := HLT2.out; omega
                        case rel => exact ⟨k + 1, HLT2.out, rfl, by go_num, HB12⟩
                      | true =>
                        by_cases ho : o = (i : Int)
                        · have ht : ¬ t = (k : Int) := fun e => HNE.out rfl ⟨ho, e⟩
                          have q1 : (o == (i : Int)) = true := by simp [ho]
                          have q2 : (t == (k : Int)) = false := by simp [ht]
                          clear ho ht
                          go_wp2_with fail
                          go_roundg (M - (k + 1))
                          case measure => have := HLT2.out; omega
                          case rel => exact ⟨k + 1, HLT2.out, rfl, by go_num, HB12⟩
                        · have q1 : (o == (i : Int)) = false := by simp [ho]
                          clear ho
                          go_wp2_with fail
                          go_roundg (M - (k + 1))
                          case measure => have := HLT2.out; omega
                          case rel => exact ⟨k + 1, HLT2.out, rfl, by go_num, HB12⟩
              · have hkM : k = M := by omega
                clear hlt
                subst hkM
                have hd0 : decide ((i : Int) < (N : Int)) = true := decide_eq_true (by have := HLT.out; omega)
                go_wp2_with fail
                go_roundg (N - (i + 1))
                case measure => have := HLT.out; omega
                case rel => exact ⟨i + 1, HLT.out, rfl, by go_num, HB7⟩
          · have hiN : i = N := by omega
            clear hlt
            subst hiN
            have HIMG := Lib.hid (images_any (HIM.out _ HB.out) (Nat.le_trans HM.out.len (by decide)))
            obtain ⟨Z, hZ⟩ : ∃ Z, R.length = Z := ⟨_, rfl⟩
            have HZ := Lib.hid hZ
            have hz200 : Z ≤ 200 := by rw [← hZ]; exact HM.out.len
            have hzs : (R.map Img.span).length = Z := by rw [List.length_map, hZ]
            have HZS := Lib.hid hzs
            clear hZ hzs
            go_upto_region 30 with (go_at_call 22; refine HIMG.out.mono ?_; rintro r w6 ⟨u6, rfl, hO6, hb6⟩; obtain ⟨A6, c6, rfl, -, -, hr6⟩ := owng_row hO6; rw [HZS.out]; have HB6 := Lib.hid (HB.out.trans (hb6.mono HB.out.size)); have HR6 := Lib.hid hr6; clear hO6 hb6 hr6)
            go_loopg [22, 152] Z (fun gk la j wr => ∃ q : Nat, q ≤ Z ∧ gk = Z - q ∧ la = .int .u64 ((lastR R q : Nat) : Int) ∧ j = .int .i64 q ∧ Hid (Below w6.heap.size w6 wr))
            case atStart => exact ⟨0, Nat.zero_le _, rfl, rfl, rfl, Lib.hid (Below.refl _ _)⟩
            case round =>
              obtain ⟨q, hq, rfl, rfl, rfl, HB7⟩ := hrel
              by_cases hlt : q < Z
              · have HLT := Lib.hid hlt
                obtain ⟨x, hx⟩ : ∃ x, R[q]? = some x := ⟨_, List.getElem?_eq_getElem (by rw [HZ.out]; exact hlt)⟩
                have hxR := List.mem_of_getElem? hx
                have HRW := HR6.out.below HB7.out
                obtain ⟨b, o, rfl, hb, c0', c1'⟩ := span_at HRW (r := x.span) (by rw [List.getElem?_map, hx]; rfl)
                have hla := lastR_le HM.out.part hx
                have HLN := Lib.hid (lastR_next hx)
                have hlh := HM.out.lt x hxR
                have hhi := HM.out.hi hxR
                have HBW := Lib.hid (HB6.out.trans (HB7.out.mono HB6.out.size))
                have HW1 := Lib.hid (fun W (hW : Below w5.heap.size w5 W) => (by
                  have h := whole_any (HIM.out W hW) HM.out.part HM.out.le (Nat.le_trans HM.out.len (by decide)) x.lo x.hi
                  rw [(HM.out.whole hxR).1] at h
                  exact h : Calls Tryd.prog 17 #[.pointer (some ⟨g, 0, none⟩), .agg #[.int .u64 (x.lo : Int), .int .u64 (x.hi : Int)]] W fun r w' => r = .returned (.bool true) ∧ Below W.heap.size W w'))
                have HW2 := Lib.hid (fun W (hW : Below w5.heap.size w5 W) => (by
                  have h := whole_any (HIM.out W hW) HM.out.part HM.out.le (Nat.le_trans HM.out.len (by decide)) x.lo (x.hi + 1)
                  rw [(HM.out.whole hxR).2] at h
                  exact h : Calls Tryd.prog 17 #[.pointer (some ⟨g, 0, none⟩), .agg #[.int .u64 (x.lo : Int), .int .u64 ((x.hi : Int) + 1)]] W fun r w' => r = .returned (.bool false) ∧ Below W.heap.size W w'))
                have c0 : wr.cell? ⟨b, o + q * 2, none⟩ = some (.int .u64 (x.lo : Int)) := c0'
                have c1 : wr.cell? ⟨b, o + q * 2 + 1, none⟩ = some (.int .u64 (x.hi : Int)) := c1'
                clear c0' c1'
                clear hx hxR
                generalize x.lo = xl at *
                generalize x.hi = xh at *
                generalize lastR R q = la at *
                have hwr : IntKind.u64.wrap ((xh : Int) + 1) = (xh : Int) + 1 := by rw [IntKind.wrap_u64]; omega
                have d1 : decide ((xl : Int) < (la : Int)) = false := decide_eq_false (by omega)
                have d1n : decide (xl < la) = false := decide_eq_false (by omega)
                have d2 : decide ((xh : Int) ≤ (xl : Int)) = false := decide_eq_false (by omega)
                have d2n : decide (xh ≤ xl) = false := decide_eq_false (by omega)
                obtain ⟨w8, hw8⟩ : ∃ w8, wr.alloc (.cells #[.int .u64 (xl : Int), .int .u64 (xh : Int)] 58) = w8 := ⟨_, rfl⟩
                have hb8 : Below wr.heap.size wr w8 := hw8 ▸ (Below.refl _ _).alloc (Nat.le_refl _) _
                have hX8 := Box.new wr 58 #[.int .u64 (xl : Int), .int .u64 (xh : Int)]
                rw [hw8] at hX8
                have hs8 : wr.heap.size < w8.heap.size := by rw [← hw8]; simp
                have HX8 := Lib.hid (fun W (hW : Below w8.heap.size w8 W) => (⟨by rw [(hX8.below hW hs8).cell]; rfl, by rw [(hX8.below hW hs8).cell]; rfl⟩ : W.cell? ⟨wr.heap.size, 0, none⟩ = some (.int .u64 (xl : Int)) ∧ W.cell? ⟨wr.heap.size, 1, none⟩ = some (.int .u64 (xh : Int))))
                have HB8 := Lib.hid (HBW.out.trans (hb8.mono HBW.out.size))
                have HB78 := Lib.hid (HB7.out.trans (hb8.mono HB7.out.size))
                have HW8 := Lib.hid hw8
                obtain ⟨y0, y1⟩ := HX8.out _ (Below.refl _ _)
                clear hlt hla hlh hhi hw8 hb8 hX8 HRW
                go_upto_region 32 with fail
                rw [HW8.out]
                clear c0 c1 HW8
                go_wp2_with (first
                  | (go_at_call 17; refine (HW1.out _ HB8.out).mono ?_; rintro r w9 ⟨rfl, hb9⟩; have HB9 := Lib.hid (HB8.out.trans (hb9.mono HB8.out.size)); have HB79 := Lib.hid (HB78.out.trans (hb9.mono HB78.out.size)); have HB89 := Lib.hid hb9; clear y0 y1; (obtain ⟨y0, y1⟩ := HX8.out _ hb9); clear hb9 HW1)
                  | (go_at_call 17; refine (HW2.out _ HB9.out).mono ?_; rintro r w10 ⟨rfl, hb10⟩; have HB10 := Lib.hid (HB79.out.trans (hb10.mono HB79.out.size)); clear y0 y1; (obtain ⟨y0, y1⟩ := HX8.out _ (HB89.out.trans (hb10.mono HB89.out.size))); clear hb10))
                go_roundg (Z - (q + 1))
                case measure => have := HLT.out; omega
                case rel => exact ⟨q + 1, HLT.out, rfl, by rw [HLN.out], by go_num, HB10⟩
              · have hqZ : q = Z := by omega
                clear hlt
                subst hqZ
                go_wp2_with fail
                go_ret
                exact ⟨rfl, HE.out.trans ((HB6.out.trans (HB7.out.mono HB6.out.size)).mono HE.out.size)⟩

/-- The same, in the order in which a card has them. -/
theorem lback11_card (aP : Option Addr) (P : List Place) (cP : Nat) (aY : Option Addr) (Y : List Named) (cY : Nat) (aO : Option Addr) (cO : Nat) (O : List ObjV) (w : World) (hT : Tabs w) (hP : Row 3 Place.cells w w.heap.size aP P) (hY : Row 2 Named.cells w w.heap.size aY Y) (hpn : ∀ p ∈ P, p.Nums) (hyn : ∀ y ∈ Y, y.Nums) (hO : ObjsIn w w.heap.size aO O) :
    Calls Tryd.prog 4 #[.agg #[.slice aP P.length cP, .slice aY Y.length cY], .slice aO O.length cO] w fun r w' => r = .returned (.bool true) ∧ Below w.heap.size w w' :=
  lback11_walk aP aY aO cP cY cO P Y O w hT hP hY hpn hyn hO

end Go.Proofs.YtncnngkianhifaaDoor
