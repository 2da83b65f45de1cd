/-
  AbbrevBack's walk.
-/
import Derived.Test.YtpmndmbhkfbljaaAbL
import Derived.Test.YtpmndmbhkfbljaaRefP
import Derived.Test.YtpmndmbhkfbljaaSyT
import Derived.Deep.DeepCutAuto
import Derived.Deep.LoopGhost
import Derived.Test.YtpmndmbhkfbljaaRefU
import Derived.Test.YtpmndmbhkfbljaaAbK
import Derived.Test.YtpmndmbhkfbljaaLawA
namespace Go.Proofs.Ytpmndmbhkfbljaa
open Go Go.RowKit Go.Maps

theorem rputU_rd (w : World) (x : Nat) (hx : x < 2 ^ 64) :
    Calls Try.prog 32 #[.int .u64 (x : Int)] w fun r w' => ∃ A c, r = .returned (.slice A (lebPut (sizeU x) (x : Int)).length c) ∧ Rd w' w'.heap.size A (lebPut (sizeU x) (x : Int)) ∧ Below w.heap.size w w' :=
  (rputU_any w x hx).mono fun r w' ⟨v, e, ho, hb⟩ => by
    obtain ⟨A, c, rfl, _, _, hr⟩ := own_slice ho
    exact ⟨A, c, e, hr, hb⟩
theorem rputS_rd (w : World) (x : Int) (hx : InI x) :
    Calls Try.prog 33 #[.int .i64 x] w fun r w' => ∃ A c, r = .returned (.slice A (lebPut (sizeS x) x).length c) ∧ Rd w' w'.heap.size A (lebPut (sizeS x) x) ∧ Below w.heap.size w w' :=
  (rputS_any w x hx).mono fun r w' ⟨v, e, ho, hb⟩ => by
    obtain ⟨A, c, rfl, _, _, hr⟩ := own_slice ho
    exact ⟨A, c, e, hr, hb⟩
theorem abb_cells {w wr : World} {b o : Nat} {L : List ALay} (h : Abbs w w.heap.size (some ⟨b, o, none⟩) L) (hb : Below w.heap.size w wr) {i : Nat} {y : ALay} (hy : L[i]? = some y) :
    wr.cell? ⟨b, o + i * 4, none⟩ = some (.int .u64 (y.x.code : Int)) ∧ wr.cell? ⟨b, o + i * 4 + 1, none⟩ = some (.int .i64 y.x.tag) ∧ wr.cell? ⟨b, o + i * 4 + 2, none⟩ = some (.bool y.x.kids) ∧ wr.cell? ⟨b, o + i * 4 + 3, none⟩ = some (.slice y.a y.x.l.length y.c) := by
  obtain ⟨b', o', e, _, k⟩ := abb_at (h.below hb) hy
  cases e
  exact k
theorem RelSt.size {w wr : World} {u : Value} {T : List UInt8} (h : RelSt w wr u T) : w.heap.size ≤ wr.heap.size := h.below.size

set_option maxRecDepth 10000 in
set_option maxHeartbeats 6400000 in
theorem rputA_any {w : World} {a : Option Addr} {L : List ALay} (h : Abbs w w.heap.size a L) (c : Nat) (hl : L.length ≤ 100000) (hin : ∀ y ∈ L, y.x.In) :
    Calls Try.prog 16 #[.slice a L.length c] w fun r w' => ∃ v', r = .returned (.tuple #[v', .int .i64 (putAE (absOf L))]) ∧
      Own w' w.heap.size v' (if rightA (absOf L) = true then tabB (absOf L) else []) ∧ Below w.heap.size w w' := by
  obtain ⟨i0, hi, hz0, hz1, hz2⟩ := info_parts u8_info
  have HR := Lib.hid (rrightA_any h c hl (lays_in hin))
  obtain ⟨q, hq⟩ : ∃ q, rightA (absOf L) = q := ⟨_, rfl⟩
  rw [hq] at HR ⊢
  cases q with
  | false =>
    have HE := Lib.hid (show putAE (absOf L) = 2 by unfold putAE; rw [if_neg (by rw [hq]; simp)])
    clear h hin hq
    generalize L.length = N at *
    go_enter Try.func16, Try.ntmps16
    go_wp2_with (go_at_call 18; refine HR.out.mono ?_; rintro r w1 ⟨rfl, hb1⟩; have HB1 := Lib.hid hb1; clear hb1)
    go_ret2
    exact ⟨_, by rw [HE.out]; rfl, World.ownsRow_nil _ _ _ _, HB1.out⟩
  | true =>
    have HE := Lib.hid (show putAE (absOf L) = 0 by unfold putAE; rw [if_pos hq])
    obtain ⟨h300, hall, -⟩ := rightA_spec hq
    rw [absOf_length] at h300
    have HALL := Lib.hid hall
    have HIN := Lib.hid hin
    have HAB := Lib.hid h
    obtain ⟨N, hN⟩ : ∃ N, L.length = N := ⟨_, rfl⟩
    have HN := Lib.hid hN
    rw [hN] at h300 hl ⊢
    rw [hN] at HR
    clear h hin hq hall hN
    have HAI := Lib.hid (show ∀ x ∈ absOf L, x.In from fun x hx => by
      obtain ⟨y, hy, rfl⟩ := List.mem_map.1 hx
      exact HIN.out y hy)
    have HPU := Lib.hid rputU_rd
    have HPS := Lib.hid rputS_rd
    go_enter Try.func16, Try.ntmps16
    go_upto_region 3 with (go_at_call 18; refine HR.out.mono ?_; rintro r w1 ⟨rfl, hb1⟩; have HB1 := Lib.hid hb1; clear hb1)
    have HST := Lib.hid (show RelSt w w1 (.slice none 0 0) (abbsB ((absOf L).take 0)) from ⟨World.ownsRow_nil _ _ _ _, HB1.out⟩)
    clear HB1 HR
    go_wp2_with fail
    go_loopg [4, 5] N (fun gk u z wr => ∃ j : Nat, j ≤ N ∧ gk = N - j ∧ z = .int .i64 j ∧ Hid (RelSt w wr u (abbsB ((absOf L).take j))))
    case atStart => exact ⟨0, Nat.zero_le _, rfl, rfl, HST⟩
    case round =>
      obtain ⟨j, hj, rfl, rfl, HS0⟩ := hrel
      clear HST
      have HLN := Lib.hid (show (abbsB ((absOf L).take j)).length ≤ 390000 by
        have h1 := abbsB_len (l := (absOf L).take j) (by rw [List.all_eq_true]; intro x hx; exact List.all_eq_true.1 HALL.out x (List.mem_of_mem_take hx)) (fun x hx => HAI.out x (List.mem_of_mem_take hx))
        have h2 : ((absOf L).take j).length ≤ 300 := by rw [List.length_take]; omega
        omega)
      by_cases hlt : j < N
      · have HLT := Lib.hid hlt
        obtain ⟨y, hy⟩ : ∃ y, L[j]? = some y := ⟨_, List.getElem?_eq_getElem (by rw [HN.out]; exact hlt)⟩
        have hym := List.mem_of_getElem? hy
        have hab := HAB.out
        obtain ⟨b, o, rfl, hb, c0, c1, c2, c3⟩ := abb_at (hab.below HS0.out.below) hy
        have HC := Lib.hid (fun W (hW : Below w.heap.size w W) => abb_cells HAB.out hW hy)
        have HTK := Lib.hid (abbsB_take (absOf_at hy))
        have hok := all_at HALL.out (absOf_at hy)
        have HSP := Lib.hid (HAB.out.spcs y hym)
        have HYI := Lib.hid (HIN.out y hym)
        obtain ⟨-, htg, h40, hal, -⟩ := okA_spec hok
        obtain ⟨t, ht, ht1, ht6⟩ := numbK_nat htg
        have HAL := Lib.hid hal
        have HAB1 := Lib.hid (show abbB y.x = lebPut (sizeU y.x.code) (y.x.code : Int) ++ lebPut (sizeU t) (t : Int) ++ [kidB y.x.kids] ++ spcsB y.x.l ++ [0, 0] by unfold abbB; rw [ht, Int.toNat_natCast])
        rw [ht] at HC c1
        obtain ⟨M, hM⟩ : ∃ M, y.x.l.length = M := ⟨_, rfl⟩
        have HM := Lib.hid hM
        rw [hM] at h40 HC c3
        have hcd : y.x.code < 2 ^ 64 := by have := HYI.out.code; unfold two64 at this; omega
        have HCD := Lib.hid hcd
        have hl1 := putU_len hcd
        have hl2 := putU_len (n := t) (by omega)
        have hct : IntKind.u64.wrap (t : Int) = (t : Int) := by rw [IntWalk.u64_in _ (by omega)]
        have HSI := Lib.hid HYI.out.spcs
        clear hy hym hab hok htg hal ht hM hcd HYI
        generalize y.x.code = cd at *
        generalize y.x.kids = kd at *
        generalize y.x.l = yl at *
        generalize y.a = ya at *
        generalize y.c = yc at *
        generalize abbB y.x = YB at *
        generalize hT : abbsB ((absOf L).take j) = T at *
        generalize hP1 : lebPut (sizeU cd) (cd : Int) = P1 at *
        generalize hP2 : lebPut (sizeU t) (t : Int) = P2 at *
        have HPU1 := Lib.hid (fun W => (by have := HPU.out W cd HCD.out; rwa [hP1] at this : Calls Try.prog 32 #[.int .u64 (cd : Int)] W fun r w' => ∃ A c, r = .returned (.slice A P1.length c) ∧ Rd w' w'.heap.size A P1 ∧ Below W.heap.size W w'))
        have HPU2 := Lib.hid (fun W => (by have := HPU.out W t (by omega); rwa [hP2] at this : Calls Try.prog 32 #[.int .u64 (t : Int)] W fun r w' => ∃ A c, r = .returned (.slice A P2.length c) ∧ Rd w' w'.heap.size A P2 ∧ Below W.heap.size W w'))
        have S1 := Lib.hid (show T.length + P1.length ≤ 140737488355328 by have := HLN.out; omega)
        have S2 := Lib.hid (show (T ++ P1).length + P2.length ≤ 140737488355328 by have := HLN.out; rw [List.length_append]; omega)
        have S3 := Lib.hid (show (T ++ P1 ++ P2).length + [kidB kd].length ≤ 140737488355328 by have := HLN.out; simp only [List.length_append, List.length_cons, List.length_nil]; omega)
        have HXL := Lib.hid (show (T ++ P1 ++ P2 ++ [kidB kd]).length ≤ 390100 by have := HLN.out; simp only [List.length_append, List.length_cons, List.length_nil]; omega)
        clear hT hP1 hP2 hl1 hl2
        obtain ⟨n1, hn1⟩ : ∃ n, P1.length = n := ⟨_, rfl⟩
        obtain ⟨n2, hn2⟩ : ∃ n, P2.length = n := ⟨_, rfl⟩
        have HN1 := Lib.hid hn1
        have HN2 := Lib.hid hn2
        rw [hn1] at HPU1
        rw [hn2] at HPU2
        clear hn1 hn2
        go_upto_region 8 with (first
          | (go_at_call 32; refine (HPU1.out _).mono ?_; rintro r w2 ⟨A2, d2, rfl, hr2, hb2⟩; have ho2 := own_below HS0.out.row hb2; have hz2' : w.heap.size ≤ w2.heap.size := Nat.le_trans HS0.out.size hb2.size)
          | (at_builtin; refine wpList_append_bytes (by rfl) (.tmp 18) (.tmp 24) _ (by rfl) w.heap.size i0 Try.underlying22 hi hz0 hz1 hz2 _ T (by rfl) ho2 w2.heap.size A2 n1 d2 P1 HN1.out (by rfl) hr2 S1.out hz2' ?_; intro v3 w3 hown3 hg3 hat3; have HS1 := Lib.hid (HS0.out.more hb2 hown3 hg3); clear hown3 hg3 hat3 hr2 hb2 ho2 hz2'))
        clear c0 c1 c2 c3 HPU1
        obtain ⟨c0, c1, c2, c3⟩ := HC.out _ HS1.out.below
        go_upto_region 9 with (first
          | (go_at_call 32; refine (HPU2.out _).mono ?_; rintro r w4 ⟨A4, d4, rfl, hr4, hb4⟩; have ho4 := own_below HS1.out.row hb4; have hz4' : w.heap.size ≤ w4.heap.size := Nat.le_trans HS1.out.size hb4.size)
          | (at_builtin; refine wpList_append_bytes (by rfl) (.tmp 26) (.tmp 33) _ (by rfl) w.heap.size i0 Try.underlying22 hi hz0 hz1 hz2 v3 (T ++ P1) (by rfl) ho4 w4.heap.size A4 n2 d4 P2 HN2.out (by rfl) hr4 S2.out hz4' ?_; intro v5 w5 hown5 hg5 hat5; have HS2 := Lib.hid (HS1.out.more hb4 hown5 hg5); clear hown5 hg5 hat5 hr4 hb4 ho4 hz4'))
        clear c0 c1 c2 c3 HPU2
        obtain ⟨c0, c1, c2, c3⟩ := HC.out _ HS2.out.below
        go_upto_if 39 with fail
        go_cut [6] (fun u wx => u = .int .u8 ((kidB kd).toNat : Int) ∧ w5 = wx)
        case first =>
          cases kd with
          | true =>
            go_wp2_with fail
            go_meet
            case rel => exact ⟨rfl, rfl⟩
          | false =>
            go_wp2_with fail
            go_meet
            case rel => exact ⟨rfl, rfl⟩
        case rest =>
          obtain ⟨rfl, rfl⟩ := hcut
          have HRD := Lib.hid (rd_one w5 _ (kidB kd) rfl)
          have hb6 := (Below.refl w5.heap.size w5).alloc (Nat.le_refl _) (.cells #[.int .u8 ((kidB kd).toNat : Int)] 5)
          have ho6 := own_below HS2.out.row hb6
          have hz6' := Nat.le_trans HS2.out.size hb6.size
          have HB6 := Lib.hid hb6
          go_upto_region 13 with (at_builtin; refine wpList_append_bytes (by rfl) (.tmp 40) (.tmp 42) _ (by rfl) w.heap.size i0 Try.underlying22 hi hz0 hz1 hz2 v5 (T ++ P1 ++ P2) (by rfl) ho6 (w5.heap.size + 1) (some ⟨w5.heap.size, 0, none⟩) 1 1 [kidB kd] rfl (by rfl) HRD.out S3.out hz6' ?_; intro v7 w7 hown7 hg7 hat7; have HS3 := Lib.hid (HS2.out.more HB6.out hown7 hg7); clear hown7 hg7 hat7)
          have HIN3 := Lib.hid (show RelSt w w7 v7 (T ++ P1 ++ P2 ++ [kidB kd] ++ spcsB (yl.take 0)) by
            rw [show spcsB (yl.take 0) = [] from rfl, List.append_nil]; exact HS3.out)
          obtain ⟨X0, hX0⟩ : ∃ X0, T ++ P1 ++ P2 ++ [kidB kd] = X0 := ⟨_, rfl⟩
          have HX0 := Lib.hid hX0
          rw [hX0] at HIN3 HXL
          clear c0 c1 c2 c3 hX0 HS3 HS2 HS1 hb6 ho6 hz6' S1 S2 S3 HN1 HN2 HRD HB6
          go_wp2_with fail
          go_loopg [4, 7] M (fun gk u z wr => ∃ k : Nat, k ≤ M ∧ gk = M - k ∧ z = .int .i64 k ∧ Hid (RelSt w wr u (X0 ++ spcsB (yl.take k))))
          case atStart => exact ⟨0, Nat.zero_le _, rfl, rfl, HIN3⟩
          case round =>
            obtain ⟨k, hk, rfl, rfl, HT0⟩ := hrel
            clear HIN3
            obtain ⟨c0, c1, c2, c3⟩ := HC.out _ HT0.out.below
            have HLK := Lib.hid (show (X0 ++ spcsB (yl.take k)).length ≤ 400000 by
              have h1 := spcsB_len (l := yl.take k) (by rw [List.all_eq_true]; intro x hx; exact List.all_eq_true.1 HAL.out x (List.mem_of_mem_take hx)) (fun x hx => HSI.out x (List.mem_of_mem_take hx))
              have h2 : (yl.take k).length ≤ 40 := by rw [List.length_take]; omega
              have h3 := HXL.out
              rw [List.length_append]
              omega)
            by_cases hltk : k < M
            · have HLTK := Lib.hid hltk
              obtain ⟨x, hx⟩ : ∃ x, yl[k]? = some x := ⟨_, List.getElem?_eq_getElem (by rw [HM.out]; exact hltk)⟩
              obtain ⟨b2, o2, rfl, hb2, p0, p1, p2⟩ := spc_at (Row.below HSP.out HT0.out.below) hx
              obtain ⟨p, q, hp, hq, hp1, hp6, hq1, hq6, -⟩ := okP_nat (all_at HAL.out hx)
              have hxi := (HSI.out x (List.mem_of_getElem? hx)).2.2
              have HTK2 := Lib.hid (show spcsB (yl.take (k + 1)) = spcsB (yl.take k) ++ (lebPut (sizeU p) (p : Int) ++ lebPut (sizeU q) (q : Int) ++ (if q = 33 then lebPut (sizeS x.imp) x.imp else [])) by
                rw [spcsB_take hx, spcB_nat hp hq, hq]
                by_cases h33 : q = 33
                · rw [if_pos h33, if_pos (by omega)]
                · rw [if_neg h33, if_neg (by omega)])
              rw [hp] at p0
              rw [hq] at p1
              have HIM := Lib.hid hxi
              generalize x.imp = im at *
              clear hx hp hq hxi hb2
              have hwp : IntKind.u64.wrap (p : Int) = (p : Int) := by rw [IntWalk.u64_in _ (by omega)]
              have hwq : IntKind.u64.wrap (q : Int) = (q : Int) := by rw [IntWalk.u64_in _ (by omega)]
              have hlp := putU_len (n := p) (by omega)
              have hlq := putU_len (n := q) (by omega)
              have hli := putS_len HIM.out
              have HQP := Lib.hid (fun W => HPU.out W p (by omega))
              have HQQ := Lib.hid (fun W => HPU.out W q (by omega))
              have HQS := Lib.hid (fun W => HPS.out W im HIM.out)
              have HXA := Lib.hid (Box.new wr 56 #[.int .i64 (p : Int), .int .i64 (q : Int), .int .i64 im])
              have hA := (Below.refl wr.heap.size wr).alloc (Nat.le_refl _) (.cells #[.int .i64 (p : Int), .int .i64 (q : Int), .int .i64 im] 56)
              have HTA := Lib.hid (HT0.out.alloc (.cells #[.int .i64 (p : Int), .int .i64 (q : Int), .int .i64 im] 56))
              clear hA
              generalize hU : X0 ++ spcsB (yl.take k) = U at *
              generalize hP1 : lebPut (sizeU p) (p : Int) = P3 at *
              generalize hP2 : lebPut (sizeU q) (q : Int) = P4 at *
              generalize hP3 : lebPut (sizeS im) im = P5 at *
              obtain ⟨n3, hn3⟩ : ∃ n, P3.length = n := ⟨_, rfl⟩
              obtain ⟨n4, hn4⟩ : ∃ n, P4.length = n := ⟨_, rfl⟩
              obtain ⟨n5, hn5⟩ : ∃ n, P5.length = n := ⟨_, rfl⟩
              have S1 := Lib.hid (show U.length + P3.length ≤ 140737488355328 by have := HLK.out; omega)
              have S2 := Lib.hid (show (U ++ P3).length + P4.length ≤ 140737488355328 by have := HLK.out; rw [List.length_append]; omega)
              have S3 := Lib.hid (show (U ++ P3 ++ P4).length + P5.length ≤ 140737488355328 by have := HLK.out; simp only [List.length_append]; omega)
              have HU := Lib.hid hU
              have HN3 := Lib.hid hn3
              have HN4 := Lib.hid hn4
              have HN5 := Lib.hid hn5
              rw [hn3] at HQP
              rw [hn4] at HQQ
              rw [hn5] at HQS
              clear hlp hlq hli hP1 hP2 hP3 hU hn3 hn4 hn5
              go_upto_region 17 with fail
              generalize hwa : wr.alloc (.cells #[.int .i64 (p : Int), .int .i64 (q : Int), .int .i64 im] 56) = wa at *
              have t0 := HXA.out.cell 0
              have t1 := HXA.out.cell 1
              have t2 := HXA.out.cell 2
              simp at t0 t1 t2
              clear hwa p0 p1 p2 c0 c1 c2 c3
              go_upto_region 18 with (first
                | (go_at_call 32; refine (HQP.out _).mono ?_; rintro r w2 ⟨A2, d2, rfl, hr2, hb2⟩; have ho2 := own_below HTA.out.row hb2; have hz2' : w.heap.size ≤ w2.heap.size := Nat.le_trans HTA.out.size hb2.size; have HX2 := Lib.hid (HXA.out.below hb2 HXA.out.lt))
                | (at_builtin; refine wpList_append_bytes (by rfl) (.tmp 62) (.tmp 66) _ (by rfl) w.heap.size i0 Try.underlying22 hi hz0 hz1 hz2 _ U (by rfl) ho2 w2.heap.size A2 n3 d2 P3 HN3.out (by rfl) hr2 S1.out hz2' ?_; intro v3 w3 hown3 hg3 hat3; have HT1 := Lib.hid (HTA.out.more hb2 hown3 hg3); have HX3 := Lib.hid (HX2.out.grown hg3 (fun e => own_other ho2 HX2.out (by decide) e.symm)); clear hown3 hg3 hat3 hr2 hb2 ho2 hz2'))
              clear t0 t1 t2 HXA
              have t0 := HX3.out.cell 0
              have t1 := HX3.out.cell 1
              have t2 := HX3.out.cell 2
              simp at t0 t1 t2
              go_upto_region 19 with (first
                | (go_at_call 32; refine (HQQ.out _).mono ?_; rintro r w4 ⟨A4, d4, rfl, hr4, hb4⟩; have ho4 := own_below HT1.out.row hb4; have hz4' : w.heap.size ≤ w4.heap.size := Nat.le_trans HT1.out.size hb4.size; have HX4 := Lib.hid (HX3.out.below hb4 HX3.out.lt))
                | (at_builtin; refine wpList_append_bytes (by rfl) (.tmp 68) (.tmp 72) _ (by rfl) w.heap.size i0 Try.underlying22 hi hz0 hz1 hz2 v3 (U ++ P3) (by rfl) ho4 w4.heap.size A4 n4 d4 P4 HN4.out (by rfl) hr4 S2.out hz4' ?_; intro v5 w5' hown5 hg5 hat5; have HT2 := Lib.hid (HT1.out.more hb4 hown5 hg5); have HX5 := Lib.hid (HX4.out.grown hg5 (fun e => own_other ho4 HX4.out (by decide) e.symm)); clear hown5 hg5 hat5 hr4 hb4 ho4 hz4'))
              clear t0 t1 t2 HX3
              have t0 := HX5.out.cell 0
              have t1 := HX5.out.cell 1
              have t2 := HX5.out.cell 2
              simp at t0 t1 t2
              by_cases h33 : q = 33
              · have n33 : ((q : Int) == 33) = true := by simp [h33]
                rw [if_pos h33] at HTK2
                clear h33
                go_wp2_with (first
                  | (go_at_call 33; refine (HQS.out _).mono ?_; rintro r w6 ⟨A6, d6, rfl, hr6, hb6⟩; have ho6 := own_below HT2.out.row hb6; have hz6' : w.heap.size ≤ w6.heap.size := Nat.le_trans HT2.out.size hb6.size)
                  | (at_builtin; refine wpList_append_bytes (by rfl) (.tmp 77) (.tmp 80) _ (by rfl) w.heap.size i0 Try.underlying22 hi hz0 hz1 hz2 _ (U ++ P3 ++ P4) (by rfl) ho6 w6.heap.size A6 n5 d6 P5 HN5.out (by rfl) hr6 S3.out hz6' ?_; intro v8 w8 hown8 hg8 hat8; have HT3 := Lib.hid (HT2.out.more hb6 hown8 hg8); clear hown8 hg8 hat8 hr6 hb6 ho6 hz6'))
                go_roundg (M - (k + 1))
                case measure => have := HLTK.out; omega
                case rel => exact ⟨k + 1, HLTK.out, rfl, by go_num, Lib.hid (by rw [HTK2.out]; have := HT3.out; rw [← HU.out] at this; simpa only [List.append_assoc] using this)⟩
              · have n33 : ((q : Int) == 33) = false := by simp; omega
                rw [if_neg h33, List.append_nil] at HTK2
                clear h33
                go_wp2_with fail
                go_roundg (M - (k + 1))
                case measure => have := HLTK.out; omega
                case rel => exact ⟨k + 1, HLTK.out, rfl, by go_num, Lib.hid (by rw [HTK2.out]; have := HT2.out; rw [← HU.out] at this; simpa only [List.append_assoc] using this)⟩
            · obtain rfl : k = M := by omega
              have HLE := Lib.hid (show RelSt w wr _ (X0 ++ spcsB yl) from by have := HT0.out; rwa [List.take_of_length_le (by rw [HM.out]; exact Nat.le_refl _)] at this)
              have HSM2 := Lib.hid (show (X0 ++ spcsB yl).length + ([0, 0] : List UInt8).length ≤ 140737488355328 by
                have := HLK.out
                rw [List.take_of_length_le (by rw [HM.out]; exact Nat.le_refl _)] at this
                simp only [List.length_cons, List.length_nil]
                omega)
              have HA2 := Lib.hid ((Below.refl wr.heap.size wr).alloc (Nat.le_refl _) (.cells #[.int .u8 0, .int .u8 0] 5))
              have HRD2 := Lib.hid (show Rd (wr.alloc (.cells #[.int .u8 0, .int .u8 0] 5)) (wr.heap.size + 1) (some ⟨wr.heap.size, 0, none⟩) ([0, 0] : List UInt8) from rd_lit wr [0, 0])
              have hbs2 : w.heap.size ≤ (wr.alloc (.cells #[.int .u8 0, .int .u8 0] 5)).heap.size := Nat.le_trans HLE.out.size HA2.out.size
              clear HT0 hltk
              go_wp2_with (at_builtin; refine wpList_append_bytes (by rfl) (.tmp 82) (.tmp 83) _ (by rfl) w.heap.size i0 Try.underlying22 hi hz0 hz1 hz2 _ (X0 ++ spcsB yl) (by rfl) (own_below HLE.out.row HA2.out) (wr.heap.size + 1) (some ⟨wr.heap.size, 0, none⟩) 2 2 [0, 0] rfl (by rfl) HRD2.out HSM2.out hbs2 ?_; intro v9 w9 hown9 hg9 hat9; have HS9 := Lib.hid (HLE.out.more HA2.out hown9 hg9); clear hown9 hg9 hat9)
              go_roundg (N - (j + 1))
              case measure => have := HLT.out; omega
              case rel => exact ⟨j + 1, HLT.out, rfl, by go_num, Lib.hid (by rw [HTK.out, HAB1.out]; have := HS9.out; rw [← HX0.out] at this; simpa only [List.append_assoc] using this)⟩
      · obtain rfl : j = N := by omega
        have HLE := Lib.hid (show RelSt w wr _ (abbsB (absOf L)) from by have := HS0.out; rwa [List.take_of_length_le (by rw [absOf_length, HN.out]; exact Nat.le_refl _)] at this)
        have HSM2 := Lib.hid (show (abbsB (absOf L)).length + ([0] : List UInt8).length ≤ 140737488355328 by
          have := HLN.out
          rw [List.take_of_length_le (by rw [absOf_length, HN.out]; exact Nat.le_refl _)] at this
          simp only [List.length_cons, List.length_nil]
          omega)
        have HA2 := Lib.hid ((Below.refl wr.heap.size wr).alloc (Nat.le_refl _) (.cells #[.int .u8 0] 5))
        have HRD2 := Lib.hid (rd_one wr 0 0 rfl)
        have hbs2 : w.heap.size ≤ (wr.alloc (.cells #[.int .u8 0] 5)).heap.size := Nat.le_trans HLE.out.size HA2.out.size
        clear HS0 hlt
        go_wp2_with (at_builtin; refine wpList_append_bytes (by rfl) (.tmp 85) (.tmp 86) _ (by rfl) w.heap.size i0 Try.underlying22 hi hz0 hz1 hz2 _ (abbsB (absOf L)) (by rfl) (own_below HLE.out.row HA2.out) (wr.heap.size + 1) (some ⟨wr.heap.size, 0, none⟩) 1 1 [0] rfl (by rfl) HRD2.out HSM2.out hbs2 ?_; intro v7 w7 hown7 hg7 hat7; have HS7 := Lib.hid (HLE.out.more HA2.out hown7 hg7); clear hown7 hg7 hat7)
        go_ret2
        exact ⟨_, by rw [HE.out]; rfl, HS7.out.row, HS7.out.below⟩

end Go.Proofs.Ytpmndmbhkfbljaa

namespace Go.Proofs.Ytpmndmbhkfbljaa
open Go Go.RowKit

/-- A cursor that has not refused stands ahead of these bytes. -/
def Ahead (l : List UInt8) (s : CSt) (r : List UInt8) : Prop := s.2 = 0 ∧ l.drop s.1 = r
theorem ahead_u {l r : List UInt8} {s : CSt} {n : Nat} (hn : n < 2 ^ 64) (h : Ahead l s (lebPut (sizeU n) (n : Int) ++ r)) : tU l s = n ∧ Ahead l (sU l s) r := by
  obtain ⟨h0, h1⟩ := h
  have hs := sizeU_range n hn
  have hr := readU_put (sizeU n) n r hn (Nat.le_refl _) hs.2
  have hu : uOf (l.drop s.1) s.2 = (n, sizeU n, 0) := by unfold uOf; rw [if_pos h0, h1, hr]
  refine ⟨by unfold tU; rw [hu], by unfold sU; rw [hu], ?_⟩
  unfold sU
  rw [hu]
  show l.drop (s.1 + sizeU n) = r
  rw [← List.drop_drop, h1, List.drop_left' (lebPut_length _ _ hs.1)]
theorem ahead_s {l r : List UInt8} {s : CSt} {n : Int} (hn : InI n) (h : Ahead l s (lebPut (sizeS n) n ++ r)) : tS l s = n ∧ Ahead l (sS l s) r := by
  obtain ⟨h0, h1⟩ := h
  have hs := sizeS_range n hn
  have hr := readS_put (sizeS n) n r hn (Nat.le_refl _) hs.2
  have hu : sOf (l.drop s.1) s.2 = (n, sizeS n, 0) := by unfold sOf; rw [if_pos h0, h1, hr]
  refine ⟨by unfold tS; rw [hu], by unfold sS; rw [hu], ?_⟩
  unfold sS
  rw [hu]
  show l.drop (s.1 + sizeS n) = r
  rw [← List.drop_drop, h1, List.drop_left' (lebPut_length _ _ hs.1)]
theorem put_zero : lebPut (sizeU 0) ((0 : Nat) : Int) = [0] := by decide
theorem ahead_zero {l r : List UInt8} {s : CSt} (h : Ahead l s (0 :: r)) : tU l s = 0 ∧ Ahead l (sU l s) r :=
  ahead_u (n := 0) (by decide) (by rw [put_zero]; exact h)
theorem ahead_b {l r : List UInt8} {s : CSt} {b : UInt8} (h : Ahead l s (b :: r)) : tB l s = b.toNat ∧ Ahead l (sB l s) r := by
  obtain ⟨h0, h1⟩ := h
  have hl : s.1 < l.length := by
    rcases Nat.lt_or_ge s.1 l.length with h | h
    · exact h
    · rw [List.drop_eq_nil_of_le h] at h1; cases h1
  have hg : nextGot l s.1 s.2 1 = [b] := by
    unfold nextGot
    rw [if_pos ⟨h0, by omega⟩, h1]
    rfl
  refine ⟨by unfold tB; rw [hg]; simp [leNat], ?_, ?_⟩
  · unfold sB nextErr
    simp only
    rw [if_pos h0, if_pos (by omega)]
  · unfold sB nextAt
    simp only
    rw [if_pos ⟨h0, by omega⟩, ← List.drop_drop, h1]
    rfl

theorem ahead_specs {l r : List UInt8} : ∀ (X : List Spc) (n : Nat) (s : CSt), X.all okP = true → (∀ x ∈ X, x.In) → X.length + 1 ≤ n → Ahead l s (spcsB X ++ (0 :: 0 :: r)) → (specsF l n s).1 = X ∧ Ahead l (specsF l n s).2 r
  | [], n, s, _, _, hn, h => by
    obtain ⟨m, rfl⟩ : ∃ m, n = m + 1 := ⟨n - 1, by simp at hn; omega⟩
    obtain ⟨h1, h2⟩ := ahead_zero (show Ahead l s (0 :: 0 :: r) from h)
    obtain ⟨h3, h4⟩ := ahead_zero h2
    rw [specsF_end ⟨h1, h3⟩]
    exact ⟨rfl, h4⟩
  | x :: X, n, s, hok, hin, hn, h => by
    rw [List.all_cons, Bool.and_eq_true] at hok
    obtain ⟨m, rfl⟩ : ∃ m, n = m + 1 := ⟨n - 1, by simp at hn; omega⟩
    obtain ⟨p, q, hp, hq, hp1, hp6, hq1, hq6, hqi⟩ := okP_nat hok.1
    have hxi := hin x List.mem_cons_self
    have hb : spcsB (x :: X) ++ (0 :: 0 :: r) = lebPut (sizeU p) (p : Int) ++ (lebPut (sizeU q) (q : Int) ++ ((if x.form = 33 then lebPut (sizeS x.imp) x.imp else []) ++ (spcsB X ++ (0 :: 0 :: r)))) := by
      rw [show spcsB (x :: X) = spcB x ++ spcsB X from rfl, spcB_nat hp hq]
      simp only [List.append_assoc]
    rw [hb] at h
    obtain ⟨h1, h2⟩ := ahead_u (by omega) h
    obtain ⟨h3, h4⟩ := ahead_u (by omega) h2
    have hno : ¬ (tU l s = 0 ∧ tU l (sU l s) = 0) := by rw [h1]; omega
    have hbp : badP (tU l s) (tU l (sU l s)) = false := by
      rw [h1, h3]
      unfold badP
      simp only [Bool.or_eq_false_iff, decide_eq_false_iff_not]
      omega
    have hm : m ≠ 0 := by simp at hn; omega
    have hml : X.length + 1 ≤ m := by simp at hn; omega
    by_cases h33 : q = 33
    · rw [if_pos (by rw [hq, h33]; rfl)] at h4
      obtain ⟨h5, h6⟩ := ahead_s hxi.2.2 h4
      obtain ⟨ih1, ih2⟩ := ahead_specs X m _ hok.2 (fun y hy => hin y (List.mem_cons_of_mem _ hy)) hml h6
      rw [specsF_imp hm hno hbp (by rw [h3]; exact h33), h1, h3, h5]
      refine ⟨?_, ih2⟩
      show _ :: _ = _
      rw [ih1, ← hp, ← hq]
    · rw [if_neg (by rw [hq]; omega), List.nil_append] at h4
      obtain ⟨ih1, ih2⟩ := ahead_specs X m _ hok.2 (fun y hy => hin y (List.mem_cons_of_mem _ hy)) hml h4
      rw [specsF_more hm hno hbp (by rw [h3]; exact h33), h1, h3]
      refine ⟨?_, ih2⟩
      show _ :: _ = _
      have := hqi h33
      rw [ih1, ← hp, ← hq, ← this]
theorem ahead_abb {l r : List UInt8} {x : Abb} {s : CSt} (hok : okA x = true) (hin : x.In) (h : Ahead l s (abbB x ++ r)) : tU l s = x.code ∧ abbT l x.code (sU l s) = x ∧ Ahead l (abbS l (sU l s)) r := by
  obtain ⟨-, htg, h40, hall, -⟩ := okA_spec hok
  obtain ⟨t, ht, ht1, ht6⟩ := numbK_nat htg
  have hb : abbB x ++ r = lebPut (sizeU x.code) (x.code : Int) ++ (lebPut (sizeU t) (t : Int) ++ (kidB x.kids :: (spcsB x.l ++ (0 :: 0 :: r)))) := by
    unfold abbB
    rw [ht, Int.toNat_natCast]
    simp only [List.append_assoc, List.cons_append, List.nil_append]
  rw [hb] at h
  obtain ⟨h1, h2⟩ := ahead_u (by have := hin.code; unfold two64 at this; omega) h
  obtain ⟨h3, h4⟩ := ahead_u (by omega) h2
  have htT : tagT l (sU l s) = t ∧ tagS l (sU l s) = sU l (sU l s) := by
    unfold tagT tagS
    rw [h3, if_neg (by omega), if_neg (by omega)]
    exact ⟨rfl, rfl⟩
  rw [← htT.2] at h4
  obtain ⟨h5, h6⟩ := ahead_b h4
  have hk : kidT l (tagS l (sU l s)) = x.kids ∧ kidS l (tagS l (sU l s)) = sB l (tagS l (sU l s)) := by
    unfold kidT kidS
    rw [h5]
    cases x.kids <;> exact ⟨rfl, rfl⟩
  rw [← hk.2] at h6
  obtain ⟨h7, h8⟩ := ahead_specs x.l 41 _ hall hin.spcs (by omega) h6
  refine ⟨h1, ?_, h8⟩
  unfold abbT
  rw [htT.1, hk.1, h7, ← ht]
theorem ahead_tab {l r : List UInt8} : ∀ (X : List Abb) (n : Nat) (s : CSt), X.all okA = true → (∀ x ∈ X, x.In) → X.length + 1 ≤ n → Ahead l s (abbsB X ++ (0 :: r)) → (tabF l n s).1 = X ∧ Ahead l (tabF l n s).2 r
  | [], n, s, _, _, hn, h => by
    obtain ⟨m, rfl⟩ : ∃ m, n = m + 1 := ⟨n - 1, by simp at hn; omega⟩
    obtain ⟨h1, h2⟩ := ahead_zero (show Ahead l s (0 :: r) from h)
    rw [tabF_end h1]
    exact ⟨rfl, h2⟩
  | x :: X, n, s, hok, hin, hn, h => by
    rw [List.all_cons, Bool.and_eq_true] at hok
    obtain ⟨m, rfl⟩ : ∃ m, n = m + 1 := ⟨n - 1, by simp at hn; omega⟩
    have hb : abbsB (x :: X) ++ (0 :: r) = abbB x ++ (abbsB X ++ (0 :: r)) := by
      rw [show abbsB (x :: X) = abbB x ++ abbsB X from rfl, List.append_assoc]
    rw [hb] at h
    obtain ⟨h1, h2, h3⟩ := ahead_abb hok.1 (hin x List.mem_cons_self) h
    obtain ⟨ih1, ih2⟩ := ahead_tab X m _ hok.2 (fun y hy => hin y (List.mem_cons_of_mem _ hy)) (by simp at hn; omega) h3
    rw [tabF_more (by simp at hn; omega) (by rw [h1]; exact (okA_spec hok.1).1), h1]
    refine ⟨?_, ih2⟩
    show _ :: _ = _
    rw [h2, ih1]
/-- What is put is taken, with what stands behind it left. -/
theorem put_take {L : List Abb} {r : List UInt8} (hr : rightA L = true) (hin : ∀ x ∈ L, x.In) : takeAE (tabB L ++ r) (0, 0) = 0 ∧ takeAL (tabB L ++ r) (0, 0) = L ∧ (tabB L ++ r).length - takeAP (tabB L ++ r) (0, 0) = r.length := by
  obtain ⟨h3, hall, -⟩ := rightA_spec hr
  have ha : Ahead (tabB L ++ r) (0, 0) (abbsB L ++ (0 :: r)) := ⟨rfl, by unfold tabB; simp⟩
  obtain ⟨h1, h2, h4⟩ := ahead_tab L 301 (0, 0) hall hin (by omega) ha
  obtain ⟨t1, t2⟩ := take_ok (l := tabB L ++ r) (s := (0, 0)) h2 (by rw [h1]; exact hr)
  refine ⟨t1, by rw [t2, h1], ?_⟩
  unfold takeAP
  rw [← List.length_drop, h4]

end Go.Proofs.Ytpmndmbhkfbljaa

namespace Go.Proofs.Ytpmndmbhkfbljaa
open Go Go.RowKit Go.Maps

def exA : Abb := ⟨1, 17, true, [⟨3, 8, 0⟩]⟩
theorem exA_in : exA.In := ⟨by decide, by constructor <;> decide, by decide, fun x hx => by
  rw [List.mem_singleton.1 hx]
  exact ⟨by constructor <;> decide, by constructor <;> decide, zero_in⟩⟩
theorem exA_right : rightA [exA] = true := by decide
theorem exA_bytes : tabB [exA] = [1, 17, 1, 3, 8, 0, 0, 0] := by decide
theorem laid_nil {w w' : World} {base : Nat} {v' : Value} {l' : List UInt8} (h : Laid w w' base (.slice none 0 0) v' l') (hb : base ≤ w.heap.size) : Below base w w' := below_of_only h.2.1 hb (by simp [Value.ownBlock])

set_option maxRecDepth 10000 in
set_option maxHeartbeats 3200000 in
theorem works13_any (w : World) : Calls Try.prog 5 #[] w fun r w' => r = .returned (.bool true) ∧ Below w.heap.size w w' := by
  generalize hw1 : w.alloc (.cells #[.int .i64 3, .int .i64 8, .int .i64 0] 56) = w1 at *
  generalize hw2 : w1.alloc (.cells #[.int .u64 1, .int .i64 17, .bool true, .slice (some ⟨w.heap.size, 0, none⟩) 1 1] 50) = w2 at *
  have hb1 : Below w.heap.size w w1 := hw1 ▸ (Below.refl _ _).alloc (Nat.le_refl _) _
  have hb2 : Below w1.heap.size w1 w2 := hw2 ▸ (Below.refl _ _).alloc (Nat.le_refl _) _
  have hs1 : w1.heap.size = w.heap.size + 1 := by rw [← hw1]; simp
  have hs2 : w2.heap.size = w1.heap.size + 1 := by rw [← hw2]; simp
  have hr1 : Spcs w1 (w.heap.size + 1) (some ⟨w.heap.size, 0, none⟩) [⟨3, 8, 0⟩] := by
    rw [← hw1]
    exact lit_row spc_three w 56 [⟨3, 8, 0⟩]
  have hr2 : Row 4 ALay.cells w2 (w1.heap.size + 1) (some ⟨w1.heap.size, 0, none⟩) [⟨exA, some ⟨w.heap.size, 0, none⟩, 1⟩] := by
    rw [← hw2]
    exact lit_row abb_four w1 50 [⟨exA, some ⟨w.heap.size, 0, none⟩, 1⟩]
  have hA : Abbs w2 w2.heap.size (some ⟨w1.heap.size, 0, none⟩) [⟨exA, some ⟨w.heap.size, 0, none⟩, 1⟩] := ⟨hr2.more (by omega), fun y hy => by
    rw [List.mem_singleton.1 hy]
    exact Row.more (Row.below hr1 (hb2.mono (by omega))) (by omega)⟩
  have HIN := Lib.hid (show ∀ y ∈ ([⟨exA, some ⟨w.heap.size, 0, none⟩, 1⟩] : List ALay), y.x.In from fun y hy => by rw [List.mem_singleton.1 hy]; exact exA_in)
  have HP := Lib.hid (putA_any (v := .slice none 0 0) (l := []) (World.ownsRow_nil w2 w2.heap.size 5 1) (Nat.le_refl _) hA 1 (show 1 ≤ 100000 by decide) HIN.out (show 0 ≤ 140737487000000 by decide))
  have hpe : putAE (absOf [⟨exA, some ⟨w.heap.size, 0, none⟩, 1⟩]) = 0 := by unfold putAE; rw [if_pos (show rightA (absOf [⟨exA, some ⟨w.heap.size, 0, none⟩, 1⟩]) = true from exA_right)]
  rw [hpe] at HP
  have hab : absOf [⟨exA, some ⟨w.heap.size, 0, none⟩, 1⟩] = [exA] := rfl
  rw [hab, List.nil_append] at HP
  obtain ⟨T8, hT8⟩ : ∃ T8, tabB [exA] = T8 := ⟨_, rfl⟩
  have HT8 := Lib.hid (show T8 = [1, 17, 1, 3, 8, 0, 0, 0] from hT8.symm.trans exA_bytes)
  have hl8 : T8.length = 8 := by rw [HT8.out]; rfl
  have HW := Lib.hid (hb1.trans (hb2.mono hb1.size))
  have HAB := Lib.hid hA
  obtain ⟨t1, t2, -⟩ := put_take (L := [exA]) (r := []) exA_right (fun x hx => by rw [List.mem_singleton.1 hx]; exact exA_in)
  rw [List.append_nil, hT8] at t1 t2
  rw [hT8] at HP
  have hae : atAE T8 0 = 0 := by unfold atAE; rw [if_pos (by omega), List.drop_zero]; exact t1
  have hal : atAL T8 0 = [exA] := by unfold atAL; rw [if_pos (by omega), List.drop_zero]; exact t2
  have HAE := Lib.hid hae
  have HAL := Lib.hid hal
  have HL8 := Lib.hid hl8
  clear hb1 hb2 hr1 hr2 hA hpe t1 t2 hae hal hab hT8 hl8
  rw [show ([⟨exA, some ⟨w.heap.size, 0, none⟩, 1⟩] : List ALay).length = 1 from rfl] at HP
  have HR := Lib.hid exA_right
  generalize rightA [exA] = rx at *
  clear hs1 hs2
  go_enter Try.func5, Try.ntmps5
  go_upto_region 2 with fail
  try rw [hw1]
  try rw [hw2]
  clear hw1 hw2
  go_upto_region 3 with (go_at_call 15; refine HP.out.mono ?_; rintro r w3 ⟨v3, rfl, hL3, -⟩; have HL3 := Lib.hid (hL3 HR.out); clear hL3)
  have HB3 := Lib.hid (laid_nil HL3.out (Nat.le_refl _))
  obtain ⟨A3, c3, rfl, hc3, hm3, hrd3⟩ := own_slice HL3.out.1
  have HT := Lib.hid (atA_any (l := T8) hrd3 (Nat.le_refl _) c3 hc3 (by rw [HL8.out]; decide) 0 (by decide))
  rw [HAE.out, HAL.out, HL8.out] at HT
  rw [HL8.out]
  have hcv := conv_own HL3.out.1
  rw [HL8.out] at hcv
  have HO3 := Lib.hid HL3.out.1
  have HCV := Lib.hid hcv
  clear hc3 hm3 hrd3 HP HL3 hcv
  go_upto_region 4 with (go_at_call 12; refine HT.out.mono ?_; rintro r w4 ⟨u4, L4, rfl, hO4, hm4, hi4, h34, hb4⟩; have HO4 := Lib.hid hO4; have HM4 := Lib.hid hm4; have HI4 := Lib.hid hi4; have HB4 := Lib.hid hb4; clear hO4 hm4 hi4 h34 hb4)
  obtain ⟨A4, c4, rfl, -, -, hl4⟩ := HO4.out.lies
  have hn4 : L4.length = 1 := by have := congrArg List.length HM4.out; simpa using this
  rw [hn4]
  have HL4 := Lib.hid hl4
  have HN4 := Lib.hid hn4
  clear hl4 hn4
  go_upto_region 5 with (go_at_call 7; refine (takeA_nil _).mono ?_; rintro r w5 ⟨rfl, hb5⟩; have HB5 := Lib.hid hb5; clear hb5)
  have HB35 := Lib.hid (HB4.out.trans (HB5.out.mono HB4.out.size))
  have hc5 := conv_own (row_below HO3.out HB35.out)
  rw [HL8.out, HT8.out] at hc5
  have HB25 := Lib.hid (HB3.out.trans (HB35.out.mono HB3.out.size))
  have HSM := Lib.hid (sameA_any (w := w5) (HAB.out.up HB25.out) (HL4.out.up HB5.out) 1 c4 (show 1 ≤ 100000 by decide) (fun y hy => by rw [List.mem_singleton.1 hy]; exact exA_in.len) (fun y hy => (HI4.out y hy).len))
  rw [show alikeL oneL [⟨exA, some ⟨w.heap.size, 0, none⟩, 1⟩] L4 = true from (alikeA_iff _ _).2 HM4.out.symm, HN4.out, show ([⟨exA, some ⟨w.heap.size, 0, none⟩, 1⟩] : List ALay).length = 1 from rfl] at HSM
  go_wp2_with (go_at_call 9; refine HSM.out.mono ?_; rintro r w6 ⟨rfl, hb6⟩; have HB6 := Lib.hid hb6; clear hb6)
  go_ret
  exact ⟨rfl, HW.out.trans ((HB25.out.trans (HB6.out.mono HB25.out.size)).mono HW.out.size)⟩

end Go.Proofs.Ytpmndmbhkfbljaa

namespace Go.Proofs.Ytpmndmbhkfbljaa
open Go Go.RowKit Go.Maps

/-- Abbreviations that came in: their numbers are numbers of 64 bits. -/
structure ALay.Nums (y : ALay) : Prop where
  code : y.x.code < two64
  tag : InI y.x.tag
  spcs : ∀ x ∈ y.x.l, x.In
theorem nums_in {y : ALay} (h : y.Nums) (hl : y.x.l.length ≤ 1500) : y.x.In := ⟨h.code, h.tag, by omega, h.spcs⟩

end Go.Proofs.Ytpmndmbhkfbljaa
