/-
  Package linkmap: a place is kept, and its image told (place).
-/
import Derived.Test.YteadabmlleipiaaLnK
import Derived.Test.YteadabmlleipiaaLnC
import Derived.Test.YteadabmlleipiaaStB
import Derived.RegionTactic
import Derived.BigRegion
namespace Go.Proofs.Yteadabmlleipiaa
open Go Go.RowKit

theorem img_box {W : World} {H : Nat} {cs : Array Value} (h : Box W H 102 cs) (hs : cs.size = 4) (v0 v1 v2 v3 : Value) :
    Box ((((W.setCell ⟨H, 0, none⟩ v0).setCell ⟨H, 1, none⟩ v1).setCell ⟨H, 2, none⟩ v2).setCell ⟨H, 3, none⟩ v3) H 102 #[v0, v1, v2, v3] := four_box h hs v0 v1 v2 v3
theorem below_put {B H : Nat} {a W : World} (h : Below B a W) (hH : B ≤ H) (v0 v1 v2 v3 : Value) : Below B a ((((W.setCell ⟨H, 0, none⟩ v0).setCell ⟨H, 1, none⟩ v1).setCell ⟨H, 2, none⟩ v2).setCell ⟨H, 3, none⟩ v3) :=
  ⟨h.os, h.tape, h.output, by simpa using h.size, fun k hk => by
    have hg := four_only W H v0 v1 v2 v3
    have hkW : k < W.heap.size ∨ W.heap.size ≤ k := by omega
    rcases hkW with hkW | hkW
    · exact (hg.block k hkW (by simp; omega)).trans (h.block k hk)
    · rw [Array.getElem?_eq_none (by simpa using hkW), ← h.block k hk, Array.getElem?_eq_none hkW]⟩
theorem below_then {a b : World} (n : Nat) (h : Below (a.drewN n).heap.size (a.drewN n) b) : Below a.heap.size a b := ⟨h.os, h.tape, h.output, h.size, h.block⟩
theorem sub_tomb {n m : Nat} (h : n ≤ 100000) (hm : 18446744073709551615 - n = m) : IntKind.u64.wrap (18446744073709551615 - (n : Int)) = (m : Int) := by
  rw [IntKind.wrap_u64]
  omega
def noneI : Img := ⟨0, 0, 0, 0⟩
/-- What a place makes. -/
def imgP (O : List ObjV) (p : Place) : Img := ⟨p.addr, p.addr + sizK O p, p.obj, p.sect⟩

set_option maxRecDepth 10000 in
set_option maxHeartbeats 3200000 in
theorem lplace_any {w : World} {base g mp my : Nat} {v : Value} {P : List Place} {aO aQ : Option Addr} {cO cQ : Nat} {O : List ObjV} {Q : List BLay} (hX : Box w g 95 #[.map (some mp), v, .map (some my)]) (hP : PMap w base mp P) (hpl : P.length ≤ 1000)
    (hO : Objs w w.heap.size aO O) (hQ : BRows w w.heap.size aQ Q) (hL : ∀ ob ∈ O, ob.L.length ≤ 100000) (hD : ∀ ob ∈ O, ∀ x ∈ ob.L, x.s.data.length ≤ 100000 ∧ x.s.flags < two64) {p : Place} (hp : p.Nums) :
    Calls Try.prog 36 #[.pointer (some ⟨g, 0, none⟩), .agg #[.int .i64 p.obj, .int .i64 p.sect, .int .u64 (p.addr : Int)], .slice aO O.length cO, .slice aQ Q.length cQ] w fun r w' =>
      (goodP O Q P p = true → r = .returned (.tuple #[imgV (imgP O p), .bool true]) ∧ PMap w' base mp (P ++ [p])) ∧ (goodP O Q P p = false → r = .returned (.tuple #[imgV noneI, .bool false])) ∧ But (fun k => k = mp) w w' := by
  obtain ⟨po, ps, pa⟩ := p
  simp only at hp ⊢
  generalize hw0 : ((w.alloc (.cells #[.int .i64 po, .int .i64 ps, .int .u64 (pa : Int)] 87)).alloc (.cells #[.int .u64 0, .int .u64 0, .int .i64 0, .int .i64 0] 102)).alloc (.cells #[.int .i64 po, .int .i64 ps] 100) = w0 at *
  have hb0 : Below w.heap.size w w0 := hw0 ▸ (((Below.refl _ _).alloc (Nat.le_refl _) _).alloc (by simp) _).alloc (by simp; omega) _
  have HB0 := Lib.hid hb0
  have hs0 : w0.heap.size = w.heap.size + 3 := by rw [← hw0]; simp
  have hXp : Box w0 w.heap.size 87 #[.int .i64 po, .int .i64 ps, .int .u64 (pa : Int)] := by
    rw [← hw0]
    exact ((Box.new w _ _).below ((Below.refl _ _).alloc (Nat.le_refl _) _) (by simp)).below ((Below.refl _ _).alloc (Nat.le_refl _) _) (by simp; omega)
  have hXz : Box w0 (w.heap.size + 1) 102 #[.int .u64 0, .int .u64 0, .int .i64 0, .int .i64 0] := by
    rw [← hw0]
    have h1 := Box.new (w.alloc (.cells #[.int .i64 po, .int .i64 ps, .int .u64 (pa : Int)] 87)) 102 #[.int .u64 0, .int .u64 0, .int .i64 0, .int .i64 0]
    rw [show (w.alloc (.cells #[.int .i64 po, .int .i64 ps, .int .u64 (pa : Int)] 87)).heap.size = w.heap.size + 1 by simp] at h1
    exact h1.below ((Below.refl _ _).alloc (Nat.le_refl _) _) (by simp)
  have hXs : Box w0 (w.heap.size + 1 + 1) 100 #[.int .i64 po, .int .i64 ps] := by
    rw [← hw0]
    have h1 := Box.new ((w.alloc (.cells #[.int .i64 po, .int .i64 ps, .int .u64 (pa : Int)] 87)).alloc (.cells #[.int .u64 0, .int .u64 0, .int .i64 0, .int .i64 0] 102)) 100 #[.int .i64 po, .int .i64 ps]
    rw [show ((w.alloc (.cells #[.int .i64 po, .int .i64 ps, .int .u64 (pa : Int)] 87)).alloc (.cells #[.int .u64 0, .int .u64 0, .int .i64 0, .int .i64 0] 102)).heap.size = w.heap.size + 1 + 1 by simp] at h1
    exact h1
  have KX := Lib.hid (fun W (hW : Below w0.heap.size w0 W) => (⟨hXp.below hW (by omega), hXz.below hW (by omega), hXs.below hW (by omega)⟩ : Box W w.heap.size 87 #[.int .i64 po, .int .i64 ps, .int .u64 (pa : Int)] ∧ Box W (w.heap.size + 1) 102 #[.int .u64 0, .int .u64 0, .int .i64 0, .int .i64 0] ∧ Box W (w.heap.size + 1 + 1) 100 #[.int .i64 po, .int .i64 ps]))
  have HAM := Lib.hid (among_any (c := cO) (hO.below hb0) (by omega) hL po ps)
  have y0 := hXs.cell 0
  have y1 := hXs.cell 1
  have f0 := hXs.free 0
  simp at y0 y1
  have HS0 := Lib.hid hs0
  cases hx : secK O po ps with
  | none =>
    have HG := Lib.hid (show goodP O Q P ⟨po, ps, pa⟩ = false by unfold goodP; rw [hx])
    rw [hx] at HAM
    clear hX hP hO hQ hL hD hb0 hs0 hXp hXz hXs hx
    go_enter Try.func36, Try.ntmps36
    go_upto_region 2 with fail
    try rw [hw0]
    clear hw0
    go_upto_region 3 with (go_at_call 65; refine HAM.out.mono ?_; rintro r w1 ⟨rfl, hb1⟩; have HB1 := Lib.hid hb1; clear hb1)
    clear y0 y1 f0
    obtain ⟨-, zz, -⟩ := KX.out _ HB1.out
    obtain ⟨z0, z1, z2, z3⟩ := four_cells zz
    obtain ⟨f0, f1, f2, f3⟩ := four_free zz
    have HZ := Lib.hid zz
    clear zz
    repeat (first | go_skip | go_guarded | go_step | go_upon)
    refine ret_two Try.underlying102 Try.results36 (img_box HZ.out rfl _ _ _ _) (by kernel_rfl) (by rfl) rfl ?_
    exact ⟨fun h => (by rw [HG.out] at h; cases h), fun _ => rfl, But.of_below (below_put (HB0.out.trans (HB1.out.mono HB0.out.size)) (by omega) _ _ _ _)⟩
  | some x =>
    obtain ⟨i, k, ob, rfl, rfl, hO1, hx1⟩ := secK_some hx
    rw [hx] at HAM
    have HOUT := Lib.hid (fun W (hW : Below w0.heap.size w0 W) => out_any (w := W) (c := cQ) ((hQ.below hb0).below (hW.mono (by omega))) (by have := hW.size; omega) i k)
    have hmem := List.mem_of_getElem? hO1
    have hmx := List.mem_of_getElem? hx1
    obtain ⟨hdx, hfx⟩ := hD ob hmem x hmx
    obtain ⟨b, oo, rfl, hb, n0, n1, n2, n3, n4⟩ := hO.at_ hO1
    obtain ⟨b2, o2, hbs, hb2, m0, m1, m2, m3, m4, m5, m6, m7, m8⟩ := ((hO.ok ob hmem).secs).at_ hx1
    have KN := Lib.hid (fun W (hW : Below w0.heap.size w0 W) => (by
      have hW' := hb0.trans (hW.mono (by omega))
      have hc := fun (q : Addr) (hq : q.block < w.heap.size) => hW'.cell (p := q) hq
      exact ⟨by rw [hc _ hb]; exact n2, by rw [hc _ hb2]; exact m0, by rw [hc _ hb2]; exact m1, by rw [hc _ hb2]; exact m2, by rw [hc _ hb2]; exact m3, by rw [hc _ hb2]; exact m4, by rw [hc _ hb2]; exact m5, by rw [hc _ hb2]; exact m6, by rw [hc _ hb2]; exact m7, by rw [hc _ hb2]; exact m8⟩ :
      W.cell? ⟨b, oo + i * 5 + 2, none⟩ = some (.slice ob.aS ob.L.length ob.cS) ∧ W.cell? ⟨b2, o2 + k * 9, none⟩ = some (.string ⟨x.s.name.toArray⟩) ∧ W.cell? ⟨b2, o2 + k * 9 + 1, none⟩ = some (.int .i64 x.s.kind) ∧ W.cell? ⟨b2, o2 + k * 9 + 2, none⟩ = some (.int .u64 (x.s.flags : Int)) ∧ W.cell? ⟨b2, o2 + k * 9 + 3, none⟩ = some (.int .u64 (x.s.addr : Int)) ∧ W.cell? ⟨b2, o2 + k * 9 + 4, none⟩ = some (.slice x.A x.s.data.length x.c) ∧ W.cell? ⟨b2, o2 + k * 9 + 5, none⟩ = some (.int .i64 x.s.link) ∧ W.cell? ⟨b2, o2 + k * 9 + 6, none⟩ = some (.int .i64 x.s.inf) ∧ W.cell? ⟨b2, o2 + k * 9 + 7, none⟩ = some (.int .i64 x.s.algn) ∧ W.cell? ⟨b2, o2 + k * 9 + 8, none⟩ = some (.int .i64 x.s.ent)))
    have hik : i < O.length := (List.getElem?_eq_some_iff.1 hO1).1
    have hkl : k < ob.L.length := (List.getElem?_eq_some_iff.1 hx1).1
    rw [hbs] at KN
    cases ho : outB Q (i : Int) (k : Int) with
    | true =>
      have HG := Lib.hid (show goodP O Q P ⟨(i : Int), (k : Int), pa⟩ = false by unfold goodP; simp only; rw [hx, ho]; rfl)
      rw [ho] at HOUT
      clear hX hP hO hQ hL hD hb0 hs0 hXp hXz hXs hx n0 n1 n2 n3 n4 m0 m1 m2 m3 m4 m5 m6 m7 m8 hmem hmx hdx hfx KN
      go_enter Try.func36, Try.ntmps36
      go_upto_region 2 with fail
      try rw [hw0]
      clear hw0
      go_upto_region 3 with (first
        | (go_at_call 65; refine HAM.out.mono ?_; rintro r w1 ⟨rfl, hb1⟩; have HB1 := Lib.hid hb1; obtain ⟨-, -, zs⟩ := KX.out _ hb1; have z5 := zs.cell 0; have z6 := zs.cell 1; simp at z5 z6; clear hb1 zs)
        | (go_at_call 66; refine (HOUT.out _ HB1.out).mono ?_; rintro r w2 ⟨rfl, hb2⟩; have HB2 := Lib.hid (HB1.out.trans (hb2.mono HB1.out.size)); clear hb2))
      clear y0 y1 f0
      obtain ⟨-, zz, -⟩ := KX.out _ HB2.out
      obtain ⟨z0, z1, z2, z3⟩ := four_cells zz
      obtain ⟨f0, f1, f2, f3⟩ := four_free zz
      have HZ := Lib.hid zz
      clear zz
      repeat (first | go_skip | go_guarded | go_step | go_upon)
      refine ret_two Try.underlying102 Try.results36 (img_box HZ.out rfl _ _ _ _) (by kernel_rfl) (by rfl) rfl ?_
      exact ⟨fun h => (by rw [HG.out] at h; cases h), fun _ => rfl, But.of_below (below_put (HB0.out.trans (HB2.out.mono HB0.out.size)) (by omega) _ _ _ _)⟩
    | false =>
      rw [ho] at HOUT
      obtain ⟨hg1, hg2⟩ : g < w.heap.size ∧ mp < w.heap.size := ⟨hX.lt, hP.lt⟩
      have KP := Lib.hid (fun W (hW : Below w0.heap.size w0 W) => (by
        have hW' := hb0.trans (hW.mono (by omega))
        exact ⟨hX.below hW' hg1, hP.same (hW'.block mp hg2)⟩ : Box W g 95 #[.map (some mp), v, .map (some my)] ∧ PMap W base mp P))
      have HX := Lib.hid hx
      have HOF := Lib.hid ho
      clear hX hP hO hQ hL hD hb0 hs0 hXp hXz hXs hx ho n0 n1 n2 n3 n4 m0 m1 m2 m3 m4 m5 m6 m7 m8 hmem hmx
      go_enter Try.func36, Try.ntmps36
      go_upto_region 2 with fail
      try rw [hw0]
      clear hw0
      go_upto_region 4 with (first
        | (go_at_call 65; refine HAM.out.mono ?_; rintro r w1 ⟨rfl, hb1⟩; have HB1 := Lib.hid hb1; obtain ⟨-, -, zs⟩ := KX.out _ hb1; have z5 := zs.cell 0; have z6 := zs.cell 1; simp at z5 z6; clear hb1 zs)
        | (go_at_call 66; refine (HOUT.out _ HB1.out).mono ?_; rintro r w2 ⟨rfl, hb2⟩; have HB2 := Lib.hid (HB1.out.trans (hb2.mono HB1.out.size)); clear hb2))
      clear y0 y1 f0 z5 z6
      obtain ⟨-, -, zs⟩ := KX.out _ HB2.out
      have y0 := zs.cell 0
      have y1 := zs.cell 1
      simp at y0 y1
      obtain ⟨n2, m0, m1, m2, m3, m4, m5, m6, m7, m8⟩ := KN.out _ HB2.out
      clear zs
      have hA2 : Below w0.heap.size w0 (w2.alloc (.cells #[.string ⟨#[]⟩, .int .i64 0, .int .u64 0, .int .u64 0, .slice none 0 0, .int .i64 0, .int .i64 0, .int .i64 0, .int .i64 0] 46)).drew := (HB2.out.alloc HB2.out.size _).drew
      have HA2 := Lib.hid hA2
      obtain ⟨-, -, zs⟩ := KX.out _ hA2
      have y0' := zs.cell 0
      have y1' := zs.cell 1
      simp at y0' y1'
      obtain ⟨n2', m0', m1', m2', m3', m4', m5', m6', m7', m8'⟩ := KN.out _ hA2
      clear zs hA2
      go_region
      generalize hw3 : (w2.alloc (.cells #[.string ⟨x.s.name.toArray⟩, .int .i64 x.s.kind, .int .u64 (x.s.flags : Int), .int .u64 (x.s.addr : Int), .slice x.A x.s.data.length x.c, .int .i64 x.s.link, .int .i64 x.s.inf, .int .i64 x.s.algn, .int .i64 x.s.ent] 46)).drew = w3 at *
      have hb3 : Below w0.heap.size w0 w3 := hw3 ▸ (HB2.out.alloc HB2.out.size _).drew
      have hXw : Box w3 w2.heap.size 46 #[.string ⟨x.s.name.toArray⟩, .int .i64 x.s.kind, .int .u64 (x.s.flags : Int), .int .u64 (x.s.addr : Int), .slice x.A x.s.data.length x.c, .int .i64 x.s.link, .int .i64 x.s.inf, .int .i64 x.s.algn, .int .i64 x.s.ent] := hw3 ▸ (Box.new w2 _ _).drew
      have HB3 := Lib.hid hb3
      clear hw3 y0 y1 n2 m0 m1 m2 m3 m4 m5 m6 m7 m8 y0' y1' n2' m0' m1' m2' m3' m4' m5' m6' m7' m8' HA2
      have KZ := Lib.hid (fun W (hW : Below w3.heap.size w3 W) => (nine_cells (hXw.below hW hXw.lt)))
      obtain ⟨zp, zz, zs⟩ := KX.out _ hb3
      have y0 := zs.cell 0
      have y1 := zs.cell 1
      have p2 := zp.cell 2
      simp at y0 y1 p2
      have g0 := (KP.out _ hb3).1.cell 0
      simp at g0
      have hlook := fun n => ((KP.out _ hb3).2.same (w' := w3.drewN n) rfl).look hp.1 hp.2.1
      simp only at hlook
      obtain ⟨m0, m1, m2, m3, m4, m5, m6, m7, m8⟩ := KZ.out _ (Below.refl _ _)
      have hcv : IntKind.u64.wrap (x.s.data.length : Int) = (x.s.data.length : Int) := by rw [IntKind.wrap_u64]; omega
      have HLN := Lib.hid (show sizK O ⟨(i : Int), (k : Int), pa⟩ = x.s.data.length by unfold sizK; simp only; rw [HX.out])
      have HGD := Lib.hid (show goodP O Q P ⟨(i : Int), (k : Int), pa⟩ = (memB x.s.flags && ((outK P (i : Int) (k : Int)).isNone && decide (pa < 18446744073709551615 - x.s.data.length))) by unfold goodP; simp only; rw [HX.out]; simp only; rw [HOF.out]; rfl)
      clear zp zz zs hb3 hXw
      have HDX := Lib.hid hdx
      generalize outA P (i : Int) (k : Int) = oa at *
      generalize hko : (outK P (i : Int) (k : Int)) = ko at *
      have HKO := Lib.hid hko
      clear hko
      go_upto_region 6 with fail
      go_quiet (fail)
      have HAL := Lib.hid (alloc_any (.string ⟨x.s.name.toArray⟩) x.s.kind x.s.flags (.int .u64 (x.s.addr : Int)) (.slice x.A x.s.data.length x.c) (.int .i64 x.s.link) (.int .i64 x.s.inf) (.int .i64 x.s.algn) (.int .i64 x.s.ent) hfx (w3.drewN nq))
      obtain ⟨mT, hmT⟩ : ∃ mT : Nat, 18446744073709551615 - x.s.data.length = mT := ⟨_, rfl⟩
      have hsub : IntKind.u64.wrap (18446744073709551615 - (x.s.data.length : Int)) = (mT : Int) := sub_tomb hdx hmT
      rw [hmT] at HGD
      have HMT := Lib.hid hmT
      clear hmT hlook hcv hdx
      cases hm : memB x.s.flags with
      | false =>
        have HG := Lib.hid (show goodP O Q P ⟨(i : Int), (k : Int), pa⟩ = false by rw [HGD.out, hm]; rfl)
        rw [hm] at HAL
        clear hm
        go_upto_region 8 with (go_at_call 67; refine HAL.out.mono ?_; rintro r w4 ⟨rfl, hb4⟩; have HB4 := Lib.hid (HB3.out.trans ((below_then nq hb4).mono HB3.out.size)); obtain ⟨zp, -, -⟩ := KX.out _ HB4.out; have q2 := zp.cell 2; simp at q2; clear zp hb4)
        obtain ⟨-, zz, -⟩ := KX.out _ HB4.out
        obtain ⟨z0, z1, z2, z3⟩ := four_cells zz
        obtain ⟨f0, f1, f2, f3⟩ := four_free zz
        have HZ := Lib.hid zz
        clear zz
        repeat (first | go_skip | go_guarded | go_step | go_upon)
        refine ret_two Try.underlying102 Try.results36 (img_box HZ.out rfl _ _ _ _) (by kernel_rfl) (by rfl) rfl ?_
        exact ⟨fun h => (by rw [HG.out] at h; cases h), fun _ => rfl, But.of_below (below_put (HB0.out.trans (HB4.out.mono HB0.out.size)) (by omega) _ _ _ _)⟩
      | true =>
        rw [hm] at HAL HGD
        clear hm
        cases ko with
        | some kk =>
          have HG := Lib.hid (show goodP O Q P ⟨(i : Int), (k : Int), pa⟩ = false by rw [HGD.out]; rfl)
          go_upto_region 8 with (go_at_call 67; refine HAL.out.mono ?_; rintro r w4 ⟨rfl, hb4⟩; have HB4 := Lib.hid (HB3.out.trans ((below_then nq hb4).mono HB3.out.size)); obtain ⟨zp, -, -⟩ := KX.out _ HB4.out; have q2 := zp.cell 2; simp at q2; clear zp hb4)
          obtain ⟨-, zz, -⟩ := KX.out _ HB4.out
          obtain ⟨z0, z1, z2, z3⟩ := four_cells zz
          obtain ⟨f0, f1, f2, f3⟩ := four_free zz
          have HZ := Lib.hid zz
          clear zz
          repeat (first | go_skip | go_guarded | go_step | go_upon)
          refine ret_two Try.underlying102 Try.results36 (img_box HZ.out rfl _ _ _ _) (by kernel_rfl) (by rfl) rfl ?_
          exact ⟨fun h => (by rw [HG.out] at h; cases h), fun _ => rfl, But.of_below (below_put (HB0.out.trans (HB4.out.mono HB0.out.size)) (by omega) _ _ _ _)⟩
        | none =>
          by_cases hpa : pa < mT
          · have HG := Lib.hid (show goodP O Q P ⟨(i : Int), (k : Int), pa⟩ = true by rw [HGD.out, decide_eq_true hpa]; rfl)
            have hdp : decide ((mT : Int) ≤ (pa : Int)) = false := decide_eq_false (by omega)
            have hdp' : decide (mT ≤ pa) = false := decide_eq_false (by omega)
            have HPA := Lib.hid hpa
            clear hpa
            go_upto_region 9 with (go_at_call 67; refine HAL.out.mono ?_; rintro r w4 ⟨rfl, hb4⟩; have HB4 := Lib.hid (HB3.out.trans ((below_then nq hb4).mono HB3.out.size)); obtain ⟨zp, -, -⟩ := KX.out _ HB4.out; have q2 := zp.cell 2; simp at q2; clear zp hb4)
            obtain ⟨w5, hrun, hP5, hg5⟩ := ((KP.out _ HB4.out).2.same (w' := w4.drew) rfl).put hp HKO.out (Nat.le_trans hpl (by omega))
            simp only at hrun
            have HP5 := Lib.hid hP5
            have HG5 := Lib.hid hg5
            obtain ⟨zp, zz, zs⟩ := KX.out _ HB4.out
            have HQ5 := Lib.hid (show Box w5 w.heap.size 87 #[.int .i64 (i : Int), .int .i64 (k : Int), .int .u64 (pa : Int)] ∧ Box w5 (w.heap.size + 1) 102 #[.int .u64 0, .int .u64 0, .int .i64 0, .int .i64 0] ∧ Box w5 (w.heap.size + 1 + 1) 100 #[.int .i64 (i : Int), .int .i64 (k : Int)] from
              ⟨zp.drew.grown hg5 (by simp; omega), zz.drew.grown hg5 (by simp; omega), zs.drew.grown hg5 (by simp; omega)⟩)
            have q0 := zs.cell 0
            have q1 := zs.cell 1
            have g4 := (KP.out _ HB4.out).1.cell 0
            simp at q0 q1 g4
            clear zp zz zs hP5 hg5
            go_region
            obtain ⟨zp, zz, zs⟩ := HQ5.out
            have p0 := zp.cell 0
            have p1 := zp.cell 1
            have p2' := zp.cell 2
            have s0 := zs.cell 0
            have s1 := zs.cell 1
            obtain ⟨z0, z1, z2, z3⟩ := four_cells zz
            obtain ⟨f0, f1, f2, f3⟩ := four_free zz
            have HZ := Lib.hid zz
            simp at p0 p1 p2' s0 s1
            clear zp zz zs y0 y1 p2 g0 q0 q1 q2 g4 m0 m1 m2 m3 m4 m5 m6 m7 m8
            obtain ⟨hi, hhi⟩ : ∃ hi : Nat, pa + x.s.data.length = hi := ⟨_, rfl⟩
            have hadd : IntKind.u64.wrap ((pa : Int) + (x.s.data.length : Int)) = (hi : Int) := by
              rw [IntKind.wrap_u64]
              have h1 := HPA.out
              have h2 := HMT.out
              omega
            have HHI := Lib.hid hhi
            clear hhi
            repeat (first | go_skip | go_guarded | go_step | go_upon)
            refine ret_two Try.underlying102 Try.results36 (img_box HZ.out rfl _ _ _ _) (by kernel_rfl) (by rfl) rfl ?_
            have ho4 := four_only w5 (w.heap.size + 1) (.int .u64 (pa : Int)) (.int .u64 (hi : Int)) (.int .i64 (i : Int)) (.int .i64 (k : Int))
            refine ⟨fun _ => ⟨?_, ?_⟩, fun h => (by rw [HG.out] at h; cases h), ?_⟩
            · have e : imgP O ⟨(i : Int), (k : Int), pa⟩ = ⟨pa, hi, (i : Int), (k : Int)⟩ := by unfold imgP; rw [HLN.out, HHI.out]
              rw [e]
              rfl
            · exact HP5.out.same (ho4.block mp HP5.out.lt (by simp; omega))
            · exact ((((But.of_below (HB0.out.trans (HB4.out.mono HB0.out.size))).then_ (Below.refl _ _).drew).grown HG5.out (fun x e => .inl (by injection e with e; exact e.symm)))).grown ho4 (fun x e => .inr (by injection e with e; omega))
          · have HG := Lib.hid (show goodP O Q P ⟨(i : Int), (k : Int), pa⟩ = false by rw [HGD.out, decide_eq_false hpa]; rfl)
            have hdp : decide ((mT : Int) ≤ (pa : Int)) = true := decide_eq_true (by omega)
            have hdp' : decide (mT ≤ pa) = true := decide_eq_true (by omega)
            clear hpa
            go_upto_region 8 with (go_at_call 67; refine HAL.out.mono ?_; rintro r w4 ⟨rfl, hb4⟩; have HB4 := Lib.hid (HB3.out.trans ((below_then nq hb4).mono HB3.out.size)); obtain ⟨zp, -, -⟩ := KX.out _ HB4.out; have q2 := zp.cell 2; simp at q2; clear zp hb4)
            obtain ⟨-, zz, -⟩ := KX.out _ HB4.out
            obtain ⟨z0, z1, z2, z3⟩ := four_cells zz
            obtain ⟨f0, f1, f2, f3⟩ := four_free zz
            have HZ := Lib.hid zz
            clear zz
            repeat (first | go_skip | go_guarded | go_step | go_upon)
            refine ret_two Try.underlying102 Try.results36 (img_box HZ.out rfl _ _ _ _) (by kernel_rfl) (by rfl) rfl ?_
            exact ⟨fun h => (by rw [HG.out] at h; cases h), fun _ => rfl, But.of_below (below_put (HB0.out.trans (HB4.out.mono HB0.out.size)) (by omega) _ _ _ _)⟩

end Go.Proofs.Yteadabmlleipiaa
