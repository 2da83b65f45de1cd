/-
  LinkmapAsks' walk in the card's order of parts.
-/
import Derived.Test.YtejicboemkpeoaaDoorLnY
import Derived.Test.YtejicboemkpeoaaDoorGpI
import Derived.Test.YtejicboemkpeoaaDoorLnW
import Derived.Test.YtejicboemkpeoaaDoorGpT
import Derived.Test.YtejicboemkpeoaaDoorLoA
import Derived.Test.YtejicboemkpeoaaDoorLmF
import Derived.Test.YtejicboemkpeoaaDoorLoC
import Derived.Test.YtejicboemkpeoaaDoorLmN
import Derived.Test.YtejicboemkpeoaaDoorLoK
import Derived.Test.YtejicboemkpeoaaDoorLoI
import Derived.Test.YtejicboemkpeoaaDoorLoM
import Derived.Test.YtejicboemkpeoaaDoorLnL
namespace Go.Proofs.YtejicboemkpeoaaDoor
open Go Go.RowKit

theorem place_infoA : (Tryd.prog.info? 43).map (fun i => (i.zero, i.size, i.bytes)) = some (some (.agg #[.int .i64 0, .int .i64 0, .int .u64 0]), 3, 24) := by kernel_rfl
theorem named_infoA : (Tryd.prog.info? 67).map (fun i => (i.zero, i.size, i.bytes)) = some (some (.agg #[.string ⟨#[]⟩, .int .u64 0]), 2, 24) := by kernel_rfl
theorem cellsF_allA {α : Type} {f : α → List Value} (h : ∀ x, ∀ u ∈ f x, u.oneCell' = true) (L : List α) : ∀ u ∈ cellsF f L, u.oneCell' = true := fun u hu => by
  obtain ⟨x, _, hx⟩ := List.mem_flatMap.1 hu
  exact h x u hx
/-- What the program's New tells, by the map, the objects and what was left out. -/
def NewA (w : World) (base : Nat) (O : List ObjV) (Q : List BLay) (P : List Place) (Y : List Named) (v : Value) (e : Int) : Prop :=
  (refM O Q P Y = true ∧ v = .pointer none ∧ e = 30) ∨ (refM O Q P Y = false ∧ ¬ ApartI (imgsP O P) ∧ v = .pointer none ∧ e = 31) ∨
   (refM O Q P Y = false ∧ ApartI (imgsP O P) ∧ e = 0 ∧ ∃ g, v = .pointer (some ⟨g, 0, none⟩) ∧ LinkG w base g O P Y)
theorem newA_any {w : World} {aP aY aO aQ : Option Addr} {cP cY cO cQ : Nat} {P : List Place} {Y : List Named} {O : List ObjV} {Q : List BLay} (hP : Row 3 Place.cells w w.heap.size aP P) (hY : Row 2 Named.cells w w.heap.size aY Y) (hpn : ∀ p ∈ P, p.Nums) (hyn : ∀ y ∈ Y, y.Nums) (hyl : ∀ y ∈ Y, y.name.length ≤ 300)
    (hO : Objs w w.heap.size aO O) (hs : ∀ ob ∈ O, ob.Small) (hQ : BRows w w.heap.size aQ Q) :
    Calls Tryd.prog 7 #[.agg #[.slice aP P.length cP, .slice aY Y.length cY], .slice aO O.length cO, .slice aQ Q.length cQ] w fun r w' => ∃ v e, r = .returned (.tuple #[v, .int .i64 e]) ∧ Below w.heap.size w w' ∧ NewA w' w.heap.size O Q P Y v e := by
  refine (lnew_any (cQ := cQ) (Q := Q) (aQ := aQ) hP hY hpn hyn (fun y hy => Nat.le_trans (hyl y hy) (by decide)) hO hQ (fun ob hob => Nat.le_trans (hs ob hob).S (by decide)) (fun ob hob x hx => ⟨Nat.le_trans ((hs ob hob).s x hx).1 (by decide), ((hO.ok ob hob).secs.ok x hx).fits.flags⟩)).mono ?_
  rintro r w' ⟨hb, h1, h2⟩
  cases h : refM O Q P Y with
  | true => exact ⟨_, _, h1 h, hb, .inl ⟨h, rfl, rfl⟩⟩
  | false =>
    by_cases ha : ApartI (imgsP O P)
    · obtain ⟨g, e, hg⟩ := (h2 h).2 ha
      exact ⟨_, _, e, hb, .inr (.inr ⟨h, ha, rfl, g, rfl, hg⟩)⟩
    · exact ⟨_, _, (h2 h).1 ha, hb, .inr (.inl ⟨h, ha, rfl, rfl⟩)⟩
/-- Whole, by the images and by the places. -/
theorem whole_same {O : List ObjV} {P : List Place} {R : List Img} (h : MapR O P R) (lo hi : Nat) : wholeI R lo hi = wholeB P (P.map (sizK O)) lo hi := by
  unfold wholeI wholeB
  cases hk : inK P (P.map (sizK O)) lo with
  | none => rw [h.in_none hk]
  | some k =>
    obtain ⟨p, hp, -, ha, he⟩ := h.in_some hk
    have e2 : (P.map (sizK O))[k]? = some (sizK O p) := by rw [List.getElem?_map, hp]; rfl
    simp only [he, hp, e2]
    show (decide (lo < hi) && decide (hi ≤ p.addr + sizK O p)) = (decide (lo < hi) && decide (hi - p.addr ≤ sizK O p))
    congr 1
    exact decide_eq_decide.2 (by omega)
/-- What an address is told as, by both. -/
theorem in_facts {O : List ObjV} {P : List Place} {R : List Img} (h : MapR O P R) (a : Nat) : ∃ (ob se : Int) (off : Nat) (ok : Bool) (ki : Int),
    inV R a = .tuple #[.int .i64 ob, .int .i64 se, .int .u64 (off : Int), .bool ok] ∧ inI P (P.map (sizK O)) a = ki ∧ (atI R a).isSome = ok ∧
    ((ob = 0 ∧ se = 0 ∧ off = 0 ∧ ok = false ∧ ki = -1) ∨ (ok = true ∧ ∃ (kk : Nat) (p : Place), ki = (kk : Int) ∧ P[kk]? = some p ∧ ob = p.obj ∧ se = p.sect ∧ off = a - p.addr ∧ p.addr ≤ a)) := by
  cases hin : inK P (P.map (sizK O)) a with
  | none =>
    have hat := h.in_none hin
    exact ⟨0, 0, 0, false, -1, by unfold inV; rw [hat]; rfl, by unfold inI; rw [hin], by rw [hat]; rfl, .inl ⟨rfl, rfl, rfl, rfl, rfl⟩⟩
  | some kk =>
    obtain ⟨p, hp, -, hpa, hat⟩ := h.in_some hin
    exact ⟨p.obj, p.sect, a - p.addr, true, kk, by unfold inV; rw [hat]; rfl, by unfold inI; rw [hin], by rw [hat]; rfl, .inr ⟨rfl, kk, p, rfl, hp, rfl, rfl, rfl, hpa⟩⟩
/-! ### A block of the call's own that is turned behind New -/
theorem far_own {W W' : World} {B k n gb : Nat} {e : TypeId} {v : Value} {xs : List Value} (h : W.ownsRow B e n v k xs) (hG : W.grownBy W' (some gb)) (hb : gb < B) : W'.ownsRow B e n v k xs := by
  refine h.kept hG ?_
  rcases h.2 with ⟨rfl, _⟩ | ⟨g', cap, cur, rfl, hB, hh, _⟩
  · exact .inl rfl
  · refine .inr fun he => ?_
    have he' : g' = gb := by simpa [Value.ownBlock] using he
    omega
theorem RNew.linkB {w0 W W' : World} {g gb : Nat} {uP uS uY : Value} {P : List Place} {S : List Nat} {Y : List Named} (h : RNew w0 W g uP uS uY P S Y) (hG : W.grownBy W' (some gb)) (hb : gb < w0.heap.size) : LinkAt W' W'.heap.size g P S Y := by
  have hX := h.box.grown hG (fun e => by injection e with e; have := h.ge; omega)
  obtain ⟨A1, c1, e1, -, -, h1⟩ := own_row place_three (far_own h.p hG hb)
  obtain ⟨A2, c2, e2, -, -, h2⟩ := own_row sizC_one (far_own h.s hG hb)
  obtain ⟨A3, c3, e3, -, -, h3⟩ := own_row named_two (far_own h.y hG hb)
  refine ⟨hX.lt, A1, c1, A2, c2, A3, c3, ?_, h1, h2, h3⟩
  rw [← e1, ← e2, ← e3]
  exact hX
theorem LinkG.apartB {W W' : World} {base g gb : Nat} {O : List ObjV} {P : List Place} {Y : List Named} (h : LinkG W base g O P Y) (hG : W.grownBy W' (some gb)) (hb : gb < base) : LinkG W' base g O P Y := by
  obtain ⟨hge, mp, my, u, R, hX, hP, hY, hO, h1, h2, h3⟩ := h
  refine ⟨hge, mp, my, u, R, hX.grown hG (fun e => by injection e with e; omega), hP.same (hG.block mp hP.lt (fun e => by injection e with e; have := hP.ge; omega)), hY.same (hG.block my hY.lt (fun e => by injection e with e; have := hY.ge; omega)), ?_, h1, h2, h3⟩
  exact far_own hO hG hb
theorem LinkG.belowA {W W' : World} {base g : Nat} {O : List ObjV} {P : List Place} {Y : List Named} (h : LinkG W base g O P Y) (hB : Below W.heap.size W W') : LinkG W' base g O P Y := by
  obtain ⟨hge, mp, my, u, R, hX, hP, hY, hO, h1, h2, h3⟩ := h
  refine ⟨hge, mp, my, u, R, hX.below hB hX.lt, hP.same (hB.block mp hP.lt), hY.same (hB.block my hY.lt), ?_, h1, h2, h3⟩
  exact row_below hO hB
/-- The addresses of a row of places from i on, in a block of its own. -/
def GRow (W : World) (A : Option Addr) (gb N i : Nat) : Prop := ∀ k, i ≤ k → k < N → A = some ⟨gb, 0, none⟩ ∧ ∃ cs, Box W gb 43 cs ∧ ∃ a : Nat, cs[k * 3 + 2]? = some (.int .u64 (a : Int))
theorem grow_start {W : World} {B N c hm : Nat} {A : Option Addr} {P : List Place} (h : W.ownsRow B 43 3 (.slice A P.length c) P.length (cellsF Place.cells P)) (hN : P.length = N) (h1 : B ≤ hm) (h2 : hm < W.heap.size) : ∃ gb, B ≤ gb ∧ gb < W.heap.size ∧ GRow W A gb N 0 := by
  obtain ⟨A', c', e, -, -, hr⟩ := own_row place_three h
  injection e with e1 e2 e3
  subst e1
  rcases h.2 with ⟨-, h0⟩ | ⟨g, cap, cur, ev, hB, hh, -⟩
  · exact ⟨hm, h1, h2, fun k _ hk => by omega⟩
  · injection ev with ev _ _
    have hX : Box W g 43 cur := hh
    refine ⟨g, hB, hX.lt, fun k _ hk => ⟨ev, cur, hX, ?_⟩⟩
    obtain ⟨p, hp⟩ : ∃ p, P[k]? = some p := ⟨P[k]'(by omega), List.getElem?_eq_getElem _⟩
    obtain ⟨b, o, e, -, -, -, h3⟩ := place_at hr hp
    rw [ev] at e
    injection e with e
    injection e with e1 e2
    subst e1 e2
    rw [hX.cell, Nat.zero_add] at h3
    exact ⟨_, h3⟩
theorem GRow.set {W : World} {A : Option Addr} {gb N i : Nat} {v : Value} (h : GRow W A gb N i) : GRow (W.setCell ⟨gb, i * 3 + 2, none⟩ v) A gb N (i + 1) := fun k hk hN => by
  obtain ⟨h1, cs, hX, a, ha⟩ := h k (by omega) hN
  refine ⟨h1, _, hX.set (i * 3 + 2) v, a, ?_⟩
  rw [Array.getElem?_setIfInBounds_ne (by omega)]
  exact ha
/-- A row put together in one append. -/
theorem POk.both {B : Nat} {T : TypeId} {n N : Nat} {xs : List Value} {b : PB} {W : World} {u : Value} (hu : W.ownsRow B T n u N xs) : POk B T n N N xs xs { b with f := true, g := true, v := u } W :=
  ⟨(fun _ h => by cases h), (fun _ h => by cases h), (fun _ => hu), (fun _ => rfl)⟩
/-- What each operation of region 3 has told. -/
def SLA (hw : Nat) (aP aY : Option Addr) (cP cY NP NY : Nat) (b : LB) (n : Nat) (v : Value) (_ : World) : Prop :=
  match n with
  | 0 => b.p.e = true ∧ v = .slice (some ⟨b.p.h, 0, none⟩) 0 0
  | 1 => v = .pointer (some ⟨hw, 0, none⟩)
  | 2 => v = .slice aP NP cP
  | 3 => b.p.g = true ∧ v = b.p.v
  | 4 => b.y.e = true ∧ v = .slice (some ⟨b.y.h, 0, none⟩) 0 0
  | 5 => v = .pointer (some ⟨hw, 1, none⟩)
  | 6 => v = .slice aY NY cY
  | 7 => b.y.g = true ∧ v = b.y.v
  | 8 => (b.p.g = true ∧ b.y.g = true) ∧ v = .agg #[b.p.v, b.y.v]
  | 9 => b.a = true ∧ v = .pointer (some ⟨b.hm, 0, none⟩)
  | 10 => b.s = true
  | _ => True
def RLA (b : LB) (n : Nat) : Prop := (n = 0 → b.p.e = false) ∧ (n = 3 → b.p.f = false ∧ b.p.g = false) ∧ (n = 4 → b.y.e = false) ∧ (n = 7 → b.y.f = false ∧ b.y.g = false) ∧ (n = 9 → b.a = false)

set_option maxRecDepth 10000 in
set_option maxHeartbeats 3200000 in
theorem lasks_walk (aP aY aO aQ aA : Option Addr) (cP cY cO cQ cA : Nat) (P : List Place) (Y : List Named) (O : List ObjV) (Q : List BLay) (A : List Nat) (nm : List UInt8) (w : World) (hT : Tabs w) (hP : Row 3 Place.cells w w.heap.size aP P) (hY : Row 2 Named.cells w w.heap.size aY Y) (hpn : ∀ p ∈ P, p.Nums) (hyn : ∀ y ∈ Y, y.Nums)
    (hO : ObjsIn w w.heap.size aO O) (hQ : BRows w w.heap.size aQ Q) (hql : ∀ q ∈ Q, q.l.length ≤ 9223372036854775807) (hA : Row 1 sizC w w.heap.size aA A) (han : ∀ n ∈ A, n < two64) (hnm : nm.length ≤ maxLen) :
    Calls Tryd.prog 3 #[.agg #[.slice aP P.length cP, .slice aY Y.length cY], .slice aO O.length cO, .slice aQ Q.length cQ, .slice aA A.length cA, .string ⟨nm.toArray⟩] w fun r w' => r = .returned (.bool true) ∧ Below w.heap.size w w' := by
  have HNL := Lib.hid hnm
  have HAN := Lib.hid han
  have HQL := Lib.hid hql
  obtain ⟨NP, hNP⟩ : ∃ n, P.length = n := ⟨_, rfl⟩
  obtain ⟨NY, hNY⟩ : ∃ n, Y.length = n := ⟨_, rfl⟩
  obtain ⟨NQ, hNQ⟩ : ∃ n, Q.length = n := ⟨_, rfl⟩
  obtain ⟨NA, hNA⟩ : ∃ n, A.length = n := ⟨_, rfl⟩
  have HNP := Lib.hid hNP
  have HNY := Lib.hid hNY
  have HNQ := Lib.hid hNQ
  have HNA := Lib.hid hNA
  rw [hNP, hNY, hNQ, hNA]
  clear hnm han hql hNP hNY hNQ hNA
  generalize hw0 : w.alloc (.cells #[.slice aP NP cP, .slice aY NY cY] 25) = w0 at *
  have hb0 : Below w.heap.size w w0 := hw0 ▸ (Below.refl _ _).alloc (Nat.le_refl _) _
  have hs0 : w.heap.size < w0.heap.size := by rw [← hw0]; simp
  have hX := Box.new w 25 #[.slice aP NP cP, .slice aY NY cY]
  rw [hw0] at hX
  have HB0 := Lib.hid hb0
  have HX := Lib.hid (fun W (hW : Below w0.heap.size w0 W) => (⟨by rw [(hX.below hW hs0).cell]; rfl, by rw [(hX.below hW hs0).cell]; rfl⟩ : W.cell? ⟨w.heap.size, 0, none⟩ = some (.slice aP NP cP) ∧ W.cell? ⟨w.heap.size, 1, none⟩ = some (.slice aY NY cY)))
  have HI := Lib.hid (fun W (hW : Below w0.heap.size w0 W) => (by
    have h := hb0.trans (hW.mono hb0.size)
    exact ⟨Row.more (Row.below hP h) h.size, Row.more (Row.below hY h) h.size, (hO.below h).more h.size, (hQ.below h).more h.size, Row.more (Row.below hA h) h.size⟩ : Row 3 Place.cells W W.heap.size aP P ∧ Row 2 Named.cells W W.heap.size aY Y ∧ ObjsIn W W.heap.size aO O ∧ BRows W W.heap.size aQ Q ∧ Row 1 sizC W W.heap.size aA A))
  have HN := Lib.hid (And.intro hpn hyn)
  have HWK := Lib.hid (fun W (hW : Below w0.heap.size w0 W) => works11_any (hT.below (hb0.trans (hW.mono hb0.size))))
  clear hT hP hY hpn hyn hO hQ hA hX hb0
  go_enter Tryd.func3, Tryd.ntmps3
  go_upto_region 1 with fail
  try rw [hw0]
  clear hw0
  have HB1 := Lib.hid (Below.refl w0.heap.size w0)
  have HGR := Lib.hid (great_any (HI.out _ HB1.out).2.2.1 cO)
  have HLO := Lib.hid (fun W hW => (by
    have := long_any (w := W) (aP := aP) (P := P) cP cY (HI.out W hW).2.1 (Nat.le_refl _)
    rw [HNP.out, HNY.out] at this
    exact this : Calls Tryd.prog 5 #[.agg #[.slice aP NP cP, .slice aY NY cY]] W fun r w' => ∃ b : Bool, r = .returned (.bool b) ∧ (b = false → NP ≤ 250 ∧ NY ≤ 250 ∧ ∀ s ∈ Y, s.name.length ≤ 300) ∧ Below W.heap.size W w'))
  go_wp2_with fail
  refine HGR.out.mono ?_
  rintro r w2 ⟨b, rfl, hsm, hb2⟩
  have HB2 := Lib.hid (HB1.out.trans (hb2.mono HB1.out.size))
  have HSM := Lib.hid hsm
  clear hb2 hsm HGR HB1
  obtain ⟨x0, x1⟩ := HX.out _ HB2.out
  cases b with
  | true =>
    go_wp2_with (go_at_call 6; refine (HWK.out _ HB2.out).mono ?_; rintro r w9 ⟨rfl, hb9⟩; have HB9 := Lib.hid (HB2.out.trans (hb9.mono HB2.out.size)); clear hb9)
    go_ret
    exact ⟨rfl, HB0.out.trans (HB9.out.mono HB0.out.size)⟩
  | false =>
    obtain ⟨hn10, hs⟩ := HSM.out rfl
    have HS := Lib.hid hs
    have HN10 := Lib.hid hn10
    have HOB := Lib.hid (fun W (hW : Below w0.heap.size w0 W) => ((HI.out W hW).2.2.1.objs hs : Objs W W.heap.size aO O))
    clear HSM hs hn10
    go_wp2_with fail
    refine (HLO.out _ HB2.out).mono ?_
    rintro r w3 ⟨b3, rfl, hlg, hb3⟩
    have HB3 := Lib.hid (HB2.out.trans (hb3.mono HB2.out.size))
    have HLG := Lib.hid hlg
    clear hb3 hlg HLO x0 x1 HB2
    obtain ⟨x0, x1⟩ := HX.out _ HB3.out
    cases b3 with
    | true =>
      go_wp2_with (go_at_call 6; refine (HWK.out _ HB3.out).mono ?_; rintro r w9 ⟨rfl, hb9⟩; have HB9 := Lib.hid (HB3.out.trans (hb9.mono HB3.out.size)); clear hb9)
      go_ret
      exact ⟨rfl, HB0.out.trans (HB9.out.mono HB0.out.size)⟩
    | false =>
      obtain ⟨h250, h250y, hnm⟩ := HLG.out rfl
      have HNM := Lib.hid hnm
      have HN250 := Lib.hid (And.intro h250 h250y)
      clear hnm HLG h250 h250y
      by_cases hq : 20 < NQ
      · have d : decide ((20 : Int) < (NQ : Int)) = true := by simp; omega
        have d' : decide (20 < NQ) = true := by simpa using hq
        clear hq
        go_wp2_with (go_at_call 6; refine (HWK.out _ HB3.out).mono ?_; rintro r w9 ⟨rfl, hb9⟩; have HB9 := Lib.hid (HB3.out.trans (hb9.mono HB3.out.size)); clear hb9)
        go_ret
        exact ⟨rfl, HB0.out.trans (HB9.out.mono HB0.out.size)⟩
      have d : decide ((20 : Int) < (NQ : Int)) = false := by simp; omega
      have d' : decide (20 < NQ) = false := by simpa using hq
      have HQ20 := Lib.hid (show NQ ≤ 20 by omega)
      clear hq
      by_cases hq : 40 < NA
      · have e : decide ((40 : Int) < (NA : Int)) = true := by simp; omega
        have e' : decide (40 < NA) = true := by simpa using hq
        clear hq
        go_wp2_with (go_at_call 6; refine (HWK.out _ HB3.out).mono ?_; rintro r w9 ⟨rfl, hb9⟩; have HB9 := Lib.hid (HB3.out.trans (hb9.mono HB3.out.size)); clear hb9)
        go_ret
        exact ⟨rfl, HB0.out.trans (HB9.out.mono HB0.out.size)⟩
      have e : decide ((40 : Int) < (NA : Int)) = false := by simp; omega
      have e' : decide (40 < NA) = false := by simpa using hq
      have HA40 := Lib.hid (show NA ≤ 40 by omega)
      clear hq
      go_upto_region 3 with fail
      clear d d' e e' x0 x1
      have HB4 := HB3
      clear HB3
      generalize w3 = w4 at *
      have KX := Lib.hid (fun X (hX : Below w4.heap.size w4 X) => HX.out X (HB4.out.trans (hX.mono HB4.out.size)))
      have HRP := Lib.hid (HI.out _ HB4.out).1
      have HRY := Lib.hid (HI.out _ HB4.out).2.1
      obtain ⟨ip, hp1, hp2, hp3, hp4⟩ := info_parts place_infoA
      obtain ⟨iy, hy1, hy2, hy3, hy4⟩ := info_parts named_infoA
      refine region_ey 244 (SLA w.heap.size aP aY cP cY NP NY) (LOk w4.heap.size w4 43 67 25 3 2 NP NP NY NY (cellsF Place.cells P) (cellsF Place.cells P) (cellsF Named.cells Y) (cellsF Named.cells Y)) RLA LB.zero (fun _ => ⟨fun _ => rfl, fun _ => ⟨rfl, rfl⟩, fun _ => rfl, fun _ => ⟨rfl, rfl⟩, fun _ => rfl⟩) (by kernel_rfl) rfl (by kernel_rfl) (by kernel_rfl) ?good ?steps ?rest
      case good => exact ⟨(Below.refl _ _).drew, ⟨(fun h => by cases h), (fun h => by cases h), (fun h => by cases h), (fun h => by cases h)⟩, ⟨(fun h => by cases h), (fun h => by cases h), (fun h => by cases h), (fun h => by cases h)⟩, (fun h => by cases h), (fun h => by cases h)⟩
      case steps =>
        intro n o ho b a X hN hk hg hRb hdep K hK
        have s5 : a.tmps[5]? = some (.pointer (some ⟨w.heap.size, 0, none⟩)) := slot_some hN (by decide) (kept_at hk (by kernel_rfl))
        rcases n with _ | _ | _ | _ | _ | _ | _ | _ | _ | _ | _ | n
        · obtain rfl := Option.some.inj ho
          clear ho hk
          refine (if_pos (by rfl)).mpr ?_
          go_simp
          have hb : Below X.heap.size X (X.alloc (.cells #[] 43)) := (Below.refl _ _).alloc (Nat.le_refl _) _
          have hup := hg.up hb
          refine hK _ _ { b with p := { b.p with e := true, h := X.heap.size } } ⟨hup.hb, hg.p.new hg.hb.size #[] rfl, hup.y, hup.m, hup.s⟩ ⟨rfl, rfl⟩ ?_ (fun j hj h => ⟨fun e => absurd e hj, h.2.1, h.2.2.1, h.2.2.2.1, h.2.2.2.2⟩)
          intro j u hji hw h
          rcases j with _ | _ | _ | _ | _ | _ | _ | _ | _ | _ | _ | j
          all_goals first | exact h | exact absurd rfl hji | exact trivial | exact absurd (hw.symm.trans (by kernel_rfl)) Bool.false_ne_true
        · obtain rfl := Option.some.inj ho
          clear ho hk
          refine (if_pos (by rfl)).mpr ?_
          clear hN
          go_simp
          exact hK _ _ b hg rfl (fun _ _ _ _ h => h) (fun _ _ h => h)
        · obtain rfl := Option.some.inj ho
          clear ho hk
          refine (if_pos (by rfl)).mpr ?_
          have e0 := slot_some hN (by decide) (hdep { on := 1, ground := .data } (by simp) rfl)
          obtain ⟨x0, x1⟩ := KX.out _ hg.hb
          clear hN
          go_simp
          exact hK _ _ b hg rfl (fun _ _ _ _ h => h) (fun _ _ h => h)
        · obtain rfl := Option.some.inj ho
          clear ho hk
          refine (if_pos (by rfl)).mpr ?_
          obtain ⟨hd, e0⟩ := hdep { on := 0, ground := .data } (by simp) rfl
          have e1 := hdep { on := 2, ground := .data } (by simp) rfl
          obtain ⟨hf, hgf⟩ := hRb.2.1 rfl
          have e0 := e0
          have hnw := fun (W : World) (hW : Below w4.heap.size w4 W) => row_news place_three (Row.below HRP.out hW)
          obtain ⟨hBg, hBx⟩ := hg.p.k0 hd hf
          refine (if_pos (by rfl)).mp (step_rows (ops := #[]) (E := True) rfl (.tmp 49) (.tmp 51) _ rfl w4.heap.size 43 ip _ 3 24 Tryd.underlying22 hp1 hp2 hp3 hp4 (by rfl) (by decide) _ 0 [] e0 (ownr_empty hBx hBg) aP NP cP (cellsF Place.cells P) e1 (by rw [cellsF_length place_three, HNP.out]) (fun e => by have := (hnw X hg.hb).1 e; rw [HNP.out] at this; exact this) (hnw X hg.hb).2 (cellsF_allA Place.one _) (by have := HN250.out; unfold maxLen; omega) (by have := HN250.out; omega) hg.hb.size ?_)
          intro v5 w5 hown5 hg5
          rw [Nat.zero_add, List.nil_append] at hown5
          have hap : Apart1 X w5 67 := .inr ⟨_, _, _, hBx, by decide, hg5⟩
          have hapM : Apart1 X w5 25 := .inr ⟨_, _, _, hBx, by decide, hg5⟩
          have hb' : Below w4.heap.size w4 w5 := hg.hb.trans (below_of_only hg5 hg.hb.size (fun x e => by simp [Value.ownBlock] at e; omega))
          have hsf : b.s = false := by
            cases e : b.s with
            | false => rfl
            | true => rw [(hg.s e).1.1] at hgf; cases hgf
          refine hK _ _ { b with p := { b.p with f := true, g := true, v := v5 } } ⟨hb', POk.both hown5, hg.y.apart hap, fun e => ⟨(hg.m e).1, by have := hapM.box (hg.m e).2; dsimp only; rw [hsf] at this ⊢; exact this⟩, fun e => by have e' : b.s = true := e; rw [hsf] at e'; cases e'⟩ ⟨rfl, rfl⟩ ?_ (fun j hj h => ⟨h.1, fun e => absurd e hj, h.2.2.1, h.2.2.2.1, h.2.2.2.2⟩)
          intro j u hji hw h
          rcases j with _ | _ | _ | _ | _ | _ | _ | _ | _ | _ | _ | j
          all_goals first | exact h | exact absurd rfl hji | exact trivial | exact absurd (hw.symm.trans (by kernel_rfl)) Bool.false_ne_true
        · obtain rfl := Option.some.inj ho
          clear ho hk
          refine (if_pos (by rfl)).mpr ?_
          go_simp
          have hb : Below X.heap.size X (X.alloc (.cells #[] 67)) := (Below.refl _ _).alloc (Nat.le_refl _) _
          have hup := hg.up hb
          refine hK _ _ { b with y := { b.y with e := true, h := X.heap.size } } ⟨hup.hb, hup.p, (POk.new (b := ⟨b.y, b.p, b.a, b.hm, b.s⟩) hg.y hg.hb.size #[] rfl), hup.m, hup.s⟩ ⟨rfl, rfl⟩ ?_ (fun j hj h => ⟨h.1, h.2.1, fun e => absurd e hj, h.2.2.2.1, h.2.2.2.2⟩)
          intro j u hji hw h
          rcases j with _ | _ | _ | _ | _ | _ | _ | _ | _ | _ | _ | j
          all_goals first | exact h | exact absurd rfl hji | exact trivial | exact absurd (hw.symm.trans (by kernel_rfl)) Bool.false_ne_true
        · obtain rfl := Option.some.inj ho
          clear ho hk
          refine (if_pos (by rfl)).mpr ?_
          clear hN
          go_simp
          exact hK _ _ b hg rfl (fun _ _ _ _ h => h) (fun _ _ h => h)
        · obtain rfl := Option.some.inj ho
          clear ho hk
          refine (if_pos (by rfl)).mpr ?_
          have e0 := slot_some hN (by decide) (hdep { on := 5, ground := .data } (by simp) rfl)
          obtain ⟨x0, x1⟩ := KX.out _ hg.hb
          clear hN
          go_simp
          exact hK _ _ b hg rfl (fun _ _ _ _ h => h) (fun _ _ h => h)
        · obtain rfl := Option.some.inj ho
          clear ho hk
          refine (if_pos (by rfl)).mpr ?_
          obtain ⟨hd, e0⟩ := hdep { on := 4, ground := .data } (by simp) rfl
          have e1 := hdep { on := 6, ground := .data } (by simp) rfl
          obtain ⟨hf, hgf⟩ := hRb.2.2.2.1 rfl
          have e0 := e0
          have hnw := fun (W : World) (hW : Below w4.heap.size w4 W) => row_news named_two (Row.below HRY.out hW)
          obtain ⟨hBg, hBx⟩ := hg.y.k0 hd hf
          refine (if_pos (by rfl)).mp (step_rows (ops := #[]) (E := True) rfl (.tmp 53) (.tmp 55) _ rfl w4.heap.size 67 iy _ 2 24 Tryd.underlying23 hy1 hy2 hy3 hy4 (by rfl) (by decide) _ 0 [] e0 (ownr_empty hBx hBg) aY NY cY (cellsF Named.cells Y) e1 (by rw [cellsF_length named_two, HNY.out]) (fun e => by have := (hnw X hg.hb).1 e; rw [HNY.out] at this; exact this) (hnw X hg.hb).2 (cellsF_allA Named.one _) (by have := HN250.out; unfold maxLen; omega) (by have := HN250.out; omega) hg.hb.size ?_)
          intro v5 w5 hown5 hg5
          rw [Nat.zero_add, List.nil_append] at hown5
          have hap : Apart1 X w5 43 := .inr ⟨_, _, _, hBx, by decide, hg5⟩
          have hapM : Apart1 X w5 25 := .inr ⟨_, _, _, hBx, by decide, hg5⟩
          have hb' : Below w4.heap.size w4 w5 := hg.hb.trans (below_of_only hg5 hg.hb.size (fun x e => by simp [Value.ownBlock] at e; omega))
          have hsf : b.s = false := by
            cases e : b.s with
            | false => rfl
            | true => rw [(hg.s e).1.2] at hgf; cases hgf
          refine hK _ _ { b with y := { b.y with f := true, g := true, v := v5 } } ⟨hb', hg.p.apart hap, POk.both hown5, fun e => ⟨(hg.m e).1, by have := hapM.box (hg.m e).2; dsimp only; rw [hsf] at this ⊢; exact this⟩, fun e => by have e' : b.s = true := e; rw [hsf] at e'; cases e'⟩ ⟨rfl, rfl⟩ ?_ (fun j hj h => ⟨h.1, h.2.1, h.2.2.1, fun e => absurd e hj, h.2.2.2.2⟩)
          intro j u hji hw h
          rcases j with _ | _ | _ | _ | _ | _ | _ | _ | _ | _ | _ | j
          all_goals first | exact h | exact absurd rfl hji | exact trivial | exact absurd (hw.symm.trans (by kernel_rfl)) Bool.false_ne_true
        · obtain rfl := Option.some.inj ho
          clear ho hk
          refine (if_pos (by rfl)).mpr ?_
          obtain ⟨hp, e0⟩ := hdep { on := 3, ground := .data } (by simp) rfl
          obtain ⟨hy, e1⟩ := hdep { on := 7, ground := .data } (by simp) rfl
          have e0 := slot_some hN (by decide) e0
          have e1 := slot_some hN (by decide) e1
          obtain ⟨A1, c1, q1⟩ := lrow_slice (hg.p.k2 hp)
          obtain ⟨A2, c2, q2⟩ := lrow_slice (hg.y.k2 hy)
          rw [q1] at e0
          rw [q2] at e1
          clear hN
          go_simp
          exact hK _ _ b hg ⟨⟨hp, hy⟩, by show Value.agg _ = _; rw [q1, q2]⟩ (fun _ _ _ _ h => h) (fun _ _ h => h)
        · obtain rfl := Option.some.inj ho
          clear ho hk
          refine (if_pos (by rfl)).mpr ?_
          have ha := hRb.2.2.2.2 rfl
          go_simp
          have hb : Below X.heap.size X (X.alloc (.cells #[.slice none 0 0, .slice none 0 0] 25)) := (Below.refl _ _).alloc (Nat.le_refl _) _
          have hup := hg.up hb
          have hsf : b.s = false := by
            cases e : b.s with
            | false => rfl
            | true => rw [(hg.s e).2] at ha; cases ha
          refine hK _ _ { b with a := true, hm := X.heap.size } ⟨hup.hb, hup.p, hup.y, fun _ => ⟨hg.hb.size, by dsimp only; rw [hsf]; exact Box.new X _ _⟩, fun e => by have e' : b.s = true := e; rw [hsf] at e'; cases e'⟩ ⟨rfl, rfl⟩ ?_ (fun j hj h => ⟨h.1, h.2.1, h.2.2.1, h.2.2.2.1, fun e => absurd e hj⟩)
          intro j u hji hw h
          rcases j with _ | _ | _ | _ | _ | _ | _ | _ | _ | _ | _ | j
          all_goals first | exact h | exact absurd rfl hji | exact trivial | exact absurd (hw.symm.trans (by kernel_rfl)) Bool.false_ne_true
        · obtain rfl := Option.some.inj ho
          clear ho hk
          refine (if_pos (by rfl)).mpr ?_
          obtain ⟨ha, e0⟩ := hdep { on := 9, ground := .data } (by simp) rfl
          obtain ⟨⟨hp, hy⟩, e1⟩ := hdep { on := 8, ground := .data } (by simp) rfl
          have e0 := slot_some hN (by decide) e0
          have e1 := slot_some hN (by decide) e1
          obtain ⟨hB, hX⟩ := hg.m ha
          have hk1 := hg.p.k2 hp
          have hk2 := hg.y.k2 hy
          obtain ⟨A1, c1, q1⟩ := lrow_slice hk1
          obtain ⟨A2, c2, q2⟩ := lrow_slice hk2
          rw [q1, q2] at e1
          have hc : (∃ z, X.cell? ⟨b.hm, 0, none⟩ = some z) ∧ ∃ z, X.cell? ⟨b.hm, 1, none⟩ = some z := by
            generalize b.s = bs at hX
            cases bs
            all_goals
              have v0 := hX.cell 0
              have v1 := hX.cell 1
              exact ⟨⟨_, v0⟩, ⟨_, v1⟩⟩
          obtain ⟨⟨z0, v0⟩, ⟨z1, v1⟩⟩ := hc
          have f0 := hX.free 0
          have f1 := hX.free 1
          have hgr := only_set (only_set (only_refl X (some b.hm)) 0 (.slice A1 NP c1)) 1 (.slice A2 NY c2)
          have hbx : Box ((X.setCell ⟨b.hm, 0, none⟩ (.slice A1 NP c1)).setCell ⟨b.hm, 1, none⟩ (.slice A2 NY c2)) b.hm 25 #[.slice A1 NP c1, .slice A2 NY c2] := by
            have h2 := (hX.set 0 (.slice A1 NP c1)).set 1 (.slice A2 NY c2)
            generalize b.s = bs at h2
            cases bs <;> simpa [lstored] using h2
          have hap : ∀ T, 25 ≠ T → Apart1 X ((X.setCell ⟨b.hm, 0, none⟩ (.slice A1 NP c1)).setCell ⟨b.hm, 1, none⟩ (.slice A2 NY c2)) T := fun T hT => .inr ⟨_, _, _, hX, hT, hgr⟩
          have hb' := hg.hb.trans (below_of_only hgr hg.hb.size (fun x e => by injection e with e; omega))
          clear hN
          go_simp
          refine hK undef _ { b with s := true } ⟨hb', hg.p.apart (hap _ (by decide)), hg.y.apart (hap _ (by decide)), fun _ => ⟨hB, by show Box _ b.hm _ #[b.p.v, b.y.v]; rw [q1, q2]; exact hbx⟩, fun _ => ⟨⟨hp, hy⟩, ha⟩⟩ rfl ?_ (fun _ _ h => h)
          intro j u hji hw h
          rcases j with _ | _ | _ | _ | _ | _ | _ | _ | _ | _ | _ | j
          all_goals first | exact h | exact absurd rfl hji | exact trivial | exact absurd (hw.symm.trans (by kernel_rfl)) Bool.false_ne_true
        · exact absurd ho (by simp)
      case rest =>
        intro b a X hN hdf hk hg hall
        obtain ⟨ha, e11⟩ := hall 9 (by decide)
        have hs : b.s = true := hall 10 (by decide)
        obtain ⟨⟨hp, hy⟩, -⟩ := hg.s hs
        have hm := (hg.m ha).2
        rw [hs] at hm
        have HRW1 := Lib.hid (hg.p.k2 hp)
        have HRW2 := Lib.hid (hg.y.k2 hy)
        have HMB := Lib.hid (show Box X b.hm 25 #[b.p.v, b.y.v] from hm)
        have HB6 := Lib.hid hg.hb
        have HM6 := Lib.hid (hg.m ha).1
        rw [act_eq [49, 50, 51, 52, 53, 54, 55, 56, 57, 11] hN rfl hdf hk (by kernel_rfl)]
        obtain ⟨F, hF⟩ : ∃ F : Tmp → Value, F = fun t => a.tmps.getD t undef := ⟨_, rfl⟩
        have e11 : F 11 = .pointer (some ⟨b.hm, 0, none⟩) := by rw [hF]; exact e11
        rw [← hF]
        clear hF hk hall hN hdf hg hm hs ha hp hy
        simp only [laySlots, List.setIfInBounds_toArray, List.set_cons_succ, List.set_cons_zero]
        rw [e11]
        clear e11
        generalize b.hm = hm at *
        generalize b.p.v = u1 at *
        generalize b.y.v = u2 at *
        refine ‹∀ (a : Act) (w : World), Code.wp Tryd.prog _ _ a w → _› _ _ ?_
        -- regions 4 and 5
        have HR1 := Lib.hid (show ∃ A c, u1 = .slice A NP c ∧ Row 3 Place.cells X X.heap.size A P from by
          have h := HRW1.out
          rw [← HNP.out] at h
          obtain ⟨A, c, e, -, -, hr⟩ := own_row place_three h
          rw [HNP.out] at e
          exact ⟨A, c, e, hr⟩)
        have HR2 := Lib.hid (show ∃ A c, u2 = .slice A NY c ∧ Row 2 Named.cells X X.heap.size A Y from by
          have h := HRW2.out
          rw [← HNY.out] at h
          obtain ⟨A, c, e, -, -, hr⟩ := own_row named_two h
          rw [HNY.out] at e
          exact ⟨A, c, e, hr⟩)
        clear HRW2
        have HRW1' := HRW1
        obtain ⟨A1, c1, rfl, hr1⟩ := HR1.out
        obtain ⟨A2, c2, rfl, hr2⟩ := HR2.out
        have HRR1 := Lib.hid hr1
        have HRR2 := Lib.hid hr2
        have HBX := Lib.hid (HB4.out.trans (HB6.out.mono HB4.out.size))
        have KXX := Lib.hid (fun (W : World) (hW : Below X.heap.size X W) => KX.out W (HB6.out.trans (hW.mono HB6.out.size)))
        have KMM := Lib.hid (fun (W : World) (hW : Below X.heap.size X W) => (⟨by rw [(HMB.out.below hW HMB.out.lt).cell]; rfl, by rw [(HMB.out.below hW HMB.out.lt).cell]; rfl⟩ : W.cell? ⟨hm, 0, none⟩ = some (.slice A1 NP c1) ∧ W.cell? ⟨hm, 1, none⟩ = some (.slice A2 NY c2)))
        have HOS := Lib.hid (fun (W : World) (hW : Below X.heap.size X W) => objects_any (HOB.out W (HBX.out.trans (hW.mono HBX.out.size))) cO (by have := HN10.out; omega))
        have HNW := Lib.hid (fun (W : World) (hW : Below X.heap.size X W) A4 c4 (h4 : Objs W W.heap.size A4 O) => (by
          have := newA_any (cP := c1) (cY := c2) (cO := c4) (cQ := cQ) (HRR1.out.up hW) (HRR2.out.up hW) HN.out.1 HN.out.2 HNM.out h4 HS.out (HI.out W (HBX.out.trans (hW.mono HBX.out.size))).2.2.2.1
          rw [HNP.out, HNY.out, HNQ.out] at this
          exact this : Calls Tryd.prog 7 #[.agg #[.slice A1 NP c1, .slice A2 NY c2], .slice A4 O.length c4, .slice aQ NQ cQ] W fun r w' => ∃ v e, r = .returned (.tuple #[v, .int .i64 e]) ∧ Below W.heap.size W w' ∧ NewA w' W.heap.size O Q P Y v e))
        have HRN := Lib.hid (fun (W : World) (hW : Below X.heap.size X W) => (by
          have h := HI.out W (HBX.out.trans (hW.mono HBX.out.size))
          have := rlnew_any (cP := cP) (cY := cY) (cO := cO) (cQ := cQ) h.1 h.2.1 HN.out.1 HNM.out (HOB.out W (HBX.out.trans (hW.mono HBX.out.size))) h.2.2.2.1 (fun ob hob => ⟨Nat.le_trans (HS.out ob hob).S (by decide), fun x hx => Nat.le_trans ((HS.out ob hob).s x hx).1 (by decide)⟩) (Nat.le_trans HN10.out (by decide)) (by rw [HNQ.out]; exact Nat.le_trans HQ20.out (by decide)) HQL.out
          rw [HNP.out, HNY.out, HNQ.out] at this
          exact this : Calls Tryd.prog 9 #[.agg #[.slice aP NP cP, .slice aY NY cY], .slice aO O.length cO, .slice aQ NQ cQ] W fun r w' => RNewIs W O Q P Y r w'))
        rw [← HNP.out] at HRW1'
        clear hr1 hr2 HR1 HR2 HRP HRY hp1 hp2 hp3 hp4 hy1 hy2 hy3 hy4
        go_upto_region 4 with fail
        go_region_held_law (fun W => W.cell? ⟨hm, 0, none⟩ = some (.slice A1 NP c1) ∧ W.cell? ⟨hm, 1, none⟩ = some (.slice A2 NY c2))
          ((refine KMM.out _ ?_; (repeat' (first | (with_reducible exact Below.refl _ _) | (with_reducible assumption) | (with_reducible refine below_drewN ?_ _) | (with_reducible refine Below.drew ?_)))))
          (first
            | (go_at_call 8; refine (HOS.out _ (show Below X.heap.size X _ by (repeat' (first | (with_reducible exact Below.refl _ _) | (with_reducible assumption) | (with_reducible refine below_drewN ?_ _) | (with_reducible refine Below.drew ?_))))).mono ?_; rintro r w7 ⟨A4, c4, rfl, -, hO4, hb⟩; have hb7 := (show Below X.heap.size X _ by (repeat' (first | (with_reducible exact Below.refl _ _) | (with_reducible assumption) | (with_reducible refine below_drewN ?_ _) | (with_reducible refine Below.drew ?_)))).trans (hb.mono (by simp)); clear hb)
            | (go_at_call 7; refine (HNW.out _ hb7 _ _ hO4).mono ?_; rintro r w8 ⟨v8, e8, rfl, hb, hN8⟩; have hb8 := hb7.trans (hb.mono hb7.size); have HN8 := Lib.hid (And.intro hN8 hb7.size); clear hb hN8))
        have HB8 := Lib.hid hb8
        clear hb7 hb8 hO4 HNW HOS
        obtain ⟨x0, x1⟩ := KXX.out _ HB8.out
        go_upto_region 6 with (go_at_call 9; refine (HRN.out _ HB8.out).mono ?_; rintro r w9 ⟨hb9, v9, e9, rfl, h9⟩; have HB89 := Lib.hid hb9; have HN9 := Lib.hid h9; clear hb9 h9)
        clear HRN x0 x1
        -- regions 6 to 14
        have HB49 := Lib.hid ((HB6.out.trans ((HB8.out.trans (HB89.out.mono HB8.out.size)).mono HB6.out.size)))
        have HMB9 := Lib.hid (HMB.out.below (HB8.out.trans (HB89.out.mono HB8.out.size)) HMB.out.lt)
        obtain ⟨gb, hgb1, hgb2, hgr⟩ := (show ∃ gb, w4.heap.size ≤ gb ∧ gb < X.heap.size ∧ GRow w9 A1 gb NP 0 from by
          obtain ⟨gb, h1, h2, h3⟩ := grow_start HRW1'.out HNP.out HM6.out HMB.out.lt
          refine ⟨gb, h1, h2, fun k hk hN => ?_⟩
          obtain ⟨k1, cs, hX, hc⟩ := h3 k hk hN
          exact ⟨k1, cs, hX.below (HB8.out.trans (HB89.out.mono HB8.out.size)) h2, hc⟩)
        have HGB := Lib.hid (And.intro hgb1 hgb2)
        have HGR := Lib.hid hgr
        clear hgb1 hgb2 hgr HRW1'
        have k0 := HMB9.out.cell 0
        simp at k0
        go_upto_region 8 with fail
        clear k0
        go_loopg [76] NP (fun gk vi wr => ∃ (i : Nat), i ≤ NP ∧ gk = NP - i ∧ vi = .int .i64 i ∧ Hid (w9.grownBy wr (some gb)) ∧ Hid (GRow wr A1 gb NP i) ∧ Hid (Box wr hm 25 #[.slice A1 NP c1, .slice A2 NY c2]))
        case atStart => exact ⟨0, Nat.zero_le _, rfl, rfl, Lib.hid (only_refl _ _), HGR, HMB9⟩
        case round =>
          obtain ⟨i, hi, rfl, rfl, HG, HRI, HMI⟩ := hrel
          clear HGR HMB9
          have k0 := HMI.out.cell 0
          simp at k0
          by_cases hlt : i < NP
          · have HLT := Lib.hid hlt
            have d : decide ((i : Int) < (NP : Int)) = true := by simp; omega
            have d' : decide (i < NP) = true := by simpa using hlt
            obtain ⟨hA1, cs, hbx, a0, ha0⟩ := HRI.out i (Nat.le_refl _) hlt
            subst hA1
            have q0 : wr.cell? ⟨gb, i * 3 + 2, none⟩ = some (.int .u64 (a0 : Int)) := by rw [hbx.cell]; exact ha0
            have q1 := hbx.free (i * 3 + 2)
            have hne := HMI.out.other hbx (by decide)
            have hG' := fun v => only_set HG.out (i * 3 + 2) v
            have HGI := Lib.hid hG'
            have HRN := Lib.hid (fun v => HRI.out.set (v := v))
            have hb250 := HN250.out.1
            have HMN := Lib.hid (fun v => HMI.out.grown (only_set (only_refl wr (some gb)) (i * 3 + 2) v) (fun e => by injection e with e; exact hne e))
            clear hbx ha0 hG' hne
            go_wp2_with fail
            go_roundg (NP - (i + 1))
            case measure => have := HLT.out; omega
            case rel => exact ⟨i + 1, HLT.out, rfl, by go_num, Lib.hid (HGI.out _), Lib.hid (HRN.out _), Lib.hid (HMN.out _)⟩
          · have d : decide ((i : Int) < (NP : Int)) = false := by simp; omega
            have d' : decide (i < NP) = false := by simpa using hlt
            have HB10 := Lib.hid (HB49.out.grown HG.out HB49.out.size (fun x hx => by injection hx with hx; have := HGB.out.1; omega))
            have HBW := Lib.hid (HB4.out.trans (HB10.out.mono HB4.out.size))
            rcases HN8.out.1 with ⟨m1, rfl, rfl⟩ | ⟨m1, m2, rfl, rfl⟩ | ⟨m1, m2, rfl, g8, rfl, hLG⟩
            · rcases HN9.out with ⟨-, rfl, rfl⟩ | ⟨k1, -⟩ | ⟨k1, -⟩
              · go_wp2_with (go_at_call 6; refine (HWK.out _ HBW.out).mono ?_; rintro r w12 ⟨rfl, hb12⟩; have HB12 := Lib.hid (HBW.out.trans (hb12.mono HBW.out.size)); clear hb12)
                go_ret
                exact ⟨rfl, HB0.out.trans (HB12.out.mono HB0.out.size)⟩
              · rw [m1] at k1; cases k1
              · rw [m1] at k1; cases k1
            · rcases HN9.out with ⟨k1, -⟩ | ⟨-, -, rfl, rfl⟩ | ⟨-, k2, -⟩
              · rw [m1] at k1; cases k1
              · go_wp2_with (go_at_call 6; refine (HWK.out _ HBW.out).mono ?_; rintro r w12 ⟨rfl, hb12⟩; have HB12 := Lib.hid (HBW.out.trans (hb12.mono HBW.out.size)); clear hb12)
                go_ret
                exact ⟨rfl, HB0.out.trans (HB12.out.mono HB0.out.size)⟩
              · exact absurd k2 m2
            · rcases HN9.out with ⟨k1, -⟩ | ⟨-, k2, -⟩ | ⟨-, -, rfl, g9, uP, uS, uY, rfl, hRN⟩
              · rw [m1] at k1; cases k1
              · exact absurd m2 k2
              have HLG := Lib.hid ((hLG.belowA HB89.out).apartB HG.out (by have := HN8.out.2; have := HGB.out.2; omega))
              have HLK := Lib.hid (hRN.linkB HG.out (by have := HB8.out.size; have := HGB.out.2; omega))
              have HREF := Lib.hid m1
              have HAP := Lib.hid m2
              clear hLG hRN m1 m2 HN8 HN9 HMI HRI HG k0
              -- regions 15 to 26
              obtain ⟨NO, hNO⟩ : ∃ n, O.length = n := ⟨_, rfl⟩
              have HNO := Lib.hid hNO
              rw [hNO]
              have HO10 := Lib.hid (show NO ≤ 10 by rw [← hNO]; exact HN10.out)
              clear hNO
              have HPO := Lib.hid (fun (W : World) (hW : Below wr.heap.size wr W) (o s : Int) (ho : InI o) (hs : InI s) => lnout_any (HLG.out.belowA hW).places ho hs)
              have HPR := Lib.hid (fun (W : World) (hW : Below wr.heap.size wr W) (o s : Int) => rlout_any (HLK.out.up hW) o s (by rw [HNP.out]; have := HN250.out.1; omega))
              have HOW := Lib.hid (fun (W : World) (hW : Below wr.heap.size wr W) => HOB.out W (HBW.out.trans (hW.mono HBW.out.size)))
              generalize wr = w13 at *
              go_upto_region 17 with fail
              go_loopg [104] NO (fun gk vi wr => ∃ (i : Nat), i ≤ NO ∧ gk = NO - i ∧ vi = .int .i64 i ∧ Hid (Below w13.heap.size w13 wr))
              case atStart => exact ⟨0, Nat.zero_le _, rfl, rfl, Lib.hid (Below.refl _ _)⟩
              case round =>
                obtain ⟨i, hi, rfl, rfl, HBI⟩ := hrel
                have hO10 := HO10.out
                by_cases hlt : i < NO
                · have HLT := Lib.hid hlt
                  have d : decide ((i : Int) < (NO : Int)) = true := by simp; omega
                  have d' : decide (i < NO) = true := by simpa using hlt
                  obtain ⟨ob, hob⟩ : ∃ ob, O[i]? = some ob := ⟨O[i]'(by rw [HNO.out]; exact hlt), List.getElem?_eq_getElem _⟩
                  obtain ⟨bO, oO, hao, -, o0, o1, o2, o3, o4⟩ := (HOW.out wr HBI.out).at_ hob
                  subst hao
                  have hsm := (HS.out ob (List.mem_of_getElem? hob)).S
                  obtain ⟨LN, hLN⟩ : ∃ n, ob.L.length = n := ⟨_, rfl⟩
                  rw [hLN] at o2 hsm
                  have HSM := Lib.hid (show LN ≤ 100000 from Nat.le_trans hsm (by decide))
                  have hX18 := Box.new wr 48 #[.int .i64 ob.kind, .int .i64 ob.machine, .slice ob.aS LN ob.cS, .slice ob.aY ob.Y.length ob.cY, .slice ob.aR ob.Q.length ob.cR]
                  have hb18 : Below wr.heap.size wr (wr.alloc (.cells #[.int .i64 ob.kind, .int .i64 ob.machine, .slice ob.aS LN ob.cS, .slice ob.aY ob.Y.length ob.cY, .slice ob.aR ob.Q.length ob.cR] 48)) := (Below.refl _ _).alloc (Nat.le_refl _) _
                  clear hob hLN hsm
                  go_upto_region 18 with fail
                  generalize wr.alloc (.cells #[.int .i64 ob.kind, .int .i64 ob.machine, .slice ob.aS LN ob.cS, .slice ob.aY ob.Y.length ob.cY, .slice ob.aR ob.Q.length ob.cR] 48) = w14 at *
                  have HB14 := Lib.hid (HBI.out.trans (hb18.mono HBI.out.size))
                  have y2 : w14.cell? ⟨wr.heap.size, 2, none⟩ = some (.slice ob.aS LN ob.cS) := by rw [hX18.cell]; rfl
                  clear o0 o1 o2 o3 o4 hb18 hX18
                  generalize wr.heap.size = X18 at *
                  go_upto_region 20 with fail
                  clear y2
                  go_loopg [112] LN (fun gk vi wr => ∃ (j : Nat), j ≤ LN ∧ gk = LN - j ∧ vi = .int .i64 j ∧ Hid (Below w13.heap.size w13 wr))
                  case atStart => exact ⟨0, Nat.zero_le _, rfl, rfl, HB14⟩
                  case round =>
                    obtain ⟨j, hj, rfl, rfl, HBJ⟩ := hrel
                    have hSM := HSM.out
                    by_cases hlj : j < LN
                    · have HLJ := Lib.hid hlj
                      have e : decide ((j : Int) < (LN : Int)) = true := by simp; omega
                      have e' : decide (j < LN) = true := by simpa using hlj
                      have HO1 := Lib.hid (HPO.out wr HBJ.out (i : Int) (j : Int) (by unfold InI; omega) (by unfold InI; omega))
                      have HO2 := Lib.hid (HPR.out wr HBJ.out (i : Int) (j : Int))
                      generalize outA P (i : Int) (j : Int) = oa at *
                      generalize (outK P (i : Int) (j : Int)).isSome = oz at *
                      have q1 : ((oa : Int) != (oa : Int)) = false := by simp
                      have q2 : (oz != oz) = false := by simp
                      go_wp2_with (first
                        | (go_at_call 10; refine HO1.out.mono ?_; rintro r w15 ⟨rfl, rfl⟩; clear HO1)
                        | (go_at_call 11; refine HO2.out.mono ?_; rintro r w16 ⟨rfl, rfl⟩; clear HO2))
                      go_roundg (LN - (j + 1))
                      case measure => have := HLJ.out; omega
                      case rel => exact ⟨j + 1, HLJ.out, rfl, by go_num, HBJ⟩
                    · have e : decide ((j : Int) < (LN : Int)) = false := by simp; omega
                      have e' : decide (j < LN) = false := by simpa using hlj
                      go_wp2_with fail
                      go_roundg (NO - (i + 1))
                      case measure => have := HLT.out; omega
                      case rel => exact ⟨i + 1, HLT.out, rfl, by go_num, HBJ⟩
                · have d : decide ((i : Int) < (NO : Int)) = false := by simp; omega
                  have d' : decide (i < NO) = false := by simpa using hlt
                  obtain ⟨R, hIM, hPM, -, hPT⟩ := HLG.out.imgs
                  have hM := mapR_of HREF.out hPM hPT
                  have HM := Lib.hid hM
                  have HIM := Lib.hid (fun (W : World) (hW : Below w13.heap.size w13 W) => hIM.below hW)
                  have hPS : (P.map (sizK O)).length = P.length := List.length_map ..
                  have hP1000 : P.length ≤ 1000 := by rw [HNP.out]; have := HN250.out.1; omega
                  have HINA := Lib.hid (fun (W : World) (hW : Below w13.heap.size w13 W) (a : Nat) (ha : a < two64) => in_any (HIM.out _ hW) HM.out.part (fun x hx => Nat.le_of_lt (HM.out.lt x hx)) (Nat.le_trans HM.out.len (by decide)) a ha)
                  have HINR := Lib.hid (fun (W : World) (hW : Below w13.heap.size w13 W) (a : Nat) (ha : a < two64) => rlin_any (HLK.out.up hW) a hP1000 hPS ha)
                  have HHAS := Lib.hid (fun (W : World) (hW : Below w13.heap.size w13 W) (a : Nat) => lhas_any (HIM.out _ hW) HM.out.part (fun x hx => Nat.le_of_lt (HM.out.lt x hx)) (Nat.le_trans HM.out.len (by decide)) a)
                  have HWHI := Lib.hid (fun (W : World) (hW : Below w13.heap.size w13 W) (lo hi : Nat) => whole_any (HIM.out _ hW) HM.out.part (fun x hx => Nat.le_of_lt (HM.out.lt x hx)) (Nat.le_trans HM.out.len (by decide)) lo hi)
                  have HWHB := Lib.hid (fun (W : World) (hW : Below w13.heap.size w13 W) (lo hi : Nat) (h1 : lo < two64) (h2 : hi < two64) => (by
                    have := rlwhole_any (HLK.out.up hW) lo hi hP1000 hPS h1 h2 (fun p hp => (HN.out.1 p hp).2.2)
                    rw [← whole_same HM.out] at this
                    exact this : Calls Tryd.prog 16 #[.pointer (some ⟨g9, 0, none⟩), .agg #[.int .u64 (lo : Int), .int .u64 (hi : Int)]] W fun r w' => r = .returned (.bool (wholeI R lo hi)) ∧ Below W.heap.size W w'))
                  clear hIM hPM hPT hM hPS hP1000
                  go_upto_region 29 with fail
                  go_loopg [141] NA (fun gk vi wr => ∃ (k : Nat), k ≤ NA ∧ gk = NA - k ∧ vi = .int .i64 k ∧ Hid (Below w13.heap.size w13 wr))
                  case atStart => exact ⟨0, Nat.zero_le _, rfl, rfl, HBI⟩
                  case round =>
                    obtain ⟨k, hk, rfl, rfl, HBK⟩ := hrel
                    have hA40 := HA40.out
                    by_cases hlk : k < NA
                    · have HLT := Lib.hid hlk
                      have e : decide ((k : Int) < (NA : Int)) = true := by simp; omega
                      have e' : decide (k < NA) = true := by simpa using hlk
                      obtain ⟨a, ha⟩ : ∃ a, A[k]? = some a := ⟨A[k]'(by rw [HNA.out]; exact hlk), List.getElem?_eq_getElem _⟩
                      obtain ⟨n2, hn2, hr1⟩ : ∃ n2 : Nat, n2 < NA ∧ ((k : Int) + 1) % (NA : Int) = (n2 : Int) := ⟨(k + 1) % NA, Nat.mod_lt _ (by omega), by first | rfl | (push_cast; rfl) | simp⟩
                      have HN2 := Lib.hid (And.intro hn2 hr1)
                      obtain ⟨z, hz⟩ : ∃ z, A[n2]? = some z := ⟨A[n2]'(by rw [HNA.out]; exact hn2), List.getElem?_eq_getElem _⟩
                      have a64 := HAN.out a (List.mem_of_getElem? ha)
                      have z64 := HAN.out z (List.mem_of_getElem? hz)
                      have HA64 := Lib.hid (And.intro a64 z64)
                      obtain ⟨bA, oA, haA, -, -⟩ := (HI.out wr (HBW.out.trans (HBK.out.mono HBW.out.size))).2.2.2.2 (by rw [HNA.out]; omega)
                      subst haA
                      have KA := Lib.hid (fun (W : World) (hW : Below w13.heap.size w13 W) => (by
                        obtain ⟨b', o', e, -, hc⟩ := (HI.out W (HBW.out.trans (hW.mono HBW.out.size))).2.2.2.2 (by rw [HNA.out]; omega)
                        injection e with e
                        injection e with e1 e2
                        subst e1 e2
                        have h1 := hc k a ha 0 _ rfl
                        have h2 := hc n2 z hz 0 _ rfl
                        rw [Nat.mul_one, Nat.add_zero] at h1 h2
                        exact ⟨h1, h2⟩ : W.cell? ⟨bA, oA + k, none⟩ = some (.int .u64 (a : Int)) ∧ W.cell? ⟨bA, oA + n2, none⟩ = some (.int .u64 (z : Int))))
                      obtain ⟨x1, -⟩ := KA.out wr HBK.out
                      have HI1 := Lib.hid (HINA.out wr HBK.out a a64)
                      have HI2 := Lib.hid (fun (W : World) (hW : Below w13.heap.size w13 W) => HINR.out W hW a a64)
                      have HHA := Lib.hid (fun (W : World) (hW : Below w13.heap.size w13 W) => HHAS.out W hW a)
                      obtain ⟨ob, se, off, ok, ki, hv, hki, hok, hor⟩ := in_facts HM.out a
                      rw [hv] at HI1
                      simp only [hki] at HI2
                      simp only [hok] at HHA
                      have HOR := Lib.hid hor
                      clear ha hz a64 z64 hv hki hok hor hn2 hr1
                      go_upto_region 32 with (first
                        | (go_at_call 12; refine HI1.out.mono ?_; rintro r w15 ⟨rfl, hb⟩; have HB15 := Lib.hid (HBK.out.trans (hb.mono HBK.out.size)); clear hb HI1)
                        | (go_at_call 13; refine (HI2.out _ HB15.out).mono ?_; rintro r w16 ⟨rfl, nq16, rfl⟩; have HB16 := Lib.hid (HB15.out.trans (below_drewN (Below.refl _ _) nq16))))
                      generalize World.drewN _ _ = w16 at *
                      clear x1 HB15
                      go_cut [141, 208] from 141 to 226 (fun u141 u208 wx => u141 = .int .i64 (k : Int) ∧ u208 = .bool false ∧ Hid (Below w13.heap.size w13 wx))
                      case first =>
                        rcases HOR.out with ⟨rfl, rfl, rfl, rfl, rfl⟩ | ⟨rfl, kk, p, rfl, hp, rfl, rfl, hoff, hle⟩
                        · go_wp2_with (go_at_call 14; refine (HHA.out _ HB16.out).mono ?_; rintro r w17 ⟨rfl, hb⟩; have HB17 := Lib.hid (HB16.out.trans (hb.mono HB16.out.size)); clear hb)
                          go_meet
                          exact ⟨rfl, rfl, HB17⟩
                        · have hw : IntKind.u64.wrap ((a : Int) - (p.addr : Int)) = (off : Int) := by
                            have := HA64.out.1
                            unfold two64 at this
                            rw [IntWalk.u64_in _ (by omega)]; omega
                          have hkk : kk < NP := by rw [← HNP.out]; exact (List.getElem?_eq_some_iff.1 hp).1
                          obtain ⟨_, aP', cP', aS', cS', aY', cY', hX9, hp9, _, _⟩ := HLK.out
                          obtain ⟨b9, o9, e9, hb9, c1, c2, c3⟩ := place_at hp9 hp
                          subst e9
                          rw [HNP.out] at hX9
                          have HCL := Lib.hid (fun (W : World) (hW : Below w13.heap.size w13 W) => (⟨by rw [(hX9.below hW hX9.lt).cell]; rfl, (hW.cell (p := ⟨b9, o9 + kk * 3, none⟩) hb9).trans c1, (hW.cell (p := ⟨b9, o9 + kk * 3 + 1, none⟩) hb9).trans c2, (hW.cell (p := ⟨b9, o9 + kk * 3 + 2, none⟩) hb9).trans c3⟩ : W.cell? ⟨g9, 0, none⟩ = some (.slice (some ⟨b9, o9, none⟩) NP cP') ∧ W.cell? ⟨b9, o9 + kk * 3, none⟩ = some (.int .i64 p.obj) ∧ W.cell? ⟨b9, o9 + kk * 3 + 1, none⟩ = some (.int .i64 p.sect) ∧ W.cell? ⟨b9, o9 + kk * 3 + 2, none⟩ = some (.int .u64 (p.addr : Int))))
                          clear hX9 hp9 c1 c2 c3 hb9 hp hoff hle
                          generalize p.obj = po at *
                          generalize p.sect = ps at *
                          generalize p.addr = pa at *
                          have q0 : decide ((0 : Int) ≤ (kk : Int)) = true := by simp
                          have q1 : (po != po) = false := by simp
                          have q2 : (ps != ps) = false := by simp
                          have q3 : ((off : Int) != (off : Int)) = false := by simp
                          go_wp2_with (go_at_call 14; refine (HHA.out _ HB16.out).mono ?_; rintro r w17 ⟨rfl, hb⟩; have HB17 := Lib.hid (HB16.out.trans (hb.mono HB16.out.size)); (obtain ⟨g0, g1, g2, g3⟩ := HCL.out _ HB17.out); clear hb)
                          go_meet
                          exact ⟨rfl, rfl, HB17⟩
                      case rest =>
                        obtain ⟨rfl, rfl, HBC⟩ := hcut
                        clear HB16 HOR HHA HI2
                        obtain ⟨-, y2⟩ := KA.out _ HBC.out
                        have n0 : 0 < NA := by omega
                        obtain ⟨n1, r1⟩ := HN2.out
                        have hX31 := Box.new wc 58 #[.int .u64 (a : Int), .int .u64 (z : Int)]
                        have hb31 : Below wc.heap.size wc (wc.alloc (.cells #[.int .u64 (a : Int), .int .u64 (z : Int)] 58)) := (Below.refl _ _).alloc (Nat.le_refl _) _
                        go_upto_region 35 with fail
                        generalize wc.alloc (.cells #[.int .u64 (a : Int), .int .u64 (z : Int)] 58) = w18 at *
                        have HB18 := Lib.hid (HBC.out.trans (hb31.mono HBC.out.size))
                        have KR := Lib.hid (fun (W : World) (hW : Below w18.heap.size w18 W) => (⟨by rw [(hX31.below hW hX31.lt).cell]; rfl, by rw [(hX31.below hW hX31.lt).cell]; rfl⟩ : W.cell? ⟨wc.heap.size, 0, none⟩ = some (.int .u64 (a : Int)) ∧ W.cell? ⟨wc.heap.size, 1, none⟩ = some (.int .u64 (z : Int))))
                        have HW1 := Lib.hid (fun (W : World) (hW : Below w18.heap.size w18 W) => HWHI.out W (HB18.out.trans (hW.mono HB18.out.size)) a z)
                        have HW2 := Lib.hid (fun (W : World) (hW : Below w18.heap.size w18 W) => HWHB.out W (HB18.out.trans (hW.mono HB18.out.size)) a z HA64.out.1 HA64.out.2)
                        clear y2 n0 n1 r1 hX31 hb31 KA
                        generalize wc.heap.size = X31 at *
                        generalize wholeI R a z = wh at *
                        have q9 : (wh != wh) = false := by simp
                        go_cut [141, 225] from 141 to 226 (fun u141 u225 wx => u141 = .int .i64 (k : Int) ∧ u225 = .bool false ∧ Hid (Below w13.heap.size w13 wx))
                        case first =>
                          go_region_held_law (fun W => W.cell? ⟨X31, 0, none⟩ = some (.int .u64 (a : Int)) ∧ W.cell? ⟨X31, 1, none⟩ = some (.int .u64 (z : Int)))
                            ((refine KR.out _ ?_; (repeat' (first | (with_reducible exact Below.refl _ _) | (with_reducible assumption) | (with_reducible refine below_drewN ?_ _) | (with_reducible refine Below.drew ?_)))))
                            (first
                              | (go_at_call 15; refine (HW1.out _ (show Below w18.heap.size w18 _ by (repeat' (first | (with_reducible exact Below.refl _ _) | (with_reducible assumption) | (with_reducible refine below_drewN ?_ _) | (with_reducible refine Below.drew ?_))))).mono ?_; rintro r w19 ⟨rfl, hb⟩; have hb19 := (show Below w18.heap.size w18 _ by (repeat' (first | (with_reducible exact Below.refl _ _) | (with_reducible assumption) | (with_reducible refine below_drewN ?_ _) | (with_reducible refine Below.drew ?_)))).trans (hb.mono (by first | simp | exact Nat.le_of_eq rfl)); clear hb)
                              | (go_at_call 16; refine (HW2.out _ hb19).mono ?_; rintro r w20 ⟨rfl, hb⟩; have hb20 := hb19.trans (hb.mono hb19.size); clear hb))
                          go_wp2_with fail
                          go_meet
                          exact ⟨rfl, rfl, Lib.hid (HB18.out.trans (hb20.mono HB18.out.size))⟩
                        case rest =>
                          obtain ⟨rfl, rfl, HBE⟩ := hcut
                          go_wp2_with fail
                          go_roundg (NA - (k + 1))
                          case measure => exact Nat.sub_lt_sub_left HLT.out (Nat.lt_succ_self k)
                          case rel => exact ⟨k + 1, HLT.out, rfl, by go_num, HBE⟩
                    · have e : decide ((k : Int) < (NA : Int)) = false := by simp; omega
                      have e' : decide (k < NA) = false := by simpa using hlk
                      have HBX := Lib.hid (HBW.out.trans (HBK.out.mono HBW.out.size))
                      have hgp : goodPs O Q P P.length = true := by
                        have h := HREF.out
                        unfold refM at h
                        cases hg : goodPs O Q P P.length with
                        | true => rfl
                        | false => rw [hg] at h; simp at h
                      have himg := HM.out.images (goodPs_iff.1 hgp).2
                      have hPS : (P.map (sizK O)).length = P.length := List.length_map ..
                      have hP1000 : P.length ≤ 1000 := by rw [HNP.out]; have := HN250.out.1; omega
                      have hlo : ∀ q ∈ P.zip (P.map (sizK O)), q.1.addr + q.2 < two64 := fun q hq => by
                        obtain ⟨i, hi⟩ := List.mem_iff_getElem?.1 hq
                        obtain ⟨h3, h4⟩ := zip_siz hi
                        rw [h4]
                        exact good_bound hgp h3
                      have HIA := Lib.hid (images_any (HIM.out _ HBK.out) (Nat.le_trans HM.out.len (by decide)))
                      have HIB := Lib.hid (fun (W : World) (hW : Below w13.heap.size w13 W) => (by
                        have := rimages_any (HLK.out.up hW) hP1000 hPS hlo
                        rw [← himg] at this
                        exact this : Calls Tryd.prog 21 #[.pointer (some ⟨g9, 0, none⟩)] W fun r w' => ∃ u, r = .returned u ∧ OwnSp w' W.heap.size u (R.map Img.span) ∧ Below W.heap.size W w'))
                      have HML := Lib.hid (show (R.map Img.span).length ≤ 200 by rw [List.length_map]; exact HM.out.len)
                      have HAL := Lib.hid (show alikeL sameG (R.map Img.span) (R.map Img.span) = true from alikeL_refl sameG_refl _)
                      have HSY1 := Lib.hid (lnsym_any (HLG.out.belowA HBK.out).syms HNL.out)
                      have HSY2 := Lib.hid (rlsym_any (HLK.out.up HBK.out) nm (by rw [HNY.out]; have := HN250.out.2; omega))
                      clear hgp himg hPS hP1000 hlo HINA HINR HHAS HWHI HWHB HPO HPR
                      generalize R.map Img.span = SP at *
                      have HRG := Lib.hid (fun (W : World) (A A' : Option Addr) (c c' : Nat) (h : Row 2 Span.cells W W.heap.size A SP) (h' : Row 2 Span.cells W W.heap.size A' SP) => (by
                        have := rranges_any h h' (Nat.le_refl _) c c' (by have := HML.out; omega)
                        rw [HAL.out] at this
                        exact this : Calls Tryd.prog 19 #[.slice A SP.length c, .slice A' SP.length c'] W fun r w' => r = .returned (.bool true) ∧ Below W.heap.size W w'))
                      have hq : ∀ i : Int, (i == i) = true := fun i => by simp
                      generalize nameA Y nm = na at *
                      go_wp2_with (first
                        | (go_at_call 17; refine HSY1.out.mono ?_; rintro r w19 ⟨rfl, rfl⟩; clear HSY1)
                        | (go_at_call 18; refine HSY2.out.mono ?_; rintro r w20 ⟨rfl, rfl⟩; clear HSY2)
                        | (go_at_call 20; refine HIA.out.mono ?_; rintro r w21 ⟨u21, rfl, ho, hb⟩; have HB21 := Lib.hid (HBK.out.trans (hb.mono HBK.out.size)); (obtain ⟨A21, c21, rfl, -, -, hr21⟩ := owng_row ho); have HR21 := Lib.hid hr21; clear ho hb hr21 HIA)
                        | (go_at_call 21; refine (HIB.out _ HB21.out).mono ?_; rintro r w22 ⟨u22, rfl, ho, hb⟩; have HB22 := Lib.hid (HB21.out.trans (hb.mono HB21.out.size)); have HR212 := Lib.hid (HR21.out.up hb); (obtain ⟨A22, c22, rfl, -, -, hr22⟩ := owng_row ho); have HR22 := Lib.hid hr22; clear ho hb hr22 HIB)
                        | (go_at_call 19; refine (HRG.out _ _ _ _ _ HR212.out HR22.out).mono ?_; rintro r w23 ⟨rfl, hb⟩; have HB23 := Lib.hid (HB22.out.trans (hb.mono HB22.out.size)); have HBY := Lib.hid (HBW.out.trans (HB23.out.mono HBW.out.size)); clear hb)
                        | (go_at_call 6; refine (HWK.out _ HBY.out).mono ?_; rintro r w24 ⟨rfl, hb⟩; have HB24 := Lib.hid (HBY.out.trans (hb.mono HBY.out.size)); clear hb))
                      go_ret
                      exact ⟨rfl, HB0.out.trans (HB24.out.mono HB0.out.size)⟩

end Go.Proofs.YtejicboemkpeoaaDoor

namespace Go.Proofs.YtejicboemkpeoaaDoor
open Go Go.ChangeShapes Go.WideShapes Go.ChangeAt Go.RowKit

theorem lasks_card (aP : Option Addr) (P : List Place) (cP : Nat) (aY : Option Addr) (Y : List Named) (cY : Nat) (aO : Option Addr) (cO : Nat) (O : List ObjV) (aQ : Option Addr) (cQ : Nat) (Q : List BLay) (aA : Option Addr) (cA : Nat) (A : List Nat) (nm : ByteArray) (w : World) (hT : Tabs w)
    (hP : Row 3 Place.cells w w.heap.size aP P) (hY : Row 2 Named.cells w w.heap.size aY Y) (hpn : ∀ p ∈ P, p.Nums) (hyn : ∀ y ∈ Y, y.Nums) (hO : ObjsIn w w.heap.size aO O)
    (hQ : BRows w w.heap.size aQ Q ∧ ∀ q ∈ Q, q.l.length ≤ 9223372036854775807) (hA : Row 1 sizC w w.heap.size aA A ∧ ∀ n ∈ A, n < two64) (hnm : nm.size ≤ maxLen) :
    Calls Tryd.prog 3 #[.agg #[.slice aP P.length cP, .slice aY Y.length cY], .slice aO O.length cO, .slice aQ Q.length cQ, .slice aA A.length cA, .string nm] w fun e w' => e = .returned (.bool true) ∧ Below w.heap.size w w' := by
  obtain ⟨s, rfl⟩ : ∃ s : List UInt8, nm = ⟨s.toArray⟩ := ⟨nm.data.toList, by simp⟩
  exact lasks_walk aP aY aO aQ aA cP cY cO cQ cA P Y O Q A s w hT hP hY hpn hyn hO hQ.1 hQ.2 hA.1 hA.2 (by simpa [ByteArray.size] using hnm)

end Go.Proofs.YtejicboemkpeoaaDoor
