/-
  The document's New: the walk (written by wip/tools/gen_lom.py).
-/
import Derived.Test.YtejicboemkpeoaaDoorLoK
import Derived.Test.YtejicboemkpeoaaDoorLnW
import Derived.Test.YtejicboemkpeoaaDoorUnE
import Derived.Test.YtejicboemkpeoaaDoorRoundRegion
import Derived.Test.YtejicboemkpeoaaDoorUntil
import Derived.Test.YtejicboemkpeoaaDoorCsQ
import Derived.Test.YtejicboemkpeoaaDoorLnK
import Derived.BigQuiet
namespace Go.Proofs.YtejicboemkpeoaaDoor
open Go Go.RowKit

/-- The map that is being made. -/
structure RNew (w0 W : World) (g : Nat) (uP uS uY : Value) (P : List Place) (S : List Nat) (Y : List Named) : Prop where
  box : Box W g 56 #[uP, uS, uY]
  p : W.ownsRow w0.heap.size 43 3 uP P.length (cellsF Place.cells P)
  s : W.ownsRow w0.heap.size 41 1 uS S.length (cellsF sizC S)
  y : W.ownsRow w0.heap.size 67 2 uY Y.length (cellsF Named.cells Y)
  b : Below w0.heap.size w0 W
  ge : w0.heap.size ≤ g
/-- What the document's New tells. -/
def RNewIs (w : World) (O : List ObjV) (Q : List BLay) (P : List Place) (Y : List Named) (r : Ending) (w' : World) : Prop :=
  Below w.heap.size w w' ∧ ∃ v e, r = .returned (.tuple #[v, .int .i64 e]) ∧
    ((refM O Q P Y = true ∧ v = .pointer none ∧ e = 30) ∨ (refM O Q P Y = false ∧ ¬ ApartI (imgsP O P) ∧ v = .pointer none ∧ e = 31) ∨
     (refM O Q P Y = false ∧ ApartI (imgsP O P) ∧ e = 0 ∧ ∃ g uP uS uY, v = .pointer (some ⟨g, 0, none⟩) ∧ RNew w w' g uP uS uY P (P.map (sizK O)) Y))

section
variable {w0 W W' : World} {g : Nat} {uP uS uY u' : Value} {P : List Place} {S : List Nat} {Y : List Named} {p : Place} {n : Nat} {y : Named}
theorem RNew.below (h : RNew w0 W g uP uS uY P S Y) (hb : Below W.heap.size W W') : RNew w0 W' g uP uS uY P S Y :=
  ⟨h.box.below hb h.box.lt, row_below h.p hb, row_below h.s hb, row_below h.y hb, h.b.trans (hb.mono h.b.size), h.ge⟩
theorem RNew.drewN (h : RNew w0 W g uP uS uY P S Y) (k : Nat) : RNew w0 (W.drewN k) g uP uS uY P S Y := h.below (below_drewN (Below.refl _ _) k)
theorem RNew.set0 (hX : Box W g 56 #[uP, uS, uY]) (hp : W.ownsRow w0.heap.size 43 3 u' P.length (cellsF Place.cells P)) (hs : W.ownsRow w0.heap.size 41 1 uS S.length (cellsF sizC S)) (hy : W.ownsRow w0.heap.size 67 2 uY Y.length (cellsF Named.cells Y)) (hb : Below w0.heap.size w0 W) (hg : w0.heap.size ≤ g) : RNew w0 (W.setCell ⟨g, 0, none⟩ u') g u' uS uY P S Y := by
  have G : W.grownBy (W.setCell ⟨g, 0, none⟩ u') (some g) := only_set (only_refl W (some g)) 0 u'
  exact ⟨by simpa using hX.set 0 u', un_far hp G hX (by decide), un_far hs G hX (by decide), un_far hy G hX (by decide), hb.grown G hb.size (fun x hx => by injection hx with hx; omega), hg⟩
theorem RNew.set1 (hX : Box W g 56 #[uP, uS, uY]) (hp : W.ownsRow w0.heap.size 43 3 uP P.length (cellsF Place.cells P)) (hs : W.ownsRow w0.heap.size 41 1 u' S.length (cellsF sizC S)) (hy : W.ownsRow w0.heap.size 67 2 uY Y.length (cellsF Named.cells Y)) (hb : Below w0.heap.size w0 W) (hg : w0.heap.size ≤ g) : RNew w0 (W.setCell ⟨g, 1, none⟩ u') g uP u' uY P S Y := by
  have G : W.grownBy (W.setCell ⟨g, 1, none⟩ u') (some g) := only_set (only_refl W (some g)) 1 u'
  exact ⟨by simpa using hX.set 1 u', un_far hp G hX (by decide), un_far hs G hX (by decide), un_far hy G hX (by decide), hb.grown G hb.size (fun x hx => by injection hx with hx; omega), hg⟩
theorem RNew.set2 (hX : Box W g 56 #[uP, uS, uY]) (hp : W.ownsRow w0.heap.size 43 3 uP P.length (cellsF Place.cells P)) (hs : W.ownsRow w0.heap.size 41 1 uS S.length (cellsF sizC S)) (hy : W.ownsRow w0.heap.size 67 2 u' Y.length (cellsF Named.cells Y)) (hb : Below w0.heap.size w0 W) (hg : w0.heap.size ≤ g) : RNew w0 (W.setCell ⟨g, 2, none⟩ u') g uP uS u' P S Y := by
  have G : W.grownBy (W.setCell ⟨g, 2, none⟩ u') (some g) := only_set (only_refl W (some g)) 2 u'
  exact ⟨by simpa using hX.set 2 u', un_far hp G hX (by decide), un_far hs G hX (by decide), un_far hy G hX (by decide), hb.grown G hb.size (fun x hx => by injection hx with hx; omega), hg⟩
/-- A place appended, and stored into the map. -/
theorem RNew.place (h : RNew w0 W g uP uS uY P S Y) (hG : W.grownBy W' uP.ownBlock) (ho : W'.ownsRow w0.heap.size 43 3 u' (P.length + 1) (cellsF Place.cells P ++ p.cells)) : Box W' g 56 #[uP, uS, uY] ∧ RNew w0 (W'.setCell ⟨g, 0, none⟩ u') g u' uS uY (P ++ [p]) S Y := by
  have hX := un_box h.box h.p (by decide) hG
  refine ⟨hX, RNew.set0 hX ?_ (un_apart h.s h.p (by decide) hG) (un_apart h.y h.p (by decide) hG) (h.b.grown hG h.b.size (fun x hx => (h.p.lt x hx).1)) h.ge⟩
  rw [List.length_append, cellsF_append, cellsF_one]
  exact ho
theorem RNew.size_ (h : RNew w0 W g uP uS uY P S Y) (hG : W.grownBy W' uS.ownBlock) (ho : W'.ownsRow w0.heap.size 41 1 u' (S.length + 1) (cellsF sizC S ++ sizC n)) : Box W' g 56 #[uP, uS, uY] ∧ RNew w0 (W'.setCell ⟨g, 1, none⟩ u') g uP u' uY P (S ++ [n]) Y := by
  have hX := un_box h.box h.s (by decide) hG
  refine ⟨hX, RNew.set1 hX (un_apart h.p h.s (by decide) hG) ?_ (un_apart h.y h.s (by decide) hG) (h.b.grown hG h.b.size (fun x hx => (h.s.lt x hx).1)) h.ge⟩
  rw [List.length_append, cellsF_append, cellsF_one]
  exact ho
theorem RNew.named (h : RNew w0 W g uP uS uY P S Y) (hG : W.grownBy W' uY.ownBlock) (ho : W'.ownsRow w0.heap.size 67 2 u' (Y.length + 1) (cellsF Named.cells Y ++ y.cells)) : Box W' g 56 #[uP, uS, uY] ∧ RNew w0 (W'.setCell ⟨g, 2, none⟩ u') g uP uS u' P S (Y ++ [y]) := by
  have hX := un_box h.box h.y (by decide) hG
  refine ⟨hX, RNew.set2 hX (un_apart h.p h.y (by decide) hG) (un_apart h.s h.y (by decide) hG) ?_ (h.b.grown hG h.b.size (fun x hx => (h.y.lt x hx).1)) h.ge⟩
  rw [List.length_append, cellsF_append, cellsF_one]
  exact ho
theorem RNew.link (h : RNew w0 W g uP uS uY P S Y) : LinkAt W W.heap.size g P S Y := by
  obtain ⟨A1, c1, e1, -, -, h1⟩ := own_row place_three h.p
  obtain ⟨A2, c2, e2, -, -, h2⟩ := own_row sizC_one h.s
  obtain ⟨A3, c3, e3, -, -, h3⟩ := own_row named_two h.y
  refine ⟨h.box.lt, A1, c1, A2, c2, A3, c3, ?_, h1, h2, h3⟩
  rw [← e1, ← e2, ← e3]
  exact h.box
end

/-! ### What is asked -/
section
variable {O : List ObjV} {Q : List BLay} {P : List Place} {Y : List Named} {k : Nat} {p : Place} {x : Lay}
theorem ref_place (h : P[k]? = some p) (hg : goodP O Q (P.take k) p = false) : refM O Q P Y = true := by
  unfold refM
  rw [goodPs_not h hg]
  simp
theorem ref_name {y : Named} (h : Y[k]? = some y) (hg : goodY (Y.take k) y = false) : refM O Q P Y = true := by
  unfold refM
  rw [goodYs_not h hg]
  simp
theorem ref_many (h : (decide (200 < P.length) || decide (200 < Y.length)) = true) : refM O Q P Y = true := by
  unfold refM
  rw [h]
  rfl
theorem ref_not (h : (decide (200 < P.length) || decide (200 < Y.length)) = false) (hp : goodPs O Q P P.length = true) (hy : goodYs Y Y.length = true) : refM O Q P Y = false := by
  unfold refM
  rw [h, hp, hy]
  rfl
theorem goodP_none {P' : List Place} (h : secK O p.obj p.sect = none) : goodP O Q P' p = false := by
  unfold goodP
  rw [h]
theorem goodP_is {P' : List Place} (h : secK O p.obj p.sect = some x) : goodP O Q P' p = (!(outB Q p.obj p.sect) && (memB x.s.flags && ((outK P' p.obj p.sect).isNone && decide (p.addr < 18446744073709551615 - x.s.data.length)))) := by
  unfold goodP
  rw [h]
theorem secK_neg {o s : Int} (h : o < 0 ∨ s < 0) : secK O o s = none := by
  unfold secK
  rw [if_neg (by omega)]
theorem secK_far {i : Nat} {s : Int} (h : O.length ≤ i) : secK O (i : Int) s = none := by
  unfold secK
  split
  · rw [List.getElem?_eq_none (by simpa using h)]; rfl
  · rfl
theorem secK_past {i j : Nat} {ob : ObjV} (h : O[i]? = some ob) (hj : ob.L.length ≤ j) : secK O (i : Int) (j : Int) = none := by
  unfold secK
  rw [if_pos (by omega)]
  simp [h, List.getElem?_eq_none hj]
theorem secK_here {i j : Nat} {ob : ObjV} (h : O[i]? = some ob) (hx : ob.L[j]? = some x) : secK O (i : Int) (j : Int) = some x := by
  unfold secK
  rw [if_pos (by omega)]
  simp [h, hx]
theorem outB_far {i : Nat} {s : Int} (h : Q.length ≤ i) : outB Q (i : Int) s = false := by
  unfold outB
  rw [List.getElem?_eq_none (by simpa using h)]
theorem outB_past {i j : Nat} {q : BLay} (h : Q[i]? = some q) (hj : q.l.length ≤ j) : outB Q (i : Int) (j : Int) = false := by
  unfold outB
  rw [show (i : Int).toNat = i from rfl, h]
  show q.l.getD j false = false
  rw [List.getD_eq_getElem?_getD, List.getElem?_eq_none hj]
  rfl
theorem outB_here {i j : Nat} {q : BLay} {b : Bool} (h : Q[i]? = some q) (hb : q.l[j]? = some b) : outB Q (i : Int) (j : Int) = b := by
  unfold outB
  rw [show (i : Int).toNat = i from rfl, h]
  show q.l.getD j false = b
  rw [List.getD_eq_getElem?_getD, hb]
  rfl
theorem outK_dup {m : Nat} {q : Place} {o s : Int} (hm : m < k) (h : P[m]? = some q) (ho : hasP o s q = true) : (outK (P.take k) o s).isNone = false := by
  have h1 : (outK (P.take k) o s).isSome = true := by
    rw [outK_isSome]
    simp only [hasP, Bool.and_eq_true, decide_eq_true_eq] at ho
    exact ⟨q, List.mem_of_getElem? (i := m) (by rw [List.getElem?_take, if_pos hm]; exact h), ho.1, ho.2⟩
  cases hh : outK (P.take k) o s with
  | none => rw [hh] at h1; cases h1
  | some v => rfl
theorem outK_no {o s : Int} (h : (P.take k).all (fun q => !(hasP o s q)) = true) : (outK (P.take k) o s).isNone = true := by
  unfold outK
  rw [firstK_none _ _ h]
  rfl
theorem nameK_dup {m : Nat} {q : Named} {n : List UInt8} (hm : m < k) (h : Y[m]? = some q) (ho : q.name = n) : (nameK (Y.take k) n).isNone = false := by
  cases hh : nameK (Y.take k) n with
  | none =>
    exfalso
    have hq : q ∈ Y.take k := List.mem_of_getElem? (i := m) (by rw [List.getElem?_take, if_pos hm]; exact h)
    have := firstK_noneP hh q hq
    simp [ho] at this
  | some v => rfl
theorem nameK_no {n : List UInt8} (h : (Y.take k).all (fun q => !(decide (q.name = n))) = true) : (nameK (Y.take k) n).isNone = true := by
  unfold nameK
  rw [firstK_none _ _ h]
  rfl
/-- Two places whose images have an address in common. -/
def clashR (O : List ObjV) (p q : Place) : Bool := decide (p.addr < q.addr + sizK O q) && (decide (q.addr < p.addr + sizK O p) && (decide (0 < sizK O p) && decide (0 < sizK O q)))
theorem imgs_apart : ApartI (imgsP O P) ↔ ∀ (i m : Nat) (p q : Place), m < i → P[i]? = some p → P[m]? = some q → clashR O p q = false := by
  have key : ∀ p q : Place, clashR O p q = false ↔ ((imgP O p).lo < (imgP O p).hi → (imgP O q).lo < (imgP O q).hi → ((imgP O q).hi ≤ (imgP O p).lo ∨ (imgP O p).hi ≤ (imgP O q).lo)) := by
    intro p q
    unfold clashR
    simp only [imgP, Bool.and_eq_false_iff, decide_eq_false_iff_not]
    omega
  unfold ApartI imgsP
  rw [List.pairwise_filter, List.pairwise_map, List.pairwise_iff_getElem]
  constructor
  · intro h i m p q hm hp hq
    obtain ⟨hi, e1⟩ := List.getElem?_eq_some_iff.1 hp
    obtain ⟨hm', e2⟩ := List.getElem?_eq_some_iff.1 hq
    rw [key]
    intro h1 h2
    have := h m i hm' hi hm (by rw [e2]; simpa using h2) (by rw [e1]; simpa using h1)
    rwa [e1, e2] at this
  · intro h i j hi hj hij h1 h2
    have := (key _ _).1 (h j i _ _ hij (List.getElem?_eq_getElem hj) (List.getElem?_eq_getElem hi)) (by simpa using h2) (by simpa using h1)
    exact this
end

end Go.Proofs.YtejicboemkpeoaaDoor

namespace Go.Proofs.YtejicboemkpeoaaDoor
open Go Go.RowKit

theorem three_cellsL {W : World} {H : Nat} {T : TypeId} {c0 c1 c2 : Value} (h : Box W H T #[c0, c1, c2]) : W.cell? ⟨H, 0, none⟩ = some c0 ∧ W.cell? ⟨H, 1, none⟩ = some c1 ∧ W.cell? ⟨H, 2, none⟩ = some c2 := by
  refine ⟨?_, ?_, ?_⟩ <;> (rw [h.cell]; rfl)
theorem three_freeL {W : World} {H : Nat} {T : TypeId} {cs : Array Value} (h : Box W H T cs) : W.frozen? ⟨H, 0, none⟩ = false ∧ W.frozen? ⟨H, 1, none⟩ = false ∧ W.frozen? ⟨H, 2, none⟩ = false :=
  ⟨h.free 0, h.free 1, h.free 2⟩
theorem box_stay {W W' : World} {X g n : Nat} {T : TypeId} {cs : Array Value} {o : Option Nat} {u' : Value} (hX : Box W X T cs) (hG : W.grownBy W' o) (h1 : some X ≠ o) (h2 : X ≠ g) : Box (W'.setCell ⟨g, n, none⟩ u') X T cs :=
  (hX.grown hG h1).grown (only_set (only_refl W' (some g)) n u') (fun e => by injection e with e; exact h2 e)
theorem blk_neL {W : World} {X base n m : Nat} {T t : TypeId} {cs : Array Value} {u : Value} {xs : List Value} (hX : Box W X T cs) (hrow : W.ownsRow base t m u n xs) (hT : T ≠ t) : some X ≠ u.ownBlock := by
  rcases hrow.2 with ⟨rfl, _⟩ | ⟨g, cap, cur, rfl, _, hh, _⟩
  · simp [Value.ownBlock]
  · intro e
    simp [Value.ownBlock] at e
    subst e
    unfold Box at hX
    rw [hX] at hh
    injection hh with hh
    injection hh with _ hh
    exact hT hh
theorem good_bound {O : List ObjV} {Q : List BLay} {P : List Place} {i : Nat} {p : Place} (h : goodPs O Q P P.length = true) (hp : P[i]? = some p) : p.addr + sizK O p < 18446744073709551616 := by
  cases hg : goodP O Q (P.take i) p with
  | false => rw [goodPs_not hp hg] at h; cases h
  | true =>
    cases hs : secK O p.obj p.sect with
    | none => rw [goodP_none hs] at hg; cases hg
    | some x =>
      rw [goodP_is hs] at hg
      simp only [Bool.and_eq_true, decide_eq_true_eq] at hg
      have : sizK O p = x.s.data.length := by unfold sizK; rw [hs]
      omega
theorem nine_cellsN {W : World} {H : Nat} {T : TypeId} {c0 c1 c2 c3 c4 c5 c6 c7 c8 : Value} (h : Box W H T #[c0, c1, c2, c3, c4, c5, c6, c7, c8]) : W.cell? ⟨H, 0, none⟩ = some c0 ∧ W.cell? ⟨H, 1, none⟩ = some c1 ∧ W.cell? ⟨H, 2, none⟩ = some c2 ∧ W.cell? ⟨H, 3, none⟩ = some c3 ∧ W.cell? ⟨H, 4, none⟩ = some c4 ∧ W.cell? ⟨H, 5, none⟩ = some c5 ∧ W.cell? ⟨H, 6, none⟩ = some c6 ∧ W.cell? ⟨H, 7, none⟩ = some c7 ∧ W.cell? ⟨H, 8, none⟩ = some c8 := by
  refine ⟨?_, ?_, ?_, ?_, ?_, ?_, ?_, ?_, ?_⟩ <;> (rw [h.cell]; rfl)
theorem nine_freeN {W : World} {H : Nat} {T : TypeId} {cs : Array Value} (h : Box W H T cs) : W.frozen? ⟨H, 0, none⟩ = false ∧ W.frozen? ⟨H, 1, none⟩ = false ∧ W.frozen? ⟨H, 2, none⟩ = false ∧ W.frozen? ⟨H, 3, none⟩ = false ∧ W.frozen? ⟨H, 4, none⟩ = false ∧ W.frozen? ⟨H, 5, none⟩ = false ∧ W.frozen? ⟨H, 6, none⟩ = false ∧ W.frozen? ⟨H, 7, none⟩ = false ∧ W.frozen? ⟨H, 8, none⟩ = false :=
  ⟨h.free 0, h.free 1, h.free 2, h.free 3, h.free 4, h.free 5, h.free 6, h.free 7, h.free 8⟩
set_option maxRecDepth 20000 in
set_option maxHeartbeats 40000000 in
theorem rlnew_any {w : World} {aP aY aO aQ : Option Addr} {cP cY cO cQ : Nat} {P : List Place} {Y : List Named} {O : List ObjV} {Q : List BLay} (hP : Row 3 Place.cells w w.heap.size aP P) (hY : Row 2 Named.cells w w.heap.size aY Y) (hpn : ∀ p ∈ P, p.Nums) (hyl : ∀ y ∈ Y, y.name.length ≤ 300)
    (hO : Objs w w.heap.size aO O) (hQ : BRows w w.heap.size aQ Q) (hD : ∀ ob ∈ O, ob.L.length ≤ 100000 ∧ ∀ x ∈ ob.L, x.s.data.length ≤ 100000) (_hol : O.length ≤ 100000) (_hql : Q.length ≤ 100000) (hqb : ∀ q ∈ Q, q.l.length ≤ 9223372036854775807) :
    Calls Tryd.prog 9 #[.agg #[.slice aP P.length cP, .slice aY Y.length cY], .slice aO O.length cO, .slice aQ Q.length cQ] w fun r w' => RNewIs w O Q P Y r w' := by
  obtain ⟨i1, hj1, hy0, hy1, hy2⟩ := info_parts (show (Tryd.prog.info? 43).map (fun i => (i.zero, i.size, i.bytes)) = some (some (.agg #[.int .i64 0, .int .i64 0, .int .u64 0]), 3, 24) by kernel_rfl)
  obtain ⟨i2, hk1, hz0, hz1, hz2⟩ := info_parts u64_info
  obtain ⟨i3, hm1, hx0, hx1, hx2⟩ := info_parts (show (Tryd.prog.info? 67).map (fun i => (i.zero, i.size, i.bytes)) = some (some (.agg #[.string ⟨#[]⟩, .int .u64 0]), 2, 24) by kernel_rfl)
  have HP := Lib.hid hP
  have HY := Lib.hid hY
  have HPN := Lib.hid hpn
  have HYL := Lib.hid hyl
  have HO := Lib.hid hO
  have HQ := Lib.hid hQ
  have HD := Lib.hid hD
  have HQB := Lib.hid hqb
  obtain ⟨N, hN⟩ : ∃ N, P.length = N := ⟨_, rfl⟩
  obtain ⟨M, hM⟩ : ∃ M, Y.length = M := ⟨_, rfl⟩
  obtain ⟨NO, hNO⟩ : ∃ M, O.length = M := ⟨_, rfl⟩
  obtain ⟨NQ, hNQ⟩ : ∃ M, Q.length = M := ⟨_, rfl⟩
  have HN := Lib.hid hN
  have HM := Lib.hid hM
  have HNO := Lib.hid hNO
  have HNQ := Lib.hid hNQ
  rw [hN, hM, hNO, hNQ]
  rw [hNO] at _hol
  rw [hNQ] at _hql
  clear hP hY hpn hyl hO hQ hD hqb hN hM hNO hNQ
  generalize hw1 : (w.alloc (.cells #[.slice aP N cP, .slice aY M cY] 25)).alloc (.cells #[.slice none 0 0, .slice none 0 0, .slice none 0 0] 56) = w1 at *
  have hb0 : Below w.heap.size w (w.alloc (.cells #[.slice aP N cP, .slice aY M cY] 25)) := (Below.refl _ _).alloc (Nat.le_refl _) _
  have hs0 : (w.alloc (.cells #[.slice aP N cP, .slice aY M cY] 25)).heap.size = w.heap.size + 1 := by simp
  have hxm := Box.new w 25 #[.slice aP N cP, .slice aY M cY]
  have hxl := Box.new (w.alloc (.cells #[.slice aP N cP, .slice aY M cY] 25)) 56 #[.slice none 0 0, .slice none 0 0, .slice none 0 0]
  have hb1 : Below (w.alloc (.cells #[.slice aP N cP, .slice aY M cY] 25)).heap.size (w.alloc (.cells #[.slice aP N cP, .slice aY M cY] 25)) w1 := hw1 ▸ (Below.refl _ _).alloc (Nat.le_refl _) _
  rw [hw1, hs0] at hxl
  have HB1 := Lib.hid (hb0.trans (hb1.mono hb0.size))
  have HXM1 := Lib.hid (hxm.below hb1 hxm.lt)
  have HW1 := Lib.hid hw1
  have HR1 := Lib.hid (show RNew w w1 (w.heap.size + 1) (.slice none 0 0) (.slice none 0 0) (.slice none 0 0) [] [] [] from ⟨hxl, World.ownsRow_nil _ _ _ _, World.ownsRow_nil _ _ _ _, World.ownsRow_nil _ _ _ _, HB1.out, by omega⟩)
  have m0 := HXM1.out.cell 0
  have m1 := HXM1.out.cell 1
  simp at m0 m1
  clear hxm hxl hb0 hb1 hs0 hw1
  go_enter Tryd.func9, Tryd.ntmps9
  go_upto_region 2 with fail
  rw [HW1.out]
  clear HW1
  by_cases h1 : 200 < N
  · have d : decide ((200 : Int) < (N : Int)) = true := by simp; omega
    have d' : decide (200 < N) = true := by simpa using h1
    have HBAD := Lib.hid (show refM O Q P Y = true from ref_many (by rw [HN.out, d']; rfl))
    clear h1
    go_wp2_with fail
    go_ret2
    exact ⟨HB1.out, _, _, rfl, .inl ⟨HBAD.out, rfl, rfl⟩⟩
  have d : decide ((200 : Int) < (N : Int)) = false := by simp; omega
  have d' : decide (200 < N) = false := by simpa using h1
  have hN2 : N ≤ 200 := by omega
  by_cases h2 : 200 < M
  · have e : decide ((200 : Int) < (M : Int)) = true := by simp; omega
    have e' : decide (200 < M) = true := by simpa using h2
    have HBAD := Lib.hid (show refM O Q P Y = true from ref_many (by rw [HN.out, HM.out, e']; simp))
    clear h1 h2
    go_wp2_with fail
    go_ret2
    exact ⟨HB1.out, _, _, rfl, .inl ⟨HBAD.out, rfl, rfl⟩⟩
  have e : decide ((200 : Int) < (M : Int)) = false := by simp; omega
  have e' : decide (200 < M) = false := by simpa using h2
  have hM2 : M ≤ 200 := by omega
  have HMANY := Lib.hid (show (decide (200 < P.length) || decide (200 < Y.length)) = false by rw [HN.out, HM.out, d', e']; rfl)
  clear h1 h2
  go_upto_region 5 with fail
  clear d d' e e' m0 m1 HB1
  have HXW := Lib.hid (Nat.le_refl w.heap.size)
  have HGG := Lib.hid (show w.heap.size ≤ w.heap.size + 1 by omega)
  generalize w.heap.size + 1 = g at *
  generalize hX3 : w.heap.size = X3 at HXM1 HXW ⊢
  have HX3 := Lib.hid hX3
  clear hX3
  go_loopg [9] N (fun gk i wr => ∃ (k : Nat) (uP uS : Value), k ≤ N ∧ gk = N - k ∧ i = .int .i64 k ∧ Hid (goodPs O Q P k = true) ∧ Hid (RNew w wr g uP uS (.slice none 0 0) (P.take k) ((P.take k).map (sizK O)) []) ∧ Hid (Box wr X3 25 #[.slice aP N cP, .slice aY M cY]))
  case atStart => exact ⟨0, _, _, Nat.zero_le _, rfl, rfl, Lib.hid rfl, HR1, HXM1⟩
  case round =>
    obtain ⟨k, uP, uS, hk, rfl, rfl, HGP, HR, HXM⟩ := hrel
    clear HR1 HXM1
    have m0 := HXM.out.cell 0
    have m1 := HXM.out.cell 1
    simp at m0 m1
    by_cases hlt : k < N
    · have HLT := Lib.hid hlt
      obtain ⟨p, hpk⟩ : ∃ p, P[k]? = some p := ⟨P[k]'(by rw [HN.out]; exact hlt), List.getElem?_eq_getElem _⟩
      have HPK := Lib.hid hpk
      have HPI := Lib.hid (HPN.out p (List.mem_of_getElem? hpk))
      obtain ⟨b, oo, rfl, hb, c1, c2, c3⟩ := place_at (HP.out.below HR.out.b) hpk
      obtain ⟨po, hpo⟩ : ∃ z, p.obj = z := ⟨_, rfl⟩
      obtain ⟨ps, hps⟩ : ∃ z, p.sect = z := ⟨_, rfl⟩
      obtain ⟨pa, hpa⟩ : ∃ z, p.addr = z := ⟨_, rfl⟩
      rw [hpo] at c1
      rw [hps] at c2
      rw [hpa] at c3
      have HPO := Lib.hid hpo
      have HPS := Lib.hid hps
      have HPA := Lib.hid hpa
      have hpa64 : pa < two64 := by rw [← hpa]; exact HPI.out.2.2
      unfold two64 at hpa64
      clear hpk hb hpo hps hpa
      have hX10 := Box.new wr 43 #[.int .i64 po, .int .i64 ps, .int .u64 (pa : Int)]
      have hb2 : Below wr.heap.size wr (wr.alloc (.cells #[.int .i64 po, .int .i64 ps, .int .u64 (pa : Int)] 43)) := (Below.refl _ _).alloc (Nat.le_refl _) _
      go_upto_region 8 with fail
      generalize wr.alloc (.cells #[.int .i64 po, .int .i64 ps, .int .u64 (pa : Int)] 43) = w2 at *
      have HR2 := Lib.hid (HR.out.below hb2)
      have HXM2 := Lib.hid (HXM.out.below hb2 HXM.out.lt)
      have HX10 := Lib.hid hX10
      have HXG := Lib.hid (show w.heap.size ≤ wr.heap.size from HR.out.b.size)
      have HUX := Lib.hid (fun (x : Nat) (hx : uP.ownBlock = some x) => (HR.out.p.lt x hx).2)
      clear hX10 hb2 c1 c2 c3 m0 m1 HR HXM
      generalize wr.heap.size = X10 at *
      have m0 := HXM2.out.cell 0
      have m1 := HXM2.out.cell 1
      simp at m0 m1
      obtain ⟨c1, c2, c3⟩ := three_cellsL HX10.out
      by_cases h1 : po < 0
      · have d1 : decide (po < 0) = true := by simpa using h1
        have HBAD := Lib.hid (show refM O Q P Y = true from ref_place HPK.out (goodP_none (by rw [HPO.out]; exact secK_neg (.inl h1))))
        clear h1
        go_quiet (fail)
        go_wp2_with fail
        (try rw [Exit.noGoto_ret])
        go_ret2
        exact ⟨below_drewN HR2.out.b _, _, _, rfl, .inl ⟨HBAD.out, rfl, rfl⟩⟩
      obtain ⟨i, rfl⟩ := Int.eq_ofNat_of_zero_le (by omega : 0 ≤ po)
      have d1 : decide ((i : Int) < 0) = false := by simp
      clear h1
      by_cases h2 : NO ≤ i
      · have d2 : decide ((NO : Int) ≤ (i : Int)) = true := by simp; omega
        have d2' : decide (NO ≤ i) = true := by simpa using h2
        have HBAD := Lib.hid (show refM O Q P Y = true from ref_place HPK.out (goodP_none (by rw [HPO.out]; exact secK_far (by rw [HNO.out]; exact h2))))
        clear h2
        go_quiet (fail)
        go_wp2_with fail
        (try rw [Exit.noGoto_ret])
        go_ret2
        exact ⟨below_drewN HR2.out.b _, _, _, rfl, .inl ⟨HBAD.out, rfl, rfl⟩⟩
      have d2 : decide ((NO : Int) ≤ (i : Int)) = false := by simp; omega
      have d2' : decide (NO ≤ i) = false := by simpa using h2
      have hin : i < NO := by omega
      clear h2
      obtain ⟨ob, hob⟩ : ∃ ob, O[i]? = some ob := ⟨O[i]'(by rw [HNO.out]; exact hin), List.getElem?_eq_getElem _⟩
      have HOB := Lib.hid hob
      obtain ⟨hdl, hdx⟩ := HD.out ob (List.mem_of_getElem? hob)
      by_cases h3 : ps < 0
      · have d3 : decide (ps < 0) = true := by simpa using h3
        have HBAD := Lib.hid (show refM O Q P Y = true from ref_place HPK.out (goodP_none (by rw [HPS.out]; exact secK_neg (.inr h3))))
        clear h3 hob hdl hdx
        go_quiet (fail)
        go_wp2_with fail
        (try rw [Exit.noGoto_ret])
        go_ret2
        exact ⟨below_drewN HR2.out.b _, _, _, rfl, .inl ⟨HBAD.out, rfl, rfl⟩⟩
      obtain ⟨j, rfl⟩ := Int.eq_ofNat_of_zero_le (by omega : 0 ≤ ps)
      have d3 : decide ((j : Int) < 0) = false := by simp
      clear h3
      obtain ⟨bO, oO, hao, hbO, -, -, s2w, -, -⟩ := HO.out.at_ hob
      obtain ⟨LN, hLN⟩ : ∃ n, ob.L.length = n := ⟨_, rfl⟩
      rw [hLN] at s2w hdl
      have SO := Lib.hid (fun (W : World) (hW : Below w.heap.size w W) => (hW.cell (p := ⟨bO, oO + i * 5 + 2, none⟩) hbO).trans s2w)
      have s2 := SO.out w2 HR2.out.b
      subst hao
      by_cases h4 : LN ≤ j
      · have d4 : decide ((LN : Int) ≤ (j : Int)) = true := by simp; omega
        have d4' : decide (LN ≤ j) = true := by simpa using h4
        have HBAD := Lib.hid (show refM O Q P Y = true from ref_place HPK.out (goodP_none (by rw [HPO.out, HPS.out]; exact secK_past hob (by rw [hLN]; exact h4))))
        clear h4 hob hdl hdx hLN
        go_quiet (fail)
        go_wp2_with fail
        (try rw [Exit.noGoto_ret])
        go_ret2
        exact ⟨below_drewN HR2.out.b _, _, _, rfl, .inl ⟨HBAD.out, rfl, rfl⟩⟩
      have d4 : decide ((LN : Int) ≤ (j : Int)) = false := by simp; omega
      have d4' : decide (LN ≤ j) = false := by simpa using h4
      have hjn : j < LN := by omega
      clear h4
      obtain ⟨x, hx⟩ : ∃ x, ob.L[j]? = some x := ⟨ob.L[j]'(by rw [hLN]; exact hjn), List.getElem?_eq_getElem _⟩
      have HSK := Lib.hid (show secK O p.obj p.sect = some x by rw [HPO.out, HPS.out]; exact secK_here hob hx)
      have HSZ := Lib.hid (show sizK O p = x.s.data.length by unfold sizK; rw [HSK.out])
      have hdn := hdx x (List.mem_of_getElem? hx)
      have hmo := List.mem_of_getElem? hob
      have hfl := ((HO.out.ok ob hmo).secs.ok x (List.mem_of_getElem? hx)).fits.flags
      obtain ⟨bS, oS, has, hbS, hcs⟩ := (HO.out.ok ob hmo).secs.row (by omega)
      obtain ⟨v0, hv0⟩ : ∃ v, x.s.name.toArray = v := ⟨_, rfl⟩
      obtain ⟨v1, hv1⟩ : ∃ v, x.s.kind = v := ⟨_, rfl⟩
      obtain ⟨fl, hv2⟩ : ∃ v, x.s.flags = v := ⟨_, rfl⟩
      obtain ⟨v3, hv3⟩ : ∃ v, x.s.addr = v := ⟨_, rfl⟩
      obtain ⟨dn, hdn2⟩ : ∃ v, x.s.data.length = v := ⟨_, rfl⟩
      obtain ⟨v5, hv5⟩ : ∃ v, x.s.link = v := ⟨_, rfl⟩
      obtain ⟨v6, hv6⟩ : ∃ v, x.s.inf = v := ⟨_, rfl⟩
      obtain ⟨v7, hv7⟩ : ∃ v, x.s.algn = v := ⟨_, rfl⟩
      obtain ⟨v8, hv8⟩ : ∃ v, x.s.ent = v := ⟨_, rfl⟩
      have hxc : x.cells = [.string ⟨v0⟩, .int .i64 v1, .int .u64 (fl : Int), .int .u64 (v3 : Int), .slice x.A dn x.c, .int .i64 v5, .int .i64 v6, .int .i64 v7, .int .i64 v8] := by rw [← hv0, ← hv1, ← hv2, ← hv3, ← hdn2, ← hv5, ← hv6, ← hv7, ← hv8]; rfl
      have SS := Lib.hid (fun (W : World) (hW : Below w.heap.size w W) (n : Nat) (v : Value) (hv : ([.string ⟨v0⟩, .int .i64 v1, .int .u64 (fl : Int), .int .u64 (v3 : Int), .slice x.A dn x.c, .int .i64 v5, .int .i64 v6, .int .i64 v7, .int .i64 v8] : List Value)[n]? = some v) => (hW.cell (p := ⟨bS, oS + j * 9 + n, none⟩) hbS).trans (hcs j x hx n v (by rw [hxc]; exact hv)))
      have HFL := Lib.hid (show memB x.s.flags = memB fl by rw [hv2])
      rw [hv2] at hfl
      rw [hdn2] at hdn HSZ
      have HGD := Lib.hid (show goodP O Q (P.take k) p = (!(outB Q (i : Int) (j : Int)) && (memB fl && ((outK (P.take k) (i : Int) (j : Int)).isNone && decide (pa < 18446744073709551615 - dn)))) by rw [goodP_is HSK.out, HPO.out, HPS.out, HPA.out, HFL.out, hdn2])
      generalize x.A = xA at *
      generalize x.c = xC at *
      clear hv0 hv1 hv2 hv3 hv5 hv6 hv7 hv8 hxc hcs hx hob hmo hdx hdn2 HFL
      go_quiet (fail)
      go_upto_region 10 with fail
      have HR3 := Lib.hid (HR2.out.drewN nq)
      have HXM3 := Lib.hid (show Box (w2.drewN nq) X3 _ _ from HXM2.out)
      have HX103 := Lib.hid (show Box (w2.drewN nq) X10 _ _ from HX10.out)
      clear c1 c2 c3 m0 m1 s2 HR2 HXM2 HX10 d1 d2 d2' d3 d4 d4'
      generalize w2.drewN nq = w3 at *
      rw [has] at SO
      have KS := Lib.hid (fun (W : World) (hW : Below w3.heap.size w3 W) => (⟨(three_cellsL (HX103.out.below hW HX103.out.lt)).1, (three_cellsL (HX103.out.below hW HX103.out.lt)).2.1, SO.out W (HR3.out.b.trans (hW.mono HR3.out.b.size)), SS.out W (HR3.out.b.trans (hW.mono HR3.out.b.size)) 0 _ rfl, SS.out W (HR3.out.b.trans (hW.mono HR3.out.b.size)) 1 _ rfl, SS.out W (HR3.out.b.trans (hW.mono HR3.out.b.size)) 2 _ rfl, SS.out W (HR3.out.b.trans (hW.mono HR3.out.b.size)) 3 _ rfl, SS.out W (HR3.out.b.trans (hW.mono HR3.out.b.size)) 4 _ rfl, SS.out W (HR3.out.b.trans (hW.mono HR3.out.b.size)) 5 _ rfl, SS.out W (HR3.out.b.trans (hW.mono HR3.out.b.size)) 6 _ rfl, SS.out W (HR3.out.b.trans (hW.mono HR3.out.b.size)) 7 _ rfl, SS.out W (HR3.out.b.trans (hW.mono HR3.out.b.size)) 8 _ rfl⟩ : W.cell? ⟨X10, 0, none⟩ = some (.int .i64 (i : Int)) ∧ W.cell? ⟨X10, 1, none⟩ = some (.int .i64 (j : Int)) ∧ W.cell? ⟨bO, oO + i * 5 + 2, none⟩ = some (.slice (some ⟨bS, oS, none⟩) LN ob.cS) ∧ W.cell? ⟨bS, oS + j * 9, none⟩ = some (.string ⟨v0⟩) ∧ W.cell? ⟨bS, oS + j * 9 + 1, none⟩ = some (.int .i64 v1) ∧ W.cell? ⟨bS, oS + j * 9 + 2, none⟩ = some (.int .u64 (fl : Int)) ∧ W.cell? ⟨bS, oS + j * 9 + 3, none⟩ = some (.int .u64 (v3 : Int)) ∧ W.cell? ⟨bS, oS + j * 9 + 4, none⟩ = some (.slice xA dn xC) ∧ W.cell? ⟨bS, oS + j * 9 + 5, none⟩ = some (.int .i64 v5) ∧ W.cell? ⟨bS, oS + j * 9 + 6, none⟩ = some (.int .i64 v6) ∧ W.cell? ⟨bS, oS + j * 9 + 7, none⟩ = some (.int .i64 v7) ∧ W.cell? ⟨bS, oS + j * 9 + 8, none⟩ = some (.int .i64 v8)))
      have hx11 : Box ((w3.alloc (.cells #[.string ⟨#[]⟩, .int .i64 0, .int .u64 0, .int .u64 0, .slice none 0 0, .int .i64 0, .int .i64 0, .int .i64 0, .int .i64 0] 70)).drew) w3.heap.size 70 #[.string ⟨#[]⟩, .int .i64 0, .int .u64 0, .int .u64 0, .slice none 0 0, .int .i64 0, .int .i64 0, .int .i64 0, .int .i64 0] := Box.new w3 70 #[.string ⟨#[]⟩, .int .i64 0, .int .u64 0, .int .u64 0, .slice none 0 0, .int .i64 0, .int .i64 0, .int .i64 0, .int .i64 0]
      have hb11 : Below w3.heap.size w3 ((w3.alloc (.cells #[.string ⟨#[]⟩, .int .i64 0, .int .u64 0, .int .u64 0, .slice none 0 0, .int .i64 0, .int .i64 0, .int .i64 0, .int .i64 0] 70)).drew) := below_drewN ((Below.refl w3.heap.size w3).alloc (Nat.le_refl _) _) 1
      have HX11 := Lib.hid (show Box ((w3.alloc (.cells #[.string ⟨v0⟩, .int .i64 v1, .int .u64 (fl : Int), .int .u64 (v3 : Int), .slice xA dn xC, .int .i64 v5, .int .i64 v6, .int .i64 v7, .int .i64 v8] 70)).drew) w3.heap.size 70 #[.string ⟨v0⟩, .int .i64 v1, .int .u64 (fl : Int), .int .u64 (v3 : Int), .slice xA dn xC, .int .i64 v5, .int .i64 v6, .int .i64 v7, .int .i64 v8] from Box.new w3 70 #[.string ⟨v0⟩, .int .i64 v1, .int .u64 (fl : Int), .int .u64 (v3 : Int), .slice xA dn xC, .int .i64 v5, .int .i64 v6, .int .i64 v7, .int .i64 v8])
      have HB34 := Lib.hid (show Below w3.heap.size w3 ((w3.alloc (.cells #[.string ⟨v0⟩, .int .i64 v1, .int .u64 (fl : Int), .int .u64 (v3 : Int), .slice xA dn xC, .int .i64 v5, .int .i64 v6, .int .i64 v7, .int .i64 v8] 70)).drew) from below_drewN ((Below.refl w3.heap.size w3).alloc (Nat.le_refl _) _) 1)
      obtain ⟨z0, z1, z2, z3, z4, z5, z6, z7, z8⟩ := nine_cellsN hx11
      obtain ⟨f0, f1, f2, f3, f4, f5, f6, f7, f8⟩ := nine_freeN hx11
      refine wp_region_held_drew (S := fun W => W.cell? ⟨X10, 0, none⟩ = some (.int .i64 (i : Int)) ∧ W.cell? ⟨X10, 1, none⟩ = some (.int .i64 (j : Int)) ∧ W.cell? ⟨bO, oO + i * 5 + 2, none⟩ = some (.slice (some ⟨bS, oS, none⟩) LN ob.cS) ∧ W.cell? ⟨bS, oS + j * 9, none⟩ = some (.string ⟨v0⟩) ∧ W.cell? ⟨bS, oS + j * 9 + 1, none⟩ = some (.int .i64 v1) ∧ W.cell? ⟨bS, oS + j * 9 + 2, none⟩ = some (.int .u64 (fl : Int)) ∧ W.cell? ⟨bS, oS + j * 9 + 3, none⟩ = some (.int .u64 (v3 : Int)) ∧ W.cell? ⟨bS, oS + j * 9 + 4, none⟩ = some (.slice xA dn xC) ∧ W.cell? ⟨bS, oS + j * 9 + 5, none⟩ = some (.int .i64 v5) ∧ W.cell? ⟨bS, oS + j * 9 + 6, none⟩ = some (.int .i64 v6) ∧ W.cell? ⟨bS, oS + j * 9 + 7, none⟩ = some (.int .i64 v7) ∧ W.cell? ⟨bS, oS + j * 9 + 8, none⟩ = some (.int .i64 v8)) (by kernel_rfl) ?_ (fun hHeld => ?_)
      · exact KS.out _ (below_drewN (Below.refl _ _) 1)
      refine take_r (i := 0) (v := ?_) rfl (by kernel_rfl) (by kernel_rfl) (by kernel_rfl) (fun _ _ _ h => h) (Or.inl ⟨by rfl, ?_⟩) hHeld ?_
      rotate_left
      · (intro wS hSw; (try dsimp only at hSw); go_simp; (try with_reducible rfl))
      try simp only [Act.put, List.setIfInBounds_toArray, List.set_cons_zero, List.set_cons_succ]
      refine take_r (i := 1) (v := ?_) rfl (by kernel_rfl) (by kernel_rfl) (by kernel_rfl) (fun _ _ _ h => h) (Or.inl ⟨by rfl, ?_⟩) hHeld ?_
      rotate_left
      · (intro wS hSw; (try dsimp only at hSw); go_simp; (try with_reducible rfl))
      try simp only [Act.put, List.setIfInBounds_toArray, List.set_cons_zero, List.set_cons_succ]
      refine take_r (i := 2) (v := ?_) rfl (by kernel_rfl) (by kernel_rfl) (by kernel_rfl) (fun _ _ _ h => h) (Or.inl ⟨by rfl, ?_⟩) hHeld ?_
      rotate_left
      · (intro wS hSw; (try dsimp only at hSw); go_simp; (try with_reducible rfl))
      try simp only [Act.put, List.setIfInBounds_toArray, List.set_cons_zero, List.set_cons_succ]
      refine take_r (i := 3) (v := ?_) rfl (by kernel_rfl) (by kernel_rfl) (by kernel_rfl) (fun _ _ _ h => h) (Or.inl ⟨by rfl, ?_⟩) hHeld ?_
      rotate_left
      · (intro wS hSw; (try dsimp only at hSw); go_simp; (try with_reducible rfl))
      try simp only [Act.put, List.setIfInBounds_toArray, List.set_cons_zero, List.set_cons_succ]
      refine take_r (i := 4) (v := ?_) rfl (by kernel_rfl) (by kernel_rfl) (by kernel_rfl) (fun _ _ _ h => h) (Or.inl ⟨by rfl, ?_⟩) hHeld ?_
      rotate_left
      · (intro wS hSw; (try dsimp only at hSw); go_simp; (try with_reducible rfl))
      try simp only [Act.put, List.setIfInBounds_toArray, List.set_cons_zero, List.set_cons_succ]
      refine take_r (i := 5) (v := ?_) rfl (by kernel_rfl) (by kernel_rfl) (by kernel_rfl) (fun _ _ _ h => h) (Or.inl ⟨by rfl, ?_⟩) hHeld ?_
      rotate_left
      · (intro wS hSw; (try dsimp only at hSw); go_simp; (try with_reducible rfl))
      try simp only [Act.put, List.setIfInBounds_toArray, List.set_cons_zero, List.set_cons_succ]
      refine take_r (i := 6) (v := ?_) rfl (by kernel_rfl) (by kernel_rfl) (by kernel_rfl) (fun _ _ _ h => h) (Or.inl ⟨by rfl, ?_⟩) hHeld ?_
      rotate_left
      · (intro wS hSw; (try dsimp only at hSw); go_simp; (try with_reducible rfl))
      try simp only [Act.put, List.setIfInBounds_toArray, List.set_cons_zero, List.set_cons_succ]
      refine take_r (i := 7) (v := ?_) rfl (by kernel_rfl) (by kernel_rfl) (by kernel_rfl) (fun _ _ _ h => h) (Or.inl ⟨by rfl, ?_⟩) hHeld ?_
      rotate_left
      · (intro wS hSw; (try dsimp only at hSw); go_simp; (try with_reducible rfl))
      try simp only [Act.put, List.setIfInBounds_toArray, List.set_cons_zero, List.set_cons_succ]
      refine take_r (i := 8) (v := ?_) rfl (by kernel_rfl) (by kernel_rfl) (by kernel_rfl) (fun _ _ _ h => h) (Or.inl ⟨by rfl, ?_⟩) hHeld ?_
      rotate_left
      · (intro wS hSw; (try dsimp only at hSw); go_simp; (try with_reducible rfl))
      try simp only [Act.put, List.setIfInBounds_toArray, List.set_cons_zero, List.set_cons_succ]
      refine take_r (i := 9) (v := ?_) rfl (by kernel_rfl) (by kernel_rfl) (by kernel_rfl) (fun _ _ _ h => h) (Or.inl ⟨by rfl, ?_⟩) hHeld ?_
      rotate_left
      · (intro wS hSw; (try dsimp only at hSw); go_simp; (try with_reducible rfl))
      try simp only [Act.put, List.setIfInBounds_toArray, List.set_cons_zero, List.set_cons_succ]
      refine wpAnyH_ready (rs := [10]) (by kernel_rfl) (by simp) ?_
      refine ready_r rfl (fun K hK => ?_)
      go_simp
      go_wp2_with (fail)
      refine hK.out _ _ ?_ (fun hNew => ?_)
      · exact KS.out _ hb11
      clear hHeld hK K
      have hHeld := hNew
      clear hNew
      refine wpAnyH_ready (rs := [11]) (by kernel_rfl) (by simp) ?_
      refine ready_r rfl (fun K hK => ?_)
      go_simp
      go_wp2_with (fail)
      refine hK.out _ _ ?_ (fun hNew => ?_)
      · exact KS.out _ HB34.out
      clear hHeld hK K
      have hHeld := hNew
      clear hNew
      refine wpAnyH_done (by kernel_rfl) ?_ _
      go_upto_region 11 with fail
      clear z0 z1 z2 z3 z4 z5 z6 z7 z8 f0 f1 f2 f3 f4 f5 f6 f7 f8 hx11 hb11 KS
      clear hHeld s2w SO SS
      have HR4 := Lib.hid (HR3.out.below HB34.out)
      have HXM4 := Lib.hid (HXM3.out.below HB34.out HXM3.out.lt)
      have HX104 := Lib.hid (HX103.out.below HB34.out HX103.out.lt)
      have HXK := Lib.hid (show w.heap.size ≤ w3.heap.size from HR3.out.b.size)
      clear HB34 HR3 HXM3 HX103 hdl hjn hLN hin has
      generalize (w3.alloc (.cells #[.string ⟨v0⟩, .int .i64 v1, .int .u64 (fl : Int), .int .u64 (v3 : Int), .slice xA dn xC, .int .i64 v5, .int .i64 v6, .int .i64 v7, .int .i64 v8] 70)).drew = w4 at *
      generalize w3.heap.size = X11 at *
      go_cut [12] from 32 to 171 (fun u12 wx => u12 = .bool (outB Q (i : Int) (j : Int)) ∧ Hid (∃ n, wx = w4.drewN n))
      case first =>
        as_aux_lemma =>
          obtain ⟨c1, c2, c3⟩ := three_cellsL HX104.out
          by_cases hq1 : i < NQ
          · have d1 : decide ((i : Int) < (NQ : Int)) = true := by simp; omega
            have d1' : decide (i < NQ) = true := by simpa using hq1
            obtain ⟨q, hqi⟩ : ∃ q, Q[i]? = some q := ⟨Q[i]'(by rw [HNQ.out]; exact hq1), List.getElem?_eq_getElem _⟩
            obtain ⟨bQ, oQ, haq, hbQ, q1w⟩ := HQ.out.at_ hqi
            have q1 := (HR4.out.b.cell (p := ⟨bQ, oQ + i, none⟩) hbQ).trans q1w
            have hqm := List.mem_of_getElem? hqi
            have hqbl := HQB.out q hqm
            obtain ⟨QL, hQL⟩ : ∃ n, q.l.length = n := ⟨_, rfl⟩
            rw [hQL] at q1 hqbl
            subst haq
            by_cases hq2 : j < QL
            · have d2 : decide ((j : Int) < (QL : Int)) = true := by simp; omega
              have d2' : decide (j < QL) = true := by simpa using hq2
              obtain ⟨tb, htb⟩ : ∃ t, q.l[j]? = some t := ⟨q.l[j]'(by rw [hQL]; exact hq2), List.getElem?_eq_getElem _⟩
              obtain ⟨bT, oT, hat, hbT, t1w⟩ := (HQ.out.ok q hqm).at_ htb
              have t1 := (HR4.out.b.cell (p := ⟨bT, oT + j, none⟩) hbT).trans t1w
              rw [hat] at q1
              have HOU := Lib.hid (outB_here hqi htb)
              clear hqm hqi htb hQL q1w t1w hat
              go_quiet (fail)
              go_wp2_with fail
              go_meet
              exact ⟨by rw [HOU.out], Lib.hid ⟨_, rfl⟩⟩
            · have d2 : decide ((j : Int) < (QL : Int)) = false := by simp; omega
              have d2' : decide (j < QL) = false := by simpa using hq2
              have HOU := Lib.hid (outB_past hqi (j := j) (by rw [hQL]; omega))
              clear hqm hqi hQL q1w hq2
              go_quiet (fail)
              go_wp2_with fail
              go_meet
              exact ⟨by rw [HOU.out], Lib.hid ⟨_, rfl⟩⟩
          · have d1 : decide ((i : Int) < (NQ : Int)) = false := by simp; omega
            have d1' : decide (i < NQ) = false := by simpa using hq1
            have HOU := Lib.hid (outB_far (s := (j : Int)) (Q := Q) (i := i) (by rw [HNQ.out]; omega))
            clear hq1
            go_quiet (fail)
            go_wp2_with fail
            go_meet
            exact ⟨by rw [HOU.out], Lib.hid ⟨_, rfl⟩⟩
      case rest =>
      obtain ⟨rfl, HWC⟩ := hcut
      have HR5 := Lib.hid (show RNew w wc g uP uS (.slice none 0 0) (P.take k) ((P.take k).map (sizK O)) [] from by obtain ⟨n, rfl⟩ := HWC.out; exact HR4.out.drewN n)
      have HXM5 := Lib.hid (show Box wc X3 25 #[.slice (some ⟨b, oo, none⟩) N cP, .slice aY M cY] from by obtain ⟨n, rfl⟩ := HWC.out; exact HXM4.out)
      have HX105 := Lib.hid (show Box wc X10 43 #[.int .i64 i, .int .i64 j, .int .u64 (pa : Int)] from by obtain ⟨n, rfl⟩ := HWC.out; exact HX104.out)
      have HX115 := Lib.hid (show Box wc X11 70 #[.string ⟨v0⟩, .int .i64 v1, .int .u64 (fl : Int), .int .u64 (v3 : Int), .slice xA dn xC, .int .i64 v5, .int .i64 v6, .int .i64 v7, .int .i64 v8] from by obtain ⟨n, rfl⟩ := HWC.out; exact HX11.out)
      clear HR4 HXM4 HX104 HX11 HWC
      generalize wc = w5 at *
      have HAL := Lib.hid (fun (W : World) => ralloc_any (.string ⟨v0⟩) v1 fl (.int .u64 (v3 : Int)) (.slice xA dn xC) (.int .i64 v5) (.int .i64 v6) (.int .i64 v7) (.int .i64 v8) hfl W)
      obtain ⟨n0, n1, n2, n3, n4, n5, n6, n7, n8⟩ := nine_cellsN HX115.out
      obtain ⟨mT, hmT⟩ : ∃ m, 18446744073709551615 - dn = m := ⟨_, rfl⟩
      have hcv : IntKind.u64.wrap (dn : Int) = (dn : Int) := IntWalk.u64_in _ (by omega)
      have hsub : IntKind.u64.wrap (18446744073709551615 - (dn : Int)) = (mT : Int) := sub_tomb hdn hmT
      rw [hmT] at HGD
      have HMT := Lib.hid hmT
      clear hmT
      generalize outB Q (i : Int) (j : Int) = ou at *
      generalize memB fl = mb at *
      have HNOT := Lib.hid (fun (hg : goodP O Q (P.take k) p = false) => ref_place (Y := Y) HPK.out hg)
      cases mb
      · as_aux_lemma =>
          have HBAD := Lib.hid (HNOT.out (by rw [HGD.out]; simp))
          go_wp2_with (go_at_call 30; refine (HAL.out w5).mono ?_; rintro r w6 ⟨rfl, hB6⟩; have HR6 := Lib.hid (HR5.out.below hB6); have HXM6 := Lib.hid (HXM5.out.below hB6 HXM5.out.lt); have HX106 := Lib.hid (HX105.out.below hB6 HX105.out.lt); have HX116 := Lib.hid (HX115.out.below hB6 HX115.out.lt); have k3 := (three_cellsL HX106.out).2.2; have k4 := (nine_cellsN HX116.out).2.2.2.2.1; clear hB6)
          go_ret2
          exact ⟨HR6.out.b, _, _, rfl, .inl ⟨HBAD.out, rfl, rfl⟩⟩
      cases ou
      · by_cases hm : mT ≤ pa
        · have d1 : decide ((mT : Int) ≤ (pa : Int)) = true := by simp; omega
          have d1' : decide (mT ≤ pa) = true := by simpa using hm
          have HBAD := Lib.hid (HNOT.out (by rw [HGD.out, show decide (pa < mT) = false by simp; omega]; simp))
          clear hm
          go_wp2_with (go_at_call 30; refine (HAL.out w5).mono ?_; rintro r w6 ⟨rfl, hB6⟩; have HR6 := Lib.hid (HR5.out.below hB6); have HXM6 := Lib.hid (HXM5.out.below hB6 HXM5.out.lt); have HX106 := Lib.hid (HX105.out.below hB6 HX105.out.lt); have HX116 := Lib.hid (HX115.out.below hB6 HX115.out.lt); have k3 := (three_cellsL HX106.out).2.2; have k4 := (nine_cellsN HX116.out).2.2.2.2.1; clear hB6)
          go_ret2
          exact ⟨HR6.out.b, _, _, rfl, .inl ⟨HBAD.out, rfl, rfl⟩⟩
        have d1 : decide ((mT : Int) ≤ (pa : Int)) = false := by simp; omega
        have d1' : decide (mT ≤ pa) = false := by simpa using hm
        have HGE := Lib.hid (show goodP O Q (P.take k) p = (outK (P.take k) (i : Int) (j : Int)).isNone by rw [HGD.out, show decide (pa < mT) = true by simp; omega]; simp)
        have HADN := Lib.hid (show pa + dn < 18446744073709551616 by have := HMT.out; omega)
        clear hm
        go_upto_region 14 with (go_at_call 30; refine (HAL.out w5).mono ?_; rintro r w6 ⟨rfl, hB6⟩; have HR6 := Lib.hid (HR5.out.below hB6); have HXM6 := Lib.hid (HXM5.out.below hB6 HXM5.out.lt); have HX106 := Lib.hid (HX105.out.below hB6 HX105.out.lt); have HX116 := Lib.hid (HX115.out.below hB6 HX115.out.lt); have k3 := (three_cellsL HX106.out).2.2; have k4 := (nine_cellsN HX116.out).2.2.2.2.1; clear hB6)
        clear n0 n1 n2 n3 n4 n5 n6 n7 n8 HGD HMT HAL hfl hcv hsub d1 d1' HR5 HXM5 HX105 HX115
        have HPC3 := Lib.hid (show p.cells = [.int .i64 (i : Int), .int .i64 (j : Int), .int .u64 (pa : Int)] by unfold Place.cells; rw [HPO.out, HPS.out, HPA.out])
        have HPC := Lib.hid (fun (W : World) (hW : Below w.heap.size w W) (m : Nat) (z : Place) (hz : P[m]? = some z) => (by
          obtain ⟨b', oo', e, -, h1, h2, h3⟩ := place_at (HP.out.below hW) hz
          injection e with e
          injection e with e1 e2
          subst e1 e2
          exact ⟨h1, h2, h3⟩ : W.cell? ⟨b, oo + m * 3, none⟩ = some (.int .i64 z.obj) ∧ W.cell? ⟨b, oo + m * 3 + 1, none⟩ = some (.int .i64 z.sect) ∧ W.cell? ⟨b, oo + m * 3 + 2, none⟩ = some (.int .u64 (z.addr : Int))))
        clear k3 k4
        go_upto_region 15 with fail
        go_loopg [13] k (fun gk vi wr => ∃ (m : Nat), m ≤ k ∧ gk = k - m ∧ vi = .int .i64 m ∧ Hid (∃ q, wr = w6.drewN q) ∧ Hid ((P.take m).all (fun z => !(hasP (i : Int) (j : Int) z)) = true))
        case atStart => exact ⟨0, Nat.zero_le _, rfl, rfl, Lib.hid ⟨0, rfl⟩, Lib.hid rfl⟩
        case round =>
          obtain ⟨m, hm, rfl, rfl, HWQ, HAL2⟩ := hrel
          have HR7 := Lib.hid (show RNew w wr g uP uS (.slice none 0 0) (P.take k) ((P.take k).map (sizK O)) [] from by obtain ⟨q, rfl⟩ := HWQ.out; exact HR6.out.drewN q)
          have HXM7 := Lib.hid (show Box wr X3 25 #[.slice (some ⟨b, oo, none⟩) N cP, .slice aY M cY] from by obtain ⟨q, rfl⟩ := HWQ.out; exact HXM6.out)
          have HX107 := Lib.hid (show Box wr X10 43 #[.int .i64 i, .int .i64 j, .int .u64 (pa : Int)] from by obtain ⟨q, rfl⟩ := HWQ.out; exact HX106.out)
          have HX117 := Lib.hid (show Box wr X11 70 #[.string ⟨v0⟩, .int .i64 v1, .int .u64 (fl : Int), .int .u64 (v3 : Int), .slice xA dn xC, .int .i64 v5, .int .i64 v6, .int .i64 v7, .int .i64 v8] from by obtain ⟨q, rfl⟩ := HWQ.out; exact HX116.out)
          have m0 := HXM7.out.cell 0
          simp at m0
          obtain ⟨c1, c2, c3⟩ := three_cellsL HX107.out
          by_cases hlm : m < k
          · have HLM := Lib.hid hlm
            obtain ⟨z, hz⟩ : ∃ z, P[m]? = some z := ⟨P[m]'(by rw [HN.out]; omega), List.getElem?_eq_getElem _⟩
            obtain ⟨z1, z2, z3⟩ := HPC.out wr HR7.out.b m z hz
            have dm : decide ((m : Int) < (k : Int)) = true := by simp; omega
            have dm' : decide (m < k) = true := by simpa using hlm
            have hmN : m < N := by omega
            obtain ⟨zo, hzo⟩ : ∃ v, z.obj = v := ⟨_, rfl⟩
            obtain ⟨zs, hzs⟩ : ∃ v, z.sect = v := ⟨_, rfl⟩
            rw [hzo] at z1
            rw [hzs] at z2
            have HTK := Lib.hid (show P.take (m + 1) = P.take m ++ [z] by rw [List.take_add_one, hz]; rfl)
            have HHP := Lib.hid (show hasP (i : Int) (j : Int) z = (decide (zo = (i : Int)) && decide (zs = (j : Int))) by unfold hasP; rw [hzo, hzs])
            have HZ := Lib.hid hz
            clear hz hzo hzs z3
            go_upto_region 17 with fail
            by_cases e1 : zo = (i : Int)
            · by_cases e2 : zs = (j : Int)
              · as_aux_lemma =>
                  have HBAD := Lib.hid (HNOT.out (by rw [HGE.out]; exact outK_dup HLM.out HZ.out (by rw [HHP.out]; simp [e1, e2])))
                  subst e1 e2
                  go_quiet (fail)
                  go_wp2_with fail
                  (try rw [Exit.noGoto_ret])
                  go_ret2
                  exact ⟨below_drewN HR7.out.b _, _, _, rfl, .inl ⟨HBAD.out, rfl, rfl⟩⟩
              have d2 : decide (zs = (j : Int)) = false := by simpa using e2
              have HALN := Lib.hid (show (P.take (m + 1)).all (fun z => !(hasP (i : Int) (j : Int) z)) = true by rw [HTK.out, List.all_append, HAL2.out, List.all_cons, List.all_nil, HHP.out, d2]; simp)
              subst e1
              go_quiet (fail)
              go_wp2_with fail
              go_roundg (k - (m + 1))
              case measure => have := HLM.out; omega
              case rel => exact ⟨m + 1, HLM.out, rfl, rfl, Lib.hid (by obtain ⟨q, rfl⟩ := HWQ.out; exact ⟨_, World.drewN_drewN ..⟩), HALN⟩
            have d2 : decide (zo = (i : Int)) = false := by simpa using e1
            have HALN := Lib.hid (show (P.take (m + 1)).all (fun z => !(hasP (i : Int) (j : Int) z)) = true by rw [HTK.out, List.all_append, HAL2.out, List.all_cons, List.all_nil, HHP.out, d2]; simp)
            go_quiet (fail)
            go_wp2_with fail
            go_roundg (k - (m + 1))
            case measure => have := HLM.out; omega
            case rel => exact ⟨m + 1, HLM.out, rfl, rfl, Lib.hid (by obtain ⟨q, rfl⟩ := HWQ.out; exact ⟨_, World.drewN_drewN ..⟩), HALN⟩
          · as_aux_lemma =>
              have hmk : m = k := by omega
              have dm : decide ((m : Int) < (k : Int)) = false := by simp; omega
              have dm' : decide (m < k) = false := by simpa using hlm
              have HGD2 := Lib.hid (show goodPs O Q P (k + 1) = true by rw [goodPs_next HPK.out, HGP.out, HGE.out, outK_no (hmk ▸ HAL2.out)]; rfl)
              clear hmk hlm HAL2
              go_upto_region 19 with fail
              have HKL := Lib.hid (show (P.take k).length = k by rw [List.length_take, HN.out]; omega)
              obtain ⟨Ap, cp, hup, -, -, -⟩ := own_row place_three HR7.out.p
              rw [HKL.out] at hup
              subst hup
              clear dm dm' m0 c1 c2 c3 HR6 HXM6 HX106 HX116 HWQ HPC HNOT HGE HGP
              generalize wr = w8 at *
              have HR8 := HR7
              have HXM8 := HXM7
              have HX108 := HX107
              have HX118 := HX117
              clear HR7 HXM7 HX107 HX117
              go_cut [] from 32 to 171 (fun wx => Hid (∃ v : Value, RNew w wx g v uS (.slice none 0 0) (P.take k ++ [p]) ((P.take k).map (sizK O)) [] ∧ Box wx X3 25 #[.slice (some ⟨b, oo, none⟩) N cP, .slice aY M cY] ∧ Box wx X11 70 #[.string ⟨v0⟩, .int .i64 v1, .int .u64 (fl : Int), .int .u64 (v3 : Int), .slice xA dn xC, .int .i64 v5, .int .i64 v6, .int .i64 v7, .int .i64 v8]))
              case first =>
                as_aux_lemma =>
                  clear HO HQ HD HQB HY HPN HYL HOB HSK HMANY
                  have KS := Lib.hid (fun (W : World) (hB : Box W g 56 #[.slice Ap k cp, uS, .slice none 0 0]) (hX : Box W X10 43 #[.int .i64 (i : Int), .int .i64 (j : Int), .int .u64 (pa : Int)]) => (⟨(three_cellsL hB).1, three_cellsL hX⟩ : W.cell? ⟨g, 0, none⟩ = some (.slice Ap k cp) ∧ W.cell? ⟨X10, 0, none⟩ = some (.int .i64 (i : Int)) ∧ W.cell? ⟨X10, 1, none⟩ = some (.int .i64 (j : Int)) ∧ W.cell? ⟨X10, 2, none⟩ = some (.int .u64 (pa : Int))))
                  have hA9 : Below w8.heap.size w8 ((w8.alloc (.cells #[.int .i64 (i : Int), .int .i64 (j : Int), .int .u64 (pa : Int)] 43)).drew) := below_drewN ((Below.refl w8.heap.size w8).alloc (Nat.le_refl _) _) 1
                  have HR9 := Lib.hid (HR8.out.below hA9)
                  have HXM9 := Lib.hid (HXM8.out.below hA9 HXM8.out.lt)
                  have HX109 := Lib.hid (HX108.out.below hA9 HX108.out.lt)
                  have HX119 := Lib.hid (HX118.out.below hA9 HX118.out.lt)
                  have HN9 := Lib.hid (fun (jj : Nat) (u : Value) (h : ([.int .i64 (i : Int), .int .i64 (j : Int), .int .u64 (pa : Int)] : List Value)[jj]? = some u) => (cells_newU w8 [.int .i64 (i : Int), .int .i64 (j : Int), .int .u64 (pa : Int)] 43 jj u h : World.cell? ((w8.alloc (.cells #[.int .i64 (i : Int), .int .i64 (j : Int), .int .u64 (pa : Int)] 43)).drew) ((⟨w8.heap.size, 0, none⟩ : Addr).add jj) = some u))
                  have HO9 := Lib.hid (show World.ownsRow ((w8.alloc (.cells #[.int .i64 (i : Int), .int .i64 (j : Int), .int .u64 (pa : Int)] 43)).drew) w.heap.size 43 3 (.slice Ap k cp) k (cellsF Place.cells (P.take k)) from by have := HR9.out.p; rwa [HKL.out] at this)
                  have hsz : w.heap.size ≤ (World.heap ((w8.alloc (.cells #[.int .i64 (i : Int), .int .i64 (j : Int), .int .u64 (pa : Int)] 43)).drew)).size := HR9.out.b.size
                  have HU9 := Lib.hid ((fun e => absurd (HUX.out X10 e.symm) (Nat.lt_irrefl _) : some X10 ≠ (Value.slice Ap k cp).ownBlock))
                  have h63 : k + 1 ≤ maxLen := by unfold maxLen; omega
                  have hby : (k + 1) * 24 ≤ 140737488355328 := by omega
                  refine region_any (by kernel_rfl) ?_
                  refine wpAny_of_until (S := fun W => W.cell? ⟨g, 0, none⟩ = some (.slice Ap k cp) ∧ W.cell? ⟨X10, 0, none⟩ = some (.int .i64 (i : Int)) ∧ W.cell? ⟨X10, 1, none⟩ = some (.int .i64 (j : Int)) ∧ W.cell? ⟨X10, 2, none⟩ = some (.int .u64 (pa : Int))) (p := 10) _ _ _ _ ?_
                  have hHeld := KS.out _ (HR8.out.drewN 1).box (HX108.out.drewN 1)
                  refine take_u (i := 0) (v := ?_) [8, 9, 10] rfl (by kernel_rfl) (by kernel_rfl) (by kernel_rfl) (by kernel_rfl) (by kernel_rfl) (by kernel_rfl) (by kernel_rfl) (fun _ _ _ h => h) (Or.inl ⟨by rfl, ?_⟩) hHeld ?_
                  rotate_left
                  · (intro wS hSw; (try dsimp only at hSw); go_simp; (try with_reducible rfl))
                  try simp only [Act.put, List.setIfInBounds_toArray, List.set_cons_zero, List.set_cons_succ]
                  refine take_u (i := 1) (v := ?_) [2, 3, 4, 7, 10] rfl (by kernel_rfl) (by kernel_rfl) (by kernel_rfl) (by kernel_rfl) (by kernel_rfl) (by kernel_rfl) (by kernel_rfl) (fun _ _ _ h => h) (Or.inl ⟨by rfl, ?_⟩) hHeld ?_
                  rotate_left
                  · (intro wS hSw; (try dsimp only at hSw); go_simp; (try with_reducible rfl))
                  try simp only [Act.put, List.setIfInBounds_toArray, List.set_cons_zero, List.set_cons_succ]
                  refine take_u (i := 2) (v := ?_) [3, 4, 7, 10] rfl (by kernel_rfl) (by kernel_rfl) (by kernel_rfl) (by kernel_rfl) (by kernel_rfl) (by kernel_rfl) (by kernel_rfl) (fun _ _ _ h => h) (Or.inl ⟨by rfl, ?_⟩) hHeld ?_
                  rotate_left
                  · (intro wS hSw; (try dsimp only at hSw); go_simp; (try with_reducible rfl))
                  try simp only [Act.put, List.setIfInBounds_toArray, List.set_cons_zero, List.set_cons_succ]
                  refine take_u (i := 3) (v := ?_) [4, 7, 10] rfl (by kernel_rfl) (by kernel_rfl) (by kernel_rfl) (by kernel_rfl) (by kernel_rfl) (by kernel_rfl) (by kernel_rfl) (fun _ _ _ h => h) (Or.inl ⟨by rfl, ?_⟩) hHeld ?_
                  rotate_left
                  · (intro wS hSw; (try dsimp only at hSw); go_simp; (try with_reducible rfl))
                  try simp only [Act.put, List.setIfInBounds_toArray, List.set_cons_zero, List.set_cons_succ]
                  refine take_u (i := 4) (v := ?_) [7, 10] rfl (by kernel_rfl) (by kernel_rfl) (by kernel_rfl) (by kernel_rfl) (by kernel_rfl) (by kernel_rfl) (by kernel_rfl) (fun _ _ _ h => h) (Or.inl ⟨by rfl, ?_⟩) hHeld ?_
                  rotate_left
                  · (intro wS hSw; (try dsimp only at hSw); go_simp; (try with_reducible rfl))
                  try simp only [Act.put, List.setIfInBounds_toArray, List.set_cons_zero, List.set_cons_succ]
                  refine take_u (i := 5) (v := ?_) [6, 7, 10] rfl (by kernel_rfl) (by kernel_rfl) (by kernel_rfl) (by kernel_rfl) (by kernel_rfl) (by kernel_rfl) (by kernel_rfl) (fun _ _ _ h => h) (Or.inl ⟨by rfl, ?_⟩) hHeld ?_
                  rotate_left
                  · (intro wS hSw; (try dsimp only at hSw); go_simp; (try with_reducible rfl))
                  try simp only [Act.put, List.setIfInBounds_toArray, List.set_cons_zero, List.set_cons_succ]
                  refine ready_u (i := 6) (by kernel_rfl) rfl (by kernel_rfl) (fun K hK => ?_)
                  go_simp
                  go_wp2_with (fail)
                  refine hK.out _ _ ?_ (fun hNew => ?_)
                  · exact KS.out _ HR9.out.box HX109.out
                  clear hHeld hK K
                  have hHeld := hNew
                  clear hNew
                  refine ready_u (i := 7) (by kernel_rfl) rfl (by kernel_rfl) (fun K hK => ?_)
                  refine step_append_lies _ (by rfl) (.tmp 153) (.tmp 155) _ (by rfl) w.heap.size 43 i1 _ 3 24 Tryd.underlying22 hj1 hy0 hy1 hy2 (by rfl) (by decide) (.slice Ap k cp) k (cellsF Place.cells (P.take k)) (by rfl) (by exact HO9.out) ⟨w8.heap.size, 0, none⟩ 1 1 [.int .i64 (i : Int), .int .i64 (j : Int), .int .u64 (pa : Int)] (by rfl) rfl HN9.out (by simp [Value.oneCell']) (by decide) h63 hby (by exact hsz) _ rfl ?_; intro g10 cap10 w10 hown10 hg10 hat10 hlt10; obtain ⟨hb10, hr10⟩ := HR9.out.place (p := p) hg10 (by rw [HKL.out, HPC3.out]; exact hown10); have HR11 := Lib.hid hr10; have hx10 := HX109.out.grown hg10 HU9.out; have HXM11 := Lib.hid (box_stay (n := 0) (u' := .slice (some ⟨g10, 0, none⟩) (k + 1) cap10) HXM9.out hg10 (blk_neL HXM9.out HO9.out (by decide)) (HXM9.out.other HR9.out.box (by decide))); have HX1111 := Lib.hid (box_stay (n := 0) (u' := .slice (some ⟨g10, 0, none⟩) (k + 1) cap10) HX119.out hg10 (blk_neL HX119.out HO9.out (by decide)) (HX119.out.other HR9.out.box (by decide))); have z10 := (three_cellsL hb10).1; have f10 := (three_freeL hb10).1; have hS10 := KS.out _ hb10 hx10; clear hown10 hg10 hat10 hlt10 hr10 hb10 hx10
                  try simp only [Act.put, List.setIfInBounds_toArray, List.set_cons_zero, List.set_cons_succ]
                  refine hK.out _ _ ?_ (fun hNew => ?_)
                  · exact hS10
                  clear hHeld hK K
                  have hHeld := hNew
                  clear hNew
                  refine ready_u (i := 8) (by kernel_rfl) rfl (by kernel_rfl) (fun K hK => ?_)
                  go_simp
                  go_wp2_with (fail)
                  refine hK.out _ _ ?_ (fun hNew => ?_)
                  · exact hHeld
                  clear hHeld hK K
                  have hHeld := hNew
                  clear hNew
                  refine take_u (i := 9) (v := ?_) [10] rfl (by kernel_rfl) (by kernel_rfl) (by kernel_rfl) (by kernel_rfl) (by kernel_rfl) (by kernel_rfl) (by kernel_rfl) (fun _ _ _ h => h) (Or.inl ⟨by rfl, ?_⟩) hHeld ?_
                  rotate_left
                  · (intro wS hSw; (try dsimp only at hSw); go_simp; (try with_reducible rfl))
                  try simp only [Act.put, List.setIfInBounds_toArray, List.set_cons_zero, List.set_cons_succ]
                  refine end_u (by kernel_rfl) rfl (fun K hK => ?_)
                  go_simp
                  refine hK.out _ _ ?_
                  clear hHeld hK K
                  refine wpAny_of_held (S := fun _ => True) _ _ _ _ ?_
                  refine wpAnyH_done (by kernel_rfl) ?_ _
                  go_wp2_with fail
                  go_meet
                  exact Lib.hid ⟨_, HR11.out, HXM11.out, HX1111.out⟩
              case rest =>
              obtain ⟨u19, hc1, hc2, hc3⟩ := hcut.out
              have HR12 := Lib.hid hc1
              have HXM12 := Lib.hid hc2
              have HX1112 := Lib.hid hc3
              clear hc1 hc2 hc3 hcut HR8 HXM8 HX108 HX118
              generalize wc = w12 at *
              go_upto_region 20 with fail
              obtain ⟨As, cs, hus, -, -, -⟩ := own_row sizC_one HR12.out.s
              rw [List.length_map, HKL.out] at hus
              subst hus
  
              clear HO HQ HD HQB HY HPN HYL HOB HSK HMANY
              have hcv : IntKind.u64.wrap (dn : Int) = (dn : Int) := IntWalk.u64_in _ (by omega)
              have KS := Lib.hid (fun (W : World) (hB : Box W g 56 #[u19, .slice As k cs, .slice none 0 0]) (hX : Box W X11 70 #[.string ⟨v0⟩, .int .i64 v1, .int .u64 (fl : Int), .int .u64 (v3 : Int), .slice xA dn xC, .int .i64 v5, .int .i64 v6, .int .i64 v7, .int .i64 v8]) => (⟨(three_cellsL hB).2.1, (nine_cellsN hX).2.2.2.2.1⟩ : W.cell? ⟨g, 1, none⟩ = some (.slice As k cs) ∧ W.cell? ⟨X11, 4, none⟩ = some (.slice xA dn xC)))
              have hA9 : Below w12.heap.size w12 ((w12.alloc (.cells #[.int .u64 (dn : Int)] 41)).drew) := below_drewN ((Below.refl w12.heap.size w12).alloc (Nat.le_refl _) _) 1
              have HR9 := Lib.hid (HR12.out.below hA9)
              have HXM9 := Lib.hid (HXM12.out.below hA9 HXM12.out.lt)
              have HX119 := Lib.hid (HX1112.out.below hA9 HX1112.out.lt)
              have HN9 := Lib.hid (fun (jj : Nat) (u : Value) (h : ([.int .u64 (dn : Int)] : List Value)[jj]? = some u) => (cells_newU w12 [.int .u64 (dn : Int)] 41 jj u h : World.cell? ((w12.alloc (.cells #[.int .u64 (dn : Int)] 41)).drew) ((⟨w12.heap.size, 0, none⟩ : Addr).add jj) = some u))
              have HO9 := Lib.hid (show World.ownsRow ((w12.alloc (.cells #[.int .u64 (dn : Int)] 41)).drew) w.heap.size 41 1 (.slice As k cs) k (cellsF sizC ((P.take k).map (sizK O))) from by have := HR9.out.s; rwa [List.length_map, HKL.out] at this)
              have hsz : w.heap.size ≤ (World.heap ((w12.alloc (.cells #[.int .u64 (dn : Int)] 41)).drew)).size := HR9.out.b.size
              have h63 : k + 1 ≤ maxLen := by unfold maxLen; omega
              have hby : (k + 1) * 8 ≤ 140737488355328 := by omega
              refine region_any (by kernel_rfl) ?_
              refine wpAny_of_until (S := fun W => W.cell? ⟨g, 1, none⟩ = some (.slice As k cs) ∧ W.cell? ⟨X11, 4, none⟩ = some (.slice xA dn xC)) (p := 13) _ _ _ _ ?_
              have hHeld := KS.out _ (HR12.out.drewN 1).box (HX1112.out.drewN 1)
              refine take_u (i := 0) (v := ?_) [11, 12, 13] rfl (by kernel_rfl) (by kernel_rfl) (by kernel_rfl) (by kernel_rfl) (by kernel_rfl) (by kernel_rfl) (by kernel_rfl) (fun _ _ _ h => h) (Or.inl ⟨by rfl, ?_⟩) hHeld ?_
              rotate_left
              · (intro wS hSw; (try dsimp only at hSw); go_simp; (try with_reducible rfl))
              try simp only [Act.put, List.setIfInBounds_toArray, List.set_cons_zero, List.set_cons_succ]
              refine take_u (i := 1) (v := ?_) [2, 3, 4, 10, 13] rfl (by kernel_rfl) (by kernel_rfl) (by kernel_rfl) (by kernel_rfl) (by kernel_rfl) (by kernel_rfl) (by kernel_rfl) (fun _ _ _ h => h) (Or.inl ⟨by rfl, ?_⟩) hHeld ?_
              rotate_left
              · (intro wS hSw; (try dsimp only at hSw); go_simp; (try with_reducible rfl))
              try simp only [Act.put, List.setIfInBounds_toArray, List.set_cons_zero, List.set_cons_succ]
              refine take_u (i := 2) (v := ?_) [3, 4, 10, 13] rfl (by kernel_rfl) (by kernel_rfl) (by kernel_rfl) (by kernel_rfl) (by kernel_rfl) (by kernel_rfl) (by kernel_rfl) (fun _ _ _ h => h) (Or.inl ⟨by rfl, ?_⟩) hHeld ?_
              rotate_left
              · (intro wS hSw; (try dsimp only at hSw); go_simp; (try with_reducible rfl))
              try simp only [Act.put, List.setIfInBounds_toArray, List.set_cons_zero, List.set_cons_succ]
              refine take_u (i := 3) (v := ?_) [4, 10, 13] rfl (by kernel_rfl) (by kernel_rfl) (by kernel_rfl) (by kernel_rfl) (by kernel_rfl) (by kernel_rfl) (by kernel_rfl) (fun _ _ _ h => h) (Or.inl ⟨by rfl, ?_⟩) hHeld ?_
              rotate_left
              · (intro wS hSw; (try dsimp only at hSw); go_simp; (try with_reducible rfl))
              try simp only [Act.put, List.setIfInBounds_toArray, List.set_cons_zero, List.set_cons_succ]
              refine take_u (i := 4) (v := ?_) [10, 13] rfl (by kernel_rfl) (by kernel_rfl) (by kernel_rfl) (by kernel_rfl) (by kernel_rfl) (by kernel_rfl) (by kernel_rfl) (fun _ _ _ h => h) (Or.inl ⟨by rfl, ?_⟩) hHeld ?_
              rotate_left
              · (intro wS hSw; (try dsimp only at hSw); go_simp; (try with_reducible rfl))
              try simp only [Act.put, List.setIfInBounds_toArray, List.set_cons_zero, List.set_cons_succ]
              refine take_u (i := 5) (v := ?_) [6, 7, 8, 9, 10, 13] rfl (by kernel_rfl) (by kernel_rfl) (by kernel_rfl) (by kernel_rfl) (by kernel_rfl) (by kernel_rfl) (by kernel_rfl) (fun _ _ _ h => h) (Or.inl ⟨by rfl, ?_⟩) hHeld ?_
              rotate_left
              · (intro wS hSw; (try dsimp only at hSw); go_simp; (try with_reducible rfl))
              try simp only [Act.put, List.setIfInBounds_toArray, List.set_cons_zero, List.set_cons_succ]
              refine take_u (i := 6) (v := ?_) [7, 8, 9, 10, 13] rfl (by kernel_rfl) (by kernel_rfl) (by kernel_rfl) (by kernel_rfl) (by kernel_rfl) (by kernel_rfl) (by kernel_rfl) (fun _ _ _ h => h) (Or.inl ⟨by rfl, ?_⟩) hHeld ?_
              rotate_left
              · (intro wS hSw; (try dsimp only at hSw); go_simp; (try with_reducible rfl))
              try simp only [Act.put, List.setIfInBounds_toArray, List.set_cons_zero, List.set_cons_succ]
              refine take_u (i := 7) (v := ?_) [8, 9, 10, 13] rfl (by kernel_rfl) (by kernel_rfl) (by kernel_rfl) (by kernel_rfl) (by kernel_rfl) (by kernel_rfl) (by kernel_rfl) (fun _ _ _ h => h) (Or.inl ⟨by rfl, ?_⟩) hHeld ?_
              rotate_left
              · (intro wS hSw; (try dsimp only at hSw); go_simp; (try with_reducible rfl))
              try simp only [Act.put, List.setIfInBounds_toArray, List.set_cons_zero, List.set_cons_succ]
              refine take_u (i := 8) (v := ?_) [9, 10, 13] rfl (by kernel_rfl) (by kernel_rfl) (by kernel_rfl) (by kernel_rfl) (by kernel_rfl) (by kernel_rfl) (by kernel_rfl) (fun _ _ _ h => h) (Or.inl ⟨by rfl, ?_⟩) hHeld ?_
              rotate_left
              · (intro wS hSw; (try dsimp only at hSw); go_simp; (try with_reducible rfl))
              try simp only [Act.put, List.setIfInBounds_toArray, List.set_cons_zero, List.set_cons_succ]
              refine ready_u (i := 9) (by kernel_rfl) rfl (by kernel_rfl) (fun K hK => ?_)
              go_simp
              go_wp2_with (fail)
              refine hK.out _ _ ?_ (fun hNew => ?_)
              · exact KS.out _ HR9.out.box HX119.out
              clear hHeld hK K
              have hHeld := hNew
              clear hNew
              refine ready_u (i := 10) (by kernel_rfl) rfl (by kernel_rfl) (fun K hK => ?_)
              refine step_append_lies _ (by rfl) (.tmp 163) (.tmp 168) _ (by rfl) w.heap.size 41 i2 _ 1 8 Tryd.underlying28 hk1 hz0 hz1 hz2 (by rfl) (by decide) (.slice As k cs) k (cellsF sizC ((P.take k).map (sizK O))) (by rfl) (by exact HO9.out) ⟨w12.heap.size, 0, none⟩ 1 1 [.int .u64 (dn : Int)] (by rfl) rfl HN9.out (by simp [Value.oneCell']) (by decide) h63 hby (by exact hsz) _ rfl ?_; intro g10 cap10 w10 hown10 hg10 hat10 hlt10; obtain ⟨hb10, hr10⟩ := HR9.out.size_ (n := dn) hg10 (by rw [List.length_map, HKL.out]; exact hown10); have HR11 := Lib.hid hr10; have hx10 := HX119.out.grown hg10 (blk_neL HX119.out HO9.out (by decide)); have HXM11 := Lib.hid (box_stay (n := 1) (u' := .slice (some ⟨g10, 0, none⟩) (k + 1) cap10) HXM9.out hg10 (blk_neL HXM9.out HO9.out (by decide)) (HXM9.out.other HR9.out.box (by decide))); have z10 := (three_cellsL hb10).2.1; have f10 := (three_freeL hb10).2.1; have hS10 := KS.out _ hb10 hx10; clear hown10 hg10 hat10 hlt10 hr10 hb10 hx10
              try simp only [Act.put, List.setIfInBounds_toArray, List.set_cons_zero, List.set_cons_succ]
              refine hK.out _ _ ?_ (fun hNew => ?_)
              · exact hS10
              clear hHeld hK K
              have hHeld := hNew
              clear hNew
              refine ready_u (i := 11) (by kernel_rfl) rfl (by kernel_rfl) (fun K hK => ?_)
              go_simp
              go_wp2_with (fail)
              refine hK.out _ _ ?_ (fun hNew => ?_)
              · exact hHeld
              clear hHeld hK K
              have hHeld := hNew
              clear hNew
              refine take_u (i := 12) (v := ?_) [13] rfl (by kernel_rfl) (by kernel_rfl) (by kernel_rfl) (by kernel_rfl) (by kernel_rfl) (by kernel_rfl) (by kernel_rfl) (fun _ _ _ h => h) (Or.inl ⟨by rfl, ?_⟩) hHeld ?_
              rotate_left
              · (intro wS hSw; (try dsimp only at hSw); go_simp; (try with_reducible rfl))
              try simp only [Act.put, List.setIfInBounds_toArray, List.set_cons_zero, List.set_cons_succ]
              refine end_u (by kernel_rfl) rfl (fun K hK => ?_)
              go_simp
              refine hK.out _ _ ?_
              clear hHeld hK K
              refine wpAny_of_held (S := fun _ => True) _ _ _ _ ?_
              refine wpAnyH_done (by kernel_rfl) ?_ _
              have HTKP := Lib.hid (show P.take (k + 1) = P.take k ++ [p] by rw [List.take_add_one, HPK.out]; rfl)
              have HTKS := Lib.hid (show (P.take (k + 1)).map (sizK O) = (P.take k).map (sizK O) ++ [dn] by rw [HTKP.out, List.map_append, List.map_cons, List.map_nil, HSZ.out])
              rw [← HTKP.out, ← HTKS.out] at HR11
              clear z10 f10 hS10
              go_wp2_with fail
              go_roundg (N - (k + 1))
              case measure => have := HLT.out; omega
              case rel => exact ⟨k + 1, _, _, HLT.out, rfl, rfl, HGD2, HR11, HXM11⟩
      · as_aux_lemma =>
          have HBAD := Lib.hid (HNOT.out (by rw [HGD.out]; simp))
          go_wp2_with (go_at_call 30; refine (HAL.out w5).mono ?_; rintro r w6 ⟨rfl, hB6⟩; have HR6 := Lib.hid (HR5.out.below hB6); have HXM6 := Lib.hid (HXM5.out.below hB6 HXM5.out.lt); have HX106 := Lib.hid (HX105.out.below hB6 HX105.out.lt); have HX116 := Lib.hid (HX115.out.below hB6 HX115.out.lt); have k3 := (three_cellsL HX106.out).2.2; have k4 := (nine_cellsN HX116.out).2.2.2.2.1; clear hB6)
          go_ret2
          exact ⟨HR6.out.b, _, _, rfl, .inl ⟨HBAD.out, rfl, rfl⟩⟩
    · as_aux_lemma =>
        have hkN : k = N := by omega
        have d : decide ((k : Int) < (N : Int)) = false := by simp; omega
        have d' : decide (k < N) = false := by simpa using hlt
        have HGP2 := Lib.hid (show goodPs O Q P P.length = true by rw [HN.out, ← hkN]; exact HGP.out)
        have HRA := Lib.hid (show RNew w wr g uP uS (.slice none 0 0) P (P.map (sizK O)) (Y.take 0) from by
          have := HR.out
          rw [List.take_of_length_le (by rw [HN.out]; omega)] at this
          exact this)
        clear HR HGP hkN hlt
        go_upto_region 22 with fail
        clear d d' m0 m1
        generalize wr = w14 at *
        go_loopg [14] M (fun gk vi wr => ∃ (t : Nat) (uY : Value), t ≤ M ∧ gk = M - t ∧ vi = .int .i64 t ∧ Hid (goodYs Y t = true) ∧ Hid (RNew w wr g uP uS uY P (P.map (sizK O)) (Y.take t)) ∧ Hid (Box wr X3 25 #[.slice aP N cP, .slice aY M cY]))
        case atStart => exact ⟨0, _, Nat.zero_le _, rfl, rfl, Lib.hid rfl, HRA, HXM⟩
        case round =>
          obtain ⟨t, uY, ht, rfl, rfl, HGY, HR, HXM3⟩ := hrel
          clear HRA HXM
          have m1 := HXM3.out.cell 1
          simp at m1
          by_cases hlt : t < M
          · have HLT := Lib.hid hlt
            have d : decide ((t : Int) < (M : Int)) = true := by simp; omega
            have d' : decide (t < M) = true := by simpa using hlt
            obtain ⟨y, hy⟩ : ∃ y, Y[t]? = some y := ⟨Y[t]'(by rw [HM.out]; exact hlt), List.getElem?_eq_getElem _⟩
            obtain ⟨b2, o2, haY, -, -, -⟩ := named_at HY.out hy
            subst haY
            have HNC := Lib.hid (fun (W : World) (hW : Below w.heap.size w W) (m : Nat) (z : Named) (hz : Y[m]? = some z) => (by
              obtain ⟨b', oo', e, -, h1, h2⟩ := named_at (HY.out.below hW) hz
              injection e with e
              injection e with e1 e2
              subst e1 e2
              exact ⟨h1, h2⟩ : W.cell? ⟨b2, o2 + m * 2, none⟩ = some (.string ⟨z.name.toArray⟩) ∧ W.cell? ⟨b2, o2 + m * 2 + 1, none⟩ = some (.int .u64 (z.addr : Int))))
            have hnl := HYL.out y (List.mem_of_getElem? hy)
            obtain ⟨nm, hnm⟩ : ∃ v, y.name = v := ⟨_, rfl⟩
            obtain ⟨ya, hya⟩ : ∃ v, y.addr = v := ⟨_, rfl⟩
            rw [hnm] at hnl
            have hR := fun W => rright_any nm W (by omega)
            have hie : (ByteArray.mk nm.toArray).toList.isEmpty = decide (nm = []) := by rw [Lib.toList_data]; cases nm <;> simp
            obtain ⟨bb, hbb⟩ : ∃ v, ByteArray.mk nm.toArray = v := ⟨_, rfl⟩
            have HNY := Lib.hid (fun (W : World) (hW : Below w.heap.size w W) => (by have := HNC.out W hW t y hy; rwa [hnm, hya, hbb] at this : W.cell? ⟨b2, o2 + t * 2, none⟩ = some (.string bb) ∧ W.cell? ⟨b2, o2 + t * 2 + 1, none⟩ = some (.int .u64 (ya : Int))))
            have HYC3 := Lib.hid (show y.cells = [.string bb, .int .u64 (ya : Int)] by unfold Named.cells; rw [hnm, hya, hbb])
            have HGE := Lib.hid (show goodY (Y.take t) y = ((!nm.isEmpty && rightT nm) && (nameK (Y.take t) nm).isNone) by unfold goodY goodN; rw [hnm])
            have HBB := Lib.hid hbb
            have HYK := Lib.hid hy
            have HNOT := Lib.hid (fun (hg : goodY (Y.take t) y = false) => ref_name (O := O) (Q := Q) (P := P) hy hg)
            rw [hbb] at hR hie
            obtain ⟨n1, n2⟩ := HNY.out wr HR.out.b
            clear hy hnm hya hbb
            by_cases he : nm = []
            · as_aux_lemma =>
                have HBAD := Lib.hid (HNOT.out (by rw [HGE.out, he]; rfl))
                rw [decide_eq_true he] at hie
                clear he
                go_wp2_with fail
                go_ret2
                exact ⟨HR.out.b, _, _, rfl, .inl ⟨HBAD.out, rfl, rfl⟩⟩
            have HEM := Lib.hid (show nm.isEmpty = false by cases nm with | nil => exact absurd rfl he | cons x l => rfl)
            rw [decide_eq_false he] at hie
            clear he
            generalize rightT nm = rt at *
            cases rt
            · as_aux_lemma =>
                have HBAD := Lib.hid (HNOT.out (by rw [HGE.out]; simp))
                go_wp2_with (go_at_call 31; refine (hR _).mono ?_; rintro r w15 ⟨rfl, rfl⟩)
                go_ret2
                exact ⟨HR.out.b, _, _, rfl, .inl ⟨HBAD.out, rfl, rfl⟩⟩
            go_upto_region 27 with (go_at_call 31; refine (hR _).mono ?_; rintro r w15 ⟨rfl, rfl⟩)
            have HGE2 := Lib.hid (show goodY (Y.take t) y = (nameK (Y.take t) nm).isNone by rw [HGE.out, HEM.out]; simp)
            clear n1 n2 hR hie m1 HGE HEM
            generalize wr = w15 at *
            go_loopg [15] t (fun gk vi wr => ∃ (m : Nat), m ≤ t ∧ gk = t - m ∧ vi = .int .i64 m ∧ Hid (∃ q, wr = w15.drewN q) ∧ Hid ((Y.take m).all (fun z => !(decide (z.name = nm))) = true))
            case atStart => exact ⟨0, Nat.zero_le _, rfl, rfl, Lib.hid ⟨0, rfl⟩, Lib.hid rfl⟩
            case round =>
              obtain ⟨m, hm, rfl, rfl, HWQ, HAL2⟩ := hrel
              have HR7 := Lib.hid (show RNew w wr g uP uS uY P (P.map (sizK O)) (Y.take t) from by obtain ⟨q, rfl⟩ := HWQ.out; exact HR.out.drewN q)
              have HXM7 := Lib.hid (show Box wr X3 25 #[.slice aP N cP, .slice (some ⟨b2, o2, none⟩) M cY] from by obtain ⟨q, rfl⟩ := HWQ.out; exact HXM3.out)
              have m1 := HXM7.out.cell 1
              simp at m1
              by_cases hlm : m < t
              · have HLM := Lib.hid hlm
                obtain ⟨z, hz⟩ : ∃ z, Y[m]? = some z := ⟨Y[m]'(by rw [HM.out]; omega), List.getElem?_eq_getElem _⟩
                obtain ⟨z1, z2⟩ := HNC.out wr HR7.out.b m z hz
                obtain ⟨n1, n2⟩ := HNY.out wr HR7.out.b
                have dm : decide ((m : Int) < (t : Int)) = true := by simp; omega
                have dm' : decide (m < t) = true := by simpa using hlm
                have hmM : m < M := by omega
                obtain ⟨zn, hzn⟩ : ∃ v, z.name = v := ⟨_, rfl⟩
                rw [hzn] at z1
                have hq := str_eq zn nm
                rw [HBB.out] at hq
                have HTK := Lib.hid (show Y.take (m + 1) = Y.take m ++ [z] by rw [List.take_add_one, hz]; rfl)
                have HZ := Lib.hid hz
                have HZN := Lib.hid hzn
                clear z2 n2 hz hzn
                generalize ByteArray.mk zn.toArray = zb at *
                go_upto_region 29 with fail
                by_cases e1 : zn = nm
                · as_aux_lemma =>
                    have HBAD := Lib.hid (HNOT.out (by rw [HGE2.out]; exact nameK_dup HLM.out HZ.out (by rw [HZN.out, e1])))
                    rw [decide_eq_true e1] at hq
                    clear e1
                    go_quiet (fail)
                    go_wp2_with fail
                    (try rw [Exit.noGoto_ret])
                    go_ret2
                    exact ⟨below_drewN HR7.out.b _, _, _, rfl, .inl ⟨HBAD.out, rfl, rfl⟩⟩
                have HALN := Lib.hid (show (Y.take (m + 1)).all (fun z => !(decide (z.name = nm))) = true by rw [HTK.out, List.all_append, HAL2.out, List.all_cons, List.all_nil, HZN.out, decide_eq_false e1]; rfl)
                rw [decide_eq_false e1] at hq
                clear e1
                go_quiet (fail)
                go_wp2_with fail
                go_roundg (t - (m + 1))
                case measure => have := HLM.out; omega
                case rel => exact ⟨m + 1, HLM.out, rfl, rfl, Lib.hid (by obtain ⟨q, rfl⟩ := HWQ.out; exact ⟨_, World.drewN_drewN ..⟩), HALN⟩
              · as_aux_lemma =>
                  have hmk : m = t := by omega
                  have dm : decide ((m : Int) < (t : Int)) = false := by simp; omega
                  have dm' : decide (m < t) = false := by simpa using hlm
                  have HGY2 := Lib.hid (show goodYs Y (t + 1) = true by rw [goodYs_next HYK.out, HGY.out, HGE2.out, nameK_no (hmk ▸ HAL2.out)]; rfl)
                  clear hmk hlm HAL2
                  go_upto_region 31 with fail
                  have HKL := Lib.hid (show (Y.take t).length = t by rw [List.length_take, HM.out]; omega)
                  obtain ⟨Ay, cy, huy, -, -, -⟩ := own_row named_two HR7.out.y
                  rw [HKL.out] at huy
                  subst huy
                  clear dm dm' m1 HR HXM3 HWQ HNC HNOT HGE2 HGY HO HQ HD HQB HPN HMANY HP
                  generalize wr = w17 at *
                  have HR17 := HR7
                  have HXM17 := HXM7
                  clear HR7 HXM7
                  have KS := Lib.hid (fun (W : World) (hB : Box W g 56 #[uP, uS, .slice Ay t cy]) (hX : Box W X3 25 #[.slice aP N cP, .slice (some ⟨b2, o2, none⟩) M cY]) (hb : Below w.heap.size w W) => (⟨(three_cellsL hB).2.2, by have := hX.cell 1; simpa using this, HNY.out W hb⟩ : W.cell? ⟨g, 2, none⟩ = some (.slice Ay t cy) ∧ W.cell? ⟨X3, 1, none⟩ = some (.slice (some ⟨b2, o2, none⟩) M cY) ∧ W.cell? ⟨b2, o2 + t * 2, none⟩ = some (.string bb) ∧ W.cell? ⟨b2, o2 + t * 2 + 1, none⟩ = some (.int .u64 (ya : Int))))
                  have hA9 : Below w17.heap.size w17 ((w17.alloc (.cells #[.string bb, .int .u64 (ya : Int)] 67)).drew) := below_drewN ((Below.refl w17.heap.size w17).alloc (Nat.le_refl _) _) 1
                  have HR9 := Lib.hid (HR17.out.below hA9)
                  have HXM9 := Lib.hid (HXM17.out.below hA9 HXM17.out.lt)
                  have HN9 := Lib.hid (fun (jj : Nat) (u : Value) (h : ([.string bb, .int .u64 (ya : Int)] : List Value)[jj]? = some u) => (cells_newU w17 [.string bb, .int .u64 (ya : Int)] 67 jj u h : World.cell? ((w17.alloc (.cells #[.string bb, .int .u64 (ya : Int)] 67)).drew) ((⟨w17.heap.size, 0, none⟩ : Addr).add jj) = some u))
                  have HO9 := Lib.hid (show World.ownsRow ((w17.alloc (.cells #[.string bb, .int .u64 (ya : Int)] 67)).drew) w.heap.size 67 2 (.slice Ay t cy) t (cellsF Named.cells (Y.take t)) from by have := HR9.out.y; rwa [HKL.out] at this)
                  have hsz : w.heap.size ≤ (World.heap ((w17.alloc (.cells #[.string bb, .int .u64 (ya : Int)] 67)).drew)).size := HR9.out.b.size
                  have h63 : t + 1 ≤ maxLen := by unfold maxLen; omega
                  have hby : (t + 1) * 24 ≤ 140737488355328 := by omega
                  refine region_any (by kernel_rfl) ?_
                  refine wpAny_of_until (S := fun W => W.cell? ⟨g, 2, none⟩ = some (.slice Ay t cy) ∧ W.cell? ⟨X3, 1, none⟩ = some (.slice (some ⟨b2, o2, none⟩) M cY) ∧ W.cell? ⟨b2, o2 + t * 2, none⟩ = some (.string bb) ∧ W.cell? ⟨b2, o2 + t * 2 + 1, none⟩ = some (.int .u64 (ya : Int))) (p := 14) _ _ _ _ ?_
                  have hHeld := KS.out _ (HR17.out.drewN 1).box (HXM17.out.drewN 1) (HR17.out.drewN 1).b
                  refine take_u (i := 0) (v := ?_) [12, 13, 14] rfl (by kernel_rfl) (by kernel_rfl) (by kernel_rfl) (by kernel_rfl) (by kernel_rfl) (by kernel_rfl) (by kernel_rfl) (fun _ _ _ h => h) (Or.inl ⟨by rfl, ?_⟩) hHeld ?_
                  rotate_left
                  · (intro wS hSw; (try dsimp only at hSw); go_simp; (try with_reducible rfl))
                  try simp only [Act.put, List.setIfInBounds_toArray, List.set_cons_zero, List.set_cons_succ]
                  refine take_u (i := 1) (v := ?_) [2, 3, 4, 11, 14] rfl (by kernel_rfl) (by kernel_rfl) (by kernel_rfl) (by kernel_rfl) (by kernel_rfl) (by kernel_rfl) (by kernel_rfl) (fun _ _ _ h => h) (Or.inl ⟨by rfl, ?_⟩) hHeld ?_
                  rotate_left
                  · (intro wS hSw; (try dsimp only at hSw); go_simp; (try with_reducible rfl))
                  try simp only [Act.put, List.setIfInBounds_toArray, List.set_cons_zero, List.set_cons_succ]
                  refine take_u (i := 2) (v := ?_) [3, 4, 11, 14] rfl (by kernel_rfl) (by kernel_rfl) (by kernel_rfl) (by kernel_rfl) (by kernel_rfl) (by kernel_rfl) (by kernel_rfl) (fun _ _ _ h => h) (Or.inl ⟨by rfl, ?_⟩) hHeld ?_
                  rotate_left
                  · (intro wS hSw; (try dsimp only at hSw); go_simp; (try with_reducible rfl))
                  try simp only [Act.put, List.setIfInBounds_toArray, List.set_cons_zero, List.set_cons_succ]
                  refine take_u (i := 3) (v := ?_) [4, 11, 14] rfl (by kernel_rfl) (by kernel_rfl) (by kernel_rfl) (by kernel_rfl) (by kernel_rfl) (by kernel_rfl) (by kernel_rfl) (fun _ _ _ h => h) (Or.inl ⟨by rfl, ?_⟩) hHeld ?_
                  rotate_left
                  · (intro wS hSw; (try dsimp only at hSw); go_simp; (try with_reducible rfl))
                  try simp only [Act.put, List.setIfInBounds_toArray, List.set_cons_zero, List.set_cons_succ]
                  refine take_u (i := 4) (v := ?_) [11, 14] rfl (by kernel_rfl) (by kernel_rfl) (by kernel_rfl) (by kernel_rfl) (by kernel_rfl) (by kernel_rfl) (by kernel_rfl) (fun _ _ _ h => h) (Or.inl ⟨by rfl, ?_⟩) hHeld ?_
                  rotate_left
                  · (intro wS hSw; (try dsimp only at hSw); go_simp; (try with_reducible rfl))
                  try simp only [Act.put, List.setIfInBounds_toArray, List.set_cons_zero, List.set_cons_succ]
                  refine take_u (i := 5) (v := ?_) [6, 8, 9, 10, 11, 14] rfl (by kernel_rfl) (by kernel_rfl) (by kernel_rfl) (by kernel_rfl) (by kernel_rfl) (by kernel_rfl) (by kernel_rfl) (fun _ _ _ h => h) (Or.inl ⟨by rfl, ?_⟩) hHeld ?_
                  rotate_left
                  · (intro wS hSw; (try dsimp only at hSw); go_simp; (try with_reducible rfl))
                  try simp only [Act.put, List.setIfInBounds_toArray, List.set_cons_zero, List.set_cons_succ]
                  refine take_u (i := 6) (v := ?_) [8, 9, 10, 11, 14] rfl (by kernel_rfl) (by kernel_rfl) (by kernel_rfl) (by kernel_rfl) (by kernel_rfl) (by kernel_rfl) (by kernel_rfl) (fun _ _ _ h => h) (Or.inl ⟨by rfl, ?_⟩) hHeld ?_
                  rotate_left
                  · (intro wS hSw; (try dsimp only at hSw); go_simp; (try with_reducible rfl))
                  try simp only [Act.put, List.setIfInBounds_toArray, List.set_cons_zero, List.set_cons_succ]
                  refine take_u (i := 7) (v := ?_) [8, 9, 10, 11, 14] rfl (by kernel_rfl) (by kernel_rfl) (by kernel_rfl) (by kernel_rfl) (by kernel_rfl) (by kernel_rfl) (by kernel_rfl) (fun _ _ _ h => h) (Or.inl ⟨by rfl, ?_⟩) hHeld ?_
                  rotate_left
                  · (intro wS hSw; (try dsimp only at hSw); go_simp; (try with_reducible rfl))
                  try simp only [Act.put, List.setIfInBounds_toArray, List.set_cons_zero, List.set_cons_succ]
                  refine take_u (i := 8) (v := ?_) [9, 10, 11, 14] rfl (by kernel_rfl) (by kernel_rfl) (by kernel_rfl) (by kernel_rfl) (by kernel_rfl) (by kernel_rfl) (by kernel_rfl) (fun _ _ _ h => h) (Or.inl ⟨by rfl, ?_⟩) hHeld ?_
                  rotate_left
                  · (intro wS hSw; (try dsimp only at hSw); go_simp; (try with_reducible rfl))
                  try simp only [Act.put, List.setIfInBounds_toArray, List.set_cons_zero, List.set_cons_succ]
                  refine take_u (i := 9) (v := ?_) [10, 11, 14] rfl (by kernel_rfl) (by kernel_rfl) (by kernel_rfl) (by kernel_rfl) (by kernel_rfl) (by kernel_rfl) (by kernel_rfl) (fun _ _ _ h => h) (Or.inl ⟨by rfl, ?_⟩) hHeld ?_
                  rotate_left
                  · (intro wS hSw; (try dsimp only at hSw); go_simp; (try with_reducible rfl))
                  try simp only [Act.put, List.setIfInBounds_toArray, List.set_cons_zero, List.set_cons_succ]
                  refine ready_u (i := 10) (by kernel_rfl) rfl (by kernel_rfl) (fun K hK => ?_)
                  go_simp
                  go_wp2_with (fail)
                  refine hK.out _ _ ?_ (fun hNew => ?_)
                  · exact KS.out _ HR9.out.box HXM9.out HR9.out.b
                  clear hHeld hK K
                  have hHeld := hNew
                  clear hNew
                  refine ready_u (i := 11) (by kernel_rfl) rfl (by kernel_rfl) (fun K hK => ?_)
                  refine step_append_lies _ (by rfl) (.tmp 218) (.tmp 224) _ (by rfl) w.heap.size 67 i3 _ 2 24 Tryd.underlying23 hm1 hx0 hx1 hx2 (by rfl) (by decide) (.slice Ay t cy) t (cellsF Named.cells (Y.take t)) (by rfl) (by exact HO9.out) ⟨w17.heap.size, 0, none⟩ 1 1 [.string bb, .int .u64 (ya : Int)] (by rfl) rfl HN9.out (by simp [Value.oneCell']) (by decide) h63 hby (by exact hsz) _ rfl ?_; intro g10 cap10 w10 hown10 hg10 hat10 hlt10; obtain ⟨hb10, hr10⟩ := HR9.out.named (y := y) hg10 (by rw [HKL.out, HYC3.out]; exact hown10); have HR11 := Lib.hid hr10; have hx10 := HXM9.out.grown hg10 (blk_neL HXM9.out HO9.out (by decide)); have HXM11 := Lib.hid (box_stay (n := 2) (u' := .slice (some ⟨g10, 0, none⟩) (t + 1) cap10) HXM9.out hg10 (blk_neL HXM9.out HO9.out (by decide)) (HXM9.out.other HR9.out.box (by decide))); have z10 := (three_cellsL hb10).2.2; have f10 := (three_freeL hb10).2.2; have hS10 := KS.out _ hb10 hx10 (HR9.out.b.grown hg10 HR9.out.b.size (fun x hx => (HO9.out.lt x hx).1)); clear hown10 hg10 hat10 hlt10 hr10 hb10 hx10
                  try simp only [Act.put, List.setIfInBounds_toArray, List.set_cons_zero, List.set_cons_succ]
                  refine hK.out _ _ ?_ (fun hNew => ?_)
                  · exact hS10
                  clear hHeld hK K
                  have hHeld := hNew
                  clear hNew
                  refine ready_u (i := 12) (by kernel_rfl) rfl (by kernel_rfl) (fun K hK => ?_)
                  go_simp
                  go_wp2_with (fail)
                  refine hK.out _ _ ?_ (fun hNew => ?_)
                  · exact hHeld
                  clear hHeld hK K
                  have hHeld := hNew
                  clear hNew
                  refine take_u (i := 13) (v := ?_) [14] rfl (by kernel_rfl) (by kernel_rfl) (by kernel_rfl) (by kernel_rfl) (by kernel_rfl) (by kernel_rfl) (by kernel_rfl) (fun _ _ _ h => h) (Or.inl ⟨by rfl, ?_⟩) hHeld ?_
                  rotate_left
                  · (intro wS hSw; (try dsimp only at hSw); go_simp; (try with_reducible rfl))
                  try simp only [Act.put, List.setIfInBounds_toArray, List.set_cons_zero, List.set_cons_succ]
                  refine end_u (by kernel_rfl) rfl (fun K hK => ?_)
                  go_simp
                  refine hK.out _ _ ?_
                  clear hHeld hK K
                  refine wpAny_of_held (S := fun _ => True) _ _ _ _ ?_
                  refine wpAnyH_done (by kernel_rfl) ?_ _
                  have HTKY := Lib.hid (show Y.take (t + 1) = Y.take t ++ [y] by rw [List.take_add_one, HYK.out]; rfl)
                  rw [← HTKY.out] at HR11
                  clear z10 f10 hS10
                  go_wp2_with fail
                  go_roundg (M - (t + 1))
                  case measure => have := HLT.out; omega
                  case rel => exact ⟨t + 1, _, HLT.out, rfl, rfl, HGY2, HR11, HXM11⟩
          · as_aux_lemma =>
              have htM : t = M := by omega
              have d : decide ((t : Int) < (M : Int)) = false := by simp; omega
              have d' : decide (t < M) = false := by simpa using hlt
              have HGYA := Lib.hid (show goodYs Y Y.length = true by rw [HM.out, ← htM]; exact HGY.out)
              have HREF := Lib.hid (show refM O Q P Y = false from ref_not HMANY.out HGP2.out HGYA.out)
              have HRA := Lib.hid (show RNew w wr g uP uS uY P (P.map (sizK O)) Y from by
                have := HR.out
                rwa [List.take_of_length_le (by rw [HM.out]; omega)] at this)
              have HBND := Lib.hid (fun i p (hp : P[i]? = some p) => good_bound (O := O) (Q := Q) (i := i) HGP2.out hp)
              obtain ⟨A1, c1, h1, -, -, hr1⟩ := own_row place_three HRA.out.p
              obtain ⟨A2, c2, h2, -, -, hr2⟩ := own_row sizC_one HRA.out.s
              rw [HN.out] at h1
              rw [List.length_map, HN.out] at h2
              subst h1
              subst h2
              have HROW1 := Lib.hid hr1
              have HROW2 := Lib.hid hr2
              clear HR HGY htM hlt hr1 hr2 HO HQ HD HQB HPN HMANY HP HY HYL HGP2 HGYA
              go_upto_region 33 with fail
              clear d d' m1 HXM3
              generalize wr = w20 at *
              go_loopg [16] N (fun gk vi wr => ∃ (n : Nat), n ≤ N ∧ gk = N - n ∧ vi = .int .i64 n ∧ Hid (∃ q, wr = w20.drewN q) ∧ Hid (∀ (i m : Nat) (p q : Place), i < n → m < i → P[i]? = some p → P[m]? = some q → clashR O p q = false))
              case atStart => exact ⟨0, Nat.zero_le _, rfl, rfl, Lib.hid ⟨0, rfl⟩, Lib.hid (fun i m p q h => absurd h (Nat.not_lt_zero _))⟩
              case round =>
                obtain ⟨n, hn, rfl, rfl, HWQ, HAL⟩ := hrel
                have HB7 := Lib.hid (show Below w20.heap.size w20 wr from by obtain ⟨q, rfl⟩ := HWQ.out; exact below_drewN (Below.refl _ _) q)
                have HR7 := Lib.hid (HRA.out.below HB7.out)
                obtain ⟨g0, g1, -⟩ := three_cellsL HR7.out.box
                by_cases hlt : n < N
                · have HLT := Lib.hid hlt
                  have d : decide ((n : Int) < (N : Int)) = true := by simp; omega
                  have d' : decide (n < N) = true := by simpa using hlt
                  obtain ⟨p, hp⟩ : ∃ p, P[n]? = some p := ⟨P[n]'(by rw [HN.out]; exact hlt), List.getElem?_eq_getElem _⟩
                  have HPK := Lib.hid hp
                  obtain ⟨bP, oP, hA1, -, -, -, -⟩ := place_at HROW1.out hp
                  obtain ⟨bS, oS, hA2, hbS, hcs⟩ := HROW2.out (by rw [List.length_map, HN.out]; omega)
                  subst hA1
                  subst hA2
                  have HPP := Lib.hid (fun (W : World) (hW : Below w20.heap.size w20 W) (m : Nat) (z : Place) (hz : P[m]? = some z) => (by
                    obtain ⟨b', oo', e, -, -, -, h3⟩ := place_at (HROW1.out.below hW) hz
                    injection e with e
                    injection e with e1 e2
                    subst e1 e2
                    exact h3 : W.cell? ⟨bP, oP + m * 3 + 2, none⟩ = some (.int .u64 (z.addr : Int))))
                  have HSS := Lib.hid (fun (W : World) (hW : Below w20.heap.size w20 W) (m : Nat) (z : Place) (hz : P[m]? = some z) => (by
                    have h3 := hcs m (sizK O z) (by rw [List.getElem?_map, hz]; rfl) 0 _ rfl
                    rw [Nat.mul_one, Nat.add_zero] at h3
                    exact (hW.cell (p := ⟨bS, oS + m, none⟩) hbS).trans h3 : W.cell? ⟨bS, oS + m, none⟩ = some (.int .u64 (sizK O z : Int))))
                  obtain ⟨pa, hpa⟩ : ∃ v, p.addr = v := ⟨_, rfl⟩
                  obtain ⟨sp, hsp⟩ : ∃ v, sizK O p = v := ⟨_, rfl⟩
                  have HPA := Lib.hid hpa
                  have HSP := Lib.hid hsp
                  have hbp := HBND.out n p hp
                  rw [hpa, hsp] at hbp
                  clear hcs hp hpa hsp
                  go_upto_region 36 with fail
                  go_loopg [17] n (fun gk vi wr => ∃ (m : Nat), m ≤ n ∧ gk = n - m ∧ vi = .int .i64 m ∧ Hid (∃ q, wr = w20.drewN q) ∧ Hid (∀ (m' : Nat) (q : Place), m' < m → P[m']? = some q → clashR O p q = false))
                  case atStart => exact ⟨0, Nat.zero_le _, rfl, rfl, HWQ, Lib.hid (fun m q h => absurd h (Nat.not_lt_zero _))⟩
                  case round =>
                    obtain ⟨m, hm, rfl, rfl, HWR, HAL3⟩ := hrel
                    have HB8 := Lib.hid (show Below w20.heap.size w20 wr from by obtain ⟨q, rfl⟩ := HWR.out; exact below_drewN (Below.refl _ _) q)
                    have HR8 := Lib.hid (HRA.out.below HB8.out)
                    obtain ⟨k0, k1, -⟩ := three_cellsL HR8.out.box
                    by_cases hlm : m < n
                    · have HLM := Lib.hid hlm
                      have dm : decide ((m : Int) < (n : Int)) = true := by simp; omega
                      have dm' : decide (m < n) = true := by simpa using hlm
                      have hmN : m < N := by omega
                      obtain ⟨q, hq⟩ : ∃ q, P[m]? = some q := ⟨P[m]'(by rw [HN.out]; exact hmN), List.getElem?_eq_getElem _⟩
                      have HQK := Lib.hid hq
                      have y1 := HPP.out wr HB8.out n p HPK.out
                      have y2 := HPP.out wr HB8.out m q hq
                      have y3 := HSS.out wr HB8.out n p HPK.out
                      have y4 := HSS.out wr HB8.out m q hq
                      obtain ⟨qa, hqa⟩ : ∃ v, q.addr = v := ⟨_, rfl⟩
                      obtain ⟨sq, hsq⟩ : ∃ v, sizK O q = v := ⟨_, rfl⟩
                      have hbq := HBND.out m q hq
                      rw [hqa, hsq] at hbq
                      rw [HPA.out] at y1
                      rw [hqa] at y2
                      rw [HSP.out] at y3
                      rw [hsq] at y4
                      obtain ⟨e1, he1⟩ : ∃ v, qa + sq = v := ⟨_, rfl⟩
                      obtain ⟨e2, he2⟩ : ∃ v, pa + sp = v := ⟨_, rfl⟩
                      have hw1 : IntKind.u64.wrap ((qa : Int) + (sq : Int)) = (e1 : Int) := by rw [IntWalk.u64_in _ (by omega)]; omega
                      have hw2 : IntKind.u64.wrap ((pa : Int) + (sp : Int)) = (e2 : Int) := by rw [IntWalk.u64_in _ (by omega)]; omega
                      have HCL := Lib.hid (show clashR O p q = (decide (pa < e1) && (decide (qa < e2) && (decide (0 < sp) && decide (0 < sq)))) by unfold clashR; rw [HPA.out, HSP.out, hqa, hsq, he1, he2])
                      have HLN := Lib.hid (fun (hc : clashR O p q = false) (m' : Nat) (q' : Place) (h : m' < m + 1) (hq' : P[m']? = some q') => (by
                        rcases Nat.lt_or_ge m' m with hh | hh
                        · exact HAL3.out m' q' hh hq'
                        · obtain rfl : m' = m := by omega
                          rw [HQK.out] at hq'
                          injection hq' with hq'
                          exact hq' ▸ hc : clashR O p q' = false))
                      clear hq hqa hsq hbq he1 he2
                      by_cases b1 : pa < e1
                      · have x1 : decide ((pa : Int) < (e1 : Int)) = true := by simp; omega
                        have x1' : decide (pa < e1) = true := by simpa using b1
                        by_cases b2 : qa < e2
                        · have x2 : decide ((qa : Int) < (e2 : Int)) = true := by simp; omega
                          have x2' : decide (qa < e2) = true := by simpa using b2
                          by_cases b3 : 0 < sp
                          · have x3 : decide ((0 : Int) < (sp : Int)) = true := by simp; omega
                            have x3' : decide (0 < sp) = true := by simpa using b3
                            by_cases b4 : 0 < sq
                            · have x4 : decide ((0 : Int) < (sq : Int)) = true := by simp; omega
                              have x4' : decide (0 < sq) = true := by simpa using b4
                              have HNA := Lib.hid (show ¬ ApartI (imgsP O P) from fun ha => by
                                have h1 := (imgs_apart.1 ha) n m p q HLM.out HPK.out HQK.out
                                rw [HCL.out, x1', x2', x3', x4'] at h1
                                cases h1)
                              go_wp2_with fail
                              go_ret2
                              exact ⟨HR8.out.b, _, _, rfl, .inr (.inl ⟨HREF.out, HNA.out, rfl, rfl⟩)⟩
                            · as_aux_lemma =>
                                skip
                                have x4 : decide ((0 : Int) < (sq : Int)) = false := by simp; omega
                                have x4' : decide (0 < sq) = false := by simpa using b4
                                have HALN := Lib.hid (HLN.out (by rw [HCL.out, x1', x2', x3', x4']; simp))
                                go_wp2_with fail
                                go_roundg (n - (m + 1))
                                case measure => have := HLM.out; omega
                                case rel => exact ⟨m + 1, HLM.out, rfl, rfl, HWR, HALN⟩
                          · as_aux_lemma =>
                              skip
                              have x3 : decide ((0 : Int) < (sp : Int)) = false := by simp; omega
                              have x3' : decide (0 < sp) = false := by simpa using b3
                              have HALN := Lib.hid (HLN.out (by rw [HCL.out, x1', x2', x3']; simp))
                              go_wp2_with fail
                              go_roundg (n - (m + 1))
                              case measure => have := HLM.out; omega
                              case rel => exact ⟨m + 1, HLM.out, rfl, rfl, HWR, HALN⟩
                        · as_aux_lemma =>
                            skip
                            have x2 : decide ((qa : Int) < (e2 : Int)) = false := by simp; omega
                            have x2' : decide (qa < e2) = false := by simpa using b2
                            have HALN := Lib.hid (HLN.out (by rw [HCL.out, x1', x2']; simp))
                            go_wp2_with fail
                            go_roundg (n - (m + 1))
                            case measure => have := HLM.out; omega
                            case rel => exact ⟨m + 1, HLM.out, rfl, rfl, HWR, HALN⟩
                      · as_aux_lemma =>
                          skip
                          have x1 : decide ((pa : Int) < (e1 : Int)) = false := by simp; omega
                          have x1' : decide (pa < e1) = false := by simpa using b1
                          have HALN := Lib.hid (HLN.out (by rw [HCL.out, x1']; simp))
                          go_wp2_with fail
                          go_roundg (n - (m + 1))
                          case measure => have := HLM.out; omega
                          case rel => exact ⟨m + 1, HLM.out, rfl, rfl, HWR, HALN⟩
                    · as_aux_lemma =>
                        have hmn : m = n := by omega
                        have dm : decide ((m : Int) < (n : Int)) = false := by simp; omega
                        have dm' : decide (m < n) = false := by simpa using hlm
                        have HALN := Lib.hid (fun (i m' : Nat) (p' q : Place) (h1 : i < n + 1) (h2 : m' < i) (hp' : P[i]? = some p') (hq : P[m']? = some q) => (by
                          rcases Nat.lt_or_ge i n with hh | hh
                          · exact HAL.out i m' p' q hh h2 hp' hq
                          · obtain rfl : i = n := by omega
                            rw [HPK.out] at hp'
                            injection hp' with hp'
                            exact hp' ▸ HAL3.out m' q (by omega) hq : clashR O p' q = false))
                        clear hmn
                        go_wp2_with fail
                        go_roundg (N - (n + 1))
                        case measure => have := HLT.out; omega
                        case rel => exact ⟨n + 1, HLT.out, rfl, rfl, HWR, HALN⟩
                · as_aux_lemma =>
                    have hnN : n = N := by omega
                    have d : decide ((n : Int) < (N : Int)) = false := by simp; omega
                    have d' : decide (n < N) = false := by simpa using hlt
                    have HAP := Lib.hid (show ApartI (imgsP O P) from imgs_apart.2 (fun i m p q hm hp hq => HAL.out i m p q (by
                      have := (List.getElem?_eq_some_iff.1 hp).1
                      rw [HN.out] at this
                      omega) hm hp hq))
                    clear hnN
                    go_wp2_with fail
                    go_ret2
                    exact ⟨HR7.out.b, _, _, rfl, .inr (.inr ⟨HREF.out, HAP.out, rfl, g, _, _, _, rfl, HR7.out⟩)⟩

end Go.Proofs.YtejicboemkpeoaaDoor
