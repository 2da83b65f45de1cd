/-
  Package linkmap: its images (Images).
-/
import Derived.Test.YtejicboemkpeoaaDoorLnL
import Derived.Test.YtejicboemkpeoaaDoorLnM
import Derived.Test.YtejicboemkpeoaaDoorLnJ
import Derived.Deep.LoopGhost
namespace Go.Proofs.YtejicboemkpeoaaDoor
open Go Go.RowKit

/-- The images of places that have an address. -/
def imgsP (O : List ObjV) (P : List Place) : List Img := (P.map (imgP O)).filter fun x => decide (x.lo < x.hi)
theorem imgsP_snoc (O : List ObjV) (P : List Place) (p : Place) : imgsP O (P ++ [p]) = if (imgP O p).lo < (imgP O p).hi then imgsP O P ++ [imgP O p] else imgsP O P := by
  unfold imgsP
  rw [List.map_append, List.filter_append]
  by_cases h : (imgP O p).lo < (imgP O p).hi
  · rw [if_pos h]; simp [h]
  · rw [if_neg h]; simp [h]

/-- A map that is being made. -/
structure NewSt (w wr : World) (h0 mp my g q : Nat) (mc : Array Value) (P : List Place) (Y : List Named) (I : List Img) : Prop where
  bel : Below w.heap.size w wr
  mbox : Box wr h0 25 mc
  box : Box wr g 77 #[.map (some mp), .slice none 0 0, .map (some my)]
  pm : PMap wr w.heap.size mp P
  ym : YMap wr w.heap.size my Y
  que : ∃ vq L, QAt wr w.heap.size q vq L ∧ L.Perm I ∧ HeapK (kl L) L.length
  ge : w.heap.size ≤ g
section
variable {w wr w' : World} {h0 mp my g q : Nat} {mc : Array Value} {P P' : List Place} {Y Y' : List Named} {I I' : List Img}
theorem box_no_pmap {W : World} {base : Nat} {t : TypeId} {cs : Array Value} {b m : Nat} (hX : Box W b t cs) (hP : PMap W base m P) : b ≠ m := by
  rintro rfl
  obtain ⟨es, c, h⟩ := hP.block
  unfold Box at hX
  rw [h] at hX
  cases hX
theorem box_no_ymap {W : World} {base : Nat} {t : TypeId} {cs : Array Value} {b m : Nat} (hX : Box W b t cs) (hY : YMap W base m Y) : b ≠ m := by
  rintro rfl
  obtain ⟨es, c, h⟩ := hY.block
  unfold Box at hX
  rw [h] at hX
  cases hX
theorem NewSt.below (h : NewSt w wr h0 mp my g q mc P Y I) (hb : Below wr.heap.size wr w') : NewSt w w' h0 mp my g q mc P Y I := by
  obtain ⟨h1, h2, h3, h4, h5, ⟨vq, L, h6, h7, h8⟩, h9⟩ := h
  exact ⟨h1.trans (hb.mono h1.size), h2.below hb h2.lt, h3.below hb h3.lt, h4.same (hb.block _ h4.lt), h5.same (hb.block _ h5.lt), ⟨vq, L, h6.below hb, h7, h8⟩, h9⟩
theorem qat_but {W W' : World} {base m : Nat} {v : Value} {L : List Img} (h : QAt W base q v L) (hb : But (fun k => k = m) W W') (hq : q ≠ m) (hv : ∀ k, v.ownBlock = some k → k ≠ m) : QAt W' base q v L :=
  ⟨h.ge, hb.box h.box hq, hb.row h.own hv⟩
theorem rows_no_map {W : World} {base n size m : Nat} {e : TypeId} {v : Value} {xs : List Value} {es : Array MapEntry} {c : Nat} (h : W.ownsRow base e size v n xs) (hm : W.heap[m]? = some (.map es c)) : ∀ k, v.ownBlock = some k → k ≠ m := by
  rintro k hk rfl
  obtain ⟨cs, f, h2⟩ := row_heap h hk
  rw [h2] at hm
  cases hm
theorem NewSt.place (h : NewSt w wr h0 mp my g q mc P Y I) (hb : But (fun k => k = mp) wr w') (hP : PMap w' w.heap.size mp P') (hne : mp ≠ my) : NewSt w w' h0 mp my g q mc P' Y I := by
  obtain ⟨h1, h2, h3, h4, h5, ⟨vq, L, h6, h7, h8⟩, h9⟩ := h
  obtain ⟨es, c, hm⟩ := h4.block
  exact ⟨h1.trans (hb.below h1.size (fun k hk => hk ▸ h4.ge)), hb.box h2 (box_no_pmap h2 h4), hb.box h3 (box_no_pmap h3 h4), hP, h5.same (hb.2 _ h5.lt (fun e => hne e.symm)), ⟨vq, L, qat_but h6 hb (box_no_pmap h6.box h4) (rows_no_map h6.own hm), h7, h8⟩, h9⟩
theorem NewSt.sym (h : NewSt w wr h0 mp my g q mc P Y I) (hb : But (fun k => k = my) wr w') (hY : YMap w' w.heap.size my Y') (hne : mp ≠ my) : NewSt w w' h0 mp my g q mc P Y' I := by
  obtain ⟨h1, h2, h3, h4, h5, ⟨vq, L, h6, h7, h8⟩, h9⟩ := h
  obtain ⟨es, c, hm⟩ := h5.block
  exact ⟨h1.trans (hb.below h1.size (fun k hk => hk ▸ h5.ge)), hb.box h2 (box_no_ymap h2 h5), hb.box h3 (box_no_ymap h3 h5), h4.same (hb.2 _ h4.lt hne), hY, ⟨vq, L, qat_but h6 hb (box_no_ymap h6.box h5) (rows_no_map h6.own hm), h7, h8⟩, h9⟩
theorem NewSt.push (h : NewSt w wr h0 mp my g q mc P Y I) (hb : Only w.heap.size QObj wr w') {vq : Value} {L : List Img} (hq : QAt w' w.heap.size q vq L) (hL : L.Perm I') (hH : HeapK (kl L) L.length) : NewSt w w' h0 mp my g q mc P Y I' := by
  obtain ⟨h1, h2, h3, h4, h5, -, h9⟩ := h
  have hx2 := h2
  have hx3 := h3
  unfold Box at h2 h3
  obtain ⟨es, c, hm⟩ := h4.block
  obtain ⟨es', c', hm'⟩ := h5.block
  refine ⟨h1.trans hb.1, hb.2 _ _ h2 (by unfold QObj; simp), hb.2 _ _ h3 (by unfold QObj; simp), h4.same ((hb.2 _ _ hm (by unfold QObj; simp)).trans hm.symm), h5.same ((hb.2 _ _ hm' (by unfold QObj; simp)).trans hm'.symm), ⟨vq, L, hq, hL, hH⟩, h9⟩
end

set_option maxRecDepth 10000 in
theorem toomany_any {w : World} (aP aY : Option Addr) (n m cP cY : Nat) :
    Calls Tryd.prog 24 #[.agg #[.slice aP n cP, .slice aY m cY]] w fun r w' => r = .returned (.bool (decide (200 < n) || decide (200 < m))) ∧ Below w.heap.size w w' := by
  have hb0 : Below w.heap.size w (w.alloc (.cells #[.slice aP n cP, .slice aY m cY] 25)) := (Below.refl _ _).alloc (Nat.le_refl _) _
  have HB := Lib.hid hb0
  clear hb0
  by_cases h1 : 200 < n
  · have d1 : decide ((200 : Int) < (n : Int)) = true := decide_eq_true (by omega)
    have d1n : decide (200 < n) = true := decide_eq_true h1
    rw [d1n]
    clear h1
    go_enter Tryd.func24, Tryd.ntmps24
    go_wp2_with fail
    go_ret
    exact ⟨rfl, HB.out⟩
  · have d1 : decide ((200 : Int) < (n : Int)) = false := decide_eq_false (by omega)
    have d1n : decide (200 < n) = false := decide_eq_false h1
    have d2 : decide ((200 : Int) < (m : Int)) = decide (200 < m) := by rw [Bool.eq_iff_iff]; simp; omega
    rw [d1n]
    clear h1
    generalize decide (200 < m) = dm at *
    go_enter Tryd.func24, Tryd.ntmps24
    go_wp2_with fail
    go_ret
    exact ⟨rfl, HB.out⟩

end Go.Proofs.YtejicboemkpeoaaDoor

namespace Go.Proofs.YtejicboemkpeoaaDoor
open Go Go.RowKit

/-! ### What New asks -/
def goodPs (O : List ObjV) (Q : List BLay) (P : List Place) (k : Nat) : Bool := okTo (fun i => match P[i]? with | some p => goodP O Q (P.take i) p | none => true) k
def goodYs (Y : List Named) (k : Nat) : Bool := okTo (fun i => match Y[i]? with | some y => goodY (Y.take i) y | none => true) k
theorem goodPs_next {O : List ObjV} {Q : List BLay} {P : List Place} {k : Nat} {p : Place} (h : P[k]? = some p) : goodPs O Q P (k + 1) = (goodPs O Q P k && goodP O Q (P.take k) p) := by
  unfold goodPs; rw [okTo_next, h]
theorem goodYs_next {Y : List Named} {k : Nat} {y : Named} (h : Y[k]? = some y) : goodYs Y (k + 1) = (goodYs Y k && goodY (Y.take k) y) := by
  unfold goodYs; rw [okTo_next, h]
theorem goodPs_not {O : List ObjV} {Q : List BLay} {P : List Place} {k : Nat} {p : Place} (h : P[k]? = some p) (hg : goodP O Q (P.take k) p = false) : goodPs O Q P P.length = false := by
  unfold goodPs
  exact okTo_more (List.getElem?_eq_some_iff.1 h).1 (by simp only [h]; exact hg)
theorem goodYs_not {Y : List Named} {k : Nat} {y : Named} (h : Y[k]? = some y) (hg : goodY (Y.take k) y = false) : goodYs Y Y.length = false := by
  unfold goodYs
  exact okTo_more (List.getElem?_eq_some_iff.1 h).1 (by simp only [h]; exact hg)
/-- Is a map refused (ErrMap)? -/
def refM (O : List ObjV) (Q : List BLay) (P : List Place) (Y : List Named) : Bool := (decide (200 < P.length) || decide (200 < Y.length)) || (!goodPs O Q P P.length || !goodYs Y Y.length)
/-- No two images have an address in common. -/
def ApartI (I : List Img) : Prop := I.Pairwise fun x y => x.hi ≤ y.lo ∨ y.hi ≤ x.lo
theorem apart_perm {I J : List Img} (h : I.Perm J) : ApartI I ↔ ApartI J := h.pairwise_iff (fun h => h.symm)
theorem part_apart {R : List Img} (hr : RiseI R) (hb : ∀ x ∈ R, x.lo < x.hi) : PartI R ↔ ApartI R := by
  constructor
  · intro h
    exact h.imp (fun h => .inl h)
  · intro h
    unfold PartI
    refine (List.Pairwise.and_mem.1 (h.and hr)).imp ?_
    rintro x y ⟨hx, hy, h1, h2⟩
    have := hb x hx
    have := hb y hy
    omega
theorem imgsP_lt {O : List ObjV} {P : List Place} : ∀ x ∈ imgsP O P, x.lo < x.hi := fun x hx => by
  have := (List.mem_filter.1 hx).2
  simpa using this

theorem owni_drewN {w : World} {base : Nat} {v : Value} {L : List Img} (h : OwnI w base v L) (n : Nat) : OwnI (w.drewN n) base v L := h
/-- A map that was made, in memory. -/
structure LinkG (w : World) (base g : Nat) (O : List ObjV) (P : List Place) (Y : List Named) : Prop where
  ge : base ≤ g
  at_ : ∃ mp my u R, Box w g 77 #[.map (some mp), u, .map (some my)] ∧ PMap w base mp P ∧ YMap w base my Y ∧ OwnI w base u R ∧ R.Perm (imgsP O P) ∧ RiseI R ∧ PartI R

theorem new_start {w w1 : World} {mc : Array Value} (hb : Below w.heap.size w w1) (hx : Box w1 w.heap.size 25 mc) :
    NewSt w ((((w1.alloc (.map #[] 0)).alloc (.map #[] 0)).alloc (.cells #[.map (some w1.heap.size), .slice none 0 0, .map (some (w1.heap.size + 1))] 77)).alloc (.cells #[.slice none 0 0] 79)) w.heap.size w1.heap.size (w1.heap.size + 1) (w1.heap.size + 1 + 1) (w1.heap.size + 1 + 1 + 1) mc [] [] [] := by
  have hs := hb.size
  have a1 : Below w1.heap.size w1 (w1.alloc (.map #[] 0)) := (Below.refl _ _).alloc (Nat.le_refl _) _
  have s1 : (w1.alloc (.map #[] 0)).heap.size = w1.heap.size + 1 := by simp
  have p1 := pmap_made w1
  generalize w1.alloc (.map #[] 0) = w2 at *
  have a2 : Below w2.heap.size w2 (w2.alloc (.map #[] 0)) := (Below.refl _ _).alloc (Nat.le_refl _) _
  have s2 : (w2.alloc (.map #[] 0)).heap.size = w2.heap.size + 1 := by simp
  have y2 := ymap_made w2
  generalize w2.alloc (.map #[] 0) = w3 at *
  have b3 := Box.new w3 77 #[.map (some w1.heap.size), .slice none 0 0, .map (some (w1.heap.size + 1))]
  have a3 : Below w3.heap.size w3 (w3.alloc (.cells #[.map (some w1.heap.size), .slice none 0 0, .map (some (w1.heap.size + 1))] 77)) := (Below.refl _ _).alloc (Nat.le_refl _) _
  have s3 : (w3.alloc (.cells #[.map (some w1.heap.size), .slice none 0 0, .map (some (w1.heap.size + 1))] 77)).heap.size = w3.heap.size + 1 := by simp
  generalize w3.alloc (.cells #[.map (some w1.heap.size), .slice none 0 0, .map (some (w1.heap.size + 1))] 77) = w4 at *
  have b4 := Box.new w4 79 #[.slice none 0 0]
  have a4 : Below w4.heap.size w4 (w4.alloc (.cells #[.slice none 0 0] 79)) := (Below.refl _ _).alloc (Nat.le_refl _) _
  generalize w4.alloc (.cells #[.slice none 0 0] 79) = w5 at *
  have e2 : w2.heap.size = w1.heap.size + 1 := s1
  have e3 : w3.heap.size = w1.heap.size + 1 + 1 := by omega
  have e4 : w4.heap.size = w1.heap.size + 1 + 1 + 1 := by omega
  rw [e3] at b3
  rw [e4] at b4
  rw [e2] at y2
  have hb15 : Below w1.heap.size w1 w5 := a1.trans ((a2.mono (by omega)).trans ((a3.mono (by omega)).trans (a4.mono (by omega))))
  refine ⟨hb.trans (hb15.mono hs), hx.below hb15 hx.lt, b3.below a4 (by omega), ?_, ?_, ⟨.slice none 0 0, [], ⟨by omega, b4, World.ownsRow_nil _ _ _ _⟩, List.Perm.refl _, fun i h0 h1 => absurd h1 (by simp)⟩, by omega⟩
  · have h1 := (((p1.same (a2.block _ (by omega))).same (a3.block _ (by omega))).same (a4.block _ (by omega)))
    exact ⟨hs, h1.own⟩
  · have h1 := ((y2.same (a3.block _ (by omega))).same (a4.block _ (by omega)))
    exact ⟨by omega, h1.own⟩

set_option maxRecDepth 10000 in
set_option maxHeartbeats 800000 in
theorem lnew_any {w : World} {aP aY aO aQ : Option Addr} {cP cY cO cQ : Nat} {P : List Place} {Y : List Named} {O : List ObjV} {Q : List BLay} (hP : Row 3 Place.cells w w.heap.size aP P) (hY : Row 2 Named.cells w w.heap.size aY Y) (hpn : ∀ p ∈ P, p.Nums) (hyn : ∀ y ∈ Y, y.Nums) (hyl : ∀ y ∈ Y, y.name.length ≤ 1000000)
    (hO : Objs w w.heap.size aO O) (hQ : BRows w w.heap.size aQ Q) (hL : ∀ ob ∈ O, ob.L.length ≤ 100000) (hD : ∀ ob ∈ O, ∀ x ∈ ob.L, x.s.data.length ≤ 100000 ∧ x.s.flags < two64) :
    Calls Tryd.prog 7 #[.agg #[.slice aP P.length cP, .slice aY Y.length cY], .slice aO O.length cO, .slice aQ Q.length cQ] w fun r w' => Below w.heap.size w w' ∧ (refM O Q P Y = true → r = .returned (.tuple #[.pointer none, .int .i64 30])) ∧
      (refM O Q P Y = false → (¬ ApartI (imgsP O P) → r = .returned (.tuple #[.pointer none, .int .i64 31])) ∧ (ApartI (imgsP O P) → ∃ g, r = .returned (.tuple #[.pointer (some ⟨g, 0, none⟩), .int .i64 0]) ∧ LinkG w' w.heap.size g O P Y)) := by
  generalize hw0 : w.alloc (.cells #[.slice aP P.length cP, .slice aY Y.length cY] 25) = w0 at *
  have hb0 : Below w.heap.size w w0 := hw0 ▸ (Below.refl _ _).alloc (Nat.le_refl _) _
  have hXm := Box.new w 25 #[.slice aP P.length cP, .slice aY Y.length cY]
  rw [hw0] at hXm
  have hs0 : w.heap.size < w0.heap.size := by rw [← hw0]; simp
  have x0 := hXm.cell 0
  have x1 := hXm.cell 1
  simp at x0 x1
  have HB0 := Lib.hid hb0
  have HXM := Lib.hid hXm
  have HTM := Lib.hid (toomany_any (w := w0) aP aY P.length Y.length cP cY)
  obtain ⟨N, hN⟩ : ∃ N, P.length = N := ⟨_, rfl⟩
  obtain ⟨M, hM⟩ : ∃ M, Y.length = M := ⟨_, rfl⟩
  cases hmany : (decide (200 < P.length) || decide (200 < Y.length)) with
  | true =>
    have HBAD := Lib.hid (show refM O Q P Y = true by unfold refM; rw [hmany]; rfl)
    rw [hmany] at HTM
    clear hmany hP hY hpn hyn hyl hO hQ hL hD hXm hb0 hN hM
    go_enter Tryd.func7, Tryd.ntmps7
    go_upto_region 1 with fail
    try rw [hw0]
    clear hw0
    go_wp2_with (go_at_call 24; refine HTM.out.mono ?_; rintro r w1 ⟨rfl, hb1⟩; have HB1 := Lib.hid hb1; clear hb1)
    go_ret2
    exact ⟨HB0.out.trans (HB1.out.mono HB0.out.size), fun _ => rfl, fun h => (by rw [HBAD.out] at h; cases h)⟩
  | false =>
    rw [hmany] at HTM
    have hN200 : N ≤ 200 := by simp at hmany; omega
    have hM200 : M ≤ 200 := by simp at hmany; omega
    have HBM := Lib.hid (show refM O Q P Y = (!goodPs O Q P N || !goodYs Y M) by unfold refM; rw [hmany, hN, hM]; rfl)
    have HN := Lib.hid hN
    have HM := Lib.hid hM
    have HPR := Lib.hid (fun W (hW : Below w.heap.size w W) => hP.below hW)
    have HYR := Lib.hid (fun W (hW : Below w.heap.size w W) => hY.below hW)
    have HPL := Lib.hid (fun W (hW : Below w.heap.size w W) => (⟨(hO.below hW).more hW.size, (hQ.below hW).more hW.size⟩ : Objs W W.heap.size aO O ∧ BRows W W.heap.size aQ Q))
    have HPN := Lib.hid hpn
    have HYN := Lib.hid (And.intro hyn hyl)
    have HLD := Lib.hid (And.intro hL hD)
    have hmm := @run_makeMap Tryd.prog
    rw [hN] at x0
    rw [hM] at x1
    rw [hN, hM] at HTM
    clear hmany hP hY hpn hyn hyl hO hQ hL hD hXm hb0 hN hM
    go_enter Tryd.func7, Tryd.ntmps7
    go_upto_region 1 with fail
    try rw [hw0]
    clear hw0
    go_upto_region 5 with (go_at_call 24; refine HTM.out.mono ?_; rintro r w1 ⟨rfl, hb1⟩; have HB1 := Lib.hid hb1; clear hb1)
    have hbx : Below w.heap.size w w1 := HB0.out.trans (HB1.out.mono HB0.out.size)
    have HST := Lib.hid (new_start hbx (HXM.out.below HB1.out hs0))
    have HMY := Lib.hid (show w1.heap.size ≠ w1.heap.size + 1 by omega)
    generalize hw5 : ((((w1.alloc (.map #[] 0)).alloc (.map #[] 0)).alloc (.cells #[.map (some w1.heap.size), .slice none 0 0, .map (some (w1.heap.size + 1))] 77)).alloc (.cells #[.slice none 0 0] 79)) = w5 at *
    clear hw5 x0 x1 hbx HB1 HTM HXM HB0 hs0
    generalize hmp : w1.heap.size = mp at *
    generalize mp + 1 = my at *
    generalize my + 1 = g at *
    generalize g + 1 = q at *
    clear hmp
    have z0 := HST.out.mbox.cell 0
    simp only [List.getElem?_toArray, List.getElem?_cons_zero] at z0
    rw [HN.out] at z0
    go_wp2_with fail
    clear z0
    go_loopg [25] N (fun gk i wr => ∃ k : Nat, k ≤ N ∧ gk = N - k ∧ i = .int .i64 k ∧ Hid (goodPs O Q P k = true) ∧ Hid (NewSt w wr w.heap.size mp my g q #[.slice aP P.length cP, .slice aY Y.length cY] (P.take k) [] (imgsP O (P.take k))))
    case atStart => exact ⟨0, Nat.zero_le _, rfl, rfl, Lib.hid rfl, HST⟩
    case round =>
      obtain ⟨k, hk, rfl, rfl, HG, HS⟩ := hrel
      by_cases hlt : k < N
      · obtain ⟨p, hp⟩ : ∃ p, P[k]? = some p := ⟨_, List.getElem?_eq_getElem (by rw [HN.out]; exact hlt)⟩
        obtain ⟨b, o, rfl, hb, c0, c1, c2⟩ := place_at (HPR.out _ HS.out.bel) hp
        have HNX := Lib.hid (goodPs_next (O := O) (Q := Q) hp)
        have HNT := Lib.hid (fun hg => goodPs_not (O := O) (Q := Q) hp hg)
        have HTK := Lib.hid (show P.take (k + 1) = P.take k ++ [p] by rw [List.take_add_one, hp]; rfl)
        have HLT := Lib.hid hlt
        generalize hw2 : wr.alloc (.cells #[.int .i64 p.obj, .int .i64 p.sect, .int .u64 (p.addr : Int)] 43) = w2 at *
        have hb2 : Below wr.heap.size wr w2 := hw2 ▸ (Below.refl _ _).alloc (Nat.le_refl _) _
        have hx2 := Box.new wr 43 #[.int .i64 p.obj, .int .i64 p.sect, .int .u64 (p.addr : Int)]
        rw [hw2] at hx2
        have HS2 := Lib.hid (HS.out.below hb2)
        have HW2 := Lib.hid hw2
        have HPC := Lib.hid (lplace_any (cO := cO) (cQ := cQ) HS2.out.box HS2.out.pm (by rw [List.length_take]; omega) (HPL.out _ HS2.out.bel).1 (HPL.out _ HS2.out.bel).2 HLD.out.1 HLD.out.2 (HPN.out p (List.mem_of_getElem? hp)))
        obtain ⟨q0, q1, q2⟩ : w2.cell? ⟨wr.heap.size, 0, none⟩ = some (.int .i64 p.obj) ∧ w2.cell? ⟨wr.heap.size, 1, none⟩ = some (.int .i64 p.sect) ∧ w2.cell? ⟨wr.heap.size, 2, none⟩ = some (.int .u64 (p.addr : Int)) := ⟨by rw [hx2.cell]; rfl, by rw [hx2.cell]; rfl, by rw [hx2.cell]; rfl⟩
        clear hw2 hb2 hx2 hp hlt
        go_upto_region 8 with fail
        try rw [HW2.out]
        cases hgd : goodP O Q (P.take k) p with
        | false =>
          have HBAD := Lib.hid (show refM O Q P Y = true by rw [HBM.out, ← HN.out, HNT.out hgd]; rfl)
          have HGD := Lib.hid hgd
          clear hgd HST
          go_wp2_with (go_at_call 25; refine HPC.out.mono ?_; rintro r w3 ⟨h1, h2, h3⟩; (obtain rfl := h2 HGD.out); have HB3 := Lib.hid (h3.below HS2.out.bel.size (fun k hk => hk ▸ HS2.out.pm.ge)); clear h1 h2 h3)
          go_ret2
          exact ⟨(HS2.out.bel.trans HB3.out).alloc (HS2.out.bel.trans HB3.out).size _, fun _ => rfl, fun h => (by rw [HBAD.out] at h; cases h)⟩
        | true =>
          have HGD := Lib.hid hgd
          have HGN := Lib.hid (show goodPs O Q P (k + 1) = true by rw [HNX.out, HG.out, hgd]; rfl)
          clear hgd HST
          have HIS := Lib.hid (imgsP_snoc O (P.take k) p)
          rw [← HTK.out] at HIS
          obtain ⟨z, hz⟩ : ∃ z, imgP O p = z := ⟨_, rfl⟩
          rw [hz] at HPC HIS
          clear hz
          go_upto_region 9 with (go_at_call 25; refine HPC.out.mono ?_; rintro r w3 ⟨h1, h2, h3⟩; (obtain ⟨rfl, hp3⟩ := h1 HGD.out); have HS3 := Lib.hid (HS2.out.place h3 (HTK.out ▸ hp3) HMY.out); clear h1 h2 h3 hp3)
          have hx4 := Box.new w3 83 #[.int .u64 (z.lo : Int), .int .u64 (z.hi : Int), .int .i64 z.obj, .int .i64 z.sect]
          have hb4 : Below w3.heap.size w3 (w3.alloc (.cells #[.int .u64 (z.lo : Int), .int .u64 (z.hi : Int), .int .i64 z.obj, .int .i64 z.sect] 83)) := (Below.refl _ _).alloc (Nat.le_refl _) _
          generalize hw4 : w3.alloc (.cells #[.int .u64 (z.lo : Int), .int .u64 (z.hi : Int), .int .i64 z.obj, .int .i64 z.sect] 83) = w4 at *
          have HS4 := Lib.hid (HS3.out.below hb4)
          obtain ⟨m0, m1, m2, m3⟩ := four_cells hx4
          clear hw4 hb4 hx4 c0 c1 c2 q0 q1 q2
          by_cases hzz : z.lo < z.hi
          · rw [if_pos hzz] at HIS
            have hdz : decide ((z.lo : Int) < (z.hi : Int)) = true := decide_eq_true (by omega)
            have hdn : decide (z.lo < z.hi) = true := decide_eq_true hzz
            obtain ⟨vq, Lq, hq, hLq, hHq⟩ := HS4.out.que
            have HPU := Lib.hid (hpush_any hq hHq z (by
              have h1 := hLq.length_eq
              have h2 : (imgsP O (P.take k)).length ≤ k := by
                unfold imgsP
                refine Nat.le_trans (List.length_filter_le _ _) ?_
                rw [List.length_map, List.length_take]
                omega
              omega))
            have HLQ := Lib.hid hLq
            clear hzz hq hLq hHq
            go_wp2_with (go_at_call 26; refine HPU.out.mono ?_; rintro r w6 ⟨rfl, ⟨v6, M6, hp6, hh6, hq6⟩, ho6⟩; have HS6 := Lib.hid (HS4.out.push ho6 hq6 (hp6.trans ((HLQ.out.cons z).trans (List.perm_append_comm (l₁ := [z]) (l₂ := imgsP O (P.take k))))) hh6); clear hp6 hh6 hq6 ho6)
            rw [← HIS.out] at HS6
            go_roundg (N - (k + 1))
            case measure => have := HLT.out; omega
            case rel => exact ⟨k + 1, HLT.out, rfl, by go_num, HGN, HS6⟩
          · rw [if_neg hzz] at HIS
            have hdz : decide ((z.lo : Int) < (z.hi : Int)) = false := decide_eq_false (by omega)
            have hdn : decide (z.lo < z.hi) = false := decide_eq_false hzz
            clear hzz
            go_wp2_with fail
            rw [← HIS.out] at HS4
            go_roundg (N - (k + 1))
            case measure => have := HLT.out; omega
            case rel => exact ⟨k + 1, HLT.out, rfl, by go_num, HGN, HS4⟩
      · have hkN : k = N := by omega
        have HGP := Lib.hid (show goodPs O Q P N = true from hkN ▸ HG.out)
        have HSN := Lib.hid (show NewSt w wr w.heap.size mp my g q #[.slice aP P.length cP, .slice aY Y.length cY] P [] (imgsP O P) from by
          have h1 := HS.out
          rw [List.take_of_length_le (by rw [HN.out]; omega)] at h1
          exact h1)
        have hdk : decide ((k : Int) < (N : Int)) = false := decide_eq_false (by omega)
        clear HG HS HST hkN
        have z0 := HSN.out.mbox.cell 1
        simp only [List.getElem?_toArray, List.getElem?_cons_succ, List.getElem?_cons_zero] at z0
        rw [HM.out] at z0
        go_wp2_with fail
        clear z0
        go_loopg [54] M (fun gk i wr => ∃ k : Nat, k ≤ M ∧ gk = M - k ∧ i = .int .i64 k ∧ Hid (goodYs Y k = true) ∧ Hid (NewSt w wr w.heap.size mp my g q #[.slice aP P.length cP, .slice aY Y.length cY] P (Y.take k) (imgsP O P)))
        case atStart => exact ⟨0, Nat.zero_le _, rfl, rfl, Lib.hid rfl, HSN⟩
        case round =>
          obtain ⟨j, hj, rfl, rfl, HGJ, HSJ⟩ := hrel
          clear HSN
          by_cases hltj : j < M
          · obtain ⟨y, hy⟩ : ∃ y, Y[j]? = some y := ⟨_, List.getElem?_eq_getElem (by rw [HM.out]; exact hltj)⟩
            obtain ⟨b, o, rfl, hb, c0, c1⟩ := named_at (HYR.out _ HSJ.out.bel) hy
            have HNX := Lib.hid (goodYs_next hy)
            have HNT := Lib.hid (fun hg => goodYs_not hy hg)
            have HTK := Lib.hid (show Y.take (j + 1) = Y.take j ++ [y] by rw [List.take_add_one, hy]; rfl)
            have HLT := Lib.hid hltj
            generalize hw2 : wr.alloc (.cells #[.string ⟨y.name.toArray⟩, .int .u64 (y.addr : Int)] 67) = w2 at *
            have hb2 : Below wr.heap.size wr w2 := hw2 ▸ (Below.refl _ _).alloc (Nat.le_refl _) _
            have hx2 := Box.new wr 67 #[.string ⟨y.name.toArray⟩, .int .u64 (y.addr : Int)]
            rw [hw2] at hx2
            have HS2 := Lib.hid (HSJ.out.below hb2)
            have HW2 := Lib.hid hw2
            have HPC := Lib.hid (name_any HS2.out.box HS2.out.ym (by rw [List.length_take]; omega) (HYN.out.1 y (List.mem_of_getElem? hy)) (HYN.out.2 y (List.mem_of_getElem? hy)))
            obtain ⟨q0, q1⟩ : w2.cell? ⟨wr.heap.size, 0, none⟩ = some (.string ⟨y.name.toArray⟩) ∧ w2.cell? ⟨wr.heap.size, 1, none⟩ = some (.int .u64 (y.addr : Int)) := ⟨by rw [hx2.cell]; rfl, by rw [hx2.cell]; rfl⟩
            clear hw2 hb2 hx2 hy hltj
            go_upto_region 17 with fail
            try rw [HW2.out]
            cases hgd : goodY (Y.take j) y with
            | false =>
              have HBAD := Lib.hid (show refM O Q P Y = true by rw [HBM.out, ← HM.out, HNT.out hgd]; simp)
              rw [hgd] at HPC
              clear hgd
              go_wp2_with (go_at_call 27; refine HPC.out.mono ?_; rintro r w3 ⟨rfl, -, h3⟩; have HB3 := Lib.hid (h3.below HS2.out.bel.size (fun k hk => hk ▸ HS2.out.ym.ge)); clear h3)
              go_ret2
              exact ⟨HS2.out.bel.trans HB3.out, fun _ => rfl, fun h => (by rw [HBAD.out] at h; cases h)⟩
            | true =>
              have HGN := Lib.hid (show goodYs Y (j + 1) = true by rw [HNX.out, HGJ.out, hgd]; rfl)
              rw [hgd] at HPC
              clear hgd
              go_wp2_with (go_at_call 27; refine HPC.out.mono ?_; rintro r w3 ⟨rfl, h2, h3⟩; have HS3 := Lib.hid (HS2.out.sym h3 (HTK.out ▸ h2 rfl) HMY.out); clear h2 h3)
              go_roundg (M - (j + 1))
              case measure => have := HLT.out; omega
              case rel => exact ⟨j + 1, HLT.out, rfl, by go_num, HGN, HS3⟩
          · have hjM : j = M := by omega
            have HGY := Lib.hid (show goodYs Y M = true from hjM ▸ HGJ.out)
            have HSN := Lib.hid (show NewSt w wr w.heap.size mp my g q #[.slice aP P.length cP, .slice aY Y.length cY] P Y (imgsP O P) from by
              have h1 := HSJ.out
              rw [List.take_of_length_le (by rw [HM.out]; omega)] at h1
              exact h1)
            have HOKM := Lib.hid (show refM O Q P Y = false by rw [HBM.out, HGP.out, HGY.out]; rfl)
            have hdj : decide ((j : Int) < (M : Int)) = false := decide_eq_false (by omega)
            obtain ⟨vq, Lq, hq, hLq, hHq⟩ := HSN.out.que
            have hlen : (imgsP O P).length ≤ 200 := by
              unfold imgsP
              refine Nat.le_trans (List.length_filter_le _ _) ?_
              rw [List.length_map, HN.out]
              exact hN200
            have HRI := Lib.hid (rising_any hq hHq (by rw [hLq.length_eq]; omega))
            have HQ := Lib.hid hq
            have HLQ := Lib.hid hLq
            have HLEN := Lib.hid hlen
            clear HGJ HSJ hjM hq hLq hHq hlen
            have g1 := HSN.out.box.cell 1
            have g1f := HSN.out.box.free 1
            simp at g1
            have hgs : g < wr.heap.size := HSN.out.box.lt
            go_upto_region 21 with (go_at_call 28; refine HRI.out.mono ?_; rintro r w3 ⟨u, R, rfl, hR1, hR2, hR3, hR4⟩; (obtain ⟨A, c, rfl, _, _, _⟩ := owni_row hR3); have HR := Lib.hid (And.intro hR1 (And.intro hR2 (And.intro hR3 hR4))); have HO3 := Lib.hid (HQ.out.only hR4); have hx3 : Box w3 g 77 #[.map (some mp), .slice none 0 0, .map (some my)] := HO3.out.2 _ _ HSN.out.box (by unfold QObj; simp); have e1 := hx3.cell 1; have e1f := hx3.free 1; simp at e1; have HX3 := Lib.hid hx3; clear hR1 hR2 hR3 hR4 hx3)
            obtain ⟨hR0, hR2, hR3, hR4⟩ := HR.out
            have hR1 := hR0.trans HLQ.out
            have HR1 := Lib.hid hR1
            have hx4 := HX3.out.set 1 (.slice A R.length c)
            have hg4 : w3.grownBy (w3.setCell ⟨g, 1, none⟩ (.slice A R.length c)) (some g) := only_set (only_refl _ _) 1 _
            have hne : (Value.slice A R.length c).ownBlock ≠ some g := fun e => row_other hR3 HX3.out (by decide) g e rfl
            have HO4 := Lib.hid (World.ownsRow.kept hR3 hg4 (.inr hne))
            have hpm : PMap w3 w.heap.size mp P ∧ YMap w3 w.heap.size my Y := by
              obtain ⟨es, k, hm⟩ := HSN.out.pm.block
              obtain ⟨es', k', hm'⟩ := HSN.out.ym.block
              exact ⟨HSN.out.pm.same ((HO3.out.2 _ _ hm (by unfold QObj; simp)).trans hm.symm), HSN.out.ym.same ((HO3.out.2 _ _ hm' (by unfold QObj; simp)).trans hm'.symm)⟩
            have HPY := Lib.hid (show PMap (w3.setCell ⟨g, 1, none⟩ (.slice A R.length c)) w.heap.size mp P ∧ YMap (w3.setCell ⟨g, 1, none⟩ (.slice A R.length c)) w.heap.size my Y from
              ⟨hpm.1.same (hg4.block _ hpm.1.lt (by simpa using (box_no_pmap HX3.out hpm.1).symm)), hpm.2.same (hg4.block _ hpm.2.lt (by simpa using (box_no_ymap HX3.out hpm.2).symm))⟩)
            have HB4 := Lib.hid (below_only (HSN.out.bel.trans HO3.out.1) (Nat.le_refl _) hg4 HSN.out.ge)
            have HCL := Lib.hid (clash_any (w := w3.setCell ⟨g, 1, none⟩ (.slice A R.length c)) (A := A) (R := R) (by
              obtain ⟨A', c', e, _, _, hr⟩ := owni_row HO4.out
              injection e with e' _ _
              subst e'
              exact hr) c (by rw [hR1.length_eq]; exact Nat.le_trans HLEN.out (by omega)))
            have HX4 := Lib.hid (show Box (w3.setCell ⟨g, 1, none⟩ (.slice A R.length c)) g 77 #[.map (some mp), .slice A R.length c, .map (some my)] by simpa using hx4)
            have h41 := HX4.out.cell 1
            simp at h41
            have HLT := Lib.hid (show ∀ x ∈ R, x.lo < x.hi from fun x hx => imgsP_lt x (hR1.mem_iff.1 hx))
            have HCP := Lib.hid (show clashTo R (R.length - 1) = false ↔ ApartI (imgsP O P) from (clash_part (fun x hx => Nat.le_of_lt (HLT.out x hx))).trans ((part_apart hR2 HLT.out).trans (apart_perm hR1)))
            have HPT := Lib.hid (show clashTo R (R.length - 1) = false → PartI R from (clash_part (fun x hx => Nat.le_of_lt (HLT.out x hx))).1)
            clear hx4 hg4 hne hpm hR0 hR1 hR2 hR3 hR4 e1 e1f
            generalize w3.setCell ⟨g, 1, none⟩ (.slice A R.length c) = w4 at *
            cases hct : clashTo R (R.length - 1) with
            | true =>
              rw [hct] at HCL
              have HNA := Lib.hid (show ¬ ApartI (imgsP O P) from fun h => by have := HCP.out.2 h; rw [hct] at this; cases this)
              clear hct
              go_wp2_with (go_at_call 29; refine HCL.out.mono ?_; rintro r w6 ⟨rfl, nn, rfl⟩)
              go_ret2
              exact ⟨below_drewN HB4.out _, fun h => (by rw [HOKM.out] at h; cases h), fun _ => ⟨fun _ => rfl, fun h => absurd h HNA.out⟩⟩
            | false =>
              rw [hct] at HCL
              have HA := Lib.hid (HCP.out.1 hct)
              have HPR2 := Lib.hid (HPT.out hct)
              clear hct
              go_wp2_with (go_at_call 29; refine HCL.out.mono ?_; rintro r w6 ⟨rfl, nn, rfl⟩)
              go_ret2
              refine ⟨below_drewN HB4.out _, fun h => (by rw [HOKM.out] at h; cases h), fun _ => ⟨fun h => absurd HA.out h, fun _ => ⟨g, rfl, HSN.out.ge, mp, my, _, R, HX4.out, HPY.out.1.same rfl, HPY.out.2.same rfl, owni_drewN (row_base HO4.out HSN.out.bel.size) nn, HR1.out, HR.out.2.1, HPR2.out⟩⟩⟩

end Go.Proofs.YtejicboemkpeoaaDoor

namespace Go.Proofs.YtejicboemkpeoaaDoor
open Go Go.RowKit

/-- The image that an address is in. -/
def atI (R : List Img) (x : Nat) : Option Img := match R.find? (fun y => decide (x < y.hi)) with | some y => if x < y.lo then none else some y | none => none
theorem find_first {α : Type} (p : α → Bool) : ∀ (R : List α) (j : Nat), (∀ t y, t < j → R[t]? = some y → p y = false) → (∀ y, R[j]? = some y → p y = true) → R.find? p = R[j]?
  | [], j, _, _ => by simp
  | x :: R, 0, _, h2 => by simp [h2 x (by simp)]
  | x :: R, j + 1, h1, h2 => by
    have hx := h1 0 x (Nat.zero_lt_succ _) (by simp)
    simp only [List.find?_cons, hx, List.getElem?_cons_succ]
    exact find_first p R j (fun t y ht hy => h1 (t + 1) y (by omega) (by simpa using hy)) (fun y hy => h2 y (by simpa using hy))

/-- A map in memory, as far as its images go: nobody, or one that has them. -/
def ImgsAt (w : World) (v : Value) (R : List Img) : Prop :=
  (v = .pointer none ∧ R = []) ∨ ∃ g m0 m2 A c B, v = .pointer (some ⟨g, 0, none⟩) ∧ Box w g 77 #[m0, .slice A R.length c, m2] ∧ Row 4 Img.cells w B A R ∧ B ≤ w.heap.size
theorem ImgsAt.below {w w' : World} {v : Value} {R : List Img} (h : ImgsAt w v R) (hb : Below w.heap.size w w') : ImgsAt w' v R := by
  rcases h with h | ⟨g, m0, m2, A, c, B, rfl, hX, hR, hB⟩
  · exact .inl h
  · exact .inr ⟨g, m0, m2, A, c, B, rfl, hX.below hb hX.lt, hR.below (hb.mono hB), Nat.le_trans hB hb.size⟩
theorem LinkG.imgs {w : World} {base g : Nat} {O : List ObjV} {P : List Place} {Y : List Named} (h : LinkG w base g O P Y) : ∃ R, ImgsAt w (.pointer (some ⟨g, 0, none⟩)) R ∧ R.Perm (imgsP O P) ∧ RiseI R ∧ PartI R := by
  obtain ⟨mp, my, u, R, hX, hP, hY, hO, h1, h2, h3⟩ := h.at_
  obtain ⟨A, c, rfl, _, _, hR⟩ := owni_row hO
  exact ⟨R, .inr ⟨g, _, _, A, c, _, rfl, hX, hR, Nat.le_refl _⟩, h1, h2, h3⟩

set_option maxHeartbeats 400000 in
theorem at1_any {W : World} {g g2 g3 B i : Nat} {m0 m2 : Value} {A : Option Addr} {c addr : Nat} {R : List Img} {x : Img} (hX : Box W g 77 #[m0, .slice A R.length c, m2]) (h2 : W.cell? ⟨g2, 0, none⟩ = some (.pointer (some ⟨g, 0, none⟩))) (h3 : W.cell? ⟨g3, 0, none⟩ = some (.int .u64 (addr : Int))) (hR : Row 4 Img.cells W B A R) (hx : R[i]? = some x) :
    Calls Tryd.prog 47 #[.int .i64 (i : Int), .pointer (some ⟨g3, 0, none⟩), .pointer (some ⟨g2, 0, none⟩)] W fun r w' => r = .returned (.bool (decide (addr < x.hi))) ∧ ∃ n, w' = W.drewN n := by
  obtain ⟨b, o, rfl, hb, c0, c1, c2, c3⟩ := img_at hR hx
  obtain ⟨N, hN⟩ : ∃ N, R.length = N := ⟨_, rfl⟩
  have hiN : i < N := hN ▸ (List.getElem?_eq_some_iff.1 hx).1
  rw [hN] at hX
  have x1 := hX.cell 1
  simp at x1
  clear hX hR hx hN c0 c2 c3
  generalize x.hi = xh at *
  go_enter Tryd.func47, Tryd.ntmps47
  go_wp2_with fail
  go_quiet (fail)
  go_wp2_with fail
  go_ret
  refine ⟨?_, nq, rfl⟩
  first | rfl | simp

set_option maxHeartbeats 800000 in
theorem search_any {w : World} {N : Nat} {cb : Array Value} (p : Nat → Bool) (hN : N ≤ 100000) (hf : ∀ q k, k < N → Calls Tryd.prog 47 (#[.int .i64 (k : Int)] ++ cb) (w.drewN q) fun r w' => r = .returned (.bool (p k)) ∧ ∃ n, w' = (w.drewN q).drewN n) (hm : ∀ a b, a ≤ b → b < N → p a = true → p b = true) :
    Calls Tryd.prog 46 #[.int .i64 (N : Int), .func (.func 47) #[] cb] w fun r w' => ∃ j : Nat, r = .returned (.int .i64 (j : Int)) ∧ j ≤ N ∧ (∀ t, t < j → p t = false) ∧ (∀ t, j ≤ t → t < N → p t = true) ∧ ∃ n, w' = w.drewN n := by
  have HF := Lib.hid hf
  have M := Lib.hid hm
  clear hf hm
  go_enter Tryd.func46, Tryd.ntmps46
  go_wp2
  go_loopg [5, 6] N (fun kx s5 s6 wr => ∃ (lo hi q : Nat), s5 = .int .i64 lo ∧ s6 = .int .i64 hi ∧ lo ≤ hi ∧ hi ≤ N ∧ hi - lo ≤ kx ∧ Hid (wr = w.drewN q) ∧ Hid ((∀ t, t < lo → p t = false) ∧ (∀ t, hi ≤ t → t < N → p t = true)))
  case atStart => exact ⟨0, N, 0, rfl, rfl, Nat.zero_le _, Nat.le_refl _, by omega, Lib.hid rfl, Lib.hid ⟨fun t ht => absurd ht (Nat.not_lt_zero _), fun t h1 h2 => by omega⟩⟩
  case round =>
    obtain ⟨lo, hi, q, rfl, rfl, hlh, hin, hg, HW, I⟩ := hrel
    by_cases hlt : lo < hi
    · have hc := HF.out q ((lo + hi) / 2) (by omega)
      rw [← HW.out] at hc
      rw [show (((lo + hi) / 2 : Nat) : Int) = ((lo : Int) + (hi : Int)) / 2 by omega] at hc
      cases hp : p ((lo + hi) / 2) <;> rw [hp] at hc
      · have HP := Lib.hid hp
        clear hp
        go_wp2_with fail
        refine hc.mono ?_
        rintro e w' ⟨rfl, nq, hw'⟩
        have HW' := Lib.hid hw'
        clear hw'
        go_wp2_with fail
        go_roundg (hi - ((lo + hi) / 2 + 1))
        case measure => omega
        case rel =>
          have I2 := Lib.hid (show (∀ t, t < (lo + hi) / 2 + 1 → p t = false) ∧ (∀ t, hi ≤ t → t < N → p t = true) from ⟨fun t ht => (by
            cases h : p t with
            | false => rfl
            | true => have := M.out t ((lo + hi) / 2) (by omega) (by omega) h; rw [HP.out] at this; cases this), I.out.2⟩)
          exact ⟨(lo + hi) / 2 + 1, hi, q + nq, by rw [show ((lo : Int) + (hi : Int)) / 2 + 1 = (((lo + hi) / 2 + 1 : Nat) : Int) by omega], rfl, by omega, hin, Nat.le_refl _, Lib.hid (by rw [HW'.out, HW.out, World.drewN_drewN]), I2⟩
      · have HP := Lib.hid hp
        clear hp
        go_wp2_with fail
        refine hc.mono ?_
        rintro e w' ⟨rfl, nq, hw'⟩
        have HW' := Lib.hid hw'
        clear hw'
        go_wp2_with fail
        go_roundg ((lo + hi) / 2 - lo)
        case measure => omega
        case rel =>
          have I2 := Lib.hid (show (∀ t, t < lo → p t = false) ∧ (∀ t, (lo + hi) / 2 ≤ t → t < N → p t = true) from ⟨I.out.1, fun t ht htn => M.out ((lo + hi) / 2) t ht htn HP.out⟩)
          exact ⟨lo, (lo + hi) / 2, q + nq, rfl, by rw [show ((lo : Int) + (hi : Int)) / 2 = (((lo + hi) / 2 : Nat) : Int) by omega], by omega, by omega, Nat.le_refl _, Lib.hid (by rw [HW'.out, HW.out, World.drewN_drewN]), I2⟩
    · obtain rfl : hi = lo := by omega
      go_wp2
      go_ret
      exact ⟨hi, rfl, hin, I.out.1, I.out.2, q, HW.out⟩

/-- What holds behind the first image that ends above an address. -/
theorem hi_rise {R : List Img} (hr : PartI R) (hb : ∀ x ∈ R, x.lo ≤ x.hi) {a b : Nat} {x y : Img} (hab : a ≤ b) (hx : R[a]? = some x) (hy : R[b]? = some y) : x.hi ≤ y.hi := by
  rcases Nat.lt_or_ge a b with h | h
  · obtain ⟨ha, rfl⟩ := List.getElem?_eq_some_iff.1 hx
    obtain ⟨hb', rfl⟩ := List.getElem?_eq_some_iff.1 hy
    exact Nat.le_trans (List.pairwise_iff_getElem.1 hr a b ha hb' h) (hb _ (List.getElem_mem hb'))
  · have e : a = b := by omega
    subst e
    rw [hx] at hy
    injection hy with hy
    rw [hy]; exact Nat.le_refl _

set_option maxRecDepth 10000 in
set_option maxHeartbeats 800000 in
theorem lat_any {w : World} {v : Value} {R : List Img} (h : ImgsAt w v R) (hr : PartI R) (hb : ∀ x ∈ R, x.lo ≤ x.hi) (hl : R.length ≤ 100000) (addr : Nat) :
    Calls Tryd.prog 32 #[v, .int .u64 (addr : Int)] w fun r w' => r = .returned (.tuple #[imgV ((atI R addr).getD noneI), .bool (atI R addr).isSome]) ∧ Below w.heap.size w w' := by
  generalize hw0 : ((w.alloc (.cells #[v] 32)).alloc (.cells #[.int .u64 (addr : Int)] 41)).alloc (.cells #[.int .u64 0, .int .u64 0, .int .i64 0, .int .i64 0] 83) = w0 at *
  have hb0 : Below w.heap.size w w0 := hw0 ▸ (((Below.refl _ _).alloc (Nat.le_refl _) _).alloc (by simp) _).alloc (by simp; omega) _
  have hs0 : w0.heap.size = w.heap.size + 3 := by rw [← hw0]; simp
  have hX0 : Box w0 w.heap.size 32 #[v] := by
    rw [← hw0]
    exact ((Box.new w _ _).below ((Below.refl _ _).alloc (Nat.le_refl _) _) (by simp)).below ((Below.refl _ _).alloc (Nat.le_refl _) _) (by simp; omega)
  have hX1 : Box w0 (w.heap.size + 1) 41 #[.int .u64 (addr : Int)] := by
    rw [← hw0]
    have h1 := Box.new (w.alloc (.cells #[v] 32)) 41 #[.int .u64 (addr : Int)]
    rw [show (w.alloc (.cells #[v] 32)).heap.size = w.heap.size + 1 by simp] at h1
    exact h1.below ((Below.refl _ _).alloc (Nat.le_refl _) _) (by simp)
  have hX2 : Box w0 (w.heap.size + 1 + 1) 83 #[.int .u64 0, .int .u64 0, .int .i64 0, .int .i64 0] := by
    rw [← hw0]
    have h1 := Box.new ((w.alloc (.cells #[v] 32)).alloc (.cells #[.int .u64 (addr : Int)] 41)) 83 #[.int .u64 0, .int .u64 0, .int .i64 0, .int .i64 0]
    rw [show ((w.alloc (.cells #[v] 32)).alloc (.cells #[.int .u64 (addr : Int)] 41)).heap.size = w.heap.size + 1 + 1 by simp] at h1
    exact h1
  have HB0 := Lib.hid hb0
  rcases h with ⟨rfl, rfl⟩ | ⟨g, m0, m2, A, c, B, rfl, hX, hR, hB⟩
  · have HZ := Lib.hid hX2
    have y0 := hX0.cell 0
    have y1 := hX1.cell 0
    simp only [List.getElem?_toArray, List.getElem?_cons_zero] at y0 y1
    obtain ⟨z0, z1, z2, z3⟩ := four_cells hX2
    obtain ⟨f0, f1, f2, f3⟩ := four_free hX2
    clear hX0 hX1 hX2 hb0 hr hb hl
    go_enter Tryd.func32, Tryd.ntmps32
    go_upto_region 1 with fail
    try rw [hw0]
    clear hw0
    repeat (first | go_skip | go_guarded | go_step | go_upon)
    refine ret_two Tryd.underlying83 Tryd.results32 (img_box HZ.out rfl _ _ _ _) (by kernel_rfl) (by rfl) rfl ?_
    exact ⟨rfl, below_put HB0.out (by omega) _ _ _ _⟩
  · obtain ⟨N, hN⟩ : ∃ N, R.length = N := ⟨_, rfl⟩
    have hX' := hX.below hb0 hX.lt
    have hR' := hR.below (hb0.mono hB)
    have HS := Lib.hid (search_any (w := w0) (N := N) (cb := #[.pointer (some ⟨w.heap.size + 1, 0, none⟩), .pointer (some ⟨w.heap.size, 0, none⟩)]) (fun k => match R[k]? with | some x => decide (addr < x.hi) | none => true) (by omega)
      (fun q k hk => by
        obtain ⟨x, hx⟩ : ∃ x, R[k]? = some x := ⟨_, List.getElem?_eq_getElem (by rw [hN]; exact hk)⟩
        have hq := below_drewN (Below.refl w0.heap.size w0) q
        have h1 := at1_any (addr := addr) (hX'.below hq hX'.lt) (by rw [(hX0.below hq hX0.lt).cell]; rfl) (by rw [(hX1.below hq hX1.lt).cell]; rfl) (hR'.drewN q) hx
        simp only [hx]
        exact h1)
      (fun a b hab hbN h => by
        obtain ⟨x, hx⟩ : ∃ x, R[a]? = some x := ⟨_, List.getElem?_eq_getElem (by omega)⟩
        obtain ⟨y, hy⟩ : ∃ y, R[b]? = some y := ⟨_, List.getElem?_eq_getElem (by omega)⟩
        have := hi_rise hr hb hab hx hy
        simp only [hx, hy, decide_eq_true_eq] at h ⊢
        omega))
    have hfi : ∀ j : Nat, (∀ t, t < j → (match R[t]? with | some x => decide (addr < x.hi) | none => true) = false) → (∀ t, j ≤ t → t < N → (match R[t]? with | some x => decide (addr < x.hi) | none => true) = true) → R.find? (fun y => decide (addr < y.hi)) = R[j]? := fun j h1 h2 => by
      refine find_first _ R j (fun t y ht hy => ?_) (fun y hy => ?_)
      · have := h1 t ht
        simpa only [hy] using this
      · have := h2 j (Nat.le_refl _) (by rw [← hN]; exact (List.getElem?_eq_some_iff.1 hy).1)
        simpa only [hy] using this
    have HFI := Lib.hid hfi
    have HN := Lib.hid hN
    have HRR := Lib.hid hR'
    have HX2 := Lib.hid (fun n => hX2.below (below_drewN (Below.refl w0.heap.size w0) n) hX2.lt)
    have y0 := hX0.cell 0
    have y1 := hX1.cell 0
    have x1 := hX'.cell 1
    simp only [List.getElem?_toArray, List.getElem?_cons_zero, List.getElem?_cons_succ] at y0 y1 x1
    rw [hN] at x1
    have hmf : ∀ (fn : Fn) (first cap : Array Value) (W : World), (Instr.makeFunc fn first cap).run Tryd.prog W = .ok (.func fn first cap) W := fun _ _ _ _ => rfl
    have hlN : N ≤ 100000 := by omega
    obtain ⟨z0, z1, z2, z3⟩ := four_cells hX2
    obtain ⟨f0, f1, f2, f3⟩ := four_free hX2
    clear hX0 hX1 hX2 hb0 hr hb hl hX hR hB hX' hR' hfi hN
    go_enter Tryd.func32, Tryd.ntmps32
    go_upto_region 1 with fail
    try rw [hw0]
    clear hw0
    go_upto_region 4 with (go_at_call 46; refine HS.out.mono ?_; rintro r w1 ⟨j, rfl, hj, h1, h2, n, rfl⟩; have HF := Lib.hid (HFI.out j h1 h2); clear h1 h2 HS HFI)
    by_cases hjN : j < N
    · obtain ⟨x, hx⟩ : ∃ x, R[j]? = some x := ⟨_, List.getElem?_eq_getElem (by rw [HN.out]; exact hjN)⟩
      obtain ⟨b, o, rfl, hb, c0, c1, c2, c3⟩ := img_at HRR.out hx
      rw [hx] at HF
      have hjd : decide (j = N) = false := decide_eq_false (by omega)
      have hjd2 : ((j : Int) == (N : Int)) = false := by simp; omega
      have hjd3 : ¬ (j : Int) = (N : Int) := by omega
      by_cases hal : addr < x.lo
      · have HE := Lib.hid (show atI R addr = none by unfold atI; rw [HF.out]; simp [hal])
        have hd1 : decide ((addr : Int) < (x.lo : Int)) = true := decide_eq_true (by omega)
        have hd2 : decide (addr < x.lo) = true := decide_eq_true hal
        clear hx HRR HF
        generalize x.lo = xl at *
        generalize x.hi = xh at *
        generalize x.obj = xo at *
        generalize x.sect = xs at *
        go_quiet (fail)
        have HZ := Lib.hid (HX2.out (n + nq))
        repeat (first | go_skip | go_guarded | go_step | go_upon)
        refine ret_two Tryd.underlying83 Tryd.results32 (img_box HZ.out rfl _ _ _ _) (by kernel_rfl) (by rfl) rfl ?_
        exact ⟨by rw [HE.out]; rfl, below_put (below_drewN HB0.out _) (by omega) _ _ _ _⟩
      · have HE := Lib.hid (show atI R addr = some x by unfold atI; rw [HF.out]; simp [hal])
        have hd1 : decide ((addr : Int) < (x.lo : Int)) = false := decide_eq_false (by omega)
        have hd2 : decide (addr < x.lo) = false := decide_eq_false hal
        clear hx HRR HF
        have HEQ := Lib.hid (show imgV x = .agg #[.int .u64 (x.lo : Int), .int .u64 (x.hi : Int), .int .i64 x.obj, .int .i64 x.sect] from rfl)
        generalize hxl : x.lo = xl at *
        generalize hxh : x.hi = xh at *
        generalize hxo : x.obj = xo at *
        generalize hxs : x.sect = xs at *
        clear hxl hxh hxo hxs
        go_quiet (fail)
        have HZ := Lib.hid (HX2.out (n + nq))
        repeat (first | go_skip | go_guarded | go_step | go_upon)
        refine ret_two Tryd.underlying83 Tryd.results32 (img_box HZ.out rfl _ _ _ _) (by kernel_rfl) (by rfl) rfl ?_
        exact ⟨by rw [HE.out]; show _ = Ending.returned (.tuple #[imgV x, .bool true]); rw [HEQ.out]; rfl, below_put (below_drewN HB0.out _) (by omega) _ _ _ _⟩
    · have hjN2 : j = N := by omega
      have HE := Lib.hid (show atI R addr = none by unfold atI; rw [HF.out, List.getElem?_eq_none (by rw [HN.out]; omega)])
      clear HRR HF HN hjN
      subst hjN2
      go_quiet (fail)
      have HZ := Lib.hid (HX2.out (n + nq))
      repeat (first | go_skip | go_guarded | go_step | go_upon)
      refine ret_two Tryd.underlying83 Tryd.results32 (img_box HZ.out rfl _ _ _ _) (by kernel_rfl) (by rfl) rfl ?_
      exact ⟨by rw [HE.out]; rfl, below_put (below_drewN HB0.out _) (by omega) _ _ _ _⟩

end Go.Proofs.YtejicboemkpeoaaDoor

namespace Go.Proofs.YtejicboemkpeoaaDoor
open Go Go.RowKit

theorem results_tmp4 {fn : Func} {t u v x : Tmp} (h : fn.results = #[.tmp t, .tmp u, .tmp v, .tmp x]) (tmps : Array Value) (P : Program) (w : World) :
    (results fn tmps).run P w = .ok (.tuple #[tmps.getD t undef, tmps.getD u undef, tmps.getD v undef, tmps.getD x undef]) w := by
  simp [results, h]
/-- Does a range lie in one image? -/
def wholeI (R : List Img) (lo hi : Nat) : Bool := match atI R lo with | some x => decide (lo < hi) && decide (hi ≤ x.hi) | none => false
def inT (x : Img) (a : Nat) : Value := .tuple #[.int .i64 x.obj, .int .i64 x.sect, .int .u64 ((a - x.lo : Nat) : Int), .bool true]
def inV (R : List Img) (a : Nat) : Value := match atI R a with | some x => inT x a | none => .tuple #[.int .i64 0, .int .i64 0, .int .u64 0, .bool false]
theorem atI_lo {R : List Img} {a : Nat} {x : Img} (h : atI R a = some x) : x.lo ≤ a ∧ a < x.hi ∧ x ∈ R := by
  unfold atI at h
  split at h
  · rename_i y hy
    split at h
    · cases h
    · injection h with h
      subst h
      have h2 := List.find?_some hy
      simp at h2
      exact ⟨by omega, h2, List.mem_of_find?_eq_some hy⟩
  · cases h

set_option maxRecDepth 10000 in
set_option maxHeartbeats 800000 in
theorem lhas_any {w : World} {v : Value} {R : List Img} (h : ImgsAt w v R) (hr : PartI R) (hb : ∀ x ∈ R, x.lo ≤ x.hi) (hl : R.length ≤ 100000) (addr : Nat) :
    Calls Tryd.prog 14 #[v, .int .u64 (addr : Int)] w fun r w' => r = .returned (.bool (atI R addr).isSome) ∧ Below w.heap.size w w' := by
  have HA := Lib.hid (lat_any h hr hb hl addr)
  clear h hr hb hl
  generalize atI R addr = z at *
  go_enter Tryd.func14, Tryd.ntmps14
  cases z with
  | none =>
    go_wp2_with (go_at_call 32; refine HA.out.mono ?_; rintro r w1 ⟨rfl, hb1⟩; have HB1 := Lib.hid hb1; clear hb1)
    go_ret
    exact ⟨rfl, HB1.out.alloc HB1.out.size _⟩
  | some x =>
    go_wp2_with (go_at_call 32; refine HA.out.mono ?_; rintro r w1 ⟨rfl, hb1⟩; have HB1 := Lib.hid hb1; clear hb1)
    go_ret
    exact ⟨rfl, HB1.out.alloc HB1.out.size _⟩

set_option maxRecDepth 10000 in
set_option maxHeartbeats 800000 in
theorem in_any {w : World} {v : Value} {R : List Img} (h : ImgsAt w v R) (hr : PartI R) (hb : ∀ x ∈ R, x.lo ≤ x.hi) (hl : R.length ≤ 100000) (addr : Nat) (ha : addr < two64) :
    Calls Tryd.prog 12 #[v, .int .u64 (addr : Int)] w fun r w' => r = .returned (inV R addr) ∧ Below w.heap.size w w' := by
  have HA := Lib.hid (lat_any h hr hb hl addr)
  clear h hr hb hl
  have HE := Lib.hid (show inV R addr = inV R addr from rfl)
  have hlo : ∀ x, atI R addr = some x → x.lo ≤ addr := fun x hx => (atI_lo hx).1
  unfold inV at *
  generalize atI R addr = z at *
  clear HE
  cases z with
  | none =>
    go_enter Tryd.func12, Tryd.ntmps12
    go_wp2_with (go_at_call 32; refine HA.out.mono ?_; rintro r w1 ⟨rfl, hb1⟩; have HB1 := Lib.hid hb1; clear hb1)
    refine bodyPost_ret (results_tmp4 Tryd.results12 _ _ _) rfl ?_
    exact ⟨rfl, HB1.out.alloc HB1.out.size _⟩
  | some x =>
    have hle := hlo x rfl
    have hwr : IntKind.u64.wrap ((addr : Int) - (x.lo : Int)) = ((addr - x.lo : Nat) : Int) := by
      rw [IntKind.wrap_u64]
      unfold two64 at ha
      omega
    have HEQ := Lib.hid (show inT x addr = .tuple #[.int .i64 x.obj, .int .i64 x.sect, .int .u64 ((addr - x.lo : Nat) : Int), .bool true] from rfl)
    clear hlo ha hle
    go_enter Tryd.func12, Tryd.ntmps12
    go_upto_region 4 with (go_at_call 32; refine HA.out.mono ?_; rintro r w1 ⟨rfl, hb1⟩; have HB1 := Lib.hid hb1; clear hb1)
    have hx2 := Box.new w1 83 #[.int .u64 (x.lo : Int), .int .u64 (x.hi : Int), .int .i64 x.obj, .int .i64 x.sect]
    have HB2 := Lib.hid (HB1.out.alloc HB1.out.size (.cells #[.int .u64 (x.lo : Int), .int .u64 (x.hi : Int), .int .i64 x.obj, .int .i64 x.sect] 83))
    obtain ⟨z0, z1, z2, z3⟩ := four_cells hx2
    generalize w1.alloc (.cells #[.int .u64 (x.lo : Int), .int .u64 (x.hi : Int), .int .i64 x.obj, .int .i64 x.sect] 83) = w2 at *
    clear hx2
    generalize x.lo = xl at *
    generalize x.hi = xh at *
    generalize x.obj = xo at *
    generalize x.sect = xs at *
    go_quiet (fail)
    go_wp2_with fail
    refine bodyPost_ret (results_tmp4 Tryd.results12 _ _ _) rfl ?_
    exact ⟨by show _ = Ending.returned (inT x addr); rw [HEQ.out]; rfl, below_drewN HB2.out _⟩

set_option maxRecDepth 10000 in
set_option maxHeartbeats 800000 in
theorem whole_any {w : World} {v : Value} {R : List Img} (h : ImgsAt w v R) (hr : PartI R) (hb : ∀ x ∈ R, x.lo ≤ x.hi) (hl : R.length ≤ 100000) (lo hi : Nat) :
    Calls Tryd.prog 15 #[v, .agg #[.int .u64 (lo : Int), .int .u64 (hi : Int)]] w fun r w' => r = .returned (.bool (wholeI R lo hi)) ∧ Below w.heap.size w w' := by
  generalize hw0 : w.alloc (.cells #[.int .u64 (lo : Int), .int .u64 (hi : Int)] 58) = w0 at *
  have hb0 : Below w.heap.size w w0 := hw0 ▸ (Below.refl _ _).alloc (Nat.le_refl _) _
  have hs0 : w.heap.size < w0.heap.size := by rw [← hw0]; simp
  have hX := Box.new w 58 #[.int .u64 (lo : Int), .int .u64 (hi : Int)]
  rw [hw0] at hX
  have HX := Lib.hid (fun W (hW : Below w0.heap.size w0 W) => (⟨by rw [(hX.below hW hs0).cell]; rfl, by rw [(hX.below hW hs0).cell]; rfl⟩ : W.cell? ⟨w.heap.size, 0, none⟩ = some (.int .u64 (lo : Int)) ∧ W.cell? ⟨w.heap.size, 1, none⟩ = some (.int .u64 (hi : Int))))
  have HB0 := Lib.hid hb0
  have HA := Lib.hid (lat_any (h.below hb0) hr hb hl lo)
  obtain ⟨x0, x1⟩ := HX.out _ (Below.refl _ _)
  clear h hr hb hl hX hb0
  unfold wholeI
  generalize atI R lo = z at *
  go_enter Tryd.func15, Tryd.ntmps15
  go_upto_region 1 with fail
  try rw [hw0]
  clear hw0
  cases z with
  | none =>
    go_wp2_with (go_at_call 32; refine HA.out.mono ?_; rintro r w1 ⟨rfl, hb1⟩; have HB1 := Lib.hid hb1; clear hb1)
    go_wp2_with fail
    go_ret
    exact ⟨rfl, HB0.out.trans ((HB1.out.alloc HB1.out.size _).mono HB0.out.size)⟩
  | some x =>
    go_upto_region 2 with (go_at_call 32; refine HA.out.mono ?_; rintro r w1 ⟨rfl, hb1⟩; have HB1 := Lib.hid hb1; clear hb1)
    have hx2 := Box.new w1 83 #[.int .u64 (x.lo : Int), .int .u64 (x.hi : Int), .int .i64 x.obj, .int .i64 x.sect]
    have HB2 := Lib.hid (HB1.out.alloc HB1.out.size (.cells #[.int .u64 (x.lo : Int), .int .u64 (x.hi : Int), .int .i64 x.obj, .int .i64 x.sect] 83))
    obtain ⟨z0, z1, z2, z3⟩ := four_cells hx2
    generalize w1.alloc (.cells #[.int .u64 (x.lo : Int), .int .u64 (x.hi : Int), .int .i64 x.obj, .int .i64 x.sect] 83) = w2 at *
    obtain ⟨y0, y1⟩ := HX.out _ HB2.out
    have hd1 : decide ((lo : Int) < (hi : Int)) = decide (lo < hi) := by simp
    have hd2 : decide ((hi : Int) ≤ (x.hi : Int)) = decide (hi ≤ x.hi) := by simp
    clear hx2 x0 x1 HA HX
    generalize x.lo = xl at *
    generalize hxh : x.hi = xh at *
    have HXH := Lib.hid hxh
    clear hxh
    generalize x.obj = xo at *
    generalize x.sect = xs at *
    by_cases h1 : lo < hi
    · have e1 : decide (lo < hi) = true := decide_eq_true h1
      by_cases h2 : hi ≤ xh
      · have e2 : decide (hi ≤ xh) = true := decide_eq_true h2
        rw [e1] at hd1
        rw [e2] at hd2
        go_wp2_with fail
        go_ret
        exact ⟨congrArg (fun b => Ending.returned (Value.bool b)) (by first | rfl | (rw [HXH.out]; exact e2.symm)), HB0.out.trans (HB2.out.mono HB0.out.size)⟩
      · have e2 : decide (hi ≤ xh) = false := decide_eq_false h2
        rw [e1] at hd1
        rw [e2] at hd2
        go_wp2_with fail
        go_ret
        exact ⟨congrArg (fun b => Ending.returned (Value.bool b)) (by first | rfl | (rw [HXH.out]; exact e2.symm)), HB0.out.trans (HB2.out.mono HB0.out.size)⟩
    · have e1 : decide (lo < hi) = false := decide_eq_false h1
      rw [e1] at hd1
      clear hd2
      go_wp2_with fail
      go_ret
      exact ⟨congrArg (fun b => Ending.returned (Value.bool b)) (by first | rfl | (rw [HXH.out]; exact e2.symm)), HB0.out.trans (HB2.out.mono HB0.out.size)⟩

end Go.Proofs.YtejicboemkpeoaaDoor

namespace Go.Proofs.YtejicboemkpeoaaDoor
open Go Go.RowKit

/-- A map in memory, as far as its places go: nobody, or one that has them. -/
def PlacesAt (w : World) (v : Value) (P : List Place) : Prop :=
  (v = .pointer none ∧ P = []) ∨ ∃ g m0 v1 v2, v = .pointer (some ⟨g, 0, none⟩) ∧ Box w g 77 #[m0, v1, v2] ∧ ((m0 = .map none ∧ P = []) ∨ ∃ mp base, m0 = .map (some mp) ∧ PMap w base mp P)
/-- The same of its symbols. -/
def SymsAt (w : World) (v : Value) (Y : List Named) : Prop :=
  (v = .pointer none ∧ Y = []) ∨ ∃ g m2 v0 v1, v = .pointer (some ⟨g, 0, none⟩) ∧ Box w g 77 #[v0, v1, m2] ∧ ((m2 = .map none ∧ Y = []) ∨ ∃ my base, m2 = .map (some my) ∧ YMap w base my Y)
theorem PlacesAt.below {w w' : World} {v : Value} {P : List Place} (h : PlacesAt w v P) (hb : Below w.heap.size w w') : PlacesAt w' v P := by
  rcases h with h | ⟨g, m0, v1, v2, rfl, hX, h⟩
  · exact .inl h
  · refine .inr ⟨g, m0, v1, v2, rfl, hX.below hb hX.lt, ?_⟩
    rcases h with h | ⟨mp, base, rfl, h⟩
    · exact .inl h
    · exact .inr ⟨mp, base, rfl, h.same (hb.block _ h.lt)⟩
theorem SymsAt.below {w w' : World} {v : Value} {Y : List Named} (h : SymsAt w v Y) (hb : Below w.heap.size w w') : SymsAt w' v Y := by
  rcases h with h | ⟨g, m0, v1, v2, rfl, hX, h⟩
  · exact .inl h
  · refine .inr ⟨g, m0, v1, v2, rfl, hX.below hb hX.lt, ?_⟩
    rcases h with h | ⟨mp, base, rfl, h⟩
    · exact .inl h
    · exact .inr ⟨mp, base, rfl, h.same (hb.block _ h.lt)⟩
theorem LinkG.places {w : World} {base g : Nat} {O : List ObjV} {P : List Place} {Y : List Named} (h : LinkG w base g O P Y) : PlacesAt w (.pointer (some ⟨g, 0, none⟩)) P := by
  obtain ⟨mp, my, u, R, hX, hP, hY, hO, h1, h2, h3⟩ := h.at_
  exact .inr ⟨g, _, _, _, rfl, hX, .inr ⟨mp, base, rfl, hP⟩⟩
theorem LinkG.syms {w : World} {base g : Nat} {O : List ObjV} {P : List Place} {Y : List Named} (h : LinkG w base g O P Y) : SymsAt w (.pointer (some ⟨g, 0, none⟩)) Y := by
  obtain ⟨mp, my, u, R, hX, hP, hY, hO, h1, h2, h3⟩ := h.at_
  exact .inr ⟨g, _, _, _, rfl, hX, .inr ⟨my, base, rfl, hY⟩⟩

set_option maxHeartbeats 400000 in
theorem lnout_any {w : World} {v : Value} {P : List Place} (h : PlacesAt w v P) {o s : Int} (ho : InI o) (hs : InI s) :
    Calls Tryd.prog 10 #[v, .int .i64 o, .int .i64 s] w fun r w' => r = .returned (.tuple #[.int .u64 ((outA P o s : Nat) : Int), .bool (outK P o s).isSome]) ∧ w' = w := by
  rcases h with ⟨rfl, rfl⟩ | ⟨g, m0, v1, v2, rfl, hX, h⟩
  · go_enter Tryd.func10, Tryd.ntmps10
    go_wp2_with fail
    go_ret2
    exact ⟨rfl, rfl⟩
  · have hl : (Instr.lookup 73 m0 (.agg #[.int .i64 o, .int .i64 s]) true).run Tryd.prog w = .ok (.tuple #[.int .u64 ((outA P o s : Nat) : Int), .bool (outK P o s).isSome]) w := by
      rcases h with ⟨rfl, rfl⟩ | ⟨mp, base, rfl, h⟩
      · exact Maps.look_nil true sec_law Tryd.underlying73 (zero_u64 w) (key_sec ho hs)
      · exact h.look ho hs
    have x0 := hX.cell 0
    simp only [List.getElem?_toArray, List.getElem?_cons_zero] at x0
    clear hX h
    generalize outA P o s = oa at *
    generalize (outK P o s).isSome = ok at *
    go_enter Tryd.func10, Tryd.ntmps10
    go_wp2_with fail
    go_ret2
    exact ⟨rfl, rfl⟩

set_option maxHeartbeats 400000 in
theorem lnsym_any {w : World} {v : Value} {Y : List Named} (h : SymsAt w v Y) {n : List UInt8} (hn : n.length ≤ maxLen) :
    Calls Tryd.prog 17 #[v, .string ⟨n.toArray⟩] w fun r w' => r = .returned (.int .u64 ((nameA Y n : Nat) : Int)) ∧ w' = w := by
  rcases h with ⟨rfl, rfl⟩ | ⟨g, m0, v1, v2, rfl, hX, h⟩
  · go_enter Tryd.func17, Tryd.ntmps17
    go_wp2_with fail
    go_ret
    exact ⟨rfl, rfl⟩
  · obtain ⟨c, hl, hc⟩ : ∃ c : Int, (Instr.lookup 75 m0 (.string ⟨n.toArray⟩) true).run Tryd.prog w = .ok (.tuple #[.int .u64 c, .bool (nameK Y n).isSome]) w ∧ ((nameK Y n).isSome = true → c = (nameA Y n : Nat)) := by
      rcases h with ⟨rfl, rfl⟩ | ⟨mp, base, rfl, h⟩
      · exact ⟨0, Maps.look_nil true string_law Tryd.underlying75 (zero_u64 w) (key_text n hn), fun h => by cases h⟩
      · exact h.look hn
    have hno : (nameK Y n).isSome = false → nameA Y n = 18446744073709551615 := fun e => by
      unfold nameA
      cases hk : nameK Y n with
      | none => rfl
      | some k => rw [hk] at e; cases e
    have HNO := Lib.hid hno
    have HC := Lib.hid hc
    have x0 := hX.cell 2
    simp only [List.getElem?_toArray, List.getElem?_cons_zero, List.getElem?_cons_succ] at x0
    clear hX h hno hc
    generalize ByteArray.mk n.toArray = t at *
    generalize (nameK Y n).isSome = ok at *
    generalize nameA Y n = na at *
    go_enter Tryd.func17, Tryd.ntmps17
    cases ok with
    | true =>
      have HE := Lib.hid (HC.out rfl)
      go_wp2_with fail
      go_ret
      exact ⟨by rw [← HE.out]; rfl, rfl⟩
    | false =>
      have HE := Lib.hid (HNO.out rfl)
      go_wp2_with fail
      go_ret
      exact ⟨by rw [HE.out]; rfl, rfl⟩

end Go.Proofs.YtejicboemkpeoaaDoor

namespace Go.Proofs.YtejicboemkpeoaaDoor
open Go Go.RowKit

abbrev OwnSp (w : World) (base : Nat) (v : Value) (L : List Span) : Prop := w.ownsRow base 58 2 v L.length (cellsF Span.cells L)
theorem span_info : (Tryd.prog.info? 58).map (fun i => (i.zero, i.size, i.bytes)) = some (some (.agg #[.int .u64 0, .int .u64 0]), 2, 16) := by kernel_rfl
theorem owng_row {w : World} {base : Nat} {v : Value} {L : List Span} (h : OwnSp w base v L) : ∃ A c, v = .slice A L.length c ∧ L.length ≤ c ∧ c ≤ maxLen ∧ Row 2 Span.cells w w.heap.size A L := own_row span_two h

set_option maxRecDepth 10000 in
set_option maxHeartbeats 800000 in
theorem images_any {w : World} {v : Value} {R : List Img} (h : ImgsAt w v R) (hl : R.length ≤ 100000) :
    Calls Tryd.prog 20 #[v] w fun r w' => ∃ u, r = .returned u ∧ OwnSp w' w.heap.size u (R.map Img.span) ∧ Below w.heap.size w w' := by
  rcases h with ⟨rfl, rfl⟩ | ⟨g, m0, m2, A, c, B, rfl, hX, hR, hB⟩
  · go_enter Tryd.func20, Tryd.ntmps20
    go_wp2_with fail
    go_ret
    exact ⟨_, rfl, World.ownsRow_nil _ _ _ _, Below.refl _ _⟩
  · obtain ⟨i1, hj, hy0, hy1, hy2⟩ := info_parts span_info
    obtain ⟨N, hN⟩ : ∃ N, R.length = N := ⟨_, rfl⟩
    have HN := Lib.hid hN
    have HR := Lib.hid (fun W (hW : Below w.heap.size w W) => hR.below (hW.mono hB))
    have x1 := hX.cell 1
    simp only [List.getElem?_toArray, List.getElem?_cons_zero, List.getElem?_cons_succ] at x1
    rw [hN] at x1 hl
    clear hX hR hB hN
    go_enter Tryd.func20, Tryd.ntmps20
    go_wp2_with fail
    clear x1
    go_loopg [3, 13] N (fun gk u i wr => ∃ k : Nat, k ≤ N ∧ gk = N - k ∧ i = .int .i64 k ∧ Hid (OwnSp wr w.heap.size u ((R.take k).map Img.span)) ∧ Hid (Below w.heap.size w wr))
    case atStart => exact ⟨0, Nat.zero_le _, rfl, rfl, Lib.hid (World.ownsRow_nil _ _ _ _), Lib.hid (Below.refl _ _)⟩
    case round =>
      obtain ⟨k, hk, rfl, rfl, HO, HB⟩ := hrel
      by_cases hlt : k < N
      · obtain ⟨x, hx⟩ : ∃ x, R[k]? = some x := ⟨_, List.getElem?_eq_getElem (by rw [HN.out]; exact hlt)⟩
        obtain ⟨b, o, rfl, hb, c0, c1, c2, c3⟩ := img_at (HR.out _ HB.out) hx
        have HLT := Lib.hid hlt
        have htk : ((R.take k).map Img.span).length = k := by rw [List.length_map, List.length_take, HN.out]; omega
        have HTKL := Lib.hid htk
        have HTK := Lib.hid (show (R.take (k + 1)).map Img.span = (R.take k).map Img.span ++ [x.span] by
          rw [List.take_add_one, hx, List.map_append]; rfl)
        have HOK := Lib.hid (show World.ownsRow wr w.heap.size 58 2 _ k (cellsF Span.cells ((R.take k).map Img.span)) from by have h := HO.out; unfold OwnSp at h; rwa [htk] at h)
        have h63 : k + 1 ≤ maxLen := by unfold maxLen; omega
        have hby : (k + 1) * 16 ≤ 140737488355328 := by omega
        have hA := ((Below.refl wr.heap.size wr).alloc (Nat.le_refl _) (.cells #[.int .u64 (x.lo : Int), .int .u64 (x.hi : Int), .int .i64 x.obj, .int .i64 x.sect] 83))
        have hx2 := Box.new wr 83 #[.int .u64 (x.lo : Int), .int .u64 (x.hi : Int), .int .i64 x.obj, .int .i64 x.sect]
        obtain ⟨z0, z1, z2, z3⟩ := four_cells hx2
        have hs2 : (wr.alloc (.cells #[.int .u64 (x.lo : Int), .int .u64 (x.hi : Int), .int .i64 x.obj, .int .i64 x.sect] 83)).heap.size = wr.heap.size + 1 := by simp
        have HS2 := Lib.hid hs2
        have HOW := Lib.hid (row_below HOK.out (hA.trans (((Below.refl _ _).alloc (Nat.le_refl _) (.cells #[.int .u64 (x.lo : Int), .int .u64 (x.hi : Int)] 58)).mono (by simp))))
        have HA := Lib.hid (hA.trans (((Below.refl _ _).alloc (Nat.le_refl _) (.cells #[.int .u64 (x.lo : Int), .int .u64 (x.hi : Int)] 58)).mono (by simp)))
        clear hx htk hx2 hlt HR hA hs2
        have hbs := HB.out.size
        go_upto_region 7 with fail
        go_wp2_with (at_builtin; refine wpList_append_own_at _ (by rfl) (.tmp 17) (.tmp 20) _ (by rfl) w.heap.size 58 i1 _ 2 16 Tryd.underlying62 hj hy0 hy1 hy2 rfl (by decide) _ k (cellsF Span.cells ((R.take k).map Img.span)) (by rfl) (HOW.out) ⟨wr.heap.size + 1, 0, none⟩ 1 1 x.span.cells (by rfl) rfl (fun j u h => cells_new2 (by simp) _ j u h) (Span.one _) h63 hby (by simp; omega) ?_; intro v4 w4 hown4 hg4 hn4 hat4; clear hn4 hat4; have HO4 := Lib.hid hown4; have HG4 := Lib.hid hg4; clear hown4 hg4)
        have HBN := Lib.hid (HB.out.trans ((HA.out.mono HB.out.size).trans (below_of_only HG4.out (by have := HB.out.size; simp; omega) (fun e he => (HO.out.lt e he).1))))
        go_roundg (N - (k + 1))
        case measure => have := HLT.out; omega
        case rel =>
          refine ⟨k + 1, HLT.out, rfl, by go_num, Lib.hid ?_, HBN⟩
          rw [HTK.out]
          show World.ownsRow _ _ _ _ _ ((R.take k).map Img.span ++ [x.span]).length _
          rw [List.length_append, cellsF_append, cellsF_one, HTKL.out]
          exact HO4.out
      · have hkN : k = N := by omega
        subst hkN
        have HT0 := Lib.hid (show R.take k = R from List.take_of_length_le (by rw [HN.out]; omega))
        rw [HT0.out] at HO
        have HO := Lib.hid HO.out
        go_wp2_with fail
        go_ret
        exact ⟨_, rfl, HO.out, HB.out⟩

end Go.Proofs.YtejicboemkpeoaaDoor
