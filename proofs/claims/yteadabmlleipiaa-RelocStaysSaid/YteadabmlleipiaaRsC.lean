/-
  RelocStays' walk.
-/
import Derived.Test.YteadabmlleipiaaRmC
import Derived.Test.YteadabmlleipiaaRsB
import Derived.Test.YteadabmlleipiaaRefU
import Derived.BigQuiet
namespace Go.Proofs.Yteadabmlleipiaa
open Go Go.RowKit

theorem row_into {T T5 : TypeId} {W : World} {base n cap g5 i k : Nat} {A : Option Addr} {cs : Array Value} {X : List Value} (h : W.ownsRow base T 1 (.slice A n cap) n X) (hB : Box W g5 T5 cs) (hg5 : g5 < base) (hk : k < n) (u v : Value) :
    ∃ g, A = some ⟨g, 0, none⟩ ∧ base ≤ g ∧ (∃ v0, (W.setCell ⟨g5, i, none⟩ u).cell? ⟨g, k, none⟩ = some v0) ∧ (W.setCell ⟨g5, i, none⟩ u).frozen? ⟨g, k, none⟩ = false ∧
      ((W.setCell ⟨g5, i, none⟩ u).setCell ⟨g, k, none⟩ v).ownsRow base T 1 (.slice A n cap) n (X.set k v) ∧ Box ((W.setCell ⟨g5, i, none⟩ u).setCell ⟨g, k, none⟩ v) g5 T5 (cs.setIfInBounds i u) ∧
      (∀ B, B ≤ g5 → B ≤ W.heap.size → Below B W ((W.setCell ⟨g5, i, none⟩ u).setCell ⟨g, k, none⟩ v)) ∧
      ∀ (e : TypeId) (B m n' : Nat) (v' : Value) (Y : List Value), W.ownsRow B e m v' n' Y → T5 ≠ e → T ≠ e → ((W.setCell ⟨g5, i, none⟩ u).setCell ⟨g, k, none⟩ v).ownsRow B e m v' n' Y := by
  obtain ⟨g, rfl⟩ := owns_at0 h (by omega)
  obtain ⟨hge, -⟩ := owns_box h
  have hg1 : W.grownBy (W.setCell ⟨g5, i, none⟩ u) (some g5) := only_set (only_refl W (some g5)) i u
  have h1 := row_past h hg1 hg5
  obtain ⟨hc, hf⟩ := row_free h1 k (by omega)
  obtain ⟨s1, s2⟩ := World.ownsRow.stored h1 k v
  have hB1 := hB.set i u
  obtain ⟨-, cs2, hX2⟩ := owns_box h1
  refine ⟨g, rfl, hge, hc, hf, s1, hB1.grown s2 (by simp; omega), fun B hB hW => ?_, fun e B m n' v' Y hy h5 hT => ?_⟩
  · have hb1 := below_of_only hg1 hW (fun x e => by cases e; exact hB)
    exact hb1.trans (below_of_only s2 (Nat.le_trans hW hb1.size) (fun x e => by cases e; omega))
  · exact owns_far (owns_far hy hg1 hB h5) s2 hX2 hT
theorem cells1_set (Q : List RLay) (k : Nat) (q : RLay) : (cellsF RLay.cells1 Q).set k q.val = cellsF RLay.cells1 (Q.set k q) := by
  rw [rlay_map, rlay_map, List.map_set]
/-- An object with one row of relocations replaced. -/
def ObjV.turned (o : ObjV) (A : Option Addr) (c k : Nat) (q : RLay) : ObjV := ⟨o.kind, o.machine, o.aS, o.cS, o.L, o.aY, o.cY, o.Y, A, c, o.Q.set k q⟩
section
variable {o : ObjV} {A : Option Addr} {c k : Nat} {q : RLay}
theorem turned_ok {W : World} {B base : Nat} (h : o.Ok W B) (hA : W.ownsRow base 49 1 (.slice A o.Q.length c) o.Q.length ((cellsF RLay.cells1 o.Q).set k q.val)) (hB : W.heap.size ≤ B) (hq : Rels W B q.a q.l) : (o.turned A c k q).Ok W B := by
  rw [cells1_set] at hA
  have hl : (o.Q.set k q).length = o.Q.length := List.length_set
  rw [← hl] at hA
  obtain ⟨A', c', e, hc, -, hr⟩ := own_row rlay_one hA
  injection e with e1 _ e3
  subst e1 e3
  refine ⟨h.secs, h.syms, ⟨hr.more hB, fun x hx => ?_⟩, h.capS, hc⟩
  rcases List.mem_or_eq_of_mem_set hx with hx | rfl
  · exact h.lists.rels x hx
  · exact hq
theorem turned_rels (hk : k < o.Q.length) : relsOf (o.turned A c k q) k = q.l := by
  unfold relsOf ObjV.turned
  simp only
  rw [List.getElem?_set_self hk]
theorem turned_mem (P : RLay → Prop) (h : ∀ x ∈ o.Q, P x) (hq : P q) : ∀ x ∈ (o.turned A c k q).Q, P x := fun x hx => by
  rcases List.mem_or_eq_of_mem_set hx with hx | rfl
  · exact h x hx
  · exact hq
theorem turned_err {obj : Int} {P : List Place} {Y : List Named} (n : Nat) : ∀ R : List Rel, errL (o.turned A c k q) obj P Y n R = errL o obj P Y n R
  | [] => rfl
  | r :: R => by
    unfold errL
    rw [turned_err n R]
    rfl
theorem turned_app {obj : Int} {P : List Place} {Y : List Named} (R : List Rel) : ∀ l : List UInt8, appL (o.turned A c k q) obj P Y l R = appL o obj P Y l R := by
  induction R with
  | nil => exact fun l => rfl
  | cons r R ih => exact fun l => ih (patchR o obj P Y l r)
end

end Go.Proofs.Yteadabmlleipiaa

namespace Go.Proofs.Yteadabmlleipiaa
open Go Go.RowKit

theorem rlay_oneC (q : RLay) : ∀ u ∈ q.cells1, u.oneCell' = true := fun u hu => by
  simp only [RLay.cells1, List.mem_cons, List.not_mem_nil, or_false] at hu
  subst hu
  rfl
theorem rel_off {w : World} {B b o : Nat} {L : List Rel} (h : Rels w B (some ⟨b, o, none⟩) L) {i : Nat} {x : Rel} (hx : L[i]? = some x) : w.cell? ⟨b, o + i * 4, none⟩ = some (.int .u64 (x.off : Int)) := by
  obtain ⟨b', o', e, _, c, _⟩ := rel_at h hx
  injection e with e
  injection e with e1 e2
  subst e1 e2
  exact c
set_option maxRecDepth 10000 in
set_option maxHeartbeats 6400000 in
theorem rstays_walk (aO aP aY : Option Addr) (cO cP cY : Nat) (P : List Place) (Y : List Named) (O : List ObjV) (obj sect : Int) (w : World) (hP : Row 3 Place.cells w w.heap.size aP P) (hY : Row 2 Named.cells w w.heap.size aY Y) (hpn : ∀ p ∈ P, p.Nums) (hyn : ∀ y ∈ Y, y.Nums) (hO : ObjsIn w w.heap.size aO O) (hobj : InI obj) :
    Calls Try.prog 3 #[.slice aO O.length cO, .agg #[.slice aP P.length cP, .slice aY Y.length cY], .int .i64 obj, .int .i64 sect] w fun r w' => r = .returned (.bool true) ∧ Below w.heap.size w w' := by
  generalize hw0 : w.alloc (.cells #[.slice aP P.length cP, .slice aY Y.length cY] 26) = w0 at *
  have hb0 : Below w.heap.size w w0 := hw0 ▸ (Below.refl _ _).alloc (Nat.le_refl _) _
  have hs0 : w.heap.size < w0.heap.size := by rw [← hw0]; simp
  have hX := Box.new w 26 #[.slice aP P.length cP, .slice aY Y.length cY]
  rw [hw0] at hX
  have HB0 := Lib.hid hb0
  have KX := Lib.hid (fun W (hW : Below w0.heap.size w0 W) => (⟨by rw [(hX.below hW hs0).cell]; rfl, by rw [(hX.below hW hs0).cell]; rfl⟩ : W.cell? ⟨w.heap.size, 0, none⟩ = some (.slice aP P.length cP) ∧ W.cell? ⟨w.heap.size, 1, none⟩ = some (.slice aY Y.length cY)))
  have HI := Lib.hid (fun W (hW : Below w0.heap.size w0 W) => (by
    have h := hb0.trans (hW.mono hb0.size)
    exact ⟨Row.more (Row.below hP h) h.size, Row.more (Row.below hY h) h.size, (hO.below h).more h.size⟩ : Row 3 Place.cells W W.heap.size aP P ∧ Row 2 Named.cells W W.heap.size aY Y ∧ ObjsIn W W.heap.size aO O))
  have HN := Lib.hid (And.intro hpn hyn)
  have HOBJ := Lib.hid hobj
  have HWK := Lib.hid (works12_any (w := w0))
  clear hP hY hpn hyn hO hX hb0 hs0 hobj
  go_enter Try.func3, Try.ntmps3
  go_upto_region 1 with fail
  try rw [hw0]
  clear hw0
  go_upto_region 3 with (go_at_call 8; refine HWK.out.mono ?_; rintro r w2 ⟨rfl, hb2⟩; have HB2 := Lib.hid hb2; clear hb2)
  have HGR := Lib.hid (fun W (hW : Below w0.heap.size w0 W) => great12_any (w := W) (aP := aP) (cP := cP) (cY := cY) (P := P) (HI.out _ hW).2.1 (HI.out _ hW).2.2 cO)
  obtain ⟨N, hN⟩ : ∃ N, O.length = N := ⟨_, rfl⟩
  obtain ⟨NP, hNP⟩ : ∃ N, P.length = N := ⟨_, rfl⟩
  obtain ⟨NY, hNY⟩ : ∃ N, Y.length = N := ⟨_, rfl⟩
  have HNO := Lib.hid hN
  have HNP := Lib.hid hNP
  have HNY := Lib.hid hNY
  rw [hNP, hNY] at HGR KX
  rw [hN] at HGR ⊢
  clear hN hNP hNY
  obtain ⟨x0, x1⟩ := KX.out _ HB2.out
  go_wp2_with fail
  refine (HGR.out _ HB2.out).mono ?_
  clear x0 x1
  rintro r X ⟨b, rfl, hsm, hb3⟩
  have HG := Lib.hid (HB2.out.trans (hb3.mono HB2.out.size))
  have HGRR := Lib.hid hsm
  clear hb3 hsm HGR HWK HB2
  cases b with
  | true =>
    go_wp2_with fail
    go_ret
    exact ⟨rfl, HB0.out.trans (HG.out.mono HB0.out.size)⟩
  | false =>
    obtain ⟨hn10, h250, h250y, hnm⟩ := HGRR.out rfl
    have HSM := Lib.hid hn10.2
    have HN10 := Lib.hid hn10.1
    have HNM := Lib.hid hnm
    clear hn10 h250 h250y hnm HGRR
    by_cases g1 : obj < 0
    · have d1 : decide (obj < 0) = true := decide_eq_true g1
      clear g1
      go_wp2_with fail
      go_ret
      exact ⟨rfl, HB0.out.trans (HG.out.mono HB0.out.size)⟩
    obtain ⟨m, rfl⟩ : ∃ m : Nat, obj = (m : Int) := ⟨obj.toNat, by omega⟩
    have d1 : decide ((m : Int) < 0) = false := decide_eq_false g1
    by_cases g2 : N ≤ m
    · have d2 : decide ((N : Int) ≤ (m : Int)) = true := decide_eq_true (by omega)
      clear g1
      go_wp2_with fail
      go_ret
      exact ⟨rfl, HB0.out.trans (HG.out.mono HB0.out.size)⟩
    have d2 : decide ((N : Int) ≤ (m : Int)) = false := decide_eq_false (by omega)
    by_cases g3 : sect < 0
    · have d3 : decide (sect < 0) = true := decide_eq_true g3
      clear g1 g3
      go_wp2_with fail
      go_ret
      exact ⟨rfl, HB0.out.trans (HG.out.mono HB0.out.size)⟩
    obtain ⟨k, rfl⟩ : ∃ k : Nat, sect = (k : Int) := ⟨sect.toNat, by omega⟩
    have d3 : decide ((k : Int) < 0) = false := decide_eq_false g3
    obtain ⟨ob, hob⟩ : ∃ ob, O[m]? = some ob := ⟨_, List.getElem?_eq_getElem (by rw [HNO.out]; omega)⟩
    obtain ⟨ll, hll⟩ : ∃ ll, ob.L.length = ll := ⟨_, rfl⟩
    obtain ⟨b7, o7, haO, hb7', u0, u1, u2, u3, u4⟩ := row5_at (HI.out X HG.out).2.2.row hob
    rw [hll] at u2
    have hmN : m < N := by omega
    by_cases g4 : ll ≤ k
    · have d4 : decide ((ll : Int) ≤ (k : Int)) = true := decide_eq_true (by omega)
      clear g1 g3 hll hob
      rw [haO]
      go_wp2_with fail
      go_ret
      exact ⟨rfl, HB0.out.trans (HG.out.mono HB0.out.size)⟩
    · have d4 : decide ((ll : Int) ≤ (k : Int)) = false := decide_eq_false (by omega)
      obtain ⟨x, hx⟩ : ∃ x, ob.L[k]? = some x := ⟨_, List.getElem?_eq_getElem (by omega)⟩
      rw [haO]
      go_upto_region 5 with fail
      rw [← haO]
      clear u0 u1 u2 u3 u4 haO hb7' d1 d2 d3 d4 g1 g2 g3 g4 hll
      have HOBM := Lib.hid hob
      have HXK := Lib.hid hx
      clear hob hx
      have HOB := Lib.hid (fun W (hW : Below X.heap.size X W) => ((HI.out W (HG.out.trans (hW.mono HG.out.size))).2.2.objs HSM.out : Objs W W.heap.size aO O))
      have HOS := Lib.hid (objects_any (HOB.out _ (Below.refl _ _)) cO (by rw [HNO.out]; have := HN10.out; omega))
      rw [HNO.out] at HOS
      go_upto_region 6 with (go_at_call 10; refine HOS.out.mono ?_; rintro r w4 ⟨A4, c4, rfl, -, hO4, hb4⟩; have HB4 := Lib.hid hb4; have HO4 := Lib.hid hO4; clear hb4 hO4)
      clear HOS
      have hA4 := HG.out.trans (HB4.out.mono HG.out.size)
      have HNW := Lib.hid (newis_any (cP := cP) (cY := cY) (cO := c4) (HI.out _ hA4).1 (HI.out _ hA4).2.1 HN.out.1 HN.out.2 HNM.out HO4.out HSM.out)
      rw [HNP.out, HNY.out, HNO.out] at HNW
      obtain ⟨x0, x1⟩ := KX.out _ hA4
      clear hA4
      go_upto_region 7 with (go_at_call 11; refine HNW.out.mono ?_; rintro r w5 ⟨v5, e5, rfl, hb5, hN5⟩; have HB5 := Lib.hid (HB4.out.trans (hb5.mono HB4.out.size)); have HN5 := Lib.hid hN5; have HO5 := Lib.hid ((HO4.out.below hb5).more hb5.size); clear hb5 hN5)
      clear HNW x0 x1
      have HE5 := Lib.hid (HB0.out.trans ((HG.out.trans (HB5.out.mono HG.out.size)).mono HB0.out.size))
      rcases HN5.out with ⟨rfl, rfl | rfl⟩ | ⟨rfl, g5, rfl, hL5, hR5⟩
      · go_wp2_with fail
        go_ret
        exact ⟨rfl, HE5.out⟩
      · go_wp2_with fail
        go_ret
        exact ⟨rfl, HE5.out⟩
      · have hmem := List.mem_of_getElem? HOBM.out
        obtain ⟨b4, o4, hA4, hb4, z0, z1, z2, z3, z4⟩ := HO5.out.at_ HOBM.out
        rw [hA4]
        have hin := (HI.out _ (HG.out.trans (HB5.out.mono HG.out.size))).2.2.ok ob hmem
        have hsm := HSM.out ob hmem
        have hsok : ob.SymOk := fun y hy => ⟨(hin.numY y hy).sect, by
          have := hsm.Y
          have := name_sum hy
          unfold maxLen
          omega⟩
        have hqn : ∀ q ∈ ob.Q, q.l.length ≤ 100000 ∧ ∀ r ∈ q.l, r.off < two64 := fun q hq => ⟨by have := hsm.q q hq; omega, fun r hr => (hin.numQ q hq r hr).off⟩
        have hxl : x.s.data.length ≤ 6000 := (hsm.s x (List.mem_of_getElem? HXK.out)).1
        have HOV := Lib.hid (show ObjV.val ob = .agg #[.int .i64 ob.kind, .int .i64 ob.machine, .slice ob.aS ob.L.length ob.cS, .slice ob.aY ob.Y.length ob.cY, .slice ob.aR ob.Q.length ob.cR] from rfl)
        generalize hw6 : w5.alloc (.cells #[.int .i64 ob.kind, .int .i64 ob.machine, .slice ob.aS ob.L.length ob.cS, .slice ob.aY ob.Y.length ob.cY, .slice ob.aR ob.Q.length ob.cR] 40) = w6 at *
        have hb6 : Below w5.heap.size w5 w6 := hw6 ▸ (Below.refl _ _).alloc (Nat.le_refl _) _
        have hX6 := Box.new w5 40 #[.int .i64 ob.kind, .int .i64 ob.machine, .slice ob.aS ob.L.length ob.cS, .slice ob.aY ob.Y.length ob.cY, .slice ob.aR ob.Q.length ob.cR]
        rw [hw6] at hX6
        have hok6 : ob.Ok w6 w6.heap.size := ((HO5.out.ok ob hmem).below hb6).more hb6.size
        have HOK6 := Lib.hid hok6
        have HOK5 := Lib.hid (HO5.out.ok ob hmem)
        have HPL5 := Lib.hid hL5.places
        have HSY5 := Lib.hid hL5.syms
        have HB56 := Lib.hid hb6
        have HX6 := Lib.hid hX6
        have HB6 := Lib.hid (HB5.out.trans (hb6.mono HB5.out.size))
        have HSO := Lib.hid hsok
        have HQN := Lib.hid hqn
        have HXL := Lib.hid hxl
        have HPL := Lib.hid (hL5.places.below hb6)
        have HSY := Lib.hid (hL5.syms.below hb6)
        have HAP := Lib.hid (apply_in ob hok6 hsok hqn HPL.out HSY.out HOBJ.out k x HXK.out (by omega))
        rw [HOV.out] at HAP
        obtain ⟨y0, y1, y2, y3, y4⟩ := five_cells hX6
        clear hmem hb4 hin hsm hsok hqn hb6 hX6 hok6 hL5 hR5 HN5 HO4 HO5 hA4
        go_upto_region 10 with fail
        try rw [hw6]
        clear hw6 z0 z1 z2 z3 z4
        go_upto_region 11 with (go_at_call 12; refine HAP.out.mono ?_; rintro r w7 ⟨hb7, v7, rfl, hv7e, hv7o⟩; have HB7 := Lib.hid (HB6.out.trans (hb7.mono HB6.out.size)); have HB67 := Lib.hid hb7; have HV7E := Lib.hid hv7e; have HV7O := Lib.hid hv7o; clear hb7 hv7e hv7o)
        clear y0 y1 y2 y3 y4 HAP
        have HE7 := Lib.hid (HB0.out.trans ((HG.out.trans (HB7.out.mono HG.out.size)).mono HB0.out.size))
        obtain ⟨eL, heL⟩ : ∃ e, errL ob (m : Int) P Y x.s.data.length (relsOf ob k) = e := ⟨_, rfl⟩
        have HEL := Lib.hid heL
        rw [heL]
        rw [heL] at HV7E HV7O
        clear heL
        by_cases he : eL = 0
        · subst he
          have HO7 := Lib.hid (HV7O.out rfl)
          obtain ⟨A7, c7, rfl, hc7, hm7, -⟩ := own_slice HO7.out
          have HLN := Lib.hid (appL_length HEL.out)
          rw [HLN.out] at HO7 hc7 ⊢
          clear HV7O HV7E
          obtain ⟨N1, hN1⟩ : ∃ n, x.s.data.length = n := ⟨_, rfl⟩
          have HN1 := Lib.hid hN1
          have hxl := HXL.out
          obtain ⟨b2, o2, has, hb2, m0, m1, m2, m3, m4, m5, m6, m7, m8⟩ := HOK6.out.secs.at_ HXK.out
          have hRX := (HOK6.out.secs.ok x (List.mem_of_getElem? HXK.out)).rd
          obtain ⟨A7', c7', he7, -, -, hR7⟩ := own_slice (show Own w7 w6.heap.size (.slice A7 N1 c7) (appL ob (m : Int) P Y x.s.data (relsOf ob k)) by rw [← hN1]; exact HO7.out)
          injection he7 with h71 h72 h73
          subst h71
          subst h73
          clear h72
          have hll : k < ob.L.length := (List.getElem?_eq_some_iff.1 HXK.out).1
          rw [hN1] at m4 hxl hc7 ⊢
          have KW := Lib.hid (fun W (hW : Below w7.heap.size w7 W) => (by
            have h67 := HB67.out.trans (hW.mono HB67.out.size)
            exact ⟨five_cells (HX6.out.below h67 HX6.out.lt), by rw [h67.cell (p := ⟨b2, _, none⟩) hb2]; exact m4, (hRX.below h67).more h67.size, (hR7.below hW).more hW.size, (HOK6.out.below h67).more h67.size⟩ :
            (W.cell? ⟨w5.heap.size, 0, none⟩ = some (.int .i64 ob.kind) ∧ W.cell? ⟨w5.heap.size, 1, none⟩ = some (.int .i64 ob.machine) ∧ W.cell? ⟨w5.heap.size, 2, none⟩ = some (.slice ob.aS ob.L.length ob.cS) ∧ W.cell? ⟨w5.heap.size, 3, none⟩ = some (.slice ob.aY ob.Y.length ob.cY) ∧ W.cell? ⟨w5.heap.size, 4, none⟩ = some (.slice ob.aR ob.Q.length ob.cR)) ∧ W.cell? ⟨b2, o2 + k * 9 + 4, none⟩ = some (.slice x.A N1 x.c) ∧ Rd W W.heap.size x.A x.s.data ∧ Rd W W.heap.size A7 (appL ob (m : Int) P Y x.s.data (relsOf ob k)) ∧ ob.Ok W W.heap.size))
          obtain ⟨⟨y0, y1, y2, y3, y4⟩, y5, -, -, hok7⟩ := KW.out _ (Below.refl _ _)
          have HCV := Lib.hid (covered_any ob hok7 HQN.out k x HXK.out (by omega))
          rw [HOV.out, hN1] at HCV
          rw [has] at y2 KW HCV
          have ene : ((N1 : Int) != (N1 : Int)) = false := by simp
          clear hN1 hb2 m0 m1 m2 m3 m4 m5 m6 m7 m8 hRX hR7 hok7
          go_upto_region 15 with fail
          rw [has] at *
          go_upto_region 16 with (go_at_call 13; refine HCV.out.mono ?_; rintro r w8 ⟨hb8, mb, C, rfl, hmet, hmk⟩; have HB8 := Lib.hid hb8; have HMT := Lib.hid hmet; have HMK := Lib.hid hmk; clear hb8 hmet hmk)
          clear y0 y1 y2 y3 y4 y5 HCV ene
          go_loopg [93] N1 (fun gk i wr => ∃ j : Nat, j ≤ N1 ∧ gk = N1 - j ∧ i = .int .i64 j ∧ Hid (Below w8.heap.size w8 wr))
          case atStart => exact ⟨0, Nat.zero_le _, rfl, rfl, Lib.hid (Below.refl _ _)⟩
          case round =>
            obtain ⟨j, hj, rfl, rfl, HB⟩ := hrel
            by_cases hlt : j < N1
            · have HT := Lib.hid hlt
              obtain ⟨cb, hcb⟩ : ∃ b, C[j]? = some b := ⟨_, List.getElem?_eq_getElem (by rw [HMT.out.1]; exact hlt)⟩
              have hcell := (HMT.out.below HB.out).cell hcb
              cases cb with
              | true =>
                clear hcb
                go_upto_region 18 with fail
                go_quiet (fail)
                have HB9 := Lib.hid (below_drewN HB.out nq)
                go_wp2_with fail
                go_roundg (N1 - (j + 1))
                case measure => have := HT.out; omega
                case rel => exact ⟨j + 1, HT.out, rfl, by go_num, HB9⟩
              | false =>
                have hst := app_stays (o := ob) (obj := (m : Int)) (P := P) (Y := Y) x.s.data HEL.out j (fun r hr => HMK.out j hcb r hr)
                obtain ⟨u, hu⟩ : ∃ u, x.s.data[j]? = some u := ⟨_, List.getElem?_eq_getElem (by rw [HN1.out]; exact hlt)⟩
                rw [hu] at hst
                have hl1 : 0 < x.s.data.length := by rw [HN1.out]; omega
                obtain ⟨⟨y0, y1, y2, y3, y4⟩, y5, hrx, hr7, -⟩ := KW.out _ (HB8.out.trans (HB.out.mono HB8.out.size))
                obtain ⟨bx, ox, hxa, -, hxc⟩ := hrx hl1
                obtain ⟨b9, o9, rfl, -, h9c⟩ := hr7 (by rw [HLN.out]; exact hl1)
                have z1 := hxc j u hu
                have z2 := h9c j u hst
                rw [hxa] at y5
                clear hrx hr7 hxc h9c hu hst hcb hl1
                go_upto_region 18 with fail
                go_quiet (fail)
                have HB9 := Lib.hid (below_drewN HB.out nq)
                go_wp2_with fail
                go_roundg (N1 - (j + 1))
                case measure => have := HT.out; omega
                case rel => exact ⟨j + 1, HT.out, rfl, by go_num, HB9⟩
            · obtain ⟨⟨y0, y1, y2, y3, y4⟩, y5, -, -, hok8⟩ := KW.out _ (HB8.out.trans (HB.out.mono HB8.out.size))
              obtain ⟨NQ, hNQ⟩ : ∃ n, ob.Q.length = n := ⟨_, rfl⟩
              rw [hNQ] at y4
              have HE8 := Lib.hid (HB0.out.trans ((HG.out.trans ((HB7.out.trans ((HB8.out.trans (HB.out.mono HB8.out.size)).mono HB7.out.size)).mono HG.out.size)).mono HB0.out.size))
              by_cases hkQ : k < NQ
              · have d5 : decide ((NQ : Int) ≤ (k : Int)) = false := decide_eq_false (by omega)
                have d5n : decide (NQ ≤ k) = false := decide_eq_false (by omega)
                obtain ⟨q, hq⟩ : ∃ q, ob.Q[k]? = some q := ⟨_, List.getElem?_eq_getElem (by rw [hNQ]; exact hkQ)⟩
                obtain ⟨bq, oq, haR, hbq, hcq⟩ := hok8.lists.at_ hq
                have hrows := hok8.lists.rels q (List.mem_of_getElem? hq)
                have HRL := Lib.hid (show relsOf ob k = q.l by unfold relsOf; rw [hq])
                have HQB := Lib.hid (HQN.out q (List.mem_of_getElem? hq))
                have HQK := Lib.hid hq
                have HNQ := Lib.hid hNQ
                have HAR := Lib.hid haR
                obtain ⟨M, hM⟩ : ∃ M, q.l.length = M := ⟨_, rfl⟩
                have HM := Lib.hid hM
                have hM5 : M ≤ 100000 := by rw [← hM]; exact HQB.out.1
                rw [hM] at hcq
                rw [haR] at y4
                generalize wr = wA at *
                have HRW := Lib.hid (fun W (hW : Below wA.heap.size wA W) => Row.below hrows hW)
                generalize q.a = qa at *
                generalize q.c = qc at *
                clear hok8 hbq hrows hq hNQ haR hM
                go_upto_region 26 with fail
                clear y0 y1 y2 y3 y4 y5 hcq d5 d5n
                have HBA := Lib.hid (Below.refl wA.heap.size wA)
                obtain ⟨i1, hj1, hy0, hy1, hy2⟩ := info_parts rel_info
                go_loopg [18, 19] M (fun gk u z wr => ∃ (d : Nat) (zi : Int), d ≤ M ∧ gk = d ∧ z = .int .i64 zi ∧ zi = (d : Int) - 1 ∧ Hid (Below wA.heap.size wA wr) ∧ Hid (wr.ownsRow wA.heap.size 51 4 u (M - d) (cellsF Rel.cells (q.l.drop d).reverse)) ∧ Hid (∀ (i k' : Nat) (r s : Rel), d ≤ i → k' < i → q.l[i]? = some r → q.l[k']? = some s → nearB r.off s.off = false))
                case atStart => exact ⟨M, _, Nat.le_refl _, rfl, rfl, rfl, HBA, Lib.hid (by rw [Nat.sub_self, List.drop_eq_nil_of_le (by rw [HM.out]; exact Nat.le_refl _)]; exact World.ownsRow_nil _ _ _ _), Lib.hid (fun i k' r s hi _ hr => absurd (List.getElem?_eq_some_iff.1 hr).1 (by rw [HM.out]; omega))⟩
                case round =>
                  obtain ⟨d, zi, hd, hgk, rfl, hz, HB2, HO2, HNR⟩ := hrel
                  have HGK := Lib.hid hgk
                  clear hgk
                  rcases d with _ | e
                  · obtain rfl : zi = -1 := by omega
                    clear hz
                    have hAp : ApartR ob q.l := apart_near (fun i k' r s hk' hr hs => HNR.out i k' r s (Nat.zero_le _) hk' hr hs)
                    have HAP2 := Lib.hid hAp
                    have hOwn : wr.ownsRow wA.heap.size 51 4 _ M (cellsF Rel.cells q.l.reverse) := HO2.out
                    obtain ⟨Ab, cb, rfl⟩ := owns_slice12 hOwn
                    have HOB2 := Lib.hid hOwn
                    have h7r := HB8.out.trans ((HB.out.trans (HB2.out.mono HB.out.size)).mono HB8.out.size)
                    have H7R := Lib.hid h7r
                    obtain ⟨⟨y0, y1, y2, y3, y4⟩, y5, -, -, hokR⟩ := KW.out _ h7r
                    rw [HAR.out, HNQ.out] at y4
                    have HOKR := Lib.hid hokR
                    obtain ⟨il, hl1, hl2, hl3, hl4⟩ := info_parts list_info1
                    have hA := (Below.refl wr.heap.size wr).alloc (Nat.le_refl _) (.cells #[] 49)
                    have y4' : (wr.alloc (.cells #[] 49)).cell? ⟨w5.heap.size, 4, none⟩ = some (.slice (some ⟨bq, oq, none⟩) NQ ob.cR) := by
                      rw [hA.cell (p := ⟨w5.heap.size, 4, none⟩) (World.block_lt_of_cell? wr ⟨w5.heap.size, 4, none⟩ y4)]; exact y4
                    have hEm : (wr.alloc (.cells #[] 49)).ownsRow wr.heap.size 49 1 (.slice (some ⟨wr.heap.size, 0, none⟩) 0 0) 0 [] := ownr_empty (Box.new wr 49 #[]) (Nat.le_refl _)
                    have hnw := (row_news rlay_one (hokR.lists.row.below hA)).2 ⟨bq, oq, none⟩ HAR.out
                    have hnl : (cellsF RLay.cells1 ob.Q).length = NQ * 1 := by rw [cellsF_length rlay_one, HNQ.out]
                    have hNQ6 : NQ ≤ 6000 := by rw [← HNQ.out]; exact (HSM.out ob (List.mem_of_getElem? HOBM.out)).Q
                    have h63 : 0 + NQ ≤ maxLen := by unfold maxLen; omega
                    have hbt : (0 + NQ) * 24 ≤ 140737488355328 := by omega
                    have HA := Lib.hid hA
                    have HX8 := Lib.hid (HX6.out.below (HB67.out.trans (h7r.mono HB67.out.size)) HX6.out.lt)
                    clear hAp hOwn hokR hA h7r y0 y1 y2 y3 y5
                    go_upto_region 35 with fail
                    go_upto_region 36 with (at_builtin; refine wpList_append_own_at _ (by rfl) (.tmp 157) (.tmp 159) _ (by rfl) wr.heap.size 49 il _ 1 24 Try.underlying31 hl1 hl2 hl3 hl4 rfl (by decide) _ 0 [] (by rfl) hEm ⟨bq, oq, none⟩ NQ ob.cR (cellsF RLay.cells1 ob.Q) (by rfl) hnl hnw (cellsF_all12 rlay_oneC ob.Q) h63 hbt (by simp) ?_; intro v10 w10 hown10 hg10 hn10 hat10; clear hn10 hat10; have HO10 := Lib.hid hown10; have HG10 := Lib.hid hg10; obtain ⟨A10, c10, rfl⟩ := owns_slice12 hown10; have hb10 : Below wr.heap.size wr w10 := HA.out.trans (below_of_only hg10 (by simp) (fun x e => by simp [Value.ownBlock] at e; omega)); have HB10 := Lib.hid hb10; have z4 := (five_cells (HX8.out.below hb10 HX8.out.lt)).2.2.2.2; have f4 := (five_free (HX8.out.below hb10 HX8.out.lt)).2.2.2.2; clear hown10 hg10 hb10)
                    have hX10 := HX8.out.below HB10.out HX8.out.lt
                    have hO10 : w10.ownsRow wr.heap.size 49 1 (.slice A10 NQ c10) NQ (cellsF RLay.cells1 ob.Q) := by
                      have := HO10.out
                      simpa using this
                    have h58 : w5.heap.size < wr.heap.size := by
                      have := HX6.out.lt
                      have := HB67.out.size
                      have := H7R.out.size
                      omega
                    obtain ⟨g10, rfl, hge, hv0, f0, hrow, hbox, hbl, hfar⟩ := row_into (i := 4) hO10 hX10 h58 hkQ (.slice A10 NQ c10) (.slice Ab M cb)
                    obtain ⟨v0, c0⟩ := hv0
                    have q4 : (w10.setCell ⟨w5.heap.size, 4, none⟩ (.slice (some ⟨g10, 0, none⟩) NQ c10)).cell? ⟨w5.heap.size, 4, none⟩ = some (.slice (some ⟨g10, 0, none⟩) NQ c10) := by
                      rw [(hX10.set 4 _).cell]; rfl
                    have HROW := Lib.hid hrow
                    have HBOX := Lib.hid hbox
                    have HBL := Lib.hid hbl
                    have HFAR := Lib.hid hfar
                    have d6 : decide ((k : Int) < (NQ : Int)) = true := decide_eq_true (by omega)
                    clear hX10 hO10 hrow hbox hbl hfar z4 f4
                    generalize hw11 : w10.setCell ⟨w5.heap.size, 4, none⟩ (.slice (some ⟨g10, 0, none⟩) NQ c10) = w11 at *
                    clear hw11
                    go_upto_region 37 with fail
                    generalize hw12 : w11.setCell ⟨g10, k, none⟩ (.slice Ab M cb) = w12 at *
                    have hM : q.l.reverse.length = M := by rw [List.length_reverse]; exact HM.out
                    have h512 : Below w5.heap.size w5 w12 := by
                      have h1 := HB56.out.trans (HB67.out.mono HB56.out.size)
                      have h2 := h1.trans (H7R.out.mono h1.size)
                      have h3 := h2.trans (HB10.out.mono h2.size)
                      exact h3.trans (HBL.out _ (Nat.le_refl _) h3.size)
                    have hq10 := HFAR.out _ _ _ _ _ _ (row_below HOB2.out HB10.out) (by decide) (by decide)
                    have hpair : (wr.ownsRow wA.heap.size 51 4 (.slice Ab M cb) M (cellsF Rel.cells q.l.reverse)) := HOB2.out
                    obtain ⟨A', c', e', -, -, hrr⟩ := own_row rel_four (L := q.l.reverse) (v := .slice Ab M cb) (by rw [hM]; exact hq10)
                    injection e' with e1 _ e3
                    subst e1 e3
                    have hrow12 : w12.ownsRow wr.heap.size 49 1 (.slice (some ⟨g10, 0, none⟩) ob.Q.length c10) ob.Q.length ((cellsF RLay.cells1 ob.Q).set k (RLay.val ⟨Ab, cb, q.l.reverse⟩)) := by
                      have := HROW.out
                      rw [HNQ.out, show RLay.val ⟨Ab, cb, q.l.reverse⟩ = .slice Ab M cb by unfold RLay.val; simp only; rw [hM]]
                      exact this
                    have hok12 : (ob.turned (some ⟨g10, 0, none⟩) c10 k ⟨Ab, cb, q.l.reverse⟩).Ok w12 w12.heap.size := turned_ok ((HOK5.out.below h512).more h512.size) hrow12 (Nat.le_refl _) hrr
                    have hqn12 := turned_mem (o := ob) (A := some ⟨g10, 0, none⟩) (c := c10) (k := k) (q := ⟨Ab, cb, q.l.reverse⟩) (fun q => q.l.length ≤ 100000 ∧ ∀ r ∈ q.l, r.off < two64) HQN.out ⟨by show q.l.reverse.length ≤ 100000; rw [hM]; exact hM5, fun r hr => HQB.out.2 r (List.mem_reverse.1 hr)⟩
                    have HAPT := Lib.hid (apply_in (ob.turned (some ⟨g10, 0, none⟩) c10 k ⟨Ab, cb, q.l.reverse⟩) hok12 HSO.out hqn12 (HPL5.out.below h512) (HSY5.out.below h512) HOBJ.out k x HXK.out (by have := HXL.out; omega))
                    have hrq : relsOf (ob.turned (some ⟨g10, 0, none⟩) c10 k ⟨Ab, cb, q.l.reverse⟩) k = q.l.reverse := turned_rels (by rw [HNQ.out]; exact hkQ)
                    rw [hrq, turned_err, turned_app, err_turn (by have := HEL.out; rw [HRL.out] at this; exact this)] at HAPT
                    rw [app_turn HAP2.out _ (by have := HEL.out; rw [HRL.out] at this; exact this)] at HAPT
                    have hbox12 : Box w12 w5.heap.size 40 #[.int .i64 ob.kind, .int .i64 ob.machine, .slice ob.aS ob.L.length ob.cS, .slice ob.aY ob.Y.length ob.cY, .slice (some ⟨g10, 0, none⟩) NQ c10] := HBOX.out
                    obtain ⟨y0, y1, y2, y3, y4⟩ := five_cells hbox12
                    have hov2 : (ob.turned (some ⟨g10, 0, none⟩) c10 k ⟨Ab, cb, q.l.reverse⟩).val = .agg #[.int .i64 ob.kind, .int .i64 ob.machine, .slice ob.aS ob.L.length ob.cS, .slice ob.aY ob.Y.length ob.cY, .slice (some ⟨g10, 0, none⟩) NQ c10] := by
                      unfold ObjV.val ObjV.cells ObjV.turned
                      simp only [List.length_set]
                      rw [HNQ.out]
                    rw [hov2] at HAPT
                    have hba := H7R.out.trans (HB10.out.mono H7R.out.size)
                    have HO12 := Lib.hid (HFAR.out _ _ _ _ _ _ (row_below HO7.out hba) (by decide) (by decide))
                    have HE12 := Lib.hid (HE7.out.trans ((H7R.out.trans (HB10.out.mono H7R.out.size)).mono HE7.out.size))
                    have HW12 := Lib.hid (HBL.out w.heap.size (Nat.le_trans HB0.out.size (Nat.le_trans HG.out.size HB5.out.size)) HE12.out.size)
                    clear hbox12 hov2 hba hrow12 hok12 hqn12 hrq hrr hq10 hpair hw12 hM hM5 hbt h63 hnl hnw hEm y4' hNQ6 h58 hge f0 c0 q4 d6
                    go_upto_region 38 with (go_at_call 12; refine HAPT.out.mono ?_; rintro r w13 ⟨hb13, v13, rfl, -, ho13⟩; have HO13 := Lib.hid (ho13 rfl); have HB13 := Lib.hid hb13; clear hb13 ho13)
                    clear y0 y1 y2 y3 y4 HAPT
                    have hsame : appL ob (m : Int) P Y x.s.data (relsOf ob k) = appL ob (m : Int) P Y x.s.data q.l := by rw [HRL.out]
                    have HOLD := Lib.hid (row_below HO12.out HB13.out)
                    have hold : Own w13 w6.heap.size (.slice A7 N1 c7) (appL ob (m : Int) P Y x.s.data q.l) := by
                      have := HOLD.out
                      rw [hsame, HN1.out] at this
                      exact this
                    obtain ⟨A13, c13, rfl, -, -, -⟩ := own_slice HO13.out
                    obtain ⟨sG, hsG⟩ : ∃ s : ByteArray, s = ⟨(appL ob (m : Int) P Y x.s.data q.l).toArray⟩ := ⟨_, rfl⟩
                    have hcA := conv_as hsG (conv_own HO13.out)
                    have hcB := conv_as hsG (conv_own hold)
                    have HE13 := Lib.hid (HE12.out.trans (HW12.out.trans (HB13.out.mono (Nat.le_trans HE12.out.size HW12.out.size))))
                    generalize (appL ob (m : Int) P Y x.s.data q.l).length = nA at *
                    clear hold hsG hsame
                    go_wp2_with fail
                    go_ret
                    exact ⟨rfl, HE13.out⟩
                  · obtain rfl : zi = (e : Int) := by omega
                    clear hz
                    obtain ⟨r, hr⟩ : ∃ r, q.l[e]? = some r := ⟨_, List.getElem?_eq_getElem (by rw [HM.out]; omega)⟩
                    obtain ⟨br, or_, rfl, hbr, c0, c1, c2, c3⟩ := rel_at (HRW.out _ HB2.out) hr
                    have HRE := Lib.hid hr
                    have HLT := Lib.hid (show e < M by omega)
                    have HDR := Lib.hid (show (q.l.drop e).reverse = (q.l.drop (e + 1)).reverse ++ [r] by
                      obtain ⟨he, hre⟩ := List.getElem?_eq_some_iff.1 hr
                      rw [List.drop_eq_getElem_cons he, hre, List.reverse_cons])
                    have hmx : M - (e + 1) + 1 ≤ maxLen := by unfold maxLen; omega
                    have hby : (M - (e + 1) + 1) * 32 ≤ 140737488355328 := by omega
                    have hA := (Below.refl wr.heap.size wr).alloc (Nat.le_refl _) (.cells #[.int .u64 (r.off : Int), .int .i64 r.sym, .int .i64 r.kind, .int .i64 r.add] 51)
                    have HOW := Lib.hid (row_below HO2.out hA)
                    have HA := Lib.hid hA
                    have hbs := HB2.out.size
                    have he1 : decide ((e : Int) < (M : Int)) = true := decide_eq_true (by omega)
                    have he2 : e < M := by omega
                    clear hr hA
                    go_upto_region 29 with (at_builtin; refine wpList_append_own_at _ (by rfl) (.tmp 134) (.tmp 139) _ (by rfl) wA.heap.size 51 i1 _ 4 32 Try.underlying49 hj1 hy0 hy1 hy2 rfl (by decide) _ (M - (e + 1)) (cellsF Rel.cells (q.l.drop (e + 1)).reverse) (by rfl) HOW.out ⟨wr.heap.size, 0, none⟩ 1 1 r.cells (by rfl) rfl (fun j u h => cells_new wr r.cells _ j u h) (rel_one r) hmx hby (by simp; omega) ?_; intro v4 w9 hown4 hg4 hn4 hat4; clear hn4 hat4; have HO4 := Lib.hid hown4; have HG4 := Lib.hid hg4; clear hown4 hg4)
                    have HB9 := Lib.hid (HB2.out.trans ((HA.out.mono HB2.out.size).trans (below_of_only HG4.out (by simp; omega) (fun e he => (HO2.out.lt e he).1))))
                    have HR1 := Lib.hid (HQB.out.2 r (List.mem_of_getElem? HRE.out))
                    clear c0 c1 c2 c3 hbr hmx hby hbs he1 HOW HG4 HA
                    generalize wr = wj at *
                    go_wp2_with fail
                    go_loopg [142] e (fun gk z wr => ∃ kk : Nat, kk ≤ e ∧ gk = e - kk ∧ z = .int .i64 kk ∧ Hid (Below w9.heap.size w9 wr) ∧ Hid (∀ (k' : Nat) (s : Rel), k' < kk → q.l[k']? = some s → nearB r.off s.off = false))
                    case atStart => exact ⟨0, Nat.zero_le _, rfl, rfl, Lib.hid (Below.refl _ _), Lib.hid (fun k' s hk' => by omega)⟩
                    case round =>
                      obtain ⟨kk, hkk, rfl, rfl, HB10, HNK⟩ := hrel
                      by_cases hlt3 : kk < e
                      · have HL3 := Lib.hid hlt3
                        obtain ⟨s, hs⟩ : ∃ s, q.l[kk]? = some s := ⟨_, List.getElem?_eq_getElem (by rw [HM.out]; omega)⟩
                        have hrw := HRW.out _ (HB9.out.trans (HB10.out.mono HB9.out.size))
                        have g1 := rel_off hrw HRE.out
                        have g2 := rel_off hrw hs
                        have HSK := Lib.hid hs
                        have HNA := Lib.hid (fun W => near_any (w := W) r.off s.off HR1.out (HQB.out.2 s (List.mem_of_getElem? hs)))
                        have hkM : kk < M := by omega
                        clear hrw hs
                        cases hnb : nearB r.off s.off with
                        | true =>
                          rw [hnb] at HNA
                          clear hnb
                          go_upto_region 32 with fail
                          go_quiet ((go_at_call 14; exact Calls.quiet_of_same (HNA.out _)))
                          go_wp2_with fail
                          go_ret
                          exact ⟨rfl, HE8.out.trans ((HB9.out.trans (below_drewN (HB10.out.mono HB9.out.size) nq)).mono HE8.out.size)⟩
                        | false =>
                          have HNN := Lib.hid hnb
                          rw [hnb] at HNA
                          clear hnb
                          go_upto_region 32 with fail
                          go_quiet ((go_at_call 14; exact Calls.quiet_of_same (HNA.out _)))
                          have HB11 := Lib.hid (below_drewN HB10.out nq)
                          go_wp2_with fail
                          go_roundg (e - (kk + 1))
                          case measure => have := HL3.out; omega
                          case rel => exact ⟨kk + 1, HL3.out, rfl, by go_num, HB11, Lib.hid (fun k' s' hk' hs' => by
                            rcases Nat.lt_or_ge k' kk with h | h
                            · exact HNK.out k' s' h hs'
                            · rw [show k' = kk by omega, HSK.out] at hs'
                              injection hs' with hs'
                              subst hs'
                              exact HNN.out)⟩
                      · have hke : kk = e := by omega
                        have HNE := Lib.hid (fun (k' : Nat) (s : Rel) (h : k' < e) => HNK.out k' s (by omega))
                        have HBN := Lib.hid (HB9.out.trans (HB10.out.mono HB9.out.size))
                        have HON := Lib.hid (row_below HO4.out HB10.out)
                        clear HNK hke
                        go_wp2_with fail
                        go_roundg e
                        case measure => have := HGK.out; omega
                        case rel => exact ⟨e, (e : Int) - 1, by have := HLT.out; omega, rfl, by go_num, rfl, HBN, Lib.hid (by
                          rw [HDR.out, cellsF_append, cellsF_one, show M - e = M - (e + 1) + 1 by have := HLT.out; omega]
                          exact HON.out), Lib.hid (fun i k' r' s hi hk' hr' hs' => by
                          rcases Nat.lt_or_ge e i with h | h
                          · exact HNR.out i k' r' s (by omega) hk' hr' hs'
                          · obtain rfl : i = e := by omega
                            rw [HRE.out] at hr'
                            injection hr' with hr'
                            subst hr'
                            exact HNE.out k' s hk' hs')⟩
              · have d5 : decide ((NQ : Int) ≤ (k : Int)) = true := decide_eq_true (by omega)
                have d5n : decide (NQ ≤ k) = true := decide_eq_true (by omega)
                clear hok8 hNQ hkQ
                go_wp2_with fail
                go_ret
                exact ⟨rfl, HE8.out⟩
        · have e1 : (eL != 0) = true := by simp [he]
          obtain rfl := HV7E.out he
          clear HV7E HV7O he
          go_wp2_with fail
          go_ret
          exact ⟨rfl, HE7.out⟩

end Go.Proofs.Yteadabmlleipiaa
