/-
  Package unit: the document's own reading of a unit's head.
-/
import Derived.Test.YtelmfhpefnemfaaDoorUnE
import Derived.Test.YtelmfhpefnemfaaDoorLtD
namespace Go.Proofs.YtelmfhpefnemfaaDoor
open Go Go.RowKit

section
variable {l : List UInt8} {e : Int} {wide : Bool}
theorem qz_q3 (h : (q3U l e).2 ≠ 0) : qzU l e wide = q3U l e := by
  have h4 : q4U l e wide = q3U l e := by rw [q4U, nU_ref h]
  have h5 : q5U l e wide = q3U l e := by rw [q5U, h4, nU_ref h]
  have h6 : q6U l e wide = q3U l e := by rw [q6U, h5, nU_ref h]
  rw [qzU, h6, h4]
  split <;> rfl
theorem qz_q2 (h : (q2U l e).2 ≠ 0) : qzU l e wide = q2U l e := by
  have h3 : q3U l e = q2U l e := by rw [q3U, nU_ref h, fU_ref h]
  rw [← h3]
  exact qz_q3 (by rw [h3]; exact h)
theorem qz_q1 (h : (q1U l e).2 ≠ 0) : qzU l e wide = q1U l e := by
  have h2 : q2U l e = q1U l e := by rw [q2U, nU_ref h, fU_ref h]
  rw [← h2]
  exact qz_q2 (by rw [h2]; exact h)
end
theorem fU_bad {s : UCt} (h : s.2 = 0) : (fU true s).2 = 42 := by simp [fU, failOf, h]
theorem fU_or {s : UCt} {b c : Bool} (h : (s.2 == 0 && b) = c) : (c = true → (fU b s).2 = 42) ∧ (c = false → fU b s = s) := by
  constructor
  · rintro rfl
    simp only [Bool.and_eq_true, beq_iff_eq] at h
    rw [h.2]
    exact fU_bad h.1
  · rintro rfl
    cases b with
    | false => rfl
    | true => exact fU_ref (by simpa using h) _

theorem ru_un {w : World} {g : Nat} {v : Value} {l : List UInt8} {s : UCt} (h : RC w g v l s.1 s.2) (hlen : l.length ≤ 140737488355328) (n : Int) (m : Nat) (hm : clampOf n = m) (hs : -9223372036854775808 ≤ n ∧ n ≤ 9223372036854775807) :
    Calls Tryd.prog 88 #[.pointer (some ⟨g, 0, none⟩), .int .i64 n] w fun r w' => r = .returned (.int .u64 (vU l s m : Int)) ∧ RC w' g v l (nU l s m).1 (nU l s m).2 ∧ w.grownBy w' (some g) := by
  have := ruint_cur h n hs hlen
  rw [hm] at this
  exact this

/-- What a head told by the document is: nothing, where it is refused. -/
def roneH (sec : List UInt8) (a : Nat) : UHd := if tkX sec a = 0 then tkH sec a else zeroUH

/-- The document's cursor, the body's, the head that is made, the result's cell. -/
structure DnU (B : Nat) (w W : World) (gc : Nat) (vc : Value) (sec : List UInt8) (t : UCt) (g : Nat) (v : Value) (l : List UInt8) (s : UCt) (H X : Nat) (cs : Array Value) : Prop where
  c : RR B W gc vc sec t.1 t.2
  u : RC W g v l s.1 s.2
  x : Box W X 79 cs
  r : Box W H 79 #[.int .i64 0, .bool false, .int .u64 0, .int .u64 0, .int .u64 0, .int .u64 0, .int .u64 0, .int .u64 0]
  gr : w.grownBy W (some gc)
structure DnA (B : Nat) (w : World) (gc g H X : Nat) : Prop where
  b : B ≤ w.heap.size
  c : gc < w.heap.size
  g : w.heap.size ≤ g
  h : w.heap.size ≤ H
  x : w.heap.size ≤ X
  ne : H ≠ X
section
variable {B : Nat} {w W W' : World} {gc : Nat} {vc : Value} {sec : List UInt8} {t : UCt} {g : Nat} {v : Value} {l : List UInt8} {s s' : UCt} {H X : Nat} {cs : Array Value}
theorem DnU.call (h : DnU B w W gc vc sec t g v l s H X cs) (ha : DnA B w gc g H X) (hC : RC W' g v l s'.1 s'.2) (hG : W.grownBy W' (some g)) : DnU B w W' gc vc sec t g v l s' H X cs :=
  ⟨h.c.grown hG (fun e => by injection e with e; have := ha.c; have := ha.g; omega) (fun x hx => by injection hx with hx; have := ha.b; have := ha.g; omega), hC,
   h.x.grown hG (fun e => by injection e with e; exact (h.x.other h.u.1 (by decide)) e), h.r.grown hG (fun e => by injection e with e; exact (h.r.other h.u.1 (by decide)) e), only_trans h.gr hG (.inr fun x hx => by injection hx with hx; have := ha.g; omega)⟩
theorem DnU.drewN (h : DnU B w W gc vc sec t g v l s H X cs) (n : Nat) : DnU B w (W.drewN n) gc vc sec t g v l s H X cs := ⟨h.c.drewN n, h.u.drewN n, h.x, h.r, only_drewN h.gr n⟩
theorem DnU.set (h : DnU B w W gc vc sec t g v l s H X cs) (ha : DnA B w gc g H X) (i : Nat) (u : Value) : DnU B w (W.setCell ⟨X, i, none⟩ u) gc vc sec t g v l s H X (cs.setIfInBounds i u) := by
  have G : W.grownBy (W.setCell ⟨X, i, none⟩ u) (some X) := only_set (only_refl W (some X)) i u
  exact ⟨h.c.grown G (fun e => by injection e with e; have := ha.c; have := ha.x; omega) (fun x hx => by injection hx with hx; have := ha.b; have := ha.x; omega),
    h.u.grown G (fun e => by injection e with e; exact (h.u.1.other h.x (by decide)) e) (.inr (own_other h.u.2.1 h.x (by decide))), h.x.set i u,
    h.r.grown G (fun e => by injection e with e; exact ha.ne e), only_trans h.gr G (.inr fun x hx => by injection hx with hx; have := ha.x; omega)⟩
theorem DnU.e_told (h : DnU B w W gc vc sec t g v l s H X cs) {W1 : World} (G : W.grownBy W1 (some H)) : W1.cell? ⟨g, 2, none⟩ = some (.int .i64 s.2) := by
  have hne : g ≠ H := h.u.1.other h.r (by decide)
  have h1 := G.block g h.u.1.lt (fun e => by injection e with e; exact hne e)
  exact (World.cell?_of_block (a := ⟨g, 2, none⟩) h1).trans (rc_e h.u)
/-- The result's cell written. -/
theorem DnU.told (h : DnU B w W gc vc sec t g v l s H X cs) (ha : DnA B w gc g H X) (v0 v1 v2 v3 v4 v5 v6 v7 : Value) :
    Box ((((((((W.setCell ⟨H, 0, none⟩ v0).setCell ⟨H, 1, none⟩ v1).setCell ⟨H, 2, none⟩ v2).setCell ⟨H, 3, none⟩ v3).setCell ⟨H, 4, none⟩ v4).setCell ⟨H, 5, none⟩ v5).setCell ⟨H, 6, none⟩ v6).setCell ⟨H, 7, none⟩ v7) H 79 #[v0, v1, v2, v3, v4, v5, v6, v7] ∧ RR B ((((((((W.setCell ⟨H, 0, none⟩ v0).setCell ⟨H, 1, none⟩ v1).setCell ⟨H, 2, none⟩ v2).setCell ⟨H, 3, none⟩ v3).setCell ⟨H, 4, none⟩ v4).setCell ⟨H, 5, none⟩ v5).setCell ⟨H, 6, none⟩ v6).setCell ⟨H, 7, none⟩ v7) gc vc sec t.1 t.2 ∧ w.grownBy ((((((((W.setCell ⟨H, 0, none⟩ v0).setCell ⟨H, 1, none⟩ v1).setCell ⟨H, 2, none⟩ v2).setCell ⟨H, 3, none⟩ v3).setCell ⟨H, 4, none⟩ v4).setCell ⟨H, 5, none⟩ v5).setCell ⟨H, 6, none⟩ v6).setCell ⟨H, 7, none⟩ v7) (some gc) := by
  have G := eight_only W H v0 v1 v2 v3 v4 v5 v6 v7
  exact ⟨eight_box h.r rfl _ _ _ _ _ _ _ _, h.c.grown G (fun e => by injection e with e; have := ha.c; have := ha.h; omega) (fun x hx => by injection hx with hx; have := ha.b; have := ha.h; omega), only_trans h.gr G (.inr fun x hx => by injection hx with hx; have := ha.h; omega)⟩
end

set_option maxRecDepth 10000 in
set_option maxHeartbeats 3200000 in
theorem rone_any {B : Nat} {w : World} {gc : Nat} {vc : Value} {sec : List UInt8} {a : Nat} (hB : B ≤ w.heap.size) (h : RR B w gc vc sec a 0) (hlen : sec.length ≤ 140737488355328) :
    Calls Tryd.prog 53 #[.pointer (some ⟨gc, 0, none⟩)] w fun r w' => r = .returned (.tuple #[.agg (roneH sec a).cells.toArray, .int .i64 (tkX sec a)]) ∧ RR B w' gc vc sec (bdA sec a 0) (bdE sec a 0) ∧ w.grownBy w' (some gc) := by
  have hal := h.2.2.1
  have hbl : (bdG sec a 0).length ≤ 140737488355328 := by
    have := bd_len sec a 0
    have := bdA_to (e := 0) hal
    omega
  have HB := Lib.hid (fun (W : World) (hC : RR B W gc vc sec a 0) => rbody_len hC hlen)
  have HO := Lib.hid (fun (W : World) => roff_len (bdW sec a 0) W)
  have CU := Lib.hid (fun (W : World) (g H X : Nat) (v : Value) (s : UCt) (cs : Array Value) (n : Int) (m : Nat) (hm : clampOf n = m) (hs : -9223372036854775808 ≤ n ∧ n ≤ 9223372036854775807) (ha : DnA B w gc g H X) (hW : DnU B w W gc vc sec (bdA sec a 0, bdE sec a 0) g v (bdG sec a 0) s H X cs) =>
    (ru_un hW.u hbl n m hm hs).mono fun r w' (⟨h1, h2, h3⟩ : _ ∧ _ ∧ _) => And.intro h1 (hW.call (s' := nU (bdG sec a 0) s m) ha h2 h3))
  have hA2 : bdA sec a 0 ≤ 140737488355328 := Nat.le_trans (bdA_to hal) hlen
  have HL := tkL_le sec a
  have hal2 : a ≤ 140737488355328 := Nat.le_trans hal hlen
  have HX := Lib.hid (show tkX sec a = (tkS sec a).2 from rfl)
  have HTL := Lib.hid (show leftOf (bdG sec a 0) (tkS sec a).1 (tkS sec a).2 = tkL sec a from rfl)
  have HR := Lib.hid (show roneH sec a = if tkX sec a = 0 then tkH sec a else zeroUH from rfl)
  have HH := Lib.hid (show tkH sec a = ⟨(kdU (bdG sec a 0) (bdE sec a 0) : Int), bdW sec a 0, abU (bdG sec a 0) (bdE sec a 0) (bdW sec a 0), if kdU (bdG sec a 0) (bdE sec a 0) = 2 then vU (bdG sec a 0) (q4U (bdG sec a 0) (bdE sec a 0) (bdW sec a 0)) 8 else 0, if kdU (bdG sec a 0) (bdE sec a 0) = 2 then vU (bdG sec a 0) (q5U (bdG sec a 0) (bdE sec a 0) (bdW sec a 0)) (offN (bdW sec a 0)) else 0, a, bdA sec a 0 - tkL sec a, bdA sec a 0⟩ from rfl)
  have HRF := Lib.hid (fun h => qzU_ref (l := bdG sec a 0) (e := bdE sec a 0) h (bdW sec a 0))
  have HQ1 := Lib.hid (@qz_q1 (bdG sec a 0) (bdE sec a 0) (bdW sec a 0))
  have HQ2 := Lib.hid (@qz_q2 (bdG sec a 0) (bdE sec a 0) (bdW sec a 0))
  have HQ3 := Lib.hid (@qz_q3 (bdG sec a 0) (bdE sec a 0) (bdW sec a 0))
  have HTS := Lib.hid (show tkS sec a = qzU (bdG sec a 0) (bdE sec a 0) (bdW sec a 0) from rfl)
  have E1 := Lib.hid (show q1U (bdG sec a 0) (bdE sec a 0) = fU (vU (bdG sec a 0) (0, bdE sec a 0) 2 != 5) (nU (bdG sec a 0) (0, bdE sec a 0) 2) from rfl)
  have E2 := Lib.hid (show q2U (bdG sec a 0) (bdE sec a 0) = fU (!kindOk (kdU (bdG sec a 0) (bdE sec a 0))) (nU (bdG sec a 0) (q1U (bdG sec a 0) (bdE sec a 0)) 1) from rfl)
  have E3 := Lib.hid (show q3U (bdG sec a 0) (bdE sec a 0) = fU (vU (bdG sec a 0) (q2U (bdG sec a 0) (bdE sec a 0)) 1 != 8) (nU (bdG sec a 0) (q2U (bdG sec a 0) (bdE sec a 0)) 1) from rfl)
  have E4 := Lib.hid (show nU (bdG sec a 0) (q3U (bdG sec a 0) (bdE sec a 0)) (offN (bdW sec a 0)) = q4U (bdG sec a 0) (bdE sec a 0) (bdW sec a 0) from rfl)
  have E5 := Lib.hid (show nU (bdG sec a 0) (q4U (bdG sec a 0) (bdE sec a 0) (bdW sec a 0)) 8 = q5U (bdG sec a 0) (bdE sec a 0) (bdW sec a 0) from rfl)
  have E6 := Lib.hid (show nU (bdG sec a 0) (q5U (bdG sec a 0) (bdE sec a 0) (bdW sec a 0)) (offN (bdW sec a 0)) = q6U (bdG sec a 0) (bdE sec a 0) (bdW sec a 0) from rfl)
  have EZ := Lib.hid (show qzU (bdG sec a 0) (bdE sec a 0) (bdW sec a 0) = if kdU (bdG sec a 0) (bdE sec a 0) = 2 then q6U (bdG sec a 0) (bdE sec a 0) (bdW sec a 0) else q4U (bdG sec a 0) (bdE sec a 0) (bdW sec a 0) from rfl)
  have V2 := Lib.hid (show vU (bdG sec a 0) (q1U (bdG sec a 0) (bdE sec a 0)) 1 = kdU (bdG sec a 0) (bdE sec a 0) from rfl)
  have V4 := Lib.hid (show vU (bdG sec a 0) (q3U (bdG sec a 0) (bdE sec a 0)) (offN (bdW sec a 0)) = abU (bdG sec a 0) (bdE sec a 0) (bdW sec a 0) from rfl)
  have hk := vU_lt (bdG sec a 0) (q1U (bdG sec a 0) (bdE sec a 0)) 1
  rw [V2.out] at hk
  have HI := Lib.hid h
  have HBW := Lib.hid hB
  clear h hB hbl hlen hal
  generalize roneH sec a = RH at *
  generalize tkH sec a = R at *
  generalize tkX sec a = x at *
  generalize tkL sec a = k at *
  generalize tkS sec a = sz at *
  generalize bdG sec a 0 = G at *
  generalize bdE sec a 0 = be at *
  generalize bdA sec a 0 = m at *
  generalize bdW sec a 0 = bw at *
  generalize qzU G be bw = z at *
  generalize q6U G be bw = z6 at *
  generalize q5U G be bw = z5 at *
  generalize q4U G be bw = z4 at *
  generalize abU G be bw = n4 at *
  generalize q3U G be = z3 at *
  generalize q2U G be = z2 at *
  generalize kdU G be = n2 at *
  generalize q1U G be = z1 at *
  have s1 : IntKind.u64.wrap (a : Int) = (a : Int) := by rw [IntWalk.u64_in _ (by omega)]
  have s2 : IntKind.u64.wrap (m : Int) = (m : Int) := by rw [IntWalk.u64_in _ (by omega)]
  have s3 : IntKind.u64.wrap ((m : Int) - (k : Int)) = ((m - k : Nat) : Int) := by rw [IntWalk.u64_in _ (by omega)]; omega
  have s4 : IntKind.u64.wrap (k : Int) = (k : Int) := by rw [IntWalk.u64_in _ (by omega)]
  have s5 : IntKind.i64.wrap (n2 : Int) = (n2 : Int) := by rw [IntWalk.i64_in _ (by omega)]
  have c1 : w.cell? ⟨gc, 1, none⟩ = some (.int .i64 (a : Int)) := rr_at HI.out
  have hgc : gc < w.heap.size := HI.out.1.lt
  go_enter Tryd.func53, Tryd.ntmps53
  go_upto_region 1 with fail
  have hX := Box.new w 79 #[.int .i64 0, .bool false, .int .u64 0, .int .u64 0, .int .u64 0, .int .u64 0, .int .u64 0, .int .u64 0]
  have hb : Below w.heap.size w (w.alloc (.cells #[.int .i64 0, .bool false, .int .u64 0, .int .u64 0, .int .u64 0, .int .u64 0, .int .u64 0, .int .u64 0] 79)) := (Below.refl _ _).alloc (Nat.le_refl _) _
  have hs1 : (w.alloc (.cells #[.int .i64 0, .bool false, .int .u64 0, .int .u64 0, .int .u64 0, .int .u64 0, .int .u64 0, .int .u64 0] 79)).heap.size = w.heap.size + 1 := by simp
  generalize hw1 : w.alloc (.cells #[.int .i64 0, .bool false, .int .u64 0, .int .u64 0, .int .u64 0, .int .u64 0, .int .u64 0, .int .u64 0] 79) = w1 at *
  have c1' : w1.cell? ⟨gc, 1, none⟩ = some (.int .i64 (a : Int)) := (hb.cell (p := ⟨gc, 1, none⟩) hgc).trans c1
  go_upto_region 2 with fail
  have hX3 := Box.new w1 79 #[.int .i64 0, .bool false, .int .u64 0, .int .u64 0, .int .u64 0, .int .u64 (a : Int), .int .u64 0, .int .u64 0]
  have hb3 : Below w1.heap.size w1 (w1.alloc (.cells #[.int .i64 0, .bool false, .int .u64 0, .int .u64 0, .int .u64 0, .int .u64 (a : Int), .int .u64 0, .int .u64 0] 79)) := (Below.refl _ _).alloc (Nat.le_refl _) _
  generalize hw3 : w1.alloc (.cells #[.int .i64 0, .bool false, .int .u64 0, .int .u64 0, .int .u64 0, .int .u64 (a : Int), .int .u64 0, .int .u64 0] 79) = w3 at *
  rw [hs1] at hX3
  have hb03 := hb.trans (hb3.mono hb.size)
  have HR3 := Lib.hid (HI.out.below hb03)
  have HX3 := Lib.hid hX3
  have HZ3 := Lib.hid (hX.below hb3 hX.lt)
  have HB3 := Lib.hid hb03
  clear hw1 hw3 hX hX3 hb hb3 hb03 c1 c1' hs1
  have HNE := Lib.hid (show w.heap.size ≠ w.heap.size + 1 by omega)
  have HXG := Lib.hid (show w.heap.size ≤ w.heap.size + 1 by omega)
  have HHG := Lib.hid (Nat.le_refl w.heap.size)
  generalize w.heap.size + 1 = X at *
  generalize hH : w.heap.size = H at HX3 HZ3 HNE HHG ⊢
  have HHE := Lib.hid hH
  clear hH
  go_upto_region 3 with (go_at_call 87; refine (HB.out _ HR3.out).mono ?_; rintro r w4 ⟨g, v, rfl, hM, hC, hG⟩; have HM := Lib.hid hM; have HC := Lib.hid hC; have HG := Lib.hid hG; clear hM hC hG)
  have HA := Lib.hid (show DnA B w gc g H X from ⟨HBW.out, hgc, by have := HM.out.2.1; have := HB3.out.size; omega, by have := HHG.out; have := HHE.out; omega, HXG.out, HNE.out⟩)
  have HE4 := Lib.hid (show DnU B w w4 gc vc sec (m, be) g v G (0, be) H X #[.int .i64 0, .bool false, .int .u64 0, .int .u64 0, .int .u64 0, .int .u64 (a : Int), .int .u64 0, .int .u64 0] from
    ⟨HC.out, HM.out.1, HX3.out.grown HG.out (fun e => by injection e with e; exact (HX3.out.other HR3.out.1 (by decide)) e), HZ3.out.grown HG.out (fun e => by injection e with e; exact (HZ3.out.other HR3.out.1 (by decide)) e), only_then_below_left HB3.out HG.out⟩)
  clear HM HC HG HX3 HZ3 HB3 HR3 HB HI hgc HNE HXG HHG
  have k2 := rc_e HE4.out.u
  by_cases hbe : be = 0
  rotate_left
  · have qe : (be != 0) = true := by simpa using hbe
    have hx : x = be := by rw [HX.out, HTS.out, HRF.out hbe]
    have HRR := Lib.hid (show RH = zeroUH by rw [HR.out, if_neg (by rw [hx]; exact hbe)])
    have HXE := Lib.hid hx
    obtain ⟨z0, z1', z2', z3', z4', z5', z6', z7⟩ := eight_cells HE4.out.r
    obtain ⟨g0, g1, g2, g3, g4, g5, g6, g7⟩ := eight_free HE4.out.r
    clear hx hbe
    have K2 := Lib.hid k2
    have K2d := Lib.hid (show w4.drew.cell? ⟨g, 2, none⟩ = some (.int .i64 be) from k2)
    have K2n := Lib.hid (fun n => show (w4.drewN n).cell? ⟨g, 2, none⟩ = some (.int .i64 be) from k2)
    have KE0 := Lib.hid (eight_only w4 H (.int .i64 0) (.bool false) (.int .u64 0) (.int .u64 0) (.int .u64 0) (.int .u64 0) (.int .u64 0) (.int .u64 0))
    have KE : ∀ W1, Hid (w4.grownBy W1 (some H)) → Hid (World.cell? (World.drew W1) ⟨g, 2, none⟩ = some (.int .i64 be)) := fun W1 hG => Lib.hid (HE4.out.e_told (only_drewN hG.out 1))
    go_upto_region 4 with fail
    (rename ∀ (a : Act) (w : World), Code.wp _ _ _ a w → _ => hKK; revert hKK; (repeat (rename ∀ (a : Act) (w : World), Code.wp _ _ _ a w → _ => hK2; clear hK2)); intro hKK)
    go_region_held_law (fun W => W.cell? ⟨g, 2, none⟩ = some (.int .i64 be)) ((first | (with_reducible exact K2.out) | (with_reducible exact K2d.out) | (with_reducible exact K2n.out _) | (with_reducible exact (KE _ KE0).out))) (fail)
    repeat (first | go_skip | go_guarded | go_step | go_upon)
    obtain ⟨t1, t2, t3⟩ := HE4.out.told HA.out (.int .i64 0) (.bool false) (.int .u64 0) (.int .u64 0) (.int .u64 0) (.int .u64 0) (.int .u64 0) (.int .u64 0)
    refine ret_two Tryd.underlying79 Tryd.results53 (t1.drewN 1) (by kernel_rfl) (by rfl) rfl ?_
    exact ⟨by rw [HRR.out, HXE.out]; rfl, t2.drewN 1, only_drewN t3 1⟩
  · have qe : ((0 : Int) != 0) = false := rfl
    subst hbe
    clear HRF
    obtain ⟨y0, y1, y2, y3, y4, y5, y6, y7⟩ := eight_cells HE4.out.x
    obtain ⟨g0, g1, g2, g3, g4, g5, g6, g7⟩ := eight_free HE4.out.x
    go_upto_region 6 with fail
    have HE5 := Lib.hid (HE4.out.set HA.out 1 (.bool bw))
    clear y0 y1 y2 y3 y4 y5 y6 y7 g0 g1 g2 g3 g4 g5 g6 g7 k2 HE4
    generalize World.setCell _ _ _ = w5 at *
    obtain ⟨y0, y1, y2, y3, y4, y5, y6, y7⟩ := eight_cells HE5.out.x
    obtain ⟨g0, g1, g2, g3, g4, g5, g6, g7⟩ := eight_free HE5.out.x
    have k1 := rr_at HE5.out.c
    go_upto_region 7 with fail
    have HE6 := Lib.hid (HE5.out.set HA.out 7 (.int .u64 (m : Int)))
    clear y0 y1 y2 y3 y4 y5 y6 y7 g0 g1 g2 g3 g4 g5 g6 g7 k1 HE5
    generalize World.setCell _ _ _ = w6 at *
    obtain ⟨p1, f1, hpf1⟩ : ∃ p f, nU G (0, 0) 2 = (p, f) := ⟨_, _, rfl⟩
    obtain ⟨n1, hn1⟩ : ∃ n, vU G (0, 0) 2 = n := ⟨_, rfl⟩
    have C1 := Lib.hid (fun W cs (hW : DnU B w W gc vc sec (m, 0) g v G (0, 0) H X cs) => (by
      have := CU.out W g H X v (0, 0) cs 2 2 rfl (by decide) HA.out hW
      rw [hn1, hpf1] at this
      exact this : Calls Tryd.prog 88 #[.pointer (some ⟨g, 0, none⟩), .int .i64 2] W fun r w' => r = .returned (.int .u64 (n1 : Int)) ∧ DnU B w w' gc vc sec (m, 0) g v G (p1, f1) H X cs))
    rw [hn1, hpf1] at E1
    clear hn1 hpf1
    go_upto_region 9 with (first
      | (go_at_call 60; refine (HO.out _).mono ?_; rintro r w7 ⟨rfl, rfl⟩)
      | (go_at_call 88; refine (C1.out _ _ HE6.out).mono ?_; rintro r w7 ⟨rfl, hE⟩; have HE7 := Lib.hid hE; clear hE))
    clear HE6 C1 HO
    have k2 := rc_e HE7.out.u
    obtain ⟨b1, hb1⟩ : ∃ b, (f1 == 0 && n1 != 5) = b := ⟨_, rfl⟩
    have HF1 := Lib.hid (fU_or (s := (p1, f1)) hb1)
    have HB1 := Lib.hid hb1
    clear hb1
    go_cut [51] (fun u wx => u = .bool b1 ∧ w7 = wx)
    case first =>
      by_cases h0 : f1 = 0
      · have q0 : (f1 == 0) = true := by simpa using h0
        by_cases h5 : n1 = 5
        · have q5 : ((n1 : Int) != 5) = false := by simp; omega
          have HBB := Lib.hid (show b1 = false by rw [← HB1.out, h0, h5]; rfl)
          clear h0 h5
          go_wp2_with fail
          go_meet
          case rel => exact ⟨by rw [HBB.out], rfl⟩
        · have q5 : ((n1 : Int) != 5) = true := by simp; omega
          have HBB := Lib.hid (show b1 = true by rw [← HB1.out, q0, show (n1 != 5) = true by simpa using h5]; rfl)
          clear h0 h5
          go_wp2_with fail
          go_meet
          case rel => exact ⟨by rw [HBB.out], rfl⟩
      · have q0 : (f1 == 0) = false := by simpa using h0
        have HBB := Lib.hid (show b1 = false by rw [← HB1.out, q0]; rfl)
        clear h0
        go_wp2_with fail
        go_meet
        case rel => exact ⟨by rw [HBB.out], rfl⟩
    case rest =>
    obtain ⟨rfl, rfl⟩ := hcut
    clear k2 HB1
    cases b1 with
    | true =>
      have hz : z1.2 = 42 := by rw [E1.out]; exact HF1.out.1 rfl
      have HXE := Lib.hid (show x = 42 by rw [HX.out, HTS.out, HQ1.out (by rw [hz]; decide)]; exact hz)
      have HRR := Lib.hid (show RH = zeroUH by rw [HR.out, if_neg (by rw [HXE.out]; decide)])
      clear hz
      obtain ⟨t0, t1, t2, t3, t4, t5, t6, t7⟩ := eight_cells HE7.out.r
      obtain ⟨g0, g1, g2, g3, g4, g5, g6, g7⟩ := eight_free HE7.out.r
      go_upto_region 10 with fail
      (rename ∀ (a : Act) (w : World), Code.wp _ _ _ a w → _ => hKK; revert hKK; (repeat (rename ∀ (a : Act) (w : World), Code.wp _ _ _ a w → _ => hK2; clear hK2)); intro hKK)
      repeat (first | go_skip | go_guarded | go_step | go_upon)
      obtain ⟨t1, t2, t3⟩ := HE7.out.told HA.out (.int .i64 0) (.bool false) (.int .u64 0) (.int .u64 0) (.int .u64 0) (.int .u64 0) (.int .u64 0) (.int .u64 0)
      refine ret_two Tryd.underlying79 Tryd.results53 t1 (by kernel_rfl) (by rfl) rfl ?_
      exact ⟨by rw [HRR.out, HXE.out]; rfl, t2, t3⟩
    | false =>
    have hz : z1 = (p1, f1) := by rw [E1.out]; exact HF1.out.2 rfl
    rw [← hz] at HE7
    clear hz HF1 E1 HQ1
    obtain ⟨p2, f2, hpf2⟩ : ∃ p f, nU G z1 1 = (p, f) := ⟨_, _, rfl⟩
    have C2 := Lib.hid (fun W cs (hW : DnU B w W gc vc sec (m, 0) g v G z1 H X cs) => (by
      have := CU.out W g H X v z1 cs 1 1 rfl (by decide) HA.out hW
      rw [V2.out, hpf2] at this
      exact this : Calls Tryd.prog 88 #[.pointer (some ⟨g, 0, none⟩), .int .i64 1] W fun r w' => r = .returned (.int .u64 (n2 : Int)) ∧ DnU B w w' gc vc sec (m, 0) g v G (p2, f2) H X cs))
    rw [hpf2] at E2
    clear hpf2
    go_upto_region 12 with (go_at_call 88; refine (C2.out _ _ HE7.out).mono ?_; rintro r w8 ⟨rfl, hE⟩; have HE8 := Lib.hid (hE.set HA.out 0 (.int .i64 (n2 : Int))); (obtain ⟨y0, y1, y2, y3, y4, y5, y6, y7⟩ := eight_cells hE.x); (obtain ⟨g0, g1, g2, g3, g4, g5, g6, g7⟩ := eight_free hE.x); clear hE)
    clear y0 y1 y2 y3 y4 y5 y6 y7 g0 g1 g2 g3 g4 g5 g6 g7 HE7 C2 V2
    generalize World.setCell _ _ _ = w9 at *
    have k2 := rc_e HE8.out.u
    obtain ⟨y0, y1, y2, y3, y4, y5, y6, y7⟩ := eight_cells HE8.out.x
    obtain ⟨b2, hb2⟩ : ∃ b, (f2 == 0 && !kindOk (n2 : Int)) = b := ⟨_, rfl⟩
    have HF2 := Lib.hid (fU_or (s := (p2, f2)) hb2)
    have HB2 := Lib.hid hb2
    clear hb2
    go_cut [71] (fun u wx => u = .bool b2 ∧ w9 = wx)
    case first =>
      by_cases h0 : f2 = 0
      · have q0 : (f2 == 0) = true := by simpa using h0
        by_cases h1 : n2 < 1
        · have q1 : decide ((n2 : Int) < 1) = true := by simp; omega
          have q1' : decide (n2 < 1) = true := by simpa using h1
          have HBB := Lib.hid (show b2 = true by rw [← HB2.out, q0, show kindOk (n2 : Int) = false by unfold kindOk; rw [show decide ((1 : Int) ≤ (n2 : Int)) = false by simp; omega]; rfl]; rfl)
          clear h0 h1
          go_wp2_with fail
          go_meet
          case rel => exact ⟨by rw [HBB.out], rfl⟩
        · have q1 : decide ((n2 : Int) < 1) = false := by simp; omega
          have q1' : decide (n2 < 1) = false := by simpa using h1
          by_cases h3 : 3 < n2
          · have q3 : decide ((3 : Int) < (n2 : Int)) = true := by simp; omega
            have q3' : decide (3 < n2) = true := by simpa using h3
            have HBB := Lib.hid (show b2 = true by rw [← HB2.out, q0, show kindOk (n2 : Int) = false by unfold kindOk; rw [show decide ((n2 : Int) ≤ 3) = false by simp; omega]; simp]; rfl)
            clear h0 h1 h3
            go_wp2_with fail
            go_meet
            case rel => exact ⟨by rw [HBB.out], rfl⟩
          · have q3 : decide ((3 : Int) < (n2 : Int)) = false := by simp; omega
            have q3' : decide (3 < n2) = false := by simpa using h3
            have HBB := Lib.hid (show b2 = false by rw [← HB2.out, q0, show kindOk (n2 : Int) = true by unfold kindOk; simp; omega]; rfl)
            clear h0 h1 h3
            go_wp2_with fail
            go_meet
            case rel => exact ⟨by rw [HBB.out], rfl⟩
      · have q0 : (f2 == 0) = false := by simpa using h0
        have HBB := Lib.hid (show b2 = false by rw [← HB2.out, q0]; rfl)
        clear h0
        go_wp2_with fail
        go_meet
        case rel => exact ⟨by rw [HBB.out], rfl⟩
    case rest =>
    obtain ⟨rfl, rfl⟩ := hcut
    clear k2 HB2 y0 y1 y2 y3 y4 y5 y6 y7
    cases b2 with
    | true =>
      have hz : z2.2 = 42 := by rw [E2.out]; exact HF2.out.1 rfl
      have HXE := Lib.hid (show x = 42 by rw [HX.out, HTS.out, HQ2.out (by rw [hz]; decide)]; exact hz)
      have HRR := Lib.hid (show RH = zeroUH by rw [HR.out, if_neg (by rw [HXE.out]; decide)])
      clear hz
      obtain ⟨t0, t1, t2, t3, t4, t5, t6, t7⟩ := eight_cells HE8.out.r
      obtain ⟨g0, g1, g2, g3, g4, g5, g6, g7⟩ := eight_free HE8.out.r
      go_upto_region 13 with fail
      (rename ∀ (a : Act) (w : World), Code.wp _ _ _ a w → _ => hKK; revert hKK; (repeat (rename ∀ (a : Act) (w : World), Code.wp _ _ _ a w → _ => hK2; clear hK2)); intro hKK)
      repeat (first | go_skip | go_guarded | go_step | go_upon)
      obtain ⟨t1, t2, t3⟩ := HE8.out.told HA.out (.int .i64 0) (.bool false) (.int .u64 0) (.int .u64 0) (.int .u64 0) (.int .u64 0) (.int .u64 0) (.int .u64 0)
      refine ret_two Tryd.underlying79 Tryd.results53 t1 (by kernel_rfl) (by rfl) rfl ?_
      exact ⟨by rw [HRR.out, HXE.out]; rfl, t2, t3⟩
    | false =>
    have hz : z2 = (p2, f2) := by rw [E2.out]; exact HF2.out.2 rfl
    rw [← hz] at HE8
    clear hz HF2 E2 HQ2
    obtain ⟨p3, f3, hpf3⟩ : ∃ p f, nU G z2 1 = (p, f) := ⟨_, _, rfl⟩
    obtain ⟨n3, hn3⟩ : ∃ n, vU G z2 1 = n := ⟨_, rfl⟩
    have C3 := Lib.hid (fun W cs (hW : DnU B w W gc vc sec (m, 0) g v G z2 H X cs) => (by
      have := CU.out W g H X v z2 cs 1 1 rfl (by decide) HA.out hW
      rw [hn3, hpf3] at this
      exact this : Calls Tryd.prog 88 #[.pointer (some ⟨g, 0, none⟩), .int .i64 1] W fun r w' => r = .returned (.int .u64 (n3 : Int)) ∧ DnU B w w' gc vc sec (m, 0) g v G (p3, f3) H X cs))
    rw [hn3, hpf3] at E3
    clear hn3 hpf3
    go_upto_region 15 with (go_at_call 88; refine (C3.out _ _ HE8.out).mono ?_; rintro r w10 ⟨rfl, hE⟩; have HE10 := Lib.hid hE; clear hE)
    clear HE8 C3
    have k2 := rc_e HE10.out.u
    obtain ⟨b3, hb3⟩ : ∃ b, (f3 == 0 && n3 != 8) = b := ⟨_, rfl⟩
    have HF3 := Lib.hid (fU_or (s := (p3, f3)) hb3)
    have HB3 := Lib.hid hb3
    clear hb3
    go_cut [83] (fun u wx => u = .bool b3 ∧ w10 = wx)
    case first =>
      by_cases h0 : f3 = 0
      · have q0 : (f3 == 0) = true := by simpa using h0
        by_cases h5 : n3 = 8
        · have q5 : ((n3 : Int) != 8) = false := by simp; omega
          have HBB := Lib.hid (show b3 = false by rw [← HB3.out, h0, h5]; rfl)
          clear h0 h5
          go_wp2_with fail
          go_meet
          case rel => exact ⟨by rw [HBB.out], rfl⟩
        · have q5 : ((n3 : Int) != 8) = true := by simp; omega
          have HBB := Lib.hid (show b3 = true by rw [← HB3.out, q0, show (n3 != 8) = true by simpa using h5]; rfl)
          clear h0 h5
          go_wp2_with fail
          go_meet
          case rel => exact ⟨by rw [HBB.out], rfl⟩
      · have q0 : (f3 == 0) = false := by simpa using h0
        have HBB := Lib.hid (show b3 = false by rw [← HB3.out, q0]; rfl)
        clear h0
        go_wp2_with fail
        go_meet
        case rel => exact ⟨by rw [HBB.out], rfl⟩
    case rest =>
    obtain ⟨rfl, rfl⟩ := hcut
    clear k2 HB3
    cases b3 with
    | true =>
      have hz : z3.2 = 42 := by rw [E3.out]; exact HF3.out.1 rfl
      have HXE := Lib.hid (show x = 42 by rw [HX.out, HTS.out, HQ3.out (by rw [hz]; decide)]; exact hz)
      have HRR := Lib.hid (show RH = zeroUH by rw [HR.out, if_neg (by rw [HXE.out]; decide)])
      clear hz
      obtain ⟨t0, t1, t2, t3, t4, t5, t6, t7⟩ := eight_cells HE10.out.r
      obtain ⟨g0, g1, g2, g3, g4, g5, g6, g7⟩ := eight_free HE10.out.r
      go_upto_region 16 with fail
      (rename ∀ (a : Act) (w : World), Code.wp _ _ _ a w → _ => hKK; revert hKK; (repeat (rename ∀ (a : Act) (w : World), Code.wp _ _ _ a w → _ => hK2; clear hK2)); intro hKK)
      repeat (first | go_skip | go_guarded | go_step | go_upon)
      obtain ⟨t1, t2, t3⟩ := HE10.out.told HA.out (.int .i64 0) (.bool false) (.int .u64 0) (.int .u64 0) (.int .u64 0) (.int .u64 0) (.int .u64 0) (.int .u64 0)
      refine ret_two Tryd.underlying79 Tryd.results53 t1 (by kernel_rfl) (by rfl) rfl ?_
      exact ⟨by rw [HRR.out, HXE.out]; rfl, t2, t3⟩
    | false =>
    have hz : z3 = (p3, f3) := by rw [E3.out]; exact HF3.out.2 rfl
    rw [← hz] at HE10
    clear hz HF3 E3 HQ3
    have C4 := Lib.hid (fun W cs (hW : DnU B w W gc vc sec (m, 0) g v G z3 H X cs) => (by
      have := CU.out W g H X v z3 cs (lenO bw) (offN bw) (clamp_off bw) (by unfold lenO; split <;> omega) HA.out hW
      rw [V4.out, E4.out] at this
      exact this : Calls Tryd.prog 88 #[.pointer (some ⟨g, 0, none⟩), .int .i64 (lenO bw)] W fun r w' => r = .returned (.int .u64 (n4 : Int)) ∧ DnU B w w' gc vc sec (m, 0) g v G z4 H X cs))
    obtain ⟨n5, hn5⟩ : ∃ n, vU G z4 8 = n := ⟨_, rfl⟩
    have C5 := Lib.hid (fun W cs (hW : DnU B w W gc vc sec (m, 0) g v G z4 H X cs) => (by
      have := CU.out W g H X v z4 cs 8 8 rfl (by decide) HA.out hW
      rw [hn5, E5.out] at this
      exact this : Calls Tryd.prog 88 #[.pointer (some ⟨g, 0, none⟩), .int .i64 8] W fun r w' => r = .returned (.int .u64 (n5 : Int)) ∧ DnU B w w' gc vc sec (m, 0) g v G z5 H X cs))
    obtain ⟨n6, hn6⟩ : ∃ n, vU G z5 (offN bw) = n := ⟨_, rfl⟩
    have C6 := Lib.hid (fun W cs (hW : DnU B w W gc vc sec (m, 0) g v G z5 H X cs) => (by
      have := CU.out W g H X v z5 cs (lenO bw) (offN bw) (clamp_off bw) (by unfold lenO; split <;> omega) HA.out hW
      rw [hn6, E6.out] at this
      exact this : Calls Tryd.prog 88 #[.pointer (some ⟨g, 0, none⟩), .int .i64 (lenO bw)] W fun r w' => r = .returned (.int .u64 (n6 : Int)) ∧ DnU B w w' gc vc sec (m, 0) g v G z6 H X cs))
    rw [hn5, hn6] at HH
    clear hn5 hn6 CU E4 E5 E6 V4
    obtain ⟨d3, hd3⟩ : ∃ d, (if n2 = 2 then n5 else 0) = d := ⟨_, rfl⟩
    obtain ⟨d4, hd4⟩ : ∃ d, (if n2 = 2 then n6 else 0) = d := ⟨_, rfl⟩
    rw [hd3, hd4] at HH
    have HD3 := Lib.hid hd3
    have HD4 := Lib.hid hd4
    clear hd3 hd4
    generalize lenO bw = lo at *
    go_upto_region 18 with (go_at_call 88; refine (C4.out _ _ HE10.out).mono ?_; rintro r w11 ⟨rfl, hE⟩; have HE11 := Lib.hid (hE.set HA.out 2 (.int .u64 (n4 : Int))); (obtain ⟨y0, y1, y2, y3, y4, y5, y6, y7⟩ := eight_cells hE.x); (obtain ⟨g0, g1, g2, g3, g4, g5, g6, g7⟩ := eight_free hE.x); clear hE)
    clear y0 y1 y2 y3 y4 y5 y6 y7 g0 g1 g2 g3 g4 g5 g6 g7 HE10 C4
    generalize World.setCell _ _ _ = w12 at *
    obtain ⟨y0, y1, y2, y3, y4, y5, y6, y7⟩ := eight_cells HE11.out.x
    go_upto_if 91 with fail
    go_cut [] (fun wx => DnU B w wx gc vc sec (m, 0) g v G z H X #[.int .i64 (n2 : Int), .bool bw, .int .u64 (n4 : Int), .int .u64 (d3 : Int), .int .u64 (d4 : Int), .int .u64 (a : Int), .int .u64 0, .int .u64 (m : Int)])
    case first =>
      by_cases h2 : n2 = 2
      · have q : ((n2 : Int) == 2) = true := by simp; omega
        have HD3' := Lib.hid (show d3 = n5 by rw [← HD3.out, if_pos h2])
        have HD4' := Lib.hid (show d4 = n6 by rw [← HD4.out, if_pos h2])
        have HZ := Lib.hid (show z = z6 by rw [EZ.out, if_pos h2])
        clear h2
        go_upto_region 20 with (go_at_call 88; refine (C5.out _ _ HE11.out).mono ?_; rintro r w13 ⟨rfl, hE⟩; have HE13 := Lib.hid (hE.set HA.out 3 (.int .u64 (n5 : Int))); clear y0 y1 y2 y3 y4 y5 y6 y7; (obtain ⟨y0, y1, y2, y3, y4, y5, y6, y7⟩ := eight_cells hE.x); (obtain ⟨g0, g1, g2, g3, g4, g5, g6, g7⟩ := eight_free hE.x); clear hE)
        clear y0 y1 y2 y3 y4 y5 y6 y7 g0 g1 g2 g3 g4 g5 g6 g7
        generalize World.setCell _ _ _ = w14 at *
        go_wp2_with (go_at_call 88; refine (C6.out _ _ HE13.out).mono ?_; rintro r w15 ⟨rfl, hE⟩; have HE15 := Lib.hid (hE.set HA.out 4 (.int .u64 (n6 : Int))); (obtain ⟨y0, y1, y2, y3, y4, y5, y6, y7⟩ := eight_cells hE.x); (obtain ⟨g0, g1, g2, g3, g4, g5, g6, g7⟩ := eight_free hE.x); clear hE)
        go_meet
        case rel => rw [HZ.out, HD3'.out, HD4'.out]; exact HE15.out
      · have q : ((n2 : Int) == 2) = false := by simp; omega
        have HD3' := Lib.hid (show d3 = 0 by rw [← HD3.out, if_neg h2])
        have HD4' := Lib.hid (show d4 = 0 by rw [← HD4.out, if_neg h2])
        have HZ := Lib.hid (show z = z4 by rw [EZ.out, if_neg h2])
        clear h2
        go_wp2_with fail
        go_meet
        case rel => rw [HZ.out, HD3'.out, HD4'.out]; exact HE11.out
    case rest =>
    have HE16 := Lib.hid hcut
    clear hcut HE11 C5 C6 y0 y1 y2 y3 y4 y5 y6 y7 HD3 HD4 EZ
    have hsz := HTS.out
    subst hsz
    obtain ⟨pz, fz⟩ := sz
    simp only at HX HTL
    have k2 := rc_e HE16.out.u
    simp only at k2
    have HXF := Lib.hid (show x = fz from HX.out)
    by_cases hfz : fz = 0
    · have qe : (fz != 0) = false := by simpa using hfz
      have HXE := Lib.hid (show x = 0 from HX.out.trans hfz)
      have HRR := Lib.hid (show RH = R by rw [HR.out, if_pos HXE.out])
      obtain ⟨y0, y1, y2, y3, y4, y5, y6, y7⟩ := eight_cells HE16.out.x
      obtain ⟨g0, g1, g2, g3, g4, g5, g6, g7⟩ := eight_free HE16.out.x
      have HLF := Lib.hid (fun (W : World) (hW : ∃ q, W = wc.drewN q) => (by
        obtain ⟨q, rfl⟩ := hW
        have := rleft_cur (HE16.out.drewN q).u
        simp only at this
        rw [HTL.out] at this
        exact this : Calls Tryd.prog 89 #[.pointer (some ⟨g, 0, none⟩)] W fun r w' => r = .returned (.int .i64 (k : Int)) ∧ ∃ n, w' = W.drewN n))
      clear hfz
      go_upto_region 23 with fail
      have Y7 := Lib.hid y7
      have Y7d := Lib.hid (show wc.drew.cell? ⟨X, 7, none⟩ = some (.int .u64 (m : Int)) from y7)
      have Y7n := Lib.hid (fun n => show (wc.drewN n).cell? ⟨X, 7, none⟩ = some (.int .u64 (m : Int)) from y7)
      have KS := Lib.hid (fun (W : World) (u : Value) (hW : W.cell? ⟨X, 7, none⟩ = some (.int .u64 (m : Int))) => (by
        rw [World.cell?_setCell_other _ _ _ _ (by intro e; injection e with _ e; exact absurd e (by decide))]
        exact hW : (W.setCell ⟨X, 6, none⟩ u).cell? ⟨X, 7, none⟩ = some (.int .u64 (m : Int))))
      go_region_held_law (fun W => W.cell? ⟨X, 7, none⟩ = some (.int .u64 (m : Int))) ((first | (with_reducible exact Y7.out) | (with_reducible exact Y7d.out) | (with_reducible exact Y7n.out _) | exact KS.out _ _ Y7.out)) (first
        | (go_at_call 89; refine (HLF.out _ (by first | exact ⟨0, rfl⟩ | exact ⟨_, rfl⟩)).mono ?_; rintro r w17 ⟨rfl, nq, rfl⟩))
      go_upto_region 24 with fail
      have HE17 := Lib.hid ((HE16.out.drewN (1 + nq)).set HA.out 6 (.int .u64 ((m - k : Nat) : Int)))
      clear y0 y1 y2 y3 y4 y5 y6 y7 g0 g1 g2 g3 g4 g5 g6 g7 HE16 Y7 Y7d Y7n KS HLF k2
      generalize World.setCell _ _ _ = w18 at *
      obtain ⟨y0, y1, y2, y3, y4, y5, y6, y7⟩ := eight_cells HE17.out.x
      obtain ⟨t0, t1, t2, t3, t4, t5, t6, t7⟩ := eight_cells HE17.out.r
      obtain ⟨g0, g1, g2, g3, g4, g5, g6, g7⟩ := eight_free HE17.out.r
      (rename ∀ (a : Act) (w : World), Code.wp _ _ _ a w → _ => hKK; revert hKK; (repeat (rename ∀ (a : Act) (w : World), Code.wp _ _ _ a w → _ => hK2; clear hK2)); intro hKK)
      repeat (first | go_skip | go_guarded | go_step | go_upon)
      obtain ⟨t1, t2, t3⟩ := HE17.out.told HA.out (.int .i64 (n2 : Int)) (.bool bw) (.int .u64 (n4 : Int)) (.int .u64 (d3 : Int)) (.int .u64 (d4 : Int)) (.int .u64 (a : Int)) (.int .u64 ((m - k : Nat) : Int)) (.int .u64 (m : Int))
      refine ret_two Tryd.underlying79 Tryd.results53 t1 (by kernel_rfl) (by rfl) rfl ?_
      exact ⟨by rw [HRR.out, HXE.out, HH.out]; rfl, t2, t3⟩
    · have qe : (fz != 0) = true := by simpa using hfz
      have HRR := Lib.hid (show RH = zeroUH by rw [HR.out, if_neg (by rw [HXF.out]; exact hfz)])
      obtain ⟨t0, t1, t2, t3, t4, t5, t6, t7⟩ := eight_cells HE16.out.r
      obtain ⟨g0, g1, g2, g3, g4, g5, g6, g7⟩ := eight_free HE16.out.r
      have K2 := Lib.hid k2
      have K2d := Lib.hid (show wc.drew.cell? ⟨g, 2, none⟩ = some (.int .i64 fz) from k2)
      have K2n := Lib.hid (fun n => show (wc.drewN n).cell? ⟨g, 2, none⟩ = some (.int .i64 fz) from k2)
      have KE0 := Lib.hid (eight_only wc H (.int .i64 0) (.bool false) (.int .u64 0) (.int .u64 0) (.int .u64 0) (.int .u64 0) (.int .u64 0) (.int .u64 0))
      have KE : ∀ W1, Hid (wc.grownBy W1 (some H)) → Hid (World.cell? (World.drew W1) ⟨g, 2, none⟩ = some (.int .i64 fz)) := fun W1 hG => Lib.hid (HE16.out.e_told (only_drewN hG.out 1))
      go_upto_region 22 with fail
      (rename ∀ (a : Act) (w : World), Code.wp _ _ _ a w → _ => hKK; revert hKK; (repeat (rename ∀ (a : Act) (w : World), Code.wp _ _ _ a w → _ => hK2; clear hK2)); intro hKK)
      go_region_held_law (fun W => W.cell? ⟨g, 2, none⟩ = some (.int .i64 fz)) ((first | (with_reducible exact K2.out) | (with_reducible exact K2d.out) | (with_reducible exact K2n.out _) | (with_reducible exact (KE _ KE0).out))) (fail)
      repeat (first | go_skip | go_guarded | go_step | go_upon)
      obtain ⟨t1, t2, t3⟩ := HE16.out.told HA.out (.int .i64 0) (.bool false) (.int .u64 0) (.int .u64 0) (.int .u64 0) (.int .u64 0) (.int .u64 0) (.int .u64 0)
      refine ret_two Tryd.underlying79 Tryd.results53 (t1.drewN 1) (by kernel_rfl) (by rfl) rfl ?_
      exact ⟨by rw [HRR.out, HXF.out]; rfl, t2.drewN 1, only_drewN t3 1⟩

end Go.Proofs.YtelmfhpefnemfaaDoor
