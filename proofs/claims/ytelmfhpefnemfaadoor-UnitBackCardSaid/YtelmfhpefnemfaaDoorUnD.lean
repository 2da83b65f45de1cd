/-
  Package unit: take: a unit's head, read.
-/
import Derived.Test.YtelmfhpefnemfaaDoorUnC
import Derived.Test.YtelmfhpefnemfaaDoorCurE
import Derived.Test.YtelmfhpefnemfaaDoorRefC
namespace Go.Proofs.YtelmfhpefnemfaaDoor
open Go Go.RowKit

theorem nU_ref {l : List UInt8} {s : UCt} (h : s.2 ≠ 0) (n : Nat) : nU l s n = s := by
  obtain ⟨a, e⟩ := s
  simp only at h
  simp [nU, nextAt, nextErr, h]
theorem fU_ref {s : UCt} (h : s.2 ≠ 0) (b : Bool) : fU b s = s := by
  obtain ⟨a, e⟩ := s
  simp only at h
  cases b
  · rfl
  · simp [fU, failOf, h]
theorem qzU_ref {l : List UInt8} {e : Int} (h : e ≠ 0) (wide : Bool) : qzU l e wide = (0, e) := by
  have h0 : ((0, e) : UCt).2 ≠ 0 := h
  have h1 : q1U l e = (0, e) := by rw [q1U, nU_ref h0, fU_ref h0]
  have h2 : q2U l e = (0, e) := by rw [q2U, h1, nU_ref h0, fU_ref h0]
  have h3 : q3U l e = (0, e) := by rw [q3U, h2, nU_ref h0, fU_ref h0]
  have h4 : q4U l e wide = (0, e) := by rw [q4U, h3, nU_ref h0]
  have h5 : q5U l e wide = (0, e) := by rw [q5U, h4, nU_ref h0]
  have h6 : q6U l e wide = (0, e) := by rw [q6U, h5, nU_ref h0]
  rw [qzU, h6, h4]
  split <;> rfl
/-- Where the body's cursor stands behind the numbers; what a unit's head is; what is refused. -/
def tkS (sec : List UInt8) (a : Nat) : UCt := qzU (bdG sec a 0) (bdE sec a 0) (bdW sec a 0)
def tkX (sec : List UInt8) (a : Nat) : Int := (tkS sec a).2
def tkL (sec : List UInt8) (a : Nat) : Nat := leftOf (bdG sec a 0) (tkS sec a).1 (tkS sec a).2
def tkH (sec : List UInt8) (a : Nat) : UHd :=
  ⟨(numU (bdG sec a 0) (bdE sec a 0) (bdW sec a 0)).kind, bdW sec a 0, (numU (bdG sec a 0) (bdE sec a 0) (bdW sec a 0)).ab, (numU (bdG sec a 0) (bdE sec a 0) (bdW sec a 0)).sig, (numU (bdG sec a 0) (bdE sec a 0) (bdW sec a 0)).ty, a, bdA sec a 0 - tkL sec a, bdA sec a 0⟩
theorem tk_fail (sec : List UInt8) (a : Nat) : failOf (bdE sec a 0) (tkX sec a) = tkX sec a := by
  unfold failOf
  split
  · rfl
  · rename_i h
    rw [tkX, tkS, qzU_ref h]
theorem nextAt_to {l : List UInt8} {a : Nat} {e : Int} {n : Nat} (h : a ≤ l.length) : nextAt l a e n ≤ l.length := by
  unfold nextAt
  split
  · omega
  · exact h
theorem tkA_to {l : List UInt8} {a : Nat} {e : Int} (h : a ≤ l.length) : tkA l a e ≤ l.length := by
  unfold tkA
  split
  · exact nextAt_to h
  · split
    · exact nextAt_to (nextAt_to h)
    · exact nextAt_to h
theorem bdA_to {l : List UInt8} {a : Nat} {e : Int} (h : a ≤ l.length) : bdA l a e ≤ l.length := nextAt_to (tkA_to h)
theorem bd_len (sec : List UInt8) (a : Nat) (e : Int) : (bdG sec a e).length ≤ bdA sec a e := by
  unfold bdG bdA nextGot nextAt
  split
  · simp; omega
  · simp
theorem tkL_le (sec : List UInt8) (a : Nat) : tkL sec a ≤ bdA sec a 0 := by
  have := bd_len sec a 0
  unfold tkL leftOf
  split <;> omega

/-- The cursor, the body's cursor, the result's cell. -/
structure TkU (w W : World) (gc : Nat) (vc : Value) (sec : List UInt8) (t : UCt) (g pb pw : Nat) (v : Value) (l : List UInt8) (wide : Bool) (s : UCt) (H : Nat) : Prop where
  c : Cur W gc vc sec t.1 t.2
  u : UIn W g pb pw v l wide s
  r : Box W H 82 #[.int .i64 0, .bool false, .int .u64 0, .int .u64 0, .int .u64 0, .int .u64 0, .int .u64 0, .int .u64 0]
  gr : w.grownBy W (some gc)
/-- Where things are. -/
structure TkA (w : World) (gc g H : Nat) : Prop where
  c : gc < w.heap.size
  g : w.heap.size ≤ g
  h : w.heap.size ≤ H
  z : 0 < w.heap.size
section
variable {w W W' : World} {gc : Nat} {vc : Value} {sec : List UInt8} {t t' : UCt} {g pb pw : Nat} {v : Value} {l : List UInt8} {wide : Bool} {s s' : UCt} {H : Nat}
theorem TkU.body (h : TkU w W gc vc sec t g pb pw v l wide s H) (ha : TkA w gc g H) (hU : UIn W' g pb pw v l wide s') (hG : W.grownBy W' (some g)) : TkU w W' gc vc sec t g pb pw v l wide s' H :=
  ⟨h.c.other (by have := ha.c; have := ha.g; omega) h.u.c.1 hG, hU, h.r.grown hG (fun e => by injection e with e; exact (h.r.other h.u.c.1 (by decide)) e), only_trans h.gr hG (.inr fun x hx => by injection hx with hx; have := ha.g; omega)⟩
theorem TkU.main (h : TkU w W gc vc sec t g pb pw v l wide s H) (ha : TkA w gc g H) (hC : Cur W' gc vc sec t'.1 t'.2) (hG : W.grownBy W' (some gc)) : TkU w W' gc vc sec t' g pb pw v l wide s H :=
  ⟨hC, h.u.past h.c.1 (by decide) (by have := ha.c; have := ha.g; omega) (h.u.b.other h.c.1 (by decide)) (h.u.d.other h.c.1 (by decide)) (fun e => by have := h.u.z.cur h.c; rw [e] at this; exact this rfl) hG, h.r.grown hG (fun e => by injection e with e; exact (h.r.other h.c.1 (by decide)) e), h.gr.trans hG⟩
theorem TkU.below (h : TkU w W gc vc sec t g pb pw v l wide s H) (hb : Below W.heap.size W W') : TkU w W' gc vc sec t g pb pw v l wide s H :=
  ⟨h.c.below hb, h.u.below hb, h.r.below hb h.r.lt, only_then_below h.gr hb⟩
theorem TkU.drewN (h : TkU w W gc vc sec t g pb pw v l wide s H) (n : Nat) : TkU w (W.drewN n) gc vc sec t g pb pw v l wide s H :=
  h.below (below_drewN (Below.refl _ _) n)
theorem TkU.past (h : TkU w W gc vc sec t g pb pw v l wide s H) (ha : TkA w gc g H) {X : Nat} {cs : Array Value} (hX : Box W X 82 cs) (hx : w.heap.size ≤ X) (hne : H ≠ X) (hG : W.grownBy W' (some X)) : TkU w W' gc vc sec t g pb pw v l wide s H :=
  ⟨h.c.grown hG (fun e => by injection e with e; exact (h.c.1.other hX (by decide)) e) (.inr (own_other h.c.2.1 hX (by decide))),
   h.u.past hX (by decide) (h.u.c.1.other hX (by decide)) (h.u.b.other hX (by decide)) (h.u.d.other hX (by decide)) (by have := ha.z; omega) hG,
   h.r.grown hG (fun e => by injection e with e; exact hne e), only_trans h.gr hG (.inr fun x hx' => by injection hx' with hx'; omega)⟩
/-- The result's cell written. -/
theorem TkU.told (h : TkU w W gc vc sec t g pb pw v l wide s H) (ha : TkA w gc g H) (v0 v1 v2 v3 v4 v5 v6 v7 : Value) :
    Box ((((((((W.setCell ⟨H, 0, none⟩ v0).setCell ⟨H, 1, none⟩ v1).setCell ⟨H, 2, none⟩ v2).setCell ⟨H, 3, none⟩ v3).setCell ⟨H, 4, none⟩ v4).setCell ⟨H, 5, none⟩ v5).setCell ⟨H, 6, none⟩ v6).setCell ⟨H, 7, none⟩ v7) H 82 #[v0, v1, v2, v3, v4, v5, v6, v7] ∧ Cur ((((((((W.setCell ⟨H, 0, none⟩ v0).setCell ⟨H, 1, none⟩ v1).setCell ⟨H, 2, none⟩ v2).setCell ⟨H, 3, none⟩ v3).setCell ⟨H, 4, none⟩ v4).setCell ⟨H, 5, none⟩ v5).setCell ⟨H, 6, none⟩ v6).setCell ⟨H, 7, none⟩ v7) gc vc sec t.1 t.2 ∧ w.grownBy ((((((((W.setCell ⟨H, 0, none⟩ v0).setCell ⟨H, 1, none⟩ v1).setCell ⟨H, 2, none⟩ v2).setCell ⟨H, 3, none⟩ v3).setCell ⟨H, 4, none⟩ v4).setCell ⟨H, 5, none⟩ v5).setCell ⟨H, 6, none⟩ v6).setCell ⟨H, 7, none⟩ v7) (some gc) := by
  have G := eight_only W H v0 v1 v2 v3 v4 v5 v6 v7
  have := ha.h
  exact ⟨eight_box h.r rfl _ _ _ _ _ _ _ _, h.c.grown G (fun e => by injection e with e; exact (h.c.1.other h.r (by decide)) e) (.inr (own_other h.c.2.1 h.r (by decide))), only_trans h.gr G (.inr fun x hx => by injection hx with hx; omega)⟩
end

theorem only_then_below_left {a b c : World} {r : Option Nat} (h : Below a.heap.size a b) (k : b.grownBy c r) : a.grownBy c r := (only_below h r).trans k

set_option maxRecDepth 10000 in
set_option maxHeartbeats 3200000 in
theorem utake_any {w : World} {gc : Nat} {vc : Value} {sec : List UInt8} {a : Nat} (hs : Sz w) (h : Cur w gc vc sec a 0) (hlen : sec.length ≤ 140737488355328) :
    Calls Tryd.prog 50 #[.pointer (some ⟨gc, 0, none⟩)] w fun r w' => r = .returned (.agg (tkH sec a).cells.toArray) ∧ Cur w' gc vc sec (bdA sec a 0) (tkX sec a) ∧ w.grownBy w' (some gc) := by
  have hmf : ∀ (fn : Fn) (first cap : Array Value) (W : World), (Instr.makeFunc fn first cap).run Tryd.prog W = .ok (.func fn first cap) W := fun _ _ _ _ => rfl
  have hal := h.2.2
  have hbl : (bdG sec a 0).length ≤ 140737488355328 := by
    have := nextGot_le sec (tkA sec a 0) (tkE sec a 0) (tkN sec a 0)
    unfold bdG nextGot
    split
    · simp; omega
    · simp
  have HB := Lib.hid (fun (W : World) (hS : Sz W) (hC : Cur W gc vc sec a 0) => body_len hS hC hlen)
  have HN := Lib.hid (fun (W : World) (g pb pw : Nat) (v : Value) (hU : UIn W g pb pw v (bdG sec a 0) (bdW sec a 0) (0, bdE sec a 0)) => numbers_un hU hbl)
  have hA2 : bdA sec a 0 ≤ 140737488355328 := Nat.le_trans (bdA_to hal) hlen
  have HL := tkL_le sec a
  have HF := Lib.hid (tk_fail sec a)
  have HH := Lib.hid (show tkH sec a = ⟨(numU (bdG sec a 0) (bdE sec a 0) (bdW sec a 0)).kind, bdW sec a 0, (numU (bdG sec a 0) (bdE sec a 0) (bdW sec a 0)).ab, (numU (bdG sec a 0) (bdE sec a 0) (bdW sec a 0)).sig, (numU (bdG sec a 0) (bdE sec a 0) (bdW sec a 0)).ty, a, bdA sec a 0 - tkL sec a, bdA sec a 0⟩ from rfl)
  have HX := Lib.hid (show (tkS sec a).2 = tkX sec a from rfl)
  have HTL := Lib.hid (show leftOf (bdG sec a 0) (tkS sec a).1 (tkS sec a).2 = tkL sec a from rfl)
  have HND := Lib.hid (show numU (bdG sec a 0) (bdE sec a 0) (bdW sec a 0) = ⟨(numU (bdG sec a 0) (bdE sec a 0) (bdW sec a 0)).kind, false, (numU (bdG sec a 0) (bdE sec a 0) (bdW sec a 0)).ab, (numU (bdG sec a 0) (bdE sec a 0) (bdW sec a 0)).sig, (numU (bdG sec a 0) (bdE sec a 0) (bdW sec a 0)).ty, 0, 0, 0⟩ from rfl)
  rw [show qzU (bdG sec a 0) (bdE sec a 0) (bdW sec a 0) = tkS sec a from rfl] at HN
  have hal2 : a ≤ 140737488355328 := Nat.le_trans hal hlen
  have HI := Lib.hid (And.intro hs h)
  clear h hs hbl hlen hal
  generalize tkH sec a = R at *
  generalize tkX sec a = x at *
  generalize tkL sec a = k at *
  generalize tkS sec a = s at *
  generalize (numU (bdG sec a 0) (bdE sec a 0) (bdW sec a 0)).kind = d0 at *
  generalize (numU (bdG sec a 0) (bdE sec a 0) (bdW sec a 0)).ab = d2 at *
  generalize (numU (bdG sec a 0) (bdE sec a 0) (bdW sec a 0)).sig = d3 at *
  generalize (numU (bdG sec a 0) (bdE sec a 0) (bdW sec a 0)).ty = d4 at *
  generalize numU (bdG sec a 0) (bdE sec a 0) (bdW sec a 0) = D at *
  generalize bdG sec a 0 = G at *
  generalize bdE sec a 0 = be at *
  generalize bdA sec a 0 = m at *
  generalize bdW sec a 0 = bw at *
  go_enter Tryd.func50, Tryd.ntmps50
  go_upto_region 1 with fail
  have hX := Box.new w 82 #[.int .i64 0, .bool false, .int .u64 0, .int .u64 0, .int .u64 0, .int .u64 0, .int .u64 0, .int .u64 0]
  have hb : Below w.heap.size w (w.alloc (.cells #[.int .i64 0, .bool false, .int .u64 0, .int .u64 0, .int .u64 0, .int .u64 0, .int .u64 0, .int .u64 0] 82)) := (Below.refl _ _).alloc (Nat.le_refl _) _
  generalize hw1 : w.alloc (.cells #[.int .i64 0, .bool false, .int .u64 0, .int .u64 0, .int .u64 0, .int .u64 0, .int .u64 0, .int .u64 0] 82) = w1 at *
  have HC1 := Lib.hid (HI.out.2.below hb)
  have HS1 := Lib.hid (HI.out.1.below hb HI.out.1.pos)
  have HX1 := Lib.hid hX
  have HB1 := Lib.hid hb
  have HGC := Lib.hid HI.out.2.1.lt
  have HZ := Lib.hid HI.out.1.pos
  clear hw1 hX hb HI
  have HWH := Lib.hid (Nat.le_refl w.heap.size)
  generalize hH : w.heap.size = H at HX1 HWH ⊢
  have HHE := Lib.hid hH
  clear hH
  go_upto_region 2 with (go_at_call 79; refine (at_cur HC1.out).mono ?_; rintro r w2 ⟨rfl, rfl⟩)
  go_upto_region 3 with (go_at_call 80; refine (HB.out _ HS1.out HC1.out).mono ?_; rintro r w2 ⟨g, v, rfl, hM, hC, hG⟩; have HM := Lib.hid hM; have HC2 := Lib.hid hC; have HG2 := Lib.hid hG; clear hM hC hG)
  have hgl : g < w2.heap.size := HM.out.1.1.lt
  have hX2 := Box.new w2 120 #[.pointer (some ⟨g, 0, none⟩)]
  have hb2 : Below w2.heap.size w2 (w2.alloc (.cells #[.pointer (some ⟨g, 0, none⟩)] 120)) := (Below.refl _ _).alloc (Nat.le_refl _) _
  have hs3 : (w2.alloc (.cells #[.pointer (some ⟨g, 0, none⟩)] 120)).heap.size = w2.heap.size + 1 := by simp
  generalize hw3 : w2.alloc (.cells #[.pointer (some ⟨g, 0, none⟩)] 120) = w3 at *
  have hX3 := Box.new w3 4 #[.bool bw]
  have hb3 : Below w3.heap.size w3 (w3.alloc (.cells #[.bool bw] 4)) := (Below.refl _ _).alloc (Nat.le_refl _) _
  rw [hs3] at hX3
  generalize hw4 : w3.alloc (.cells #[.bool bw] 4) = w4 at *
  have hb24 : Below w2.heap.size w2 w4 := hb2.trans (hb3.mono hb2.size)
  have hcx : Cur w4 gc vc sec m be := HC2.out.below hb24
  have HE4 := Lib.hid (show TkU w w4 gc vc sec (m, be) g w2.heap.size (w2.heap.size + 1) v G bw (0, be) H from
    ⟨hcx, ⟨HM.out.1.below hb24, hX2.below hb3 hX2.lt, hX3, (HS1.out.grown HG2.out (HS1.out.cur HC1.out)).below hb24 (HS1.out.grown HG2.out (HS1.out.cur HC1.out)).pos⟩,
     (HX1.out.grown HG2.out (fun e => by injection e with e; exact (HX1.out.other HC1.out.1 (by decide)) e)).below hb24 (HX1.out.grown HG2.out (fun e => by injection e with e; exact (HX1.out.other HC1.out.1 (by decide)) e)).lt,
     only_then_below (only_then_below_left HB1.out HG2.out) hb24⟩)
  have HA := Lib.hid (show TkA w gc g H from ⟨by have := HGC.out; omega, by have := HM.out.2.1; have := HB1.out.size; have := HHE.out; omega, by have := HWH.out; have := HHE.out; omega, by have := HZ.out; omega⟩)
  have HN2 := Lib.hid (fun (W : World) (g pb pw : Nat) (v : Value) (hU : UIn W g pb pw v G bw (0, be)) => (by
    have := HN.out W g pb pw v hU
    rw [HND.out] at this
    exact this : Calls Tryd.prog 83 #[.func (.func 84) #[.pointer (some ⟨g, 0, none⟩)] #[], .func (.func 85) #[.pointer (some ⟨g, 0, none⟩)] #[], .func (.func 86) #[.pointer (some ⟨g, 0, none⟩)] #[], .func (.func 81) #[] #[.pointer (some ⟨pb, 0, none⟩), .pointer (some ⟨pw, 0, none⟩)], .func (.func 51) #[.pointer (some ⟨g, 0, none⟩)] #[]] W fun r w' =>
      r = .returned (.agg #[.int .i64 d0, .bool false, .int .u64 (d2 : Int), .int .u64 (d3 : Int), .int .u64 (d4 : Int), .int .u64 0, .int .u64 0, .int .u64 0]) ∧ UIn w' g pb pw v G bw s ∧ W.grownBy w' (some g)))
  clear hw3 hw4 hX2 hX3 hb2 hb3 hb24 hs3 hcx HM HC2 HG2 HC1 HS1 HX1 HB1 hgl HN HND
  generalize w2.heap.size + 1 = pw at *
  generalize w2.heap.size = pb at *
  have k4 := HE4.out.u.b.cell 0
  have k5 := HE4.out.u.d.cell 0
  simp at k4 k5
  go_upto_region 4 with fail
  go_upto_region 5 with (go_at_call 83; refine (HN2.out _ _ _ _ _ HE4.out.u).mono ?_; rintro r w5 ⟨rfl, hU, hG⟩; have HE5 := Lib.hid (HE4.out.body HA.out hU hG); clear hU hG)
  have hX6 := Box.new w5 82 #[.int .i64 d0, .bool false, .int .u64 (d2 : Int), .int .u64 (d3 : Int), .int .u64 (d4 : Int), .int .u64 0, .int .u64 0, .int .u64 0]
  have hb6 : Below w5.heap.size w5 (w5.alloc (.cells #[.int .i64 d0, .bool false, .int .u64 (d2 : Int), .int .u64 (d3 : Int), .int .u64 (d4 : Int), .int .u64 0, .int .u64 0, .int .u64 0] 82)) := (Below.refl _ _).alloc (Nat.le_refl _) _
  generalize hw6 : w5.alloc (.cells #[.int .i64 d0, .bool false, .int .u64 (d2 : Int), .int .u64 (d3 : Int), .int .u64 (d4 : Int), .int .u64 0, .int .u64 0, .int .u64 0] 82) = w6 at *
  have HE6 := Lib.hid (HE5.out.below hb6)
  have HX6 := Lib.hid hX6
  have HNE := Lib.hid (show H ≠ w5.heap.size from Nat.ne_of_lt HE5.out.r.lt)
  have HSX := Lib.hid (show w.heap.size ≤ w5.heap.size from HE5.out.gr.size)
  clear hX6 hb6 hw6 k4 k5 HE4 HE5 HN2 HB
  generalize w5.heap.size = X at *
  have k4 := HE6.out.u.b.cell 0
  simp at k4
  go_upto_region 6 with (first
    | (go_at_call 52; refine (err_cur HE6.out.u.c).mono ?_; rintro r w7 ⟨rfl, rfl⟩; rw [HX.out])
    | (go_at_call 51; refine (fail_cur HE6.out.c x).mono ?_; rintro r w7 ⟨rfl, hC, hG⟩; rw [HF.out] at hC; have HE7 := Lib.hid (HE6.out.main HA.out (t' := (m, x)) hC hG); have HX7 := Lib.hid (HX6.out.grown hG (fun e => by injection e with e; exact (HX6.out.other HE6.out.c.1 (by decide)) e)); clear hC hG))
  clear k4 HE6 HX6
  have k5 := HE7.out.u.d.cell 0
  simp at k5
  obtain ⟨y0, y1, y2, y3, y4, y5, y6, y7⟩ := eight_cells HX7.out
  obtain ⟨g0, g1, g2, g3, g4, g5, g6, g7⟩ := eight_free HX7.out
  go_upto_region 7 with fail
  have HG8 := Lib.hid (show w7.grownBy (w7.setCell ⟨X, 1, none⟩ (.bool bw)) (some X) from only_set (only_refl _ _) 1 _)
  have HX8 := Lib.hid (HX7.out.set 1 (.bool bw))
  have HE8 := Lib.hid (HE7.out.past HA.out HX7.out HSX.out HNE.out HG8.out)
  clear k5 y0 y1 y2 y3 y4 y5 y6 y7 g0 g1 g2 g3 g4 g5 g6 g7 HX7 HE7 HG8
  generalize w7.setCell ⟨X, 1, none⟩ (.bool bw) = w8 at *
  have k4 := HE8.out.u.b.cell 0
  simp at k4
  obtain ⟨y0, y1, y2, y3, y4, y5, y6, y7⟩ := eight_cells HX8.out
  obtain ⟨g0, g1, g2, g3, g4, g5, g6, g7⟩ := eight_free HX8.out
  have HAT := Lib.hid (fun (W : World) (hW : ∃ q, W = w8.drewN q) => (by
    obtain ⟨q, rfl⟩ := hW
    exact at_cur (HE8.out.drewN q).c : Calls Tryd.prog 79 #[.pointer (some ⟨gc, 0, none⟩)] W fun r w' => r = .returned (.int .i64 (m : Int)) ∧ W = w'))
  have HLF := Lib.hid (fun (W : World) (hW : ∃ q, W = w8.drewN q) => (by
    obtain ⟨q, rfl⟩ := hW
    have := left_cur (HE8.out.drewN q).u.c
    rw [HTL.out] at this
    exact this : Calls Tryd.prog 49 #[.pointer (some ⟨g, 0, none⟩)] W fun r w' => r = .returned (.int .i64 (k : Int)) ∧ ∃ n, w' = W.drewN n))
  have s1 : IntKind.u64.wrap (a : Int) = (a : Int) := by rw [IntWalk.u64_in _ (by omega)]
  have s2 : IntKind.u64.wrap (m : Int) = (m : Int) := by rw [IntWalk.u64_in _ (by omega)]
  have s3 : IntKind.i64.wrap ((m : Int) - (k : Int)) = ((m - k : Nat) : Int) := by rw [IntWalk.i64_in _ (by omega)]; omega
  have s4 : IntKind.u64.wrap ((m - k : Nat) : Int) = ((m - k : Nat) : Int) := by rw [IntWalk.u64_in _ (by omega)]
  have K4 := Lib.hid k4
  have KS := Lib.hid (fun (W : World) (i : Nat) (u : Value) (hW : W.cell? ⟨pb, 0, none⟩ = some (.pointer (some ⟨g, 0, none⟩))) => (by
    rw [World.cell?_setCell_other _ _ _ _ (by intro e; injection e with e; exact (HE8.out.u.b.other HX8.out (by decide)) e.symm)]
    exact hW : (W.setCell ⟨X, i, none⟩ u).cell? ⟨pb, 0, none⟩ = some (.pointer (some ⟨g, 0, none⟩))))
  go_region_held_law (fun W => W.cell? ⟨pb, 0, none⟩ = some (.pointer (some ⟨g, 0, none⟩))) ((first | exact K4.out | exact KS.out _ _ _ K4.out | exact KS.out _ _ _ (KS.out _ _ _ K4.out) | exact KS.out _ _ _ (KS.out _ _ _ (KS.out _ _ _ K4.out)))) (first
    | (go_at_call 79; refine (HAT.out _ (by first | exact ⟨0, rfl⟩ | exact ⟨_, rfl⟩)).mono ?_; rintro r w9 ⟨rfl, rfl⟩)
    | (go_at_call 49; refine (HLF.out _ (by first | exact ⟨0, rfl⟩ | exact ⟨_, rfl⟩)).mono ?_; rintro r w9 ⟨rfl, nq, rfl⟩))
  go_upto_region 8 with fail
  have HX9 := Lib.hid ((((HX8.out.drewN (1 + nq)).set 5 (.int .u64 (a : Int))).set 6 (.int .u64 ((m - k : Nat) : Int))).set 7 (.int .u64 (m : Int)))
  have HG9 := Lib.hid (show (w8.drewN (1 + nq)).grownBy ((((w8.drewN (1 + nq)).setCell ⟨X, 5, none⟩ (.int .u64 (a : Int))).setCell ⟨X, 6, none⟩ (.int .u64 ((m - k : Nat) : Int))).setCell ⟨X, 7, none⟩ (.int .u64 (m : Int))) (some X) from only_set (only_set (only_set (only_refl _ _) 5 _) 6 _) 7 _)
  have HE9 := Lib.hid ((HE8.out.drewN (1 + nq)).past HA.out (HX8.out.drewN (1 + nq)) HSX.out HNE.out HG9.out)
  clear k4 y0 y1 y2 y3 y4 y5 y6 y7 g0 g1 g2 g3 g4 g5 g6 g7 HX8 HE8 HG9 K4 KS HAT HLF
  generalize (((w8.drewN (1 + nq)).setCell ⟨X, 5, none⟩ (.int .u64 (a : Int))).setCell ⟨X, 6, none⟩ (.int .u64 ((m - k : Nat) : Int))).setCell ⟨X, 7, none⟩ (.int .u64 (m : Int)) = w9 at *
  obtain ⟨y0, y1, y2, y3, y4, y5, y6, y7⟩ := eight_cells HX9.out
  obtain ⟨z0, z1, z2, z3, z4, z5, z6, z7⟩ := eight_cells HE9.out.r
  obtain ⟨g0, g1, g2, g3, g4, g5, g6, g7⟩ := eight_free HE9.out.r
  go_wp2_with fail
  obtain ⟨t1, t2, t3⟩ := HE9.out.told HA.out (.int .i64 d0) (.bool bw) (.int .u64 (d2 : Int)) (.int .u64 (d3 : Int)) (.int .u64 (d4 : Int)) (.int .u64 (a : Int)) (.int .u64 ((m - k : Nat) : Int)) (.int .u64 (m : Int))
  refine ret_one Tryd.underlying82 Tryd.results50 t1 (by kernel_rfl) (by rfl) rfl ?_
  exact ⟨by rw [HH.out]; rfl, t2, t3⟩

end Go.Proofs.YtelmfhpefnemfaaDoor
