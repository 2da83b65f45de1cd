/-
  Package raw: Take.
-/
import Derived.Test.YtpmndmbhkfbljaaDoorRwJ
namespace Go.Proofs.YtpmndmbhkfbljaaDoor
open Go Go.RowKit

/-- The form of a value, and the cursor behind it. -/
def formW (l : List UInt8) (f : Int) (s : CSt) : Int × CSt := if f = 22 then ((aheadW l s : Int), sU l s) else (f, s)
/-- What Take tells. -/
def takeW (l : List UInt8) (f imp : Int) (wide : Bool) (s : CSt) : RV × CSt :=
  if kindF (formW l f s).1 = 0 then (zeroV, sF (formW l f s).2 41)
  else if (readW l (formW l f s).1 imp wide (formW l f s).2).2.2 = 0 then readW l (formW l f s).1 imp wide (formW l f s).2
  else (zeroV, (readW l (formW l f s).1 imp wide (formW l f s).2).2)
/-- The pair, the result's cell, the cursor and the tables. -/
structure ESt (w wx : World) (g : Nat) (v : Value) (l : List UInt8) (s : CSt) (Hs Hr : Nat) (at_ f imp : Int) : Prop where
  ct : CT wx g v l s
  p : Box wx Hs 24 #[.int .i64 at_, .int .i64 f, .int .i64 imp]
  r : Box wx Hr 33 #[.int .i64 0, .int .u64 0, .int .i64 0, .slice none 0 0, .string ⟨#[]⟩]
  gr : w.grownBy wx (some g)
section
variable {w wx wy : World} {g : Nat} {v : Value} {l : List UInt8} {s s' : CSt} {Hs Hr : Nat} {at_ f f' imp : Int}
theorem ESt.call (h : ESt w wx g v l s Hs Hr at_ f imp) (ha : Apt w g Hs Hr) (hC : CT wy g v l s') (hG : wx.grownBy wy (some g)) : ESt w wy g v l s' Hs Hr at_ f imp :=
  ⟨hC, h.p.grown hG (fun e => by injection e with e; have := ha.g; have := ha.h0; omega), h.r.grown hG (fun e => by injection e with e; have := ha.g; have := ha.h1; omega), h.gr.trans hG⟩
theorem ESt.later (h : ESt w wx g v l s Hs Hr at_ f imp) (hb : Below wx.heap.size wx wy) : ESt w wy g v l s Hs Hr at_ f imp :=
  ⟨h.ct.below hb, h.p.below hb h.p.lt, h.r.below hb h.r.lt, h.gr.trans (only_below hb _)⟩
theorem ESt.set (h : ESt w wx g v l s Hs Hr at_ f imp) (ha : Apt w g Hs Hr) (f' : Int) : ESt w (wx.setCell ⟨Hs, 1, none⟩ (.int .i64 f')) g v l s Hs Hr at_ f' imp := by
  have G : wx.grownBy (wx.setCell ⟨Hs, 1, none⟩ (.int .i64 f')) (some Hs) := only_set (only_refl wx (some Hs)) 1 _
  exact ⟨h.ct.past h.p (by decide) G (by have := ha.g; have := ha.h0; omega) (by have := ha.f; have := ha.h0; omega) (by have := ha.z; have := ha.h0; omega), by simpa using h.p.set 1 (.int .i64 f'),
    h.r.grown G (fun e => by injection e with e; exact ha.ne e.symm), only_trans h.gr G (.inr fun x hx => by injection hx with hx; have := ha.h0; omega)⟩
theorem ESt.told (h : ESt w wx g v l s Hs Hr at_ f imp) (ha : Apt w g Hs Hr) (v0 v1 v2 v3 v4 : Value) :
    Box (((((wx.setCell ⟨Hr, 0, none⟩ v0).setCell ⟨Hr, 1, none⟩ v1).setCell ⟨Hr, 2, none⟩ v2).setCell ⟨Hr, 3, none⟩ v3).setCell ⟨Hr, 4, none⟩ v4) Hr 33 #[v0, v1, v2, v3, v4] ∧
    CT (((((wx.setCell ⟨Hr, 0, none⟩ v0).setCell ⟨Hr, 1, none⟩ v1).setCell ⟨Hr, 2, none⟩ v2).setCell ⟨Hr, 3, none⟩ v3).setCell ⟨Hr, 4, none⟩ v4) g v l s ∧
    (∀ b bl, Own wx w.heap.size b bl → Own (((((wx.setCell ⟨Hr, 0, none⟩ v0).setCell ⟨Hr, 1, none⟩ v1).setCell ⟨Hr, 2, none⟩ v2).setCell ⟨Hr, 3, none⟩ v3).setCell ⟨Hr, 4, none⟩ v4) w.heap.size b bl) ∧
    w.grownBy (((((wx.setCell ⟨Hr, 0, none⟩ v0).setCell ⟨Hr, 1, none⟩ v1).setCell ⟨Hr, 2, none⟩ v2).setCell ⟨Hr, 3, none⟩ v3).setCell ⟨Hr, 4, none⟩ v4) (some g) := by
  have G := five_onlyR wx Hr v0 v1 v2 v3 v4
  exact ⟨five_boxR h.r rfl _ _ _ _ _, h.ct.past h.r (by decide) G (by have := ha.g; have := ha.h1; omega) (by have := ha.f; have := ha.h1; omega) (by have := ha.z; have := ha.h1; omega), fun b bl ho => own_pastR ho h.r (by decide) G, only_trans h.gr G (.inr fun x hx => by injection hx with hx; have := ha.h1; omega)⟩
end
theorem three_cellsR {W : World} {H : Nat} {T : TypeId} {c0 c1 c2 : Value} (h : Box W H T #[c0, c1, c2]) : W.cell? ⟨H, 0, none⟩ = some c0 ∧ W.cell? ⟨H, 1, none⟩ = some c1 ∧ W.cell? ⟨H, 2, none⟩ = some c2 := by
  refine ⟨?_, ?_, ?_⟩ <;> (rw [h.cell]; rfl)

set_option maxRecDepth 10000 in
set_option maxHeartbeats 3200000 in
theorem takeW_st {w : World} {g : Nat} {v : Value} {l : List UInt8} {s : CSt} (h : CT w g v l s) (hlen : l.length ≤ 140737488355328) (at_ f imp : Int) (wide : Bool) :
    Calls Tryd.prog 9 #[.pointer (some ⟨g, 0, none⟩), .agg #[.int .i64 at_, .int .i64 f, .int .i64 imp], .bool wide] w fun r w' =>
      RawIs w.heap.size w' (takeW l f imp wide s).1 r ∧ CT w' g v l (takeW l f imp wide s).2 ∧ w.grownBy w' (some g) := by
  have HGW := Lib.hid (show g < w.heap.size from h.c.1.lt)
  have hmf : ∀ (fn : Fn) (first cap : Array Value) (W : World), (Instr.makeFunc fn first cap).run Tryd.prog W = .ok (.func fn first cap) W := fun _ _ _ _ => rfl
  have HAH := Lib.hid (fun W (hW : CT W g v l s) => ahead_st hW hlen)
  have HK := Lib.hid (fun W s' (hW : CT W g v l s') f' => kind_any hW.f f')
  have HFL := Lib.hid (fun W s' (hW : CT W g v l s') => f_st (s := s') hW.c 41)
  have HVA := Lib.hid (fun W s' (hW : CT W g v l s') (n : Nat) (hn : n < 45) => value_st hW hlen hn at_ imp wide)
  have HER := Lib.hid (fun W s' (hW : CT W g v l s') => err_cur hW.c)
  have HFW := Lib.hid (show formW l f s = if f = 22 then ((aheadW l s : Int), sU l s) else (f, s) from rfl)
  have HTW := Lib.hid (show takeW l f imp wide s = if kindF (formW l f s).1 = 0 then (zeroV, sF (formW l f s).2 41)
    else if (readW l (formW l f s).1 imp wide (formW l f s).2).2.2 = 0 then readW l (formW l f s).1 imp wide (formW l f s).2
    else (zeroV, (readW l (formW l f s).1 imp wide (formW l f s).2).2) from rfl)
  obtain ⟨f', s', hfs⟩ : ∃ f' s', formW l f s = (f', s') := ⟨_, _, rfl⟩
  rw [hfs] at HFW HTW
  simp only at HTW
  generalize takeW l f imp wide s = R at *
  have HC := Lib.hid h
  clear h hfs
  go_enter Tryd.func9, Tryd.ntmps9
  go_upto_region 1 with fail
  have HA := Lib.hid (show Apt w g w.heap.size (w.heap.size + 1) from ⟨HGW.out, HC.out.f.pos, HC.out.z.pos, Nat.le_refl _, Nat.le_succ _, by omega⟩)
  generalize hw0 : w.alloc (.cells #[.int .i64 at_, .int .i64 f, .int .i64 imp] 24) = w0
  have hs0 : w0.heap.size = w.heap.size + 1 := by rw [← hw0]; simp
  generalize hw1 : w0.alloc (.cells #[.int .i64 0, .int .u64 0, .int .i64 0, .slice none 0 0, .string ⟨#[]⟩] 33) = w1
  have hX0 := Box.new w 24 #[.int .i64 at_, .int .i64 f, .int .i64 imp]
  rw [hw0] at hX0
  have hX1 := Box.new w0 33 #[.int .i64 0, .int .u64 0, .int .i64 0, .slice none 0 0, .string ⟨#[]⟩]
  rw [hw1, hs0] at hX1
  have hb0 : Below w.heap.size w w0 := hw0 ▸ (Below.refl _ _).alloc (Nat.le_refl _) _
  have hb1 : Below w0.heap.size w0 w1 := hw1 ▸ (Below.refl _ _).alloc (Nat.le_refl _) _
  have hb01 := hb0.trans (hb1.mono hb0.size)
  have HE := Lib.hid (show ESt w w1 g v l s w.heap.size (w.heap.size + 1) at_ f imp from ⟨HC.out.below hb01, hX0.below hb1 hX0.lt, hX1, only_below hb01 _⟩)
  clear hw0 hs0 hw1 hX0 hX1 hb0 hb1 hb01 HGW HC
  generalize hHr : w.heap.size + 1 = Hr at *
  generalize hHs : w.heap.size = Hs at HA HE ⊢
  have HHS := Lib.hid hHs
  clear hHr hHs
  obtain ⟨p0, p1, p2⟩ := three_cellsR HE.out.p
  have q1 := HE.out.p.free 1
  go_upto_if 11 with fail
  go_cut [] (fun wx => ESt w wx g v l s' Hs Hr at_ f' imp)
  case first =>
    by_cases h22 : f = 22
    · have q : (f == 22) = true := by simpa using h22
      have he := HFW.out
      rw [if_pos h22] at he
      obtain ⟨rfl, rfl⟩ := Prod.mk.inj he
      clear he h22
      go_upto_region 2 with fail
      go_wp2_with (go_at_call 23; refine (HAH.out _ HE.out.ct).mono ?_; rintro r w2 ⟨rfl, hC2, hG2⟩; have HE2 := Lib.hid (HE.out.call HA.out hC2 hG2); (obtain ⟨y0, y1, y2⟩ := three_cellsR HE2.out.p); have y3 := HE2.out.p.free 1; clear hC2 hG2)
      go_meet
      case rel => exact HE2.out.set HA.out _
    · have q : (f == 22) = false := by simpa using h22
      have he := HFW.out
      rw [if_neg h22] at he
      obtain ⟨rfl, rfl⟩ := Prod.mk.inj he
      clear he h22
      go_wp2_with fail
      go_meet
      case rel => exact HE.out
  case rest =>
    have HE3 := Lib.hid hcut
    clear hcut p0 p1 p2 q1 HE HFW HAH
    obtain ⟨p0, p1, p2⟩ := three_cellsR HE3.out.p
    obtain ⟨k, hk⟩ : ∃ k, kindF f' = k := ⟨_, rfl⟩
    have HKK := Lib.hid hk
    rw [hk] at HTW
    by_cases h0 : k = 0
    · have q : (k == 0) = true := by simpa using h0
      rw [if_pos h0] at HTW
      clear h0 hk
      go_upto_region 5 with (first
        | (go_at_call 14; refine (HK.out _ _ HE3.out.ct f').mono ?_; rw [HKK.out]; rintro r w2 ⟨rfl, rfl⟩)
        | (go_at_call 24; refine (HFL.out _ _ HE3.out.ct).mono ?_; rintro r w4 ⟨rfl, hC4, hG4⟩; have HE4 := Lib.hid (HE3.out.call HA.out (HE3.out.ct.step hC4 hG4) hG4); clear hC4 hG4))
      obtain ⟨z0, z1, z2, z3, z4⟩ := five_cellsR HE4.out.r
      obtain ⟨f0, f1, f2, f3, f4⟩ := five_freeR HE4.out.r
      go_wp2_with fail
      refine ret_one Tryd.underlying33 Tryd.results9 (HE4.out.told HA.out _ _ _ _ _).1 (by kernel_rfl) (by rfl) rfl ?_
      obtain ⟨-, t1, t2, t3⟩ := HE4.out.told HA.out (.int .i64 0) (.int .u64 0) (.int .i64 0) (.slice none 0 0) (.string ⟨#[]⟩)
      exact ⟨⟨none, 0, by rw [HTW.out]; rfl, by rw [HTW.out]; exact own_nilR _ _⟩, by rw [HTW.out]; exact t1, t3⟩
    · have q : (k == 0) = false := by simpa using h0
      obtain ⟨n, hfn, hn⟩ := kindF_in (f := f') (by rw [hk]; exact h0)
      rw [if_neg h0] at HTW
      clear h0 hk
      subst hfn
      go_upto_region 6 with (go_at_call 14; refine (HK.out _ _ HE3.out.ct (n : Int)).mono ?_; rw [HKK.out]; rintro r w2 ⟨rfl, rfl⟩)
      go_upto_region 7 with fail
      have hX4 := Box.new wc 56 #[.pointer (some ⟨g, 0, none⟩), .int .i64 at_, .int .i64 (n : Int), .int .i64 imp, .bool wide]
      have hb4 : Below wc.heap.size wc (wc.alloc (.cells #[.pointer (some ⟨g, 0, none⟩), .int .i64 at_, .int .i64 (n : Int), .int .i64 imp, .bool wide] 56)) := (Below.refl _ _).alloc (Nat.le_refl _) _
      generalize hw4 : wc.alloc (.cells #[.pointer (some ⟨g, 0, none⟩), .int .i64 at_, .int .i64 (n : Int), .int .i64 imp, .bool wide] 56) = w4 at *
      have HE4 := Lib.hid (HE3.out.later hb4)
      clear hw4 hb4 p0 p1 p2
      obtain ⟨p0, p1, p2⟩ := three_cellsR HE4.out.p
      obtain ⟨x0, x1, x2, x3, x4⟩ := five_cellsR hX4
      have HRE := Lib.hid (show R = if (readW l (n : Int) imp wide s').2.2 = 0 then readW l (n : Int) imp wide s' else (zeroV, (readW l (n : Int) imp wide s').2) from HTW.out)
      have HV := Lib.hid (HVA.out w4 s' HE4.out.ct n hn)
      clear HTW hX4 HVA hn
      obtain ⟨X, s5, hX⟩ : ∃ X s5, readW l (n : Int) imp wide s' = (X, s5) := ⟨_, _, rfl⟩
      rw [hX] at HRE HV
      simp only at HRE HV
      clear hX
      obtain ⟨bn, hbn⟩ : ∃ bn, X.b.length = bn := ⟨_, rfl⟩
      have HBN := Lib.hid hbn
      clear hbn
      generalize wc.heap.size = Hd at *
      have HHS4 := Lib.hid (show Hs ≤ w4.heap.size from by rw [← HHS.out]; exact HE4.out.gr.size)
      go_upto_region 8 with (go_at_call 25; refine HV.out.mono ?_; rintro r w5 ⟨⟨A5, c5, rfl, hO5⟩, hC5, hG5⟩; have HE5 := Lib.hid (HE4.out.call HA.out hC5 hG5); have HO5 := Lib.hid (own_base hO5 HHS4.out); rw [HBN.out] at HO5; rw [HBN.out]; clear hO5 hC5 hG5)
      have hX6 := Box.new w5 33 #[.int .i64 X.form, .int .u64 (X.u : Int), .int .i64 X.s, .slice A5 bn c5, .string ⟨X.t.toArray⟩]
      have hb6 : Below w5.heap.size w5 (w5.alloc (.cells #[.int .i64 X.form, .int .u64 (X.u : Int), .int .i64 X.s, .slice A5 bn c5, .string ⟨X.t.toArray⟩] 33)) := (Below.refl _ _).alloc (Nat.le_refl _) _
      generalize hw6 : w5.alloc (.cells #[.int .i64 X.form, .int .u64 (X.u : Int), .int .i64 X.s, .slice A5 bn c5, .string ⟨X.t.toArray⟩] 33) = w6 at *
      have HE6 := Lib.hid (HE5.out.later hb6)
      have HO6 := Lib.hid (own_below HO5.out hb6)
      have HHR := Lib.hid (show Hr ≠ w5.heap.size from Nat.ne_of_lt HE5.out.r.lt)
      clear hw6 hb6
      obtain ⟨x0, x1, x2, x3, x4⟩ := five_cellsR hX6
      obtain ⟨z0, z1, z2, z3, z4⟩ := five_cellsR HE6.out.r
      obtain ⟨f0, f1, f2, f3, f4⟩ := five_freeR HE6.out.r
      generalize w5.heap.size = Hx at *
      by_cases he : s5.2 = 0
      · have q : (s5.2 != 0) = false := by rw [he]; rfl
        rw [if_pos he] at HRE
        clear he hX6
        have hne := HHR.out
        have hne2 := HHR.out.symm
        go_wp2_with (go_at_call 12; refine (HER.out _ _ HE6.out.ct).mono ?_; rintro r w7 ⟨rfl, rfl⟩)
        refine ret_one Tryd.underlying33 Tryd.results9 (HE6.out.told HA.out _ _ _ _ _).1 (by kernel_rfl) (by rfl) rfl ?_
        obtain ⟨-, t1, t2, t3⟩ := HE6.out.told HA.out (.int .i64 X.form) (.int .u64 (X.u : Int)) (.int .i64 X.s) (.slice A5 bn c5) (.string ⟨X.t.toArray⟩)
        refine ⟨⟨A5, c5, ?_, ?_⟩, by rw [HRE.out]; exact t1, t3⟩
        · rw [HRE.out]; simp only [HBN.out]
        · rw [HRE.out]; simp only [HBN.out]; exact t2 _ _ (by rw [HHS.out]; exact HO6.out)
      · have q : (s5.2 != 0) = true := by simpa using he
        rw [if_neg he] at HRE
        clear he hX6
        go_wp2_with (go_at_call 12; refine (HER.out _ _ HE6.out.ct).mono ?_; rintro r w7 ⟨rfl, rfl⟩)
        refine ret_one Tryd.underlying33 Tryd.results9 (HE6.out.told HA.out _ _ _ _ _).1 (by kernel_rfl) (by rfl) rfl ?_
        obtain ⟨-, t1, t2, t3⟩ := HE6.out.told HA.out (.int .i64 0) (.int .u64 0) (.int .i64 0) (.slice none 0 0) (.string ⟨#[]⟩)
        exact ⟨⟨none, 0, by rw [HRE.out]; rfl, by rw [HRE.out]; exact own_nilR _ _⟩, by rw [HRE.out]; exact t1, t3⟩

end Go.Proofs.YtpmndmbhkfbljaaDoor
