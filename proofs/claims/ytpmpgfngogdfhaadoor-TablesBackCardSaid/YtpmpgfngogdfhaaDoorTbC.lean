/-
  Package tables: take, by either reader of a table's numbers (written by wip/tools/gen_tbc.py).
-/
import Derived.Test.YtpmpgfngogdfhaaDoorTbB
import Derived.Test.YtpmpgfngogdfhaaDoorSyD
namespace Go.Proofs.YtpmpgfngogdfhaaDoor
open Go Go.RowKit

theorem three_cellsT {W : World} {H : Nat} {T : TypeId} {c0 c1 c2 : Value} (h : Box W H T #[c0, c1, c2]) : W.cell? ⟨H, 0, none⟩ = some c0 ∧ W.cell? ⟨H, 1, none⟩ = some c1 ∧ W.cell? ⟨H, 2, none⟩ = some c2 := by
  refine ⟨?_, ?_, ?_⟩ <;> (rw [h.cell]; rfl)
theorem three_freeT {W : World} {H : Nat} {T : TypeId} {cs : Array Value} (h : Box W H T cs) : W.frozen? ⟨H, 0, none⟩ = false ∧ W.frozen? ⟨H, 1, none⟩ = false ∧ W.frozen? ⟨H, 2, none⟩ = false :=
  ⟨h.free 0, h.free 1, h.free 2⟩
theorem three_boxT {W : World} {H : Nat} {T : TypeId} {cs : Array Value} (h : Box W H T cs) (hs : cs.size = 3) (v0 v1 v2 : Value) : Box (((W.setCell ⟨H, 0, none⟩ v0).setCell ⟨H, 1, none⟩ v1).setCell ⟨H, 2, none⟩ v2) H T #[v0, v1, v2] := by
  obtain ⟨l⟩ := cs
  match l, hs with
  | [c0, c1, c2], _ => simpa using ((h.set 0 v0).set 1 v1).set 2 v2
theorem three_onlyT (W : World) (H : Nat) (v0 v1 v2 : Value) : W.grownBy (((W.setCell ⟨H, 0, none⟩ v0).setCell ⟨H, 1, none⟩ v1).setCell ⟨H, 2, none⟩ v2) (some H) :=
  only_set (only_set (only_set (only_refl W (some H)) 0 v0) 1 v1) 2 v2

/-- The cursor, the body's cursor, the result's cell. -/
structure TkB (w W : World) (gc : Nat) (vc : Value) (sec : List UInt8) (t : UCt) (g : Nat) (v : Value) (l : List UInt8) (s : UCt) (H : Nat) : Prop where
  c : Cur W gc vc sec t.1 t.2
  b : Cur W g v l s.1 s.2
  r : Box W H 86 #[.bool false, .int .u64 0, .slice none 0 0]
  gr : w.grownBy W (some gc)
structure TbP (w : World) (gc g H : Nat) : Prop where
  c : gc < w.heap.size
  g : w.heap.size ≤ g
  h : w.heap.size ≤ H
section
variable {w W W' : World} {gc : Nat} {vc : Value} {sec : List UInt8} {t t' : UCt} {g : Nat} {v : Value} {l : List UInt8} {s s' : UCt} {H : Nat}
theorem TkB.body (h : TkB w W gc vc sec t g v l s H) (ha : TbP w gc g H) (hC : Cur W' g v l s'.1 s'.2) (hG : W.grownBy W' (some g)) : TkB w W' gc vc sec t g v l s' H :=
  ⟨h.c.other (by have := ha.c; have := ha.g; omega) h.b.1 hG, hC, h.r.grown hG (fun e => by injection e with e; exact (h.r.other h.b.1 (by decide)) e), only_trans h.gr hG (.inr fun x hx => by injection hx with hx; have := ha.g; omega)⟩
theorem TkB.main (h : TkB w W gc vc sec t g v l s H) (ha : TbP w gc g H) (hC : Cur W' gc vc sec t'.1 t'.2) (hG : W.grownBy W' (some gc)) : TkB w W' gc vc sec t' g v l s H :=
  ⟨hC, h.b.other (by have := ha.c; have := ha.g; omega) h.c.1 hG, h.r.grown hG (fun e => by injection e with e; exact (h.r.other h.c.1 (by decide)) e), h.gr.trans hG⟩
theorem TkB.below (h : TkB w W gc vc sec t g v l s H) (hb : Below W.heap.size W W') : TkB w W' gc vc sec t g v l s H :=
  ⟨h.c.below hb, h.b.below hb, h.r.below hb h.r.lt, only_then_below h.gr hb⟩
theorem TkB.drewN (h : TkB w W gc vc sec t g v l s H) (n : Nat) : TkB w (W.drewN n) gc vc sec t g v l s H := h.below (below_drewN (Below.refl _ _) n)
theorem TkB.row (h : TkB w W gc vc sec t g v l s H) {ge q : Nat} {C : List Value} (hR : RowTo 41 1 W ge q C) (hge : w.heap.size ≤ ge) (hG : W.grownBy W' (some ge)) : TkB w W' gc vc sec t g v l s H := by
  obtain ⟨R, hr⟩ := hR
  exact ⟨un_cur h.c hr (by decide) (by decide) hG, un_cur h.b hr (by decide) (by decide) hG, un_box h.r hr (by decide) hG, only_trans h.gr hG (.inr fun x hx => by injection hx with hx; omega)⟩
/-- The result's cell written. -/
theorem TkB.told (h : TkB w W gc vc sec t g v l s H) (ha : TbP w gc g H) (v0 v1 v2 : Value) :
    Box (((W.setCell ⟨H, 0, none⟩ v0).setCell ⟨H, 1, none⟩ v1).setCell ⟨H, 2, none⟩ v2) H 86 #[v0, v1, v2] ∧ Cur (((W.setCell ⟨H, 0, none⟩ v0).setCell ⟨H, 1, none⟩ v1).setCell ⟨H, 2, none⟩ v2) gc vc sec t.1 t.2 ∧ w.grownBy (((W.setCell ⟨H, 0, none⟩ v0).setCell ⟨H, 1, none⟩ v1).setCell ⟨H, 2, none⟩ v2) (some gc) := by
  have G := three_onlyT W H v0 v1 v2
  have := ha.h
  exact ⟨three_boxT h.r rfl _ _ _, h.c.grown G (fun e => by injection e with e; exact (h.c.1.other h.r (by decide)) e) (.inr (own_other h.c.2.1 h.r (by decide))), only_trans h.gr G (.inr fun x hx => by injection hx with hx; omega)⟩
end
theorem RowTo.farT {n ge q : Nat} {C : List Value} {w w' : World} {g : Nat} {cs : Array Value} {T T' : TypeId} (h : RowTo T n w ge q C) (hX : Box w g T' cs) (hT : T' ≠ T) (hg : w.grownBy w' (some g)) : RowTo T n w' ge q C := by
  obtain ⟨R, hR⟩ := h
  exact ⟨R, un_far hR hg hX hT⟩
theorem rem_natT (m b : Nat) : ((m : Int).tmod (b : Int)) = ((m % b : Nat) : Int) := by rw [Int.tmod_eq_emod_of_nonneg (by omega)]; rfl
theorem quo_natT (m b : Nat) : ((m : Int).tdiv (b : Int)) = ((m / b : Nat) : Int) := by rw [Int.tdiv_eq_ediv_of_nonneg (by omega)]; rfl

set_option maxRecDepth 10000 in
set_option maxHeartbeats 3200000 in
theorem take_strs {w : World} {gc : Nat} {vc : Value} {sec : List UInt8} {a : Nat} (hs : Sz w) (h : Cur w gc vc sec a 0) (hlen : sec.length ≤ 140737488355328) :
    Calls Tryd.prog 87 #[.pointer (some ⟨gc, 0, none⟩), .func (.func 51) #[] #[]] w fun r w' => ∃ y : TLay, y.x = tTb sec a false ∧ r = .returned (.agg #[.bool y.x.wide, .int .u64 (y.x.base : Int), .slice y.a y.x.items.length y.c]) ∧ OwnU w' w.heap.size (.slice y.a y.x.items.length y.c) y.x.items ∧ Cur w' gc vc sec (bdA sec a 0) (xTb sec a false) ∧ w.grownBy w' (some gc) := by
  obtain ⟨i1, hj, hy0, hy1, hy2⟩ := info_parts u64_info
  have hal := h.2.2
  have hbl : (bdG sec a 0).length ≤ 140737488355328 := by
    have := nextGot_le sec (tkA sec a 0) (tkE sec a 0) (tkN sec a 0)
    unfold bdG nextGot
    split
    · simp; omega
    · simp
  have hA2 : bdA sec a 0 ≤ 140737488355328 := Nat.le_trans (bdA_to hal) hlen
  have HB := Lib.hid (fun (W : World) (hS : Sz W) (hC : Cur W gc vc sec a 0) => body_len hS hC hlen)
  have HN := Lib.hid (fun (W : World) (g : Nat) (v : Value) (hS : Sz W) (hC : Cur W g v (bdG sec a 0) 0 (bdE sec a 0)) => (by
    rw [← show lenO (bdW sec a 0) = (szT false (bdW sec a 0) : Int) by cases bdW sec a 0 <;> rfl]; exact strs_head hS hC (bdW sec a 0) hbl : Calls Tryd.prog 51 #[.pointer (some ⟨g, 0, none⟩), .bool (bdW sec a 0)] W fun r w' => r = .returned (.tuple #[.bool (hrTb (bdG sec a 0) (bdE sec a 0) false), .int .i64 (szT false (bdW sec a 0) : Int)]) ∧ Cur w' g v (bdG sec a 0) (hsTb (bdG sec a 0) (bdE sec a 0) false).1 (hsTb (bdG sec a 0) (bdE sec a 0) false).2 ∧ W.grownBy w' (some g)))
  obtain ⟨e1, e2, e3⟩ := s2_tb (bdG sec a 0) (bdE sec a 0) (szT false (bdW sec a 0)) false
  obtain ⟨e4, e5⟩ := lT_mod (bdG sec a 0) (bdE sec a 0) (szT false (bdW sec a 0)) false
  have E1 := Lib.hid e1
  have E2 := Lib.hid e2
  have E3 := Lib.hid e3
  have E4 := Lib.hid e4
  have HFX := Lib.hid (xT_fail (bdG sec a 0) (bdE sec a 0) (szT false (bdW sec a 0)) false)
  have HXT := Lib.hid (show xTb sec a false = xT (bdG sec a 0) (bdE sec a 0) (szT false (bdW sec a 0)) false from rfl)
  have HT := Lib.hid (show tTb sec a false = ⟨bdW sec a 0, bdA sec a 0 - lT (bdG sec a 0) (bdE sec a 0) (szT false (bdW sec a 0)) false, itemsTb ((bdG sec a 0).drop 4) (szT false (bdW sec a 0)) (lT (bdG sec a 0) (bdE sec a 0) (szT false (bdW sec a 0)) false / szT false (bdW sec a 0))⟩ from rfl)
  have HS1 := Lib.hid (show s1Tb (bdG sec a 0) (bdE sec a 0) false = fU (!hrTb (bdG sec a 0) (bdE sec a 0) false) (hsTb (bdG sec a 0) (bdE sec a 0) false) from rfl)
  have HS2 := Lib.hid (show s2Tb (bdG sec a 0) (bdE sec a 0) (szT false (bdW sec a 0)) false = if leftOf (bdG sec a 0) (s1Tb (bdG sec a 0) (bdE sec a 0) false).1 (s1Tb (bdG sec a 0) (bdE sec a 0) false).2 % szT false (bdW sec a 0) = 0 then s1Tb (bdG sec a 0) (bdE sec a 0) false else ((s1Tb (bdG sec a 0) (bdE sec a 0) false).1, failOf (s1Tb (bdG sec a 0) (bdE sec a 0) false).2 10) from rfl)
  obtain ⟨hnp, hn8⟩ := szT_pos false (bdW sec a 0)
  have hn4 : 4 ≤ szT false (bdW sec a 0) := by cases bdW sec a 0 <;> decide
  have hcl : clampOf (szT false (bdW sec a 0) : Int) = szT false (bdW sec a 0) := by cases bdW sec a 0 <;> rfl
  have HI := Lib.hid (And.intro hs h)
  have HBL := Lib.hid hbl
  have hlt : lT (bdG sec a 0) (bdE sec a 0) (szT false (bdW sec a 0)) false ≤ bdA sec a 0 := Nat.le_trans e5 (bd_len sec a 0)
  have hl47 : lT (bdG sec a 0) (bdE sec a 0) (szT false (bdW sec a 0)) false ≤ 140737488355328 := Nat.le_trans hlt hA2
  have HZ := Lib.hid hs.pos
  clear h hs hlen hal e1 e2 e3 e4 e5 hbl
  generalize tTb sec a false = R at *
  generalize xTb sec a false = x at *
  generalize hlq : lT (bdG sec a 0) (bdE sec a 0) (szT false (bdW sec a 0)) false = k at *
  generalize xT (bdG sec a 0) (bdE sec a 0) (szT false (bdW sec a 0)) false = x' at *
  have hxx := HXT.out
  subst hxx
  generalize s2Tb (bdG sec a 0) (bdE sec a 0) (szT false (bdW sec a 0)) false = s2 at *
  generalize s1Tb (bdG sec a 0) (bdE sec a 0) false = s1 at *
  generalize hsTb (bdG sec a 0) (bdE sec a 0) false = s0 at *
  generalize hrTb (bdG sec a 0) (bdE sec a 0) false = rr at *
  generalize szT false (bdW sec a 0) = n at *
  generalize bdG sec a 0 = G at *
  generalize bdE sec a 0 = be at *
  generalize bdA sec a 0 = m at *
  generalize bdW sec a 0 = bw at *
  clear hlq HXT
  go_enter Tryd.func87, Tryd.ntmps87
  go_upto_region 1 with fail
  have hX := Box.new w 86 #[.bool false, .int .u64 0, .slice none 0 0]
  have hb : Below w.heap.size w (w.alloc (.cells #[.bool false, .int .u64 0, .slice none 0 0] 86)) := (Below.refl _ _).alloc (Nat.le_refl _) _
  generalize hw1 : w.alloc (.cells #[.bool false, .int .u64 0, .slice none 0 0] 86) = w1 at *
  have HC1 := Lib.hid (HI.out.2.below hb)
  have HS01 := Lib.hid (HI.out.1.below hb HI.out.1.pos)
  have HX1 := Lib.hid hX
  have HB1 := Lib.hid hb
  have HGC := Lib.hid HI.out.2.1.lt
  clear hw1 hX hb HI
  have HWH := Lib.hid (Nat.le_refl w.heap.size)
  have HWK := Lib.hid (rfl : w.heap.size = w.heap.size)
  generalize hH : w.heap.size = H at HX1 HWH ⊢
  have HHE := Lib.hid hH
  clear hH HWK
  go_upto_region 2 with (go_at_call 100; refine (HB.out _ HS01.out HC1.out).mono ?_; rintro r w2 ⟨g, v, rfl, hM, hC, hG⟩; have HM := Lib.hid hM; have HC2 := Lib.hid hC; have HG2 := Lib.hid hG; clear hM hC hG)
  have HP := Lib.hid (show TbP w gc g H from ⟨HGC.out, by have := HM.out.2.1; have := HB1.out.size; omega, by have := HHE.out; omega⟩)
  have HE2 := Lib.hid (show TkB w w2 gc vc sec (m, be) g v G (0, be) H from ⟨HC2.out, HM.out.1, HX1.out.grown HG2.out (fun e => by injection e with e; exact (HX1.out.other HC1.out.1 (by decide)) e), only_then_below_left HB1.out HG2.out⟩)
  have HSZ2 := Lib.hid (HS01.out.grown HG2.out (HS01.out.cur HC1.out))
  clear HM HC2 HG2 HC1 HS01 HX1 HB
  go_upto_region 3 with (go_at_call 51; refine (HN.out _ _ _ HSZ2.out HE2.out.b).mono ?_; rintro r w3 ⟨rfl, hC, hG⟩; have HE3 := Lib.hid (HE2.out.body HP.out (s' := s0) hC hG); clear hC hG)
  clear HE2 HSZ2 HN
  go_upto_if 25 with fail
  go_cut [] (fun wx => TkB w wx gc vc sec (m, be) g v G s1 H)
  case first =>
    cases rr with
    | true =>
      go_wp2_with fail
      go_meet
      case rel => rw [HS1.out]; exact HE3.out
    | false =>
      go_wp2_with (go_at_call 68; refine (fail_cur HE3.out.b 42).mono ?_; rintro r w4 ⟨rfl, hC, hG⟩; have HE4 := Lib.hid (HE3.out.body HP.out (s' := fU true s0) hC hG); clear hC hG)
      go_meet
      case rel => rw [HS1.out]; exact HE4.out
  case rest =>
  have HE5 := Lib.hid hcut
  clear hcut HE3 HS1
  generalize wc = w5 at *
  have HLF := Lib.hid (left_cur HE5.out.b)
  obtain ⟨lf, hlf⟩ : ∃ q, leftOf G s1.1 s1.2 = q := ⟨_, rfl⟩
  rw [hlf] at HLF HS2
  clear hlf
  obtain ⟨md, hmd⟩ : ∃ q, lf % n = q := ⟨_, rfl⟩
  rw [hmd] at HS2
  have r1 : ((lf : Int).tmod (n : Int)) = (md : Int) := by rw [rem_natT, hmd]
  have n1 : ((n : Int) == 0) = false := by simp; omega
  have n2 : ¬ ((n : Int) = 0) := by omega
  have n3 : ¬ (n = 0) := by omega
  clear hmd
  go_upto_if 32 with (go_at_call 86; refine HLF.out.mono ?_; rintro r w6 ⟨rfl, nq, rfl⟩)
  go_cut [] (fun wx => TkB w wx gc vc sec (m, be) g v G s2 H)
  case first =>
    by_cases h0 : md = 0
    · have q1 : ((md : Int) != 0) = false := by simp; omega
      rw [if_pos h0] at HS2
      clear h0
      go_wp2_with fail
      go_meet
      case rel => rw [HS2.out]; exact HE5.out.drewN _
    · have q1 : ((md : Int) != 0) = true := by simp; omega
      rw [if_neg h0] at HS2
      clear h0
      go_wp2_with (go_at_call 68; refine (fail_cur (HE5.out.drewN _).b 10).mono ?_; rintro r w7 ⟨rfl, hC, hG⟩; have HE7 := Lib.hid ((HE5.out.drewN _).body HP.out (s' := (s1.1, failOf s1.2 10)) hC hG); clear hC hG)
      go_meet
      case rel => rw [HS2.out]; exact HE7.out
  case rest =>
  have HE8 := Lib.hid hcut
  clear hcut HE5 HS2 HLF r1
  generalize wc = w8 at *
  have HLF := Lib.hid (fun q => (by
    have := left_cur (HE8.out.drewN q).b
    rw [E2.out] at this
    exact this : Calls Tryd.prog 86 #[.pointer (some ⟨g, 0, none⟩)] (w8.drewN q) fun r w' => r = .returned (.int .i64 (k : Int)) ∧ ∃ n, w' = (w8.drewN q).drewN n))
  have d1 : IntKind.i64.wrap ((m : Int) - (k : Int)) = ((m - k : Nat) : Int) := by rw [IntWalk.i64_in _ (by omega)]; omega
  have d2 : IntKind.u64.wrap ((m - k : Nat) : Int) = ((m - k : Nat) : Int) := by rw [IntWalk.u64_in _ (by omega)]
  go_upto_region 8 with (first
    | (go_at_call 101; refine (at_cur HE8.out.c).mono ?_; rintro r w9 ⟨rfl, rfl⟩)
    | (go_at_call 86; refine (HLF.out 0).mono ?_; rintro r w9 ⟨rfl, nq, rfl⟩))
  have HE9 := Lib.hid (HE8.out.drewN (0 + nq))
  have HLF9 := Lib.hid (show Calls Tryd.prog 86 #[.pointer (some ⟨g, 0, none⟩)] ((w8.drewN 0).drewN nq) fun r w' => r = .returned (.int .i64 (k : Int)) ∧ ∃ n, w' = ((w8.drewN 0).drewN nq).drewN n from (by
    have := left_cur ((HE8.out.drewN 0).drewN nq).b
    rw [E2.out] at this
    exact this))
  obtain ⟨q, hq⟩ : ∃ q, k / n = q := ⟨_, rfl⟩
  have r1 : ((k : Int).tdiv (n : Int)) = (q : Int) := by rw [quo_natT, hq]
  have r2 : ((k : Int) / (n : Int)) = (q : Int) := by rw [← hq]; rfl
  rw [hq] at E4 HT
  have HQ := Lib.hid hq
  have h4q : q * 4 ≤ k := by
    have h1 := E4.out
    have h2 : q * 4 ≤ q * n := Nat.mul_le_mul_left q hn4
    omega
  have hm1 : i1.bytes * q ≤ 281474976710656 := by rw [hy2]; omega
  have hm2 : q ≤ maxLen := by unfold maxLen; omega
  have hgl : H < w8.heap.size := HE8.out.r.lt
  clear hq
  go_upto_region 10 with (first
    | (go_at_call 86; refine HLF9.out.mono ?_; rintro r w10 ⟨rfl, nq2, rfl⟩)
    | (at_make; refine wpList_make_full _ rfl _ _ 28 rfl w8.heap.size 41 i1 _ 1 Tryd.underlying28 hj hy0 hy1 .i64 .i64 (q : Int) (q : Int) q rfl rfl rfl rfl hm1 hm2 (Nat.le_refl _) ?_; intro w11 hown hg; have HOWN := Lib.hid hown; have HGR := Lib.hid hg; clear hown hg))
  have hb11 : Below w8.heap.size w8 w11 := (below_drewN (Below.refl w8.heap.size w8) (nq + nq2)).trans (below_of_only HGR.out (Nat.le_refl _) (by intro y hy; cases hy))
  have HE11 := Lib.hid (HE8.out.below hb11)
  have HW11 := Lib.hid (show RowTo 41 1 w11 w8.heap.size q (placeV (itemsTb (G.drop 4) n 0)) from ⟨_, HOWN.out⟩)
  have HGE := Lib.hid (show w.heap.size ≤ w8.heap.size from HE8.out.gr.size)
  clear HE8 HE9 HLF HLF9 HOWN HGR hb11 hm1 hm2 hj hy0 hy1 hy2 r1 r2 n1 n2 n3 hgl d1 d2
  generalize w8.heap.size = ge at *
  have hqm : q ≤ 140737488355328 := by omega
  go_loopg [48] q (fun gk i wr => ∃ j : Nat, j ≤ q ∧ gk = q - j ∧ i = .int .i64 j ∧ Hid (TkB w wr gc vc sec (m, be) g v G (s2.1 + j * n, s2.2) H) ∧ Hid (RowTo 41 1 wr ge q (placeV (itemsTb (G.drop 4) n j))))
  case atStart => exact ⟨0, Nat.zero_le _, rfl, rfl, Lib.hid (by rw [Nat.zero_mul, Nat.add_zero]; exact HE11.out), HW11⟩
  case round =>
    obtain ⟨j, hjq, rfl, rfl, HE, HR⟩ := hrel
    clear HE11 HW11
    by_cases hlt : j < q
    · have HLT := Lib.hid hlt
      have hx0 : s2 = (4, 0) ∧ k = G.length - 4 := by
        have hk : 0 < k := by
          have := E4.out
          rcases Nat.eq_zero_or_pos k with h0 | h0
          · rw [h0] at this
            have h5 : q * 4 ≤ q * n := Nat.mul_le_mul_left q hn4
            omega
          · exact h0
        have hz := left_err (show 0 < leftOf G s2.1 s2.2 by rw [E2.out]; exact hk)
        obtain ⟨h1, h2, -⟩ := E3.out (by rw [← E1.out]; exact hz)
        have h3 := E2.out
        rw [h1] at h3
        simp [leftOf] at h3
        exact ⟨h1, h3.symm⟩
      obtain ⟨u1, u2⟩ := item_tb (G := G) (n := n) hlt (by rw [E4.out, hx0.2]; exact Nat.le_refl _)
      have HU := Lib.hid (by
        have h1 := HE.out.b
        rw [hx0.1] at h1
        have := uint_cur h1 (n : Int) (by omega) HBL.out
        rw [hcl, show leNat (nextGot G (4 + j * n) 0 n) = vU G (4 + j * n, 0) n from rfl, u2] at this
        exact this.mono fun r w' ⟨t1, t2, t3⟩ => ⟨t1, (show Cur w' g v G (nU G (4 + j * n, 0) n).1 (nU G (4 + j * n, 0) n).2 from t2), t3⟩ : Calls Tryd.prog 38 #[.pointer (some ⟨g, 0, none⟩), .int .i64 (n : Int)] wr fun r w' => r = .returned (.int .u64 (leNat (((G.drop 4).drop (j * n)).take n) : Int)) ∧ Cur w' g v G (nU G (4 + j * n, 0) n).1 (nU G (4 + j * n, 0) n).2 ∧ wr.grownBy w' (some g))
      rw [u1] at HU
      have HNX := Lib.hid (itemsTb_succ (G.drop 4) n j)
      have HIL := Lib.hid (show (placeV (itemsTb (G.drop 4) n j)).length = j by rw [placeV, List.length_map, itemsTb_len])
      have HS := Lib.hid hx0.1
      clear u1 u2 hx0 hlt
      generalize leNat (((G.drop 4).drop (j * n)).take n) = y at *
      go_upto_region 13 with (go_at_call 38; refine HU.out.mono ?_; rintro r w12 ⟨rfl, hC, hG⟩; have HE12 := Lib.hid (HE.out.body HP.out (s' := (4 + (j + 1) * n, 0)) hC hG); have HR12 := Lib.hid (HR.out.farT HE.out.b.1 (by decide) hG); clear hC hG; (obtain ⟨⟨ov, hov⟩, hfz⟩ := HR12.out.free j (by have := HLT.out; omega)))
      obtain ⟨s1', s2'⟩ := HR12.out.store [.int .u64 (y : Int)] (by rw [HIL.out]; have := HLT.out; simp; omega)
      rw [HIL.out, show setAll w12 ge j [.int .u64 (y : Int)] = w12.setCell ⟨ge, j, none⟩ (.int .u64 (y : Int)) from rfl] at s1' s2'
      have HE13 := Lib.hid (HE12.out.row HR12.out HGE.out s2')
      have HR13 := Lib.hid (show RowTo 41 1 (w12.setCell ⟨ge, j, none⟩ (.int .u64 (y : Int))) ge q (placeV (itemsTb (G.drop 4) n (j + 1))) from by rw [HNX.out, placeV_append]; exact s1')
      clear s1' s2' hov hfz HE12 HR12 HE HR HU
      generalize w12.setCell ⟨ge, j, none⟩ (.int .u64 (y : Int)) = w13 at *
      go_wp2_with fail
      go_roundg (q - (j + 1))
      case measure => have := HLT.out; omega
      case rel => exact ⟨j + 1, HLT.out, rfl, by go_num, Lib.hid (by rw [HS.out]; exact HE13.out), HR13⟩
    · have hjq' : j = q := by omega
      subst hjq'
      have HO := Lib.hid (HR.out.done (base := w.heap.size) (by rw [placeV, List.length_map, itemsTb_len, Nat.mul_one]) HGE.out)
      clear HR
      have HER := Lib.hid (by
        have := err_cur HE.out.b
        rw [E1.out] at this
        exact this : Calls Tryd.prog 66 #[.pointer (some ⟨g, 0, none⟩)] wr fun r w' => r = .returned (.int .i64 x) ∧ wr = w')
      go_upto_region 15 with (first
        | (go_at_call 66; refine HER.out.mono ?_; rintro r w14 ⟨rfl, rfl⟩)
        | (go_at_call 68; refine (fail_cur HE.out.c x).mono ?_; rintro r w14 ⟨rfl, hC, hG⟩; rw [HFX.out] at hC; have HE14 := Lib.hid (HE.out.main HP.out (t' := (m, x)) hC hG); have HO14 := Lib.hid (un_far HO.out hG HE.out.c.1 (by decide)); clear hC hG))
      obtain ⟨z0, z1, z2⟩ := three_cellsT HE14.out.r
      obtain ⟨g0, g1, g2⟩ := three_freeT HE14.out.r
      go_wp2_with fail
      obtain ⟨t1, t2, t3⟩ := HE14.out.told HP.out (.bool bw) (.int .u64 ((m - k : Nat) : Int)) (.slice (some ⟨ge, 0, none⟩) j j)
      refine ret_one Tryd.underlying86 Tryd.results87 t1 (by kernel_rfl) (by rfl) rfl ?_
      refine ⟨⟨R, some ⟨ge, 0, none⟩, j⟩, rfl, ?_, ?_, t2, t3⟩
      · rw [HT.out]
        simp only [itemsTb_len]
      · rw [HT.out]
        have := un_far HO14.out (three_onlyT w14 H (.bool bw) (.int .u64 ((m - k : Nat) : Int)) (.slice (some ⟨ge, 0, none⟩) j j)) HE14.out.r (by decide)
        rw [OwnU, itemsTb_len]
        exact this

set_option maxRecDepth 10000 in
set_option maxHeartbeats 3200000 in
theorem take_addrs {w : World} {gc : Nat} {vc : Value} {sec : List UInt8} {a : Nat} (hs : Sz w) (h : Cur w gc vc sec a 0) (hlen : sec.length ≤ 140737488355328) :
    Calls Tryd.prog 87 #[.pointer (some ⟨gc, 0, none⟩), .func (.func 58) #[] #[]] w fun r w' => ∃ y : TLay, y.x = tTb sec a true ∧ r = .returned (.agg #[.bool y.x.wide, .int .u64 (y.x.base : Int), .slice y.a y.x.items.length y.c]) ∧ OwnU w' w.heap.size (.slice y.a y.x.items.length y.c) y.x.items ∧ Cur w' gc vc sec (bdA sec a 0) (xTb sec a true) ∧ w.grownBy w' (some gc) := by
  obtain ⟨i1, hj, hy0, hy1, hy2⟩ := info_parts u64_info
  have hal := h.2.2
  have hbl : (bdG sec a 0).length ≤ 140737488355328 := by
    have := nextGot_le sec (tkA sec a 0) (tkE sec a 0) (tkN sec a 0)
    unfold bdG nextGot
    split
    · simp; omega
    · simp
  have hA2 : bdA sec a 0 ≤ 140737488355328 := Nat.le_trans (bdA_to hal) hlen
  have HB := Lib.hid (fun (W : World) (hS : Sz W) (hC : Cur W gc vc sec a 0) => body_len hS hC hlen)
  have HN := Lib.hid (fun (W : World) (g : Nat) (v : Value) (hS : Sz W) (hC : Cur W g v (bdG sec a 0) 0 (bdE sec a 0)) => (by
    exact addrs_head hC (bdW sec a 0) hbl : Calls Tryd.prog 58 #[.pointer (some ⟨g, 0, none⟩), .bool (bdW sec a 0)] W fun r w' => r = .returned (.tuple #[.bool (hrTb (bdG sec a 0) (bdE sec a 0) true), .int .i64 (szT true (bdW sec a 0) : Int)]) ∧ Cur w' g v (bdG sec a 0) (hsTb (bdG sec a 0) (bdE sec a 0) true).1 (hsTb (bdG sec a 0) (bdE sec a 0) true).2 ∧ W.grownBy w' (some g)))
  obtain ⟨e1, e2, e3⟩ := s2_tb (bdG sec a 0) (bdE sec a 0) (szT true (bdW sec a 0)) true
  obtain ⟨e4, e5⟩ := lT_mod (bdG sec a 0) (bdE sec a 0) (szT true (bdW sec a 0)) true
  have E1 := Lib.hid e1
  have E2 := Lib.hid e2
  have E3 := Lib.hid e3
  have E4 := Lib.hid e4
  have HFX := Lib.hid (xT_fail (bdG sec a 0) (bdE sec a 0) (szT true (bdW sec a 0)) true)
  have HXT := Lib.hid (show xTb sec a true = xT (bdG sec a 0) (bdE sec a 0) (szT true (bdW sec a 0)) true from rfl)
  have HT := Lib.hid (show tTb sec a true = ⟨bdW sec a 0, bdA sec a 0 - lT (bdG sec a 0) (bdE sec a 0) (szT true (bdW sec a 0)) true, itemsTb ((bdG sec a 0).drop 4) (szT true (bdW sec a 0)) (lT (bdG sec a 0) (bdE sec a 0) (szT true (bdW sec a 0)) true / szT true (bdW sec a 0))⟩ from rfl)
  have HS1 := Lib.hid (show s1Tb (bdG sec a 0) (bdE sec a 0) true = fU (!hrTb (bdG sec a 0) (bdE sec a 0) true) (hsTb (bdG sec a 0) (bdE sec a 0) true) from rfl)
  have HS2 := Lib.hid (show s2Tb (bdG sec a 0) (bdE sec a 0) (szT true (bdW sec a 0)) true = if leftOf (bdG sec a 0) (s1Tb (bdG sec a 0) (bdE sec a 0) true).1 (s1Tb (bdG sec a 0) (bdE sec a 0) true).2 % szT true (bdW sec a 0) = 0 then s1Tb (bdG sec a 0) (bdE sec a 0) true else ((s1Tb (bdG sec a 0) (bdE sec a 0) true).1, failOf (s1Tb (bdG sec a 0) (bdE sec a 0) true).2 10) from rfl)
  obtain ⟨hnp, hn8⟩ := szT_pos true (bdW sec a 0)
  have hn4 : 4 ≤ szT true (bdW sec a 0) := by cases bdW sec a 0 <;> decide
  have hcl : clampOf (szT true (bdW sec a 0) : Int) = szT true (bdW sec a 0) := by cases bdW sec a 0 <;> rfl
  have HI := Lib.hid (And.intro hs h)
  have HBL := Lib.hid hbl
  have hlt : lT (bdG sec a 0) (bdE sec a 0) (szT true (bdW sec a 0)) true ≤ bdA sec a 0 := Nat.le_trans e5 (bd_len sec a 0)
  have hl47 : lT (bdG sec a 0) (bdE sec a 0) (szT true (bdW sec a 0)) true ≤ 140737488355328 := Nat.le_trans hlt hA2
  have HZ := Lib.hid hs.pos
  clear h hs hlen hal e1 e2 e3 e4 e5 hbl
  generalize tTb sec a true = R at *
  generalize xTb sec a true = x at *
  generalize hlq : lT (bdG sec a 0) (bdE sec a 0) (szT true (bdW sec a 0)) true = k at *
  generalize xT (bdG sec a 0) (bdE sec a 0) (szT true (bdW sec a 0)) true = x' at *
  have hxx := HXT.out
  subst hxx
  generalize s2Tb (bdG sec a 0) (bdE sec a 0) (szT true (bdW sec a 0)) true = s2 at *
  generalize s1Tb (bdG sec a 0) (bdE sec a 0) true = s1 at *
  generalize hsTb (bdG sec a 0) (bdE sec a 0) true = s0 at *
  generalize hrTb (bdG sec a 0) (bdE sec a 0) true = rr at *
  generalize szT true (bdW sec a 0) = n at *
  generalize bdG sec a 0 = G at *
  generalize bdE sec a 0 = be at *
  generalize bdA sec a 0 = m at *
  generalize bdW sec a 0 = bw at *
  clear hlq HXT
  go_enter Tryd.func87, Tryd.ntmps87
  go_upto_region 1 with fail
  have hX := Box.new w 86 #[.bool false, .int .u64 0, .slice none 0 0]
  have hb : Below w.heap.size w (w.alloc (.cells #[.bool false, .int .u64 0, .slice none 0 0] 86)) := (Below.refl _ _).alloc (Nat.le_refl _) _
  generalize hw1 : w.alloc (.cells #[.bool false, .int .u64 0, .slice none 0 0] 86) = w1 at *
  have HC1 := Lib.hid (HI.out.2.below hb)
  have HS01 := Lib.hid (HI.out.1.below hb HI.out.1.pos)
  have HX1 := Lib.hid hX
  have HB1 := Lib.hid hb
  have HGC := Lib.hid HI.out.2.1.lt
  clear hw1 hX hb HI
  have HWH := Lib.hid (Nat.le_refl w.heap.size)
  have HWK := Lib.hid (rfl : w.heap.size = w.heap.size)
  generalize hH : w.heap.size = H at HX1 HWH ⊢
  have HHE := Lib.hid hH
  clear hH HWK
  go_upto_region 2 with (go_at_call 100; refine (HB.out _ HS01.out HC1.out).mono ?_; rintro r w2 ⟨g, v, rfl, hM, hC, hG⟩; have HM := Lib.hid hM; have HC2 := Lib.hid hC; have HG2 := Lib.hid hG; clear hM hC hG)
  have HP := Lib.hid (show TbP w gc g H from ⟨HGC.out, by have := HM.out.2.1; have := HB1.out.size; omega, by have := HHE.out; omega⟩)
  have HE2 := Lib.hid (show TkB w w2 gc vc sec (m, be) g v G (0, be) H from ⟨HC2.out, HM.out.1, HX1.out.grown HG2.out (fun e => by injection e with e; exact (HX1.out.other HC1.out.1 (by decide)) e), only_then_below_left HB1.out HG2.out⟩)
  have HSZ2 := Lib.hid (HS01.out.grown HG2.out (HS01.out.cur HC1.out))
  clear HM HC2 HG2 HC1 HS01 HX1 HB
  go_upto_region 3 with (go_at_call 58; refine (HN.out _ _ _ HSZ2.out HE2.out.b).mono ?_; rintro r w3 ⟨rfl, hC, hG⟩; have HE3 := Lib.hid (HE2.out.body HP.out (s' := s0) hC hG); clear hC hG)
  clear HE2 HSZ2 HN
  go_upto_if 25 with fail
  go_cut [] (fun wx => TkB w wx gc vc sec (m, be) g v G s1 H)
  case first =>
    cases rr with
    | true =>
      go_wp2_with fail
      go_meet
      case rel => rw [HS1.out]; exact HE3.out
    | false =>
      go_wp2_with (go_at_call 68; refine (fail_cur HE3.out.b 42).mono ?_; rintro r w4 ⟨rfl, hC, hG⟩; have HE4 := Lib.hid (HE3.out.body HP.out (s' := fU true s0) hC hG); clear hC hG)
      go_meet
      case rel => rw [HS1.out]; exact HE4.out
  case rest =>
  have HE5 := Lib.hid hcut
  clear hcut HE3 HS1
  generalize wc = w5 at *
  have HLF := Lib.hid (left_cur HE5.out.b)
  obtain ⟨lf, hlf⟩ : ∃ q, leftOf G s1.1 s1.2 = q := ⟨_, rfl⟩
  rw [hlf] at HLF HS2
  clear hlf
  obtain ⟨md, hmd⟩ : ∃ q, lf % n = q := ⟨_, rfl⟩
  rw [hmd] at HS2
  have r1 : ((lf : Int).tmod (n : Int)) = (md : Int) := by rw [rem_natT, hmd]
  have n1 : ((n : Int) == 0) = false := by simp; omega
  have n2 : ¬ ((n : Int) = 0) := by omega
  have n3 : ¬ (n = 0) := by omega
  clear hmd
  go_upto_if 32 with (go_at_call 86; refine HLF.out.mono ?_; rintro r w6 ⟨rfl, nq, rfl⟩)
  go_cut [] (fun wx => TkB w wx gc vc sec (m, be) g v G s2 H)
  case first =>
    by_cases h0 : md = 0
    · have q1 : ((md : Int) != 0) = false := by simp; omega
      rw [if_pos h0] at HS2
      clear h0
      go_wp2_with fail
      go_meet
      case rel => rw [HS2.out]; exact HE5.out.drewN _
    · have q1 : ((md : Int) != 0) = true := by simp; omega
      rw [if_neg h0] at HS2
      clear h0
      go_wp2_with (go_at_call 68; refine (fail_cur (HE5.out.drewN _).b 10).mono ?_; rintro r w7 ⟨rfl, hC, hG⟩; have HE7 := Lib.hid ((HE5.out.drewN _).body HP.out (s' := (s1.1, failOf s1.2 10)) hC hG); clear hC hG)
      go_meet
      case rel => rw [HS2.out]; exact HE7.out
  case rest =>
  have HE8 := Lib.hid hcut
  clear hcut HE5 HS2 HLF r1
  generalize wc = w8 at *
  have HLF := Lib.hid (fun q => (by
    have := left_cur (HE8.out.drewN q).b
    rw [E2.out] at this
    exact this : Calls Tryd.prog 86 #[.pointer (some ⟨g, 0, none⟩)] (w8.drewN q) fun r w' => r = .returned (.int .i64 (k : Int)) ∧ ∃ n, w' = (w8.drewN q).drewN n))
  have d1 : IntKind.i64.wrap ((m : Int) - (k : Int)) = ((m - k : Nat) : Int) := by rw [IntWalk.i64_in _ (by omega)]; omega
  have d2 : IntKind.u64.wrap ((m - k : Nat) : Int) = ((m - k : Nat) : Int) := by rw [IntWalk.u64_in _ (by omega)]
  go_upto_region 8 with (first
    | (go_at_call 101; refine (at_cur HE8.out.c).mono ?_; rintro r w9 ⟨rfl, rfl⟩)
    | (go_at_call 86; refine (HLF.out 0).mono ?_; rintro r w9 ⟨rfl, nq, rfl⟩))
  have HE9 := Lib.hid (HE8.out.drewN (0 + nq))
  have HLF9 := Lib.hid (show Calls Tryd.prog 86 #[.pointer (some ⟨g, 0, none⟩)] ((w8.drewN 0).drewN nq) fun r w' => r = .returned (.int .i64 (k : Int)) ∧ ∃ n, w' = ((w8.drewN 0).drewN nq).drewN n from (by
    have := left_cur ((HE8.out.drewN 0).drewN nq).b
    rw [E2.out] at this
    exact this))
  obtain ⟨q, hq⟩ : ∃ q, k / n = q := ⟨_, rfl⟩
  have r1 : ((k : Int).tdiv (n : Int)) = (q : Int) := by rw [quo_natT, hq]
  have r2 : ((k : Int) / (n : Int)) = (q : Int) := by rw [← hq]; rfl
  rw [hq] at E4 HT
  have HQ := Lib.hid hq
  have h4q : q * 4 ≤ k := by
    have h1 := E4.out
    have h2 : q * 4 ≤ q * n := Nat.mul_le_mul_left q hn4
    omega
  have hm1 : i1.bytes * q ≤ 281474976710656 := by rw [hy2]; omega
  have hm2 : q ≤ maxLen := by unfold maxLen; omega
  have hgl : H < w8.heap.size := HE8.out.r.lt
  clear hq
  go_upto_region 10 with (first
    | (go_at_call 86; refine HLF9.out.mono ?_; rintro r w10 ⟨rfl, nq2, rfl⟩)
    | (at_make; refine wpList_make_full _ rfl _ _ 28 rfl w8.heap.size 41 i1 _ 1 Tryd.underlying28 hj hy0 hy1 .i64 .i64 (q : Int) (q : Int) q rfl rfl rfl rfl hm1 hm2 (Nat.le_refl _) ?_; intro w11 hown hg; have HOWN := Lib.hid hown; have HGR := Lib.hid hg; clear hown hg))
  have hb11 : Below w8.heap.size w8 w11 := (below_drewN (Below.refl w8.heap.size w8) (nq + nq2)).trans (below_of_only HGR.out (Nat.le_refl _) (by intro y hy; cases hy))
  have HE11 := Lib.hid (HE8.out.below hb11)
  have HW11 := Lib.hid (show RowTo 41 1 w11 w8.heap.size q (placeV (itemsTb (G.drop 4) n 0)) from ⟨_, HOWN.out⟩)
  have HGE := Lib.hid (show w.heap.size ≤ w8.heap.size from HE8.out.gr.size)
  clear HE8 HE9 HLF HLF9 HOWN HGR hb11 hm1 hm2 hj hy0 hy1 hy2 r1 r2 n1 n2 n3 hgl d1 d2
  generalize w8.heap.size = ge at *
  have hqm : q ≤ 140737488355328 := by omega
  go_loopg [48] q (fun gk i wr => ∃ j : Nat, j ≤ q ∧ gk = q - j ∧ i = .int .i64 j ∧ Hid (TkB w wr gc vc sec (m, be) g v G (s2.1 + j * n, s2.2) H) ∧ Hid (RowTo 41 1 wr ge q (placeV (itemsTb (G.drop 4) n j))))
  case atStart => exact ⟨0, Nat.zero_le _, rfl, rfl, Lib.hid (by rw [Nat.zero_mul, Nat.add_zero]; exact HE11.out), HW11⟩
  case round =>
    obtain ⟨j, hjq, rfl, rfl, HE, HR⟩ := hrel
    clear HE11 HW11
    by_cases hlt : j < q
    · have HLT := Lib.hid hlt
      have hx0 : s2 = (4, 0) ∧ k = G.length - 4 := by
        have hk : 0 < k := by
          have := E4.out
          rcases Nat.eq_zero_or_pos k with h0 | h0
          · rw [h0] at this
            have h5 : q * 4 ≤ q * n := Nat.mul_le_mul_left q hn4
            omega
          · exact h0
        have hz := left_err (show 0 < leftOf G s2.1 s2.2 by rw [E2.out]; exact hk)
        obtain ⟨h1, h2, -⟩ := E3.out (by rw [← E1.out]; exact hz)
        have h3 := E2.out
        rw [h1] at h3
        simp [leftOf] at h3
        exact ⟨h1, h3.symm⟩
      obtain ⟨u1, u2⟩ := item_tb (G := G) (n := n) hlt (by rw [E4.out, hx0.2]; exact Nat.le_refl _)
      have HU := Lib.hid (by
        have h1 := HE.out.b
        rw [hx0.1] at h1
        have := uint_cur h1 (n : Int) (by omega) HBL.out
        rw [hcl, show leNat (nextGot G (4 + j * n) 0 n) = vU G (4 + j * n, 0) n from rfl, u2] at this
        exact this.mono fun r w' ⟨t1, t2, t3⟩ => ⟨t1, (show Cur w' g v G (nU G (4 + j * n, 0) n).1 (nU G (4 + j * n, 0) n).2 from t2), t3⟩ : Calls Tryd.prog 38 #[.pointer (some ⟨g, 0, none⟩), .int .i64 (n : Int)] wr fun r w' => r = .returned (.int .u64 (leNat (((G.drop 4).drop (j * n)).take n) : Int)) ∧ Cur w' g v G (nU G (4 + j * n, 0) n).1 (nU G (4 + j * n, 0) n).2 ∧ wr.grownBy w' (some g))
      rw [u1] at HU
      have HNX := Lib.hid (itemsTb_succ (G.drop 4) n j)
      have HIL := Lib.hid (show (placeV (itemsTb (G.drop 4) n j)).length = j by rw [placeV, List.length_map, itemsTb_len])
      have HS := Lib.hid hx0.1
      clear u1 u2 hx0 hlt
      generalize leNat (((G.drop 4).drop (j * n)).take n) = y at *
      go_upto_region 13 with (go_at_call 38; refine HU.out.mono ?_; rintro r w12 ⟨rfl, hC, hG⟩; have HE12 := Lib.hid (HE.out.body HP.out (s' := (4 + (j + 1) * n, 0)) hC hG); have HR12 := Lib.hid (HR.out.farT HE.out.b.1 (by decide) hG); clear hC hG; (obtain ⟨⟨ov, hov⟩, hfz⟩ := HR12.out.free j (by have := HLT.out; omega)))
      obtain ⟨s1', s2'⟩ := HR12.out.store [.int .u64 (y : Int)] (by rw [HIL.out]; have := HLT.out; simp; omega)
      rw [HIL.out, show setAll w12 ge j [.int .u64 (y : Int)] = w12.setCell ⟨ge, j, none⟩ (.int .u64 (y : Int)) from rfl] at s1' s2'
      have HE13 := Lib.hid (HE12.out.row HR12.out HGE.out s2')
      have HR13 := Lib.hid (show RowTo 41 1 (w12.setCell ⟨ge, j, none⟩ (.int .u64 (y : Int))) ge q (placeV (itemsTb (G.drop 4) n (j + 1))) from by rw [HNX.out, placeV_append]; exact s1')
      clear s1' s2' hov hfz HE12 HR12 HE HR HU
      generalize w12.setCell ⟨ge, j, none⟩ (.int .u64 (y : Int)) = w13 at *
      go_wp2_with fail
      go_roundg (q - (j + 1))
      case measure => have := HLT.out; omega
      case rel => exact ⟨j + 1, HLT.out, rfl, by go_num, Lib.hid (by rw [HS.out]; exact HE13.out), HR13⟩
    · have hjq' : j = q := by omega
      subst hjq'
      have HO := Lib.hid (HR.out.done (base := w.heap.size) (by rw [placeV, List.length_map, itemsTb_len, Nat.mul_one]) HGE.out)
      clear HR
      have HER := Lib.hid (by
        have := err_cur HE.out.b
        rw [E1.out] at this
        exact this : Calls Tryd.prog 66 #[.pointer (some ⟨g, 0, none⟩)] wr fun r w' => r = .returned (.int .i64 x) ∧ wr = w')
      go_upto_region 15 with (first
        | (go_at_call 66; refine HER.out.mono ?_; rintro r w14 ⟨rfl, rfl⟩)
        | (go_at_call 68; refine (fail_cur HE.out.c x).mono ?_; rintro r w14 ⟨rfl, hC, hG⟩; rw [HFX.out] at hC; have HE14 := Lib.hid (HE.out.main HP.out (t' := (m, x)) hC hG); have HO14 := Lib.hid (un_far HO.out hG HE.out.c.1 (by decide)); clear hC hG))
      obtain ⟨z0, z1, z2⟩ := three_cellsT HE14.out.r
      obtain ⟨g0, g1, g2⟩ := three_freeT HE14.out.r
      go_wp2_with fail
      obtain ⟨t1, t2, t3⟩ := HE14.out.told HP.out (.bool bw) (.int .u64 ((m - k : Nat) : Int)) (.slice (some ⟨ge, 0, none⟩) j j)
      refine ret_one Tryd.underlying86 Tryd.results87 t1 (by kernel_rfl) (by rfl) rfl ?_
      refine ⟨⟨R, some ⟨ge, 0, none⟩, j⟩, rfl, ?_, ?_, t2, t3⟩
      · rw [HT.out]
        simp only [itemsTb_len]
      · rw [HT.out]
        have := un_far HO14.out (three_onlyT w14 H (.bool bw) (.int .u64 ((m - k : Nat) : Int)) (.slice (some ⟨ge, 0, none⟩) j j)) HE14.out.r (by decide)
        rw [OwnU, itemsTb_len]
        exact this

end Go.Proofs.YtpmpgfngogdfhaaDoor
