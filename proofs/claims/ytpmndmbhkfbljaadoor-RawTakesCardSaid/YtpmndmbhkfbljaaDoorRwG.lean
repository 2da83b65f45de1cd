/-
  The document's Take of values.
-/
import Derived.Test.YtpmndmbhkfbljaaDoorRwE
import Derived.Test.YtpmndmbhkfbljaaDoorRwR
import Derived.Test.YtpmndmbhkfbljaaDoorLtD
import Derived.Test.YtpmndmbhkfbljaaDoorCsR
namespace Go.Proofs.YtpmndmbhkfbljaaDoor
open Go Go.RowKit

theorem kind5 {n : Nat} (hn : n < 45) (h : kindF (n : Int) = 5) : n = 8 := by
  have : ∀ m : Fin 45, kindF ((m : Nat) : Int) = 5 → (m : Nat) = 8 := by decide
  exact this ⟨n, hn⟩ h
theorem kind3 {n : Nat} (hn : n < 45) (h : kindF (n : Int) = 3) : n = 13 ∨ n = 33 := by
  have : ∀ m : Fin 45, kindF ((m : Nat) : Int) = 3 → (m : Nat) = 13 ∨ (m : Nat) = 33 := by decide
  exact this ⟨n, hn⟩ h
def sizOk (m : Nat) (b : Bool) : Bool := decide (kindF (m : Int) = 0) || decide (m = 25) || decide (m = 33) || decide (m = 8) || decide (m = 30) || (decide (rsizF (m : Int) b = 0) && decide (widF (m : Int) b = -1)) || (decide (rsizF (m : Int) b ≠ 0) && decide (widF (m : Int) b = rsizF (m : Int) b) && decide (widF (m : Int) b ≠ -1))
theorem rsizF_ways {n : Nat} (hn : n < 45) (hk : kindF (n : Int) ≠ 0) (h25 : n ≠ 25) (h33 : n ≠ 33) (h8 : n ≠ 8) (h30 : n ≠ 30) (wide : Bool) : (rsizF (n : Int) wide = 0 ∧ widF (n : Int) wide = -1) ∨ (rsizF (n : Int) wide ≠ 0 ∧ widF (n : Int) wide = rsizF (n : Int) wide ∧ widF (n : Int) wide ≠ -1) := by
  have h : ∀ m : Fin 45, sizOk m wide = true := by cases wide <;> decide
  have := h ⟨n, hn⟩
  simp only [sizOk, Bool.or_eq_true, Bool.and_eq_true, decide_eq_true_eq] at this
  rcases this with (((((e | e) | e) | e) | e) | e) | e
  · exact absurd e hk
  · exact absurd e h25
  · exact absurd e h33
  · exact absurd e h8
  · exact absurd e h30
  · exact .inl e
  · exact .inr ⟨e.1.1, e.1.2, e.2⟩
theorem numW_ref {l : List UInt8} {f : Int} {wide : Bool} {s : CSt} (h : s.2 ≠ 0) : (numW l f wide s).2 = s := by
  unfold numW
  split
  · rfl
  · show sN l (widF f wide) s = s
    unfold sN
    split
    · exact (sU_ref h).2
    · unfold nextAt nextErr
      rw [if_neg (fun e => h e.1), if_neg h]

set_option maxRecDepth 10000 in
set_option maxHeartbeats 1600000 in
theorem rnumber_st {B : Nat} {w : World} {g : Nat} {v : Value} {l : List UInt8} {s : CSt} (h : RR B w g v l s.1 s.2) (hlen : l.length ≤ 140737488355328) {n : Nat} (hn : n < 45) (hk : kindF (n : Int) ≠ 0) (h25 : n ≠ 25) (h33 : n ≠ 33) (h8 : n ≠ 8) (h30 : n ≠ 30) (wide : Bool) :
    Calls Tryd.prog 35 #[.pointer (some ⟨g, 0, none⟩), .int .i64 (n : Int), .bool wide] w fun r w' => r = .returned (.int .u64 ((numW l (n : Int) wide s).1 : Int)) ∧ RR B w' g v l (numW l (n : Int) wide s).2.1 (numW l (n : Int) wide s).2.2 ∧ w.grownBy w' (some g) := by
  have HS := Lib.hid (fun W => rsize_any W (n : Int) wide)
  have HU := Lib.hid (ru_st (s := s) h hlen)
  have HQ := Lib.hid (quint_cur h (widF (n : Int) wide) (widF_in n hn wide) hlen)
  have HE := Lib.hid (show numW l (n : Int) wide s = if widF (n : Int) wide = -1 then (tU l s, sU l s) else (leNat (nextGot l s.1 s.2 (clampOf (widF (n : Int) wide))), (nextAt l s.1 s.2 (clampOf (widF (n : Int) wide)), nextErr l s.1 s.2 (clampOf (widF (n : Int) wide)))) by
    unfold numW tN sN
    rw [if_neg (by omega)]
    split <;> rfl)
  have hw := rsizF_ways hn hk h25 h33 h8 h30 wide
  generalize numW l (n : Int) wide s = R at *
  generalize widF (n : Int) wide = z at *
  generalize rsizF (n : Int) wide = y at *
  clear h hn hk h25 h33 h8 h30
  go_enter Tryd.func35, Tryd.ntmps35
  go_upto_region 2 with (go_at_call 56; refine (HS.out _).mono ?_; rintro r w1 ⟨rfl, rfl⟩)
  rcases hw with ⟨h0, h1⟩ | ⟨h0, h1, h2⟩
  · have q : (y == 0) = true := by simpa using h0
    rw [if_pos h1] at HE
    clear h0 h1
    go_wp2_with (go_at_call 30; refine HU.out.mono ?_; rintro r w2 ⟨rfl, hC2, hG2⟩; have HC2 := Lib.hid hC2; have HG2 := Lib.hid hG2; clear hC2 hG2)
    go_ret
    exact ⟨by rw [HE.out]; rfl, by rw [HE.out]; exact HC2.out, HG2.out⟩
  · have q : (y == 0) = false := by simpa using h0
    rw [if_neg h2] at HE
    subst h1
    clear h0 h2
    go_wp2_with (go_at_call 57; refine HQ.out.mono ?_; rintro r w2 ⟨rfl, hC2, hG2⟩; have HC2 := Lib.hid hC2; have HG2 := Lib.hid hG2; clear hC2 hG2)
    go_ret
    exact ⟨by rw [HE.out]; rfl, by rw [HE.out]; exact HC2.out, HG2.out⟩

end Go.Proofs.YtpmndmbhkfbljaaDoor

namespace Go.Proofs.YtpmndmbhkfbljaaDoor
open Go Go.RowKit

/-- The pair, the result's cell, the document's cursor. -/
structure DSt (B : Nat) (w wx : World) (g : Nat) (v : Value) (l : List UInt8) (s : CSt) (Hs Hr : Nat) (at_ f imp : Int) : Prop where
  rr : RR B wx g v l s.1 s.2
  p : Box wx Hs 24 #[.int .i64 at_, .int .i64 f, .int .i64 imp]
  r : Box wx Hr 33 #[.int .i64 0, .int .u64 0, .int .i64 0, .slice none 0 0, .string ⟨#[]⟩]
  gr : w.grownBy wx (some g)
/-- Where things are. -/
structure Apd (B : Nat) (w : World) (g Hs Hr : Nat) : Prop where
  b : B ≤ w.heap.size
  g : g < w.heap.size
  h0 : w.heap.size ≤ Hs
  h1 : w.heap.size ≤ Hr
  ne : Hs ≠ Hr
section
variable {B : Nat} {w wx wy : World} {g : Nat} {v : Value} {l : List UInt8} {s s' : CSt} {Hs Hr Hx : Nat} {at_ f imp : Int} {cs : Array Value} {b b' : Value} {bl bl' : List UInt8}
theorem DSt.call (h : DSt B w wx g v l s Hs Hr at_ f imp) (ha : Apd B w g Hs Hr) (hC : RR B wy g v l s'.1 s'.2) (hG : wx.grownBy wy (some g)) : DSt B w wy g v l s' Hs Hr at_ f imp :=
  ⟨hC, h.p.grown hG (fun e => by injection e with e; have := ha.g; have := ha.h0; omega), h.r.grown hG (fun e => by injection e with e; have := ha.g; have := ha.h1; omega), h.gr.trans hG⟩
theorem DSt.later (h : DSt B w wx g v l s Hs Hr at_ f imp) (hb : Below wx.heap.size wx wy) : DSt B w wy g v l s Hs Hr at_ f imp :=
  ⟨h.rr.below hb, h.p.below hb h.p.lt, h.r.below hb h.r.lt, h.gr.trans (only_below hb _)⟩
/-- With the value that is made. -/
structure FSt (B : Nat) (w wx : World) (g : Nat) (v : Value) (l : List UInt8) (s : CSt) (Hs Hr : Nat) (at_ f imp : Int) (Hx : Nat) (cs : Array Value) (b : Value) (bl : List UInt8) : Prop where
  d : DSt B w wx g v l s Hs Hr at_ f imp
  x : Box wx Hx 33 cs
  hx : w.heap.size ≤ Hx
  ns : Hx ≠ Hs
  nr : Hx ≠ Hr
  row : Own wx w.heap.size b bl
theorem FSt.call (h : FSt B w wx g v l s Hs Hr at_ f imp Hx cs b bl) (ha : Apd B w g Hs Hr) (hC : RR B wy g v l s'.1 s'.2) (hG : wx.grownBy wy (some g)) (hO : Own wy w.heap.size b' bl') : FSt B w wy g v l s' Hs Hr at_ f imp Hx cs b' bl' :=
  ⟨h.d.call ha hC hG, h.x.grown hG (fun e => by injection e with e; have := ha.g; have := h.hx; omega), h.hx, h.ns, h.nr, hO⟩
theorem FSt.set (h : FSt B w wx g v l s Hs Hr at_ f imp Hx cs b bl) (ha : Apd B w g Hs Hr) (i : Nat) (u : Value) : FSt B w (wx.setCell ⟨Hx, i, none⟩ u) g v l s Hs Hr at_ f imp Hx (cs.setIfInBounds i u) b bl := by
  have G : wx.grownBy (wx.setCell ⟨Hx, i, none⟩ u) (some Hx) := only_set (only_refl wx (some Hx)) i u
  exact ⟨⟨h.d.rr.grown G (fun e => by injection e with e; have := ha.g; have := h.hx; omega) (fun x hx => by injection hx with hx; have := ha.b; have := h.hx; omega), h.d.p.grown G (fun e => by injection e with e; exact h.ns e.symm), h.d.r.grown G (fun e => by injection e with e; exact h.nr e.symm), only_trans h.d.gr G (.inr fun x hx => by injection hx with hx; have := h.hx; omega)⟩,
    h.x.set i u, h.hx, h.ns, h.nr, own_pastR h.row h.x (by decide) G⟩
theorem FSt.told (h : FSt B w wx g v l s Hs Hr at_ f imp Hx cs b bl) (ha : Apd B w g Hs Hr) (v0 v1 v2 v3 v4 : Value) :
    Box (((((wx.setCell ⟨Hr, 0, none⟩ v0).setCell ⟨Hr, 1, none⟩ v1).setCell ⟨Hr, 2, none⟩ v2).setCell ⟨Hr, 3, none⟩ v3).setCell ⟨Hr, 4, none⟩ v4) Hr 33 #[v0, v1, v2, v3, v4] ∧
    RR B (((((wx.setCell ⟨Hr, 0, none⟩ v0).setCell ⟨Hr, 1, none⟩ v1).setCell ⟨Hr, 2, none⟩ v2).setCell ⟨Hr, 3, none⟩ v3).setCell ⟨Hr, 4, none⟩ v4) g v l s.1 s.2 ∧
    Own (((((wx.setCell ⟨Hr, 0, none⟩ v0).setCell ⟨Hr, 1, none⟩ v1).setCell ⟨Hr, 2, none⟩ v2).setCell ⟨Hr, 3, none⟩ v3).setCell ⟨Hr, 4, none⟩ v4) w.heap.size b bl ∧
    w.grownBy (((((wx.setCell ⟨Hr, 0, none⟩ v0).setCell ⟨Hr, 1, none⟩ v1).setCell ⟨Hr, 2, none⟩ v2).setCell ⟨Hr, 3, none⟩ v3).setCell ⟨Hr, 4, none⟩ v4) (some g) := by
  have G := five_onlyR wx Hr v0 v1 v2 v3 v4
  exact ⟨five_boxR h.d.r rfl _ _ _ _ _, h.d.rr.grown G (fun e => by injection e with e; have := ha.g; have := ha.h1; omega) (fun x hx => by injection hx with hx; have := ha.b; have := ha.h1; omega), own_pastR h.row h.d.r (by decide) G, only_trans h.d.gr G (.inr fun x hx => by injection hx with hx; have := ha.h1; omega)⟩
end
theorem ra_e {B : Nat} {w : World} {g : Nat} {v : Value} {l : List UInt8} {a : Nat} {e : Int} (h : RR B w g v l a e) : w.cell? ⟨g, 2, none⟩ = some (.int .i64 e) := cell_e h

/-- What is made by the document, ahead of the last look at the cursor. -/
def DEnd (B : Nat) (w wx : World) (g : Nat) (v : Value) (l : List UInt8) (s : CSt) (Hs Hr : Nat) (at_ f imp : Int) (Hx : Nat) (Y : RV) : Prop :=
  ∃ X : RV, ∃ A c, FSt B w wx g v l s Hs Hr at_ f imp Hx #[.int .i64 X.form, .int .u64 (X.u : Int), .int .i64 X.s, .slice A X.b.length c, .string ⟨X.t.toArray⟩] (.slice A X.b.length c) X.b ∧ (s.2 = 0 → X = Y)

set_option maxRecDepth 10000 in
set_option maxHeartbeats 6400000 in
theorem rtakeW_st {B : Nat} {w : World} {g : Nat} {v : Value} {l : List UInt8} {s : CSt} (h : RR B w g v l s.1 s.2) (hB : B ≤ w.heap.size) (hlen : l.length ≤ 140737488355000) (at_ f imp : Int) (wide : Bool) :
    Calls Tryd.prog 10 #[.pointer (some ⟨g, 0, none⟩), .agg #[.int .i64 at_, .int .i64 f, .int .i64 imp], .bool wide] w fun r w' =>
      RawIs w.heap.size w' (takeW l f imp wide s).1 r ∧ RR B w' g v l (takeW l f imp wide s).2.1 (takeW l f imp wide s).2.2 ∧ w.grownBy w' (some g) := by
  have hlen' : l.length ≤ 140737488355328 := by omega
  have HLE := Lib.hid hlen
  have HLE' := Lib.hid hlen'
  have HU := Lib.hid (fun W (hW : RR B W g v l s.1 s.2) => ru_st (s := s) hW hlen')
  have HK := Lib.hid (fun W f1 => rkind_any W f1)
  have HTW := Lib.hid (show takeW l f imp wide s = if kindF (formW l f s).1 = 0 then (zeroV, sF (formW l f s).2 41)
    else if (readW l (formW l f s).1 imp wide (formW l f s).2).2.2 = 0 then readW l (formW l f s).1 imp wide (formW l f s).2
    else (zeroV, (readW l (formW l f s).1 imp wide (formW l f s).2).2) from rfl)
  have HFW := Lib.hid (show formW l f s = if f = 22 then ((aheadW l s : Int), sU l s) else (f, s) from rfl)
  have HAW := Lib.hid (show aheadW l s = if 45 ≤ tU l s ∨ tU l s = 33 then 0 else tU l s from rfl)
  obtain ⟨f', s', hfs⟩ : ∃ f' s', formW l f s = (f', s') := ⟨_, _, rfl⟩
  rw [hfs] at HFW HTW
  simp only at HTW
  generalize takeW l f imp wide s = R at *
  generalize aheadW l s = ah at *
  generalize tU l s = m at *
  generalize sU l s = sm at *
  have HC := Lib.hid h
  have HGW := Lib.hid h.1.lt
  have HBW := Lib.hid hB
  clear h hfs hlen hlen' hB
  go_enter Tryd.func10, Tryd.ntmps10
  go_upto_region 1 with fail
  have HA := Lib.hid (show Apd B w g w.heap.size (w.heap.size + 1) from ⟨HBW.out, HGW.out, Nat.le_refl _, Nat.le_succ _, by omega⟩)
  generalize hw0 : w.alloc (.cells #[.int .i64 at_, .int .i64 f, .int .i64 imp] 24) = w0
  have hs0 : w0.heap.size = w.heap.size + 1 := by rw [← hw0]; simp
  generalize hw1 : w0.alloc (.cells #[.int .i64 0, .int .u64 0, .int .i64 0, .slice none 0 0, .string ⟨#[]⟩] 33) = w1
  have hX0 := Box.new w 24 #[.int .i64 at_, .int .i64 f, .int .i64 imp]
  rw [hw0] at hX0
  have hX1 := Box.new w0 33 #[.int .i64 0, .int .u64 0, .int .i64 0, .slice none 0 0, .string ⟨#[]⟩]
  rw [hw1, hs0] at hX1
  have hb0 : Below w.heap.size w w0 := hw0 ▸ (Below.refl _ _).alloc (Nat.le_refl _) _
  have hb1 : Below w0.heap.size w0 w1 := hw1 ▸ (Below.refl _ _).alloc (Nat.le_refl _) _
  have hb01 := hb0.trans (hb1.mono hb0.size)
  have HE := Lib.hid (show DSt B w w1 g v l s w.heap.size (w.heap.size + 1) at_ f imp from ⟨HC.out.below hb01, hX0.below hb1 hX0.lt, hX1, only_below hb01 _⟩)
  clear hw0 hs0 hw1 hX0 hX1 hb0 hb1 hb01 HGW HC HBW
  generalize hHr : w.heap.size + 1 = Hr at *
  generalize hHs : w.heap.size = Hs at HA HE ⊢
  have HHS := Lib.hid hHs
  clear hHr hHs
  obtain ⟨p0, p1, p2⟩ := three_cellsR HE.out.p
  go_upto_if 15 with fail
  go_cut [7] (fun u wx => ∃ f1 : Int, u = .int .i64 f1 ∧ Hid (f1 = f' ∨ kindF f1 = 0 ∧ kindF f' = 0) ∧ Hid (DSt B w wx g v l s' Hs Hr at_ f imp))
  case first =>
    by_cases h22 : f = 22
    · have q : (f == 22) = true := by simpa using h22
      have he := HFW.out
      rw [if_pos h22] at he
      obtain ⟨rfl, rfl⟩ := Prod.mk.inj he
      clear he h22
      go_upto_region 4 with (go_at_call 30; refine (HU.out _ HE.out.rr).mono ?_; rintro r w2 ⟨rfl, hC2, hG2⟩; have HE2 := Lib.hid (HE.out.call HA.out hC2 hG2); clear hC2 hG2)
      by_cases h100 : m < 100
      · have d : decide ((m : Int) < 100) = true := by simp; omega
        by_cases h33 : m = 33
        · have d2 : ((m : Int) != 33) = false := by simp; omega
          have ha : ah = 0 := by rw [HAW.out, if_pos (.inr h33)]
          clear h100 h33
          go_wp2_with fail
          go_meet
          case rel => exact ⟨0, rfl, Lib.hid (.inl (by rw [ha]; rfl)), HE2⟩
        · have d2 : ((m : Int) != 33) = true := by simp; omega
          have hwm : IntKind.i64.wrap (m : Int) = (m : Int) := IntWalk.i64_in _ (by omega)
          have HM := Lib.hid (show (m : Int) = (ah : Int) ∨ kindF (m : Int) = 0 ∧ kindF (ah : Int) = 0 by
            by_cases h45 : 45 ≤ m
            · right
              rw [HAW.out, if_pos (.inl h45)]
              exact ⟨by unfold kindF; rw [if_neg (by omega)], rfl⟩
            · left; rw [HAW.out, if_neg (by omega)])
          clear h100 h33
          go_wp2_with fail
          go_meet
          case rel => exact ⟨_, rfl, HM, HE2⟩
      · have d : decide ((m : Int) < 100) = false := by simp; omega
        have ha : ah = 0 := by rw [HAW.out, if_pos (.inl (by omega))]
        clear h100
        go_wp2_with fail
        go_meet
        case rel => exact ⟨0, rfl, Lib.hid (.inl (by rw [ha]; rfl)), HE2⟩
    · have q : (f == 22) = false := by simpa using h22
      have he := HFW.out
      rw [if_neg h22] at he
      obtain ⟨rfl, rfl⟩ := Prod.mk.inj he
      clear he h22
      go_wp2_with fail
      go_meet
      case rel => exact ⟨_, rfl, Lib.hid (.inl rfl), HE⟩
  case rest =>
    obtain ⟨f1, rfl, HF1, HE3⟩ := hcut
    clear p0 p1 p2 HE HFW HU HAW
    have hkk : kindF f1 = kindF f' := by
      rcases HF1.out with e | ⟨e1, e2⟩
      · rw [e]
      · rw [e1, e2]
    rw [← hkk] at HTW
    obtain ⟨p0, p1, p2⟩ := three_cellsR HE3.out.p
    obtain ⟨k, hk⟩ : ∃ k, kindF f1 = k := ⟨_, rfl⟩
    have HKK := Lib.hid hk
    rw [hk] at HTW
    clear hkk
    by_cases h0 : k = 0
    · have q : (k == 0) = true := by simpa using h0
      rw [if_pos h0] at HTW
      subst h0
      have n25 : (f1 == 25) = false := by simp only [beq_eq_false_iff_ne]; rintro rfl; exact absurd hk (by decide)
      have n33 : (f1 == 33) = false := by simp only [beq_eq_false_iff_ne]; rintro rfl; exact absurd hk (by decide)
      have n13 : (f1 == 13) = false := by simp only [beq_eq_false_iff_ne]; rintro rfl; exact absurd hk (by decide)
      have n8 : (f1 == 8) = false := by simp only [beq_eq_false_iff_ne]; rintro rfl; exact absurd hk (by decide)
      have n30 : (f1 == 30) = false := by simp only [beq_eq_false_iff_ne]; rintro rfl; exact absurd hk (by decide)
      have q9 : ((0 : Int) == 9) = false := rfl
      have q10 : ((0 : Int) == 10) = false := rfl
      have HFL := Lib.hid (rf_st (s := s') HE3.out.rr 41)
      have HNE := Lib.hid (show (sF s' 41).2 ≠ 0 from failOf_ne (by decide))
      generalize sF s' 41 = s4 at *
      have e0 : (s4.2 == 0) = false := by have := HNE.out; simpa using this
      have e1 : (s4.2 != 0) = true := by have := HNE.out; simpa using this
      clear hk
      go_upto_region 10 with (first
        | (go_at_call 15; refine (HK.out _ f1).mono ?_; rw [HKK.out]; rintro r w2 ⟨rfl, rfl⟩)
        | (go_at_call 31; refine HFL.out.mono ?_; rintro r w4 ⟨rfl, hC4, hG4⟩; have HE4 := Lib.hid (HE3.out.call HA.out hC4 hG4); clear hC4 hG4))
      go_upto_region 11 with fail
      generalize hw5 : w4.alloc (.cells #[.int .i64 f1, .int .u64 0, .int .i64 0, .slice none 0 0, .string ⟨#[]⟩] 33) = w5 at *
      have hb5 : Below w4.heap.size w4 w5 := hw5 ▸ (Below.refl _ _).alloc (Nat.le_refl _) _
      have hX5 := Box.new w4 33 #[.int .i64 f1, .int .u64 0, .int .i64 0, .slice none 0 0, .string ⟨#[]⟩]
      rw [hw5] at hX5
      have HE5 := Lib.hid (HE4.out.later hb5)
      have HFS := Lib.hid (show FSt B w w5 g v l s4 Hs Hr at_ f imp w4.heap.size #[.int .i64 f1, .int .u64 0, .int .i64 0, .slice none 0 0, .string ⟨#[]⟩] (.slice none 0 0) [] from
        ⟨HE5.out, hX5, HE4.out.gr.size, Nat.ne_of_gt HE4.out.p.lt, Nat.ne_of_gt HE4.out.r.lt, own_nilR _ _⟩)
      clear hw5 hb5 hX5
      have ce := ra_e HE5.out.rr
      obtain ⟨z0, z1, z2, z3, z4⟩ := five_cellsR HE5.out.r
      obtain ⟨y0, y1, y2, y3, y4⟩ := five_freeR HE5.out.r
      clear HE3 HE4
      generalize w4.heap.size = Hx at *
      go_wp2_with fail
      refine ret_one Tryd.underlying33 Tryd.results10 (HFS.out.told HA.out _ _ _ _ _).1 (by kernel_rfl) (by rfl) rfl ?_
      obtain ⟨-, t1, t2, t3⟩ := HFS.out.told HA.out (.int .i64 0) (.int .u64 0) (.int .i64 0) (.slice none 0 0) (.string ⟨#[]⟩)
      exact ⟨⟨none, 0, by rw [HTW.out]; rfl, by rw [HTW.out]; exact own_nilR _ _⟩, by rw [HTW.out]; exact t1, t3⟩
    · have q : (k == 0) = false := by simpa using h0
      have hff : f' = f1 := by
        rcases HF1.out with e | ⟨e1, e2⟩
        · exact e.symm
        · exact absurd (hk.symm.trans e1) h0
      subst hff
      obtain ⟨n, hfn, hn⟩ := kindF_in (f := f') (by rw [hk]; exact h0)
      subst hfn
      rw [if_neg h0] at HTW
      have HK0 := Lib.hid h0
      have HNN := Lib.hid hn
      clear h0 HF1
      obtain ⟨Y, s5, hY⟩ : ∃ Y s5, readW l (n : Int) imp wide s' = (Y, s5) := ⟨_, _, rfl⟩
      have HY := Lib.hid hY
      rw [hY] at HTW
      simp only at HTW
      have HKN := Lib.hid hk
      clear hY hk hn
      go_upto_region 10 with (go_at_call 15; refine (HK.out _ (n : Int)).mono ?_; rw [HKK.out]; rintro r w2 ⟨rfl, rfl⟩)
      go_upto_region 11 with fail
      generalize hw5 : wc.alloc (.cells #[.int .i64 (n : Int), .int .u64 0, .int .i64 0, .slice none 0 0, .string ⟨#[]⟩] 33) = w5 at *
      have hb5 : Below wc.heap.size wc w5 := hw5 ▸ (Below.refl _ _).alloc (Nat.le_refl _) _
      have hX5 := Box.new wc 33 #[.int .i64 (n : Int), .int .u64 0, .int .i64 0, .slice none 0 0, .string ⟨#[]⟩]
      rw [hw5] at hX5
      have HE5 := Lib.hid (HE3.out.later hb5)
      have HFS := Lib.hid (show FSt B w w5 g v l s' Hs Hr at_ f imp wc.heap.size #[.int .i64 (n : Int), .int .u64 0, .int .i64 0, .slice none 0 0, .string ⟨#[]⟩] (.slice none 0 0) [] from
        ⟨HE5.out, hX5, HE3.out.gr.size, Nat.ne_of_gt HE3.out.p.lt, Nat.ne_of_gt HE3.out.r.lt, own_nilR _ _⟩)
      clear hw5 hb5 hX5 HE3 HE5 p0 p1 p2
      generalize wc.heap.size = Hx at *
      obtain ⟨p0, p1, p2⟩ := three_cellsR HFS.out.d.p
      have ce := ra_e HFS.out.d.rr
      obtain ⟨a0, a1, a2, a3, a4⟩ := five_cellsR HFS.out.x
      obtain ⟨b0, b1, b2, b3, b4⟩ := five_freeR HFS.out.x
      go_upto_if 35 with fail
      go_cut [] (fun wx => DEnd B w wx g v l s5 Hs Hr at_ f imp Hx Y)
      case first =>
        by_cases h25 : n = 25
        · have q25 : ((n : Int) == 25) = true := by simp; omega
          have hy : (Y, s5) = (⟨(n : Int), 1, 0, [], []⟩, s') := by rw [← HY.out]; subst h25; rfl
          obtain ⟨rfl, rfl⟩ := Prod.mk.inj hy
          clear h25 hy
          go_wp2_with fail
          go_meet
          case rel => exact ⟨⟨(n : Int), 1, 0, [], []⟩, none, 0, HFS.out.set HA.out 1 (.int .u64 1), fun _ => rfl⟩
        have q25 : ((n : Int) == 25) = false := by simp; omega
        by_cases h33 : n = 33
        · have q33 : ((n : Int) == 33) = true := by simp; omega
          have hy : (Y, s5) = (⟨(n : Int), 0, imp, [], []⟩, s') := by rw [← HY.out]; subst h33; rfl
          obtain ⟨rfl, rfl⟩ := Prod.mk.inj hy
          clear h33 hy h25
          go_wp2_with fail
          go_meet
          case rel => exact ⟨⟨(n : Int), 0, imp, [], []⟩, none, 0, HFS.out.set HA.out 2 (.int .i64 imp), fun _ => rfl⟩
        have q33 : ((n : Int) == 33) = false := by simp; omega
        by_cases h13 : n = 13
        · have q13 : ((n : Int) == 13) = true := by simp; omega
          have hy : (Y, s5) = (⟨(n : Int), 0, tS l s', [], []⟩, sS l s') := by rw [← HY.out]; subst h13; rfl
          obtain ⟨rfl, rfl⟩ := Prod.mk.inj hy
          have HSS := Lib.hid (rs_st (s := s') HFS.out.d.rr HLE'.out)
          generalize tS l s' = tt at *
          generalize sS l s' = st at *
          clear h13 hy h25 h33
          go_wp2_with (go_at_call 32; refine HSS.out.mono ?_; rintro r w6 ⟨rfl, hC6, hG6⟩; have HF6 := Lib.hid (HFS.out.call HA.out hC6 hG6 (own_nilR _ _)); (obtain ⟨d0, d1, d2, d3, d4⟩ := five_cellsR HF6.out.x); (obtain ⟨e0, e1, e2, e3, e4⟩ := five_freeR HF6.out.x); clear hC6 hG6)
          go_meet
          case rel => exact ⟨⟨(n : Int), 0, tt, [], []⟩, none, 0, HF6.out.set HA.out 2 (.int .i64 tt), fun _ => rfl⟩
        have q13 : ((n : Int) == 13) = false := by simp; omega
        by_cases h8 : n = 8
        · have q8 : ((n : Int) == 8) = true := by simp; omega
          have hy : (Y, s5) = (⟨(n : Int), 0, 0, [], (txtW l s').1⟩, (txtW l s').2) := by rw [← HY.out]; subst h8; rfl
          obtain ⟨rfl, rfl⟩ := Prod.mk.inj hy
          have HSS := Lib.hid (show Calls Tryd.prog 33 #[.pointer (some ⟨g, 0, none⟩)] w5 fun x w' => x = .returned (.string ⟨(txtW l s').1.toArray⟩) ∧ RR B w' g v l (txtW l s').2.1 (txtW l s').2.2 ∧ w5.grownBy w' (some g) from rtake_cur HFS.out.d.rr HLE.out)
          generalize txtW l s' = tx at *
          obtain ⟨tt, st⟩ := tx
          simp only at HSS ⊢
          clear h8 hy h25 h33 h13
          go_wp2_with (go_at_call 33; refine HSS.out.mono ?_; rintro r w6 ⟨rfl, hC6, hG6⟩; have HF6 := Lib.hid (HFS.out.call HA.out hC6 hG6 (own_nilR _ _)); (obtain ⟨d0, d1, d2, d3, d4⟩ := five_cellsR HF6.out.x); (obtain ⟨e0, e1, e2, e3, e4⟩ := five_freeR HF6.out.x); clear hC6 hG6)
          go_meet
          case rel => exact ⟨⟨(n : Int), 0, 0, [], tt⟩, none, 0, HF6.out.set HA.out 4 (.string ⟨tt.toArray⟩), fun _ => rfl⟩
        have q8 : ((n : Int) == 8) = false := by simp; omega
        have HW5 := Lib.hid (show w.heap.size ≤ w5.heap.size from HFS.out.d.gr.size)
        by_cases h30 : n = 30
        · have q30 : ((n : Int) == 30) = true := by simp; omega
          have hy : (Y, s5) = (⟨(n : Int), 0, 0, nextGot l s'.1 s'.2 16, []⟩, (nextAt l s'.1 s'.2 16, nextErr l s'.1 s'.2 16)) := by rw [← HY.out]; subst h30; rfl
          obtain ⟨rfl, rfl⟩ := Prod.mk.inj hy
          have HSS := Lib.hid (show Calls Tryd.prog 34 #[.pointer (some ⟨g, 0, none⟩), .int .u64 16] w5 fun r w' => ∃ u, r = .returned u ∧ Own w' w5.heap.size u (nextGot l s'.1 s'.2 16) ∧ RR B w' g v l (nextAt l s'.1 s'.2 16) (nextErr l s'.1 s'.2 16) ∧ w5.grownBy w' (some g) from qbytes_cur HFS.out.d.rr 16 HLE'.out)
          generalize nextGot l s'.1 s'.2 16 = gt at *
          generalize nextAt l s'.1 s'.2 16 = sa at *
          generalize nextErr l s'.1 s'.2 16 = se at *
          obtain ⟨gn, hgn⟩ : ∃ gn, gt.length = gn := ⟨_, rfl⟩
          have HGN := Lib.hid hgn
          clear h30 hy h25 h33 h13 h8 hgn
          go_wp2_with (go_at_call 34; refine HSS.out.mono ?_; rintro r w6 ⟨u, rfl, hO6, hC6, hG6⟩; (obtain ⟨A6, c6, rfl, -, -, -⟩ := own_slice hO6); have HF6 := Lib.hid (HFS.out.call (s' := (sa, se)) HA.out hC6 hG6 (own_base hO6 HW5.out)); rw [HGN.out] at HF6; rw [HGN.out]; (obtain ⟨d0, d1, d2, d3, d4⟩ := five_cellsR HF6.out.x); (obtain ⟨e0, e1, e2, e3, e4⟩ := five_freeR HF6.out.x); clear hC6 hG6 hO6)
          go_meet
          case rel => exact ⟨⟨(n : Int), 0, 0, gt, []⟩, A6, c6, (by simp only [HGN.out]; exact HF6.out.set HA.out 3 (.slice A6 gn c6)), fun _ => rfl⟩
        have q30 : ((n : Int) == 30) = false := by simp; omega
        have HNM := Lib.hid (fun W (s1 : CSt) (hW : RR B W g v l s1.1 s1.2) => rnumber_st hW HLE'.out HNN.out (by rw [HKN.out]; exact HK0.out) h25 h33 h8 h30 wide)
        by_cases h9 : k = 9 ∨ k = 10
        · have q9 : (k == 9) = true ∨ (k == 9) = false ∧ (k == 10) = true := by
            rcases h9 with rfl | rfl
            · exact .inl rfl
            · exact .inr ⟨rfl, rfl⟩
          have hy : (Y, s5) = (⟨(n : Int), 0, 0, (gotW l (numW l (n : Int) wide s').1 (capW (numW l (n : Int) wide s').1 (numW l (n : Int) wide s').2)).1, []⟩, (gotW l (numW l (n : Int) wide s').1 (capW (numW l (n : Int) wide s').1 (numW l (n : Int) wide s').2)).2) := by
            rw [← HY.out]
            unfold readW
            rw [HKN.out, if_neg (by omega), if_pos h9]
            unfold blkW lenW
            rw [if_neg (by omega)]
          have HNM5 := Lib.hid (HNM.out w5 s' HFS.out.d.rr)
          generalize numW l (n : Int) wide s' = nu at *
          obtain ⟨M, s1⟩ := nu
          simp only at hy HNM5
          have HCP := Lib.hid (show capW M s1 = if 65536 < M then sF s1 3 else s1 from rfl)
          have HBY := Lib.hid (fun W (s2 : CSt) (hW : RR B W g v l s2.1 s2.2) => (show Calls Tryd.prog 34 #[.pointer (some ⟨g, 0, none⟩), .int .u64 (M : Int)] W fun r w' => ∃ u, r = .returned u ∧ Own w' W.heap.size u (gotW l M s2).1 ∧ RR B w' g v l (gotW l M s2).2.1 (gotW l M s2).2.2 ∧ W.grownBy w' (some g) from qbytes_cur hW M HLE'.out))
          have HFF := Lib.hid (fun W (hW : RR B W g v l s1.1 s1.2) => rf_st (s := s1) hW 3)
          generalize capW M s1 = s2 at *
          have HB2 := Lib.hid (fun W => HBY.out W s2)
          generalize gotW l M s2 = gt at *
          obtain ⟨gt, st⟩ := gt
          obtain ⟨rfl, rfl⟩ := Prod.mk.inj hy
          simp only at HB2
          obtain ⟨gn, hgn⟩ : ∃ gn, gt.length = gn := ⟨_, rfl⟩
          have HGN := Lib.hid hgn
          clear h9 hy h25 h33 h13 h8 h30 hgn HBY HNM
          by_cases hbig : 65536 < M
          · have d : decide ((65536 : Int) < (M : Int)) = true := by simp; omega
            rw [if_pos hbig] at HCP
            clear hbig
            rcases q9 with q9 | ⟨q9, q10⟩
            all_goals
              go_wp2_with (first
                | (go_at_call 35; refine HNM5.out.mono ?_; rintro r w6 ⟨rfl, hC6, hG6⟩; have HF6 := Lib.hid (HFS.out.call HA.out hC6 hG6 (own_nilR _ _)); clear hC6 hG6)
                | (go_at_call 31; refine (HFF.out _ HF6.out.d.rr).mono ?_; rw [← HCP.out]; rintro r w7 ⟨rfl, hC7, hG7⟩; have HF7 := Lib.hid (HF6.out.call HA.out hC7 hG7 (own_nilR _ _)); have HW7 := Lib.hid (show w.heap.size ≤ w7.heap.size from HF7.out.d.gr.size); clear hC7 hG7)
                | (go_at_call 34; refine (HB2.out _ HF7.out.d.rr).mono ?_; rintro r w8 ⟨u, rfl, hO8, hC8, hG8⟩; (obtain ⟨A8, c8, rfl, -, -, -⟩ := own_slice hO8); have HF8 := Lib.hid (HF7.out.call HA.out hC8 hG8 (own_base hO8 HW7.out)); rw [HGN.out] at HF8; rw [HGN.out]; (obtain ⟨d0, d1, d2, d3, d4⟩ := five_cellsR HF8.out.x); (obtain ⟨e0, e1, e2, e3, e4⟩ := five_freeR HF8.out.x); clear hC8 hG8 hO8))
              go_meet
              case rel => exact ⟨⟨(n : Int), 0, 0, gt, []⟩, A8, c8, (by simp only [HGN.out]; exact HF8.out.set HA.out 3 (.slice A8 gn c8)), fun _ => rfl⟩
          · have d : decide ((65536 : Int) < (M : Int)) = false := by simp; omega
            rw [if_neg hbig] at HCP
            obtain rfl := HCP.out
            clear hbig
            rcases q9 with q9 | ⟨q9, q10⟩
            all_goals
              go_wp2_with (first
                | (go_at_call 35; refine HNM5.out.mono ?_; rintro r w6 ⟨rfl, hC6, hG6⟩; have HF6 := Lib.hid (HFS.out.call HA.out hC6 hG6 (own_nilR _ _)); have HW6 := Lib.hid (show w.heap.size ≤ w6.heap.size from HF6.out.d.gr.size); clear hC6 hG6)
                | (go_at_call 34; refine (HB2.out _ HF6.out.d.rr).mono ?_; rintro r w8 ⟨u, rfl, hO8, hC8, hG8⟩; (obtain ⟨A8, c8, rfl, -, -, -⟩ := own_slice hO8); have HF8 := Lib.hid (HF6.out.call HA.out hC8 hG8 (own_base hO8 HW6.out)); rw [HGN.out] at HF8; rw [HGN.out]; (obtain ⟨d0, d1, d2, d3, d4⟩ := five_cellsR HF8.out.x); (obtain ⟨e0, e1, e2, e3, e4⟩ := five_freeR HF8.out.x); clear hC8 hG8 hO8))
              go_meet
              case rel => exact ⟨⟨(n : Int), 0, 0, gt, []⟩, A8, c8, (by simp only [HGN.out]; exact HF8.out.set HA.out 3 (.slice A8 gn c8)), fun _ => rfl⟩
        have q9 : (k == 9) = false := by simp; omega
        have q10 : (k == 10) = false := by simp; omega
        have hy : (Y, s5) = (⟨(n : Int), (numW l (n : Int) wide s').1, 0, [], []⟩, (numW l (n : Int) wide s').2) := by
          have h5 : kindF (n : Int) ≠ 5 := fun e => h8 (kind5 HNN.out e)
          have h3 : kindF (n : Int) ≠ 3 := fun e => by
            rcases kind3 HNN.out e with e | e
            · exact h13 e
            · exact h33 e
          rw [← HY.out]
          unfold readW
          rw [if_neg h5, HKN.out, if_neg h9, if_neg (by rw [← HKN.out]; exact h3)]
        by_cases he : s'.2 = 0
        · have qe : (s'.2 == 0) = true := by simpa using he
          have HNM5 := Lib.hid (HNM.out w5 s' HFS.out.d.rr)
          generalize numW l (n : Int) wide s' = nu at *
          obtain ⟨M, s1⟩ := nu
          obtain ⟨rfl, rfl⟩ := Prod.mk.inj hy
          simp only at HNM5
          clear h9 hy h25 h33 h13 h8 h30 HNM he
          go_wp2_with (go_at_call 35; refine HNM5.out.mono ?_; rintro r w6 ⟨rfl, hC6, hG6⟩; have HF6 := Lib.hid (HFS.out.call HA.out hC6 hG6 (own_nilR _ _)); (obtain ⟨d0, d1, d2, d3, d4⟩ := five_cellsR HF6.out.x); (obtain ⟨e0, e1, e2, e3, e4⟩ := five_freeR HF6.out.x); clear hC6 hG6)
          go_meet
          case rel => exact ⟨⟨(n : Int), M, 0, [], []⟩, none, 0, HF6.out.set HA.out 1 (.int .u64 (M : Int)), fun _ => rfl⟩
        · have qe : (s'.2 == 0) = false := by simpa using he
          have hs5 : s5 = s' := (Prod.mk.inj hy).2.trans (numW_ref he)
          have HSE := Lib.hid he
          subst hs5
          clear h9 hy h25 h33 h13 h8 h30 HNM he
          go_wp2_with fail
          go_meet
          case rel => exact ⟨⟨(n : Int), 0, 0, [], []⟩, none, 0, HFS.out, fun h => absurd h HSE.out⟩
      case rest =>
        obtain ⟨X, A6, c6, hF6, hX6⟩ := hcut
        have HF6 := Lib.hid hF6
        clear hF6 p0 p1 p2 ce a0 a1 a2 a3 a4 b0 b1 b2 b3 b4 HFS HY
        obtain ⟨bn, hbn⟩ : ∃ bn, X.b.length = bn := ⟨_, rfl⟩
        have HBN := Lib.hid hbn
        rw [hbn] at HF6
        clear hbn
        have ce := ra_e HF6.out.d.rr
        obtain ⟨a0, a1, a2, a3, a4⟩ := five_cellsR HF6.out.x
        obtain ⟨z0, z1, z2, z3, z4⟩ := five_cellsR HF6.out.d.r
        obtain ⟨y0, y1, y2, y3, y4⟩ := five_freeR HF6.out.d.r
        have hne := HF6.out.nr
        have hne2 := HF6.out.nr.symm
        by_cases he : s5.2 = 0
        · have q2 : (s5.2 != 0) = false := by rw [he]; rfl
          rw [if_pos he] at HTW
          obtain rfl := hX6 he
          clear he hX6
          go_wp2_with fail
          refine ret_one Tryd.underlying33 Tryd.results10 (HF6.out.told HA.out _ _ _ _ _).1 (by kernel_rfl) (by rfl) rfl ?_
          obtain ⟨-, t1, t2, t3⟩ := HF6.out.told HA.out (.int .i64 X.form) (.int .u64 (X.u : Int)) (.int .i64 X.s) (.slice A6 bn c6) (.string ⟨X.t.toArray⟩)
          refine ⟨⟨A6, c6, ?_, ?_⟩, by rw [HTW.out]; exact t1, t3⟩
          · rw [HTW.out]; simp only [HBN.out]
          · rw [HTW.out]; simp only [HBN.out]; exact t2
        · have q2 : (s5.2 != 0) = true := by simpa using he
          rw [if_neg he] at HTW
          clear he hX6
          go_wp2_with fail
          refine ret_one Tryd.underlying33 Tryd.results10 (HF6.out.told HA.out _ _ _ _ _).1 (by kernel_rfl) (by rfl) rfl ?_
          obtain ⟨-, t1, t2, t3⟩ := HF6.out.told HA.out (.int .i64 0) (.int .u64 0) (.int .i64 0) (.slice none 0 0) (.string ⟨#[]⟩)
          exact ⟨⟨none, 0, by rw [HTW.out]; rfl, by rw [HTW.out]; exact own_nilR _ _⟩, by rw [HTW.out]; exact t1, t3⟩

end Go.Proofs.YtpmndmbhkfbljaaDoor
