/-
  The document's All of tables (written by wip/tools/gen_tbe.py).
-/
import Derived.Test.YtpmpgfngogdfhaaDoorTbD
import Derived.Test.YtpmpgfngogdfhaaDoorUnG
import Derived.Test.YtpmpgfngogdfhaaDoorRoundRegion
import Derived.Test.YtpmpgfngogdfhaaDoorUntil
namespace Go.Proofs.YtpmpgfngogdfhaaDoor
open Go Go.RowKit

theorem rtbl_info : (Tryd.prog.info? 131).map (fun i => (i.zero, i.size, i.bytes)) = some (some (.agg #[.bool false, .int .u64 0, .slice none 0 0]), 3, 40) := by kernel_rfl

/-- The document's cursor, the body's. -/
structure DnB (B : Nat) (w W : World) (gc : Nat) (vc : Value) (sec : List UInt8) (t : UCt) (g : Nat) (v : Value) (l : List UInt8) (s : UCt) : Prop where
  c : RR B W gc vc sec t.1 t.2
  u : RC W g v l s.1 s.2
  gr : w.grownBy W (some gc)
structure DnP (B : Nat) (w : World) (gc g : Nat) : Prop where
  b : B ≤ w.heap.size
  c : gc < w.heap.size
  g : w.heap.size ≤ g
section
variable {B : Nat} {w W W' : World} {gc : Nat} {vc : Value} {sec : List UInt8} {t : UCt} {g : Nat} {v : Value} {l : List UInt8} {s s' : UCt}
theorem DnB.call (h : DnB B w W gc vc sec t g v l s) (ha : DnP B w gc g) (hC : RC W' g v l s'.1 s'.2) (hG : W.grownBy W' (some g)) : DnB B w W' gc vc sec t g v l s' :=
  ⟨h.c.grown hG (fun e => by injection e with e; have := ha.c; have := ha.g; omega) (fun x hx => by injection hx with hx; have := ha.b; have := ha.g; omega), hC,
   only_trans h.gr hG (.inr fun x hx => by injection hx with hx; have := ha.g; omega)⟩
theorem DnB.below (h : DnB B w W gc vc sec t g v l s) (hb : Below W.heap.size W W') : DnB B w W' gc vc sec t g v l s := ⟨h.c.below hb, h.u.below hb, only_then_below h.gr hb⟩
theorem DnB.drewN (h : DnB B w W gc vc sec t g v l s) (n : Nat) : DnB B w (W.drewN n) gc vc sec t g v l s := h.below (below_drewN (Below.refl _ _) n)
end
/-- Beside them the table that is made, and its items. -/
structure DnX (B : Nat) (w W : World) (gc : Nat) (vc : Value) (sec : List UInt8) (t : UCt) (g : Nat) (v : Value) (l : List UInt8) (s : UCt) (X : Nat) (c0 c1 u : Value) (its : List Nat) : Prop where
  d : DnB B w W gc vc sec t g v l s
  x : Box W X 131 #[c0, c1, u]
  o : OwnU W w.heap.size u its
section
variable {B : Nat} {w W W' : World} {gc : Nat} {vc : Value} {sec : List UInt8} {t : UCt} {g : Nat} {v : Value} {l : List UInt8} {s s' : UCt} {X : Nat} {c0 c1 u u' : Value} {its its' : List Nat}
theorem DnX.call (h : DnX B w W gc vc sec t g v l s X c0 c1 u its) (ha : DnP B w gc g) (hC : RC W' g v l s'.1 s'.2) (hG : W.grownBy W' (some g)) : DnX B w W' gc vc sec t g v l s' X c0 c1 u its :=
  ⟨h.d.call ha hC hG, h.x.grown hG (fun e => by injection e with e; exact (h.x.other h.d.u.1 (by decide)) e), un_far h.o hG h.d.u.1 (by decide)⟩
theorem DnX.below (h : DnX B w W gc vc sec t g v l s X c0 c1 u its) (hb : Below W.heap.size W W') : DnX B w W' gc vc sec t g v l s X c0 c1 u its := ⟨h.d.below hb, h.x.below hb h.x.lt, row_below h.o hb⟩
theorem DnX.drewN (h : DnX B w W gc vc sec t g v l s X c0 c1 u its) (n : Nat) : DnX B w (W.drewN n) gc vc sec t g v l s X c0 c1 u its := h.below (below_drewN (Below.refl _ _) n)
/-- An item appended. -/
theorem DnX.more (h : DnX B w W gc vc sec t g v l s X c0 c1 u its) (ha : DnP B w gc g) (hG : W.grownBy W' u.ownBlock) (ho : OwnU W' w.heap.size u' its') : DnB B w W' gc vc sec t g v l s ∧ Box W' X 131 #[c0, c1, u] ∧ OwnU W' w.heap.size u' its' := by
  have hu : ∀ x, u.ownBlock = some x → w.heap.size ≤ x := fun x hx => (h.o.lt x hx).1
  refine ⟨⟨un_rr h.d.c h.o (by decide) ha.b hG, ?_, only_trans h.d.gr hG (.inr hu)⟩, un_box h.x h.o (by decide) hG, ho⟩
  refine ⟨un_box h.d.u.1 h.o (by decide) hG, un_apart h.d.u.2.1 h.o (by decide) hG, h.d.u.2.2⟩
/-- And stored into the table. -/
theorem DnX.stored (hd : DnB B w W gc vc sec t g v l s) (ha : DnP B w gc g) (hx : Box W X 131 #[c0, c1, u]) (hX : w.heap.size ≤ X) (ho : OwnU W w.heap.size u' its') : DnX B w (W.setCell ⟨X, 2, none⟩ u') gc vc sec t g v l s X c0 c1 u' its' := by
  have G : W.grownBy (W.setCell ⟨X, 2, none⟩ u') (some X) := only_set (only_refl W (some X)) 2 u'
  refine ⟨⟨hd.c.grown G (fun e => by injection e with e; have := ha.c; omega) (fun x hx => by injection hx with hx; have := ha.b; omega), hd.u.grown G (fun e => by injection e with e; exact (hd.u.1.other hx (by decide)) e) (.inr (own_other hd.u.2.1 hx (by decide))), only_trans hd.gr G (.inr fun x hx => by injection hx with hx; omega)⟩, ?_, un_far ho G hx (by decide)⟩
  simpa using hx.set 2 u'
end
theorem ready_2 {P : Program} {md : Region.Mode} {l : List Oper} {Q : Exit → Act → World → Prop} {S : World → Prop} {fuel : Nat} {listed : Array Bool} {a : Act} {w : World} {i j : Nat} {o o' : Oper} (ho : l[i]? = some o) (ho' : l[j]? = some o')
    (h : ∀ K' : Act → World → Prop, Shut (∀ a w, S w → (S w → wpAnyH P md l.toArray Q S fuel (listed.setIfInBounds i true) a w) → K' a w) → if Region.wanted o (yielded l.toArray a.tmps) = true then Oper.wp P o a w K' Q else K' (a.put o.dst undef) w)
    (h' : ∀ K' : Act → World → Prop, Shut (∀ a w, S w → (S w → wpAnyH P md l.toArray Q S fuel (listed.setIfInBounds j true) a w) → K' a w) → if Region.wanted o' (yielded l.toArray a.tmps) = true then Oper.wp P o' a w K' Q else K' (a.put o'.dst undef) w) :
    AllReadyH P md l.toArray Q S fuel listed a w [i, j] :=
  AllReadyH.cons (by simpa using ho) h (ready_r ho' h')
/-- The table made. -/
theorem DnX.made {B : Nat} {w W W1 : World} {gc : Nat} {vc : Value} {sec : List UInt8} {t : UCt} {g : Nat} {v : Value} {l : List UInt8} {s : UCt} {z0 z1 z2 : Value} (hd : DnB B w W gc vc sec t g v l s) (hb : Below W.heap.size W W1) (hx : Box W1 W.heap.size 131 #[z0, z1, z2]) (c0 c1 : Value) :
    DnX B w (((W1.setCell ⟨W.heap.size, 0, none⟩ c0).setCell ⟨W.heap.size, 1, none⟩ c1).setCell ⟨W.heap.size, 2, none⟩ (.slice none 0 0)) gc vc sec t g v l s W.heap.size c0 c1 (.slice none 0 0) [] := by
  have G := three_onlyT W1 W.heap.size c0 c1 (.slice none 0 0)
  have hb2 : Below W.heap.size W (((W1.setCell ⟨W.heap.size, 0, none⟩ c0).setCell ⟨W.heap.size, 1, none⟩ c1).setCell ⟨W.heap.size, 2, none⟩ (.slice none 0 0)) := hb.grown G hb.size (fun x hx => by injection hx with hx; omega)
  exact ⟨hd.below hb2, three_boxT hx rfl _ _ _, World.ownsRow_nil _ _ _ _⟩
/-- What is told of all tables. -/
def AllTb (T : TypeId) (w : World) (E : Int) (R : List Tbl) (r : Ending) (w' : World) : Prop := ∃ u M, r = .returned (.tuple #[u, .int .i64 E]) ∧ M.map TLay.x = R ∧ OwnTb T w' w.heap.size u M ∧ Below w.heap.size w w'
/-- What decides a table, as the document reads it. -/
theorem read_tb (G : List UInt8) (be : Int) (n : Nat) (ad : Bool) :
    ((hsTb G be false).2 ≠ 0 → xT G be n ad = (hsTb G be false).2) ∧
    ((hsTb G be false).2 = 0 → be = 0 ∧ 4 ≤ G.length ∧ hsTb G be false = (4, 0) ∧ vU G (0, be) 2 = leNat (G.take 2) ∧ vU G (nU G (0, be) 2) 2 = leNat ((G.drop 2).take 2) ∧
      (rgTb G ad = false → xT G be n ad = 42) ∧ (rgTb G ad = true → (G.length - 4) % n ≠ 0 → xT G be n ad = 10) ∧ (rgTb G ad = true → (G.length - 4) % n = 0 → xT G be n ad = 0 ∧ lT G be n ad = G.length - 4)) := by
  obtain ⟨hA, hB⟩ := head_tb G be false
  by_cases h0 : be = 0 ∧ 4 ≤ G.length
  · obtain ⟨rfl, h4⟩ := h0
    obtain ⟨e1, -⟩ := hA rfl h4
    refine ⟨fun h => absurd (by rw [e1]) h, fun _ => ?_⟩
    obtain ⟨n1, v1⟩ := nU_fits (G := G) (a := 0) (n := 2) (by omega)
    obtain ⟨-, v2⟩ := nU_fits (G := G) (a := 2) (n := 2) (by omega)
    have hx : xT G 0 n ad = if rgTb G ad = true then (if (G.length - 4) % n = 0 then 0 else 10) else 42 := by
      unfold xT
      rw [if_pos rfl, if_pos h4]
    refine ⟨rfl, h4, e1, by rw [v1, List.drop_zero], by rw [n1]; exact v2, fun hr => by rw [hx, if_neg (by rw [hr]; decide)], fun hr hm => by rw [hx, if_pos hr, if_neg hm], fun hr hm => ?_⟩
    have h1 : xT G 0 n ad = 0 := by rw [hx, if_pos hr, if_pos hm]
    exact ⟨h1, by unfold lT; rw [if_pos h1]⟩
  · obtain ⟨e1, e2⟩ := hB h0
    have e5 : xT G be n ad = if be = 0 then 10 else be := by
      unfold xT
      by_cases hb : be = 0
      · rw [if_pos hb, if_pos hb, if_neg (fun h4 => h0 ⟨hb, h4⟩)]
      · rw [if_neg hb, if_neg hb]
    exact ⟨fun _ => by rw [e5, e1], fun h => absurd h e2⟩

set_option maxRecDepth 10000 in
set_option maxHeartbeats 3200000 in
theorem rall_strs {w : World} {A : Option Addr} {sec : List UInt8} {B : Nat} (c : Nat) (hr : Rd w B A sec) (hB : B ≤ w.heap.size) (hc : sec.length ≤ c) (hcm : c ≤ maxLen) (hlen : sec.length ≤ 1000000) :
    Calls Tryd.prog 27 #[.slice A sec.length c, .bool false] w fun r w' => AllTb 131 w (allTbE sec false) (allTbL sec false) r w' := by
  obtain ⟨i1, hj1, hy0, hy1, hy2⟩ := info_parts rtbl_info
  obtain ⟨i2, hk1, hz0, hz1, hz2⟩ := info_parts u64_info
  have HLN := Lib.hid hlen
  have HE := Lib.hid (show allTbE sec false = (finTb sec false).e from rfl)
  have HL := Lib.hid (show allTbL sec false = if allTbE sec false = 0 then (finTb sec false).L else [] from rfl)
  have HF := Lib.hid (show finTb sec false = runTb sec false 61 ⟨0, 0, []⟩ from rfl)
  have hb1 : Below w.heap.size w (w.alloc (.cells #[.slice A sec.length c, .int .i64 0, .int .i64 0] 127)) := (Below.refl _ _).alloc (Nat.le_refl _) _
  have HR1 := Lib.hid (show RR B (w.alloc (.cells #[.slice A sec.length c, .int .i64 0, .int .i64 0] 127)) w.heap.size (.slice A sec.length c) sec 0 0 from
    ⟨Box.new _ _ _, ⟨A, c, rfl, hc, hcm, hr.below (hb1.mono hB)⟩, Nat.zero_le _, hB⟩)
  have HB1 := Lib.hid hb1
  have HBW := Lib.hid hB
  clear hr hB hlen hb1 hc hcm
  generalize allTbE sec false = E at *
  generalize allTbL sec false = R at *
  generalize finTb sec false = F at *
  obtain ⟨N, hN⟩ : ∃ N, sec.length = N := ⟨_, rfl⟩
  have HN := Lib.hid hN
  rw [hN] at HR1 HB1 HLN ⊢
  clear hN
  go_enter Tryd.func27, Tryd.ntmps27
  go_upto_region 3 with fail
  generalize w.alloc (.cells #[.slice A N c, .int .i64 0, .int .i64 0] 127) = w1 at *
  have HGW := Lib.hid (Nat.le_refl w.heap.size)
  generalize hg : w.heap.size = g at HR1 HGW ⊢
  have HGE := Lib.hid hg
  clear hg
  go_loopg [7] 62 (fun gk u wr => ∃ (k : Nat) (s : TAt) (M : List TLay), k ≤ 60 ∧ gk = 62 - k ∧ Hid (M.length = k) ∧ Hid (M.map TLay.x = s.L) ∧ Hid (s.e = 0) ∧ Hid (F = runTb sec false (61 - k) s) ∧ Hid (OwnTb 131 wr w.heap.size u M) ∧ Hid (RR B wr g (.slice A N c) sec s.a 0) ∧ Hid (Below w.heap.size w wr))
  case atStart => exact ⟨0, ⟨0, 0, []⟩, [], Nat.zero_le _, rfl, Lib.hid rfl, Lib.hid rfl, Lib.hid rfl, HF, Lib.hid (OwnTb.nil _ _ _), HR1, HB1⟩
  case round =>
    obtain ⟨k, s, M, hk, rfl, HX, HMM, HKE, HFF, HO, HC, HB⟩ := hrel
    clear HR1 HB1 HF
    have k1 := rr_at HC.out
    have hal : s.a ≤ N := by have := HC.out.2.2.1; rw [HN.out] at this; exact this
    by_cases hq0 : s.a < N
    · have d : decide ((s.a : Int) < (N : Int)) = true := by simp; omega
      have d' : decide (s.a < N) = true := by simpa using hq0
      have HSL := Lib.hid (show s.L.length = k by rw [← HMM.out, List.length_map, HX.out])
      have HSS := Lib.hid (show stepTb sec false s = ⟨bdA sec s.a 0, if 60 < k + 1 then failOf (xTb sec s.a false) 3 else xTb sec s.a false, s.L ++ [tTb sec s.a false]⟩ from by rw [stepTb, HSL.out])
      have HFN := Lib.hid (show F = runTb sec false (61 - (k + 1)) (stepTb sec false s) from by rw [HFF.out, show 61 - k = 61 - (k + 1) + 1 by omega, runTb, if_pos (by rw [HKE.out]; unfold leftOf; rw [if_pos rfl, HN.out]; omega)])
      have HED := Lib.hid (@runTb_end sec false (stepTb sec false s))
      have HBD := Lib.hid (rbody_len HC.out (by rw [HN.out]; exact Nat.le_trans HLN.out (by decide)))
      have hA2 : bdA sec s.a 0 ≤ 1000000 := Nat.le_trans (by have := bdA_to (l := sec) (a := s.a) (e := 0) (by rw [HN.out]; exact hal); rw [HN.out] at this; exact this) HLN.out
      have hbd := bd_len sec s.a 0
      have HBL := Lib.hid (show (bdG sec s.a 0).length ≤ 140737488355328 by omega)
      obtain ⟨ra, rb⟩ := read_tb (bdG sec s.a 0) (bdE sec s.a 0) (szT false (bdW sec s.a 0)) false
      have HRA := Lib.hid ra
      have HRB := Lib.hid rb
      have HXT := Lib.hid (show xTb sec s.a false = xT (bdG sec s.a 0) (bdE sec s.a 0) (szT false (bdW sec s.a 0)) false from rfl)
      have HOK := Lib.hid (@xTb_ok sec s.a false)
      have HT := Lib.hid (show tTb sec s.a false = ⟨bdW sec s.a 0, bdA sec s.a 0 - lT (bdG sec s.a 0) (bdE sec s.a 0) (szT false (bdW sec s.a 0)) false, itemsTb ((bdG sec s.a 0).drop 4) (szT false (bdW sec s.a 0)) (lT (bdG sec s.a 0) (bdE sec s.a 0) (szT false (bdW sec s.a 0)) false / szT false (bdW sec s.a 0))⟩ from rfl)
      have CU := Lib.hid (fun (W : World) (g2 : Nat) (v2 : Value) (s' : UCt) (h : DnB B wr W g (.slice A N c) sec (bdA sec s.a 0, bdE sec s.a 0) g2 v2 (bdG sec s.a 0) s') (ha : DnP B wr g g2) => (ru_un h.u HBL.out 2 2 rfl (by decide)).mono fun r w' (⟨h1, h2, h3⟩ : _ ∧ _ ∧ _) => And.intro h1 (h.call (s' := nU (bdG sec s.a 0) s' 2) ha h2 h3))
      have HH := Lib.hid (show hsTb (bdG sec s.a 0) (bdE sec s.a 0) false = nU (bdG sec s.a 0) (nU (bdG sec s.a 0) (0, bdE sec s.a 0) 2) 2 from rfl)
      have hnp : 4 ≤ szT false (bdW sec s.a 0) ∧ szT false (bdW sec s.a 0) ≤ 8 := by cases bdW sec s.a 0 <;> decide
      have hcl : clampOf (szT false (bdW sec s.a 0) : Int) = szT false (bdW sec s.a 0) := by cases bdW sec s.a 0 <;> rfl
      have HOF := Lib.hid (fun W => by have := roff_len (bdW sec s.a 0) W; rwa [show lenO (bdW sec s.a 0) = (szT false (bdW sec s.a 0) : Int) by cases bdW sec s.a 0 <;> rfl] at this : ∀ W, Calls Tryd.prog 56 #[.bool (bdW sec s.a 0)] W fun r w' => r = .returned (.int .i64 (szT false (bdW sec s.a 0) : Int)) ∧ W = w')
      have HP0 := Lib.hid (show g < wr.heap.size from HC.out.1.lt)
      clear HFF HKE ra rb
      generalize stepTb sec false s = s2 at *
      generalize tTb sec s.a false = x at *
      generalize xTb sec s.a false = xe at *
      generalize hlq : lT (bdG sec s.a 0) (bdE sec s.a 0) (szT false (bdW sec s.a 0)) false = k0 at *
      generalize xT (bdG sec s.a 0) (bdE sec s.a 0) (szT false (bdW sec s.a 0)) false = x' at *
      have hxx := HXT.out
      subst hxx
      generalize szT false (bdW sec s.a 0) = n at *
      generalize bdG sec s.a 0 = G at *
      generalize bdE sec s.a 0 = be at *
      generalize bdA sec s.a 0 = m at *
      generalize bdW sec s.a 0 = bw at *
      generalize s.a = sa at *
      clear hlq HXT
      obtain ⟨A3, c3, hu⟩ := un_slc HO.out.row
      rw [HX.out] at hu
      subst hu
      go_upto_region 5 with (go_at_call 54; refine HBD.out.mono ?_; rintro r w4 ⟨g2, v2, rfl, hM, hC, hG⟩; have HM := Lib.hid hM; have HC4 := Lib.hid hC; have HG4 := Lib.hid hG; clear hM hC hG)
      have HP := Lib.hid (show DnP B wr g g2 from ⟨Nat.le_trans HBW.out HB.out.size, HP0.out, HM.out.2.1⟩)
      have HD4 := Lib.hid (show DnB B wr w4 g (.slice A N c) sec (m, be) g2 v2 G (0, be) from ⟨HC4.out, HM.out.1, HG4.out⟩)
      clear HM HC4 HG4 HBD k1
      go_upto_region 6 with (go_at_call 55; refine (CU.out _ _ _ _ HD4.out HP.out).mono ?_; rintro r w5 ⟨rfl, h⟩; have HD5 := Lib.hid h; clear h)
      go_upto_region 7 with (go_at_call 55; refine (CU.out _ _ _ _ HD5.out HP.out).mono ?_; rintro r w6 ⟨rfl, h⟩; rw [← HH.out] at h; have HD6 := Lib.hid h; clear h)
      clear HD4 HD5 CU
      have k2 := rc_e HD6.out.u
      obtain ⟨x1, hx1⟩ : ∃ n, vU G (0, be) 2 = n := ⟨_, rfl⟩
      obtain ⟨x2, hx2⟩ : ∃ n, vU G (nU G (0, be) 2) 2 = n := ⟨_, rfl⟩
      rw [hx1, hx2] at HRB ⊢
      clear hx1 hx2 HH
      generalize hsTb G be false = z at *
      obtain ⟨za, ze⟩ := z
      simp only at k2 HRA
      have HBE := Lib.hid (HB.out.grown HD6.out.gr HB.out.size (fun y hy => by injection hy with hy; have := HGW.out; have := HGE.out; omega))
      by_cases hze : ze = 0
      rotate_left
      · have q1 : (ze != 0) = true := by simpa using hze
        have hxe := HRA.out hze
        have hs2 : s2.e = xe := by
          rw [HSS.out]
          simp only
          split
          · unfold failOf; rw [if_neg (by rw [hxe]; exact hze)]
          · rfl
        have HEE := Lib.hid (show E = ze by rw [HE.out, HFN.out, HED.out (by unfold leftOf; rw [hs2, if_neg (by rw [hxe]; exact hze)]), hs2]; exact hxe)
        have HRR := Lib.hid (show R = [] by rw [HL.out, if_neg (by rw [HEE.out]; exact hze)])
        clear hze hxe hs2
        go_upto_region 8 with fail
        go_quiet (fail)
        go_wp2_with fail
        (try rw [Exit.noGoto_ret])
        go_ret2
        exact ⟨_, [], by rw [HEE.out]; rfl, by rw [HRR.out]; rfl, OwnTb.nil _ _ _, below_drewN HBE.out _⟩
      subst hze
      have q1 : ((0 : Int) != 0) = false := rfl
      obtain ⟨h1, h2, h3, h4, h5, h6, h7, h8⟩ := HRB.out rfl
      have HFAIL := Lib.hid (fun (h : xe ≠ 0) => (by
        have hs2 : s2.e = xe := by
          rw [HSS.out]
          simp only
          split
          · unfold failOf; rw [if_neg h]
          · rfl
        have hee : E = xe := by rw [HE.out, HFN.out, HED.out (by unfold leftOf; rw [hs2, if_neg h])]; exact hs2
        exact ⟨hee, by rw [HL.out, if_neg (by rw [hee]; exact h)]⟩ : E = xe ∧ R = []))
      injection h3 with h3a _
      subst h1 h3a h4 h5
      have H6 := Lib.hid h6
      have H7 := Lib.hid h7
      have H8 := Lib.hid h8
      have HG4L := Lib.hid h2
      clear h2 h6 h7 h8 HRA HRB
      obtain ⟨b1, hb1⟩ : ∃ b, (leNat (G.take 2) == 5) = b := ⟨_, rfl⟩
      obtain ⟨b2, hb2⟩ : ∃ b, (leNat ((G.drop 2).take 2) == 0) = b := ⟨_, rfl⟩
      have HRG := Lib.hid (show rgTb G false = (b1 && b2) by unfold rgTb; rw [← hb1, ← hb2])
      have p1 : ((leNat (G.take 2) : Int) != 5) = !b1 := by rw [← hb1, bne, Bool.eq_iff_iff]; simp; try omega
      have p2 : ((leNat ((G.drop 2).take 2) : Int) != 0) = !b2 := by rw [← hb2, bne, Bool.eq_iff_iff]; simp; try omega
      clear hb1 hb2
      generalize leNat (G.take 2) = y1 at *
      generalize leNat ((G.drop 2).take 2) = y2 at *
      go_upto_region 14 with (go_at_call 56; refine (HOF.out _).mono ?_; rintro r w7 ⟨rfl, rfl⟩)
      rcases (by cases b1 <;> cases b2 <;> simp : (b1 = false) ∨ (b1 = true ∧ b2 = false) ∨ (b1 = true ∧ b2 = true)) with rfl | ⟨rfl, rfl⟩ | ⟨rfl, rfl⟩
      · obtain ⟨e1, e2⟩ := HFAIL.out (by rw [H6.out (by rw [HRG.out]; rfl)]; decide)
        have HEE := Lib.hid (show E = 42 by rw [e1]; exact H6.out (by rw [HRG.out]; rfl))
        have HRR := Lib.hid e2
        clear e1 e2
        simp only [Bool.not_false] at p1
        go_wp2_with fail
        (try rw [Exit.noGoto_ret])
        go_ret2
        exact ⟨_, [], by rw [HEE.out]; rfl, by rw [HRR.out]; rfl, OwnTb.nil _ _ _, HBE.out⟩
      · obtain ⟨e1, e2⟩ := HFAIL.out (by rw [H6.out (by rw [HRG.out]; rfl)]; decide)
        have HEE := Lib.hid (show E = 42 by rw [e1]; exact H6.out (by rw [HRG.out]; rfl))
        have HRR := Lib.hid e2
        clear e1 e2
        simp only [Bool.not_true, Bool.not_false] at p1 p2
        go_wp2_with fail
        (try rw [Exit.noGoto_ret])
        go_ret2
        exact ⟨_, [], by rw [HEE.out]; rfl, by rw [HRR.out]; rfl, OwnTb.nil _ _ _, HBE.out⟩
      simp only [Bool.not_true] at p1 p2
      obtain ⟨lf, hlf⟩ : ∃ q, G.length - 4 = q := ⟨_, rfl⟩
      have HLE := Lib.hid hlf
      rw [hlf] at H7 H8
      have HLF := Lib.hid (by
        have := rleft_cur HD6.out.u
        rw [show leftOf G 4 0 = lf by simp [leftOf, hlf]] at this
        exact this : Calls Tryd.prog 57 #[.pointer (some ⟨g2, 0, none⟩)] w6 fun r w' => r = .returned (.int .i64 (lf : Int)) ∧ ∃ n, w' = w6.drewN n)
      have hl47 : lf ≤ m ∧ lf ≤ 1000000 := by omega
      clear hlf
      obtain ⟨md, hmd⟩ : ∃ q, lf % n = q := ⟨_, rfl⟩
      have r1 : ((lf : Int).tmod (n : Int)) = (md : Int) := by rw [rem_natT, hmd]
      have n1 : ((n : Int) == 0) = false := by simp; omega
      have n2 : ¬ ((n : Int) = 0) := by omega
      have n3 : ¬ (n = 0) := by omega
      rw [hmd] at H7 H8
      have HMD := Lib.hid hmd
      clear hmd
      go_upto_if 58 with (go_at_call 57; refine HLF.out.mono ?_; rintro r w7 ⟨rfl, nq, rfl⟩)
      by_cases hm0 : md = 0
      rotate_left
      · have q2 : decide ((0 : Int) < (md : Int)) = true := by simp; omega
        have q3 : decide (0 < md) = true := by simp; omega
        have q4 : 0 < md := by omega
        obtain ⟨e1, e2⟩ := HFAIL.out (by rw [H7.out (by rw [HRG.out]; rfl) hm0]; decide)
        have HEE := Lib.hid (show E = 10 by rw [e1]; exact H7.out (by rw [HRG.out]; rfl) hm0)
        have HRR := Lib.hid e2
        clear e1 e2 hm0
        go_wp2_with fail
        (try rw [Exit.noGoto_ret])
        go_ret2
        exact ⟨_, [], by rw [HEE.out]; rfl, by rw [HRR.out]; rfl, OwnTb.nil _ _ _, below_drewN HBE.out _⟩
      have q2 : decide ((0 : Int) < (md : Int)) = false := by simp; omega
      have q3 : decide (0 < md) = false := by simp; omega
      have q4 : ¬ 0 < md := by omega
      obtain ⟨hx0, hk0⟩ := H8.out (by rw [HRG.out]; rfl) hm0
      have HX0 := Lib.hid hx0
      subst hk0 hm0
      clear hx0 H6 H7 H8 HFAIL HRG HLF r1
      have HD8 := Lib.hid (HD6.out.drewN nq)
      have HBE8 := Lib.hid (below_drewN HBE.out nq)
      clear HD6 HBE k2
      go_upto_region 18 with fail
      generalize w6.drewN nq = w8 at *
      have HLF := Lib.hid (fun (W : World) (hW : Below w8.heap.size w8 W) => (by
        have := rleft_cur (HD8.out.below hW).u
        rw [show leftOf G 4 0 = k0 by simp [leftOf, HLE.out]] at this
        exact this : Calls Tryd.prog 57 #[.pointer (some ⟨g2, 0, none⟩)] W fun r w' => r = .returned (.int .i64 (k0 : Int)) ∧ ∃ n, w' = W.drewN n))
      have KS := Lib.hid (fun (W : World) (hW : Below w8.heap.size w8 W) => rr_at (HD8.out.below hW).c)
      have HG8 := Lib.hid (show g < w8.heap.size from HD8.out.c.1.lt)
      have KZ := Lib.hid (fun (W : World) (i : Nat) (u : Value) (hW : W.cell? ⟨g, 1, none⟩ = some (.int .i64 (m : Int))) => (by
        rw [World.cell?_setCell_other _ _ _ _ (by intro e; injection e with e; have := HG8.out; omega)]
        exact hW : (W.setCell ⟨w8.heap.size, i, none⟩ u).cell? ⟨g, 1, none⟩ = some (.int .i64 (m : Int))))
      have d1 : IntKind.i64.wrap ((m : Int) - (k0 : Int)) = ((m - k0 : Nat) : Int) := by rw [IntWalk.i64_in _ (by omega)]; omega
      have d2 : IntKind.u64.wrap ((m - k0 : Nat) : Int) = ((m - k0 : Nat) : Int) := by rw [IntWalk.u64_in _ (by omega)]
      go_cut [14] (fun u14 wx => u14 = .pointer (some ⟨w8.heap.size, 0, none⟩) ∧ Hid (DnX B wr wx g (.slice A N c) sec (m, 0) g2 v2 G (4, 0) w8.heap.size (.bool bw) (.int .u64 ((m - k0 : Nat) : Int)) (.slice none 0 0) []))
      case first =>
        refine wp_region_held_drew (S := fun W => W.cell? ⟨g, 1, none⟩ = some (.int .i64 (m : Int))) (by kernel_rfl) ?_ (fun hHeld => ?_)
        · exact KS.out _ (below_drewN (Below.refl _ _) 1)
        refine take_r (i := 0) (v := ?_) rfl (by kernel_rfl) (by kernel_rfl) (by kernel_rfl) (fun _ _ _ h => h) (Or.inl ⟨by rfl, ?_⟩) hHeld ?_
        rotate_left
        · (intro wS hSw; (try dsimp only at hSw); go_simp; (try with_reducible rfl))
        try simp only [Act.put, List.setIfInBounds_toArray, List.set_cons_zero, List.set_cons_succ]
        refine take_r (i := 1) (v := ?_) rfl (by kernel_rfl) (by kernel_rfl) (by kernel_rfl) (fun _ _ _ h => h) (Or.inl ⟨by rfl, ?_⟩) hHeld ?_
        rotate_left
        · (intro wS hSw; (try dsimp only at hSw); go_simp; (try with_reducible rfl))
        try simp only [Act.put, List.setIfInBounds_toArray, List.set_cons_zero, List.set_cons_succ]
        refine take_r (i := 2) (v := ?_) rfl (by kernel_rfl) (by kernel_rfl) (by kernel_rfl) (fun _ _ _ h => h) (Or.inl ⟨by rfl, ?_⟩) hHeld ?_
        rotate_left
        · (intro wS hSw; (try dsimp only at hSw); go_simp; (try with_reducible rfl))
        try simp only [Act.put, List.setIfInBounds_toArray, List.set_cons_zero, List.set_cons_succ]
        refine take_r (i := 3) (v := ?_) rfl (by kernel_rfl) (by kernel_rfl) (by kernel_rfl) (fun _ _ _ h => h) (Or.inl ⟨by rfl, ?_⟩) hHeld ?_
        rotate_left
        · (intro wS hSw; (try dsimp only at hSw); go_simp; (try with_reducible rfl))
        try simp only [Act.put, List.setIfInBounds_toArray, List.set_cons_zero, List.set_cons_succ]
        refine take_r (i := 4) (v := ?_) rfl (by kernel_rfl) (by kernel_rfl) (by kernel_rfl) (fun _ _ _ h => h) (Or.inl ⟨by rfl, ?_⟩) hHeld ?_
        rotate_left
        · (intro wS hSw; (try dsimp only at hSw); go_simp; (try with_reducible rfl))
        try simp only [Act.put, List.setIfInBounds_toArray, List.set_cons_zero, List.set_cons_succ]
        refine take_r (i := 5) (v := ?_) rfl (by kernel_rfl) (by kernel_rfl) (by kernel_rfl) (fun _ _ _ h => h) (Or.inl ⟨by rfl, ?_⟩) hHeld ?_
        rotate_left
        · (intro wS hSw; (try dsimp only at hSw); go_simp; (try with_reducible rfl))
        try simp only [Act.put, List.setIfInBounds_toArray, List.set_cons_zero, List.set_cons_succ]
        refine wpAnyH_ready (rs := [6, 10]) (by kernel_rfl) (by simp) ?_
        refine ready_2 rfl rfl (fun K hK => ?_) (fun K hK => ?_)
        · -- Left first
          go_simp
          go_wp2_with (go_at_call 57; refine (HLF.out _ (below_drewN (Below.refl _ _) 1)).mono ?_; rintro r w9 ⟨rfl, nq2, rfl⟩)
          refine hK.out _ _ ?_ (fun hNew => ?_)
          · exact KS.out _ (below_drewN (Below.refl _ _) (1 + nq2))
          clear hHeld hK K
          have hHeld := hNew
          clear hNew
          refine take_r (i := 7) (v := ?_) rfl (by kernel_rfl) (by kernel_rfl) (by kernel_rfl) (fun _ _ _ h => h) (Or.inl ⟨by rfl, ?_⟩) hHeld ?_
          rotate_left
          · (intro wS hSw; (try dsimp only at hSw); go_simp; (try with_reducible rfl))
          try simp only [Act.put, List.setIfInBounds_toArray, List.set_cons_zero, List.set_cons_succ]
          refine take_r (i := 8) (v := ?_) rfl (by kernel_rfl) (by kernel_rfl) (by kernel_rfl) (fun _ _ _ h => h) (Or.inl ⟨by rfl, ?_⟩) hHeld ?_
          rotate_left
          · (intro wS hSw; (try dsimp only at hSw); go_simp; (try with_reducible rfl))
          try simp only [Act.put, List.setIfInBounds_toArray, List.set_cons_zero, List.set_cons_succ]
          refine take_r (i := 9) (v := ?_) rfl (by kernel_rfl) (by kernel_rfl) (by kernel_rfl) (fun _ _ _ h => h) (Or.inl ⟨by rfl, ?_⟩) hHeld ?_
          rotate_left
          · (intro wS hSw; (try dsimp only at hSw); go_simp; (try with_reducible rfl))
          try simp only [Act.put, List.setIfInBounds_toArray, List.set_cons_zero, List.set_cons_succ]
          have hx := Box.new (w8.drewN (1 + nq2)) 131 #[.bool false, .int .u64 0, .slice none 0 0]
          have hbx : Below w8.heap.size w8 ((w8.drewN (1 + nq2)).alloc (.cells #[.bool false, .int .u64 0, .slice none 0 0] 131)) := (below_drewN (Below.refl _ _) _).alloc (by simp) _
          refine wpAnyH_ready (rs := [10]) (by kernel_rfl) (by simp) ?_
          refine ready_r rfl (fun K hK => ?_)
          go_simp
          go_wp2_with (fail)
          refine hK.out _ _ ?_ (fun hNew => ?_)
          · exact KS.out _ hbx
          clear hHeld hK K
          have hHeld := hNew
          clear hNew
          rw [show (w8.drewN (1 + nq2)).heap.size = w8.heap.size from rfl] at hx
          obtain ⟨z0, z1, z2⟩ := three_cellsT hx
          obtain ⟨f0, f1, f2⟩ := three_freeT hx
          have HDX := Lib.hid (DnX.made HD8.out hbx hx (.bool bw) (.int .u64 ((m - k0 : Nat) : Int)))
          refine wpAnyH_ready (rs := [11]) (by kernel_rfl) (by simp) ?_
          refine ready_r rfl (fun K hK => ?_)
          go_simp
          go_wp2_with (fail)
          refine hK.out _ _ ?_ (fun hNew => ?_)
          · exact KZ.out _ _ _ (KZ.out _ _ _ (KZ.out _ _ _ (KS.out _ hbx)))
          clear hHeld hK K
          have hHeld := hNew
          clear hNew
          refine wpAnyH_done (by kernel_rfl) ?_ _
          go_wp2_with fail
          go_meet
          exact ⟨rfl, HDX⟩
        · -- alloc first
          have hx := Box.new (w8.drewN 1) 131 #[.bool false, .int .u64 0, .slice none 0 0]
          have hbx : Below w8.heap.size w8 ((w8.drewN 1).alloc (.cells #[.bool false, .int .u64 0, .slice none 0 0] 131)) := (below_drewN (Below.refl _ _) _).alloc (by simp) _
          rw [show (w8.drewN 1).heap.size = w8.heap.size from rfl] at hx
          go_simp
          go_wp2_with fail
          refine hK.out _ _ ?_ (fun hNew => ?_)
          · exact KS.out _ hbx
          clear hHeld hK K
          have hHeld := hNew
          clear hNew
          refine wpAnyH_ready (rs := [6]) (by kernel_rfl) (by simp) ?_
          refine ready_r rfl (fun K hK => ?_)
          go_simp
          go_wp2_with (go_at_call 57; refine (HLF.out _ hbx).mono ?_; rintro r w9 ⟨rfl, nq2, rfl⟩; have hx3 := hx.drewN nq2; have hbx3 := below_drewN hbx nq2)
          refine hK.out _ _ ?_ (fun hNew => ?_)
          · exact KS.out _ hbx3
          clear hHeld hK K
          have hHeld := hNew
          clear hNew
          obtain ⟨z0, z1, z2⟩ := three_cellsT hx3
          obtain ⟨f0, f1, f2⟩ := three_freeT hx3
          have HDX := Lib.hid (DnX.made HD8.out hbx3 hx3 (.bool bw) (.int .u64 ((m - k0 : Nat) : Int)))
          refine take_r (i := 7) (v := ?_) rfl (by kernel_rfl) (by kernel_rfl) (by kernel_rfl) (fun _ _ _ h => h) (Or.inl ⟨by rfl, ?_⟩) hHeld ?_
          rotate_left
          · (intro wS hSw; (try dsimp only at hSw); go_simp; (try with_reducible rfl))
          try simp only [Act.put, List.setIfInBounds_toArray, List.set_cons_zero, List.set_cons_succ]
          refine take_r (i := 8) (v := ?_) rfl (by kernel_rfl) (by kernel_rfl) (by kernel_rfl) (fun _ _ _ h => h) (Or.inl ⟨by rfl, ?_⟩) hHeld ?_
          rotate_left
          · (intro wS hSw; (try dsimp only at hSw); go_simp; (try with_reducible rfl))
          try simp only [Act.put, List.setIfInBounds_toArray, List.set_cons_zero, List.set_cons_succ]
          refine take_r (i := 9) (v := ?_) rfl (by kernel_rfl) (by kernel_rfl) (by kernel_rfl) (fun _ _ _ h => h) (Or.inl ⟨by rfl, ?_⟩) hHeld ?_
          rotate_left
          · (intro wS hSw; (try dsimp only at hSw); go_simp; (try with_reducible rfl))
          try simp only [Act.put, List.setIfInBounds_toArray, List.set_cons_zero, List.set_cons_succ]
          refine wpAnyH_ready (rs := [11]) (by kernel_rfl) (by simp) ?_
          refine ready_r rfl (fun K hK => ?_)
          go_simp
          go_wp2_with (fail)
          refine hK.out _ _ ?_ (fun hNew => ?_)
          · exact KZ.out _ _ _ (KZ.out _ _ _ (KZ.out _ _ _ (KS.out _ hbx3)))
          clear hHeld hK K
          have hHeld := hNew
          clear hNew
          refine wpAnyH_done (by kernel_rfl) ?_ _
          go_wp2_with fail
          go_meet
          exact ⟨rfl, HDX⟩
      case rest =>
      obtain ⟨rfl, HDX⟩ := hcut
      clear HLF KS KZ d1 d2
      generalize wc = w10 at *
      have HBJ := Lib.hid (show w.heap.size ≤ wr.heap.size from HB.out.size)
      have HXG := Lib.hid (show wr.heap.size ≤ w8.heap.size from HD8.out.gr.size)
      obtain ⟨q, hq⟩ : ∃ q, k0 / n = q := ⟨_, rfl⟩
      have hqn : q * n = k0 := by rw [← hq]; exact Nat.div_mul_cancel (Nat.dvd_of_mod_eq_zero HMD.out)
      have HQN := Lib.hid hqn
      rw [hq] at HT
      have hq4 : q * 4 ≤ k0 := by
        have h2 : q * 4 ≤ q * n := Nat.mul_le_mul_left q hnp.1
        omega
      clear hq hqn HD8 HMD HG8 n1 n2 n3 q2 q3 q4 p1 p2
      generalize w8.heap.size = X at *
      generalize wr = wj at *
      go_upto_region 19 with fail
      go_loopg [] q (fun gk wr => ∃ (j : Nat) (u : Value), j ≤ q ∧ gk = q - j ∧ Hid (DnX B wj wr g (.slice A N c) sec (m, 0) g2 v2 G (4 + j * n, 0) X (.bool bw) (.int .u64 ((m - k0 : Nat) : Int)) u (itemsTb (G.drop 4) n j)))
      case atStart => exact ⟨0, _, Nat.zero_le _, rfl, Lib.hid (by rw [Nat.zero_mul]; exact HDX.out)⟩
      case round =>
        obtain ⟨j, u, hjq, rfl, HJ⟩ := hrel
        clear HDX
        obtain ⟨lj, hlj⟩ : ∃ q, leftOf G (4 + j * n) 0 = q := ⟨_, rfl⟩
        have HLF := Lib.hid (by
          have := rleft_cur HJ.out.d.u
          rw [hlj] at this
          exact this : Calls Tryd.prog 57 #[.pointer (some ⟨g2, 0, none⟩)] wr fun r w' => r = .returned (.int .i64 (lj : Int)) ∧ ∃ n, w' = wr.drewN n)
        have hlj2 : lj = k0 - j * n := by
          have := HLE.out
          rw [← hlj]
          simp only [leftOf, if_pos]
          omega
        clear hlj
        by_cases hlt : j < q
        · have HLT := Lib.hid hlt
          have hjn : (j + 1) * n ≤ q * n := Nat.mul_le_mul_right n hlt
          rw [Nat.add_mul, Nat.one_mul] at hjn
          have d : decide ((0 : Int) < (lj : Int)) = true := by have := HQN.out; simp; omega
          have d' : decide (0 < lj) = true := by have := HQN.out; simp; omega
          have dp : 0 < lj := by have := HQN.out; omega
          obtain ⟨u1, u2⟩ := item_tb (G := G) (n := n) hlt (by rw [HQN.out, HLE.out]; exact Nat.le_refl _)
          have HNX := Lib.hid (itemsTb_succ (G.drop 4) n j)
          have HIL := Lib.hid (itemsTb_len (G.drop 4) n j)
          have HU := Lib.hid (fun (W : World) (h : DnX B wj W g (.slice A N c) sec (m, 0) g2 v2 G (4 + j * n, 0) X (.bool bw) (.int .u64 ((m - k0 : Nat) : Int)) u (itemsTb (G.drop 4) n j)) => (by
            have := ru_un h.d.u HBL.out (n : Int) n hcl (by omega)
            rw [u1, u2] at this
            exact this.mono fun r w' ⟨t1, t2, t3⟩ => ⟨t1, h.call HP.out (s' := (4 + (j + 1) * n, 0)) t2 t3, t3⟩ : Calls Tryd.prog 55 #[.pointer (some ⟨g2, 0, none⟩), .int .i64 (n : Int)] W fun r w' => r = .returned (.int .u64 (leNat (((G.drop 4).drop (j * n)).take n) : Int)) ∧ DnX B wj w' g (.slice A N c) sec (m, 0) g2 v2 G (4 + (j + 1) * n, 0) X (.bool bw) (.int .u64 ((m - k0 : Nat) : Int)) u (itemsTb (G.drop 4) n j) ∧ W.grownBy w' (some g2)))
          clear u1 u2 hlt hjn hlj2
          generalize leNat (((G.drop 4).drop (j * n)).take n) = y at *
          obtain ⟨Au, cu, huu⟩ := un_slc HJ.out.o
          rw [HIL.out] at huu
          subst huu
          go_upto_region 20 with (go_at_call 57; refine HLF.out.mono ?_; rintro r w11 ⟨rfl, nq3, rfl⟩)
          have HJ12 := Lib.hid (HJ.out.drewN nq3)
          clear HJ HLF d d' dp
          generalize wr.drewN nq3 = w12 at *
          have KS := Lib.hid (fun (W : World) (s' : UCt) (h : DnX B wj W g (.slice A N c) sec (m, 0) g2 v2 G s' X (.bool bw) (.int .u64 ((m - k0 : Nat) : Int)) (.slice Au j cu) (itemsTb (G.drop 4) n j)) => (three_cellsT h.x).2.2)
          have h63 : j + 1 ≤ maxLen := by have := HLT.out; unfold maxLen; omega
          have hby : (j + 1) * 8 ≤ 140737488355328 := by have := HLT.out; omega
          refine region_any (by kernel_rfl) ?_
          refine wpAny_of_until (S := fun W => W.cell? ⟨X, 2, none⟩ = some (.slice Au j cu)) (p := 8) _ _ _ _ ?_
          have hHeld := KS.out _ _ (HJ12.out.drewN 1)
          refine take_u (i := 0) (v := ?_) [1, 6, 8] rfl (by kernel_rfl) (by kernel_rfl) (by kernel_rfl) (by kernel_rfl) (by kernel_rfl) (by kernel_rfl) (by kernel_rfl) (fun _ _ _ h => h) (Or.inl ⟨by rfl, ?_⟩) hHeld ?_
          rotate_left
          · (intro wS hSw; (try dsimp only at hSw); go_simp; (try with_reducible rfl))
          try simp only [Act.put, List.setIfInBounds_toArray, List.set_cons_zero, List.set_cons_succ]
          refine take_u (i := 1) (v := ?_) [6, 8] rfl (by kernel_rfl) (by kernel_rfl) (by kernel_rfl) (by kernel_rfl) (by kernel_rfl) (by kernel_rfl) (by kernel_rfl) (fun _ _ _ h => h) (Or.inl ⟨by rfl, ?_⟩) hHeld ?_
          rotate_left
          · (intro wS hSw; (try dsimp only at hSw); go_simp; (try with_reducible rfl))
          try simp only [Act.put, List.setIfInBounds_toArray, List.set_cons_zero, List.set_cons_succ]
          refine take_u (i := 2) (v := ?_) [4, 5, 6, 8] rfl (by kernel_rfl) (by kernel_rfl) (by kernel_rfl) (by kernel_rfl) (by kernel_rfl) (by kernel_rfl) (by kernel_rfl) (fun _ _ _ h => h) (Or.inl ⟨by rfl, ?_⟩) hHeld ?_
          rotate_left
          · (intro wS hSw; (try dsimp only at hSw); go_simp; (try with_reducible rfl))
          try simp only [Act.put, List.setIfInBounds_toArray, List.set_cons_zero, List.set_cons_succ]
          refine take_u (i := 3) (v := ?_) [4, 5, 6, 8] rfl (by kernel_rfl) (by kernel_rfl) (by kernel_rfl) (by kernel_rfl) (by kernel_rfl) (by kernel_rfl) (by kernel_rfl) (fun _ _ _ h => h) (Or.inl ⟨by rfl, ?_⟩) hHeld ?_
          rotate_left
          · (intro wS hSw; (try dsimp only at hSw); go_simp; (try with_reducible rfl))
          try simp only [Act.put, List.setIfInBounds_toArray, List.set_cons_zero, List.set_cons_succ]
          refine ready_u (i := 4) (by kernel_rfl) rfl (by kernel_rfl) (fun K hK => ?_)
          go_simp
          go_wp2_with (go_at_call 55; refine (HU.out _ (HJ12.out.drewN 1)).mono ?_; rintro r w13 ⟨rfl, hJ, hG⟩; have HJ13 := Lib.hid hJ; clear hJ hG)
          refine hK.out _ _ ?_ (fun hNew => ?_)
          · exact KS.out _ _ HJ13.out
          clear hHeld hK K
          have hHeld := hNew
          clear hNew
          have hA13 : Below w13.heap.size w13 (w13.alloc (.cells #[.int .u64 (y : Int)] 41)) := (Below.refl _ _).alloc (Nat.le_refl _) _
          have HJ14 := Lib.hid (HJ13.out.below hA13)
          have HO14 := Lib.hid (show (w13.alloc (.cells #[.int .u64 (y : Int)] 41)).ownsRow wj.heap.size 41 1 (.slice Au j cu) j (placeV (itemsTb (G.drop 4) n j)) from by have := HJ14.out.o; rwa [OwnU, HIL.out] at this)
          have hsz : wj.heap.size ≤ (w13.alloc (.cells #[.int .u64 (y : Int)] 41)).heap.size := HJ14.out.d.gr.size
          refine ready_u (i := 5) (by kernel_rfl) rfl (by kernel_rfl) (fun K hK => ?_)
          go_simp
          go_wp2_with (fail)
          refine hK.out _ _ ?_ (fun hNew => ?_)
          · exact KS.out _ _ HJ14.out
          clear hHeld hK K
          have hHeld := hNew
          clear hNew
          refine ready_u (i := 6) (by kernel_rfl) rfl (by kernel_rfl) (fun K hK => ?_)
          refine step_append_lies _ (by rfl) (.tmp 73) (.tmp 77) _ (by rfl) wj.heap.size 41 i2 _ 1 8 Tryd.underlying28 hk1 hz0 hz1 hz2 (by rfl) (by decide) (.slice Au j cu) j (placeV (itemsTb (G.drop 4) n j)) (by rfl) (by exact HO14.out) ⟨w13.heap.size, 0, none⟩ 1 1 [.int .u64 (y : Int)] (by rfl) rfl (fun j u h => cells_newU w13 [.int .u64 (y : Int)] 41 j u h) (by simp [Value.oneCell']) (by decide) h63 hby (by exact hsz) _ rfl ?_; intro g15 cap15 w15 hown15 hg15 hat15 hlt15; obtain ⟨hd15, hx15, ho15⟩ := HJ14.out.more HP.out hg15 (its' := itemsTb (G.drop 4) n (j + 1)) (by rw [OwnU, HNX.out, placeV_append, List.length_append, HIL.out]; exact hown15); have HJ16 := Lib.hid (DnX.stored hd15 HP.out hx15 HXG.out ho15); have z15 := (three_cellsT hx15).2.2; have f15 := (three_freeT hx15).2.2; clear hown15 hg15 hat15 hlt15 hd15 ho15
          try simp only [Act.put, List.setIfInBounds_toArray, List.set_cons_zero, List.set_cons_succ]
          refine hK.out _ _ ?_ (fun hNew => ?_)
          · exact z15
          clear hHeld hK K
          have hHeld := hNew
          clear hNew
          refine ready_u (i := 7) (by kernel_rfl) rfl (by kernel_rfl) (fun K hK => ?_)
          go_simp
          go_wp2_with (fail)
          refine hK.out _ _ ?_ (fun hNew => ?_)
          · exact hHeld
          clear hHeld hK K
          have hHeld := hNew
          clear hNew
          refine end_u (by kernel_rfl) rfl (fun K hK => ?_)
          go_simp
          refine hK.out _ _ ?_
          clear hHeld hK K
          refine wpAny_of_held (S := fun _ => True) _ _ _ _ ?_
          refine wpAnyH_done (by kernel_rfl) ?_ _
          go_wp2_with fail
          go_roundg (q - (j + 1))
          case measure => have := HLT.out; omega
          case rel => exact ⟨j + 1, _, HLT.out, rfl, HJ16⟩
        · have hjq2 : j = q := by omega
          subst hjq2
          have hl0 : lj = 0 := by have := HQN.out; omega
          subst hl0
          have HXX := Lib.hid (show x = ⟨bw, m - k0, itemsTb (G.drop 4) n j⟩ from HT.out)
          obtain ⟨Au, cu, huu⟩ := un_slc HJ.out.o
          rw [itemsTb_len] at huu
          subst huu
          have HOT := Lib.hid (HO.out.far HJ.out.d.gr HC.out.1 (by decide) (by decide))
          have HBT := Lib.hid (HB.out.grown HJ.out.d.gr HB.out.size (fun y hy => by injection hy with hy; have := HGW.out; have := HGE.out; omega))
          have HIL := Lib.hid (itemsTb_len (G.drop 4) n j)
          clear HO HT hlj2 HC HB
          generalize itemsTb (G.drop 4) n j = its at *
          go_upto_region 21 with (go_at_call 57; refine HLF.out.mono ?_; rintro r w11 ⟨rfl, nq3, rfl⟩)
          have HJ12 := Lib.hid (HJ.out.drewN nq3)
          have HO12 := Lib.hid (show OwnTb 131 (wr.drewN nq3) w.heap.size (.slice A3 k c3) M from ⟨HOT.out.row, HOT.out.its⟩)
          have HB12 := Lib.hid (below_drewN HBT.out nq3)
          clear HJ HLF HOT HBT
          generalize wr.drewN nq3 = w12 at *
          obtain ⟨c0, c1, c2⟩ := three_cellsT HJ12.out.x
          obtain ⟨yy, hyy⟩ : ∃ yy : TLay, yy = ⟨x, Au, cu⟩ := ⟨_, rfl⟩
          have HYC := Lib.hid (show yy.cells = [.bool bw, .int .u64 ((m - k0 : Nat) : Int), .slice Au j cu] by rw [hyy]; show [_, _, _] = _; rw [HXX.out, ← HIL.out])
          have HYX := Lib.hid (show yy.x = x by rw [hyy])
          have HYO := Lib.hid (show OwnU w12 w.heap.size (.slice yy.a yy.x.items.length yy.c) yy.x.items by rw [hyy]; show OwnU _ _ (.slice Au x.items.length cu) x.items; rw [HXX.out]; show OwnU _ _ (.slice Au its.length cu) its; rw [HIL.out]; exact row_base HJ12.out.o (Nat.le_trans (Nat.le_of_eq rfl) HBJ.out))
          have hA : Below w12.heap.size w12 (w12.alloc (.cells #[.bool bw, .int .u64 ((m - k0 : Nat) : Int), .slice Au j cu] 131)) := (Below.refl _ _).alloc (Nat.le_refl _) _
          have HO13 := Lib.hid (HO12.out.below hA)
          have HR13 := Lib.hid HO13.out.row
          rw [HX.out] at HR13
          have hmx : k + 1 ≤ maxLen := by unfold maxLen; omega
          have hby : (k + 1) * 40 ≤ 140737488355328 := by omega
          have hsz : w.heap.size ≤ w12.heap.size + 1 := by have := HB12.out.size; omega
          clear hyy
          go_upto_region 22 with (at_builtin; refine wpList_append_own_at _ (by rfl) (.tmp 80) (.tmp 82) _ (by rfl) w.heap.size 131 i1 _ 3 40 Tryd.underlying69 hj1 hy0 hy1 hy2 rfl (by decide) _ k (cellsF TLay.cells M) (by rfl) HR13.out ⟨w12.heap.size, 0, none⟩ 1 1 [.bool bw, .int .u64 ((m - k0 : Nat) : Int), .slice Au j cu] (by rfl) rfl (fun j' u h => cells_newU w12 [.bool bw, .int .u64 ((m - k0 : Nat) : Int), .slice Au j cu] _ j' u h) (by rw [← HYC.out]; exact tbl_one _) hmx hby (by simpa using hsz) ?_; intro v14 w14 hown14 hg14 hn14 hat14; clear hn14 hat14; have HO14 := Lib.hid hown14; have HG14 := Lib.hid hg14; clear hown14 hg14)
          have HC14 := Lib.hid (un_rr (HJ12.out.d.below hA).c HO13.out.row (by decide) HBW.out HG14.out)
          have HB14 := Lib.hid ((HB12.out.trans (hA.mono HB12.out.size)).grown HG14.out (by simpa using hsz) (fun y hy => (HO13.out.row.lt y hy).1))
          have HON := Lib.hid (show OwnTb 131 w14 w.heap.size v14 (M ++ [yy]) from HO13.out.snoc (row_below HYO.out hA) (by decide) HG14.out (by rw [HX.out, HYC.out]; exact HO14.out))
          have HMN := Lib.hid (show (M ++ [yy]).map TLay.x = s.L ++ [x] by rw [List.map_append, HMM.out, List.map_cons, List.map_nil, HYX.out])
          have HNL := Lib.hid (show (M ++ [yy]).length = k + 1 by rw [List.length_append, HX.out]; rfl)
          clear hA HO12 HO13 HR13 HG14 HO14 HB12 HJ12 HYO c0 c1 c2
          obtain ⟨A6, c6, hu6⟩ := un_slc HON.out.row
          rw [HNL.out] at hu6
          subst hu6
          by_cases h60 : 60 < k + 1
          · have d2 : decide ((60 : Int) < ((k : Int) + 1)) = true := by simp; omega
            have d3 : decide (60 < k + 1) = true := by simpa using h60
            rw [if_pos h60, HX0.out] at HSS
            have HEE := Lib.hid (show E = 3 by rw [HE.out, HFN.out, HED.out (by rw [HSS.out]; rfl), HSS.out]; rfl)
            have HRR := Lib.hid (show R = [] by rw [HL.out, if_neg (by rw [HEE.out]; decide)])
            clear h60
            go_wp2_with fail
            (try rw [Exit.noGoto_ret])
            go_ret2
            exact ⟨_, [], by rw [HEE.out]; rfl, by rw [HRR.out]; rfl, OwnTb.nil _ _ _, HB14.out⟩
          · have d2 : decide ((60 : Int) < ((k : Int) + 1)) = false := by simp; omega
            have d3 : decide (60 < k + 1) = false := by simpa using h60
            rw [if_neg h60] at HSS
            have h60' : k + 1 ≤ 60 := by omega
            clear h60
            go_wp2_with fail
            go_roundg (62 - (k + 1))
            case measure => omega
            case rel => exact ⟨k + 1, s2, M ++ [yy], h60', rfl, HNL, Lib.hid (by rw [HSS.out]; exact HMN.out), Lib.hid (by rw [HSS.out]; exact HX0.out), HFN, HON, Lib.hid (by rw [HSS.out]; exact HC14.out), HB14⟩
    · have d : decide ((s.a : Int) < (N : Int)) = false := by simp; omega
      have d' : decide (s.a < N) = false := by simpa using hq0
      have HFF2 := Lib.hid (show F = s from by rw [HFF.out]; exact runTb_end (by rw [HKE.out]; unfold leftOf; rw [if_pos rfl, HN.out]; omega) _)
      have HEE := Lib.hid (show E = 0 by rw [HE.out, HFF2.out]; exact HKE.out)
      have HLL := Lib.hid (show R = s.L from by rw [HL.out, if_pos HEE.out, HFF2.out])
      generalize s.a = sa at *
      clear HFF HFF2 HKE HE HL
      go_wp2_with fail
      go_ret2
      exact ⟨_, M, by rw [HEE.out]; rfl, by rw [HLL.out]; exact HMM.out, HO.out, HB.out⟩

set_option maxRecDepth 10000 in
set_option maxHeartbeats 3200000 in
theorem rall_addrs {w : World} {A : Option Addr} {sec : List UInt8} {B : Nat} (c : Nat) (hr : Rd w B A sec) (hB : B ≤ w.heap.size) (hc : sec.length ≤ c) (hcm : c ≤ maxLen) (hlen : sec.length ≤ 1000000) :
    Calls Tryd.prog 27 #[.slice A sec.length c, .bool true] w fun r w' => AllTb 131 w (allTbE sec true) (allTbL sec true) r w' := by
  obtain ⟨i1, hj1, hy0, hy1, hy2⟩ := info_parts rtbl_info
  obtain ⟨i2, hk1, hz0, hz1, hz2⟩ := info_parts u64_info
  have HLN := Lib.hid hlen
  have HE := Lib.hid (show allTbE sec true = (finTb sec true).e from rfl)
  have HL := Lib.hid (show allTbL sec true = if allTbE sec true = 0 then (finTb sec true).L else [] from rfl)
  have HF := Lib.hid (show finTb sec true = runTb sec true 61 ⟨0, 0, []⟩ from rfl)
  have hb1 : Below w.heap.size w (w.alloc (.cells #[.slice A sec.length c, .int .i64 0, .int .i64 0] 127)) := (Below.refl _ _).alloc (Nat.le_refl _) _
  have HR1 := Lib.hid (show RR B (w.alloc (.cells #[.slice A sec.length c, .int .i64 0, .int .i64 0] 127)) w.heap.size (.slice A sec.length c) sec 0 0 from
    ⟨Box.new _ _ _, ⟨A, c, rfl, hc, hcm, hr.below (hb1.mono hB)⟩, Nat.zero_le _, hB⟩)
  have HB1 := Lib.hid hb1
  have HBW := Lib.hid hB
  clear hr hB hlen hb1 hc hcm
  generalize allTbE sec true = E at *
  generalize allTbL sec true = R at *
  generalize finTb sec true = F at *
  obtain ⟨N, hN⟩ : ∃ N, sec.length = N := ⟨_, rfl⟩
  have HN := Lib.hid hN
  rw [hN] at HR1 HB1 HLN ⊢
  clear hN
  go_enter Tryd.func27, Tryd.ntmps27
  go_upto_region 3 with fail
  generalize w.alloc (.cells #[.slice A N c, .int .i64 0, .int .i64 0] 127) = w1 at *
  have HGW := Lib.hid (Nat.le_refl w.heap.size)
  generalize hg : w.heap.size = g at HR1 HGW ⊢
  have HGE := Lib.hid hg
  clear hg
  go_loopg [7] 62 (fun gk u wr => ∃ (k : Nat) (s : TAt) (M : List TLay), k ≤ 60 ∧ gk = 62 - k ∧ Hid (M.length = k) ∧ Hid (M.map TLay.x = s.L) ∧ Hid (s.e = 0) ∧ Hid (F = runTb sec true (61 - k) s) ∧ Hid (OwnTb 131 wr w.heap.size u M) ∧ Hid (RR B wr g (.slice A N c) sec s.a 0) ∧ Hid (Below w.heap.size w wr))
  case atStart => exact ⟨0, ⟨0, 0, []⟩, [], Nat.zero_le _, rfl, Lib.hid rfl, Lib.hid rfl, Lib.hid rfl, HF, Lib.hid (OwnTb.nil _ _ _), HR1, HB1⟩
  case round =>
    obtain ⟨k, s, M, hk, rfl, HX, HMM, HKE, HFF, HO, HC, HB⟩ := hrel
    clear HR1 HB1 HF
    have k1 := rr_at HC.out
    have hal : s.a ≤ N := by have := HC.out.2.2.1; rw [HN.out] at this; exact this
    by_cases hq0 : s.a < N
    · have d : decide ((s.a : Int) < (N : Int)) = true := by simp; omega
      have d' : decide (s.a < N) = true := by simpa using hq0
      have HSL := Lib.hid (show s.L.length = k by rw [← HMM.out, List.length_map, HX.out])
      have HSS := Lib.hid (show stepTb sec true s = ⟨bdA sec s.a 0, if 60 < k + 1 then failOf (xTb sec s.a true) 3 else xTb sec s.a true, s.L ++ [tTb sec s.a true]⟩ from by rw [stepTb, HSL.out])
      have HFN := Lib.hid (show F = runTb sec true (61 - (k + 1)) (stepTb sec true s) from by rw [HFF.out, show 61 - k = 61 - (k + 1) + 1 by omega, runTb, if_pos (by rw [HKE.out]; unfold leftOf; rw [if_pos rfl, HN.out]; omega)])
      have HED := Lib.hid (@runTb_end sec true (stepTb sec true s))
      have HBD := Lib.hid (rbody_len HC.out (by rw [HN.out]; exact Nat.le_trans HLN.out (by decide)))
      have hA2 : bdA sec s.a 0 ≤ 1000000 := Nat.le_trans (by have := bdA_to (l := sec) (a := s.a) (e := 0) (by rw [HN.out]; exact hal); rw [HN.out] at this; exact this) HLN.out
      have hbd := bd_len sec s.a 0
      have HBL := Lib.hid (show (bdG sec s.a 0).length ≤ 140737488355328 by omega)
      obtain ⟨ra, rb⟩ := read_tb (bdG sec s.a 0) (bdE sec s.a 0) (szT true (bdW sec s.a 0)) true
      have HRA := Lib.hid ra
      have HRB := Lib.hid rb
      have HXT := Lib.hid (show xTb sec s.a true = xT (bdG sec s.a 0) (bdE sec s.a 0) (szT true (bdW sec s.a 0)) true from rfl)
      have HOK := Lib.hid (@xTb_ok sec s.a true)
      have HT := Lib.hid (show tTb sec s.a true = ⟨bdW sec s.a 0, bdA sec s.a 0 - lT (bdG sec s.a 0) (bdE sec s.a 0) (szT true (bdW sec s.a 0)) true, itemsTb ((bdG sec s.a 0).drop 4) (szT true (bdW sec s.a 0)) (lT (bdG sec s.a 0) (bdE sec s.a 0) (szT true (bdW sec s.a 0)) true / szT true (bdW sec s.a 0))⟩ from rfl)
      have CU := Lib.hid (fun (W : World) (g2 : Nat) (v2 : Value) (s' : UCt) (h : DnB B wr W g (.slice A N c) sec (bdA sec s.a 0, bdE sec s.a 0) g2 v2 (bdG sec s.a 0) s') (ha : DnP B wr g g2) => (ru_un h.u HBL.out 2 2 rfl (by decide)).mono fun r w' (⟨h1, h2, h3⟩ : _ ∧ _ ∧ _) => And.intro h1 (h.call (s' := nU (bdG sec s.a 0) s' 2) ha h2 h3))
      have HH := Lib.hid (show hsTb (bdG sec s.a 0) (bdE sec s.a 0) false = nU (bdG sec s.a 0) (nU (bdG sec s.a 0) (0, bdE sec s.a 0) 2) 2 from rfl)
      have hnp : 4 ≤ szT true (bdW sec s.a 0) ∧ szT true (bdW sec s.a 0) ≤ 8 := by cases bdW sec s.a 0 <;> decide
      have hcl : clampOf (szT true (bdW sec s.a 0) : Int) = szT true (bdW sec s.a 0) := by cases bdW sec s.a 0 <;> rfl
      have HOF := Lib.hid (show szT true (bdW sec s.a 0) = 8 from rfl)
      have HP0 := Lib.hid (show g < wr.heap.size from HC.out.1.lt)
      clear HFF HKE ra rb
      generalize stepTb sec true s = s2 at *
      generalize tTb sec s.a true = x at *
      generalize xTb sec s.a true = xe at *
      generalize hlq : lT (bdG sec s.a 0) (bdE sec s.a 0) (szT true (bdW sec s.a 0)) true = k0 at *
      generalize xT (bdG sec s.a 0) (bdE sec s.a 0) (szT true (bdW sec s.a 0)) true = x' at *
      have hxx := HXT.out
      subst hxx
      generalize szT true (bdW sec s.a 0) = n at *
      generalize bdG sec s.a 0 = G at *
      generalize bdE sec s.a 0 = be at *
      generalize bdA sec s.a 0 = m at *
      generalize bdW sec s.a 0 = bw at *
      generalize s.a = sa at *
      clear hlq HXT
      obtain ⟨A3, c3, hu⟩ := un_slc HO.out.row
      rw [HX.out] at hu
      subst hu
      go_upto_region 5 with (go_at_call 54; refine HBD.out.mono ?_; rintro r w4 ⟨g2, v2, rfl, hM, hC, hG⟩; have HM := Lib.hid hM; have HC4 := Lib.hid hC; have HG4 := Lib.hid hG; clear hM hC hG)
      have HP := Lib.hid (show DnP B wr g g2 from ⟨Nat.le_trans HBW.out HB.out.size, HP0.out, HM.out.2.1⟩)
      have HD4 := Lib.hid (show DnB B wr w4 g (.slice A N c) sec (m, be) g2 v2 G (0, be) from ⟨HC4.out, HM.out.1, HG4.out⟩)
      clear HM HC4 HG4 HBD k1
      go_upto_region 6 with (go_at_call 55; refine (CU.out _ _ _ _ HD4.out HP.out).mono ?_; rintro r w5 ⟨rfl, h⟩; have HD5 := Lib.hid h; clear h)
      go_upto_region 7 with (go_at_call 55; refine (CU.out _ _ _ _ HD5.out HP.out).mono ?_; rintro r w6 ⟨rfl, h⟩; rw [← HH.out] at h; have HD6 := Lib.hid h; clear h)
      clear HD4 HD5 CU
      have k2 := rc_e HD6.out.u
      obtain ⟨x1, hx1⟩ : ∃ n, vU G (0, be) 2 = n := ⟨_, rfl⟩
      obtain ⟨x2, hx2⟩ : ∃ n, vU G (nU G (0, be) 2) 2 = n := ⟨_, rfl⟩
      rw [hx1, hx2] at HRB ⊢
      clear hx1 hx2 HH
      generalize hsTb G be false = z at *
      obtain ⟨za, ze⟩ := z
      simp only at k2 HRA
      have HBE := Lib.hid (HB.out.grown HD6.out.gr HB.out.size (fun y hy => by injection hy with hy; have := HGW.out; have := HGE.out; omega))
      by_cases hze : ze = 0
      rotate_left
      · have q1 : (ze != 0) = true := by simpa using hze
        have hxe := HRA.out hze
        have hs2 : s2.e = xe := by
          rw [HSS.out]
          simp only
          split
          · unfold failOf; rw [if_neg (by rw [hxe]; exact hze)]
          · rfl
        have HEE := Lib.hid (show E = ze by rw [HE.out, HFN.out, HED.out (by unfold leftOf; rw [hs2, if_neg (by rw [hxe]; exact hze)]), hs2]; exact hxe)
        have HRR := Lib.hid (show R = [] by rw [HL.out, if_neg (by rw [HEE.out]; exact hze)])
        clear hze hxe hs2
        go_upto_region 8 with fail
        go_quiet (fail)
        go_wp2_with fail
        (try rw [Exit.noGoto_ret])
        go_ret2
        exact ⟨_, [], by rw [HEE.out]; rfl, by rw [HRR.out]; rfl, OwnTb.nil _ _ _, below_drewN HBE.out _⟩
      subst hze
      have q1 : ((0 : Int) != 0) = false := rfl
      obtain ⟨h1, h2, h3, h4, h5, h6, h7, h8⟩ := HRB.out rfl
      have HFAIL := Lib.hid (fun (h : xe ≠ 0) => (by
        have hs2 : s2.e = xe := by
          rw [HSS.out]
          simp only
          split
          · unfold failOf; rw [if_neg h]
          · rfl
        have hee : E = xe := by rw [HE.out, HFN.out, HED.out (by unfold leftOf; rw [hs2, if_neg h])]; exact hs2
        exact ⟨hee, by rw [HL.out, if_neg (by rw [hee]; exact h)]⟩ : E = xe ∧ R = []))
      injection h3 with h3a _
      subst h1 h3a h4 h5
      have H6 := Lib.hid h6
      have H7 := Lib.hid h7
      have H8 := Lib.hid h8
      have HG4L := Lib.hid h2
      clear h2 h6 h7 h8 HRA HRB
      obtain ⟨b1, hb1⟩ : ∃ b, (leNat (G.take 2) == 5) = b := ⟨_, rfl⟩
      obtain ⟨b2, hb2⟩ : ∃ b, (leNat ((G.drop 2).take 2) == 8) = b := ⟨_, rfl⟩
      have HRG := Lib.hid (show rgTb G true = (b1 && b2) by unfold rgTb; rw [← hb1, ← hb2])
      have p1 : ((leNat (G.take 2) : Int) != 5) = !b1 := by rw [← hb1, bne, Bool.eq_iff_iff]; simp; try omega
      have p2 : ((leNat ((G.drop 2).take 2) : Int) != 8) = !b2 := by rw [← hb2, bne, Bool.eq_iff_iff]; simp; try omega
      clear hb1 hb2
      generalize leNat (G.take 2) = y1 at *
      generalize leNat ((G.drop 2).take 2) = y2 at *
      go_upto_region 14 with fail
      rw [show Value.int .i64 8 = Value.int .i64 (n : Int) by rw [HOF.out]; rfl]
      rcases (by cases b1 <;> cases b2 <;> simp : (b1 = false) ∨ (b1 = true ∧ b2 = false) ∨ (b1 = true ∧ b2 = true)) with rfl | ⟨rfl, rfl⟩ | ⟨rfl, rfl⟩
      · obtain ⟨e1, e2⟩ := HFAIL.out (by rw [H6.out (by rw [HRG.out]; rfl)]; decide)
        have HEE := Lib.hid (show E = 42 by rw [e1]; exact H6.out (by rw [HRG.out]; rfl))
        have HRR := Lib.hid e2
        clear e1 e2
        simp only [Bool.not_false] at p1
        go_wp2_with fail
        (try rw [Exit.noGoto_ret])
        go_ret2
        exact ⟨_, [], by rw [HEE.out]; rfl, by rw [HRR.out]; rfl, OwnTb.nil _ _ _, HBE.out⟩
      · obtain ⟨e1, e2⟩ := HFAIL.out (by rw [H6.out (by rw [HRG.out]; rfl)]; decide)
        have HEE := Lib.hid (show E = 42 by rw [e1]; exact H6.out (by rw [HRG.out]; rfl))
        have HRR := Lib.hid e2
        clear e1 e2
        simp only [Bool.not_true, Bool.not_false] at p1 p2
        go_wp2_with fail
        (try rw [Exit.noGoto_ret])
        go_ret2
        exact ⟨_, [], by rw [HEE.out]; rfl, by rw [HRR.out]; rfl, OwnTb.nil _ _ _, HBE.out⟩
      simp only [Bool.not_true] at p1 p2
      obtain ⟨lf, hlf⟩ : ∃ q, G.length - 4 = q := ⟨_, rfl⟩
      have HLE := Lib.hid hlf
      rw [hlf] at H7 H8
      have HLF := Lib.hid (by
        have := rleft_cur HD6.out.u
        rw [show leftOf G 4 0 = lf by simp [leftOf, hlf]] at this
        exact this : Calls Tryd.prog 57 #[.pointer (some ⟨g2, 0, none⟩)] w6 fun r w' => r = .returned (.int .i64 (lf : Int)) ∧ ∃ n, w' = w6.drewN n)
      have hl47 : lf ≤ m ∧ lf ≤ 1000000 := by omega
      clear hlf
      obtain ⟨md, hmd⟩ : ∃ q, lf % n = q := ⟨_, rfl⟩
      have r1 : ((lf : Int).tmod (n : Int)) = (md : Int) := by rw [rem_natT, hmd]
      have n1 : ((n : Int) == 0) = false := by simp; omega
      have n2 : ¬ ((n : Int) = 0) := by omega
      have n3 : ¬ (n = 0) := by omega
      rw [hmd] at H7 H8
      have HMD := Lib.hid hmd
      clear hmd
      go_upto_if 58 with (go_at_call 57; refine HLF.out.mono ?_; rintro r w7 ⟨rfl, nq, rfl⟩)
      by_cases hm0 : md = 0
      rotate_left
      · have q2 : decide ((0 : Int) < (md : Int)) = true := by simp; omega
        have q3 : decide (0 < md) = true := by simp; omega
        have q4 : 0 < md := by omega
        obtain ⟨e1, e2⟩ := HFAIL.out (by rw [H7.out (by rw [HRG.out]; rfl) hm0]; decide)
        have HEE := Lib.hid (show E = 10 by rw [e1]; exact H7.out (by rw [HRG.out]; rfl) hm0)
        have HRR := Lib.hid e2
        clear e1 e2 hm0
        go_wp2_with fail
        (try rw [Exit.noGoto_ret])
        go_ret2
        exact ⟨_, [], by rw [HEE.out]; rfl, by rw [HRR.out]; rfl, OwnTb.nil _ _ _, below_drewN HBE.out _⟩
      have q2 : decide ((0 : Int) < (md : Int)) = false := by simp; omega
      have q3 : decide (0 < md) = false := by simp; omega
      have q4 : ¬ 0 < md := by omega
      obtain ⟨hx0, hk0⟩ := H8.out (by rw [HRG.out]; rfl) hm0
      have HX0 := Lib.hid hx0
      subst hk0 hm0
      clear hx0 H6 H7 H8 HFAIL HRG HLF r1
      have HD8 := Lib.hid (HD6.out.drewN nq)
      have HBE8 := Lib.hid (below_drewN HBE.out nq)
      clear HD6 HBE k2
      go_upto_region 18 with fail
      generalize w6.drewN nq = w8 at *
      have HLF := Lib.hid (fun (W : World) (hW : Below w8.heap.size w8 W) => (by
        have := rleft_cur (HD8.out.below hW).u
        rw [show leftOf G 4 0 = k0 by simp [leftOf, HLE.out]] at this
        exact this : Calls Tryd.prog 57 #[.pointer (some ⟨g2, 0, none⟩)] W fun r w' => r = .returned (.int .i64 (k0 : Int)) ∧ ∃ n, w' = W.drewN n))
      have KS := Lib.hid (fun (W : World) (hW : Below w8.heap.size w8 W) => rr_at (HD8.out.below hW).c)
      have HG8 := Lib.hid (show g < w8.heap.size from HD8.out.c.1.lt)
      have KZ := Lib.hid (fun (W : World) (i : Nat) (u : Value) (hW : W.cell? ⟨g, 1, none⟩ = some (.int .i64 (m : Int))) => (by
        rw [World.cell?_setCell_other _ _ _ _ (by intro e; injection e with e; have := HG8.out; omega)]
        exact hW : (W.setCell ⟨w8.heap.size, i, none⟩ u).cell? ⟨g, 1, none⟩ = some (.int .i64 (m : Int))))
      have d1 : IntKind.i64.wrap ((m : Int) - (k0 : Int)) = ((m - k0 : Nat) : Int) := by rw [IntWalk.i64_in _ (by omega)]; omega
      have d2 : IntKind.u64.wrap ((m - k0 : Nat) : Int) = ((m - k0 : Nat) : Int) := by rw [IntWalk.u64_in _ (by omega)]
      go_cut [14] (fun u14 wx => u14 = .pointer (some ⟨w8.heap.size, 0, none⟩) ∧ Hid (DnX B wr wx g (.slice A N c) sec (m, 0) g2 v2 G (4, 0) w8.heap.size (.bool bw) (.int .u64 ((m - k0 : Nat) : Int)) (.slice none 0 0) []))
      case first =>
        refine wp_region_held_drew (S := fun W => W.cell? ⟨g, 1, none⟩ = some (.int .i64 (m : Int))) (by kernel_rfl) ?_ (fun hHeld => ?_)
        · exact KS.out _ (below_drewN (Below.refl _ _) 1)
        refine take_r (i := 0) (v := ?_) rfl (by kernel_rfl) (by kernel_rfl) (by kernel_rfl) (fun _ _ _ h => h) (Or.inl ⟨by rfl, ?_⟩) hHeld ?_
        rotate_left
        · (intro wS hSw; (try dsimp only at hSw); go_simp; (try with_reducible rfl))
        try simp only [Act.put, List.setIfInBounds_toArray, List.set_cons_zero, List.set_cons_succ]
        refine take_r (i := 1) (v := ?_) rfl (by kernel_rfl) (by kernel_rfl) (by kernel_rfl) (fun _ _ _ h => h) (Or.inl ⟨by rfl, ?_⟩) hHeld ?_
        rotate_left
        · (intro wS hSw; (try dsimp only at hSw); go_simp; (try with_reducible rfl))
        try simp only [Act.put, List.setIfInBounds_toArray, List.set_cons_zero, List.set_cons_succ]
        refine take_r (i := 2) (v := ?_) rfl (by kernel_rfl) (by kernel_rfl) (by kernel_rfl) (fun _ _ _ h => h) (Or.inl ⟨by rfl, ?_⟩) hHeld ?_
        rotate_left
        · (intro wS hSw; (try dsimp only at hSw); go_simp; (try with_reducible rfl))
        try simp only [Act.put, List.setIfInBounds_toArray, List.set_cons_zero, List.set_cons_succ]
        refine take_r (i := 3) (v := ?_) rfl (by kernel_rfl) (by kernel_rfl) (by kernel_rfl) (fun _ _ _ h => h) (Or.inl ⟨by rfl, ?_⟩) hHeld ?_
        rotate_left
        · (intro wS hSw; (try dsimp only at hSw); go_simp; (try with_reducible rfl))
        try simp only [Act.put, List.setIfInBounds_toArray, List.set_cons_zero, List.set_cons_succ]
        refine take_r (i := 4) (v := ?_) rfl (by kernel_rfl) (by kernel_rfl) (by kernel_rfl) (fun _ _ _ h => h) (Or.inl ⟨by rfl, ?_⟩) hHeld ?_
        rotate_left
        · (intro wS hSw; (try dsimp only at hSw); go_simp; (try with_reducible rfl))
        try simp only [Act.put, List.setIfInBounds_toArray, List.set_cons_zero, List.set_cons_succ]
        refine take_r (i := 5) (v := ?_) rfl (by kernel_rfl) (by kernel_rfl) (by kernel_rfl) (fun _ _ _ h => h) (Or.inl ⟨by rfl, ?_⟩) hHeld ?_
        rotate_left
        · (intro wS hSw; (try dsimp only at hSw); go_simp; (try with_reducible rfl))
        try simp only [Act.put, List.setIfInBounds_toArray, List.set_cons_zero, List.set_cons_succ]
        refine wpAnyH_ready (rs := [6, 10]) (by kernel_rfl) (by simp) ?_
        refine ready_2 rfl rfl (fun K hK => ?_) (fun K hK => ?_)
        · -- Left first
          go_simp
          go_wp2_with (go_at_call 57; refine (HLF.out _ (below_drewN (Below.refl _ _) 1)).mono ?_; rintro r w9 ⟨rfl, nq2, rfl⟩)
          refine hK.out _ _ ?_ (fun hNew => ?_)
          · exact KS.out _ (below_drewN (Below.refl _ _) (1 + nq2))
          clear hHeld hK K
          have hHeld := hNew
          clear hNew
          refine take_r (i := 7) (v := ?_) rfl (by kernel_rfl) (by kernel_rfl) (by kernel_rfl) (fun _ _ _ h => h) (Or.inl ⟨by rfl, ?_⟩) hHeld ?_
          rotate_left
          · (intro wS hSw; (try dsimp only at hSw); go_simp; (try with_reducible rfl))
          try simp only [Act.put, List.setIfInBounds_toArray, List.set_cons_zero, List.set_cons_succ]
          refine take_r (i := 8) (v := ?_) rfl (by kernel_rfl) (by kernel_rfl) (by kernel_rfl) (fun _ _ _ h => h) (Or.inl ⟨by rfl, ?_⟩) hHeld ?_
          rotate_left
          · (intro wS hSw; (try dsimp only at hSw); go_simp; (try with_reducible rfl))
          try simp only [Act.put, List.setIfInBounds_toArray, List.set_cons_zero, List.set_cons_succ]
          refine take_r (i := 9) (v := ?_) rfl (by kernel_rfl) (by kernel_rfl) (by kernel_rfl) (fun _ _ _ h => h) (Or.inl ⟨by rfl, ?_⟩) hHeld ?_
          rotate_left
          · (intro wS hSw; (try dsimp only at hSw); go_simp; (try with_reducible rfl))
          try simp only [Act.put, List.setIfInBounds_toArray, List.set_cons_zero, List.set_cons_succ]
          have hx := Box.new (w8.drewN (1 + nq2)) 131 #[.bool false, .int .u64 0, .slice none 0 0]
          have hbx : Below w8.heap.size w8 ((w8.drewN (1 + nq2)).alloc (.cells #[.bool false, .int .u64 0, .slice none 0 0] 131)) := (below_drewN (Below.refl _ _) _).alloc (by simp) _
          refine wpAnyH_ready (rs := [10]) (by kernel_rfl) (by simp) ?_
          refine ready_r rfl (fun K hK => ?_)
          go_simp
          go_wp2_with (fail)
          refine hK.out _ _ ?_ (fun hNew => ?_)
          · exact KS.out _ hbx
          clear hHeld hK K
          have hHeld := hNew
          clear hNew
          rw [show (w8.drewN (1 + nq2)).heap.size = w8.heap.size from rfl] at hx
          obtain ⟨z0, z1, z2⟩ := three_cellsT hx
          obtain ⟨f0, f1, f2⟩ := three_freeT hx
          have HDX := Lib.hid (DnX.made HD8.out hbx hx (.bool bw) (.int .u64 ((m - k0 : Nat) : Int)))
          refine wpAnyH_ready (rs := [11]) (by kernel_rfl) (by simp) ?_
          refine ready_r rfl (fun K hK => ?_)
          go_simp
          go_wp2_with (fail)
          refine hK.out _ _ ?_ (fun hNew => ?_)
          · exact KZ.out _ _ _ (KZ.out _ _ _ (KZ.out _ _ _ (KS.out _ hbx)))
          clear hHeld hK K
          have hHeld := hNew
          clear hNew
          refine wpAnyH_done (by kernel_rfl) ?_ _
          go_wp2_with fail
          go_meet
          exact ⟨rfl, HDX⟩
        · -- alloc first
          have hx := Box.new (w8.drewN 1) 131 #[.bool false, .int .u64 0, .slice none 0 0]
          have hbx : Below w8.heap.size w8 ((w8.drewN 1).alloc (.cells #[.bool false, .int .u64 0, .slice none 0 0] 131)) := (below_drewN (Below.refl _ _) _).alloc (by simp) _
          rw [show (w8.drewN 1).heap.size = w8.heap.size from rfl] at hx
          go_simp
          go_wp2_with fail
          refine hK.out _ _ ?_ (fun hNew => ?_)
          · exact KS.out _ hbx
          clear hHeld hK K
          have hHeld := hNew
          clear hNew
          refine wpAnyH_ready (rs := [6]) (by kernel_rfl) (by simp) ?_
          refine ready_r rfl (fun K hK => ?_)
          go_simp
          go_wp2_with (go_at_call 57; refine (HLF.out _ hbx).mono ?_; rintro r w9 ⟨rfl, nq2, rfl⟩; have hx3 := hx.drewN nq2; have hbx3 := below_drewN hbx nq2)
          refine hK.out _ _ ?_ (fun hNew => ?_)
          · exact KS.out _ hbx3
          clear hHeld hK K
          have hHeld := hNew
          clear hNew
          obtain ⟨z0, z1, z2⟩ := three_cellsT hx3
          obtain ⟨f0, f1, f2⟩ := three_freeT hx3
          have HDX := Lib.hid (DnX.made HD8.out hbx3 hx3 (.bool bw) (.int .u64 ((m - k0 : Nat) : Int)))
          refine take_r (i := 7) (v := ?_) rfl (by kernel_rfl) (by kernel_rfl) (by kernel_rfl) (fun _ _ _ h => h) (Or.inl ⟨by rfl, ?_⟩) hHeld ?_
          rotate_left
          · (intro wS hSw; (try dsimp only at hSw); go_simp; (try with_reducible rfl))
          try simp only [Act.put, List.setIfInBounds_toArray, List.set_cons_zero, List.set_cons_succ]
          refine take_r (i := 8) (v := ?_) rfl (by kernel_rfl) (by kernel_rfl) (by kernel_rfl) (fun _ _ _ h => h) (Or.inl ⟨by rfl, ?_⟩) hHeld ?_
          rotate_left
          · (intro wS hSw; (try dsimp only at hSw); go_simp; (try with_reducible rfl))
          try simp only [Act.put, List.setIfInBounds_toArray, List.set_cons_zero, List.set_cons_succ]
          refine take_r (i := 9) (v := ?_) rfl (by kernel_rfl) (by kernel_rfl) (by kernel_rfl) (fun _ _ _ h => h) (Or.inl ⟨by rfl, ?_⟩) hHeld ?_
          rotate_left
          · (intro wS hSw; (try dsimp only at hSw); go_simp; (try with_reducible rfl))
          try simp only [Act.put, List.setIfInBounds_toArray, List.set_cons_zero, List.set_cons_succ]
          refine wpAnyH_ready (rs := [11]) (by kernel_rfl) (by simp) ?_
          refine ready_r rfl (fun K hK => ?_)
          go_simp
          go_wp2_with (fail)
          refine hK.out _ _ ?_ (fun hNew => ?_)
          · exact KZ.out _ _ _ (KZ.out _ _ _ (KZ.out _ _ _ (KS.out _ hbx3)))
          clear hHeld hK K
          have hHeld := hNew
          clear hNew
          refine wpAnyH_done (by kernel_rfl) ?_ _
          go_wp2_with fail
          go_meet
          exact ⟨rfl, HDX⟩
      case rest =>
      obtain ⟨rfl, HDX⟩ := hcut
      clear HLF KS KZ d1 d2
      generalize wc = w10 at *
      have HBJ := Lib.hid (show w.heap.size ≤ wr.heap.size from HB.out.size)
      have HXG := Lib.hid (show wr.heap.size ≤ w8.heap.size from HD8.out.gr.size)
      obtain ⟨q, hq⟩ : ∃ q, k0 / n = q := ⟨_, rfl⟩
      have hqn : q * n = k0 := by rw [← hq]; exact Nat.div_mul_cancel (Nat.dvd_of_mod_eq_zero HMD.out)
      have HQN := Lib.hid hqn
      rw [hq] at HT
      have hq4 : q * 4 ≤ k0 := by
        have h2 : q * 4 ≤ q * n := Nat.mul_le_mul_left q hnp.1
        omega
      clear hq hqn HD8 HMD HG8 n1 n2 n3 q2 q3 q4 p1 p2
      generalize w8.heap.size = X at *
      generalize wr = wj at *
      go_upto_region 19 with fail
      go_loopg [] q (fun gk wr => ∃ (j : Nat) (u : Value), j ≤ q ∧ gk = q - j ∧ Hid (DnX B wj wr g (.slice A N c) sec (m, 0) g2 v2 G (4 + j * n, 0) X (.bool bw) (.int .u64 ((m - k0 : Nat) : Int)) u (itemsTb (G.drop 4) n j)))
      case atStart => exact ⟨0, _, Nat.zero_le _, rfl, Lib.hid (by rw [Nat.zero_mul]; exact HDX.out)⟩
      case round =>
        obtain ⟨j, u, hjq, rfl, HJ⟩ := hrel
        clear HDX
        obtain ⟨lj, hlj⟩ : ∃ q, leftOf G (4 + j * n) 0 = q := ⟨_, rfl⟩
        have HLF := Lib.hid (by
          have := rleft_cur HJ.out.d.u
          rw [hlj] at this
          exact this : Calls Tryd.prog 57 #[.pointer (some ⟨g2, 0, none⟩)] wr fun r w' => r = .returned (.int .i64 (lj : Int)) ∧ ∃ n, w' = wr.drewN n)
        have hlj2 : lj = k0 - j * n := by
          have := HLE.out
          rw [← hlj]
          simp only [leftOf, if_pos]
          omega
        clear hlj
        by_cases hlt : j < q
        · have HLT := Lib.hid hlt
          have hjn : (j + 1) * n ≤ q * n := Nat.mul_le_mul_right n hlt
          rw [Nat.add_mul, Nat.one_mul] at hjn
          have d : decide ((0 : Int) < (lj : Int)) = true := by have := HQN.out; simp; omega
          have d' : decide (0 < lj) = true := by have := HQN.out; simp; omega
          have dp : 0 < lj := by have := HQN.out; omega
          obtain ⟨u1, u2⟩ := item_tb (G := G) (n := n) hlt (by rw [HQN.out, HLE.out]; exact Nat.le_refl _)
          have HNX := Lib.hid (itemsTb_succ (G.drop 4) n j)
          have HIL := Lib.hid (itemsTb_len (G.drop 4) n j)
          have HU := Lib.hid (fun (W : World) (h : DnX B wj W g (.slice A N c) sec (m, 0) g2 v2 G (4 + j * n, 0) X (.bool bw) (.int .u64 ((m - k0 : Nat) : Int)) u (itemsTb (G.drop 4) n j)) => (by
            have := ru_un h.d.u HBL.out (n : Int) n hcl (by omega)
            rw [u1, u2] at this
            exact this.mono fun r w' ⟨t1, t2, t3⟩ => ⟨t1, h.call HP.out (s' := (4 + (j + 1) * n, 0)) t2 t3, t3⟩ : Calls Tryd.prog 55 #[.pointer (some ⟨g2, 0, none⟩), .int .i64 (n : Int)] W fun r w' => r = .returned (.int .u64 (leNat (((G.drop 4).drop (j * n)).take n) : Int)) ∧ DnX B wj w' g (.slice A N c) sec (m, 0) g2 v2 G (4 + (j + 1) * n, 0) X (.bool bw) (.int .u64 ((m - k0 : Nat) : Int)) u (itemsTb (G.drop 4) n j) ∧ W.grownBy w' (some g2)))
          clear u1 u2 hlt hjn hlj2
          generalize leNat (((G.drop 4).drop (j * n)).take n) = y at *
          obtain ⟨Au, cu, huu⟩ := un_slc HJ.out.o
          rw [HIL.out] at huu
          subst huu
          go_upto_region 20 with (go_at_call 57; refine HLF.out.mono ?_; rintro r w11 ⟨rfl, nq3, rfl⟩)
          have HJ12 := Lib.hid (HJ.out.drewN nq3)
          clear HJ HLF d d' dp
          generalize wr.drewN nq3 = w12 at *
          have KS := Lib.hid (fun (W : World) (s' : UCt) (h : DnX B wj W g (.slice A N c) sec (m, 0) g2 v2 G s' X (.bool bw) (.int .u64 ((m - k0 : Nat) : Int)) (.slice Au j cu) (itemsTb (G.drop 4) n j)) => (three_cellsT h.x).2.2)
          have h63 : j + 1 ≤ maxLen := by have := HLT.out; unfold maxLen; omega
          have hby : (j + 1) * 8 ≤ 140737488355328 := by have := HLT.out; omega
          refine region_any (by kernel_rfl) ?_
          refine wpAny_of_until (S := fun W => W.cell? ⟨X, 2, none⟩ = some (.slice Au j cu)) (p := 8) _ _ _ _ ?_
          have hHeld := KS.out _ _ (HJ12.out.drewN 1)
          refine take_u (i := 0) (v := ?_) [1, 6, 8] rfl (by kernel_rfl) (by kernel_rfl) (by kernel_rfl) (by kernel_rfl) (by kernel_rfl) (by kernel_rfl) (by kernel_rfl) (fun _ _ _ h => h) (Or.inl ⟨by rfl, ?_⟩) hHeld ?_
          rotate_left
          · (intro wS hSw; (try dsimp only at hSw); go_simp; (try with_reducible rfl))
          try simp only [Act.put, List.setIfInBounds_toArray, List.set_cons_zero, List.set_cons_succ]
          refine take_u (i := 1) (v := ?_) [6, 8] rfl (by kernel_rfl) (by kernel_rfl) (by kernel_rfl) (by kernel_rfl) (by kernel_rfl) (by kernel_rfl) (by kernel_rfl) (fun _ _ _ h => h) (Or.inl ⟨by rfl, ?_⟩) hHeld ?_
          rotate_left
          · (intro wS hSw; (try dsimp only at hSw); go_simp; (try with_reducible rfl))
          try simp only [Act.put, List.setIfInBounds_toArray, List.set_cons_zero, List.set_cons_succ]
          refine take_u (i := 2) (v := ?_) [4, 5, 6, 8] rfl (by kernel_rfl) (by kernel_rfl) (by kernel_rfl) (by kernel_rfl) (by kernel_rfl) (by kernel_rfl) (by kernel_rfl) (fun _ _ _ h => h) (Or.inl ⟨by rfl, ?_⟩) hHeld ?_
          rotate_left
          · (intro wS hSw; (try dsimp only at hSw); go_simp; (try with_reducible rfl))
          try simp only [Act.put, List.setIfInBounds_toArray, List.set_cons_zero, List.set_cons_succ]
          refine take_u (i := 3) (v := ?_) [4, 5, 6, 8] rfl (by kernel_rfl) (by kernel_rfl) (by kernel_rfl) (by kernel_rfl) (by kernel_rfl) (by kernel_rfl) (by kernel_rfl) (fun _ _ _ h => h) (Or.inl ⟨by rfl, ?_⟩) hHeld ?_
          rotate_left
          · (intro wS hSw; (try dsimp only at hSw); go_simp; (try with_reducible rfl))
          try simp only [Act.put, List.setIfInBounds_toArray, List.set_cons_zero, List.set_cons_succ]
          refine ready_u (i := 4) (by kernel_rfl) rfl (by kernel_rfl) (fun K hK => ?_)
          go_simp
          go_wp2_with (go_at_call 55; refine (HU.out _ (HJ12.out.drewN 1)).mono ?_; rintro r w13 ⟨rfl, hJ, hG⟩; have HJ13 := Lib.hid hJ; clear hJ hG)
          refine hK.out _ _ ?_ (fun hNew => ?_)
          · exact KS.out _ _ HJ13.out
          clear hHeld hK K
          have hHeld := hNew
          clear hNew
          have hA13 : Below w13.heap.size w13 (w13.alloc (.cells #[.int .u64 (y : Int)] 41)) := (Below.refl _ _).alloc (Nat.le_refl _) _
          have HJ14 := Lib.hid (HJ13.out.below hA13)
          have HO14 := Lib.hid (show (w13.alloc (.cells #[.int .u64 (y : Int)] 41)).ownsRow wj.heap.size 41 1 (.slice Au j cu) j (placeV (itemsTb (G.drop 4) n j)) from by have := HJ14.out.o; rwa [OwnU, HIL.out] at this)
          have hsz : wj.heap.size ≤ (w13.alloc (.cells #[.int .u64 (y : Int)] 41)).heap.size := HJ14.out.d.gr.size
          refine ready_u (i := 5) (by kernel_rfl) rfl (by kernel_rfl) (fun K hK => ?_)
          go_simp
          go_wp2_with (fail)
          refine hK.out _ _ ?_ (fun hNew => ?_)
          · exact KS.out _ _ HJ14.out
          clear hHeld hK K
          have hHeld := hNew
          clear hNew
          refine ready_u (i := 6) (by kernel_rfl) rfl (by kernel_rfl) (fun K hK => ?_)
          refine step_append_lies _ (by rfl) (.tmp 73) (.tmp 77) _ (by rfl) wj.heap.size 41 i2 _ 1 8 Tryd.underlying28 hk1 hz0 hz1 hz2 (by rfl) (by decide) (.slice Au j cu) j (placeV (itemsTb (G.drop 4) n j)) (by rfl) (by exact HO14.out) ⟨w13.heap.size, 0, none⟩ 1 1 [.int .u64 (y : Int)] (by rfl) rfl (fun j u h => cells_newU w13 [.int .u64 (y : Int)] 41 j u h) (by simp [Value.oneCell']) (by decide) h63 hby (by exact hsz) _ rfl ?_; intro g15 cap15 w15 hown15 hg15 hat15 hlt15; obtain ⟨hd15, hx15, ho15⟩ := HJ14.out.more HP.out hg15 (its' := itemsTb (G.drop 4) n (j + 1)) (by rw [OwnU, HNX.out, placeV_append, List.length_append, HIL.out]; exact hown15); have HJ16 := Lib.hid (DnX.stored hd15 HP.out hx15 HXG.out ho15); have z15 := (three_cellsT hx15).2.2; have f15 := (three_freeT hx15).2.2; clear hown15 hg15 hat15 hlt15 hd15 ho15
          try simp only [Act.put, List.setIfInBounds_toArray, List.set_cons_zero, List.set_cons_succ]
          refine hK.out _ _ ?_ (fun hNew => ?_)
          · exact z15
          clear hHeld hK K
          have hHeld := hNew
          clear hNew
          refine ready_u (i := 7) (by kernel_rfl) rfl (by kernel_rfl) (fun K hK => ?_)
          go_simp
          go_wp2_with (fail)
          refine hK.out _ _ ?_ (fun hNew => ?_)
          · exact hHeld
          clear hHeld hK K
          have hHeld := hNew
          clear hNew
          refine end_u (by kernel_rfl) rfl (fun K hK => ?_)
          go_simp
          refine hK.out _ _ ?_
          clear hHeld hK K
          refine wpAny_of_held (S := fun _ => True) _ _ _ _ ?_
          refine wpAnyH_done (by kernel_rfl) ?_ _
          go_wp2_with fail
          go_roundg (q - (j + 1))
          case measure => have := HLT.out; omega
          case rel => exact ⟨j + 1, _, HLT.out, rfl, HJ16⟩
        · have hjq2 : j = q := by omega
          subst hjq2
          have hl0 : lj = 0 := by have := HQN.out; omega
          subst hl0
          have HXX := Lib.hid (show x = ⟨bw, m - k0, itemsTb (G.drop 4) n j⟩ from HT.out)
          obtain ⟨Au, cu, huu⟩ := un_slc HJ.out.o
          rw [itemsTb_len] at huu
          subst huu
          have HOT := Lib.hid (HO.out.far HJ.out.d.gr HC.out.1 (by decide) (by decide))
          have HBT := Lib.hid (HB.out.grown HJ.out.d.gr HB.out.size (fun y hy => by injection hy with hy; have := HGW.out; have := HGE.out; omega))
          have HIL := Lib.hid (itemsTb_len (G.drop 4) n j)
          clear HO HT hlj2 HC HB
          generalize itemsTb (G.drop 4) n j = its at *
          go_upto_region 21 with (go_at_call 57; refine HLF.out.mono ?_; rintro r w11 ⟨rfl, nq3, rfl⟩)
          have HJ12 := Lib.hid (HJ.out.drewN nq3)
          have HO12 := Lib.hid (show OwnTb 131 (wr.drewN nq3) w.heap.size (.slice A3 k c3) M from ⟨HOT.out.row, HOT.out.its⟩)
          have HB12 := Lib.hid (below_drewN HBT.out nq3)
          clear HJ HLF HOT HBT
          generalize wr.drewN nq3 = w12 at *
          obtain ⟨c0, c1, c2⟩ := three_cellsT HJ12.out.x
          obtain ⟨yy, hyy⟩ : ∃ yy : TLay, yy = ⟨x, Au, cu⟩ := ⟨_, rfl⟩
          have HYC := Lib.hid (show yy.cells = [.bool bw, .int .u64 ((m - k0 : Nat) : Int), .slice Au j cu] by rw [hyy]; show [_, _, _] = _; rw [HXX.out, ← HIL.out])
          have HYX := Lib.hid (show yy.x = x by rw [hyy])
          have HYO := Lib.hid (show OwnU w12 w.heap.size (.slice yy.a yy.x.items.length yy.c) yy.x.items by rw [hyy]; show OwnU _ _ (.slice Au x.items.length cu) x.items; rw [HXX.out]; show OwnU _ _ (.slice Au its.length cu) its; rw [HIL.out]; exact row_base HJ12.out.o (Nat.le_trans (Nat.le_of_eq rfl) HBJ.out))
          have hA : Below w12.heap.size w12 (w12.alloc (.cells #[.bool bw, .int .u64 ((m - k0 : Nat) : Int), .slice Au j cu] 131)) := (Below.refl _ _).alloc (Nat.le_refl _) _
          have HO13 := Lib.hid (HO12.out.below hA)
          have HR13 := Lib.hid HO13.out.row
          rw [HX.out] at HR13
          have hmx : k + 1 ≤ maxLen := by unfold maxLen; omega
          have hby : (k + 1) * 40 ≤ 140737488355328 := by omega
          have hsz : w.heap.size ≤ w12.heap.size + 1 := by have := HB12.out.size; omega
          clear hyy
          go_upto_region 22 with (at_builtin; refine wpList_append_own_at _ (by rfl) (.tmp 80) (.tmp 82) _ (by rfl) w.heap.size 131 i1 _ 3 40 Tryd.underlying69 hj1 hy0 hy1 hy2 rfl (by decide) _ k (cellsF TLay.cells M) (by rfl) HR13.out ⟨w12.heap.size, 0, none⟩ 1 1 [.bool bw, .int .u64 ((m - k0 : Nat) : Int), .slice Au j cu] (by rfl) rfl (fun j' u h => cells_newU w12 [.bool bw, .int .u64 ((m - k0 : Nat) : Int), .slice Au j cu] _ j' u h) (by rw [← HYC.out]; exact tbl_one _) hmx hby (by simpa using hsz) ?_; intro v14 w14 hown14 hg14 hn14 hat14; clear hn14 hat14; have HO14 := Lib.hid hown14; have HG14 := Lib.hid hg14; clear hown14 hg14)
          have HC14 := Lib.hid (un_rr (HJ12.out.d.below hA).c HO13.out.row (by decide) HBW.out HG14.out)
          have HB14 := Lib.hid ((HB12.out.trans (hA.mono HB12.out.size)).grown HG14.out (by simpa using hsz) (fun y hy => (HO13.out.row.lt y hy).1))
          have HON := Lib.hid (show OwnTb 131 w14 w.heap.size v14 (M ++ [yy]) from HO13.out.snoc (row_below HYO.out hA) (by decide) HG14.out (by rw [HX.out, HYC.out]; exact HO14.out))
          have HMN := Lib.hid (show (M ++ [yy]).map TLay.x = s.L ++ [x] by rw [List.map_append, HMM.out, List.map_cons, List.map_nil, HYX.out])
          have HNL := Lib.hid (show (M ++ [yy]).length = k + 1 by rw [List.length_append, HX.out]; rfl)
          clear hA HO12 HO13 HR13 HG14 HO14 HB12 HJ12 HYO c0 c1 c2
          obtain ⟨A6, c6, hu6⟩ := un_slc HON.out.row
          rw [HNL.out] at hu6
          subst hu6
          by_cases h60 : 60 < k + 1
          · have d2 : decide ((60 : Int) < ((k : Int) + 1)) = true := by simp; omega
            have d3 : decide (60 < k + 1) = true := by simpa using h60
            rw [if_pos h60, HX0.out] at HSS
            have HEE := Lib.hid (show E = 3 by rw [HE.out, HFN.out, HED.out (by rw [HSS.out]; rfl), HSS.out]; rfl)
            have HRR := Lib.hid (show R = [] by rw [HL.out, if_neg (by rw [HEE.out]; decide)])
            clear h60
            go_wp2_with fail
            (try rw [Exit.noGoto_ret])
            go_ret2
            exact ⟨_, [], by rw [HEE.out]; rfl, by rw [HRR.out]; rfl, OwnTb.nil _ _ _, HB14.out⟩
          · have d2 : decide ((60 : Int) < ((k : Int) + 1)) = false := by simp; omega
            have d3 : decide (60 < k + 1) = false := by simpa using h60
            rw [if_neg h60] at HSS
            have h60' : k + 1 ≤ 60 := by omega
            clear h60
            go_wp2_with fail
            go_roundg (62 - (k + 1))
            case measure => omega
            case rel => exact ⟨k + 1, s2, M ++ [yy], h60', rfl, HNL, Lib.hid (by rw [HSS.out]; exact HMN.out), Lib.hid (by rw [HSS.out]; exact HX0.out), HFN, HON, Lib.hid (by rw [HSS.out]; exact HC14.out), HB14⟩
    · have d : decide ((s.a : Int) < (N : Int)) = false := by simp; omega
      have d' : decide (s.a < N) = false := by simpa using hq0
      have HFF2 := Lib.hid (show F = s from by rw [HFF.out]; exact runTb_end (by rw [HKE.out]; unfold leftOf; rw [if_pos rfl, HN.out]; omega) _)
      have HEE := Lib.hid (show E = 0 by rw [HE.out, HFF2.out]; exact HKE.out)
      have HLL := Lib.hid (show R = s.L from by rw [HL.out, if_pos HEE.out, HFF2.out])
      generalize s.a = sa at *
      clear HFF HFF2 HKE HE HL
      go_wp2_with fail
      go_ret2
      exact ⟨_, M, by rw [HEE.out]; rfl, by rw [HLL.out]; exact HMM.out, HO.out, HB.out⟩

end Go.Proofs.YtpmpgfngogdfhaaDoor
