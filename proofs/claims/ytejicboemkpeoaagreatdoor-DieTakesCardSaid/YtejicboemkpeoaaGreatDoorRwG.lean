/-
  The document's Take of values.
-/
import Derived.Test.YtejicboemkpeoaaGreatDoorDiC
import Derived.Test.YtejicboemkpeoaaGreatDoorLnF
import Derived.Test.YtejicboemkpeoaaGreatDoorUnE
import Derived.Test.YtejicboemkpeoaaGreatDoorRwM
namespace Go.Proofs.YtejicboemkpeoaaGreatDoor
open Go Go.RowKit

/-! ### Behind the root's end -/
theorem tB_at {l : List UInt8} {s : CSt} (h0 : s.2 = 0) (h : s.1 < l.length) : tB l s = (l[s.1]'h).toNat ∧ sB l s = (s.1 + 1, 0) := by
  have hc : s.2 = 0 ∧ 1 ≤ l.length - s.1 := ⟨h0, by omega⟩
  constructor
  · unfold tB nextGot
    rw [if_pos hc]
    rw [show (l.drop s.1).take 1 = [l[s.1]'h] by rw [List.drop_eq_getElem_cons h]; rfl]
    simp [leNat]
  · unfold sB nextAt nextErr
    rw [if_pos hc, if_pos h0, if_pos hc.2]
theorem zeroE_next {l : List UInt8} {s : CSt} (h0 : s.2 = 0) (h : s.1 < l.length) (hz : tB l s = 0) : zeroE l (sB l s) = zeroE l s := by
  obtain ⟨h1, h2⟩ := tB_at h0 h
  rw [h2]
  unfold zeroE
  have : (l[s.1]'h == 0) = true := by
    rw [h1] at hz
    rw [beq_iff_eq]
    exact UInt8.toNat_inj.1 hz
  simp only [h0, ne_eq, not_true_eq_false, if_false]
  rw [List.drop_eq_getElem_cons h, List.all_cons, this, Bool.true_and]
theorem zeroE_bad {l : List UInt8} {s : CSt} (h0 : s.2 = 0) (h : s.1 < l.length) (hz : tB l s ≠ 0) : zeroE l s = 43 := by
  obtain ⟨h1, h2⟩ := tB_at h0 h
  unfold zeroE
  rw [if_neg (by rw [h0]; simp), List.drop_eq_getElem_cons h, List.all_cons]
  have : (l[s.1]'h == 0) = false := by
    rw [beq_eq_false_iff_ne]
    intro e
    exact hz (by rw [h1, e]; rfl)
  rw [this, Bool.false_and]
  rfl
theorem zeroE_err {l : List UInt8} {s : CSt} (h : s.2 ≠ 0) : zeroE l s = s.2 := if_pos h
theorem zeroE_end {l : List UInt8} {s : CSt} (h0 : s.2 = 0) (h : l.length ≤ s.1) : zeroE l s = 0 := by
  unfold zeroE
  rw [if_neg (by rw [h0]; simp), List.drop_eq_nil_of_le h]
  rfl

set_option maxRecDepth 10000 in
set_option maxHeartbeats 1600000 in
theorem zeros_any {w : World} {g : Nat} {v : Value} {l : List UInt8} {s : CSt} (h : CT w g v l s) (hlen : l.length ≤ 140737488355328) :
    Calls Tryz.prog 55 #[.pointer (some ⟨g, 0, none⟩)] w fun x w' => x = .returned (.tuple #[]) ∧ (∃ s', s'.2 = zeroE l s ∧ CT w' g v l s') ∧ w.grownBy w' (some g) := by
  have HL := Lib.hid hlen
  have HC := Lib.hid h
  obtain ⟨E, hE⟩ : ∃ E, zeroE l s = E := ⟨_, rfl⟩
  have HE := Lib.hid hE
  rw [hE]
  clear h hlen hE
  go_enter Tryz.func55, Tryz.ntmps55
  go_wp2_with fail
  go_loopg [] (l.length - s.1) (fun gk wr => ∃ (s1 : CSt), gk = l.length - s1.1 ∧ Hid (CT wr g v l s1) ∧ Hid (w.grownBy wr (some g)) ∧ Hid (zeroE l s1 = E))
  case atStart => exact ⟨s, rfl, HC, Lib.hid (only_refl _ _), HE⟩
  case round =>
    obtain ⟨s1, rfl, HC1, HG, HE1⟩ := hrel
    clear HC HE
    have HLF := Lib.hid (left_cur HC1.out.c)
    by_cases h1 : s1.2 = 0 ∧ s1.1 < l.length
    · obtain ⟨h0, hlt⟩ := h1
      obtain ⟨b1, b2⟩ := tB_at h0 hlt
      have d : decide ((0 : Int) < (leftOf l s1.1 s1.2 : Int)) = true := by
        have : leftOf l s1.1 s1.2 = l.length - s1.1 := by unfold leftOf; rw [if_pos h0]
        rw [this]; simp; omega
      have d' : decide (0 < leftOf l s1.1 s1.2) = true := by
        have : leftOf l s1.1 s1.2 = l.length - s1.1 := by unfold leftOf; rw [if_pos h0]
        rw [this]; simp; omega
      have HU := Lib.hid (fun W (hW : CT W g v l s1) => b_st (s := s1) hW.c HL.out)
      have HN := Lib.hid (@zeroE_next l s1 h0 hlt)
      have HB := Lib.hid (@zeroE_bad l s1 h0 hlt)
      have HS := Lib.hid b2
      have HLT := Lib.hid hlt
      clear b1 b2 h0 hlt
      generalize leftOf l s1.1 s1.2 = q at *
      generalize tB l s1 = b at *
      by_cases hb : b = 0
      · have d2 : ((b : Int) != 0) = false := by simp [hb]
        have HN2 := Lib.hid (HN.out hb)
        clear hb HN HB
        go_wp2_with (first
          | (go_at_call 92; refine HLF.out.mono ?_; rintro r w2 ⟨rfl, nq, rfl⟩)
          | (go_at_call 93; refine (HU.out _ (HC1.out.below (below_drewN (Below.refl _ _) nq))).mono ?_; rintro r w3 ⟨rfl, hC3, hG3⟩; have HC3 := Lib.hid ((HC1.out.below (below_drewN (Below.refl _ _) nq)).step hC3 hG3); have HG3 := Lib.hid ((only_drewN HG.out nq).trans hG3); clear hC3 hG3))
        go_roundg (l.length - (s1.1 + 1))
        case measure => have := HLT.out; omega
        case rel => exact ⟨sB l s1, by rw [HS.out], HC3, HG3, Lib.hid (by rw [HN2.out]; exact HE1.out)⟩
      · have d2 : ((b : Int) != 0) = true := by simpa using hb
        have HB2 := Lib.hid (HB.out hb)
        have HF := Lib.hid (fun W (hW : CT W g v l (sB l s1)) => f_st (s := sB l s1) hW.c 43)
        clear hb HN HB
        go_wp2_with (first
          | (go_at_call 92; refine HLF.out.mono ?_; rintro r w2 ⟨rfl, nq, rfl⟩)
          | (go_at_call 93; refine (HU.out _ (HC1.out.below (below_drewN (Below.refl _ _) nq))).mono ?_; rintro r w3 ⟨rfl, hC3, hG3⟩; have HC3 := Lib.hid ((HC1.out.below (below_drewN (Below.refl _ _) nq)).step hC3 hG3); have HG3 := Lib.hid ((only_drewN HG.out nq).trans hG3); clear hC3 hG3)
          | (go_at_call 54; refine (HF.out _ HC3.out).mono ?_; rintro r w4 ⟨rfl, hC4, hG4⟩; have HC4 := Lib.hid (HC3.out.step hC4 hG4); have HG4 := Lib.hid (HG3.out.trans hG4); clear hC4 hG4))
        go_roundg (l.length - (s1.1 + 1))
        case measure => have := HLT.out; omega
        case rel => exact ⟨sF (sB l s1) 43, by rw [HS.out]; rfl, HC4, HG4, Lib.hid (by rw [← HE1.out, HB2.out, HS.out]; rfl)⟩
    · have d : decide ((0 : Int) < (leftOf l s1.1 s1.2 : Int)) = false := by
        have : leftOf l s1.1 s1.2 = 0 := by
          unfold leftOf
          split
          · rename_i h2
            have := mt (And.intro h2) h1
            omega
          · rfl
        rw [this]; rfl
      have d' : decide (0 < leftOf l s1.1 s1.2) = false := by simpa using d
      have HEE := Lib.hid (show s1.2 = E by
        rw [← HE1.out]
        by_cases h2 : s1.2 = 0
        · rw [zeroE_end h2 (by have := mt (And.intro h2) h1; omega), h2]
        · rw [zeroE_err h2])
      clear h1
      generalize leftOf l s1.1 s1.2 = q at *
      go_wp2_with (go_at_call 92; refine HLF.out.mono ?_; rintro r w2 ⟨rfl, nq, rfl⟩)
      go_end0
      exact ⟨rfl, ⟨s1, HEE.out, HC1.out.below (below_drewN (Below.refl _ _) nq)⟩, only_drewN HG.out nq⟩

/-! ### The tree -/
theorem entF_small {l : List UInt8} {wide : Bool} {T : List ALay} {n d : Nat} {s s' : CSt} {x : Ent × Bool} (h : entF l wide T n d s = (some x, s')) : n < 1000 ∧ d ≤ 40 ∧ x.1.code ≠ 0 := by
  obtain ⟨-, -, -, -, h0⟩ := entF_some h
  unfold entF at h
  rw [if_neg h0] at h
  split at h
  · rename_i h4
    obtain ⟨h5, -⟩ := Prod.mk.inj h
    have h6 := Option.some.inj h5
    refine ⟨?_, ?_, by rw [← h6]; exact h0⟩
    all_goals
      by_cases hb : bigQ n d = true
      · rw [entA_eq, if_pos hb] at h4
        have h7 : (sF (stO (abbK T (tU l s)) (sU l s)) 3).2 ≠ 0 := sF_ne _ (by decide)
        rw [attF_ref _ _ _ _ h7] at h4
        exact absurd h4 h7
      · unfold bigQ at hb
        simp only [Bool.or_eq_true, decide_eq_true_eq, not_or] at hb
        omega
  · cases h
theorem own_cutI {w : World} {base n c d : Nat} {t : TypeId} {A : Option Addr} {X : List Value} (h : w.ownsRow base t 1 (.slice A n c) n X) (hn : 0 < n) (hd : d ≤ n) :
    w.ownsRow base t 1 (.slice A d c) d (X.take d) ∧ ∃ g, A = some ⟨g, 0, none⟩ ∧ n ≤ c := by
  rcases h.2 with ⟨e, h0⟩ | ⟨g, cap, cur, e, hb, hg, hc, hm, hs, ht⟩
  · omega
  · injection e with e1 e2 e3
    subst e1 e3
    refine ⟨⟨by rw [List.length_take, h.1]; omega, .inr ⟨g, c, cur, rfl, hb, hg, by omega, hm, hs, ?_⟩⟩, g, rfl, hc⟩
    rw [← ht, List.take_take]
    congr 1
    omega
theorem size_ints (W : World) : (sizeOf (Tryz.prog.elem 153)).run Tryz.prog W = .ok 1 W := by kernel_rfl
set_option maxRecDepth 20000 in
theorem run_cutI (W : World) {g n c d : Nat} (hd : d ≤ c) (hc : 0 < c) : (Instr.slice 153 (.slice (some ⟨g, 0, none⟩) n c) none (some (.int .i64 (d : Int))) none).run Tryz.prog W = .ok (.slice (some ⟨g, 0, none⟩) d c) W := by
  rw [run_slice_h W _ _ _ _ Tryz.underlying153 _ _ (by omega) (by omega), size_ints]
  simp only [Result.andThen, sliced, Nat.zero_mul, Nat.sub_zero, Int.toNat_natCast]
  rw [if_neg (by omega)]
  rfl

theorem entEnd_none {w w' : World} {g : Nat} {v : Value} {l : List UInt8} {s : CSt} {x : Ending} (h : EntEnd w g v l (none, s) x w') : x = .returned (.tuple #[.agg #[.int .u64 0, .int .u64 0, .int .i64 0, .int .i64 0, .int .i64 0, .slice none 0 0], .bool false]) ∧ CT w' g v l s ∧ w.grownBy w' (some g) := by
  obtain ⟨h1, h2, ⟨-, h3⟩ | ⟨e, k, A, c, X, hx, -⟩⟩ := h
  · exact ⟨h3, h1, h2⟩
  · cases hx
theorem entEnd_some {w w' : World} {g : Nat} {v : Value} {l : List UInt8} {s : CSt} {x : Ending} {e : Ent} {k : Bool} (h : EntEnd w g v l (some (e, k), s) x w') : ∃ A c X, x = .returned (.tuple #[.agg #[.int .u64 (e.off : Int), .int .u64 (e.code : Int), .int .i64 e.tag, .int .i64 0, .int .i64 e.depth, .slice A X.length c], .bool k]) ∧ OwnT 127 w' w.heap.size (.slice A X.length c) X ∧ X.map AtL.att = e.l ∧ CT w' g v l s ∧ w.grownBy w' (some g) := by
  obtain ⟨h1, h2, ⟨hx, -⟩ | ⟨e', k', A, c, X, hx, h3, h4, h5⟩⟩ := h
  · cases hx
  · obtain ⟨rfl, rfl⟩ := Prod.mk.inj (Option.some.inj hx)
    exact ⟨A, c, X, h3, h4, h5, h1, h2⟩
/-- The loop of the tree: the cursor, the entries so far, the parents. -/
structure TreeSt (w wr : World) (g : Nat) (v : Value) (l : List UInt8) (s : CSt) (u : Value) (L : List DLay) (p : Value) (P : List Int) : Prop where
  ct : CT wr g v l s
  gr : w.grownBy wr (some g)
  o : OwnD 127 61 wr w.heap.size u L
  p : wr.ownsRow w.heap.size 3 1 p P.length (P.reverse.map (Value.int .i64))

set_option maxRecDepth 10000 in
set_option maxHeartbeats 3200000 in
theorem tree_any {w : World} {g : Nat} {v : Value} {l : List UInt8} {s : CSt} (h : CT w g v l s) (hlen : l.length ≤ 140737488355328) {B : Nat} {ta : Option Addr} {T : List ALay} (hT : Abbs w B ta T) (hB : B ≤ g) (tc : Nat) (hTl : T.length ≤ 100000) (hTin : ∀ y ∈ T, y.x.l.length ≤ 100000) (wide : Bool) :
    Calls Tryz.prog 52 #[.func (.func 53) #[drV g ta T.length tc wide] #[]] w fun x w' => ∃ u L, x = .returned u ∧ OwnD 127 61 w' w.heap.size u L ∧ L.map DLay.ent = (treeW l wide T s [] [-1]).1 ∧ L.length ≤ 1000 ∧ CT w' g v l (treeW l wide T s [] [-1]).2 ∧ w.grownBy w' (some g) := by
  obtain ⟨i1, hj1, hy0, hy1, hy2⟩ := info_parts dient_info
  obtain ⟨i2, hk1, hz0, hz1, hz2⟩ := info_parts int_info
  have HGW := Lib.hid (show g < w.heap.size from h.c.1.lt)
  have HBG := Lib.hid hB
  have HEN := Lib.hid (fun (W : World) (s1 : CSt) (n d : Nat) (hC : CT W g v l s1) (hG : w.grownBy W (some g)) => dentry_any hC hlen (hT.below (below_of_only (B := B) hG (Nat.le_trans hB (Nat.le_of_lt h.c.1.lt)) (fun x hx => by injection hx with hx; omega))) hB tc hTl hTin wide n d)
  have HF := Lib.hid h.f.pos
  have HZ := Lib.hid h.z.pos
  have hb1 := (Below.refl w.heap.size w).alloc (Nat.le_refl _) (.cells #[.int .i64 (-1)] 3)
  have HS1 := Lib.hid (show TreeSt w (w.alloc (.cells #[.int .i64 (-1)] 3)) g v l s (.slice none 0 0) [] (.slice (some ⟨w.heap.size, 0, none⟩) 1 1) [-1] from
    ⟨h.below hb1, only_below hb1 _, OwnD.nil _ _ _ _, rfl, .inr ⟨w.heap.size, 1, #[.int .i64 (-1)], rfl, Nat.le_refl _, heap_alloc_new w _, Nat.le_refl _, by decide, rfl, rfl⟩⟩)
  obtain ⟨F, hF⟩ : ∃ F, treeW l wide T s [] [-1] = F := ⟨_, rfl⟩
  have HFF := Lib.hid hF
  rw [hF]
  obtain ⟨tn, htn⟩ : ∃ tn, T.length = tn := ⟨_, rfl⟩
  rw [htn] at HEN ⊢
  clear h hlen hT hB hTl hTin htn hF hb1
  go_enter Tryz.func52, Tryz.ntmps52
  go_upto_region 3 with fail
  go_loopg [3, 4] (2 * (l.length - s.1) + 1) (fun gk u p wr => ∃ (s1 : CSt) (L : List DLay) (P : List Int) (d : Nat), gk = 2 * (l.length - s1.1) + (d + 1) ∧ P.length = d + 1 ∧ d ≤ 41 ∧ L.length ≤ 1000 ∧ Hid (TreeSt w wr g v l s1 u L p P) ∧ Hid (treeW l wide T s1 (L.map DLay.ent) P = F))
  case atStart => exact ⟨s, [], [-1], 0, rfl, rfl, by omega, by decide, HS1, HFF⟩
  case round =>
    obtain ⟨s1, L, P, d, rfl, hP, hd, hL, HS, HW⟩ := hrel
    clear HS1 HFF
    obtain ⟨p0, P, rfl⟩ : ∃ p0 P', P = p0 :: P' := by
      cases P with
      | nil => cases hP
      | cons p0 P => exact ⟨p0, P, rfl⟩
    have hP' : P.length = d := by simpa using hP
    obtain ⟨N, hN⟩ : ∃ N, L.length = N := ⟨_, rfl⟩
    have HN := Lib.hid hN
    obtain ⟨A3, c3, hu⟩ := un_slc HS.out.o.row
    have hpp := HS.out.p
    rw [hP] at hpp
    obtain ⟨A4, c4, hu4⟩ := un_slc hpp
    subst hu4
    obtain ⟨hcut, gp, rfl, hc4⟩ := own_cutI hpp (Nat.succ_pos d) (Nat.le_succ d)
    have hpc : wr.cell? ⟨gp, d, none⟩ = some (.int .i64 p0) := by
      have := World.ownsRow.cellAt (g := gp) (cap := c4) hpp d (by omega)
      rw [this, List.reverse_cons, List.map_append, List.getElem?_append_right (by simp [hP'])]
      simp [hP']
    have hct : ((p0 :: P).reverse.map (Value.int .i64)).take d = P.reverse.map (Value.int .i64) := by
      rw [List.reverse_cons, List.map_append, List.take_append_of_le_length (by simp [hP']), List.take_of_length_le (by simp [hP'])]
    rw [hct] at hcut
    have HCUT := Lib.hid hcut
    have hrc := fun W => run_cutI W (g := gp) (n := d + 1) (c := c4) (d := d) (by omega) (by omega)
    rw [hN] at hu hL
    subst hu
    have hNM : (L.map DLay.ent).length = N := by rw [List.length_map, hN]
    have HPP := Lib.hid hP'
    have HE1 := Lib.hid (HEN.out wr s1 N d HS.out.ct HS.out.gr)
    have HPO := Lib.hid hpp
    clear hpp hcut hct hP hN
    rcases hR : entF l wide T N d s1 with ⟨_ | ⟨e, k⟩, s2⟩
    · have hw1 := treeW_none (l := l) (wide := wide) (T := T) (s := s1) (s' := s2) (L := L.map DLay.ent) (P := p0 :: P) (by rw [hNM, List.length_cons, HPP.out, Nat.add_sub_cancel]; exact hR)
      rw [HW.out] at hw1
      have HW1 := Lib.hid (show F = contW l wide T s2 (L.map DLay.ent) P from hw1)
      have HMO := Lib.hid (show s1.1 ≤ s2.1 from by have := entF_mono l wide T N d s1; rw [hR] at this; exact this)
      rw [hR] at HE1
      clear hw1 hNM hR HW hP'
      go_upto_region 6 with (go_at_call 53; refine HE1.out.mono ?_; rintro r w2 hE2; (obtain ⟨rfl, hC2, hG2⟩ := entEnd_none hE2); have HC2 := Lib.hid hC2; have HG2 := Lib.hid hG2; clear hE2 hC2 hG2)
      have hb3 : Below w2.heap.size w2 (w2.alloc (.cells #[.int .u64 0, .int .u64 0, .int .i64 0, .int .i64 0, .int .i64 0, .slice none 0 0] 61)) := (Below.refl _ _).alloc (Nat.le_refl _) _
      generalize w2.alloc (.cells #[.int .u64 0, .int .u64 0, .int .i64 0, .int .i64 0, .int .i64 0, .slice none 0 0] 61) = w3 at *
      have hgr2 := HS.out.gr.trans HG2.out
      have HS3 := Lib.hid (show TreeSt w w3 g v l s2 (.slice A3 N c3) L (.slice (some ⟨gp, 0, none⟩) d c4) P from ⟨HC2.out.below hb3, only_then_below hgr2 hb3, (HS.out.o.past HG2.out HGW.out).below hb3, by rw [HPP.out]; exact row_below (rown_past HCUT.out HG2.out HGW.out) hb3⟩)
      clear hb3 hgr2 HC2 HG2 HE1 HS HCUT HPO hpc
      by_cases hd1 : d ≤ 1
      · have q : decide ((d : Int) ≤ 1) = true := by simp; omega
        have HF1 := Lib.hid (show F = (L.map DLay.ent, s2) by rw [HW1.out]; unfold contW; rw [if_pos (by rw [HPP.out]; exact hd1)])
        clear hd1
        go_wp2_with fail
        go_ret
        exact ⟨_, L, rfl, HS3.out.o, by rw [HF1.out], by rw [HN.out]; exact hL, by rw [HF1.out]; exact HS3.out.ct, HS3.out.gr⟩
      · have q : decide ((d : Int) ≤ 1) = false := by simp; omega
        have HF1 := Lib.hid (show treeW l wide T s2 (L.map DLay.ent) P = F by rw [HW1.out]; unfold contW; rw [if_neg (by rw [HPP.out]; exact hd1)])
        have HD1 := Lib.hid hd1
        clear hd1
        go_wp2_with fail
        go_roundg (2 * (l.length - s2.1) + (d - 1 + 1))
        case measure => have := HMO.out; have := HD1.out; omega
        case rel => exact ⟨s2, L, P, d - 1, rfl, by rw [HPP.out]; have := HD1.out; omega, by omega, by rw [HN.out]; exact hL, HS3, HF1⟩
    · obtain ⟨hn1000, hd40, hcode⟩ := entF_small hR
      obtain ⟨hm1, hm2, -⟩ := entF_some hR
      have HMO := Lib.hid (And.intro hm1 hm2)
      have q0 : ((e.code : Int) == 0) = false := by simpa using hcode
      have hw1 : F = contW l wide T s2 (L.map DLay.ent ++ [{ e with parent := p0 }]) (if k = true then (N : Int) :: p0 :: P else p0 :: P) := by
        rw [← HW.out]
        cases k with
        | true => exact (treeW_kids (P := p0 :: P) (by rw [hNM, List.length_cons, HPP.out, Nat.add_sub_cancel]; exact hR)).trans (by rw [hNM]; rfl)
        | false => exact treeW_leaf (P := p0 :: P) (by rw [hNM, List.length_cons, HPP.out, Nat.add_sub_cancel]; exact hR)
      have HW1 := Lib.hid hw1
      rw [hR] at HE1
      clear hw1 hNM hR HW hP' hcode hm1 hm2 HCUT hrc
      go_upto_region 5 with (go_at_call 53; refine HE1.out.mono ?_; rintro r w2 hE2; (obtain ⟨A5, c5, X5, rfl, hO5, hM5, hC2, hG2⟩ := entEnd_some hE2); have HO5 := Lib.hid hO5; have HM5 := Lib.hid hM5; have HC2 := Lib.hid hC2; have HG2 := Lib.hid hG2; clear hE2 hC2 hG2 hO5 hM5)
      obtain ⟨y, hy⟩ : ∃ y : DLay, y = ⟨e.off, e.code, e.tag, p0, e.depth, X5, A5, c5⟩ := ⟨_, rfl⟩
      have HY := Lib.hid (show y.ent = { e with parent := p0 } by rw [hy]; show Ent.mk _ _ _ _ _ _ = _; rw [HM5.out])
      have HYC := Lib.hid (show y.cells = [.int .u64 (e.off : Int), .int .u64 (e.code : Int), .int .i64 e.tag, .int .i64 p0, .int .i64 e.depth, .slice A5 X5.length c5] by rw [hy]; rfl)
      have HYO := Lib.hid (show OwnT 127 w2 w.heap.size (.slice y.a y.L.length y.c) y.L by rw [hy]; exact HO5.out.lower HS.out.gr.size)
      clear HM5 HO5 hy
      generalize X5.length = xn at *
      generalize e.off = eo at *
      generalize e.code = ec at *
      generalize e.tag = et at *
      generalize e.depth = ed at *
      go_upto_region 7 with fail
      have hb3 : Below w2.heap.size w2 (w2.alloc (.cells #[.int .u64 (eo : Int), .int .u64 (ec : Int), .int .i64 et, .int .i64 0, .int .i64 ed, .slice A5 xn c5] 61)) := (Below.refl _ _).alloc (Nat.le_refl _) _
      have hX3 := Box.new w2 61 #[.int .u64 (eo : Int), .int .u64 (ec : Int), .int .i64 et, .int .i64 0, .int .i64 ed, .slice A5 xn c5]
      generalize w2.alloc (.cells #[.int .u64 (eo : Int), .int .u64 (ec : Int), .int .i64 et, .int .i64 0, .int .i64 ed, .slice A5 xn c5] 61) = w3 at *
      have hpc3 : w3.cell? ⟨gp, d, none⟩ = some (.int .i64 p0) := by
        have := World.ownsRow.cellAt (g := gp) (cap := c4) (row_below (rown_past HPO.out HG2.out HGW.out) hb3) d (by omega)
        rw [this, List.reverse_cons, List.map_append, List.getElem?_append_right (by simp [HPP.out])]
        simp [HPP.out]
      have G : w3.grownBy (w3.setCell ⟨w2.heap.size, 3, none⟩ (.int .i64 p0)) (some w2.heap.size) := only_set (only_refl w3 _) 3 _
      have hb4 : Below w2.heap.size w2 (w3.setCell ⟨w2.heap.size, 3, none⟩ (.int .i64 p0)) := hb3.grown G hb3.size (fun x hx => by injection hx with hx; omega)
      have HX4 := Lib.hid (show Box (w3.setCell ⟨w2.heap.size, 3, none⟩ (.int .i64 p0)) w2.heap.size 61 #[.int .u64 (eo : Int), .int .u64 (ec : Int), .int .i64 et, .int .i64 p0, .int .i64 ed, .slice A5 xn c5] from by simpa using hX3.set 3 (.int .i64 p0))
      have HPQ := Lib.hid (row_below (rown_past HPO.out HG2.out HGW.out) hb4)
      have HO4 := Lib.hid ((HS.out.o.past HG2.out HGW.out).below hb4)
      have HY4 := Lib.hid (HYO.out.below hb4)
      have HC4 := Lib.hid (HC2.out.below hb4)
      have HG4 := Lib.hid (only_then_below (HS.out.gr.trans HG2.out) hb4)
      have HWX := Lib.hid (show w.heap.size ≤ (w3.setCell ⟨w2.heap.size, 3, none⟩ (.int .i64 p0)).heap.size from Nat.le_trans (HS.out.gr.trans HG2.out).size hb4.size)
      obtain ⟨z0, z1, z2, z3, z4, z5⟩ := six_cells hX3
      have f3 := hX3.free 3
      clear hpc hb3 hb4 hX3 HPO HYO HC2 HG2 HE1 HS G
      generalize w2.heap.size = H at *
      go_upto_region 8 with fail
      generalize w3.setCell ⟨H, 3, none⟩ (.int .i64 p0) = w4 at *
      clear z0 z1 z2 z3 z4 z5 f3 hpc3
      obtain ⟨z0, z1, z2, z3, z4, z5⟩ := six_cells HX4.out
      have hmx : N + 1 ≤ maxLen := by unfold maxLen; omega
      have hby : (N + 1) * 64 ≤ 140737488355328 := by omega
      have hmx2 : d + 1 + 1 ≤ maxLen := by unfold maxLen; omega
      have hby2 : (d + 1 + 1) * 8 ≤ 140737488355328 := by omega
      cases k with
      | true =>
        have HW2 := Lib.hid (show F = contW l wide T s2 (L.map DLay.ent ++ [y.ent]) ((N : Int) :: p0 :: P) from by rw [HY.out]; exact HW1.out)
        have hA5 : Below w4.heap.size w4 (w4.alloc (.cells #[.int .i64 (N : Int)] 3)) := (Below.refl _ _).alloc (Nat.le_refl _) _
        have HPA := Lib.hid (row_below HPQ.out hA5)
        have hsz5 : w.heap.size ≤ w4.heap.size + 1 := Nat.le_succ_of_le HWX.out
        go_upto_region 10 with (at_builtin; refine wpList_append_own_at _ (by rfl) (.tmp 32) (.tmp 35) _ (by rfl) w.heap.size 3 i2 _ 1 8 Tryz.underlying153 hk1 hz0 hz1 hz2 rfl (by decide) _ (d + 1) ((p0 :: P).reverse.map (Value.int .i64)) (by rfl) HPA.out ⟨w4.heap.size, 0, none⟩ 1 1 [.int .i64 (N : Int)] (by rfl) rfl (fun j u h => cells_newA w4 [.int .i64 (N : Int)] _ j u h) (by simp [Value.oneCell']) hmx2 hby2 (by simpa using hsz5) ?_; intro v6 w6 hown6 hg6 hn6 hat6; clear hn6 hat6; have HP6 := Lib.hid hown6; have HG6 := Lib.hid hg6; clear hown6 hg6)
        have HO6 := Lib.hid ((HO4.out.below hA5).apart HPA.out (by decide) (by decide) (by decide) HG6.out)
        have HY6 := Lib.hid ((HY4.out.below hA5).apart HPA.out (by decide) (by decide) HG6.out)
        have HC6 := Lib.hid ((HC4.out.below hA5).apart HPA.out (by decide) (by decide) HF.out HZ.out HG6.out)
        have HX6 := Lib.hid (un_box (HX4.out.below hA5 HX4.out.lt) HPA.out (by decide) HG6.out)
        have HG66 := Lib.hid (only_trans (only_then_below HG4.out hA5) HG6.out (.inr fun x hx => (HPA.out.lt x hx).1))
        obtain ⟨A6, c6, rfl⟩ := un_slc HP6.out
        clear z0 z1 z2 z3 z4 z5 hA5 HPA HO4 HY4 HC4 HX4 HG4 HG6 HPQ
        obtain ⟨z0, z1, z2, z3, z4, z5⟩ := six_cells HX6.out
        have hR7 := HO6.out.row
        rw [HN.out] at hR7
        have hA7 : Below w6.heap.size w6 (w6.alloc (.cells #[.int .u64 (eo : Int), .int .u64 (ec : Int), .int .i64 et, .int .i64 p0, .int .i64 ed, .slice A5 xn c5] 61)) := (Below.refl _ _).alloc (Nat.le_refl _) _
        have HRA := Lib.hid (row_below hR7 hA7)
        have HRB := Lib.hid (HO6.out.below hA7)
        have HRC := Lib.hid (HY6.out.below hA7)
        have HRD := Lib.hid (HC6.out.below hA7)
        have HRE := Lib.hid (only_then_below HG66.out hA7)
        have HRP := Lib.hid (row_below HP6.out hA7)
        have hsz7 : w.heap.size ≤ w6.heap.size + 1 := Nat.le_succ_of_le (HG66.out.size)
        have AC := Lib.hid (fun (u : Value) (hu : u ∈ ([.int .u64 (eo : Int), .int .u64 (ec : Int), .int .i64 et, .int .i64 p0, .int .i64 ed, .slice A5 xn c5] : List Value)) => (by
          rw [← HYC.out] at hu
          exact ent_one y u hu : u.oneCell' = true))
        clear hR7 hA7
        go_upto_region 11 with (at_builtin; refine wpList_append_own_at _ (by rfl) (.tmp 37) (.tmp 39) _ (by rfl) w.heap.size 61 i1 _ 6 64 Tryz.underlying48 hj1 hy0 hy1 hy2 rfl (by decide) _ N (cellsF DLay.cells L) (by rfl) HRA.out ⟨w6.heap.size, 0, none⟩ 1 1 [.int .u64 (eo : Int), .int .u64 (ec : Int), .int .i64 et, .int .i64 p0, .int .i64 ed, .slice A5 xn c5] (by rfl) rfl (fun j u h => cells_newA w6 [.int .u64 (eo : Int), .int .u64 (ec : Int), .int .i64 et, .int .i64 p0, .int .i64 ed, .slice A5 xn c5] _ j u h) AC.out hmx hby (by simpa using hsz7) ?_; intro v8 w8 hown8 hg8 hn8 hat8; clear hn8 hat8; have HO8 := Lib.hid hown8; have HG8 := Lib.hid hg8; clear hown8 hg8)
        have HON := Lib.hid (show OwnD 127 61 w8 w.heap.size v8 (L ++ [y]) from HRB.out.snoc HRC.out (by decide) (by decide) HG8.out (by rw [HN.out, HYC.out]; exact HO8.out))
        have HLN := Lib.hid (show (L ++ [y]).length = N + 1 by rw [List.length_append, HN.out]; rfl)
        have HLM := Lib.hid (show (L ++ [y]).map DLay.ent = L.map DLay.ent ++ [y.ent] by rw [List.map_append]; rfl)
        have HSN := Lib.hid (show TreeSt w w8 g v l s2 v8 (L ++ [y]) (.slice A6 (d + 1 + 1) c6) ((N : Int) :: p0 :: P) from ⟨HRD.out.apart HRA.out (by decide) (by decide) HF.out HZ.out HG8.out, only_trans HRE.out HG8.out (.inr fun x hx => (HRA.out.lt x hx).1), HON.out, by
          have := own_apart HRP.out HRA.out (by decide) HG8.out
          rw [show ((N : Int) :: p0 :: P).length = d + 1 + 1 by simp [HPP.out], List.reverse_cons, List.map_append]
          exact this⟩)
        have HF1 := Lib.hid (show treeW l wide T s2 ((L ++ [y]).map DLay.ent) ((N : Int) :: p0 :: P) = F by rw [HLM.out, HW2.out]; unfold contW; rw [if_neg (by simp)])
        have q1 : decide ((d : Int) + 1 + 1 ≤ 1) = false := by simp; omega
        clear HG8 HO8 HRA HRB HRC HRD HRE HRP HW1 HW2 HP6 HO6 HY6 HC6 HX6 HG66
        go_wp2_with fail
        go_roundg (2 * (l.length - s2.1) + (d + 1 + 1))
        case measure => have := HMO.out; omega
        case rel => exact ⟨s2, L ++ [y], (N : Int) :: p0 :: P, d + 1, rfl, by simp [HPP.out], by omega, by rw [HLN.out]; omega, HSN, HF1⟩
      | false =>
        have HW2 := Lib.hid (show F = contW l wide T s2 (L.map DLay.ent ++ [y.ent]) (p0 :: P) from by rw [HY.out]; exact HW1.out)
        have HO6 := HO4
        have HY6 := HY4
        have HC6 := HC4
        have HG66 := HG4
        have HP6 := HPQ
        generalize hw46 : w4 = w6 at *
        clear hw46
        go_upto_region 10 with fail
        have hR7 := HO6.out.row
        rw [HN.out] at hR7
        have hA7 : Below w6.heap.size w6 (w6.alloc (.cells #[.int .u64 (eo : Int), .int .u64 (ec : Int), .int .i64 et, .int .i64 p0, .int .i64 ed, .slice A5 xn c5] 61)) := (Below.refl _ _).alloc (Nat.le_refl _) _
        have HRA := Lib.hid (row_below hR7 hA7)
        have HRB := Lib.hid (HO6.out.below hA7)
        have HRC := Lib.hid (HY6.out.below hA7)
        have HRD := Lib.hid (HC6.out.below hA7)
        have HRE := Lib.hid (only_then_below HG66.out hA7)
        have HRP := Lib.hid (row_below HP6.out hA7)
        have hsz7 : w.heap.size ≤ w6.heap.size + 1 := Nat.le_succ_of_le (HG66.out.size)
        have AC := Lib.hid (fun (u : Value) (hu : u ∈ ([.int .u64 (eo : Int), .int .u64 (ec : Int), .int .i64 et, .int .i64 p0, .int .i64 ed, .slice A5 xn c5] : List Value)) => (by
          rw [← HYC.out] at hu
          exact ent_one y u hu : u.oneCell' = true))
        clear hR7 hA7
        go_upto_region 11 with (at_builtin; refine wpList_append_own_at _ (by rfl) (.tmp 37) (.tmp 39) _ (by rfl) w.heap.size 61 i1 _ 6 64 Tryz.underlying48 hj1 hy0 hy1 hy2 rfl (by decide) _ N (cellsF DLay.cells L) (by rfl) HRA.out ⟨w6.heap.size, 0, none⟩ 1 1 [.int .u64 (eo : Int), .int .u64 (ec : Int), .int .i64 et, .int .i64 p0, .int .i64 ed, .slice A5 xn c5] (by rfl) rfl (fun j u h => cells_newA w6 [.int .u64 (eo : Int), .int .u64 (ec : Int), .int .i64 et, .int .i64 p0, .int .i64 ed, .slice A5 xn c5] _ j u h) AC.out hmx hby (by simpa using hsz7) ?_; intro v8 w8 hown8 hg8 hn8 hat8; clear hn8 hat8; have HO8 := Lib.hid hown8; have HG8 := Lib.hid hg8; clear hown8 hg8)
        have HON := Lib.hid (show OwnD 127 61 w8 w.heap.size v8 (L ++ [y]) from HRB.out.snoc HRC.out (by decide) (by decide) HG8.out (by rw [HN.out, HYC.out]; exact HO8.out))
        have HLN := Lib.hid (show (L ++ [y]).length = N + 1 by rw [List.length_append, HN.out]; rfl)
        have HLM := Lib.hid (show (L ++ [y]).map DLay.ent = L.map DLay.ent ++ [y.ent] by rw [List.map_append]; rfl)
        have HSN := Lib.hid (show TreeSt w w8 g v l s2 v8 (L ++ [y]) (.slice (some ⟨gp, 0, none⟩) (d + 1) c4) (p0 :: P) from ⟨HRD.out.apart HRA.out (by decide) (by decide) HF.out HZ.out HG8.out, only_trans HRE.out HG8.out (.inr fun x hx => (HRA.out.lt x hx).1), HON.out, by
          have := own_apart HRP.out HRA.out (by decide) HG8.out
          rw [show (p0 :: P).length = d + 1 by simp [HPP.out]]
          exact this⟩)
        clear HG8 HO8 HRA HRB HRC HRD HRE HRP HW1 HP6 HO6 HY6 HC6 HG66 HO4 HY4 HC4 HX4 HG4 HPQ
        by_cases hd1 : d = 0
        · have q1 : decide ((d : Int) + 1 ≤ 1) = true := by simp; omega
          have HF1 := Lib.hid (show F = ((L ++ [y]).map DLay.ent, s2) by rw [HLM.out, HW2.out]; unfold contW; rw [if_pos (by simp [HPP.out]; omega)])
          clear hd1 HW2
          go_wp2_with fail
          go_ret
          exact ⟨_, L ++ [y], rfl, HSN.out.o, by rw [HF1.out], by rw [HLN.out]; omega, by rw [HF1.out]; exact HSN.out.ct, HSN.out.gr⟩
        · have q1 : decide ((d : Int) + 1 ≤ 1) = false := by simp; omega
          have HF1 := Lib.hid (show treeW l wide T s2 ((L ++ [y]).map DLay.ent) (p0 :: P) = F by rw [HLM.out, HW2.out]; unfold contW; rw [if_neg (by simp [HPP.out]; omega)])
          clear hd1 HW2
          go_wp2_with fail
          go_roundg (2 * (l.length - s2.1) + (d + 1))
          case measure => have := HMO.out; omega
          case rel => exact ⟨s2, L ++ [y], p0 :: P, d, rfl, by simp [HPP.out], by omega, by rw [HLN.out]; omega, HSN, HF1⟩

end Go.Proofs.YtejicboemkpeoaaGreatDoor

namespace Go.Proofs.YtejicboemkpeoaaGreatDoor
open Go Go.RowKit

/-- What is told of all entries. -/
def DieEnd (T TE : TypeId) (w : World) (E : Int) (R : List Ent) (x : Ending) (w' : World) : Prop :=
  ∃ u L, x = .returned (.tuple #[u, .int .i64 E]) ∧ OwnD T TE w' w.heap.size u L ∧ L.map DLay.ent = R ∧ L.length ≤ 1000 ∧ Below w.heap.size w w'
theorem dieE_bad {l : List UInt8} {wide : Bool} {T : List ALay} {first stop : Nat} (h : stop < first ∨ l.length < stop) : dieE l wide T first stop = 2 ∧ dieL l wide T first stop = [] := by
  have h1 : dieE l wide T first stop = 2 := if_pos h
  exact ⟨h1, by unfold dieL; rw [if_neg (by rw [h1]; decide)]⟩
theorem un_farT {T T' : TypeId} {X X' : World} {B g : Nat} {v : Value} {L : List AtL} {cs : Array Value} (h : OwnT T X B v L) (hg : X.grownBy X' (some g)) (hX : Box X g T' cs) (h1 : T' ≠ T) (h2 : T' ≠ 5) : OwnT T X' B v L :=
  ⟨un_far h.row hg hX h1, fun t ht => un_far (h.bs t ht) hg hX h2⟩
theorem un_farD {T TE T' : TypeId} {X X' : World} {B g : Nat} {v : Value} {L : List DLay} {cs : Array Value} (h : OwnD T TE X B v L) (hg : X.grownBy X' (some g)) (hX : Box X g T' cs) (h0 : T' ≠ TE) (h1 : T' ≠ T) (h2 : T' ≠ 5) : OwnD T TE X' B v L :=
  ⟨un_far h.row hg hX h0, fun y hy => un_farT (h.ats y hy) hg hX h1 h2⟩
set_option maxRecDepth 20000 in
theorem cut_u64 (W : World) {A : Option Addr} {n c d : Nat} (hd : d ≤ c) : (Instr.slice 26 (.slice A n c) none (some (.int .u64 (d : Int))) none).run Tryz.prog W = .ok (.slice (if c = 0 then A else Option.map (fun x => x.add 0) A) d c) W := by
  rw [run_slice_h W _ _ _ _ Tryz.underlying26 _ _ (by omega) (by omega), size_u8]
  simp only [Result.andThen, sliced, Nat.zero_mul, Nat.sub_zero, Int.toNat_natCast]
set_option maxRecDepth 20000 in
theorem cut_i64 (W : World) {A : Option Addr} {n c d : Nat} (hd : d ≤ c) : (Instr.slice 26 (.slice A n c) none (some (.int .i64 (d : Int))) none).run Tryz.prog W = .ok (.slice (if c = 0 then A else Option.map (fun x => x.add 0) A) d c) W := by
  rw [run_slice_h W _ _ _ _ Tryz.underlying26 _ _ (by omega) (by omega), size_u8]
  simp only [Result.andThen, sliced, Nat.zero_mul, Nat.sub_zero, Int.toNat_natCast]
theorem rd_ahead {w : World} {B : Nat} {A : Option Addr} {l : List UInt8} (h : Rd w B A l) (c d : Nat) : Rd w B (if c = 0 then A else Option.map (fun x => x.add 0) A) (l.take d) := by
  have := rd_cut h 0 d
  rw [List.drop_zero] at this
  split
  · intro hl
    obtain ⟨b, o, e, hb, hc⟩ := this hl
    have hll : 0 < l.length := by simp at hl; omega
    obtain ⟨b', o', e', -⟩ := h hll
    subst e'
    simp only [Option.map_some, addr_add, Nat.add_zero] at e
    exact ⟨b, o, e, hb, hc⟩
  · exact this

set_option maxRecDepth 10000 in
set_option maxHeartbeats 3200000 in
theorem dtake_any {w : World} {A : Option Addr} {sec : List UInt8} (hF : Ft w) (hZ : Sz w) (hr : Rd w w.heap.size A sec) (c : Nat) (hlc : sec.length ≤ c) (hlen : sec.length ≤ 140737488355328) {ta : Option Addr} {T : List ALay} (hT : Abbs w w.heap.size ta T) (tc : Nat) (hTl : T.length ≤ 100000) (hTin : ∀ y ∈ T, y.x.l.length ≤ 100000) (y : UHd) (hfs : y.first < two64) :
    Calls Tryz.prog 17 #[.slice A sec.length c, .agg #[.int .i64 y.kind, .bool y.wide, .int .u64 (y.ab : Int), .int .u64 (y.sig : Int), .int .u64 (y.ty : Int), .int .u64 (y.off : Int), .int .u64 (y.first : Int), .int .u64 (y.stop : Int)], .slice ta T.length tc] w fun x w' =>
      DieEnd 127 61 w (dieE sec y.wide T y.first y.stop) (dieL sec y.wide T y.first y.stop) x w' := by
  have hmf : ∀ (fn : Fn) (first cap : Array Value) (W : World), (Instr.makeFunc fn first cap).run Tryz.prog W = .ok (.func fn first cap) W := fun _ _ _ _ => rfl
  have HF := Lib.hid hF
  have HZ := Lib.hid hZ
  have HR := Lib.hid hr
  have HTT := Lib.hid hT
  have HTL := Lib.hid hTl
  have HTI := Lib.hid hTin
  have HLC := Lib.hid hlc
  have HLN := Lib.hid hlen
  have HBAD := Lib.hid (@dieE_bad sec y.wide T y.first y.stop)
  have HE := Lib.hid (show dieE sec y.wide T y.first y.stop = if y.stop < y.first ∨ sec.length < y.stop then 2 else zeroE (sec.take y.stop) (rootS (dieR sec y.wide T y.first y.stop)) from rfl)
  have HL := Lib.hid (show dieL sec y.wide T y.first y.stop = if dieE sec y.wide T y.first y.stop = 0 then (dieR sec y.wide T y.first y.stop).1 else [] from rfl)
  have HRR := Lib.hid (show dieR sec y.wide T y.first y.stop = treeW (sec.take y.stop) y.wide T (y.first, 0) [] [-1] from rfl)
  have hb1 := (Below.refl w.heap.size w).alloc (Nat.le_refl _) (.cells #[.int .i64 y.kind, .bool y.wide, .int .u64 (y.ab : Int), .int .u64 (y.sig : Int), .int .u64 (y.ty : Int), .int .u64 (y.off : Int), .int .u64 (y.first : Int), .int .u64 (y.stop : Int)] 51)
  have HX1 := Lib.hid (Box.new w 51 #[.int .i64 y.kind, .bool y.wide, .int .u64 (y.ab : Int), .int .u64 (y.sig : Int), .int .u64 (y.ty : Int), .int .u64 (y.off : Int), .int .u64 (y.first : Int), .int .u64 (y.stop : Int)])
  have HB1 := Lib.hid hb1
  have HFS := Lib.hid hfs
  clear hF hZ hr hT hTl hTin hlc hlen hb1 hfs
  generalize dieE sec y.wide T y.first y.stop = E at *
  generalize dieL sec y.wide T y.first y.stop = R at *
  generalize dieR sec y.wide T y.first y.stop = RR at *
  obtain ⟨tn, htn⟩ : ∃ tn, T.length = tn := ⟨_, rfl⟩
  have HTN := Lib.hid htn
  obtain ⟨n, hn⟩ : ∃ n, sec.length = n := ⟨_, rfl⟩
  have HN := Lib.hid hn
  rw [hn] at HE HBAD HLC HLN
  rw [htn, hn]
  have s1 : IntKind.u64.wrap (n : Int) = (n : Int) := by rw [IntWalk.u64_in _ (by have := HLN.out; omega)]
  clear htn hn
  generalize y.kind = x0 at *
  generalize y.wide = wide at *
  generalize y.ab = x2 at *
  generalize y.sig = x3 at *
  generalize y.ty = x4 at *
  generalize y.off = x5 at *
  generalize y.first = first at *
  generalize y.stop = stop at *
  obtain ⟨b1, hb1⟩ : ∃ b, decide (stop < first) = b := ⟨_, rfl⟩
  obtain ⟨b2, hb2⟩ : ∃ b, decide (n < stop) = b := ⟨_, rfl⟩
  have d1 : decide ((stop : Int) < (first : Int)) = b1 := by rw [← hb1, Bool.eq_iff_iff]; simp
  have d2 : decide ((n : Int) < (stop : Int)) = b2 := by rw [← hb2, Bool.eq_iff_iff]; simp
  have HD := Lib.hid (And.intro hb1 hb2)
  go_enter Tryz.func17, Tryz.ntmps17
  go_upto_region 1 with fail
  generalize w.alloc (.cells #[.int .i64 x0, .bool wide, .int .u64 (x2 : Int), .int .u64 (x3 : Int), .int .u64 (x4 : Int), .int .u64 (x5 : Int), .int .u64 (first : Int), .int .u64 (stop : Int)] 51) = w1 at *
  generalize hHx : w.heap.size = Hx at HX1 ⊢
  have HHX := Lib.hid hHx
  clear hHx
  obtain ⟨p0, p1, p2, p3, p4, p5, p6, p7⟩ := eight_cells HX1.out
  rcases (by cases b1 <;> cases b2 <;> simp : b1 = true ∨ (b1 = false ∧ b2 = true) ∨ (b1 = false ∧ b2 = false)) with rfl | ⟨rfl, rfl⟩ | ⟨rfl, rfl⟩
  · obtain ⟨e1, e2⟩ := HBAD.out (.inl (of_decide_eq_true HD.out.1))
    subst e1 e2
    go_wp2_with fail
    go_ret2
    exact ⟨_, [], rfl, OwnD.nil _ _ _ _, rfl, by decide, HB1.out⟩
  · obtain ⟨e1, e2⟩ := HBAD.out (.inr (of_decide_eq_true HD.out.2))
    subst e1 e2
    go_wp2_with fail
    go_ret2
    exact ⟨_, [], rfl, OwnD.nil _ _ _ _, rfl, by decide, HB1.out⟩
  have hle1 : first ≤ stop := by have := of_decide_eq_false HD.out.1; omega
  have hle2 : stop ≤ n := by have := of_decide_eq_false HD.out.2; omega
  have he := HE.out
  rw [if_neg (by omega)] at he
  have HE1 := Lib.hid he
  have hcut := fun W => cut_u64 W (A := A) (n := n) (c := c) (d := stop) (Nat.le_trans hle2 HLC.out)
  have hra := rd_ahead HR.out c stop
  obtain ⟨A2, hA2⟩ : ∃ A2, (if c = 0 then A else Option.map (fun x => x.add 0) A) = A2 := ⟨_, rfl⟩
  rw [hA2] at hra
  simp only [hA2] at hcut
  obtain ⟨l, hl⟩ : ∃ l, sec.take stop = l := ⟨_, rfl⟩
  rw [hl] at hra HE1 HRR
  have hll : l.length = stop := by rw [← hl, List.length_take, HN.out]; omega
  have hnw := new_any (w := w1) c (hra.below HB1.out) (Nat.le_trans (Nat.le_refl _) HB1.out.size) (by rw [hll]; have := HLN.out; omega)
  rw [hll] at hnw
  have HNW := Lib.hid hnw
  have HLL := Lib.hid hll
  have HFST := Lib.hid hle1
  have h2n : stop ≤ 140737488355328 := by have := HLN.out; omega
  clear he hra hA2 hl hll hnw hle1 HE HBAD HD hb1 hb2 d1 d2
  go_upto_region 4 with (go_at_call 50; refine HNW.out.mono ?_; rintro r w2 ⟨g, v, rfl, hM2, hb2⟩; have HM2 := Lib.hid hM2; have HB2 := Lib.hid hb2; clear hM2 hb2)
  have HB02 := Lib.hid (HB1.out.trans (HB2.out.mono HB1.out.size))
  have HCT2 := Lib.hid (show CT w2 g v l (0, 0) from ⟨HM2.out.1, HF.out.up HB02.out, HZ.out.below HB02.out HZ.out.pos⟩)
  have HGG := Lib.hid (show w1.heap.size ≤ g from HM2.out.2.1)
  have HX2 := Lib.hid (HX1.out.below HB2.out HX1.out.lt)
  have HSK := Lib.hid (seek_cur HCT2.out.c first HFS.out (by rw [HLL.out]; exact h2n))
  have hsa : seekAt l 0 0 first = first := if_pos ⟨rfl, by rw [HLL.out]; exact HFST.out⟩
  have hse : seekErr l 0 first = 0 := by unfold seekErr; rw [if_pos rfl, if_pos (by rw [HLL.out]; exact HFST.out)]
  rw [hsa, hse] at HSK
  clear hsa hse p0 p1 p2 p3 p4 p5 p6 p7 hcut HNW HM2
  obtain ⟨p0, p1, p2, p3, p4, p5, p6, p7⟩ := eight_cells HX2.out
  go_upto_region 5 with (go_at_call 51; refine HSK.out.mono ?_; rintro r w3 ⟨rfl, hC3, hG3⟩; have HC3 := Lib.hid (show CT w3 g v l (first, 0) from HCT2.out.step hC3 hG3); have HX3 := Lib.hid (HX2.out.grown hG3 (fun e => by injection e with e; have := HGG.out; have := HX1.out.lt; omega)); have HB03 := Lib.hid (HB02.out.grown hG3 HB02.out.size (fun x hx => by injection hx with hx; have := HGG.out; have := HB1.out.size; omega)); clear hC3 hG3)
  clear p0 p1 p2 p3 p4 p5 p6 p7 HSK HX2 HCT2 HX1 HB02 HB2
  obtain ⟨p0, p1, p2, p3, p4, p5, p6, p7⟩ := eight_cells HX3.out
  go_upto_region 6 with fail
  have hb4 : Below w3.heap.size w3 (w3.alloc (.cells #[.pointer (some ⟨g, 0, none⟩), .slice ta tn tc, .bool wide] 132)) := (Below.refl _ _).alloc (Nat.le_refl _) _
  have hX4 := Box.new w3 132 #[.pointer (some ⟨g, 0, none⟩), .slice ta tn tc, .bool wide]
  generalize w3.alloc (.cells #[.pointer (some ⟨g, 0, none⟩), .slice ta tn tc, .bool wide] 132) = w4 at *
  have HC4 := Lib.hid (HC3.out.below hb4)
  have HB04 := Lib.hid (HB03.out.trans (hb4.mono HB03.out.size))
  have htr := tree_any HC4.out (by rw [HLL.out]; exact h2n) (HTT.out.below HB04.out) (Nat.le_trans HB1.out.size HGG.out) tc HTL.out HTI.out wide
  rw [← HRR.out, HTN.out] at htr
  have HTR := Lib.hid htr
  obtain ⟨c0, c1, c2⟩ := three_cellsR hX4
  have hsz4 := HB04.out.size
  clear hb4 hX4 htr HC3 HX3 HB03 p0 p1 p2 p3 p4 p5 p6 p7
  generalize w3.heap.size = H4 at *
  obtain ⟨L1, s5⟩ := RR
  simp only at HTR HL
  go_upto_region 7 with (go_at_call 52; refine HTR.out.mono ?_; rintro r w5 ⟨u5, L5, rfl, hO5, hM5, hN5, hC5, hG5⟩; have HO5 := Lib.hid (hO5.lower hsz4); have HM5 := Lib.hid hM5; have HN5 := Lib.hid hN5; have HC5 := Lib.hid hC5; have HB05 := Lib.hid (HB04.out.grown hG5 HB04.out.size (fun x hx => by injection hx with hx; have := HGG.out; have := HB1.out.size; omega)); clear hO5 hM5 hN5 hC5 hG5)
  obtain ⟨A5, c5, rfl⟩ := un_slc HO5.out.row
  obtain ⟨N, hNN⟩ : ∃ N, L5.length = N := ⟨_, rfl⟩
  rw [hNN] at HO5 HN5
  have HNN := Lib.hid hNN
  rw [hNN]
  have HS6 := Lib.hid (show rootS (L1, s5) = if N = 0 then sF s5 43 else s5 by
    unfold rootS
    have : (L1 = []) ↔ N = 0 := by rw [← HM5.out, List.map_eq_nil_iff, ← hNN, List.length_eq_zero_iff]
    by_cases h0 : N = 0
    · rw [if_pos h0, if_pos (this.2 h0)]
    · rw [if_neg h0, if_neg (fun e => h0 (this.1 e))])
  obtain ⟨s6, hs6⟩ : ∃ s6, rootS (L1, s5) = s6 := ⟨_, rfl⟩
  rw [hs6] at HS6 HE1
  have HFL := Lib.hid (fun W (hW : CT W g v l s5) => f_st (s := s5) hW.c 43)
  clear hs6 hNN c0 c1 c2 HTR HC4 HB04 hsz4
  go_upto_if 44 with fail
  go_cut [] (fun wx => CT wx g v l s6 ∧ OwnD 127 61 wx w.heap.size (.slice A5 N c5) L5 ∧ Below w.heap.size w wx)
  case first =>
    by_cases h0 : N = 0
    · have q : ((N : Int) == 0) = true := by simp [h0]
      have hs6 := HS6.out
      rw [if_pos h0] at hs6
      subst hs6
      clear h0
      go_wp2_with (go_at_call 54; refine (HFL.out _ HC5.out).mono ?_; rintro r w6 ⟨rfl, hC6, hG6⟩; have HC6 := Lib.hid (HC5.out.step hC6 hG6); have HO6 := Lib.hid (un_farD HO5.out hG6 HC5.out.c.1 (by decide) (by decide) (by decide)); have HB6 := Lib.hid (HB05.out.grown hG6 HB05.out.size (fun x hx => by injection hx with hx; have := HGG.out; have := HB1.out.size; omega)); clear hC6 hG6)
      go_meet
      case rel => exact ⟨HC6.out, HO6.out, HB6.out⟩
    · have q : ((N : Int) == 0) = false := by simpa using h0
      have hs6 := HS6.out
      rw [if_neg h0] at hs6
      subst hs6
      clear h0
      go_wp2_with fail
      go_meet
      case rel => exact ⟨HC5.out, HO5.out, HB05.out⟩
  case rest =>
  have HC7 := Lib.hid hcut.1
  have HO7 := Lib.hid hcut.2.1
  have HB7 := Lib.hid hcut.2.2
  have HZR := Lib.hid (zeros_any hcut.1 (by rw [HLL.out]; exact h2n))
  rw [← HE1.out] at HZR
  clear hcut HS6 HFL HC5 HO5 HB05 HE1 HRR
  go_upto_region 10 with (go_at_call 55; refine HZR.out.mono ?_; rintro r w8 ⟨rfl, ⟨s8, hs8, hC8⟩, hG8⟩; have HER := Lib.hid (by have := err_cur hC8.c; rw [hs8] at this; exact this); have HO8 := Lib.hid (un_farD HO7.out hG8 HC7.out.c.1 (by decide) (by decide) (by decide)); have HB8 := Lib.hid (HB7.out.grown hG8 HB7.out.size (fun x hx => by injection hx with hx; have := HGG.out; have := HB1.out.size; omega)); clear hC8 hG8 hs8)
  by_cases he0 : E = 0
  · have q : (E != 0) = false := by simpa using he0
    rw [if_pos he0] at HL
    have HE0 := Lib.hid he0
    clear he0
    go_wp2_with (go_at_call 56; refine HER.out.mono ?_; rintro r w9 ⟨rfl, rfl⟩)
    go_ret2
    exact ⟨_, L5, by rw [HE0.out]; rfl, HO8.out, by rw [HL.out]; exact HM5.out, by rw [HNN.out]; exact HN5.out, HB8.out⟩
  · have q : (E != 0) = true := by simpa using he0
    rw [if_neg he0] at HL
    clear he0
    go_wp2_with (go_at_call 56; refine HER.out.mono ?_; rintro r w9 ⟨rfl, rfl⟩)
    go_ret2
    exact ⟨_, [], rfl, OwnD.nil _ _ _ _, by rw [HL.out]; rfl, by decide, HB8.out⟩

end Go.Proofs.YtejicboemkpeoaaGreatDoor

namespace Go.Proofs.YtejicboemkpeoaaGreatDoor
open Go Go.RowKit

/-- The pair, the result's cell, the document's cursor. -/
structure DSt (B : Nat) (w wx : World) (g : Nat) (v : Value) (l : List UInt8) (s : CSt) (Hs Hr : Nat) (at_ f imp : Int) : Prop where
  rr : RR B wx g v l s.1 s.2
  p : Box wx Hs 125 #[.int .i64 at_, .int .i64 f, .int .i64 imp]
  r : Box wx Hr 63 #[.int .i64 0, .int .u64 0, .int .i64 0, .slice none 0 0, .string ⟨#[]⟩]
  gr : w.grownBy wx (some g)
/-- Where things are. -/
structure Apd (B : Nat) (w : World) (g Hs Hr : Nat) : Prop where
  b : B ≤ w.heap.size
  g : g < w.heap.size
  h0 : w.heap.size ≤ Hs
  h1 : w.heap.size ≤ Hr
  ne : Hs ≠ Hr
section
variable {B : Nat} {w wx wy : World} {g : Nat} {v : Value} {l : List UInt8} {s s' : CSt} {Hs Hr Hx : Nat} {at_ f imp : Int} {cs : Array Value} {b b' : Value} {bl bl' : List UInt8}
theorem DSt.call (h : DSt B w wx g v l s Hs Hr at_ f imp) (ha : Apd B w g Hs Hr) (hC : RR B wy g v l s'.1 s'.2) (hG : wx.grownBy wy (some g)) : DSt B w wy g v l s' Hs Hr at_ f imp :=
  ⟨hC, h.p.grown hG (fun e => by injection e with e; have := ha.g; have := ha.h0; omega), h.r.grown hG (fun e => by injection e with e; have := ha.g; have := ha.h1; omega), h.gr.trans hG⟩
theorem DSt.later (h : DSt B w wx g v l s Hs Hr at_ f imp) (hb : Below wx.heap.size wx wy) : DSt B w wy g v l s Hs Hr at_ f imp :=
  ⟨h.rr.below hb, h.p.below hb h.p.lt, h.r.below hb h.r.lt, h.gr.trans (only_below hb _)⟩
/-- With the value that is made. -/
structure FSt (B : Nat) (w wx : World) (g : Nat) (v : Value) (l : List UInt8) (s : CSt) (Hs Hr : Nat) (at_ f imp : Int) (Hx : Nat) (cs : Array Value) (b : Value) (bl : List UInt8) : Prop where
  d : DSt B w wx g v l s Hs Hr at_ f imp
  x : Box wx Hx 63 cs
  hx : w.heap.size ≤ Hx
  ns : Hx ≠ Hs
  nr : Hx ≠ Hr
  row : Own wx w.heap.size b bl
theorem FSt.call (h : FSt B w wx g v l s Hs Hr at_ f imp Hx cs b bl) (ha : Apd B w g Hs Hr) (hC : RR B wy g v l s'.1 s'.2) (hG : wx.grownBy wy (some g)) (hO : Own wy w.heap.size b' bl') : FSt B w wy g v l s' Hs Hr at_ f imp Hx cs b' bl' :=
  ⟨h.d.call ha hC hG, h.x.grown hG (fun e => by injection e with e; have := ha.g; have := h.hx; omega), h.hx, h.ns, h.nr, hO⟩
theorem FSt.set (h : FSt B w wx g v l s Hs Hr at_ f imp Hx cs b bl) (ha : Apd B w g Hs Hr) (i : Nat) (u : Value) : FSt B w (wx.setCell ⟨Hx, i, none⟩ u) g v l s Hs Hr at_ f imp Hx (cs.setIfInBounds i u) b bl := by
  have G : wx.grownBy (wx.setCell ⟨Hx, i, none⟩ u) (some Hx) := only_set (only_refl wx (some Hx)) i u
  exact ⟨⟨h.d.rr.grown G (fun e => by injection e with e; have := ha.g; have := h.hx; omega) (fun x hx => by injection hx with hx; have := ha.b; have := h.hx; omega), h.d.p.grown G (fun e => by injection e with e; exact h.ns e.symm), h.d.r.grown G (fun e => by injection e with e; exact h.nr e.symm), only_trans h.d.gr G (.inr fun x hx => by injection hx with hx; have := h.hx; omega)⟩,
    h.x.set i u, h.hx, h.ns, h.nr, own_pastR h.row h.x (by decide) G⟩
theorem FSt.told (h : FSt B w wx g v l s Hs Hr at_ f imp Hx cs b bl) (ha : Apd B w g Hs Hr) (v0 v1 v2 v3 v4 : Value) :
    Box (((((wx.setCell ⟨Hr, 0, none⟩ v0).setCell ⟨Hr, 1, none⟩ v1).setCell ⟨Hr, 2, none⟩ v2).setCell ⟨Hr, 3, none⟩ v3).setCell ⟨Hr, 4, none⟩ v4) Hr 63 #[v0, v1, v2, v3, v4] ∧
    RR B (((((wx.setCell ⟨Hr, 0, none⟩ v0).setCell ⟨Hr, 1, none⟩ v1).setCell ⟨Hr, 2, none⟩ v2).setCell ⟨Hr, 3, none⟩ v3).setCell ⟨Hr, 4, none⟩ v4) g v l s.1 s.2 ∧
    Own (((((wx.setCell ⟨Hr, 0, none⟩ v0).setCell ⟨Hr, 1, none⟩ v1).setCell ⟨Hr, 2, none⟩ v2).setCell ⟨Hr, 3, none⟩ v3).setCell ⟨Hr, 4, none⟩ v4) w.heap.size b bl ∧
    w.grownBy (((((wx.setCell ⟨Hr, 0, none⟩ v0).setCell ⟨Hr, 1, none⟩ v1).setCell ⟨Hr, 2, none⟩ v2).setCell ⟨Hr, 3, none⟩ v3).setCell ⟨Hr, 4, none⟩ v4) (some g) := by
  have G := five_onlyR wx Hr v0 v1 v2 v3 v4
  exact ⟨five_boxR h.d.r rfl _ _ _ _ _, h.d.rr.grown G (fun e => by injection e with e; have := ha.g; have := ha.h1; omega) (fun x hx => by injection hx with hx; have := ha.b; have := ha.h1; omega), own_pastR h.row h.d.r (by decide) G, only_trans h.d.gr G (.inr fun x hx => by injection hx with hx; have := ha.h1; omega)⟩
end
theorem ra_e {B : Nat} {w : World} {g : Nat} {v : Value} {l : List UInt8} {a : Nat} {e : Int} (h : RR B w g v l a e) : w.cell? ⟨g, 2, none⟩ = some (.int .i64 e) := cell_e h

/-- What is made by the document, ahead of the last look at the cursor. -/
def DEnd (B : Nat) (w wx : World) (g : Nat) (v : Value) (l : List UInt8) (s : CSt) (Hs Hr : Nat) (at_ f imp : Int) (Hx : Nat) (Y : RV) : Prop :=
  ∃ X : RV, ∃ A c, FSt B w wx g v l s Hs Hr at_ f imp Hx #[.int .i64 X.form, .int .u64 (X.u : Int), .int .i64 X.s, .slice A X.b.length c, .string ⟨X.t.toArray⟩] (.slice A X.b.length c) X.b ∧ (s.2 = 0 → X = Y)

set_option maxRecDepth 10000 in
set_option maxHeartbeats 6400000 in
theorem rtakeW_st {B : Nat} {w : World} {g : Nat} {v : Value} {l : List UInt8} {s : CSt} (h : RR B w g v l s.1 s.2) (hB : B ≤ w.heap.size) (hlen : l.length ≤ 140737488355000) (at_ f imp : Int) (wide : Bool) :
    Calls Tryz.prog 95 #[.pointer (some ⟨g, 0, none⟩), .agg #[.int .i64 at_, .int .i64 f, .int .i64 imp], .bool wide] w fun r w' =>
      RawIs w.heap.size w' (takeW l f imp wide s).1 r ∧ RR B w' g v l (takeW l f imp wide s).2.1 (takeW l f imp wide s).2.2 ∧ w.grownBy w' (some g) := by
  have hlen' : l.length ≤ 140737488355328 := by omega
  have HLE := Lib.hid hlen
  have HLE' := Lib.hid hlen'
  have HU := Lib.hid (fun W (hW : RR B W g v l s.1 s.2) => ru_st (s := s) hW hlen')
  have HK := Lib.hid (fun W f1 => rkind_any W f1)
  have HTW := Lib.hid (show takeW l f imp wide s = if kindF (formW l f s).1 = 0 then (zeroV, sF (formW l f s).2 41)
    else if (readW l (formW l f s).1 imp wide (formW l f s).2).2.2 = 0 then readW l (formW l f s).1 imp wide (formW l f s).2
    else (zeroV, (readW l (formW l f s).1 imp wide (formW l f s).2).2) from rfl)
  have HFW := Lib.hid (show formW l f s = if f = 22 then ((aheadW l s : Int), sU l s) else (f, s) from rfl)
  have HAW := Lib.hid (show aheadW l s = if 45 ≤ tU l s ∨ tU l s = 33 then 0 else tU l s from rfl)
  obtain ⟨f', s', hfs⟩ : ∃ f' s', formW l f s = (f', s') := ⟨_, _, rfl⟩
  rw [hfs] at HFW HTW
  simp only at HTW
  generalize takeW l f imp wide s = R at *
  generalize aheadW l s = ah at *
  generalize tU l s = m at *
  generalize sU l s = sm at *
  have HC := Lib.hid h
  have HGW := Lib.hid h.1.lt
  have HBW := Lib.hid hB
  clear h hfs hlen hlen' hB
  go_enter Tryz.func95, Tryz.ntmps95
  go_upto_region 1 with fail
  have HA := Lib.hid (show Apd B w g w.heap.size (w.heap.size + 1) from ⟨HBW.out, HGW.out, Nat.le_refl _, Nat.le_succ _, by omega⟩)
  generalize hw0 : w.alloc (.cells #[.int .i64 at_, .int .i64 f, .int .i64 imp] 125) = w0
  have hs0 : w0.heap.size = w.heap.size + 1 := by rw [← hw0]; simp
  generalize hw1 : w0.alloc (.cells #[.int .i64 0, .int .u64 0, .int .i64 0, .slice none 0 0, .string ⟨#[]⟩] 63) = w1
  have hX0 := Box.new w 125 #[.int .i64 at_, .int .i64 f, .int .i64 imp]
  rw [hw0] at hX0
  have hX1 := Box.new w0 63 #[.int .i64 0, .int .u64 0, .int .i64 0, .slice none 0 0, .string ⟨#[]⟩]
  rw [hw1, hs0] at hX1
  have hb0 : Below w.heap.size w w0 := hw0 ▸ (Below.refl _ _).alloc (Nat.le_refl _) _
  have hb1 : Below w0.heap.size w0 w1 := hw1 ▸ (Below.refl _ _).alloc (Nat.le_refl _) _
  have hb01 := hb0.trans (hb1.mono hb0.size)
  have HE := Lib.hid (show DSt B w w1 g v l s w.heap.size (w.heap.size + 1) at_ f imp from ⟨HC.out.below hb01, hX0.below hb1 hX0.lt, hX1, only_below hb01 _⟩)
  clear hw0 hs0 hw1 hX0 hX1 hb0 hb1 hb01 HGW HC HBW
  generalize hHr : w.heap.size + 1 = Hr at *
  generalize hHs : w.heap.size = Hs at HA HE ⊢
  have HHS := Lib.hid hHs
  clear hHr hHs
  obtain ⟨p0, p1, p2⟩ := three_cellsR HE.out.p
  go_upto_if 15 with fail
  go_cut [7] (fun u wx => ∃ f1 : Int, u = .int .i64 f1 ∧ Hid (f1 = f' ∨ kindF f1 = 0 ∧ kindF f' = 0) ∧ Hid (DSt B w wx g v l s' Hs Hr at_ f imp))
  case first =>
    by_cases h22 : f = 22
    · have q : (f == 22) = true := by simpa using h22
      have he := HFW.out
      rw [if_pos h22] at he
      obtain ⟨rfl, rfl⟩ := Prod.mk.inj he
      clear he h22
      go_upto_region 4 with (go_at_call 94; refine (HU.out _ HE.out.rr).mono ?_; rintro r w2 ⟨rfl, hC2, hG2⟩; have HE2 := Lib.hid (HE.out.call HA.out hC2 hG2); clear hC2 hG2)
      by_cases h100 : m < 100
      · have d : decide ((m : Int) < 100) = true := by simp; omega
        by_cases h33 : m = 33
        · have d2 : ((m : Int) != 33) = false := by simp; omega
          have ha : ah = 0 := by rw [HAW.out, if_pos (.inr h33)]
          clear h100 h33
          go_wp2_with fail
          go_meet
          case rel => exact ⟨0, rfl, Lib.hid (.inl (by rw [ha]; rfl)), HE2⟩
        · have d2 : ((m : Int) != 33) = true := by simp; omega
          have hwm : IntKind.i64.wrap (m : Int) = (m : Int) := IntWalk.i64_in _ (by omega)
          have HM := Lib.hid (show (m : Int) = (ah : Int) ∨ kindF (m : Int) = 0 ∧ kindF (ah : Int) = 0 by
            by_cases h45 : 45 ≤ m
            · right
              rw [HAW.out, if_pos (.inl h45)]
              exact ⟨by unfold kindF; rw [if_neg (by omega)], rfl⟩
            · left; rw [HAW.out, if_neg (by omega)])
          clear h100 h33
          go_wp2_with fail
          go_meet
          case rel => exact ⟨_, rfl, HM, HE2⟩
      · have d : decide ((m : Int) < 100) = false := by simp; omega
        have ha : ah = 0 := by rw [HAW.out, if_pos (.inl (by omega))]
        clear h100
        go_wp2_with fail
        go_meet
        case rel => exact ⟨0, rfl, Lib.hid (.inl (by rw [ha]; rfl)), HE2⟩
    · have q : (f == 22) = false := by simpa using h22
      have he := HFW.out
      rw [if_neg h22] at he
      obtain ⟨rfl, rfl⟩ := Prod.mk.inj he
      clear he h22
      go_wp2_with fail
      go_meet
      case rel => exact ⟨_, rfl, Lib.hid (.inl rfl), HE⟩
  case rest =>
    obtain ⟨f1, rfl, HF1, HE3⟩ := hcut
    clear p0 p1 p2 HE HFW HU HAW
    have hkk : kindF f1 = kindF f' := by
      rcases HF1.out with e | ⟨e1, e2⟩
      · rw [e]
      · rw [e1, e2]
    rw [← hkk] at HTW
    obtain ⟨p0, p1, p2⟩ := three_cellsR HE3.out.p
    obtain ⟨k, hk⟩ : ∃ k, kindF f1 = k := ⟨_, rfl⟩
    have HKK := Lib.hid hk
    rw [hk] at HTW
    clear hkk
    by_cases h0 : k = 0
    · have q : (k == 0) = true := by simpa using h0
      rw [if_pos h0] at HTW
      subst h0
      have n25 : (f1 == 25) = false := by simp only [beq_eq_false_iff_ne]; rintro rfl; exact absurd hk (by decide)
      have n33 : (f1 == 33) = false := by simp only [beq_eq_false_iff_ne]; rintro rfl; exact absurd hk (by decide)
      have n13 : (f1 == 13) = false := by simp only [beq_eq_false_iff_ne]; rintro rfl; exact absurd hk (by decide)
      have n8 : (f1 == 8) = false := by simp only [beq_eq_false_iff_ne]; rintro rfl; exact absurd hk (by decide)
      have n30 : (f1 == 30) = false := by simp only [beq_eq_false_iff_ne]; rintro rfl; exact absurd hk (by decide)
      have q9 : ((0 : Int) == 9) = false := rfl
      have q10 : ((0 : Int) == 10) = false := rfl
      have HFL := Lib.hid (rf_st (s := s') HE3.out.rr 41)
      have HNE := Lib.hid (show (sF s' 41).2 ≠ 0 from failOf_ne (by decide))
      generalize sF s' 41 = s4 at *
      have e0 : (s4.2 == 0) = false := by have := HNE.out; simpa using this
      have e1 : (s4.2 != 0) = true := by have := HNE.out; simpa using this
      clear hk
      go_upto_region 10 with (first
        | (go_at_call 105; refine (HK.out _ f1).mono ?_; rw [HKK.out]; rintro r w2 ⟨rfl, rfl⟩)
        | (go_at_call 137; refine HFL.out.mono ?_; rintro r w4 ⟨rfl, hC4, hG4⟩; have HE4 := Lib.hid (HE3.out.call HA.out hC4 hG4); clear hC4 hG4))
      go_upto_region 11 with fail
      generalize hw5 : w4.alloc (.cells #[.int .i64 f1, .int .u64 0, .int .i64 0, .slice none 0 0, .string ⟨#[]⟩] 63) = w5 at *
      have hb5 : Below w4.heap.size w4 w5 := hw5 ▸ (Below.refl _ _).alloc (Nat.le_refl _) _
      have hX5 := Box.new w4 63 #[.int .i64 f1, .int .u64 0, .int .i64 0, .slice none 0 0, .string ⟨#[]⟩]
      rw [hw5] at hX5
      have HE5 := Lib.hid (HE4.out.later hb5)
      have HFS := Lib.hid (show FSt B w w5 g v l s4 Hs Hr at_ f imp w4.heap.size #[.int .i64 f1, .int .u64 0, .int .i64 0, .slice none 0 0, .string ⟨#[]⟩] (.slice none 0 0) [] from
        ⟨HE5.out, hX5, HE4.out.gr.size, Nat.ne_of_gt HE4.out.p.lt, Nat.ne_of_gt HE4.out.r.lt, own_nilR _ _⟩)
      clear hw5 hb5 hX5
      have ce := ra_e HE5.out.rr
      obtain ⟨z0, z1, z2, z3, z4⟩ := five_cellsR HE5.out.r
      obtain ⟨y0, y1, y2, y3, y4⟩ := five_freeR HE5.out.r
      clear HE3 HE4
      generalize w4.heap.size = Hx at *
      go_wp2_with fail
      refine ret_one Tryz.underlying63 Tryz.results95 (HFS.out.told HA.out _ _ _ _ _).1 (by kernel_rfl) (by rfl) rfl ?_
      obtain ⟨-, t1, t2, t3⟩ := HFS.out.told HA.out (.int .i64 0) (.int .u64 0) (.int .i64 0) (.slice none 0 0) (.string ⟨#[]⟩)
      exact ⟨⟨none, 0, by rw [HTW.out]; rfl, by rw [HTW.out]; exact own_nilR _ _⟩, by rw [HTW.out]; exact t1, t3⟩
    · have q : (k == 0) = false := by simpa using h0
      have hff : f' = f1 := by
        rcases HF1.out with e | ⟨e1, e2⟩
        · exact e.symm
        · exact absurd (hk.symm.trans e1) h0
      subst hff
      obtain ⟨n, hfn, hn⟩ := kindF_in (f := f') (by rw [hk]; exact h0)
      subst hfn
      rw [if_neg h0] at HTW
      have HK0 := Lib.hid h0
      have HNN := Lib.hid hn
      clear h0 HF1
      obtain ⟨Y, s5, hY⟩ : ∃ Y s5, readW l (n : Int) imp wide s' = (Y, s5) := ⟨_, _, rfl⟩
      have HY := Lib.hid hY
      rw [hY] at HTW
      simp only at HTW
      have HKN := Lib.hid hk
      clear hY hk hn
      go_upto_region 10 with (go_at_call 105; refine (HK.out _ (n : Int)).mono ?_; rw [HKK.out]; rintro r w2 ⟨rfl, rfl⟩)
      go_upto_region 11 with fail
      generalize hw5 : wc.alloc (.cells #[.int .i64 (n : Int), .int .u64 0, .int .i64 0, .slice none 0 0, .string ⟨#[]⟩] 63) = w5 at *
      have hb5 : Below wc.heap.size wc w5 := hw5 ▸ (Below.refl _ _).alloc (Nat.le_refl _) _
      have hX5 := Box.new wc 63 #[.int .i64 (n : Int), .int .u64 0, .int .i64 0, .slice none 0 0, .string ⟨#[]⟩]
      rw [hw5] at hX5
      have HE5 := Lib.hid (HE3.out.later hb5)
      have HFS := Lib.hid (show FSt B w w5 g v l s' Hs Hr at_ f imp wc.heap.size #[.int .i64 (n : Int), .int .u64 0, .int .i64 0, .slice none 0 0, .string ⟨#[]⟩] (.slice none 0 0) [] from
        ⟨HE5.out, hX5, HE3.out.gr.size, Nat.ne_of_gt HE3.out.p.lt, Nat.ne_of_gt HE3.out.r.lt, own_nilR _ _⟩)
      clear hw5 hb5 hX5 HE3 HE5 p0 p1 p2
      generalize wc.heap.size = Hx at *
      obtain ⟨p0, p1, p2⟩ := three_cellsR HFS.out.d.p
      have ce := ra_e HFS.out.d.rr
      obtain ⟨a0, a1, a2, a3, a4⟩ := five_cellsR HFS.out.x
      obtain ⟨b0, b1, b2, b3, b4⟩ := five_freeR HFS.out.x
      go_upto_if 35 with fail
      go_cut [] (fun wx => DEnd B w wx g v l s5 Hs Hr at_ f imp Hx Y)
      case first =>
        by_cases h25 : n = 25
        · have q25 : ((n : Int) == 25) = true := by simp; omega
          have hy : (Y, s5) = (⟨(n : Int), 1, 0, [], []⟩, s') := by rw [← HY.out]; subst h25; rfl
          obtain ⟨rfl, rfl⟩ := Prod.mk.inj hy
          clear h25 hy
          go_wp2_with fail
          go_meet
          case rel => exact ⟨⟨(n : Int), 1, 0, [], []⟩, none, 0, HFS.out.set HA.out 1 (.int .u64 1), fun _ => rfl⟩
        have q25 : ((n : Int) == 25) = false := by simp; omega
        by_cases h33 : n = 33
        · have q33 : ((n : Int) == 33) = true := by simp; omega
          have hy : (Y, s5) = (⟨(n : Int), 0, imp, [], []⟩, s') := by rw [← HY.out]; subst h33; rfl
          obtain ⟨rfl, rfl⟩ := Prod.mk.inj hy
          clear h33 hy h25
          go_wp2_with fail
          go_meet
          case rel => exact ⟨⟨(n : Int), 0, imp, [], []⟩, none, 0, HFS.out.set HA.out 2 (.int .i64 imp), fun _ => rfl⟩
        have q33 : ((n : Int) == 33) = false := by simp; omega
        by_cases h13 : n = 13
        · have q13 : ((n : Int) == 13) = true := by simp; omega
          have hy : (Y, s5) = (⟨(n : Int), 0, tS l s', [], []⟩, sS l s') := by rw [← HY.out]; subst h13; rfl
          obtain ⟨rfl, rfl⟩ := Prod.mk.inj hy
          have HSS := Lib.hid (rs_st (s := s') HFS.out.d.rr HLE'.out)
          generalize tS l s' = tt at *
          generalize sS l s' = st at *
          clear h13 hy h25 h33
          go_wp2_with (go_at_call 138; refine HSS.out.mono ?_; rintro r w6 ⟨rfl, hC6, hG6⟩; have HF6 := Lib.hid (HFS.out.call HA.out hC6 hG6 (own_nilR _ _)); (obtain ⟨d0, d1, d2, d3, d4⟩ := five_cellsR HF6.out.x); (obtain ⟨e0, e1, e2, e3, e4⟩ := five_freeR HF6.out.x); clear hC6 hG6)
          go_meet
          case rel => exact ⟨⟨(n : Int), 0, tt, [], []⟩, none, 0, HF6.out.set HA.out 2 (.int .i64 tt), fun _ => rfl⟩
        have q13 : ((n : Int) == 13) = false := by simp; omega
        by_cases h8 : n = 8
        · have q8 : ((n : Int) == 8) = true := by simp; omega
          have hy : (Y, s5) = (⟨(n : Int), 0, 0, [], (txtW l s').1⟩, (txtW l s').2) := by rw [← HY.out]; subst h8; rfl
          obtain ⟨rfl, rfl⟩ := Prod.mk.inj hy
          have HSS := Lib.hid (show Calls Tryz.prog 139 #[.pointer (some ⟨g, 0, none⟩)] w5 fun x w' => x = .returned (.string ⟨(txtW l s').1.toArray⟩) ∧ RR B w' g v l (txtW l s').2.1 (txtW l s').2.2 ∧ w5.grownBy w' (some g) from rtake_cur HFS.out.d.rr HLE.out)
          generalize txtW l s' = tx at *
          obtain ⟨tt, st⟩ := tx
          simp only at HSS ⊢
          clear h8 hy h25 h33 h13
          go_wp2_with (go_at_call 139; refine HSS.out.mono ?_; rintro r w6 ⟨rfl, hC6, hG6⟩; have HF6 := Lib.hid (HFS.out.call HA.out hC6 hG6 (own_nilR _ _)); (obtain ⟨d0, d1, d2, d3, d4⟩ := five_cellsR HF6.out.x); (obtain ⟨e0, e1, e2, e3, e4⟩ := five_freeR HF6.out.x); clear hC6 hG6)
          go_meet
          case rel => exact ⟨⟨(n : Int), 0, 0, [], tt⟩, none, 0, HF6.out.set HA.out 4 (.string ⟨tt.toArray⟩), fun _ => rfl⟩
        have q8 : ((n : Int) == 8) = false := by simp; omega
        have HW5 := Lib.hid (show w.heap.size ≤ w5.heap.size from HFS.out.d.gr.size)
        by_cases h30 : n = 30
        · have q30 : ((n : Int) == 30) = true := by simp; omega
          have hy : (Y, s5) = (⟨(n : Int), 0, 0, nextGot l s'.1 s'.2 16, []⟩, (nextAt l s'.1 s'.2 16, nextErr l s'.1 s'.2 16)) := by rw [← HY.out]; subst h30; rfl
          obtain ⟨rfl, rfl⟩ := Prod.mk.inj hy
          have HSS := Lib.hid (show Calls Tryz.prog 140 #[.pointer (some ⟨g, 0, none⟩), .int .u64 16] w5 fun r w' => ∃ u, r = .returned u ∧ Own w' w5.heap.size u (nextGot l s'.1 s'.2 16) ∧ RR B w' g v l (nextAt l s'.1 s'.2 16) (nextErr l s'.1 s'.2 16) ∧ w5.grownBy w' (some g) from qbytes_cur HFS.out.d.rr 16 HLE'.out)
          generalize nextGot l s'.1 s'.2 16 = gt at *
          generalize nextAt l s'.1 s'.2 16 = sa at *
          generalize nextErr l s'.1 s'.2 16 = se at *
          obtain ⟨gn, hgn⟩ : ∃ gn, gt.length = gn := ⟨_, rfl⟩
          have HGN := Lib.hid hgn
          clear h30 hy h25 h33 h13 h8 hgn
          go_wp2_with (go_at_call 140; refine HSS.out.mono ?_; rintro r w6 ⟨u, rfl, hO6, hC6, hG6⟩; (obtain ⟨A6, c6, rfl, -, -, -⟩ := own_slice hO6); have HF6 := Lib.hid (HFS.out.call (s' := (sa, se)) HA.out hC6 hG6 (own_base hO6 HW5.out)); rw [HGN.out] at HF6; rw [HGN.out]; (obtain ⟨d0, d1, d2, d3, d4⟩ := five_cellsR HF6.out.x); (obtain ⟨e0, e1, e2, e3, e4⟩ := five_freeR HF6.out.x); clear hC6 hG6 hO6)
          go_meet
          case rel => exact ⟨⟨(n : Int), 0, 0, gt, []⟩, A6, c6, (by simp only [HGN.out]; exact HF6.out.set HA.out 3 (.slice A6 gn c6)), fun _ => rfl⟩
        have q30 : ((n : Int) == 30) = false := by simp; omega
        have HNM := Lib.hid (fun W (s1 : CSt) (hW : RR B W g v l s1.1 s1.2) => rnumber_st hW HLE'.out HNN.out (by rw [HKN.out]; exact HK0.out) h25 h33 h8 h30 wide)
        by_cases h9 : k = 9 ∨ k = 10
        · have q9 : (k == 9) = true ∨ (k == 9) = false ∧ (k == 10) = true := by
            rcases h9 with rfl | rfl
            · exact .inl rfl
            · exact .inr ⟨rfl, rfl⟩
          have hy : (Y, s5) = (⟨(n : Int), 0, 0, (gotW l (numW l (n : Int) wide s').1 (capW (numW l (n : Int) wide s').1 (numW l (n : Int) wide s').2)).1, []⟩, (gotW l (numW l (n : Int) wide s').1 (capW (numW l (n : Int) wide s').1 (numW l (n : Int) wide s').2)).2) := by
            rw [← HY.out]
            unfold readW
            rw [HKN.out, if_neg (by omega), if_pos h9]
            unfold blkW lenW
            rw [if_neg (by omega)]
          have HNM5 := Lib.hid (HNM.out w5 s' HFS.out.d.rr)
          generalize numW l (n : Int) wide s' = nu at *
          obtain ⟨M, s1⟩ := nu
          simp only at hy HNM5
          have HCP := Lib.hid (show capW M s1 = if 65536 < M then sF s1 3 else s1 from rfl)
          have HBY := Lib.hid (fun W (s2 : CSt) (hW : RR B W g v l s2.1 s2.2) => (show Calls Tryz.prog 140 #[.pointer (some ⟨g, 0, none⟩), .int .u64 (M : Int)] W fun r w' => ∃ u, r = .returned u ∧ Own w' W.heap.size u (gotW l M s2).1 ∧ RR B w' g v l (gotW l M s2).2.1 (gotW l M s2).2.2 ∧ W.grownBy w' (some g) from qbytes_cur hW M HLE'.out))
          have HFF := Lib.hid (fun W (hW : RR B W g v l s1.1 s1.2) => rf_st (s := s1) hW 3)
          generalize capW M s1 = s2 at *
          have HB2 := Lib.hid (fun W => HBY.out W s2)
          generalize gotW l M s2 = gt at *
          obtain ⟨gt, st⟩ := gt
          obtain ⟨rfl, rfl⟩ := Prod.mk.inj hy
          simp only at HB2
          obtain ⟨gn, hgn⟩ : ∃ gn, gt.length = gn := ⟨_, rfl⟩
          have HGN := Lib.hid hgn
          clear h9 hy h25 h33 h13 h8 h30 hgn HBY HNM
          by_cases hbig : 65536 < M
          · have d : decide ((65536 : Int) < (M : Int)) = true := by simp; omega
            rw [if_pos hbig] at HCP
            clear hbig
            rcases q9 with q9 | ⟨q9, q10⟩
            all_goals
              go_wp2_with (first
                | (go_at_call 141; refine HNM5.out.mono ?_; rintro r w6 ⟨rfl, hC6, hG6⟩; have HF6 := Lib.hid (HFS.out.call HA.out hC6 hG6 (own_nilR _ _)); clear hC6 hG6)
                | (go_at_call 137; refine (HFF.out _ HF6.out.d.rr).mono ?_; rw [← HCP.out]; rintro r w7 ⟨rfl, hC7, hG7⟩; have HF7 := Lib.hid (HF6.out.call HA.out hC7 hG7 (own_nilR _ _)); have HW7 := Lib.hid (show w.heap.size ≤ w7.heap.size from HF7.out.d.gr.size); clear hC7 hG7)
                | (go_at_call 140; refine (HB2.out _ HF7.out.d.rr).mono ?_; rintro r w8 ⟨u, rfl, hO8, hC8, hG8⟩; (obtain ⟨A8, c8, rfl, -, -, -⟩ := own_slice hO8); have HF8 := Lib.hid (HF7.out.call HA.out hC8 hG8 (own_base hO8 HW7.out)); rw [HGN.out] at HF8; rw [HGN.out]; (obtain ⟨d0, d1, d2, d3, d4⟩ := five_cellsR HF8.out.x); (obtain ⟨e0, e1, e2, e3, e4⟩ := five_freeR HF8.out.x); clear hC8 hG8 hO8))
              go_meet
              case rel => exact ⟨⟨(n : Int), 0, 0, gt, []⟩, A8, c8, (by simp only [HGN.out]; exact HF8.out.set HA.out 3 (.slice A8 gn c8)), fun _ => rfl⟩
          · have d : decide ((65536 : Int) < (M : Int)) = false := by simp; omega
            rw [if_neg hbig] at HCP
            obtain rfl := HCP.out
            clear hbig
            rcases q9 with q9 | ⟨q9, q10⟩
            all_goals
              go_wp2_with (first
                | (go_at_call 141; refine HNM5.out.mono ?_; rintro r w6 ⟨rfl, hC6, hG6⟩; have HF6 := Lib.hid (HFS.out.call HA.out hC6 hG6 (own_nilR _ _)); have HW6 := Lib.hid (show w.heap.size ≤ w6.heap.size from HF6.out.d.gr.size); clear hC6 hG6)
                | (go_at_call 140; refine (HB2.out _ HF6.out.d.rr).mono ?_; rintro r w8 ⟨u, rfl, hO8, hC8, hG8⟩; (obtain ⟨A8, c8, rfl, -, -, -⟩ := own_slice hO8); have HF8 := Lib.hid (HF6.out.call HA.out hC8 hG8 (own_base hO8 HW6.out)); rw [HGN.out] at HF8; rw [HGN.out]; (obtain ⟨d0, d1, d2, d3, d4⟩ := five_cellsR HF8.out.x); (obtain ⟨e0, e1, e2, e3, e4⟩ := five_freeR HF8.out.x); clear hC8 hG8 hO8))
              go_meet
              case rel => exact ⟨⟨(n : Int), 0, 0, gt, []⟩, A8, c8, (by simp only [HGN.out]; exact HF8.out.set HA.out 3 (.slice A8 gn c8)), fun _ => rfl⟩
        have q9 : (k == 9) = false := by simp; omega
        have q10 : (k == 10) = false := by simp; omega
        have hy : (Y, s5) = (⟨(n : Int), (numW l (n : Int) wide s').1, 0, [], []⟩, (numW l (n : Int) wide s').2) := by
          have h5 : kindF (n : Int) ≠ 5 := fun e => h8 (kind5 HNN.out e)
          have h3 : kindF (n : Int) ≠ 3 := fun e => by
            rcases kind3 HNN.out e with e | e
            · exact h13 e
            · exact h33 e
          rw [← HY.out]
          unfold readW
          rw [if_neg h5, HKN.out, if_neg h9, if_neg (by rw [← HKN.out]; exact h3)]
        by_cases he : s'.2 = 0
        · have qe : (s'.2 == 0) = true := by simpa using he
          have HNM5 := Lib.hid (HNM.out w5 s' HFS.out.d.rr)
          generalize numW l (n : Int) wide s' = nu at *
          obtain ⟨M, s1⟩ := nu
          obtain ⟨rfl, rfl⟩ := Prod.mk.inj hy
          simp only at HNM5
          clear h9 hy h25 h33 h13 h8 h30 HNM he
          go_wp2_with (go_at_call 141; refine HNM5.out.mono ?_; rintro r w6 ⟨rfl, hC6, hG6⟩; have HF6 := Lib.hid (HFS.out.call HA.out hC6 hG6 (own_nilR _ _)); (obtain ⟨d0, d1, d2, d3, d4⟩ := five_cellsR HF6.out.x); (obtain ⟨e0, e1, e2, e3, e4⟩ := five_freeR HF6.out.x); clear hC6 hG6)
          go_meet
          case rel => exact ⟨⟨(n : Int), M, 0, [], []⟩, none, 0, HF6.out.set HA.out 1 (.int .u64 (M : Int)), fun _ => rfl⟩
        · have qe : (s'.2 == 0) = false := by simpa using he
          have hs5 : s5 = s' := (Prod.mk.inj hy).2.trans (numW_ref he)
          have HSE := Lib.hid he
          subst hs5
          clear h9 hy h25 h33 h13 h8 h30 HNM he
          go_wp2_with fail
          go_meet
          case rel => exact ⟨⟨(n : Int), 0, 0, [], []⟩, none, 0, HFS.out, fun h => absurd h HSE.out⟩
      case rest =>
        obtain ⟨X, A6, c6, hF6, hX6⟩ := hcut
        have HF6 := Lib.hid hF6
        clear hF6 p0 p1 p2 ce a0 a1 a2 a3 a4 b0 b1 b2 b3 b4 HFS HY
        obtain ⟨bn, hbn⟩ : ∃ bn, X.b.length = bn := ⟨_, rfl⟩
        have HBN := Lib.hid hbn
        rw [hbn] at HF6
        clear hbn
        have ce := ra_e HF6.out.d.rr
        obtain ⟨a0, a1, a2, a3, a4⟩ := five_cellsR HF6.out.x
        obtain ⟨z0, z1, z2, z3, z4⟩ := five_cellsR HF6.out.d.r
        obtain ⟨y0, y1, y2, y3, y4⟩ := five_freeR HF6.out.d.r
        have hne := HF6.out.nr
        have hne2 := HF6.out.nr.symm
        by_cases he : s5.2 = 0
        · have q2 : (s5.2 != 0) = false := by rw [he]; rfl
          rw [if_pos he] at HTW
          obtain rfl := hX6 he
          clear he hX6
          go_wp2_with fail
          refine ret_one Tryz.underlying63 Tryz.results95 (HF6.out.told HA.out _ _ _ _ _).1 (by kernel_rfl) (by rfl) rfl ?_
          obtain ⟨-, t1, t2, t3⟩ := HF6.out.told HA.out (.int .i64 X.form) (.int .u64 (X.u : Int)) (.int .i64 X.s) (.slice A6 bn c6) (.string ⟨X.t.toArray⟩)
          refine ⟨⟨A6, c6, ?_, ?_⟩, by rw [HTW.out]; exact t1, t3⟩
          · rw [HTW.out]; simp only [HBN.out]
          · rw [HTW.out]; simp only [HBN.out]; exact t2
        · have q2 : (s5.2 != 0) = true := by simpa using he
          rw [if_neg he] at HTW
          clear he hX6
          go_wp2_with fail
          refine ret_one Tryz.underlying63 Tryz.results95 (HF6.out.told HA.out _ _ _ _ _).1 (by kernel_rfl) (by rfl) rfl ?_
          obtain ⟨-, t1, t2, t3⟩ := HF6.out.told HA.out (.int .i64 0) (.int .u64 0) (.int .i64 0) (.slice none 0 0) (.string ⟨#[]⟩)
          exact ⟨⟨none, 0, by rw [HTW.out]; rfl, by rw [HTW.out]; exact own_nilR _ _⟩, by rw [HTW.out]; exact t1, t3⟩

end Go.Proofs.YtejicboemkpeoaaGreatDoor
