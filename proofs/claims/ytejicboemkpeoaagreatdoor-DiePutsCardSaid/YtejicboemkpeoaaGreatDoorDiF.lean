/-
  The document's tree of entries (written by wip/tools/gen_dif.py).
-/
import Derived.Test.YtejicboemkpeoaaGreatDoorDiO
import Derived.Test.YtejicboemkpeoaaGreatDoorDiC
import Derived.Deep.DeepCutAuto
import Derived.Test.YtejicboemkpeoaaGreatDoorGpE
import Derived.Test.YtejicboemkpeoaaGreatDoorUnE
import Derived.Test.YtejicboemkpeoaaGreatDoorRwM
import Derived.Test.YtejicboemkpeoaaGreatDoorRoundRegion
import Derived.OrdersHeld
import Derived.Deep.RegionHeld
import Derived.WalkKit
namespace Go.Proofs.YtejicboemkpeoaaGreatDoor
open Go Go.RowKit

/-- Entries that came in. -/
structure DLay.In (y : DLay) : Prop where
  code : y.code < two64
  depth : InI y.depth
  len : y.L.length ≤ 3000
  ats : ∀ t ∈ y.L, t.In
theorem putF_no {wide : Bool} {T : List ALay} {e : Ent} {es : List Ent} {i : Nat} {b : List UInt8} {o : Int} (h : dokP wide T i o e = false) : putF wide T (e :: es) i b o = none := by
  rw [putF, if_neg (by rw [h]; decide)]
theorem putF_go {wide : Bool} {T : List ALay} {e : Ent} {es : List Ent} {i : Nat} {b : List UInt8} {o : Int} (h : dokP wide T i o e = true) : putF wide T (e :: es) i b o = putF wide T es (i + 1) (b ++ List.replicate (o - e.depth).toNat 0 ++ dentB e wide) (if kidO (abbK T e.code) = true then e.depth + 1 else e.depth) := by
  rw [putF, if_pos h]
theorem dokP_eq (wide : Bool) (T : List ALay) (i : Nat) (o : Int) (e : Ent) : dokP wide T i o e = ((abbK T e.code).isSome && ((decide (e.tag = tagO (abbK T e.code)) && ofL e.l (psO (abbK T e.code))) && (decide ((if i = 0 then 0 else 1) ≤ e.depth) && (decide (e.depth ≤ o) && rightE e.l wide)))) := by
  unfold dokP
  cases abbK T e.code <;> rfl
theorem dentB_len {e : Ent} {wide : Bool} (hc : e.code < two64) (hi : ∀ t ∈ e.l, t.In) (hl : e.l.length ≤ 3000) (hr : rightE e.l wide = true) : (dentB e wide).length ≤ 200000000 := by
  have h1 := valsB_len hi hr
  have h2 : (lebPut (sizeU e.code) (e.code : Int)).length ≤ 10 := putU_len (by unfold two64 at hc; omega)
  have h3 : e.l.length * 65600 ≤ 3000 * 65600 := Nat.mul_le_mul_right _ hl
  unfold dentB
  rw [List.length_append]
  omega

set_option maxRecDepth 10000 in
set_option maxHeartbeats 3200000 in
theorem dPut_any {w : World} (hF : Ft w) (hS : Sz w) {a : Option Addr} {L : List DLay} (h : Ents w w.heap.size a L) (c : Nat) (hl : L.length ≤ 100000) (hin : ∀ y ∈ L, y.In) {ta : Option Addr} {T : List ALay} (hT : Abbs w w.heap.size ta T) (tc : Nat) (hTl : T.length ≤ 100000) (hTin : ∀ y ∈ T, y.x.l.length ≤ 100000) (wide : Bool) :
    Calls Tryz.prog 27 #[.slice a L.length c, .slice ta T.length tc, .bool wide] w fun r w' => ∃ v, r = .returned (.tuple #[v, .int .i64 (pE (dieP wide T (L.map DLay.ent)))]) ∧ Own w' w.heap.size v (pB (dieP wide T (L.map DLay.ent))) ∧ Below w.heap.size w w' := by
  have HH := Lib.hid h
  have HIN := Lib.hid hin
  have HTT := Lib.hid hT
  have HTL := Lib.hid hTl
  have HTI := Lib.hid hTin
  have HFT := Lib.hid hF
  have HSZ := Lib.hid hS
  obtain ⟨N, hN⟩ : ∃ N, L.length = N := ⟨_, rfl⟩
  have HN := Lib.hid hN
  obtain ⟨tn, htn⟩ : ∃ tn, T.length = tn := ⟨_, rfl⟩
  have HTN := Lib.hid htn
  have HD := Lib.hid (show dieP wide T (L.map DLay.ent) = if L.map DLay.ent = [] ∨ 1000 < (L.map DLay.ent).length then none else putF wide T (L.map DLay.ent) 0 [] 0 from rfl)
  have HE := Lib.hid (show L.map DLay.ent = [] ↔ N = 0 by rw [List.map_eq_nil_iff, ← hN, List.length_eq_zero_iff])
  rw [List.length_map, hN] at HD
  rw [hN] at hl
  rw [hN, htn]
  clear h hin hT hTl hTin hF hS hN htn
  generalize dieP wide T (L.map DLay.ent) = D at *
  by_cases hbad : N = 0 ∨ 1000 < N
  · have hd : D = none := by
      rw [HD.out, if_pos]
      rcases hbad with h | h
      · exact .inl (HE.out.2 h)
      · exact .inr h
    subst hd
    rcases hbad with h0 | h0
    · subst h0
      go_enter Tryz.func27, Tryz.ntmps27
      go_wp2_with fail
      go_ret2
      exact ⟨_, rfl, own_nilR _ _, Below.refl _ _⟩
    · have q1 : ((N : Int) == 0) = false := by simp; omega
      have q2 : decide ((1000 : Int) < (N : Int)) = true := by simp; omega
      clear h0
      go_enter Tryz.func27, Tryz.ntmps27
      go_wp2_with fail
      go_ret2
      exact ⟨_, rfl, own_nilR _ _, Below.refl _ _⟩
  have hN0 : N ≠ 0 := fun e => hbad (.inl e)
  have hN1 : N ≤ 1000 := by
    rcases Nat.lt_or_ge 1000 N with h | h
    · exact absurd (.inr h) hbad
    · exact h
  have HD1 := Lib.hid (show D = putF wide T (L.map DLay.ent) 0 [] 0 by
    rw [HD.out, if_neg]
    rintro (h | h)
    · exact hN0 (HE.out.1 h)
    · omega)
  have q1 : ((N : Int) == 0) = false := by simpa using hN0
  have q2 : decide ((1000 : Int) < (N : Int)) = false := by simp; omega
  clear HD HE hbad hN0
  go_enter Tryz.func27, Tryz.ntmps27
  go_wp2_with fail
  go_loopg [8, 9, 25] N (fun gk u op i wr => ∃ (k o : Nat) (bs : List UInt8), k ≤ N ∧ gk = N - k ∧ op = .int .i64 o ∧ i = .int .i64 k ∧ o ≤ k ∧ Hid (Laid w wr w.heap.size (.slice none 0 0) u bs) ∧ Hid (bs.length ≤ k * 300000000) ∧ Hid (D = putF wide T ((L.drop k).map DLay.ent) k bs (o : Int)))
  case atStart => exact ⟨0, 0, [], Nat.zero_le _, rfl, rfl, rfl, Nat.le_refl _, Lib.hid (Laid.refl (own_nilR _ _)), Lib.hid (Nat.zero_le _), HD1⟩
  case round =>
    obtain ⟨k, o, bs, hk, rfl, rfl, rfl, ho, HL, HBL, HP⟩ := hrel
    clear HD1
    have hGB : Below w.heap.size w wr := below_of_only HL.out.2.1 (Nat.le_refl _) (fun x hx => by cases hx)
    have HGB := Lib.hid hGB
    clear hGB
    by_cases hlt : k < N
    rotate_left
    · have hd : L.drop k = [] := List.drop_eq_nil_of_le (by rw [HN.out]; omega)
      have HP2 := Lib.hid (show D = some (bs ++ List.replicate o 0) by rw [HP.out, hd]; rfl)
      have hbl : bs.length ≤ 1000 * 300000000 := Nat.le_trans HBL.out (Nat.mul_le_mul_right _ (by omega))
      have HEN := Lib.hid (ends_any HL.out.1 HGB.out.size o (by omega))
      clear hd
      go_wp2_with (go_at_call 66; refine HEN.out.mono ?_; rintro r w2 ⟨v2, rfl, hL2⟩; have HL2 := Lib.hid (HL.out.trans hL2); clear hL2)
      go_ret2
      exact ⟨_, by rw [HP2.out]; rfl, by rw [HP2.out]; exact HL2.out.1, below_of_only HL2.out.2.1 (Nat.le_refl _) (fun x hx => by cases hx)⟩
    obtain ⟨y, hy⟩ : ∃ y, L[k]? = some y := ⟨L[k]'(by rw [HN.out]; exact hlt), List.getElem?_eq_getElem _⟩
    have hdr : L.drop k = y :: L.drop (k + 1) := by
      have hkl : k < L.length := by rw [HN.out]; exact hlt
      rw [List.drop_eq_getElem_cons hkl]
      congr 1
      rw [List.getElem?_eq_getElem hkl] at hy
      injection hy
    have HPC := Lib.hid (show D = putF wide T (y.ent :: (L.drop (k + 1)).map DLay.ent) k bs (o : Int) by rw [HP.out, hdr]; rfl)
    have HNO := Lib.hid (fun (h : dokP wide T k (o : Int) y.ent = false) => HPC.out.trans (putF_no h))
    have HGO := Lib.hid (fun (h : dokP wide T k (o : Int) y.ent = true) => HPC.out.trans (putF_go h))
    have HOK := Lib.hid (dokP_eq wide T k (o : Int) y.ent)
    have HYI := Lib.hid (HIN.out y (List.mem_of_getElem? hy))
    have HYA := Lib.hid (HH.out.ats y (List.mem_of_getElem? hy))
    obtain ⟨b, oo, hao, -, c0, c1, c2, c3, c4, c5⟩ := ent_at (HH.out.below HGB.out) hy
    subst hao
    clear hy hdr HP HPC
    obtain ⟨xn, hxn⟩ : ∃ xn, y.L.length = xn := ⟨_, rfl⟩
    have HXN := Lib.hid hxn
    rw [hxn] at c5
    go_upto_region 8 with fail
    have hb1 : Below wr.heap.size wr (wr.alloc (.cells #[.int .u64 (y.off : Int), .int .u64 (y.code : Int), .int .i64 y.tag, .int .i64 y.parent, .int .i64 y.depth, .slice y.a xn y.c] 61)) := (Below.refl _ _).alloc (Nat.le_refl _) _
    have hX1 := Box.new wr 61 #[.int .u64 (y.off : Int), .int .u64 (y.code : Int), .int .i64 y.tag, .int .i64 y.parent, .int .i64 y.depth, .slice y.a xn y.c]
    generalize wr.alloc (.cells #[.int .u64 (y.off : Int), .int .u64 (y.code : Int), .int .i64 y.tag, .int .i64 y.parent, .int .i64 y.depth, .slice y.a xn y.c] 61) = w1 at *
    have HGB1 := Lib.hid (HGB.out.trans (hb1.mono HGB.out.size))
    have HL1 := Lib.hid (show Laid w w1 w.heap.size (.slice none 0 0) u8 bs from ⟨row_below HL.out.1 hb1, only_then_below HL.out.2.1 hb1, HL.out.2.2⟩)
    have HFD := Lib.hid (dfind_any (HTT.out.below HGB1.out) HGB1.out.size tc HTL.out HTI.out y.code)
    have HPL := Lib.hid (psO_len HTI.out y.code)
    rw [HTN.out] at HFD
    rw [show y.ent.code = y.code from rfl] at HOK HGO
    obtain ⟨ab, hab⟩ : ∃ ab, abbK T y.code = ab := ⟨_, rfl⟩
    rw [hab] at HFD HPL HOK HGO
    obtain ⟨pn, hpn⟩ : ∃ pn, (psO ab).length = pn := ⟨_, rfl⟩
    have HPN := Lib.hid hpn
    rw [hpn] at HFD HPL
    clear hab hpn c0 c1 c2 c3 c4 c5
    obtain ⟨p0, p1, p2, p3, p4, p5⟩ := six_cells hX1
    have HX1 := Lib.hid hX1
    clear hX1 hb1 HL HGB
    generalize wr.heap.size = H1 at *
    go_upto_region 9 with (go_at_call 63; refine HFD.out.mono ?_; rintro r w4 ⟨kc, tg, kd, sa, sc, bb, rfl, hFD, hb4⟩; have HFO := Lib.hid hFD; have HB4 := Lib.hid hb4; clear hFD hb4)
    have hX5 := Box.new w4 123 #[.int .u64 kc, .int .i64 tg, .bool kd, .slice sa pn sc]
    have hb5 : Below w4.heap.size w4 (w4.alloc (.cells #[.int .u64 kc, .int .i64 tg, .bool kd, .slice sa pn sc] 123)) := (Below.refl _ _).alloc (Nat.le_refl _) _
    generalize w4.alloc (.cells #[.int .u64 kc, .int .i64 tg, .bool kd, .slice sa pn sc] 123) = w5 at *
    have hb15 := HB4.out.trans (hb5.mono HB4.out.size)
    have HL5 := Lib.hid (show Laid w w5 w.heap.size (.slice none 0 0) u8 bs from ⟨row_below HL1.out.1 hb15, only_then_below HL1.out.2.1 hb15, HL1.out.2.2⟩)
    have HGB5 := Lib.hid (HGB1.out.trans (hb15.mono HGB1.out.size))
    have HX15 := Lib.hid (HX1.out.below hb15 HX1.out.lt)
    have HSP := Lib.hid (Row.below HFO.out.spcs (hb15.mono HGB1.out.size))
    have HX5 := Lib.hid hX5
    have hbo := HFO.out.b
    have htg := HFO.out.tag
    have HKD := Lib.hid HFO.out.kid
    subst hbo
    rw [htg] at HOK
    clear hX5 hb5 hb15 HFO HB4 HFD HX1 HL1 HGB1 p0 p1 p2 p3 p4 p5 htg
    generalize w4.heap.size = H5 at *
    obtain ⟨p0, p1, p2, p3, p4, p5⟩ := six_cells HX15.out
    obtain ⟨z0, z1, z2, z3⟩ := four_cells HX5.out
    have HOF := Lib.hid (fun W (hW : Below w5.heap.size w5 W) => (by
      have hYW := HYA.out.below (HGB5.out.trans (hW.mono HGB5.out.size))
      have := of_dany (w := W) y (hYW.more (Nat.le_trans HGB5.out.size hW.size)) (Nat.le_trans HYI.out.len (by decide)) kc tg kd (psO ab) sa sc (Row.more (Row.below (Row.below HSP.out (Below.refl _ _)) (hW.mono HGB5.out.size)) (Nat.le_trans HGB5.out.size hW.size)) (by rw [HPN.out]; exact HPL.out)
      rw [HXN.out, HPN.out] at this
      exact this : Calls Tryz.prog 64 #[.agg #[.int .u64 (y.off : Int), .int .u64 (y.code : Int), .int .i64 y.tag, .int .i64 y.parent, .int .i64 y.depth, .slice y.a xn y.c], .agg #[.int .u64 kc, .int .i64 tg, .bool kd, .slice sa pn sc]] W fun r w' => r = .returned (.bool (decide (y.tag = tg) && ofL (y.L.map AtL.att) (psO ab))) ∧ Below W.heap.size W w'))
    have hmn : min (k : Int) 1 = if k = 0 then 0 else 1 := by split <;> omega
    obtain ⟨mi, hmi⟩ : ∃ mi : Int, (if k = 0 then 0 else 1) = mi := ⟨_, rfl⟩
    have HMI := Lib.hid (show 0 ≤ mi by rw [← hmi]; split <;> decide)
    rw [hmi] at hmn HOK
    obtain ⟨b1, hb1⟩ : ∃ b, ab.isSome = b := ⟨_, rfl⟩
    obtain ⟨b2, hb2⟩ : ∃ b, (decide (y.tag = tg) && ofL (y.L.map AtL.att) (psO ab)) = b := ⟨_, rfl⟩
    obtain ⟨b3, hb3⟩ : ∃ b, decide (mi ≤ y.depth) = b := ⟨_, rfl⟩
    obtain ⟨b4, hb4⟩ : ∃ b, decide (y.depth ≤ (o : Int)) = b := ⟨_, rfl⟩
    rw [show y.ent.tag = y.tag from rfl, show y.ent.l = y.L.map AtL.att from rfl, show y.ent.depth = y.depth from rfl, hb1, hb2, hb3, hb4] at HOK
    rw [hb1]
    rw [hb2] at HOF
    have d3 : decide (y.depth < mi) = !b3 := by rw [← hb3, Bool.eq_iff_iff]; simp
    have d4 : decide ((o : Int) < y.depth) = !b4 := by rw [← hb4, Bool.eq_iff_iff]; simp
    have HB34 := Lib.hid (And.intro hb3 hb4)
    clear hb1 hb2 hb3 hb4 hmi
    rcases (by cases b1 <;> cases b2 <;> cases b3 <;> cases b4 <;> simp : b1 = false ∨ (b1 = true ∧ b2 = false) ∨ (b1 = true ∧ b2 = true ∧ b3 = false) ∨ (b1 = true ∧ b2 = true ∧ b3 = true ∧ b4 = false) ∨ (b1 = true ∧ b2 = true ∧ b3 = true ∧ b4 = true)) with rfl | ⟨rfl, rfl⟩ | ⟨rfl, rfl, rfl⟩ | ⟨rfl, rfl, rfl, rfl⟩ | ⟨rfl, rfl, rfl, rfl⟩
    rotate_right
    · simp only [Bool.not_true] at d3 d4
      have h3 := of_decide_eq_true HB34.out.1
      have h4 := of_decide_eq_true HB34.out.2
      obtain ⟨dd, hdd⟩ : ∃ dd : Nat, y.depth = (dd : Int) := ⟨y.depth.toNat, by have := HMI.out; omega⟩
      have hdo : dd ≤ o := by omega
      have HDD := Lib.hid hdd
      have HLB := Lib.hid (show bs.length ≤ 1000 * 300000000 from Nat.le_trans HBL.out (Nat.mul_le_mul_right _ (by omega)))
      rw [hdd] at HX15 p4 HOF d3 d4 ⊢
      obtain ⟨rr, hrr⟩ : ∃ rr, rightE (y.L.map AtL.att) wide = rr := ⟨_, rfl⟩
      have HRR := Lib.hid hrr
      rw [hrr] at HOK
      clear h3 h4 hdd hrr HB34 HMI
      go_upto_region 12 with (go_at_call 64; refine (HOF.out _ (Below.refl _ _)).mono ?_; rintro r w6 ⟨rfl, hb6⟩; (obtain ⟨m0, m1, m2, m3, m4, m5⟩ := six_cells (HX15.out.below hb6 HX15.out.lt)); have HX6 := Lib.hid (HX15.out.below hb6 HX15.out.lt); have HX56 := Lib.hid (HX5.out.below hb6 HX5.out.lt); have HL6 := Lib.hid (show Laid w w6 w.heap.size (.slice none 0 0) u8 bs from ⟨row_below HL5.out.1 hb6, only_then_below HL5.out.2.1 hb6, HL5.out.2.2⟩); clear hb6)
      clear p0 p1 p2 p3 p4 p5 z0 z1 z2 z3 m0 m1 m2 m3 m4 m5 HX15 HX5 HL5 d3 d4 hmn
      have h6d : Below w6.heap.size w6 w6.drew := (Below.refl _ _).drew
      have HX6d := Lib.hid HX6.out.drew
      have HL6d := Lib.hid (show Laid w w6.drew w.heap.size (.slice none 0 0) u8 bs from ⟨row_below HL6.out.1 h6d, only_then_below HL6.out.2.1 h6d, HL6.out.2.2⟩)
      have HX56d := Lib.hid HX56.out.drew
      have hsu : IntKind.i64.wrap ((o : Int) - (dd : Int)) = ((o - dd : Nat) : Int) := by rw [IntWalk.i64_in _ (by omega)]; omega
      obtain ⟨q, hq⟩ : ∃ q, o - dd = q := ⟨_, rfl⟩
      have HQ := Lib.hid hq
      have hsu2 : wrap64 ((o : Int) - (dd : Int)) = (q : Int) := by rw [← i64_wrap_eq, hsu, hq]
      rw [hq] at hsu
      have HEN := Lib.hid (ends_any HL6d.out.1 (HL6d.out.2.1.size) q (by have := HLB.out; omega))
      have HPT := Lib.hid (fun W (v' : Value) (hL : Laid w W w.heap.size (.slice none 0 0) v' (bs ++ List.replicate q 0)) => (by
        have hb7 : Below w.heap.size w W := below_of_only hL.2.1 (Nat.le_refl _) (fun x hx => by cases hx)
        have := dput1_any hL.1 hL.2.1.size (HFT.out.up hb7) (HSZ.out.below hb7 HSZ.out.pos) HFT.out.pos HSZ.out.pos y (HYA.out.below hb7) HYI.out.code HYI.out.ats HYI.out.len wide (by rw [List.length_append, List.length_replicate]; have := HLB.out; have := HQ.out; omega)
        rw [HXN.out, HRR.out, HDD.out] at this
        exact this : Calls Tryz.prog 65 #[v', .agg #[.int .u64 (y.off : Int), .int .u64 (y.code : Int), .int .i64 y.tag, .int .i64 y.parent, .int .i64 (dd : Int), .slice y.a xn y.c], .bool wide] W fun r w' => PutEnd W w.heap.size v' (bs ++ List.replicate q 0) rr (dentB y.ent wide) r w'))
      have HKX := Lib.hid (fun W (hx : Box W H1 61 #[.int .u64 (y.off : Int), .int .u64 (y.code : Int), .int .i64 y.tag, .int .i64 y.parent, .int .i64 (dd : Int), .slice y.a xn y.c]) => six_cells hx)
      clear h6d hq
      cases rr with
      | true =>
        refine wp_region_held_drew (S := fun X => X.cell? ⟨H1, 0, none⟩ = some (.int .u64 (y.off : Int)) ∧ X.cell? ⟨H1, 1, none⟩ = some (.int .u64 (y.code : Int)) ∧ X.cell? ⟨H1, 2, none⟩ = some (.int .i64 y.tag) ∧ X.cell? ⟨H1, 3, none⟩ = some (.int .i64 y.parent) ∧ X.cell? ⟨H1, 4, none⟩ = some (.int .i64 (dd : Int)) ∧ X.cell? ⟨H1, 5, none⟩ = some (.slice y.a xn y.c)) (by kernel_rfl) ?_ (fun hHeld => ?_)
        · exact HKX.out _ HX6d.out
        refine take_r (i := 0) (v := ?_) rfl (by kernel_rfl) (by kernel_rfl) (by kernel_rfl) (fun _ _ _ h => h) (Or.inl ⟨by rfl, ?_⟩) hHeld ?_
        rotate_left
        · (intro wS hSw; (try dsimp only at hSw); go_simp; (try with_reducible rfl))
        try simp only [Act.put, List.setIfInBounds_toArray, List.set_cons_zero, List.set_cons_succ]
        refine take_r (i := 1) (v := ?_) rfl (by kernel_rfl) (by kernel_rfl) (by kernel_rfl) (fun _ _ _ h => h) (Or.inl ⟨by rfl, ?_⟩) hHeld ?_
        rotate_left
        · (intro wS hSw; (try dsimp only at hSw); go_simp; (try with_reducible rfl))
        try simp only [Act.put, List.setIfInBounds_toArray, List.set_cons_zero, List.set_cons_succ]
        refine take_r (i := 2) (v := ?_) rfl (by kernel_rfl) (by kernel_rfl) (by kernel_rfl) (fun _ _ _ h => h) (Or.inl ⟨by rfl, ?_⟩) hHeld ?_
        rotate_left
        · (intro wS hSw; (try dsimp only at hSw); go_simp; (try with_reducible rfl))
        try simp only [Act.put, List.setIfInBounds_toArray, List.set_cons_zero, List.set_cons_succ]
        refine take_r (i := 3) (v := ?_) rfl (by kernel_rfl) (by kernel_rfl) (by kernel_rfl) (fun _ _ _ h => h) (Or.inl ⟨by rfl, ?_⟩) hHeld ?_
        rotate_left
        · (intro wS hSw; (try dsimp only at hSw); go_simp; (try with_reducible rfl))
        try simp only [Act.put, List.setIfInBounds_toArray, List.set_cons_zero, List.set_cons_succ]
        refine take_r (i := 4) (v := ?_) rfl (by kernel_rfl) (by kernel_rfl) (by kernel_rfl) (fun _ _ _ h => h) (Or.inl ⟨by rfl, ?_⟩) hHeld ?_
        rotate_left
        · (intro wS hSw; (try dsimp only at hSw); go_simp; (try with_reducible rfl))
        try simp only [Act.put, List.setIfInBounds_toArray, List.set_cons_zero, List.set_cons_succ]
        refine take_r (i := 6) (v := ?_) rfl (by kernel_rfl) (by kernel_rfl) (by kernel_rfl) (fun _ _ _ h => h) (Or.inl ⟨by rfl, ?_⟩) hHeld ?_
        rotate_left
        · (intro wS hSw; (try dsimp only at hSw); go_simp; (try with_reducible rfl))
        try simp only [Act.put, List.setIfInBounds_toArray, List.set_cons_zero, List.set_cons_succ]
        refine take_r (i := 7) (v := ?_) rfl (by kernel_rfl) (by kernel_rfl) (by kernel_rfl) (fun _ _ _ h => h) (Or.inl ⟨by rfl, ?_⟩) hHeld ?_
        rotate_left
        · (intro wS hSw; (try dsimp only at hSw); go_simp; (try with_reducible rfl))
        try simp only [Act.put, List.setIfInBounds_toArray, List.set_cons_zero, List.set_cons_succ]
        refine wpAnyH_ready (rs := [5]) (by kernel_rfl) (by simp) ?_
        refine ready_r rfl (fun K hK => ?_)
        go_simp
        go_wp2_with (go_at_call 66; refine HEN.out.mono ?_; rintro r w7 ⟨v7, rfl, hL7⟩; have HX7 := Lib.hid (un_box HX6d.out HL6d.out.1 (by decide) hL7.2.1); have HX57 := Lib.hid (un_box HX56d.out HL6d.out.1 (by decide) hL7.2.1); have HL7 := Lib.hid (HL6d.out.trans hL7); clear hL7)
        refine hK.out _ _ ?_ (fun hNew => ?_)
        · exact HKX.out _ HX7.out
        clear hHeld hK K
        have hHeld := hNew
        clear hNew
        refine wpAnyH_ready (rs := [8]) (by kernel_rfl) (by simp) ?_
        refine ready_r rfl (fun K hK => ?_)
        go_simp
        go_wp2_with (go_at_call 65; refine (HPT.out _ _ HL7.out).mono ?_; rintro r w8 hP8; (obtain ⟨-, v8, rfl, hL8⟩ := hP8.resolve_right (fun h => by cases h.1)); have HX8 := Lib.hid (un_box HX7.out HL7.out.1 (by decide) hL8.2.1); have HX58 := Lib.hid (un_box HX57.out HL7.out.1 (by decide) hL8.2.1); have HL8 := Lib.hid (HL7.out.trans hL8); clear hL8 hP8)
        refine hK.out _ _ ?_ (fun hNew => ?_)
        · exact HKX.out _ HX8.out
        clear hHeld hK K
        have hHeld := hNew
        clear hNew
        refine take_r (i := 9) (v := ?_) rfl (by kernel_rfl) (by kernel_rfl) (by kernel_rfl) (fun _ _ _ h => h) (Or.inl ⟨by rfl, ?_⟩) hHeld ?_
        rotate_left
        · (intro wS hSw; (try dsimp only at hSw); go_simp; (try with_reducible rfl))
        try simp only [Act.put, List.setIfInBounds_toArray, List.set_cons_zero, List.set_cons_succ]
        refine take_r (i := 10) (v := ?_) rfl (by kernel_rfl) (by kernel_rfl) (by kernel_rfl) (fun _ _ _ h => h) (Or.inl ⟨by rfl, ?_⟩) hHeld ?_
        rotate_left
        · (intro wS hSw; (try dsimp only at hSw); go_simp; (try with_reducible rfl))
        try simp only [Act.put, List.setIfInBounds_toArray, List.set_cons_zero, List.set_cons_succ]
        refine take_r (i := 11) (v := ?_) rfl (by kernel_rfl) (by kernel_rfl) (by kernel_rfl) (fun _ _ _ h => h) (Or.inl ⟨by rfl, ?_⟩) hHeld ?_
        rotate_left
        · (intro wS hSw; (try dsimp only at hSw); go_simp; (try with_reducible rfl))
        try simp only [Act.put, List.setIfInBounds_toArray, List.set_cons_zero, List.set_cons_succ]
        refine take_r (i := 12) (v := ?_) rfl (by kernel_rfl) (by kernel_rfl) (by kernel_rfl) (fun _ _ _ h => h) (Or.inl ⟨by rfl, ?_⟩) hHeld ?_
        rotate_left
        · (intro wS hSw; (try dsimp only at hSw); go_simp; (try with_reducible rfl))
        try simp only [Act.put, List.setIfInBounds_toArray, List.set_cons_zero, List.set_cons_succ]
        refine take_r (i := 13) (v := ?_) rfl (by kernel_rfl) (by kernel_rfl) (by kernel_rfl) (fun _ _ _ h => h) (Or.inl ⟨by rfl, ?_⟩) hHeld ?_
        rotate_left
        · (intro wS hSw; (try dsimp only at hSw); go_simp; (try with_reducible rfl))
        try simp only [Act.put, List.setIfInBounds_toArray, List.set_cons_zero, List.set_cons_succ]
        refine wpAnyH_done (by kernel_rfl) ?_ _
        have HPD := Lib.hid (HGO.out (by rw [HOK.out]; rfl))
        have HB8 := Lib.hid (below_of_only HL8.out.2.1 (Nat.le_refl _) (fun x hx => by cases hx))
        obtain ⟨m0, m1, m2, m3, m4, m5⟩ := six_cells HX8.out
        obtain ⟨z0, z1, z2, z3⟩ := four_cells HX58.out
        have HLN := Lib.hid (show (bs ++ List.replicate q 0 ++ dentB y.ent wide).length ≤ (k + 1) * 300000000 by
          have e1 := dentB_len (e := y.ent) (wide := wide) HYI.out.code (fun t ht => by obtain ⟨x, hx, rfl⟩ := List.mem_map.1 ht; exact (HYI.out.ats x hx).att) (by rw [show y.ent.l = y.L.map AtL.att from rfl, List.length_map]; exact HYI.out.len) HRR.out
          have e2 := HBL.out
          have e3 := HQ.out
          rw [List.length_append, List.length_append, List.length_replicate, Nat.add_mul]
          omega)
        rw [show y.ent.depth = (dd : Int) from HDD.out, show (((o : Int) - (dd : Int)).toNat) = q by have := HQ.out; omega, HKD.out] at HPD
        cases kd with
        | true =>
          have hso : IntKind.i64.wrap ((dd : Int) + 1) = ((dd + 1 : Nat) : Int) := by rw [IntWalk.i64_in _ (by omega)]; rfl
          have hso2 : wrap64 ((dd : Int) + 1) = ((dd + 1 : Nat) : Int) := by rw [← i64_wrap_eq]; exact hso
          have HPE := Lib.hid (HPD.out.trans (by rw [if_pos rfl]; rfl) : D = putF wide T ((L.drop (k + 1)).map DLay.ent) (k + 1) (bs ++ List.replicate q 0 ++ dentB y.ent wide) ((dd + 1 : Nat) : Int))
          clear HPD
          go_wp2_with fail
          go_roundg (N - (k + 1))
          case measure => omega
          case rel => exact ⟨k + 1, dd + 1, _, by omega, rfl, rfl, by go_num, Nat.succ_le_succ (Nat.le_trans hdo ho), HL8, HLN, HPE⟩
        | false =>
          have HPE := Lib.hid (HPD.out.trans (by rw [if_neg (by decide)]) : D = putF wide T ((L.drop (k + 1)).map DLay.ent) (k + 1) (bs ++ List.replicate q 0 ++ dentB y.ent wide) (dd : Int))
          clear HPD
          go_wp2_with fail
          go_roundg (N - (k + 1))
          case measure => omega
          case rel => exact ⟨k + 1, dd, _, by omega, rfl, rfl, by go_num, Nat.le_succ_of_le (Nat.le_trans hdo ho), HL8, HLN, HPE⟩
      | false =>
        refine wp_region_held_drew (S := fun X => X.cell? ⟨H1, 0, none⟩ = some (.int .u64 (y.off : Int)) ∧ X.cell? ⟨H1, 1, none⟩ = some (.int .u64 (y.code : Int)) ∧ X.cell? ⟨H1, 2, none⟩ = some (.int .i64 y.tag) ∧ X.cell? ⟨H1, 3, none⟩ = some (.int .i64 y.parent) ∧ X.cell? ⟨H1, 4, none⟩ = some (.int .i64 (dd : Int)) ∧ X.cell? ⟨H1, 5, none⟩ = some (.slice y.a xn y.c)) (by kernel_rfl) ?_ (fun hHeld => ?_)
        · exact HKX.out _ HX6d.out
        refine take_r (i := 0) (v := ?_) rfl (by kernel_rfl) (by kernel_rfl) (by kernel_rfl) (fun _ _ _ h => h) (Or.inl ⟨by rfl, ?_⟩) hHeld ?_
        rotate_left
        · (intro wS hSw; (try dsimp only at hSw); go_simp; (try with_reducible rfl))
        try simp only [Act.put, List.setIfInBounds_toArray, List.set_cons_zero, List.set_cons_succ]
        refine take_r (i := 1) (v := ?_) rfl (by kernel_rfl) (by kernel_rfl) (by kernel_rfl) (fun _ _ _ h => h) (Or.inl ⟨by rfl, ?_⟩) hHeld ?_
        rotate_left
        · (intro wS hSw; (try dsimp only at hSw); go_simp; (try with_reducible rfl))
        try simp only [Act.put, List.setIfInBounds_toArray, List.set_cons_zero, List.set_cons_succ]
        refine take_r (i := 2) (v := ?_) rfl (by kernel_rfl) (by kernel_rfl) (by kernel_rfl) (fun _ _ _ h => h) (Or.inl ⟨by rfl, ?_⟩) hHeld ?_
        rotate_left
        · (intro wS hSw; (try dsimp only at hSw); go_simp; (try with_reducible rfl))
        try simp only [Act.put, List.setIfInBounds_toArray, List.set_cons_zero, List.set_cons_succ]
        refine take_r (i := 3) (v := ?_) rfl (by kernel_rfl) (by kernel_rfl) (by kernel_rfl) (fun _ _ _ h => h) (Or.inl ⟨by rfl, ?_⟩) hHeld ?_
        rotate_left
        · (intro wS hSw; (try dsimp only at hSw); go_simp; (try with_reducible rfl))
        try simp only [Act.put, List.setIfInBounds_toArray, List.set_cons_zero, List.set_cons_succ]
        refine take_r (i := 4) (v := ?_) rfl (by kernel_rfl) (by kernel_rfl) (by kernel_rfl) (fun _ _ _ h => h) (Or.inl ⟨by rfl, ?_⟩) hHeld ?_
        rotate_left
        · (intro wS hSw; (try dsimp only at hSw); go_simp; (try with_reducible rfl))
        try simp only [Act.put, List.setIfInBounds_toArray, List.set_cons_zero, List.set_cons_succ]
        refine take_r (i := 6) (v := ?_) rfl (by kernel_rfl) (by kernel_rfl) (by kernel_rfl) (fun _ _ _ h => h) (Or.inl ⟨by rfl, ?_⟩) hHeld ?_
        rotate_left
        · (intro wS hSw; (try dsimp only at hSw); go_simp; (try with_reducible rfl))
        try simp only [Act.put, List.setIfInBounds_toArray, List.set_cons_zero, List.set_cons_succ]
        refine take_r (i := 7) (v := ?_) rfl (by kernel_rfl) (by kernel_rfl) (by kernel_rfl) (fun _ _ _ h => h) (Or.inl ⟨by rfl, ?_⟩) hHeld ?_
        rotate_left
        · (intro wS hSw; (try dsimp only at hSw); go_simp; (try with_reducible rfl))
        try simp only [Act.put, List.setIfInBounds_toArray, List.set_cons_zero, List.set_cons_succ]
        refine wpAnyH_ready (rs := [5]) (by kernel_rfl) (by simp) ?_
        refine ready_r rfl (fun K hK => ?_)
        go_simp
        go_wp2_with (go_at_call 66; refine HEN.out.mono ?_; rintro r w7 ⟨v7, rfl, hL7⟩; have HX7 := Lib.hid (un_box HX6d.out HL6d.out.1 (by decide) hL7.2.1); have HX57 := Lib.hid (un_box HX56d.out HL6d.out.1 (by decide) hL7.2.1); have HL7 := Lib.hid (HL6d.out.trans hL7); clear hL7)
        refine hK.out _ _ ?_ (fun hNew => ?_)
        · exact HKX.out _ HX7.out
        clear hHeld hK K
        have hHeld := hNew
        clear hNew
        refine wpAnyH_ready (rs := [8]) (by kernel_rfl) (by simp) ?_
        refine ready_r rfl (fun K hK => ?_)
        go_simp
        go_wp2_with (go_at_call 65; refine (HPT.out _ _ HL7.out).mono ?_; rintro r w8 hP8; (obtain ⟨-, rfl, hG8⟩ := hP8.resolve_left (fun h => by cases h.1)); have HX8 := Lib.hid (un_box HX7.out HL7.out.1 (by decide) hG8); have HG8 := Lib.hid (only_trans HL7.out.2.1 hG8 (HL7.out.2.2)); clear hG8 hP8)
        refine hK.out _ _ ?_ (fun hNew => ?_)
        · exact HKX.out _ HX8.out
        clear hHeld hK K
        have hHeld := hNew
        clear hNew
        refine take_r (i := 9) (v := ?_) rfl (by kernel_rfl) (by kernel_rfl) (by kernel_rfl) (fun _ _ _ h => h) (Or.inl ⟨by rfl, ?_⟩) hHeld ?_
        rotate_left
        · (intro wS hSw; (try dsimp only at hSw); go_simp; (try with_reducible rfl))
        try simp only [Act.put, List.setIfInBounds_toArray, List.set_cons_zero, List.set_cons_succ]
        refine take_r (i := 10) (v := ?_) rfl (by kernel_rfl) (by kernel_rfl) (by kernel_rfl) (fun _ _ _ h => h) (Or.inl ⟨by rfl, ?_⟩) hHeld ?_
        rotate_left
        · (intro wS hSw; (try dsimp only at hSw); go_simp; (try with_reducible rfl))
        try simp only [Act.put, List.setIfInBounds_toArray, List.set_cons_zero, List.set_cons_succ]
        refine take_r (i := 11) (v := ?_) rfl (by kernel_rfl) (by kernel_rfl) (by kernel_rfl) (fun _ _ _ h => h) (Or.inl ⟨by rfl, ?_⟩) hHeld ?_
        rotate_left
        · (intro wS hSw; (try dsimp only at hSw); go_simp; (try with_reducible rfl))
        try simp only [Act.put, List.setIfInBounds_toArray, List.set_cons_zero, List.set_cons_succ]
        refine take_r (i := 12) (v := ?_) rfl (by kernel_rfl) (by kernel_rfl) (by kernel_rfl) (fun _ _ _ h => h) (Or.inl ⟨by rfl, ?_⟩) hHeld ?_
        rotate_left
        · (intro wS hSw; (try dsimp only at hSw); go_simp; (try with_reducible rfl))
        try simp only [Act.put, List.setIfInBounds_toArray, List.set_cons_zero, List.set_cons_succ]
        refine take_r (i := 13) (v := ?_) rfl (by kernel_rfl) (by kernel_rfl) (by kernel_rfl) (fun _ _ _ h => h) (Or.inl ⟨by rfl, ?_⟩) hHeld ?_
        rotate_left
        · (intro wS hSw; (try dsimp only at hSw); go_simp; (try with_reducible rfl))
        try simp only [Act.put, List.setIfInBounds_toArray, List.set_cons_zero, List.set_cons_succ]
        refine wpAnyH_done (by kernel_rfl) ?_ _
        have HNN := Lib.hid (HNO.out (by rw [HOK.out]; simp))
        go_wp2_with fail
        (try rw [Exit.noGoto_ret])
        go_ret2
        exact ⟨_, by rw [HNN.out]; rfl, by rw [HNN.out]; exact own_nilR _ _, below_of_only HG8.out (Nat.le_refl _) (fun x hx => by cases hx)⟩
    all_goals
      have HNN := Lib.hid (HNO.out (by rw [HOK.out]; simp))
      (try simp only [Bool.not_true, Bool.not_false] at d3 d4)
      go_wp2_with (go_at_call 64; refine (HOF.out _ (Below.refl _ _)).mono ?_; rintro r w6 ⟨rfl, hb6⟩; (obtain ⟨m0, m1, m2, m3, m4, m5⟩ := six_cells (HX15.out.below hb6 HX15.out.lt)))
      (try rw [Exit.noGoto_ret])
      go_ret2
      exact ⟨_, by rw [HNN.out]; rfl, by rw [HNN.out]; exact own_nilR _ _, by first | exact HGB5.out.trans (hb6.mono HGB5.out.size) | exact HGB5.out⟩

end Go.Proofs.YtejicboemkpeoaaGreatDoor

namespace Go.Proofs.YtejicboemkpeoaaGreatDoor
open Go Go.RowKit

/-! ### Behind the root's end -/
theorem tB_at {l : List UInt8} {s : CSt} (h0 : s.2 = 0) (h : s.1 < l.length) : tB l s = (l[s.1]'h).toNat ∧ sB l s = (s.1 + 1, 0) := by
  have hc : s.2 = 0 ∧ 1 ≤ l.length - s.1 := ⟨h0, by omega⟩
  constructor
  · unfold tB nextGot
    rw [if_pos hc]
    rw [show (l.drop s.1).take 1 = [l[s.1]'h] by rw [List.drop_eq_getElem_cons h]; rfl]
    simp [leNat]
  · unfold sB nextAt nextErr
    rw [if_pos hc, if_pos h0, if_pos hc.2]
theorem zeroE_next {l : List UInt8} {s : CSt} (h0 : s.2 = 0) (h : s.1 < l.length) (hz : tB l s = 0) : zeroE l (sB l s) = zeroE l s := by
  obtain ⟨h1, h2⟩ := tB_at h0 h
  rw [h2]
  unfold zeroE
  have : (l[s.1]'h == 0) = true := by
    rw [h1] at hz
    rw [beq_iff_eq]
    exact UInt8.toNat_inj.1 hz
  simp only [h0, ne_eq, not_true_eq_false, if_false]
  rw [List.drop_eq_getElem_cons h, List.all_cons, this, Bool.true_and]
theorem zeroE_bad {l : List UInt8} {s : CSt} (h0 : s.2 = 0) (h : s.1 < l.length) (hz : tB l s ≠ 0) : zeroE l s = 43 := by
  obtain ⟨h1, h2⟩ := tB_at h0 h
  unfold zeroE
  rw [if_neg (by rw [h0]; simp), List.drop_eq_getElem_cons h, List.all_cons]
  have : (l[s.1]'h == 0) = false := by
    rw [beq_eq_false_iff_ne]
    intro e
    exact hz (by rw [h1, e]; rfl)
  rw [this, Bool.false_and]
  rfl
theorem zeroE_err {l : List UInt8} {s : CSt} (h : s.2 ≠ 0) : zeroE l s = s.2 := if_pos h
theorem zeroE_end {l : List UInt8} {s : CSt} (h0 : s.2 = 0) (h : l.length ≤ s.1) : zeroE l s = 0 := by
  unfold zeroE
  rw [if_neg (by rw [h0]; simp), List.drop_eq_nil_of_le h]
  rfl

set_option maxRecDepth 10000 in
set_option maxHeartbeats 1600000 in
theorem zeros_any {w : World} {g : Nat} {v : Value} {l : List UInt8} {s : CSt} (h : CT w g v l s) (hlen : l.length ≤ 140737488355328) :
    Calls Tryz.prog 55 #[.pointer (some ⟨g, 0, none⟩)] w fun x w' => x = .returned (.tuple #[]) ∧ (∃ s', s'.2 = zeroE l s ∧ CT w' g v l s') ∧ w.grownBy w' (some g) := by
  have HL := Lib.hid hlen
  have HC := Lib.hid h
  obtain ⟨E, hE⟩ : ∃ E, zeroE l s = E := ⟨_, rfl⟩
  have HE := Lib.hid hE
  rw [hE]
  clear h hlen hE
  go_enter Tryz.func55, Tryz.ntmps55
  go_wp2_with fail
  go_loopg [] (l.length - s.1) (fun gk wr => ∃ (s1 : CSt), gk = l.length - s1.1 ∧ Hid (CT wr g v l s1) ∧ Hid (w.grownBy wr (some g)) ∧ Hid (zeroE l s1 = E))
  case atStart => exact ⟨s, rfl, HC, Lib.hid (only_refl _ _), HE⟩
  case round =>
    obtain ⟨s1, rfl, HC1, HG, HE1⟩ := hrel
    clear HC HE
    have HLF := Lib.hid (left_cur HC1.out.c)
    by_cases h1 : s1.2 = 0 ∧ s1.1 < l.length
    · obtain ⟨h0, hlt⟩ := h1
      obtain ⟨b1, b2⟩ := tB_at h0 hlt
      have d : decide ((0 : Int) < (leftOf l s1.1 s1.2 : Int)) = true := by
        have : leftOf l s1.1 s1.2 = l.length - s1.1 := by unfold leftOf; rw [if_pos h0]
        rw [this]; simp; omega
      have d' : decide (0 < leftOf l s1.1 s1.2) = true := by
        have : leftOf l s1.1 s1.2 = l.length - s1.1 := by unfold leftOf; rw [if_pos h0]
        rw [this]; simp; omega
      have HU := Lib.hid (fun W (hW : CT W g v l s1) => b_st (s := s1) hW.c HL.out)
      have HN := Lib.hid (@zeroE_next l s1 h0 hlt)
      have HB := Lib.hid (@zeroE_bad l s1 h0 hlt)
      have HS := Lib.hid b2
      have HLT := Lib.hid hlt
      clear b1 b2 h0 hlt
      generalize leftOf l s1.1 s1.2 = q at *
      generalize tB l s1 = b at *
      by_cases hb : b = 0
      · have d2 : ((b : Int) != 0) = false := by simp [hb]
        have HN2 := Lib.hid (HN.out hb)
        clear hb HN HB
        go_wp2_with (first
          | (go_at_call 92; refine HLF.out.mono ?_; rintro r w2 ⟨rfl, nq, rfl⟩)
          | (go_at_call 93; refine (HU.out _ (HC1.out.below (below_drewN (Below.refl _ _) nq))).mono ?_; rintro r w3 ⟨rfl, hC3, hG3⟩; have HC3 := Lib.hid ((HC1.out.below (below_drewN (Below.refl _ _) nq)).step hC3 hG3); have HG3 := Lib.hid ((only_drewN HG.out nq).trans hG3); clear hC3 hG3))
        go_roundg (l.length - (s1.1 + 1))
        case measure => have := HLT.out; omega
        case rel => exact ⟨sB l s1, by rw [HS.out], HC3, HG3, Lib.hid (by rw [HN2.out]; exact HE1.out)⟩
      · have d2 : ((b : Int) != 0) = true := by simpa using hb
        have HB2 := Lib.hid (HB.out hb)
        have HF := Lib.hid (fun W (hW : CT W g v l (sB l s1)) => f_st (s := sB l s1) hW.c 43)
        clear hb HN HB
        go_wp2_with (first
          | (go_at_call 92; refine HLF.out.mono ?_; rintro r w2 ⟨rfl, nq, rfl⟩)
          | (go_at_call 93; refine (HU.out _ (HC1.out.below (below_drewN (Below.refl _ _) nq))).mono ?_; rintro r w3 ⟨rfl, hC3, hG3⟩; have HC3 := Lib.hid ((HC1.out.below (below_drewN (Below.refl _ _) nq)).step hC3 hG3); have HG3 := Lib.hid ((only_drewN HG.out nq).trans hG3); clear hC3 hG3)
          | (go_at_call 54; refine (HF.out _ HC3.out).mono ?_; rintro r w4 ⟨rfl, hC4, hG4⟩; have HC4 := Lib.hid (HC3.out.step hC4 hG4); have HG4 := Lib.hid (HG3.out.trans hG4); clear hC4 hG4))
        go_roundg (l.length - (s1.1 + 1))
        case measure => have := HLT.out; omega
        case rel => exact ⟨sF (sB l s1) 43, by rw [HS.out]; rfl, HC4, HG4, Lib.hid (by rw [← HE1.out, HB2.out, HS.out]; rfl)⟩
    · have d : decide ((0 : Int) < (leftOf l s1.1 s1.2 : Int)) = false := by
        have : leftOf l s1.1 s1.2 = 0 := by
          unfold leftOf
          split
          · rename_i h2
            have := mt (And.intro h2) h1
            omega
          · rfl
        rw [this]; rfl
      have d' : decide (0 < leftOf l s1.1 s1.2) = false := by simpa using d
      have HEE := Lib.hid (show s1.2 = E by
        rw [← HE1.out]
        by_cases h2 : s1.2 = 0
        · rw [zeroE_end h2 (by have := mt (And.intro h2) h1; omega), h2]
        · rw [zeroE_err h2])
      clear h1
      generalize leftOf l s1.1 s1.2 = q at *
      go_wp2_with (go_at_call 92; refine HLF.out.mono ?_; rintro r w2 ⟨rfl, nq, rfl⟩)
      go_end0
      exact ⟨rfl, ⟨s1, HEE.out, HC1.out.below (below_drewN (Below.refl _ _) nq)⟩, only_drewN HG.out nq⟩

/-! ### The tree -/
theorem entF_small {l : List UInt8} {wide : Bool} {T : List ALay} {n d : Nat} {s s' : CSt} {x : Ent × Bool} (h : entF l wide T n d s = (some x, s')) : n < 1000 ∧ d ≤ 40 ∧ x.1.code ≠ 0 := by
  obtain ⟨-, -, -, -, h0⟩ := entF_some h
  unfold entF at h
  rw [if_neg h0] at h
  split at h
  · rename_i h4
    obtain ⟨h5, -⟩ := Prod.mk.inj h
    have h6 := Option.some.inj h5
    refine ⟨?_, ?_, by rw [← h6]; exact h0⟩
    all_goals
      by_cases hb : bigQ n d = true
      · rw [entA_eq, if_pos hb] at h4
        have h7 : (sF (stO (abbK T (tU l s)) (sU l s)) 3).2 ≠ 0 := sF_ne _ (by decide)
        rw [attF_ref _ _ _ _ h7] at h4
        exact absurd h4 h7
      · unfold bigQ at hb
        simp only [Bool.or_eq_true, decide_eq_true_eq, not_or] at hb
        omega
  · cases h
theorem own_cutI {w : World} {base n c d : Nat} {t : TypeId} {A : Option Addr} {X : List Value} (h : w.ownsRow base t 1 (.slice A n c) n X) (hn : 0 < n) (hd : d ≤ n) :
    w.ownsRow base t 1 (.slice A d c) d (X.take d) ∧ ∃ g, A = some ⟨g, 0, none⟩ ∧ n ≤ c := by
  rcases h.2 with ⟨e, h0⟩ | ⟨g, cap, cur, e, hb, hg, hc, hm, hs, ht⟩
  · omega
  · injection e with e1 e2 e3
    subst e1 e3
    refine ⟨⟨by rw [List.length_take, h.1]; omega, .inr ⟨g, c, cur, rfl, hb, hg, by omega, hm, hs, ?_⟩⟩, g, rfl, hc⟩
    rw [← ht, List.take_take]
    congr 1
    omega
theorem size_ints (W : World) : (sizeOf (Tryz.prog.elem 153)).run Tryz.prog W = .ok 1 W := by kernel_rfl
set_option maxRecDepth 20000 in
theorem run_cutI (W : World) {g n c d : Nat} (hd : d ≤ c) (hc : 0 < c) : (Instr.slice 153 (.slice (some ⟨g, 0, none⟩) n c) none (some (.int .i64 (d : Int))) none).run Tryz.prog W = .ok (.slice (some ⟨g, 0, none⟩) d c) W := by
  rw [run_slice_h W _ _ _ _ Tryz.underlying153 _ _ (by omega) (by omega), size_ints]
  simp only [Result.andThen, sliced, Nat.zero_mul, Nat.sub_zero, Int.toNat_natCast]
  rw [if_neg (by omega)]
  rfl

theorem entEnd_none {w w' : World} {g : Nat} {v : Value} {l : List UInt8} {s : CSt} {x : Ending} (h : EntEnd w g v l (none, s) x w') : x = .returned (.tuple #[.agg #[.int .u64 0, .int .u64 0, .int .i64 0, .int .i64 0, .int .i64 0, .slice none 0 0], .bool false]) ∧ CT w' g v l s ∧ w.grownBy w' (some g) := by
  obtain ⟨h1, h2, ⟨-, h3⟩ | ⟨e, k, A, c, X, hx, -⟩⟩ := h
  · exact ⟨h3, h1, h2⟩
  · cases hx
theorem entEnd_some {w w' : World} {g : Nat} {v : Value} {l : List UInt8} {s : CSt} {x : Ending} {e : Ent} {k : Bool} (h : EntEnd w g v l (some (e, k), s) x w') : ∃ A c X, x = .returned (.tuple #[.agg #[.int .u64 (e.off : Int), .int .u64 (e.code : Int), .int .i64 e.tag, .int .i64 0, .int .i64 e.depth, .slice A X.length c], .bool k]) ∧ OwnT 127 w' w.heap.size (.slice A X.length c) X ∧ X.map AtL.att = e.l ∧ CT w' g v l s ∧ w.grownBy w' (some g) := by
  obtain ⟨h1, h2, ⟨hx, -⟩ | ⟨e', k', A, c, X, hx, h3, h4, h5⟩⟩ := h
  · cases hx
  · obtain ⟨rfl, rfl⟩ := Prod.mk.inj (Option.some.inj hx)
    exact ⟨A, c, X, h3, h4, h5, h1, h2⟩
/-- The loop of the tree: the cursor, the entries so far, the parents. -/
structure TreeSt (w wr : World) (g : Nat) (v : Value) (l : List UInt8) (s : CSt) (u : Value) (L : List DLay) (p : Value) (P : List Int) : Prop where
  ct : CT wr g v l s
  gr : w.grownBy wr (some g)
  o : OwnD 127 61 wr w.heap.size u L
  p : wr.ownsRow w.heap.size 3 1 p P.length (P.reverse.map (Value.int .i64))

set_option maxRecDepth 10000 in
set_option maxHeartbeats 3200000 in
theorem tree_any {w : World} {g : Nat} {v : Value} {l : List UInt8} {s : CSt} (h : CT w g v l s) (hlen : l.length ≤ 140737488355328) {B : Nat} {ta : Option Addr} {T : List ALay} (hT : Abbs w B ta T) (hB : B ≤ g) (tc : Nat) (hTl : T.length ≤ 100000) (hTin : ∀ y ∈ T, y.x.l.length ≤ 100000) (wide : Bool) :
    Calls Tryz.prog 52 #[.func (.func 53) #[drV g ta T.length tc wide] #[]] w fun x w' => ∃ u L, x = .returned u ∧ OwnD 127 61 w' w.heap.size u L ∧ L.map DLay.ent = (treeW l wide T s [] [-1]).1 ∧ L.length ≤ 1000 ∧ CT w' g v l (treeW l wide T s [] [-1]).2 ∧ w.grownBy w' (some g) := by
  obtain ⟨i1, hj1, hy0, hy1, hy2⟩ := info_parts dient_info
  obtain ⟨i2, hk1, hz0, hz1, hz2⟩ := info_parts int_info
  have HGW := Lib.hid (show g < w.heap.size from h.c.1.lt)
  have HBG := Lib.hid hB
  have HEN := Lib.hid (fun (W : World) (s1 : CSt) (n d : Nat) (hC : CT W g v l s1) (hG : w.grownBy W (some g)) => dentry_any hC hlen (hT.below (below_of_only (B := B) hG (Nat.le_trans hB (Nat.le_of_lt h.c.1.lt)) (fun x hx => by injection hx with hx; omega))) hB tc hTl hTin wide n d)
  have HF := Lib.hid h.f.pos
  have HZ := Lib.hid h.z.pos
  have hb1 := (Below.refl w.heap.size w).alloc (Nat.le_refl _) (.cells #[.int .i64 (-1)] 3)
  have HS1 := Lib.hid (show TreeSt w (w.alloc (.cells #[.int .i64 (-1)] 3)) g v l s (.slice none 0 0) [] (.slice (some ⟨w.heap.size, 0, none⟩) 1 1) [-1] from
    ⟨h.below hb1, only_below hb1 _, OwnD.nil _ _ _ _, rfl, .inr ⟨w.heap.size, 1, #[.int .i64 (-1)], rfl, Nat.le_refl _, heap_alloc_new w _, Nat.le_refl _, by decide, rfl, rfl⟩⟩)
  obtain ⟨F, hF⟩ : ∃ F, treeW l wide T s [] [-1] = F := ⟨_, rfl⟩
  have HFF := Lib.hid hF
  rw [hF]
  obtain ⟨tn, htn⟩ : ∃ tn, T.length = tn := ⟨_, rfl⟩
  rw [htn] at HEN ⊢
  clear h hlen hT hB hTl hTin htn hF hb1
  go_enter Tryz.func52, Tryz.ntmps52
  go_upto_region 3 with fail
  go_loopg [3, 4] (2 * (l.length - s.1) + 1) (fun gk u p wr => ∃ (s1 : CSt) (L : List DLay) (P : List Int) (d : Nat), gk = 2 * (l.length - s1.1) + (d + 1) ∧ P.length = d + 1 ∧ d ≤ 41 ∧ L.length ≤ 1000 ∧ Hid (TreeSt w wr g v l s1 u L p P) ∧ Hid (treeW l wide T s1 (L.map DLay.ent) P = F))
  case atStart => exact ⟨s, [], [-1], 0, rfl, rfl, by omega, by decide, HS1, HFF⟩
  case round =>
    obtain ⟨s1, L, P, d, rfl, hP, hd, hL, HS, HW⟩ := hrel
    clear HS1 HFF
    obtain ⟨p0, P, rfl⟩ : ∃ p0 P', P = p0 :: P' := by
      cases P with
      | nil => cases hP
      | cons p0 P => exact ⟨p0, P, rfl⟩
    have hP' : P.length = d := by simpa using hP
    obtain ⟨N, hN⟩ : ∃ N, L.length = N := ⟨_, rfl⟩
    have HN := Lib.hid hN
    obtain ⟨A3, c3, hu⟩ := un_slc HS.out.o.row
    have hpp := HS.out.p
    rw [hP] at hpp
    obtain ⟨A4, c4, hu4⟩ := un_slc hpp
    subst hu4
    obtain ⟨hcut, gp, rfl, hc4⟩ := own_cutI hpp (Nat.succ_pos d) (Nat.le_succ d)
    have hpc : wr.cell? ⟨gp, d, none⟩ = some (.int .i64 p0) := by
      have := World.ownsRow.cellAt (g := gp) (cap := c4) hpp d (by omega)
      rw [this, List.reverse_cons, List.map_append, List.getElem?_append_right (by simp [hP'])]
      simp [hP']
    have hct : ((p0 :: P).reverse.map (Value.int .i64)).take d = P.reverse.map (Value.int .i64) := by
      rw [List.reverse_cons, List.map_append, List.take_append_of_le_length (by simp [hP']), List.take_of_length_le (by simp [hP'])]
    rw [hct] at hcut
    have HCUT := Lib.hid hcut
    have hrc := fun W => run_cutI W (g := gp) (n := d + 1) (c := c4) (d := d) (by omega) (by omega)
    rw [hN] at hu hL
    subst hu
    have hNM : (L.map DLay.ent).length = N := by rw [List.length_map, hN]
    have HPP := Lib.hid hP'
    have HE1 := Lib.hid (HEN.out wr s1 N d HS.out.ct HS.out.gr)
    have HPO := Lib.hid hpp
    clear hpp hcut hct hP hN
    rcases hR : entF l wide T N d s1 with ⟨_ | ⟨e, k⟩, s2⟩
    · have hw1 := treeW_none (l := l) (wide := wide) (T := T) (s := s1) (s' := s2) (L := L.map DLay.ent) (P := p0 :: P) (by rw [hNM, List.length_cons, HPP.out, Nat.add_sub_cancel]; exact hR)
      rw [HW.out] at hw1
      have HW1 := Lib.hid (show F = contW l wide T s2 (L.map DLay.ent) P from hw1)
      have HMO := Lib.hid (show s1.1 ≤ s2.1 from by have := entF_mono l wide T N d s1; rw [hR] at this; exact this)
      rw [hR] at HE1
      clear hw1 hNM hR HW hP'
      go_upto_region 6 with (go_at_call 53; refine HE1.out.mono ?_; rintro r w2 hE2; (obtain ⟨rfl, hC2, hG2⟩ := entEnd_none hE2); have HC2 := Lib.hid hC2; have HG2 := Lib.hid hG2; clear hE2 hC2 hG2)
      have hb3 : Below w2.heap.size w2 (w2.alloc (.cells #[.int .u64 0, .int .u64 0, .int .i64 0, .int .i64 0, .int .i64 0, .slice none 0 0] 61)) := (Below.refl _ _).alloc (Nat.le_refl _) _
      generalize w2.alloc (.cells #[.int .u64 0, .int .u64 0, .int .i64 0, .int .i64 0, .int .i64 0, .slice none 0 0] 61) = w3 at *
      have hgr2 := HS.out.gr.trans HG2.out
      have HS3 := Lib.hid (show TreeSt w w3 g v l s2 (.slice A3 N c3) L (.slice (some ⟨gp, 0, none⟩) d c4) P from ⟨HC2.out.below hb3, only_then_below hgr2 hb3, (HS.out.o.past HG2.out HGW.out).below hb3, by rw [HPP.out]; exact row_below (rown_past HCUT.out HG2.out HGW.out) hb3⟩)
      clear hb3 hgr2 HC2 HG2 HE1 HS HCUT HPO hpc
      by_cases hd1 : d ≤ 1
      · have q : decide ((d : Int) ≤ 1) = true := by simp; omega
        have HF1 := Lib.hid (show F = (L.map DLay.ent, s2) by rw [HW1.out]; unfold contW; rw [if_pos (by rw [HPP.out]; exact hd1)])
        clear hd1
        go_wp2_with fail
        go_ret
        exact ⟨_, L, rfl, HS3.out.o, by rw [HF1.out], by rw [HN.out]; exact hL, by rw [HF1.out]; exact HS3.out.ct, HS3.out.gr⟩
      · have q : decide ((d : Int) ≤ 1) = false := by simp; omega
        have HF1 := Lib.hid (show treeW l wide T s2 (L.map DLay.ent) P = F by rw [HW1.out]; unfold contW; rw [if_neg (by rw [HPP.out]; exact hd1)])
        have HD1 := Lib.hid hd1
        clear hd1
        go_wp2_with fail
        go_roundg (2 * (l.length - s2.1) + (d - 1 + 1))
        case measure => have := HMO.out; have := HD1.out; omega
        case rel => exact ⟨s2, L, P, d - 1, rfl, by rw [HPP.out]; have := HD1.out; omega, by omega, by rw [HN.out]; exact hL, HS3, HF1⟩
    · obtain ⟨hn1000, hd40, hcode⟩ := entF_small hR
      obtain ⟨hm1, hm2, -⟩ := entF_some hR
      have HMO := Lib.hid (And.intro hm1 hm2)
      have q0 : ((e.code : Int) == 0) = false := by simpa using hcode
      have hw1 : F = contW l wide T s2 (L.map DLay.ent ++ [{ e with parent := p0 }]) (if k = true then (N : Int) :: p0 :: P else p0 :: P) := by
        rw [← HW.out]
        cases k with
        | true => exact (treeW_kids (P := p0 :: P) (by rw [hNM, List.length_cons, HPP.out, Nat.add_sub_cancel]; exact hR)).trans (by rw [hNM]; rfl)
        | false => exact treeW_leaf (P := p0 :: P) (by rw [hNM, List.length_cons, HPP.out, Nat.add_sub_cancel]; exact hR)
      have HW1 := Lib.hid hw1
      rw [hR] at HE1
      clear hw1 hNM hR HW hP' hcode hm1 hm2 HCUT hrc
      go_upto_region 5 with (go_at_call 53; refine HE1.out.mono ?_; rintro r w2 hE2; (obtain ⟨A5, c5, X5, rfl, hO5, hM5, hC2, hG2⟩ := entEnd_some hE2); have HO5 := Lib.hid hO5; have HM5 := Lib.hid hM5; have HC2 := Lib.hid hC2; have HG2 := Lib.hid hG2; clear hE2 hC2 hG2 hO5 hM5)
      obtain ⟨y, hy⟩ : ∃ y : DLay, y = ⟨e.off, e.code, e.tag, p0, e.depth, X5, A5, c5⟩ := ⟨_, rfl⟩
      have HY := Lib.hid (show y.ent = { e with parent := p0 } by rw [hy]; show Ent.mk _ _ _ _ _ _ = _; rw [HM5.out])
      have HYC := Lib.hid (show y.cells = [.int .u64 (e.off : Int), .int .u64 (e.code : Int), .int .i64 e.tag, .int .i64 p0, .int .i64 e.depth, .slice A5 X5.length c5] by rw [hy]; rfl)
      have HYO := Lib.hid (show OwnT 127 w2 w.heap.size (.slice y.a y.L.length y.c) y.L by rw [hy]; exact HO5.out.lower HS.out.gr.size)
      clear HM5 HO5 hy
      generalize X5.length = xn at *
      generalize e.off = eo at *
      generalize e.code = ec at *
      generalize e.tag = et at *
      generalize e.depth = ed at *
      go_upto_region 7 with fail
      have hb3 : Below w2.heap.size w2 (w2.alloc (.cells #[.int .u64 (eo : Int), .int .u64 (ec : Int), .int .i64 et, .int .i64 0, .int .i64 ed, .slice A5 xn c5] 61)) := (Below.refl _ _).alloc (Nat.le_refl _) _
      have hX3 := Box.new w2 61 #[.int .u64 (eo : Int), .int .u64 (ec : Int), .int .i64 et, .int .i64 0, .int .i64 ed, .slice A5 xn c5]
      generalize w2.alloc (.cells #[.int .u64 (eo : Int), .int .u64 (ec : Int), .int .i64 et, .int .i64 0, .int .i64 ed, .slice A5 xn c5] 61) = w3 at *
      have hpc3 : w3.cell? ⟨gp, d, none⟩ = some (.int .i64 p0) := by
        have := World.ownsRow.cellAt (g := gp) (cap := c4) (row_below (rown_past HPO.out HG2.out HGW.out) hb3) d (by omega)
        rw [this, List.reverse_cons, List.map_append, List.getElem?_append_right (by simp [HPP.out])]
        simp [HPP.out]
      have G : w3.grownBy (w3.setCell ⟨w2.heap.size, 3, none⟩ (.int .i64 p0)) (some w2.heap.size) := only_set (only_refl w3 _) 3 _
      have hb4 : Below w2.heap.size w2 (w3.setCell ⟨w2.heap.size, 3, none⟩ (.int .i64 p0)) := hb3.grown G hb3.size (fun x hx => by injection hx with hx; omega)
      have HX4 := Lib.hid (show Box (w3.setCell ⟨w2.heap.size, 3, none⟩ (.int .i64 p0)) w2.heap.size 61 #[.int .u64 (eo : Int), .int .u64 (ec : Int), .int .i64 et, .int .i64 p0, .int .i64 ed, .slice A5 xn c5] from by simpa using hX3.set 3 (.int .i64 p0))
      have HPQ := Lib.hid (row_below (rown_past HPO.out HG2.out HGW.out) hb4)
      have HO4 := Lib.hid ((HS.out.o.past HG2.out HGW.out).below hb4)
      have HY4 := Lib.hid (HYO.out.below hb4)
      have HC4 := Lib.hid (HC2.out.below hb4)
      have HG4 := Lib.hid (only_then_below (HS.out.gr.trans HG2.out) hb4)
      have HWX := Lib.hid (show w.heap.size ≤ (w3.setCell ⟨w2.heap.size, 3, none⟩ (.int .i64 p0)).heap.size from Nat.le_trans (HS.out.gr.trans HG2.out).size hb4.size)
      obtain ⟨z0, z1, z2, z3, z4, z5⟩ := six_cells hX3
      have f3 := hX3.free 3
      clear hpc hb3 hb4 hX3 HPO HYO HC2 HG2 HE1 HS G
      generalize w2.heap.size = H at *
      go_upto_region 8 with fail
      generalize w3.setCell ⟨H, 3, none⟩ (.int .i64 p0) = w4 at *
      clear z0 z1 z2 z3 z4 z5 f3 hpc3
      obtain ⟨z0, z1, z2, z3, z4, z5⟩ := six_cells HX4.out
      have hmx : N + 1 ≤ maxLen := by unfold maxLen; omega
      have hby : (N + 1) * 64 ≤ 140737488355328 := by omega
      have hmx2 : d + 1 + 1 ≤ maxLen := by unfold maxLen; omega
      have hby2 : (d + 1 + 1) * 8 ≤ 140737488355328 := by omega
      cases k with
      | true =>
        have HW2 := Lib.hid (show F = contW l wide T s2 (L.map DLay.ent ++ [y.ent]) ((N : Int) :: p0 :: P) from by rw [HY.out]; exact HW1.out)
        have hA5 : Below w4.heap.size w4 (w4.alloc (.cells #[.int .i64 (N : Int)] 3)) := (Below.refl _ _).alloc (Nat.le_refl _) _
        have HPA := Lib.hid (row_below HPQ.out hA5)
        have hsz5 : w.heap.size ≤ w4.heap.size + 1 := Nat.le_succ_of_le HWX.out
        go_upto_region 10 with (at_builtin; refine wpList_append_own_at _ (by rfl) (.tmp 32) (.tmp 35) _ (by rfl) w.heap.size 3 i2 _ 1 8 Tryz.underlying153 hk1 hz0 hz1 hz2 rfl (by decide) _ (d + 1) ((p0 :: P).reverse.map (Value.int .i64)) (by rfl) HPA.out ⟨w4.heap.size, 0, none⟩ 1 1 [.int .i64 (N : Int)] (by rfl) rfl (fun j u h => cells_newA w4 [.int .i64 (N : Int)] _ j u h) (by simp [Value.oneCell']) hmx2 hby2 (by simpa using hsz5) ?_; intro v6 w6 hown6 hg6 hn6 hat6; clear hn6 hat6; have HP6 := Lib.hid hown6; have HG6 := Lib.hid hg6; clear hown6 hg6)
        have HO6 := Lib.hid ((HO4.out.below hA5).apart HPA.out (by decide) (by decide) (by decide) HG6.out)
        have HY6 := Lib.hid ((HY4.out.below hA5).apart HPA.out (by decide) (by decide) HG6.out)
        have HC6 := Lib.hid ((HC4.out.below hA5).apart HPA.out (by decide) (by decide) HF.out HZ.out HG6.out)
        have HX6 := Lib.hid (un_box (HX4.out.below hA5 HX4.out.lt) HPA.out (by decide) HG6.out)
        have HG66 := Lib.hid (only_trans (only_then_below HG4.out hA5) HG6.out (.inr fun x hx => (HPA.out.lt x hx).1))
        obtain ⟨A6, c6, rfl⟩ := un_slc HP6.out
        clear z0 z1 z2 z3 z4 z5 hA5 HPA HO4 HY4 HC4 HX4 HG4 HG6 HPQ
        obtain ⟨z0, z1, z2, z3, z4, z5⟩ := six_cells HX6.out
        have hR7 := HO6.out.row
        rw [HN.out] at hR7
        have hA7 : Below w6.heap.size w6 (w6.alloc (.cells #[.int .u64 (eo : Int), .int .u64 (ec : Int), .int .i64 et, .int .i64 p0, .int .i64 ed, .slice A5 xn c5] 61)) := (Below.refl _ _).alloc (Nat.le_refl _) _
        have HRA := Lib.hid (row_below hR7 hA7)
        have HRB := Lib.hid (HO6.out.below hA7)
        have HRC := Lib.hid (HY6.out.below hA7)
        have HRD := Lib.hid (HC6.out.below hA7)
        have HRE := Lib.hid (only_then_below HG66.out hA7)
        have HRP := Lib.hid (row_below HP6.out hA7)
        have hsz7 : w.heap.size ≤ w6.heap.size + 1 := Nat.le_succ_of_le (HG66.out.size)
        have AC := Lib.hid (fun (u : Value) (hu : u ∈ ([.int .u64 (eo : Int), .int .u64 (ec : Int), .int .i64 et, .int .i64 p0, .int .i64 ed, .slice A5 xn c5] : List Value)) => (by
          rw [← HYC.out] at hu
          exact ent_one y u hu : u.oneCell' = true))
        clear hR7 hA7
        go_upto_region 11 with (at_builtin; refine wpList_append_own_at _ (by rfl) (.tmp 37) (.tmp 39) _ (by rfl) w.heap.size 61 i1 _ 6 64 Tryz.underlying48 hj1 hy0 hy1 hy2 rfl (by decide) _ N (cellsF DLay.cells L) (by rfl) HRA.out ⟨w6.heap.size, 0, none⟩ 1 1 [.int .u64 (eo : Int), .int .u64 (ec : Int), .int .i64 et, .int .i64 p0, .int .i64 ed, .slice A5 xn c5] (by rfl) rfl (fun j u h => cells_newA w6 [.int .u64 (eo : Int), .int .u64 (ec : Int), .int .i64 et, .int .i64 p0, .int .i64 ed, .slice A5 xn c5] _ j u h) AC.out hmx hby (by simpa using hsz7) ?_; intro v8 w8 hown8 hg8 hn8 hat8; clear hn8 hat8; have HO8 := Lib.hid hown8; have HG8 := Lib.hid hg8; clear hown8 hg8)
        have HON := Lib.hid (show OwnD 127 61 w8 w.heap.size v8 (L ++ [y]) from HRB.out.snoc HRC.out (by decide) (by decide) HG8.out (by rw [HN.out, HYC.out]; exact HO8.out))
        have HLN := Lib.hid (show (L ++ [y]).length = N + 1 by rw [List.length_append, HN.out]; rfl)
        have HLM := Lib.hid (show (L ++ [y]).map DLay.ent = L.map DLay.ent ++ [y.ent] by rw [List.map_append]; rfl)
        have HSN := Lib.hid (show TreeSt w w8 g v l s2 v8 (L ++ [y]) (.slice A6 (d + 1 + 1) c6) ((N : Int) :: p0 :: P) from ⟨HRD.out.apart HRA.out (by decide) (by decide) HF.out HZ.out HG8.out, only_trans HRE.out HG8.out (.inr fun x hx => (HRA.out.lt x hx).1), HON.out, by
          have := own_apart HRP.out HRA.out (by decide) HG8.out
          rw [show ((N : Int) :: p0 :: P).length = d + 1 + 1 by simp [HPP.out], List.reverse_cons, List.map_append]
          exact this⟩)
        have HF1 := Lib.hid (show treeW l wide T s2 ((L ++ [y]).map DLay.ent) ((N : Int) :: p0 :: P) = F by rw [HLM.out, HW2.out]; unfold contW; rw [if_neg (by simp)])
        have q1 : decide ((d : Int) + 1 + 1 ≤ 1) = false := by simp; omega
        clear HG8 HO8 HRA HRB HRC HRD HRE HRP HW1 HW2 HP6 HO6 HY6 HC6 HX6 HG66
        go_wp2_with fail
        go_roundg (2 * (l.length - s2.1) + (d + 1 + 1))
        case measure => have := HMO.out; omega
        case rel => exact ⟨s2, L ++ [y], (N : Int) :: p0 :: P, d + 1, rfl, by simp [HPP.out], by omega, by rw [HLN.out]; omega, HSN, HF1⟩
      | false =>
        have HW2 := Lib.hid (show F = contW l wide T s2 (L.map DLay.ent ++ [y.ent]) (p0 :: P) from by rw [HY.out]; exact HW1.out)
        have HO6 := HO4
        have HY6 := HY4
        have HC6 := HC4
        have HG66 := HG4
        have HP6 := HPQ
        generalize hw46 : w4 = w6 at *
        clear hw46
        go_upto_region 10 with fail
        have hR7 := HO6.out.row
        rw [HN.out] at hR7
        have hA7 : Below w6.heap.size w6 (w6.alloc (.cells #[.int .u64 (eo : Int), .int .u64 (ec : Int), .int .i64 et, .int .i64 p0, .int .i64 ed, .slice A5 xn c5] 61)) := (Below.refl _ _).alloc (Nat.le_refl _) _
        have HRA := Lib.hid (row_below hR7 hA7)
        have HRB := Lib.hid (HO6.out.below hA7)
        have HRC := Lib.hid (HY6.out.below hA7)
        have HRD := Lib.hid (HC6.out.below hA7)
        have HRE := Lib.hid (only_then_below HG66.out hA7)
        have HRP := Lib.hid (row_below HP6.out hA7)
        have hsz7 : w.heap.size ≤ w6.heap.size + 1 := Nat.le_succ_of_le (HG66.out.size)
        have AC := Lib.hid (fun (u : Value) (hu : u ∈ ([.int .u64 (eo : Int), .int .u64 (ec : Int), .int .i64 et, .int .i64 p0, .int .i64 ed, .slice A5 xn c5] : List Value)) => (by
          rw [← HYC.out] at hu
          exact ent_one y u hu : u.oneCell' = true))
        clear hR7 hA7
        go_upto_region 11 with (at_builtin; refine wpList_append_own_at _ (by rfl) (.tmp 37) (.tmp 39) _ (by rfl) w.heap.size 61 i1 _ 6 64 Tryz.underlying48 hj1 hy0 hy1 hy2 rfl (by decide) _ N (cellsF DLay.cells L) (by rfl) HRA.out ⟨w6.heap.size, 0, none⟩ 1 1 [.int .u64 (eo : Int), .int .u64 (ec : Int), .int .i64 et, .int .i64 p0, .int .i64 ed, .slice A5 xn c5] (by rfl) rfl (fun j u h => cells_newA w6 [.int .u64 (eo : Int), .int .u64 (ec : Int), .int .i64 et, .int .i64 p0, .int .i64 ed, .slice A5 xn c5] _ j u h) AC.out hmx hby (by simpa using hsz7) ?_; intro v8 w8 hown8 hg8 hn8 hat8; clear hn8 hat8; have HO8 := Lib.hid hown8; have HG8 := Lib.hid hg8; clear hown8 hg8)
        have HON := Lib.hid (show OwnD 127 61 w8 w.heap.size v8 (L ++ [y]) from HRB.out.snoc HRC.out (by decide) (by decide) HG8.out (by rw [HN.out, HYC.out]; exact HO8.out))
        have HLN := Lib.hid (show (L ++ [y]).length = N + 1 by rw [List.length_append, HN.out]; rfl)
        have HLM := Lib.hid (show (L ++ [y]).map DLay.ent = L.map DLay.ent ++ [y.ent] by rw [List.map_append]; rfl)
        have HSN := Lib.hid (show TreeSt w w8 g v l s2 v8 (L ++ [y]) (.slice (some ⟨gp, 0, none⟩) (d + 1) c4) (p0 :: P) from ⟨HRD.out.apart HRA.out (by decide) (by decide) HF.out HZ.out HG8.out, only_trans HRE.out HG8.out (.inr fun x hx => (HRA.out.lt x hx).1), HON.out, by
          have := own_apart HRP.out HRA.out (by decide) HG8.out
          rw [show (p0 :: P).length = d + 1 by simp [HPP.out]]
          exact this⟩)
        clear HG8 HO8 HRA HRB HRC HRD HRE HRP HW1 HP6 HO6 HY6 HC6 HG66 HO4 HY4 HC4 HX4 HG4 HPQ
        by_cases hd1 : d = 0
        · have q1 : decide ((d : Int) + 1 ≤ 1) = true := by simp; omega
          have HF1 := Lib.hid (show F = ((L ++ [y]).map DLay.ent, s2) by rw [HLM.out, HW2.out]; unfold contW; rw [if_pos (by simp [HPP.out]; omega)])
          clear hd1 HW2
          go_wp2_with fail
          go_ret
          exact ⟨_, L ++ [y], rfl, HSN.out.o, by rw [HF1.out], by rw [HLN.out]; omega, by rw [HF1.out]; exact HSN.out.ct, HSN.out.gr⟩
        · have q1 : decide ((d : Int) + 1 ≤ 1) = false := by simp; omega
          have HF1 := Lib.hid (show treeW l wide T s2 ((L ++ [y]).map DLay.ent) (p0 :: P) = F by rw [HLM.out, HW2.out]; unfold contW; rw [if_neg (by simp [HPP.out]; omega)])
          clear hd1 HW2
          go_wp2_with fail
          go_roundg (2 * (l.length - s2.1) + (d + 1))
          case measure => have := HMO.out; omega
          case rel => exact ⟨s2, L ++ [y], p0 :: P, d, rfl, by simp [HPP.out], by omega, by rw [HLN.out]; omega, HSN, HF1⟩

end Go.Proofs.YtejicboemkpeoaaGreatDoor

namespace Go.Proofs.YtejicboemkpeoaaGreatDoor
open Go Go.RowKit

/-- What is told of all entries. -/
def DieEnd (T TE : TypeId) (w : World) (E : Int) (R : List Ent) (x : Ending) (w' : World) : Prop :=
  ∃ u L, x = .returned (.tuple #[u, .int .i64 E]) ∧ OwnD T TE w' w.heap.size u L ∧ L.map DLay.ent = R ∧ L.length ≤ 1000 ∧ Below w.heap.size w w'
theorem dieE_bad {l : List UInt8} {wide : Bool} {T : List ALay} {first stop : Nat} (h : stop < first ∨ l.length < stop) : dieE l wide T first stop = 2 ∧ dieL l wide T first stop = [] := by
  have h1 : dieE l wide T first stop = 2 := if_pos h
  exact ⟨h1, by unfold dieL; rw [if_neg (by rw [h1]; decide)]⟩
theorem un_farT {T T' : TypeId} {X X' : World} {B g : Nat} {v : Value} {L : List AtL} {cs : Array Value} (h : OwnT T X B v L) (hg : X.grownBy X' (some g)) (hX : Box X g T' cs) (h1 : T' ≠ T) (h2 : T' ≠ 5) : OwnT T X' B v L :=
  ⟨un_far h.row hg hX h1, fun t ht => un_far (h.bs t ht) hg hX h2⟩
theorem un_farD {T TE T' : TypeId} {X X' : World} {B g : Nat} {v : Value} {L : List DLay} {cs : Array Value} (h : OwnD T TE X B v L) (hg : X.grownBy X' (some g)) (hX : Box X g T' cs) (h0 : T' ≠ TE) (h1 : T' ≠ T) (h2 : T' ≠ 5) : OwnD T TE X' B v L :=
  ⟨un_far h.row hg hX h0, fun y hy => un_farT (h.ats y hy) hg hX h1 h2⟩
set_option maxRecDepth 20000 in
theorem cut_u64 (W : World) {A : Option Addr} {n c d : Nat} (hd : d ≤ c) : (Instr.slice 26 (.slice A n c) none (some (.int .u64 (d : Int))) none).run Tryz.prog W = .ok (.slice (if c = 0 then A else Option.map (fun x => x.add 0) A) d c) W := by
  rw [run_slice_h W _ _ _ _ Tryz.underlying26 _ _ (by omega) (by omega), size_u8]
  simp only [Result.andThen, sliced, Nat.zero_mul, Nat.sub_zero, Int.toNat_natCast]
theorem rd_ahead {w : World} {B : Nat} {A : Option Addr} {l : List UInt8} (h : Rd w B A l) (c d : Nat) : Rd w B (if c = 0 then A else Option.map (fun x => x.add 0) A) (l.take d) := by
  have := rd_cut h 0 d
  rw [List.drop_zero] at this
  split
  · intro hl
    obtain ⟨b, o, e, hb, hc⟩ := this hl
    have hll : 0 < l.length := by simp at hl; omega
    obtain ⟨b', o', e', -⟩ := h hll
    subst e'
    simp only [Option.map_some, addr_add, Nat.add_zero] at e
    exact ⟨b, o, e, hb, hc⟩
  · exact this

set_option maxRecDepth 10000 in
set_option maxHeartbeats 3200000 in
theorem dtake_any {w : World} {A : Option Addr} {sec : List UInt8} (hF : Ft w) (hZ : Sz w) (hr : Rd w w.heap.size A sec) (c : Nat) (hlc : sec.length ≤ c) (hlen : sec.length ≤ 140737488355328) {ta : Option Addr} {T : List ALay} (hT : Abbs w w.heap.size ta T) (tc : Nat) (hTl : T.length ≤ 100000) (hTin : ∀ y ∈ T, y.x.l.length ≤ 100000) (y : UHd) (hfs : y.first < two64) :
    Calls Tryz.prog 17 #[.slice A sec.length c, .agg #[.int .i64 y.kind, .bool y.wide, .int .u64 (y.ab : Int), .int .u64 (y.sig : Int), .int .u64 (y.ty : Int), .int .u64 (y.off : Int), .int .u64 (y.first : Int), .int .u64 (y.stop : Int)], .slice ta T.length tc] w fun x w' =>
      DieEnd 127 61 w (dieE sec y.wide T y.first y.stop) (dieL sec y.wide T y.first y.stop) x w' := by
  have hmf : ∀ (fn : Fn) (first cap : Array Value) (W : World), (Instr.makeFunc fn first cap).run Tryz.prog W = .ok (.func fn first cap) W := fun _ _ _ _ => rfl
  have HF := Lib.hid hF
  have HZ := Lib.hid hZ
  have HR := Lib.hid hr
  have HTT := Lib.hid hT
  have HTL := Lib.hid hTl
  have HTI := Lib.hid hTin
  have HLC := Lib.hid hlc
  have HLN := Lib.hid hlen
  have HBAD := Lib.hid (@dieE_bad sec y.wide T y.first y.stop)
  have HE := Lib.hid (show dieE sec y.wide T y.first y.stop = if y.stop < y.first ∨ sec.length < y.stop then 2 else zeroE (sec.take y.stop) (rootS (dieR sec y.wide T y.first y.stop)) from rfl)
  have HL := Lib.hid (show dieL sec y.wide T y.first y.stop = if dieE sec y.wide T y.first y.stop = 0 then (dieR sec y.wide T y.first y.stop).1 else [] from rfl)
  have HRR := Lib.hid (show dieR sec y.wide T y.first y.stop = treeW (sec.take y.stop) y.wide T (y.first, 0) [] [-1] from rfl)
  have hb1 := (Below.refl w.heap.size w).alloc (Nat.le_refl _) (.cells #[.int .i64 y.kind, .bool y.wide, .int .u64 (y.ab : Int), .int .u64 (y.sig : Int), .int .u64 (y.ty : Int), .int .u64 (y.off : Int), .int .u64 (y.first : Int), .int .u64 (y.stop : Int)] 51)
  have HX1 := Lib.hid (Box.new w 51 #[.int .i64 y.kind, .bool y.wide, .int .u64 (y.ab : Int), .int .u64 (y.sig : Int), .int .u64 (y.ty : Int), .int .u64 (y.off : Int), .int .u64 (y.first : Int), .int .u64 (y.stop : Int)])
  have HB1 := Lib.hid hb1
  have HFS := Lib.hid hfs
  clear hF hZ hr hT hTl hTin hlc hlen hb1 hfs
  generalize dieE sec y.wide T y.first y.stop = E at *
  generalize dieL sec y.wide T y.first y.stop = R at *
  generalize dieR sec y.wide T y.first y.stop = RR at *
  obtain ⟨tn, htn⟩ : ∃ tn, T.length = tn := ⟨_, rfl⟩
  have HTN := Lib.hid htn
  obtain ⟨n, hn⟩ : ∃ n, sec.length = n := ⟨_, rfl⟩
  have HN := Lib.hid hn
  rw [hn] at HE HBAD HLC HLN
  rw [htn, hn]
  have s1 : IntKind.u64.wrap (n : Int) = (n : Int) := by rw [IntWalk.u64_in _ (by have := HLN.out; omega)]
  clear htn hn
  generalize y.kind = x0 at *
  generalize y.wide = wide at *
  generalize y.ab = x2 at *
  generalize y.sig = x3 at *
  generalize y.ty = x4 at *
  generalize y.off = x5 at *
  generalize y.first = first at *
  generalize y.stop = stop at *
  obtain ⟨b1, hb1⟩ : ∃ b, decide (stop < first) = b := ⟨_, rfl⟩
  obtain ⟨b2, hb2⟩ : ∃ b, decide (n < stop) = b := ⟨_, rfl⟩
  have d1 : decide ((stop : Int) < (first : Int)) = b1 := by rw [← hb1, Bool.eq_iff_iff]; simp
  have d2 : decide ((n : Int) < (stop : Int)) = b2 := by rw [← hb2, Bool.eq_iff_iff]; simp
  have HD := Lib.hid (And.intro hb1 hb2)
  go_enter Tryz.func17, Tryz.ntmps17
  go_upto_region 1 with fail
  generalize w.alloc (.cells #[.int .i64 x0, .bool wide, .int .u64 (x2 : Int), .int .u64 (x3 : Int), .int .u64 (x4 : Int), .int .u64 (x5 : Int), .int .u64 (first : Int), .int .u64 (stop : Int)] 51) = w1 at *
  generalize hHx : w.heap.size = Hx at HX1 ⊢
  have HHX := Lib.hid hHx
  clear hHx
  obtain ⟨p0, p1, p2, p3, p4, p5, p6, p7⟩ := eight_cells HX1.out
  rcases (by cases b1 <;> cases b2 <;> simp : b1 = true ∨ (b1 = false ∧ b2 = true) ∨ (b1 = false ∧ b2 = false)) with rfl | ⟨rfl, rfl⟩ | ⟨rfl, rfl⟩
  · obtain ⟨e1, e2⟩ := HBAD.out (.inl (of_decide_eq_true HD.out.1))
    subst e1 e2
    go_wp2_with fail
    go_ret2
    exact ⟨_, [], rfl, OwnD.nil _ _ _ _, rfl, by decide, HB1.out⟩
  · obtain ⟨e1, e2⟩ := HBAD.out (.inr (of_decide_eq_true HD.out.2))
    subst e1 e2
    go_wp2_with fail
    go_ret2
    exact ⟨_, [], rfl, OwnD.nil _ _ _ _, rfl, by decide, HB1.out⟩
  have hle1 : first ≤ stop := by have := of_decide_eq_false HD.out.1; omega
  have hle2 : stop ≤ n := by have := of_decide_eq_false HD.out.2; omega
  have he := HE.out
  rw [if_neg (by omega)] at he
  have HE1 := Lib.hid he
  have hcut := fun W => cut_u64 W (A := A) (n := n) (c := c) (d := stop) (Nat.le_trans hle2 HLC.out)
  have hra := rd_ahead HR.out c stop
  obtain ⟨A2, hA2⟩ : ∃ A2, (if c = 0 then A else Option.map (fun x => x.add 0) A) = A2 := ⟨_, rfl⟩
  rw [hA2] at hra
  simp only [hA2] at hcut
  obtain ⟨l, hl⟩ : ∃ l, sec.take stop = l := ⟨_, rfl⟩
  rw [hl] at hra HE1 HRR
  have hll : l.length = stop := by rw [← hl, List.length_take, HN.out]; omega
  have hnw := new_any (w := w1) c (hra.below HB1.out) (Nat.le_trans (Nat.le_refl _) HB1.out.size) (by rw [hll]; have := HLN.out; omega)
  rw [hll] at hnw
  have HNW := Lib.hid hnw
  have HLL := Lib.hid hll
  have HFST := Lib.hid hle1
  have h2n : stop ≤ 140737488355328 := by have := HLN.out; omega
  clear he hra hA2 hl hll hnw hle1 HE HBAD HD hb1 hb2 d1 d2
  go_upto_region 4 with (go_at_call 50; refine HNW.out.mono ?_; rintro r w2 ⟨g, v, rfl, hM2, hb2⟩; have HM2 := Lib.hid hM2; have HB2 := Lib.hid hb2; clear hM2 hb2)
  have HB02 := Lib.hid (HB1.out.trans (HB2.out.mono HB1.out.size))
  have HCT2 := Lib.hid (show CT w2 g v l (0, 0) from ⟨HM2.out.1, HF.out.up HB02.out, HZ.out.below HB02.out HZ.out.pos⟩)
  have HGG := Lib.hid (show w1.heap.size ≤ g from HM2.out.2.1)
  have HX2 := Lib.hid (HX1.out.below HB2.out HX1.out.lt)
  have HSK := Lib.hid (seek_cur HCT2.out.c first HFS.out (by rw [HLL.out]; exact h2n))
  have hsa : seekAt l 0 0 first = first := if_pos ⟨rfl, by rw [HLL.out]; exact HFST.out⟩
  have hse : seekErr l 0 first = 0 := by unfold seekErr; rw [if_pos rfl, if_pos (by rw [HLL.out]; exact HFST.out)]
  rw [hsa, hse] at HSK
  clear hsa hse p0 p1 p2 p3 p4 p5 p6 p7 hcut HNW HM2
  obtain ⟨p0, p1, p2, p3, p4, p5, p6, p7⟩ := eight_cells HX2.out
  go_upto_region 5 with (go_at_call 51; refine HSK.out.mono ?_; rintro r w3 ⟨rfl, hC3, hG3⟩; have HC3 := Lib.hid (show CT w3 g v l (first, 0) from HCT2.out.step hC3 hG3); have HX3 := Lib.hid (HX2.out.grown hG3 (fun e => by injection e with e; have := HGG.out; have := HX1.out.lt; omega)); have HB03 := Lib.hid (HB02.out.grown hG3 HB02.out.size (fun x hx => by injection hx with hx; have := HGG.out; have := HB1.out.size; omega)); clear hC3 hG3)
  clear p0 p1 p2 p3 p4 p5 p6 p7 HSK HX2 HCT2 HX1 HB02 HB2
  obtain ⟨p0, p1, p2, p3, p4, p5, p6, p7⟩ := eight_cells HX3.out
  go_upto_region 6 with fail
  have hb4 : Below w3.heap.size w3 (w3.alloc (.cells #[.pointer (some ⟨g, 0, none⟩), .slice ta tn tc, .bool wide] 132)) := (Below.refl _ _).alloc (Nat.le_refl _) _
  have hX4 := Box.new w3 132 #[.pointer (some ⟨g, 0, none⟩), .slice ta tn tc, .bool wide]
  generalize w3.alloc (.cells #[.pointer (some ⟨g, 0, none⟩), .slice ta tn tc, .bool wide] 132) = w4 at *
  have HC4 := Lib.hid (HC3.out.below hb4)
  have HB04 := Lib.hid (HB03.out.trans (hb4.mono HB03.out.size))
  have htr := tree_any HC4.out (by rw [HLL.out]; exact h2n) (HTT.out.below HB04.out) (Nat.le_trans HB1.out.size HGG.out) tc HTL.out HTI.out wide
  rw [← HRR.out, HTN.out] at htr
  have HTR := Lib.hid htr
  obtain ⟨c0, c1, c2⟩ := three_cellsR hX4
  have hsz4 := HB04.out.size
  clear hb4 hX4 htr HC3 HX3 HB03 p0 p1 p2 p3 p4 p5 p6 p7
  generalize w3.heap.size = H4 at *
  obtain ⟨L1, s5⟩ := RR
  simp only at HTR HL
  go_upto_region 7 with (go_at_call 52; refine HTR.out.mono ?_; rintro r w5 ⟨u5, L5, rfl, hO5, hM5, hN5, hC5, hG5⟩; have HO5 := Lib.hid (hO5.lower hsz4); have HM5 := Lib.hid hM5; have HN5 := Lib.hid hN5; have HC5 := Lib.hid hC5; have HB05 := Lib.hid (HB04.out.grown hG5 HB04.out.size (fun x hx => by injection hx with hx; have := HGG.out; have := HB1.out.size; omega)); clear hO5 hM5 hN5 hC5 hG5)
  obtain ⟨A5, c5, rfl⟩ := un_slc HO5.out.row
  obtain ⟨N, hNN⟩ : ∃ N, L5.length = N := ⟨_, rfl⟩
  rw [hNN] at HO5 HN5
  have HNN := Lib.hid hNN
  rw [hNN]
  have HS6 := Lib.hid (show rootS (L1, s5) = if N = 0 then sF s5 43 else s5 by
    unfold rootS
    have : (L1 = []) ↔ N = 0 := by rw [← HM5.out, List.map_eq_nil_iff, ← hNN, List.length_eq_zero_iff]
    by_cases h0 : N = 0
    · rw [if_pos h0, if_pos (this.2 h0)]
    · rw [if_neg h0, if_neg (fun e => h0 (this.1 e))])
  obtain ⟨s6, hs6⟩ : ∃ s6, rootS (L1, s5) = s6 := ⟨_, rfl⟩
  rw [hs6] at HS6 HE1
  have HFL := Lib.hid (fun W (hW : CT W g v l s5) => f_st (s := s5) hW.c 43)
  clear hs6 hNN c0 c1 c2 HTR HC4 HB04 hsz4
  go_upto_if 44 with fail
  go_cut [] (fun wx => CT wx g v l s6 ∧ OwnD 127 61 wx w.heap.size (.slice A5 N c5) L5 ∧ Below w.heap.size w wx)
  case first =>
    by_cases h0 : N = 0
    · have q : ((N : Int) == 0) = true := by simp [h0]
      have hs6 := HS6.out
      rw [if_pos h0] at hs6
      subst hs6
      clear h0
      go_wp2_with (go_at_call 54; refine (HFL.out _ HC5.out).mono ?_; rintro r w6 ⟨rfl, hC6, hG6⟩; have HC6 := Lib.hid (HC5.out.step hC6 hG6); have HO6 := Lib.hid (un_farD HO5.out hG6 HC5.out.c.1 (by decide) (by decide) (by decide)); have HB6 := Lib.hid (HB05.out.grown hG6 HB05.out.size (fun x hx => by injection hx with hx; have := HGG.out; have := HB1.out.size; omega)); clear hC6 hG6)
      go_meet
      case rel => exact ⟨HC6.out, HO6.out, HB6.out⟩
    · have q : ((N : Int) == 0) = false := by simpa using h0
      have hs6 := HS6.out
      rw [if_neg h0] at hs6
      subst hs6
      clear h0
      go_wp2_with fail
      go_meet
      case rel => exact ⟨HC5.out, HO5.out, HB05.out⟩
  case rest =>
  have HC7 := Lib.hid hcut.1
  have HO7 := Lib.hid hcut.2.1
  have HB7 := Lib.hid hcut.2.2
  have HZR := Lib.hid (zeros_any hcut.1 (by rw [HLL.out]; exact h2n))
  rw [← HE1.out] at HZR
  clear hcut HS6 HFL HC5 HO5 HB05 HE1 HRR
  go_upto_region 10 with (go_at_call 55; refine HZR.out.mono ?_; rintro r w8 ⟨rfl, ⟨s8, hs8, hC8⟩, hG8⟩; have HER := Lib.hid (by have := err_cur hC8.c; rw [hs8] at this; exact this); have HO8 := Lib.hid (un_farD HO7.out hG8 HC7.out.c.1 (by decide) (by decide) (by decide)); have HB8 := Lib.hid (HB7.out.grown hG8 HB7.out.size (fun x hx => by injection hx with hx; have := HGG.out; have := HB1.out.size; omega)); clear hC8 hG8 hs8)
  by_cases he0 : E = 0
  · have q : (E != 0) = false := by simpa using he0
    rw [if_pos he0] at HL
    have HE0 := Lib.hid he0
    clear he0
    go_wp2_with (go_at_call 56; refine HER.out.mono ?_; rintro r w9 ⟨rfl, rfl⟩)
    go_ret2
    exact ⟨_, L5, by rw [HE0.out]; rfl, HO8.out, by rw [HL.out]; exact HM5.out, by rw [HNN.out]; exact HN5.out, HB8.out⟩
  · have q : (E != 0) = true := by simpa using he0
    rw [if_neg he0] at HL
    clear he0
    go_wp2_with (go_at_call 56; refine HER.out.mono ?_; rintro r w9 ⟨rfl, rfl⟩)
    go_ret2
    exact ⟨_, [], rfl, OwnD.nil _ _ _ _, by rw [HL.out]; rfl, by decide, HB8.out⟩

end Go.Proofs.YtejicboemkpeoaaGreatDoor

namespace Go.Proofs.YtejicboemkpeoaaGreatDoor
open Go Go.RowKit

/-- The pair, the result's cell, the document's cursor. -/
structure DSt (B : Nat) (w wx : World) (g : Nat) (v : Value) (l : List UInt8) (s : CSt) (Hs Hr : Nat) (at_ f imp : Int) : Prop where
  rr : RR B wx g v l s.1 s.2
  p : Box wx Hs 125 #[.int .i64 at_, .int .i64 f, .int .i64 imp]
  r : Box wx Hr 63 #[.int .i64 0, .int .u64 0, .int .i64 0, .slice none 0 0, .string ⟨#[]⟩]
  gr : w.grownBy wx (some g)
/-- Where things are. -/
structure Apd (B : Nat) (w : World) (g Hs Hr : Nat) : Prop where
  b : B ≤ w.heap.size
  g : g < w.heap.size
  h0 : w.heap.size ≤ Hs
  h1 : w.heap.size ≤ Hr
  ne : Hs ≠ Hr
section
variable {B : Nat} {w wx wy : World} {g : Nat} {v : Value} {l : List UInt8} {s s' : CSt} {Hs Hr Hx : Nat} {at_ f imp : Int} {cs : Array Value} {b b' : Value} {bl bl' : List UInt8}
theorem DSt.call (h : DSt B w wx g v l s Hs Hr at_ f imp) (ha : Apd B w g Hs Hr) (hC : RR B wy g v l s'.1 s'.2) (hG : wx.grownBy wy (some g)) : DSt B w wy g v l s' Hs Hr at_ f imp :=
  ⟨hC, h.p.grown hG (fun e => by injection e with e; have := ha.g; have := ha.h0; omega), h.r.grown hG (fun e => by injection e with e; have := ha.g; have := ha.h1; omega), h.gr.trans hG⟩
theorem DSt.later (h : DSt B w wx g v l s Hs Hr at_ f imp) (hb : Below wx.heap.size wx wy) : DSt B w wy g v l s Hs Hr at_ f imp :=
  ⟨h.rr.below hb, h.p.below hb h.p.lt, h.r.below hb h.r.lt, h.gr.trans (only_below hb _)⟩
/-- With the value that is made. -/
structure FSt (B : Nat) (w wx : World) (g : Nat) (v : Value) (l : List UInt8) (s : CSt) (Hs Hr : Nat) (at_ f imp : Int) (Hx : Nat) (cs : Array Value) (b : Value) (bl : List UInt8) : Prop where
  d : DSt B w wx g v l s Hs Hr at_ f imp
  x : Box wx Hx 63 cs
  hx : w.heap.size ≤ Hx
  ns : Hx ≠ Hs
  nr : Hx ≠ Hr
  row : Own wx w.heap.size b bl
theorem FSt.call (h : FSt B w wx g v l s Hs Hr at_ f imp Hx cs b bl) (ha : Apd B w g Hs Hr) (hC : RR B wy g v l s'.1 s'.2) (hG : wx.grownBy wy (some g)) (hO : Own wy w.heap.size b' bl') : FSt B w wy g v l s' Hs Hr at_ f imp Hx cs b' bl' :=
  ⟨h.d.call ha hC hG, h.x.grown hG (fun e => by injection e with e; have := ha.g; have := h.hx; omega), h.hx, h.ns, h.nr, hO⟩
theorem FSt.set (h : FSt B w wx g v l s Hs Hr at_ f imp Hx cs b bl) (ha : Apd B w g Hs Hr) (i : Nat) (u : Value) : FSt B w (wx.setCell ⟨Hx, i, none⟩ u) g v l s Hs Hr at_ f imp Hx (cs.setIfInBounds i u) b bl := by
  have G : wx.grownBy (wx.setCell ⟨Hx, i, none⟩ u) (some Hx) := only_set (only_refl wx (some Hx)) i u
  exact ⟨⟨h.d.rr.grown G (fun e => by injection e with e; have := ha.g; have := h.hx; omega) (fun x hx => by injection hx with hx; have := ha.b; have := h.hx; omega), h.d.p.grown G (fun e => by injection e with e; exact h.ns e.symm), h.d.r.grown G (fun e => by injection e with e; exact h.nr e.symm), only_trans h.d.gr G (.inr fun x hx => by injection hx with hx; have := h.hx; omega)⟩,
    h.x.set i u, h.hx, h.ns, h.nr, own_pastR h.row h.x (by decide) G⟩
theorem FSt.told (h : FSt B w wx g v l s Hs Hr at_ f imp Hx cs b bl) (ha : Apd B w g Hs Hr) (v0 v1 v2 v3 v4 : Value) :
    Box (((((wx.setCell ⟨Hr, 0, none⟩ v0).setCell ⟨Hr, 1, none⟩ v1).setCell ⟨Hr, 2, none⟩ v2).setCell ⟨Hr, 3, none⟩ v3).setCell ⟨Hr, 4, none⟩ v4) Hr 63 #[v0, v1, v2, v3, v4] ∧
    RR B (((((wx.setCell ⟨Hr, 0, none⟩ v0).setCell ⟨Hr, 1, none⟩ v1).setCell ⟨Hr, 2, none⟩ v2).setCell ⟨Hr, 3, none⟩ v3).setCell ⟨Hr, 4, none⟩ v4) g v l s.1 s.2 ∧
    Own (((((wx.setCell ⟨Hr, 0, none⟩ v0).setCell ⟨Hr, 1, none⟩ v1).setCell ⟨Hr, 2, none⟩ v2).setCell ⟨Hr, 3, none⟩ v3).setCell ⟨Hr, 4, none⟩ v4) w.heap.size b bl ∧
    w.grownBy (((((wx.setCell ⟨Hr, 0, none⟩ v0).setCell ⟨Hr, 1, none⟩ v1).setCell ⟨Hr, 2, none⟩ v2).setCell ⟨Hr, 3, none⟩ v3).setCell ⟨Hr, 4, none⟩ v4) (some g) := by
  have G := five_onlyR wx Hr v0 v1 v2 v3 v4
  exact ⟨five_boxR h.d.r rfl _ _ _ _ _, h.d.rr.grown G (fun e => by injection e with e; have := ha.g; have := ha.h1; omega) (fun x hx => by injection hx with hx; have := ha.b; have := ha.h1; omega), own_pastR h.row h.d.r (by decide) G, only_trans h.d.gr G (.inr fun x hx => by injection hx with hx; have := ha.h1; omega)⟩
end
end Go.Proofs.YtejicboemkpeoaaGreatDoor

namespace Go.Proofs.YtejicboemkpeoaaGreatDoor
open Go Go.RowKit

theorem Row.back {α : Type} {n : Nat} {f : α → List Value} {w w' : World} {B : Nat} {a : Option Addr} {L : List α} (h : Row n f w' B a L) (hb : Below B w w') : Row n f w B a L := fun hl => by
  obtain ⟨b, o, e, hlt, hc⟩ := h hl
  exact ⟨b, o, e, hlt, fun i x hx j v hv => by rw [← hb.cell (p := ⟨b, o + i * n + j, none⟩) hlt]; exact hc i x hx j v hv⟩
theorem But.rr {P : Nat → Prop} {B : Nat} {w w' : World} {g : Nat} {v : Value} {l : List UInt8} {a : Nat} {e : Int} (hb : But P w w') (h : RR B w g v l a e) (hg : ¬ P g) (hB : ∀ k, P k → B ≤ k) : RR B w' g v l a e := by
  refine ⟨hb.box h.1 hg, h.2.1.imp fun A => Exists.imp fun c k => ⟨k.1, k.2.1, k.2.2.1, fun hl => ?_⟩, h.2.2.1, h.2.2.2⟩
  obtain ⟨b, o, e, hb', hc⟩ := k.2.2.2 hl
  refine ⟨b, o, e, hb', fun j u hu => ?_⟩
  have h3 := hc j u hu
  have hlt := World.block_lt_of_cell? w _ h3
  exact (World.cell?_of_block (hb.2 b hlt (fun hp => by have := hB b hp; omega))).trans h3
/-- What the document's tree tells: which entries are read, where the cursor stands; how the tree goes on behind them. -/
structure Out17 (l : List UInt8) (wide : Bool) (T : List ALay) (pa : Int) (d : Nat) (s : CSt) (L L' : List Ent) (s' : CSt) : Prop where
  go : tU l s ≠ 0 → ∀ P : List Int, P.length = d → (s'.2 = 0 → treeW l wide T s L (pa :: P) = contW l wide T s' L' (pa :: P)) ∧ (s'.2 ≠ 0 → (treeW l wide T s L (pa :: P)).2.2 = s'.2)
  nul : tU l s = 0 → s'.2 = (sF (sU l s) 43).2
  far : s.1 ≤ s'.1
  more : s'.2 = 0 → s.1 < s'.1 ∧ L' ≠ []
/-- Of the cursor's block, and the row's. -/
def TurnP (g : Nat) (u : Value) (k : Nat) : Prop := k = g ∨ u.ownBlock = some k
/-- What rfindA_any tells, cell by cell. -/
theorem rdfind_any {w : World} {B : Nat} {ta : Option Addr} {T : List ALay} (h : Abbs w B ta T) (hB : B ≤ w.heap.size) (tc : Nat) (hTl : T.length ≤ 100000) (hTin : ∀ y ∈ T, y.x.l.length ≤ 100000) (cd : Nat) :
    Calls Tryz.prog 67 #[.slice ta T.length tc, .int .u64 (cd : Int)] w fun r w' => ∃ kc tg kd sa sc b, r = .returned (.tuple #[.agg #[.int .u64 kc, .int .i64 tg, .bool kd, .slice sa (psO (abbK T cd)).length sc], .bool b]) ∧ FoundD w B (abbK T cd) tg kd sa b ∧ Below w.heap.size w w' := by
  refine (rfindA_any (h.more hB) tc hTl (fun y hy => Nat.le_trans (hTin y hy) (by decide)) cd).mono ?_
  rintro r w' ⟨z, b, rfl, hf, hb⟩
  rcases found_abb hf with ⟨h1, rfl, rfl⟩ | ⟨y, h1, h2, rfl, rfl⟩
  · rw [h1]
    exact ⟨_, _, _, _, _, _, rfl, ⟨rfl, rfl, fun h => absurd h (by decide), rfl⟩, hb⟩
  · rw [h1]
    exact ⟨_, _, _, _, _, _, rfl, ⟨rfl, rfl, h.spcs y h2, rfl⟩, hb⟩
/-- The loop over pairs: the cursor, the entry that is made, its values, the abbreviation. -/
structure AtSt (B : Nat) (w wx : World) (g : Nat) (v : Value) (l : List UInt8) (s : CSt) (He Ha : Nat) (c0 c1 c2 c3 c4 u : Value) (X : List AtL) (d0 d1 d2 d3 : Value) : Prop where
  rr : RR B wx g v l s.1 s.2
  gr : w.grownBy wx (some g)
  e : Box wx He 69 #[c0, c1, c2, c3, c4, u]
  a : Box wx Ha 123 #[d0, d1, d2, d3]
  o : OwnT 143 wx w.heap.size u X
section
variable {B : Nat} {w wx wy : World} {g : Nat} {v : Value} {l : List UInt8} {s s' : CSt} {He Ha : Nat} {c0 c1 c2 c3 c4 u u' : Value} {X X' : List AtL} {d0 d1 d2 d3 : Value}
theorem AtSt.call (h : AtSt B w wx g v l s He Ha c0 c1 c2 c3 c4 u X d0 d1 d2 d3) (hC : RR B wy g v l s'.1 s'.2) (hG : wx.grownBy wy (some g)) : AtSt B w wy g v l s' He Ha c0 c1 c2 c3 c4 u X d0 d1 d2 d3 :=
  ⟨hC, h.gr.trans hG, h.e.grown hG (fun e => by injection e with e; exact (h.e.other h.rr.1 (by decide)) e), h.a.grown hG (fun e => by injection e with e; exact (h.a.other h.rr.1 (by decide)) e), un_farT h.o hG h.rr.1 (by decide) (by decide)⟩
theorem AtSt.below (h : AtSt B w wx g v l s He Ha c0 c1 c2 c3 c4 u X d0 d1 d2 d3) (hb : Below wx.heap.size wx wy) : AtSt B w wy g v l s He Ha c0 c1 c2 c3 c4 u X d0 d1 d2 d3 :=
  ⟨h.rr.below hb, only_then_below h.gr hb, h.e.below hb h.e.lt, h.a.below hb h.a.lt, h.o.below hb⟩
/-- A value appended. -/
theorem AtSt.more (h : AtSt B w wx g v l s He Ha c0 c1 c2 c3 c4 u X d0 d1 d2 d3) (hBw : B ≤ w.heap.size) (hG : wx.grownBy wy u.ownBlock) (ho : OwnT 143 wy w.heap.size u' X') : RR B wy g v l s.1 s.2 ∧ w.grownBy wy (some g) ∧ Box wy He 69 #[c0, c1, c2, c3, c4, u] ∧ Box wy Ha 123 #[d0, d1, d2, d3] ∧ OwnT 143 wy w.heap.size u' X' := by
  have hu : ∀ x, u.ownBlock = some x → w.heap.size ≤ x := fun x hx => (h.o.row.lt x hx).1
  exact ⟨h.rr.grown hG (fun e => by
      obtain ⟨cs, f, e2⟩ := row_heap h.o.row e.symm
      have h1 := h.rr.1
      unfold Box at h1
      rw [h1] at e2
      injection e2 with e2
      injection e2 with _ e2
      exact absurd e2 (by decide)) (fun x hx => Nat.le_trans hBw (hu x hx)), only_trans h.gr hG (.inr hu), un_box h.e h.o.row (by decide) hG, un_box h.a h.o.row (by decide) hG, ho⟩
/-- And stored. -/
theorem AtSt.stored (hr : RR B wx g v l s.1 s.2) (hBw : B ≤ w.heap.size) (hg : w.grownBy wx (some g)) (he : Box wx He 69 #[c0, c1, c2, c3, c4, u]) (ha : Box wx Ha 123 #[d0, d1, d2, d3]) (ho : OwnT 143 wx w.heap.size u' X') (hH : w.heap.size ≤ He) :
    AtSt B w (wx.setCell ⟨He, 5, none⟩ u') g v l s He Ha c0 c1 c2 c3 c4 u' X' d0 d1 d2 d3 := by
  have G : wx.grownBy (wx.setCell ⟨He, 5, none⟩ u') (some He) := only_set (only_refl wx (some He)) 5 u'
  exact ⟨hr.grown G (fun e => by injection e with e; exact (hr.1.other he (by decide)) e) (fun x hx => by injection hx with hx; omega), only_trans hg G (.inr fun x hx => by injection hx with hx; omega), by simpa using he.set 5 u', ha.grown G (fun e => by injection e with e; exact (ha.other he (by decide)) e), un_farT ho G he (by decide) (by decide)⟩
end

/-- The loop over children. -/
structure KSt (B base : Nat) (w wr : World) (g : Nat) (v : Value) (l : List UInt8) (s5 : CSt) (u0 u5 : Value) (L5 : List DLay) (Ha : Nat) (d0 d1 d2 d3 : Value) : Prop where
  rr : RR B wr g v l s5.1 s5.2
  o : OwnD 143 69 wr base u5 L5
  but : But (TurnP g u0) w wr
  own : ∀ k, u5.ownBlock = some k → u0.ownBlock = some k ∨ w.heap.size ≤ k
  a : Box wr Ha 123 #[d0, d1, d2, d3]
  len : L5.length ≤ 1000
  ne : s5.2 = 0 → L5 ≠ []
theorem KSt.below {B base : Nat} {w wr wy : World} {g : Nat} {v : Value} {l : List UInt8} {s5 : CSt} {u0 u5 : Value} {L5 : List DLay} {Ha : Nat} {d0 d1 d2 d3 : Value} (h : KSt B base w wr g v l s5 u0 u5 L5 Ha d0 d1 d2 d3) (hb : Below wr.heap.size wr wy) : KSt B base w wy g v l s5 u0 u5 L5 Ha d0 d1 d2 d3 :=
  ⟨h.rr.below hb, h.o.below hb, h.but.then_ hb, h.own, h.a.below hb h.a.lt, h.len, h.ne⟩
theorem KSt.call {B base : Nat} {w wr wy : World} {g : Nat} {v : Value} {l : List UInt8} {s5 s6 : CSt} {u0 u5 : Value} {L5 : List DLay} {Ha : Nat} {d0 d1 d2 d3 : Value} (h : KSt B base w wr g v l s5 u0 u5 L5 Ha d0 d1 d2 d3) (h50 : s5.2 = 0) (hR : RR B wy g v l s6.1 s6.2) (hG : wr.grownBy wy (some g)) : KSt B base w wy g v l s6 u0 u5 L5 Ha d0 d1 d2 d3 :=
  ⟨hR, un_farD h.o hG h.rr.1 (by decide) (by decide) (by decide), h.but.grown hG (fun x hx => .inl (.inl (by injection hx with hx; exact hx.symm))), h.own, h.a.grown hG (fun e => by injection e with e; exact (h.a.other h.rr.1 (by decide)) e), h.len, fun _ => h.ne h50⟩
/-- How the tree goes on behind what was read of it. -/
structure NxW (l : List UInt8) (wide : Bool) (T : List ALay) (pa : Int) (d : Nat) (s : CSt) (L0 : List Ent) (kd : Bool) (s5 : CSt) (L5 : List Ent) : Prop where
  ok : s5.2 = 0 → ∀ P : List Int, P.length = d → treeW l wide T s L0 (pa :: P) = if kd = true then treeW l wide T s5 L5 ((L0.length : Int) :: pa :: P) else contW l wide T s5 L5 (pa :: P)
  bad : s5.2 ≠ 0 → ∀ P : List Int, P.length = d → (treeW l wide T s L0 (pa :: P)).2.2 = s5.2
  far : s.1 < s5.1
theorem NxW.leave {l : List UInt8} {wide : Bool} {T : List ALay} {pa : Int} {d : Nat} {s s5 : CSt} {L0 L5 : List Ent} {kd : Bool} (h : NxW l wide T pa d s L0 kd s5 L5) (hk : s5.2 = 0 → kd = false) (h0 : tU l s ≠ 0) (hne : s5.2 = 0 → L5 ≠ []) : Out17 l wide T pa d s L0 L5 s5 :=
  ⟨fun _ P hP => ⟨fun h1 => by rw [h.ok h1 P hP, hk h1, if_neg (by decide)], fun h1 => h.bad h1 P hP⟩, fun h1 => absurd h1 h0, Nat.le_of_lt h.far, fun h1 => ⟨h.far, hne h1⟩⟩
end Go.Proofs.YtejicboemkpeoaaGreatDoor
