/-
  ObjectBack: an object that is put is taken.
-/
import Derived.Test.YtldmjnbmjfnfeaaGreatDoorOcC
import Derived.Test.YtldmjnbmjfnfeaaGreatDoorObY
import Derived.Test.YtldmjnbmjfnfeaaGreatDoorObZ
import Derived.Test.YtldmjnbmjfnfeaaGreatDoorOcB
import Derived.Test.YtldmjnbmjfnfeaaGreatDoorSeBe
import Derived.RegionTactic
import Derived.BigRegion
import Derived.ChangeAlike
namespace Go.Proofs.YtldmjnbmjfnfeaaGreatDoor
open Go Go.RowKit

theorem Lists.take {w : World} {B : Nat} {a : Option Addr} {Q : List RLay} (h : Lists w B a Q) (n : Nat) : Lists w B a (Q.take n) :=
  ⟨fun hl => by
    obtain ⟨b, o, e, hlt, hc⟩ := h.row (by simp at hl; omega)
    exact ⟨b, o, e, hlt, fun i x hx j v hv => hc i x (by
      have hi : i < (Q.take n).length := (List.getElem?_eq_some_iff.1 hx).1
      rw [List.getElem?_take] at hx
      split at hx
      · exact hx
      · cases hx) j v hv⟩, fun q hq => h.rels q (List.mem_of_mem_take hq)⟩
theorem oput_cases (kd mc : Int) (S : List Sect) (Y : List Sym) (R : List (List Rel)) : (oputE kd mc S Y R = 2 ∧ oputR kd mc S Y R = []) ∨ (rightO S Y R = true ∧ mayPut kd mc (fileO S Y R) = true ∧ oputE kd mc S Y R = 0 ∧ oputR kd mc S Y R = fileB kd mc (fileO S Y R)) := by
  by_cases h : rightO S Y R = true
  · have a1 : oputE kd mc S Y R = putE kd mc (fileO S Y R) := by unfold oputE; rw [h]
    have a2 : oputR kd mc S Y R = putR kd mc (fileO S Y R) := by unfold oputR; rw [h]
    rw [a1, a2]
    by_cases hm : mayPut kd mc (fileO S Y R) = true
    · exact .inr ⟨h, hm, by unfold putE; rw [if_pos hm], by unfold putR; rw [if_pos hm]⟩
    · exact .inl ⟨by unfold putE; rw [if_neg hm], by unfold putR; rw [if_neg hm]⟩
  · have h := Bool.eq_false_iff.2 h
    exact .inl ⟨by unfold oputE; rw [h], by unfold oputR; rw [h]⟩
theorem ObjV.In.ok {w : World} {B : Nat} {o : ObjV} (h : o.In w B) (hs : o.Small) : o.Ok w B :=
  ⟨h.secs.secs (fun x hx => ⟨Nat.le_trans (hs.s x hx).1 (by decide), Nat.le_trans (hs.s x hx).2 (by decide)⟩), h.syms, h.lists, h.capS, h.capR⟩
theorem ObjV.Small.bulk {o : ObjV} (h : o.Small) : o.Bulk :=
  ⟨Nat.le_trans h.S (by decide), fun x hx => Nat.le_trans (h.s x hx).2 (by decide), by have := h.Y; omega, by have := h.Y; omega, Nat.le_trans h.Q (by decide), fun q hq => Nat.le_trans (h.q q hq) (by decide)⟩
theorem SecsIn.more {w : World} {B B' : Nat} {a : Option Addr} {L : List Lay} (h : SecsIn w B a L) (hB : B ≤ B') : SecsIn w B' a L :=
  ⟨fun hl => by
    obtain ⟨b, o, e, hlt, hc⟩ := h.row hl
    exact ⟨b, o, e, by omega, hc⟩, fun x hx => ⟨(h.rd x hx).1.more hB, (h.rd x hx).2⟩⟩
theorem ObjV.In.below {w w' : World} {B : Nat} {o : ObjV} (h : o.In w B) (hb : Below B w w') : o.In w' B := ⟨h.secs.below hb, Row.below h.syms hb, h.lists.below hb, h.capS, h.capR, h.numY, h.numQ⟩
theorem ObjV.In.more {w : World} {B B' : Nat} {o : ObjV} (h : o.In w B) (hB : B ≤ B') : o.In w B' := ⟨h.secs.more hB, Row.more h.syms hB, h.lists.more hB, h.capS, h.capR, h.numY, h.numQ⟩

theorem hs_len {n nr : Nat} {S : List Sect} {Y : List Sym} {R : List (List Rel)} {z : Sect} (h1 : n ≤ 6000) (h2 : nr ≤ 6000) (hS : S.length = n) (hR : R.length = nr) : (backF S Y R z).length ≤ 100000 := by
  have h3 := back_length (S := S) (Y := Y) (R := R) (z := z)
  have h4 := relF_length S R R.length
  have h5 : (headF S Y).length ≤ S.length + 2 := by
    unfold headF
    rw [List.length_append]
    split <;> simp
  omega
/-- What is taken of the object that was put, cut to the sections that were there, is it. -/
theorem back_like {o p : ObjV} {z : Sect} (hr : rightO (secsOf o.L) o.Y (o.Q.map (·.l)) = true) (h1 : p.kind = o.kind) (h2 : p.machine = o.machine) (h3 : secsOf p.L = (backF (secsOf o.L) o.Y (o.Q.map (·.l)) z).take (secsOf o.L).length) (h4 : p.Y = o.Y)
    (h5 : p.Q.map (·.l) = ((List.range (backF (secsOf o.L) o.Y (o.Q.map (·.l)) z).length).map fun i => (o.Q.map (·.l))[i]?.getD []).take (secsOf o.L).length) : p.Like o := by
  have hI := right_iso hr
  refine ⟨h1.symm, h2.symm, by rw [h3, back_first, sameAll_refl], h4.symm, fun k => ?_⟩
  rw [h5, List.getElem?_take]
  have hm := back_more (S := secsOf o.L) (Y := o.Y) (R := o.Q.map (·.l)) z
  split
  · rw [List.getElem?_map, List.getElem?_range (by omega)]
    rfl
  · rw [List.getElem?_eq_none (l := o.Q.map (·.l))]
    rcases hI.len with h | h <;> omega

set_option maxRecDepth 10000 in
set_option maxHeartbeats 6400000 in
theorem oback_walk (o : ObjV) (w : World) (h : o.In w w.heap.size) (hM : Mg w) :
    Calls Tryz.prog 5 #[o.val] w fun e w' => e = .returned (.bool true) ∧ Below w.heap.size w w' := by
  have hb0 : Below w.heap.size w (w.alloc (.cells o.cells.toArray 32)) := (Below.refl _ _).alloc (Nat.le_refl _) _
  have hX0 := Box.new w 32 o.cells.toArray
  have hlt0 : w.heap.size < (w.alloc (.cells o.cells.toArray 32)).heap.size := by simp
  have HW := Lib.hid (oworks_any (hM.alloc (.cells o.cells.toArray 32)))
  have HB0 := Lib.hid hb0
  have hMp := hM.pos
  have HM := Lib.hid hM
  have HI := Lib.hid h
  have HIW := Lib.hid (fun W (hW : Below w.heap.size w W) => (h.below hW).more hW.size)
  have KX := Lib.hid (fun W (hW : Below (w.alloc (.cells o.cells.toArray 32)).heap.size (w.alloc (.cells o.cells.toArray 32)) W) => five_cells (c0 := .int .i64 o.kind) (c1 := .int .i64 o.machine) (c2 := .slice o.aS o.L.length o.cS) (c3 := .slice o.aY o.Y.length o.cY) (c4 := .slice o.aR o.Q.length o.cR) (hX0.below hW hlt0))
  have HBK := Lib.hid (fun W (hW : Below w.heap.size w W) => obulk_any (w := W) o ((h.below hW).more hW.size) (fun _ _ _ _ _ h1 h2 => h1.below h2))
  have HPU := Lib.hid (fun W (hW : Below w.heap.size w W) (hs : o.Small) => oput_any (w := W) o (((h.below hW).more hW.size).ok hs) hs.bulk (hM.below hW hMp))
  have HSM := Lib.hid (fun W (hW : Below w.heap.size w W) (hs : o.Small) (p : ObjV) (hp : p.Ok W W.heap.size) (hA : p.Like o) (hS : p.L.length ≤ 100000) (hY : p.Y.length ≤ 100000) (hQ : p.Q.length ≤ 100000) (hq : ∀ q ∈ p.Q, q.l.length ≤ 100000) => osame_any (w := W) p o hp (((h.below hW).more hW.size).ok hs) hA hS hY hQ (Nat.le_trans hs.Q (by decide)) hq)
  obtain ⟨kd, mc, aS, cS, L, aY, cY, Y, aR, cR, Q⟩ := o
  rw [show ObjV.val ⟨kd, mc, aS, cS, L, aY, cY, Y, aR, cR, Q⟩ = .agg #[.int .i64 kd, .int .i64 mc, .slice aS L.length cS, .slice aY Y.length cY, .slice aR Q.length cR] from rfl] at HBK HPU HSM ⊢
  rw [show (ObjV.cells ⟨kd, mc, aS, cS, L, aY, cY, Y, aR, cR, Q⟩).toArray = #[.int .i64 kd, .int .i64 mc, .slice aS L.length cS, .slice aY Y.length cY, .slice aR Q.length cR] from rfl] at HW HB0 KX
  simp only at KX HPU
  clear hb0 hX0 hlt0 hM h
  obtain ⟨N, hN⟩ : ∃ N, L.length = N := ⟨_, rfl⟩
  obtain ⟨ny, hny⟩ : ∃ ny, Y.length = ny := ⟨_, rfl⟩
  obtain ⟨nr, hnr⟩ : ∃ nr, Q.length = nr := ⟨_, rfl⟩
  have HN := Lib.hid hN
  have HNY := Lib.hid hny
  have HNR := Lib.hid hnr
  rw [hN, hny, hnr] at HW HB0 KX HBK HPU HSM ⊢
  clear hN hny hnr
  obtain ⟨x0, x1, x2, x3, x4⟩ := KX.out _ (Below.refl _ _)
  go_enter Tryz.func5, Tryz.ntmps5
  go_wp2_with fail
  refine HW.out.mono ?_
  rintro r w1 ⟨rfl, hb1⟩
  generalize (w.alloc (.cells #[.int .i64 kd, .int .i64 mc, .slice aS N cS, .slice aY ny cY, .slice aR nr cR] 32)) = w0 at *
  clear x0 x1 x2 x3 x4 HW
  obtain ⟨x0, x1, x2, x3, x4⟩ := KX.out _ hb1
  have HB1 := Lib.hid hb1
  have HBK1 := Lib.hid (HBK.out _ (HB0.out.trans (hb1.mono HB0.out.size)))
  clear hb1 HBK
  go_wp2_with fail
  refine HBK1.out.mono ?_
  rintro r w2 ⟨n, rfl, hsm, hb2⟩
  have HB2 := Lib.hid (HB1.out.trans (hb2.mono HB1.out.size))
  have HSL := Lib.hid hsm
  clear x0 x1 x2 x3 x4 HBK1 hb2 hsm
  obtain ⟨x0, x1, x2, x3, x4⟩ := KX.out _ HB2.out
  by_cases hn : 6000 < n
  · have hd : decide (6000 < n) = true := decide_eq_true hn
    go_wp2_with fail
    go_ret
    exact ⟨rfl, HB0.out.trans (HB2.out.mono HB0.out.size)⟩
  · have hd : decide (6000 < n) = false := decide_eq_false hn
    have HSA := Lib.hid (HSL.out (by omega))
    have HPU1 := Lib.hid (HPU.out _ (HB0.out.trans (HB2.out.mono HB0.out.size)) HSA.out)
    clear HPU HSL hn
    rcases oput_cases kd mc (secsOf L) Y (Q.map (·.l)) with ⟨e1, e2⟩ | ⟨e0, e0m, e1, e2⟩
    · rw [e1, e2] at HPU1
      clear e1 e2
      go_wp2_with fail
      refine HPU1.out.mono ?_
      rintro r w3 ⟨v3, rfl, ho3, hb3⟩
      obtain ⟨A3, c3, rfl⟩ := own_empty_len ho3
      have HB3 := Lib.hid (HB2.out.trans (hb3.mono HB2.out.size))
      clear ho3 hb3
      go_wp2_with fail
      go_ret
      exact ⟨rfl, HB0.out.trans (HB3.out.mono HB0.out.size)⟩
    · rw [e1, e2] at HPU1
      clear e1 e2
      obtain ⟨z, hz, f1, f2, f3, f4, f5, f6, f7⟩ := file_back e0 e0m (by have := HSA.out.Y; simp only at this; omega) (fun s hs => by
        obtain ⟨x, hx, rfl⟩ := List.mem_map.1 hs
        have h1 := (HI.out.secs.rd x hx).2.2.2
        exact ⟨h1.flags, h1.addr, (HSA.out.s x hx).1⟩) (fun x hx => HI.out.numY x hx) (fun l hl x hx => by
        obtain ⟨q, hq, rfl⟩ := List.mem_map.1 hl
        exact HI.out.numQ q hq x hx)
      have hbm := back_more (S := secsOf L) (Y := Y) (R := Q.map (·.l)) z
      have hRI := (right_iso e0).len
      have HR0 := Lib.hid e0
      generalize hfb : fileB kd mc (fileO (secsOf L) Y (Q.map (·.l))) = fb at *
      clear hfb e0 e0m hz
      have HF := Lib.hid (And.intro f1 (And.intro f2 (And.intro f3 (And.intro f4 (And.intro f5 f6)))))
      have HF7 := Lib.hid f7
      clear f1 f2 f3 f4 f5 f6 f7
      have HSN := Lib.hid (show (secsOf L).length = N by simp; exact HN.out)
      have HRI := Lib.hid hRI
      have HBM := Lib.hid hbm
      clear hRI hbm
      go_wp2_with fail
      refine HPU1.out.mono ?_
      rintro r w3 ⟨v3, rfl, ho3, hb3⟩
      obtain ⟨A3, c3, rfl, hc3, _, hr3⟩ := own_slice ho3
      have HB3 := Lib.hid (HB2.out.trans (hb3.mono HB2.out.size))
      have HT := Lib.hid (otake_any hr3 c3 hc3 (by have := HF7.out; omega) (HM.out.below (HB0.out.trans (HB3.out.mono HB0.out.size)) hMp))
      clear x0 x1 x2 x3 x4 ho3 hb3 hc3 hr3 HPU1
      obtain ⟨x0, x1, x2, x3, x4⟩ := KX.out _ HB3.out
      go_wp2_with fail
      refine HT.out.mono ?_
      rintro r w4 ⟨p, rfl, hOk, hb4, hp, -⟩
      obtain ⟨p1, p2, p3, p4, p5⟩ := hp HF.out.1
      obtain ⟨kd', mc', bS, c2, L2, yA, yc, Y', bR, c3', Q2⟩ := p
      simp only at p1 p2 p3 p4 p5
      rw [HF.out.2.1] at p1
      rw [HF.out.2.2.1] at p2
      rw [HF.out.2.2.2.1] at p3 p4 p5
      rw [HF.out.2.2.2.2.1] at p4
      rw [HF.out.2.2.2.2.2] at p5
      have p1 := p1.symm
      have p2 := p2.symm
      have p4 := p4.symm
      subst p1 p2 p4
      have hLike := back_like (o := ⟨kd, mc, aS, cS, L, aY, cY, Y, aR, cR, Q⟩) (p := ⟨kd, mc, bS, c2, L2.take N, yA, yc, Y, bR, c3', Q2.take N⟩) (z := z) HR0.out rfl rfl (by
        show secsOf (L2.take N) = _
        rw [show secsOf (L2.take N) = (secsOf L2).take N by unfold secsOf; rw [List.map_take], p3, HSN.out]) rfl (by
        show (Q2.take N).map (·.l) = _
        rw [List.map_take, p5, HSN.out])
      obtain ⟨M, hM⟩ : ∃ M, (backF (secsOf L) Y (Q.map (·.l)) z).length = M := ⟨_, rfl⟩
      have hL2 : L2.length = M := by
        have := congrArg List.length p3
        rw [hM] at this
        simpa [secsOf] using this
      have hQ2 : Q2.length = M := by
        have := congrArg List.length p5
        rw [hM] at this
        simpa using this
      have hNM : N < M := by have := HBM.out; rw [HSN.out, hM] at this; exact this
      have HNIL := Lib.hid (show ∀ i q, N ≤ i → Q2[i]? = some q → q.l.length = 0 from fun i q hi hq => by
        have h1 : (Q2.map (·.l))[i]? = some q.l := by rw [List.getElem?_map, hq]; rfl
        have h2 : i < M := by have := (List.getElem?_eq_some_iff.1 hq).1; omega
        rw [p5, hM, List.getElem?_map, List.getElem?_range h2] at h1
        injection h1 with h1
        simp only at h1
        have h3 : (Q.map (·.l))[i]? = none := by
          have := HRI.out
          rw [HSN.out] at this
          exact List.getElem?_eq_none (by omega)
        rw [h3] at h1
        rw [← h1]; rfl)
      have HQB := Lib.hid (show ∀ (i : Nat) (q : RLay), Q2[i]? = some q → q.l.length ≤ 6000 from fun i q hq => by
        have h1 : (Q2.map (·.l))[i]? = some q.l := by rw [List.getElem?_map, hq]; rfl
        have h2 : i < M := by have := (List.getElem?_eq_some_iff.1 hq).1; omega
        rw [p5, hM, List.getElem?_map, List.getElem?_range h2] at h1
        injection h1 with h1
        simp only at h1
        rw [← h1, List.getElem?_map]
        cases h3 : Q[i]? with
        | none => exact Nat.zero_le _
        | some q' => exact HSA.out.q q' (List.mem_of_getElem? h3))
      have hM64 : M ≤ 100000 := by
        have h1 := hs_len (S := secsOf L) (Y := Y) (R := Q.map (·.l)) (z := z) (n := N) (nr := nr) (by have := HSA.out.S; have h2 := HN.out; simp only at this; omega) (by have := HSA.out.Q; have h2 := HNR.out; simp only at this; omega) HSN.out (by simp; exact HNR.out)
        rw [hM] at h1
        exact h1
      obtain ⟨hs, hy, hl, hcS, hcR⟩ := hOk
      simp only at hs hy hl hcS hcR
      obtain ⟨b2, o2, rfl, hbb2, -⟩ := hs.row (by omega)
      obtain ⟨b3, o3, rfl, hbb3, -⟩ := hl.row (by omega)
      have HLK := Lib.hid hLike
      rw [HF.out.1, show ObjV.val ⟨kd, mc, some ⟨b2, o2, none⟩, c2, L2, yA, yc, Y, some ⟨b3, o3, none⟩, c3', Q2⟩ = .agg #[.int .i64 kd, .int .i64 mc, .slice (some ⟨b2, o2, none⟩) L2.length c2, .slice yA Y.length yc, .slice (some ⟨b3, o3, none⟩) Q2.length c3'] from rfl, hL2, hQ2, HNY.out]
      rw [hL2] at hcS
      rw [hQ2] at hcR
      have hb5 : Below w4.heap.size w4 (w4.alloc (.cells #[.int .i64 kd, .int .i64 mc, .slice (some ⟨b2, o2, none⟩) M c2, .slice yA ny yc, .slice (some ⟨b3, o3, none⟩) M c3'] 28)) := (Below.refl _ _).alloc (Nat.le_refl _) _
      have hY5 := Box.new w4 28 #[.int .i64 kd, .int .i64 mc, .slice (some ⟨b2, o2, none⟩) M c2, .slice yA ny yc, .slice (some ⟨b3, o3, none⟩) M c3']
      have hlt5 : w4.heap.size < (w4.alloc (.cells #[.int .i64 kd, .int .i64 mc, .slice (some ⟨b2, o2, none⟩) M c2, .slice yA ny yc, .slice (some ⟨b3, o3, none⟩) M c3'] 28)).heap.size := by simp
      have HB5 := Lib.hid (HB3.out.trans ((hb4.trans (hb5.mono hb4.size)).mono HB3.out.size))
      have HS5 := Lib.hid (hs.below hb5)
      have HY5 := Lib.hid (Row.below hy hb5)
      have HL5 := Lib.hid (hl.below hb5)
      have hw04 : w0.heap.size ≤ w4.heap.size := Nat.le_trans HB3.out.size hb4.size
      have HX5 := Lib.hid hY5
      have HQL := Lib.hid hQ2
      have HLL := Lib.hid hL2
      clear x0 x1 x2 x3 x4 p3 p5 hM hs hy hl hb4 hb5 hY5 HT HM hLike hL2 hQ2 hbb2 hbb3
      go_upto_region 9 with fail
      obtain ⟨y0, y1, y2, y3, y4⟩ := five_cells HX5.out
      obtain ⟨v0, v1, v2, v3, v4⟩ := five_free HX5.out
      obtain ⟨x0, x1, x2, x3, x4⟩ := KX.out _ HB5.out
      generalize hG : w4.heap.size = H at *
      generalize (w4.alloc (.cells #[.int .i64 kd, .int .i64 mc, .slice (some ⟨b2, o2, none⟩) M c2, .slice yA ny yc, .slice (some ⟨b3, o3, none⟩) M c3'] 28)) = w5 at *
      clear hG
      have dM : decide ((M : Int) ≤ (N : Int)) = false := decide_eq_false (by omega)
      have qM : ((M : Int) != (M : Int)) = false := by simp
      go_wp2_with fail
      clear dM qM
      go_loopg [8] (M - N) (fun gk i wx => ∃ k : Nat, N ≤ k ∧ k ≤ M ∧ gk = M - k ∧ i = .int .i64 k ∧ w5 = wx)
      case atStart => exact ⟨N, Nat.le_refl _, by omega, rfl, rfl, rfl⟩
      case round =>
        obtain ⟨k, hk0, hk, rfl, rfl, rfl⟩ := hrel
        by_cases hlt : k < M
        · obtain ⟨q, hq⟩ : ∃ q, Q2[k]? = some q := ⟨Q2[k]'(by rw [HQL.out]; exact hlt), List.getElem?_eq_getElem _⟩
          obtain ⟨b', o', e', _, c0⟩ := HL5.out.at_ hq
          cases e'
          rw [HNIL.out k q hk0 hq] at c0
          have HLT := Lib.hid hlt
          have HK0 := Lib.hid hk0
          clear hq
          go_wp2_with fail
          go_roundg (M - (k + 1))
          case measure => have := HLT.out; omega
          case rel => exact ⟨k + 1, by have := HK0.out; omega, HLT.out, rfl, by go_num, rfl⟩
        · have s1 : (0 : Int) ≤ (N : Int) := by omega
          have s2 : (N : Int) ≤ (M : Int) := by omega
          have s3 : (N : Int) ≤ (c2 : Int) := by omega
          have s4 : (N : Int) ≤ (c3' : Int) := by omega
          go_upto_region 17 with fail
          have hset := only_set (only_set (only_refl w5 (some H)) 2 (.slice (some ⟨b2, o2, none⟩) N c2)) 4 (.slice (some ⟨b3, o3, none⟩) N c3')
          have hOn : Only H (CellsOf 28) w5 _ := Only.row hset HX5.out rfl (Nat.le_refl _)
          have hBH : Below H w5 (((w5.setCell ⟨H, 2, none⟩ (.slice (some ⟨b2, o2, none⟩) N c2)).setCell ⟨H, 4, none⟩ (.slice (some ⟨b3, o3, none⟩) N c3')).drew) := hOn.1.drew
          have hX6 : Box (((w5.setCell ⟨H, 2, none⟩ (.slice (some ⟨b2, o2, none⟩) N c2)).setCell ⟨H, 4, none⟩ (.slice (some ⟨b3, o3, none⟩) N c3')).drew) H 28 #[.int .i64 kd, .int .i64 mc, .slice (some ⟨b2, o2, none⟩) N c2, .slice yA ny yc, .slice (some ⟨b3, o3, none⟩) N c3'] := ((HX5.out.set 2 (.slice (some ⟨b2, o2, none⟩) N c2)).set 4 (.slice (some ⟨b3, o3, none⟩) N c3'))
          have hsz : H ≤ (((w5.setCell ⟨H, 2, none⟩ (.slice (some ⟨b2, o2, none⟩) N c2)).setCell ⟨H, 4, none⟩ (.slice (some ⟨b3, o3, none⟩) N c3')).drew).heap.size := by have := hBH.size; omega
          have hlN : (L2.take N).length = N := by rw [List.length_take, HLL.out]; omega
          have hqN : (Q2.take N).length = N := by rw [List.length_take, HQL.out]; omega
          have hOk6 : (⟨kd, mc, some ⟨b2, o2, none⟩, c2, L2.take N, yA, yc, Y, some ⟨b3, o3, none⟩, c3', Q2.take N⟩ : ObjV).Ok (((w5.setCell ⟨H, 2, none⟩ (.slice (some ⟨b2, o2, none⟩) N c2)).setCell ⟨H, 4, none⟩ (.slice (some ⟨b3, o3, none⟩) N c3')).drew) (((w5.setCell ⟨H, 2, none⟩ (.slice (some ⟨b2, o2, none⟩) N c2)).setCell ⟨H, 4, none⟩ (.slice (some ⟨b3, o3, none⟩) N c3')).drew).heap.size :=
            ⟨((HS5.out.below hBH).take N).more hsz, Row.more (Row.below HY5.out hBH) hsz, ((HL5.out.below hBH).take N).more hsz, by simp only; omega, by simp only; omega⟩
          have hB6 : Below w0.heap.size w0 (((w5.setCell ⟨H, 2, none⟩ (.slice (some ⟨b2, o2, none⟩) N c2)).setCell ⟨H, 4, none⟩ (.slice (some ⟨b3, o3, none⟩) N c3')).drew) := HB5.out.trans (hBH.mono hw04)
          have HB6 := Lib.hid hB6
          have HS := Lib.hid (HSM.out _ (HB0.out.trans (hB6.mono HB0.out.size)) HSA.out _ hOk6 HLK.out (by simp only; omega) (by have h1 := HSA.out.Y; simp only at h1 ⊢; omega) (by simp only; omega) (fun q hq => by
            have h1 := List.mem_of_mem_take hq
            obtain ⟨i, hi, e⟩ := List.getElem_of_mem h1
            have h2 := HQB.out i q (by rw [← e]; exact List.getElem?_eq_getElem hi)
            omega))
          rw [show ObjV.val ⟨kd, mc, some ⟨b2, o2, none⟩, c2, L2.take N, yA, yc, Y, some ⟨b3, o3, none⟩, c3', Q2.take N⟩ = .agg #[.int .i64 kd, .int .i64 mc, .slice (some ⟨b2, o2, none⟩) (L2.take N).length c2, .slice yA Y.length yc, .slice (some ⟨b3, o3, none⟩) (Q2.take N).length c3'] from rfl, hlN, hqN, HNY.out] at HS
          have HX6 := Lib.hid hX6
          clear hset hOn hBH hX6 hsz hlN hqN hOk6
          go_region
          clear y0 y1 y2 y3 y4 v0 v1 v2 v3 v4 x0 x1 x2 x3 x4
          obtain ⟨y0, y1, y2, y3, y4⟩ := five_cells HX6.out
          obtain ⟨x0, x1, x2, x3, x4⟩ := KX.out _ hB6
          clear hB6
          generalize ((w5.setCell ⟨H, 2, none⟩ (.slice (some ⟨b2, o2, none⟩) N c2)).setCell ⟨H, 4, none⟩ (.slice (some ⟨b3, o3, none⟩) N c3')).drew = w6 at *
          go_wp2_with fail
          refine HS.out.mono ?_
          rintro r w7 ⟨rfl, hb7⟩
          have HB7 := Lib.hid (HB0.out.trans ((HB6.out.trans (hb7.mono HB6.out.size)).mono HB0.out.size))
          clear hb7
          go_wp2_with fail
          go_ret
          exact ⟨rfl, HB7.out⟩

end Go.Proofs.YtldmjnbmjfnfeaaGreatDoor
