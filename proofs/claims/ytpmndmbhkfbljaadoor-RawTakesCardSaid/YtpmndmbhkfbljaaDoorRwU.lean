/-
  RawTakes' walk.
-/
import Derived.Test.YtpmndmbhkfbljaaDoorRwT
import Derived.Test.YtpmndmbhkfbljaaDoorRwG
import Derived.Test.YtpmndmbhkfbljaaDoorRoundRegion
namespace Go.Proofs.YtpmndmbhkfbljaaDoor
open Go Go.RowKit

theorem three_cellsT {W : World} {H : Nat} {T : TypeId} {c0 c1 c2 : Value} (h : Box W H T #[c0, c1, c2]) : W.cell? ⟨H, 0, none⟩ = some c0 ∧ W.cell? ⟨H, 1, none⟩ = some c1 ∧ W.cell? ⟨H, 2, none⟩ = some c2 := by
  refine ⟨?_, ?_, ?_⟩ <;> (rw [h.cell]; rfl)
def pickN (d : Bool) (a : Nat) : Nat := match d with | true => a | false => 0
def pickI (d : Bool) (a : Int) : Int := match d with | true => a | false => 0
/-- What each operation of the region of the two Takes has told. -/
def ST4 (g gr : Nat) (at_ f imp : Int) (wide : Bool) (x : RV) (b : TB) (i : Nat) (v : Value) (_ : World) : Prop :=
  match i with
  | 0 => v = .pointer (some ⟨g, 0, none⟩)
  | 1 => v = .agg #[.int .i64 at_, .int .i64 f, .int .i64 imp]
  | 2 => v = .bool wide
  | 3 => b.d1 = true ∧ v = .agg (xcells x b.A1 b.c1)
  | 4 => v = .pointer (some ⟨gr, 0, none⟩)
  | 5 => v = .agg #[.int .i64 at_, .int .i64 f, .int .i64 imp]
  | 6 => v = .bool wide
  | 7 => b.d2 = true ∧ v = .agg (xcells x b.A2 b.c2)
  | 8 => b.a1 = true ∧ v = .pointer (some ⟨b.h1, 0, none⟩)
  | 9 => b.a2 = true ∧ v = .pointer (some ⟨b.h2, 0, none⟩)
  | 10 => b.s1 = true
  | 11 => b.s2 = true
  | _ => True
def RT4 (b : TB) (i : Nat) : Prop := (i = 3 → b.d1 = false) ∧ (i = 7 → b.d2 = false) ∧ (i = 8 → b.a1 = false) ∧ (i = 9 → b.a2 = false)

set_option maxRecDepth 10000 in
set_option maxHeartbeats 6400000 in
theorem rtakes14_walk (a0 : Option Addr) (len0 cap0 : Nat) (z0 : List Int) (at_ f imp : Int) (wide : Bool) (w : World) (hF : Ft w) (hS : Sz w) (w0 : IsRow .u8 w a0 len0 cap0 z0) (_ : InI f) (_ : InI imp) :
    Calls Tryd.prog 3 #[.slice a0 len0 cap0, .agg #[.int .i64 at_, .int .i64 f, .int .i64 imp], .bool wide] w fun r w' => r = .returned (.bool true) ∧ Below w.heap.size w w' := by
  obtain ⟨l, hlen, hrd, hlc, hcm⟩ := row_bytes w0
  clear w0
  have hA := (Below.refl w.heap.size w).alloc (Nat.le_refl _) (.cells #[.int .i64 at_, .int .i64 f, .int .i64 imp] 24)
  have hX0 := Box.new w 24 #[.int .i64 at_, .int .i64 f, .int .i64 imp]
  have hF0 := hF.up hA
  have hS0 := hS.below hA hS.pos
  have HWK := Lib.hid (fun W (hW : Below w.heap.size w W) => works14_any (hF.up hW) (hS.below hW hS.pos))
  clear hF hS
  go_enter Tryd.func3, Tryd.ntmps3
  go_upto_region 1 with fail
  generalize hwa : w.alloc (.cells #[.int .i64 at_, .int .i64 f, .int .i64 imp] 24) = wa at *
  have hza : w.heap.size < wa.heap.size := by rw [← hwa]; simp
  clear hwa
  have HA := Lib.hid hA
  have HX0 := Lib.hid hX0
  have HZA := Lib.hid hza
  by_cases hbig : 3000 < len0
  · have hd : decide ((3000 : Int) < (len0 : Int)) = true := by simp; omega
    clear hlen hrd hlc hcm hF0 hS0 hA hX0 hza hbig
    go_wp2_with (go_at_call 7; refine (HWK.out _ HA.out).mono ?_; rintro r w1 ⟨rfl, hb1⟩; have HB1 := Lib.hid (HA.out.trans (hb1.mono HA.out.size)); clear hb1)
    go_ret
    exact ⟨rfl, HB1.out⟩
  have hd : decide ((3000 : Int) < (len0 : Int)) = false := by simp; omega
  have hl : l.length ≤ 140737488355000 := by omega
  have hl' : l.length ≤ 140737488355328 := by omega
  have hrda : Rd wa wa.heap.size a0 l := (hrd.below hA).more hA.size
  have HN := Lib.hid (by
    have h := new_any cap0 hrda (Nat.le_refl _) hl'
    rw [hlen] at h
    exact h : Calls Tryd.prog 8 #[.slice a0 len0 cap0] wa fun r w' => ∃ g v, r = .returned (.pointer (some ⟨g, 0, none⟩)) ∧ Made wa.heap.size w' g v l 0 ∧ Below wa.heap.size wa w')
  have HM := Lib.hid (fun (w1 : World) (g : Nat) (v : Value) (hb : Below wa.heap.size wa w1) (hM : Made wa.heap.size w1 g v l 0) => (by have := Pair.make hb hM hrda (by omega : l.length ≤ cap0) hcm; rwa [hlen] at this : Pair wa.heap.size wa (w1.alloc (.cells #[.slice a0 len0 cap0, .int .i64 0, .int .i64 0] 30)) g v w1.heap.size (.slice a0 len0 cap0) l 0 0 0 0))
  obtain ⟨tk, htk⟩ : ∃ tk, takeW l f imp wide (0, 0) = tk := ⟨_, rfl⟩
  obtain ⟨x, A, E⟩ := tk
  have HT := Lib.hid (fun (W : World) (g : Nat) (v : Value) (gr : Nat) (a' : Nat) (e' : Int) (P : Pair wa.heap.size wa W g v gr (.slice a0 len0 cap0) l 0 0 a' e') => (show Calls Tryd.prog 9 #[.pointer (some ⟨g, 0, none⟩), .agg #[.int .i64 at_, .int .i64 f, .int .i64 imp], .bool wide] W fun r w' => ∃ A1 c1, r = .returned (.agg (xcells x A1 c1)) ∧ Own w' W.heap.size (.slice A1 x.b.length c1) x.b ∧ Pair wa.heap.size wa w' g v gr (.slice a0 len0 cap0) l A E a' e' ∧ W.grownBy w' (some g) from
    (takeW_st (s := (0, 0)) ⟨P.c, hF0.up P.below, hS0.below P.below hS0.pos⟩ hl' at_ f imp wide).mono fun r w' ⟨⟨A1, c1, h1, h2⟩, h3, h4⟩ => by
      rw [htk] at h1 h2 h3
      exact ⟨A1, c1, h1, h2, P.stepC h3.c h4, h4⟩))
  have QT := Lib.hid (fun (W : World) (g : Nat) (v : Value) (gr : Nat) (a : Nat) (e : Int) (P : Pair wa.heap.size wa W g v gr (.slice a0 len0 cap0) l a e 0 0) => (show Calls Tryd.prog 10 #[.pointer (some ⟨gr, 0, none⟩), .agg #[.int .i64 at_, .int .i64 f, .int .i64 imp], .bool wide] W fun r w' => ∃ A1 c1, r = .returned (.agg (xcells x A1 c1)) ∧ Own w' W.heap.size (.slice A1 x.b.length c1) x.b ∧ Pair wa.heap.size wa w' g v gr (.slice a0 len0 cap0) l a e A E ∧ W.grownBy w' (some gr) from
    (rtakeW_st (s := (0, 0)) P.r P.below.size hl at_ f imp wide).mono fun r w' ⟨⟨A1, c1, h1, h2⟩, h3, h4⟩ => by
      rw [htk] at h1 h2 h3
      exact ⟨A1, c1, h1, h2, P.stepR h3 h4, h4⟩))
  have HKD := Lib.hid (fun W (hW : Below wa.heap.size wa W) => kind_any (hF0.up hW) f)
  clear hlen hrd hlc hcm hbig hl hl' hrda hF0 hS0 hA hX0 hza htk
  go_upto_region 4 with (go_at_call 8; refine HN.out.mono ?_; rintro r w1 ⟨g, v, rfl, hM, hb1⟩; have T0 := Lib.hid (HM.out w1 g v hb1 hM); clear hM hb1)
  clear HN HM hd
  generalize hw3 : w1.alloc (.cells #[.slice a0 len0 cap0, .int .i64 0, .int .i64 0] 30) = w3 at *
  clear hw3
  generalize w1.heap.size = gr at *
  have HSP := Lib.hid (fun W (hW : Below wa.heap.size wa W) => three_cellsT (HX0.out.below hW HX0.out.lt))
  refine region_ey 68 (ST4 g gr at_ f imp wide x) (fun b W => Pair wa.heap.size wa W g v gr (.slice a0 len0 cap0) l (pickN b.d1 A) (pickI b.d1 E) (pickN b.d2 A) (pickI b.d2 E) ∧ Two wa.heap.size x b W) RT4 TB.zero (fun _ => ⟨fun _ => rfl, fun _ => rfl, fun _ => rfl, fun _ => rfl⟩) (by kernel_rfl) rfl (by kernel_rfl) (by kernel_rfl) ⟨T0.out.drew, Two.zero _ _ _⟩ ?steps ?rest
  case steps =>
    intro i o ho b a X hN hk hg hRb hdep K hK
    have s2 : a.tmps[2]? = some (.bool wide) := slot_some hN (by decide) (kept_at hk (by kernel_rfl))
    have s4 : a.tmps[4]? = some (.pointer (some ⟨w.heap.size, 0, none⟩)) := slot_some hN (by decide) (kept_at hk (by kernel_rfl))
    have s7 : a.tmps[7]? = some (.pointer (some ⟨g, 0, none⟩)) := slot_some hN (by decide) (kept_at hk (by kernel_rfl))
    have s8 : a.tmps[8]? = some (.pointer (some ⟨gr, 0, none⟩)) := slot_some hN (by decide) (kept_at hk (by kernel_rfl))
    have hBW := hg.1.below
    rcases i with _ | _ | _ | _ | _ | _ | _ | _ | _ | _ | _ | _ | i
    · obtain rfl := Option.some.inj ho
      clear ho hk
      refine (if_pos (by rfl)).mpr ?_
      clear hN
      go_simp
      exact hK _ _ b hg rfl (fun _ _ _ _ h => h) (fun _ _ h => h)
    · obtain rfl := Option.some.inj ho
      clear ho hk
      refine (if_pos (by rfl)).mpr ?_
      obtain ⟨x0, x1, x2⟩ := HSP.out _ hBW
      clear hN
      go_simp
      exact hK _ _ b hg rfl (fun _ _ _ _ h => h) (fun _ _ h => h)
    · obtain rfl := Option.some.inj ho
      clear ho hk
      refine (if_pos (by rfl)).mpr ?_
      clear hN
      go_simp
      exact hK _ _ b hg rfl (fun _ _ _ _ h => h) (fun _ _ h => h)
    · obtain rfl := Option.some.inj ho
      clear ho hk
      refine (if_pos (by rfl)).mpr ?_
      have e0 := slot_some hN (by decide) (hdep { on := 0, ground := .data } (by simp) rfl)
      have e1 := slot_some hN (by decide) (hdep { on := 1, ground := .data } (by simp) rfl)
      have e2 := slot_some hN (by decide) (hdep { on := 2, ground := .data } (by simp) rfl)
      have hd := hRb.1 rfl
      have hp := hg.1
      rw [hd] at hp
      clear hN
      go_simp
      refine (HT.out _ _ _ _ _ _ hp).mono ?_
      rintro r w' ⟨A1, c1, rfl, hO, hP, hG⟩
      refine hK _ _ { b with d1 := true, A1 := A1, c1 := c1 } ⟨hP, (hg.2.far hp.c.1 (by decide) (by decide) hG).got1 hd (own_base hO hBW.size)⟩ ⟨rfl, rfl⟩ ?_ (fun j hj h => ⟨fun e => absurd e hj, h.2.1, h.2.2.1, h.2.2.2⟩)
      intro j u hji hw h
      rcases j with _ | _ | _ | _ | _ | _ | _ | _ | _ | _ | _ | _ | j
      all_goals first | exact h | exact absurd rfl hji | exact trivial | exact absurd (hw.symm.trans (by kernel_rfl)) Bool.false_ne_true
    · obtain rfl := Option.some.inj ho
      clear ho hk
      refine (if_pos (by rfl)).mpr ?_
      clear hN
      go_simp
      exact hK _ _ b hg rfl (fun _ _ _ _ h => h) (fun _ _ h => h)
    · obtain rfl := Option.some.inj ho
      clear ho hk
      refine (if_pos (by rfl)).mpr ?_
      obtain ⟨x0, x1, x2⟩ := HSP.out _ hBW
      clear hN
      go_simp
      exact hK _ _ b hg rfl (fun _ _ _ _ h => h) (fun _ _ h => h)
    · obtain rfl := Option.some.inj ho
      clear ho hk
      refine (if_pos (by rfl)).mpr ?_
      clear hN
      go_simp
      exact hK _ _ b hg rfl (fun _ _ _ _ h => h) (fun _ _ h => h)
    · obtain rfl := Option.some.inj ho
      clear ho hk
      refine (if_pos (by rfl)).mpr ?_
      have e0 := slot_some hN (by decide) (hdep { on := 4, ground := .data } (by simp) rfl)
      have e1 := slot_some hN (by decide) (hdep { on := 5, ground := .data } (by simp) rfl)
      have e2 := slot_some hN (by decide) (hdep { on := 6, ground := .data } (by simp) rfl)
      have hd := hRb.2.1 rfl
      have hp := hg.1
      rw [hd] at hp
      clear hN
      go_simp
      refine (QT.out _ _ _ _ _ _ hp).mono ?_
      rintro r w' ⟨A1, c1, rfl, hO, hP, hG⟩
      refine hK _ _ { b with d2 := true, A2 := A1, c2 := c1 } ⟨hP, (hg.2.far hp.r.1 (by decide) (by decide) hG).got2 hd (own_base hO hBW.size)⟩ ⟨rfl, rfl⟩ ?_ (fun j hj h => ⟨h.1, fun e => absurd e hj, h.2.2.1, h.2.2.2⟩)
      intro j u hji hw h
      rcases j with _ | _ | _ | _ | _ | _ | _ | _ | _ | _ | _ | _ | j
      all_goals first | exact h | exact absurd rfl hji | exact trivial | exact absurd (hw.symm.trans (by kernel_rfl)) Bool.false_ne_true
    · obtain rfl := Option.some.inj ho
      clear ho hk
      refine (if_pos (by rfl)).mpr ?_
      have ha := hRb.2.2.1 rfl
      go_simp
      have hb : Below X.heap.size X (X.alloc (.cells zcells 33)) := (Below.refl _ _).alloc (Nat.le_refl _) _
      refine hK _ _ { b with a1 := true, h1 := X.heap.size } ⟨hg.1.up hb, hg.2.new1 ha hBW.size⟩ ⟨rfl, rfl⟩ ?_ (fun j hj h => ⟨h.1, h.2.1, fun e => absurd e hj, h.2.2.2⟩)
      intro j u hji hw h
      rcases j with _ | _ | _ | _ | _ | _ | _ | _ | _ | _ | _ | _ | j
      all_goals first | exact h | exact absurd rfl hji | exact trivial | exact absurd (hw.symm.trans (by kernel_rfl)) Bool.false_ne_true
    · obtain rfl := Option.some.inj ho
      clear ho hk
      refine (if_pos (by rfl)).mpr ?_
      have ha := hRb.2.2.2 rfl
      go_simp
      have hb : Below X.heap.size X (X.alloc (.cells zcells 33)) := (Below.refl _ _).alloc (Nat.le_refl _) _
      refine hK _ _ { b with a2 := true, h2 := X.heap.size } ⟨hg.1.up hb, hg.2.new2 ha hBW.size⟩ ⟨rfl, rfl⟩ ?_ (fun j hj h => ⟨h.1, h.2.1, h.2.2.1, fun e => absurd e hj⟩)
      intro j u hji hw h
      rcases j with _ | _ | _ | _ | _ | _ | _ | _ | _ | _ | _ | _ | j
      all_goals first | exact h | exact absurd rfl hji | exact trivial | exact absurd (hw.symm.trans (by kernel_rfl)) Bool.false_ne_true
    · obtain rfl := Option.some.inj ho
      clear ho hk
      refine (if_pos (by rfl)).mpr ?_
      obtain ⟨ha, e0⟩ := hdep { on := 8, ground := .data } (by simp) rfl
      obtain ⟨hd, e1⟩ := hdep { on := 3, ground := .data } (by simp) rfl
      have e0 := slot_some hN (by decide) e0
      have e1 := slot_some hN (by decide) e1
      obtain ⟨hB, hX⟩ := hg.2.x1 ha
      obtain ⟨⟨_, v0⟩, ⟨_, v1⟩, ⟨_, v2⟩, ⟨_, v3⟩, ⟨_, v4⟩⟩ := stored_cells hX
      obtain ⟨f0, f1, f2, f3, f4⟩ := five_freeR hX
      have hput := hg.2.put1 ha hd
      have hfar := hg.1.far hX (by decide) (by decide) (by decide) hB (set5_only X b.h1 x b.A1 b.c1)
      clear hN
      go_simp
      refine hK undef _ { b with s1 := true } ⟨hfar, hput⟩ rfl ?_ (fun _ _ h => h)
      intro j u hji hw h
      rcases j with _ | _ | _ | _ | _ | _ | _ | _ | _ | _ | _ | _ | j
      all_goals first | exact h | exact absurd rfl hji | exact trivial | exact absurd (hw.symm.trans (by kernel_rfl)) Bool.false_ne_true
    · obtain rfl := Option.some.inj ho
      clear ho hk
      refine (if_pos (by rfl)).mpr ?_
      obtain ⟨ha, e0⟩ := hdep { on := 9, ground := .data } (by simp) rfl
      obtain ⟨hd, e1⟩ := hdep { on := 7, ground := .data } (by simp) rfl
      have e0 := slot_some hN (by decide) e0
      have e1 := slot_some hN (by decide) e1
      obtain ⟨hB, hX⟩ := hg.2.x2 ha
      obtain ⟨⟨_, v0⟩, ⟨_, v1⟩, ⟨_, v2⟩, ⟨_, v3⟩, ⟨_, v4⟩⟩ := stored_cells hX
      obtain ⟨f0, f1, f2, f3, f4⟩ := five_freeR hX
      have hput := hg.2.put2 ha hd
      have hfar := hg.1.far hX (by decide) (by decide) (by decide) hB (set5_only X b.h2 x b.A2 b.c2)
      clear hN
      go_simp
      refine hK undef _ { b with s2 := true } ⟨hfar, hput⟩ rfl ?_ (fun _ _ h => h)
      intro j u hji hw h
      rcases j with _ | _ | _ | _ | _ | _ | _ | _ | _ | _ | _ | _ | j
      all_goals first | exact h | exact absurd rfl hji | exact trivial | exact absurd (hw.symm.trans (by kernel_rfl)) Bool.false_ne_true
    · exact absurd ho (by simp)
  case rest =>
    intro b a X hN hdf hk hg hall
    obtain ⟨hd1, -⟩ := hall 3 (by decide)
    obtain ⟨hd2, -⟩ := hall 7 (by decide)
    obtain ⟨ha1, e9⟩ := hall 8 (by decide)
    obtain ⟨ha2, e10⟩ := hall 9 (by decide)
    have hs1 : b.s1 = true := hall 10 (by decide)
    have hs2 : b.s2 = true := hall 11 (by decide)
    have hp := hg.1
    rw [hd1, hd2] at hp
    have hx1 := (hg.2.x1 ha1).2
    have hx2 := (hg.2.x2 ha2).2
    rw [hs1] at hx1
    rw [hs2] at hx2
    have HP4 := Lib.hid (show Pair wa.heap.size wa X g v gr (.slice a0 len0 cap0) l A E A E from hp)
    have HX1 := Lib.hid (show Box X b.h1 33 (xcells x b.A1 b.c1) from hx1)
    have HX2 := Lib.hid (show Box X b.h2 33 (xcells x b.A2 b.c2) from hx2)
    have HO1 := Lib.hid (hg.2.o1 hd1)
    have HO2 := Lib.hid (hg.2.o2 hd2)
    rw [act_eq [20, 21, 22, 23, 24, 25, 26, 27, 9, 10] hN rfl hdf hk (by kernel_rfl)]
    obtain ⟨F, hF⟩ : ∃ F : Tmp → Value, F = fun t => a.tmps.getD t undef := ⟨_, rfl⟩
    have e9 : F 9 = .pointer (some ⟨b.h1, 0, none⟩) := by rw [hF]; exact e9
    have e10 : F 10 = .pointer (some ⟨b.h2, 0, none⟩) := by rw [hF]; exact e10
    rw [← hF]
    clear hF hk hall hN hdf hg hp hx1 hx2 hd1 hd2 ha1 ha2 hs1 hs2 HT QT T0
    simp only [laySlots, List.setIfInBounds_toArray, List.set_cons_succ, List.set_cons_zero]
    rw [e9, e10]
    clear e9 e10
    generalize b.h1 = h1 at *
    generalize b.h2 = h2 at *
    generalize b.A1 = A1 at *
    generalize b.A2 = A2 at *
    generalize b.c1 = c1 at *
    generalize b.c2 = c2 at *
    refine ‹∀ (a : Act) (w : World), Code.wp Tryd.prog _ _ a w → _› _ _ ?_
    have hsz4 := HP4.out.below.size
    have HB4 := Lib.hid (HA.out.trans (HP4.out.below.mono HA.out.size))
    have hr1 : Rd X X.heap.size A1 x.b := by obtain ⟨A', c', e, -, -, h⟩ := own_slice HO1.out; injection e with e1; rw [e1]; exact h
    have hr2 : Rd X X.heap.size A2 x.b := by obtain ⟨A', c', e, -, -, h⟩ := own_slice HO2.out; injection e with e1; rw [e1]; exact h
    have HSM := Lib.hid (fun W (hW : Below X.heap.size X W) => (by
      have := rsameV_any (w := W) ⟨x, A1, c1⟩ ⟨x, A2, c2⟩ ((hr1.below hW).more hW.size) ((hr2.below hW).more hW.size)
      rw [show sameV (WLay.x ⟨x, A1, c1⟩) (WLay.x ⟨x, A2, c2⟩) = true from sameV_self _] at this
      exact this.mono fun r w' h => ⟨h.1, hW.trans (h.2.mono hW.size)⟩ : Calls Tryd.prog 11 #[.agg #[.int .i64 x.form, .int .u64 (x.u : Int), .int .i64 x.s, .slice A1 x.b.length c1, .string ⟨x.t.toArray⟩], .agg #[.int .i64 x.form, .int .u64 (x.u : Int), .int .i64 x.s, .slice A2 x.b.length c2, .string ⟨x.t.toArray⟩]] W fun r w' => r = .returned (.bool true) ∧ Below X.heap.size X w'))
    have HER := Lib.hid (fun W (hW : Below X.heap.size X W) => err_cur (HP4.out.c.below hW))
    have HAT := Lib.hid (fun W (hW : Below X.heap.size X W) => at_cur (HP4.out.c.below hW))
    have HK' := Lib.hid (fun W (hW : Below X.heap.size X W) => HKD.out W (HP4.out.below.trans (hW.mono hsz4)))
    have HW' := Lib.hid (fun W (hW : Below X.heap.size X W) => (HWK.out W (HB4.out.trans (hW.mono HB4.out.size))).mono fun r w' h => (⟨h.1, hW.trans (h.2.mono hW.size)⟩ : r = .returned (.bool true) ∧ Below X.heap.size X w'))
    have K5 := Lib.hid (fun W (hW : Below X.heap.size X W) => (⟨hW, five_cellsR (HX1.out.below hW HX1.out.lt), five_cellsR (HX2.out.below hW HX2.out.lt), (three_cellsT (HP4.out.r.1.below hW HP4.out.r.1.lt)).2.1, (three_cellsT (HP4.out.r.1.below hW HP4.out.r.1.lt)).2.2, (HSP.out _ (HP4.out.below.trans (hW.mono hsz4))).2.1⟩ : Below X.heap.size X W ∧ (W.cell? ⟨h1, 0, none⟩ = some (.int .i64 x.form) ∧ W.cell? ⟨h1, 1, none⟩ = some (.int .u64 (x.u : Int)) ∧ W.cell? ⟨h1, 2, none⟩ = some (.int .i64 x.s) ∧ W.cell? ⟨h1, 3, none⟩ = some (.slice A1 x.b.length c1) ∧ W.cell? ⟨h1, 4, none⟩ = some (.string ⟨x.t.toArray⟩)) ∧ (W.cell? ⟨h2, 0, none⟩ = some (.int .i64 x.form) ∧ W.cell? ⟨h2, 1, none⟩ = some (.int .u64 (x.u : Int)) ∧ W.cell? ⟨h2, 2, none⟩ = some (.int .i64 x.s) ∧ W.cell? ⟨h2, 3, none⟩ = some (.slice A2 x.b.length c2) ∧ W.cell? ⟨h2, 4, none⟩ = some (.string ⟨x.t.toArray⟩)) ∧ W.cell? ⟨gr, 1, none⟩ = some (.int .i64 (A : Int)) ∧ W.cell? ⟨gr, 2, none⟩ = some (.int .i64 E) ∧ W.cell? ⟨w.heap.size, 1, none⟩ = some (.int .i64 f)))
    clear HX1 HX2 HO1 HO2 HSP HKD HWK hr1 hr2 hsz4 HP4
    generalize x.form = xf at *
    generalize x.u = xu at *
    generalize x.s = xs at *
    generalize x.b.length = xn at *
    generalize (ByteArray.mk x.t.toArray) = xt at *
    have hrf := Below.refl X.heap.size X
    have hqa : ((A : Int) == (A : Int)) = true := by simp
    have hqe : (E == E) = true := by simp
    have HQK := Lib.hid (fun W => rkind_any W f)
    have hqk : (kindF f == kindF f) = true := by simp
    generalize kindF f = kf at *
    go_upto_region 5 with fail
    by_cases hE : E = 0
    · subst hE
      refine wp_region_held_drew (S := (fun W => Below X.heap.size X W ∧ (W.cell? ⟨h1, 0, none⟩ = some (.int .i64 xf) ∧ W.cell? ⟨h1, 1, none⟩ = some (.int .u64 (xu : Int)) ∧ W.cell? ⟨h1, 2, none⟩ = some (.int .i64 xs) ∧ W.cell? ⟨h1, 3, none⟩ = some (.slice A1 xn c1) ∧ W.cell? ⟨h1, 4, none⟩ = some (.string xt)) ∧ (W.cell? ⟨h2, 0, none⟩ = some (.int .i64 xf) ∧ W.cell? ⟨h2, 1, none⟩ = some (.int .u64 (xu : Int)) ∧ W.cell? ⟨h2, 2, none⟩ = some (.int .i64 xs) ∧ W.cell? ⟨h2, 3, none⟩ = some (.slice A2 xn c2) ∧ W.cell? ⟨h2, 4, none⟩ = some (.string xt)) ∧ W.cell? ⟨gr, 1, none⟩ = some (.int .i64 (A : Int)) ∧ W.cell? ⟨gr, 2, none⟩ = some (.int .i64 0) ∧ W.cell? ⟨w.heap.size, 1, none⟩ = some (.int .i64 f))) (by kernel_rfl) ?_ (fun hHeld => ?_)
      · exact K5.out _ (by go_grown)
      refine take_r (i := 0) (v := ?_) rfl (by kernel_rfl) (by kernel_rfl) (by kernel_rfl) (fun _ _ _ h => h) (Or.inl ⟨by rfl, ?_⟩) hHeld ?_
      rotate_left
      · (intro wS hSw; (try dsimp only at hSw); go_simp; (try with_reducible rfl))
      try simp only [Act.put, List.setIfInBounds_toArray, List.set_cons_zero, List.set_cons_succ]
      refine take_r (i := 1) (v := ?_) rfl (by kernel_rfl) (by kernel_rfl) (by kernel_rfl) (fun _ _ _ h => h) (Or.inl ⟨by rfl, ?_⟩) hHeld ?_
      rotate_left
      · (intro wS hSw; (try dsimp only at hSw); go_simp; (try with_reducible rfl))
      try simp only [Act.put, List.setIfInBounds_toArray, List.set_cons_zero, List.set_cons_succ]
      refine wpAnyH_ready (rs := [2]) (by kernel_rfl) (by simp) ?_
      refine ready_r rfl (fun K hK => ?_)
      go_simp
      go_wp2_with ((go_at_call 11; refine (HSM.out _ hHeld.1).mono ?_; rintro r w5 ⟨rfl, hb5⟩))
      refine hK.out _ _ ?_ (fun hNew => ?_)
      · exact K5.out _ hb5
      clear hHeld hK K
      have hHeld := hNew
      clear hNew
      refine take_r (i := 3) (v := ?_) rfl (by kernel_rfl) (by kernel_rfl) (by kernel_rfl) (fun _ _ _ h => h) (Or.inl ⟨by rfl, ?_⟩) hHeld ?_
      rotate_left
      · (intro wS hSw; (try dsimp only at hSw); go_simp; (try with_reducible rfl))
      try simp only [Act.put, List.setIfInBounds_toArray, List.set_cons_zero, List.set_cons_succ]
      refine take_r (i := 4) (v := ?_) rfl (by kernel_rfl) (by kernel_rfl) (by kernel_rfl) (fun _ _ _ h => h) (Or.inl ⟨by rfl, ?_⟩) hHeld ?_
      rotate_left
      · (intro wS hSw; (try dsimp only at hSw); go_simp; (try with_reducible rfl))
      try simp only [Act.put, List.setIfInBounds_toArray, List.set_cons_zero, List.set_cons_succ]
      refine take_r (i := 6) (v := ?_) rfl (by kernel_rfl) (by kernel_rfl) (by kernel_rfl) (fun _ _ _ h => h) (Or.inl ⟨by rfl, ?_⟩) hHeld ?_
      rotate_left
      · (intro wS hSw; (try dsimp only at hSw); go_simp; (try with_reducible rfl))
      try simp only [Act.put, List.setIfInBounds_toArray, List.set_cons_zero, List.set_cons_succ]
      refine take_r (i := 7) (v := ?_) rfl (by kernel_rfl) (by kernel_rfl) (by kernel_rfl) (fun _ _ _ h => h) (Or.inl ⟨by rfl, ?_⟩) hHeld ?_
      rotate_left
      · (intro wS hSw; (try dsimp only at hSw); go_simp; (try with_reducible rfl))
      try simp only [Act.put, List.setIfInBounds_toArray, List.set_cons_zero, List.set_cons_succ]
      refine take_r (i := 8) (v := ?_) rfl (by kernel_rfl) (by kernel_rfl) (by kernel_rfl) (fun _ _ _ h => h) (Or.inl ⟨by rfl, ?_⟩) hHeld ?_
      rotate_left
      · (intro wS hSw; (try dsimp only at hSw); go_simp; (try with_reducible rfl))
      try simp only [Act.put, List.setIfInBounds_toArray, List.set_cons_zero, List.set_cons_succ]
      refine take_r (i := 9) (v := ?_) rfl (by kernel_rfl) (by kernel_rfl) (by kernel_rfl) (fun _ _ _ h => h) (Or.inl ⟨by rfl, ?_⟩) hHeld ?_
      rotate_left
      · (intro wS hSw; (try dsimp only at hSw); go_simp; (try with_reducible rfl))
      try simp only [Act.put, List.setIfInBounds_toArray, List.set_cons_zero, List.set_cons_succ]
      refine wpAnyH_ready (rs := [5]) (by kernel_rfl) (by simp) ?_
      refine ready_r rfl (fun K hK => ?_)
      go_simp
      go_wp2_with ((go_at_call 12; refine (HER.out _ hHeld.1).mono ?_; rintro r w6 ⟨rfl, rfl⟩))
      refine hK.out _ _ ?_ (fun hNew => ?_)
      · exact hHeld
      clear hHeld hK K
      have hHeld := hNew
      clear hNew
      refine take_r (i := 10) (v := ?_) rfl (by kernel_rfl) (by kernel_rfl) (by kernel_rfl) (fun _ _ _ h => h) (Or.inl ⟨by rfl, ?_⟩) hHeld ?_
      rotate_left
      · (intro wS hSw; (try dsimp only at hSw); go_simp; (try with_reducible rfl))
      try simp only [Act.put, List.setIfInBounds_toArray, List.set_cons_zero, List.set_cons_succ]
      refine take_r (i := 11) (v := ?_) rfl (by kernel_rfl) (by kernel_rfl) (by kernel_rfl) (fun _ _ _ h => h) (Or.inl ⟨by rfl, ?_⟩) hHeld ?_
      rotate_left
      · (intro wS hSw; (try dsimp only at hSw); go_simp; (try with_reducible rfl))
      try simp only [Act.put, List.setIfInBounds_toArray, List.set_cons_zero, List.set_cons_succ]
      refine take_r (i := 12) (v := ?_) rfl (by kernel_rfl) (by kernel_rfl) (by kernel_rfl) (fun _ _ _ h => h) (Or.inl ⟨by rfl, ?_⟩) hHeld ?_
      rotate_left
      · (intro wS hSw; (try dsimp only at hSw); go_simp; (try with_reducible rfl))
      try simp only [Act.put, List.setIfInBounds_toArray, List.set_cons_zero, List.set_cons_succ]
      refine take_r (i := 13) (v := ?_) rfl (by kernel_rfl) (by kernel_rfl) (by kernel_rfl) (fun _ _ _ h => h) (Or.inl ⟨by rfl, ?_⟩) hHeld ?_
      rotate_left
      · (intro wS hSw; (try dsimp only at hSw); go_simp; (try with_reducible rfl))
      try simp only [Act.put, List.setIfInBounds_toArray, List.set_cons_zero, List.set_cons_succ]
      refine take_r (i := 14) (v := ?_) rfl (by kernel_rfl) (by kernel_rfl) (by kernel_rfl) (fun _ _ _ h => h) (Or.inl ⟨by rfl, ?_⟩) hHeld ?_
      rotate_left
      · (intro wS hSw; (try dsimp only at hSw); go_simp; (try with_reducible rfl))
      try simp only [Act.put, List.setIfInBounds_toArray, List.set_cons_zero, List.set_cons_succ]
      refine take_r (i := 15) (v := ?_) rfl (by kernel_rfl) (by kernel_rfl) (by kernel_rfl) (fun _ _ _ h => h) (Or.inl ⟨by rfl, ?_⟩) hHeld ?_
      rotate_left
      · (intro wS hSw; (try dsimp only at hSw); go_simp; (try with_reducible rfl))
      try simp only [Act.put, List.setIfInBounds_toArray, List.set_cons_zero, List.set_cons_succ]
      refine take_r (i := 16) (v := ?_) rfl (by kernel_rfl) (by kernel_rfl) (by kernel_rfl) (fun _ _ _ h => h) (Or.inl ⟨by rfl, ?_⟩) hHeld ?_
      rotate_left
      · (intro wS hSw; (try dsimp only at hSw); go_simp; (try with_reducible rfl))
      try simp only [Act.put, List.setIfInBounds_toArray, List.set_cons_zero, List.set_cons_succ]
      refine take_r (i := 17) (v := ?_) rfl (by kernel_rfl) (by kernel_rfl) (by kernel_rfl) (fun _ _ _ h => h) (Or.inl ⟨by rfl, ?_⟩) hHeld ?_
      rotate_left
      · (intro wS hSw; (try dsimp only at hSw); go_simp; (try with_reducible rfl))
      try simp only [Act.put, List.setIfInBounds_toArray, List.set_cons_zero, List.set_cons_succ]
      refine take_r (i := 18) (v := ?_) rfl (by kernel_rfl) (by kernel_rfl) (by kernel_rfl) (fun _ _ _ h => h) (Or.inl ⟨by rfl, ?_⟩) hHeld ?_
      rotate_left
      · (intro wS hSw; (try dsimp only at hSw); go_simp; (try with_reducible rfl))
      try simp only [Act.put, List.setIfInBounds_toArray, List.set_cons_zero, List.set_cons_succ]
      refine take_r (i := 19) (v := ?_) rfl (by kernel_rfl) (by kernel_rfl) (by kernel_rfl) (fun _ _ _ h => h) (Or.inl ⟨by rfl, ?_⟩) hHeld ?_
      rotate_left
      · (intro wS hSw; (try dsimp only at hSw); go_simp; (try with_reducible rfl))
      try simp only [Act.put, List.setIfInBounds_toArray, List.set_cons_zero, List.set_cons_succ]
      refine take_r (i := 21) (v := ?_) rfl (by kernel_rfl) (by kernel_rfl) (by kernel_rfl) (fun _ _ _ h => h) (Or.inl ⟨by rfl, ?_⟩) hHeld ?_
      rotate_left
      · (intro wS hSw; (try dsimp only at hSw); go_simp; (try with_reducible rfl))
      try simp only [Act.put, List.setIfInBounds_toArray, List.set_cons_zero, List.set_cons_succ]
      refine take_r (i := 22) (v := ?_) rfl (by kernel_rfl) (by kernel_rfl) (by kernel_rfl) (fun _ _ _ h => h) (Or.inl ⟨by rfl, ?_⟩) hHeld ?_
      rotate_left
      · (intro wS hSw; (try dsimp only at hSw); go_simp; (try with_reducible rfl))
      try simp only [Act.put, List.setIfInBounds_toArray, List.set_cons_zero, List.set_cons_succ]
      refine take_r (i := 23) (v := ?_) rfl (by kernel_rfl) (by kernel_rfl) (by kernel_rfl) (fun _ _ _ h => h) (Or.inl ⟨by rfl, ?_⟩) hHeld ?_
      rotate_left
      · (intro wS hSw; (try dsimp only at hSw); go_simp; (try with_reducible rfl))
      try simp only [Act.put, List.setIfInBounds_toArray, List.set_cons_zero, List.set_cons_succ]
      refine take_r (i := 24) (v := ?_) rfl (by kernel_rfl) (by kernel_rfl) (by kernel_rfl) (fun _ _ _ h => h) (Or.inl ⟨by rfl, ?_⟩) hHeld ?_
      rotate_left
      · (intro wS hSw; (try dsimp only at hSw); go_simp; (try with_reducible rfl))
      try simp only [Act.put, List.setIfInBounds_toArray, List.set_cons_zero, List.set_cons_succ]
      refine wpAnyH_ready (rs := [20]) (by kernel_rfl) (by simp) ?_
      refine ready_r rfl (fun K hK => ?_)
      go_simp
      go_wp2_with ((go_at_call 13; refine (HAT.out _ hHeld.1).mono ?_; rintro r w7 ⟨rfl, rfl⟩))
      refine hK.out _ _ ?_ (fun hNew => ?_)
      · exact hHeld
      clear hHeld hK K
      have hHeld := hNew
      clear hNew
      refine take_r (i := 25) (v := ?_) rfl (by kernel_rfl) (by kernel_rfl) (by kernel_rfl) (fun _ _ _ h => h) (Or.inl ⟨by rfl, ?_⟩) hHeld ?_
      rotate_left
      · (intro wS hSw; (try dsimp only at hSw); go_simp; (try with_reducible rfl))
      try simp only [Act.put, List.setIfInBounds_toArray, List.set_cons_zero, List.set_cons_succ]
      refine take_r (i := 26) (v := ?_) rfl (by kernel_rfl) (by kernel_rfl) (by kernel_rfl) (fun _ _ _ h => h) (Or.inl ⟨by rfl, ?_⟩) hHeld ?_
      rotate_left
      · (intro wS hSw; (try dsimp only at hSw); go_simp; (try with_reducible rfl))
      try simp only [Act.put, List.setIfInBounds_toArray, List.set_cons_zero, List.set_cons_succ]
      refine take_r (i := 27) (v := ?_) rfl (by kernel_rfl) (by kernel_rfl) (by kernel_rfl) (fun _ _ _ h => h) (Or.inl ⟨by rfl, ?_⟩) hHeld ?_
      rotate_left
      · (intro wS hSw; (try dsimp only at hSw); go_simp; (try with_reducible rfl))
      try simp only [Act.put, List.setIfInBounds_toArray, List.set_cons_zero, List.set_cons_succ]
      refine take_r (i := 28) (v := ?_) rfl (by kernel_rfl) (by kernel_rfl) (by kernel_rfl) (fun _ _ _ h => h) (Or.inl ⟨by rfl, ?_⟩) hHeld ?_
      rotate_left
      · (intro wS hSw; (try dsimp only at hSw); go_simp; (try with_reducible rfl))
      try simp only [Act.put, List.setIfInBounds_toArray, List.set_cons_zero, List.set_cons_succ]
      refine take_r (i := 29) (v := ?_) rfl (by kernel_rfl) (by kernel_rfl) (by kernel_rfl) (fun _ _ _ h => h) (Or.inl ⟨by rfl, ?_⟩) hHeld ?_
      rotate_left
      · (intro wS hSw; (try dsimp only at hSw); go_simp; (try with_reducible rfl))
      try simp only [Act.put, List.setIfInBounds_toArray, List.set_cons_zero, List.set_cons_succ]
      refine take_r (i := 30) (v := ?_) rfl (by kernel_rfl) (by kernel_rfl) (by kernel_rfl) (fun _ _ _ h => h) (Or.inl ⟨by rfl, ?_⟩) hHeld ?_
      rotate_left
      · (intro wS hSw; (try dsimp only at hSw); go_simp; (try with_reducible rfl))
      try simp only [Act.put, List.setIfInBounds_toArray, List.set_cons_zero, List.set_cons_succ]
      refine take_r (i := 32) (v := ?_) rfl (by kernel_rfl) (by kernel_rfl) (by kernel_rfl) (fun _ _ _ h => h) (Or.inl ⟨by rfl, ?_⟩) hHeld ?_
      rotate_left
      · (intro wS hSw; (try dsimp only at hSw); go_simp; (try with_reducible rfl))
      try simp only [Act.put, List.setIfInBounds_toArray, List.set_cons_zero, List.set_cons_succ]
      refine take_r (i := 33) (v := ?_) rfl (by kernel_rfl) (by kernel_rfl) (by kernel_rfl) (fun _ _ _ h => h) (Or.inl ⟨by rfl, ?_⟩) hHeld ?_
      rotate_left
      · (intro wS hSw; (try dsimp only at hSw); go_simp; (try with_reducible rfl))
      try simp only [Act.put, List.setIfInBounds_toArray, List.set_cons_zero, List.set_cons_succ]
      refine wpAnyH_ready (rs := [31]) (by kernel_rfl) (by simp) ?_
      refine ready_r rfl (fun K hK => ?_)
      go_simp
      go_wp2_with ((go_at_call 14; refine (HK'.out _ hHeld.1).mono ?_; rintro r w8 ⟨rfl, rfl⟩))
      refine hK.out _ _ ?_ (fun hNew => ?_)
      · exact hHeld
      clear hHeld hK K
      have hHeld := hNew
      clear hNew
      refine wpAnyH_ready (rs := [34]) (by kernel_rfl) (by simp) ?_
      refine ready_r rfl (fun K hK => ?_)
      go_simp
      go_wp2_with ((go_at_call 15; refine (HQK.out _).mono ?_; rintro r w9 ⟨rfl, rfl⟩))
      refine hK.out _ _ ?_ (fun hNew => ?_)
      · exact hHeld
      clear hHeld hK K
      have hHeld := hNew
      clear hNew
      refine take_r (i := 35) (v := ?_) rfl (by kernel_rfl) (by kernel_rfl) (by kernel_rfl) (fun _ _ _ h => h) (Or.inl ⟨by rfl, ?_⟩) hHeld ?_
      rotate_left
      · (intro wS hSw; (try dsimp only at hSw); go_simp; (try with_reducible rfl))
      try simp only [Act.put, List.setIfInBounds_toArray, List.set_cons_zero, List.set_cons_succ]
      refine take_r (i := 36) (v := ?_) rfl (by kernel_rfl) (by kernel_rfl) (by kernel_rfl) (fun _ _ _ h => h) (Or.inl ⟨by rfl, ?_⟩) hHeld ?_
      rotate_left
      · (intro wS hSw; (try dsimp only at hSw); go_simp; (try with_reducible rfl))
      try simp only [Act.put, List.setIfInBounds_toArray, List.set_cons_zero, List.set_cons_succ]
      refine take_r (i := 37) (v := ?_) rfl (by kernel_rfl) (by kernel_rfl) (by kernel_rfl) (fun _ _ _ h => h) (Or.inl ⟨by rfl, ?_⟩) hHeld ?_
      rotate_left
      · (intro wS hSw; (try dsimp only at hSw); go_simp; (try with_reducible rfl))
      try simp only [Act.put, List.setIfInBounds_toArray, List.set_cons_zero, List.set_cons_succ]
      refine wpAnyH_ready (rs := [38]) (by kernel_rfl) (by simp) ?_
      refine ready_r rfl (fun K hK => ?_)
      go_simp
      go_wp2_with ((go_at_call 7; refine (HW'.out _ hHeld.1).mono ?_; rintro r w10 ⟨rfl, hb10⟩))
      refine hK.out _ _ ?_ (fun hNew => ?_)
      · exact K5.out _ hb10
      clear hHeld hK K
      have hHeld := hNew
      clear hNew
      refine take_r (i := 39) (v := ?_) rfl (by kernel_rfl) (by kernel_rfl) (by kernel_rfl) (fun _ _ _ h => h) (Or.inl ⟨by rfl, ?_⟩) hHeld ?_
      rotate_left
      · (intro wS hSw; (try dsimp only at hSw); go_simp; (try with_reducible rfl))
      try simp only [Act.put, List.setIfInBounds_toArray, List.set_cons_zero, List.set_cons_succ]
      refine take_r (i := 40) (v := ?_) rfl (by kernel_rfl) (by kernel_rfl) (by kernel_rfl) (fun _ _ _ h => h) (Or.inl ⟨by rfl, ?_⟩) hHeld ?_
      rotate_left
      · (intro wS hSw; (try dsimp only at hSw); go_simp; (try with_reducible rfl))
      try simp only [Act.put, List.setIfInBounds_toArray, List.set_cons_zero, List.set_cons_succ]
      refine wpAnyH_done (by kernel_rfl) ?_ _
      go_wp2_with fail
      go_ret
      exact ⟨rfl, HB4.out.trans (hb10.mono HB4.out.size)⟩
    · have hne : (E != 0) = true := by simpa using hE
      have hne0 : (E == 0) = false := by simpa using hE
      clear hE
      refine wp_region_held_drew (S := (fun W => Below X.heap.size X W ∧ (W.cell? ⟨h1, 0, none⟩ = some (.int .i64 xf) ∧ W.cell? ⟨h1, 1, none⟩ = some (.int .u64 (xu : Int)) ∧ W.cell? ⟨h1, 2, none⟩ = some (.int .i64 xs) ∧ W.cell? ⟨h1, 3, none⟩ = some (.slice A1 xn c1) ∧ W.cell? ⟨h1, 4, none⟩ = some (.string xt)) ∧ (W.cell? ⟨h2, 0, none⟩ = some (.int .i64 xf) ∧ W.cell? ⟨h2, 1, none⟩ = some (.int .u64 (xu : Int)) ∧ W.cell? ⟨h2, 2, none⟩ = some (.int .i64 xs) ∧ W.cell? ⟨h2, 3, none⟩ = some (.slice A2 xn c2) ∧ W.cell? ⟨h2, 4, none⟩ = some (.string xt)) ∧ W.cell? ⟨gr, 1, none⟩ = some (.int .i64 (A : Int)) ∧ W.cell? ⟨gr, 2, none⟩ = some (.int .i64 E) ∧ W.cell? ⟨w.heap.size, 1, none⟩ = some (.int .i64 f))) (by kernel_rfl) ?_ (fun hHeld => ?_)
      · exact K5.out _ (by go_grown)
      refine take_r (i := 0) (v := ?_) rfl (by kernel_rfl) (by kernel_rfl) (by kernel_rfl) (fun _ _ _ h => h) (Or.inl ⟨by rfl, ?_⟩) hHeld ?_
      rotate_left
      · (intro wS hSw; (try dsimp only at hSw); go_simp; (try with_reducible rfl))
      try simp only [Act.put, List.setIfInBounds_toArray, List.set_cons_zero, List.set_cons_succ]
      refine take_r (i := 1) (v := ?_) rfl (by kernel_rfl) (by kernel_rfl) (by kernel_rfl) (fun _ _ _ h => h) (Or.inl ⟨by rfl, ?_⟩) hHeld ?_
      rotate_left
      · (intro wS hSw; (try dsimp only at hSw); go_simp; (try with_reducible rfl))
      try simp only [Act.put, List.setIfInBounds_toArray, List.set_cons_zero, List.set_cons_succ]
      refine wpAnyH_ready (rs := [2]) (by kernel_rfl) (by simp) ?_
      refine ready_r rfl (fun K hK => ?_)
      go_simp
      go_wp2_with ((go_at_call 11; refine (HSM.out _ hHeld.1).mono ?_; rintro r w5 ⟨rfl, hb5⟩))
      refine hK.out _ _ ?_ (fun hNew => ?_)
      · exact K5.out _ hb5
      clear hHeld hK K
      have hHeld := hNew
      clear hNew
      refine take_r (i := 3) (v := ?_) rfl (by kernel_rfl) (by kernel_rfl) (by kernel_rfl) (fun _ _ _ h => h) (Or.inl ⟨by rfl, ?_⟩) hHeld ?_
      rotate_left
      · (intro wS hSw; (try dsimp only at hSw); go_simp; (try with_reducible rfl))
      try simp only [Act.put, List.setIfInBounds_toArray, List.set_cons_zero, List.set_cons_succ]
      refine take_r (i := 4) (v := ?_) rfl (by kernel_rfl) (by kernel_rfl) (by kernel_rfl) (fun _ _ _ h => h) (Or.inl ⟨by rfl, ?_⟩) hHeld ?_
      rotate_left
      · (intro wS hSw; (try dsimp only at hSw); go_simp; (try with_reducible rfl))
      try simp only [Act.put, List.setIfInBounds_toArray, List.set_cons_zero, List.set_cons_succ]
      refine take_r (i := 6) (v := ?_) rfl (by kernel_rfl) (by kernel_rfl) (by kernel_rfl) (fun _ _ _ h => h) (Or.inl ⟨by rfl, ?_⟩) hHeld ?_
      rotate_left
      · (intro wS hSw; (try dsimp only at hSw); go_simp; (try with_reducible rfl))
      try simp only [Act.put, List.setIfInBounds_toArray, List.set_cons_zero, List.set_cons_succ]
      refine take_r (i := 7) (v := ?_) rfl (by kernel_rfl) (by kernel_rfl) (by kernel_rfl) (fun _ _ _ h => h) (Or.inl ⟨by rfl, ?_⟩) hHeld ?_
      rotate_left
      · (intro wS hSw; (try dsimp only at hSw); go_simp; (try with_reducible rfl))
      try simp only [Act.put, List.setIfInBounds_toArray, List.set_cons_zero, List.set_cons_succ]
      refine take_r (i := 8) (v := ?_) rfl (by kernel_rfl) (by kernel_rfl) (by kernel_rfl) (fun _ _ _ h => h) (Or.inl ⟨by rfl, ?_⟩) hHeld ?_
      rotate_left
      · (intro wS hSw; (try dsimp only at hSw); go_simp; (try with_reducible rfl))
      try simp only [Act.put, List.setIfInBounds_toArray, List.set_cons_zero, List.set_cons_succ]
      refine take_r (i := 9) (v := ?_) rfl (by kernel_rfl) (by kernel_rfl) (by kernel_rfl) (fun _ _ _ h => h) (Or.inl ⟨by rfl, ?_⟩) hHeld ?_
      rotate_left
      · (intro wS hSw; (try dsimp only at hSw); go_simp; (try with_reducible rfl))
      try simp only [Act.put, List.setIfInBounds_toArray, List.set_cons_zero, List.set_cons_succ]
      refine wpAnyH_ready (rs := [5]) (by kernel_rfl) (by simp) ?_
      refine ready_r rfl (fun K hK => ?_)
      go_simp
      go_wp2_with ((go_at_call 12; refine (HER.out _ hHeld.1).mono ?_; rintro r w6 ⟨rfl, rfl⟩))
      refine hK.out _ _ ?_ (fun hNew => ?_)
      · exact hHeld
      clear hHeld hK K
      have hHeld := hNew
      clear hNew
      refine take_r (i := 10) (v := ?_) rfl (by kernel_rfl) (by kernel_rfl) (by kernel_rfl) (fun _ _ _ h => h) (Or.inl ⟨by rfl, ?_⟩) hHeld ?_
      rotate_left
      · (intro wS hSw; (try dsimp only at hSw); go_simp; (try with_reducible rfl))
      try simp only [Act.put, List.setIfInBounds_toArray, List.set_cons_zero, List.set_cons_succ]
      refine take_r (i := 11) (v := ?_) rfl (by kernel_rfl) (by kernel_rfl) (by kernel_rfl) (fun _ _ _ h => h) (Or.inl ⟨by rfl, ?_⟩) hHeld ?_
      rotate_left
      · (intro wS hSw; (try dsimp only at hSw); go_simp; (try with_reducible rfl))
      try simp only [Act.put, List.setIfInBounds_toArray, List.set_cons_zero, List.set_cons_succ]
      refine take_r (i := 12) (v := ?_) rfl (by kernel_rfl) (by kernel_rfl) (by kernel_rfl) (fun _ _ _ h => h) (Or.inl ⟨by rfl, ?_⟩) hHeld ?_
      rotate_left
      · (intro wS hSw; (try dsimp only at hSw); go_simp; (try with_reducible rfl))
      try simp only [Act.put, List.setIfInBounds_toArray, List.set_cons_zero, List.set_cons_succ]
      refine take_r (i := 13) (v := ?_) rfl (by kernel_rfl) (by kernel_rfl) (by kernel_rfl) (fun _ _ _ h => h) (Or.inl ⟨by rfl, ?_⟩) hHeld ?_
      rotate_left
      · (intro wS hSw; (try dsimp only at hSw); go_simp; (try with_reducible rfl))
      try simp only [Act.put, List.setIfInBounds_toArray, List.set_cons_zero, List.set_cons_succ]
      refine take_r (i := 14) (v := ?_) rfl (by kernel_rfl) (by kernel_rfl) (by kernel_rfl) (fun _ _ _ h => h) (Or.inl ⟨by rfl, ?_⟩) hHeld ?_
      rotate_left
      · (intro wS hSw; (try dsimp only at hSw); go_simp; (try with_reducible rfl))
      try simp only [Act.put, List.setIfInBounds_toArray, List.set_cons_zero, List.set_cons_succ]
      refine take_r (i := 15) (v := ?_) rfl (by kernel_rfl) (by kernel_rfl) (by kernel_rfl) (fun _ _ _ h => h) (Or.inl ⟨by rfl, ?_⟩) hHeld ?_
      rotate_left
      · (intro wS hSw; (try dsimp only at hSw); go_simp; (try with_reducible rfl))
      try simp only [Act.put, List.setIfInBounds_toArray, List.set_cons_zero, List.set_cons_succ]
      refine take_r (i := 16) (v := ?_) rfl (by kernel_rfl) (by kernel_rfl) (by kernel_rfl) (fun _ _ _ h => h) (Or.inl ⟨by rfl, ?_⟩) hHeld ?_
      rotate_left
      · (intro wS hSw; (try dsimp only at hSw); go_simp; (try with_reducible rfl))
      try simp only [Act.put, List.setIfInBounds_toArray, List.set_cons_zero, List.set_cons_succ]
      refine take_r (i := 17) (v := ?_) rfl (by kernel_rfl) (by kernel_rfl) (by kernel_rfl) (fun _ _ _ h => h) (Or.inl ⟨by rfl, ?_⟩) hHeld ?_
      rotate_left
      · (intro wS hSw; (try dsimp only at hSw); go_simp; (try with_reducible rfl))
      try simp only [Act.put, List.setIfInBounds_toArray, List.set_cons_zero, List.set_cons_succ]
      refine take_r (i := 18) (v := ?_) rfl (by kernel_rfl) (by kernel_rfl) (by kernel_rfl) (fun _ _ _ h => h) (Or.inl ⟨by rfl, ?_⟩) hHeld ?_
      rotate_left
      · (intro wS hSw; (try dsimp only at hSw); go_simp; (try with_reducible rfl))
      try simp only [Act.put, List.setIfInBounds_toArray, List.set_cons_zero, List.set_cons_succ]
      refine take_r (i := 19) (v := undef) rfl (by kernel_rfl) (by kernel_rfl) (by kernel_rfl) (fun _ _ _ h => h) (Or.inr ⟨by rfl, rfl⟩) hHeld ?_; try simp only [Act.put, List.setIfInBounds_toArray, List.set_cons_zero, List.set_cons_succ]
      refine take_r (i := 20) (v := undef) rfl (by kernel_rfl) (by kernel_rfl) (by kernel_rfl) (fun _ _ _ h => h) (Or.inr ⟨by rfl, rfl⟩) hHeld ?_; try simp only [Act.put, List.setIfInBounds_toArray, List.set_cons_zero, List.set_cons_succ]
      refine take_r (i := 21) (v := undef) rfl (by kernel_rfl) (by kernel_rfl) (by kernel_rfl) (fun _ _ _ h => h) (Or.inr ⟨by rfl, rfl⟩) hHeld ?_; try simp only [Act.put, List.setIfInBounds_toArray, List.set_cons_zero, List.set_cons_succ]
      refine take_r (i := 22) (v := undef) rfl (by kernel_rfl) (by kernel_rfl) (by kernel_rfl) (fun _ _ _ h => h) (Or.inr ⟨by rfl, rfl⟩) hHeld ?_; try simp only [Act.put, List.setIfInBounds_toArray, List.set_cons_zero, List.set_cons_succ]
      refine take_r (i := 23) (v := undef) rfl (by kernel_rfl) (by kernel_rfl) (by kernel_rfl) (fun _ _ _ h => h) (Or.inr ⟨by rfl, rfl⟩) hHeld ?_; try simp only [Act.put, List.setIfInBounds_toArray, List.set_cons_zero, List.set_cons_succ]
      refine take_r (i := 24) (v := undef) rfl (by kernel_rfl) (by kernel_rfl) (by kernel_rfl) (fun _ _ _ h => h) (Or.inr ⟨by rfl, rfl⟩) hHeld ?_; try simp only [Act.put, List.setIfInBounds_toArray, List.set_cons_zero, List.set_cons_succ]
      refine take_r (i := 25) (v := undef) rfl (by kernel_rfl) (by kernel_rfl) (by kernel_rfl) (fun _ _ _ h => h) (Or.inr ⟨by rfl, rfl⟩) hHeld ?_; try simp only [Act.put, List.setIfInBounds_toArray, List.set_cons_zero, List.set_cons_succ]
      refine take_r (i := 26) (v := ?_) rfl (by kernel_rfl) (by kernel_rfl) (by kernel_rfl) (fun _ _ _ h => h) (Or.inl ⟨by rfl, ?_⟩) hHeld ?_
      rotate_left
      · (intro wS hSw; (try dsimp only at hSw); go_simp; (try with_reducible rfl))
      try simp only [Act.put, List.setIfInBounds_toArray, List.set_cons_zero, List.set_cons_succ]
      refine take_r (i := 27) (v := ?_) rfl (by kernel_rfl) (by kernel_rfl) (by kernel_rfl) (fun _ _ _ h => h) (Or.inl ⟨by rfl, ?_⟩) hHeld ?_
      rotate_left
      · (intro wS hSw; (try dsimp only at hSw); go_simp; (try with_reducible rfl))
      try simp only [Act.put, List.setIfInBounds_toArray, List.set_cons_zero, List.set_cons_succ]
      refine take_r (i := 28) (v := ?_) rfl (by kernel_rfl) (by kernel_rfl) (by kernel_rfl) (fun _ _ _ h => h) (Or.inl ⟨by rfl, ?_⟩) hHeld ?_
      rotate_left
      · (intro wS hSw; (try dsimp only at hSw); go_simp; (try with_reducible rfl))
      try simp only [Act.put, List.setIfInBounds_toArray, List.set_cons_zero, List.set_cons_succ]
      refine take_r (i := 29) (v := ?_) rfl (by kernel_rfl) (by kernel_rfl) (by kernel_rfl) (fun _ _ _ h => h) (Or.inl ⟨by rfl, ?_⟩) hHeld ?_
      rotate_left
      · (intro wS hSw; (try dsimp only at hSw); go_simp; (try with_reducible rfl))
      try simp only [Act.put, List.setIfInBounds_toArray, List.set_cons_zero, List.set_cons_succ]
      refine take_r (i := 30) (v := ?_) rfl (by kernel_rfl) (by kernel_rfl) (by kernel_rfl) (fun _ _ _ h => h) (Or.inl ⟨by rfl, ?_⟩) hHeld ?_
      rotate_left
      · (intro wS hSw; (try dsimp only at hSw); go_simp; (try with_reducible rfl))
      try simp only [Act.put, List.setIfInBounds_toArray, List.set_cons_zero, List.set_cons_succ]
      refine take_r (i := 32) (v := ?_) rfl (by kernel_rfl) (by kernel_rfl) (by kernel_rfl) (fun _ _ _ h => h) (Or.inl ⟨by rfl, ?_⟩) hHeld ?_
      rotate_left
      · (intro wS hSw; (try dsimp only at hSw); go_simp; (try with_reducible rfl))
      try simp only [Act.put, List.setIfInBounds_toArray, List.set_cons_zero, List.set_cons_succ]
      refine take_r (i := 33) (v := ?_) rfl (by kernel_rfl) (by kernel_rfl) (by kernel_rfl) (fun _ _ _ h => h) (Or.inl ⟨by rfl, ?_⟩) hHeld ?_
      rotate_left
      · (intro wS hSw; (try dsimp only at hSw); go_simp; (try with_reducible rfl))
      try simp only [Act.put, List.setIfInBounds_toArray, List.set_cons_zero, List.set_cons_succ]
      refine wpAnyH_ready (rs := [31]) (by kernel_rfl) (by simp) ?_
      refine ready_r rfl (fun K hK => ?_)
      go_simp
      go_wp2_with ((go_at_call 14; refine (HK'.out _ hHeld.1).mono ?_; rintro r w8 ⟨rfl, rfl⟩))
      refine hK.out _ _ ?_ (fun hNew => ?_)
      · exact hHeld
      clear hHeld hK K
      have hHeld := hNew
      clear hNew
      refine wpAnyH_ready (rs := [34]) (by kernel_rfl) (by simp) ?_
      refine ready_r rfl (fun K hK => ?_)
      go_simp
      go_wp2_with ((go_at_call 15; refine (HQK.out _).mono ?_; rintro r w9 ⟨rfl, rfl⟩))
      refine hK.out _ _ ?_ (fun hNew => ?_)
      · exact hHeld
      clear hHeld hK K
      have hHeld := hNew
      clear hNew
      refine take_r (i := 35) (v := ?_) rfl (by kernel_rfl) (by kernel_rfl) (by kernel_rfl) (fun _ _ _ h => h) (Or.inl ⟨by rfl, ?_⟩) hHeld ?_
      rotate_left
      · (intro wS hSw; (try dsimp only at hSw); go_simp; (try with_reducible rfl))
      try simp only [Act.put, List.setIfInBounds_toArray, List.set_cons_zero, List.set_cons_succ]
      refine take_r (i := 36) (v := ?_) rfl (by kernel_rfl) (by kernel_rfl) (by kernel_rfl) (fun _ _ _ h => h) (Or.inl ⟨by rfl, ?_⟩) hHeld ?_
      rotate_left
      · (intro wS hSw; (try dsimp only at hSw); go_simp; (try with_reducible rfl))
      try simp only [Act.put, List.setIfInBounds_toArray, List.set_cons_zero, List.set_cons_succ]
      refine take_r (i := 37) (v := ?_) rfl (by kernel_rfl) (by kernel_rfl) (by kernel_rfl) (fun _ _ _ h => h) (Or.inl ⟨by rfl, ?_⟩) hHeld ?_
      rotate_left
      · (intro wS hSw; (try dsimp only at hSw); go_simp; (try with_reducible rfl))
      try simp only [Act.put, List.setIfInBounds_toArray, List.set_cons_zero, List.set_cons_succ]
      refine wpAnyH_ready (rs := [38]) (by kernel_rfl) (by simp) ?_
      refine ready_r rfl (fun K hK => ?_)
      go_simp
      go_wp2_with ((go_at_call 7; refine (HW'.out _ hHeld.1).mono ?_; rintro r w10 ⟨rfl, hb10⟩))
      refine hK.out _ _ ?_ (fun hNew => ?_)
      · exact K5.out _ hb10
      clear hHeld hK K
      have hHeld := hNew
      clear hNew
      refine take_r (i := 39) (v := ?_) rfl (by kernel_rfl) (by kernel_rfl) (by kernel_rfl) (fun _ _ _ h => h) (Or.inl ⟨by rfl, ?_⟩) hHeld ?_
      rotate_left
      · (intro wS hSw; (try dsimp only at hSw); go_simp; (try with_reducible rfl))
      try simp only [Act.put, List.setIfInBounds_toArray, List.set_cons_zero, List.set_cons_succ]
      refine take_r (i := 40) (v := ?_) rfl (by kernel_rfl) (by kernel_rfl) (by kernel_rfl) (fun _ _ _ h => h) (Or.inl ⟨by rfl, ?_⟩) hHeld ?_
      rotate_left
      · (intro wS hSw; (try dsimp only at hSw); go_simp; (try with_reducible rfl))
      try simp only [Act.put, List.setIfInBounds_toArray, List.set_cons_zero, List.set_cons_succ]
      refine wpAnyH_done (by kernel_rfl) ?_ _
      go_wp2_with fail
      go_ret
      exact ⟨rfl, HB4.out.trans (hb10.mono HB4.out.size)⟩

end Go.Proofs.YtpmndmbhkfbljaaDoor
