/-
  The contract of U: which number bytes are, where the cursor stands then, why it refuses.
-/
import Derived.Test.YtejicboemkpeoaaGreatDoorLebR
import Derived.Test.YtejicboemkpeoaaGreatDoorLebM
import Derived.Test.YtejicboemkpeoaaGreatDoorPut
import Derived.Shelf.Abstract
import Derived.Shelf.RegionOpen
namespace Go.Proofs.YtejicboemkpeoaaGreatDoor
open Go Go.RowKit Go.Shelf

attribute [local go_sem] Oper.semAt_some

theorem parts_any (q : Option Addr) (w : World) :
    Calls Tryz.prog 133 #[.pointer q] w fun e w' => e = .returned (.func (.func 164) #[] #[.pointer (some ⟨w.heap.size, 0, none⟩)]) ∧ w' = w.alloc (.cells #[.pointer q] 128) := by
  go_enter Tryz.func133, Tryz.ntmps133
  go_wp2
  go_ret
  exact ⟨rfl, rfl⟩

section
variable {B : Nat} {p : Value} {r : List UInt8} {row : Option Nat} {CS : Nat → Int → World → Prop} {w0 : World} {bc bn bp : Nat} {acc : Nat → Value}

theorem LebI.from_ (CL : CurLike B p r row CS) {D : Nat} (hB : B ≤ D) (hw : w0.heap.size ≤ D) : OwnFrom D (LebI CS w0 row p bc bn bp acc) := fun s A C q hs hg hr => by
  have hn : ∀ x, q = some x → ∃ o : Obj, A.heap[x]? = some o ∧ o.isCells = false := fun x e => (hr x e).2
  refine ⟨CL.keep _ _ _ _ q hs.1 hg fun x e => Nat.le_trans hB (hr x e).1, ⟨cell_kept hs.2.1.1 hg hn, (frozen_kept hs.2.1.1 hg hn).trans hs.2.1.2.1, cell_kept hs.2.1.2.2.1 hg hn, cell_kept hs.2.1.2.2.2 hg hn⟩, ?_⟩
  have h0 := hs.2.2
  exact ⟨hg.os.trans h0.os, hg.tape.trans h0.tape, hg.output.trans h0.output, Nat.le_trans h0.size hg.size, fun k hk hne => (hg.block k (Nat.lt_of_lt_of_le hk h0.size) (fun e => by have := (hr k e.symm).1; omega)).trans (h0.block k hk hne)⟩

/-- The round's own store, behind what the cursor did. -/
theorem LebI.set (CL : CurLike B p r row CS) (hc : B ≤ bc) (hn : B ≤ bn) (hwn : w0.heap.size ≤ bn) (hcn : bc ≠ bn) (hpn : bp ≠ bn) {y k k' : Nat} {e e' : Int} {A C : World} (h : LebI CS w0 row p bc bn bp acc (y, k, e) A) (hp : B ≤ bp) (hg : A.grownBy C row) (hC : CS k' e' C) (u : Value)
    (y' : Nat) (hu : acc y' = u) : KeepsOthers A (C.drew.setCell ⟨bn, 0, none⟩ u) ∧ LebI CS w0 row p bc bn bp acc (y', k', e') (C.drew.setCell ⟨bn, 0, none⟩ u) := by
  have h1 := h.step CL hc hn hp hg hC
  have hg2 : C.grownBy (C.drew.setCell ⟨bn, 0, none⟩ u) (some bn) := only_set (only_drewN (only_refl C (some bn)) 1) 0 u
  refine ⟨((h.keeps CL hg).trans (KeepsOthers.drew C)).trans (KeepsOthers.setCell _ _ _), CL.keep _ _ _ _ _ hC hg2 (fun x e => by cases e; exact hn), ⟨?_, ?_, ?_, ?_⟩, only_trans h1.2.2 hg2 (.inr fun x e => by cases e; exact hwn)⟩
  · rw [hu]
    exact World.cell?_setCell_same' _ _ _ (by rw [cell_drew_own, h1.2.1.1]; rfl)
  · rw [World.frozen?_setCell]
    exact h1.2.1.2.1
  · rw [World.cell?_setCell_other _ _ _ _ (by intro e; injection e with e; exact hcn e.symm)]
    exact h1.2.1.2.2.1
  · rw [World.cell?_setCell_other _ _ _ _ (by intro e; injection e with e; exact hpn e.symm)]
    exact h1.2.1.2.2.2
end

/-- U, of a cursor that has refused, or not. -/
def uOf (r : List UInt8) (e : Int) : Nat × Nat × Int := if e = 0 then readU r else (0, 0, e)

set_option maxRecDepth 100000 in
set_option maxHeartbeats 2000000 in
theorem u_like {B : Nat} {q : Option Addr} {r : List UInt8} {row : Option Nat} {CS : Nat → Int → World → Prop} (CL : CurLike B (.pointer q) r row CS) {w : World} (hB : B ≤ w.heap.size) (h : CS 0 0 w) :
    Calls Tryz.prog 90 #[.pointer q] w fun x w' => x = .returned (.int .u64 ((uOf r 0).1 : Int)) ∧ CS (uOf r 0).2.1 (uOf r 0).2.2 w' ∧ w.grownBy w' row := by
  refine (callsIn_wide (n := 6)).1 ?_
  refine callsIn_of_wp_marks Tryz.func90 rfl trivial ?_ rfl
  simp only [Tryz.ntmps90, List.size_toArray, List.length_cons, List.length_nil, Nat.reduceAdd, Nat.reduceSub, Array.replicate_succ, Array.replicate_zero, List.push_toArray, List.append_toArray, List.nil_append, List.cons_append]
  have hP := fun W => callsIn_wide (n := 6 - 1) |>.2 (parts_any q W)
  gi_wp2_with (refine ⟨trivial, ?_⟩; first | (gi_at_call 133; refine (hP _).mono ?_; rintro r1 W1 ⟨rfl, rfl⟩))
  have hB1 : B ≤ w.heap.size + 1 := by omega
  have hB2 : B ≤ w.heap.size + 1 + 1 := by omega
  obtain ⟨acc, hacc⟩ : ∃ acc : Nat → Value, acc = fun y => .int .u64 ((lebVal (r.take y) % 18446744073709551616 : Nat) : Int) := ⟨_, rfl⟩
  have hbad : ∀ y b, badU y b = true → y = 9 := by intro y b; simp [badU]
  have hIt := parts_iter (w0 := w) (acc := acc) CL hB hB1 hB2 (6 - 1) (by omega) badU hbad
  refine range_states rfl (by omega) (gf := 164) (lb := #[.pointer (some ⟨w.heap.size + 1 + 1, 0, none⟩)]) rfl trivial (enters_of Tryz.func164 (by kernel_rfl) rfl) (fun _ => rfl)
    (LebI.from_ CL (by simp; omega) (by simp; omega)) ?h0 hIt ?a1 ?assign ?body ?done
  case assign =>
    intro l x W K hK
    gi_wp2
    exact hK
  case body =>
    rintro l ⟨y, k, e1⟩ ⟨y', b⟩ s' W hI ⟨hy9, hs, hget, hyy, hs'⟩
    simp only at hs hy9 hget hyy hs'
    subst hyy
    obtain ⟨rfl, rfl⟩ : k = y' + 1 ∧ e1 = 0 := by simpa using hs
    generalize he' : (if badU y' b = true then (11 : Int) else 0) = e' at hs'
    subst hs'
    obtain ⟨hC, ⟨hcn, hfn, hcc, hcp⟩, hG⟩ := id hI
    simp only at hC hcn
    have hF := fun W (h : CS (y' + 1) 0 W) => CallsIn.inRound (n := 6 - 1 - 1 - 1) l (callsIn_wide.2 (CL.fail W (y' + 1) 0 11 h))
    subst hacc
    clear hIt hbad
    have mixed : Tryz.prog.follows .mixedOrders = true := by kernel_rfl
    obtain ⟨hlt, hb⟩ := List.getElem?_eq_some_iff.1 hget
    have hd : b.toNat % 128 < 128 := Nat.mod_lt _ (by decide)
    have hsh := shl_u (b.toNat % 128) y' hd hy9
    have hor := or_u y' (lebVal (r.take y')) (b.toNat % 128) (lebVal_take_lt r y') hd hy9
    have hsucc := lebVal_take_succ r y' hlt
    rw [hb] at hsucc
    rw [← hsucc, ← andnot_u8] at hor
    have hbd : (decide (18446744073709551616 ≤ b.toNat % 128 * 128 ^ y') && decide (y' = 9)) = badU y' b := rfl
    rw [hbd, ← andnot_u8] at hsh
    have HSH := Lib.hid hsh
    have HOR := Lib.hid hor
    have HE := Lib.hid he'
    clear hsh hor hbd hsucc he'
    have FIN := Lib.hid (fun (W1 : World) (X : Int) (a : Act) (hg : W.grownBy W1 row) (hc : CS (y' + 1) e' W1) (hX : X = ((lebVal (r.take (y' + 1)) % 18446744073709551616 : Nat) : Int)) =>
      (show stateEnd (LebI CS w row (.pointer q) w.heap.size (w.heap.size + 1) (w.heap.size + 1 + 1) (fun y => .int .u64 ((lebVal (r.take y) % 18446744073709551616 : Nat) : Int))) (y' + 1, y' + 1, e') W .normal a (W1.drew.setCell ⟨w.heap.size + 1, 0, none⟩ (.int .u64 X)) from by
        subst hX
        have hk := LebI.set CL hB hB1 (Nat.le_succ _) (by omega) (by omega) hI hB2 hg hc _ (y' + 1) rfl
        exact hk))
    gi_wp2_with (refine ⟨trivial, ?_⟩; first | (gi_at_call 54; refine (hF _ hC).mono ?_; rintro r1 W1 ⟨rfl, hC1, hG1⟩; have hcn1 := cell_step hcn hG1 CL.row_lt hB1; have hfn1 := frozen_step hcn hfn hG1 CL.row_lt hB1))
    all_goals gi_region_with_o (fail)
    all_goals gi_wp2
    all_goals first
      | (refine FIN.out _ _ _ hG1 ?_ ?_)
      | (refine FIN.out _ _ _ (only_refl _ _) ?_ ?_)
    all_goals first
      | (exact HOR.out)
      | (have hb1 : badU y' b = true := by rw [← HSH.out]; assumption
         have he1 : e' = 11 := by rw [← HE.out, if_pos hb1]
         rw [he1]; exact hC1)
      | (have hb1 : badU y' b = false := by rw [← HSH.out]; assumption
         have he1 : e' = 0 := by rw [← HE.out, hb1]; rfl
         rw [he1]; exact hC)
  case done =>
    rintro D s W hD hSd hI hK
    have hD0 : w.heap.size ≤ D := by simp at hD; omega
    have hI2 := (LebI.from_ CL (D := D) (by omega) hD0).putObj (.deferred none) hI (Nat.le_refl D) hK rfl
    have hE := callsIn_wide (n := 6 - 1) |>.2 (CL.err W _ _ hI.1)
    obtain ⟨-, ⟨hcn, hfn, hcc, hcp⟩, -⟩ := id hI
    subst hacc
    have FIN := Lib.hid hI2
    have KK := Lib.hid hK
    clear hIt hbad hP hI hI2 hK h
    rcases hSd with ⟨hrun, rfl⟩ | ⟨hlt, hlen, rfl⟩ | ⟨hlt, hl, rfl⟩
    · have hres : uOf r 0 = (0, 10, 11) := by simp [uOf, readU, hrun]
      have HR := Lib.hid hres
      clear hres
      gi_wp2_with (refine ⟨trivial, ?_⟩; first | (gi_at_call 56; refine hE.mono ?_; rintro r2 W2 ⟨rfl, rfl⟩))
      refine ⟨by simp, .inl ⟨_, _, rfl, run_takeDeferred KK.out, ?_⟩⟩
      exact ⟨_, results_tmp rfl _ _ _, by rw [HR.out]; rfl, by rw [HR.out]; exact FIN.out.1, FIN.out.2.2⟩
    · have hres : uOf r 0 = (0, r.length, 10) := by unfold uOf readU; rw [if_pos rfl, if_neg (by omega), if_neg (by omega), hlen]
      have HR := Lib.hid hres
      clear hres
      gi_wp2_with (refine ⟨trivial, ?_⟩; first | (gi_at_call 56; refine hE.mono ?_; rintro r2 W2 ⟨rfl, rfl⟩))
      refine ⟨by simp, .inl ⟨_, _, rfl, run_takeDeferred KK.out, ?_⟩⟩
      exact ⟨_, results_tmp rfl _ _ _, by rw [HR.out]; rfl, by rw [HR.out]; exact FIN.out.1, FIN.out.2.2⟩
    · have hiff := bad_u r _ hl (by omega)
      by_cases hb1 : badU (lebRun 10 r) r[lebRun 10 r] = true
      · have hbig := hiff.1 hb1
        have hres : uOf r 0 = (0, lebRun 10 r + 1, 11) := by unfold uOf readU; rw [if_pos rfl, if_neg (by omega), if_pos hl, if_neg (by omega)]
        simp only [if_pos hb1] at hE FIN
        have HR := Lib.hid hres
        clear hres
        gi_wp2_with (refine ⟨trivial, ?_⟩; first | (gi_at_call 56; refine hE.mono ?_; rintro r2 W2 ⟨rfl, rfl⟩))
        refine ⟨by simp, .inl ⟨_, _, rfl, run_takeDeferred KK.out, ?_⟩⟩
        exact ⟨_, results_tmp rfl _ _ _, by rw [HR.out]; rfl, by rw [HR.out]; exact FIN.out.1, FIN.out.2.2⟩
      · have hsmall : lebVal (r.take (lebRun 10 r + 1)) < 18446744073709551616 := Nat.lt_of_not_le fun x => hb1 (hiff.2 x)
        have hres : uOf r 0 = (lebVal (r.take (lebRun 10 r + 1)), lebRun 10 r + 1, 0) := by unfold uOf readU; rw [if_pos rfl, if_neg (by omega), if_pos hl, if_pos hsmall]
        simp only [if_neg hb1] at hE FIN
        have HR := Lib.hid hres
        clear hres
        simp only [Nat.mod_eq_of_lt hsmall] at hcn
        gi_wp2_with (refine ⟨trivial, ?_⟩; first | (gi_at_call 56; refine hE.mono ?_; rintro r2 W2 ⟨rfl, rfl⟩))
        refine ⟨by simp, .inl ⟨_, _, rfl, run_takeDeferred KK.out, ?_⟩⟩
        exact ⟨_, results_tmp rfl _ _ _, by rw [HR.out]; rfl, by rw [HR.out]; exact FIN.out.1, FIN.out.2.2⟩
  case h0 =>
    have hg0 : w.grownBy (((w.alloc (.cells #[.pointer q] 128)).alloc (.cells #[.int .u64 0] 38)).alloc (.cells #[.pointer q] 128)) row := only_below ((((Below.refl _ w).alloc (Nat.le_refl _) _).alloc (by simp) _).alloc (by simp; omega) _) row
    subst hacc
    refine ⟨CL.keep _ _ _ _ none h (only_below ((((Below.refl _ w).alloc (Nat.le_refl _) _).alloc (by simp) _).alloc (by simp; omega) _) none) (fun x e => by cases e), ⟨?_, ?_, ?_, ?_⟩, hg0⟩
    · have h1 := ((Box.new (w.alloc (.cells #[.pointer q] 128)) 38 #[.int .u64 0]).below ((Below.refl _ _).alloc (Nat.le_refl _) (.cells #[.pointer q] 128)) (by simp)).cell 0
      simpa [lebVal] using h1
    · have h1 := ((Box.new (w.alloc (.cells #[.pointer q] 128)) 38 #[.int .u64 0]).below ((Below.refl _ _).alloc (Nat.le_refl _) (.cells #[.pointer q] 128)) (by simp)).free 0
      simpa using h1
    · have h1 := ((Box.new w 128 #[.pointer q]).below (((Below.refl _ _).alloc (Nat.le_refl _) (.cells #[.int .u64 0] 38)).alloc (by simp) (.cells #[.pointer q] 128)) (by simp)).cell 0
      simpa using h1
    · have h1 := (Box.new ((w.alloc (.cells #[.pointer q] 128)).alloc (.cells #[.int .u64 0] 38)) 128 #[.pointer q]).cell 0
      simpa using h1

set_option maxRecDepth 100000 in
set_option maxHeartbeats 2000000 in
theorem u_none {B : Nat} {q : Option Addr} {r : List UInt8} {row : Option Nat} {CS : Nat → Int → World → Prop} (CL : CurLike B (.pointer q) r row CS) {w : World} (hB : B ≤ w.heap.size) {e : Int} (he : e ≠ 0) (h : CS 0 e w) :
    Calls Tryz.prog 90 #[.pointer q] w fun x w' => x = .returned (.int .u64 ((uOf r e).1 : Int)) ∧ CS (uOf r e).2.1 (uOf r e).2.2 w' ∧ w.grownBy w' row := by
  refine (callsIn_wide (n := 6)).1 ?_
  refine callsIn_of_wp_marks Tryz.func90 rfl trivial ?_ rfl
  simp only [Tryz.ntmps90, List.size_toArray, List.length_cons, List.length_nil, Nat.reduceAdd, Nat.reduceSub, Array.replicate_succ, Array.replicate_zero, List.push_toArray, List.append_toArray, List.nil_append, List.cons_append]
  have hP := fun W => callsIn_wide (n := 6 - 1) |>.2 (parts_any q W)
  gi_wp2_with (refine ⟨trivial, ?_⟩; first | (gi_at_call 133; refine (hP _).mono ?_; rintro r1 W1 ⟨rfl, rfl⟩))
  have hB1 : B ≤ w.heap.size + 1 := by omega
  have hB2 : B ≤ w.heap.size + 1 + 1 := by omega
  obtain ⟨acc, hacc⟩ : ∃ acc : Nat → Value, acc = fun y => .int .u64 ((lebVal (r.take y) % 18446744073709551616 : Nat) : Int) := ⟨_, rfl⟩
  have hIt := parts_none (w0 := w) (acc := acc) CL hB hB1 hB2 (6 - 1) (by omega) e he
  refine range_states rfl (by omega) (gf := 164) (lb := #[.pointer (some ⟨w.heap.size + 1 + 1, 0, none⟩)]) rfl trivial (enters_of Tryz.func164 (by kernel_rfl) rfl) (fun _ => rfl)
    (LebI.from_ CL (by simp; omega) (by simp; omega)) ?h0 hIt ?a1 ?assign ?body ?done
  case assign =>
    intro l x W K hK
    gi_wp2
    exact hK
  case body =>
    rintro l s x s' W hI hY
    exact hY.elim
  case done =>
    rintro D s W hD hSd hI hK
    have hD0 : w.heap.size ≤ D := by simp at hD; omega
    have hI2 := (LebI.from_ CL (D := D) (by omega) hD0).putObj (.deferred none) hI (Nat.le_refl D) hK rfl
    have hE := callsIn_wide (n := 6 - 1) |>.2 (CL.err W _ _ hI.1)
    obtain ⟨-, ⟨hcn, hfn, hcc, hcp⟩, -⟩ := id hI
    subst hacc
    have FIN := Lib.hid hI2
    have KK := Lib.hid hK
    subst hSd
    clear hIt hP hI hI2 hK h
    have hz : (e != 0) = true := by simp [he]
    have HR := Lib.hid (show uOf r e = (0, 0, e) by unfold uOf; rw [if_neg he])
    clear he
    gi_wp2_with (refine ⟨trivial, ?_⟩; first | (gi_at_call 56; refine hE.mono ?_; rintro r2 W2 ⟨rfl, rfl⟩))
    refine ⟨by simp, .inl ⟨_, _, rfl, run_takeDeferred KK.out, ?_⟩⟩
    exact ⟨_, results_tmp rfl _ _ _, by rw [HR.out]; rfl, by rw [HR.out]; exact FIN.out.1, FIN.out.2.2⟩
  case h0 =>
    have hg0 : w.grownBy (((w.alloc (.cells #[.pointer q] 128)).alloc (.cells #[.int .u64 0] 38)).alloc (.cells #[.pointer q] 128)) row := only_below ((((Below.refl _ w).alloc (Nat.le_refl _) _).alloc (by simp) _).alloc (by simp; omega) _) row
    subst hacc
    refine ⟨CL.keep _ _ _ _ none h (only_below ((((Below.refl _ w).alloc (Nat.le_refl _) _).alloc (by simp) _).alloc (by simp; omega) _) none) (fun x e => by cases e), ⟨?_, ?_, ?_, ?_⟩, hg0⟩
    · have h1 := ((Box.new (w.alloc (.cells #[.pointer q] 128)) 38 #[.int .u64 0]).below ((Below.refl _ _).alloc (Nat.le_refl _) (.cells #[.pointer q] 128)) (by simp)).cell 0
      simpa [lebVal] using h1
    · have h1 := ((Box.new (w.alloc (.cells #[.pointer q] 128)) 38 #[.int .u64 0]).below ((Below.refl _ _).alloc (Nat.le_refl _) (.cells #[.pointer q] 128)) (by simp)).free 0
      simpa using h1
    · have h1 := ((Box.new w 128 #[.pointer q]).below (((Below.refl _ _).alloc (Nat.le_refl _) (.cells #[.int .u64 0] 38)).alloc (by simp) (.cells #[.pointer q] 128)) (by simp)).cell 0
      simpa using h1
    · have h1 := (Box.new ((w.alloc (.cells #[.pointer q] 128)).alloc (.cells #[.int .u64 0] 38)) 128 #[.pointer q]).cell 0
      simpa using h1

theorem u_any {B : Nat} {q : Option Addr} {r : List UInt8} {row : Option Nat} {CS : Nat → Int → World → Prop} (CL : CurLike B (.pointer q) r row CS) {w : World} (hB : B ≤ w.heap.size) {e : Int} (h : CS 0 e w) :
    Calls Tryz.prog 90 #[.pointer q] w fun x w' => x = .returned (.int .u64 ((uOf r e).1 : Int)) ∧ CS (uOf r e).2.1 (uOf r e).2.2 w' ∧ w.grownBy w' row := by
  by_cases he : e = 0
  · subst he; exact u_like CL hB h
  · exact u_none CL hB he h

end Go.Proofs.YtejicboemkpeoaaGreatDoor
