/-
  U and S of a cursor that New or Sub made, and of nobody.
-/
import Derived.Test.YtejicboemkpeoaaGreatDoorLebU
import Derived.Test.YtejicboemkpeoaaGreatDoorLebT
import Derived.Test.YtejicboemkpeoaaGreatDoorRoundRegion
import Derived.Test.YtejicboemkpeoaaGreatDoorCurN
namespace Go.Proofs.YtejicboemkpeoaaGreatDoor
open Go Go.RowKit Go.Shelf

attribute [local go_sem] Oper.semAt_some

theorem i64_wrap_eq (n : Int) : IntKind.i64.wrap n = wrap64 n := by rw [IntKind.wrap_i64, wrap64]

/-- S, of a cursor that has refused, or not. -/
def sOf (r : List UInt8) (e : Int) : Int × Nat × Int := if e = 0 then readS r else (0, 0, e)

set_option maxRecDepth 100000 in
set_option maxHeartbeats 2000000 in
theorem s_like {B : Nat} {q : Option Addr} {r : List UInt8} {row : Option Nat} {CS : Nat → Int → World → Prop} (CL : CurLike B (.pointer q) r row CS) {w : World} (hB : B ≤ w.heap.size) (h : CS 0 0 w) :
    Calls Tryz.prog 200 #[.pointer q] w fun x w' => x = .returned (.int .i64 (sOf r 0).1) ∧ CS (sOf r 0).2.1 (sOf r 0).2.2 w' ∧ w.grownBy w' row := by
  refine (callsIn_wide (n := 6)).1 ?_
  refine callsIn_of_wp_marks Tryz.func200 rfl trivial ?_ rfl
  simp only [Tryz.ntmps200, List.size_toArray, List.length_cons, List.length_nil, Nat.reduceAdd, Nat.reduceSub, Array.replicate_succ, Array.replicate_zero, List.push_toArray, List.append_toArray, List.nil_append, List.cons_append]
  have hP := fun W => callsIn_wide (n := 6 - 1) |>.2 (parts_any q W)
  gi_wp2_with (refine ⟨trivial, ?_⟩; first | (gi_at_call 133; refine (hP _).mono ?_; rintro r1 W1 ⟨rfl, rfl⟩))
  have hB1 : B ≤ w.heap.size + 1 := by omega
  have hB2 : B ≤ w.heap.size + 1 + 1 := by omega
  obtain ⟨acc, hacc⟩ : ∃ acc : Nat → Value, acc = fun y => .int .i64 (wrap64 (lebInt (r.take y))) := ⟨_, rfl⟩
  have hbad : ∀ y b, badS y b = true → y = 9 := by intro y b; simp [badS]; omega
  have hIt := parts_iter (w0 := w) (acc := acc) CL hB hB1 hB2 (6 - 1) (by omega) badS hbad
  refine range_states rfl (by omega) (gf := 164) (lb := #[.pointer (some ⟨w.heap.size + 1 + 1, 0, none⟩)]) rfl trivial (enters_of Tryz.func164 (by kernel_rfl) rfl) (fun _ => rfl)
    (LebI.from_ CL (by simp; omega) (by simp; omega)) ?h0 hIt ?a1 ?assign ?body ?done
  case assign =>
    intro l x W K hK
    gi_wp2
    exact hK
  case body =>
    rintro l ⟨y, k, e1⟩ ⟨y', b⟩ s' W hI ⟨hy9, hs, hget, hyy, hs'⟩
    simp only at hs hy9 hget hyy hs'
    subst hyy
    obtain ⟨rfl, rfl⟩ : k = y' + 1 ∧ e1 = 0 := by simpa using hs
    generalize he' : (if badS y' b = true then (11 : Int) else 0) = e' at hs'
    subst hs'
    obtain ⟨hC, ⟨hcn, hfn, hcc, hcp⟩, hG⟩ := id hI
    simp only at hC hcn
    have hF := fun W (h : CS (y' + 1) 0 W) => CallsIn.inRound (n := 6 - 1 - 1 - 1) l (callsIn_wide.2 (CL.fail W (y' + 1) 0 11 h))
    subst hacc
    clear hIt hbad
    have mixed : Tryz.prog.follows .mixedOrders = true := by kernel_rfl
    obtain ⟨hlt, hb⟩ := List.getElem?_eq_some_iff.1 hget
    have hsh := shl_s (sdig b) y' (sdig_range b) hy9
    have hor := or_s y' (lebVal (r.take y')) (sdig b) (lebVal_take_lt r y') hy9
    have hsucc := lebInt_take_succ r y' hlt
    rw [hb] at hsucc
    rw [← hsucc, ← lebInt_mod r y' (by omega) hy9, ← mask_s y' hy9, ← sdig_eq] at hor
    have hbd : (decide (y' = 9) && decide (sdig b ≠ 0) && decide (sdig b ≠ -1)) = badS y' b := rfl
    rw [hbd, ← sdig_eq] at hsh
    have HSH := Lib.hid hsh
    have HOR := Lib.hid hor
    have HT := Lib.hid (show (7 * (y' : Int)).toNat = 7 * y' by omega)
    have HE := Lib.hid he'
    clear hsh hor hbd hsucc he'
    have FIN := Lib.hid (fun (W1 : World) (X : Int) (a : Act) (hg : W.grownBy W1 row) (hc : CS (y' + 1) e' W1) (hX : X = wrap64 (lebInt (r.take (y' + 1)))) =>
      (show stateEnd (LebI CS w row (.pointer q) w.heap.size (w.heap.size + 1) (w.heap.size + 1 + 1) (fun y => .int .i64 (wrap64 (lebInt (r.take y))))) (y' + 1, y' + 1, e') W .normal a (W1.drew.setCell ⟨w.heap.size + 1, 0, none⟩ (.int .i64 X)) from by
        subst hX
        have hk := LebI.set CL hB hB1 (Nat.le_succ _) (by omega) (by omega) hI hB2 hg hc _ (y' + 1) rfl
        exact hk))
    gi_wp2_with (refine ⟨trivial, ?_⟩; first | (gi_at_call 54; refine (hF _ hC).mono ?_; rintro r1 W1 ⟨rfl, hC1, hG1⟩; have hcn1 := cell_step hcn hG1 CL.row_lt hB1; have hfn1 := frozen_step hcn hfn hG1 CL.row_lt hB1))
    all_goals refine region_round (S := fun _ => True) (by simp) (fun ⟨_, _, h⟩ => h) mixed trivial (fun _ => ?_)
    · refine take_r (i := 1) (v := ?_) rfl (by kernel_rfl) (by kernel_rfl) (by kernel_rfl) (fun _ _ _ h => h) (Or.inl ⟨by rfl, ?_⟩) trivial ?_
      rotate_left
      · (intro wS hSw; go_simp; (try with_reducible rfl))
      try simp only [Act.put, List.setIfInBounds_toArray, List.set_cons_zero, List.set_cons_succ]
      refine take_r (i := 2) (v := ?_) rfl (by kernel_rfl) (by kernel_rfl) (by kernel_rfl) (fun _ _ _ h => h) (Or.inl ⟨by rfl, ?_⟩) trivial ?_
      rotate_left
      · (intro wS hSw; go_simp; (try with_reducible rfl))
      try simp only [Act.put, List.setIfInBounds_toArray, List.set_cons_zero, List.set_cons_succ]
      refine take_r (i := 3) (v := ?_) rfl (by kernel_rfl) (by kernel_rfl) (by kernel_rfl) (fun _ _ _ h => h) (Or.inl ⟨by rfl, ?_⟩) trivial ?_
      rotate_left
      · (intro wS hSw; go_simp; (try with_reducible rfl))
      try simp only [Act.put, List.setIfInBounds_toArray, List.set_cons_zero, List.set_cons_succ]
      refine take_r (i := 5) (v := ?_) rfl (by kernel_rfl) (by kernel_rfl) (by kernel_rfl) (fun _ _ _ h => h) (Or.inl ⟨by rfl, ?_⟩) trivial ?_
      rotate_left
      · (intro wS hSw; go_simp; (try with_reducible rfl))
      try simp only [Act.put, List.setIfInBounds_toArray, List.set_cons_zero, List.set_cons_succ]
      refine take_r (i := 6) (v := ?_) rfl (by kernel_rfl) (by kernel_rfl) (by kernel_rfl) (fun _ _ _ h => h) (Or.inl ⟨by rfl, ?_⟩) trivial ?_
      rotate_left
      · (intro wS hSw; go_simp; (try with_reducible rfl))
      try simp only [Act.put, List.setIfInBounds_toArray, List.set_cons_zero, List.set_cons_succ]
      refine take_r (i := 7) (v := ?_) rfl (by kernel_rfl) (by kernel_rfl) (by kernel_rfl) (fun _ _ _ h => h) (Or.inl ⟨by rfl, ?_⟩) trivial ?_
      rotate_left
      · (intro wS hSw; go_simp; (try with_reducible rfl))
      try simp only [Act.put, List.setIfInBounds_toArray, List.set_cons_zero, List.set_cons_succ]
      refine wpAnyH_ready (rs := [0]) (by kernel_rfl) (by simp) ?_
      refine ready_r rfl (fun K hK => ?_)
      go_simp
      refine hK.out _ _ trivial (fun _ => ?_)
      clear hK K
      refine take_r (i := 4) (v := ?_) rfl (by kernel_rfl) (by kernel_rfl) (by kernel_rfl) (fun _ _ _ h => h) (Or.inl ⟨by rfl, ?_⟩) trivial ?_
      rotate_left
      · (intro wS hSw; go_simp; (try with_reducible rfl))
      try simp only [Act.put, List.setIfInBounds_toArray, List.set_cons_zero, List.set_cons_succ]
      refine take_r (i := 8) (v := ?_) rfl (by kernel_rfl) (by kernel_rfl) (by kernel_rfl) (fun _ _ _ h => h) (Or.inl ⟨by rfl, ?_⟩) trivial ?_
      rotate_left
      · (intro wS hSw; go_simp; (try with_reducible rfl))
      try simp only [Act.put, List.setIfInBounds_toArray, List.set_cons_zero, List.set_cons_succ]
      refine wpAnyH_ready (rs := [9]) (by kernel_rfl) (by simp) ?_
      refine ready_r rfl (fun K hK => ?_)
      go_simp
      refine hK.out _ _ trivial (fun _ => ?_)
      clear hK K
      refine wpAnyH_done (by kernel_rfl) ?_ _
      gi_wp2
      refine FIN.out _ _ _ hG1 ?_ ?_
      all_goals first
        | (simp only [i64_wrap_eq, HT.out]; exact HOR.out)
        | (have hb1 : badS y' b = true := by rw [← HSH.out]; assumption
           have he1 : e' = 11 := by rw [← HE.out, if_pos hb1]
           rw [he1]; exact hC1)
        | (have hb1 : badS y' b = false := by rw [← HSH.out]; assumption
           have he1 : e' = 0 := by rw [← HE.out, hb1]; rfl
           rw [he1]; exact hC)
    · refine take_r (i := 1) (v := ?_) rfl (by kernel_rfl) (by kernel_rfl) (by kernel_rfl) (fun _ _ _ h => h) (Or.inl ⟨by rfl, ?_⟩) trivial ?_
      rotate_left
      · (intro wS hSw; go_simp; (try with_reducible rfl))
      try simp only [Act.put, List.setIfInBounds_toArray, List.set_cons_zero, List.set_cons_succ]
      refine take_r (i := 2) (v := ?_) rfl (by kernel_rfl) (by kernel_rfl) (by kernel_rfl) (fun _ _ _ h => h) (Or.inl ⟨by rfl, ?_⟩) trivial ?_
      rotate_left
      · (intro wS hSw; go_simp; (try with_reducible rfl))
      try simp only [Act.put, List.setIfInBounds_toArray, List.set_cons_zero, List.set_cons_succ]
      refine take_r (i := 3) (v := ?_) rfl (by kernel_rfl) (by kernel_rfl) (by kernel_rfl) (fun _ _ _ h => h) (Or.inl ⟨by rfl, ?_⟩) trivial ?_
      rotate_left
      · (intro wS hSw; go_simp; (try with_reducible rfl))
      try simp only [Act.put, List.setIfInBounds_toArray, List.set_cons_zero, List.set_cons_succ]
      refine take_r (i := 5) (v := ?_) rfl (by kernel_rfl) (by kernel_rfl) (by kernel_rfl) (fun _ _ _ h => h) (Or.inl ⟨by rfl, ?_⟩) trivial ?_
      rotate_left
      · (intro wS hSw; go_simp; (try with_reducible rfl))
      try simp only [Act.put, List.setIfInBounds_toArray, List.set_cons_zero, List.set_cons_succ]
      refine take_r (i := 6) (v := ?_) rfl (by kernel_rfl) (by kernel_rfl) (by kernel_rfl) (fun _ _ _ h => h) (Or.inl ⟨by rfl, ?_⟩) trivial ?_
      rotate_left
      · (intro wS hSw; go_simp; (try with_reducible rfl))
      try simp only [Act.put, List.setIfInBounds_toArray, List.set_cons_zero, List.set_cons_succ]
      refine take_r (i := 7) (v := ?_) rfl (by kernel_rfl) (by kernel_rfl) (by kernel_rfl) (fun _ _ _ h => h) (Or.inl ⟨by rfl, ?_⟩) trivial ?_
      rotate_left
      · (intro wS hSw; go_simp; (try with_reducible rfl))
      try simp only [Act.put, List.setIfInBounds_toArray, List.set_cons_zero, List.set_cons_succ]
      refine wpAnyH_ready (rs := [0]) (by kernel_rfl) (by simp) ?_
      refine ready_r rfl (fun K hK => ?_)
      go_simp
      refine hK.out _ _ trivial (fun _ => ?_)
      clear hK K
      refine take_r (i := 4) (v := ?_) rfl (by kernel_rfl) (by kernel_rfl) (by kernel_rfl) (fun _ _ _ h => h) (Or.inl ⟨by rfl, ?_⟩) trivial ?_
      rotate_left
      · (intro wS hSw; go_simp; (try with_reducible rfl))
      try simp only [Act.put, List.setIfInBounds_toArray, List.set_cons_zero, List.set_cons_succ]
      refine take_r (i := 8) (v := ?_) rfl (by kernel_rfl) (by kernel_rfl) (by kernel_rfl) (fun _ _ _ h => h) (Or.inl ⟨by rfl, ?_⟩) trivial ?_
      rotate_left
      · (intro wS hSw; go_simp; (try with_reducible rfl))
      try simp only [Act.put, List.setIfInBounds_toArray, List.set_cons_zero, List.set_cons_succ]
      refine wpAnyH_ready (rs := [9]) (by kernel_rfl) (by simp) ?_
      refine ready_r rfl (fun K hK => ?_)
      go_simp
      refine hK.out _ _ trivial (fun _ => ?_)
      clear hK K
      refine wpAnyH_done (by kernel_rfl) ?_ _
      gi_wp2
      refine FIN.out _ _ _ (only_refl _ _) ?_ ?_
      all_goals first
        | (simp only [i64_wrap_eq, HT.out]; exact HOR.out)
        | (have hb1 : badS y' b = true := by rw [← HSH.out]; assumption
           have he1 : e' = 11 := by rw [← HE.out, if_pos hb1]
           rw [he1]; exact hC1)
        | (have hb1 : badS y' b = false := by rw [← HSH.out]; assumption
           have he1 : e' = 0 := by rw [← HE.out, hb1]; rfl
           rw [he1]; exact hC)
  case done =>
    rintro D s W hD hSd hI hK
    have hD0 : w.heap.size ≤ D := by simp at hD; omega
    have hI2 := (LebI.from_ CL (D := D) (by omega) hD0).putObj (.deferred none) hI (Nat.le_refl D) hK rfl
    have hE := callsIn_wide (n := 6 - 1) |>.2 (CL.err W _ _ hI.1)
    obtain ⟨-, ⟨hcn, hfn, hcc, hcp⟩, -⟩ := id hI
    subst hacc
    have FIN := Lib.hid hI2
    have KK := Lib.hid hK
    clear hIt hbad hP hI hI2 hK h
    rcases hSd with ⟨hrun, rfl⟩ | ⟨hlt, hlen, rfl⟩ | ⟨hlt, hl, rfl⟩
    · have hres : sOf r 0 = (0, 10, 11) := by simp [sOf, readS, hrun]
      have HR := Lib.hid hres
      clear hres
      gi_wp2_with (refine ⟨trivial, ?_⟩; first | (gi_at_call 56; refine hE.mono ?_; rintro r2 W2 ⟨rfl, rfl⟩))
      refine ⟨by simp, .inl ⟨_, _, rfl, run_takeDeferred KK.out, ?_⟩⟩
      exact ⟨_, results_tmp rfl _ _ _, by rw [HR.out]; rfl, by rw [HR.out]; exact FIN.out.1, FIN.out.2.2⟩
    · have hres : sOf r 0 = (0, r.length, 10) := by unfold sOf readS; rw [if_pos rfl, if_neg (by omega), if_neg (by omega), hlen]
      have HR := Lib.hid hres
      clear hres
      gi_wp2_with (refine ⟨trivial, ?_⟩; first | (gi_at_call 56; refine hE.mono ?_; rintro r2 W2 ⟨rfl, rfl⟩))
      refine ⟨by simp, .inl ⟨_, _, rfl, run_takeDeferred KK.out, ?_⟩⟩
      exact ⟨_, results_tmp rfl _ _ _, by rw [HR.out]; rfl, by rw [HR.out]; exact FIN.out.1, FIN.out.2.2⟩
    · have hiff := bad_s r _ hl (by omega)
      by_cases hb1 : badS (lebRun 10 r) r[lebRun 10 r] = true
      · have hbig := hiff.1 hb1
        have hres : sOf r 0 = (0, lebRun 10 r + 1, 11) := by unfold sOf readS; rw [if_pos rfl, if_neg (by omega), if_pos hl, if_neg hbig]
        simp only [if_pos hb1] at hE FIN
        have HR := Lib.hid hres
        clear hres
        gi_wp2_with (refine ⟨trivial, ?_⟩; first | (gi_at_call 56; refine hE.mono ?_; rintro r2 W2 ⟨rfl, rfl⟩))
        refine ⟨by simp, .inl ⟨_, _, rfl, run_takeDeferred KK.out, ?_⟩⟩
        exact ⟨_, results_tmp rfl _ _ _, by rw [HR.out]; rfl, by rw [HR.out]; exact FIN.out.1, FIN.out.2.2⟩
      · have hsmall : -9223372036854775808 ≤ lebInt (r.take (lebRun 10 r + 1)) ∧ lebInt (r.take (lebRun 10 r + 1)) ≤ 9223372036854775807 := Classical.not_not.1 fun x => hb1 (hiff.2 x)
        have hres : sOf r 0 = (lebInt (r.take (lebRun 10 r + 1)), lebRun 10 r + 1, 0) := by unfold sOf readS; rw [if_pos rfl, if_neg (by omega), if_pos hl, if_pos hsmall]
        simp only [if_neg hb1] at hE FIN
        have HR := Lib.hid hres
        clear hres
        simp only [wrap64_in hsmall] at hcn
        gi_wp2_with (refine ⟨trivial, ?_⟩; first | (gi_at_call 56; refine hE.mono ?_; rintro r2 W2 ⟨rfl, rfl⟩))
        refine ⟨by simp, .inl ⟨_, _, rfl, run_takeDeferred KK.out, ?_⟩⟩
        exact ⟨_, results_tmp rfl _ _ _, by rw [HR.out]; rfl, by rw [HR.out]; exact FIN.out.1, FIN.out.2.2⟩
  case h0 =>
    have hg0 : w.grownBy (((w.alloc (.cells #[.pointer q] 128)).alloc (.cells #[.int .i64 0] 2)).alloc (.cells #[.pointer q] 128)) row := only_below ((((Below.refl _ w).alloc (Nat.le_refl _) _).alloc (by simp) _).alloc (by simp; omega) _) row
    subst hacc
    refine ⟨CL.keep _ _ _ _ none h (only_below ((((Below.refl _ w).alloc (Nat.le_refl _) _).alloc (by simp) _).alloc (by simp; omega) _) none) (fun x e => by cases e), ⟨?_, ?_, ?_, ?_⟩, hg0⟩
    · have h1 := ((Box.new (w.alloc (.cells #[.pointer q] 128)) 2 #[.int .i64 0]).below ((Below.refl _ _).alloc (Nat.le_refl _) (.cells #[.pointer q] 128)) (by simp)).cell 0
      simpa [lebInt, lebVal, wrap64] using h1
    · have h1 := ((Box.new (w.alloc (.cells #[.pointer q] 128)) 2 #[.int .i64 0]).below ((Below.refl _ _).alloc (Nat.le_refl _) (.cells #[.pointer q] 128)) (by simp)).free 0
      simpa using h1
    · have h1 := ((Box.new w 128 #[.pointer q]).below (((Below.refl _ _).alloc (Nat.le_refl _) (.cells #[.int .i64 0] 2)).alloc (by simp) (.cells #[.pointer q] 128)) (by simp)).cell 0
      simpa using h1
    · have h1 := (Box.new ((w.alloc (.cells #[.pointer q] 128)).alloc (.cells #[.int .i64 0] 2)) 128 #[.pointer q]).cell 0
      simpa using h1

set_option maxRecDepth 100000 in
set_option maxHeartbeats 2000000 in
theorem s_none {B : Nat} {q : Option Addr} {r : List UInt8} {row : Option Nat} {CS : Nat → Int → World → Prop} (CL : CurLike B (.pointer q) r row CS) {w : World} (hB : B ≤ w.heap.size) {e : Int} (he : e ≠ 0) (h : CS 0 e w) :
    Calls Tryz.prog 200 #[.pointer q] w fun x w' => x = .returned (.int .i64 (sOf r e).1) ∧ CS (sOf r e).2.1 (sOf r e).2.2 w' ∧ w.grownBy w' row := by
  refine (callsIn_wide (n := 6)).1 ?_
  refine callsIn_of_wp_marks Tryz.func200 rfl trivial ?_ rfl
  simp only [Tryz.ntmps200, List.size_toArray, List.length_cons, List.length_nil, Nat.reduceAdd, Nat.reduceSub, Array.replicate_succ, Array.replicate_zero, List.push_toArray, List.append_toArray, List.nil_append, List.cons_append]
  have hP := fun W => callsIn_wide (n := 6 - 1) |>.2 (parts_any q W)
  gi_wp2_with (refine ⟨trivial, ?_⟩; first | (gi_at_call 133; refine (hP _).mono ?_; rintro r1 W1 ⟨rfl, rfl⟩))
  have hB1 : B ≤ w.heap.size + 1 := by omega
  have hB2 : B ≤ w.heap.size + 1 + 1 := by omega
  obtain ⟨acc, hacc⟩ : ∃ acc : Nat → Value, acc = fun y => .int .i64 (wrap64 (lebInt (r.take y))) := ⟨_, rfl⟩
  have hIt := parts_none (w0 := w) (acc := acc) CL hB hB1 hB2 (6 - 1) (by omega) e he
  refine range_states rfl (by omega) (gf := 164) (lb := #[.pointer (some ⟨w.heap.size + 1 + 1, 0, none⟩)]) rfl trivial (enters_of Tryz.func164 (by kernel_rfl) rfl) (fun _ => rfl)
    (LebI.from_ CL (by simp; omega) (by simp; omega)) ?h0 hIt ?a1 ?assign ?body ?done
  case assign =>
    intro l x W K hK
    gi_wp2
    exact hK
  case body =>
    rintro l s x s' W hI hY
    exact hY.elim
  case done =>
    rintro D s W hD hSd hI hK
    have hD0 : w.heap.size ≤ D := by simp at hD; omega
    have hI2 := (LebI.from_ CL (D := D) (by omega) hD0).putObj (.deferred none) hI (Nat.le_refl D) hK rfl
    have hE := callsIn_wide (n := 6 - 1) |>.2 (CL.err W _ _ hI.1)
    obtain ⟨-, ⟨hcn, hfn, hcc, hcp⟩, -⟩ := id hI
    subst hacc
    have FIN := Lib.hid hI2
    have KK := Lib.hid hK
    subst hSd
    clear hIt hP hI hI2 hK h
    have hz : (e != 0) = true := by simp [he]
    have HR := Lib.hid (show sOf r e = (0, 0, e) by unfold sOf; rw [if_neg he])
    clear he
    gi_wp2_with (refine ⟨trivial, ?_⟩; first | (gi_at_call 56; refine hE.mono ?_; rintro r2 W2 ⟨rfl, rfl⟩))
    refine ⟨by simp, .inl ⟨_, _, rfl, run_takeDeferred KK.out, ?_⟩⟩
    exact ⟨_, results_tmp rfl _ _ _, by rw [HR.out]; rfl, by rw [HR.out]; exact FIN.out.1, FIN.out.2.2⟩
  case h0 =>
    have hg0 : w.grownBy (((w.alloc (.cells #[.pointer q] 128)).alloc (.cells #[.int .i64 0] 2)).alloc (.cells #[.pointer q] 128)) row := only_below ((((Below.refl _ w).alloc (Nat.le_refl _) _).alloc (by simp) _).alloc (by simp; omega) _) row
    subst hacc
    refine ⟨CL.keep _ _ _ _ none h (only_below ((((Below.refl _ w).alloc (Nat.le_refl _) _).alloc (by simp) _).alloc (by simp; omega) _) none) (fun x e => by cases e), ⟨?_, ?_, ?_, ?_⟩, hg0⟩
    · have h1 := ((Box.new (w.alloc (.cells #[.pointer q] 128)) 2 #[.int .i64 0]).below ((Below.refl _ _).alloc (Nat.le_refl _) (.cells #[.pointer q] 128)) (by simp)).cell 0
      simpa [lebInt, lebVal, wrap64] using h1
    · have h1 := ((Box.new (w.alloc (.cells #[.pointer q] 128)) 2 #[.int .i64 0]).below ((Below.refl _ _).alloc (Nat.le_refl _) (.cells #[.pointer q] 128)) (by simp)).free 0
      simpa using h1
    · have h1 := ((Box.new w 128 #[.pointer q]).below (((Below.refl _ _).alloc (Nat.le_refl _) (.cells #[.int .i64 0] 2)).alloc (by simp) (.cells #[.pointer q] 128)) (by simp)).cell 0
      simpa using h1
    · have h1 := (Box.new ((w.alloc (.cells #[.pointer q] 128)).alloc (.cells #[.int .i64 0] 2)) 128 #[.pointer q]).cell 0
      simpa using h1

theorem s_any {B : Nat} {q : Option Addr} {r : List UInt8} {row : Option Nat} {CS : Nat → Int → World → Prop} (CL : CurLike B (.pointer q) r row CS) {w : World} (hB : B ≤ w.heap.size) {e : Int} (h : CS 0 e w) :
    Calls Tryz.prog 200 #[.pointer q] w fun x w' => x = .returned (.int .i64 (sOf r e).1) ∧ CS (sOf r e).2.1 (sOf r e).2.2 w' ∧ w.grownBy w' row := by
  by_cases he : e = 0
  · subst he; exact s_like CL hB h
  · exact s_none CL hB he h

end Go.Proofs.YtejicboemkpeoaaGreatDoor

namespace Go.Proofs.YtejicboemkpeoaaGreatDoor
open Go Go.RowKit

theorem own_lt {w : World} {base : Nat} {v : Value} {l : List UInt8} (h : Own w base v l) : ∀ k, v.ownBlock = some k → k < w.heap.size := by
  intro k hk
  rcases h.2 with ⟨rfl, _⟩ | ⟨g', cap, cur, rfl, _, hh, _⟩
  · simp [Value.ownBlock] at hk
  · have e : g' = k := by simpa [Value.ownBlock] using hk
    subst e
    rcases Nat.lt_or_ge g' w.heap.size with hlt | hge
    · exact hlt
    · rw [Array.getElem?_eq_none hge] at hh; cases hh

theorem cur_like {B g : Nat} {v : Value} {l : List UInt8} {a : Nat} (hg : g < B) (hv : ∀ k, v.ownBlock = some k → k < B) (hlen : l.length ≤ 140737488355328) (ha : a ≤ l.length) :
    CurLike B (.pointer (some ⟨g, 0, none⟩)) (l.drop a) (some g) (fun k e W => Cur W g v l (a + k) e) where
  u8 W k h hC := by
    have h' : a + k < l.length := by simp at h; omega
    refine (u8_cur hC hlen).mono ?_
    rintro r w' ⟨rfl, hC', hG⟩
    have e1 : nextGot l (a + k) 0 1 = [l[a + k]] := by
      unfold nextGot
      rw [if_pos ⟨rfl, by omega⟩, List.drop_eq_getElem_cons h']
      rfl
    have e2 : nextAt l (a + k) 0 1 = a + (k + 1) := by unfold nextAt; rw [if_pos ⟨rfl, by omega⟩]; omega
    have e3 : nextErr l (a + k) 0 1 = 0 := by unfold nextErr; rw [if_pos rfl, if_pos (by omega)]
    rw [e2, e3] at hC'
    exact ⟨by rw [e1]; simp [leNat], hC', hG⟩
  short W hC := by
    refine (u8_cur hC hlen).mono ?_
    rintro r w' ⟨rfl, hC', hG⟩
    have hl : (l.drop a).length = l.length - a := by simp
    have e1 : nextGot l (a + (l.drop a).length) 0 1 = [] := by unfold nextGot; rw [if_neg (by omega)]
    have e2 : nextAt l (a + (l.drop a).length) 0 1 = a + (l.drop a).length := by unfold nextAt; rw [if_neg (by omega)]
    have e3 : nextErr l (a + (l.drop a).length) 0 1 = 10 := by unfold nextErr; rw [if_pos rfl, if_neg (by omega)]
    rw [e2, e3] at hC'
    exact ⟨by rw [e1]; simp [leNat], hC', hG⟩
  stop W k e he hC := by
    refine (u8_cur hC hlen).mono ?_
    rintro r w' ⟨rfl, hC', hG⟩
    have e1 : nextGot l (a + k) e 1 = [] := by unfold nextGot; rw [if_neg (fun x => he x.1)]
    have e2 : nextAt l (a + k) e 1 = a + k := by unfold nextAt; rw [if_neg (fun x => he x.1)]
    have e3 : nextErr l (a + k) e 1 = e := by unfold nextErr; rw [if_neg he]
    rw [e2, e3] at hC'
    exact ⟨by rw [e1]; simp [leNat], hC', hG⟩
  err W k e hC := err_cur hC
  fail W k e f hC := fail_cur hC f
  keep W W' k e q hC hq hB := hC.grown hq (by rintro rfl; have := hB g rfl; omega) (by
    rcases hvb : v.ownBlock with _ | x
    · exact .inl rfl
    · refine .inr ?_
      rintro rfl
      have := hB x rfl
      have := hv x hvb
      omega)
  row_lt x e := by cases e; exact hg
  row_cells W k e x o hC hx ho := by
    cases hx
    have := hC.1
    unfold Box at this
    rw [this] at ho
    cases ho
    rfl

theorem u_cur {w : World} {g : Nat} {v : Value} {l : List UInt8} {a : Nat} {e : Int} (h : Cur w g v l a e) (hlen : l.length ≤ 140737488355328) :
    Calls Tryz.prog 90 #[.pointer (some ⟨g, 0, none⟩)] w fun x w' => x = .returned (.int .u64 ((uOf (l.drop a) e).1 : Int)) ∧ Cur w' g v l (a + (uOf (l.drop a) e).2.1) (uOf (l.drop a) e).2.2 ∧ w.grownBy w' (some g) :=
  u_any (cur_like (B := w.heap.size) h.1.lt (own_lt h.2.1) hlen h.2.2) (Nat.le_refl _) (CS := fun k e W => Cur W g v l (a + k) e) h

theorem s_cur {w : World} {g : Nat} {v : Value} {l : List UInt8} {a : Nat} {e : Int} (h : Cur w g v l a e) (hlen : l.length ≤ 140737488355328) :
    Calls Tryz.prog 200 #[.pointer (some ⟨g, 0, none⟩)] w fun x w' => x = .returned (.int .i64 (sOf (l.drop a) e).1) ∧ Cur w' g v l (a + (sOf (l.drop a) e).2.1) (sOf (l.drop a) e).2.2 ∧ w.grownBy w' (some g) :=
  s_any (cur_like (B := w.heap.size) h.1.lt (own_lt h.2.1) hlen h.2.2) (Nat.le_refl _) (CS := fun k e W => Cur W g v l (a + k) e) h

end Go.Proofs.YtejicboemkpeoaaGreatDoor
