/-
  The walk of LebPuts: what any number is put as, behind any bytes, and how many bytes it needs, is as the document has it.
-/
import Derived.Test.YtkabefjppdklgaaLebO
import Derived.Test.YtkabefjppdklgaaRefW
import Derived.Test.YtkabefjppdklgaaLebW
import Derived.Test.YtkabefjppdklgaaUntil
import Derived.Test.YtkabefjppdklgaaRoundRegion
namespace Go.Proofs.Ytkabefjppdklgaa
open Go Go.RowKit

theorem below_new1 {w w1 : World} (hg : (w.alloc (.cells #[] 5)).grownBy w1 (Value.ownBlock (.slice (some ⟨w.heap.size, 0, none⟩) 0 0))) : Below w.heap.size w w1 :=
  ((Below.refl _ _).alloc (Nat.le_refl _) _).grown hg (by simp) (by simp [Value.ownBlock])

set_option linter.unusedSimpArgs false
attribute [local go_sem ↓] Go.wp_at_zero Go.wp_at_succ

set_option maxHeartbeats 8000000 in
theorem lputs_walk (a0 : Option Addr) (len0 cap0 : Nat) (z0 : List Int) (a1 : Int) (a2 : Int) (a3 : Int) (w : World) (w0 : IsRow .u8 w a0 len0 cap0 z0) (w1 : (Lit.int .u64 a1).wf = true) (w2 : (Lit.int .i64 a2).wf = true) (_w3 : (Lit.int .i64 a3).wf = true) :
    Calls Try.prog 10 #[.slice a0 len0 cap0, .int .u64 a1, .int .i64 a2, .int .i64 a3] w fun e w' => e = .returned (.bool true) ∧ Below w.heap.size w w' := by
  obtain ⟨l, hlen, hrd, hlc, hcm⟩ := row_bytes w0
  obtain ⟨x, rfl, hx⟩ := nat_of_u64 w1
  have hy := i64_of w2
  clear w0 w1 w2
  obtain ⟨i0, hi, hz0, hz1, hz2⟩ := info_parts u8_info
  by_cases hbig : 2000 < len0
  · have hd : decide ((2000 : Int) < (len0 : Int)) = true := by simp; omega
    have hW := works2_any w
    go_enter Try.func10, Try.ntmps10
    go_wp2_with (go_at_call 37; refine hW.mono ?_; rintro r w1 ⟨rfl, hb1⟩)
    go_ret
    exact ⟨rfl, hb1⟩
  · have hd : decide ((2000 : Int) < (len0 : Int)) = false := by simp; omega
    have hx64 : x < 2 ^ 64 := hx
    have hr1 := sizeU_range x hx64
    have hr2 := sizeS_range a2 hy
    have hr3 := wideOf_range x a3 hx64
    have l1 := lebPut_length (sizeU x) (x : Int) hr1.1
    have l2 := lebPut_length (sizeS a2) a2 hr2.1
    have l3 := lebPut_length (wideOf x a3) (x : Int) (by omega)
    obtain ⟨m1, hm1⟩ : ∃ m, m = lebPut (sizeU x) (x : Int) := ⟨_, rfl⟩
    obtain ⟨m2, hm2⟩ : ∃ m, m = lebPut (sizeS a2) a2 := ⟨_, rfl⟩
    obtain ⟨m3, hm3⟩ : ∃ m, m = lebPut (wideOf x a3) (x : Int) := ⟨_, rfl⟩
    rw [← hm1] at l1
    rw [← hm2] at l2
    rw [← hm3] at l3
    obtain ⟨sA, hsA⟩ : ∃ s : ByteArray, s = ⟨l.toArray⟩ := ⟨_, rfl⟩
    obtain ⟨sM1, hsM1⟩ : ∃ s : ByteArray, s = ⟨m1.toArray⟩ := ⟨_, rfl⟩
    obtain ⟨sM2, hsM2⟩ : ∃ s : ByteArray, s = ⟨m2.toArray⟩ := ⟨_, rfl⟩
    obtain ⟨sM3, hsM3⟩ : ∃ s : ByteArray, s = ⟨m3.toArray⟩ := ⟨_, rfl⟩
    obtain ⟨sP1, hsP1⟩ : ∃ s : ByteArray, s = ⟨([] ++ l ++ m1).toArray⟩ := ⟨_, rfl⟩
    obtain ⟨sP2, hsP2⟩ : ∃ s : ByteArray, s = ⟨([] ++ l ++ m2).toArray⟩ := ⟨_, rfl⟩
    obtain ⟨sP3, hsP3⟩ : ∃ s : ByteArray, s = ⟨([] ++ l ++ m3).toArray⟩ := ⟨_, rfl⟩
    have hno1 : ¬ (9223372036854775807 < sA.size + sM1.size) := by subst hsA hsM1; simp [ByteArray.size]; omega
    have hno2 : ¬ (9223372036854775807 < sA.size + sM2.size) := by subst hsA hsM2; simp [ByteArray.size]; omega
    have hno3 : ¬ (9223372036854775807 < sA.size + sM3.size) := by subst hsA hsM3; simp [ByteArray.size]; omega
    have heq1 : (sP1.toList == (sA ++ sM1).toList) = true := by subst hsA hsM1 hsP1; simp [ByteArray.mk_append_mk]
    have heq2 : (sP2.toList == (sA ++ sM2).toList) = true := by subst hsA hsM2 hsP2; simp [ByteArray.mk_append_mk]
    have heq3 : (sP3.toList == (sA ++ sM3).toList) = true := by subst hsA hsM3 hsP3; simp [ByteArray.mk_append_mk]
    have KA := Lib.hid (fun (W : World) (hW : Below w.heap.size w W) => (by rw [← hlen, hsA]; exact conv_rd (hrd.below hW) cap0 : (convert 22 9 (.slice a0 len0 cap0)).run Try.prog W = .ok (.string sA) W))
    have E1 := Lib.hid hsP1
    have E2 := Lib.hid hsP2
    have E3 := Lib.hid hsP3
    have F1 := Lib.hid hsM1
    have F2 := Lib.hid hsM2
    have F3 := Lib.hid hsM3
    have HR := Lib.hid (hrd.below (Below.refl _ _))
    have hsum : ([] : List UInt8).length + l.length ≤ 140737488355328 := by simp; omega
    have HL := Lib.hid hlen
    have hl5 : ([] ++ l).length ≤ 140737488355000 := by simp; omega
    have P1 := Lib.hid (fun (W : World) (v : Value) (hv : Own W w.heap.size v ([] ++ l)) (hW : w.heap.size ≤ W.heap.size) => (by rw [hm1]; exact putU_onto hv hW x hx64 hl5 : Calls Try.prog 42 #[v, .int .u64 (x : Int)] W fun r w' => ∃ v', r = .returned v' ∧ Onto W w' w.heap.size v v' ([] ++ l) ([] ++ l ++ m1)))
    have P2 := Lib.hid (fun (W : World) (v : Value) (hv : Own W w.heap.size v ([] ++ l)) (hW : w.heap.size ≤ W.heap.size) => (by rw [hm2]; exact putS_onto hv hW a2 hy hl5 : Calls Try.prog 44 #[v, .int .i64 a2] W fun r w' => ∃ v', r = .returned v' ∧ Onto W w' w.heap.size v v' ([] ++ l) ([] ++ l ++ m2)))
    have P3 := Lib.hid (fun (W : World) (v : Value) (hv : Own W w.heap.size v ([] ++ l)) (hW : w.heap.size ≤ W.heap.size) => (by rw [hm3]; exact putWide_onto hv hW x hx64 a3 hl5 : Calls Try.prog 46 #[v, .int .u64 (x : Int), .int .i64 a3] W fun r w' => ∃ v', r = .returned v' ∧ Onto W w' w.heap.size v v' ([] ++ l) ([] ++ l ++ m3)))
    have R1 := Lib.hid (fun (W : World) => (by rw [hm1]; exact rputU_any W x hx64 : Calls Try.prog 43 #[.int .u64 (x : Int)] W fun r w' => ∃ v', r = .returned v' ∧ Own w' W.heap.size v' m1 ∧ Below W.heap.size W w'))
    have R2 := Lib.hid (fun (W : World) => (by rw [hm2]; exact rputS_any W a2 hy : Calls Try.prog 45 #[.int .i64 a2] W fun r w' => ∃ v', r = .returned v' ∧ Own w' W.heap.size v' m2 ∧ Below W.heap.size W w'))
    have R3 := Lib.hid (fun (W : World) => (by rw [hm3]; exact rputWide_any W x hx64 a3 : Calls Try.prog 47 #[.int .u64 (x : Int), .int .i64 a3] W fun r w' => ∃ v', r = .returned v' ∧ Own w' W.heap.size v' m3 ∧ Below W.heap.size W w'))
    have Z1 := Lib.hid (fun W => sizeU_any x hx64 W)
    have Z2 := Lib.hid (fun W => sizeS_any a2 hy W)
    have hW := Lib.hid works2_any
    have L1 := Lib.hid l1
    have L2 := Lib.hid l2
    clear hlen hrd hx hx64 hy hsA hsM1 hsM2 hsM3 hsP1 hsP2 hsP3 hr1 hr2 hr3 l1 l2 l3 hm1 hm2 hm3 hlc hcm hbig
    go_enter Try.func10, Try.ntmps10
    go_wp2_with (at_builtin; refine wpList_append_bytes (by rfl) (.tmp 14) (.tmp 15) _ (by rfl) w.heap.size i0 Try.underlying22 hi hz0 hz1 hz2 (.slice (some ⟨w.heap.size, 0, none⟩) 0 0) [] (by rfl) (by exact (own_new w)) w.heap.size a0 len0 cap0 l HL.out (by rfl) (HR.out.below ((Below.refl _ _).alloc (Nat.le_refl _) _)) hsum (by simp) ?_; intro v1 w1 hown1 hg1 hat1; have hb1 := below_new1 hg1; clear hg1 hat1)
    refine region_any (by kernel_rfl) ?_
    have hb2 := hb1.drew
    have hown2 : Own w1.drew w.heap.size v1 ([] ++ l) := hown1
    clear hb1 hown1
    refine wpAny_of_until (S := fun W => (convert 22 9 (.slice a0 len0 cap0)).run Try.prog W = .ok (.string sA) W) (p := 10) _ _ _ _ ?_
    have hHeld := KA.out _ hb2
    refine take_u (i := 0) (v := ?_) [2, 3, 10] rfl (by kernel_rfl) (by kernel_rfl) (by kernel_rfl) (by kernel_rfl) (by kernel_rfl) (by kernel_rfl) (by kernel_rfl) (fun _ _ _ h => h) (Or.inl ⟨by rfl, ?_⟩) hHeld ?_
    rotate_left
    · (intro wS hSw; (try dsimp only at hSw); go_simp; (try with_reducible rfl))
    try simp only [Act.put, List.setIfInBounds_toArray, List.set_cons_zero, List.set_cons_succ]
    refine take_u (i := 1) (v := ?_) [2, 3, 10] rfl (by kernel_rfl) (by kernel_rfl) (by kernel_rfl) (by kernel_rfl) (by kernel_rfl) (by kernel_rfl) (by kernel_rfl) (fun _ _ _ h => h) (Or.inl ⟨by rfl, ?_⟩) hHeld ?_
    rotate_left
    · (intro wS hSw; (try dsimp only at hSw); go_simp; (try with_reducible rfl))
    try simp only [Act.put, List.setIfInBounds_toArray, List.set_cons_zero, List.set_cons_succ]
    refine take_u (i := 4) (v := ?_) [5, 9, 10] rfl (by kernel_rfl) (by kernel_rfl) (by kernel_rfl) (by kernel_rfl) (by kernel_rfl) (by kernel_rfl) (by kernel_rfl) (fun _ _ _ h => h) (Or.inl ⟨by rfl, ?_⟩) hHeld ?_
    rotate_left
    · (intro wS hSw; (try dsimp only at hSw); go_simp; (try with_reducible rfl))
    try simp only [Act.put, List.setIfInBounds_toArray, List.set_cons_zero, List.set_cons_succ]
    refine take_u (i := 5) (v := ?_) [9, 10] rfl (by kernel_rfl) (by kernel_rfl) (by kernel_rfl) (by kernel_rfl) (by kernel_rfl) (by kernel_rfl) (by kernel_rfl) (fun _ _ _ h => h) (Or.inl ⟨by rfl, ?_⟩) hHeld ?_
    rotate_left
    · (intro wS hSw; (try dsimp only at hSw); go_simp; (try with_reducible rfl))
    try simp only [Act.put, List.setIfInBounds_toArray, List.set_cons_zero, List.set_cons_succ]
    refine take_u (i := 6) (v := ?_) [7, 8, 9, 10] rfl (by kernel_rfl) (by kernel_rfl) (by kernel_rfl) (by kernel_rfl) (by kernel_rfl) (by kernel_rfl) (by kernel_rfl) (fun _ _ _ h => h) (Or.inl ⟨by rfl, ?_⟩) hHeld ?_
    rotate_left
    · (intro wS hSw; (try dsimp only at hSw); go_simp; (try with_reducible rfl))
    try simp only [Act.put, List.setIfInBounds_toArray, List.set_cons_zero, List.set_cons_succ]
    refine ready_u (i := 2) (by kernel_rfl) rfl (by kernel_rfl) (fun K hK => ?_)
    go_simp
    go_wp2_with (go_at_call 42; refine (P1.out _ _ hown2 hb2.size).mono ?_; rintro r wp1 ⟨vp1, rfl, hO1⟩; have hbp1 := below_laid hb2 hown2 hO1.1; have hx1 := hO1.2.1; have hcp1 := conv_as E1.out (conv_own hO1.1.1))
    refine hK.out _ _ ?_ (fun hNew => ?_)
    · exact KA.out _ hbp1
    clear hHeld hK K
    have hHeld := hNew
    clear hNew
    refine until_turn (S' := fun W => ((convert 22 9 (.slice a0 len0 cap0)).run Try.prog W = .ok (.string sA) W) ∧ (convert 22 9 vp1).run Try.prog W = .ok (.string sP1) W) (fun _ h => h.1) _ _ _ _ ?_
    have hTurn := And.intro hHeld hcp1
    clear hHeld
    have hHeld := hTurn
    clear hTurn
    refine take_u (i := 3) (v := ?_) [10] rfl (by kernel_rfl) (by kernel_rfl) (by kernel_rfl) (by kernel_rfl) (by kernel_rfl) (by kernel_rfl) (by kernel_rfl) (fun _ _ _ h => h) (Or.inl ⟨by rfl, ?_⟩) hHeld ?_
    rotate_left
    · (intro wS hSw; (try dsimp only at hSw); go_simp; (try with_reducible rfl))
    try simp only [Act.put, List.setIfInBounds_toArray, List.set_cons_zero, List.set_cons_succ]
    refine ready_u (i := 7) (by kernel_rfl) rfl (by kernel_rfl) (fun K hK => ?_)
    go_simp
    go_wp2_with (go_at_call 43; refine (R1.out _).mono ?_; rintro r wr1 ⟨vr1, rfl, hR1, hbr1⟩; have hbs1 := hbp1.trans (hbr1.mono hbp1.size); have hy1 := own_below hx1 hbr1; have hcq1 := conv_as E1.out (conv_own (own_below hO1.1.1 hbr1)); have hcr1 := conv_as F1.out (conv_own hR1))
    refine hK.out _ _ ?_ (fun hNew => ?_)
    · exact ⟨KA.out _ hbs1, hcq1⟩
    clear hHeld hK K
    have hHeld := hNew
    clear hNew
    refine until_turn (S' := fun W => (((convert 22 9 (.slice a0 len0 cap0)).run Try.prog W = .ok (.string sA) W) ∧ (convert 22 9 vp1).run Try.prog W = .ok (.string sP1) W) ∧ (convert 22 9 vr1).run Try.prog W = .ok (.string sM1) W) (fun _ h => h.1) _ _ _ _ ?_
    have hTurn := And.intro hHeld hcr1
    clear hHeld
    have hHeld := hTurn
    clear hTurn
    refine take_u (i := 8) (v := ?_) [9, 10] rfl (by kernel_rfl) (by kernel_rfl) (by kernel_rfl) (by kernel_rfl) (by kernel_rfl) (by kernel_rfl) (by kernel_rfl) (fun _ _ _ h => h) (Or.inl ⟨by rfl, ?_⟩) hHeld ?_
    rotate_left
    · (intro wS hSw; (try dsimp only at hSw); go_simp; (try with_reducible rfl))
    try simp only [Act.put, List.setIfInBounds_toArray, List.set_cons_zero, List.set_cons_succ]
    refine take_u (i := 9) (v := ?_) [10] rfl (by kernel_rfl) (by kernel_rfl) (by kernel_rfl) (by kernel_rfl) (by kernel_rfl) (by kernel_rfl) (by kernel_rfl) (fun _ _ _ h => h) (Or.inl ⟨by rfl, ?_⟩) hHeld ?_
    rotate_left
    · (intro wS hSw; (try dsimp only at hSw); go_simp; (try with_reducible rfl))
    try simp only [Act.put, List.setIfInBounds_toArray, List.set_cons_zero, List.set_cons_succ]
    refine end_u (by kernel_rfl) rfl (fun K hK => ?_)
    go_simp
    refine hK.out _ _ ?_
    clear hHeld hK K
    clear hcp1 hcq1 hcr1 hR1 hbr1 hbp1 hO1 hx1
    refine wpAny_of_until (S := fun W => (convert 22 9 (.slice a0 len0 cap0)).run Try.prog W = .ok (.string sA) W) (p := 22) _ _ _ _ ?_
    have hHeld := KA.out _ hbs1
    refine take_u (i := 11) (v := ?_) [22] rfl (by kernel_rfl) (by kernel_rfl) (by kernel_rfl) (by kernel_rfl) (by kernel_rfl) (by kernel_rfl) (by kernel_rfl) (fun _ _ _ h => h) (Or.inl ⟨by rfl, ?_⟩) hHeld ?_
    rotate_left
    · (intro wS hSw; (try dsimp only at hSw); go_simp; (try with_reducible rfl))
    try simp only [Act.put, List.setIfInBounds_toArray, List.set_cons_zero, List.set_cons_succ]
    refine take_u (i := 12) (v := ?_) [14, 15, 22] rfl (by kernel_rfl) (by kernel_rfl) (by kernel_rfl) (by kernel_rfl) (by kernel_rfl) (by kernel_rfl) (by kernel_rfl) (fun _ _ _ h => h) (Or.inl ⟨by rfl, ?_⟩) hHeld ?_
    rotate_left
    · (intro wS hSw; (try dsimp only at hSw); go_simp; (try with_reducible rfl))
    try simp only [Act.put, List.setIfInBounds_toArray, List.set_cons_zero, List.set_cons_succ]
    refine take_u (i := 13) (v := ?_) [14, 15, 22] rfl (by kernel_rfl) (by kernel_rfl) (by kernel_rfl) (by kernel_rfl) (by kernel_rfl) (by kernel_rfl) (by kernel_rfl) (fun _ _ _ h => h) (Or.inl ⟨by rfl, ?_⟩) hHeld ?_
    rotate_left
    · (intro wS hSw; (try dsimp only at hSw); go_simp; (try with_reducible rfl))
    try simp only [Act.put, List.setIfInBounds_toArray, List.set_cons_zero, List.set_cons_succ]
    refine take_u (i := 16) (v := ?_) [17, 21, 22] rfl (by kernel_rfl) (by kernel_rfl) (by kernel_rfl) (by kernel_rfl) (by kernel_rfl) (by kernel_rfl) (by kernel_rfl) (fun _ _ _ h => h) (Or.inl ⟨by rfl, ?_⟩) hHeld ?_
    rotate_left
    · (intro wS hSw; (try dsimp only at hSw); go_simp; (try with_reducible rfl))
    try simp only [Act.put, List.setIfInBounds_toArray, List.set_cons_zero, List.set_cons_succ]
    refine take_u (i := 17) (v := ?_) [21, 22] rfl (by kernel_rfl) (by kernel_rfl) (by kernel_rfl) (by kernel_rfl) (by kernel_rfl) (by kernel_rfl) (by kernel_rfl) (fun _ _ _ h => h) (Or.inl ⟨by rfl, ?_⟩) hHeld ?_
    rotate_left
    · (intro wS hSw; (try dsimp only at hSw); go_simp; (try with_reducible rfl))
    try simp only [Act.put, List.setIfInBounds_toArray, List.set_cons_zero, List.set_cons_succ]
    refine take_u (i := 18) (v := ?_) [19, 20, 21, 22] rfl (by kernel_rfl) (by kernel_rfl) (by kernel_rfl) (by kernel_rfl) (by kernel_rfl) (by kernel_rfl) (by kernel_rfl) (fun _ _ _ h => h) (Or.inl ⟨by rfl, ?_⟩) hHeld ?_
    rotate_left
    · (intro wS hSw; (try dsimp only at hSw); go_simp; (try with_reducible rfl))
    try simp only [Act.put, List.setIfInBounds_toArray, List.set_cons_zero, List.set_cons_succ]
    refine ready_u (i := 14) (by kernel_rfl) rfl (by kernel_rfl) (fun K hK => ?_)
    go_simp
    go_wp2_with (go_at_call 44; refine (P2.out _ _ hy1 hbs1.size).mono ?_; rintro r wp2 ⟨vp2, rfl, hO2⟩; have hbp2 := below_laid hbs1 hy1 hO2.1; have hx2 := hO2.2.1; have hcp2 := conv_as E2.out (conv_own hO2.1.1))
    refine hK.out _ _ ?_ (fun hNew => ?_)
    · exact KA.out _ hbp2
    clear hHeld hK K
    have hHeld := hNew
    clear hNew
    refine until_turn (S' := fun W => ((convert 22 9 (.slice a0 len0 cap0)).run Try.prog W = .ok (.string sA) W) ∧ (convert 22 9 vp2).run Try.prog W = .ok (.string sP2) W) (fun _ h => h.1) _ _ _ _ ?_
    have hTurn := And.intro hHeld hcp2
    clear hHeld
    have hHeld := hTurn
    clear hTurn
    refine take_u (i := 15) (v := ?_) [22] rfl (by kernel_rfl) (by kernel_rfl) (by kernel_rfl) (by kernel_rfl) (by kernel_rfl) (by kernel_rfl) (by kernel_rfl) (fun _ _ _ h => h) (Or.inl ⟨by rfl, ?_⟩) hHeld ?_
    rotate_left
    · (intro wS hSw; (try dsimp only at hSw); go_simp; (try with_reducible rfl))
    try simp only [Act.put, List.setIfInBounds_toArray, List.set_cons_zero, List.set_cons_succ]
    refine ready_u (i := 19) (by kernel_rfl) rfl (by kernel_rfl) (fun K hK => ?_)
    go_simp
    go_wp2_with (go_at_call 45; refine (R2.out _).mono ?_; rintro r wr2 ⟨vr2, rfl, hR2, hbr2⟩; have hbs2 := hbp2.trans (hbr2.mono hbp2.size); have hy2 := own_below hx2 hbr2; have hcq2 := conv_as E2.out (conv_own (own_below hO2.1.1 hbr2)); have hcr2 := conv_as F2.out (conv_own hR2))
    refine hK.out _ _ ?_ (fun hNew => ?_)
    · exact ⟨KA.out _ hbs2, hcq2⟩
    clear hHeld hK K
    have hHeld := hNew
    clear hNew
    refine until_turn (S' := fun W => (((convert 22 9 (.slice a0 len0 cap0)).run Try.prog W = .ok (.string sA) W) ∧ (convert 22 9 vp2).run Try.prog W = .ok (.string sP2) W) ∧ (convert 22 9 vr2).run Try.prog W = .ok (.string sM2) W) (fun _ h => h.1) _ _ _ _ ?_
    have hTurn := And.intro hHeld hcr2
    clear hHeld
    have hHeld := hTurn
    clear hTurn
    refine take_u (i := 20) (v := ?_) [21, 22] rfl (by kernel_rfl) (by kernel_rfl) (by kernel_rfl) (by kernel_rfl) (by kernel_rfl) (by kernel_rfl) (by kernel_rfl) (fun _ _ _ h => h) (Or.inl ⟨by rfl, ?_⟩) hHeld ?_
    rotate_left
    · (intro wS hSw; (try dsimp only at hSw); go_simp; (try with_reducible rfl))
    try simp only [Act.put, List.setIfInBounds_toArray, List.set_cons_zero, List.set_cons_succ]
    refine take_u (i := 21) (v := ?_) [22] rfl (by kernel_rfl) (by kernel_rfl) (by kernel_rfl) (by kernel_rfl) (by kernel_rfl) (by kernel_rfl) (by kernel_rfl) (fun _ _ _ h => h) (Or.inl ⟨by rfl, ?_⟩) hHeld ?_
    rotate_left
    · (intro wS hSw; (try dsimp only at hSw); go_simp; (try with_reducible rfl))
    try simp only [Act.put, List.setIfInBounds_toArray, List.set_cons_zero, List.set_cons_succ]
    refine end_u (by kernel_rfl) rfl (fun K hK => ?_)
    go_simp
    refine hK.out _ _ ?_
    clear hHeld hK K
    clear hcp2 hcq2 hcr2 hR2 hbr2 hbp2 hO2 hx2
    refine wpAny_of_until (S := fun W => (convert 22 9 (.slice a0 len0 cap0)).run Try.prog W = .ok (.string sA) W) (p := 37) _ _ _ _ ?_
    have hHeld := KA.out _ hbs2
    refine take_u (i := 23) (v := ?_) [24, 37] rfl (by kernel_rfl) (by kernel_rfl) (by kernel_rfl) (by kernel_rfl) (by kernel_rfl) (by kernel_rfl) (by kernel_rfl) (fun _ _ _ h => h) (Or.inl ⟨by rfl, ?_⟩) hHeld ?_
    rotate_left
    · (intro wS hSw; (try dsimp only at hSw); go_simp; (try with_reducible rfl))
    try simp only [Act.put, List.setIfInBounds_toArray, List.set_cons_zero, List.set_cons_succ]
    refine take_u (i := 24) (v := ?_) [37] rfl (by kernel_rfl) (by kernel_rfl) (by kernel_rfl) (by kernel_rfl) (by kernel_rfl) (by kernel_rfl) (by kernel_rfl) (fun _ _ _ h => h) (Or.inl ⟨by rfl, ?_⟩) hHeld ?_
    rotate_left
    · (intro wS hSw; (try dsimp only at hSw); go_simp; (try with_reducible rfl))
    try simp only [Act.put, List.setIfInBounds_toArray, List.set_cons_zero, List.set_cons_succ]
    refine take_u (i := 25) (v := ?_) [28, 29, 37] rfl (by kernel_rfl) (by kernel_rfl) (by kernel_rfl) (by kernel_rfl) (by kernel_rfl) (by kernel_rfl) (by kernel_rfl) (fun _ _ _ h => h) (Or.inl ⟨by rfl, ?_⟩) hHeld ?_
    rotate_left
    · (intro wS hSw; (try dsimp only at hSw); go_simp; (try with_reducible rfl))
    try simp only [Act.put, List.setIfInBounds_toArray, List.set_cons_zero, List.set_cons_succ]
    refine take_u (i := 26) (v := ?_) [28, 29, 37] rfl (by kernel_rfl) (by kernel_rfl) (by kernel_rfl) (by kernel_rfl) (by kernel_rfl) (by kernel_rfl) (by kernel_rfl) (fun _ _ _ h => h) (Or.inl ⟨by rfl, ?_⟩) hHeld ?_
    rotate_left
    · (intro wS hSw; (try dsimp only at hSw); go_simp; (try with_reducible rfl))
    try simp only [Act.put, List.setIfInBounds_toArray, List.set_cons_zero, List.set_cons_succ]
    refine take_u (i := 27) (v := ?_) [28, 29, 37] rfl (by kernel_rfl) (by kernel_rfl) (by kernel_rfl) (by kernel_rfl) (by kernel_rfl) (by kernel_rfl) (by kernel_rfl) (fun _ _ _ h => h) (Or.inl ⟨by rfl, ?_⟩) hHeld ?_
    rotate_left
    · (intro wS hSw; (try dsimp only at hSw); go_simp; (try with_reducible rfl))
    try simp only [Act.put, List.setIfInBounds_toArray, List.set_cons_zero, List.set_cons_succ]
    refine take_u (i := 30) (v := ?_) [31, 36, 37] rfl (by kernel_rfl) (by kernel_rfl) (by kernel_rfl) (by kernel_rfl) (by kernel_rfl) (by kernel_rfl) (by kernel_rfl) (fun _ _ _ h => h) (Or.inl ⟨by rfl, ?_⟩) hHeld ?_
    rotate_left
    · (intro wS hSw; (try dsimp only at hSw); go_simp; (try with_reducible rfl))
    try simp only [Act.put, List.setIfInBounds_toArray, List.set_cons_zero, List.set_cons_succ]
    refine take_u (i := 31) (v := ?_) [36, 37] rfl (by kernel_rfl) (by kernel_rfl) (by kernel_rfl) (by kernel_rfl) (by kernel_rfl) (by kernel_rfl) (by kernel_rfl) (fun _ _ _ h => h) (Or.inl ⟨by rfl, ?_⟩) hHeld ?_
    rotate_left
    · (intro wS hSw; (try dsimp only at hSw); go_simp; (try with_reducible rfl))
    try simp only [Act.put, List.setIfInBounds_toArray, List.set_cons_zero, List.set_cons_succ]
    refine take_u (i := 32) (v := ?_) [34, 35, 36, 37] rfl (by kernel_rfl) (by kernel_rfl) (by kernel_rfl) (by kernel_rfl) (by kernel_rfl) (by kernel_rfl) (by kernel_rfl) (fun _ _ _ h => h) (Or.inl ⟨by rfl, ?_⟩) hHeld ?_
    rotate_left
    · (intro wS hSw; (try dsimp only at hSw); go_simp; (try with_reducible rfl))
    try simp only [Act.put, List.setIfInBounds_toArray, List.set_cons_zero, List.set_cons_succ]
    refine take_u (i := 33) (v := ?_) [34, 35, 36, 37] rfl (by kernel_rfl) (by kernel_rfl) (by kernel_rfl) (by kernel_rfl) (by kernel_rfl) (by kernel_rfl) (by kernel_rfl) (fun _ _ _ h => h) (Or.inl ⟨by rfl, ?_⟩) hHeld ?_
    rotate_left
    · (intro wS hSw; (try dsimp only at hSw); go_simp; (try with_reducible rfl))
    try simp only [Act.put, List.setIfInBounds_toArray, List.set_cons_zero, List.set_cons_succ]
    refine ready_u (i := 28) (by kernel_rfl) rfl (by kernel_rfl) (fun K hK => ?_)
    go_simp
    go_wp2_with (go_at_call 46; refine (P3.out _ _ hy2 hbs2.size).mono ?_; rintro r wp3 ⟨vp3, rfl, hO3⟩; have hbp3 := below_laid hbs2 hy2 hO3.1; have hx3 := hO3.2.1; have hcp3 := conv_as E3.out (conv_own hO3.1.1))
    refine hK.out _ _ ?_ (fun hNew => ?_)
    · exact KA.out _ hbp3
    clear hHeld hK K
    have hHeld := hNew
    clear hNew
    refine until_turn (S' := fun W => ((convert 22 9 (.slice a0 len0 cap0)).run Try.prog W = .ok (.string sA) W) ∧ (convert 22 9 vp3).run Try.prog W = .ok (.string sP3) W) (fun _ h => h.1) _ _ _ _ ?_
    have hTurn := And.intro hHeld hcp3
    clear hHeld
    have hHeld := hTurn
    clear hTurn
    refine take_u (i := 29) (v := ?_) [37] rfl (by kernel_rfl) (by kernel_rfl) (by kernel_rfl) (by kernel_rfl) (by kernel_rfl) (by kernel_rfl) (by kernel_rfl) (fun _ _ _ h => h) (Or.inl ⟨by rfl, ?_⟩) hHeld ?_
    rotate_left
    · (intro wS hSw; (try dsimp only at hSw); go_simp; (try with_reducible rfl))
    try simp only [Act.put, List.setIfInBounds_toArray, List.set_cons_zero, List.set_cons_succ]
    refine ready_u (i := 34) (by kernel_rfl) rfl (by kernel_rfl) (fun K hK => ?_)
    go_simp
    go_wp2_with (go_at_call 47; refine (R3.out _).mono ?_; rintro r wr3 ⟨vr3, rfl, hR3, hbr3⟩; have hbs3 := hbp3.trans (hbr3.mono hbp3.size); have hy3 := own_below hx3 hbr3; have hcq3 := conv_as E3.out (conv_own (own_below hO3.1.1 hbr3)); have hcr3 := conv_as F3.out (conv_own hR3))
    refine hK.out _ _ ?_ (fun hNew => ?_)
    · exact ⟨KA.out _ hbs3, hcq3⟩
    clear hHeld hK K
    have hHeld := hNew
    clear hNew
    refine until_turn (S' := fun W => (((convert 22 9 (.slice a0 len0 cap0)).run Try.prog W = .ok (.string sA) W) ∧ (convert 22 9 vp3).run Try.prog W = .ok (.string sP3) W) ∧ (convert 22 9 vr3).run Try.prog W = .ok (.string sM3) W) (fun _ h => h.1) _ _ _ _ ?_
    have hTurn := And.intro hHeld hcr3
    clear hHeld
    have hHeld := hTurn
    clear hTurn
    refine take_u (i := 35) (v := ?_) [36, 37] rfl (by kernel_rfl) (by kernel_rfl) (by kernel_rfl) (by kernel_rfl) (by kernel_rfl) (by kernel_rfl) (by kernel_rfl) (fun _ _ _ h => h) (Or.inl ⟨by rfl, ?_⟩) hHeld ?_
    rotate_left
    · (intro wS hSw; (try dsimp only at hSw); go_simp; (try with_reducible rfl))
    try simp only [Act.put, List.setIfInBounds_toArray, List.set_cons_zero, List.set_cons_succ]
    refine take_u (i := 36) (v := ?_) [37] rfl (by kernel_rfl) (by kernel_rfl) (by kernel_rfl) (by kernel_rfl) (by kernel_rfl) (by kernel_rfl) (by kernel_rfl) (fun _ _ _ h => h) (Or.inl ⟨by rfl, ?_⟩) hHeld ?_
    rotate_left
    · (intro wS hSw; (try dsimp only at hSw); go_simp; (try with_reducible rfl))
    try simp only [Act.put, List.setIfInBounds_toArray, List.set_cons_zero, List.set_cons_succ]
    refine end_u (by kernel_rfl) rfl (fun K hK => ?_)
    go_simp
    refine hK.out _ _ ?_
    clear hHeld hK K
    clear hcp3 hcq3 hcr3 hR3 hbr3 hbp3 hO3 hx3
    refine wpAny_of_held (S := fun _ => True) _ _ _ _ ?_
    refine take_r (i := 38) (v := ?_) rfl (by kernel_rfl) (by kernel_rfl) (by kernel_rfl) (fun _ _ _ h => h) (Or.inl ⟨by rfl, ?_⟩) trivial ?_
    rotate_left
    · (intro wS hSw; (try dsimp only at hSw); go_simp; (try with_reducible rfl))
    try simp only [Act.put, List.setIfInBounds_toArray, List.set_cons_zero, List.set_cons_succ]
    refine take_r (i := 39) (v := ?_) rfl (by kernel_rfl) (by kernel_rfl) (by kernel_rfl) (fun _ _ _ h => h) (Or.inl ⟨by rfl, ?_⟩) trivial ?_
    rotate_left
    · (intro wS hSw; (try dsimp only at hSw); go_simp; (try with_reducible rfl))
    try simp only [Act.put, List.setIfInBounds_toArray, List.set_cons_zero, List.set_cons_succ]
    refine take_r (i := 40) (v := ?_) rfl (by kernel_rfl) (by kernel_rfl) (by kernel_rfl) (fun _ _ _ h => h) (Or.inl ⟨by rfl, ?_⟩) trivial ?_
    rotate_left
    · (intro wS hSw; (try dsimp only at hSw); go_simp; (try with_reducible rfl))
    try simp only [Act.put, List.setIfInBounds_toArray, List.set_cons_zero, List.set_cons_succ]
    refine take_r (i := 42) (v := ?_) rfl (by kernel_rfl) (by kernel_rfl) (by kernel_rfl) (fun _ _ _ h => h) (Or.inl ⟨by rfl, ?_⟩) trivial ?_
    rotate_left
    · (intro wS hSw; (try dsimp only at hSw); go_simp; (try with_reducible rfl))
    try simp only [Act.put, List.setIfInBounds_toArray, List.set_cons_zero, List.set_cons_succ]
    refine wpAnyH_ready (rs := [41]) (by kernel_rfl) (by simp) ?_
    refine ready_r rfl (fun K hK => ?_)
    go_simp
    go_wp2_with (go_at_call 48; refine (Z1.out _).mono ?_; rintro r w8 ⟨rfl, rfl⟩)
    refine hK.out _ _ trivial (fun _ => ?_)
    clear hK K
    refine wpAnyH_ready (rs := [43]) (by kernel_rfl) (by simp) ?_
    refine ready_r rfl (fun K hK => ?_)
    go_simp
    go_wp2_with (go_at_call 43; refine (R1.out _).mono ?_; rintro r w9 ⟨v9, rfl, hR9, hb9⟩; have hb10 := hbs3.trans (hb9.mono hbs3.size); obtain ⟨A9, c9, rfl, -, -, -⟩ := own_slice hR9; clear hR9 hb9)
    refine hK.out _ _ trivial (fun _ => ?_)
    clear hK K
    rw [L1.out]
    refine take_r (i := 44) (v := ?_) rfl (by kernel_rfl) (by kernel_rfl) (by kernel_rfl) (fun _ _ _ h => h) (Or.inl ⟨by rfl, ?_⟩) trivial ?_
    rotate_left
    · (intro wS hSw; (try dsimp only at hSw); go_simp; (try with_reducible rfl))
    try simp only [Act.put, List.setIfInBounds_toArray, List.set_cons_zero, List.set_cons_succ]
    refine take_r (i := 45) (v := ?_) rfl (by kernel_rfl) (by kernel_rfl) (by kernel_rfl) (fun _ _ _ h => h) (Or.inl ⟨by rfl, ?_⟩) trivial ?_
    rotate_left
    · (intro wS hSw; (try dsimp only at hSw); go_simp; (try with_reducible rfl))
    try simp only [Act.put, List.setIfInBounds_toArray, List.set_cons_zero, List.set_cons_succ]
    refine take_r (i := 46) (v := ?_) rfl (by kernel_rfl) (by kernel_rfl) (by kernel_rfl) (fun _ _ _ h => h) (Or.inl ⟨by rfl, ?_⟩) trivial ?_
    rotate_left
    · (intro wS hSw; (try dsimp only at hSw); go_simp; (try with_reducible rfl))
    try simp only [Act.put, List.setIfInBounds_toArray, List.set_cons_zero, List.set_cons_succ]
    refine take_r (i := 47) (v := ?_) rfl (by kernel_rfl) (by kernel_rfl) (by kernel_rfl) (fun _ _ _ h => h) (Or.inl ⟨by rfl, ?_⟩) trivial ?_
    rotate_left
    · (intro wS hSw; (try dsimp only at hSw); go_simp; (try with_reducible rfl))
    try simp only [Act.put, List.setIfInBounds_toArray, List.set_cons_zero, List.set_cons_succ]
    refine take_r (i := 48) (v := ?_) rfl (by kernel_rfl) (by kernel_rfl) (by kernel_rfl) (fun _ _ _ h => h) (Or.inl ⟨by rfl, ?_⟩) trivial ?_
    rotate_left
    · (intro wS hSw; (try dsimp only at hSw); go_simp; (try with_reducible rfl))
    try simp only [Act.put, List.setIfInBounds_toArray, List.set_cons_zero, List.set_cons_succ]
    refine take_r (i := 50) (v := ?_) rfl (by kernel_rfl) (by kernel_rfl) (by kernel_rfl) (fun _ _ _ h => h) (Or.inl ⟨by rfl, ?_⟩) trivial ?_
    rotate_left
    · (intro wS hSw; (try dsimp only at hSw); go_simp; (try with_reducible rfl))
    try simp only [Act.put, List.setIfInBounds_toArray, List.set_cons_zero, List.set_cons_succ]
    refine wpAnyH_ready (rs := [49]) (by kernel_rfl) (by simp) ?_
    refine ready_r rfl (fun K hK => ?_)
    go_simp
    go_wp2_with (go_at_call 49; refine (Z2.out _).mono ?_; rintro r w11 ⟨rfl, rfl⟩)
    refine hK.out _ _ trivial (fun _ => ?_)
    clear hK K
    refine wpAnyH_ready (rs := [51]) (by kernel_rfl) (by simp) ?_
    refine ready_r rfl (fun K hK => ?_)
    go_simp
    go_wp2_with (go_at_call 45; refine (R2.out _).mono ?_; rintro r w12 ⟨v12, rfl, hR12, hb12⟩; have hb13 := hb10.trans (hb12.mono hb10.size); obtain ⟨A12, c12, rfl, -, -, -⟩ := own_slice hR12; clear hR12 hb12)
    refine hK.out _ _ trivial (fun _ => ?_)
    clear hK K
    rw [L2.out]
    refine take_r (i := 52) (v := ?_) rfl (by kernel_rfl) (by kernel_rfl) (by kernel_rfl) (fun _ _ _ h => h) (Or.inl ⟨by rfl, ?_⟩) trivial ?_
    rotate_left
    · (intro wS hSw; (try dsimp only at hSw); go_simp; (try with_reducible rfl))
    try simp only [Act.put, List.setIfInBounds_toArray, List.set_cons_zero, List.set_cons_succ]
    refine take_r (i := 53) (v := ?_) rfl (by kernel_rfl) (by kernel_rfl) (by kernel_rfl) (fun _ _ _ h => h) (Or.inl ⟨by rfl, ?_⟩) trivial ?_
    rotate_left
    · (intro wS hSw; (try dsimp only at hSw); go_simp; (try with_reducible rfl))
    try simp only [Act.put, List.setIfInBounds_toArray, List.set_cons_zero, List.set_cons_succ]
    refine take_r (i := 54) (v := ?_) rfl (by kernel_rfl) (by kernel_rfl) (by kernel_rfl) (fun _ _ _ h => h) (Or.inl ⟨by rfl, ?_⟩) trivial ?_
    rotate_left
    · (intro wS hSw; (try dsimp only at hSw); go_simp; (try with_reducible rfl))
    try simp only [Act.put, List.setIfInBounds_toArray, List.set_cons_zero, List.set_cons_succ]
    refine take_r (i := 55) (v := ?_) rfl (by kernel_rfl) (by kernel_rfl) (by kernel_rfl) (fun _ _ _ h => h) (Or.inl ⟨by rfl, ?_⟩) trivial ?_
    rotate_left
    · (intro wS hSw; (try dsimp only at hSw); go_simp; (try with_reducible rfl))
    try simp only [Act.put, List.setIfInBounds_toArray, List.set_cons_zero, List.set_cons_succ]
    refine wpAnyH_ready (rs := [56]) (by kernel_rfl) (by simp) ?_
    refine ready_r rfl (fun K hK => ?_)
    go_simp
    go_wp2_with (go_at_call 37; refine (hW.out _).mono ?_; rintro r w14 ⟨rfl, hb14⟩; have hb15 := hb13.trans (hb14.mono hb13.size))
    refine hK.out _ _ trivial (fun _ => ?_)
    clear hK K
    refine take_r (i := 57) (v := ?_) rfl (by kernel_rfl) (by kernel_rfl) (by kernel_rfl) (fun _ _ _ h => h) (Or.inl ⟨by rfl, ?_⟩) trivial ?_
    rotate_left
    · (intro wS hSw; (try dsimp only at hSw); go_simp; (try with_reducible rfl))
    try simp only [Act.put, List.setIfInBounds_toArray, List.set_cons_zero, List.set_cons_succ]
    refine take_r (i := 58) (v := ?_) rfl (by kernel_rfl) (by kernel_rfl) (by kernel_rfl) (fun _ _ _ h => h) (Or.inl ⟨by rfl, ?_⟩) trivial ?_
    rotate_left
    · (intro wS hSw; (try dsimp only at hSw); go_simp; (try with_reducible rfl))
    try simp only [Act.put, List.setIfInBounds_toArray, List.set_cons_zero, List.set_cons_succ]
    refine wpAnyH_done (by kernel_rfl) ?_ _
    go_wp2
    go_ret
    exact ⟨rfl, hb15⟩

end Go.Proofs.Ytkabefjppdklgaa
