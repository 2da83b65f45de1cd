/-
  The walk of LebReads: which number any bytes are, where the cursor stands then, or why it refuses, is as the document has it.
-/
import Derived.Test.YtkabefjppdklgaaRefS
import Derived.Test.YtkabefjppdklgaaLebW
import Derived.Test.YtkabefjppdklgaaLebJ
import Derived.Test.YtkabefjppdklgaaUntil
import Derived.Test.YtkabefjppdklgaaRoundRegion
namespace Go.Proofs.Ytkabefjppdklgaa
open Go Go.RowKit

/-- The two cursors of the law, behind a step of each. -/
structure Two (B : Nat) (w W : World) (g : Nat) (v : Value) (gr : Nat) (u : Value) (l : List UInt8) (a : Nat) (e : Int) (a' : Nat) (e' : Int) : Prop where
  c : Cur W g v l a e
  r : RR B W gr u l a' e'
  below : Below B w W
  hg : B ≤ g
  hw : B ≤ w.heap.size

theorem Two.make {w w1 : World} {g : Nat} {v : Value} {l : List UInt8} {A : Option Addr} {cap : Nat} (hb : Below w.heap.size w w1) (hM : Made w.heap.size w1 g v l 0) (hr : Rd w w.heap.size A l) (hlc : l.length ≤ cap) (hcm : cap ≤ maxLen) :
    Two w.heap.size w (w1.alloc (.cells #[.slice A l.length cap, .int .i64 0, .int .i64 0] 29)) g v w1.heap.size (.slice A l.length cap) l 0 0 0 0 :=
  have h1 : Below w1.heap.size w1 (w1.alloc (.cells #[.slice A l.length cap, .int .i64 0, .int .i64 0] 29)) := (Below.refl _ _).alloc (Nat.le_refl _) _
  ⟨hM.1.below h1, ⟨by simpa using Box.new w1 29 #[.slice A l.length cap, .int .i64 0, .int .i64 0], ⟨A, cap, rfl, hlc, hcm, hr.below (hb.trans (h1.mono hb.size))⟩, Nat.zero_le _, hb.size⟩, hb.trans (h1.mono hb.size), hM.2.1, Nat.le_refl _⟩

section
variable {B : Nat} {w W W' : World} {g : Nat} {v : Value} {gr : Nat} {u : Value} {l : List UInt8} {a a' b : Nat} {e e' f : Int}
theorem Two.drew (h : Two B w W g v gr u l a e a' e') : Two B w W.drew g v gr u l a e a' e' := ⟨h.c, h.r, h.below.drew, h.hg, h.hw⟩
theorem Two.stepC (h : Two B w W g v gr u l a e a' e') (hC : Cur W' g v l b f) (hG : W.grownBy W' (some g)) : Two B w W' g v gr u l b f a' e' :=
  ⟨hC, h.r.grown hG (by have := h.r.1.other h.c.1 (by decide); simpa using this) (fun x hx => by cases hx; exact h.hg), h.below.trans (below_of_only hG (Nat.le_trans h.hw h.below.size) (fun x hx => by cases hx; exact h.hg)), h.hg, h.hw⟩
theorem Two.stepR (h : Two B w W g v gr u l a e a' e') (hR : RR B W' gr u l b f) (hG : W.grownBy W' (some gr)) : Two B w W' g v gr u l a e b f :=
  ⟨h.c.behind h.r.1 hG, hR, h.below.trans (below_of_only hG (Nat.le_trans h.hw h.below.size) (fun x hx => by cases hx; exact h.r.2.2.2)), h.hg, h.hw⟩
end

set_option linter.unusedSimpArgs false
attribute [local go_sem ↓] Go.wp_at_zero Go.wp_at_succ

set_option maxRecDepth 20000 in
set_option maxHeartbeats 8000000 in
theorem lreads_walk (a0 : Option Addr) (len0 cap0 : Nat) (z0 : List Int) (w : World) (w0 : IsRow .u8 w a0 len0 cap0 z0) :
    Calls Try.prog 9 #[.slice a0 len0 cap0] w fun e w' => e = .returned (.bool true) ∧ Below w.heap.size w w' := by
  obtain ⟨l, hlen, hrd, hlc, hcm⟩ := row_bytes w0
  clear w0
  by_cases hbig : 2000 < len0
  · have hd : decide ((2000 : Int) < (len0 : Int)) = true := by simp; omega
    have hW := works2_any w
    go_enter Try.func9, Try.ntmps9
    go_wp2_with (go_at_call 37; refine hW.mono ?_; rintro r w1 ⟨rfl, hb1⟩)
    go_ret
    exact ⟨rfl, hb1⟩
  · have hd : decide ((2000 : Int) < (len0 : Int)) = false := by simp; omega
    have hl : l.length ≤ 140737488355328 := by omega
    have HN := Lib.hid (fun W (hW : Below w.heap.size w W) => new_arg (cap := cap0) hlen hrd hW hl)
    have HM := Lib.hid (fun (W w1 : World) (g : Nat) (v : Value) (hb : Below w.heap.size w w1) (hM : Made w.heap.size w1 g v l 0) => (by have := Two.make hb hM hrd (by omega : l.length ≤ cap0) hcm; rwa [hlen] at this : Two w.heap.size w (w1.alloc (.cells #[.slice a0 len0 cap0, .int .i64 0, .int .i64 0] 29)) g v w1.heap.size (.slice a0 len0 cap0) l 0 0 0 0))
    obtain ⟨⟨xu, pu, eu⟩, hu⟩ : ∃ t, uOf l 0 = t := ⟨_, rfl⟩
    obtain ⟨⟨xs, ps, es⟩, hs⟩ : ∃ t, sOf l 0 = t := ⟨_, rfl⟩
    have HU := Lib.hid (fun W g v (h : Cur W g v l 0 0) => (by have := u_cur h hl; rw [List.drop_zero, hu] at this; simpa using this : Calls Try.prog 38 #[.pointer (some ⟨g, 0, none⟩)] W fun x w' => x = .returned (.int .u64 (xu : Int)) ∧ Cur w' g v l pu eu ∧ W.grownBy w' (some g)))
    have HS := Lib.hid (fun W g v (h : Cur W g v l 0 0) => (by have := s_cur h hl; rw [List.drop_zero, hs] at this; simpa using this : Calls Try.prog 40 #[.pointer (some ⟨g, 0, none⟩)] W fun x w' => x = .returned (.int .i64 xs) ∧ Cur w' g v l ps es ∧ W.grownBy w' (some g)))
    have QU := Lib.hid (fun W g v (h : RR w.heap.size W g v l 0 0) => (by have := rU_ok h hl; rw [List.drop_zero, hu] at this; simpa using this : Calls Try.prog 39 #[.pointer (some ⟨g, 0, none⟩)] W fun x w' => x = .returned (.int .u64 (xu : Int)) ∧ RR w.heap.size w' g v l pu eu ∧ W.grownBy w' (some g)))
    have QS := Lib.hid (fun W g v (h : RR w.heap.size W g v l 0 0) => (by have := rS_ok h hl; rw [List.drop_zero, hs] at this; simpa using this : Calls Try.prog 41 #[.pointer (some ⟨g, 0, none⟩)] W fun x w' => x = .returned (.int .i64 xs) ∧ RR w.heap.size w' g v l ps es ∧ W.grownBy w' (some g)))
    have hW := Lib.hid works2_any
    clear hlen hrd hlc hcm hl hu hs hbig
    go_enter Try.func9, Try.ntmps9
    go_wp2_with (go_at_call 15; refine (HN.out _ (Below.refl _ _)).mono ?_; rintro r w1 ⟨g, v, rfl, hM, hb1⟩)
    have T0 := Lib.hid (HM.out w w1 g v hb1 hM).drew
    clear hM hb1
    refine region_any (by kernel_rfl) ?_
    refine wpAny_of_until (S := fun _ => True) (p := 22) _ _ _ _ ?_
    have hHeld := trivial
    refine take_u (i := 0) (v := ?_) [1, 4, 5, 13, 14, 22] rfl (by kernel_rfl) (by kernel_rfl) (by kernel_rfl) (by kernel_rfl) (by kernel_rfl) (by kernel_rfl) (by kernel_rfl) (fun _ _ _ h => h) (Or.inl ⟨by rfl, ?_⟩) hHeld ?_
    rotate_left
    · (intro wS hSw; (try dsimp only at hSw); go_simp; (try with_reducible rfl))
    try simp only [Act.put, List.setIfInBounds_toArray, List.set_cons_zero, List.set_cons_succ]
    refine take_u (i := 2) (v := ?_) [3, 4, 5, 13, 14, 22] rfl (by kernel_rfl) (by kernel_rfl) (by kernel_rfl) (by kernel_rfl) (by kernel_rfl) (by kernel_rfl) (by kernel_rfl) (fun _ _ _ h => h) (Or.inl ⟨by rfl, ?_⟩) hHeld ?_
    rotate_left
    · (intro wS hSw; (try dsimp only at hSw); go_simp; (try with_reducible rfl))
    try simp only [Act.put, List.setIfInBounds_toArray, List.set_cons_zero, List.set_cons_succ]
    refine ready_u (i := 1) (by kernel_rfl) rfl (by kernel_rfl) (fun K hK => ?_)
    go_simp
    go_wp2_with (go_at_call 38; refine (HU.out _ _ _ T0.out.c).mono ?_; rintro r wa1 ⟨rfl, hCa1, hGa1⟩; have Ta1 := Lib.hid (T0.out.stepC hCa1 hGa1); clear hCa1 hGa1)
    refine hK.out _ _ ?_ (fun hNew => ?_)
    · exact trivial
    clear hHeld hK K
    have hHeld := hNew
    clear hNew
    refine ready_u (i := 3) (by kernel_rfl) rfl (by kernel_rfl) (fun K hK => ?_)
    go_simp
    go_wp2_with (go_at_call 39; refine (QU.out _ _ _ Ta1.out.r).mono ?_; rintro r wb1 ⟨rfl, hCb1, hGb1⟩; have Tb1 := Lib.hid (Ta1.out.stepR hCb1 hGb1); clear hCb1 hGb1)
    refine hK.out _ _ ?_ (fun hNew => ?_)
    · exact trivial
    clear hHeld hK K
    have hHeld := hNew
    clear hNew
    refine until_turn (S' := fun W => W.cell? ⟨w1.heap.size, 1, none⟩ = some (.int .i64 (pu : Int)) ∧ W.cell? ⟨w1.heap.size, 2, none⟩ = some (.int .i64 eu)) (fun _ _ => trivial) _ _ _ _ ?_
    have hTurn := And.intro (cell_at Tb1.out.r) (cell_e Tb1.out.r)
    clear hHeld
    have hHeld := hTurn
    clear hTurn
    refine take_u (i := 4) (v := ?_) [5, 13, 14, 22] rfl (by kernel_rfl) (by kernel_rfl) (by kernel_rfl) (by kernel_rfl) (by kernel_rfl) (by kernel_rfl) (by kernel_rfl) (fun _ _ _ h => h) (Or.inl ⟨by rfl, ?_⟩) hHeld ?_
    rotate_left
    · (intro wS hSw; (try dsimp only at hSw); go_simp; (try with_reducible rfl))
    try simp only [Act.put, List.setIfInBounds_toArray, List.set_cons_zero, List.set_cons_succ]
    refine take_u (i := 5) (v := ?_) [13, 14, 22] rfl (by kernel_rfl) (by kernel_rfl) (by kernel_rfl) (by kernel_rfl) (by kernel_rfl) (by kernel_rfl) (by kernel_rfl) (fun _ _ _ h => h) (Or.inl ⟨by rfl, ?_⟩) hHeld ?_
    rotate_left
    · (intro wS hSw; (try dsimp only at hSw); go_simp; (try with_reducible rfl))
    try simp only [Act.put, List.setIfInBounds_toArray, List.set_cons_zero, List.set_cons_succ]
    refine take_u (i := 6) (v := ?_) [7, 12, 13, 14, 22] rfl (by kernel_rfl) (by kernel_rfl) (by kernel_rfl) (by kernel_rfl) (by kernel_rfl) (by kernel_rfl) (by kernel_rfl) (fun _ _ _ h => h) (Or.inl ⟨by rfl, ?_⟩) hHeld ?_
    rotate_left
    · (intro wS hSw; (try dsimp only at hSw); go_simp; (try with_reducible rfl))
    try simp only [Act.put, List.setIfInBounds_toArray, List.set_cons_zero, List.set_cons_succ]
    refine take_u (i := 8) (v := ?_) [9, 10, 11, 12, 13, 14, 22] rfl (by kernel_rfl) (by kernel_rfl) (by kernel_rfl) (by kernel_rfl) (by kernel_rfl) (by kernel_rfl) (by kernel_rfl) (fun _ _ _ h => h) (Or.inl ⟨by rfl, ?_⟩) hHeld ?_
    rotate_left
    · (intro wS hSw; (try dsimp only at hSw); go_simp; (try with_reducible rfl))
    try simp only [Act.put, List.setIfInBounds_toArray, List.set_cons_zero, List.set_cons_succ]
    refine take_u (i := 9) (v := ?_) [10, 11, 12, 13, 14, 22] rfl (by kernel_rfl) (by kernel_rfl) (by kernel_rfl) (by kernel_rfl) (by kernel_rfl) (by kernel_rfl) (by kernel_rfl) (fun _ _ _ h => h) (Or.inl ⟨by rfl, ?_⟩) hHeld ?_
    rotate_left
    · (intro wS hSw; (try dsimp only at hSw); go_simp; (try with_reducible rfl))
    try simp only [Act.put, List.setIfInBounds_toArray, List.set_cons_zero, List.set_cons_succ]
    refine take_u (i := 10) (v := ?_) [11, 12, 13, 14, 22] rfl (by kernel_rfl) (by kernel_rfl) (by kernel_rfl) (by kernel_rfl) (by kernel_rfl) (by kernel_rfl) (by kernel_rfl) (fun _ _ _ h => h) (Or.inl ⟨by rfl, ?_⟩) hHeld ?_
    rotate_left
    · (intro wS hSw; (try dsimp only at hSw); go_simp; (try with_reducible rfl))
    try simp only [Act.put, List.setIfInBounds_toArray, List.set_cons_zero, List.set_cons_succ]
    refine take_u (i := 11) (v := ?_) [12, 13, 14, 22] rfl (by kernel_rfl) (by kernel_rfl) (by kernel_rfl) (by kernel_rfl) (by kernel_rfl) (by kernel_rfl) (by kernel_rfl) (fun _ _ _ h => h) (Or.inl ⟨by rfl, ?_⟩) hHeld ?_
    rotate_left
    · (intro wS hSw; (try dsimp only at hSw); go_simp; (try with_reducible rfl))
    try simp only [Act.put, List.setIfInBounds_toArray, List.set_cons_zero, List.set_cons_succ]
    refine ready_u (i := 7) (by kernel_rfl) rfl (by kernel_rfl) (fun K hK => ?_)
    go_simp
    go_wp2_with (go_at_call 17; refine (at_cur Tb1.out.c).mono ?_; rintro r wc1 ⟨rfl, rfl⟩)
    refine hK.out _ _ ?_ (fun hNew => ?_)
    · exact hHeld
    clear hHeld hK K
    have hHeld := hNew
    clear hNew
    refine take_u (i := 12) (v := ?_) [13, 14, 22] rfl (by kernel_rfl) (by kernel_rfl) (by kernel_rfl) (by kernel_rfl) (by kernel_rfl) (by kernel_rfl) (by kernel_rfl) (fun _ _ _ h => h) (Or.inl ⟨by rfl, ?_⟩) hHeld ?_
    rotate_left
    · (intro wS hSw; (try dsimp only at hSw); go_simp; (try with_reducible rfl))
    try simp only [Act.put, List.setIfInBounds_toArray, List.set_cons_zero, List.set_cons_succ]
    refine take_u (i := 13) (v := ?_) [14, 22] rfl (by kernel_rfl) (by kernel_rfl) (by kernel_rfl) (by kernel_rfl) (by kernel_rfl) (by kernel_rfl) (by kernel_rfl) (fun _ _ _ h => h) (Or.inl ⟨by rfl, ?_⟩) hHeld ?_
    rotate_left
    · (intro wS hSw; (try dsimp only at hSw); go_simp; (try with_reducible rfl))
    try simp only [Act.put, List.setIfInBounds_toArray, List.set_cons_zero, List.set_cons_succ]
    refine take_u (i := 14) (v := ?_) [22] rfl (by kernel_rfl) (by kernel_rfl) (by kernel_rfl) (by kernel_rfl) (by kernel_rfl) (by kernel_rfl) (by kernel_rfl) (fun _ _ _ h => h) (Or.inl ⟨by rfl, ?_⟩) hHeld ?_
    rotate_left
    · (intro wS hSw; (try dsimp only at hSw); go_simp; (try with_reducible rfl))
    try simp only [Act.put, List.setIfInBounds_toArray, List.set_cons_zero, List.set_cons_succ]
    refine take_u (i := 15) (v := ?_) [16, 21, 22] rfl (by kernel_rfl) (by kernel_rfl) (by kernel_rfl) (by kernel_rfl) (by kernel_rfl) (by kernel_rfl) (by kernel_rfl) (fun _ _ _ h => h) (Or.inl ⟨by rfl, ?_⟩) hHeld ?_
    rotate_left
    · (intro wS hSw; (try dsimp only at hSw); go_simp; (try with_reducible rfl))
    try simp only [Act.put, List.setIfInBounds_toArray, List.set_cons_zero, List.set_cons_succ]
    refine take_u (i := 17) (v := ?_) [18, 19, 20, 21, 22] rfl (by kernel_rfl) (by kernel_rfl) (by kernel_rfl) (by kernel_rfl) (by kernel_rfl) (by kernel_rfl) (by kernel_rfl) (fun _ _ _ h => h) (Or.inl ⟨by rfl, ?_⟩) hHeld ?_
    rotate_left
    · (intro wS hSw; (try dsimp only at hSw); go_simp; (try with_reducible rfl))
    try simp only [Act.put, List.setIfInBounds_toArray, List.set_cons_zero, List.set_cons_succ]
    refine take_u (i := 18) (v := ?_) [19, 20, 21, 22] rfl (by kernel_rfl) (by kernel_rfl) (by kernel_rfl) (by kernel_rfl) (by kernel_rfl) (by kernel_rfl) (by kernel_rfl) (fun _ _ _ h => h) (Or.inl ⟨by rfl, ?_⟩) hHeld ?_
    rotate_left
    · (intro wS hSw; (try dsimp only at hSw); go_simp; (try with_reducible rfl))
    try simp only [Act.put, List.setIfInBounds_toArray, List.set_cons_zero, List.set_cons_succ]
    refine take_u (i := 19) (v := ?_) [20, 21, 22] rfl (by kernel_rfl) (by kernel_rfl) (by kernel_rfl) (by kernel_rfl) (by kernel_rfl) (by kernel_rfl) (by kernel_rfl) (fun _ _ _ h => h) (Or.inl ⟨by rfl, ?_⟩) hHeld ?_
    rotate_left
    · (intro wS hSw; (try dsimp only at hSw); go_simp; (try with_reducible rfl))
    try simp only [Act.put, List.setIfInBounds_toArray, List.set_cons_zero, List.set_cons_succ]
    refine take_u (i := 20) (v := ?_) [21, 22] rfl (by kernel_rfl) (by kernel_rfl) (by kernel_rfl) (by kernel_rfl) (by kernel_rfl) (by kernel_rfl) (by kernel_rfl) (fun _ _ _ h => h) (Or.inl ⟨by rfl, ?_⟩) hHeld ?_
    rotate_left
    · (intro wS hSw; (try dsimp only at hSw); go_simp; (try with_reducible rfl))
    try simp only [Act.put, List.setIfInBounds_toArray, List.set_cons_zero, List.set_cons_succ]
    refine ready_u (i := 16) (by kernel_rfl) rfl (by kernel_rfl) (fun K hK => ?_)
    go_simp
    go_wp2_with (go_at_call 20; refine (err_cur Tb1.out.c).mono ?_; rintro r wd1 ⟨rfl, rfl⟩)
    refine hK.out _ _ ?_ (fun hNew => ?_)
    · exact hHeld
    clear hHeld hK K
    have hHeld := hNew
    clear hNew
    refine take_u (i := 21) (v := ?_) [22] rfl (by kernel_rfl) (by kernel_rfl) (by kernel_rfl) (by kernel_rfl) (by kernel_rfl) (by kernel_rfl) (by kernel_rfl) (fun _ _ _ h => h) (Or.inl ⟨by rfl, ?_⟩) hHeld ?_
    rotate_left
    · (intro wS hSw; (try dsimp only at hSw); go_simp; (try with_reducible rfl))
    try simp only [Act.put, List.setIfInBounds_toArray, List.set_cons_zero, List.set_cons_succ]
    refine end_u (by kernel_rfl) rfl (fun K hK => ?_)
    go_simp
    refine hK.out _ _ ?_
    clear hHeld hK K
    refine wpAny_of_held (S := fun _ => True) _ _ _ _ ?_
    refine wpAnyH_done (by kernel_rfl) ?_ _
    have hb2 := Tb1.out.below
    go_wp2_with (go_at_call 15; refine (HN.out _ hb2).mono ?_; rintro r w3 ⟨g3, v3, rfl, hM3, hb3⟩; have hb4 := hb2.trans (hb3.mono hb2.size); have hM4 := made_up hb2.size hM3; clear hM3)
    have T1 := Lib.hid (HM.out w w3 g3 v3 hb4 hM4).drew
    clear hM4 hb3
    refine region_any (by kernel_rfl) ?_
    refine wpAny_of_until (S := fun _ => True) (p := 22) _ _ _ _ ?_
    have hHeld := trivial
    refine take_u (i := 0) (v := ?_) [1, 4, 5, 13, 14, 22] rfl (by kernel_rfl) (by kernel_rfl) (by kernel_rfl) (by kernel_rfl) (by kernel_rfl) (by kernel_rfl) (by kernel_rfl) (fun _ _ _ h => h) (Or.inl ⟨by rfl, ?_⟩) hHeld ?_
    rotate_left
    · (intro wS hSw; (try dsimp only at hSw); go_simp; (try with_reducible rfl))
    try simp only [Act.put, List.setIfInBounds_toArray, List.set_cons_zero, List.set_cons_succ]
    refine take_u (i := 2) (v := ?_) [3, 4, 5, 13, 14, 22] rfl (by kernel_rfl) (by kernel_rfl) (by kernel_rfl) (by kernel_rfl) (by kernel_rfl) (by kernel_rfl) (by kernel_rfl) (fun _ _ _ h => h) (Or.inl ⟨by rfl, ?_⟩) hHeld ?_
    rotate_left
    · (intro wS hSw; (try dsimp only at hSw); go_simp; (try with_reducible rfl))
    try simp only [Act.put, List.setIfInBounds_toArray, List.set_cons_zero, List.set_cons_succ]
    refine ready_u (i := 1) (by kernel_rfl) rfl (by kernel_rfl) (fun K hK => ?_)
    go_simp
    go_wp2_with (go_at_call 40; refine (HS.out _ _ _ T1.out.c).mono ?_; rintro r wa2 ⟨rfl, hCa2, hGa2⟩; have Ta2 := Lib.hid (T1.out.stepC hCa2 hGa2); clear hCa2 hGa2)
    refine hK.out _ _ ?_ (fun hNew => ?_)
    · exact trivial
    clear hHeld hK K
    have hHeld := hNew
    clear hNew
    refine ready_u (i := 3) (by kernel_rfl) rfl (by kernel_rfl) (fun K hK => ?_)
    go_simp
    go_wp2_with (go_at_call 41; refine (QS.out _ _ _ Ta2.out.r).mono ?_; rintro r wb2 ⟨rfl, hCb2, hGb2⟩; have Tb2 := Lib.hid (Ta2.out.stepR hCb2 hGb2); clear hCb2 hGb2)
    refine hK.out _ _ ?_ (fun hNew => ?_)
    · exact trivial
    clear hHeld hK K
    have hHeld := hNew
    clear hNew
    refine until_turn (S' := fun W => W.cell? ⟨w3.heap.size, 1, none⟩ = some (.int .i64 (ps : Int)) ∧ W.cell? ⟨w3.heap.size, 2, none⟩ = some (.int .i64 es)) (fun _ _ => trivial) _ _ _ _ ?_
    have hTurn := And.intro (cell_at Tb2.out.r) (cell_e Tb2.out.r)
    clear hHeld
    have hHeld := hTurn
    clear hTurn
    refine take_u (i := 4) (v := ?_) [5, 13, 14, 22] rfl (by kernel_rfl) (by kernel_rfl) (by kernel_rfl) (by kernel_rfl) (by kernel_rfl) (by kernel_rfl) (by kernel_rfl) (fun _ _ _ h => h) (Or.inl ⟨by rfl, ?_⟩) hHeld ?_
    rotate_left
    · (intro wS hSw; (try dsimp only at hSw); go_simp; (try with_reducible rfl))
    try simp only [Act.put, List.setIfInBounds_toArray, List.set_cons_zero, List.set_cons_succ]
    refine take_u (i := 5) (v := ?_) [13, 14, 22] rfl (by kernel_rfl) (by kernel_rfl) (by kernel_rfl) (by kernel_rfl) (by kernel_rfl) (by kernel_rfl) (by kernel_rfl) (fun _ _ _ h => h) (Or.inl ⟨by rfl, ?_⟩) hHeld ?_
    rotate_left
    · (intro wS hSw; (try dsimp only at hSw); go_simp; (try with_reducible rfl))
    try simp only [Act.put, List.setIfInBounds_toArray, List.set_cons_zero, List.set_cons_succ]
    refine take_u (i := 6) (v := ?_) [7, 12, 13, 14, 22] rfl (by kernel_rfl) (by kernel_rfl) (by kernel_rfl) (by kernel_rfl) (by kernel_rfl) (by kernel_rfl) (by kernel_rfl) (fun _ _ _ h => h) (Or.inl ⟨by rfl, ?_⟩) hHeld ?_
    rotate_left
    · (intro wS hSw; (try dsimp only at hSw); go_simp; (try with_reducible rfl))
    try simp only [Act.put, List.setIfInBounds_toArray, List.set_cons_zero, List.set_cons_succ]
    refine take_u (i := 8) (v := ?_) [9, 10, 11, 12, 13, 14, 22] rfl (by kernel_rfl) (by kernel_rfl) (by kernel_rfl) (by kernel_rfl) (by kernel_rfl) (by kernel_rfl) (by kernel_rfl) (fun _ _ _ h => h) (Or.inl ⟨by rfl, ?_⟩) hHeld ?_
    rotate_left
    · (intro wS hSw; (try dsimp only at hSw); go_simp; (try with_reducible rfl))
    try simp only [Act.put, List.setIfInBounds_toArray, List.set_cons_zero, List.set_cons_succ]
    refine take_u (i := 9) (v := ?_) [10, 11, 12, 13, 14, 22] rfl (by kernel_rfl) (by kernel_rfl) (by kernel_rfl) (by kernel_rfl) (by kernel_rfl) (by kernel_rfl) (by kernel_rfl) (fun _ _ _ h => h) (Or.inl ⟨by rfl, ?_⟩) hHeld ?_
    rotate_left
    · (intro wS hSw; (try dsimp only at hSw); go_simp; (try with_reducible rfl))
    try simp only [Act.put, List.setIfInBounds_toArray, List.set_cons_zero, List.set_cons_succ]
    refine take_u (i := 10) (v := ?_) [11, 12, 13, 14, 22] rfl (by kernel_rfl) (by kernel_rfl) (by kernel_rfl) (by kernel_rfl) (by kernel_rfl) (by kernel_rfl) (by kernel_rfl) (fun _ _ _ h => h) (Or.inl ⟨by rfl, ?_⟩) hHeld ?_
    rotate_left
    · (intro wS hSw; (try dsimp only at hSw); go_simp; (try with_reducible rfl))
    try simp only [Act.put, List.setIfInBounds_toArray, List.set_cons_zero, List.set_cons_succ]
    refine take_u (i := 11) (v := ?_) [12, 13, 14, 22] rfl (by kernel_rfl) (by kernel_rfl) (by kernel_rfl) (by kernel_rfl) (by kernel_rfl) (by kernel_rfl) (by kernel_rfl) (fun _ _ _ h => h) (Or.inl ⟨by rfl, ?_⟩) hHeld ?_
    rotate_left
    · (intro wS hSw; (try dsimp only at hSw); go_simp; (try with_reducible rfl))
    try simp only [Act.put, List.setIfInBounds_toArray, List.set_cons_zero, List.set_cons_succ]
    refine ready_u (i := 7) (by kernel_rfl) rfl (by kernel_rfl) (fun K hK => ?_)
    go_simp
    go_wp2_with (go_at_call 17; refine (at_cur Tb2.out.c).mono ?_; rintro r wc2 ⟨rfl, rfl⟩)
    refine hK.out _ _ ?_ (fun hNew => ?_)
    · exact hHeld
    clear hHeld hK K
    have hHeld := hNew
    clear hNew
    refine take_u (i := 12) (v := ?_) [13, 14, 22] rfl (by kernel_rfl) (by kernel_rfl) (by kernel_rfl) (by kernel_rfl) (by kernel_rfl) (by kernel_rfl) (by kernel_rfl) (fun _ _ _ h => h) (Or.inl ⟨by rfl, ?_⟩) hHeld ?_
    rotate_left
    · (intro wS hSw; (try dsimp only at hSw); go_simp; (try with_reducible rfl))
    try simp only [Act.put, List.setIfInBounds_toArray, List.set_cons_zero, List.set_cons_succ]
    refine take_u (i := 13) (v := ?_) [14, 22] rfl (by kernel_rfl) (by kernel_rfl) (by kernel_rfl) (by kernel_rfl) (by kernel_rfl) (by kernel_rfl) (by kernel_rfl) (fun _ _ _ h => h) (Or.inl ⟨by rfl, ?_⟩) hHeld ?_
    rotate_left
    · (intro wS hSw; (try dsimp only at hSw); go_simp; (try with_reducible rfl))
    try simp only [Act.put, List.setIfInBounds_toArray, List.set_cons_zero, List.set_cons_succ]
    refine take_u (i := 14) (v := ?_) [22] rfl (by kernel_rfl) (by kernel_rfl) (by kernel_rfl) (by kernel_rfl) (by kernel_rfl) (by kernel_rfl) (by kernel_rfl) (fun _ _ _ h => h) (Or.inl ⟨by rfl, ?_⟩) hHeld ?_
    rotate_left
    · (intro wS hSw; (try dsimp only at hSw); go_simp; (try with_reducible rfl))
    try simp only [Act.put, List.setIfInBounds_toArray, List.set_cons_zero, List.set_cons_succ]
    refine take_u (i := 15) (v := ?_) [16, 21, 22] rfl (by kernel_rfl) (by kernel_rfl) (by kernel_rfl) (by kernel_rfl) (by kernel_rfl) (by kernel_rfl) (by kernel_rfl) (fun _ _ _ h => h) (Or.inl ⟨by rfl, ?_⟩) hHeld ?_
    rotate_left
    · (intro wS hSw; (try dsimp only at hSw); go_simp; (try with_reducible rfl))
    try simp only [Act.put, List.setIfInBounds_toArray, List.set_cons_zero, List.set_cons_succ]
    refine take_u (i := 17) (v := ?_) [18, 19, 20, 21, 22] rfl (by kernel_rfl) (by kernel_rfl) (by kernel_rfl) (by kernel_rfl) (by kernel_rfl) (by kernel_rfl) (by kernel_rfl) (fun _ _ _ h => h) (Or.inl ⟨by rfl, ?_⟩) hHeld ?_
    rotate_left
    · (intro wS hSw; (try dsimp only at hSw); go_simp; (try with_reducible rfl))
    try simp only [Act.put, List.setIfInBounds_toArray, List.set_cons_zero, List.set_cons_succ]
    refine take_u (i := 18) (v := ?_) [19, 20, 21, 22] rfl (by kernel_rfl) (by kernel_rfl) (by kernel_rfl) (by kernel_rfl) (by kernel_rfl) (by kernel_rfl) (by kernel_rfl) (fun _ _ _ h => h) (Or.inl ⟨by rfl, ?_⟩) hHeld ?_
    rotate_left
    · (intro wS hSw; (try dsimp only at hSw); go_simp; (try with_reducible rfl))
    try simp only [Act.put, List.setIfInBounds_toArray, List.set_cons_zero, List.set_cons_succ]
    refine take_u (i := 19) (v := ?_) [20, 21, 22] rfl (by kernel_rfl) (by kernel_rfl) (by kernel_rfl) (by kernel_rfl) (by kernel_rfl) (by kernel_rfl) (by kernel_rfl) (fun _ _ _ h => h) (Or.inl ⟨by rfl, ?_⟩) hHeld ?_
    rotate_left
    · (intro wS hSw; (try dsimp only at hSw); go_simp; (try with_reducible rfl))
    try simp only [Act.put, List.setIfInBounds_toArray, List.set_cons_zero, List.set_cons_succ]
    refine take_u (i := 20) (v := ?_) [21, 22] rfl (by kernel_rfl) (by kernel_rfl) (by kernel_rfl) (by kernel_rfl) (by kernel_rfl) (by kernel_rfl) (by kernel_rfl) (fun _ _ _ h => h) (Or.inl ⟨by rfl, ?_⟩) hHeld ?_
    rotate_left
    · (intro wS hSw; (try dsimp only at hSw); go_simp; (try with_reducible rfl))
    try simp only [Act.put, List.setIfInBounds_toArray, List.set_cons_zero, List.set_cons_succ]
    refine ready_u (i := 16) (by kernel_rfl) rfl (by kernel_rfl) (fun K hK => ?_)
    go_simp
    go_wp2_with (go_at_call 20; refine (err_cur Tb2.out.c).mono ?_; rintro r wd2 ⟨rfl, rfl⟩)
    refine hK.out _ _ ?_ (fun hNew => ?_)
    · exact hHeld
    clear hHeld hK K
    have hHeld := hNew
    clear hNew
    refine take_u (i := 21) (v := ?_) [22] rfl (by kernel_rfl) (by kernel_rfl) (by kernel_rfl) (by kernel_rfl) (by kernel_rfl) (by kernel_rfl) (by kernel_rfl) (fun _ _ _ h => h) (Or.inl ⟨by rfl, ?_⟩) hHeld ?_
    rotate_left
    · (intro wS hSw; (try dsimp only at hSw); go_simp; (try with_reducible rfl))
    try simp only [Act.put, List.setIfInBounds_toArray, List.set_cons_zero, List.set_cons_succ]
    refine end_u (by kernel_rfl) rfl (fun K hK => ?_)
    go_simp
    refine hK.out _ _ ?_
    clear hHeld hK K
    refine wpAny_of_held (S := fun _ => True) _ _ _ _ ?_
    refine take_r (i := 23) (v := ?_) rfl (by kernel_rfl) (by kernel_rfl) (by kernel_rfl) (fun _ _ _ h => h) (Or.inl ⟨by rfl, ?_⟩) trivial ?_
    rotate_left
    · (intro wS hSw; (try dsimp only at hSw); go_simp; (try with_reducible rfl))
    try simp only [Act.put, List.setIfInBounds_toArray, List.set_cons_zero, List.set_cons_succ]
    refine wpAnyH_ready (rs := [24]) (by kernel_rfl) (by simp) ?_
    refine ready_r rfl (fun K hK => ?_)
    go_simp
    go_wp2_with (go_at_call 37; refine (hW.out _).mono ?_; rintro r w9 ⟨rfl, hb9⟩; have hb10 := Tb2.out.below.trans (hb9.mono Tb2.out.below.size))
    refine hK.out _ _ trivial (fun _ => ?_)
    clear hK K
    refine take_r (i := 25) (v := ?_) rfl (by kernel_rfl) (by kernel_rfl) (by kernel_rfl) (fun _ _ _ h => h) (Or.inl ⟨by rfl, ?_⟩) trivial ?_
    rotate_left
    · (intro wS hSw; (try dsimp only at hSw); go_simp; (try with_reducible rfl))
    try simp only [Act.put, List.setIfInBounds_toArray, List.set_cons_zero, List.set_cons_succ]
    refine take_r (i := 26) (v := ?_) rfl (by kernel_rfl) (by kernel_rfl) (by kernel_rfl) (fun _ _ _ h => h) (Or.inl ⟨by rfl, ?_⟩) trivial ?_
    rotate_left
    · (intro wS hSw; (try dsimp only at hSw); go_simp; (try with_reducible rfl))
    try simp only [Act.put, List.setIfInBounds_toArray, List.set_cons_zero, List.set_cons_succ]
    refine wpAnyH_done (by kernel_rfl) ?_ _
    go_wp2
    go_ret
    exact ⟨rfl, hb10⟩

end Go.Proofs.Ytkabefjppdklgaa
