/-
  The walk of CstrTakes: which text stands next, from anywhere on, where the cursor stands then, or why there is none, is as the document has it.
-/
import Derived.Test.YtjhbbclmhnkfhaaCsV
import Derived.Test.YtjhbbclmhnkfhaaUntil
import Derived.Test.YtjhbbclmhnkfhaaRoundRegion
import Derived.Test.YtjhbbclmhnkfhaaLawC
namespace Go.Proofs.Ytjhbbclmhnkfhaa
open Go Go.RowKit

/-- The two cursors of the law, behind a step of each. -/
structure Pair (B : Nat) (w W : World) (g : Nat) (v : Value) (gr : Nat) (u : Value) (l : List UInt8) (a : Nat) (e : Int) (a' : Nat) (e' : Int) : Prop where
  c : Cur W g v l a e
  r : RR B W gr u l a' e'
  below : Below B w W
  hg : B ≤ g
  hw : B ≤ w.heap.size

theorem Pair.make {w w1 : World} {g : Nat} {v : Value} {l : List UInt8} {A : Option Addr} {cap : Nat} (hb : Below w.heap.size w w1) (hM : Made w.heap.size w1 g v l 0) (hr : Rd w w.heap.size A l) (hlc : l.length ≤ cap) (hcm : cap ≤ maxLen) :
    Pair w.heap.size w (w1.alloc (.cells #[.slice A l.length cap, .int .i64 0, .int .i64 0] 29)) g v w1.heap.size (.slice A l.length cap) l 0 0 0 0 :=
  have h1 : Below w1.heap.size w1 (w1.alloc (.cells #[.slice A l.length cap, .int .i64 0, .int .i64 0] 29)) := (Below.refl _ _).alloc (Nat.le_refl _) _
  ⟨hM.1.below h1, ⟨by simpa using Box.new w1 29 #[.slice A l.length cap, .int .i64 0, .int .i64 0], ⟨A, cap, rfl, hlc, hcm, hr.below (hb.trans (h1.mono hb.size))⟩, Nat.zero_le _, hb.size⟩, hb.trans (h1.mono hb.size), hM.2.1, Nat.le_refl _⟩

section
variable {B : Nat} {w W W' : World} {g : Nat} {v : Value} {gr : Nat} {u : Value} {l : List UInt8} {a a' b : Nat} {e e' f : Int}
theorem Pair.drew (h : Pair B w W g v gr u l a e a' e') : Pair B w W.drew g v gr u l a e a' e' := ⟨h.c, h.r, h.below.drew, h.hg, h.hw⟩
theorem Pair.stepC (h : Pair B w W g v gr u l a e a' e') (hC : Cur W' g v l b f) (hG : W.grownBy W' (some g)) : Pair B w W' g v gr u l b f a' e' :=
  ⟨hC, h.r.grown hG (by have := h.r.1.other h.c.1 (by decide); simpa using this) (fun x hx => by cases hx; exact h.hg), h.below.trans (below_of_only hG (Nat.le_trans h.hw h.below.size) (fun x hx => by cases hx; exact h.hg)), h.hg, h.hw⟩
theorem Pair.stepR (h : Pair B w W g v gr u l a e a' e') (hR : RR B W' gr u l b f) (hG : W.grownBy W' (some gr)) : Pair B w W' g v gr u l a e b f :=
  ⟨h.c.behind h.r.1 hG, hR, h.below.trans (below_of_only hG (Nat.le_trans h.hw h.below.size) (fun x hx => by cases hx; exact h.r.2.2.2)), h.hg, h.hw⟩
end

set_option linter.unusedSimpArgs false
attribute [local go_sem ↓] Go.wp_at_zero Go.wp_at_succ

set_option maxRecDepth 20000 in
set_option maxHeartbeats 8000000 in
theorem ctakes_walk (a0 : Option Addr) (len0 cap0 : Nat) (z0 : List Int) (a1 : Int) (w : World) (w0 : IsRow .u8 w a0 len0 cap0 z0) (w1 : (Lit.int .u64 a1).wf = true) :
    Calls Try.prog 9 #[.slice a0 len0 cap0, .int .u64 a1] w fun e w' => e = .returned (.bool true) ∧ Below w.heap.size w w' := by
  obtain ⟨l, hlen, hrd, hlc, hcm⟩ := row_bytes w0
  obtain ⟨x, rfl, hx⟩ := nat_of_u64 w1
  clear w0 w1
  by_cases hbig : 3000 < len0
  · have hd : decide ((3000 : Int) < (len0 : Int)) = true := by simp; omega
    have hW := works3_any w
    go_enter Try.func9, Try.ntmps9
    go_wp2_with (go_at_call 35; refine hW.mono ?_; rintro r w1 ⟨rfl, hb1⟩)
    go_ret
    exact ⟨rfl, hb1⟩
  · have hd : decide ((3000 : Int) < (len0 : Int)) = false := by simp; omega
    have hl : l.length ≤ 140737488355000 := by omega
    have hl' : l.length ≤ 140737488355328 := by omega
    have HN := (by have := new_any cap0 hrd (Nat.le_refl _) hl'; rwa [hlen] at this : Calls Try.prog 13 #[.slice a0 len0 cap0] w fun r w' => ∃ g v, r = .returned (.pointer (some ⟨g, 0, none⟩)) ∧ Made w.heap.size w' g v l 0 ∧ Below w.heap.size w w')
    have HM := Lib.hid (fun (w1 : World) (g : Nat) (v : Value) (hb : Below w.heap.size w w1) (hM : Made w.heap.size w1 g v l 0) => (by have := Pair.make hb hM hrd (by omega : l.length ≤ cap0) hcm; rwa [hlen] at this : Pair w.heap.size w (w1.alloc (.cells #[.slice a0 len0 cap0, .int .i64 0, .int .i64 0] 29)) g v w1.heap.size (.slice a0 len0 cap0) l 0 0 0 0))
    have HT := Lib.hid (fun W g v a e (h : Cur W g v l a e) => take_cur h hl')
    have QT := Lib.hid (fun W g v a e (h : RR w.heap.size W g v l a e) => rtake_cur h hl)
    have HS := Lib.hid (fun W g v (h : Cur W g v l 0 0) => seek_cur h x hx hl')
    have QS := Lib.hid (fun W g v (h : RR w.heap.size W g v l 0 0) => rr_seek h x hl')
    have hW := Lib.hid works3_any
    clear hlen hrd hlc hcm hl hl' hbig
    go_enter Try.func9, Try.ntmps9
    go_wp2_with (first
      | (go_at_call 13; refine HN.mono ?_; rintro r w1 ⟨g, v, rfl, hM, hb1⟩; have T0 := Lib.hid (HM.out w1 g v hb1 hM); clear hM hb1)
      | (go_at_call 27; refine (HS.out _ _ _ T0.out.c).mono ?_; rintro r w2 ⟨rfl, hC2, hG2⟩; have T1 := Lib.hid (T0.out.stepC hC2 hG2); clear hC2 hG2)
      | (go_at_call 36; refine (QS.out _ _ _ T1.out.r).mono ?_; rintro r w3 ⟨rfl, hC3, hG3⟩; have T2 := Lib.hid (T1.out.stepR hC3 hG3); clear hC3 hG3))
    go_loopw [22] (fun i wr => ∃ (k a : Nat) (e : Int), i = .int .i64 k ∧ k ≤ 3 ∧ Hid (Pair w.heap.size w wr g v w1.heap.size (.slice a0 len0 cap0) l a e a e)) (fun i _ => 3 - (intOf i).toNat)
    case atStart => exact ⟨0, _, _, rfl, by omega, T2⟩
    case round =>
      obtain ⟨k, a, e, rfl, hk3, T3⟩ := hrel
      clear T0 T1 T2 HS QS HN HM
      by_cases hk : k < 3
      · have hT := HT.out _ _ _ _ _ T3.out.drew.c
        have hQ := fun W (h : RR w.heap.size W w1.heap.size (.slice a0 len0 cap0) l a e) => QT.out W _ _ _ _ h
        generalize (takeT (l.drop a) e).1 = t at *
        generalize (takeT (l.drop a) e).2.1 = m at *
        generalize (takeT (l.drop a) e).2.2 = f at *
        generalize ByteArray.mk t.toArray = tb at *
        obtain ⟨p, hp⟩ : ∃ p, p = a + m := ⟨_, rfl⟩
        rw [← hp] at hT
        have hQ2 := Lib.hid hQ
        rw [← hp] at hQ2
        clear hQ hp HT QT
        have T4 := Lib.hid T3.out.drew
        clear T3
        go_wp2_with fail
        refine region_any (by kernel_rfl) ?_
        refine wpAny_of_until (S := fun _ => True) (p := 22) _ _ _ _ ?_
        have hHeld := trivial
        refine take_u (i := 0) (v := ?_) [1, 4, 5, 13, 14, 22] rfl (by kernel_rfl) (by kernel_rfl) (by kernel_rfl) (by kernel_rfl) (by kernel_rfl) (by kernel_rfl) (by kernel_rfl) (fun _ _ _ h => h) (Or.inl ⟨by rfl, ?_⟩) hHeld ?_
        rotate_left
        · (intro wS hSw; (try dsimp only at hSw); go_simp; (try with_reducible rfl))
        try simp only [Act.put, List.setIfInBounds_toArray, List.set_cons_zero, List.set_cons_succ]
        refine take_u (i := 2) (v := ?_) [3, 4, 5, 13, 14, 22] rfl (by kernel_rfl) (by kernel_rfl) (by kernel_rfl) (by kernel_rfl) (by kernel_rfl) (by kernel_rfl) (by kernel_rfl) (fun _ _ _ h => h) (Or.inl ⟨by rfl, ?_⟩) hHeld ?_
        rotate_left
        · (intro wS hSw; (try dsimp only at hSw); go_simp; (try with_reducible rfl))
        try simp only [Act.put, List.setIfInBounds_toArray, List.set_cons_zero, List.set_cons_succ]
        refine ready_u (i := 1) (by kernel_rfl) rfl (by kernel_rfl) (fun K hK => ?_)
        go_simp
        go_wp2_with (go_at_call 37; refine hT.mono ?_; rintro r wa ⟨rfl, hCa, hGa⟩; have Ta := Lib.hid (T4.out.stepC hCa hGa); clear hCa hGa hT)
        refine hK.out _ _ ?_ (fun hNew => ?_)
        · exact trivial
        clear hHeld hK K
        have hHeld := hNew
        clear hNew
        refine ready_u (i := 3) (by kernel_rfl) rfl (by kernel_rfl) (fun K hK => ?_)
        go_simp
        go_wp2_with (go_at_call 38; refine (hQ2.out _ Ta.out.r).mono ?_; rintro r wb ⟨rfl, hCb, hGb⟩; have Tb := Lib.hid (Ta.out.stepR hCb hGb); clear hCb hGb)
        refine hK.out _ _ ?_ (fun hNew => ?_)
        · exact trivial
        clear hHeld hK K
        have hHeld := hNew
        clear hNew
        refine until_turn (S' := fun W => W.cell? ⟨w1.heap.size, 1, none⟩ = some (.int .i64 (p : Int)) ∧ W.cell? ⟨w1.heap.size, 2, none⟩ = some (.int .i64 f)) (fun _ _ => trivial) _ _ _ _ ?_
        have hTurn := And.intro (rr_cell_at Tb.out.r) (rr_cell_e Tb.out.r)
        clear hHeld
        have hHeld := hTurn
        clear hTurn
        refine take_u (i := 4) (v := ?_) [5, 13, 14, 22] rfl (by kernel_rfl) (by kernel_rfl) (by kernel_rfl) (by kernel_rfl) (by kernel_rfl) (by kernel_rfl) (by kernel_rfl) (fun _ _ _ h => h) (Or.inl ⟨by rfl, ?_⟩) hHeld ?_
        rotate_left
        · (intro wS hSw; (try dsimp only at hSw); go_simp; (try with_reducible rfl))
        try simp only [Act.put, List.setIfInBounds_toArray, List.set_cons_zero, List.set_cons_succ]
        refine take_u (i := 5) (v := ?_) [13, 14, 22] rfl (by kernel_rfl) (by kernel_rfl) (by kernel_rfl) (by kernel_rfl) (by kernel_rfl) (by kernel_rfl) (by kernel_rfl) (fun _ _ _ h => h) (Or.inl ⟨by rfl, ?_⟩) hHeld ?_
        rotate_left
        · (intro wS hSw; (try dsimp only at hSw); go_simp; (try with_reducible rfl))
        try simp only [Act.put, List.setIfInBounds_toArray, List.set_cons_zero, List.set_cons_succ]
        refine take_u (i := 6) (v := ?_) [7, 12, 13, 14, 22] rfl (by kernel_rfl) (by kernel_rfl) (by kernel_rfl) (by kernel_rfl) (by kernel_rfl) (by kernel_rfl) (by kernel_rfl) (fun _ _ _ h => h) (Or.inl ⟨by rfl, ?_⟩) hHeld ?_
        rotate_left
        · (intro wS hSw; (try dsimp only at hSw); go_simp; (try with_reducible rfl))
        try simp only [Act.put, List.setIfInBounds_toArray, List.set_cons_zero, List.set_cons_succ]
        refine take_u (i := 8) (v := ?_) [9, 10, 11, 12, 13, 14, 22] rfl (by kernel_rfl) (by kernel_rfl) (by kernel_rfl) (by kernel_rfl) (by kernel_rfl) (by kernel_rfl) (by kernel_rfl) (fun _ _ _ h => h) (Or.inl ⟨by rfl, ?_⟩) hHeld ?_
        rotate_left
        · (intro wS hSw; (try dsimp only at hSw); go_simp; (try with_reducible rfl))
        try simp only [Act.put, List.setIfInBounds_toArray, List.set_cons_zero, List.set_cons_succ]
        refine take_u (i := 9) (v := ?_) [10, 11, 12, 13, 14, 22] rfl (by kernel_rfl) (by kernel_rfl) (by kernel_rfl) (by kernel_rfl) (by kernel_rfl) (by kernel_rfl) (by kernel_rfl) (fun _ _ _ h => h) (Or.inl ⟨by rfl, ?_⟩) hHeld ?_
        rotate_left
        · (intro wS hSw; (try dsimp only at hSw); go_simp; (try with_reducible rfl))
        try simp only [Act.put, List.setIfInBounds_toArray, List.set_cons_zero, List.set_cons_succ]
        refine take_u (i := 10) (v := ?_) [11, 12, 13, 14, 22] rfl (by kernel_rfl) (by kernel_rfl) (by kernel_rfl) (by kernel_rfl) (by kernel_rfl) (by kernel_rfl) (by kernel_rfl) (fun _ _ _ h => h) (Or.inl ⟨by rfl, ?_⟩) hHeld ?_
        rotate_left
        · (intro wS hSw; (try dsimp only at hSw); go_simp; (try with_reducible rfl))
        try simp only [Act.put, List.setIfInBounds_toArray, List.set_cons_zero, List.set_cons_succ]
        refine take_u (i := 11) (v := ?_) [12, 13, 14, 22] rfl (by kernel_rfl) (by kernel_rfl) (by kernel_rfl) (by kernel_rfl) (by kernel_rfl) (by kernel_rfl) (by kernel_rfl) (fun _ _ _ h => h) (Or.inl ⟨by rfl, ?_⟩) hHeld ?_
        rotate_left
        · (intro wS hSw; (try dsimp only at hSw); go_simp; (try with_reducible rfl))
        try simp only [Act.put, List.setIfInBounds_toArray, List.set_cons_zero, List.set_cons_succ]
        refine ready_u (i := 7) (by kernel_rfl) rfl (by kernel_rfl) (fun K hK => ?_)
        go_simp
        go_wp2_with (go_at_call 15; refine (at_cur Tb.out.c).mono ?_; rintro r wc ⟨rfl, rfl⟩)
        refine hK.out _ _ ?_ (fun hNew => ?_)
        · exact hHeld
        clear hHeld hK K
        have hHeld := hNew
        clear hNew
        refine take_u (i := 12) (v := ?_) [13, 14, 22] rfl (by kernel_rfl) (by kernel_rfl) (by kernel_rfl) (by kernel_rfl) (by kernel_rfl) (by kernel_rfl) (by kernel_rfl) (fun _ _ _ h => h) (Or.inl ⟨by rfl, ?_⟩) hHeld ?_
        rotate_left
        · (intro wS hSw; (try dsimp only at hSw); go_simp; (try with_reducible rfl))
        try simp only [Act.put, List.setIfInBounds_toArray, List.set_cons_zero, List.set_cons_succ]
        refine take_u (i := 13) (v := ?_) [14, 22] rfl (by kernel_rfl) (by kernel_rfl) (by kernel_rfl) (by kernel_rfl) (by kernel_rfl) (by kernel_rfl) (by kernel_rfl) (fun _ _ _ h => h) (Or.inl ⟨by rfl, ?_⟩) hHeld ?_
        rotate_left
        · (intro wS hSw; (try dsimp only at hSw); go_simp; (try with_reducible rfl))
        try simp only [Act.put, List.setIfInBounds_toArray, List.set_cons_zero, List.set_cons_succ]
        refine take_u (i := 14) (v := ?_) [22] rfl (by kernel_rfl) (by kernel_rfl) (by kernel_rfl) (by kernel_rfl) (by kernel_rfl) (by kernel_rfl) (by kernel_rfl) (fun _ _ _ h => h) (Or.inl ⟨by rfl, ?_⟩) hHeld ?_
        rotate_left
        · (intro wS hSw; (try dsimp only at hSw); go_simp; (try with_reducible rfl))
        try simp only [Act.put, List.setIfInBounds_toArray, List.set_cons_zero, List.set_cons_succ]
        refine take_u (i := 15) (v := ?_) [16, 21, 22] rfl (by kernel_rfl) (by kernel_rfl) (by kernel_rfl) (by kernel_rfl) (by kernel_rfl) (by kernel_rfl) (by kernel_rfl) (fun _ _ _ h => h) (Or.inl ⟨by rfl, ?_⟩) hHeld ?_
        rotate_left
        · (intro wS hSw; (try dsimp only at hSw); go_simp; (try with_reducible rfl))
        try simp only [Act.put, List.setIfInBounds_toArray, List.set_cons_zero, List.set_cons_succ]
        refine take_u (i := 17) (v := ?_) [18, 19, 20, 21, 22] rfl (by kernel_rfl) (by kernel_rfl) (by kernel_rfl) (by kernel_rfl) (by kernel_rfl) (by kernel_rfl) (by kernel_rfl) (fun _ _ _ h => h) (Or.inl ⟨by rfl, ?_⟩) hHeld ?_
        rotate_left
        · (intro wS hSw; (try dsimp only at hSw); go_simp; (try with_reducible rfl))
        try simp only [Act.put, List.setIfInBounds_toArray, List.set_cons_zero, List.set_cons_succ]
        refine take_u (i := 18) (v := ?_) [19, 20, 21, 22] rfl (by kernel_rfl) (by kernel_rfl) (by kernel_rfl) (by kernel_rfl) (by kernel_rfl) (by kernel_rfl) (by kernel_rfl) (fun _ _ _ h => h) (Or.inl ⟨by rfl, ?_⟩) hHeld ?_
        rotate_left
        · (intro wS hSw; (try dsimp only at hSw); go_simp; (try with_reducible rfl))
        try simp only [Act.put, List.setIfInBounds_toArray, List.set_cons_zero, List.set_cons_succ]
        refine take_u (i := 19) (v := ?_) [20, 21, 22] rfl (by kernel_rfl) (by kernel_rfl) (by kernel_rfl) (by kernel_rfl) (by kernel_rfl) (by kernel_rfl) (by kernel_rfl) (fun _ _ _ h => h) (Or.inl ⟨by rfl, ?_⟩) hHeld ?_
        rotate_left
        · (intro wS hSw; (try dsimp only at hSw); go_simp; (try with_reducible rfl))
        try simp only [Act.put, List.setIfInBounds_toArray, List.set_cons_zero, List.set_cons_succ]
        refine take_u (i := 20) (v := ?_) [21, 22] rfl (by kernel_rfl) (by kernel_rfl) (by kernel_rfl) (by kernel_rfl) (by kernel_rfl) (by kernel_rfl) (by kernel_rfl) (fun _ _ _ h => h) (Or.inl ⟨by rfl, ?_⟩) hHeld ?_
        rotate_left
        · (intro wS hSw; (try dsimp only at hSw); go_simp; (try with_reducible rfl))
        try simp only [Act.put, List.setIfInBounds_toArray, List.set_cons_zero, List.set_cons_succ]
        refine ready_u (i := 16) (by kernel_rfl) rfl (by kernel_rfl) (fun K hK => ?_)
        go_simp
        go_wp2_with (go_at_call 18; refine (err_cur Tb.out.c).mono ?_; rintro r wd ⟨rfl, rfl⟩)
        refine hK.out _ _ ?_ (fun hNew => ?_)
        · exact hHeld
        clear hHeld hK K
        have hHeld := hNew
        clear hNew
        refine take_u (i := 21) (v := ?_) [22] rfl (by kernel_rfl) (by kernel_rfl) (by kernel_rfl) (by kernel_rfl) (by kernel_rfl) (by kernel_rfl) (by kernel_rfl) (fun _ _ _ h => h) (Or.inl ⟨by rfl, ?_⟩) hHeld ?_
        rotate_left
        · (intro wS hSw; (try dsimp only at hSw); go_simp; (try with_reducible rfl))
        try simp only [Act.put, List.setIfInBounds_toArray, List.set_cons_zero, List.set_cons_succ]
        refine end_u (by kernel_rfl) rfl (fun K hK => ?_)
        go_simp
        refine hK.out _ _ ?_
        clear hHeld hK K
        refine wpAny_of_held (S := fun _ => True) _ _ _ _ ?_
        refine wpAnyH_done (by kernel_rfl) ?_ _
        go_wp2_with fail
        exact ⟨⟨k + 1, p, f, by go_num, by omega, Tb⟩, by simp [intOf]; omega⟩
      · go_wp2_with (go_at_call 35; refine (hW.out _).mono ?_; rintro r w9 ⟨rfl, hb9⟩; have hb10 := T3.out.below.trans (hb9.mono T3.out.below.size))
        go_ret
        exact ⟨rfl, hb10⟩

end Go.Proofs.Ytjhbbclmhnkfhaa
