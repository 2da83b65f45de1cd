/-
  One call on both sides: Uint of any size, and Sub with what is asked of the part.
-/
import Derived.Test.YtphnifkmcppflaaDoesA
import Derived.Deep.RegionWith
import Derived.Deep.DrawnRows
namespace Go.Proofs.Ytphnifkmcppflaa
open Go Go.RowKit

theorem wrap_i64_bd (n : Int) : -9223372036854775808 ≤ IntKind.i64.wrap n ∧ IntKind.i64.wrap n ≤ 9223372036854775807 := by
  rw [IntKind.wrap_i64]; omega

set_option maxHeartbeats 1600000 in
theorem does_uint {B : Nat} {w : World} {gc : Nat} {vc : Value} {gr : Nat} {vr : Value} {l : List UInt8} {a : Nat} {e : Int} (hc : Cur w gc vc l a e) (hr : RC w gr vr l a e) (h1 : B ≤ gc) (h2 : B ≤ gr) (hB : B ≤ w.heap.size) (hlen : l.length ≤ 140737488355328) (n : Nat) :
    Calls Try.prog 11 #[.agg #[.int .i64 0, .int .u64 (n : Int)], .pointer (some ⟨gc, 0, none⟩), .pointer (some ⟨gr, 0, none⟩)] w (Does B w gc vc gr vr l) := by
  have D0 := Lib.hid (DS.start hc hr h1 h2 hB 0 n)
  have HC := Lib.hid (fun W a e s hs (h : Cur W gc vc l a e) => uint_cur h s hs hlen)
  have HR := Lib.hid (fun W a e s hs (h : RC W gr vr l a e) => ruint_cur h s hs hlen)
  have hs := wrap_i64_bd (n : Int)
  have b0 := D0.out.bx.cell 0
  have b1 := D0.out.bx.cell 1
  simp at b0 b1
  have KD := Lib.hid (fun W a e a2 e2 (d : DS B w W gc vc gr vr l a e a2 e2 w.heap.size 0 n) => (show W.cell? ⟨w.heap.size, 1, none⟩ = some (.int .u64 (n : Int)) from by have := d.bx.cell 1; simpa using this))
  clear hc hr hlen
  go_enter Try.func11, Try.ntmps11
  go_wp2_with fail
  go_region_held_law (fun W => W.cell? ⟨w.heap.size, 1, none⟩ = some (.int .u64 (n : Int))) ((first | assumption | (simp; done)))
    (first
    | (go_at_call 25; refine (HC.out _ _ _ _ hs (D0.out.drewN _).cc).mono ?_; rintro r w1 ⟨rfl, hC1, hG1⟩; have D1 := Lib.hid ((D0.out.drewN _).c hC1 hG1); clear hC1 hG1; have c1 := KD.out _ _ _ _ _ D1.out)
    | (go_at_call 33; refine (HR.out _ _ _ _ hs D1.out.rc).mono ?_; rintro r w2 ⟨rfl, hC2, hG2⟩; have D2 := Lib.hid (D1.out.r hC2 hG2); clear hC2 hG2; have c2 := KD.out _ _ _ _ _ D2.out))
  all_goals go_wp2
  all_goals go_ret
  all_goals exact D2.out.done

/-- Beside the two cursors, two over a part. -/
structure DX (B : Nat) (w0 w : World) (gc : Nat) (vc : Value) (gr : Nat) (vr : Value) (l : List UInt8) (a : Nat) (e : Int) (q n : Nat) (gx : Nat) (vx : Value) (gy : Nat) (vy : Value) (p : List UInt8) (ax : Nat) (ex : Int) (ay : Nat) (ey : Int) : Prop where
  ds : DS B w0 w gc vc gr vr l a e a e q 2 n
  x : Cur w gx vx p ax ex
  y : RC w gy vy p ay ey
  nx : gc ≠ gx
  ny : gr ≠ gy
  lx : B ≤ gx
  ly : B ≤ gy

section
variable {B : Nat} {w0 w w1 w2 w' : World} {gc gr q n gx gy : Nat} {vc vr vx vy : Value} {l p : List UInt8} {a ax ay b : Nat} {e ex ey f : Int}
theorem RC.other {g g' : Nat} {v : Value} {cs : Array Value} (h : RC w g v l a e) (hg : g ≠ g') (hb' : Box w g' 29 cs) (hb : w.grownBy w' (some g')) : RC w' g v l a e :=
  h.grown hb (by simpa using hg) (.inr (own_other h.2.1 hb' (by decide)))
theorem DX.sx (h : DX B w0 w gc vc gr vr l a e q n gx vx gy vy p ax ex ay ey) (hC : Cur w' gx vx p b f) (hG : w.grownBy w' (some gx)) : DX B w0 w' gc vc gr vr l a e q n gx vx gy vy p b f ay ey :=
  ⟨⟨h.ds.cc.other h.nx h.x.1 hG, h.ds.rc.behind h.x.1 hG, h.ds.bx.grown hG (by have := h.ds.bx.other h.x.1 (by decide); simpa using this), h.ds.bel.trans (below_of_only hG (Nat.le_trans h.ds.lB h.ds.bel.size) fun k hk => by injection hk with hk; subst hk; exact h.lx), h.ds.lc, h.ds.lr, h.ds.lB⟩,
    hC, h.y.behind h.x.1 hG, h.nx, h.ny, h.lx, h.ly⟩
theorem DX.sy (h : DX B w0 w gc vc gr vr l a e q n gx vx gy vy p ax ex ay ey) (hC : RC w' gy vy p b f) (hG : w.grownBy w' (some gy)) : DX B w0 w' gc vc gr vr l a e q n gx vx gy vy p ax ex b f :=
  ⟨⟨h.ds.cc.behind h.y.1 hG, h.ds.rc.other h.ny h.y.1 hG, h.ds.bx.grown hG (by have := h.ds.bx.other h.y.1 (by decide); simpa using this), h.ds.bel.trans (below_of_only hG (Nat.le_trans h.ds.lB h.ds.bel.size) fun k hk => by injection hk with hk; subst hk; exact h.ly), h.ds.lc, h.ds.lr, h.ds.lB⟩,
    h.x.behind h.y.1 hG, hC, h.nx, h.ny, h.lx, h.ly⟩
theorem DX.drewN (h : DX B w0 w gc vc gr vr l a e q n gx vx gy vy p ax ex ay ey) (k : Nat) : DX B w0 (w.drewN k) gc vc gr vr l a e q n gx vx gy vy p ax ex ay ey :=
  ⟨h.ds.drewN k, h.x.drewN k, h.y.drewN k, h.nx, h.ny, h.lx, h.ly⟩
/-- Behind Sub on both sides. -/
theorem DX.make {a2 b2 : Nat} {e2 f2 : Int} (h : DS B w0 w gc vc gr vr l a e a2 e2 q 2 n) (hM : Made w.heap.size w1 gx vx p f) (hC : Cur w1 gc vc l b2 f2) (hG : w.grownBy w1 (some gc)) (hM' : RMade w1.heap.size w2 gy vy p f) (hC' : RC w2 gr vr l b2 f2) (hG' : w1.grownBy w2 (some gr)) :
    DX B w0 w2 gc vc gr vr l b2 f2 q n gx vx gy vy p 0 f 0 f := by
  have d1 := h.c hC hG
  have d2 := d1.r hC' hG'
  have c0 := h.cc.1.lt
  have r0 := d1.rc.1.lt
  have m0 := hM.2.1
  have m1 := hM'.2.1
  have s0 := h.bel.size
  have s1 := d1.bel.size
  have lB := h.lB
  exact ⟨d2, hM.1.behind d1.rc.1 hG', hM'.1, by omega, by omega, by omega, by omega⟩
end

/-- The condition of a region's walk is turned in the middle: into one that says more. -/
theorem wpAnyH_turn {P : Program} {md : Region.Mode} {ops : Array Oper} {Q : Exit → Act → World → Prop} {S S' : World → Prop} (h : ∀ w, S' w → S w) :
    ∀ (fuel : Nat) (listed : Array Bool) (a : Act) (w : World), wpAnyH P md ops Q S' fuel listed a w → wpAnyH P md ops Q S fuel listed a w
  | 0, _, _, _, hh => hh
  | fuel + 1, _, _, _, hh => ⟨hh.1, fun i hi => wpOp_mono (fun a' w' h' => ⟨h _ h'.1, wpAnyH_turn h fuel _ a' w' h'.2⟩) (hh.2 i hi)⟩

/-- The laws of such a walk with the operation read off a list, so that it stands written out. -/
theorem take_at {P : Program} {md : Region.Mode} {l : List Oper} {Q : Exit → Act → World → Prop} {S : World → Prop} {i : Nat} {oi : Oper} {v : Value} {fuel : Nat} {listed : Array Bool} {a : Act} {w : World} (hi : l[i]? = some oi)
    (hs : Region.noSelect l.toArray = true) (hf : Region.free md l.toArray listed i = true) (hr : (Region.ready md l.toArray listed).contains i = true)
    (hQ : ∀ c a w, Q (.panic c) (a.put oi.dst v) w → Q (.panic c) a w) (hy : YieldsIf P l.toArray S oi v a) (hS : S w)
    (h : wpAnyH P md l.toArray Q S fuel (listed.setIfInBounds i true) (a.put oi.dst v) w) : wpAnyH P md l.toArray Q S (fuel + 1) listed a w :=
  wpAnyH_take (by simpa using hi) hs hf hr hQ hy hS h
theorem ready_at {P : Program} {md : Region.Mode} {l : List Oper} {Q : Exit → Act → World → Prop} {S : World → Prop} {fuel : Nat} {listed : Array Bool} {a : Act} {w : World} {i : Nat} {o : Oper} (ho : l[i]? = some o)
    (h : ∀ K' : Act → World → Prop, Shut (∀ a w, S w → (S w → wpAnyH P md l.toArray Q S fuel (listed.setIfInBounds i true) a w) → K' a w) → if Region.wanted o (yielded l.toArray a.tmps) = true then Oper.wp P o a w K' Q else K' (a.put o.dst undef) w) :
    AllReadyH P md l.toArray Q S fuel listed a w [i] :=
  AllReadyH.cons (by simpa using ho) h AllReadyH.nil

set_option linter.unusedSimpArgs false
attribute [local go_sem ↓] Go.wp_at_zero Go.wp_at_succ

set_option maxHeartbeats 4000000 in
theorem does_sub {B : Nat} {w : World} {gc : Nat} {vc : Value} {gr : Nat} {vr : Value} {l : List UInt8} {a : Nat} {e : Int} (hc : Cur w gc vc l a e) (hr : RC w gr vr l a e) (h1 : B ≤ gc) (h2 : B ≤ gr) (hB : B ≤ w.heap.size) (hlen : l.length ≤ 140737488355328) (n : Nat) :
    Calls Try.prog 11 #[.agg #[.int .i64 2, .int .u64 (n : Int)], .pointer (some ⟨gc, 0, none⟩), .pointer (some ⟨gr, 0, none⟩)] w (Does B w gc vc gr vr l) := by
  have D0 := Lib.hid (DS.start hc hr h1 h2 hB 2 n)
  have HC := Lib.hid (fun W a e (h : Cur W gc vc l a e) => sub_cur h n hlen)
  have HR := Lib.hid (fun W a e (h : RC W gr vr l a e) => rsub_cur h n hlen)
  have hpl := Nat.le_trans (nextGot_len_le l a e n) hlen
  have HU := Lib.hid (fun W g v b f (h : Cur W g v (nextGot l a e n) b f) => u8_cur h hpl)
  have hck : clampOf 1 = 1 := rfl
  have HV := Lib.hid (fun W g v b f (h : RC W g v (nextGot l a e n) b f) => (show Calls Try.prog 33 #[.pointer (some ⟨g, 0, none⟩), .int .i64 1] W fun r w' => r = .returned (.int .u64 (leNat (nextGot (nextGot l a e n) b f 1) : Int)) ∧ RC w' g v (nextGot l a e n) (nextAt (nextGot l a e n) b f 1) (nextErr (nextGot l a e n) b f 1) ∧ W.grownBy w' (some g) from by
    have := ruint_cur h 1 (by omega) hpl
    rwa [hck] at this))
  have b0 := D0.out.bx.cell 0
  have b1 := D0.out.bx.cell 1
  simp at b0 b1
  have KD := Lib.hid (fun W a e a2 e2 (d : DS B w W gc vc gr vr l a e a2 e2 w.heap.size 2 n) => (show W.cell? ⟨w.heap.size, 1, none⟩ = some (.int .u64 (n : Int)) from by have := d.bx.cell 1; simpa using this))
  clear hc hr hlen hpl hck
  go_enter Try.func11, Try.ntmps11
  go_wp2_with fail
  go_region_held_law (fun W => W.cell? ⟨w.heap.size, 1, none⟩ = some (.int .u64 (n : Int))) ((first | assumption | (simp; done)))
    (first
    | (go_at_call 31; refine (HC.out _ _ _ (D0.out.drewN _).cc).mono ?_; rintro r w1 ⟨gx, vx, rfl, hMx, hC1, hG1⟩; have D1 := Lib.hid ((D0.out.drewN _).c hC1 hG1); have c1 := KD.out _ _ _ _ _ D1.out)
    | (go_at_call 35; refine (HR.out _ _ _ D1.out.rc).mono ?_; rintro r w2 ⟨gy, vy, rfl, hMy, hC2, hG2⟩; have c2 := KD.out _ _ _ _ _ (D1.out.r hC2 hG2); have D2 := Lib.hid (DX.make (D0.out.drewN _) hMx hC1 hG1 hMy hC2 hG2); clear hMx hC1 hG1 hMy hC2 hG2 D1))
  all_goals go_wp2_with fail
  clear b0 b1 c1 c2 HC HR KD
  generalize nextGot l a e n = p at HU HV D2
  generalize nextErr l a e n = f at D2
  refine wp_region_held_drew (S := fun _ => True) (by kernel_rfl) (trivial) (fun hHeld => ?_)
  refine take_at (i := 0) (v := ?_) rfl (by kernel_rfl) (by kernel_rfl) (by kernel_rfl) (fun _ _ _ h => h) (Or.inl ⟨by rfl, ?_⟩) hHeld ?_
  rotate_left
  · (intro wS hSw; (try dsimp only at hSw); go_simp; (try with_reducible rfl))
  try simp only [Act.put, List.setIfInBounds_toArray, List.set_cons_zero, List.set_cons_succ]
  refine take_at (i := 2) (v := ?_) rfl (by kernel_rfl) (by kernel_rfl) (by kernel_rfl) (fun _ _ _ h => h) (Or.inl ⟨by rfl, ?_⟩) hHeld ?_
  rotate_left
  · (intro wS hSw; (try dsimp only at hSw); go_simp; (try with_reducible rfl))
  try simp only [Act.put, List.setIfInBounds_toArray, List.set_cons_zero, List.set_cons_succ]
  refine wpAnyH_ready (rs := [1]) (by kernel_rfl) (by simp) ?_
  refine ready_at rfl (fun K hK => ?_)
  go_simp
  go_wp2_with (go_at_call 26; refine (HU.out _ _ _ _ _ (D2.out.drewN _).x).mono ?_; rintro r w3 ⟨rfl, hC3, hG3⟩; have D3 := Lib.hid ((D2.out.drewN _).sx hC3 hG3); clear hC3 hG3)
  refine hK.out _ _ ?_ (fun hNew => ?_)
  · exact trivial
  clear hHeld hK K
  rename _ => hHeld
  refine wpAnyH_ready (rs := [3]) (by kernel_rfl) (by simp) ?_
  refine ready_at rfl (fun K hK => ?_)
  go_simp
  go_wp2_with (go_at_call 33; refine (HV.out _ _ _ _ _ D3.out.y).mono ?_; rintro r w4 ⟨rfl, hC4, hG4⟩; have D4 := Lib.hid (D3.out.sy hC4 hG4); clear hC4 hG4)
  refine hK.out _ _ ?_ (fun hNew => ?_)
  · exact trivial
  clear hHeld hK K
  rename _ => hHeld
  have y1 := D4.out.y.1.cell 1
  have y2 := D4.out.y.1.cell 2
  simp at y1 y2
  refine wpAnyH_turn (S' := fun W => W.cell? ⟨gy, 1, none⟩ = some (.int .i64 (nextAt p 0 f 1 : Int)) ∧ W.cell? ⟨gy, 2, none⟩ = some (.int .i64 (nextErr p 0 f 1))) (fun _ _ => trivial) _ _ _ _ ?_
  have hTurn := And.intro y1 y2
  clear hHeld
  rename _ => hHeld
  clear y1 y2
  refine take_at (i := 4) (v := ?_) rfl (by kernel_rfl) (by kernel_rfl) (by kernel_rfl) (fun _ _ _ h => h) (Or.inl ⟨by rfl, ?_⟩) hHeld ?_
  rotate_left
  · (intro wS hSw; (try dsimp only at hSw); go_simp; (try with_reducible rfl))
  try simp only [Act.put, List.setIfInBounds_toArray, List.set_cons_zero, List.set_cons_succ]
  refine take_at (i := 5) (v := ?_) rfl (by kernel_rfl) (by kernel_rfl) (by kernel_rfl) (fun _ _ _ h => h) (Or.inl ⟨by rfl, ?_⟩) hHeld ?_
  rotate_left
  · (intro wS hSw; (try dsimp only at hSw); go_simp; (try with_reducible rfl))
  try simp only [Act.put, List.setIfInBounds_toArray, List.set_cons_zero, List.set_cons_succ]
  refine take_at (i := 6) (v := ?_) rfl (by kernel_rfl) (by kernel_rfl) (by kernel_rfl) (fun _ _ _ h => h) (Or.inl ⟨by rfl, ?_⟩) hHeld ?_
  rotate_left
  · (intro wS hSw; (try dsimp only at hSw); go_simp; (try with_reducible rfl))
  try simp only [Act.put, List.setIfInBounds_toArray, List.set_cons_zero, List.set_cons_succ]
  refine take_at (i := 8) (v := ?_) rfl (by kernel_rfl) (by kernel_rfl) (by kernel_rfl) (fun _ _ _ h => h) (Or.inl ⟨by rfl, ?_⟩) hHeld ?_
  rotate_left
  · (intro wS hSw; (try dsimp only at hSw); go_simp; (try with_reducible rfl))
  try simp only [Act.put, List.setIfInBounds_toArray, List.set_cons_zero, List.set_cons_succ]
  refine wpAnyH_ready (rs := [7]) (by kernel_rfl) (by simp) ?_
  refine ready_at rfl (fun K hK => ?_)
  go_simp
  go_wp2_with (go_at_call 13; refine (left_cur D4.out.x).mono ?_; rintro r w5 ⟨rfl, k5, rfl⟩)
  refine hK.out _ _ ?_ (fun hNew => ?_)
  · (first | exact hHeld | simpa using hHeld)
  clear hHeld hK K
  rename _ => hHeld
  refine wpAnyH_ready (rs := [9]) (by kernel_rfl) (by simp) ?_
  refine ready_at rfl (fun K hK => ?_)
  go_simp
  go_wp2_with (go_at_call 14; refine (rleft_cur (D4.out.y.drewN _)).mono ?_; rintro r w6 ⟨rfl, k6, rfl⟩)
  refine hK.out _ _ ?_ (fun hNew => ?_)
  · (first | exact hHeld | simpa using hHeld)
  clear hHeld hK K
  rename _ => hHeld
  refine take_at (i := 10) (v := ?_) rfl (by kernel_rfl) (by kernel_rfl) (by kernel_rfl) (fun _ _ _ h => h) (Or.inl ⟨by rfl, ?_⟩) hHeld ?_
  rotate_left
  · (intro wS hSw; (try dsimp only at hSw); go_simp; (try with_reducible rfl))
  try simp only [Act.put, List.setIfInBounds_toArray, List.set_cons_zero, List.set_cons_succ]
  refine take_at (i := 11) (v := ?_) rfl (by kernel_rfl) (by kernel_rfl) (by kernel_rfl) (fun _ _ _ h => h) (Or.inl ⟨by rfl, ?_⟩) hHeld ?_
  rotate_left
  · (intro wS hSw; (try dsimp only at hSw); go_simp; (try with_reducible rfl))
  try simp only [Act.put, List.setIfInBounds_toArray, List.set_cons_zero, List.set_cons_succ]
  refine take_at (i := 12) (v := ?_) rfl (by kernel_rfl) (by kernel_rfl) (by kernel_rfl) (fun _ _ _ h => h) (Or.inl ⟨by rfl, ?_⟩) hHeld ?_
  rotate_left
  · (intro wS hSw; (try dsimp only at hSw); go_simp; (try with_reducible rfl))
  try simp only [Act.put, List.setIfInBounds_toArray, List.set_cons_zero, List.set_cons_succ]
  refine take_at (i := 13) (v := ?_) rfl (by kernel_rfl) (by kernel_rfl) (by kernel_rfl) (fun _ _ _ h => h) (Or.inl ⟨by rfl, ?_⟩) hHeld ?_
  rotate_left
  · (intro wS hSw; (try dsimp only at hSw); go_simp; (try with_reducible rfl))
  try simp only [Act.put, List.setIfInBounds_toArray, List.set_cons_zero, List.set_cons_succ]
  refine take_at (i := 15) (v := ?_) rfl (by kernel_rfl) (by kernel_rfl) (by kernel_rfl) (fun _ _ _ h => h) (Or.inl ⟨by rfl, ?_⟩) hHeld ?_
  rotate_left
  · (intro wS hSw; (try dsimp only at hSw); go_simp; (try with_reducible rfl))
  try simp only [Act.put, List.setIfInBounds_toArray, List.set_cons_zero, List.set_cons_succ]
  refine take_at (i := 16) (v := ?_) rfl (by kernel_rfl) (by kernel_rfl) (by kernel_rfl) (fun _ _ _ h => h) (Or.inl ⟨by rfl, ?_⟩) hHeld ?_
  rotate_left
  · (intro wS hSw; (try dsimp only at hSw); go_simp; (try with_reducible rfl))
  try simp only [Act.put, List.setIfInBounds_toArray, List.set_cons_zero, List.set_cons_succ]
  refine take_at (i := 17) (v := ?_) rfl (by kernel_rfl) (by kernel_rfl) (by kernel_rfl) (fun _ _ _ h => h) (Or.inl ⟨by rfl, ?_⟩) hHeld ?_
  rotate_left
  · (intro wS hSw; (try dsimp only at hSw); go_simp; (try with_reducible rfl))
  try simp only [Act.put, List.setIfInBounds_toArray, List.set_cons_zero, List.set_cons_succ]
  refine take_at (i := 18) (v := ?_) rfl (by kernel_rfl) (by kernel_rfl) (by kernel_rfl) (fun _ _ _ h => h) (Or.inl ⟨by rfl, ?_⟩) hHeld ?_
  rotate_left
  · (intro wS hSw; (try dsimp only at hSw); go_simp; (try with_reducible rfl))
  try simp only [Act.put, List.setIfInBounds_toArray, List.set_cons_zero, List.set_cons_succ]
  refine wpAnyH_ready (rs := [14]) (by kernel_rfl) (by simp) ?_
  refine ready_at rfl (fun K hK => ?_)
  go_simp
  go_wp2_with (go_at_call 15; refine (err_cur (D4.out.x.drewN _)).mono ?_; rintro r w7 ⟨rfl, rfl⟩)
  refine hK.out _ _ ?_ (fun hNew => ?_)
  · (first | exact hHeld | simpa using hHeld)
  clear hHeld hK K
  rename _ => hHeld
  refine take_at (i := 19) (v := ?_) rfl (by kernel_rfl) (by kernel_rfl) (by kernel_rfl) (fun _ _ _ h => h) (Or.inl ⟨by rfl, ?_⟩) hHeld ?_
  rotate_left
  · (intro wS hSw; (try dsimp only at hSw); go_simp; (try with_reducible rfl))
  try simp only [Act.put, List.setIfInBounds_toArray, List.set_cons_zero, List.set_cons_succ]
  refine take_at (i := 20) (v := ?_) rfl (by kernel_rfl) (by kernel_rfl) (by kernel_rfl) (fun _ _ _ h => h) (Or.inl ⟨by rfl, ?_⟩) hHeld ?_
  rotate_left
  · (intro wS hSw; (try dsimp only at hSw); go_simp; (try with_reducible rfl))
  try simp only [Act.put, List.setIfInBounds_toArray, List.set_cons_zero, List.set_cons_succ]
  refine take_at (i := 21) (v := ?_) rfl (by kernel_rfl) (by kernel_rfl) (by kernel_rfl) (fun _ _ _ h => h) (Or.inl ⟨by rfl, ?_⟩) hHeld ?_
  rotate_left
  · (intro wS hSw; (try dsimp only at hSw); go_simp; (try with_reducible rfl))
  try simp only [Act.put, List.setIfInBounds_toArray, List.set_cons_zero, List.set_cons_succ]
  refine take_at (i := 22) (v := ?_) rfl (by kernel_rfl) (by kernel_rfl) (by kernel_rfl) (fun _ _ _ h => h) (Or.inl ⟨by rfl, ?_⟩) hHeld ?_
  rotate_left
  · (intro wS hSw; (try dsimp only at hSw); go_simp; (try with_reducible rfl))
  try simp only [Act.put, List.setIfInBounds_toArray, List.set_cons_zero, List.set_cons_succ]
  refine take_at (i := 24) (v := ?_) rfl (by kernel_rfl) (by kernel_rfl) (by kernel_rfl) (fun _ _ _ h => h) (Or.inl ⟨by rfl, ?_⟩) hHeld ?_
  rotate_left
  · (intro wS hSw; (try dsimp only at hSw); go_simp; (try with_reducible rfl))
  try simp only [Act.put, List.setIfInBounds_toArray, List.set_cons_zero, List.set_cons_succ]
  refine take_at (i := 25) (v := ?_) rfl (by kernel_rfl) (by kernel_rfl) (by kernel_rfl) (fun _ _ _ h => h) (Or.inl ⟨by rfl, ?_⟩) hHeld ?_
  rotate_left
  · (intro wS hSw; (try dsimp only at hSw); go_simp; (try with_reducible rfl))
  try simp only [Act.put, List.setIfInBounds_toArray, List.set_cons_zero, List.set_cons_succ]
  refine take_at (i := 26) (v := ?_) rfl (by kernel_rfl) (by kernel_rfl) (by kernel_rfl) (fun _ _ _ h => h) (Or.inl ⟨by rfl, ?_⟩) hHeld ?_
  rotate_left
  · (intro wS hSw; (try dsimp only at hSw); go_simp; (try with_reducible rfl))
  try simp only [Act.put, List.setIfInBounds_toArray, List.set_cons_zero, List.set_cons_succ]
  refine take_at (i := 27) (v := ?_) rfl (by kernel_rfl) (by kernel_rfl) (by kernel_rfl) (fun _ _ _ h => h) (Or.inl ⟨by rfl, ?_⟩) hHeld ?_
  rotate_left
  · (intro wS hSw; (try dsimp only at hSw); go_simp; (try with_reducible rfl))
  try simp only [Act.put, List.setIfInBounds_toArray, List.set_cons_zero, List.set_cons_succ]
  refine wpAnyH_ready (rs := [23]) (by kernel_rfl) (by simp) ?_
  refine ready_at rfl (fun K hK => ?_)
  go_simp
  go_wp2_with (go_at_call 12; refine (at_cur (D4.out.x.drewN _)).mono ?_; rintro r w8 ⟨rfl, rfl⟩)
  refine hK.out _ _ ?_ (fun hNew => ?_)
  · (first | exact hHeld | simpa using hHeld)
  clear hHeld hK K
  rename _ => hHeld
  refine take_at (i := 28) (v := ?_) rfl (by kernel_rfl) (by kernel_rfl) (by kernel_rfl) (fun _ _ _ h => h) (Or.inl ⟨by rfl, ?_⟩) hHeld ?_
  rotate_left
  · (intro wS hSw; (try dsimp only at hSw); go_simp; (try with_reducible rfl))
  try simp only [Act.put, List.setIfInBounds_toArray, List.set_cons_zero, List.set_cons_succ]
  refine take_at (i := 29) (v := ?_) rfl (by kernel_rfl) (by kernel_rfl) (by kernel_rfl) (fun _ _ _ h => h) (Or.inl ⟨by rfl, ?_⟩) hHeld ?_
  rotate_left
  · (intro wS hSw; (try dsimp only at hSw); go_simp; (try with_reducible rfl))
  try simp only [Act.put, List.setIfInBounds_toArray, List.set_cons_zero, List.set_cons_succ]
  refine take_at (i := 30) (v := ?_) rfl (by kernel_rfl) (by kernel_rfl) (by kernel_rfl) (fun _ _ _ h => h) (Or.inl ⟨by rfl, ?_⟩) hHeld ?_
  rotate_left
  · (intro wS hSw; (try dsimp only at hSw); go_simp; (try with_reducible rfl))
  try simp only [Act.put, List.setIfInBounds_toArray, List.set_cons_zero, List.set_cons_succ]
  refine wpAnyH_done (by kernel_rfl) ?_ _
  go_wp2
  go_ret
  exact (D4.out.ds.drewN _).done

end Go.Proofs.Ytphnifkmcppflaa
