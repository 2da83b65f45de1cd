/-
  The walk of LengthTakes: which length any bytes begin with, in which form, and which bytes it is of, or why there is none, is as the document has it.
-/
import Derived.Test.YtlfejggailoleaaDoorLtW
import Derived.Test.YtlfejggailoleaaDoorLtD
import Derived.Test.YtlfejggailoleaaDoorPair
namespace Go.Proofs.YtlfejggailoleaaDoor
open Go Go.RowKit

theorem Pair.sz {B : Nat} {w W : World} {g : Nat} {v : Value} {gr : Nat} {u : Value} {l : List UInt8} {a a' : Nat} {e e' : Int} (h : Pair B w W g v gr u l a e a' e') (hs : Sz w) (hB : 0 < B) : Sz W := hs.below h.below hB

/-- What Bytes of all that is left takes of a part. -/
theorem all_err (l : List UInt8) (e : Int) : nextErr l 0 e (leftOf l 0 e) = e := by
  unfold nextErr leftOf
  by_cases h : e = 0
  · simp [h]
  · simp [h]

/-- The cells that the law's last test reads. -/
def Seen (gr gy A : Nat) (E : Int) (W : World) : Prop := W.cell? ⟨gr, 1, none⟩ = some (.int .i64 (A : Int)) ∧ W.cell? ⟨gr, 2, none⟩ = some (.int .i64 E) ∧ W.cell? ⟨gy, 2, none⟩ = some (.int .i64 E)

/-- The two cursors, and the two over what the length is of. -/
structure Four (w W : World) (g : Nat) (v : Value) (gr : Nat) (u : Value) (l : List UInt8) (A : Nat) (E : Int) (gx : Nat) (vx : Value) (gy : Nat) (vy : Value) (G : List UInt8) : Prop where
  p : Pair w.heap.size w W g v gr u l A E A E
  x : Cur W gx vx G 0 E
  y : RC W gy vy G 0 E
  hx : w.heap.size ≤ gx
  hy : w.heap.size ≤ gy
  ne : gr < gy

section
variable {w W W' : World} {g : Nat} {v : Value} {gr : Nat} {u : Value} {l : List UInt8} {A : Nat} {E : Int} {gx : Nat} {vx : Value} {gy : Nat} {vy : Value} {G : List UInt8}
theorem Four.seen (h : Four w W g v gr u l A E gx vx gy vy G) : Seen gr gy A E W := ⟨rr_at h.p.r, rr_e h.p.r, rc_e h.y⟩
/-- Behind Bytes of the one part, and of the other. -/
theorem Four.bytesX (h : Four w W g v gr u l A E gx vx gy vy G) (hG : W.grownBy W' (some gx)) : Seen gr gy A E W' ∧ RC W' gy vy G 0 E ∧ Below w.heap.size w W' ∧ RR w.heap.size W' gr u l A E :=
  have hr : RR w.heap.size W' gr u l A E := h.p.r.grown hG (by have := h.p.r.1.other h.x.1 (by decide); simpa using this) (fun x hx => by cases hx; exact h.hx)
  have hy : RC W' gy vy G 0 E := h.y.behind h.x.1 hG
  ⟨⟨rr_at hr, rr_e hr, rc_e hy⟩, hy, h.p.below.trans (below_of_only hG h.p.below.size (fun x hx => by cases hx; exact h.hx)), hr⟩
end

theorem seen_below {W W' : World} {gr gy A : Nat} {E : Int} (h : Seen gr gy A E W) (hb : Below W.heap.size W W') : Seen gr gy A E W' :=
  ⟨(hb.cell (World.block_lt_of_cell? W _ h.1)).trans h.1, (hb.cell (World.block_lt_of_cell? W _ h.2.1)).trans h.2.1, (hb.cell (World.block_lt_of_cell? W _ h.2.2)).trans h.2.2⟩

theorem Pair.drewN {B : Nat} {w W : World} {g : Nat} {v : Value} {gr : Nat} {u : Value} {l : List UInt8} {a a' : Nat} {e e' : Int} (h : Pair B w W g v gr u l a e a' e') (n : Nat) : Pair B w (W.drewN n) g v gr u l a e a' e' :=
  ⟨h.c.drewN n, h.r.drewN n, below_drewN h.below n, h.hg, h.hw⟩

theorem Four.drewN {w W : World} {g : Nat} {v : Value} {gr : Nat} {u : Value} {l : List UInt8} {A : Nat} {E : Int} {gx : Nat} {vx : Value} {gy : Nat} {vy : Value} {G : List UInt8} (h : Four w W g v gr u l A E gx vx gy vy G) (n : Nat) : Four w (W.drewN n) g v gr u l A E gx vx gy vy G :=
  ⟨h.p.drewN n, h.x.drewN n, h.y.drewN n, h.hx, h.hy, h.ne⟩

/-- All that is left of a part, as a string. -/
def allS (G : List UInt8) (E : Int) : ByteArray := ⟨(nextGot G 0 E (leftOf G 0 E)).toArray⟩
theorem conv_all {w : World} {base : Nat} {u : Value} {G : List UInt8} {E : Int} (h : Own w base u (nextGot G 0 E (leftOf G 0 E))) (q : Nat) : (convert 22 9 u).run Tryd.prog (w.drewN q) = .ok (.string (allS G E)) (w.drewN q) :=
  conv_own (w := w.drewN q) h

theorem Four.stepX {w W : World} {g : Nat} {v : Value} {gr : Nat} {u : Value} {l : List UInt8} {A : Nat} {E : Int} {gx : Nat} {vx : Value} {gy : Nat} {vy : Value} {G : List UInt8} (h : Four w W g v gr u l A E gx vx gy vy G) (hlen : G.length ≤ 140737488355328) :
    Calls Tryd.prog 17 #[.pointer (some ⟨gx, 0, none⟩), .int .u64 (leftOf G 0 E : Int)] W fun r w' => ∃ k, r = .returned k ∧ Own w' (gy + 1) k (nextGot G 0 E (leftOf G 0 E)) ∧ Seen gr gy A E w' ∧ RC w' gy vy G 0 E ∧ Below w.heap.size w w' := by
  refine (bytes_cur h.x (leftOf G 0 E) hlen).mono ?_
  rintro r w' ⟨k, h1, h2, _, h4⟩
  obtain ⟨k1, k2, k3, _⟩ := h.bytesX h4
  exact ⟨k, h1, ⟨h2.1, h2.2.imp id fun ⟨g, cap, cur, p, hg, q⟩ => ⟨g, cap, cur, p, by have := h.y.1.lt; omega, q⟩⟩, k1, k2, k3⟩

theorem step_y {w W : World} {gr gy A : Nat} {E : Int} {vy k : Value} {G : List UInt8} (hS : Seen gr gy A E W) (hy : RC W gy vy G 0 E) (hb : Below w.heap.size w W) (hgy : w.heap.size ≤ gy) (hne : gr < gy) (hk : Own W (gy + 1) k (nextGot G 0 E (leftOf G 0 E))) (hlen : G.length ≤ 140737488355328) :
    Calls Tryd.prog 18 #[.pointer (some ⟨gy, 0, none⟩), .int .u64 (leftOf G 0 E : Int)] W fun r w' => ∃ k', r = .returned k' ∧ Own w' W.heap.size k' (nextGot G 0 E (leftOf G 0 E)) ∧ Own w' (gy + 1) k (nextGot G 0 E (leftOf G 0 E)) ∧ Seen gr gy A E w' ∧ Below w.heap.size w w' := by
  refine (rbytes_cur hy (leftOf G 0 E) hlen).mono ?_
  rintro r w' ⟨k', h1, h2, h3, h4⟩
  rw [all_err] at h3
  have hbl : gr < W.heap.size := World.block_lt_of_cell? W _ hS.1
  have hne' : some gr ≠ some gy := fun e => by injection e with e; omega
  exact ⟨k', h1, h2, hk.kept h4 (.inr fun e => by have := (own_ge hk _ e).1; omega), ⟨(World.cell?_of_block (h4.block gr hbl hne')).trans hS.1, (World.cell?_of_block (h4.block gr hbl hne')).trans hS.2.1, rc_e h3⟩,
    hb.trans (below_of_only h4 hb.size (fun x hx => by injection hx with hx; omega))⟩

theorem seen_drewN {W : World} {gr gy A : Nat} {E : Int} (h : Seen gr gy A E W) (q : Nat) : Seen gr gy A E (W.drewN q) := h

set_option maxHeartbeats 2000000 in
set_option maxRecDepth 10000 in
theorem lntakes_walk (a0 : Option Addr) (len0 cap0 : Nat) (z0 : List Int) (w : World) (hs : Sz w) (w0 : IsRow .u8 w a0 len0 cap0 z0) :
    Calls Tryd.prog 3 #[.slice a0 len0 cap0] w fun e w' => e = .returned (.bool true) ∧ Below w.heap.size w w' := by
  obtain ⟨l, hlen, hrd, hlc, hcm⟩ := row_bytes w0
  clear w0
  have hW := Lib.hid (fun (W : World) (hb : Below w.heap.size w W) => works_len (hs.below hb hs.pos))
  by_cases hbig : 3000 < len0
  · have hd : decide ((3000 : Int) < (len0 : Int)) = true := by simp; omega
    clear hs
    go_enter Tryd.func3, Tryd.ntmps3
    go_wp2_with (go_at_call 7; refine (hW.out _ (Below.refl _ _)).mono ?_; rintro r w1 ⟨rfl, hb1⟩)
    go_ret
    exact ⟨rfl, hb1⟩
  · have hd : decide ((3000 : Int) < (len0 : Int)) = false := by simp; omega
    have hl : l.length ≤ 140737488355328 := by omega
    have HN := Lib.hid (fun (W : World) (hb : Below w.heap.size w W) => (show Calls Tryd.prog 8 #[.slice a0 len0 cap0] W fun r w' => ∃ g v, r = .returned (.pointer (some ⟨g, 0, none⟩)) ∧ Made w.heap.size w' g v l 0 ∧ Below w.heap.size w w' from by
      have h := new_any cap0 (hrd.below hb) hb.size hl
      rw [hlen] at h
      refine h.mono ?_
      rintro r w' ⟨g, v, h1, h2, h3⟩
      exact ⟨g, v, h1, made_up hb.size h2, hb.trans (h3.mono hb.size)⟩))
    have HM := Lib.hid (fun (w1 : World) (g : Nat) (v : Value) (hb : Below w.heap.size w w1) (hM : Made w.heap.size w1 g v l 0) => (by have := Pair.make hb hM hrd (by omega : l.length ≤ cap0) hcm; rwa [hlen] at this : Pair w.heap.size w (w1.alloc (.cells #[.slice a0 len0 cap0, .int .i64 0, .int .i64 0] 28)) g v w1.heap.size (.slice a0 len0 cap0) l 0 0 0 0))
    have HT := Lib.hid (fun (W : World) (g : Nat) (v : Value) (gr : Nat) (P : Pair w.heap.size w W g v gr (.slice a0 len0 cap0) l 0 0 0 0) => (show Calls Tryd.prog 9 #[.pointer (some ⟨g, 0, none⟩)] W fun r w' => r = .returned (.tuple #[.int .u64 (tkN l 0 0 : Int), .bool (tkW l 0 0)]) ∧ Pair w.heap.size w w' g v gr (.slice a0 len0 cap0) l (tkA l 0 0) (tkE l 0 0) 0 0 from
      (take_len (P.sz hs hs.pos) P.c hl).mono fun r w' ⟨h1, h2, h3⟩ => ⟨h1, P.stepC h2 h3⟩))
    have QT := Lib.hid (fun (W : World) (g : Nat) (v : Value) (gr : Nat) (P : Pair w.heap.size w W g v gr (.slice a0 len0 cap0) l (tkA l 0 0) (tkE l 0 0) 0 0) => (show Calls Tryd.prog 10 #[.pointer (some ⟨gr, 0, none⟩)] W fun r w' => r = .returned (.tuple #[.int .u64 (tkN l 0 0 : Int), .bool (tkW l 0 0)]) ∧ Pair w.heap.size w w' g v gr (.slice a0 len0 cap0) l (tkA l 0 0) (tkE l 0 0) (tkA l 0 0) (tkE l 0 0) from
      (rtake_len P.r hl).mono fun r w' ⟨h1, h2, h3⟩ => ⟨h1, P.stepR h2 h3⟩))
    have HB := Lib.hid (fun (W : World) (g : Nat) (v : Value) (gr : Nat) (P : Pair w.heap.size w W g v gr (.slice a0 len0 cap0) l 0 0 0 0) => (show Calls Tryd.prog 13 #[.pointer (some ⟨g, 0, none⟩)] W fun r w' => ∃ gx vx, r = .returned (.tuple #[.pointer (some ⟨gx, 0, none⟩), .bool (bdW l 0 0)]) ∧ Pair w.heap.size w w' g v gr (.slice a0 len0 cap0) l (bdA l 0 0) (bdE l 0 0) 0 0 ∧ Cur w' gx vx (bdG l 0 0) 0 (bdE l 0 0) ∧ w.heap.size ≤ gx from
      (body_len (P.sz hs hs.pos) P.c hl).mono fun r w' ⟨gx, vx, h1, h2, h3, h4⟩ => ⟨gx, vx, h1, P.stepC h3 h4, h2.1, Nat.le_trans P.below.size h2.2.1⟩))
    have QB := Lib.hid (fun (W : World) (g : Nat) (v : Value) (gr gx : Nat) (vx : Value) (P : Pair w.heap.size w W g v gr (.slice a0 len0 cap0) l (bdA l 0 0) (bdE l 0 0) 0 0) (hX : Cur W gx vx (bdG l 0 0) 0 (bdE l 0 0)) (hx : w.heap.size ≤ gx) => (show Calls Tryd.prog 14 #[.pointer (some ⟨gr, 0, none⟩)] W fun r w' => ∃ gy vy, r = .returned (.tuple #[.pointer (some ⟨gy, 0, none⟩), .bool (bdW l 0 0)]) ∧ Four w w' g v gr (.slice a0 len0 cap0) l (bdA l 0 0) (bdE l 0 0) gx vx gy vy (bdG l 0 0) from
      (rbody_len P.r hl).mono fun r w' ⟨gy, vy, h1, h2, h3, h4⟩ => ⟨gy, vy, h1, ⟨P.stepR h3 h4, hX.behind P.r.1 h4, h2.1, hx, Nat.le_trans P.below.size h2.2.1, Nat.lt_of_lt_of_le P.r.1.lt h2.2.1⟩⟩))
    clear hs hlen hrd hlc hcm hbig
    generalize tkN l 0 0 = n at *
    generalize tkW l 0 0 = wd at *
    generalize tkA l 0 0 = A at *
    generalize tkE l 0 0 = E at *
    generalize bdW l 0 0 = bw at *
    generalize bdA l 0 0 = A2 at *
    generalize bdE l 0 0 = E2 at *
    have hG47 : (bdG l 0 0).length ≤ 140737488355328 := by
      have := nextGot_len_le l (tkA l 0 0) (tkE l 0 0) (tkN l 0 0)
      unfold bdG
      omega
    generalize bdG l 0 0 = G at *
    have hq : ∀ b : Bool, (b != b) = false := fun b => by cases b <;> rfl
    have hqe : ∀ b : Bool, (b == b) = true := fun b => by cases b <;> rfl
    have hqi : ∀ i : Int, (i != i) = false := fun i => by simp
    go_enter Tryd.func3, Tryd.ntmps3
    go_wp2_with (first
      | (go_at_call 8; refine (HN.out _ (Below.refl _ _)).mono ?_; rintro r w1 ⟨g, v, rfl, hM, hb1⟩; have T0 := Lib.hid (HM.out w1 g v hb1 hM); clear hM hb1)
      | (go_at_call 9; refine (HT.out _ _ _ _ T0.out).mono ?_; rintro r w2 ⟨rfl, hP⟩; have T1 := Lib.hid hP; clear hP)
      | (go_at_call 10; refine (QT.out _ _ _ _ T1.out).mono ?_; rintro r w3 ⟨rfl, hP⟩; have T2 := Lib.hid hP; have hS1 := rr_at hP.r; have hS2 := rr_e hP.r; clear hP))
    go_region_held_law (fun W => W.cell? ⟨w1.heap.size, 1, none⟩ = some (.int .i64 (A : Int)) ∧ W.cell? ⟨w1.heap.size, 2, none⟩ = some (.int .i64 E)) ((exact ⟨hS1, hS2⟩)) (first
      | (go_at_call 11; refine (at_cur (T2.out.c.drewN _)).mono ?_; rintro r w4 ⟨rfl, rfl⟩)
      | (go_at_call 12; refine (err_cur (T2.out.c.drewN _)).mono ?_; rintro r w4 ⟨rfl, rfl⟩))
    go_wp2_with (first
      | (go_at_call 8; refine (HN.out _ (below_drewN T2.out.below _)).mono ?_; rintro r w5 ⟨g2, v2, rfl, hM, hb5⟩; have T3 := Lib.hid (HM.out w5 g2 v2 hb5 hM); clear hM hb5 T0 T1 T2 hS1 hS2)
      | (go_at_call 13; refine (HB.out _ _ _ _ T3.out).mono ?_; rintro r w6 ⟨gx, vx, rfl, hP, hX, hx⟩; have T4 := Lib.hid hP; have X4 := Lib.hid hX; have HX := Lib.hid hx; clear hP hX hx)
      | (go_at_call 14; refine (QB.out _ _ _ _ _ _ T4.out X4.out HX.out).mono ?_; rintro r w7 ⟨gy, vy, rfl, hF⟩; have T5 := Lib.hid hF; clear hF T3 T4 X4 HX))
    clear HN HM HT QT HB QB
    have HBx := Lib.hid (fun q => (T5.out.drewN q).stepX hG47)
    have HBy := Lib.hid (fun (W : World) (k : Value) (hS : Seen w5.heap.size gy A2 E2 W) (hy : RC W gy vy G 0 E2) (hb : Below w.heap.size w W) (hk : Own W (gy + 1) k (nextGot G 0 E2 (leftOf G 0 E2))) => step_y hS hy hb T5.out.hy T5.out.ne hk hG47)
    have HLx := Lib.hid (fun q => left_cur (T5.out.x.drewN q))
    have HLy := Lib.hid (fun (W : World) (hy : RC W gy vy G 0 E2) => rleft_cur hy)
    have HAt := Lib.hid (fun q => at_cur (T5.out.p.c.drewN q))
    have HE1 := Lib.hid (fun q => err_cur (T5.out.p.c.drewN q))
    have HE2 := Lib.hid (fun q => err_cur (T5.out.x.drewN q))
    have HCV := Lib.hid (fun (W : World) (base : Nat) (u : Value) (h : Own W base u (nextGot G 0 E2 (leftOf G 0 E2))) => conv_all h)
    have HCV0 := Lib.hid (fun (W : World) (base : Nat) (u : Value) (h : Own W base u (nextGot G 0 E2 (leftOf G 0 E2))) => (show (convert 22 9 u).run Tryd.prog W = .ok (.string (allS G E2)) W from conv_own h))
    have hS7 : ∀ q, Seen w5.heap.size gy A2 E2 (w7.drewN q) := fun q => seen_drewN T5.out.seen q
    have Y7 := Lib.hid T5.out.y
    have hle : (leftOf G 0 E2 : Int) ≤ 140737488355328 := by
      have : leftOf G 0 E2 ≤ G.length := by unfold leftOf; split <;> omega
      omega
    have s1 : IntKind.u64.wrap (leftOf G 0 E2 : Int) = (leftOf G 0 E2 : Int) := by rw [IntWalk.u64_in _ (by omega)]
    clear hle T5
    generalize leftOf G 0 E2 = K at *
    generalize nextGot G 0 E2 K = got at *
    generalize allS G E2 = sG at *
    go_region_held_law (fun W => W.cell? ⟨w5.heap.size, 1, none⟩ = some (.int .i64 (A2 : Int)) ∧ W.cell? ⟨w5.heap.size, 2, none⟩ = some (.int .i64 E2) ∧ W.cell? ⟨gy, 2, none⟩ = some (.int .i64 E2)) ((first | exact hS7 _ | exact seen_drewN hS8 _ | exact hS8 | exact hSA | exact hSW)) (first
      | (go_at_call 11; refine (HAt.out _).mono ?_; rintro r wa ⟨rfl, rfl⟩)
      | (go_at_call 12; refine (HE1.out _).mono ?_; rintro r wa ⟨rfl, rfl⟩; clear HE1)
      | (go_at_call 12; refine (HE2.out _).mono ?_; rintro r wa ⟨rfl, rfl⟩; clear HE2)
      | (go_at_call 15; refine (HLx.out _).mono ?_; rintro r wa ⟨rfl, na, rfl⟩)
      | (go_at_call 16; refine (HLy.out _ (Y7.out.drewN _)).mono ?_; rintro r wa ⟨rfl, nb, rfl⟩; clear Y7)
      | (go_at_call 17; refine (HBx.out _).mono ?_; rintro r w8 ⟨u8, rfl, hO8, hS8, hY8, hb8⟩; have hcv := HCV.out _ _ _ hO8; have hcv0 := HCV0.out _ _ _ hO8; have Y8 := Lib.hid hY8; have O8 := Lib.hid hO8; clear hO8 hY8)
      | (go_at_call 16; refine (HLy.out _ Y8.out).mono ?_; rintro r wa ⟨rfl, nc, rfl⟩)
      | (go_at_call 18; refine (HBy.out _ _ (seen_drewN hS8 _) (Y8.out.drewN _) (below_drewN hb8 _) O8.out).mono ?_; rintro r w9 ⟨u9, rfl, hO9, hO8', hSA, hb9⟩; have hcv9 := HCV0.out _ _ _ hO9; have hcv8 := HCV0.out _ _ _ hO8'; clear hO9 hO8')
      | (go_at_call 7; refine (hW.out _ hb9).mono ?_; rintro r wb ⟨rfl, hbb⟩; have hSW := seen_below hSA hbb; have hbf := hb9.trans (hbb.mono hb9.size); clear hbb))
    all_goals go_wp2
    all_goals go_ret
    all_goals exact ⟨rfl, hbf⟩

end Go.Proofs.YtlfejggailoleaaDoor
