/-
  One call on both sides (the law's helper 'does'): the cursor and the document's own answer alike, and stand alike behind it. Here: Seek, Fail, U8 to U64, and a kind that is no call.
-/
import Derived.Test.YtphnifkmcppflaaRefE
namespace Go.Proofs.Ytphnifkmcppflaa
open Go Go.RowKit

/-- The two cursors and the call's own copy of what is asked. -/
structure DS (B : Nat) (w0 w : World) (gc : Nat) (vc : Value) (gr : Nat) (vr : Value) (l : List UInt8) (a : Nat) (e : Int) (a2 : Nat) (e2 : Int) (q : Nat) (kind : Int) (n : Nat) : Prop where
  cc : Cur w gc vc l a e
  rc : RC w gr vr l a2 e2
  bx : Box w q 33 #[.int .i64 kind, .int .u64 (n : Int)]
  bel : Below B w0 w
  lc : B ≤ gc
  lr : B ≤ gr
  lB : B ≤ w0.heap.size

section
variable {B : Nat} {w0 w w' : World} {gc gr q n : Nat} {vc vr : Value} {l : List UInt8} {a a2 a' : Nat} {e e2 e' kind : Int}
theorem DS.c (h : DS B w0 w gc vc gr vr l a e a2 e2 q kind n) (hC : Cur w' gc vc l a' e') (hG : w.grownBy w' (some gc)) : DS B w0 w' gc vc gr vr l a' e' a2 e2 q kind n :=
  ⟨hC, h.rc.behind h.cc.1 hG, h.bx.grown hG (by have := h.bx.other h.cc.1 (by decide); simpa using this), h.bel.trans (below_of_only hG (Nat.le_trans h.lB h.bel.size) fun k hk => by injection hk with hk; subst hk; exact h.lc), h.lc, h.lr, h.lB⟩
theorem DS.r (h : DS B w0 w gc vc gr vr l a e a2 e2 q kind n) (hC : RC w' gr vr l a' e') (hG : w.grownBy w' (some gr)) : DS B w0 w' gc vc gr vr l a e a' e' q kind n :=
  ⟨h.cc.behind h.rc.1 hG, hC, h.bx.grown hG (by have := h.bx.other h.rc.1 (by decide); simpa using this), h.bel.trans (below_of_only hG (Nat.le_trans h.lB h.bel.size) fun k hk => by injection hk with hk; subst hk; exact h.lr), h.lc, h.lr, h.lB⟩
theorem DS.on (h : DS B w0 w gc vc gr vr l a e a2 e2 q kind n) (hb : Below w.heap.size w w') : DS B w0 w' gc vc gr vr l a e a2 e2 q kind n :=
  ⟨h.cc.below hb, h.rc.below hb, h.bx.below hb h.bx.lt, h.bel.trans (hb.mono (Nat.le_trans h.lB h.bel.size)), h.lc, h.lr, h.lB⟩
theorem DS.drewN (h : DS B w0 w gc vc gr vr l a e a2 e2 q kind n) (k : Nat) : DS B w0 (w.drewN k) gc vc gr vr l a e a2 e2 q kind n := h.on (below_drewN (Below.refl _ _) k)
end

/-- What a call on both sides leaves. -/
def Does (B : Nat) (w : World) (gc : Nat) (vc : Value) (gr : Nat) (vr : Value) (l : List UInt8) (r : Ending) (w' : World) : Prop :=
  r = .returned (.bool true) ∧ (∃ a e, Cur w' gc vc l a e ∧ RC w' gr vr l a e) ∧ Below B w w'

theorem DS.start {B : Nat} {w : World} {gc : Nat} {vc : Value} {gr : Nat} {vr : Value} {l : List UInt8} {a : Nat} {e : Int} (hc : Cur w gc vc l a e) (hr : RC w gr vr l a e) (h1 : B ≤ gc) (h2 : B ≤ gr) (hB : B ≤ w.heap.size) (kind : Int) (n : Nat) :
    DS B w (w.alloc (.cells #[.int .i64 kind, .int .u64 (n : Int)] 33)) gc vc gr vr l a e a e w.heap.size kind n :=
  ⟨hc.below ((Below.refl _ _).alloc (Nat.le_refl _) _), hr.below ((Below.refl _ _).alloc (Nat.le_refl _) _), Box.new _ _ _, (Below.refl _ _).alloc hB _, h1, h2, hB⟩
theorem DS.done {B : Nat} {w0 w : World} {gc gr q n : Nat} {vc vr : Value} {l : List UInt8} {a : Nat} {e kind : Int} (h : DS B w0 w gc vc gr vr l a e a e q kind n) : Does B w0 gc vc gr vr l (.returned (.bool true)) w :=
  ⟨rfl, ⟨a, e, h.cc, h.rc⟩, h.bel⟩

theorem does_u8 {B : Nat} {w : World} {gc : Nat} {vc : Value} {gr : Nat} {vr : Value} {l : List UInt8} {a : Nat} {e : Int} (hc : Cur w gc vc l a e) (hr : RC w gr vr l a e) (h1 : B ≤ gc) (h2 : B ≤ gr) (hB : B ≤ w.heap.size) (hlen : l.length ≤ 140737488355328) (n : Nat) :
    Calls Try.prog 11 #[.agg #[.int .i64 5, .int .u64 (n : Int)], .pointer (some ⟨gc, 0, none⟩), .pointer (some ⟨gr, 0, none⟩)] w (Does B w gc vc gr vr l) := by
  have D0 := Lib.hid (DS.start hc hr h1 h2 hB 5 n)
  have hck : clampOf 1 = 1 := rfl
  have HR := Lib.hid (fun W a e (h : RC W gr vr l a e) => (show Calls Try.prog 33 #[.pointer (some ⟨gr, 0, none⟩), .int .i64 1] W fun r w' => r = .returned (.int .u64 (leNat (nextGot l a e 1) : Int)) ∧ RC w' gr vr l (nextAt l a e 1) (nextErr l a e 1) ∧ W.grownBy w' (some gr) from by
    have := ruint_cur h 1 (by omega) hlen
    rwa [hck] at this))
  have HC := Lib.hid (fun W a e (h : Cur W gc vc l a e) => u8_cur h hlen)
  have b0 := D0.out.bx.cell 0
  simp at b0
  clear hc hr hck hlen
  go_enter Try.func11, Try.ntmps11
  go_wp2_with (first
    | (go_at_call 26; refine (HC.out _ _ _ D0.out.cc).mono ?_; rintro r w1 ⟨rfl, hC1, hG1⟩; have D1 := Lib.hid (D0.out.c hC1 hG1); clear hC1 hG1)
    | (go_at_call 33; refine (HR.out _ _ _ D1.out.rc).mono ?_; rintro r w2 ⟨rfl, hC2, hG2⟩; have D2 := Lib.hid (D1.out.r hC2 hG2); clear hC2 hG2))
  go_ret
  exact D2.out.done

theorem does_u16 {B : Nat} {w : World} {gc : Nat} {vc : Value} {gr : Nat} {vr : Value} {l : List UInt8} {a : Nat} {e : Int} (hc : Cur w gc vc l a e) (hr : RC w gr vr l a e) (h1 : B ≤ gc) (h2 : B ≤ gr) (hB : B ≤ w.heap.size) (hlen : l.length ≤ 140737488355328) (n : Nat) :
    Calls Try.prog 11 #[.agg #[.int .i64 6, .int .u64 (n : Int)], .pointer (some ⟨gc, 0, none⟩), .pointer (some ⟨gr, 0, none⟩)] w (Does B w gc vc gr vr l) := by
  have D0 := Lib.hid (DS.start hc hr h1 h2 hB 6 n)
  have hck : clampOf 2 = 2 := rfl
  have HR := Lib.hid (fun W a e (h : RC W gr vr l a e) => (show Calls Try.prog 33 #[.pointer (some ⟨gr, 0, none⟩), .int .i64 2] W fun r w' => r = .returned (.int .u64 (leNat (nextGot l a e 2) : Int)) ∧ RC w' gr vr l (nextAt l a e 2) (nextErr l a e 2) ∧ W.grownBy w' (some gr) from by
    have := ruint_cur h 2 (by omega) hlen
    rwa [hck] at this))
  have HC := Lib.hid (fun W a e (h : Cur W gc vc l a e) => u16_cur h hlen)
  have b0 := D0.out.bx.cell 0
  simp at b0
  clear hc hr hck hlen
  go_enter Try.func11, Try.ntmps11
  go_wp2_with (first
    | (go_at_call 27; refine (HC.out _ _ _ D0.out.cc).mono ?_; rintro r w1 ⟨rfl, hC1, hG1⟩; have D1 := Lib.hid (D0.out.c hC1 hG1); clear hC1 hG1)
    | (go_at_call 33; refine (HR.out _ _ _ D1.out.rc).mono ?_; rintro r w2 ⟨rfl, hC2, hG2⟩; have D2 := Lib.hid (D1.out.r hC2 hG2); clear hC2 hG2))
  go_ret
  exact D2.out.done

theorem does_u32 {B : Nat} {w : World} {gc : Nat} {vc : Value} {gr : Nat} {vr : Value} {l : List UInt8} {a : Nat} {e : Int} (hc : Cur w gc vc l a e) (hr : RC w gr vr l a e) (h1 : B ≤ gc) (h2 : B ≤ gr) (hB : B ≤ w.heap.size) (hlen : l.length ≤ 140737488355328) (n : Nat) :
    Calls Try.prog 11 #[.agg #[.int .i64 7, .int .u64 (n : Int)], .pointer (some ⟨gc, 0, none⟩), .pointer (some ⟨gr, 0, none⟩)] w (Does B w gc vc gr vr l) := by
  have D0 := Lib.hid (DS.start hc hr h1 h2 hB 7 n)
  have hck : clampOf 4 = 4 := rfl
  have HR := Lib.hid (fun W a e (h : RC W gr vr l a e) => (show Calls Try.prog 33 #[.pointer (some ⟨gr, 0, none⟩), .int .i64 4] W fun r w' => r = .returned (.int .u64 (leNat (nextGot l a e 4) : Int)) ∧ RC w' gr vr l (nextAt l a e 4) (nextErr l a e 4) ∧ W.grownBy w' (some gr) from by
    have := ruint_cur h 4 (by omega) hlen
    rwa [hck] at this))
  have HC := Lib.hid (fun W a e (h : Cur W gc vc l a e) => u32_cur h hlen)
  have b0 := D0.out.bx.cell 0
  simp at b0
  clear hc hr hck hlen
  go_enter Try.func11, Try.ntmps11
  go_wp2_with (first
    | (go_at_call 28; refine (HC.out _ _ _ D0.out.cc).mono ?_; rintro r w1 ⟨rfl, hC1, hG1⟩; have D1 := Lib.hid (D0.out.c hC1 hG1); clear hC1 hG1)
    | (go_at_call 33; refine (HR.out _ _ _ D1.out.rc).mono ?_; rintro r w2 ⟨rfl, hC2, hG2⟩; have D2 := Lib.hid (D1.out.r hC2 hG2); clear hC2 hG2))
  go_ret
  exact D2.out.done

theorem does_u64 {B : Nat} {w : World} {gc : Nat} {vc : Value} {gr : Nat} {vr : Value} {l : List UInt8} {a : Nat} {e : Int} (hc : Cur w gc vc l a e) (hr : RC w gr vr l a e) (h1 : B ≤ gc) (h2 : B ≤ gr) (hB : B ≤ w.heap.size) (hlen : l.length ≤ 140737488355328) (n : Nat) :
    Calls Try.prog 11 #[.agg #[.int .i64 8, .int .u64 (n : Int)], .pointer (some ⟨gc, 0, none⟩), .pointer (some ⟨gr, 0, none⟩)] w (Does B w gc vc gr vr l) := by
  have D0 := Lib.hid (DS.start hc hr h1 h2 hB 8 n)
  have hck : clampOf 8 = 8 := rfl
  have HR := Lib.hid (fun W a e (h : RC W gr vr l a e) => (show Calls Try.prog 33 #[.pointer (some ⟨gr, 0, none⟩), .int .i64 8] W fun r w' => r = .returned (.int .u64 (leNat (nextGot l a e 8) : Int)) ∧ RC w' gr vr l (nextAt l a e 8) (nextErr l a e 8) ∧ W.grownBy w' (some gr) from by
    have := ruint_cur h 8 (by omega) hlen
    rwa [hck] at this))
  have HC := Lib.hid (fun W a e (h : Cur W gc vc l a e) => u64_cur h hlen)
  have b0 := D0.out.bx.cell 0
  simp at b0
  clear hc hr hck hlen
  go_enter Try.func11, Try.ntmps11
  go_wp2_with (first
    | (go_at_call 29; refine (HC.out _ _ _ D0.out.cc).mono ?_; rintro r w1 ⟨rfl, hC1, hG1⟩; have D1 := Lib.hid (D0.out.c hC1 hG1); clear hC1 hG1)
    | (go_at_call 33; refine (HR.out _ _ _ D1.out.rc).mono ?_; rintro r w2 ⟨rfl, hC2, hG2⟩; have D2 := Lib.hid (D1.out.r hC2 hG2); clear hC2 hG2))
  go_ret
  exact D2.out.done

theorem does_seek {B : Nat} {w : World} {gc : Nat} {vc : Value} {gr : Nat} {vr : Value} {l : List UInt8} {a : Nat} {e : Int} (hc : Cur w gc vc l a e) (hr : RC w gr vr l a e) (h1 : B ≤ gc) (h2 : B ≤ gr) (hB : B ≤ w.heap.size) (hlen : l.length ≤ 140737488355328) (n : Nat) (hn : n < two64) :
    Calls Try.prog 11 #[.agg #[.int .i64 3, .int .u64 (n : Int)], .pointer (some ⟨gc, 0, none⟩), .pointer (some ⟨gr, 0, none⟩)] w (Does B w gc vc gr vr l) := by
  have D0 := Lib.hid (DS.start hc hr h1 h2 hB 3 n)
  have HC := Lib.hid (fun W a e (h : Cur W gc vc l a e) => seek_cur h n hn hlen)
  have HR := Lib.hid (fun W a e (h : RC W gr vr l a e) => rseek_cur h n hlen)
  have b0 := D0.out.bx.cell 0
  have b1 := D0.out.bx.cell 1
  simp at b0 b1
  clear hc hr hn hlen
  go_enter Try.func11, Try.ntmps11
  go_wp2_with (first
    | (go_at_call 24; refine (HC.out _ _ _ D0.out.cc).mono ?_; rintro r w1 ⟨rfl, hC1, hG1⟩; have D1 := Lib.hid (D0.out.c hC1 hG1); clear hC1 hG1; have c1 := D1.out.bx.cell 1; simp at c1)
    | (go_at_call 36; refine (HR.out _ _ _ D1.out.rc).mono ?_; rintro r w2 ⟨rfl, hC2, hG2⟩; have D2 := Lib.hid (D1.out.r hC2 hG2); clear hC2 hG2))
  go_ret
  exact D2.out.done

theorem does_fail {B : Nat} {w : World} {gc : Nat} {vc : Value} {gr : Nat} {vr : Value} {l : List UInt8} {a : Nat} {e : Int} (hc : Cur w gc vc l a e) (hr : RC w gr vr l a e) (h1 : B ≤ gc) (h2 : B ≤ gr) (hB : B ≤ w.heap.size) (n : Nat) (hn : n < two64) :
    Calls Try.prog 11 #[.agg #[.int .i64 4, .int .u64 (n : Int)], .pointer (some ⟨gc, 0, none⟩), .pointer (some ⟨gr, 0, none⟩)] w (Does B w gc vc gr vr l) := by
  have D0 := Lib.hid (DS.start hc hr h1 h2 hB 4 n)
  have HC := Lib.hid (fun W a e f (h : Cur W gc vc l a e) => fail_cur h f)
  have HR := Lib.hid (fun W a e f (h : RC W gr vr l a e) => rfail_cur h f)
  have b0 := D0.out.bx.cell 0
  have b1 := D0.out.bx.cell 1
  simp at b0 b1
  unfold two64 at hn
  clear hc hr
  go_enter Try.func11, Try.ntmps11
  go_wp2_with (first
    | (go_at_call 37; refine (HC.out _ _ _ _ D0.out.cc).mono ?_; rintro r w1 ⟨rfl, hC1, hG1⟩; have D1 := Lib.hid (D0.out.c hC1 hG1); clear hC1 hG1; have c1 := D1.out.bx.cell 1; simp at c1)
    | (go_at_call 38; refine (HR.out _ _ _ _ D1.out.rc).mono ?_; rintro r w2 ⟨rfl, hC2, hG2⟩; have D2 := Lib.hid (D1.out.r hC2 hG2); clear hC2 hG2))
  go_ret
  exact D2.out.done

theorem does_none {B : Nat} {w : World} {gc : Nat} {vc : Value} {gr : Nat} {vr : Value} {l : List UInt8} {a : Nat} {e : Int} (hc : Cur w gc vc l a e) (hr : RC w gr vr l a e) (h1 : B ≤ gc) (h2 : B ≤ gr) (hB : B ≤ w.heap.size) (kind : Int) (hk : kind < 0 ∨ 8 < kind) (n : Nat) :
    Calls Try.prog 11 #[.agg #[.int .i64 kind, .int .u64 (n : Int)], .pointer (some ⟨gc, 0, none⟩), .pointer (some ⟨gr, 0, none⟩)] w (Does B w gc vc gr vr l) := by
  have D0 := Lib.hid (DS.start hc hr h1 h2 hB kind n)
  have b0 := D0.out.bx.cell 0
  simp at b0
  have k0 : (kind == 0) = false := by simp; omega
  have k1 : (kind == 1) = false := by simp; omega
  have k2 : (kind == 2) = false := by simp; omega
  have k3 : (kind == 3) = false := by simp; omega
  have k4 : (kind == 4) = false := by simp; omega
  have k5 : (kind == 5) = false := by simp; omega
  have k6 : (kind == 6) = false := by simp; omega
  have k7 : (kind == 7) = false := by simp; omega
  have k8 : (kind == 8) = false := by simp; omega
  clear hc hr hk
  go_enter Try.func11, Try.ntmps11
  go_wp2
  go_ret
  exact D0.out.done

end Go.Proofs.Ytphnifkmcppflaa
