/-
  The document's own cursor over bytes that it was handed: Bytes and Sub; the document's Take and Body of a length.
-/
import Derived.Test.YtejicboemkpeoaaGreatDoorRefR
import Derived.Test.YtejicboemkpeoaaGreatDoorRwB
import Derived.Test.YtejicboemkpeoaaGreatDoorCurN
namespace Go.Proofs.YtejicboemkpeoaaGreatDoor
open Go Go.RowKit

set_option maxRecDepth 20000 in
set_option maxHeartbeats 1600000 in
theorem qbytes_ok {B : Nat} {w : World} {g : Nat} {v : Value} {l : List UInt8} {a : Nat} (h : RR B w g v l a 0) (n : Nat) (hlen : l.length ≤ 140737488355328) (hn : n ≤ l.length - a) :
    Calls Tryz.prog 140 #[.pointer (some ⟨g, 0, none⟩), .int .u64 (n : Int)] w fun r w' =>
      ∃ u, r = .returned u ∧ Own w' w.heap.size u ((l.drop a).take n) ∧ RR B w' g v l (a + n) 0 ∧ w.grownBy w' (some g) := by
  obtain ⟨A, c, hv, hlc, hcm, hrd⟩ := h.2.1
  subst hv
  obtain ⟨i0, hi, hz0, hz1, hz2⟩ := info_parts u8_info
  have hL := fun W (hW : W = w) => qleft (w := W) (hW ▸ h)
  have h0 := h.1.cell 0
  have h1 := h.1.cell 1
  have h2 := h.1.cell 2
  have f1 := h.1.free 1
  simp at h0 h1 h2
  have hgl := h.1.lt
  have hal := h.2.2.1
  unfold maxLen at hcm
  rw [rc_left] at hL
  obtain ⟨part, hpart⟩ : ∃ p, p = (l.drop a).take n := ⟨_, rfl⟩
  have hpl : part.length = n := by rw [hpart]; simp; omega
  rw [← hpart]
  have hrp := rd_part (hrd.more (B' := w.heap.size) (by have := h.2.2.2; omega)) a n
  rw [← hpart] at hrp
  have hsum : ([] : List UInt8).length + part.length ≤ 140737488355328 := by rw [hpl]; simp; omega
  have HPL := Lib.hid hpl
  have HC := Lib.hid (fun w1 (hb : Below w.heap.size w w1) => (show RR B (w1.setCell ⟨g, 1, none⟩ (.int .i64 ((a : Int) + (n : Int)))) g (.slice A l.length c) l (a + n) 0 from by
    have := (h.below hb).moved (a + n) (by omega)
    rwa [Int.natCast_add] at this))
  have HO := Lib.hid (fun w1 v1 (_ : Below w.heap.size w w1) (ho : Own w1 w.heap.size v1 ([] ++ part)) => (show Own (w1.setCell ⟨g, 1, none⟩ (.int .i64 ((a : Int) + (n : Int)))) w.heap.size v1 part from
    World.ownsRow.kept (w := w1) ho (only_set (only_refl w1 (some g)) 1 _) (.inr (fun e => by have := (own_ge ho _ e).1; omega))))
  have KS := Lib.hid (fun (W : World) (hW : Below w.heap.size w W) => (⟨hW, (hW.cell (p := ⟨g, 0, none⟩) hgl).trans h0, (hW.cell (p := ⟨g, 1, none⟩) hgl).trans h1⟩ : Below w.heap.size w W ∧ W.cell? ⟨g, 0, none⟩ = some (.slice A l.length c) ∧ W.cell? ⟨g, 1, none⟩ = some (.int .i64 (a : Int))))
  have HK1 := Lib.hid (fun (W : World) (hW : Below w.heap.size w W) => (hW.cell (p := ⟨g, 1, none⟩) hgl).trans h1)
  have HK2 := Lib.hid (fun (W : World) (hW : Below w.heap.size w W) => (hW.frozen (p := ⟨g, 1, none⟩) hgl).trans f1)
  have hq : decide (l.length - a < n) = false := by simp; omega
  have hK0 : ((l.length - a : Nat) : Int) ≤ 140737488355328 := by omega
  have han : (a : Int) + (n : Int) ≤ (l.length : Int) := by omega
  have hl47 : (l.length : Int) ≤ 140737488355328 := by omega
  have hlc' : (l.length : Int) ≤ (c : Int) := by omega
  have s1 : IntKind.i64.wrap ((a : Int) + (n : Int)) = (a : Int) + (n : Int) := by rw [IntWalk.i64_in _ (by omega)]
  have s2 : IntKind.i64.wrap (n : Int) = (n : Int) := by rw [IntWalk.i64_in _ (by omega)]
  have b0 : (0 : Int) ≤ (a : Int) := by omega
  have b1 : (a : Int) ≤ (a : Int) + (n : Int) := by omega
  have b2 : (a : Int) + (n : Int) ≤ (c : Int) := by omega
  have hca0 : c = a → part = [] := fun e => List.eq_nil_of_length_eq_zero (by rw [hpl]; omega)
  have HA := Lib.hid hca0
  have HX := Lib.hid hrp
  clear hpl hpart h hrd hrp hal hlen hca0
  generalize l.length - a = K at *
  generalize hN : l.length = N at *
  have HN := Lib.hid hN
  clear hN
  obtain ⟨A2, c2, hsl, hra⟩ : ∃ A2 c2, (∀ W : World, (Instr.slice 26 (.slice A N c) (some (.int .i64 (a : Int))) (some (.int .i64 ((a : Int) + (n : Int)))) none).run Tryz.prog W = .ok (.slice A2 n c2) W) ∧ Hid (Rd w w.heap.size A2 part) := by
    have hnn : ((a : Int) + (n : Int)).toNat - a = n := by omega
    have hs1 : ∀ W : World, (sizeOf (Tryz.prog.elem 26)).run Tryz.prog W = .ok 1 W := fun W => by kernel_rfl
    refine ⟨if c = a then A else Option.map (fun x => x.add a) A, c - a, fun W => ?_, ?_⟩
    · rw [run_slice_lh W _ _ _ _ Tryz.underlying26 _ _ _ _ b0 b1 b2, hs1]
      simp only [Result.andThen, sliced, hnn, Int.toNat_natCast, Nat.mul_one]
    · by_cases hca : c = a
      · rw [HA.out hca]; exact Lib.hid Rd.nil_
      · rw [if_neg hca]; exact HX
  have HR := Lib.hid (fun (W : World) (hW : Below w.heap.size w W) => hra.out.below hW)
  clear hra
  go_enter Tryz.func140, Tryz.ntmps140
  go_wp2_with (go_at_call 96; refine (hL _ rfl).mono ?_; rintro r w' ⟨rfl, k, rfl⟩)
  go_region_held_law (fun W => Below w.heap.size w W ∧ W.cell? ⟨g, 0, none⟩ = some (.slice A N c) ∧ W.cell? ⟨g, 1, none⟩ = some (.int .i64 (a : Int))) ((refine KS.out _ ?_; repeat' (first | (with_reducible exact Below.refl _ _) | (with_reducible assumption) | (with_reducible refine below_drewN ?_ _) | (with_reducible refine Below.drew ?_) | (with_reducible refine Below.alloc ?_ ?_ _) | go_size))) (first
    | (refine step_append_bytes (by rfl) (.tmp 26) (.tmp 42) _ (by rfl) w.heap.size i0 Tryz.underlying26 hi hz0 hz1 hz2 (.slice (some ⟨w.heap.size, 0, none⟩) 0 0) [] (by rfl) (by exact own_new w) w.heap.size _ _ _ part HPL.out (by rfl) (HR.out _ (by (repeat' (first | (with_reducible exact Below.refl _ _) | (with_reducible assumption) | (with_reducible refine below_drewN ?_ _) | (with_reducible refine Below.drew ?_) | (with_reducible refine Below.alloc ?_ ?_ _) | go_size)))) hsum (by simp) ?_; intro v1 w1 hown1 hg1 hat1; have hb1 : Below w.heap.size w w1 := (show Below w.heap.size w _ by (repeat' (first | (with_reducible exact Below.refl _ _) | (with_reducible assumption) | (with_reducible refine below_drewN ?_ _) | (with_reducible refine Below.drew ?_) | (with_reducible refine Below.alloc ?_ ?_ _) | go_size))).grown hg1 (by simp) (by simp [Value.ownBlock]); have hk1 := HK1.out _ hb1; have hk2 := HK2.out _ hb1; clear hg1 hat1))
  all_goals go_wp2
  all_goals go_ret
  all_goals exact ⟨_, rfl, HO.out _ _ hb1 hown1, HC.out _ hb1, only_set (only_below hb1 (some g)) 1 _⟩

theorem qbytes_short {B : Nat} {w : World} {g : Nat} {v : Value} {l : List UInt8} {a : Nat} (h : RR B w g v l a 0) (n : Nat) (hlen : l.length ≤ 140737488355328) (hn : l.length - a < n) :
    Calls Tryz.prog 140 #[.pointer (some ⟨g, 0, none⟩), .int .u64 (n : Int)] w fun r w' => r = .returned (.slice none 0 0) ∧ RR B w' g v l a 10 ∧ w.grownBy w' (some g) := by
  have hL := fun W (hW : W = w) => qleft (w := W) (hW ▸ h)
  have h2 := h.1.cell 2
  have f2 := h.1.free 2
  simp at h2
  rw [rc_left] at hL
  have HC := Lib.hid (fun k => (h.drewN k).failed 10)
  have HO := Lib.hid (fun k u => only_set (only_drewN (only_refl w (some g)) k) 2 u)
  have hq : decide (l.length - a < n) = true := by simp; omega
  have hK0 : ((l.length - a : Nat) : Int) ≤ 140737488355328 := by omega
  clear h
  generalize l.length - a = K at *
  go_enter Tryz.func140, Tryz.ntmps140
  go_wp2_with (go_at_call 96; refine (hL _ rfl).mono ?_; rintro r w' ⟨rfl, k, rfl⟩)
  go_ret
  exact ⟨rfl, HC.out _, HO.out _ _⟩

theorem qbytes_ref {B : Nat} {w : World} {g : Nat} {v : Value} {l : List UInt8} {a : Nat} {e : Int} (h : RR B w g v l a e) (he : e ≠ 0) (n : Nat) :
    Calls Tryz.prog 140 #[.pointer (some ⟨g, 0, none⟩), .int .u64 (n : Int)] w fun r w' => r = .returned (.slice none 0 0) ∧ w = w' := by
  have h2 := h.1.cell 2
  simp at h2
  have hz : (e == 0) = false := by simp [he]
  have hz2 : (e != 0) = true := by simp [he]
  clear h he
  go_enter Tryz.func140, Tryz.ntmps140
  go_wp2
  go_ret
  exact ⟨rfl, rfl⟩

theorem qbytes_cur {B : Nat} {w : World} {g : Nat} {v : Value} {l : List UInt8} {a : Nat} {e : Int} (h : RR B w g v l a e) (n : Nat) (hlen : l.length ≤ 140737488355328) :
    Calls Tryz.prog 140 #[.pointer (some ⟨g, 0, none⟩), .int .u64 (n : Int)] w fun r w' =>
      ∃ u, r = .returned u ∧ Own w' w.heap.size u (nextGot l a e n) ∧ RR B w' g v l (nextAt l a e n) (nextErr l a e n) ∧ w.grownBy w' (some g) := by
  by_cases he : e = 0
  · subst he
    by_cases hn : n ≤ l.length - a
    · have hf := next_fits l a n hn
      rw [hf.1, hf.2.1, hf.2.2]
      exact qbytes_ok h n hlen hn
    · refine (qbytes_short h n hlen (by omega)).mono fun r w' ⟨h1, h3, h4⟩ => ⟨_, h1, ?_, ?_, h4⟩
      · have e : nextGot l a 0 n = [] := by simp [nextGot, hn]
        rw [e]; exact World.ownsRow_nil _ _ _ _
      · simpa [nextAt, nextErr, hn] using h3
  · refine (qbytes_ref h he n).mono fun r w' ⟨h1, h2⟩ => ⟨_, h1, ?_, ?_, ?_⟩
    · have e' : nextGot l a e n = [] := by simp [nextGot, he]
      rw [e']; exact World.ownsRow_nil _ _ _ _
    · subst h2; simpa [nextAt, nextErr, he] using h
    · subst h2; exact only_refl _ _

theorem rr_e {B : Nat} {w : World} {g : Nat} {v : Value} {l : List UInt8} {a : Nat} {e : Int} (h : RR B w g v l a e) : w.cell? ⟨g, 2, none⟩ = some (.int .i64 e) := by
  have := h.1.cell 2
  simpa using this
theorem rr_at {B : Nat} {w : World} {g : Nat} {v : Value} {l : List UInt8} {a : Nat} {e : Int} (h : RR B w g v l a e) : w.cell? ⟨g, 1, none⟩ = some (.int .i64 (a : Int)) := by
  have := h.1.cell 1
  simpa using this
end Go.Proofs.YtejicboemkpeoaaGreatDoor
