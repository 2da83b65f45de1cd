/-
  The document's own cursor over bytes that it was handed: Bytes and Sub; the document's Take and Body of a length.
-/
import Derived.Test.YtpmpgfngogdfhaaDoorRefR
import Derived.Test.YtpmpgfngogdfhaaDoorRefE
import Derived.Test.YtpmpgfngogdfhaaDoorLtC
namespace Go.Proofs.YtpmpgfngogdfhaaDoor
open Go Go.RowKit

set_option maxRecDepth 20000 in
set_option maxHeartbeats 1600000 in
theorem qbytes_ok {B : Nat} {w : World} {g : Nat} {v : Value} {l : List UInt8} {a : Nat} (h : RR B w g v l a 0) (n : Nat) (hlen : l.length ≤ 140737488355328) (hn : n ≤ l.length - a) :
    Calls Tryd.prog 103 #[.pointer (some ⟨g, 0, none⟩), .int .u64 (n : Int)] w fun r w' =>
      ∃ u, r = .returned u ∧ Own w' w.heap.size u ((l.drop a).take n) ∧ RR B w' g v l (a + n) 0 ∧ w.grownBy w' (some g) := by
  obtain ⟨A, c, hv, hlc, hcm, hrd⟩ := h.2.1
  subst hv
  obtain ⟨i0, hi, hz0, hz1, hz2⟩ := info_parts u8_info
  have hL := fun W (hW : W = w) => qleft (w := W) (hW ▸ h)
  have h0 := h.1.cell 0
  have h1 := h.1.cell 1
  have h2 := h.1.cell 2
  have f1 := h.1.free 1
  simp at h0 h1 h2
  have hgl := h.1.lt
  have hal := h.2.2.1
  unfold maxLen at hcm
  rw [rc_left] at hL
  obtain ⟨part, hpart⟩ : ∃ p, p = (l.drop a).take n := ⟨_, rfl⟩
  have hpl : part.length = n := by rw [hpart]; simp; omega
  rw [← hpart]
  have hrp := rd_part (hrd.more (B' := w.heap.size) (by have := h.2.2.2; omega)) a n
  rw [← hpart] at hrp
  have hsum : ([] : List UInt8).length + part.length ≤ 140737488355328 := by rw [hpl]; simp; omega
  have HPL := Lib.hid hpl
  have HC := Lib.hid (fun w1 (hb : Below w.heap.size w w1) => (show RR B (w1.setCell ⟨g, 1, none⟩ (.int .i64 ((a : Int) + (n : Int)))) g (.slice A l.length c) l (a + n) 0 from by
    have := (h.below hb).moved (a + n) (by omega)
    rwa [Int.natCast_add] at this))
  have HO := Lib.hid (fun w1 v1 (_ : Below w.heap.size w w1) (ho : Own w1 w.heap.size v1 ([] ++ part)) => (show Own (w1.setCell ⟨g, 1, none⟩ (.int .i64 ((a : Int) + (n : Int)))) w.heap.size v1 part from
    World.ownsRow.kept (w := w1) ho (only_set (only_refl w1 (some g)) 1 _) (.inr (fun e => by have := (own_ge ho _ e).1; omega))))
  have KS := Lib.hid (fun (W : World) (hW : Below w.heap.size w W) => (⟨hW, (hW.cell (p := ⟨g, 0, none⟩) hgl).trans h0, (hW.cell (p := ⟨g, 1, none⟩) hgl).trans h1⟩ : Below w.heap.size w W ∧ W.cell? ⟨g, 0, none⟩ = some (.slice A l.length c) ∧ W.cell? ⟨g, 1, none⟩ = some (.int .i64 (a : Int))))
  have HK1 := Lib.hid (fun (W : World) (hW : Below w.heap.size w W) => (hW.cell (p := ⟨g, 1, none⟩) hgl).trans h1)
  have HK2 := Lib.hid (fun (W : World) (hW : Below w.heap.size w W) => (hW.frozen (p := ⟨g, 1, none⟩) hgl).trans f1)
  have hq : decide (l.length - a < n) = false := by simp; omega
  have hK0 : ((l.length - a : Nat) : Int) ≤ 140737488355328 := by omega
  have han : (a : Int) + (n : Int) ≤ (l.length : Int) := by omega
  have hl47 : (l.length : Int) ≤ 140737488355328 := by omega
  have hlc' : (l.length : Int) ≤ (c : Int) := by omega
  have s1 : IntKind.i64.wrap ((a : Int) + (n : Int)) = (a : Int) + (n : Int) := by rw [IntWalk.i64_in _ (by omega)]
  have s2 : IntKind.i64.wrap (n : Int) = (n : Int) := by rw [IntWalk.i64_in _ (by omega)]
  have b0 : (0 : Int) ≤ (a : Int) := by omega
  have b1 : (a : Int) ≤ (a : Int) + (n : Int) := by omega
  have b2 : (a : Int) + (n : Int) ≤ (c : Int) := by omega
  have hca0 : c = a → part = [] := fun e => List.eq_nil_of_length_eq_zero (by rw [hpl]; omega)
  have HA := Lib.hid hca0
  have HX := Lib.hid hrp
  clear hpl hpart h hrd hrp hal hlen hca0
  generalize l.length - a = K at *
  generalize hN : l.length = N at *
  have HN := Lib.hid hN
  clear hN
  obtain ⟨A2, c2, hsl, hra⟩ : ∃ A2 c2, (∀ W : World, (Instr.slice 65 (.slice A N c) (some (.int .i64 (a : Int))) (some (.int .i64 ((a : Int) + (n : Int)))) none).run Tryd.prog W = .ok (.slice A2 n c2) W) ∧ Hid (Rd w w.heap.size A2 part) := by
    have hnn : ((a : Int) + (n : Int)).toNat - a = n := by omega
    have hs1 : ∀ W : World, (sizeOf (Tryd.prog.elem 65)).run Tryd.prog W = .ok 1 W := fun W => by kernel_rfl
    refine ⟨if c = a then A else Option.map (fun x => x.add a) A, c - a, fun W => ?_, ?_⟩
    · rw [run_slice_lh W _ _ _ _ Tryd.underlying65 _ _ _ _ b0 b1 b2, hs1]
      simp only [Result.andThen, sliced, hnn, Int.toNat_natCast, Nat.mul_one]
    · by_cases hca : c = a
      · rw [HA.out hca]; exact Lib.hid Rd.nil_
      · rw [if_neg hca]; exact HX
  have HR := Lib.hid (fun (W : World) (hW : Below w.heap.size w W) => hra.out.below hW)
  clear hra
  go_enter Tryd.func103, Tryd.ntmps103
  go_wp2_with (go_at_call 57; refine (hL _ rfl).mono ?_; rintro r w' ⟨rfl, k, rfl⟩)
  go_region_held_law (fun W => Below w.heap.size w W ∧ W.cell? ⟨g, 0, none⟩ = some (.slice A N c) ∧ W.cell? ⟨g, 1, none⟩ = some (.int .i64 (a : Int))) ((refine KS.out _ ?_; repeat' (first | (with_reducible exact Below.refl _ _) | (with_reducible assumption) | (with_reducible refine below_drewN ?_ _) | (with_reducible refine Below.drew ?_) | (with_reducible refine Below.alloc ?_ ?_ _) | go_size))) (first
    | (refine step_append_bytes (by rfl) (.tmp 26) (.tmp 42) _ (by rfl) w.heap.size i0 Tryd.underlying65 hi hz0 hz1 hz2 (.slice (some ⟨w.heap.size, 0, none⟩) 0 0) [] (by rfl) (by exact own_new w) w.heap.size _ _ _ part HPL.out (by rfl) (HR.out _ (by (repeat' (first | (with_reducible exact Below.refl _ _) | (with_reducible assumption) | (with_reducible refine below_drewN ?_ _) | (with_reducible refine Below.drew ?_) | (with_reducible refine Below.alloc ?_ ?_ _) | go_size)))) hsum (by simp) ?_; intro v1 w1 hown1 hg1 hat1; have hb1 : Below w.heap.size w w1 := (show Below w.heap.size w _ by (repeat' (first | (with_reducible exact Below.refl _ _) | (with_reducible assumption) | (with_reducible refine below_drewN ?_ _) | (with_reducible refine Below.drew ?_) | (with_reducible refine Below.alloc ?_ ?_ _) | go_size))).grown hg1 (by simp) (by simp [Value.ownBlock]); have hk1 := HK1.out _ hb1; have hk2 := HK2.out _ hb1; clear hg1 hat1))
  all_goals go_wp2
  all_goals go_ret
  all_goals exact ⟨_, rfl, HO.out _ _ hb1 hown1, HC.out _ hb1, only_set (only_below hb1 (some g)) 1 _⟩

theorem qbytes_short {B : Nat} {w : World} {g : Nat} {v : Value} {l : List UInt8} {a : Nat} (h : RR B w g v l a 0) (n : Nat) (hlen : l.length ≤ 140737488355328) (hn : l.length - a < n) :
    Calls Tryd.prog 103 #[.pointer (some ⟨g, 0, none⟩), .int .u64 (n : Int)] w fun r w' => r = .returned (.slice none 0 0) ∧ RR B w' g v l a 10 ∧ w.grownBy w' (some g) := by
  have hL := fun W (hW : W = w) => qleft (w := W) (hW ▸ h)
  have h2 := h.1.cell 2
  have f2 := h.1.free 2
  simp at h2
  rw [rc_left] at hL
  have HC := Lib.hid (fun k => (h.drewN k).failed 10)
  have HO := Lib.hid (fun k u => only_set (only_drewN (only_refl w (some g)) k) 2 u)
  have hq : decide (l.length - a < n) = true := by simp; omega
  have hK0 : ((l.length - a : Nat) : Int) ≤ 140737488355328 := by omega
  clear h
  generalize l.length - a = K at *
  go_enter Tryd.func103, Tryd.ntmps103
  go_wp2_with (go_at_call 57; refine (hL _ rfl).mono ?_; rintro r w' ⟨rfl, k, rfl⟩)
  go_ret
  exact ⟨rfl, HC.out _, HO.out _ _⟩

theorem qbytes_ref {B : Nat} {w : World} {g : Nat} {v : Value} {l : List UInt8} {a : Nat} {e : Int} (h : RR B w g v l a e) (he : e ≠ 0) (n : Nat) :
    Calls Tryd.prog 103 #[.pointer (some ⟨g, 0, none⟩), .int .u64 (n : Int)] w fun r w' => r = .returned (.slice none 0 0) ∧ w = w' := by
  have h2 := h.1.cell 2
  simp at h2
  have hz : (e == 0) = false := by simp [he]
  have hz2 : (e != 0) = true := by simp [he]
  clear h he
  go_enter Tryd.func103, Tryd.ntmps103
  go_wp2
  go_ret
  exact ⟨rfl, rfl⟩

theorem qbytes_cur {B : Nat} {w : World} {g : Nat} {v : Value} {l : List UInt8} {a : Nat} {e : Int} (h : RR B w g v l a e) (n : Nat) (hlen : l.length ≤ 140737488355328) :
    Calls Tryd.prog 103 #[.pointer (some ⟨g, 0, none⟩), .int .u64 (n : Int)] w fun r w' =>
      ∃ u, r = .returned u ∧ Own w' w.heap.size u (nextGot l a e n) ∧ RR B w' g v l (nextAt l a e n) (nextErr l a e n) ∧ w.grownBy w' (some g) := by
  by_cases he : e = 0
  · subst he
    by_cases hn : n ≤ l.length - a
    · have hf := next_fits l a n hn
      rw [hf.1, hf.2.1, hf.2.2]
      exact qbytes_ok h n hlen hn
    · refine (qbytes_short h n hlen (by omega)).mono fun r w' ⟨h1, h3, h4⟩ => ⟨_, h1, ?_, ?_, h4⟩
      · have e : nextGot l a 0 n = [] := by simp [nextGot, hn]
        rw [e]; exact World.ownsRow_nil _ _ _ _
      · simpa [nextAt, nextErr, hn] using h3
  · refine (qbytes_ref h he n).mono fun r w' ⟨h1, h2⟩ => ⟨_, h1, ?_, ?_, ?_⟩
    · have e' : nextGot l a e n = [] := by simp [nextGot, he]
      rw [e']; exact World.ownsRow_nil _ _ _ _
    · subst h2; simpa [nextAt, nextErr, he] using h
    · subst h2; exact only_refl _ _

theorem qsub_cur {B : Nat} {w : World} {g : Nat} {v : Value} {l : List UInt8} {a : Nat} {e : Int} (h : RR B w g v l a e) (n : Nat) (hlen : l.length ≤ 140737488355328) :
    Calls Tryd.prog 89 #[.pointer (some ⟨g, 0, none⟩), .int .u64 (n : Int)] w fun r w' =>
      ∃ g2 v2, r = .returned (.pointer (some ⟨g2, 0, none⟩)) ∧ RMade w.heap.size w' g2 v2 (nextGot l a e n) (nextErr l a e n) ∧ RR B w' g v l (nextAt l a e n) (nextErr l a e n) ∧ w.grownBy w' (some g) := by
  have hB := Lib.hid (fun W (hW : W = w) => qbytes_cur (w := W) (hW ▸ h) n hlen)
  clear h hlen
  go_enter Tryd.func89, Tryd.ntmps89
  go_wp2_with fail
  refine (hB.out _ rfl).mono ?_
  rintro r w1 ⟨u, rfl, hown, hC, hG⟩
  have k2 := hC.1.cell 2
  simp at k2
  have HM := Lib.hid (rmade_new hown hG.size (nextErr l a e n))
  have HC := Lib.hid (hC.below ((Below.refl w1.heap.size w1).alloc (Nat.le_refl _) (.cells #[u, .int .i64 0, .int .i64 (nextErr l a e n)] 127)))
  have HG := Lib.hid (only_then_below hG ((Below.refl w1.heap.size w1).alloc (Nat.le_refl _) (.cells #[u, .int .i64 0, .int .i64 (nextErr l a e n)] 127)))
  obtain ⟨A', c', rfl, _, _, _⟩ := own_slice hown
  clear hown hC hG
  go_wp2_with fail
  go_ret
  exact ⟨_, _, rfl, HM.out, HC.out, HG.out⟩

/-- The document's Uint of 4 and of 8 bytes. -/
theorem quint_4 {B : Nat} {w : World} {g : Nat} {v : Value} {l : List UInt8} {a : Nat} {e : Int} (h : RR B w g v l a e) (hlen : l.length ≤ 140737488355328) :
    Calls Tryd.prog 55 #[.pointer (some ⟨g, 0, none⟩), .int .i64 4] w fun r w' => r = .returned (.int .u64 (leNat (nextGot l a e 4) : Int)) ∧ RR B w' g v l (nextAt l a e 4) (nextErr l a e 4) ∧ w.grownBy w' (some g) :=
  quint_cur h 4 (by omega) hlen
theorem quint_8 {B : Nat} {w : World} {g : Nat} {v : Value} {l : List UInt8} {a : Nat} {e : Int} (h : RR B w g v l a e) (hlen : l.length ≤ 140737488355328) :
    Calls Tryd.prog 55 #[.pointer (some ⟨g, 0, none⟩), .int .i64 8] w fun r w' => r = .returned (.int .u64 (leNat (nextGot l a e 8) : Int)) ∧ RR B w' g v l (nextAt l a e 8) (nextErr l a e 8) ∧ w.grownBy w' (some g) :=
  quint_cur h 8 (by omega) hlen

theorem rr_e {B : Nat} {w : World} {g : Nat} {v : Value} {l : List UInt8} {a : Nat} {e : Int} (h : RR B w g v l a e) : w.cell? ⟨g, 2, none⟩ = some (.int .i64 e) := by
  have := h.1.cell 2
  simpa using this
theorem rr_at {B : Nat} {w : World} {g : Nat} {v : Value} {l : List UInt8} {a : Nat} {e : Int} (h : RR B w g v l a e) : w.cell? ⟨g, 1, none⟩ = some (.int .i64 (a : Int)) := by
  have := h.1.cell 1
  simpa using this
theorem rc_e {w : World} {g : Nat} {v : Value} {l : List UInt8} {a : Nat} {e : Int} (h : RC w g v l a e) : w.cell? ⟨g, 2, none⟩ = some (.int .i64 e) := by
  have := h.1.cell 2
  simpa using this

set_option maxRecDepth 10000 in
theorem rtake_len {B : Nat} {w : World} {g : Nat} {v : Value} {l : List UInt8} {a : Nat} {e : Int} (h : RR B w g v l a e) (hlen : l.length ≤ 140737488355328) :
    Calls Tryd.prog 88 #[.pointer (some ⟨g, 0, none⟩)] w fun r w' => r = .returned (.tuple #[.int .u64 (tkN l a e : Int), .bool (tkW l a e)]) ∧ RR B w' g v l (tkA l a e) (tkE l a e) ∧ w.grownBy w' (some g) := by
  have hU := fun W (hW : W = w) => quint_4 (w := W) (hW ▸ h) hlen
  by_cases hlow : leNat (nextGot l a e 4) < 4294967280
  · have H := Lib.hid (tk_low hlow)
    have hd : decide (((leNat (nextGot l a e 4) : Nat) : Int) < 4294967280) = true := by simp; omega
    clear hlow h hlen
    generalize leNat (nextGot l a e 4) = n at *
    go_enter Tryd.func88, Tryd.ntmps88
    go_wp2_with (go_at_call 55; refine (hU _ rfl).mono ?_; rintro r w1 ⟨rfl, hC, hG⟩; clear hU; have HC := Lib.hid hC; have HG := Lib.hid hG; clear hC hG)
    go_ret2
    exact ⟨by rw [H.out.1, H.out.2.1]; rfl, by rw [H.out.2.2.1, H.out.2.2.2]; exact HC.out, HG.out⟩
  · by_cases hw : leNat (nextGot l a e 4) = 4294967295
    · have H := Lib.hid (tk_wide hw)
      rw [hw] at hU
      have hV := Lib.hid (fun (W : World) (hK : RR B W g v l (nextAt l a e 4) (nextErr l a e 4)) => quint_8 hK hlen)
      clear hlow hw h hlen
      go_enter Tryd.func88, Tryd.ntmps88
      go_wp2_with (go_at_call 55; refine (hU _ rfl).mono ?_; rintro r w1 ⟨rfl, hC, hG⟩; clear hU; have HC := Lib.hid hC; have HG := Lib.hid hG; clear hC hG)
      go_wp2_with (go_at_call 55; refine (hV.out _ HC.out).mono ?_; rintro r w2 ⟨rfl, hC, hG⟩; clear hV; have HC2 := Lib.hid hC; have HG2 := Lib.hid (only_twice HG.out hG); have h2 := rr_e hC; clear hC hG)
      go_quiet (fail)
      go_wp2
      go_ret2
      exact ⟨by rw [H.out.1, H.out.2.1]; rfl, by rw [H.out.2.2.1, H.out.2.2.2]; exact HC2.out.drewN _, only_then_below HG2.out (below_drewN (Below.refl _ _) _)⟩
    · have H := Lib.hid (tk_mid hlow hw)
      have hd : decide (((leNat (nextGot l a e 4) : Nat) : Int) < 4294967280) = false := by simp; omega
      have hq : (((leNat (nextGot l a e 4) : Nat) : Int) != 4294967295) = true := by simp; omega
      have hF := Lib.hid (fun (W : World) (hK : RR B W g v l (nextAt l a e 4) (nextErr l a e 4)) => qfail hK 13)
      clear hlow hw h hlen
      generalize leNat (nextGot l a e 4) = n at *
      go_enter Tryd.func88, Tryd.ntmps88
      go_wp2_with (go_at_call 55; refine (hU _ rfl).mono ?_; rintro r w1 ⟨rfl, hC, hG⟩; clear hU; have HC := Lib.hid hC; have HG := Lib.hid hG; clear hC hG)
      go_wp2_with (go_at_call 102; refine (hF.out _ HC.out).mono ?_; rintro r w2 ⟨rfl, hC, hG⟩; clear hF; have HC2 := Lib.hid hC; have HG2 := Lib.hid (only_twice HG.out hG); clear hC hG)
      go_ret2
      exact ⟨by rw [H.out.1, H.out.2.1]; rfl, by rw [H.out.2.2.1, H.out.2.2.2]; exact HC2.out, HG2.out⟩

theorem rmade_up {B B' : Nat} {w' : World} {g' : Nat} {v' : Value} {l' : List UInt8} {e' : Int} (hB : B ≤ B') (hM : RMade B' w' g' v' l' e') : RMade B w' g' v' l' e' :=
  ⟨hM.1, Nat.le_trans hB hM.2.1, fun k hk => Nat.le_trans hB (hM.2.2 k hk)⟩

theorem rbody_len {B : Nat} {w : World} {g : Nat} {v : Value} {l : List UInt8} {a : Nat} {e : Int} (h : RR B w g v l a e) (hlen : l.length ≤ 140737488355328) :
    Calls Tryd.prog 54 #[.pointer (some ⟨g, 0, none⟩)] w fun r w' =>
      ∃ g2 v2, r = .returned (.tuple #[.pointer (some ⟨g2, 0, none⟩), .bool (bdW l a e)]) ∧ RMade w.heap.size w' g2 v2 (bdG l a e) (bdE l a e) ∧ RR B w' g v l (bdA l a e) (bdE l a e) ∧ w.grownBy w' (some g) := by
  have hT := fun W (hW : W = w) => rtake_len (w := W) (hW ▸ h) hlen
  have hS := Lib.hid (fun (W : World) (hK : RR B W g v l (tkA l a e) (tkE l a e)) => show Calls Tryd.prog 89 #[.pointer (some ⟨g, 0, none⟩), .int .u64 (tkN l a e : Int)] W fun r w' =>
      ∃ g2 v2, r = .returned (.pointer (some ⟨g2, 0, none⟩)) ∧ RMade W.heap.size w' g2 v2 (bdG l a e) (bdE l a e) ∧ RR B w' g v l (bdA l a e) (bdE l a e) ∧ W.grownBy w' (some g) from qsub_cur hK (tkN l a e) hlen)
  have HW := Lib.hid (show bdW l a e = (tkW l a e && bdE l a e == 0) from rfl)
  clear h hlen
  generalize bdW l a e = bw at *
  generalize tkW l a e = tw at *
  generalize tkN l a e = n at *
  generalize bdE l a e = be at *
  by_cases hz : be = 0
  · have hq : (be != 0) = false := by simp [hz]
    have H := Lib.hid (show bw = tw by rw [HW.out, hz]; simp)
    clear HW hz
    go_enter Tryd.func54, Tryd.ntmps54
    go_wp2_with (first
      | (go_at_call 88; refine (hT _ rfl).mono ?_; rintro r w1 ⟨rfl, hC, hG⟩; clear hT; have HC := Lib.hid hC; have HG := Lib.hid hG; clear hC hG)
      | (go_at_call 89; refine (hS.out _ HC.out).mono ?_; rintro r w2 ⟨g2, v2, rfl, hM, hC, hG⟩; clear hS; have h2 := rc_e hM.1; have HM := Lib.hid (rmade_up HG.out.size hM); have HC2 := Lib.hid hC; have HG2 := Lib.hid (only_twice HG.out hG); clear hM hC hG))
    go_ret2
    exact ⟨_, _, by rw [H.out]; rfl, HM.out, HC2.out, HG2.out⟩
  · have hq : (be != 0) = true := by simp [hz]
    have H := Lib.hid (show bw = false by rw [HW.out]; simp [hz])
    clear HW hz
    go_enter Tryd.func54, Tryd.ntmps54
    go_wp2_with (first
      | (go_at_call 88; refine (hT _ rfl).mono ?_; rintro r w1 ⟨rfl, hC, hG⟩; clear hT; have HC := Lib.hid hC; have HG := Lib.hid hG; clear hC hG)
      | (go_at_call 89; refine (hS.out _ HC.out).mono ?_; rintro r w2 ⟨g2, v2, rfl, hM, hC, hG⟩; clear hS; have h2 := rc_e hM.1; have HM := Lib.hid (rmade_up HG.out.size hM); have HC2 := Lib.hid hC; have HG2 := Lib.hid (only_twice HG.out hG); clear hM hC hG))
    go_ret2
    exact ⟨_, _, by rw [H.out]; rfl, HM.out, HC2.out, HG2.out⟩

end Go.Proofs.YtpmpgfngogdfhaaDoor
