/-
  The contract of Put: behind bytes of the call's own it lays a number's lowest bytes.
-/

import Derived.Test.YtkadjejjillmmaaCurD
namespace Go.Proofs.Ytkadjejjillmmaa
open Go Go.RowKit

theorem bytes_cur {w : World} {g : Nat} {v : Value} {l : List UInt8} {a : Nat} {e : Int} (h : Cur w g v l a e) (n : Nat) (hlen : l.length ≤ 140737488355328) :
    Calls Try.prog 65 #[.pointer (some ⟨g, 0, none⟩), .int .u64 (n : Int)] w fun r w' =>
      ∃ u, r = .returned u ∧ Own w' w.heap.size u (nextGot l a e n) ∧ Cur w' g v l (nextAt l a e n) (nextErr l a e n) ∧ w.grownBy w' (some g) := by
  have hN := fun W (hW : W = w) => next_any (w := W) (hW ▸ h) n hlen
  have hgl : (nextGot l a e n).length ≤ 140737488355328 := by
    unfold nextGot; split
    · simp; omega
    · simp
  have hC := fun W A (hr : Rd W W.heap.size A (nextGot l a e n)) => clone_any (w := W) (nextGot l a e n).length hr (Nat.le_refl _) hgl
  clear h hlen hgl
  go_enter Try.func65, Try.ntmps65
  go_wp2_with (first | (go_at_call 58; refine (hN _ rfl).mono ?_; rintro r w1 ⟨A, rfl, hR, hK, hG⟩; have HK := Lib.hid hK; have HG := Lib.hid hG; clear hK hG hN) | (go_at_call 41; refine (hC _ _ hR).mono ?_; rintro r w2 ⟨u, rfl, hown, hbel⟩))
  go_ret
  exact ⟨u, rfl, ⟨hown.1, hown.2.imp id fun ⟨g', cap, cur, p, hb, q⟩ => ⟨g', cap, cur, p, Nat.le_trans HG.out.size hb, q⟩⟩, HK.out.below hbel, only_then_below HG.out hbel⟩

/-- Where Seek goes, or why not. -/
def seekAt (l : List UInt8) (a : Nat) (e : Int) (n : Nat) : Nat := if e = 0 ∧ n ≤ l.length then n else a
def seekErr (l : List UInt8) (e : Int) (n : Nat) : Int := if e = 0 then (if n ≤ l.length then 0 else 10) else e

theorem seek_cur {w : World} {g : Nat} {v : Value} {l : List UInt8} {a : Nat} {e : Int} (h : Cur w g v l a e) (n : Nat) (hn64 : n < two64) (hlen : l.length ≤ 140737488355328) :
    Calls Try.prog 63 #[.pointer (some ⟨g, 0, none⟩), .int .u64 (n : Int)] w fun r w' =>
      r = .returned (.tuple #[]) ∧ Cur w' g v l (seekAt l a e n) (seekErr l e n) ∧ w.grownBy w' (some g) := by
  obtain ⟨A, c, hv, hlc, hcm, hrd⟩ := own_slice h.2.1
  subst hv
  have hE := fun W (hW : W = w) => err_cur (w := W) (hW ▸ h)
  have h0 := h.1.cell 0
  have h1 := h.1.cell 1
  have f1 := h.1.free 1
  simp at h0 h1
  clear hrd hcm hlc
  have hW := within_any n 0 l.length w hn64 (by unfold two64; omega)
  rw [within_iff n 0 l.length (by unfold two64; omega), Nat.add_zero] at hW
  by_cases he : e = 0
  · subst he
    by_cases hn : n ≤ l.length
    · have H := Lib.hid (show Cur (w.setCell ⟨g, 1, none⟩ (.int .i64 (n : Int))) g (.slice A l.length c) l (seekAt l a 0 n) (seekErr l 0 n) by
        unfold seekAt seekErr
        rw [if_pos ⟨rfl, hn⟩, if_pos rfl, if_pos hn]
        exact h.moved n hn)
      have G := Lib.hid (only_set (only_refl w (some g)) 1 (.int .i64 (n : Int)))
      rw [decide_eq_true hn] at hW
      have hnn : (n : Int) ≤ 140737488355328 := by omega
      clear h hn64 hn
      generalize l.length = m at *
      go_enter Try.func63, Try.ntmps63
      go_wp2_with (first | (go_at_call 46; refine (hE _ rfl).mono ?_; rintro r w2 ⟨rfl, rfl⟩) | (go_at_call 43; refine hW.mono ?_; rintro r w2 ⟨rfl, rfl⟩))
      go_end0
      exact ⟨rfl, H.out, G.out⟩
    · have hF := fail_cur h 10
      rw [decide_eq_false hn] at hW
      have H := Lib.hid (show seekAt l a 0 n = a ∧ seekErr l 0 n = 10 by
        unfold seekAt seekErr
        rw [if_neg (fun x => hn x.2), if_pos rfl, if_neg hn]
        exact ⟨rfl, rfl⟩)
      clear h hn hn64
      generalize l.length = m at *
      go_enter Try.func63, Try.ntmps63
      go_wp2_with (first | (go_at_call 46; refine (hE _ rfl).mono ?_; rintro r w2 ⟨rfl, rfl⟩) | (go_at_call 43; refine hW.mono ?_; rintro r w2 ⟨rfl, rfl⟩) | (go_at_call 64; refine hF.mono ?_; rintro r w2 ⟨rfl, hC, hG⟩))
      first | go_end0 | (refine bodyPost_ret (results_none rfl _ _ _) rfl ?_)
      exact ⟨rfl, by rw [H.out.1, H.out.2]; simpa [failOf] using hC, hG⟩
  · have H := Lib.hid (show Cur w g (.slice A l.length c) l (seekAt l a e n) (seekErr l e n) by
      unfold seekAt seekErr
      rw [if_neg (fun x => he x.1), if_neg he]
      exact h)
    have hz : (e != 0) = true := by simp [he]
    clear h he hn64 hW
    generalize l.length = m at *
    go_enter Try.func63, Try.ntmps63
    go_wp2_with (go_at_call 46; refine (hE _ rfl).mono ?_; rintro r w2 ⟨rfl, rfl⟩)
    first | go_end0 | (refine bodyPost_ret (results_none rfl _ _ _) rfl ?_)
    exact ⟨rfl, H.out, only_refl _ _⟩

end Go.Proofs.Ytkadjejjillmmaa

namespace Go.Proofs.Ytkadjejjillmmaa
open Go Go.RowKit

theorem only_trans {a b c : World} {r s : Option Nat} (h : a.grownBy b r) (k : b.grownBy c s) (hs : s = r ∨ ∀ x, s = some x → a.heap.size ≤ x) : a.grownBy c r :=
  ⟨k.os.trans h.os, k.tape.trans h.tape, k.output.trans h.output, Nat.le_trans h.size k.size, fun i hi hne => (k.block i (Nat.lt_of_lt_of_le hi h.size) (by
    rintro e
    rcases hs with hs | hs
    · exact hne (e.trans hs)
    · have := hs i e.symm; omega)).trans (h.block i hi hne)⟩

/-- Bytes that were laid behind bytes of the call's own. -/
def Laid (w w' : World) (base : Nat) (v v' : Value) (l' : List UInt8) : Prop :=
  Own w' base v' l' ∧ w.grownBy w' v.ownBlock ∧ (v'.ownBlock = v.ownBlock ∨ ∀ x, v'.ownBlock = some x → w.heap.size ≤ x)

theorem Laid.refl {w : World} {base : Nat} {v : Value} {l : List UInt8} (h : Own w base v l) : Laid w w base v v l := ⟨h, ⟨rfl, rfl, rfl, Nat.le_refl _, fun _ _ _ => rfl⟩, .inl rfl⟩
theorem Laid.trans {w w1 w2 : World} {base : Nat} {v v1 v2 : Value} {l1 l2 : List UInt8} (h : Laid w w1 base v v1 l1) (k : Laid w1 w2 base v1 v2 l2) : Laid w w2 base v v2 l2 := by
  refine ⟨k.1, only_trans h.2.1 k.2.1 h.2.2, ?_⟩
  rcases k.2.2 with e | e
  · rw [e]; exact h.2.2
  · exact .inr fun x hx => Nat.le_trans h.2.1.size (e x hx)
theorem Laid.of_append {w w0 w1 : World} {base : Nat} {v v1 : Value} {l1 : List UInt8} (hb : Below w.heap.size w w0) (h1 : Own w1 base v1 l1) (hg : w0.grownBy w1 v.ownBlock) (ha : v1.ownBlock = v.ownBlock ∨ v1.ownBlock = some w0.heap.size) : Laid w w1 base v v1 l1 := by
  refine ⟨h1, only_trans (only_below hb v.ownBlock) hg (.inl rfl), ?_⟩
  rcases ha with e | e
  · exact .inl e
  · exact .inr fun x hx => by rw [e] at hx; injection hx with hx; have := hb.size; omega

/-- One byte in a block of its own, as 'append' lays it first. -/
theorem rd_one (w : World) (x : Int) (b : UInt8) (h : x = (b.toNat : Int)) : Rd (w.alloc (.cells #[.int .u8 x] 5)) (w.heap.size + 1) (some ⟨w.heap.size, 0, none⟩) [b] := by
  subst h
  exact fun _ => ⟨w.heap.size, 0, rfl, by omega, fun j u hu => by
    have h := (Box.new w 5 #[.int .u8 (b.toNat : Int)]).cell j
    rw [Nat.zero_add, h]
    match j, hu with
    | 0, hu => simp at hu; subst hu; rfl⟩

theorem byte_at (x k : Nat) : ((x : Int) / 2 ^ (8 * k) % 256) = ((UInt8.ofNat (x / 256 ^ k % 256)).toNat : Int) := by
  have h : (UInt8.ofNat (x / 256 ^ k % 256)).toNat = x / 256 ^ k % 256 := by simp
  have e : (256 : Nat) ^ k = 2 ^ (8 * k) := by rw [Nat.pow_mul]
  rw [h, e]
  simp

set_option maxHeartbeats 400000 in
theorem put_any {w : World} {base : Nat} {v : Value} {l : List UInt8} (hown : Own w base v l) (hbase : base ≤ w.heap.size) (x : Nat) (s : Int) (hs : -9223372036854775808 ≤ s ∧ s ≤ 9223372036854775807) (hlen : l.length ≤ 140737488355000) :
    Calls Try.prog 33 #[v, .int .u64 (x : Int), .int .i64 s] w fun r w' => ∃ v', r = .returned v' ∧ Laid w w' base v v' (l ++ leBytes x (clampOf s)) := by
  obtain ⟨i0, hi, hz0, hz1, hz2⟩ := info_parts u8_info
  have hc8 := clampOf_le s
  have hc := fun W => clamp_any s W hs
  have HO := Lib.hid (Laid.refl hown)
  clear hs hown
  generalize clampOf s = n at *
  go_enter Try.func33, Try.ntmps33
  go_wp2_with (go_at_call 53; refine (hc _).mono ?_; rintro r w' ⟨rfl, rfl⟩)
  go_loopw [0, 10] (fun u i wr => ∃ k : Nat, k ≤ n ∧ i = .int .i64 k ∧ Laid w wr base v u (l ++ leBytes x k)) (fun _ i _ => n - (intOf i).toNat)
  case atStart => exact ⟨0, Nat.zero_le _, rfl, by simpa [leBytes] using HO.out⟩
  case round =>
    obtain ⟨k, hk, rfl, hL⟩ := hrel
    have HL := Lib.hid hL
    clear hL HO
    by_cases hlt : k < n
    · have hk8 : (8 * (k : Int)) < 64 := by omega
      have hbyte := byte_at x k
      have hsum : (l ++ leBytes x k).length + [UInt8.ofNat (x / 256 ^ k % 256)].length ≤ 140737488355328 := by simp; omega
      have hb1 : base ≤ (wr.alloc (.cells #[.int .u8 ((x : Int) / 2 ^ (8 * k) % 256)] 5)).heap.size := by
        have := HL.out.2.1.size
        simp; omega
      have HR := Lib.hid (rd_one wr _ _ hbyte)
      clear hbyte
      go_wp2_with (at_builtin; refine wpList_append_bytes (by rfl) (.tmp 13) (.tmp 19) _ (by rfl) base i0 Try.underlying22 hi hz0 hz1 hz2 u0 (l ++ leBytes x k) (by rfl) (HL.out.1.alloc _) (wr.heap.size + 1) (some ⟨wr.heap.size, 0, none⟩) 1 1 [UInt8.ofNat (x / 256 ^ k % 256)] rfl (by rfl) HR.out hsum hb1 ?_; intro v1 w1 hown1 hg1 hat1)
      have HL1 := Lib.hid (HL.out.trans (Laid.of_append ((Below.refl wr.heap.size wr).alloc (Nat.le_refl _) _) hown1 hg1 hat1))
      clear hown1 hg1 hat1
      go_roundw
      case rel => exact ⟨k + 1, by omega, by go_num, by rw [leBytes_succ, ← List.append_assoc]; exact HL1.out⟩
      case measure => simp [intOf]; omega
    · have hkn : k = n := by omega
      have HL1 := Lib.hid (show Laid w wr base v u0 (l ++ leBytes x n) by rw [← hkn]; exact HL.out)
      clear hkn
      go_wp2
      go_ret
      exact ⟨_, rfl, HL1.out⟩

end Go.Proofs.Ytkadjejjillmmaa
