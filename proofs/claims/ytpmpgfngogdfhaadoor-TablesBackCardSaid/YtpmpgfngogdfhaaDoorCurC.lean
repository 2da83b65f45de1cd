/-
  The contracts of a cursor's Uint, and of U8, U16, U32, U64.
-/
import Derived.Test.YtpmpgfngogdfhaaDoorCurB
import Derived.Test.YtpmpgfngogdfhaaDoorNums
namespace Go.Proofs.YtpmpgfngogdfhaaDoor
open Go Go.RowKit


theorem nextGot_le (l : List UInt8) (a : Nat) (e : Int) (n : Nat) : (nextGot l a e n).length ≤ n := by
  unfold nextGot; split
  · simp; omega
  · simp

set_option maxHeartbeats 400000 in
theorem uint_cur {w : World} {g : Nat} {v : Value} {l : List UInt8} {a : Nat} {e : Int} (h : Cur w g v l a e) (s : Int) (hs : -9223372036854775808 ≤ s ∧ s ≤ 9223372036854775807) (hlen : l.length ≤ 140737488355328) :
    Calls Tryd.prog 38 #[.pointer (some ⟨g, 0, none⟩), .int .i64 s] w fun r w' =>
      r = .returned (.int .u64 (leNat (nextGot l a e (clampOf s)) : Int)) ∧ Cur w' g v l (nextAt l a e (clampOf s)) (nextErr l a e (clampOf s)) ∧ w.grownBy w' (some g) := by
  have hc8 := clampOf_le s
  have hc := fun W => clamp_any s W hs
  have hN := fun W (hW : W = w) => next_any (w := W) (hW ▸ h) (clampOf s) hlen
  clear hs
  generalize clampOf s = n at *
  go_enter Tryd.func38, Tryd.ntmps38
  go_wp2_with (first | (go_at_call 70; refine (hc _).mono ?_; rintro r w' ⟨rfl, rfl⟩) | (go_at_call 69; refine (hN _ rfl).mono ?_; rintro r w' ⟨A, rfl, hR, hC, hG⟩))
  have hm8 : (nextGot l a e n).length ≤ 8 := by have := nextGot_le l a e n; omega
  clear hN hc
  have HC := Lib.hid hC
  have HG := Lib.hid hG
  clear hC hG
  generalize hgot : nextGot l a e n = got at *
  have HGOT := Lib.hid hgot
  clear hgot
  go_loop [5, 14] (fun acc i => ∃ k : Nat, k ≤ got.length ∧ i = .int .i64 k ∧ acc = .int .u64 (leNat (got.take k))) (fun _ i => got.length - (intOf i).toNat)
  case atStart => exact ⟨0, Nat.zero_le _, rfl, rfl⟩
  case round =>
    obtain ⟨k, hk, rfl, rfl⟩ := hrel
    by_cases hlt : k < got.length
    · obtain ⟨b, o, rfl, hb, hcell⟩ := hR (by omega)
      have hck := hcell k _ (List.getElem?_eq_getElem hlt)
      clear hcell hR
      have hst := or_shift k (leNat (got.take k)) got[k].toNat (by omega) (leNat_take_lt _ _) got[k].toNat_lt
      have HS := Lib.hid (show bits BinOp.or IntKind.u64 (leNat (got.take k) : Int) (IntKind.u64.wrap (IntKind.u64.wrap (got[k].toNat : Int) * 2 ^ (8 * k))) = (leNat (got.take (k + 1)) : Int) by rw [hst, leNat_take_succ got k hlt])
      clear hst
      go_wp2
      go_round
      case rel => exact ⟨k + 1, by omega, by go_num, by rw [HS.out]⟩
      case measure => simp [intOf]; omega
    · have hkk : k = got.length := by omega
      have HL := Lib.hid (show leNat (got.take k) = leNat got by rw [hkk, List.take_length])
      clear hkk
      go_wp2
      go_ret
      exact ⟨by rw [HGOT.out, ← HL.out]; rfl, HC.out, HG.out⟩

theorem u8_cur {w : World} {g : Nat} {v : Value} {l : List UInt8} {a : Nat} {e : Int} (h : Cur w g v l a e) (hlen : l.length ≤ 140737488355328) :
    Calls Tryd.prog 59 #[.pointer (some ⟨g, 0, none⟩)] w fun r w' =>
      r = .returned (.int .u64 (leNat (nextGot l a e 1) : Int)) ∧ Cur w' g v l (nextAt l a e 1) (nextErr l a e 1) ∧ w.grownBy w' (some g) := by
  have hU := fun W (hW : W = w) => uint_cur (w := W) (hW ▸ h) 1 (by omega) hlen
  have hc : clampOf 1 = 1 := rfl
  simp only [hc] at hU
  clear hc h hlen
  go_enter Tryd.func59, Tryd.ntmps59
  go_wp2_with (go_at_call 38; refine (hU _ rfl).mono ?_; rintro r w' ⟨rfl, hC, hG⟩)
  go_ret
  exact ⟨rfl, hC, hG⟩

theorem u16_cur {w : World} {g : Nat} {v : Value} {l : List UInt8} {a : Nat} {e : Int} (h : Cur w g v l a e) (hlen : l.length ≤ 140737488355328) :
    Calls Tryd.prog 52 #[.pointer (some ⟨g, 0, none⟩)] w fun r w' =>
      r = .returned (.int .u64 (leNat (nextGot l a e 2) : Int)) ∧ Cur w' g v l (nextAt l a e 2) (nextErr l a e 2) ∧ w.grownBy w' (some g) := by
  have hU := fun W (hW : W = w) => uint_cur (w := W) (hW ▸ h) 2 (by omega) hlen
  have hc : clampOf 2 = 2 := rfl
  simp only [hc] at hU
  clear hc h hlen
  go_enter Tryd.func52, Tryd.ntmps52
  go_wp2_with (go_at_call 38; refine (hU _ rfl).mono ?_; rintro r w' ⟨rfl, hC, hG⟩)
  go_ret
  exact ⟨rfl, hC, hG⟩

end Go.Proofs.YtpmpgfngogdfhaaDoor
