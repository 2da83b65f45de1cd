/-
  The contracts of layer 3's measure and Take, of a cursor and of nobody.
-/

import Derived.Test.YtkadjejjillmmaaCsM
import Derived.Test.YtkadjejjillmmaaCurN
import Derived.Test.YtkadjejjillmmaaPutR
import Derived.Test.YtkadjejjillmmaaParts
import Derived.WalkMore
namespace Go.Proofs.Ytkadjejjillmmaa
open Go Go.RowKit

/-- What measure tells. -/
def sizeT (r : List UInt8) (e : Int) : Nat × Int := if e = 0 then (if (readT r).2.2 = 0 then (tlen r, 0) else (0, (readT r).2.2)) else (0, 12)

theorem sizeT_bad (r : List UInt8) {e : Int} (h : e ≠ 0) : sizeT r e = (0, 12) := by unfold sizeT; rw [if_neg h]

theorem left_zero (l : List UInt8) (a : Nat) : leftOf l a 0 = l.length - a := by simp [leftOf]

set_option maxRecDepth 100000 in
set_option maxHeartbeats 1000000 in
theorem measure_ok {w : World} {g : Nat} {v : Value} {l : List UInt8} {a : Nat} (h : Cur w g v l a 0) (hlen : l.length ≤ 140737488355328) :
    Calls Try.prog 62 #[.pointer (some ⟨g, 0, none⟩)] w fun x w' => x = .returned (.tuple #[.int .u64 ((sizeT (l.drop a) 0).1 : Int), .int .i64 (sizeT (l.drop a) 0).2]) ∧ (∃ b, Cur w' g v l b 0) ∧ w.grownBy w' (some g) := by
  have hal := h.2.2
  obtain ⟨r, hr⟩ : ∃ r, r = l.drop a := ⟨_, rfl⟩
  have hrl : r.length = l.length - a := by rw [hr]; simp
  rw [← hr]
  have HO := Lib.hid h
  clear h
  go_enter Try.func62, Try.ntmps62
  go_wp2_with fail
  go_step3
  go_wp2_with fail
  go_step3
  go_wp2_with fail
  go_loopw [4] (fun n wr => ∃ k : Nat, n = .int .u64 k ∧ k ≤ r.length ∧ (∀ j (hj : j < r.length), j < k → r[j] ≠ 0) ∧ Cur wr g v l (a + k) 0 ∧ w.grownBy wr (some g)) (fun n _ => r.length - (intOf n).toNat)
  case atStart => exact ⟨0, rfl, Nat.zero_le _, fun j hj h0 => by omega, HO.out, only_refl _ _⟩
  case round =>
    obtain ⟨k, rfl, hkr, hup, hC, hG⟩ := hrel
    have hL := left_cur hC
    rw [left_zero] at hL
    have HG := Lib.hid hG
    by_cases hlt : k < r.length
    · have hak : a + k < l.length := by omega
      have hget : r[k] = l[a + k] := by simp only [hr, List.getElem_drop]
      have hU := fun n => u8_at (hC.drewN n) hak hlen
      have hz : ((l.length - (a + k) : Nat) : Int) ≠ 0 := by omega
      have hz0 : (((l.length - (a + k) : Nat) : Int) == 0) = false := by simpa using hz
      have hk64 : (k : Int) + 1 < 18446744073709551616 := by omega
      have s1 : IntKind.u64.wrap ((k : Int) + 1) = (k : Int) + 1 := by rw [IntWalk.u64_in _ (by omega)]
      by_cases hb : r[k] = 0
      · have ht : tlen r = k := tlen_eq r k hlt hup hb
        have hb0 : ((l[a + k].toNat : Int) == 0) = true := by rw [← hget, hb]; rfl
        by_cases hbig : 200 < k
        · have hbig' : decide ((200 : Int) < (k : Int)) = true := by simp; omega
          have HR := Lib.hid (show sizeT r 0 = (0, 3) by
            unfold sizeT; rw [if_pos rfl, readT_big (by omega) (by omega)]; rfl)
          clear hup hC hG ht hb hget
          generalize ((l.length - (a + k) : Nat) : Int) = K at *
          go_wp2_with (first | (go_at_call 69; refine hL.mono ?_; rintro r1 w1 ⟨rfl, n1, rfl⟩) | (go_at_call 23; refine (hU _).mono ?_; rintro r1 w1 ⟨rfl, hC1, hG1⟩))
          (try rw [Exit.noGoto_ret])
          go_ret2
          exact ⟨by rw [HR.out]; rfl, ⟨_, hC1⟩, HG.out.trans (only_drewN_left hG1)⟩
        · have hbig' : decide ((200 : Int) < (k : Int)) = false := by simp; omega
          have HR := Lib.hid (show sizeT r 0 = (k, 0) by
            unfold sizeT; rw [if_pos rfl, readT_ok (by omega) (by omega), ht]; rfl)
          clear hup hC hG ht hb hget
          generalize ((l.length - (a + k) : Nat) : Int) = K at *
          go_wp2_with (first | (go_at_call 69; refine hL.mono ?_; rintro r1 w1 ⟨rfl, n1, rfl⟩) | (go_at_call 23; refine (hU _).mono ?_; rintro r1 w1 ⟨rfl, hC1, hG1⟩))
          (try rw [Exit.noGoto_ret])
          go_ret2
          exact ⟨by rw [HR.out]; rfl, ⟨_, hC1⟩, HG.out.trans (only_drewN_left hG1)⟩
      · have hb0 : ((l[a + k].toNat : Int) == 0) = false := by
          have : l[a + k].toNat ≠ 0 := fun e => hb (by rw [hget]; exact UInt8.toNat_inj.1 (by simpa using e))
          simpa using this
        have HUP := Lib.hid (show ∀ j (hj : j < r.length), j < k + 1 → r[j] ≠ 0 from fun j hj hjk => by
          rcases Nat.lt_or_ge j k with h1 | h1
          · exact hup j hj h1
          · have e : j = k := by omega
            subst e
            exact hb)
        clear hup hC hG hb hget
        generalize ((l.length - (a + k) : Nat) : Int) = K at *
        go_wp2_with (first | (go_at_call 69; refine hL.mono ?_; rintro r1 w1 ⟨rfl, n1, rfl⟩) | (go_at_call 23; refine (hU _).mono ?_; rintro r1 w1 ⟨rfl, hC1, hG1⟩))
        go_roundw
        case rel => exact ⟨k + 1, by go_num, by omega, HUP.out, hC1, HG.out.trans (only_drewN_left hG1)⟩
        case measure => simp [intOf]; omega
    · have ht : tlen r = r.length := tlen_all r fun j hj => hup j hj (by omega)
      have hz : l.length - (a + k) = 0 := by omega
      rw [hz] at hL
      have HR := Lib.hid (show sizeT r 0 = (0, 12) by unfold sizeT; rw [if_pos rfl, readT_end ht]; rfl)
      have HC := Lib.hid (fun n => hC.drewN n)
      clear hup hC hG ht hz
      go_wp2_with (go_at_call 69; refine hL.mono ?_; rintro r1 w1 ⟨rfl, n1, rfl⟩)
      (try rw [Exit.noGoto_ret])
      go_ret2
      exact ⟨by rw [HR.out]; rfl, ⟨_, HC.out _⟩, only_drewN HG.out _⟩

theorem measure_ref {w : World} {g : Nat} {v : Value} {l : List UInt8} {a : Nat} {e : Int} (h : Cur w g v l a e) (he : e ≠ 0) :
    Calls Try.prog 62 #[.pointer (some ⟨g, 0, none⟩)] w fun x w' => x = .returned (.tuple #[.int .u64 0, .int .i64 12]) ∧ ∃ n, w' = w.drewN n := by
  have hL := left_cur h
  rw [show leftOf l a e = 0 by unfold leftOf; rw [if_neg he]] at hL
  clear h he
  go_enter Try.func62, Try.ntmps62
  go_wp2_with fail
  go_step3
  go_wp2_with fail
  go_step3
  go_wp2_with fail
  go_loopw [4] (fun n wr => n = .int .u64 0 ∧ wr = w) (fun _ _ => 0)
  case atStart => exact ⟨rfl, rfl⟩
  case round =>
    obtain ⟨rfl, rfl⟩ := hrel
    go_wp2_with (go_at_call 69; refine hL.mono ?_; rintro r1 w1 ⟨rfl, n1, rfl⟩)
    (try rw [Exit.noGoto_ret])
    go_ret2
    exact ⟨rfl, _, rfl⟩

/-- measure of any cursor: what it tells; the cursor stands somewhere, and has refused what it had refused. -/
theorem measure_cur {w : World} {g : Nat} {v : Value} {l : List UInt8} {a : Nat} {e : Int} (h : Cur w g v l a e) (hlen : l.length ≤ 140737488355328) :
    Calls Try.prog 62 #[.pointer (some ⟨g, 0, none⟩)] w fun x w' => x = .returned (.tuple #[.int .u64 ((sizeT (l.drop a) e).1 : Int), .int .i64 (sizeT (l.drop a) e).2]) ∧ (∃ b, Cur w' g v l b e ∧ (e ≠ 0 → b = a)) ∧ w.grownBy w' (some g) := by
  by_cases he : e = 0
  · subst he
    exact (measure_ok h hlen).mono fun x w' ⟨h1, ⟨b, h2⟩, h3⟩ => ⟨h1, ⟨b, h2, fun k => absurd rfl k⟩, h3⟩
  · rw [sizeT_bad _ he]
    refine (measure_ref h he).mono fun x w' ⟨h1, n, h2⟩ => ⟨h1, ⟨a, ?_, fun _ => rfl⟩, ?_⟩
    · subst h2; exact h.drewN n
    · subst h2; exact only_drewN (only_refl _ _) n

end Go.Proofs.Ytkadjejjillmmaa
