/-
  The walk of CursorBack: a number that is put is read again, with what stands behind it left.
-/
import Derived.Test.YtbggajojhopaaaaLawC
namespace Go.Proofs.Ytbggajojhopaaaa
open Go Go.RowKit

/-- What the law makes of a size. -/
def sizeOf9 (s : Int) : Nat := (s % 18446744073709551616 % 9).toNat

theorem new_own {w : World} {base : Nat} {v : Value} {l : List UInt8} (h : Own w base v l) (hlen : l.length ≤ 140737488355328) :
    Calls Try.prog 17 #[v] w fun r w' => ∃ g v', r = .returned (.pointer (some ⟨g, 0, none⟩)) ∧ Made w.heap.size w' g v' l 0 ∧ Below w.heap.size w w' := by
  obtain ⟨A, c, rfl, _, _, hr⟩ := own_slice h
  exact new_any c hr (Nat.le_refl _) hlen

theorem wrap_pow (k : Nat) (h : k < 8) : IntKind.u64.wrap (2 ^ (8 * k)) = ((256 ^ k : Nat) : Int) := by
  rw [IntKind.wrap_u64]
  have cases8 : k = 0 ∨ k = 1 ∨ k = 2 ∨ k = 3 ∨ k = 4 ∨ k = 5 ∨ k = 6 ∨ k = 7 := by omega
  rcases cases8 with rfl | rfl | rfl | rfl | rfl | rfl | rfl | rfl <;> rfl

theorem uint_back {w : World} {g : Nat} {v : Value} {x k : Nat} {l : List UInt8} (h : Cur w g v (leBytes x k ++ l) 0 0) (hk : k ≤ 8) (hlen : l.length ≤ 140737488355000) :
    Calls Try.prog 32 #[.pointer (some ⟨g, 0, none⟩), .int .i64 (k : Int)] w fun r w' =>
      r = .returned (.int .u64 ((x % 256 ^ k : Nat) : Int)) ∧ Cur w' g v (leBytes x k ++ l) k 0 ∧ w.grownBy w' (some g) := by
  have hu := uint_cur h (k : Int) (by omega) (by simp; omega)
  have hck : clampOf (k : Int) = k := by unfold clampOf; omega
  have hg : nextGot (leBytes x k ++ l) 0 0 k = leBytes x k := by
    unfold nextGot
    rw [if_pos ⟨rfl, by simp⟩, List.drop_zero, List.take_append_of_le_length (by simp), List.take_of_length_le (by simp)]
  have ha : nextAt (leBytes x k ++ l) 0 0 k = k := by
    unfold nextAt
    rw [if_pos ⟨rfl, by simp⟩, Nat.zero_add]
  have he : nextErr (leBytes x k ++ l) 0 0 k = 0 := by
    unfold nextErr
    rw [if_pos rfl, if_pos (by simp)]
  rw [hck, hg, ha, he, leNat_leBytes] at hu
  exact hu

theorem left_back {w : World} {g : Nat} {v : Value} {x k : Nat} {l : List UInt8} (h : Cur w g v (leBytes x k ++ l) k 0) :
    Calls Try.prog 20 #[.pointer (some ⟨g, 0, none⟩)] w fun r w' => r = .returned (.int .i64 (l.length : Int)) ∧ ∃ n, w' = w.drewN n := by
  have hl := left_cur h
  have e : leftOf (leBytes x k ++ l) k 0 = l.length := by unfold leftOf; rw [if_pos rfl]; simp
  rwa [e] at hl

set_option maxHeartbeats 1000000 in
theorem back_walk (a0 a1 : Int) (a2 : Option Addr) (len2 cap2 : Nat) (z2 : List Int) (w : World) (w0 : (Lit.int .u64 a0).wf = true) (w1 : (Lit.int .i64 a1).wf = true) (w2 : IsRow .u8 w a2 len2 cap2 z2) :
    Calls Try.prog 7 #[.int .u64 a0, .int .i64 a1, .slice a2 len2 cap2] w fun e w' => e = .returned (.bool true) ∧ Below w.heap.size w w' := by
  obtain ⟨l, hlen, hrd, hlc, hcm⟩ := row_bytes w2
  obtain ⟨x, rfl, hx⟩ := nat_of_u64 w0
  have hs := i64_of w1
  clear w0 w1 w2
  obtain ⟨i0, hi, hz0, hz1, hz2⟩ := info_parts u8_info
  have hW := works_any w
  have hk9 : sizeOf9 a1 < 9 := by unfold sizeOf9; omega
  have hsz : (IntKind.u64.wrap a1).tmod 9 = (sizeOf9 a1 : Int) := by
    rw [IntKind.wrap_u64, Int.tmod_eq_emod_of_nonneg (by omega)]; unfold sizeOf9; omega
  generalize sizeOf9 a1 = k at *
  by_cases hbig : 5000 < len2
  · have hd : decide ((5000 : Int) < (len2 : Int)) = true := by simp; omega
    go_enter Try.func7, Try.ntmps7
    go_wp2_with (go_at_call 16; refine hW.mono ?_; rintro r w1 ⟨rfl, hb1⟩)
    go_ret
    exact ⟨rfl, hb1⟩
  · have hd : decide ((5000 : Int) < (len2 : Int)) = false := by simp; omega
    have hck : clampOf (k : Int) = k := by unfold clampOf; omega
    have HP := Lib.hid (fun W (hW : w.heap.size ≤ W.heap.size) => put_any (w := W) (base := w.heap.size) (l := []) (v := .slice none 0 0) (World.ownsRow_nil _ _ _ _) hW x (k : Int) (by omega) (by simp))
    have HR := Lib.hid (fun (W : World) (hW : Below w.heap.size w W) => hrd.below hW)
    have hsum : ([] ++ leBytes x (clampOf (k : Int))).length + l.length ≤ 140737488355328 := by rw [hck]; simp; omega
    have HL := Lib.hid hlen
    have hk8 : (k : Int) ≤ 8 := by omega
    have HK := Lib.hid hck
    have hl5 : l.length ≤ 140737488355000 := by omega
    have hsum2 : ([] ++ leBytes x (clampOf (k : Int)) ++ l).length ≤ 140737488355328 := by rw [hck]; simp; omega
    have HLs := Lib.hid (show [] ++ leBytes x (clampOf (k : Int)) ++ l = leBytes x k ++ l by rw [hck]; rfl)
    have HX := Lib.hid (show x < 256 ^ 8 from hx)
    have HF := Lib.hid (fun W g v (h : Cur W g v (leBytes x k ++ l) k 0) => (show Calls Try.prog 20 #[.pointer (some ⟨g, 0, none⟩)] W fun r w' => r = .returned (.int .i64 (len2 : Int)) ∧ ∃ n, w' = W.drewN n from by have := left_back h; rwa [hlen] at this))
    clear hlen hrd hx hs hck
    by_cases hlt : k < 8
    · have hlt' : (k : Int) < 8 := by omega
      obtain ⟨M, hMw, hMp, HM⟩ : ∃ M : Nat, IntKind.u64.wrap (2 ^ (8 * k)) = (M : Int) ∧ (0 : Int) < (M : Int) ∧ Hid (M = 256 ^ k) := ⟨256 ^ k, wrap_pow k hlt, by have : 0 < 256 ^ k := Nat.pow_pos (by decide); omega, Lib.hid rfl⟩
      have HU := Lib.hid (fun W g v (h : Cur W g v (leBytes x k ++ l) 0 0) => (show Calls Try.prog 32 #[.pointer (some ⟨g, 0, none⟩), .int .i64 (k : Int)] W fun r w' =>
        r = .returned (.int .u64 ((x : Int) % (M : Int))) ∧ Cur w' g v (leBytes x k ++ l) k 0 ∧ W.grownBy w' (some g) from by
          have := uint_back h (by omega) hl5
          rw [HM.out, ← Int.natCast_emod]; exact this))
      go_enter Try.func7, Try.ntmps7
      go_wp2_with (first
        | (go_at_call 16; refine hW.mono ?_; rintro r w1 ⟨rfl, hb1⟩)
        | (go_at_call 25; refine (HP.out _ hb1.size).mono ?_; rintro r w2 ⟨v2, rfl, hL2⟩; have hb2 := hb1.trans (below_of_only hL2.2.1 hb1.size (by simp [Value.ownBlock])))
        | (at_builtin; refine wpList_append_bytes (by rfl) (.tmp 20) (.tmp 21) _ (by rfl) w.heap.size i0 Try.underlying22 hi hz0 hz1 hz2 v2 _ (by rfl) hL2.1 w.heap.size a2 len2 cap2 l HL.out (by rfl) (HR.out _ hb2) hsum hb2.size ?_; intro v3 w3 hown3 hg3 hat3; have hb3 := hb2.grown hg3 hb2.size (fun q hq => (own_ge hL2.1 q hq).1))
        | (go_at_call 17; refine (new_own hown3 hsum2).mono ?_; rintro r w4 ⟨g, v4, rfl, hM, hb4⟩; have hb5 := hb3.trans (hb4.mono hb3.size); have hM1 := made_up hb3.size hM; clear hM; rw [HLs.out] at hM1)
        | (go_at_call 32; refine (HU.out _ _ _ hM1.1).mono ?_; rintro r w6 ⟨rfl, hC6, hG6⟩; have hb6 := hb5.trans (below_of_only hG6 hb5.size (fun q hq => by injection hq with hq; have := hM1.2.1; omega)))
        | (go_at_call 19; refine (at_cur hC6).mono ?_; rintro r w7 ⟨rfl, rfl⟩)
        | (go_at_call 20; refine (HF.out _ _ _ hC6).mono ?_; rintro r w7 ⟨rfl, n, rfl⟩))
      go_ret
      exact ⟨rfl, below_drewN hb6 n⟩
    · have hk : k = 8 := by omega
      subst hk
      have HU := Lib.hid (fun W g v (h : Cur W g v (leBytes x 8 ++ l) 0 0) => (show Calls Try.prog 32 #[.pointer (some ⟨g, 0, none⟩), .int .i64 8] W fun r w' =>
        r = .returned (.int .u64 (x : Int)) ∧ Cur w' g v (leBytes x 8 ++ l) 8 0 ∧ W.grownBy w' (some g) from by
          have := uint_back h (by omega) hl5
          rw [Nat.mod_eq_of_lt HX.out] at this; exact this))
      go_enter Try.func7, Try.ntmps7
      go_wp2_with (first
        | (go_at_call 16; refine hW.mono ?_; rintro r w1 ⟨rfl, hb1⟩)
        | (go_at_call 25; refine (HP.out _ hb1.size).mono ?_; rintro r w2 ⟨v2, rfl, hL2⟩; have hb2 := hb1.trans (below_of_only hL2.2.1 hb1.size (by simp [Value.ownBlock])))
        | (at_builtin; refine wpList_append_bytes (by rfl) (.tmp 20) (.tmp 21) _ (by rfl) w.heap.size i0 Try.underlying22 hi hz0 hz1 hz2 v2 _ (by rfl) hL2.1 w.heap.size a2 len2 cap2 l HL.out (by rfl) (HR.out _ hb2) hsum hb2.size ?_; intro v3 w3 hown3 hg3 hat3; have hb3 := hb2.grown hg3 hb2.size (fun q hq => (own_ge hL2.1 q hq).1))
        | (go_at_call 17; refine (new_own hown3 hsum2).mono ?_; rintro r w4 ⟨g, v4, rfl, hM, hb4⟩; have hb5 := hb3.trans (hb4.mono hb3.size); have hM1 := made_up hb3.size hM; clear hM; rw [HLs.out] at hM1)
        | (go_at_call 32; refine (HU.out _ _ _ hM1.1).mono ?_; rintro r w6 ⟨rfl, hC6, hG6⟩; have hb6 := hb5.trans (below_of_only hG6 hb5.size (fun q hq => by injection hq with hq; have := hM1.2.1; omega)))
        | (go_at_call 19; refine (at_cur hC6).mono ?_; rintro r w7 ⟨rfl, rfl⟩)
        | (go_at_call 20; refine (HF.out _ _ _ hC6).mono ?_; rintro r w7 ⟨rfl, n, rfl⟩))
      go_ret
      exact ⟨rfl, below_drewN hb6 n⟩

end Go.Proofs.Ytbggajojhopaaaa
