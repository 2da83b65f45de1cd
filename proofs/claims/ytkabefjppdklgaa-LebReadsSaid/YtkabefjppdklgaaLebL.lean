/-
  The walk of LebBack: a number that is put, without a sign, with one, or in more bytes than it needs, is read again, with what stands behind it left.
-/
import Derived.Test.YtkabefjppdklgaaLebW
namespace Go.Proofs.Ytkabefjppdklgaa
open Go Go.RowKit

theorem u_at {w : World} {g : Nat} {v : Value} {l : List UInt8} {a s n : Nat} (t : List UInt8) (h : Cur w g v l a 0) (hlen : l.length ≤ 140737488355328) (hd : l.drop a = lebPut s (n : Int) ++ t) (hn : n < 2 ^ 64) (h1 : sizeU n ≤ s) (h2 : s ≤ 10) :
    Calls Try.prog 38 #[.pointer (some ⟨g, 0, none⟩)] w fun x w' => x = .returned (.int .u64 (n : Int)) ∧ Cur w' g v l (a + s) 0 ∧ w.grownBy w' (some g) := by
  have := u_cur h hlen
  rw [hd, show uOf (lebPut s (n : Int) ++ t) 0 = (n, s, 0) by unfold uOf; rw [if_pos rfl]; exact readU_put s n t hn h1 h2] at this
  exact this

theorem s_at {w : World} {g : Nat} {v : Value} {l : List UInt8} {a s : Nat} {n : Int} (t : List UInt8) (h : Cur w g v l a 0) (hlen : l.length ≤ 140737488355328) (hd : l.drop a = lebPut s n ++ t) (hn : -9223372036854775808 ≤ n ∧ n ≤ 9223372036854775807) (h1 : sizeS n ≤ s) (h2 : s ≤ 10) :
    Calls Try.prog 40 #[.pointer (some ⟨g, 0, none⟩)] w fun x w' => x = .returned (.int .i64 n) ∧ Cur w' g v l (a + s) 0 ∧ w.grownBy w' (some g) := by
  have := s_cur h hlen
  rw [hd, show sOf (lebPut s n ++ t) 0 = (n, s, 0) by unfold sOf; rw [if_pos rfl]; exact readS_put s n t hn h1 h2] at this
  exact this

theorem drop_at (a b : List UInt8) (k : Nat) (h : a.length = k) : (a ++ b).drop k = b := by subst h; exact List.drop_left ..

set_option maxHeartbeats 2000000 in
theorem lback_walk (a0 : Int) (a1 : Int) (a2 : Int) (a3 : Option Addr) (len3 cap3 : Nat) (z3 : List Int) (w : World) (w0 : (Lit.int .u64 a0).wf = true) (w1 : (Lit.int .i64 a1).wf = true) (_w2 : (Lit.int .i64 a2).wf = true) (w3 : IsRow .u8 w a3 len3 cap3 z3) :
    Calls Try.prog 11 #[.int .u64 a0, .int .i64 a1, .int .i64 a2, .slice a3 len3 cap3] w fun e w' => e = .returned (.bool true) ∧ Below w.heap.size w w' := by
  obtain ⟨l, hlen, hrd, hlc, hcm⟩ := row_bytes w3
  have hy := i64_of w1
  obtain ⟨x, rfl, hx⟩ := nat_of_u64 w0
  clear w0 w1 w3
  obtain ⟨i0, hi, hz0, hz1, hz2⟩ := info_parts u8_info
  have hW := works2_any w
  by_cases hbig : 2000 < len3
  · have hd : decide ((2000 : Int) < (len3 : Int)) = true := by simp; omega
    go_enter Try.func11, Try.ntmps11
    go_wp2_with (go_at_call 37; refine hW.mono ?_; rintro r w1 ⟨rfl, hb1⟩)
    go_ret
    exact ⟨rfl, hb1⟩
  · have hd : decide ((2000 : Int) < (len3 : Int)) = false := by simp; omega
    have hx64 : x < 2 ^ 64 := hx
    have hs1 := sizeU_range x hx64
    have hs2 := sizeS_range a1 hy
    have hs3 := wideOf_range x a2 hx64
    have l1 := lebPut_length (sizeU x) (x : Int) hs1.1
    have l2 := lebPut_length (sizeS a1) a1 hs2.1
    have l3 := lebPut_length (wideOf x a2) (x : Int) (by omega)
    obtain ⟨all, hall⟩ : ∃ all, all = lebPut (sizeU x) (x : Int) ++ (lebPut (sizeS a1) a1 ++ (lebPut (wideOf x a2) (x : Int) ++ l)) := ⟨_, rfl⟩
    have hal : all.length ≤ 140737488355328 := by rw [hall]; simp; omega
    have HP1 := Lib.hid (fun W (hW : w.heap.size ≤ W.heap.size) => putU_any (w := W) (nil_own W w.heap.size) hW x hx64 (by simp))
    have HP2 := Lib.hid (fun W v (hv : Own W w.heap.size v ([] ++ lebPut (sizeU x) (x : Int))) (hW : w.heap.size ≤ W.heap.size) => putS_any (w := W) hv hW a1 hy (by simp; omega))
    have HP3 := Lib.hid (fun W v (hv : Own W w.heap.size v ([] ++ lebPut (sizeU x) (x : Int) ++ lebPut (sizeS a1) a1)) (hW : w.heap.size ≤ W.heap.size) => putWide_any (w := W) hv hW x hx64 a2 (by simp; omega))
    have HR := Lib.hid (fun (W : World) (hW : Below w.heap.size w W) => hrd.below hW)
    have HL := Lib.hid hlen
    have hsum : ([] ++ lebPut (sizeU x) (x : Int) ++ lebPut (sizeS a1) a1 ++ lebPut (wideOf x a2) (x : Int)).length + l.length ≤ 140737488355328 := by simp; omega
    have hsum2 : ([] ++ lebPut (sizeU x) (x : Int) ++ lebPut (sizeS a1) a1 ++ lebPut (wideOf x a2) (x : Int) ++ l).length ≤ 140737488355328 := by simp; omega
    have HLs := Lib.hid (show [] ++ lebPut (sizeU x) (x : Int) ++ lebPut (sizeS a1) a1 ++ lebPut (wideOf x a2) (x : Int) ++ l = all by rw [hall]; simp)
    have HU1 := Lib.hid (fun W g v (h : Cur W g v all 0 0) => u_at (lebPut (sizeS a1) a1 ++ (lebPut (wideOf x a2) (x : Int) ++ l)) h hal (by rw [hall]; rfl) hx64 (Nat.le_refl _) hs1.2)
    have HU2 := Lib.hid (fun W g v (h : Cur W g v all (0 + sizeU x) 0) => s_at (lebPut (wideOf x a2) (x : Int) ++ l) h hal (by rw [hall, Nat.zero_add]; exact drop_at _ _ _ l1) hy (Nat.le_refl _) hs2.2)
    have HU3 := Lib.hid (fun W g v (h : Cur W g v all (0 + sizeU x + sizeS a1) 0) => u_at l h hal (by rw [hall, Nat.zero_add, ← List.append_assoc]; exact drop_at _ _ _ (by rw [List.length_append, l1, l2])) hx64 hs3.1 hs3.2)
    have HF := Lib.hid (fun W g v (h : Cur W g v all (0 + sizeU x + sizeS a1 + wideOf x a2) 0) => (show Calls Try.prog 18 #[.pointer (some ⟨g, 0, none⟩)] W fun r w' => r = .returned (.int .i64 (len3 : Int)) ∧ ∃ n, w' = W.drewN n from by
      have h1 := left_cur h
      have h2 : leftOf all (0 + sizeU x + sizeS a1 + wideOf x a2) 0 = len3 := by
        unfold leftOf
        rw [if_pos rfl, hall]
        simp [l1, l2, l3]; omega
      rwa [h2] at h1))
    clear hlen hrd hx hx64 hs1 hs2 hs3 l1 l2 l3 hall hal hy
    go_enter Try.func11, Try.ntmps11
    go_wp2_with (first
      | (go_at_call 37; refine hW.mono ?_; rintro r w1 ⟨rfl, hb1⟩)
      | (go_at_call 42; refine (HP1.out _ hb1.size).mono ?_; rintro r w2 ⟨v2, rfl, hL2⟩; have hb2 := below_laid_nil hb1 hL2)
      | (go_at_call 44; refine (HP2.out _ _ hL2.1 hb2.size).mono ?_; rintro r w3 ⟨v3, rfl, hL3⟩; have hb3 := below_laid hb2 hL2.1 hL3)
      | (go_at_call 46; refine (HP3.out _ _ hL3.1 hb3.size).mono ?_; rintro r w4 ⟨v4, rfl, hL4⟩; have hb4 := below_laid hb3 hL3.1 hL4)
      | (at_builtin; refine wpList_append_bytes (by rfl) (.tmp 21) (.tmp 22) _ (by rfl) w.heap.size i0 Try.underlying22 hi hz0 hz1 hz2 v4 _ (by rfl) hL4.1 w.heap.size a3 len3 cap3 l HL.out (by rfl) (HR.out _ hb4) hsum hb4.size ?_; intro v5 w5 hown5 hg5 hat5; have hb5 := hb4.grown hg5 hb4.size (fun q hq => (own_ge hL4.1 q hq).1))
      | (go_at_call 15; refine (new_own hown5 hsum2).mono ?_; rintro r w6 ⟨g, v6, rfl, hM, hb6⟩; have hb7 := hb5.trans (hb6.mono hb5.size); have hM1 := made_up hb5.size hM; clear hM; rw [HLs.out] at hM1)
      | (go_at_call 38; refine (HU1.out _ _ _ hM1.1).mono ?_; rintro r w8 ⟨rfl, hC8, hG8⟩; have hb8 := below_cur hb7 hG8 hM1.2.1)
      | (go_at_call 40; refine (HU2.out _ _ _ hC8).mono ?_; rintro r w9 ⟨rfl, hC9, hG9⟩; have hb9 := below_cur hb8 hG9 hM1.2.1)
      | (go_at_call 38; refine (HU3.out _ _ _ hC9).mono ?_; rintro r w10 ⟨rfl, hC10, hG10⟩; have hb10 := below_cur hb9 hG10 hM1.2.1)
      | (go_at_call 20; refine (err_cur hC10).mono ?_; rintro r w11 ⟨rfl, rfl⟩)
      | (go_at_call 18; refine (HF.out _ _ _ hC10).mono ?_; rintro r w12 ⟨rfl, n, rfl⟩))
    go_ret
    exact ⟨rfl, below_drewN hb10 n⟩

end Go.Proofs.Ytkabefjppdklgaa
