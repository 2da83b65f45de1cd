/-
  The walk of LebAlike: a number that is not below 0, put with a sign, is read without one; and the other way about, where its last byte allows.
-/
import Derived.Test.YtkabefjppdklgaaLebL
namespace Go.Proofs.Ytkabefjppdklgaa
open Go Go.RowKit

theorem sizeU_le_sizeS (m : Nat) : sizeU m ≤ sizeS (m : Int) := by
  unfold sizeU sizeS sizeBits
  rw [if_pos (by omega), Int.toNat_natCast]
  omega

theorem sizeS_le_sizeU (m : Nat) (hm : m < 2 ^ 63) (h : m / 128 ^ (sizeU m - 1) % 128 < 64) : sizeS (m : Int) ≤ sizeU m := by
  have h1 := sizeU_range m (by omega)
  have h2 := sizeS_range (m : Int) (by omega)
  by_cases h9 : sizeU m ≤ 9
  · have h3 := (sizeU_le m (sizeU m) (by omega) h1.1 h9).1 (Nat.le_refl _)
    refine (sizeS_le (m : Int) (sizeU m) (by omega) h1.1 h9).2 ?_
    obtain ⟨k, hk⟩ : ∃ k, sizeU m = k + 1 := ⟨sizeU m - 1, by omega⟩
    rw [hk, Nat.add_sub_cancel] at h ⊢
    rw [hk, Nat.pow_succ] at h3
    have hp : 0 < 128 ^ k := Nat.pow_pos (by decide)
    have h4 : m / 128 ^ k < 128 := (Nat.div_lt_iff_lt_mul hp).2 (by rw [Nat.mul_comm]; exact h3)
    rw [Nat.mod_eq_of_lt h4] at h
    have h5 := (Nat.div_lt_iff_lt_mul hp).1 h
    omega
  · omega

theorem end_at {w : World} {g : Nat} {v : Value} {l : List UInt8} {a : Nat} (h : Cur w g v l a 0) (ha : a = l.length) :
    Calls Try.prog 21 #[.pointer (some ⟨g, 0, none⟩)] w fun r w' => r = .returned (.int .i64 0) ∧ ∃ n, w' = w.drewN n := by
  have h1 := end_cur h
  have h2 : endOf l a 0 = 0 := by unfold endOf leftOf; rw [if_neg]; simp; omega
  rwa [h2] at h1

theorem last_byte (s m : Nat) : (lebPut s (m : Int))[s - 1]? = some (UInt8.ofNat (m / 128 ^ (s - 1) % 128)) := by
  unfold lebPut
  rw [List.getElem?_append_right (by simp)]
  simp
  congr 1

/-- Of bytes of the call's own the last one. -/
theorem own_last {w : World} {base : Nat} {v : Value} {l : List UInt8} {k N : Nat} {u : UInt8} (h : Own w base v l) (hl : l.length = N) (hk : N = k + 1) (hu : l[k]? = some u) :
    ∃ b o c, v = .slice (some ⟨b, o, none⟩) N c ∧ w.cell? ⟨b, o + k, none⟩ = some (.int .u8 (u.toNat : Int)) := by
  obtain ⟨A, c, rfl, hc, hm, hr⟩ := own_slice h
  obtain ⟨b, o, rfl, _, hcell⟩ := hr (by omega)
  exact ⟨b, o, c, by rw [hl], hcell k u hu⟩

set_option maxRecDepth 20000 in
set_option maxHeartbeats 2000000 in
theorem lalike_walk (a0 : Int) (w0 : (Lit.int .u64 a0).wf = true) (w : World) :
    Calls Try.prog 13 #[.int .u64 a0] w fun e w' => e = .returned (.bool true) ∧ Below w.heap.size w w' := by
  obtain ⟨x, rfl, hx⟩ := nat_of_u64 w0
  clear w0
  have hW := works2_any w
  obtain ⟨m, hm⟩ : ∃ m : Nat, m = x / 2 := ⟨_, rfl⟩
  have hxm : (x : Int) / 2 = (m : Int) := by omega
  have hm63 : m < 2 ^ 63 := by unfold two64 at hx; omega
  have hwr : IntKind.i64.wrap (m : Int) = (m : Int) := by rw [IntWalk.i64_in _ (by omega)]
  have hwr' : wrap64 (m : Int) = (m : Int) := wrap64_in (by omega)
  have hs1 := sizeU_range m (by omega)
  have hs2 := sizeS_range (m : Int) (by omega)
  obtain ⟨k, hk⟩ : ∃ k, sizeU m = k + 1 := ⟨sizeU m - 1, by omega⟩
  have l1 := lebPut_length (sizeU m) (m : Int) hs1.1
  have l2 := lebPut_length (sizeS (m : Int)) (m : Int) hs2.1
  have P1 := Lib.hid (fun W (hW : w.heap.size ≤ W.heap.size) => putS_any (w := W) (nil_own W w.heap.size) hW (m : Int) (by omega) (by simp))
  have P2 := Lib.hid (fun W (hW : w.heap.size ≤ W.heap.size) => putU_any (w := W) (nil_own W w.heap.size) hW m (by omega) (by simp))
  have U1 := Lib.hid (fun W g v (h : Cur W g v ([] ++ lebPut (sizeS (m : Int)) (m : Int)) 0 0) => u_at [] h (by simp; omega) (by simp) (by omega) (sizeU_le_sizeS m) hs2.2)
  have N1 : ([] ++ lebPut (sizeS (m : Int)) (m : Int)).length ≤ 140737488355328 := by simp; omega
  have N2 : ([] ++ lebPut (sizeU m) (m : Int)).length ≤ 140737488355328 := by simp; omega
  have E1 := Lib.hid (fun W g v (h : Cur W g v ([] ++ lebPut (sizeS (m : Int)) (m : Int)) (0 + sizeS (m : Int)) 0) => end_at h (by simp [l2]))
  obtain ⟨N, hN⟩ : ∃ N, N = k + 1 := ⟨_, rfl⟩
  have NK := Lib.hid hN
  have hNk : (N : Int) - 1 = (k : Int) := by omega
  have hNl : (k : Int) < (N : Int) := by omega
  have LU := Lib.hid (show ([] ++ lebPut (sizeU m) (m : Int)).length = N by simp; omega)
  have LB := Lib.hid (show ([] ++ lebPut (sizeU m) (m : Int))[k]? = some (UInt8.ofNat (m / 128 ^ (sizeU m - 1) % 128)) by
    have := last_byte (sizeU m) m
    rw [hk, Nat.add_sub_cancel] at this
    rw [hk, Nat.add_sub_cancel]
    simpa using this)
  have hbn : (UInt8.ofNat (m / 128 ^ (sizeU m - 1) % 128)).toNat = m / 128 ^ (sizeU m - 1) % 128 := by rw [UInt8.toNat_ofNat']; omega
  have hk9 : (k : Int) ≤ 9 := by omega
  by_cases hlast : m / 128 ^ (sizeU m - 1) % 128 < 64
  · have S1 := Lib.hid (fun W g v (h : Cur W g v ([] ++ lebPut (sizeU m) (m : Int)) 0 0) => s_at [] h (by simp; omega) (by simp) (by omega) (sizeS_le_sizeU m hm63 hlast) hs1.2)
    have E2 := Lib.hid (fun W g v (h : Cur W g v ([] ++ lebPut (sizeU m) (m : Int)) (0 + sizeU m) 0) => end_at h (by simp [l1]))
    have hcmp : ((UInt8.ofNat (m / 128 ^ (sizeU m - 1) % 128)).toNat : Int) < 64 := by omega
    clear hm hx hm63 hs1 hs2 l1 l2 hlast hk hbn hN
    generalize UInt8.ofNat (m / 128 ^ (sizeU m - 1) % 128) = u at *
    go_enter Try.func13, Try.ntmps13
    go_wp2_with (first
      | (go_at_call 37; refine hW.mono ?_; rintro r w1 ⟨rfl, hb1⟩)
      | (go_at_call 44; refine (P1.out _ hb1.size).mono ?_; rintro r w2 ⟨v2, rfl, hL2⟩; have hb2 := below_laid_nil hb1 hL2)
      | (go_at_call 15; refine (new_own hL2.1 N1).mono ?_; rintro r w3 ⟨g, v3, rfl, hM, hb3⟩; have hb4 := hb2.trans (hb3.mono hb2.size); have hM1 := made_up hb2.size hM; clear hM hL2)
      | (go_at_call 38; refine (U1.out _ _ _ hM1.1).mono ?_; rintro r w5 ⟨rfl, hC5, hG5⟩; have hb5 := below_cur hb4 hG5 hM1.2.1)
      | (go_at_call 21; refine (E1.out _ _ _ hC5).mono ?_; rintro r w6 ⟨rfl, n6, rfl⟩; have hb6 := below_drewN hb5 n6; clear hC5)
      | (go_at_call 42; refine (P2.out _ hb6.size).mono ?_; rintro r w7 ⟨v7, rfl, hL7⟩; have hb7 := below_laid_nil hb6 hL7; obtain ⟨b7, o7, c7, rfl, hcell7⟩ := own_last hL7.1 LU.out NK.out LB.out)
      | (go_at_call 15; refine (new_own hL7.1 N2).mono ?_; rintro r w8 ⟨g8, v8, rfl, hM8, hb8⟩; have hb9 := hb7.trans (hb8.mono hb7.size); have hM9 := made_up hb7.size hM8; clear hM8)
      | (go_at_call 40; refine (S1.out _ _ _ hM9.1).mono ?_; rintro r w10 ⟨rfl, hC10, hG10⟩; have hb10 := below_cur hb9 hG10 hM9.2.1)
      | (go_at_call 21; refine (E2.out _ _ _ hC10).mono ?_; rintro r w11 ⟨rfl, n11, rfl⟩; have hb11 := below_drewN hb10 n11))
    go_ret
    exact ⟨rfl, hb11⟩
  · have hcmp : (64 : Int) ≤ ((UInt8.ofNat (m / 128 ^ (sizeU m - 1) % 128)).toNat : Int) := by omega
    clear hm hx hm63 hs1 hs2 l1 l2 hlast hk hbn hN
    generalize UInt8.ofNat (m / 128 ^ (sizeU m - 1) % 128) = u at *
    go_enter Try.func13, Try.ntmps13
    go_wp2_with (first
      | (go_at_call 37; refine hW.mono ?_; rintro r w1 ⟨rfl, hb1⟩)
      | (go_at_call 44; refine (P1.out _ hb1.size).mono ?_; rintro r w2 ⟨v2, rfl, hL2⟩; have hb2 := below_laid_nil hb1 hL2)
      | (go_at_call 15; refine (new_own hL2.1 N1).mono ?_; rintro r w3 ⟨g, v3, rfl, hM, hb3⟩; have hb4 := hb2.trans (hb3.mono hb2.size); have hM1 := made_up hb2.size hM; clear hM hL2)
      | (go_at_call 38; refine (U1.out _ _ _ hM1.1).mono ?_; rintro r w5 ⟨rfl, hC5, hG5⟩; have hb5 := below_cur hb4 hG5 hM1.2.1)
      | (go_at_call 21; refine (E1.out _ _ _ hC5).mono ?_; rintro r w6 ⟨rfl, n6, rfl⟩; have hb6 := below_drewN hb5 n6; clear hC5)
      | (go_at_call 42; refine (P2.out _ hb6.size).mono ?_; rintro r w7 ⟨v7, rfl, hL7⟩; have hb7 := below_laid_nil hb6 hL7; obtain ⟨b7, o7, c7, rfl, hcell7⟩ := own_last hL7.1 LU.out NK.out LB.out))
    go_ret
    exact ⟨rfl, hb7⟩

end Go.Proofs.Ytkabefjppdklgaa
