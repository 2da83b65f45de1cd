/-
  Package elfhead: whether a header may be, of a file of some size: Right, and the document's.
-/

import Derived.Test.YtpdjpafchfbabaaDoorPutR
namespace Go.Proofs.YtpdjpafchfbabaaDoor
open Go Go.RowKit

theorem eleNat_drop (m : List UInt8) (k : Nat) (hk : k < m.length) : leNat (m.drop k) = m[k].toNat + 256 * leNat (m.drop (k + 1)) := by
  rw [List.drop_eq_getElem_cons hk, leNat]

/-- Some bytes of a list, from a place on. -/
def cutT (l : List UInt8) (f n : Nat) : List UInt8 := (l.drop f).take n
theorem cutT_length (l : List UInt8) (f n : Nat) (h : f + n ≤ l.length) : (cutT l f n).length = n := by simp [cutT]; omega
theorem cutT_get (l : List UInt8) (f n k : Nat) (hk : k < n) : (cutT l f n)[k]? = l[f + k]? := by
  unfold cutT
  rw [List.getElem?_take, if_pos hk, List.getElem?_drop]
/-- The number of some bytes at a place. -/
def numT (l : List UInt8) (f n : Nat) : Nat := leNat (cutT l f n)

theorem num_step (X b k n : Nat) (hX : X < 256 ^ (n - (k + 1))) (hb : b < 256) (hk : k < n) (hn : n ≤ 8) : X * 256 + b < 18446744073709551616 := by
  have h : X + 1 ≤ 256 ^ (n - (k + 1)) := hX
  have h2 : 256 ^ (n - (k + 1)) ≤ 256 ^ 7 := Nat.pow_le_pow_right (by decide) (by omega)
  have h3 : (256 : Nat) ^ 7 = 72057594037927936 := rfl
  omega

set_option maxHeartbeats 400000 in
theorem eat_any {w : World} {B : Nat} {A : Option Addr} {l : List UInt8} (hr : Rd w B A l) (c f n : Nat) (hfn : f + n ≤ l.length) (hn : n ≤ 8) (hl : l.length ≤ 140737488355328) :
    Calls Tryd.prog 50 #[.slice A l.length c, .int .i64 (f : Int), .int .i64 (n : Int)] w fun r w' => r = .returned (.int .u64 (numT l f n : Int)) ∧ w = w' := by
  have hm := cutT_length l f n hfn
  have hg := fun k (hk : k < n) => cutT_get l f n k hk
  have HN := Lib.hid (show numT l f n = leNat (cutT l f n) from rfl)
  generalize cutT l f n = m at *
  generalize numT l f n = res at *
  generalize hL : l.length = L at *
  have HL := Lib.hid hL
  have HM := Lib.hid hm
  have HG := Lib.hid hg
  clear hL hm hg
  have hnI : (n : Int) ≤ 8 := by omega
  have s0 : IntKind.i64.wrap ((n : Int) - 1) = (n : Int) - 1 := by rw [IntWalk.i64_in _ (by omega)]
  go_enter Tryd.func50, Tryd.ntmps50
  go_wp2
  go_loop [7, 8] (fun x i => ∃ (j : Nat) (z : Int), j ≤ n ∧ z = (j : Int) - 1 ∧ i = .int .i64 z ∧ x = .int .u64 (leNat (m.drop j) : Int)) (fun _ i => ((intOf i) + 1).toNat)
  case atStart => exact ⟨n, _, Nat.le_refl _, rfl, rfl, by rw [List.drop_eq_nil_of_le (by rw [HM.out]; omega)]; rfl⟩
  case round =>
    obtain ⟨j, z, hj, hz, rfl, rfl⟩ := hrel
    rcases j with _ | k
    · obtain rfl : z = -1 := by omega
      have HR := Lib.hid (show leNat (m.drop 0) = res by rw [List.drop_zero, HN.out])
      clear hz
      generalize leNat (m.drop 0) = y at *
      go_wp2
      go_ret
      exact ⟨by rw [HR.out]; rfl, rfl⟩
    · obtain rfl : z = (k : Int) := by omega
      clear hz
      have hkm : k < m.length := by rw [HM.out]; omega
      obtain ⟨b, o, rfl, hb, hcell⟩ := hr (by rw [HL.out]; omega)
      have hck := hcell (f + k) m[k] (by rw [← HG.out k (by omega)]; exact List.getElem?_eq_getElem hkm)
      have HS := Lib.hid (eleNat_drop m k hkm)
      have hx := leNat_lt (m.drop (k + 1))
      rw [List.length_drop, HM.out] at hx
      have hb256 := m[k].toNat_lt
      have hst := num_step _ _ k n hx (by simpa using hb256) (by omega) hn
      clear hcell hr hx
      generalize leNat (m.drop (k + 1)) = X at *
      generalize m[k].toNat = bb at *
      have t1 : IntKind.u64.wrap ((X : Int) * 256) = (X : Int) * 256 := wraps_u64 _ (by omega) (by omega)
      have t2 : IntKind.u64.wrap ((X : Int) * 256 + (bb : Int)) = (X : Int) * 256 + (bb : Int) := wraps_u64 _ (by omega) (by omega)
      have t3 : IntKind.i64.wrap ((f : Int) + (k : Int)) = (f : Int) + (k : Int) := by rw [IntWalk.i64_in _ (by omega)]
      have t4 : (0 : Int) ≤ (f : Int) + (k : Int) := by omega
      have t5 : ((f : Int) + (k : Int)).toNat = f + k := by omega
      have t6 : f + k < L := by omega
      have HS' := Lib.hid (show (X : Int) * 256 + (bb : Int) = ((leNat (m.drop k) : Nat) : Int) by rw [HS.out]; omega)
      clear HS hb256
      go_wp2
      go_round
      case rel => exact ⟨k, (k : Int) - 1, by omega, rfl, by go_num, by rw [← HS'.out]⟩
      case measure => simp [intOf]

/-- A header's first bytes. -/
def magB : List UInt8 := [127, 69, 76, 70, 2, 1, 1]
/-- The table of them, as it lies in the package's variable. -/
def Mg (w : World) : Prop := ∀ j u, magB[j]? = some u → w.cell? ⟨0, j, none⟩ = some (.int .u8 (u.toNat : Int))

section
variable {w w' : World}
theorem Mg.pos (h : Mg w) : 0 < w.heap.size := World.block_lt_of_cell? w _ (h 0 127 rfl)
theorem Mg.drewN (h : Mg w) (n : Nat) : Mg (w.drewN n) := h
theorem Mg.below {B : Nat} (h : Mg w) (hb : Below B w w') (hB : 0 < B) : Mg w' := fun j u hu => (hb.cell (p := ⟨0, j, none⟩) hB).trans (h j u hu)
theorem Mg.grown {row : Option Nat} (h : Mg w) (hb : w.grownBy w' row) (hr : row ≠ some 0) : Mg w' :=
  fun j u hu => (World.cell?_of_block (hb.block 0 h.pos (fun e => hr e.symm))).trans (h j u hu)
theorem Mg.alloc (h : Mg w) (o : Obj) : Mg (w.alloc o) := h.below ((Below.refl w.heap.size w).alloc (Nat.le_refl _) o) h.pos
end

end Go.Proofs.YtpdjpafchfbabaaDoor

namespace Go.Proofs.YtpdjpafchfbabaaDoor
open Go Go.RowKit

/-- A header as a value. -/
abbrev hdV (t m : Int) (o : Nat) (n s : Int) : Value := .agg #[.int .i64 t, .int .i64 m, .int .u64 (o : Int), .int .i64 n, .int .i64 s]

/-- Whether a header may be, of a file of some size. -/
def rightOf (t m : Int) (o : Nat) (n s size : Int) : Bool :=
  decide (t = 1 ∨ t = 2) && decide (m = 62 ∨ m = 183) && decide (1 ≤ n ∧ n ≤ 64) && decide (1 ≤ s ∧ s < n) && decide (0 ≤ size ∧ (o : Int) + n * 64 ≤ size)

theorem within_eh (o k z : Nat) (w : World) (ho : o < two64) (hk : k ≤ 64) (hz : z < two64) :
    Calls Tryd.prog 59 #[.int .u64 (o : Int), .int .u64 ((k : Int) * 64), .int .u64 (z : Int)] w fun r w' => r = .returned (.bool (decide (o + k * 64 ≤ z))) ∧ w = w' := by
  have h := within_any o (k * 64) z w ho (by unfold two64; omega)
  rw [within_iff o (k * 64) z hz, Int.natCast_mul] at h
  exact h
theorem rwithin_eh (o k z : Nat) (w : World) (ho : o < two64) (hk : k ≤ 64) (hz : z < two64) :
    Calls Tryd.prog 53 #[.int .u64 (o : Int), .int .u64 ((k : Int) * 64), .int .u64 (z : Int)] w fun r w' => r = .returned (.bool (decide (o + k * 64 ≤ z))) ∧ w = w' := by
  have h := rwithin_any o (k * 64) z w ho (by unfold two64; omega)
  rw [within_iff o (k * 64) z hz, Int.natCast_mul] at h
  exact h

def RightIs (b : Bool) (w : World) (r : Ending) (w' : World) : Prop := r = .returned (.bool b) ∧ Below w.heap.size w w'

theorem three {t a b : Int} : t = a ∨ t = b ∨ (¬ (t = a ∨ t = b) ∧ (t != a) = true ∧ (t != b) = true) := by
  by_cases h : t = a
  · exact .inl h
  · by_cases h' : t = b
    · exact .inr (.inl h')
    · exact .inr (.inr ⟨by simp [h, h'], by simp [h], by simp [h']⟩)

theorem right_rest {t m : Int} {o k z : Nat} {s : Int} (ht : t = 1 ∨ t = 2) (hm : m = 62 ∨ m = 183) (hk : 1 ≤ k ∧ k ≤ 64) : rightOf t m o k s z = (decide (1 ≤ s ∧ s < k) && decide (o + k * 64 ≤ z)) := by
  have e : decide (0 ≤ (z : Int) ∧ (o : Int) + (k : Int) * 64 ≤ (z : Int)) = decide (o + k * 64 ≤ z) := decide_eq_decide.2 (by omega)
  have e1 : decide (1 ≤ (k : Int) ∧ (k : Int) ≤ 64) = true := decide_eq_true (by omega)
  have e2 : decide (t = 1 ∨ t = 2) = true := decide_eq_true ht
  have e3 : decide (m = 62 ∨ m = 183) = true := decide_eq_true hm
  unfold rightOf
  rw [e, e1, e2, e3]
  simp
theorem right_t {t m : Int} {o : Nat} {n s size : Int} (h : ¬ (t = 1 ∨ t = 2)) : rightOf t m o n s size = false := by simp [rightOf, h]
theorem right_m {t m : Int} {o : Nat} {n s size : Int} (h : ¬ (m = 62 ∨ m = 183)) : rightOf t m o n s size = false := by simp [rightOf, h]
theorem right_n {t m : Int} {o : Nat} {n s size : Int} (h : ¬ (1 ≤ n ∧ n ≤ 64)) : rightOf t m o n s size = false := by
  have e : decide (1 ≤ n ∧ n ≤ 64) = false := decide_eq_false h
  simp [rightOf, e]
theorem right_z {t m : Int} {o : Nat} {n s size : Int} (h : size < 0) : rightOf t m o n s size = false := by
  have e : decide (0 ≤ size ∧ (o : Int) + n * 64 ≤ size) = false := decide_eq_false (by omega)
  simp [rightOf, e]

/-- All that is in order but s and the place of the entries. -/
theorem right_cin (t m : Int) (o : Nat) (k z : Nat) (s : Int) (w : World) (ho : o < two64) (ht : t = 1 ∨ t = 2) (hm : m = 62 ∨ m = 183) (hk : 1 ≤ k ∧ k ≤ 64) (hz : (z : Int) ≤ 9223372036854775807) :
    Calls Tryd.prog 27 #[hdV t m o k s, .int .i64 (z : Int)] w (RightIs (rightOf t m o k s z) w) := by
  have hW := fun W => within_eh o k z W ho hk.2 (by unfold two64; omega)
  have HR := Lib.hid (right_rest (o := o) (z := z) (s := s) ht hm hk)
  generalize rightOf t m o k s z = b at *
  have h1 : decide ((k : Int) < 1) = false := by simp; omega
  have h2 : decide ((64 : Int) < (k : Int)) = false := by simp; omega
  have hk64 : (k : Int) ≤ 64 := by omega
  clear ho hk
  by_cases hs : 1 ≤ s ∧ s < k
  · obtain ⟨hs1, hs2⟩ := hs
    have h3 : decide (s < 1) = false := by simp; omega
    have h4 : decide ((k : Int) ≤ s) = false := by simp; omega
    have HB := Lib.hid (show b = decide (o + k * 64 ≤ z) by rw [HR.out, decide_eq_true (show 1 ≤ s ∧ s < (k : Int) from ⟨hs1, hs2⟩), Bool.true_and])
    clear hs1 hs2 HR
    rcases ht with rfl | rfl <;> rcases hm with rfl | rfl
    all_goals
      go_enter Tryd.func27, Tryd.ntmps27
      go_wp2_with (go_at_call 59; refine (hW _).mono ?_; rintro r w' ⟨rfl, rfl⟩)
      go_ret
      exact ⟨by rw [HB.out]; rfl, (Below.refl _ _).alloc (Nat.le_refl _) _⟩
  · have HB := Lib.hid (show b = false by rw [HR.out, decide_eq_false hs, Bool.false_and])
    clear HR hW
    rcases ht with rfl | rfl <;> rcases hm with rfl | rfl
    all_goals
      by_cases hs1 : s < 1
      · clear hs
        go_enter Tryd.func27, Tryd.ntmps27
        go_wp2
        go_ret
        exact ⟨by rw [HB.out]; rfl, (Below.refl _ _).alloc (Nat.le_refl _) _⟩
      · have h4 : decide ((k : Int) ≤ s) = true := by simp; omega
        clear hs
        go_enter Tryd.func27, Tryd.ntmps27
        go_wp2
        go_ret
        exact ⟨by rw [HB.out]; rfl, (Below.refl _ _).alloc (Nat.le_refl _) _⟩

theorem right_ct (t m : Int) (o : Nat) (n s size : Int) (w : World) (ht : ¬ (t = 1 ∨ t = 2)) :
    Calls Tryd.prog 27 #[hdV t m o n s, .int .i64 size] w (RightIs (rightOf t m o n s size) w) := by
  have HB := Lib.hid (right_t (t := t) (m := m) (o := o) (n := n) (s := s) (size := size) ht)
  generalize rightOf t m o n s size = b at *
  have h1 : (t != 1) = true := by simp; omega
  have h2 : (t != 2) = true := by simp; omega
  clear ht
  go_enter Tryd.func27, Tryd.ntmps27
  go_wp2
  go_ret
  exact ⟨by rw [HB.out]; rfl, (Below.refl _ _).alloc (Nat.le_refl _) _⟩

theorem right_cm (t m : Int) (o : Nat) (n s size : Int) (w : World) (ht : t = 1 ∨ t = 2) (hm : ¬ (m = 62 ∨ m = 183)) :
    Calls Tryd.prog 27 #[hdV t m o n s, .int .i64 size] w (RightIs (rightOf t m o n s size) w) := by
  have HB := Lib.hid (right_m (t := t) (m := m) (o := o) (n := n) (s := s) (size := size) hm)
  generalize rightOf t m o n s size = b at *
  have h1 : (m != 62) = true := by simp; omega
  have h2 : (m != 183) = true := by simp; omega
  clear hm
  rcases ht with rfl | rfl
  all_goals
    go_enter Tryd.func27, Tryd.ntmps27
    go_wp2
    go_ret
    exact ⟨by rw [HB.out]; rfl, (Below.refl _ _).alloc (Nat.le_refl _) _⟩

theorem right_cn (t m : Int) (o : Nat) (n s size : Int) (w : World) (ht : t = 1 ∨ t = 2) (hm : m = 62 ∨ m = 183) (hn : ¬ (1 ≤ n ∧ n ≤ 64)) :
    Calls Tryd.prog 27 #[hdV t m o n s, .int .i64 size] w (RightIs (rightOf t m o n s size) w) := by
  have HB := Lib.hid (right_n (t := t) (m := m) (o := o) (n := n) (s := s) (size := size) hn)
  generalize rightOf t m o n s size = b at *
  by_cases h1 : n < 1
  · clear hn
    rcases ht with rfl | rfl <;> rcases hm with rfl | rfl
    all_goals
      go_enter Tryd.func27, Tryd.ntmps27
      go_wp2
      go_ret
      exact ⟨by rw [HB.out]; rfl, (Below.refl _ _).alloc (Nat.le_refl _) _⟩
  · have h2 : decide ((64 : Int) < n) = true := by simp; omega
    clear hn
    rcases ht with rfl | rfl <;> rcases hm with rfl | rfl
    all_goals
      go_enter Tryd.func27, Tryd.ntmps27
      go_wp2
      go_ret
      exact ⟨by rw [HB.out]; rfl, (Below.refl _ _).alloc (Nat.le_refl _) _⟩

theorem right_cz (t m : Int) (o : Nat) (n s size : Int) (w : World) (ht : t = 1 ∨ t = 2) (hm : m = 62 ∨ m = 183) (hn : 1 ≤ n ∧ n ≤ 64) (hz : size < 0) :
    Calls Tryd.prog 27 #[hdV t m o n s, .int .i64 size] w (RightIs (rightOf t m o n s size) w) := by
  have HB := Lib.hid (right_z (t := t) (m := m) (o := o) (n := n) (s := s) (size := size) hz)
  generalize rightOf t m o n s size = b at *
  have h1 : decide (n < 1) = false := by simp; omega
  have h2 : decide ((64 : Int) < n) = false := by simp; omega
  clear hn
  by_cases h3 : s < 1
  · rcases ht with rfl | rfl <;> rcases hm with rfl | rfl
    all_goals
      go_enter Tryd.func27, Tryd.ntmps27
      go_wp2
      go_ret
      exact ⟨by rw [HB.out]; rfl, (Below.refl _ _).alloc (Nat.le_refl _) _⟩
  · by_cases h4 : n ≤ s
    · rcases ht with rfl | rfl <;> rcases hm with rfl | rfl
      all_goals
        go_enter Tryd.func27, Tryd.ntmps27
        go_wp2
        go_ret
        exact ⟨by rw [HB.out]; rfl, (Below.refl _ _).alloc (Nat.le_refl _) _⟩
    · rcases ht with rfl | rfl <;> rcases hm with rfl | rfl
      all_goals
        go_enter Tryd.func27, Tryd.ntmps27
        go_wp2
        go_ret
        exact ⟨by rw [HB.out]; rfl, (Below.refl _ _).alloc (Nat.le_refl _) _⟩

theorem eright_any (t m : Int) (o : Nat) (n s size : Int) (w : World) (ho : o < two64) (hz : size ≤ 9223372036854775807) :
    Calls Tryd.prog 27 #[hdV t m o n s, .int .i64 size] w (RightIs (rightOf t m o n s size) w) := by
  by_cases ht : t = 1 ∨ t = 2
  · by_cases hm : m = 62 ∨ m = 183
    · by_cases hn : 1 ≤ n ∧ n ≤ 64
      · by_cases h0 : size < 0
        · exact right_cz t m o n s size w ht hm hn h0
        · obtain ⟨k, rfl⟩ := Int.eq_ofNat_of_zero_le (show 0 ≤ n by omega)
          obtain ⟨z, rfl⟩ := Int.eq_ofNat_of_zero_le (show 0 ≤ size by omega)
          exact right_cin t m o k z s w ho ht hm (by omega) hz
      · exact right_cn t m o n s size w ht hm hn
    · exact right_cm t m o n s size w ht hm
  · exact right_ct t m o n s size w ht

end Go.Proofs.YtpdjpafchfbabaaDoor
