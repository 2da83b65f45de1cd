/-
  Package elfhead: whether a header may be, of a file of some size: Right, and the document's.
-/
import Derived.Test.YtldmjnbmjfnfeaaGreatDoorPutR
namespace Go.Proofs.YtldmjnbmjfnfeaaGreatDoor
open Go Go.RowKit

/-- A header as a value. -/
abbrev hdV (t m : Int) (o : Nat) (n s : Int) : Value := .agg #[.int .i64 t, .int .i64 m, .int .u64 (o : Int), .int .i64 n, .int .i64 s]

/-- Whether a header may be, of a file of some size. -/
def rightOf (t m : Int) (o : Nat) (n s size : Int) : Bool :=
  decide (t = 1 ∨ t = 2) && decide (m = 62 ∨ m = 183) && decide (1 ≤ n ∧ n ≤ 64) && decide (1 ≤ s ∧ s < n) && decide (0 ≤ size ∧ (o : Int) + n * 64 ≤ size)

theorem within_eh (o k z : Nat) (w : World) (ho : o < two64) (hk : k ≤ 64) (hz : z < two64) :
    Calls Tryz.prog 110 #[.int .u64 (o : Int), .int .u64 ((k : Int) * 64), .int .u64 (z : Int)] w fun r w' => r = .returned (.bool (decide (o + k * 64 ≤ z))) ∧ w = w' := by
  have h := within_any o (k * 64) z w ho (by unfold two64; omega)
  rw [within_iff o (k * 64) z hz, Int.natCast_mul] at h
  exact h
theorem rwithin_eh (o k z : Nat) (w : World) (ho : o < two64) (hk : k ≤ 64) (hz : z < two64) :
    Calls Tryz.prog 97 #[.int .u64 (o : Int), .int .u64 ((k : Int) * 64), .int .u64 (z : Int)] w fun r w' => r = .returned (.bool (decide (o + k * 64 ≤ z))) ∧ w = w' := by
  have h := rwithin_any o (k * 64) z w ho (by unfold two64; omega)
  rw [within_iff o (k * 64) z hz, Int.natCast_mul] at h
  exact h

def RightIs (b : Bool) (w : World) (r : Ending) (w' : World) : Prop := r = .returned (.bool b) ∧ Below w.heap.size w w'

theorem three {t a b : Int} : t = a ∨ t = b ∨ (¬ (t = a ∨ t = b) ∧ (t != a) = true ∧ (t != b) = true) := by
  by_cases h : t = a
  · exact .inl h
  · by_cases h' : t = b
    · exact .inr (.inl h')
    · exact .inr (.inr ⟨by simp [h, h'], by simp [h], by simp [h']⟩)

theorem right_rest {t m : Int} {o k z : Nat} {s : Int} (ht : t = 1 ∨ t = 2) (hm : m = 62 ∨ m = 183) (hk : 1 ≤ k ∧ k ≤ 64) : rightOf t m o k s z = (decide (1 ≤ s ∧ s < k) && decide (o + k * 64 ≤ z)) := by
  have e : decide (0 ≤ (z : Int) ∧ (o : Int) + (k : Int) * 64 ≤ (z : Int)) = decide (o + k * 64 ≤ z) := decide_eq_decide.2 (by omega)
  have e1 : decide (1 ≤ (k : Int) ∧ (k : Int) ≤ 64) = true := decide_eq_true (by omega)
  have e2 : decide (t = 1 ∨ t = 2) = true := decide_eq_true ht
  have e3 : decide (m = 62 ∨ m = 183) = true := decide_eq_true hm
  unfold rightOf
  rw [e, e1, e2, e3]
  simp
theorem right_t {t m : Int} {o : Nat} {n s size : Int} (h : ¬ (t = 1 ∨ t = 2)) : rightOf t m o n s size = false := by simp [rightOf, h]
theorem right_m {t m : Int} {o : Nat} {n s size : Int} (h : ¬ (m = 62 ∨ m = 183)) : rightOf t m o n s size = false := by simp [rightOf, h]
theorem right_n {t m : Int} {o : Nat} {n s size : Int} (h : ¬ (1 ≤ n ∧ n ≤ 64)) : rightOf t m o n s size = false := by
  have e : decide (1 ≤ n ∧ n ≤ 64) = false := decide_eq_false h
  simp [rightOf, e]
theorem right_z {t m : Int} {o : Nat} {n s size : Int} (h : size < 0) : rightOf t m o n s size = false := by
  have e : decide (0 ≤ size ∧ (o : Int) + n * 64 ≤ size) = false := decide_eq_false (by omega)
  simp [rightOf, e]

/-- All that is in order but s and the place of the entries. -/
theorem right_cin (t m : Int) (o : Nat) (k z : Nat) (s : Int) (w : World) (ho : o < two64) (ht : t = 1 ∨ t = 2) (hm : m = 62 ∨ m = 183) (hk : 1 ≤ k ∧ k ≤ 64) (hz : (z : Int) ≤ 9223372036854775807) :
    Calls Tryz.prog 64 #[hdV t m o k s, .int .i64 (z : Int)] w (RightIs (rightOf t m o k s z) w) := by
  have hW := fun W => within_eh o k z W ho hk.2 (by unfold two64; omega)
  have HR := Lib.hid (right_rest (o := o) (z := z) (s := s) ht hm hk)
  generalize rightOf t m o k s z = b at *
  have h1 : decide ((k : Int) < 1) = false := by simp; omega
  have h2 : decide ((64 : Int) < (k : Int)) = false := by simp; omega
  have hk64 : (k : Int) ≤ 64 := by omega
  clear ho hk
  by_cases hs : 1 ≤ s ∧ s < k
  · obtain ⟨hs1, hs2⟩ := hs
    have h3 : decide (s < 1) = false := by simp; omega
    have h4 : decide ((k : Int) ≤ s) = false := by simp; omega
    have HB := Lib.hid (show b = decide (o + k * 64 ≤ z) by rw [HR.out, decide_eq_true (show 1 ≤ s ∧ s < (k : Int) from ⟨hs1, hs2⟩), Bool.true_and])
    clear hs1 hs2 HR
    rcases ht with rfl | rfl <;> rcases hm with rfl | rfl
    all_goals
      go_enter Tryz.func64, Tryz.ntmps64
      go_wp2_with (go_at_call 110; refine (hW _).mono ?_; rintro r w' ⟨rfl, rfl⟩)
      go_ret
      exact ⟨by rw [HB.out]; rfl, (Below.refl _ _).alloc (Nat.le_refl _) _⟩
  · have HB := Lib.hid (show b = false by rw [HR.out, decide_eq_false hs, Bool.false_and])
    clear HR hW
    rcases ht with rfl | rfl <;> rcases hm with rfl | rfl
    all_goals
      by_cases hs1 : s < 1
      · clear hs
        go_enter Tryz.func64, Tryz.ntmps64
        go_wp2
        go_ret
        exact ⟨by rw [HB.out]; rfl, (Below.refl _ _).alloc (Nat.le_refl _) _⟩
      · have h4 : decide ((k : Int) ≤ s) = true := by simp; omega
        clear hs
        go_enter Tryz.func64, Tryz.ntmps64
        go_wp2
        go_ret
        exact ⟨by rw [HB.out]; rfl, (Below.refl _ _).alloc (Nat.le_refl _) _⟩

theorem right_ct (t m : Int) (o : Nat) (n s size : Int) (w : World) (ht : ¬ (t = 1 ∨ t = 2)) :
    Calls Tryz.prog 64 #[hdV t m o n s, .int .i64 size] w (RightIs (rightOf t m o n s size) w) := by
  have HB := Lib.hid (right_t (t := t) (m := m) (o := o) (n := n) (s := s) (size := size) ht)
  generalize rightOf t m o n s size = b at *
  have h1 : (t != 1) = true := by simp; omega
  have h2 : (t != 2) = true := by simp; omega
  clear ht
  go_enter Tryz.func64, Tryz.ntmps64
  go_wp2
  go_ret
  exact ⟨by rw [HB.out]; rfl, (Below.refl _ _).alloc (Nat.le_refl _) _⟩

theorem right_cm (t m : Int) (o : Nat) (n s size : Int) (w : World) (ht : t = 1 ∨ t = 2) (hm : ¬ (m = 62 ∨ m = 183)) :
    Calls Tryz.prog 64 #[hdV t m o n s, .int .i64 size] w (RightIs (rightOf t m o n s size) w) := by
  have HB := Lib.hid (right_m (t := t) (m := m) (o := o) (n := n) (s := s) (size := size) hm)
  generalize rightOf t m o n s size = b at *
  have h1 : (m != 62) = true := by simp; omega
  have h2 : (m != 183) = true := by simp; omega
  clear hm
  rcases ht with rfl | rfl
  all_goals
    go_enter Tryz.func64, Tryz.ntmps64
    go_wp2
    go_ret
    exact ⟨by rw [HB.out]; rfl, (Below.refl _ _).alloc (Nat.le_refl _) _⟩

theorem right_cn (t m : Int) (o : Nat) (n s size : Int) (w : World) (ht : t = 1 ∨ t = 2) (hm : m = 62 ∨ m = 183) (hn : ¬ (1 ≤ n ∧ n ≤ 64)) :
    Calls Tryz.prog 64 #[hdV t m o n s, .int .i64 size] w (RightIs (rightOf t m o n s size) w) := by
  have HB := Lib.hid (right_n (t := t) (m := m) (o := o) (n := n) (s := s) (size := size) hn)
  generalize rightOf t m o n s size = b at *
  by_cases h1 : n < 1
  · clear hn
    rcases ht with rfl | rfl <;> rcases hm with rfl | rfl
    all_goals
      go_enter Tryz.func64, Tryz.ntmps64
      go_wp2
      go_ret
      exact ⟨by rw [HB.out]; rfl, (Below.refl _ _).alloc (Nat.le_refl _) _⟩
  · have h2 : decide ((64 : Int) < n) = true := by simp; omega
    clear hn
    rcases ht with rfl | rfl <;> rcases hm with rfl | rfl
    all_goals
      go_enter Tryz.func64, Tryz.ntmps64
      go_wp2
      go_ret
      exact ⟨by rw [HB.out]; rfl, (Below.refl _ _).alloc (Nat.le_refl _) _⟩

theorem right_cz (t m : Int) (o : Nat) (n s size : Int) (w : World) (ht : t = 1 ∨ t = 2) (hm : m = 62 ∨ m = 183) (hn : 1 ≤ n ∧ n ≤ 64) (hz : size < 0) :
    Calls Tryz.prog 64 #[hdV t m o n s, .int .i64 size] w (RightIs (rightOf t m o n s size) w) := by
  have HB := Lib.hid (right_z (t := t) (m := m) (o := o) (n := n) (s := s) (size := size) hz)
  generalize rightOf t m o n s size = b at *
  have h1 : decide (n < 1) = false := by simp; omega
  have h2 : decide ((64 : Int) < n) = false := by simp; omega
  clear hn
  by_cases h3 : s < 1
  · rcases ht with rfl | rfl <;> rcases hm with rfl | rfl
    all_goals
      go_enter Tryz.func64, Tryz.ntmps64
      go_wp2
      go_ret
      exact ⟨by rw [HB.out]; rfl, (Below.refl _ _).alloc (Nat.le_refl _) _⟩
  · by_cases h4 : n ≤ s
    · rcases ht with rfl | rfl <;> rcases hm with rfl | rfl
      all_goals
        go_enter Tryz.func64, Tryz.ntmps64
        go_wp2
        go_ret
        exact ⟨by rw [HB.out]; rfl, (Below.refl _ _).alloc (Nat.le_refl _) _⟩
    · rcases ht with rfl | rfl <;> rcases hm with rfl | rfl
      all_goals
        go_enter Tryz.func64, Tryz.ntmps64
        go_wp2
        go_ret
        exact ⟨by rw [HB.out]; rfl, (Below.refl _ _).alloc (Nat.le_refl _) _⟩

theorem eright_any (t m : Int) (o : Nat) (n s size : Int) (w : World) (ho : o < two64) (hz : size ≤ 9223372036854775807) :
    Calls Tryz.prog 64 #[hdV t m o n s, .int .i64 size] w (RightIs (rightOf t m o n s size) w) := by
  by_cases ht : t = 1 ∨ t = 2
  · by_cases hm : m = 62 ∨ m = 183
    · by_cases hn : 1 ≤ n ∧ n ≤ 64
      · by_cases h0 : size < 0
        · exact right_cz t m o n s size w ht hm hn h0
        · obtain ⟨k, rfl⟩ := Int.eq_ofNat_of_zero_le (show 0 ≤ n by omega)
          obtain ⟨z, rfl⟩ := Int.eq_ofNat_of_zero_le (show 0 ≤ size by omega)
          exact right_cin t m o k z s w ho ht hm (by omega) hz
      · exact right_cn t m o n s size w ht hm hn
    · exact right_cm t m o n s size w ht hm
  · exact right_ct t m o n s size w ht

end Go.Proofs.YtldmjnbmjfnfeaaGreatDoor
