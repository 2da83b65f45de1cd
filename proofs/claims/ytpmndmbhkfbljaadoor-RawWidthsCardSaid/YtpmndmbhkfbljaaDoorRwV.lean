/-
  A value wide or not: plain facts.
-/
import Derived.Test.YtpmndmbhkfbljaaDoorRwM
namespace Go.Proofs.YtpmndmbhkfbljaaDoor
open Go Go.RowKit

/-- The kinds of offsets. -/
def offK (k : Int) : Prop := k = 6 ∨ k = 7 ∨ k = 12 ∨ k = 14
theorem off_siz {f : Int} (h : kindF f ≠ 0) : offK (kindF f) ↔ sizF f = -2 := by
  obtain ⟨n, rfl, hn⟩ := kindF_in h
  have : ∀ m : Fin 45, ((kindF ((m : Nat) : Int) = 6 ∨ kindF ((m : Nat) : Int) = 7 ∨ kindF ((m : Nat) : Int) = 12 ∨ kindF ((m : Nat) : Int) = 14) ↔ sizF ((m : Nat) : Int) = -2) := by decide
  exact this ⟨n, hn⟩
theorem wid_same {f : Int} (h : sizF f ≠ -2) : widF f true = widF f false := by
  unfold widF
  rw [if_neg h, if_neg h]
theorem right_same {x : RV} (h : sizF x.form ≠ -2) : rightV x true = rightV x false := by
  unfold rightV fitsV
  rw [wid_same h]
theorem put_same {x : RV} (h : sizF x.form ≠ -2) : putV x true = putV x false := by
  unfold putV
  rw [wid_same h]
theorem numB_le {z : Int} {n m : Nat} (hz : z = (m : Int)) (hm : m ≤ 8) : (numB z n).length = m := by
  subst hz
  unfold numB
  rw [if_neg (by omega), leBytes_length]
  unfold clampOf
  omega
theorem right_off {x : RV} (hr : rightV x false = true) (h : sizF x.form = -2) : rightV x true = true ∧ (putV x true).length = (putV x false).length + 4 := by
  have hk0 := (rightV_spec hr).1
  have hk := (off_siz hk0).2 h
  have h25 : x.form ≠ 25 := fun e => by rw [e] at h; exact absurd h (by decide)
  have n5 : ¬ kindF x.form = 5 := by unfold offK at hk; omega
  have n9 : ¬ (kindF x.form = 9 ∨ kindF x.form = 10) := by unfold offK at hk; omega
  have n3 : ¬ kindF x.form = 3 := by unfold offK at hk; omega
  have wf : widF x.form false = 4 := by unfold widF; rw [if_pos h]; rfl
  have wt : widF x.form true = 8 := by unfold widF; rw [if_pos h]; rfl
  refine ⟨?_, ?_⟩
  · unfold rightV at hr ⊢
    simp only [Bool.and_eq_true] at hr ⊢
    refine ⟨hr.1, hr.2.1, ?_⟩
    have hf := hr.2.2
    unfold fitsV at hf ⊢
    rw [if_neg n5, if_neg n9, if_neg n3, if_neg h25] at hf ⊢
    rw [wf] at hf
    rw [wt]
    unfold holdsV at hf ⊢
    rw [decide_eq_false (by decide), Bool.false_or, decide_eq_true_eq] at hf
    rw [decide_eq_false (by decide), Bool.false_or, decide_eq_true_eq]
    have h4 : x.u < 4294967296 := by
      rcases (Nat.div_eq_zero_iff.1 hf) with h | h
      · exact absurd h (by decide)
      · simpa using h
    exact Nat.div_eq_of_lt (Nat.lt_of_lt_of_le h4 (by decide))
  · unfold putV wholeV
    rw [if_neg n5, if_neg n9, if_neg n3, if_neg n5, if_neg n9, if_neg n3, wf, wt, numB_le (z := 8) (m := 8) rfl (by decide), numB_le (z := 4) (m := 4) rfl (by decide)]

end Go.Proofs.YtpmndmbhkfbljaaDoor
