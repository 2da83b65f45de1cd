/-
  Plain facts on texts that end with a byte 0: no program is named here.
-/

namespace Go.Proofs.YtpmpgfngogdfhaaDoor

/-- How many bytes stand ahead of the first byte 0; all, where there is none. -/
def tlen : List UInt8 → Nat
  | [] => 0
  | b :: r => if b = 0 then 0 else tlen r + 1

theorem tlen_le (r : List UInt8) : tlen r ≤ r.length := by
  induction r with
  | nil => simp [tlen]
  | cons b r ih => simp only [tlen, List.length_cons]; split <;> omega

/-- The next text, how far it goes with its end, or why there is none. -/
def readT (r : List UInt8) : List UInt8 × Nat × Int :=
  if tlen r = r.length then ([], 0, 12) else if 200 < tlen r then ([], 0, 3) else (r.take (tlen r), tlen r + 1, 0)

theorem readT_end {r : List UInt8} (h : tlen r = r.length) : readT r = ([], 0, 12) := by unfold readT; rw [if_pos h]
theorem readT_big {r : List UInt8} (h : tlen r ≠ r.length) (h2 : 200 < tlen r) : readT r = ([], 0, 3) := by unfold readT; rw [if_neg h, if_pos h2]
theorem readT_ok {r : List UInt8} (h : tlen r ≠ r.length) (h2 : ¬ 200 < tlen r) : readT r = (r.take (tlen r), tlen r + 1, 0) := by unfold readT; rw [if_neg h, if_neg h2]
theorem readT_cases (r : List UInt8) : (tlen r = r.length ∧ readT r = ([], 0, 12)) ∨ (tlen r < r.length ∧ 200 < tlen r ∧ readT r = ([], 0, 3)) ∨ (tlen r < r.length ∧ tlen r ≤ 200 ∧ readT r = (r.take (tlen r), tlen r + 1, 0)) := by
  have h := tlen_le r
  by_cases h1 : tlen r = r.length
  · exact .inl ⟨h1, readT_end h1⟩
  · by_cases h2 : 200 < tlen r
    · exact .inr (.inl ⟨by omega, h2, readT_big h1 h2⟩)
    · exact .inr (.inr ⟨by omega, by omega, readT_ok h1 h2⟩)
theorem readT_move (r : List UInt8) (h : (readT r).2.2 = 0) : 1 ≤ (readT r).2.1 ∧ (readT r).2.1 = tlen r + 1 ∧ tlen r < r.length := by
  rcases readT_cases r with ⟨_, e⟩ | ⟨_, _, e⟩ | ⟨h1, _, e⟩ <;> rw [e] at h ⊢ <;> simp at h ⊢
  exact h1

  all_goals
    have h1 := (readT_move r _h).1
    have h2 : 0 < r.length := List.length_pos_iff.2 _h0
    simp only [List.length_drop]
    omega

end Go.Proofs.YtpmpgfngogdfhaaDoor
