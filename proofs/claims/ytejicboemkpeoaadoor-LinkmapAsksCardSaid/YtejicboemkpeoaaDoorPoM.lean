/-
  Plain facts on a pool of texts, each once, in one table: no program is named here.
-/
import Derived.Maps.OwnSet
namespace Go.Proofs.YtejicboemkpeoaaDoor

/-- How many bytes stand ahead of the first byte 0; all, where there is none. -/
def tlen : List UInt8 → Nat
  | [] => 0
  | b :: r => if b = 0 then 0 else tlen r + 1

theorem tlen_le (r : List UInt8) : tlen r ≤ r.length := by
  induction r with
  | nil => simp [tlen]
  | cons b r ih => simp only [tlen, List.length_cons]; split <;> omega

theorem tlen_end (r : List UInt8) (h : tlen r < r.length) : r[tlen r] = 0 := by
  induction r with
  | nil => simp at h
  | cons b r ih =>
    by_cases hb : b = 0
    · simp [tlen, hb]
    · have e : tlen (b :: r) = tlen r + 1 := by simp [tlen, hb]
      rw [e] at h
      have := ih (by simpa using h)
      simp only [e, List.getElem_cons_succ]
      exact this

/-- A place is the first 0's: none ahead, and it is one. -/
theorem tlen_eq (r : List UInt8) (k : Nat) (h : k < r.length) (ha : ∀ j (hj : j < r.length), j < k → r[j] ≠ 0) (h0 : r[k] = 0) : tlen r = k := by
  induction r generalizing k with
  | nil => simp at h
  | cons b r ih =>
    rcases k with _ | k
    · have hb : b = 0 := by simpa using h0
      simp [tlen, hb]
    · have hb : b ≠ 0 := ha 0 (by simp) (by omega)
      simp only [tlen, if_neg hb]
      rw [ih k (by simpa using h) (fun j hj hjk => ha (j + 1) (by simpa using hj) (by omega)) (by simpa using h0)]

theorem tlen_all (r : List UInt8) (ha : ∀ j (hj : j < r.length), r[j] ≠ 0) : tlen r = r.length := by
  have h1 := tlen_le r
  rcases Nat.lt_or_ge (tlen r) r.length with h | h
  · exact absurd (tlen_end r h) (ha _ h)
  · omega

/-- The next text, how far it goes with its end, or why there is none. -/
def readT (r : List UInt8) : List UInt8 × Nat × Int :=
  if tlen r = r.length then ([], 0, 12) else if 200 < tlen r then ([], 0, 3) else (r.take (tlen r), tlen r + 1, 0)

theorem readT_end {r : List UInt8} (h : tlen r = r.length) : readT r = ([], 0, 12) := by unfold readT; rw [if_pos h]
theorem readT_big {r : List UInt8} (h : tlen r ≠ r.length) (h2 : 200 < tlen r) : readT r = ([], 0, 3) := by unfold readT; rw [if_neg h, if_pos h2]
theorem readT_ok {r : List UInt8} (h : tlen r ≠ r.length) (h2 : ¬ 200 < tlen r) : readT r = (r.take (tlen r), tlen r + 1, 0) := by unfold readT; rw [if_neg h, if_neg h2]
theorem readT_cases (r : List UInt8) : (tlen r = r.length ∧ readT r = ([], 0, 12)) ∨ (tlen r < r.length ∧ 200 < tlen r ∧ readT r = ([], 0, 3)) ∨ (tlen r < r.length ∧ tlen r ≤ 200 ∧ readT r = (r.take (tlen r), tlen r + 1, 0)) := by
  have h := tlen_le r
  by_cases h1 : tlen r = r.length
  · exact .inl ⟨h1, readT_end h1⟩
  · by_cases h2 : 200 < tlen r
    · exact .inr (.inl ⟨by omega, h2, readT_big h1 h2⟩)
    · exact .inr (.inr ⟨by omega, by omega, readT_ok h1 h2⟩)
theorem readT_move (r : List UInt8) (h : (readT r).2.2 = 0) : 1 ≤ (readT r).2.1 ∧ (readT r).2.1 = tlen r + 1 ∧ tlen r < r.length := by
  rcases readT_cases r with ⟨_, e⟩ | ⟨_, _, e⟩ | ⟨h1, _, e⟩ <;> rw [e] at h ⊢ <;> simp at h ⊢
  exact h1

  all_goals
    have h1 := (readT_move r _h).1
    have h2 : 0 < r.length := List.length_pos_iff.2 _h0
    simp only [List.length_drop]
    omega

/-- A text that may be. -/
def rightT (s : List UInt8) : Bool := decide (s.length ≤ 200) && decide (tlen s = s.length)

end Go.Proofs.YtejicboemkpeoaaDoor

namespace Go.Proofs.YtejicboemkpeoaaDoor
open Go Go.Maps

/-- A text as a map's key. -/
abbrev keyT (t : List UInt8) : Lit := .string t

end Go.Proofs.YtejicboemkpeoaaDoor
