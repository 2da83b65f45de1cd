/-
  What is laid as a length, and behind it what it is of, is read so: plain facts on bytes.
-/
import Derived.Test.YtlfejggailoleaaDoorLtC
namespace Go.Proofs.YtlfejggailoleaaDoor
open Go Go.RowKit

theorem next_mid (p q r : List UInt8) : nextGot (p ++ (q ++ r)) p.length 0 q.length = q ∧ nextAt (p ++ (q ++ r)) p.length 0 q.length = p.length + q.length ∧ nextErr (p ++ (q ++ r)) p.length 0 q.length = 0 := by
  obtain ⟨h1, h2, h3⟩ := next_fits (p ++ (q ++ r)) p.length q.length (by simp)
  refine ⟨?_, h2, h3⟩
  rw [h1, List.drop_left, List.take_left]
theorem next_first (q r : List UInt8) : nextGot (q ++ r) 0 0 q.length = q ∧ nextAt (q ++ r) 0 0 q.length = q.length ∧ nextErr (q ++ r) 0 0 q.length = 0 := by
  have h := next_mid [] q r
  simpa using h

theorem tk_narrow (n : Nat) (r : List UInt8) (hn : n < 4294967280) : tkN (leBytes n 4 ++ r) 0 0 = n ∧ tkW (leBytes n 4 ++ r) 0 0 = false ∧ tkA (leBytes n 4 ++ r) 0 0 = 4 ∧ tkE (leBytes n 4 ++ r) 0 0 = 0 := by
  obtain ⟨h1, h2, h3⟩ := next_first (leBytes n 4) r
  rw [leBytes_length] at h1 h2 h3
  have e : leNat (nextGot (leBytes n 4 ++ r) 0 0 4) = n := by
    rw [h1, leNat_leBytes]
    exact Nat.mod_eq_of_lt (Nat.lt_trans hn (by decide))
  have h := tk_low (l := leBytes n 4 ++ r) (a := 0) (e := 0) (by rw [e]; exact hn)
  rwa [e, h2, h3] at h

theorem tk_broad (n : Nat) (r : List UInt8) (hn : n < two64) : tkN (leBytes 4294967295 4 ++ (leBytes n 8 ++ r)) 0 0 = n ∧ tkW (leBytes 4294967295 4 ++ (leBytes n 8 ++ r)) 0 0 = true ∧ tkA (leBytes 4294967295 4 ++ (leBytes n 8 ++ r)) 0 0 = 12 ∧ tkE (leBytes 4294967295 4 ++ (leBytes n 8 ++ r)) 0 0 = 0 := by
  obtain ⟨h1, h2, h3⟩ := next_first (leBytes 4294967295 4) (leBytes n 8 ++ r)
  obtain ⟨k1, k2, k3⟩ := next_mid (leBytes 4294967295 4) (leBytes n 8) r
  rw [leBytes_length] at h1 h2 h3
  rw [leBytes_length, leBytes_length] at k1 k2 k3
  have e : leNat (nextGot (leBytes 4294967295 4 ++ (leBytes n 8 ++ r)) 0 0 4) = 4294967295 := by
    rw [h1, leNat_leBytes]
  have h := tk_wide (l := leBytes 4294967295 4 ++ (leBytes n 8 ++ r)) (a := 0) (e := 0) e
  rw [h2, h3, k1, k2, k3, leNat_leBytes, Nat.mod_eq_of_lt (show n < 256 ^ 8 from hn)] at h
  exact h

/-- A length that may be, and what it is of. -/
theorem tk_lenB (n : Nat) (wide : Bool) (r : List UInt8) (hn : n < two64) (hs : wide = true ∨ n < 4294967280) : tkN (lenB n wide ++ r) 0 0 = n ∧ tkW (lenB n wide ++ r) 0 0 = wide ∧ tkA (lenB n wide ++ r) 0 0 = (lenB n wide).length ∧ tkE (lenB n wide ++ r) 0 0 = 0 := by
  cases wide
  · have hl : n < 4294967280 := hs.resolve_left (by simp)
    have e : lenB n false = leBytes n 4 := by simp [lenB, hl]
    rw [e, leBytes_length]
    exact tk_narrow n r hl
  · have e : lenB n true = leBytes 4294967295 4 ++ leBytes n 8 := by simp [lenB]
    rw [e, List.append_assoc, List.length_append, leBytes_length, leBytes_length]
    exact tk_broad n r hn

theorem bd_lenB (body r : List UInt8) (wide : Bool) (hn : body.length ≤ 1000000) :
    bdG (lenB body.length wide ++ (body ++ r)) 0 0 = body ∧ bdE (lenB body.length wide ++ (body ++ r)) 0 0 = 0 ∧ bdA (lenB body.length wide ++ (body ++ r)) 0 0 = (lenB body.length wide).length + body.length ∧ bdW (lenB body.length wide ++ (body ++ r)) 0 0 = wide := by
  obtain ⟨h1, h2, h3, h4⟩ := tk_lenB body.length wide (body ++ r) (by unfold two64; omega) (.inr (by omega))
  obtain ⟨k1, k2, k3⟩ := next_mid (lenB body.length wide) body r
  have e : bdE (lenB body.length wide ++ (body ++ r)) 0 0 = 0 := by unfold bdE; rw [h1, h3, h4, k3]
  refine ⟨?_, e, ?_, ?_⟩
  · unfold bdG; rw [h1, h3, h4, k1]
  · unfold bdA; rw [h1, h3, h4, k2]
  · unfold bdW; rw [e, h2]; simp

/-- What is left behind it. -/
theorem left_lenB (body r : List UInt8) (wide : Bool) (hn : body.length ≤ 1000000) : leftOf (lenB body.length wide ++ (body ++ r)) (bdA (lenB body.length wide ++ (body ++ r)) 0 0) (bdE (lenB body.length wide ++ (body ++ r)) 0 0) = r.length := by
  obtain ⟨_, h2, h3, _⟩ := bd_lenB body r wide hn
  rw [h2, h3]
  unfold leftOf
  simp
  omega

end Go.Proofs.YtlfejggailoleaaDoor
