/-
  Units that are put are taken: plain facts on bytes.
-/
import Derived.Test.YtpmpgfngogdfhaaDoorUnG
import Derived.Deep.RegionHeldLaw
import Derived.Test.YtpmpgfngogdfhaaDoorUnA
import Derived.Test.YtpmpgfngogdfhaaDoorSyA
import Derived.Test.YtpmpgfngogdfhaaDoorSeB
import Derived.Test.YtpmpgfngogdfhaaDoorCsM
import Derived.Test.YtpmpgfngogdfhaaDoorCurN
import Derived.Test.YtpmpgfngogdfhaaDoorPutR
import Derived.Test.YtpmpgfngogdfhaaDoorParts
import Derived.WalkMore
import Derived.Test.YtpmpgfngogdfhaaDoorPut
import Derived.Lib.BytesEntry
import Derived.Lib.AppendStr
import Derived.Laws.Externs
import Derived.Deep.Slices
import Derived.Test.YtpmpgfngogdfhaaDoorRefR
import Derived.Test.YtpmpgfngogdfhaaDoorCsL
import Derived.Lib.SlBytesConst
import Derived.Test.YtpmpgfngogdfhaaDoorLawC
import Derived.Laws.StructEq
import Derived.Test.YtpmpgfngogdfhaaDoorLtK
namespace Go.Proofs.YtpmpgfngogdfhaaDoor
open Go Go.RowKit

/-- A length, and what it is of, behind any bytes. -/
theorem tk_mid15 (P : List UInt8) (n : Nat) (wide : Bool) (r : List UInt8) (hn : n ≤ 1000000) : tkN (P ++ (lenB n wide ++ r)) P.length 0 = n ∧ tkW (P ++ (lenB n wide ++ r)) P.length 0 = wide ∧ tkA (P ++ (lenB n wide ++ r)) P.length 0 = P.length + (lenB n wide).length ∧ tkE (P ++ (lenB n wide ++ r)) P.length 0 = 0 := by
  cases wide with
  | false =>
    have e : lenB n false = leBytes n 4 := by
      unfold lenB
      rw [if_neg (by decide), if_pos (by omega)]
    rw [e]
    obtain ⟨h1, h2, h3⟩ := next_mid P (leBytes n 4) r
    rw [leBytes_length] at h1 h2 h3
    have e2 : leNat (nextGot (P ++ (leBytes n 4 ++ r)) P.length 0 4) = n := by
      rw [h1, leNat_leBytes]
      exact Nat.mod_eq_of_lt (Nat.lt_of_le_of_lt hn (by decide))
    have h := tk_low (l := P ++ (leBytes n 4 ++ r)) (a := P.length) (e := 0) (by rw [e2]; omega)
    rw [e2, h2, h3] at h
    rw [leBytes_length]
    exact h
  | true =>
    have e : lenB n true = leBytes 4294967295 4 ++ leBytes n 8 := by simp [lenB]
    rw [e, List.append_assoc]
    obtain ⟨h1, h2, h3⟩ := next_mid P (leBytes 4294967295 4) (leBytes n 8 ++ r)
    obtain ⟨k1, k2, k3⟩ := next_mid (P ++ leBytes 4294967295 4) (leBytes n 8) r
    rw [List.append_assoc, List.length_append] at k1 k2 k3
    rw [leBytes_length] at h1 h2 h3
    rw [leBytes_length, leBytes_length] at k1 k2 k3
    have e2 : leNat (nextGot (P ++ (leBytes 4294967295 4 ++ (leBytes n 8 ++ r))) P.length 0 4) = 4294967295 := by
      rw [h1, leNat_leBytes]
    have h := tk_wide (l := P ++ (leBytes 4294967295 4 ++ (leBytes n 8 ++ r))) (a := P.length) (e := 0) e2
    rw [h2, h3, k1, k2, k3, leNat_leBytes, Nat.mod_eq_of_lt (show n < 256 ^ 8 from Nat.lt_of_le_of_lt hn (by decide))] at h
    rw [List.length_append, leBytes_length, leBytes_length]
    exact ⟨h.1, h.2.1, by rw [h.2.2.1], h.2.2.2⟩
theorem bd_mid15 (P body r : List UInt8) (wide : Bool) (hn : body.length ≤ 1000000) :
    bdG (P ++ (lenB body.length wide ++ (body ++ r))) P.length 0 = body ∧ bdE (P ++ (lenB body.length wide ++ (body ++ r))) P.length 0 = 0 ∧ bdA (P ++ (lenB body.length wide ++ (body ++ r))) P.length 0 = P.length + (lenB body.length wide).length + body.length ∧ bdW (P ++ (lenB body.length wide ++ (body ++ r))) P.length 0 = wide := by
  obtain ⟨h1, h2, h3, h4⟩ := tk_mid15 P body.length wide (body ++ r) hn
  obtain ⟨k1, k2, k3⟩ := next_mid (P ++ lenB body.length wide) body r
  rw [List.append_assoc, List.length_append] at k1 k2 k3
  have e : bdE (P ++ (lenB body.length wide ++ (body ++ r))) P.length 0 = 0 := by unfold bdE; rw [h1, h3, h4, k3]
  refine ⟨?_, e, ?_, ?_⟩
  · unfold bdG; rw [h1, h3, h4, k1]
  · unfold bdA; rw [h1, h3, h4, k2]
  · unfold bdW; rw [e, h2]; simp

end Go.Proofs.YtpmpgfngogdfhaaDoor
