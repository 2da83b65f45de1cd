/-
  Plain facts on numbers of seven-bit bytes, the lowest first: no program is named here.
-/
import Derived.Test.YtejicboemkpeoaaGreatDoorNums
namespace Go.Proofs.YtejicboemkpeoaaGreatDoor
open Go

/-- The number of the bytes' lowest seven bits, those of the first one lowest. -/
def lebVal : List UInt8 → Nat
  | [] => 0
  | b :: t => b.toNat % 128 + 128 * lebVal t

theorem lebVal_append (l m : List UInt8) : lebVal (l ++ m) = lebVal l + 128 ^ l.length * lebVal m := by
  induction l with
  | nil => simp [lebVal]
  | cons b r ih =>
    have e : 128 ^ (r.length + 1) * lebVal m = 128 * (128 ^ r.length * lebVal m) := by rw [Nat.pow_succ, Nat.mul_comm (128 ^ r.length) 128, Nat.mul_assoc]
    simp only [List.cons_append, lebVal, ih, List.length_cons, e]
    omega

theorem lebVal_lt (l : List UInt8) : lebVal l < 128 ^ l.length := by
  induction l with
  | nil => simp [lebVal]
  | cons b r ih =>
    simp only [lebVal, List.length_cons, Nat.pow_succ]
    omega

theorem lebVal_take_succ (l : List UInt8) (k : Nat) (h : k < l.length) : lebVal (l.take (k + 1)) = lebVal (l.take k) + 128 ^ k * (l[k].toNat % 128) := by
  rw [List.take_succ_eq_append_getElem h, lebVal_append, List.length_take, Nat.min_eq_left (Nat.le_of_lt h)]
  simp [lebVal]

theorem lebVal_take_lt (l : List UInt8) (k : Nat) : lebVal (l.take k) < 128 ^ k :=
  Nat.lt_of_lt_of_le (lebVal_lt _) (Nat.pow_le_pow_right (by decide) (by rw [List.length_take]; omega))

/-- How many bytes from 128 on stand in front (at most so many). -/
def lebRun : Nat → List UInt8 → Nat
  | 0, _ => 0
  | _ + 1, [] => 0
  | f + 1, b :: t => if 128 ≤ b.toNat then lebRun f t + 1 else 0

/-- It is the first place where they end. -/
theorem lebRun_eq (f : Nat) (l : List UInt8) (y : Nat) (hf : y ≤ f) (hl : y ≤ l.length) (hup : ∀ j (h : j < l.length), j < y → 128 ≤ l[j].toNat) (hend : y = f ∨ y = l.length ∨ ∃ h : y < l.length, l[y].toNat < 128) : lebRun f l = y := by
  induction f generalizing l y with
  | zero => simp [lebRun]; omega
  | succ f ih =>
    cases l with
    | nil => simp [lebRun] at *; omega
    | cons b t =>
      simp only [lebRun]
      cases y with
      | zero =>
        have : b.toNat < 128 := by
          rcases hend with h | h | ⟨_, h⟩
          · omega
          · simp at h
          · rwa [List.getElem_cons_zero] at h
        rw [if_neg (by omega)]
      | succ y =>
        have h0 := hup 0 (by simp) (by omega)
        simp only [List.getElem_cons_zero] at h0
        rw [if_pos h0, ih t y (by omega) (by simpa using hl) (fun j hj hy => by have h := hup (j + 1) (by simp; omega) (by omega); rwa [List.getElem_cons_succ] at h)
          (by
            rcases hend with h | h | ⟨h1, h2⟩
            · exact .inl (by omega)
            · exact .inr (.inl (by simpa using h))
            · exact .inr (.inr ⟨by simpa using h1, by rwa [List.getElem_cons_succ] at h2⟩))]

/-- What U reads of bytes: the number, how many bytes it went on, why it refused. -/
def readU (l : List UInt8) : Nat × Nat × Int :=
  if lebRun 10 l = 10 then (0, 10, 11)
  else if lebRun 10 l < l.length then
    (if lebVal (l.take (lebRun 10 l + 1)) < 18446744073709551616 then (lebVal (l.take (lebRun 10 l + 1)), lebRun 10 l + 1, 0) else (0, lebRun 10 l + 1, 11))
  else (0, lebRun 10 l, 10)

/-- The number in two's complement. -/
def lebInt (l : List UInt8) : Int := if 64 * 128 ^ (l.length - 1) ≤ lebVal l then (lebVal l : Int) - 128 ^ l.length else lebVal l

/-- What S reads of bytes. -/
def readS (l : List UInt8) : Int × Nat × Int :=
  if lebRun 10 l = 10 then (0, 10, 11)
  else if lebRun 10 l < l.length then
    (if -9223372036854775808 ≤ lebInt (l.take (lebRun 10 l + 1)) ∧ lebInt (l.take (lebRun 10 l + 1)) ≤ 9223372036854775807 then (lebInt (l.take (lebRun 10 l + 1)), lebRun 10 l + 1, 0) else (0, lebRun 10 l + 1, 11))
  else (0, lebRun 10 l, 10)

end Go.Proofs.YtejicboemkpeoaaGreatDoor
