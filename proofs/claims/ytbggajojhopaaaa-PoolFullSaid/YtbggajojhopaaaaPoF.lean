/-
  Texts that fill a pool: plain facts.
-/
import Derived.Test.YtbggajojhopaaaaPoM
namespace Go.Proofs.Ytbggajojhopaaaa
open Go

/-- The i-th text: 190 bytes of one kind, and two that tell i. -/
def textN (i : Nat) : List UInt8 := List.replicate 190 120 ++ [UInt8.ofNat (97 + i % 26), UInt8.ofNat (97 + i / 26)]

theorem textN_length (i : Nat) : (textN i).length = 192 := by unfold textN; rw [List.length_append, List.length_replicate]; rfl

theorem ofNat_ne {a : Nat} (h0 : 0 < a) (h : a < 256) : UInt8.ofNat a ≠ 0 := fun e => by
  have := congrArg UInt8.toNat e
  simp at this
  omega

theorem ofNat_inj {a b : Nat} (ha : a < 256) (hb : b < 256) (h : UInt8.ofNat a = UInt8.ofNat b) : a = b := by
  have := congrArg UInt8.toNat h
  simp at this
  omega

theorem textN_right {i : Nat} (h : i < 345) : rightT (textN i) = true := by
  have hz : ∀ b ∈ textN i, b ≠ 0 := by
    intro b hb
    rcases List.mem_append.1 hb with h1 | h1
    · rw [List.eq_of_mem_replicate h1]; decide
    · simp only [List.mem_cons, List.not_mem_nil, or_false] at h1
      rcases h1 with rfl | rfl
      · exact ofNat_ne (by omega) (by omega)
      · exact ofNat_ne (by omega) (by omega)
  unfold rightT
  rw [tlen_none hz, textN_length]
  rfl

theorem textN_inj {i j : Nat} (hi : i < 345) (hj : j < 345) (h : textN i = textN j) : i = j := by
  have h1 := List.append_cancel_left h
  injection h1 with h2 h3
  injection h3 with h4 _
  have e1 := ofNat_inj (by omega) (by omega) h2
  have e2 := ofNat_inj (by omega) (by omega) h4
  omega

/-- The first texts. -/
def fullT (j : Nat) : List (List UInt8) := (List.range j).map textN

theorem fullT_zero : fullT 0 = [] := rfl
theorem fullT_succ (j : Nat) : fullT (j + 1) = fullT j ++ [textN j] := by simp [fullT, List.range_succ]
theorem fullT_length (j : Nat) : (fullT j).length = j := by simp [fullT]
theorem fullT_span (j : Nat) : spanT (fullT j) = 193 * j := by
  induction j with
  | zero => rfl
  | succ j ih => rw [fullT_succ, spanT_append, ih]; simp [spanT, textN_length]; omega

theorem fullT_find {i j : Nat} (hi : i < 345) (h : j ≤ i) : findT (fullT j) (textN i) = none := by
  rw [findT_none]
  intro hm
  obtain ⟨k, hk, e⟩ := List.mem_map.1 hm
  have hk' : k < j := List.mem_range.1 hk
  have := textN_inj (by omega) hi e
  omega

/-- How many of them a pool takes. -/
def tookT (i : Nat) : Nat := if i < 339 then i else 339

theorem tookT_le (i : Nat) : tookT i ≤ i ∧ tookT i ≤ 339 := by unfold tookT; split <;> omega

theorem addT_took {i : Nat} (hi : i < 345) (h : i < 339) : addT (fullT (tookT i)) (textN i) = (fullT (tookT (i + 1)), 193 * i, 0) := by
  have e : tookT i = i := if_pos h
  have e1 : tookT (i + 1) = i + 1 := by unfold tookT; split <;> omega
  rw [e, e1, addT_new (textN_right hi) (fullT_find hi (Nat.le_refl _)) (by rw [fullT_span, textN_length]; omega), fullT_span, fullT_succ]

theorem addT_full {i : Nat} (hi : i < 345) (h : ¬ i < 339) : addT (fullT (tookT i)) (textN i) = (fullT (tookT (i + 1)), 0, 3) := by
  have e : tookT i = 339 := if_neg h
  have e1 : tookT (i + 1) = 339 := by unfold tookT; split <;> omega
  rw [e, e1, addT_big (textN_right hi) (fullT_find hi (by omega)) (by rw [fullT_span, textN_length]; omega)]

theorem mk_join (a b : List UInt8) : (ByteArray.mk a.toArray) ++ (ByteArray.mk b.toArray) = ByteArray.mk (a ++ b).toArray := by
  apply ByteArray.ext
  simp

/-- What the texts begin with. -/
def longB (k : Nat) : ByteArray := ⟨(List.replicate (10 * k) (120 : UInt8)).toArray⟩

theorem longB_size (k : Nat) : (longB k).size = 10 * k := by simp [longB, ByteArray.size]
theorem longB_zero : longB 0 = ⟨#[]⟩ := rfl
theorem longB_next (k : Nat) : longB k ++ ⟨#[120, 120, 120, 120, 120, 120, 120, 120, 120, 120]⟩ = longB (k + 1) := by
  have e : (List.replicate (10 * k) (120 : UInt8)) ++ [120, 120, 120, 120, 120, 120, 120, 120, 120, 120] = List.replicate (10 * (k + 1)) 120 := by
    rw [show ([120, 120, 120, 120, 120, 120, 120, 120, 120, 120] : List UInt8) = List.replicate 10 120 by rfl, List.replicate_append_replicate]
    rfl
  unfold longB
  rw [← e, ← mk_join]
theorem longB_text (i : Nat) : longB 19 ++ ⟨[UInt8.ofNat (97 + i % 26), UInt8.ofNat (97 + i / 26)].toArray⟩ = ⟨(textN i).toArray⟩ := by
  unfold longB textN
  rw [mk_join]

end Go.Proofs.Ytbggajojhopaaaa
