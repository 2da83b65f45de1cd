/-
  Plain facts on a pool of texts, each once, in one table: no program is named here.
-/
import Derived.Maps.OwnSet
namespace Go.Proofs.YtldmjnbmjfnfeaaGreatDoor

/-- How many bytes stand ahead of the first byte 0; all, where there is none. -/
def tlen : List UInt8 → Nat
  | [] => 0
  | b :: r => if b = 0 then 0 else tlen r + 1

theorem tlen_le (r : List UInt8) : tlen r ≤ r.length := by
  induction r with
  | nil => simp [tlen]
  | cons b r ih => simp only [tlen, List.length_cons]; split <;> omega

theorem tlen_get (r : List UInt8) (k : Nat) (hk : k < tlen r) (h : k < r.length) : r[k] ≠ 0 := by
  induction r generalizing k with
  | nil => simp at h
  | cons b r ih =>
    simp only [tlen] at hk
    split at hk
    · omega
    · rename_i hb
      rcases k with _ | k
      · simpa using hb
      · simp only [List.getElem_cons_succ]
        exact ih k (by omega) (by simpa using h)

theorem tlen_end (r : List UInt8) (h : tlen r < r.length) : r[tlen r] = 0 := by
  induction r with
  | nil => simp at h
  | cons b r ih =>
    by_cases hb : b = 0
    · simp [tlen, hb]
    · have e : tlen (b :: r) = tlen r + 1 := by simp [tlen, hb]
      rw [e] at h
      have := ih (by simpa using h)
      simp only [e, List.getElem_cons_succ]
      exact this

/-- A place is the first 0's: none ahead, and it is one. -/
theorem tlen_eq (r : List UInt8) (k : Nat) (h : k < r.length) (ha : ∀ j (hj : j < r.length), j < k → r[j] ≠ 0) (h0 : r[k] = 0) : tlen r = k := by
  induction r generalizing k with
  | nil => simp at h
  | cons b r ih =>
    rcases k with _ | k
    · have hb : b = 0 := by simpa using h0
      simp [tlen, hb]
    · have hb : b ≠ 0 := ha 0 (by simp) (by omega)
      simp only [tlen, if_neg hb]
      rw [ih k (by simpa using h) (fun j hj hjk => ha (j + 1) (by simpa using hj) (by omega)) (by simpa using h0)]

theorem tlen_all (r : List UInt8) (ha : ∀ j (hj : j < r.length), r[j] ≠ 0) : tlen r = r.length := by
  have h1 := tlen_le r
  rcases Nat.lt_or_ge (tlen r) r.length with h | h
  · exact absurd (tlen_end r h) (ha _ h)
  · omega

/-- Behind bytes of which none is 0. -/
theorem tlen_append {s : List UInt8} (h : ∀ b ∈ s, b ≠ 0) (r : List UInt8) : tlen (s ++ r) = s.length + tlen r := by
  induction s with
  | nil => simp
  | cons b s ih =>
    have hb : b ≠ 0 := h b (by simp)
    simp only [List.cons_append, tlen, if_neg hb, List.length_cons, ih fun x hx => h x (by simp [hx])]
    omega

theorem tlen_zero (r : List UInt8) : tlen (0 :: r) = 0 := by simp [tlen]

/-- The bytes ahead of the first 0 are none. -/
theorem tlen_take (r : List UInt8) : ∀ b ∈ r.take (tlen r), b ≠ 0 := by
  intro b hb
  obtain ⟨j, hj, rfl⟩ := List.getElem_of_mem hb
  have hj' : j < tlen r ∧ j < r.length := by rw [List.length_take] at hj; omega
  rw [List.getElem_take]
  exact tlen_get r j hj'.1 hj'.2

/-- The next text, how far it goes with its end, or why there is none. -/
def readT (r : List UInt8) : List UInt8 × Nat × Int :=
  if tlen r = r.length then ([], 0, 12) else if 200 < tlen r then ([], 0, 3) else (r.take (tlen r), tlen r + 1, 0)

/-- Behind a refusal. -/
def takeT (r : List UInt8) (e : Int) : List UInt8 × Nat × Int := if e = 0 then readT r else ([], 0, e)

theorem takeT_zero (r : List UInt8) : takeT r 0 = readT r := by unfold takeT; rw [if_pos rfl]
theorem takeT_bad (r : List UInt8) {e : Int} (h : e ≠ 0) : takeT r e = ([], 0, e) := by unfold takeT; rw [if_neg h]
theorem readT_end {r : List UInt8} (h : tlen r = r.length) : readT r = ([], 0, 12) := by unfold readT; rw [if_pos h]
theorem readT_big {r : List UInt8} (h : tlen r ≠ r.length) (h2 : 200 < tlen r) : readT r = ([], 0, 3) := by unfold readT; rw [if_neg h, if_pos h2]
theorem readT_ok {r : List UInt8} (h : tlen r ≠ r.length) (h2 : ¬ 200 < tlen r) : readT r = (r.take (tlen r), tlen r + 1, 0) := by unfold readT; rw [if_neg h, if_neg h2]
theorem readT_cases (r : List UInt8) : (tlen r = r.length ∧ readT r = ([], 0, 12)) ∨ (tlen r < r.length ∧ 200 < tlen r ∧ readT r = ([], 0, 3)) ∨ (tlen r < r.length ∧ tlen r ≤ 200 ∧ readT r = (r.take (tlen r), tlen r + 1, 0)) := by
  have h := tlen_le r
  by_cases h1 : tlen r = r.length
  · exact .inl ⟨h1, readT_end h1⟩
  · by_cases h2 : 200 < tlen r
    · exact .inr (.inl ⟨by omega, h2, readT_big h1 h2⟩)
    · exact .inr (.inr ⟨by omega, by omega, readT_ok h1 h2⟩)
theorem readT_move (r : List UInt8) (h : (readT r).2.2 = 0) : 1 ≤ (readT r).2.1 ∧ (readT r).2.1 = tlen r + 1 ∧ tlen r < r.length := by
  rcases readT_cases r with ⟨_, e⟩ | ⟨_, _, e⟩ | ⟨h1, _, e⟩ <;> rw [e] at h ⊢ <;> simp at h ⊢
  exact h1

/-- What a text is taken from: the bytes up to the first 0, with it. -/
def firstT (r : List UInt8) : List UInt8 := if tlen r < r.length then r.take (tlen r + 1) else r

theorem take_succ_end (r : List UInt8) (h : tlen r < r.length) : r.take (tlen r + 1) = r.take (tlen r) ++ [0] := by
  rw [List.take_succ_eq_append_getElem h, tlen_end r h]

theorem readT_first (r : List UInt8) : readT (firstT r) = readT r := by
  unfold firstT
  split
  · rename_i h
    have e := take_succ_end r h
    have hl : (r.take (tlen r)).length = tlen r := by simp; omega
    have h1 : tlen (r.take (tlen r + 1)) = tlen r := by rw [e, tlen_append (tlen_take r), tlen_zero, hl, Nat.add_zero]
    have h2 : (r.take (tlen r + 1)).length = tlen r + 1 := by simp; omega
    unfold readT
    rw [h1, h2, if_neg (by omega), if_neg (show ¬ tlen r = r.length by omega), List.take_take, Nat.min_eq_left (by omega)]
  · rfl
theorem firstT_le (r : List UInt8) : (firstT r).length ≤ r.length := by
  unfold firstT
  split
  · simp; omega
  · omega

  all_goals
    have h1 := (readT_move r _h).1
    have h2 : 0 < r.length := List.length_pos_iff.2 _h0
    simp only [List.length_drop]
    omega

/-- A text that may be. -/
def rightT (s : List UInt8) : Bool := decide (s.length ≤ 200) && decide (tlen s = s.length)

/-- What is put of a text. -/
def putT (s : List UInt8) : List UInt8 := s.take (tlen s) ++ [0]

theorem putT_length (s : List UInt8) : (putT s).length = tlen s + 1 := by
  have := tlen_le s
  simp [putT]; omega

theorem rightT_spec {s : List UInt8} (h : rightT s = true) : s.length ≤ 200 ∧ (∀ b ∈ s, b ≠ 0) ∧ putT s = s ++ [0] := by
  unfold rightT at h
  simp only [Bool.and_eq_true, decide_eq_true_eq] at h
  refine ⟨h.1, fun b hb => ?_, ?_⟩
  · have := tlen_take s b
    rw [h.2, List.take_length] at this
    exact this hb
  · unfold putT; rw [h.2, List.take_length]

theorem readT_put {s : List UInt8} (h : rightT s = true) (r : List UInt8) : readT (putT s ++ r) = (s, s.length + 1, 0) := by
  obtain ⟨h1, h2, h3⟩ := rightT_spec h
  rw [h3, List.append_assoc]
  have e : tlen (s ++ ([0] ++ r)) = s.length := by rw [tlen_append h2]; simp [tlen]
  have hl : (s ++ ([0] ++ r)).length = s.length + (1 + r.length) := by simp; omega
  unfold readT
  rw [e, if_neg (by omega), if_neg (by omega)]
  simp

/-- Texts one behind the other. -/
def putsT : List (List UInt8) → List UInt8
  | [] => []
  | s :: l => putT s ++ putsT l

theorem putsT_append (l m : List (List UInt8)) : putsT (l ++ m) = putsT l ++ putsT m := by
  induction l with
  | nil => rfl
  | cons s l ih => simp [putsT, ih]

end Go.Proofs.YtldmjnbmjfnfeaaGreatDoor

namespace Go.Proofs.YtldmjnbmjfnfeaaGreatDoor
open Go Go.Maps

/-- Where a text stands among texts that lie one behind the other. -/
def findT : List (List UInt8) → List UInt8 → Option Nat
  | [], _ => none
  | s :: l, t => if s = t then some 0 else (findT l t).map (· + (s.length + 1))

/-- How many bytes they have, each with its end. -/
def spanT : List (List UInt8) → Nat
  | [] => 0
  | s :: l => s.length + 1 + spanT l

theorem spanT_append (l m : List (List UInt8)) : spanT (l ++ m) = spanT l + spanT m := by
  induction l with
  | nil => simp [spanT]
  | cons s l ih => simp [spanT, ih]; omega

theorem spanT_puts {l : List (List UInt8)} (h : ∀ s ∈ l, rightT s = true) : (putsT l).length = spanT l := by
  induction l with
  | nil => rfl
  | cons s l ih =>
    have h1 := (rightT_spec (h s (by simp))).2.2
    have h2 := ih fun x hx => h x (by simp [hx])
    simp [putsT, spanT, h1, h2]; omega

theorem findT_none {l : List (List UInt8)} {t : List UInt8} : findT l t = none ↔ t ∉ l := by
  induction l with
  | nil => simp [findT]
  | cons s l ih =>
    unfold findT
    by_cases h : s = t
    · simp [h]
    · rw [if_neg h]
      simp only [Option.map_eq_none_iff, ih, List.mem_cons, not_or]
      exact ⟨fun x => ⟨fun e => h e.symm, x⟩, fun x => x.2⟩

theorem findT_append (l : List (List UInt8)) (s t : List UInt8) : findT (l ++ [s]) t = match findT l t with | some p => some p | none => if s = t then some (spanT l) else none := by
  induction l with
  | nil => simp [findT, spanT]
  | cons x l ih =>
    simp only [List.cons_append, findT]
    by_cases h : x = t
    · simp [h]
    · rw [if_neg h, if_neg h, ih]
      rcases hf : findT l t with _ | p
      · by_cases h2 : s = t
        · simp [h2, spanT]; omega
        · simp [h2]
      · simp

theorem findT_lt {l : List (List UInt8)} {t : List UInt8} {p : Nat} (h : findT l t = some p) : p + t.length + 1 ≤ spanT l := by
  induction l generalizing p with
  | nil => simp [findT] at h
  | cons s l ih =>
    unfold findT at h
    split at h
    · rename_i e
      injection h with h
      subst e h
      simp [spanT]
    · obtain ⟨q, hq, rfl⟩ := Option.map_eq_some_iff.1 h
      have := ih hq
      simp only [spanT]; omega

/-- A pool's texts: each may be, each once, no more than fit. -/
def GoodT (l : List (List UInt8)) : Prop := (∀ s ∈ l, rightT s = true) ∧ spanT l ≤ 65536 ∧ l.Nodup

theorem goodT_nil : GoodT [] := ⟨by simp, by simp [spanT], List.nodup_nil⟩

/-- What Add leaves and tells. -/
def addT (l : List (List UInt8)) (t : List UInt8) : List (List UInt8) × Nat × Int :=
  if rightT t = false then (l, 0, 12) else
  match findT l t with
  | some p => (l, p, 0)
  | none => if 65536 < spanT l + t.length + 1 then (l, 0, 3) else (l ++ [t], spanT l, 0)

theorem addT_wrong {l : List (List UInt8)} {t : List UInt8} (h : rightT t = false) : addT l t = (l, 0, 12) := by unfold addT; rw [if_pos h]
theorem addT_there {l : List (List UInt8)} {t : List UInt8} {p : Nat} (h : rightT t = true) (hf : findT l t = some p) : addT l t = (l, p, 0) := by unfold addT; rw [if_neg (by simp [h]), hf]
theorem addT_big {l : List (List UInt8)} {t : List UInt8} (h : rightT t = true) (hf : findT l t = none) (hb : 65536 < spanT l + t.length + 1) : addT l t = (l, 0, 3) := by unfold addT; rw [if_neg (by simp [h]), hf]; simp only; rw [if_pos hb]
theorem addT_new {l : List (List UInt8)} {t : List UInt8} (h : rightT t = true) (hf : findT l t = none) (hb : ¬ 65536 < spanT l + t.length + 1) : addT l t = (l ++ [t], spanT l, 0) := by unfold addT; rw [if_neg (by simp [h]), hf]; simp only; rw [if_neg hb]

theorem addT_cases (l : List (List UInt8)) (t : List UInt8) : (rightT t = false ∧ addT l t = (l, 0, 12)) ∨ (∃ p, rightT t = true ∧ findT l t = some p ∧ addT l t = (l, p, 0)) ∨
    (rightT t = true ∧ findT l t = none ∧ 65536 < spanT l + t.length + 1 ∧ addT l t = (l, 0, 3)) ∨ (rightT t = true ∧ findT l t = none ∧ ¬ 65536 < spanT l + t.length + 1 ∧ addT l t = (l ++ [t], spanT l, 0)) := by
  by_cases h : rightT t = true
  · rcases hf : findT l t with _ | p
    · by_cases hb : 65536 < spanT l + t.length + 1
      · exact .inr (.inr (.inl ⟨h, rfl, hb, addT_big h hf hb⟩))
      · exact .inr (.inr (.inr ⟨h, rfl, hb, addT_new h hf hb⟩))
    · exact .inr (.inl ⟨p, h, rfl, addT_there h hf⟩)
  · have h' : rightT t = false := by simpa using h
    exact .inl ⟨h', addT_wrong h'⟩

theorem goodT_snoc {l : List (List UInt8)} {t : List UInt8} (hg : GoodT l) (h : rightT t = true) (hf : findT l t = none) (hb : ¬ 65536 < spanT l + t.length + 1) : GoodT (l ++ [t]) := by
  refine ⟨fun s hs => ?_, by rw [spanT_append]; simp [spanT]; omega, ?_⟩
  · rcases List.mem_append.1 hs with h1 | h1
    · exact hg.1 s h1
    · rw [show s = t by simpa using h1]; exact h
  · have hn := findT_none.1 hf
    rw [List.nodup_append]
    refine ⟨hg.2.2, by simp, fun a ha b hb => ?_⟩
    have e : b = t := by simpa using hb
    rintro rfl
    rw [e] at ha
    exact hn ha

theorem goodT_add {l : List (List UInt8)} (hg : GoodT l) (t : List UInt8) : GoodT (addT l t).1 := by
  rcases addT_cases l t with ⟨_, e⟩ | ⟨p, _, _, e⟩ | ⟨_, _, _, e⟩ | ⟨h, hf, hb, e⟩ <;> rw [e] <;> try exact hg
  exact goodT_snoc hg h hf hb

theorem goodT_length {l : List (List UInt8)} (hg : GoodT l) : l.length ≤ 65536 := by
  have h : ∀ m : List (List UInt8), m.length ≤ spanT m := by
    intro m
    induction m with
    | nil => simp
    | cons s m ih => simp only [List.length_cons, spanT]; omega
  exact Nat.le_trans (h l) hg.2.1

theorem addT_at {l : List (List UInt8)} (hg : GoodT l) (t : List UInt8) : (addT l t).2.1 < 65536 := by
  have hs := hg.2.1
  rcases addT_cases l t with ⟨_, e⟩ | ⟨p, _, hf, e⟩ | ⟨_, _, _, e⟩ | ⟨h, hf, hb, e⟩ <;> rw [e] <;> simp
  · have := findT_lt hf; omega
  · omega

/-- A text as a map's key. -/
abbrev keyT (t : List UInt8) : Lit := .string t

theorem keyT_ne {s t : List UInt8} (h : s ≠ t) : keyT s ≠ keyT t := fun e => h (by injection e)
theorem keyT_lit (t : List UInt8) : WideAt.IsKeyLit (keyT t) := trivial

/-- A map tells where each text stands. -/
def Tells (D : DataW Unit) (l : List (List UInt8)) : Prop :=
  Tidy D ∧ Maps.size D = l.length ∧ (∀ t, Maps.has D (keyT t) = (findT l t).isSome) ∧ ∀ t, D.atKey (keyT t) (.lit (.int .u64 0)) = .lit (.int .u64 (((findT l t).getD 0 : Nat) : Int))

theorem tells_nil : Tells (.map []) [] := ⟨tidy_empty, rfl, fun _ => rfl, fun _ => rfl⟩

theorem tells_snoc {D : DataW Unit} {l : List (List UInt8)} {t : List UInt8} (h : Tells D l) (hf : findT l t = none) : Tells (D.put (keyT t) (.lit (.int .u64 ((spanT l : Nat) : Int)))) (l ++ [t]) := by
  obtain ⟨h1, h2, h3, h4⟩ := h
  have hh : Maps.has D (keyT t) = false := by rw [h3, hf]; rfl
  refine ⟨h1.put (keyT_lit t) _, by rw [size_put h1, hh]; simp [h2], fun s => ?_, fun s => ?_⟩
  · by_cases e : s = t
    · subst e
      rw [has_put_same h1.isMap (keyT_lit s), findT_append, hf]; simp
    · rw [has_put_other (keyT_ne e), h3, findT_append]
      rcases findT l s with _ | p
      · have e2 : ¬ t = s := fun x => e x.symm
        simp [e2]
      · rfl
  · by_cases e : s = t
    · subst e
      rw [atKey_put_same h1.isMap (keyT_lit s), findT_append, hf]; simp
    · rw [atKey_put_other (keyT_ne e), h4, findT_append]
      rcases findT l s with _ | p
      · have e2 : ¬ t = s := fun x => e x.symm
        simp [e2]
      · rfl

end Go.Proofs.YtldmjnbmjfnfeaaGreatDoor
