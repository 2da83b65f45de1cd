/-
  Plain facts on a pool of texts, each once, in one table: no program is named here.
-/

import Derived.Test.YtkadjejjillmmaaCsM
import Derived.Maps.OwnSet
namespace Go.Proofs.Ytkadjejjillmmaa
open Go Go.Maps

/-- Where a text stands among texts that lie one behind the other. -/
def findT : List (List UInt8) → List UInt8 → Option Nat
  | [], _ => none
  | s :: l, t => if s = t then some 0 else (findT l t).map (· + (s.length + 1))

/-- How many bytes they have, each with its end. -/
def spanT : List (List UInt8) → Nat
  | [] => 0
  | s :: l => s.length + 1 + spanT l

theorem spanT_append (l m : List (List UInt8)) : spanT (l ++ m) = spanT l + spanT m := by
  induction l with
  | nil => simp [spanT]
  | cons s l ih => simp [spanT, ih]; omega

theorem spanT_puts {l : List (List UInt8)} (h : ∀ s ∈ l, rightT s = true) : (putsT l).length = spanT l := by
  induction l with
  | nil => rfl
  | cons s l ih =>
    have h1 := (rightT_spec (h s (by simp))).2.2
    have h2 := ih fun x hx => h x (by simp [hx])
    simp [putsT, spanT, h1, h2]; omega

theorem findT_none {l : List (List UInt8)} {t : List UInt8} : findT l t = none ↔ t ∉ l := by
  induction l with
  | nil => simp [findT]
  | cons s l ih =>
    unfold findT
    by_cases h : s = t
    · simp [h]
    · rw [if_neg h]
      simp only [Option.map_eq_none_iff, ih, List.mem_cons, not_or]
      exact ⟨fun x => ⟨fun e => h e.symm, x⟩, fun x => x.2⟩

theorem findT_append (l : List (List UInt8)) (s t : List UInt8) : findT (l ++ [s]) t = match findT l t with | some p => some p | none => if s = t then some (spanT l) else none := by
  induction l with
  | nil => simp [findT, spanT]
  | cons x l ih =>
    simp only [List.cons_append, findT]
    by_cases h : x = t
    · simp [h]
    · rw [if_neg h, if_neg h, ih]
      rcases hf : findT l t with _ | p
      · by_cases h2 : s = t
        · simp [h2, spanT]; omega
        · simp [h2]
      · simp

theorem findT_lt {l : List (List UInt8)} {t : List UInt8} {p : Nat} (h : findT l t = some p) : p + t.length + 1 ≤ spanT l := by
  induction l generalizing p with
  | nil => simp [findT] at h
  | cons s l ih =>
    unfold findT at h
    split at h
    · rename_i e
      injection h with h
      subst e h
      simp [spanT]
    · obtain ⟨q, hq, rfl⟩ := Option.map_eq_some_iff.1 h
      have := ih hq
      simp only [spanT]; omega

/-- A pool's texts: each may be, each once, no more than fit. -/
def GoodT (l : List (List UInt8)) : Prop := (∀ s ∈ l, rightT s = true) ∧ spanT l ≤ 65536 ∧ l.Nodup

theorem goodT_nil : GoodT [] := ⟨by simp, by simp [spanT], List.nodup_nil⟩

/-- What Add leaves and tells. -/
def addT (l : List (List UInt8)) (t : List UInt8) : List (List UInt8) × Nat × Int :=
  if rightT t = false then (l, 0, 12) else
  match findT l t with
  | some p => (l, p, 0)
  | none => if 65536 < spanT l + t.length + 1 then (l, 0, 3) else (l ++ [t], spanT l, 0)

theorem addT_wrong {l : List (List UInt8)} {t : List UInt8} (h : rightT t = false) : addT l t = (l, 0, 12) := by unfold addT; rw [if_pos h]
theorem addT_there {l : List (List UInt8)} {t : List UInt8} {p : Nat} (h : rightT t = true) (hf : findT l t = some p) : addT l t = (l, p, 0) := by unfold addT; rw [if_neg (by simp [h]), hf]
theorem addT_big {l : List (List UInt8)} {t : List UInt8} (h : rightT t = true) (hf : findT l t = none) (hb : 65536 < spanT l + t.length + 1) : addT l t = (l, 0, 3) := by unfold addT; rw [if_neg (by simp [h]), hf]; simp only; rw [if_pos hb]
theorem addT_new {l : List (List UInt8)} {t : List UInt8} (h : rightT t = true) (hf : findT l t = none) (hb : ¬ 65536 < spanT l + t.length + 1) : addT l t = (l ++ [t], spanT l, 0) := by unfold addT; rw [if_neg (by simp [h]), hf]; simp only; rw [if_neg hb]

theorem addT_cases (l : List (List UInt8)) (t : List UInt8) : (rightT t = false ∧ addT l t = (l, 0, 12)) ∨ (∃ p, rightT t = true ∧ findT l t = some p ∧ addT l t = (l, p, 0)) ∨
    (rightT t = true ∧ findT l t = none ∧ 65536 < spanT l + t.length + 1 ∧ addT l t = (l, 0, 3)) ∨ (rightT t = true ∧ findT l t = none ∧ ¬ 65536 < spanT l + t.length + 1 ∧ addT l t = (l ++ [t], spanT l, 0)) := by
  by_cases h : rightT t = true
  · rcases hf : findT l t with _ | p
    · by_cases hb : 65536 < spanT l + t.length + 1
      · exact .inr (.inr (.inl ⟨h, rfl, hb, addT_big h hf hb⟩))
      · exact .inr (.inr (.inr ⟨h, rfl, hb, addT_new h hf hb⟩))
    · exact .inr (.inl ⟨p, h, rfl, addT_there h hf⟩)
  · have h' : rightT t = false := by simpa using h
    exact .inl ⟨h', addT_wrong h'⟩

theorem goodT_snoc {l : List (List UInt8)} {t : List UInt8} (hg : GoodT l) (h : rightT t = true) (hf : findT l t = none) (hb : ¬ 65536 < spanT l + t.length + 1) : GoodT (l ++ [t]) := by
  refine ⟨fun s hs => ?_, by rw [spanT_append]; simp [spanT]; omega, ?_⟩
  · rcases List.mem_append.1 hs with h1 | h1
    · exact hg.1 s h1
    · rw [show s = t by simpa using h1]; exact h
  · have hn := findT_none.1 hf
    rw [List.nodup_append]
    refine ⟨hg.2.2, by simp, fun a ha b hb => ?_⟩
    have e : b = t := by simpa using hb
    rintro rfl
    rw [e] at ha
    exact hn ha

theorem goodT_add {l : List (List UInt8)} (hg : GoodT l) (t : List UInt8) : GoodT (addT l t).1 := by
  rcases addT_cases l t with ⟨_, e⟩ | ⟨p, _, _, e⟩ | ⟨_, _, _, e⟩ | ⟨h, hf, hb, e⟩ <;> rw [e] <;> try exact hg
  exact goodT_snoc hg h hf hb

theorem goodT_length {l : List (List UInt8)} (hg : GoodT l) : l.length ≤ 65536 := by
  have h : ∀ m : List (List UInt8), m.length ≤ spanT m := by
    intro m
    induction m with
    | nil => simp
    | cons s m ih => simp only [List.length_cons, spanT]; omega
  exact Nat.le_trans (h l) hg.2.1

theorem addT_at {l : List (List UInt8)} (hg : GoodT l) (t : List UInt8) : (addT l t).2.1 < 65536 := by
  have hs := hg.2.1
  rcases addT_cases l t with ⟨_, e⟩ | ⟨p, _, hf, e⟩ | ⟨_, _, _, e⟩ | ⟨h, hf, hb, e⟩ <;> rw [e] <;> simp
  · have := findT_lt hf; omega
  · omega

/-- A text as a map's key. -/
abbrev keyT (t : List UInt8) : Lit := .string t

theorem keyT_ne {s t : List UInt8} (h : s ≠ t) : keyT s ≠ keyT t := fun e => h (by injection e)
theorem keyT_lit (t : List UInt8) : WideAt.IsKeyLit (keyT t) := trivial

/-- A map tells where each text stands. -/
def Tells (D : DataW Unit) (l : List (List UInt8)) : Prop :=
  Tidy D ∧ Maps.size D = l.length ∧ (∀ t, Maps.has D (keyT t) = (findT l t).isSome) ∧ ∀ t, D.atKey (keyT t) (.lit (.int .u64 0)) = .lit (.int .u64 (((findT l t).getD 0 : Nat) : Int))

theorem tells_nil : Tells (.map []) [] := ⟨tidy_empty, rfl, fun _ => rfl, fun _ => rfl⟩

theorem tells_snoc {D : DataW Unit} {l : List (List UInt8)} {t : List UInt8} (h : Tells D l) (hf : findT l t = none) : Tells (D.put (keyT t) (.lit (.int .u64 ((spanT l : Nat) : Int)))) (l ++ [t]) := by
  obtain ⟨h1, h2, h3, h4⟩ := h
  have hh : Maps.has D (keyT t) = false := by rw [h3, hf]; rfl
  refine ⟨h1.put (keyT_lit t) _, by rw [size_put h1, hh]; simp [h2], fun s => ?_, fun s => ?_⟩
  · by_cases e : s = t
    · subst e
      rw [has_put_same h1.isMap (keyT_lit s), findT_append, hf]; simp
    · rw [has_put_other (keyT_ne e), h3, findT_append]
      rcases findT l s with _ | p
      · have e2 : ¬ t = s := fun x => e x.symm
        simp [e2]
      · rfl
  · by_cases e : s = t
    · subst e
      rw [atKey_put_same h1.isMap (keyT_lit s), findT_append, hf]; simp
    · rw [atKey_put_other (keyT_ne e), h4, findT_append]
      rcases findT l s with _ | p
      · have e2 : ¬ t = s := fun x => e x.symm
        simp [e2]
      · rfl

end Go.Proofs.Ytkadjejjillmmaa
