/-
  Groups of sections: members are members of one group alone; what is left out, plain facts. No program.
-/
import Derived.Test.YtbpemehhbeejcaaGpA
namespace Go.Proofs.Ytbpemehhbeejcaa
open Go Go.RowKit

section
variable {n i : Nat} {d : List UInt8} {met b : List Bool}
theorem badM_false {m : Nat} (h : badM n i met m = false) : m ≠ 0 ∧ m < n ∧ m ≠ i ∧ met[m]? ≠ some true := by
  have := of_decide_eq_false h
  refine ⟨fun h1 => this (.inl h1), ?_, fun h1 => this (.inr (.inr (.inl h1))), fun h1 => this (.inr (.inr (.inr h1)))⟩
  rcases Nat.lt_or_ge m n with h1 | h1
  · exact h1
  · exact absurd (.inr (.inl h1)) this
theorem set_true {b : List Bool} {m j : Nat} (h : b[j]? = some true) : (b.set m true)[j]? = some true := by
  by_cases e : m = j
  · subst e
    have hl := (List.getElem?_eq_some_iff.1 h).1
    rw [List.getElem?_set_self hl]
  · rw [List.getElem?_set_ne e]; exact h
/-- What is met stays met; each member was not, and is. -/
theorem metG_facts (hl : met.length = n) : ∀ {k : Nat} {b : List Bool}, metG n i d met k = some b →
    (∀ j : Nat, met[j]? = some true → b[j]? = some true) ∧ ∀ q, q < k → memG d q < n ∧ b[memG d q]? = some true ∧ met[memG d q]? ≠ some true
  | 0, b, h => by
    rw [metG] at h
    cases h
    exact ⟨fun _ h => h, fun q hq => absurd hq (Nat.not_lt_zero _)⟩
  | k + 1, b, h => by
    rw [metG] at h
    cases hk : metG n i d met k with
    | none => simp [hk] at h
    | some c =>
      obtain ⟨i1, i2⟩ := metG_facts hl hk
      have hcl := metG_length hk
      rw [hk] at h
      by_cases hb : badM n i c (memG d k)
      · simp [hb] at h
      · simp only [hb] at h
        obtain ⟨b1, b2, b3, b4⟩ := badM_false (by simpa using hb : badM n i c (memG d k) = false)
        simp at h
        subst h
        refine ⟨fun j hj => set_true (i1 j hj), fun q hq => ?_⟩
        rcases Nat.lt_or_ge q k with h1 | h1
        · obtain ⟨m1, m2, m3⟩ := i2 q h1
          exact ⟨m1, set_true m2, m3⟩
        · obtain rfl : q = k := by omega
          refine ⟨b2, by rw [List.getElem?_set_self (by omega)], fun h2 => b4 (i1 _ h2)⟩
end

theorem grpOf_mem {Y : List Sym} {k : Nat} {s : Sect} {m : Nat} (h : m ∈ (grpOf Y k s).mem) : ∃ q, q < cntG s.data ∧ memG s.data q = m := by
  obtain ⟨q, hq, rfl⟩ := List.mem_map.1 h
  exact ⟨q, by simpa using hq, rfl⟩
/-- The members of groups: sections' places, met, and of one group alone. -/
theorem grpS_facts {S : List Sect} {Y : List Sym} : ∀ {k : Nat} {l : List Grp} {met : List Bool}, grpS S Y k = some (l, met) →
    (∀ g ∈ l, ∀ m ∈ g.mem, m < S.length ∧ met[m]? = some true) ∧ l.Pairwise fun g g' => ∀ m ∈ g.mem, m ∉ g'.mem
  | 0, l, met, h => by
    rw [grpS] at h
    cases h
    exact ⟨fun g hg => (by cases hg), List.Pairwise.nil⟩
  | k + 1, l, met, h => by
    rw [grpS] at h
    cases hk : grpS S Y k with
    | none => simp [hk] at h
    | some q =>
      obtain ⟨l', m'⟩ := q
      obtain ⟨i1, i2⟩ := grpS_facts hk
      have hml := (grpS_length hk).1
      rw [hk] at h
      cases hs : S[k]? with
      | none => simp [hs] at h; obtain ⟨rfl, rfl⟩ := h; exact ⟨i1, i2⟩
      | some s =>
        by_cases h17 : s.kind = 17
        · by_cases hh : headG S Y.length s
          · cases hb : metG S.length k s.data m' (cntG s.data) with
            | none => simp [hs, h17, hh, hb] at h
            | some b =>
              simp [hs, h17, hh, hb] at h
              obtain ⟨rfl, rfl⟩ := h
              obtain ⟨j1, j2⟩ := metG_facts hml hb
              refine ⟨fun g hg m hm => ?_, ?_⟩
              · rcases List.mem_append.1 hg with hg | hg
                · exact ⟨(i1 g hg m hm).1, j1 _ (i1 g hg m hm).2⟩
                · obtain rfl := List.mem_singleton.1 hg
                  obtain ⟨q, hq, rfl⟩ := grpOf_mem hm
                  exact ⟨(j2 q hq).1, (j2 q hq).2.1⟩
              · rw [List.pairwise_append]
                refine ⟨i2, List.pairwise_singleton _ _, fun g hg g' hg' m hm hm' => ?_⟩
                obtain rfl := List.mem_singleton.1 hg'
                obtain ⟨q, hq, rfl⟩ := grpOf_mem hm'
                exact (j2 q hq).2.2 (i1 g hg _ hm).2
          · simp [hs, h17, hh] at h
        · simp [hs, h17] at h; obtain ⟨rfl, rfl⟩ := h; exact ⟨i1, i2⟩

/-- Stores of one truth at several places. -/
def putAll (b : List Bool) (v : Bool) (ms : List Nat) : List Bool := ms.foldl (fun b m => b.set m v) b
theorem putAll_length (v : Bool) : ∀ (ms : List Nat) (b : List Bool), (putAll b v ms).length = b.length
  | [], b => rfl
  | m :: ms, b => by
    have := putAll_length v ms (b.set m v)
    simpa [putAll] using this
theorem putAll_other (v : Bool) : ∀ (ms : List Nat) (b : List Bool) (j : Nat), j ∉ ms → (putAll b v ms)[j]? = b[j]?
  | [], b, j, _ => rfl
  | m :: ms, b, j, h => by
    have := putAll_other v ms (b.set m v) j (fun h1 => h (List.mem_cons_of_mem _ h1))
    rw [show putAll b v (m :: ms) = putAll (b.set m v) v ms from rfl, this, List.getElem?_set_ne (fun e => h (by rw [e]; exact List.mem_cons_self))]
theorem putAll_at (v : Bool) : ∀ (ms : List Nat) (b : List Bool) (j : Nat), j ∈ ms → j < b.length → (putAll b v ms)[j]? = some v
  | m :: ms, b, j, h, hl => by
    rw [show putAll b v (m :: ms) = putAll (b.set m v) v ms from rfl]
    by_cases hj : j ∈ ms
    · exact putAll_at v ms _ j hj (by simpa using hl)
    · rw [putAll_other v ms _ j hj]
      rcases List.mem_cons.1 h with e | e
      · subst e; rw [List.getElem?_set_self hl]
      · exact absurd e hj
theorem putAll_true {ms : List Nat} {b : List Bool} {j : Nat} (h : b[j]? = some true) : (putAll b true ms)[j]? = some true := by
  by_cases hj : j ∈ ms
  · exact putAll_at true ms b j hj (List.getElem?_eq_some_iff.1 h).1
  · rw [putAll_other true ms b j hj]; exact h
/-- Nothing turns where all of it was so. -/
theorem putAll_false {ms : List Nat} {b : List Bool} (h : ∀ m ∈ ms, b[m]? ≠ some true) : putAll b false ms = b := by
  refine List.ext_getElem? fun j => ?_
  by_cases hj : j ∈ ms
  · rcases Nat.lt_or_ge j b.length with hl | hl
    · rw [putAll_at false ms b j hj hl]
      have h1 := h j hj
      rw [List.getElem?_eq_getElem hl] at h1 ⊢
      cases hb : b[j]
      · rfl
      · exact absurd (by rw [hb]) h1
    · rw [List.getElem?_eq_none (by rw [putAll_length]; exact hl), List.getElem?_eq_none hl]
  · exact putAll_other false ms b j hj

section
variable {n : Nat} {G : List Grp} {names : List (List UInt8)}
theorem leftK_next {k : Nat} {g : Grp} (h : G[k]? = some g) (hg : g.one = true) : leftK n G names (k + 1) = ((leftK n G names k).1 ++ [g.name], if (leftK n G names k).1.contains g.name then putAll (leftK n G names k).2 true g.mem else (leftK n G names k).2) := by
  rw [leftK, h]; simp only [hg, if_true]; rfl
theorem leftK_other {k : Nat} {g : Grp} (h : G[k]? = some g) (hg : g.one = false) : leftK n G names (k + 1) = leftK n G names k := by
  rw [leftK, h]; simp [hg]
theorem leftK_length : ∀ k, (leftK n G names k).2.length = n
  | 0 => by simp [leftK]
  | k + 1 => by
    have ih := leftK_length k
    cases hk : G[k]? with
    | none => rw [leftK, hk]; exact ih
    | some g =>
      cases hg : g.one with
      | false => rw [leftK_other hk hg]; exact ih
      | true =>
        rw [leftK_next hk hg]
        by_cases hc : (leftK n G names k).1.contains g.name
        · rw [if_pos hc, putAll_length]; exact ih
        · rw [if_neg hc]; exact ih
/-- What is left out is a member of a group ahead. -/
theorem leftK_from : ∀ (k j : Nat), (leftK n G names k).2[j]? = some true → ∃ q g, q < k ∧ G[q]? = some g ∧ j ∈ g.mem
  | 0, j, h => by
    rw [leftK, List.getElem?_replicate] at h
    split at h <;> cases h
  | k + 1, j, h => by
    have ih := leftK_from k j
    have up : (∃ q g, q < k ∧ G[q]? = some g ∧ j ∈ g.mem) → ∃ q g, q < k + 1 ∧ G[q]? = some g ∧ j ∈ g.mem := fun ⟨q, g, h1, h2⟩ => ⟨q, g, by omega, h2⟩
    cases hk : G[k]? with
    | none => rw [leftK, hk] at h; exact up (ih h)
    | some g =>
      cases hg : g.one with
      | false => rw [leftK_other hk hg] at h; exact up (ih h)
      | true =>
        rw [leftK_next hk hg] at h
        by_cases hc : (leftK n G names k).1.contains g.name
        · rw [if_pos hc] at h
          by_cases hj : j ∈ g.mem
          · exact ⟨k, g, by omega, hk, hj⟩
          · rw [putAll_other true _ _ _ hj] at h; exact up (ih h)
        · rw [if_neg hc] at h; exact up (ih h)
/-- Names that were met stay, and a group's own is met behind it. -/
theorem leftK_names : ∀ k, (∀ x ∈ names, x ∈ (leftK n G names k).1) ∧ ∀ q g, q < k → G[q]? = some g → g.one = true → g.name ∈ (leftK n G names k).1
  | 0 => ⟨fun _ h => h, fun q _ h => absurd h (Nat.not_lt_zero _)⟩
  | k + 1 => by
    obtain ⟨i1, i2⟩ := leftK_names k
    cases hk : G[k]? with
    | none =>
      rw [leftK, hk]
      refine ⟨i1, fun q g hq h h1 => ?_⟩
      rcases Nat.lt_or_ge q k with h2 | h2
      · exact i2 q g h2 h h1
      · obtain rfl : q = k := by omega
        rw [hk] at h; cases h
    | some g =>
      cases hg : g.one with
      | false =>
        rw [leftK_other hk hg]
        refine ⟨i1, fun q g' hq h h1 => ?_⟩
        rcases Nat.lt_or_ge q k with h2 | h2
        · exact i2 q g' h2 h h1
        · obtain rfl : q = k := by omega
          rw [hk] at h
          cases h
          rw [hg] at h1; cases h1
      | true =>
        rw [leftK_next hk hg]
        refine ⟨fun x hx => List.mem_append_left _ (i1 x hx), fun q g' hq h h1 => ?_⟩
        rcases Nat.lt_or_ge q k with h2 | h2
        · exact List.mem_append_left _ (i2 q g' h2 h h1)
        · obtain rfl : q = k := by omega
          rw [hk] at h
          cases h
          exact List.mem_append_right _ (List.mem_singleton.2 rfl)
/-- Where all names had been met, each member of a group of which one is kept is left out. -/
theorem leftK_again (hn : ∀ g ∈ G, g.one = true → g.name ∈ names) : ∀ (k q : Nat) (g : Grp) (m : Nat), q < k → G[q]? = some g → g.one = true → m ∈ g.mem → m < n → (leftK n G names k).2[m]? = some true
  | 0, q, _, _, h, _, _, _, _ => absurd h (Nat.not_lt_zero _)
  | k + 1, q, g, m, hq, h, h1, hm, hmn => by
    have ih := leftK_again hn k q g m
    have hl := leftK_length (n := n) (G := G) (names := names) k
    cases hk : G[k]? with
    | none =>
      rw [leftK, hk]
      rcases Nat.lt_or_ge q k with h2 | h2
      · exact ih h2 h h1 hm hmn
      · obtain rfl : q = k := by omega
        rw [hk] at h; cases h
    | some g' =>
      cases hg : g'.one with
      | false =>
        rw [leftK_other hk hg]
        rcases Nat.lt_or_ge q k with h2 | h2
        · exact ih h2 h h1 hm hmn
        · obtain rfl : q = k := by omega
          rw [hk] at h
          cases h
          rw [hg] at h1; cases h1
      | true =>
        rw [leftK_next hk hg]
        have hc : (leftK n G names k).1.contains g'.name = true := by
          rw [List.contains_iff_mem]
          exact (leftK_names k).1 _ (hn g' (List.mem_of_getElem? hk) hg)
        rw [if_pos hc]
        rcases Nat.lt_or_ge q k with h2 | h2
        · exact putAll_true (ih h2 h h1 hm hmn)
        · obtain rfl : q = k := by omega
          rw [hk] at h
          cases h
          exact putAll_at true _ _ _ hm (by rw [hl]; exact hmn)
/-- The truths that a reader stores group by group, 'one is kept and its name had been met' at each member, are what is left out. -/
theorem leftK_reads (hp : G.Pairwise fun g g' => ∀ m ∈ g.mem, m ∉ g'.mem) {k : Nat} {g : Grp} (h : G[k]? = some g) :
    putAll (leftK n G names k).2 (g.one && (leftK n G names k).1.contains g.name) g.mem = (leftK n G names (k + 1)).2 := by
  have hf : ∀ m ∈ g.mem, (leftK n G names k).2[m]? ≠ some true := by
    intro m hm hj
    obtain ⟨q, g', hq, h1, h2⟩ := leftK_from k m hj
    have hkl := (List.getElem?_eq_some_iff.1 h).1
    have e1 := (List.getElem?_eq_some_iff.1 h).2
    have e2 := (List.getElem?_eq_some_iff.1 h1).2
    have := List.pairwise_iff_getElem.1 hp q k (by omega) hkl hq
    rw [e1, e2] at this
    exact this m h2 hm
  cases hg : g.one with
  | false => rw [leftK_other h hg, Bool.false_and, putAll_false hf]
  | true =>
    rw [leftK_next h hg, Bool.true_and]
    cases hc : (leftK n G names k).1.contains g.name with
    | false => rw [putAll_false hf]; rfl
    | true => rfl
end

section
variable {O X : List (List Sect × List Sym)}
/-- What stands behind does not count. -/
theorem leftS_prefix : ∀ k, k ≤ O.length → leftS (O ++ X) k = leftS O k
  | 0, _ => rfl
  | k + 1, h => by
    rw [leftS, leftS, leftS_prefix k (by omega), List.getElem?_append_left (by omega)]
theorem leftS_none {k : Nat} (h : leftS O k = none) : ∀ m, k ≤ m → leftS O m = none := by
  intro m hm
  obtain ⟨q, rfl⟩ := Nat.le.dest hm
  induction q with
  | zero => exact h
  | succ q ih => rw [← Nat.add_assoc, leftS, ih (by omega)]
theorem leftS_next {k : Nat} {names : List (List UInt8)} {out : List (List Bool)} {S : List Sect} {Y : List Sym} {G : List Grp} (h : leftS O k = some (names, out)) (hk : O[k]? = some (S, Y)) (hg : grpT S Y = some G) :
    leftS O (k + 1) = some ((leftK S.length G names G.length).1, out ++ [(leftK S.length G names G.length).2]) := by
  rw [leftS, h]; simp [hk, hg]
theorem leftS_bad {k : Nat} {names : List (List UInt8)} {out : List (List Bool)} {S : List Sect} {Y : List Sym} (h : leftS O k = some (names, out)) (hk : O[k]? = some (S, Y)) (hg : grpT S Y = none) : leftS O (k + 1) = none := by
  rw [leftS, h]; simp [hk, hg]
/-- Behind k objects: so many rows, and each object's names are among those that were met. -/
theorem leftS_facts : ∀ {k : Nat} {names : List (List UInt8)} {out : List (List Bool)}, k ≤ O.length → leftS O k = some (names, out) →
    out.length = k ∧ ∀ q S Y, q < k → O[q]? = some (S, Y) → ∃ G, grpT S Y = some G ∧ ∀ g ∈ G, g.one = true → g.name ∈ names
  | 0, names, out, _, h => by
    rw [leftS] at h
    cases h
    exact ⟨rfl, fun q _ _ h => absurd h (Nat.not_lt_zero _)⟩
  | k + 1, names, out, hl, h => by
    cases hk : leftS O k with
    | none => rw [leftS_none hk (k + 1) (by omega)] at h; cases h
    | some r =>
      obtain ⟨nm, ou⟩ := r
      obtain ⟨i1, i2⟩ := leftS_facts (by omega) hk
      cases ho : O[k]? with
      | none => rw [List.getElem?_eq_none_iff] at ho; omega
      | some r =>
        obtain ⟨S, Y⟩ := r
        cases hg : grpT S Y with
        | none => rw [leftS_bad hk ho hg] at h; cases h
        | some G =>
          rw [leftS_next hk ho hg] at h
          simp at h
          obtain ⟨rfl, rfl⟩ := h
          refine ⟨by simp [i1], fun q S' Y' hq h1 => ?_⟩
          rcases Nat.lt_or_ge q k with h2 | h2
          · obtain ⟨G', h3, h4⟩ := i2 q S' Y' h2 h1
            exact ⟨G', h3, fun g hg' h5 => (leftK_names G.length).1 _ (h4 g hg' h5)⟩
          · obtain rfl : q = k := by omega
            rw [ho] at h1
            injection h1 with h1
            injection h1 with h1 h2
            subst h1; subst h2
            refine ⟨G, hg, fun g hg' h5 => ?_⟩
            obtain ⟨j, hj⟩ := List.getElem?_of_mem hg'
            exact (leftK_names G.length).2 j g (List.getElem?_eq_some_iff.1 hj).1 hj h5
end

end Go.Proofs.Ytbpemehhbeejcaa
