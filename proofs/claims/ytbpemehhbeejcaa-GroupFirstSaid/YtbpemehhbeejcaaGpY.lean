/-
  What is left out, with the first object once more: plain facts; names that were met, in a map of truths; two appends.
-/
import Derived.Test.YtbpemehhbeejcaaGpT
import Derived.Test.YtbpemehhbeejcaaGpU
import Derived.Test.YtbpemehhbeejcaaGpS
import Derived.Deep.DeepCutAuto
import Derived.Deep.LoopGhost
import Derived.Deep.RegionHeldLaw
namespace Go.Proofs.Ytbpemehhbeejcaa
open Go Go.RowKit Go.Maps

/-- What stands ahead of the object i, and what is left out of it. -/
theorem leftS_at {O : List (List Sect × List Sym)} : ∀ {k : Nat} {names : List (List UInt8)} {out : List (List Bool)}, k ≤ O.length → leftS O k = some (names, out) →
    ∀ i, i < k → ∃ names' out' S Y G, leftS O i = some (names', out') ∧ O[i]? = some (S, Y) ∧ grpT S Y = some G ∧ out[i]? = some (leftK S.length G names' G.length).2 ∧ ∃ out'', leftS O (i + 1) = some ((leftK S.length G names' G.length).1, out'')
  | 0, names, out, _, h, i, hi => absurd hi (Nat.not_lt_zero _)
  | k + 1, names, out, hl, h, i, hi => by
    cases hk : leftS O k with
    | none => rw [leftS_none hk (k + 1) (by omega)] at h; cases h
    | some r =>
      obtain ⟨nm, ou⟩ := r
      have h1 := (leftS_facts (by omega) hk).1
      cases ho : O[k]? with
      | none => rw [List.getElem?_eq_none_iff] at ho; omega
      | some q =>
        obtain ⟨S, Y⟩ := q
        cases hg : grpT S Y with
        | none => rw [leftS_bad hk ho hg] at h; cases h
        | some G =>
          have hn := leftS_next hk ho hg
          rw [hn] at h
          injection h with h
          injection h with h2 h3
          subst h2 h3
          rcases Nat.lt_or_ge i k with h4 | h4
          · obtain ⟨n', o', S', Y', G', q1, q2, q3, q4, q5⟩ := leftS_at (by omega) hk i h4
            exact ⟨n', o', S', Y', G', q1, q2, q3, by rw [List.getElem?_append_left (by omega)]; exact q4, q5⟩
          · obtain rfl : i = k := by omega
            exact ⟨nm, ou, S, Y, G, hk, ho, hg, by rw [List.getElem?_append_right (by omega), h1, Nat.sub_self]; rfl, _, hn⟩
/-- Objects, and the first one of them once more. -/
theorem left_again {O : List (List Sect × List Sym)} {S : List Sect} {Y : List Sym} (h0 : O[0]? = some (S, Y)) (hl : O.length ≤ 5) :
    (leftE O = 25 ∧ leftL O = [] ∧ leftE (O ++ [(S, Y)]) = 25) ∨
    ∃ names out G last, leftS O O.length = some (names, out) ∧ leftE O = 0 ∧ leftL O = out ∧ out.length = O.length ∧ grpT S Y = some G ∧ leftE (O ++ [(S, Y)]) = 0 ∧ leftL (O ++ [(S, Y)]) = out ++ [last] ∧ last.length = S.length ∧ ∀ g ∈ G, g.one = true → ∀ m ∈ g.mem, last[m]? = some true := by
  have hpos : 0 < O.length := (List.getElem?_eq_some_iff.1 h0).1
  have hlen : (O ++ [(S, Y)]).length = O.length + 1 := by simp
  have hpre : leftS (O ++ [(S, Y)]) O.length = leftS O O.length := leftS_prefix _ (Nat.le_refl _)
  cases h : leftS O O.length with
  | none =>
    left
    obtain ⟨e1, e2⟩ := left_none (by omega) h
    exact ⟨e1, e2, (left_none (by rw [hlen]; omega) (by rw [hlen]; exact leftS_none (by rw [hpre]; exact h) _ (by omega))).1⟩
  | some r =>
    right
    obtain ⟨names, out⟩ := r
    obtain ⟨e1, e2⟩ := left_some (by omega) h
    obtain ⟨f1, f2⟩ := leftS_facts (Nat.le_refl _) h
    obtain ⟨G, hG, hN⟩ := f2 0 S Y hpos h0
    have hnx : leftS (O ++ [(S, Y)]) (O.length + 1) = some ((leftK S.length G names G.length).1, out ++ [(leftK S.length G names G.length).2]) :=
      leftS_next (by rw [hpre]; exact h) (by rw [List.getElem?_append_right (Nat.le_refl _), Nat.sub_self]; rfl) hG
    obtain ⟨e3, e4⟩ := left_some (by rw [hlen]; omega) (by rw [hlen]; exact hnx)
    refine ⟨names, out, G, (leftK S.length G names G.length).2, rfl, e1, e2, f1, hG, e3, e4, leftK_length _, fun g hg h1 m hm => ?_⟩
    obtain ⟨j, hj⟩ := List.getElem?_of_mem hg
    have hjl := (List.getElem?_eq_some_iff.1 hj).1
    refine leftK_again hN G.length j g m hjl hj h1 hm ?_
    unfold grpT at hG
    cases hk : grpS S Y S.length with
    | none => rw [hk] at hG; cases hG
    | some q =>
      obtain ⟨l, met⟩ := q
      rw [hk] at hG
      injection hG with hG
      simp only at hG
      subst hG
      exact ((grpS_facts hk).1 g hg m hm).1
theorem grpT_apart {S : List Sect} {Y : List Sym} {R : List Grp} (h : grpT S Y = some R) : R.Pairwise fun g g' => ∀ m ∈ g.mem, m ∉ g'.mem := by
  unfold grpT at h
  cases hk : grpS S Y S.length with
  | none => rw [hk] at h; cases h
  | some q =>
    obtain ⟨l, met⟩ := q
    rw [hk] at h
    injection h with h
    simp only at h
    subst h
    exact (grpS_facts hk).2

/-! ### Names that were met, in a map of truths -/
def SeenAt (w : World) (base mb : Nat) (names : List (List UInt8)) : Prop :=
  base ≤ mb ∧ ∃ (n : Nat) (D : DataW Unit), n ≤ names.length ∧ w.ownsMap Try.prog 9 (plainElem Try.prog 4) mb n D ∧ ∀ t, D.atKey (keyT t) (.lit (.bool false)) = .lit (.bool (names.contains t))
theorem zero_bool (w : World) : (zeroValue 4).run Try.prog w = .ok (.bool false) w := by kernel_rfl
theorem plainElem_bool_inv {v : Value} {z : DataW Unit × List MemPlace} (h : plainElem Try.prog 4 v = some z) : ∃ b, v = .bool b ∧ z = (.lit (.bool b), []) := by
  unfold plainElem at h
  rw [Try.underlying4] at h
  cases v <;> simp at h
  subst h
  exact ⟨_, rfl, rfl⟩
section
variable {w w' : World} {base mb : Nat} {names : List (List UInt8)}
theorem SeenAt.block (h : SeenAt w base mb names) : ∃ es c, w.heap[mb]? = some (.map es c) := by
  obtain ⟨-, n, D, -, h, -⟩ := h
  exact own_map_block h
theorem SeenAt.but {P : Nat → Prop} (h : SeenAt w base mb names) (hb : But P w w') (hp : ¬ P mb) : SeenAt w' base mb names := by
  obtain ⟨h0, n, D, h1, h2, h3⟩ := h
  exact ⟨h0, n, D, h1, own_map_but h2 hb hp, h3⟩
theorem SeenAt.below (h : SeenAt w base mb names) (hb : Below w.heap.size w w') : SeenAt w' base mb names := h.but (P := fun _ => False) (But.of_below hb) (fun h => h)
theorem SeenAt.made (w : World) : SeenAt (w.alloc (.map #[] 0)) w.heap.size w.heap.size [] := ⟨Nat.le_refl _, 0, .map [], Nat.le_refl _, World.ownsMap_made w _ _ _, fun _ => rfl⟩
/-- Was the name met? -/
theorem SeenAt.look (h : SeenAt w base mb names) (t : List UInt8) (ht : t.length ≤ maxLen) : (Instr.lookup 56 (.map (some mb)) (.string ⟨t.toArray⟩) false).run Try.prog w = .ok (.bool (names.contains t)) w := by
  obtain ⟨-, n, D, -, h2, h3⟩ := h
  obtain ⟨v, ps, hrun, hv⟩ := h2.lookup string_law Try.underlying56 (zero_bool w) (plainElem_bool Try.underlying4 false) (key_text t ht)
  obtain ⟨b, rfl, e⟩ := plainElem_bool_inv hv
  injection e with e _
  rw [h3] at e
  injection e with e
  injection e with e
  rw [hrun, e]
/-- It is met. -/
theorem SeenAt.put {D : DataW Unit} {t : List UInt8} (h : ∀ s, D.atKey (keyT s) (.lit (.bool false)) = .lit (.bool (names.contains s))) (hm : IsMap D) : ∀ s, (D.put (keyT t) (.lit (.bool true))).atKey (keyT s) (.lit (.bool false)) = .lit (.bool ((names ++ [t]).contains s)) := fun s => by
  by_cases e : s = t
  · subst e
    rw [atKey_put_same hm (keyT_lit s)]
    simp
  · rw [atKey_put_other (fun e2 => e (by injection e2)), h s]
    have e2 : (names ++ [t]).contains s = names.contains s := by rw [Bool.eq_iff_iff]; simp [e]
    rw [e2]
end

/-! ### Two appends: a copy of a row, and one item more -/
section
variable {P : Program} {w X : World} {ops : Array Oper} {o : Oper} {a : Act} {K : Act → World → Prop} {Q : Exit → Act → World → Prop} {E : Prop}
/-- A row copied behind an empty one of the call's own, at a step of a region that draws. -/
theorem step_copy (hgd : o.guard = none) (s x : Operand) (t : TypeId)
    (ho : o.op = .call { callee := .builtin .append, args := #[s, x], argTypes := #[t, t] })
    (e : TypeId) (i : TypeInfo) (z : Value) (size bytes : Nat) (ht : P.underlying t = some (.slice e)) (hi : P.info? e = some i) (hz : i.zero = some z)
    (hsize : i.size = size) (hby : i.bytes = bytes) (hzs : z.cells.size = size) (hsz : 0 < size)
    (gA : Nat) (hs : a.eval s = .slice (some ⟨gA, 0, none⟩) 0 0) (hA : X.heap[gA]? = some (.cells #[] e (0, 0))) (hge : w.heap.size ≤ gA) (hb : Below w.heap.size w X)
    (ad : Addr) (m c : Nat) (news : List Value) (hx : a.eval x = .slice (some ad) m c) (hl : news.length = m * size) (had : ad.block < w.heap.size) (hnews : ∀ j u, news[j]? = some u → w.cell? (ad.add j) = some u) (h1 : ∀ u ∈ news, u.oneCell' = true)
    (hm : 0 < m) (h63 : m ≤ maxLen) (hbytes : m * bytes ≤ 140737488355328)
    (h : ∀ g cap w', w'.ownsRow w.heap.size e size (.slice (some ⟨g, 0, none⟩) m cap) m news → X.grownBy w' (some gA) → Below w.heap.size w w' → K (a.put o.dst (.slice (some ⟨g, 0, none⟩) m cap)) w') :
    if Region.wanted o (yielded ops a.tmps) = true then Oper.wp P o a X K Q else E := by
  have hrow : X.ownsRow w.heap.size e size (.slice (some ⟨gA, 0, none⟩) 0 0) 0 [] := ⟨by simp, .inr ⟨gA, 0, #[], rfl, hge, hA, Nat.le_refl _, Nat.zero_le _, by simp, by simp⟩⟩
  refine step_append_lies X hgd s x t ho w.heap.size e i z size bytes ht hi hz hsize hby hzs hsz _ 0 [] hs hrow ad m c news hx hl (fun j u hu => ?_) h1 hm (by omega) (by rw [Nat.zero_add]; exact hbytes) hb.size _ rfl
    fun g cap w' h2 h3 _ _ => ?_
  · have hbk : (ad.add j).block = ad.block := by unfold Addr.add; split <;> rfl
    rw [hb.cell (p := ad.add j) (by rw [hbk]; exact had)]
    exact hnews j u hu
  · rw [Nat.zero_add, List.nil_append] at h2
    rw [Nat.zero_add]
    exact h g cap w' h2 h3 (hb.trans (below_of_only h3 hb.size (fun k hk => by have e5 : gA = k := (by simpa [Value.ownBlock] using hk); omega)))
/-- One item of several cells more. -/
theorem step_one (hgd : o.guard = none) (s x : Operand) (t : TypeId)
    (ho : o.op = .call { callee := .builtin .append, args := #[s, x], argTypes := #[t, t] })
    (base : Nat) (e : TypeId) (i : TypeInfo) (z : Value) (size bytes : Nat) (ht : P.underlying t = some (.slice e)) (hi : P.info? e = some i) (hz : i.zero = some z)
    (hsize : i.size = size) (hby : i.bytes = bytes) (hzs : z.cells.size = size) (hsz : 0 < size)
    (v : Value) (n : Nat) (xs : List Value) (hs : a.eval s = v) (hown : w.ownsRow base e size v n xs) (hb : Below w.heap.size w X)
    (k c : Nat) (cs : Array Value) (hx : a.eval x = .slice (some ⟨k, 0, none⟩) 1 c) (hlit : X.heap[k]? = some (.cells cs e (0, 0))) (hcs : cs.toList.length = 1 * size) (hy : ∀ u ∈ cs.toList, u.oneCell' = true)
    (h63 : n + 1 ≤ maxLen) (hbytes : (n + 1) * bytes ≤ 140737488355328) (hbase : base ≤ w.heap.size)
    (h : ∀ g cap w', w'.ownsRow base e size (.slice (some ⟨g, 0, none⟩) (n + 1) cap) (n + 1) (xs ++ cs.toList) → Below base w w' → K (a.put o.dst (.slice (some ⟨g, 0, none⟩) (n + 1) cap)) w') :
    if Region.wanted o (yielded ops a.tmps) = true then Oper.wp P o a X K Q else E := by
  have hX := row_below hown hb
  exact step_append_lies X hgd s x t ho base e i z size bytes ht hi hz hsize hby hzs hsz v n xs hs hX ⟨k, 0, none⟩ 1 c cs.toList hx hcs
    (World.news_of_block (cs := cs) (t := e) (fr := (0, 0)) hlit) hy (Nat.le_refl _) h63 hbytes (Nat.le_trans hbase hb.size) _ rfl
    fun g cap w' h1 h2 _ _ => h g cap w' h1 ((hb.mono hbase).trans (below_of_only h2 (Nat.le_trans hbase hb.size) (fun k hk => (hX.lt k hk).1)))
end

end Go.Proofs.Ytbpemehhbeejcaa
