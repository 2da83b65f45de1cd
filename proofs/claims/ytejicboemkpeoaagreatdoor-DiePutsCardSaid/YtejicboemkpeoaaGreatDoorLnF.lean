/-
  Package linkmap: maps by sections, and by names, in memory: what they tell.
-/
import Derived.Test.YtejicboemkpeoaaGreatDoorGpE
import Derived.Test.YtejicboemkpeoaaGreatDoorSeR
import Derived.Deep.DeepCutAuto
import Derived.Deep.LoopGhost
import Derived.Test.YtejicboemkpeoaaGreatDoorPoO
import Derived.DeepKeys4
namespace Go.Proofs.YtejicboemkpeoaaGreatDoor
open Go Go.RowKit

/-- Groups of the call's own that lie side by side, their members too. -/
structure GSt (T : TypeId) (w : World) (base : Nat) (v : Value) (L : List GLay) : Prop where
  row : w.ownsRow base T 4 v L.length (cellsF GLay.cells L)
  mem : ∀ x ∈ L, OwnM w base (.slice x.a x.g.mem.length x.c) x.g.mem
theorem GLay.one (x : GLay) : ∀ u ∈ x.cells, u.oneCell' = true := fun u hu => by
  simp only [GLay.cells, List.mem_cons, List.not_mem_nil, or_false] at hu
  rcases hu with rfl | rfl | rfl | rfl <;> rfl
section
variable {T : TypeId} {w w' : World} {base base' : Nat} {v v' : Value} {L : List GLay} {x : GLay}
theorem GSt.nil (T : TypeId) (w : World) (base : Nat) : GSt T w base (.slice none 0 0) [] := ⟨World.ownsRow_nil _ _ _ _, fun _ h => by cases h⟩
theorem GSt.but {P : Nat → Prop} (h : GSt T w base v L) (hb : But P w w') (h1 : ∀ k, v.ownBlock = some k → ¬ P k) (h2 : ∀ x ∈ L, ∀ k, (Value.slice x.a x.g.mem.length x.c).ownBlock = some k → ¬ P k) : GSt T w' base v L :=
  ⟨hb.row h.row h1, fun x hx => hb.row (h.mem x hx) (h2 x hx)⟩
theorem GSt.below (h : GSt T w base v L) (hb : Below w.heap.size w w') : GSt T w' base v L := ⟨row_below h.row hb, fun x hx => row_below (h.mem x hx) hb⟩
theorem GSt.own (h : GSt T w base v L) : OwnG T w base v (L.map (·.g)) := ⟨L, rfl, h.row, h.mem⟩
/-- One more, its members at hand. -/
theorem GSt.more (h : GSt T w base v L) (hx : OwnM w base (.slice x.a x.g.mem.length x.c) x.g.mem) (hT : 3 ≠ T) (hown : w'.ownsRow base T 4 v' (L.length + 1) (cellsF GLay.cells L ++ x.cells)) (hg : w.grownBy w' v.ownBlock) : GSt T w' base v' (L ++ [x]) := by
  refine ⟨by rw [List.length_append, cellsF_append, cellsF_one]; exact hown, fun y hy => ?_⟩
  have hk : ∀ z : GLay, OwnM w base (.slice z.a z.g.mem.length z.c) z.g.mem → OwnM w' base (.slice z.a z.g.mem.length z.c) z.g.mem := fun z hz =>
    ((But.refl (fun k => some k = v.ownBlock) w).grown hg (fun x hx => .inl hx.symm)).row hz (fun k hk hp => by
      obtain ⟨cs, f, hb⟩ := row_heap h.row hp.symm
      exact row_other hz hb hT k hk rfl)
  rcases List.mem_append.1 hy with hy | hy
  · exact hk y (h.mem y hy)
  · obtain rfl := List.mem_singleton.1 hy
    exact hk _ hx
end
end Go.Proofs.YtejicboemkpeoaaGreatDoor

namespace Go.Proofs.YtejicboemkpeoaaGreatDoor
open Go Go.RowKit Go.Maps

/-- A set of names in memory, the call's own. -/
def SetAt (w : World) (base mb : Nat) (names : List (List UInt8)) : Prop :=
  base ≤ mb ∧ ∃ (n : Nat) (ls : List (List UInt8)), n ≤ names.length ∧ w.ownsMap Tryz.prog 9 (unitElem (H := Unit)) mb n (setT ls) ∧ ∀ t, t ∈ ls ↔ t ∈ names
section
variable {w w' : World} {base mb : Nat} {names : List (List UInt8)}
theorem own_map_block {k : TypeId} {R : Value → Option (DataW Unit × List MemPlace)} {n : Nat} {D : DataW Unit} (h : w.ownsMap Tryz.prog k R mb n D) : ∃ es c, w.heap[mb]? = some (.map es c) := by
  obtain ⟨es, c, hm, _⟩ := h
  exact ⟨es, c, hm⟩
theorem SetAt.block (h : SetAt w base mb names) : ∃ es c, w.heap[mb]? = some (.map es c) := by
  obtain ⟨-, n, ls, -, h, -⟩ := h
  exact own_map_block h
theorem SetAt.lt (h : SetAt w base mb names) : mb < w.heap.size := by
  obtain ⟨es, c, hm⟩ := h.block
  rcases Nat.lt_or_ge mb w.heap.size with h1 | h1
  · exact h1
  · rw [Array.getElem?_eq_none h1] at hm; cases hm
theorem own_map_but {k : TypeId} {R : Value → Option (DataW Unit × List MemPlace)} {n : Nat} {D : DataW Unit} {P : Nat → Prop} (h : w.ownsMap Tryz.prog k R mb n D) (hb : But P w w') (hp : ¬ P mb) : w'.ownsMap Tryz.prog k R mb n D := by
  obtain ⟨es, c, hm, r⟩ := h
  have hlt : mb < w.heap.size := by
    rcases Nat.lt_or_ge mb w.heap.size with h1 | h1
    · exact h1
    · rw [Array.getElem?_eq_none h1] at hm; cases hm
  exact ⟨es, c, (hb.2 mb hlt hp).trans hm, r⟩
theorem SetAt.but {P : Nat → Prop} (h : SetAt w base mb names) (hb : But P w w') (hp : ¬ P mb) : SetAt w' base mb names := by
  obtain ⟨h0, n, ls, h1, h2, h3⟩ := h
  exact ⟨h0, n, ls, h1, own_map_but h2 hb hp, h3⟩
theorem SetAt.below (h : SetAt w base mb names) (hb : Below w.heap.size w w') : SetAt w' base mb names := h.but (P := fun _ => False) (But.of_below hb) (fun h => h)
end
end Go.Proofs.YtejicboemkpeoaaGreatDoor

namespace Go.Proofs.YtejicboemkpeoaaGreatDoor
open Go Go.RowKit Go.Maps

theorem sec_cells : Tryz.prog.cellsOf 160 = 2 := by kernel_rfl
theorem sec_int : Tryz.prog.cellsOf 3 = 1 := by kernel_rfl
set_option maxRecDepth 100000 in
theorem sec_row : (160 : TypeId) < Tryz.prog.types.size := of_decide_eq_true (by kernel_rfl)
theorem sec_wide : (match Tryz.prog.underlying 160 with | some (.array _ _) | some (.struct _) => true | _ => false) = true := by kernel_rfl
theorem sec_laid : laidOutB Tryz.prog = true := by kernel_rfl
set_option maxRecDepth 100000 in
theorem sec_law : Keyed Tryz.prog 160 := Keyed.of_law (deep_law_laid sec_laid (m := 2) (Nat.le_of_ble_eq_true rfl) sec_row (by kernel_rfl) sec_wide)
theorem sec_key : Tryz.prog.keyType 160 = true := by kernel_rfl
/-- What a section reads as, as a key. -/
def keyS (o s : Int) : Lit := .string (keyBytes [.int .i64 o, .int .i64 s])
theorem wf_i64 {o : Int} (h : InI o) : (Lit.int .i64 o).wf = true := by
  obtain ⟨h1, h2⟩ := h
  show (decide (IntKind.i64.min ≤ o) && decide (o ≤ IntKind.i64.max)) = true
  rw [Bool.and_eq_true, decide_eq_true_eq, decide_eq_true_eq]
  exact ⟨h1, h2⟩
theorem wf_u64 {n : Nat} (h : n < two64) : (Lit.int .u64 (n : Int)).wf = true := by
  unfold two64 at h
  show (decide (IntKind.u64.min ≤ (n : Int)) && decide ((n : Int) ≤ IntKind.u64.max)) = true
  rw [Bool.and_eq_true, decide_eq_true_eq, decide_eq_true_eq, show IntKind.u64.min = 0 from rfl, show IntKind.u64.max = 18446744073709551615 from rfl]
  omega
theorem keyLits_sec (d : Nat) {o s : Int} (ho : InI o) (hs : InI s) : Tryz.prog.keyLits (d + 2) 160 [.int .i64 o, .int .i64 s] = some [.int .i64 o, .int .i64 s] := by
  have hu := Tryz.underlying160
  have hi := Tryz.underlying3
  have h1 := wf_i64 ho
  have h2 := wf_i64 hs
  simp [Program.keyLits, hu, hi, sec_cells, sec_int, h1, h2]
theorem key_sec {o s : Int} (ho : InI o) (hs : InI s) : keyOf Tryz.prog 160 (.agg #[.int .i64 o, .int .i64 s]) = some (keyS o s) := by
  have hu := Tryz.underlying160
  unfold keyOf
  simp only [hu, sec_key, Value.formed, sec_cells, Value.cells, keyS]
  obtain ⟨d, hd⟩ : ∃ d, Tryz.prog.types.size + 1 = d + 2 := ⟨Tryz.prog.types.size - 1, by have := Nat.lt_of_le_of_lt (Nat.zero_le _) sec_row; omega⟩
  rw [hd, keyLits_sec d ho hs]
  rfl
theorem keyS_inj {o s o' s' : Int} (ho : InI o) (hs : InI s) (ho' : InI o') (hs' : InI s') (h : keyS o s = keyS o' s') : o = o' ∧ s = s' := by
  have := sec_law.inj (key_sec ho hs) (h ▸ key_sec ho' hs')
  injection this with this
  injection this with this
  simpa using this

/-- A map of sections tells the places. -/
structure PMap (w : World) (base mb : Nat) (P : List Place) : Prop where
  ge : base ≤ mb
  own : ∃ (n : Nat) (D : DataW Unit), n ≤ P.length ∧ w.ownsMap Tryz.prog 160 (plainElem Tryz.prog 38) mb n D ∧ IsMap D ∧ ∀ o s, InI o → InI s → Maps.has D (keyS o s) = (outK P o s).isSome ∧ D.atKey (keyS o s) (.lit (.int .u64 0)) = .lit (.int .u64 (outA P o s : Nat))
/-- A map of names tells the symbols. -/
structure YMap (w : World) (base mb : Nat) (Y : List Named) : Prop where
  ge : base ≤ mb
  own : ∃ (n : Nat) (D : DataW Unit), n ≤ Y.length ∧ w.ownsMap Tryz.prog 9 (plainElem Tryz.prog 38) mb n D ∧ IsMap D ∧ ∀ t : List UInt8, t.length ≤ maxLen → Maps.has D (keyT t) = (nameK Y t).isSome ∧ ((nameK Y t).isSome = true → D.atKey (keyT t) (.lit (.int .u64 0)) = .lit (.int .u64 (nameA Y t : Nat)))

theorem firstK_snoc {α : Type} (p : α → Bool) (x : α) : ∀ (l : List α) (i : Nat), firstK p i (l ++ [x]) = match firstK p i l with | some k => some k | none => if p x then some (i + l.length) else none
  | [], i => by simp [firstK]
  | y :: l, i => by
    simp only [List.cons_append, firstK]
    by_cases hy : p y = true
    · simp [hy]
    · simp only [hy]
      have := firstK_snoc p x l (i + 1)
      simp only [Bool.false_eq_true, if_false]
      rw [this]
      cases firstK p (i + 1) l with
      | some k => rfl
      | none => simp only [List.length_cons]; rw [show i + 1 + l.length = i + (l.length + 1) by omega]
theorem firstK_lt {α : Type} {p : α → Bool} {l : List α} {k : Nat} (h : firstK p 0 l = some k) : k < l.length := by
  obtain ⟨x, hx, -⟩ := firstK_some (i := 0) (by rw [Nat.zero_add]; exact h)
  exact (List.getElem?_eq_some_iff.1 hx).1
/-- What a place more tells. -/
theorem outA_snoc {P : List Place} {p : Place} (hn : outK P p.obj p.sect = none) (o s : Int) :
    (outK (P ++ [p]) o s).isSome = (if o = p.obj ∧ s = p.sect then true else (outK P o s).isSome) ∧ outA (P ++ [p]) o s = if o = p.obj ∧ s = p.sect then p.addr else outA P o s := by
  unfold outA outK at *
  rw [firstK_snoc]
  by_cases h : o = p.obj ∧ s = p.sect
  · obtain ⟨rfl, rfl⟩ := h
    rw [hn]
    simp [hasP]
  · have hp : hasP o s p = false := by
      unfold hasP
      rw [Bool.and_eq_false_iff]
      by_cases e : p.obj = o
      · exact .inr (decide_eq_false (fun e2 => h ⟨e.symm, e2.symm⟩))
      · exact .inl (decide_eq_false e)
    rw [if_neg h, if_neg h]
    cases hk : firstK (hasP o s) 0 P with
    | none => simp [hp]
    | some k =>
      have := firstK_lt hk
      simp [List.getElem?_append_left this]
theorem nameA_snoc {Y : List Named} {y : Named} (hn : nameK Y y.name = none) (t : List UInt8) :
    (nameK (Y ++ [y]) t).isSome = (if t = y.name then true else (nameK Y t).isSome) ∧ nameA (Y ++ [y]) t = if t = y.name then y.addr else nameA Y t := by
  unfold nameA nameK at *
  rw [firstK_snoc]
  by_cases h : t = y.name
  · subst h
    rw [hn]
    simp
  · rw [if_neg h, if_neg h]
    cases hk : firstK (fun s : Named => decide (s.name = t)) 0 Y with
    | none =>
      have h' : ¬ y.name = t := fun e => h e.symm
      simp [h']
    | some k =>
      have := firstK_lt hk
      simp [List.getElem?_append_left this]

section
variable {w w' : World} {base mb : Nat} {P : List Place} {Y : List Named}
theorem PMap.block (h : PMap w base mb P) : ∃ es c, w.heap[mb]? = some (.map es c) := by
  obtain ⟨-, n, D, -, h, -⟩ := h
  exact own_map_block h
theorem YMap.block (h : YMap w base mb Y) : ∃ es c, w.heap[mb]? = some (.map es c) := by
  obtain ⟨-, n, D, -, h, -⟩ := h
  exact own_map_block h
theorem PMap.same (h : PMap w base mb P) (hb : w'.heap[mb]? = w.heap[mb]?) : PMap w' base mb P := by
  obtain ⟨h0, n, D, h1, ⟨es, c, hm, r⟩, h3⟩ := h
  exact ⟨h0, n, D, h1, ⟨es, c, hb.trans hm, r⟩, h3⟩
theorem YMap.same (h : YMap w base mb Y) (hb : w'.heap[mb]? = w.heap[mb]?) : YMap w' base mb Y := by
  obtain ⟨h0, n, D, h1, ⟨es, c, hm, r⟩, h3⟩ := h
  exact ⟨h0, n, D, h1, ⟨es, c, hb.trans hm, r⟩, h3⟩
theorem PMap.lt (h : PMap w base mb P) : mb < w.heap.size := by
  obtain ⟨es, c, hm⟩ := h.block
  exact (Array.getElem?_eq_some_iff.1 hm).1
theorem YMap.lt (h : YMap w base mb Y) : mb < w.heap.size := by
  obtain ⟨es, c, hm⟩ := h.block
  exact (Array.getElem?_eq_some_iff.1 hm).1
theorem keyS_lit (o s : Int) : WideAt.IsKeyLit (keyS o s) := trivial
set_option maxRecDepth 100000 in
theorem PMap.put (h : PMap w base mb P) {p : Place} (hp : p.Nums) (hn : outK P p.obj p.sect = none) (hl : P.length ≤ 100000) : ∃ w', (Instr.mapUpdate 92 (.map (some mb)) (.agg #[.int .i64 p.obj, .int .i64 p.sect]) (.int .u64 (p.addr : Int))).run Tryz.prog w = .ok () w' ∧ PMap w' base mb (P ++ [p]) ∧ w.grownBy w' (some mb) := by
  obtain ⟨h0, n, D, hN, h, hD, ht⟩ := h
  obtain ⟨w', hrun, how, hg⟩ := h.update sec_law Tryz.underlying92 (by unfold maxLen; omega) (key_sec hp.1 hp.2.1) (plainElem_int Tryz.underlying38 (wf_u64 hp.2.2))
  refine ⟨w', hrun, ⟨h0, n + 1, _, by simp; omega, how, hD.put _ _, fun o s ho hs => ?_⟩, hg⟩
  obtain ⟨e1, e2⟩ := outA_snoc hn o s
  by_cases e : o = p.obj ∧ s = p.sect
  · obtain ⟨rfl, rfl⟩ := e
    rw [has_put_same hD (keyS_lit _ _), atKey_put_same hD (keyS_lit _ _), e1, e2]
    simp
  · have hne : keyS o s ≠ keyS p.obj p.sect := fun hk => e (keyS_inj ho hs hp.1 hp.2.1 hk)
    rw [has_put_other hne, atKey_put_other hne, e1, e2, if_neg e, if_neg e]
    exact ht o s ho hs
theorem keyT_inj' {a b : List UInt8} (h : keyT a = keyT b) : a = b := by
  unfold keyT at h
  injection h
set_option maxRecDepth 100000 in
theorem YMap.put (h : YMap w base mb Y) {y : Named} (hy : y.Nums) (hyl : y.name.length ≤ maxLen) (hn : nameK Y y.name = none) (hl : Y.length ≤ 100000) : ∃ w', (Instr.mapUpdate 94 (.map (some mb)) (.string ⟨y.name.toArray⟩) (.int .u64 (y.addr : Int))).run Tryz.prog w = .ok () w' ∧ YMap w' base mb (Y ++ [y]) ∧ w.grownBy w' (some mb) := by
  obtain ⟨h0, n, D, hN, h, hD, ht⟩ := h
  obtain ⟨w', hrun, how, hg⟩ := h.update string_law Tryz.underlying94 (by unfold maxLen; omega) (key_text y.name hyl) (plainElem_int Tryz.underlying38 (wf_u64 hy))
  refine ⟨w', hrun, ⟨h0, n + 1, _, by simp; omega, how, hD.put _ _, fun t htl => ?_⟩, hg⟩
  obtain ⟨e1, e2⟩ := nameA_snoc hn t
  by_cases e : t = y.name
  · subst e
    rw [has_put_same hD (by unfold keyT; trivial), atKey_put_same hD (by unfold keyT; trivial), e1, e2]
    simp
  · have hne : keyT t ≠ keyT y.name := fun hk => e (keyT_inj' hk)
    rw [has_put_other hne, atKey_put_other hne, e1, e2, if_neg e, if_neg e]
    exact ht t htl
end

end Go.Proofs.YtejicboemkpeoaaGreatDoor
