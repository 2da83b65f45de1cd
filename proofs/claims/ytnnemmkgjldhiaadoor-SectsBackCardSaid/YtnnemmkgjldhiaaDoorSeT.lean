/-
  Package sects: the entries of a file (plain facts, and a row of entries that is filled).
-/

import Derived.Test.YtnnemmkgjldhiaaDoorSeM
import Derived.Test.YtnnemmkgjldhiaaDoorSeN
import Derived.Test.YtnnemmkgjldhiaaDoorCopyB
import Derived.Test.YtnnemmkgjldhiaaDoorSeS
import Derived.Test.YtnnemmkgjldhiaaDoorEhF
namespace Go.Proofs.YtnnemmkgjldhiaaDoor
open Go Go.RowKit

/-! ### What is put -/
/-- An entry's bytes. -/
def entB (ns : List Nat) : List UInt8 := itsB (ns.zip sizesN)
theorem entB_length (ns : List Nat) (h : ns.length = 10) : (entB ns).length = 64 := by
  match ns, h with
  | [a0, a1, a2, a3, a4, a5, a6, a7, a8, a9], _ => simp [entB, sizesN, itsB]
theorem layK_tens (ss : List Sect) (ps : List Nat) : ∀ k, ∀ e ∈ (layK ss ps k).2, e.length = 10
  | 0, e, he => by
    simp [layK] at he
    subst he
    rfl
  | k + 1, e, he => by
    rcases hs : ss[k + 1]? with _ | s
    · rw [layK, hs] at he
      exact layK_tens ss ps k e he
    · rcases hp : ps[k + 1]? with _ | p
      · rw [layK, hs, hp] at he
        exact layK_tens ss ps k e he
      · rw [layK_next hs hp] at he
        rcases List.mem_append.1 he with he | he
        · exact layK_tens ss ps k e he
        · rw [List.mem_singleton.1 he]
          rfl
def entsB (es : List (List Nat)) : List UInt8 := es.flatMap entB
theorem entsB_length (es : List (List Nat)) (h : ∀ e ∈ es, e.length = 10) : (entsB es).length = 64 * es.length := by
  induction es with
  | nil => rfl
  | cons e es ih =>
    have h1 := entB_length e (h e (by simp))
    have h2 := ih (fun x hx => h x (by simp [hx]))
    rw [show entsB (e :: es) = entB e ++ entsB es from rfl, List.length_append, h1, h2, List.length_cons]
    omega
theorem entsB_step {es : List (List Nat)} {k : Nat} {e : List Nat} (h : es[k]? = some e) : entsB (es.take (k + 1)) = entsB (es.take k) ++ entB e := by
  unfold entsB
  rw [List.take_add_one, h]
  simp
theorem headB_length (t m : Int) (o : Nat) (n s : Int) : (headB t m o n s).length = 64 := by
  simp [headB, magB, itsB, itsT]

/-- The bytes and entries of sections. -/
def laidS (l : List Sect) : List UInt8 × List (List Nat) :=
  let r := layK (tabled l (putsT (gat (l.map (·.name))).1)) (gat (l.map (·.name))).2 (l.length - 1)
  (padB r.1, r.2)
/-- A file. -/
def fileB (kind machine : Int) (l : List Sect) : List UInt8 :=
  headB kind machine (laidS l).1.length (l.length : Int) ((l.length - 1 : Nat) : Int) ++ ((laidS l).1 ++ entsB (laidS l).2).drop 64
/-- Whether a file is put. -/
def mayPut (kind machine : Int) (l : List Sect) : Bool := rightS l && (decide (kind = 1 ∨ kind = 2) && decide (machine = 62 ∨ machine = 183))
def putE (kind machine : Int) (l : List Sect) : Int := if mayPut kind machine l = true then 0 else 2
def putR (kind machine : Int) (l : List Sect) : List UInt8 := if mayPut kind machine l = true then fileB kind machine l else []

/-! ### copy onto the front -/
section
variable {P : Program}
theorem run_copy_front (w : World) (t ty : TypeId) (base : Nat) (i : TypeInfo) (ht : P.underlying t = some (.slice 5)) (hi : P.info? 5 = some i) (hs : i.size = 1)
    (v : Value) (l : List UInt8) (hown : Own w base v l) (A : Option Addr) (c B : Nat) (m : List UInt8) (hr : Rd w B A m) (hm : 0 < m.length) (hd : m.length ≤ l.length) :
    ∃ w', (Builtin.copy_ #[t, t] ty #[v, .slice A m.length c]).run P w = .ok (goInt m.length) w' ∧ Own w' base v (m ++ l.drop m.length) ∧ w.grownBy w' v.ownBlock := by
  rcases hown.2 with ⟨rfl, h0⟩ | ⟨g, cap, cur, rfl, hbg, hg, hnc, hcm, hcs, htake⟩
  · omega
  · obtain ⟨b, q, rfl, _, hc⟩ := hr hm
    have hrun := run_copy_row (P := P) w t t ty 5 g 0 l.length cap ⟨b, q, none⟩ m.length c cur 5 (u8s m) ht (by rw [hi]; simp [hs]) hg (by rw [u8s_length]; exact (Nat.min_eq_left hd).symm)
      (fun j v hv => by
        rw [u8s_get] at hv
        rcases hj : m[j]? with _ | x
        · rw [hj] at hv; cases hv
        · rw [hj] at hv
          rw [addr_add, hc j x hj]
          simpa using hv) (by rw [u8s_length]; omega) (u8s_one m)
    rw [u8s_length] at hrun
    have hw := setRow_heap w g cur (cur.toList.take 0 ++ u8s m ++ cur.toList.drop (0 + m.length)).toArray 5 (0, 0) hg
    have hown' : Own (w.setRow g (cur.toList.take 0 ++ u8s m ++ cur.toList.drop (0 + m.length)).toArray) base (.slice (some ⟨g, 0, none⟩) l.length cap) (m ++ l.drop m.length) := by
      have hll : (m ++ l.drop m.length).length = l.length := by simp; omega
      refine ⟨by simp, .inr ⟨g, cap, _, by rw [hll], hbg, hw, by rw [hll]; exact hnc, hcm, ?_, ?_⟩⟩
      · simp
        omega
      · rw [hll, Nat.mul_one]
        rw [Nat.mul_one] at htake
        apply List.ext_getElem?
        intro j
        by_cases hj : j < l.length
        · by_cases hjm : j < m.length
          · simp [hj, u8s, List.getElem?_append, hjm]
          · have e : cur.toList[j]? = (u8s l)[j]? := by rw [← htake, List.getElem?_take, if_pos hj]
            simp only [List.getElem?_take, hj, if_true, List.take_zero, List.nil_append, Nat.zero_add]
            rw [List.getElem?_append_right (by rw [u8s_length]; omega), u8s_length, List.getElem?_drop, show m.length + (j - m.length) = j by omega, e, u8s_append, List.getElem?_append_right (by rw [u8s_length]; omega), u8s_length]
            simp only [u8s, List.map_drop, List.getElem?_drop]
            rw [show m.length + (j - m.length) = j by omega]
        · rw [List.getElem?_eq_none (by simp; omega), List.getElem?_eq_none (by rw [u8s_length, hll]; omega)]
    exact ⟨_, hrun, hown', grown_setRow w g _⟩
end

/-! ### Entries in a row -/
theorem cellsE_at : ∀ (es : List (List Nat)), (∀ e ∈ es, e.length = 10) → ∀ (i : Nat) (e : List Nat) (j x : Nat), es[i]? = some e → e[j]? = some x → (cellsE es)[i * 10 + j]? = some (.int .u64 (x : Int))
  | [], _, _, _, _, _, h, _ => by simp at h
  | y :: es, hy, 0, e, j, x, h, hv => by
    simp at h
    subst h
    have hj : j < y.length := (List.getElem?_eq_some_iff.1 hv).1
    rw [show cellsE (y :: es) = entCs y ++ cellsE es from rfl, Nat.zero_mul, Nat.zero_add, List.getElem?_append_left (by simpa [entCs] using hj)]
    simp [entCs, hv]
  | y :: es, hy, i + 1, e, j, x, h, hv => by
    have ih := cellsE_at es (fun z hz => hy z (by simp [hz])) i e j x (by simpa using h) hv
    have h10 : (entCs y).length = 10 := by simp [entCs, hy y (by simp)]
    rw [show cellsE (y :: es) = entCs y ++ cellsE es from rfl, List.getElem?_append_right (by omega), h10, show (i + 1) * 10 + j - 10 = i * 10 + j by omega]
    exact ih

theorem owne_form {w : World} {base : Nat} {v : Value} {es : List (List Nat)} (h : OwnE w base v es) (h0 : 0 < es.length) : ∃ g c, v = .slice (some ⟨g, 0, none⟩) es.length c ∧ base ≤ g ∧ g < w.heap.size ∧ es.length ≤ c := by
  rcases h.2 with ⟨_, h1⟩ | ⟨g, cap, cur, rfl, hb, hg, hnc, _⟩
  · omega
  · refine ⟨g, cap, rfl, hb, ?_, hnc⟩
    rcases Nat.lt_or_ge g w.heap.size with h1 | h1
    · exact h1
    · rw [Array.getElem?_eq_none h1] at hg; cases hg

theorem owne_at {w : World} {base g c : Nat} {es : List (List Nat)} (h : OwnE w base (.slice (some ⟨g, 0, none⟩) es.length c) es) (ht : ∀ e ∈ es, e.length = 10) {k : Nat} {e : List Nat} (hk : es[k]? = some e) :
    ∃ a0 a1 a2 a3 a4 a5 a6 a7 a8 a9 : Nat, e = [a0, a1, a2, a3, a4, a5, a6, a7, a8, a9] ∧ w.cell? ⟨g, k * 10, none⟩ = some (.int .u64 (a0 : Int)) ∧ w.cell? ⟨g, k * 10 + 1, none⟩ = some (.int .u64 (a1 : Int)) ∧ w.cell? ⟨g, k * 10 + 2, none⟩ = some (.int .u64 (a2 : Int)) ∧
      w.cell? ⟨g, k * 10 + 3, none⟩ = some (.int .u64 (a3 : Int)) ∧ w.cell? ⟨g, k * 10 + 4, none⟩ = some (.int .u64 (a4 : Int)) ∧ w.cell? ⟨g, k * 10 + 5, none⟩ = some (.int .u64 (a5 : Int)) ∧ w.cell? ⟨g, k * 10 + 6, none⟩ = some (.int .u64 (a6 : Int)) ∧
      w.cell? ⟨g, k * 10 + 7, none⟩ = some (.int .u64 (a7 : Int)) ∧ w.cell? ⟨g, k * 10 + 8, none⟩ = some (.int .u64 (a8 : Int)) ∧ w.cell? ⟨g, k * 10 + 9, none⟩ = some (.int .u64 (a9 : Int)) := by
  have hkl := (List.getElem?_eq_some_iff.1 hk).1
  have hc : ∀ (j x : Nat), e[j]? = some x → w.cell? ⟨g, k * 10 + j, none⟩ = some (.int .u64 (x : Int)) := fun j x hx => by
    have hj : j < 10 := by rw [← ht e (List.mem_of_getElem? hk)]; exact (List.getElem?_eq_some_iff.1 hx).1
    rw [World.ownsRow.cellAt (g := g) (cap := c) h (k * 10 + j) (by omega)]
    exact cellsE_at es ht k e j x hk hx
  match e, ht e (List.mem_of_getElem? hk), hc with
  | [a0, a1, a2, a3, a4, a5, a6, a7, a8, a9], _, hc => exact ⟨a0, a1, a2, a3, a4, a5, a6, a7, a8, a9, rfl, hc 0 _ rfl, hc 1 _ rfl, hc 2 _ rfl, hc 3 _ rfl, hc 4 _ rfl, hc 5 _ rfl, hc 6 _ rfl, hc 7 _ rfl, hc 8 _ rfl, hc 9 _ rfl⟩

end Go.Proofs.YtnnemmkgjldhiaaDoor

namespace Go.Proofs.YtnnemmkgjldhiaaDoor
open Go Go.RowKit

def offsN : List Nat := [0, 4, 8, 16, 24, 32, 40, 44, 48, 56]
/-- The numbers of an entry that stands at a place. -/
def entN (l : List UInt8) (o : Nat) : List Nat := (offsN.zip sizesN).map fun p => numT l (o + p.1) p.2
theorem entN_length (l : List UInt8) (o : Nat) : (entN l o).length = 10 := rfl
theorem entN_at (l : List UInt8) (o j f s : Nat) (hf : offsN[j]? = some f) (hs : sizesN[j]? = some s) : (entN l o)[j]? = some (numT l (o + f) s) := by
  have : (offsN.zip sizesN)[j]? = some (f, s) := by rw [List.getElem?_zip_eq_some]; exact ⟨hf, hs⟩
  simp [entN, this]
theorem offs_next {j f s : Nat} (hf : offsN[j]? = some f) (hs : sizesN[j]? = some s) : (j < 9 → offsN[j + 1]? = some (f + s)) ∧ (j = 9 → f + s = 64) ∧ f + s ≤ 64 ∧ s ≤ 8 := by
  have hj : j < 10 := (List.getElem?_eq_some_iff.1 hf).1
  have h10 : j = 0 ∨ j = 1 ∨ j = 2 ∨ j = 3 ∨ j = 4 ∨ j = 5 ∨ j = 6 ∨ j = 7 ∨ j = 8 ∨ j = 9 := by omega
  rcases h10 with rfl | rfl | rfl | rfl | rfl | rfl | rfl | rfl | rfl | rfl <;> (injection hf with hf; injection hs with hs; subst hf hs; exact ⟨fun h => by first | rfl | omega, fun h => by first | rfl | omega, by decide, by decide⟩)
theorem numT_lt (l : List UInt8) (f s : Nat) (hs : s ≤ 8) : numT l f s < two64 := by
  have h := leNat_lt (cutT l f s)
  have h2 : (cutT l f s).length ≤ 8 := by simp [cutT]; omega
  have h3 : (256 : Nat) ^ (cutT l f s).length ≤ 256 ^ 8 := Nat.pow_le_pow_right (by decide) h2
  have h4 : (256 : Nat) ^ 8 = 18446744073709551616 := rfl
  unfold numT two64
  omega
theorem entN_lt (l : List UInt8) (o : Nat) : ∀ x ∈ entN l o, x < two64 := by
  intro x hx
  obtain ⟨p, hp, rfl⟩ := List.mem_map.1 hx
  have : p.2 ∈ sizesN := (List.of_mem_zip hp).2
  have hall : ∀ s ∈ sizesN, s ≤ 8 := by decide
  exact numT_lt _ _ _ (hall _ this)
/-- In a part of the bytes, and in all of them. -/
theorem numT_cut (l : List UInt8) (off nb f s : Nat) (h : f + s ≤ nb) : numT ((l.drop off).take nb) f s = numT l (off + f) s := by
  unfold numT cutT
  rw [List.drop_take, List.drop_drop, List.take_take, Nat.min_eq_left (by omega)]

/-- The first refusal among the first k entries. -/
def errUp (l : List UInt8) (off : Nat) : Nat → Int
  | 0 => 0
  | k + 1 => if errUp l off k ≠ 0 then errUp l off k else entE (entN l (off + 64 * k)) l.length
theorem errUp_stays {l : List UInt8} {off k : Nat} (h : errUp l off k ≠ 0) : ∀ n, k ≤ n → errUp l off n = errUp l off k := by
  intro n hn
  induction n with
  | zero => rw [show k = 0 by omega]
  | succ n ih =>
    rcases Nat.eq_or_lt_of_le hn with rfl | h1
    · rfl
    · have := ih (by omega)
      rw [errUp, if_pos (by rw [this]; exact h), this]
theorem errUp_ok {l : List UInt8} {off : Nat} : ∀ {n : Nat}, errUp l off n = 0 → ∀ k, k < n → entE (entN l (off + 64 * k)) l.length = 0
  | 0, _, k, hk => by omega
  | n + 1, h, k, hk => by
    by_cases h0 : errUp l off n ≠ 0
    · rw [errUp, if_pos h0] at h; exact absurd h h0
    · rw [errUp, if_neg h0] at h
      rcases Nat.lt_or_ge k n with h1 | h1
      · exact errUp_ok (by simpa using h0) k h1
      · rw [show k = n by omega]; exact h

/-- All entries. -/
def entsT (l : List UInt8) (off n : Nat) : List (List Nat) := (List.range n).map fun i => entN l (off + 64 * i)
theorem entsT_get (l : List UInt8) (off n i : Nat) (h : i < n) : (entsT l off n)[i]? = some (entN l (off + 64 * i)) := by simp [entsT, h]
theorem entsT_tens (l : List UInt8) (off n : Nat) : ∀ e ∈ entsT l off n, e.length = 10 := by
  intro e he
  obtain ⟨i, _, rfl⟩ := List.mem_map.1 he
  exact entN_length _ _
theorem entsT_length (l : List UInt8) (off n : Nat) : (entsT l off n).length = n := by simp [entsT]

/-- How far a row of entries is filled. -/
def Known (l : List UInt8) (off : Nat) (X : List Value) (k J : Nat) : Prop := ∀ (i j x : Nat), (i < k ∨ i = k ∧ j < J) → j < 10 → (entN l (off + 64 * i))[j]? = some x → X[i * 10 + j]? = some (.int .u64 (x : Int))
theorem known_next {l : List UInt8} {off k J x : Nat} {X : List Value} (h : Known l off X k J) (hx : (entN l (off + 64 * k))[J]? = some x) (hl : k * 10 + J < X.length) (hJ : J < 10) : Known l off (X.set (k * 10 + J) (.int .u64 (x : Int))) k (J + 1) := fun i j y hi hj hy => by
  by_cases he : i = k ∧ j = J
  · obtain ⟨rfl, rfl⟩ := he
    rw [hx] at hy
    injection hy with hy
    subst hy
    exact List.getElem?_set_self hl
  · rw [List.getElem?_set_ne (by omega)]
    exact h i j y (by omega) hj hy
theorem known_row {l : List UInt8} {off k : Nat} {X : List Value} (h : Known l off X k 10) : Known l off X (k + 1) 0 := fun i j y hi hj hy => h i j y (by omega) hj hy
theorem known_all {l : List UInt8} {off n : Nat} {X : List Value} (h : Known l off X n 0) (hl : X.length = n * 10) : X = cellsE (entsT l off n) := by
  have hcl : (cellsE (entsT l off n)).length = n * 10 := by
    have : ∀ es : List (List Nat), (∀ e ∈ es, e.length = 10) → (cellsE es).length = es.length * 10 := by
      intro es
      induction es with
      | nil => intro _; rfl
      | cons e es ih =>
        intro he
        rw [show cellsE (e :: es) = entCs e ++ cellsE es from rfl, List.length_append, ih (fun x hx => he x (by simp [hx])), List.length_cons]
        have : (entCs e).length = 10 := by simp [entCs, he e (by simp)]
        omega
    rw [this _ (entsT_tens _ _ _), entsT_length]
  apply List.ext_getElem?
  intro q
  by_cases hq : q < n * 10
  · have hi : q / 10 < n := by omega
    have hx : (entN l (off + 64 * (q / 10)))[q % 10]? = some ((entN l (off + 64 * (q / 10)))[q % 10]'(by rw [entN_length]; omega)) := List.getElem?_eq_getElem _
    have h1 := h _ _ _ (.inl hi) (by omega) hx
    have h2 := cellsE_at _ (entsT_tens l off n) _ _ _ _ (entsT_get l off n _ hi) hx
    rw [show q / 10 * 10 + q % 10 = q by omega] at h1 h2
    rw [h1, h2]
  · rw [List.getElem?_eq_none (by omega), List.getElem?_eq_none (by omega)]

end Go.Proofs.YtnnemmkgjldhiaaDoor
