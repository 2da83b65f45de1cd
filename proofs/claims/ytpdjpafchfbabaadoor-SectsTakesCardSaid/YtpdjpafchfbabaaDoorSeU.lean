/-
  Package sects: read.
-/

import Derived.Test.YtpdjpafchfbabaaDoorSeM
import Derived.Test.YtpdjpafchfbabaaDoorSeN
import Derived.Test.YtpdjpafchfbabaaDoorCopyB
import Derived.Test.YtpdjpafchfbabaaDoorSeS
import Derived.Test.YtpdjpafchfbabaaDoorEhF
import Derived.Test.YtpdjpafchfbabaaDoorRefR
import Derived.Test.YtpdjpafchfbabaaDoorPoX
import Derived.Test.YtpdjpafchfbabaaDoorPut
namespace Go.Proofs.YtpdjpafchfbabaaDoor
open Go Go.RowKit

/-! ### What is put -/
/-- An entry's bytes. -/
def entB (ns : List Nat) : List UInt8 := itsB (ns.zip sizesN)
theorem entB_length (ns : List Nat) (h : ns.length = 10) : (entB ns).length = 64 := by
  match ns, h with
  | [a0, a1, a2, a3, a4, a5, a6, a7, a8, a9], _ => simp [entB, sizesN, itsB]
theorem layK_tens (ss : List Sect) (ps : List Nat) : ∀ k, ∀ e ∈ (layK ss ps k).2, e.length = 10
  | 0, e, he => by
    simp [layK] at he
    subst he
    rfl
  | k + 1, e, he => by
    rcases hs : ss[k + 1]? with _ | s
    · rw [layK, hs] at he
      exact layK_tens ss ps k e he
    · rcases hp : ps[k + 1]? with _ | p
      · rw [layK, hs, hp] at he
        exact layK_tens ss ps k e he
      · rw [layK_next hs hp] at he
        rcases List.mem_append.1 he with he | he
        · exact layK_tens ss ps k e he
        · rw [List.mem_singleton.1 he]
          rfl
def entsB (es : List (List Nat)) : List UInt8 := es.flatMap entB
theorem entsB_length (es : List (List Nat)) (h : ∀ e ∈ es, e.length = 10) : (entsB es).length = 64 * es.length := by
  induction es with
  | nil => rfl
  | cons e es ih =>
    have h1 := entB_length e (h e (by simp))
    have h2 := ih (fun x hx => h x (by simp [hx]))
    rw [show entsB (e :: es) = entB e ++ entsB es from rfl, List.length_append, h1, h2, List.length_cons]
    omega
theorem entsB_step {es : List (List Nat)} {k : Nat} {e : List Nat} (h : es[k]? = some e) : entsB (es.take (k + 1)) = entsB (es.take k) ++ entB e := by
  unfold entsB
  rw [List.take_add_one, h]
  simp
theorem headB_length (t m : Int) (o : Nat) (n s : Int) : (headB t m o n s).length = 64 := by
  simp [headB, magB, itsB, itsT]

/-- The bytes and entries of sections. -/
def laidS (l : List Sect) : List UInt8 × List (List Nat) :=
  let r := layK (tabled l (putsT (gat (l.map (·.name))).1)) (gat (l.map (·.name))).2 (l.length - 1)
  (padB r.1, r.2)
/-- A file. -/
def fileB (kind machine : Int) (l : List Sect) : List UInt8 :=
  headB kind machine (laidS l).1.length (l.length : Int) ((l.length - 1 : Nat) : Int) ++ ((laidS l).1 ++ entsB (laidS l).2).drop 64
/-- Whether a file is put. -/
def mayPut (kind machine : Int) (l : List Sect) : Bool := rightS l && (decide (kind = 1 ∨ kind = 2) && decide (machine = 62 ∨ machine = 183))
def putE (kind machine : Int) (l : List Sect) : Int := if mayPut kind machine l = true then 0 else 2
def putR (kind machine : Int) (l : List Sect) : List UInt8 := if mayPut kind machine l = true then fileB kind machine l else []

/-! ### copy onto the front -/
section
variable {P : Program}
theorem run_copy_front (w : World) (t ty : TypeId) (base : Nat) (i : TypeInfo) (ht : P.underlying t = some (.slice 5)) (hi : P.info? 5 = some i) (hs : i.size = 1)
    (v : Value) (l : List UInt8) (hown : Own w base v l) (A : Option Addr) (c B : Nat) (m : List UInt8) (hr : Rd w B A m) (hm : 0 < m.length) (hd : m.length ≤ l.length) :
    ∃ w', (Builtin.copy_ #[t, t] ty #[v, .slice A m.length c]).run P w = .ok (goInt m.length) w' ∧ Own w' base v (m ++ l.drop m.length) ∧ w.grownBy w' v.ownBlock := by
  rcases hown.2 with ⟨rfl, h0⟩ | ⟨g, cap, cur, rfl, hbg, hg, hnc, hcm, hcs, htake⟩
  · omega
  · obtain ⟨b, q, rfl, _, hc⟩ := hr hm
    have hrun := run_copy_row (P := P) w t t ty 5 g 0 l.length cap ⟨b, q, none⟩ m.length c cur 5 (u8s m) ht (by rw [hi]; simp [hs]) hg (by rw [u8s_length]; exact (Nat.min_eq_left hd).symm)
      (fun j v hv => by
        rw [u8s_get] at hv
        rcases hj : m[j]? with _ | x
        · rw [hj] at hv; cases hv
        · rw [hj] at hv
          rw [addr_add, hc j x hj]
          simpa using hv) (by rw [u8s_length]; omega) (u8s_one m)
    rw [u8s_length] at hrun
    have hw := setRow_heap w g cur (cur.toList.take 0 ++ u8s m ++ cur.toList.drop (0 + m.length)).toArray 5 (0, 0) hg
    have hown' : Own (w.setRow g (cur.toList.take 0 ++ u8s m ++ cur.toList.drop (0 + m.length)).toArray) base (.slice (some ⟨g, 0, none⟩) l.length cap) (m ++ l.drop m.length) := by
      have hll : (m ++ l.drop m.length).length = l.length := by simp; omega
      refine ⟨by simp, .inr ⟨g, cap, _, by rw [hll], hbg, hw, by rw [hll]; exact hnc, hcm, ?_, ?_⟩⟩
      · simp
        omega
      · rw [hll, Nat.mul_one]
        rw [Nat.mul_one] at htake
        apply List.ext_getElem?
        intro j
        by_cases hj : j < l.length
        · by_cases hjm : j < m.length
          · simp [hj, u8s, List.getElem?_append, hjm]
          · have e : cur.toList[j]? = (u8s l)[j]? := by rw [← htake, List.getElem?_take, if_pos hj]
            simp only [List.getElem?_take, hj, if_true, List.take_zero, List.nil_append, Nat.zero_add]
            rw [List.getElem?_append_right (by rw [u8s_length]; omega), u8s_length, List.getElem?_drop, show m.length + (j - m.length) = j by omega, e, u8s_append, List.getElem?_append_right (by rw [u8s_length]; omega), u8s_length]
            simp only [u8s, List.map_drop, List.getElem?_drop]
            rw [show m.length + (j - m.length) = j by omega]
        · rw [List.getElem?_eq_none (by simp; omega), List.getElem?_eq_none (by rw [u8s_length, hll]; omega)]
    exact ⟨_, hrun, hown', grown_setRow w g _⟩
end

/-! ### Entries in a row -/
theorem cellsE_at : ∀ (es : List (List Nat)), (∀ e ∈ es, e.length = 10) → ∀ (i : Nat) (e : List Nat) (j x : Nat), es[i]? = some e → e[j]? = some x → (cellsE es)[i * 10 + j]? = some (.int .u64 (x : Int))
  | [], _, _, _, _, _, h, _ => by simp at h
  | y :: es, hy, 0, e, j, x, h, hv => by
    simp at h
    subst h
    have hj : j < y.length := (List.getElem?_eq_some_iff.1 hv).1
    rw [show cellsE (y :: es) = entCs y ++ cellsE es from rfl, Nat.zero_mul, Nat.zero_add, List.getElem?_append_left (by simpa [entCs] using hj)]
    simp [entCs, hv]
  | y :: es, hy, i + 1, e, j, x, h, hv => by
    have ih := cellsE_at es (fun z hz => hy z (by simp [hz])) i e j x (by simpa using h) hv
    have h10 : (entCs y).length = 10 := by simp [entCs, hy y (by simp)]
    rw [show cellsE (y :: es) = entCs y ++ cellsE es from rfl, List.getElem?_append_right (by omega), h10, show (i + 1) * 10 + j - 10 = i * 10 + j by omega]
    exact ih

theorem owne_form {w : World} {base : Nat} {v : Value} {es : List (List Nat)} (h : OwnE w base v es) (h0 : 0 < es.length) : ∃ g c, v = .slice (some ⟨g, 0, none⟩) es.length c ∧ base ≤ g ∧ g < w.heap.size ∧ es.length ≤ c := by
  rcases h.2 with ⟨_, h1⟩ | ⟨g, cap, cur, rfl, hb, hg, hnc, _⟩
  · omega
  · refine ⟨g, cap, rfl, hb, ?_, hnc⟩
    rcases Nat.lt_or_ge g w.heap.size with h1 | h1
    · exact h1
    · rw [Array.getElem?_eq_none h1] at hg; cases hg

theorem owne_at {w : World} {base g c : Nat} {es : List (List Nat)} (h : OwnE w base (.slice (some ⟨g, 0, none⟩) es.length c) es) (ht : ∀ e ∈ es, e.length = 10) {k : Nat} {e : List Nat} (hk : es[k]? = some e) :
    ∃ a0 a1 a2 a3 a4 a5 a6 a7 a8 a9 : Nat, e = [a0, a1, a2, a3, a4, a5, a6, a7, a8, a9] ∧ w.cell? ⟨g, k * 10, none⟩ = some (.int .u64 (a0 : Int)) ∧ w.cell? ⟨g, k * 10 + 1, none⟩ = some (.int .u64 (a1 : Int)) ∧ w.cell? ⟨g, k * 10 + 2, none⟩ = some (.int .u64 (a2 : Int)) ∧
      w.cell? ⟨g, k * 10 + 3, none⟩ = some (.int .u64 (a3 : Int)) ∧ w.cell? ⟨g, k * 10 + 4, none⟩ = some (.int .u64 (a4 : Int)) ∧ w.cell? ⟨g, k * 10 + 5, none⟩ = some (.int .u64 (a5 : Int)) ∧ w.cell? ⟨g, k * 10 + 6, none⟩ = some (.int .u64 (a6 : Int)) ∧
      w.cell? ⟨g, k * 10 + 7, none⟩ = some (.int .u64 (a7 : Int)) ∧ w.cell? ⟨g, k * 10 + 8, none⟩ = some (.int .u64 (a8 : Int)) ∧ w.cell? ⟨g, k * 10 + 9, none⟩ = some (.int .u64 (a9 : Int)) := by
  have hkl := (List.getElem?_eq_some_iff.1 hk).1
  have hc : ∀ (j x : Nat), e[j]? = some x → w.cell? ⟨g, k * 10 + j, none⟩ = some (.int .u64 (x : Int)) := fun j x hx => by
    have hj : j < 10 := by rw [← ht e (List.mem_of_getElem? hk)]; exact (List.getElem?_eq_some_iff.1 hx).1
    rw [World.ownsRow.cellAt (g := g) (cap := c) h (k * 10 + j) (by omega)]
    exact cellsE_at es ht k e j x hk hx
  match e, ht e (List.mem_of_getElem? hk), hc with
  | [a0, a1, a2, a3, a4, a5, a6, a7, a8, a9], _, hc => exact ⟨a0, a1, a2, a3, a4, a5, a6, a7, a8, a9, rfl, hc 0 _ rfl, hc 1 _ rfl, hc 2 _ rfl, hc 3 _ rfl, hc 4 _ rfl, hc 5 _ rfl, hc 6 _ rfl, hc 7 _ rfl, hc 8 _ rfl, hc 9 _ rfl⟩

end Go.Proofs.YtpdjpafchfbabaaDoor

namespace Go.Proofs.YtpdjpafchfbabaaDoor
open Go Go.RowKit

def offsN : List Nat := [0, 4, 8, 16, 24, 32, 40, 44, 48, 56]
/-- The numbers of an entry that stands at a place. -/
def entN (l : List UInt8) (o : Nat) : List Nat := (offsN.zip sizesN).map fun p => numT l (o + p.1) p.2
theorem entN_length (l : List UInt8) (o : Nat) : (entN l o).length = 10 := rfl
theorem entN_at (l : List UInt8) (o j f s : Nat) (hf : offsN[j]? = some f) (hs : sizesN[j]? = some s) : (entN l o)[j]? = some (numT l (o + f) s) := by
  have : (offsN.zip sizesN)[j]? = some (f, s) := by rw [List.getElem?_zip_eq_some]; exact ⟨hf, hs⟩
  simp [entN, this]
theorem offs_next {j f s : Nat} (hf : offsN[j]? = some f) (hs : sizesN[j]? = some s) : (j < 9 → offsN[j + 1]? = some (f + s)) ∧ (j = 9 → f + s = 64) ∧ f + s ≤ 64 ∧ s ≤ 8 := by
  have hj : j < 10 := (List.getElem?_eq_some_iff.1 hf).1
  have h10 : j = 0 ∨ j = 1 ∨ j = 2 ∨ j = 3 ∨ j = 4 ∨ j = 5 ∨ j = 6 ∨ j = 7 ∨ j = 8 ∨ j = 9 := by omega
  rcases h10 with rfl | rfl | rfl | rfl | rfl | rfl | rfl | rfl | rfl | rfl <;> (injection hf with hf; injection hs with hs; subst hf hs; exact ⟨fun h => by first | rfl | omega, fun h => by first | rfl | omega, by decide, by decide⟩)
theorem numT_lt (l : List UInt8) (f s : Nat) (hs : s ≤ 8) : numT l f s < two64 := by
  have h := leNat_lt (cutT l f s)
  have h2 : (cutT l f s).length ≤ 8 := by simp [cutT]; omega
  have h3 : (256 : Nat) ^ (cutT l f s).length ≤ 256 ^ 8 := Nat.pow_le_pow_right (by decide) h2
  have h4 : (256 : Nat) ^ 8 = 18446744073709551616 := rfl
  unfold numT two64
  omega
theorem entN_lt (l : List UInt8) (o : Nat) : ∀ x ∈ entN l o, x < two64 := by
  intro x hx
  obtain ⟨p, hp, rfl⟩ := List.mem_map.1 hx
  have : p.2 ∈ sizesN := (List.of_mem_zip hp).2
  have hall : ∀ s ∈ sizesN, s ≤ 8 := by decide
  exact numT_lt _ _ _ (hall _ this)
/-- In a part of the bytes, and in all of them. -/
theorem numT_cut (l : List UInt8) (off nb f s : Nat) (h : f + s ≤ nb) : numT ((l.drop off).take nb) f s = numT l (off + f) s := by
  unfold numT cutT
  rw [List.drop_take, List.drop_drop, List.take_take, Nat.min_eq_left (by omega)]

/-- The first refusal among the first k entries. -/
def errUp (l : List UInt8) (off : Nat) : Nat → Int
  | 0 => 0
  | k + 1 => if errUp l off k ≠ 0 then errUp l off k else entE (entN l (off + 64 * k)) l.length
theorem errUp_stays {l : List UInt8} {off k : Nat} (h : errUp l off k ≠ 0) : ∀ n, k ≤ n → errUp l off n = errUp l off k := by
  intro n hn
  induction n with
  | zero => rw [show k = 0 by omega]
  | succ n ih =>
    rcases Nat.eq_or_lt_of_le hn with rfl | h1
    · rfl
    · have := ih (by omega)
      rw [errUp, if_pos (by rw [this]; exact h), this]
theorem errUp_ok {l : List UInt8} {off : Nat} : ∀ {n : Nat}, errUp l off n = 0 → ∀ k, k < n → entE (entN l (off + 64 * k)) l.length = 0
  | 0, _, k, hk => by omega
  | n + 1, h, k, hk => by
    by_cases h0 : errUp l off n ≠ 0
    · rw [errUp, if_pos h0] at h; exact absurd h h0
    · rw [errUp, if_neg h0] at h
      rcases Nat.lt_or_ge k n with h1 | h1
      · exact errUp_ok (by simpa using h0) k h1
      · rw [show k = n by omega]; exact h

/-- All entries. -/
def entsT (l : List UInt8) (off n : Nat) : List (List Nat) := (List.range n).map fun i => entN l (off + 64 * i)
theorem entsT_get (l : List UInt8) (off n i : Nat) (h : i < n) : (entsT l off n)[i]? = some (entN l (off + 64 * i)) := by simp [entsT, h]
theorem entsT_tens (l : List UInt8) (off n : Nat) : ∀ e ∈ entsT l off n, e.length = 10 := by
  intro e he
  obtain ⟨i, _, rfl⟩ := List.mem_map.1 he
  exact entN_length _ _
theorem entsT_length (l : List UInt8) (off n : Nat) : (entsT l off n).length = n := by simp [entsT]

/-- How far a row of entries is filled. -/
def Known (l : List UInt8) (off : Nat) (X : List Value) (k J : Nat) : Prop := ∀ (i j x : Nat), (i < k ∨ i = k ∧ j < J) → j < 10 → (entN l (off + 64 * i))[j]? = some x → X[i * 10 + j]? = some (.int .u64 (x : Int))
theorem known_next {l : List UInt8} {off k J x : Nat} {X : List Value} (h : Known l off X k J) (hx : (entN l (off + 64 * k))[J]? = some x) (hl : k * 10 + J < X.length) (hJ : J < 10) : Known l off (X.set (k * 10 + J) (.int .u64 (x : Int))) k (J + 1) := fun i j y hi hj hy => by
  by_cases he : i = k ∧ j = J
  · obtain ⟨rfl, rfl⟩ := he
    rw [hx] at hy
    injection hy with hy
    subst hy
    exact List.getElem?_set_self hl
  · rw [List.getElem?_set_ne (by omega)]
    exact h i j y (by omega) hj hy
theorem known_row {l : List UInt8} {off k : Nat} {X : List Value} (h : Known l off X k 10) : Known l off X (k + 1) 0 := fun i j y hi hj hy => h i j y (by omega) hj hy
theorem known_all {l : List UInt8} {off n : Nat} {X : List Value} (h : Known l off X n 0) (hl : X.length = n * 10) : X = cellsE (entsT l off n) := by
  have hcl : (cellsE (entsT l off n)).length = n * 10 := by
    have : ∀ es : List (List Nat), (∀ e ∈ es, e.length = 10) → (cellsE es).length = es.length * 10 := by
      intro es
      induction es with
      | nil => intro _; rfl
      | cons e es ih =>
        intro he
        rw [show cellsE (e :: es) = entCs e ++ cellsE es from rfl, List.length_append, ih (fun x hx => he x (by simp [hx])), List.length_cons]
        have : (entCs e).length = 10 := by simp [entCs, he e (by simp)]
        omega
    rw [this _ (entsT_tens _ _ _), entsT_length]
  apply List.ext_getElem?
  intro q
  by_cases hq : q < n * 10
  · have hi : q / 10 < n := by omega
    have hx : (entN l (off + 64 * (q / 10)))[q % 10]? = some ((entN l (off + 64 * (q / 10)))[q % 10]'(by rw [entN_length]; omega)) := List.getElem?_eq_getElem _
    have h1 := h _ _ _ (.inl hi) (by omega) hx
    have h2 := cellsE_at _ (entsT_tens l off n) _ _ _ _ (entsT_get l off n _ hi) hx
    rw [show q / 10 * 10 + q % 10 = q by omega] at h1 h2
    rw [h1, h2]
  · rw [List.getElem?_eq_none (by omega), List.getElem?_eq_none (by omega)]

end Go.Proofs.YtpdjpafchfbabaaDoor

namespace Go.Proofs.YtpdjpafchfbabaaDoor
open Go Go.RowKit

theorem ownu_block {w : World} {base : Nat} {u : Value} {l : List Nat} (h : OwnU w base u l) : ∀ x, u.ownBlock = some x → base ≤ x ∧ x < w.heap.size := by
  intro x hx
  rcases h.2 with ⟨rfl, _⟩ | ⟨g, cap, cur, rfl, hb, hg, _⟩
  · simp [Value.ownBlock] at hx
  · have e : g = x := by simpa [Value.ownBlock] using hx
    subst e
    refine ⟨hb, ?_⟩
    rcases Nat.lt_or_ge g w.heap.size with h1 | h1
    · exact h1
    · rw [Array.getElem?_eq_none h1] at hg; cases hg

theorem block_not {u : Value} {n g : Nat} (h : ∀ y, u.ownBlock = some y → n ≤ y) (hg : g < n) : u.ownBlock = none ∨ u.ownBlock ≠ some g := by
  rcases hu : u.ownBlock with _ | y
  · exact .inl rfl
  · refine .inr fun e => ?_
    have h1 := h y hu
    injection e with e
    omega

/-- What goes along in the rounds of entry. -/
structure EntSt (B : Nat) (w wr : World) (g : Nat) (v u : Value) (l : List UInt8) (a j : Nat) : Prop where
  own : OwnU wr w.heap.size u ((entN l a).take j)
  at_ : ∃ p, (j < 10 → offsN[j]? = some p) ∧ (j = 10 → p = 64) ∧ RR B wr g v l (a + p) 0
  grown : w.grownBy wr (some g)
  row : Box wr w.heap.size 3 (sizesN.map fun q : Nat => Value.int .i64 (q : Int)).toArray

set_option maxRecDepth 10000 in
set_option maxHeartbeats 1600000 in
theorem rentry_any {B : Nat} {w : World} {g : Nat} {v : Value} {l : List UInt8} {a : Nat} (h : RR B w g v l a 0) (hlen : l.length ≤ 140737488355328) (hin : a + 64 ≤ l.length) :
    Calls Tryd.prog 21 #[.pointer (some ⟨g, 0, none⟩)] w fun r w' => ∃ u, r = .returned u ∧ OwnU w' w.heap.size u (entN l a) ∧ RR B w' g v l (a + 64) 0 ∧ w.grownBy w' (some g) := by
  obtain ⟨i0, hi, hz0, hz1, hz2⟩ := info_parts u64_info
  have hg := h.1.lt
  have hBg := h.2.2.2
  have hb0 : Below w.heap.size w (w.alloc (.cells #[.int .i64 4, .int .i64 4, .int .i64 8, .int .i64 8, .int .i64 8, .int .i64 8, .int .i64 4, .int .i64 4, .int .i64 8, .int .i64 8] 3)) := (Below.refl _ _).alloc (Nat.le_refl _) _
  have HS := Lib.hid (show EntSt B w (w.alloc (.cells #[.int .i64 4, .int .i64 4, .int .i64 8, .int .i64 8, .int .i64 8, .int .i64 8, .int .i64 4, .int .i64 4, .int .i64 8, .int .i64 8] 3)) g v (.slice none 0 0) l a 0 from
    ⟨World.ownsRow_nil _ _ _ _, ⟨0, fun _ => rfl, (fun h => by cases h), h.below hb0⟩, only_below hb0 (some g), Box.new w 3 #[.int .i64 4, .int .i64 4, .int .i64 8, .int .i64 8, .int .i64 8, .int .i64 8, .int .i64 4, .int .i64 4, .int .i64 8, .int .i64 8]⟩)
  have HIN := Lib.hid hin
  have HLN := Lib.hid hlen
  clear h hb0 hin hlen
  go_enter Tryd.func21, Tryd.ntmps21
  go_wp2_with fail
  generalize w.alloc (.cells #[.int .i64 4, .int .i64 4, .int .i64 8, .int .i64 8, .int .i64 8, .int .i64 8, .int .i64 4, .int .i64 4, .int .i64 8, .int .i64 8] 3) = w1 at *
  go_loopw [4, 5] (fun u i wr => ∃ j : Nat, j ≤ 10 ∧ i = .int .i64 j ∧ EntSt B w wr g v u l a j) (fun _ i _ => 10 - (intOf i).toNat)
  case atStart => exact ⟨0, Nat.zero_le _, rfl, HS.out⟩
  case round =>
    obtain ⟨j, hj, rfl, hSt⟩ := hrel
    clear HS
    by_cases hlt : j < 10
    · obtain ⟨⟨p, hp, _, hR⟩, hG, hO, hX⟩ := (⟨hSt.at_, hSt.grown, hSt.own, hSt.row⟩ : _ ∧ _ ∧ _ ∧ _)
      obtain ⟨q, hq⟩ : ∃ q, sizesN[j]? = some q := ⟨sizesN[j]'hlt, List.getElem?_eq_getElem _⟩
      obtain ⟨n1, n2, n3, n4⟩ := offs_next (hp hlt) hq
      have hclamp : clampOf (q : Int) = q := by unfold clampOf; omega
      have HU := Lib.hid (quint_ok hR (q : Int) (by omega) HLN.out (by rw [hclamp]; have := HIN.out; omega))
      rw [hclamp] at HU
      have hent := entN_at l a j p q (hp hlt) hq
      have c0 : wr.cell? ⟨w.heap.size, j, none⟩ = some (.int .i64 (q : Int)) := by rw [hX.cell]; simp [hq]
      obtain ⟨x, hx⟩ : ∃ x, leNat ((l.drop (a + p)).take q) = x := ⟨_, rfl⟩
      rw [hx] at HU
      have hent' : (entN l a)[j]? = some x := by rw [hent, ← hx]; rfl
      have htk : (entN l a).take (j + 1) = (entN l a).take j ++ [x] := by rw [List.take_add_one, hent']; rfl
      have hul : ((entN l a).take j).length = j := by rw [List.length_take, entN_length]; omega
      have HTK := Lib.hid htk
      have HUL := Lib.hid hul
      have HG := Lib.hid hG
      have HO := Lib.hid (show OwnU wr w.heap.size u4 ((entN l a).take j) from hO)
      have HX := Lib.hid hX
      have HN := Lib.hid (show (j + 1 < 10 → offsN[j + 1]? = some (p + q)) ∧ (j + 1 = 10 → p + q = 64) from ⟨fun h => n1 (by omega), fun h => n2 (by omega)⟩)
      have H63 := Lib.hid (show j + 1 ≤ maxLen by unfold maxLen; omega)
      have HBY := Lib.hid (show (j + 1) * 8 ≤ 140737488355328 by omega)
      have HHS := Lib.hid hG.size
      clear hSt hp hR hG hO hX hq n1 n2 n3 n4 hclamp hent hx hent' htk hul
      generalize (entN l a).take j = us at *
      go_wp2_with (first
        | (go_at_call 52; refine HU.out.mono ?_; rintro r w2 ⟨rfl, hR2, hG2⟩; have HR2 := Lib.hid hR2; have HG2 := Lib.hid hG2; have HO2 := Lib.hid (World.ownsRow.kept (w := wr) HO.out hG2 (block_not (fun y hy => (ownu_block HO.out y hy).1) hg)); rw [HUL.out] at HO2; have HZ2 := Lib.hid hG2.size; clear hR2 hG2 HU)
        | (at_builtin; refine wpList_append_own_at _ (by rfl) (.tmp 11) (.tmp 18) _ (by rfl) w.heap.size 24 i0 (.int .u64 0) 1 8 Tryd.underlying59 hi hz0 hz1 hz2 rfl (by decide) u4 j (placeV us) (by rfl) (HO2.out.alloc _) ⟨w2.heap.size, 0, none⟩ 1 1 [.int .u64 (x : Int)] (by rfl) rfl (cell_one_new _ _ _) (by simp [Value.oneCell']) H63.out HBY.out (by have := HHS.out; have := HZ2.out; simp; omega) ?_; intro v4 w4 hown4 hg4 hn4 hat4; clear hn4))
      have HOW4 := Lib.hid (show OwnU w4 w.heap.size v4 (us ++ [x]) by rw [OwnU, placeV_append, List.length_append, HUL.out]; exact hown4)
      have hb3 : Below w2.heap.size w2 (w2.alloc (.cells #[.int .u64 (x : Int)] 24)) := (Below.refl _ _).alloc (Nat.le_refl _) _
      have hu4 : ∀ y, u4.ownBlock = some y → w.heap.size ≤ y := fun y hy => (ownu_block HO.out y hy).1
      have HR4 := Lib.hid ((HR2.out.below hb3).grown hg4 (fun e => by have := hu4 _ e.symm; omega) (fun y hy => by have := hu4 y hy; omega))
      have HG4 := Lib.hid (only_trans (only_trans (only_trans HG.out HG2.out (.inl rfl)) (only_below hb3 none) (.inr (fun y hy => by cases hy))) hg4 (.inr fun y hy => hu4 y hy))
      have hon4 := row_turns (HO2.out.alloc (.cells #[.int .u64 (x : Int)] 24)) hg4 (by have := HHS.out; have := HZ2.out; simp; omega)
      have HX2 := HX.out.grown HG2.out (fun e => by injection e with e; omega)
      have HX4 := Lib.hid (hon4.2 _ _ (HX2.below hb3 HX2.lt) (fun hh => absurd (show 3 = 24 from hh) (by decide)))
      clear hown4 hg4 hat4 hb3 hu4 hon4 HX2
      go_roundw
      case rel => exact ⟨j + 1, by omega, by go_num, ⟨by rw [HTK.out]; exact HOW4.out, ⟨p + q, HN.out.1, HN.out.2, by rw [← Nat.add_assoc]; exact HR4.out⟩, HG4.out, HX4.out⟩⟩
      case measure => simp [intOf]; omega
    · have hj10 : j = 10 := by omega
      subst hj10
      have HF := Lib.hid (show OwnU wr w.heap.size u4 (entN l a) ∧ RR B wr g v l (a + 64) 0 ∧ w.grownBy wr (some g) by
        obtain ⟨p, _, hp, hR⟩ := hSt.at_
        rw [hp rfl] at hR
        exact ⟨hSt.own, hR, hSt.grown⟩)
      clear hSt
      go_wp2_with fail
      go_ret
      exact ⟨_, rfl, HF.out.1, HF.out.2⟩

end Go.Proofs.YtpdjpafchfbabaaDoor

namespace Go.Proofs.YtpdjpafchfbabaaDoor
open Go Go.RowKit

/-- What the rounds of read may turn. -/
def ReadObj : Obj → Prop
  | .cells _ t _ => t = 68 ∨ t = 122
  | _ => False
theorem read_not {t : TypeId} (h1 : t ≠ 68) (h2 : t ≠ 122) (cs : Array Value) (f : Nat × Nat) : ¬ ReadObj (.cells cs t f) := fun h => by
  rcases h with h | h
  · exact h1 h
  · exact h2 h

theorem Only.weaken {base : Nat} {bad bad' : Obj → Prop} {a b : World} (h : Only base bad a b) (hi : ∀ o, bad o → bad' o) : Only base bad' a b := ⟨h.1, fun k o hk hb => h.2 k o hk (fun x => hb (hi o x))⟩
theorem Only.lower {base base' : Nat} {bad : Obj → Prop} {a b : World} (h : Only base bad a b) (hb : base' ≤ base) : Only base' bad a b := ⟨h.1.mono hb, h.2⟩
theorem cur_entry {w w' : World} {g : Nat} {v : Value} {l : List UInt8} {a : Nat} {e : Int} (h : Cur w g v l a e) {ge : Nat} (hg : w.grownBy w' (some ge)) (h1 : g ≠ ge) (h2 : v.ownBlock ≠ some ge) : Cur w' g v l a e :=
  h.grown hg (by simpa using h1) (.inr h2)
theorem cursor_read (o : Obj) (h : CellsOf 122 o) : ReadObj o := by
  cases o with
  | cells cs t f => exact .inr h
  | _ => exact h
theorem entry_read (o : Obj) (h : CellsOf 68 o) : ReadObj o := by
  cases o with
  | cells cs t f => exact .inl h
  | _ => exact h
theorem after_uint {base : Nat} {W w9 : World} {gc ge n i a : Nat} {vc : Value} {p : List UInt8} {e : Int} {X : List Value} (hC : Cur W gc vc p a e) (hR : W.ownsRow ge 68 10 (.slice (some ⟨ge, 0, none⟩) n n) n X) (hg : W.grownBy w9 (some gc)) (h1 : base ≤ gc) (h2 : base ≤ ge) (hi : i < X.length) :
    Only base ReadObj W w9 ∧ (∃ v, w9.cell? ⟨ge, i, none⟩ = some v) ∧ w9.frozen? ⟨ge, i, none⟩ = false ∧ ∀ u, (w9.setCell ⟨ge, i, none⟩ u).ownsRow ge 68 10 (.slice (some ⟨ge, 0, none⟩) n n) n (X.set i u) ∧ w9.grownBy (w9.setCell ⟨ge, i, none⟩ u) (some ge) ∧ Only base ReadObj W (w9.setCell ⟨ge, i, none⟩ u) := by
  have hc : Only base (CellsOf 122) W w9 := Only.row hg hC.1 rfl h1
  have hR9 := row_only hR hc (fun cs f hh => absurd (show 68 = 122 from hh) (by decide))
  have hXl : X.length = n * 10 := hR.1
  have hcell := World.ownsRow.cellAt (g := ge) (cap := n) hR9 i (by omega)
  rw [List.getElem?_eq_getElem hi] at hcell
  have hlt := (hR9.lt ge rfl).2
  refine ⟨hc.weaken cursor_read, ⟨_, hcell⟩, World.ownsRow.frozenAt (g := ge) (cap := n) hR9 i, fun u => ?_⟩
  obtain ⟨s1, s2⟩ := World.ownsRow.stored hR9 i u
  exact ⟨s1, s2, (hc.weaken cursor_read).trans (((row_turns hR9 s2 (Nat.le_of_lt hlt)).weaken entry_read).lower h2)⟩
def offJ (j : Nat) : Nat := (offsN[j]?).getD 64
theorem offJ_at {j f : Nat} (h : offsN[j]? = some f) : offJ j = f := by unfold offJ; rw [h]; rfl
theorem offJ_next {j f s : Nat} (hf : offsN[j]? = some f) (hs : sizesN[j]? = some s) : offJ (j + 1) = f + s := by
  obtain ⟨h1, h2, _⟩ := offs_next hf hs
  have hj : j < 10 := (List.getElem?_eq_some_iff.1 hf).1
  rcases Nat.lt_or_ge j 9 with h | h
  · exact offJ_at (h1 h)
  · have : j = 9 := by omega
    subst this
    rw [h2 rfl]
    rfl

set_option maxRecDepth 10000 in
set_option maxHeartbeats 6400000 in
theorem read_any {w : World} {A : Option Addr} {l : List UInt8} (hr : Rd w w.heap.size A l) (c : Nat) (hlc : l.length ≤ c) (hl : l.length ≤ 140737488355328) (t m s : Int) (off n : Nat) (hn1 : 1 ≤ n) (hn : n ≤ 64) (hin : off + n * 64 ≤ l.length) :
    Calls Tryd.prog 18 #[.slice A l.length c, hdV t m off n s] w fun r w' => ∃ v, r = .returned (.tuple #[v, .int .i64 (errUp l off n)]) ∧ (errUp l off n = 0 → OwnE w' w.heap.size v (entsT l off n)) ∧ Below w.heap.size w w' := by
  obtain ⟨i1, hj, hy0, hy1, hy2⟩ := info_parts ent_info
  obtain ⟨b, q, rfl, hb, _⟩ := hr (by omega)
  obtain ⟨nb, hnb⟩ : ∃ nb, n * 64 = nb := ⟨_, rfl⟩
  have hcut := rd_cut hr off nb
  rw [Option.map_some, addr_add] at hcut
  have hpl : ((l.drop off).take nb).length = nb := by simp; omega
  have hb0 : Below w.heap.size w (w.alloc (.cells #[.int .i64 t, .int .i64 m, .int .u64 (off : Int), .int .i64 (n : Int), .int .i64 s] 26)) := (Below.refl _ _).alloc (Nat.le_refl _) _
  have hX0 := Box.new w 26 #[.int .i64 t, .int .i64 m, .int .u64 (off : Int), .int .i64 (n : Int), .int .i64 s]
  have HN := Lib.hid (fun (cc : Nat) => new_any (w := (w.alloc (.cells #[.int .i64 t, .int .i64 m, .int .u64 (off : Int), .int .i64 (n : Int), .int .i64 s] 26)).drew) cc (hcut.below hb0.drew) (by simp) (by rw [hpl]; omega))
  rw [hpl] at HN
  have HPC := Lib.hid (fun f s (h : f + s ≤ nb) => numT_cut l off nb f s h)
  have hmul : (n : Int) * 64 = (nb : Int) := by omega
  have hnb2 : nb ≤ 4096 := by omega
  have hw1 : IntKind.i64.wrap (nb : Int) = (nb : Int) := by rw [IntKind.wrap_i64]; omega
  have hoc : off < c := by omega
  have hoc2 : ¬ c = off := by omega
  have hon : off ≤ l.length := by omega
  have honb : nb ≤ c - off := by omega
  have HNB := Lib.hid hnb
  have HPL := Lib.hid hpl
  have HR := Lib.hid hr
  have HINb := Lib.hid hin
  clear hr hcut hpl hin hnb hlc
  generalize hp : (l.drop off).take nb = p at *
  clear hp
  have KS := Lib.hid (fun (W : World) (hW : Below (w.heap.size + 1) (w.alloc (.cells #[.int .i64 t, .int .i64 m, .int .u64 (off : Int), .int .i64 (n : Int), .int .i64 s] 26)) W) => (⟨(hX0.below hW (by omega)).cell 2, (hX0.below hW (by omega)).cell 3⟩ :
    W.cell? ⟨w.heap.size, 2, none⟩ = some (.int .u64 (off : Int)) ∧ W.cell? ⟨w.heap.size, 3, none⟩ = some (.int .i64 (n : Int))))
  have hsz0 : (w.alloc (.cells #[.int .i64 t, .int .i64 m, .int .u64 (off : Int), .int .i64 (n : Int), .int .i64 s] 26)).heap.size = w.heap.size + 1 := by simp
  have hbd : Below (w.heap.size + 1) (w.alloc (.cells #[.int .i64 t, .int .i64 m, .int .u64 (off : Int), .int .i64 (n : Int), .int .i64 s] 26)) (w.alloc (.cells #[.int .i64 t, .int .i64 m, .int .u64 (off : Int), .int .i64 (n : Int), .int .i64 s] 26)).drew := (Below.refl _ _).drew
  have HE := Lib.hid (show errUp l off n = errUp l off n from rfl)
  have HB0 := Lib.hid hb0
  clear hb0 hX0
  generalize hln : l.length = ln at *
  go_enter Tryd.func18, Tryd.ntmps18
  go_wp2_with fail
  generalize w.alloc (.cells #[.int .i64 t, .int .i64 m, .int .u64 (off : Int), .int .i64 (n : Int), .int .i64 s] 26) = w0 at *
  go_region_held_law (fun W => W.cell? ⟨w.heap.size, 2, none⟩ = some (.int .u64 (off : Int)) ∧ W.cell? ⟨w.heap.size, 3, none⟩ = some (.int .i64 (n : Int))) ((refine KS.out _ ?_; first | exact hbd | exact hB1))
    (first | (go_at_call 40; refine (HN.out _).mono ?_; rintro r w1 ⟨gc, vc, rfl, hM1, hb1⟩; have hB1 : Below (w.heap.size + 1) w0 w1 := hbd.trans (hb1.mono (by exact Nat.le_of_eq hsz0.symm))))
  obtain ⟨k2, k3⟩ := KS.out _ hB1
  have hm1 : i1.bytes * n ≤ 281474976710656 := by rw [hy2]; omega
  have hm2 : n ≤ maxLen := by unfold maxLen; omega
  have hs1 : w.heap.size + 1 ≤ w1.heap.size := by rw [← hsz0]; exact hB1.size
  go_wp2_with (at_make; refine wpList_make_full _ rfl _ _ 49 rfl w1.heap.size 68 i1 _ 10 Tryd.underlying49 hj hy0 hy1 .i64 .i64 (n : Int) (n : Int) n rfl rfl rfl rfl hm1 hm2 (Nat.le_refl _) ?_; intro w2 hown2 hg2)
  have hC1 := hM1.1
  have hgc : w.heap.size + 1 ≤ gc := by have := hM1.2.1; rw [← hsz0]; exact this
  have hgl : gc < w1.heap.size := hC1.1.lt
  have hvc : ∀ k, vc.ownBlock = some k → k < w1.heap.size := fun k hk => (own_ge hC1.2.1 k hk).2
  have hb12 : Below w1.heap.size w1 w2 := below_of_only hg2 (Nat.le_refl _) (by simp)
  have HC2 := Lib.hid (hC1.below hb12)
  have HW2 := Lib.hid hown2
  have HB2 := Lib.hid ((HB0.out.trans (hB1.mono (by omega))).trans (hb12.mono (by omega)))
  have hw2s : w.heap.size ≤ w2.heap.size := HB2.out.size
  have hle2 := hb12.size
  clear HN KS hsz0 hbd hM1 hb1 hB1 k2 k3 hm1 hm2 hown2 hg2 hC1 hb12 HB0 hoc hoc2 honb hb
  generalize w1.heap.size = ge at *
  have hgcne : gc ≠ ge := by omega
  have hvcne : vc.ownBlock ≠ some ge := fun e => by have := hvc ge e; omega
  have hbg : w.heap.size ≤ ge := by omega
  have hbgc : w.heap.size ≤ gc := by omega
  clear hvc
  go_loopw [27] (fun i wr => ∃ k : Nat, k ≤ n ∧ i = .int .i64 k ∧ Hid (errUp l off k = 0) ∧ (∃ X, wr.ownsRow ge 68 10 (.slice (some ⟨ge, 0, none⟩) n n) n X ∧ Known l off X k 0) ∧ Cur wr gc vc p (64 * k) 0 ∧ Only w.heap.size ReadObj w2 wr) (fun i _ => n - (intOf i).toNat)
  case atStart => exact ⟨0, Nat.zero_le _, rfl, Lib.hid rfl, ⟨_, HW2.out, fun i j x hi => by omega⟩, HC2.out, Only.refl _ _ _⟩
  case round =>
    obtain ⟨k, hk, rfl, HER, ⟨X, hX, hKn⟩, hC, hOn⟩ := hrel
    by_cases hlt : k < n
    · have hN := numbers_at ge (k * 10) wr
      have HX := Lib.hid hX
      have HKn := Lib.hid hKn
      have HC := Lib.hid hC
      have HOn := Lib.hid hOn
      have hws : w2.heap.size ≤ wr.heap.size := hOn.1.size
      have hkn : k < n := hlt
      clear hX hKn hC hOn HC2 HW2
      go_wp2_with (go_at_call 25; refine hN.mono ?_; rintro r w4 ⟨rfl, hx4, hb4⟩)
      have HX4 := Lib.hid hx4
      have HR4 := Lib.hid (row_below HX.out hb4)
      have HC4 := Lib.hid (HC.out.below hb4)
      have HOn4 := Lib.hid (HOn.out.trans (Only.below (bad := ReadObj) hb4 (Nat.le_trans hw2s hws)))
      have hs4 : wr.heap.size ≤ w4.heap.size := hb4.size
      clear hx4 hb4 hN HX HC HOn
      generalize hH : wr.heap.size = H at *
      clear hH
      generalize wr = wx at *
      have hkl : k * 64 + 64 ≤ nb := by have := HNB.out; omega
      go_loopw [36] (fun i wr => ∃ j : Nat, j ≤ 10 ∧ i = .int .i64 j ∧ (∃ X, wr.ownsRow ge 68 10 (.slice (some ⟨ge, 0, none⟩) n n) n X ∧ Known l off X k j) ∧ Cur wr gc vc p (64 * k + offJ j) 0 ∧ Only w.heap.size ReadObj w4 wr) (fun i _ => 10 - (intOf i).toNat)
      case atStart => exact ⟨0, Nat.zero_le _, rfl, ⟨X, HR4.out, HKn.out⟩, HC4.out, Only.refl _ _ _⟩
      case round =>
        obtain ⟨j, hj, rfl, ⟨X, hX, hKn⟩, hC, hOn⟩ := hrel
        by_cases hjl : j < 10
        · obtain ⟨f, hf⟩ : ∃ f, offsN[j]? = some f := ⟨offsN[j]'(by show j < 10; exact hjl), List.getElem?_eq_getElem _⟩
          obtain ⟨sz, hq⟩ : ∃ q, sizesN[j]? = some q := ⟨sizesN[j]'(by show j < 10; exact hjl), List.getElem?_eq_getElem _⟩
          obtain ⟨_, _, hfs, hs8⟩ := offs_next hf hq
          have hoj := offJ_at hf
          have hoj1 := offJ_next hf hq
          rw [hoj] at hC
          have hxe := entN_at l (off + 64 * k) j f sz hf hq
          have hnum := HPC.out (64 * k + f) sz (by omega)
          rw [← Nat.add_assoc] at hnum
          obtain ⟨n0, n1⟩ := numV_at ge (k * 10) j sz hq
          have hXn : Box wr H 73 (numV ge (k * 10)).toArray := hOn.2 _ _ HX4.out (read_not (by decide) (by decide) _ _)
          have d0 : wr.cell? ⟨H, j * 2, none⟩ = some (.pointer (some ⟨ge, k * 10 + j, none⟩)) := by rw [hXn.cell]; simpa using n0
          have d1 : wr.cell? ⟨H, j * 2 + 1, none⟩ = some (.int .i64 (sz : Int)) := by rw [hXn.cell]; simpa using n1
          have hb0 : Below wr.heap.size wr (wr.alloc (.cells #[.pointer (some ⟨ge, k * 10 + j, none⟩), .int .i64 (sz : Int)] 73)) := (Below.refl _ _).alloc (Nat.le_refl _) _
          have hX0 := Box.new wr 73 #[.pointer (some ⟨ge, k * 10 + j, none⟩), .int .i64 (sz : Int)]
          have hC0 := hC.below hb0
          have hR0 := row_below hX hb0
          have hss : w.heap.size ≤ wr.heap.size := Nat.le_trans (Nat.le_trans (Nat.le_trans hw2s hws) hs4) hOn.1.size
          have hclamp : clampOf (sz : Int) = sz := by unfold clampOf; omega
          have hgot : nextGot p (64 * k + f) 0 sz = (p.drop (64 * k + f)).take sz := by unfold nextGot; rw [if_pos ⟨rfl, by rw [HPL.out]; omega⟩]
          have hnat : nextAt p (64 * k + f) 0 sz = 64 * k + f + sz := by unfold nextAt; rw [if_pos ⟨rfl, by rw [HPL.out]; omega⟩]
          have hner : nextErr p (64 * k + f) 0 sz = 0 := by unfold nextErr; rw [if_pos rfl, if_pos (by rw [HPL.out]; omega)]
          have HU := Lib.hid (fun (W : World) (hW : Cur W gc vc p (64 * k + f) 0) => uint_cur hW (sz : Int) (by omega) (by rw [HPL.out]; omega))
          rw [hclamp, hgot, hnat, hner, show leNat ((p.drop (64 * k + f)).take sz) = numT p (64 * k + f) sz from rfl, hnum] at HU
          generalize numT l (off + 64 * k + f) sz = x at *
          have hOn0 := hOn.trans (Only.below (bad := ReadObj) hb0 hss)
          have hlX : k * 10 + j < X.length := by rw [hX.1]; omega
          have HK1 := Lib.hid (known_next hKn hxe hlX hjl)
          have HOn0 := Lib.hid hOn0
          have HC0 := Lib.hid hC0
          have HR0 := Lib.hid hR0
          have HOJ := Lib.hid hoj1
          have HLX := Lib.hid hlX
          have hO6 : Only w.heap.size ReadObj (wr.alloc (.cells #[.pointer (some ⟨ge, k * 10 + j, none⟩), .int .i64 (sz : Int)] 73)) (wr.alloc (.cells #[.pointer (some ⟨ge, k * 10 + j, none⟩), .int .i64 (sz : Int)] 73)).drew := Only.drew (Only.refl _ _ _)
          have KS := Lib.hid (fun (W : World) (hW : Only w.heap.size ReadObj (wr.alloc (.cells #[.pointer (some ⟨ge, k * 10 + j, none⟩), .int .i64 (sz : Int)] 73)) W) => (by
            have h1 : Box W wr.heap.size 73 _ := hW.2 _ _ hX0 (read_not (by decide) (by decide) _ _)
            exact ⟨h1.cell 0, h1.cell 1⟩ :
            W.cell? ⟨wr.heap.size, 0, none⟩ = some (.pointer (some ⟨ge, k * 10 + j, none⟩)) ∧ W.cell? ⟨wr.heap.size, 1, none⟩ = some (.int .i64 (sz : Int))))
          clear hf hq hfs hs8 hoj hoj1 hxe hnum n0 n1 hXn hX0 hb0 hC0 hR0 hclamp hgot hnat hner hOn0 hOn hC hX hKn hlX
          go_wp2_with fail
          generalize hT : wr.heap.size = T at *
          generalize hw6 : wr.alloc (.cells #[.pointer (some ⟨ge, k * 10 + j, none⟩), .int .i64 (sz : Int)] 73) = w6 at *
          clear hw6 hT d0 d1
          go_region_held_law (fun W => W.cell? ⟨T, 0, none⟩ = some (.pointer (some ⟨ge, k * 10 + j, none⟩)) ∧ W.cell? ⟨T, 1, none⟩ = some (.int .i64 (sz : Int)))
            ((refine KS.out _ ?_; first | exact hO6 | exact hO9 | exact hO10))
            (first
              | (go_at_call 46; refine (HU.out _ (by exact HC0.out)).mono ?_; rintro r w9 ⟨rfl, hC9, hg9⟩; obtain ⟨ho9, ⟨v9, hcell⟩, hfree, HST⟩ := after_uint (W := w6.drew) HC0.out HR0.out hg9 hbgc hbg HLX.out; have hO9 := hO6.trans ho9; have hO10 := hO6.trans (HST (.int .u64 (x : Int))).2.2; have HST' := Lib.hid (HST (.int .u64 (x : Int))); clear HST ho9 hg9))
          have hC10 := cur_entry hC9 HST'.out.2.1 hgcne hvcne
          rw [Nat.add_assoc, ← HOJ.out] at hC10
          have HC10 := Lib.hid hC10
          have HO10 := Lib.hid (HOn0.out.trans hO10)
          clear hC9 hO9 hO10 hC10 hcell hfree KS HU
          go_wp2_with fail
          go_roundw
          case rel => exact ⟨j + 1, by omega, by go_num, ⟨_, HST'.out.1, HK1.out⟩, HC10.out, HO10.out⟩
          case measure => simp [intOf]; omega
        · have hj10 : j = 10 := by omega
          subst hj10
          have hEA : EntAt wr ge (k * 10) (entN l (off + 64 * k)) := ⟨entN_length _ _, fun j x hx => by
            have hj : j < 10 := by rw [← entN_length l (off + 64 * k)]; exact (List.getElem?_eq_some_iff.1 hx).1
            rw [World.ownsRow.cellAt (g := ge) (cap := n) hX (k * 10 + j) (by omega)]
            exact hKn k j x (.inr ⟨rfl, hj⟩) hj hx⟩
          have hRF := refusal_at hEA (entN_lt _ _) l.length (by rw [hln]; exact hl)
          rw [hln] at hRF
          have HRF := Lib.hid hRF
          have HER1 := Lib.hid (show errUp l off (k + 1) = entE (entN l (off + 64 * k)) ln by rw [errUp, if_neg (by simp [HER.out]), hln])
          have hss : w.heap.size ≤ wr.heap.size := Nat.le_trans (Nat.le_trans (Nat.le_trans hw2s hws) hs4) hOn.1.size
          have HOn := Lib.hid (HOn4.out.trans hOn)
          have HKX := Lib.hid (known_row hKn)
          have HXR := Lib.hid hX
          have HCC := Lib.hid (show Cur wr gc vc p (64 * (k + 1)) 0 from hC)
          clear hEA hRF hOn hX hKn hC
          generalize entE (entN l (off + 64 * k)) ln = ev at *
          by_cases he : ev = 0
          · have q1 : (ev != 0) = false := by simp [he]
            have HZ := Lib.hid (show errUp l off (k + 1) = 0 by rw [HER1.out, he])
            clear he
            go_wp2_with (go_at_call 47; refine HRF.out.mono ?_; rintro r w9 ⟨rfl, hb9⟩; have HB9 := Lib.hid hb9; clear hb9)
            go_roundw
            case rel => exact ⟨k + 1, by omega, by go_num, HZ, ⟨X, row_below HXR.out HB9.out, HKX.out⟩, HCC.out.below HB9.out, HOn.out.trans (Only.below (bad := ReadObj) HB9.out hss)⟩
            case measure => simp [intOf]; omega
          · have q1 : (ev != 0) = true := by simpa using he
            have HZ := Lib.hid (show errUp l off n = ev by
              rw [errUp_stays (k := k + 1) (by rw [HER1.out]; exact he) n (by omega), HER1.out])
            have HNZ := Lib.hid he
            clear he
            go_wp2_with (go_at_call 47; refine HRF.out.mono ?_; rintro r w9 ⟨rfl, hb9⟩; have HB9 := Lib.hid hb9; clear hb9)
            go_ret2
            exact ⟨_, by rw [HZ.out]; rfl, fun h => absurd (by rw [← HZ.out]; exact h) HNZ.out, HB2.out.trans (HOn.out.1.trans (HB9.out.mono hss))⟩
    · have hkn : k = n := by omega
      subst hkn
      have HXF := Lib.hid (show OwnE wr w.heap.size (.slice (some ⟨ge, 0, none⟩) k k) (entsT l off k) by
        have hXc := known_all hKn hX.1
        rw [hXc] at hX
        rw [OwnE, entsT_length]
        exact row_base hX hbg)
      have HBF := Lib.hid (HB2.out.trans hOn.1)
      clear hX hKn hC hOn
      go_wp2_with fail
      go_ret2
      exact ⟨_, by rw [HER.out]; rfl, fun _ => HXF.out, HBF.out⟩

end Go.Proofs.YtpdjpafchfbabaaDoor
