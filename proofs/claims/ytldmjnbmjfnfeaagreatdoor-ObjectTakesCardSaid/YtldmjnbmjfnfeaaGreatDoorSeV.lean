/-
  Package sects: tell.
-/
import Derived.Test.YtldmjnbmjfnfeaaGreatDoorSeN
import Derived.Test.YtldmjnbmjfnfeaaGreatDoorEhH
import Derived.Test.YtldmjnbmjfnfeaaGreatDoorEhF
import Derived.Test.YtldmjnbmjfnfeaaGreatDoorPut
import Derived.Test.YtldmjnbmjfnfeaaGreatDoorCsA
namespace Go.Proofs.YtldmjnbmjfnfeaaGreatDoor
open Go Go.RowKit

/-! ### What is put -/
/-- An entry's bytes. -/
def entB (ns : List Nat) : List UInt8 := itsB (ns.zip sizesN)
theorem entB_length (ns : List Nat) (h : ns.length = 10) : (entB ns).length = 64 := by
  match ns, h with
  | [a0, a1, a2, a3, a4, a5, a6, a7, a8, a9], _ => simp [entB, sizesN, itsB]
theorem layK_tens (ss : List Sect) (ps : List Nat) : ∀ k, ∀ e ∈ (layK ss ps k).2, e.length = 10
  | 0, e, he => by
    simp [layK] at he
    subst he
    rfl
  | k + 1, e, he => by
    rcases hs : ss[k + 1]? with _ | s
    · rw [layK, hs] at he
      exact layK_tens ss ps k e he
    · rcases hp : ps[k + 1]? with _ | p
      · rw [layK, hs, hp] at he
        exact layK_tens ss ps k e he
      · rw [layK_next hs hp] at he
        rcases List.mem_append.1 he with he | he
        · exact layK_tens ss ps k e he
        · rw [List.mem_singleton.1 he]
          rfl
def entsB (es : List (List Nat)) : List UInt8 := es.flatMap entB
theorem entsB_length (es : List (List Nat)) (h : ∀ e ∈ es, e.length = 10) : (entsB es).length = 64 * es.length := by
  induction es with
  | nil => rfl
  | cons e es ih =>
    have h1 := entB_length e (h e (by simp))
    have h2 := ih (fun x hx => h x (by simp [hx]))
    rw [show entsB (e :: es) = entB e ++ entsB es from rfl, List.length_append, h1, h2, List.length_cons]
    omega
theorem entsB_step {es : List (List Nat)} {k : Nat} {e : List Nat} (h : es[k]? = some e) : entsB (es.take (k + 1)) = entsB (es.take k) ++ entB e := by
  unfold entsB
  rw [List.take_add_one, h]
  simp
theorem headB_length (t m : Int) (o : Nat) (n s : Int) : (headB t m o n s).length = 64 := by
  simp [headB, magB, itsB, itsT]

/-- The bytes and entries of sections. -/
def laidS (l : List Sect) : List UInt8 × List (List Nat) :=
  let r := layK (tabled l (putsT (gat (l.map (·.name))).1)) (gat (l.map (·.name))).2 (l.length - 1)
  (padB r.1, r.2)
/-- A file. -/
def fileB (kind machine : Int) (l : List Sect) : List UInt8 :=
  headB kind machine (laidS l).1.length (l.length : Int) ((l.length - 1 : Nat) : Int) ++ ((laidS l).1 ++ entsB (laidS l).2).drop 64
/-- Whether a file is put. -/
def mayPut (kind machine : Int) (l : List Sect) : Bool := rightS l && (decide (kind = 1 ∨ kind = 2) && decide (machine = 62 ∨ machine = 183))
def putE (kind machine : Int) (l : List Sect) : Int := if mayPut kind machine l = true then 0 else 2
def putR (kind machine : Int) (l : List Sect) : List UInt8 := if mayPut kind machine l = true then fileB kind machine l else []

/-! ### copy onto the front -/
section
variable {P : Program}
theorem run_copy_front (w : World) (t ty : TypeId) (base : Nat) (i : TypeInfo) (ht : P.underlying t = some (.slice 5)) (hi : P.info? 5 = some i) (hs : i.size = 1)
    (v : Value) (l : List UInt8) (hown : Own w base v l) (A : Option Addr) (c B : Nat) (m : List UInt8) (hr : Rd w B A m) (hm : 0 < m.length) (hd : m.length ≤ l.length) :
    ∃ w', (Builtin.copy_ #[t, t] ty #[v, .slice A m.length c]).run P w = .ok (goInt m.length) w' ∧ Own w' base v (m ++ l.drop m.length) ∧ w.grownBy w' v.ownBlock := by
  rcases hown.2 with ⟨rfl, h0⟩ | ⟨g, cap, cur, rfl, hbg, hg, hnc, hcm, hcs, htake⟩
  · omega
  · obtain ⟨b, q, rfl, _, hc⟩ := hr hm
    have hrun := run_copy_row (P := P) w t t ty 5 g 0 l.length cap ⟨b, q, none⟩ m.length c cur 5 (u8s m) ht (by rw [hi]; simp [hs]) hg (by rw [u8s_length]; exact (Nat.min_eq_left hd).symm)
      (fun j v hv => by
        rw [u8s_get] at hv
        rcases hj : m[j]? with _ | x
        · rw [hj] at hv; cases hv
        · rw [hj] at hv
          rw [addr_add, hc j x hj]
          simpa using hv) (by rw [u8s_length]; omega) (u8s_one m)
    rw [u8s_length] at hrun
    have hw := setRow_heap w g cur (cur.toList.take 0 ++ u8s m ++ cur.toList.drop (0 + m.length)).toArray 5 (0, 0) hg
    have hown' : Own (w.setRow g (cur.toList.take 0 ++ u8s m ++ cur.toList.drop (0 + m.length)).toArray) base (.slice (some ⟨g, 0, none⟩) l.length cap) (m ++ l.drop m.length) := by
      have hll : (m ++ l.drop m.length).length = l.length := by simp; omega
      refine ⟨by simp, .inr ⟨g, cap, _, by rw [hll], hbg, hw, by rw [hll]; exact hnc, hcm, ?_, ?_⟩⟩
      · simp
        omega
      · rw [hll, Nat.mul_one]
        rw [Nat.mul_one] at htake
        apply List.ext_getElem?
        intro j
        by_cases hj : j < l.length
        · by_cases hjm : j < m.length
          · simp [hj, u8s, List.getElem?_append, hjm]
          · have e : cur.toList[j]? = (u8s l)[j]? := by rw [← htake, List.getElem?_take, if_pos hj]
            simp only [List.getElem?_take, hj, if_true, List.take_zero, List.nil_append, Nat.zero_add]
            rw [List.getElem?_append_right (by rw [u8s_length]; omega), u8s_length, List.getElem?_drop, show m.length + (j - m.length) = j by omega, e, u8s_append, List.getElem?_append_right (by rw [u8s_length]; omega), u8s_length]
            simp only [u8s, List.map_drop, List.getElem?_drop]
            rw [show m.length + (j - m.length) = j by omega]
        · rw [List.getElem?_eq_none (by simp; omega), List.getElem?_eq_none (by rw [u8s_length, hll]; omega)]
    exact ⟨_, hrun, hown', grown_setRow w g _⟩
end

/-! ### Entries in a row -/
theorem cellsE_at : ∀ (es : List (List Nat)), (∀ e ∈ es, e.length = 10) → ∀ (i : Nat) (e : List Nat) (j x : Nat), es[i]? = some e → e[j]? = some x → (cellsE es)[i * 10 + j]? = some (.int .u64 (x : Int))
  | [], _, _, _, _, _, h, _ => by simp at h
  | y :: es, hy, 0, e, j, x, h, hv => by
    simp at h
    subst h
    have hj : j < y.length := (List.getElem?_eq_some_iff.1 hv).1
    rw [show cellsE (y :: es) = entCs y ++ cellsE es from rfl, Nat.zero_mul, Nat.zero_add, List.getElem?_append_left (by simpa [entCs] using hj)]
    simp [entCs, hv]
  | y :: es, hy, i + 1, e, j, x, h, hv => by
    have ih := cellsE_at es (fun z hz => hy z (by simp [hz])) i e j x (by simpa using h) hv
    have h10 : (entCs y).length = 10 := by simp [entCs, hy y (by simp)]
    rw [show cellsE (y :: es) = entCs y ++ cellsE es from rfl, List.getElem?_append_right (by omega), h10, show (i + 1) * 10 + j - 10 = i * 10 + j by omega]
    exact ih

theorem owne_form {w : World} {base : Nat} {v : Value} {es : List (List Nat)} (h : OwnE w base v es) (h0 : 0 < es.length) : ∃ g c, v = .slice (some ⟨g, 0, none⟩) es.length c ∧ base ≤ g ∧ g < w.heap.size ∧ es.length ≤ c := by
  rcases h.2 with ⟨_, h1⟩ | ⟨g, cap, cur, rfl, hb, hg, hnc, _⟩
  · omega
  · refine ⟨g, cap, rfl, hb, ?_, hnc⟩
    rcases Nat.lt_or_ge g w.heap.size with h1 | h1
    · exact h1
    · rw [Array.getElem?_eq_none h1] at hg; cases hg

theorem owne_at {w : World} {base g c : Nat} {es : List (List Nat)} (h : OwnE w base (.slice (some ⟨g, 0, none⟩) es.length c) es) (ht : ∀ e ∈ es, e.length = 10) {k : Nat} {e : List Nat} (hk : es[k]? = some e) :
    ∃ a0 a1 a2 a3 a4 a5 a6 a7 a8 a9 : Nat, e = [a0, a1, a2, a3, a4, a5, a6, a7, a8, a9] ∧ w.cell? ⟨g, k * 10, none⟩ = some (.int .u64 (a0 : Int)) ∧ w.cell? ⟨g, k * 10 + 1, none⟩ = some (.int .u64 (a1 : Int)) ∧ w.cell? ⟨g, k * 10 + 2, none⟩ = some (.int .u64 (a2 : Int)) ∧
      w.cell? ⟨g, k * 10 + 3, none⟩ = some (.int .u64 (a3 : Int)) ∧ w.cell? ⟨g, k * 10 + 4, none⟩ = some (.int .u64 (a4 : Int)) ∧ w.cell? ⟨g, k * 10 + 5, none⟩ = some (.int .u64 (a5 : Int)) ∧ w.cell? ⟨g, k * 10 + 6, none⟩ = some (.int .u64 (a6 : Int)) ∧
      w.cell? ⟨g, k * 10 + 7, none⟩ = some (.int .u64 (a7 : Int)) ∧ w.cell? ⟨g, k * 10 + 8, none⟩ = some (.int .u64 (a8 : Int)) ∧ w.cell? ⟨g, k * 10 + 9, none⟩ = some (.int .u64 (a9 : Int)) := by
  have hkl := (List.getElem?_eq_some_iff.1 hk).1
  have hc : ∀ (j x : Nat), e[j]? = some x → w.cell? ⟨g, k * 10 + j, none⟩ = some (.int .u64 (x : Int)) := fun j x hx => by
    have hj : j < 10 := by rw [← ht e (List.mem_of_getElem? hk)]; exact (List.getElem?_eq_some_iff.1 hx).1
    rw [World.ownsRow.cellAt (g := g) (cap := c) h (k * 10 + j) (by omega)]
    exact cellsE_at es ht k e j x hk hx
  match e, ht e (List.mem_of_getElem? hk), hc with
  | [a0, a1, a2, a3, a4, a5, a6, a7, a8, a9], _, hc => exact ⟨a0, a1, a2, a3, a4, a5, a6, a7, a8, a9, rfl, hc 0 _ rfl, hc 1 _ rfl, hc 2 _ rfl, hc 3 _ rfl, hc 4 _ rfl, hc 5 _ rfl, hc 6 _ rfl, hc 7 _ rfl, hc 8 _ rfl, hc 9 _ rfl⟩

end Go.Proofs.YtldmjnbmjfnfeaaGreatDoor

namespace Go.Proofs.YtldmjnbmjfnfeaaGreatDoor
open Go Go.RowKit

def offsN : List Nat := [0, 4, 8, 16, 24, 32, 40, 44, 48, 56]
/-- The numbers of an entry that stands at a place. -/
def entN (l : List UInt8) (o : Nat) : List Nat := (offsN.zip sizesN).map fun p => numT l (o + p.1) p.2
theorem entN_length (l : List UInt8) (o : Nat) : (entN l o).length = 10 := rfl
theorem entN_at (l : List UInt8) (o j f s : Nat) (hf : offsN[j]? = some f) (hs : sizesN[j]? = some s) : (entN l o)[j]? = some (numT l (o + f) s) := by
  have : (offsN.zip sizesN)[j]? = some (f, s) := by rw [List.getElem?_zip_eq_some]; exact ⟨hf, hs⟩
  simp [entN, this]
theorem offs_next {j f s : Nat} (hf : offsN[j]? = some f) (hs : sizesN[j]? = some s) : (j < 9 → offsN[j + 1]? = some (f + s)) ∧ (j = 9 → f + s = 64) ∧ f + s ≤ 64 ∧ s ≤ 8 := by
  have hj : j < 10 := (List.getElem?_eq_some_iff.1 hf).1
  have h10 : j = 0 ∨ j = 1 ∨ j = 2 ∨ j = 3 ∨ j = 4 ∨ j = 5 ∨ j = 6 ∨ j = 7 ∨ j = 8 ∨ j = 9 := by omega
  rcases h10 with rfl | rfl | rfl | rfl | rfl | rfl | rfl | rfl | rfl | rfl <;> (injection hf with hf; injection hs with hs; subst hf hs; exact ⟨fun h => by first | rfl | omega, fun h => by first | rfl | omega, by decide, by decide⟩)
theorem numT_lt (l : List UInt8) (f s : Nat) (hs : s ≤ 8) : numT l f s < two64 := by
  have h := leNat_lt (cutT l f s)
  have h2 : (cutT l f s).length ≤ 8 := by simp [cutT]; omega
  have h3 : (256 : Nat) ^ (cutT l f s).length ≤ 256 ^ 8 := Nat.pow_le_pow_right (by decide) h2
  have h4 : (256 : Nat) ^ 8 = 18446744073709551616 := rfl
  unfold numT two64
  omega
theorem entN_lt (l : List UInt8) (o : Nat) : ∀ x ∈ entN l o, x < two64 := by
  intro x hx
  obtain ⟨p, hp, rfl⟩ := List.mem_map.1 hx
  have : p.2 ∈ sizesN := (List.of_mem_zip hp).2
  have hall : ∀ s ∈ sizesN, s ≤ 8 := by decide
  exact numT_lt _ _ _ (hall _ this)
/-- In a part of the bytes, and in all of them. -/
theorem numT_cut (l : List UInt8) (off nb f s : Nat) (h : f + s ≤ nb) : numT ((l.drop off).take nb) f s = numT l (off + f) s := by
  unfold numT cutT
  rw [List.drop_take, List.drop_drop, List.take_take, Nat.min_eq_left (by omega)]

/-- The first refusal among the first k entries. -/
def errUp (l : List UInt8) (off : Nat) : Nat → Int
  | 0 => 0
  | k + 1 => if errUp l off k ≠ 0 then errUp l off k else entE (entN l (off + 64 * k)) l.length
theorem errUp_stays {l : List UInt8} {off k : Nat} (h : errUp l off k ≠ 0) : ∀ n, k ≤ n → errUp l off n = errUp l off k := by
  intro n hn
  induction n with
  | zero => rw [show k = 0 by omega]
  | succ n ih =>
    rcases Nat.eq_or_lt_of_le hn with rfl | h1
    · rfl
    · have := ih (by omega)
      rw [errUp, if_pos (by rw [this]; exact h), this]
theorem errUp_ok {l : List UInt8} {off : Nat} : ∀ {n : Nat}, errUp l off n = 0 → ∀ k, k < n → entE (entN l (off + 64 * k)) l.length = 0
  | 0, _, k, hk => by omega
  | n + 1, h, k, hk => by
    by_cases h0 : errUp l off n ≠ 0
    · rw [errUp, if_pos h0] at h; exact absurd h h0
    · rw [errUp, if_neg h0] at h
      rcases Nat.lt_or_ge k n with h1 | h1
      · exact errUp_ok (by simpa using h0) k h1
      · rw [show k = n by omega]; exact h

/-- All entries. -/
def entsT (l : List UInt8) (off n : Nat) : List (List Nat) := (List.range n).map fun i => entN l (off + 64 * i)
theorem entsT_get (l : List UInt8) (off n i : Nat) (h : i < n) : (entsT l off n)[i]? = some (entN l (off + 64 * i)) := by simp [entsT, h]
theorem entsT_tens (l : List UInt8) (off n : Nat) : ∀ e ∈ entsT l off n, e.length = 10 := by
  intro e he
  obtain ⟨i, _, rfl⟩ := List.mem_map.1 he
  exact entN_length _ _
theorem entsT_length (l : List UInt8) (off n : Nat) : (entsT l off n).length = n := by simp [entsT]

/-- How far a row of entries is filled. -/
def Known (l : List UInt8) (off : Nat) (X : List Value) (k J : Nat) : Prop := ∀ (i j x : Nat), (i < k ∨ i = k ∧ j < J) → j < 10 → (entN l (off + 64 * i))[j]? = some x → X[i * 10 + j]? = some (.int .u64 (x : Int))
theorem known_next {l : List UInt8} {off k J x : Nat} {X : List Value} (h : Known l off X k J) (hx : (entN l (off + 64 * k))[J]? = some x) (hl : k * 10 + J < X.length) (hJ : J < 10) : Known l off (X.set (k * 10 + J) (.int .u64 (x : Int))) k (J + 1) := fun i j y hi hj hy => by
  by_cases he : i = k ∧ j = J
  · obtain ⟨rfl, rfl⟩ := he
    rw [hx] at hy
    injection hy with hy
    subst hy
    exact List.getElem?_set_self hl
  · rw [List.getElem?_set_ne (by omega)]
    exact h i j y (by omega) hj hy
theorem known_row {l : List UInt8} {off k : Nat} {X : List Value} (h : Known l off X k 10) : Known l off X (k + 1) 0 := fun i j y hi hj hy => h i j y (by omega) hj hy
theorem known_all {l : List UInt8} {off n : Nat} {X : List Value} (h : Known l off X n 0) (hl : X.length = n * 10) : X = cellsE (entsT l off n) := by
  have hcl : (cellsE (entsT l off n)).length = n * 10 := by
    have : ∀ es : List (List Nat), (∀ e ∈ es, e.length = 10) → (cellsE es).length = es.length * 10 := by
      intro es
      induction es with
      | nil => intro _; rfl
      | cons e es ih =>
        intro he
        rw [show cellsE (e :: es) = entCs e ++ cellsE es from rfl, List.length_append, ih (fun x hx => he x (by simp [hx])), List.length_cons]
        have : (entCs e).length = 10 := by simp [entCs, he e (by simp)]
        omega
    rw [this _ (entsT_tens _ _ _), entsT_length]
  apply List.ext_getElem?
  intro q
  by_cases hq : q < n * 10
  · have hi : q / 10 < n := by omega
    have hx : (entN l (off + 64 * (q / 10)))[q % 10]? = some ((entN l (off + 64 * (q / 10)))[q % 10]'(by rw [entN_length]; omega)) := List.getElem?_eq_getElem _
    have h1 := h _ _ _ (.inl hi) (by omega) hx
    have h2 := cellsE_at _ (entsT_tens l off n) _ _ _ _ (entsT_get l off n _ hi) hx
    rw [show q / 10 * 10 + q % 10 = q by omega] at h1 h2
    rw [h1, h2]
  · rw [List.getElem?_eq_none (by omega), List.getElem?_eq_none (by omega)]

end Go.Proofs.YtldmjnbmjfnfeaaGreatDoor

namespace Go.Proofs.YtldmjnbmjfnfeaaGreatDoor
open Go Go.RowKit

/-- What the rounds of read may turn. -/
def ReadObj : Obj → Prop
  | .cells _ t _ => t = 120 ∨ t = 190
  | _ => False
theorem read_not {t : TypeId} (h1 : t ≠ 120) (h2 : t ≠ 190) (cs : Array Value) (f : Nat × Nat) : ¬ ReadObj (.cells cs t f) := fun h => by
  rcases h with h | h
  · exact h1 h
  · exact h2 h

theorem Only.weaken {base : Nat} {bad bad' : Obj → Prop} {a b : World} (h : Only base bad a b) (hi : ∀ o, bad o → bad' o) : Only base bad' a b := ⟨h.1, fun k o hk hb => h.2 k o hk (fun x => hb (hi o x))⟩
theorem Only.lower {base base' : Nat} {bad : Obj → Prop} {a b : World} (h : Only base bad a b) (hb : base' ≤ base) : Only base' bad a b := ⟨h.1.mono hb, h.2⟩
theorem cur_entry {w w' : World} {g : Nat} {v : Value} {l : List UInt8} {a : Nat} {e : Int} (h : Cur w g v l a e) {ge : Nat} (hg : w.grownBy w' (some ge)) (h1 : g ≠ ge) (h2 : v.ownBlock ≠ some ge) : Cur w' g v l a e :=
  h.grown hg (by simpa using h1) (.inr h2)
theorem cursor_read (o : Obj) (h : CellsOf 190 o) : ReadObj o := by
  cases o with
  | cells cs t f => exact .inr h
  | _ => exact h
theorem entry_read (o : Obj) (h : CellsOf 120 o) : ReadObj o := by
  cases o with
  | cells cs t f => exact .inl h
  | _ => exact h
theorem after_uint {base : Nat} {W w9 : World} {gc ge n i a : Nat} {vc : Value} {p : List UInt8} {e : Int} {X : List Value} (hC : Cur W gc vc p a e) (hR : W.ownsRow ge 120 10 (.slice (some ⟨ge, 0, none⟩) n n) n X) (hg : W.grownBy w9 (some gc)) (h1 : base ≤ gc) (h2 : base ≤ ge) (hi : i < X.length) :
    Only base ReadObj W w9 ∧ (∃ v, w9.cell? ⟨ge, i, none⟩ = some v) ∧ w9.frozen? ⟨ge, i, none⟩ = false ∧ ∀ u, (w9.setCell ⟨ge, i, none⟩ u).ownsRow ge 120 10 (.slice (some ⟨ge, 0, none⟩) n n) n (X.set i u) ∧ w9.grownBy (w9.setCell ⟨ge, i, none⟩ u) (some ge) ∧ Only base ReadObj W (w9.setCell ⟨ge, i, none⟩ u) := by
  have hc : Only base (CellsOf 190) W w9 := Only.row hg hC.1 rfl h1
  have hR9 := row_only hR hc (fun cs f hh => absurd (show 120 = 190 from hh) (by decide))
  have hXl : X.length = n * 10 := hR.1
  have hcell := World.ownsRow.cellAt (g := ge) (cap := n) hR9 i (by omega)
  rw [List.getElem?_eq_getElem hi] at hcell
  have hlt := (hR9.lt ge rfl).2
  refine ⟨hc.weaken cursor_read, ⟨_, hcell⟩, World.ownsRow.frozenAt (g := ge) (cap := n) hR9 i, fun u => ?_⟩
  obtain ⟨s1, s2⟩ := World.ownsRow.stored hR9 i u
  exact ⟨s1, s2, (hc.weaken cursor_read).trans (((row_turns hR9 s2 (Nat.le_of_lt hlt)).weaken entry_read).lower h2)⟩
def offJ (j : Nat) : Nat := (offsN[j]?).getD 64
theorem offJ_at {j f : Nat} (h : offsN[j]? = some f) : offJ j = f := by unfold offJ; rw [h]; rfl
theorem offJ_next {j f s : Nat} (hf : offsN[j]? = some f) (hs : sizesN[j]? = some s) : offJ (j + 1) = f + s := by
  obtain ⟨h1, h2, _⟩ := offs_next hf hs
  have hj : j < 10 := (List.getElem?_eq_some_iff.1 hf).1
  rcases Nat.lt_or_ge j 9 with h | h
  · exact offJ_at (h1 h)
  · have : j = 9 := by omega
    subst this
    rw [h2 rfl]
    rfl

set_option maxRecDepth 10000 in
set_option maxHeartbeats 6400000 in
theorem read_any {w : World} {A : Option Addr} {l : List UInt8} (hr : Rd w w.heap.size A l) (c : Nat) (hlc : l.length ≤ c) (hl : l.length ≤ 140737488355328) (t m s : Int) (off n : Nat) (hn1 : 1 ≤ n) (hn : n ≤ 64) (hin : off + n * 64 ≤ l.length) :
    Calls Tryz.prog 48 #[.slice A l.length c, hdV t m off n s] w fun r w' => ∃ v, r = .returned (.tuple #[v, .int .i64 (errUp l off n)]) ∧ (errUp l off n = 0 → OwnE w' w.heap.size v (entsT l off n)) ∧ Below w.heap.size w w' := by
  obtain ⟨i1, hj, hy0, hy1, hy2⟩ := info_parts ent_info
  obtain ⟨b, q, rfl, hb, _⟩ := hr (by omega)
  obtain ⟨nb, hnb⟩ : ∃ nb, n * 64 = nb := ⟨_, rfl⟩
  have hcut := rd_cut hr off nb
  rw [Option.map_some, addr_add] at hcut
  have hpl : ((l.drop off).take nb).length = nb := by simp; omega
  have hb0 : Below w.heap.size w (w.alloc (.cells #[.int .i64 t, .int .i64 m, .int .u64 (off : Int), .int .i64 (n : Int), .int .i64 s] 55)) := (Below.refl _ _).alloc (Nat.le_refl _) _
  have hX0 := Box.new w 55 #[.int .i64 t, .int .i64 m, .int .u64 (off : Int), .int .i64 (n : Int), .int .i64 s]
  have HN := Lib.hid (fun (cc : Nat) => new_any (w := (w.alloc (.cells #[.int .i64 t, .int .i64 m, .int .u64 (off : Int), .int .i64 (n : Int), .int .i64 s] 55)).drew) cc (hcut.below hb0.drew) (by simp) (by rw [hpl]; omega))
  rw [hpl] at HN
  have HPC := Lib.hid (fun f s (h : f + s ≤ nb) => numT_cut l off nb f s h)
  have hmul : (n : Int) * 64 = (nb : Int) := by omega
  have hnb2 : nb ≤ 4096 := by omega
  have hw1 : IntKind.i64.wrap (nb : Int) = (nb : Int) := by rw [IntKind.wrap_i64]; omega
  have hoc : off < c := by omega
  have hoc2 : ¬ c = off := by omega
  have hon : off ≤ l.length := by omega
  have honb : nb ≤ c - off := by omega
  have HNB := Lib.hid hnb
  have HPL := Lib.hid hpl
  have HR := Lib.hid hr
  have HINb := Lib.hid hin
  clear hr hcut hpl hin hnb hlc
  generalize hp : (l.drop off).take nb = p at *
  clear hp
  have KS := Lib.hid (fun (W : World) (hW : Below (w.heap.size + 1) (w.alloc (.cells #[.int .i64 t, .int .i64 m, .int .u64 (off : Int), .int .i64 (n : Int), .int .i64 s] 55)) W) => (⟨(hX0.below hW (by omega)).cell 2, (hX0.below hW (by omega)).cell 3⟩ :
    W.cell? ⟨w.heap.size, 2, none⟩ = some (.int .u64 (off : Int)) ∧ W.cell? ⟨w.heap.size, 3, none⟩ = some (.int .i64 (n : Int))))
  have hsz0 : (w.alloc (.cells #[.int .i64 t, .int .i64 m, .int .u64 (off : Int), .int .i64 (n : Int), .int .i64 s] 55)).heap.size = w.heap.size + 1 := by simp
  have hbd : Below (w.heap.size + 1) (w.alloc (.cells #[.int .i64 t, .int .i64 m, .int .u64 (off : Int), .int .i64 (n : Int), .int .i64 s] 55)) (w.alloc (.cells #[.int .i64 t, .int .i64 m, .int .u64 (off : Int), .int .i64 (n : Int), .int .i64 s] 55)).drew := (Below.refl _ _).drew
  have HE := Lib.hid (show errUp l off n = errUp l off n from rfl)
  have HB0 := Lib.hid hb0
  clear hb0 hX0
  generalize hln : l.length = ln at *
  go_enter Tryz.func48, Tryz.ntmps48
  go_wp2_with fail
  generalize w.alloc (.cells #[.int .i64 t, .int .i64 m, .int .u64 (off : Int), .int .i64 (n : Int), .int .i64 s] 55) = w0 at *
  go_region_held_law (fun W => W.cell? ⟨w.heap.size, 2, none⟩ = some (.int .u64 (off : Int)) ∧ W.cell? ⟨w.heap.size, 3, none⟩ = some (.int .i64 (n : Int))) ((refine KS.out _ ?_; first | exact hbd | exact hB1))
    (first | (go_at_call 81; refine (HN.out _).mono ?_; rintro r w1 ⟨gc, vc, rfl, hM1, hb1⟩; have hB1 : Below (w.heap.size + 1) w0 w1 := hbd.trans (hb1.mono (by exact Nat.le_of_eq hsz0.symm))))
  obtain ⟨k2, k3⟩ := KS.out _ hB1
  have hm1 : i1.bytes * n ≤ 281474976710656 := by rw [hy2]; omega
  have hm2 : n ≤ maxLen := by unfold maxLen; omega
  have hs1 : w.heap.size + 1 ≤ w1.heap.size := by rw [← hsz0]; exact hB1.size
  go_wp2_with (at_make; refine wpList_make_full _ rfl _ _ 94 rfl w1.heap.size 120 i1 _ 10 Tryz.underlying94 hj hy0 hy1 .i64 .i64 (n : Int) (n : Int) n rfl rfl rfl rfl hm1 hm2 (Nat.le_refl _) ?_; intro w2 hown2 hg2)
  have hC1 := hM1.1
  have hgc : w.heap.size + 1 ≤ gc := by have := hM1.2.1; rw [← hsz0]; exact this
  have hgl : gc < w1.heap.size := hC1.1.lt
  have hvc : ∀ k, vc.ownBlock = some k → k < w1.heap.size := fun k hk => (own_ge hC1.2.1 k hk).2
  have hb12 : Below w1.heap.size w1 w2 := below_of_only hg2 (Nat.le_refl _) (by simp)
  have HC2 := Lib.hid (hC1.below hb12)
  have HW2 := Lib.hid hown2
  have HB2 := Lib.hid ((HB0.out.trans (hB1.mono (by omega))).trans (hb12.mono (by omega)))
  have hw2s : w.heap.size ≤ w2.heap.size := HB2.out.size
  have hle2 := hb12.size
  clear HN KS hsz0 hbd hM1 hb1 hB1 k2 k3 hm1 hm2 hown2 hg2 hC1 hb12 HB0 hoc hoc2 honb hb
  generalize w1.heap.size = ge at *
  have hgcne : gc ≠ ge := by omega
  have hvcne : vc.ownBlock ≠ some ge := fun e => by have := hvc ge e; omega
  have hbg : w.heap.size ≤ ge := by omega
  have hbgc : w.heap.size ≤ gc := by omega
  clear hvc
  go_loopw [27] (fun i wr => ∃ k : Nat, k ≤ n ∧ i = .int .i64 k ∧ Hid (errUp l off k = 0) ∧ (∃ X, wr.ownsRow ge 120 10 (.slice (some ⟨ge, 0, none⟩) n n) n X ∧ Known l off X k 0) ∧ Cur wr gc vc p (64 * k) 0 ∧ Only w.heap.size ReadObj w2 wr) (fun i _ => n - (intOf i).toNat)
  case atStart => exact ⟨0, Nat.zero_le _, rfl, Lib.hid rfl, ⟨_, HW2.out, fun i j x hi => by omega⟩, HC2.out, Only.refl _ _ _⟩
  case round =>
    obtain ⟨k, hk, rfl, HER, ⟨X, hX, hKn⟩, hC, hOn⟩ := hrel
    by_cases hlt : k < n
    · have hN := numbers_at ge (k * 10) wr
      have HX := Lib.hid hX
      have HKn := Lib.hid hKn
      have HC := Lib.hid hC
      have HOn := Lib.hid hOn
      have hws : w2.heap.size ≤ wr.heap.size := hOn.1.size
      have hkn : k < n := hlt
      clear hX hKn hC hOn HC2 HW2
      go_wp2_with (go_at_call 62; refine hN.mono ?_; rintro r w4 ⟨rfl, hx4, hb4⟩)
      have HX4 := Lib.hid hx4
      have HR4 := Lib.hid (row_below HX.out hb4)
      have HC4 := Lib.hid (HC.out.below hb4)
      have HOn4 := Lib.hid (HOn.out.trans (Only.below (bad := ReadObj) hb4 (Nat.le_trans hw2s hws)))
      have hs4 : wr.heap.size ≤ w4.heap.size := hb4.size
      clear hx4 hb4 hN HX HC HOn
      generalize hH : wr.heap.size = H at *
      clear hH
      generalize wr = wx at *
      have hkl : k * 64 + 64 ≤ nb := by have := HNB.out; omega
      go_loopw [36] (fun i wr => ∃ j : Nat, j ≤ 10 ∧ i = .int .i64 j ∧ (∃ X, wr.ownsRow ge 120 10 (.slice (some ⟨ge, 0, none⟩) n n) n X ∧ Known l off X k j) ∧ Cur wr gc vc p (64 * k + offJ j) 0 ∧ Only w.heap.size ReadObj w4 wr) (fun i _ => 10 - (intOf i).toNat)
      case atStart => exact ⟨0, Nat.zero_le _, rfl, ⟨X, HR4.out, HKn.out⟩, HC4.out, Only.refl _ _ _⟩
      case round =>
        obtain ⟨j, hj, rfl, ⟨X, hX, hKn⟩, hC, hOn⟩ := hrel
        by_cases hjl : j < 10
        · obtain ⟨f, hf⟩ : ∃ f, offsN[j]? = some f := ⟨offsN[j]'(by show j < 10; exact hjl), List.getElem?_eq_getElem _⟩
          obtain ⟨sz, hq⟩ : ∃ q, sizesN[j]? = some q := ⟨sizesN[j]'(by show j < 10; exact hjl), List.getElem?_eq_getElem _⟩
          obtain ⟨_, _, hfs, hs8⟩ := offs_next hf hq
          have hoj := offJ_at hf
          have hoj1 := offJ_next hf hq
          rw [hoj] at hC
          have hxe := entN_at l (off + 64 * k) j f sz hf hq
          have hnum := HPC.out (64 * k + f) sz (by omega)
          rw [← Nat.add_assoc] at hnum
          obtain ⟨n0, n1⟩ := numV_at ge (k * 10) j sz hq
          have hXn : Box wr H 125 (numV ge (k * 10)).toArray := hOn.2 _ _ HX4.out (read_not (by decide) (by decide) _ _)
          have d0 : wr.cell? ⟨H, j * 2, none⟩ = some (.pointer (some ⟨ge, k * 10 + j, none⟩)) := by rw [hXn.cell]; simpa using n0
          have d1 : wr.cell? ⟨H, j * 2 + 1, none⟩ = some (.int .i64 (sz : Int)) := by rw [hXn.cell]; simpa using n1
          have hb0 : Below wr.heap.size wr (wr.alloc (.cells #[.pointer (some ⟨ge, k * 10 + j, none⟩), .int .i64 (sz : Int)] 125)) := (Below.refl _ _).alloc (Nat.le_refl _) _
          have hX0 := Box.new wr 125 #[.pointer (some ⟨ge, k * 10 + j, none⟩), .int .i64 (sz : Int)]
          have hC0 := hC.below hb0
          have hR0 := row_below hX hb0
          have hss : w.heap.size ≤ wr.heap.size := Nat.le_trans (Nat.le_trans (Nat.le_trans hw2s hws) hs4) hOn.1.size
          have hclamp : clampOf (sz : Int) = sz := by unfold clampOf; omega
          have hgot : nextGot p (64 * k + f) 0 sz = (p.drop (64 * k + f)).take sz := by unfold nextGot; rw [if_pos ⟨rfl, by rw [HPL.out]; omega⟩]
          have hnat : nextAt p (64 * k + f) 0 sz = 64 * k + f + sz := by unfold nextAt; rw [if_pos ⟨rfl, by rw [HPL.out]; omega⟩]
          have hner : nextErr p (64 * k + f) 0 sz = 0 := by unfold nextErr; rw [if_pos rfl, if_pos (by rw [HPL.out]; omega)]
          have HU := Lib.hid (fun (W : World) (hW : Cur W gc vc p (64 * k + f) 0) => uint_cur hW (sz : Int) (by omega) (by rw [HPL.out]; omega))
          rw [hclamp, hgot, hnat, hner, show leNat ((p.drop (64 * k + f)).take sz) = numT p (64 * k + f) sz from rfl, hnum] at HU
          generalize numT l (off + 64 * k + f) sz = x at *
          have hOn0 := hOn.trans (Only.below (bad := ReadObj) hb0 hss)
          have hlX : k * 10 + j < X.length := by rw [hX.1]; omega
          have HK1 := Lib.hid (known_next hKn hxe hlX hjl)
          have HOn0 := Lib.hid hOn0
          have HC0 := Lib.hid hC0
          have HR0 := Lib.hid hR0
          have HOJ := Lib.hid hoj1
          have HLX := Lib.hid hlX
          have hO6 : Only w.heap.size ReadObj (wr.alloc (.cells #[.pointer (some ⟨ge, k * 10 + j, none⟩), .int .i64 (sz : Int)] 125)) (wr.alloc (.cells #[.pointer (some ⟨ge, k * 10 + j, none⟩), .int .i64 (sz : Int)] 125)).drew := Only.drew (Only.refl _ _ _)
          have KS := Lib.hid (fun (W : World) (hW : Only w.heap.size ReadObj (wr.alloc (.cells #[.pointer (some ⟨ge, k * 10 + j, none⟩), .int .i64 (sz : Int)] 125)) W) => (by
            have h1 : Box W wr.heap.size 125 _ := hW.2 _ _ hX0 (read_not (by decide) (by decide) _ _)
            exact ⟨h1.cell 0, h1.cell 1⟩ :
            W.cell? ⟨wr.heap.size, 0, none⟩ = some (.pointer (some ⟨ge, k * 10 + j, none⟩)) ∧ W.cell? ⟨wr.heap.size, 1, none⟩ = some (.int .i64 (sz : Int))))
          clear hf hq hfs hs8 hoj hoj1 hxe hnum n0 n1 hXn hX0 hb0 hC0 hR0 hclamp hgot hnat hner hOn0 hOn hC hX hKn hlX
          go_wp2_with fail
          generalize hT : wr.heap.size = T at *
          generalize hw6 : wr.alloc (.cells #[.pointer (some ⟨ge, k * 10 + j, none⟩), .int .i64 (sz : Int)] 125) = w6 at *
          clear hw6 hT d0 d1
          go_region_held_law (fun W => W.cell? ⟨T, 0, none⟩ = some (.pointer (some ⟨ge, k * 10 + j, none⟩)) ∧ W.cell? ⟨T, 1, none⟩ = some (.int .i64 (sz : Int)))
            ((refine KS.out _ ?_; first | exact hO6 | exact hO9 | exact hO10))
            (first
              | (go_at_call 87; refine (HU.out _ (by exact HC0.out)).mono ?_; rintro r w9 ⟨rfl, hC9, hg9⟩; obtain ⟨ho9, ⟨v9, hcell⟩, hfree, HST⟩ := after_uint (W := w6.drew) HC0.out HR0.out hg9 hbgc hbg HLX.out; have hO9 := hO6.trans ho9; have hO10 := hO6.trans (HST (.int .u64 (x : Int))).2.2; have HST' := Lib.hid (HST (.int .u64 (x : Int))); clear HST ho9 hg9))
          have hC10 := cur_entry hC9 HST'.out.2.1 hgcne hvcne
          rw [Nat.add_assoc, ← HOJ.out] at hC10
          have HC10 := Lib.hid hC10
          have HO10 := Lib.hid (HOn0.out.trans hO10)
          clear hC9 hO9 hO10 hC10 hcell hfree KS HU
          go_wp2_with fail
          go_roundw
          case rel => exact ⟨j + 1, by omega, by go_num, ⟨_, HST'.out.1, HK1.out⟩, HC10.out, HO10.out⟩
          case measure => simp [intOf]; omega
        · have hj10 : j = 10 := by omega
          subst hj10
          have hEA : EntAt wr ge (k * 10) (entN l (off + 64 * k)) := ⟨entN_length _ _, fun j x hx => by
            have hj : j < 10 := by rw [← entN_length l (off + 64 * k)]; exact (List.getElem?_eq_some_iff.1 hx).1
            rw [World.ownsRow.cellAt (g := ge) (cap := n) hX (k * 10 + j) (by omega)]
            exact hKn k j x (.inr ⟨rfl, hj⟩) hj hx⟩
          have hRF := refusal_at hEA (entN_lt _ _) l.length (by rw [hln]; exact hl)
          rw [hln] at hRF
          have HRF := Lib.hid hRF
          have HER1 := Lib.hid (show errUp l off (k + 1) = entE (entN l (off + 64 * k)) ln by rw [errUp, if_neg (by simp [HER.out]), hln])
          have hss : w.heap.size ≤ wr.heap.size := Nat.le_trans (Nat.le_trans (Nat.le_trans hw2s hws) hs4) hOn.1.size
          have HOn := Lib.hid (HOn4.out.trans hOn)
          have HKX := Lib.hid (known_row hKn)
          have HXR := Lib.hid hX
          have HCC := Lib.hid (show Cur wr gc vc p (64 * (k + 1)) 0 from hC)
          clear hEA hRF hOn hX hKn hC
          generalize entE (entN l (off + 64 * k)) ln = ev at *
          by_cases he : ev = 0
          · have q1 : (ev != 0) = false := by simp [he]
            have HZ := Lib.hid (show errUp l off (k + 1) = 0 by rw [HER1.out, he])
            clear he
            go_wp2_with (go_at_call 88; refine HRF.out.mono ?_; rintro r w9 ⟨rfl, hb9⟩; have HB9 := Lib.hid hb9; clear hb9)
            go_roundw
            case rel => exact ⟨k + 1, by omega, by go_num, HZ, ⟨X, row_below HXR.out HB9.out, HKX.out⟩, HCC.out.below HB9.out, HOn.out.trans (Only.below (bad := ReadObj) HB9.out hss)⟩
            case measure => simp [intOf]; omega
          · have q1 : (ev != 0) = true := by simpa using he
            have HZ := Lib.hid (show errUp l off n = ev by
              rw [errUp_stays (k := k + 1) (by rw [HER1.out]; exact he) n (by omega), HER1.out])
            have HNZ := Lib.hid he
            clear he
            go_wp2_with (go_at_call 88; refine HRF.out.mono ?_; rintro r w9 ⟨rfl, hb9⟩; have HB9 := Lib.hid hb9; clear hb9)
            go_ret2
            exact ⟨_, by rw [HZ.out]; rfl, fun h => absurd (by rw [← HZ.out]; exact h) HNZ.out, HB2.out.trans (HOn.out.1.trans (HB9.out.mono hss))⟩
    · have hkn : k = n := by omega
      subst hkn
      have HXF := Lib.hid (show OwnE wr w.heap.size (.slice (some ⟨ge, 0, none⟩) k k) (entsT l off k) by
        have hXc := known_all hKn hX.1
        rw [hXc] at hX
        rw [OwnE, entsT_length]
        exact row_base hX hbg)
      have HBF := Lib.hid (HB2.out.trans hOn.1)
      clear hX hKn hC hOn
      go_wp2_with fail
      go_ret2
      exact ⟨_, by rw [HER.out]; rfl, fun _ => HXF.out, HBF.out⟩

end Go.Proofs.YtldmjnbmjfnfeaaGreatDoor

namespace Go.Proofs.YtldmjnbmjfnfeaaGreatDoor
open Go Go.RowKit

def nameN (ns : List Nat) : Nat := ns.getD 0 0
def kindN (ns : List Nat) : Nat := ns.getD 1 0
/-- An entry's section; tbl: the table of names. -/
def sectT (l tbl : List UInt8) (ns : List Nat) : Sect :=
  ⟨(atT tbl (nameN ns)).1, (kindN ns : Int), ns.getD 2 0, ns.getD 3 0, dataT l ns, (ns.getD 6 0 : Int), (ns.getD 7 0 : Int), (ns.getD 8 0 : Int), (ns.getD 9 0 : Int)⟩
def tblT (l : List UInt8) (off sh : Nat) : List UInt8 := dataT l (entN l (off + 64 * sh))
/-- Whether the first k names can be read. -/
def namesOk (l tbl : List UInt8) (off k : Nat) : Prop := ∀ i, i < k → (atT tbl (nameN (entN l (off + 64 * i)))).2 = 0
instance (l tbl : List UInt8) (off k : Nat) : Decidable (namesOk l tbl off k) := Nat.decidableBallLT k fun i _ => (atT tbl (nameN (entN l (off + 64 * i)))).2 = 0
/-- What the sections are refused with, behind what entries are refused with by themselves. -/
def tellE (l : List UInt8) (off n sh : Nat) : Int :=
  if entN l off = List.replicate 10 0 ∧ kindN (entN l (off + 64 * sh)) = 3 ∧ namesOk l (tblT l off sh) off n then 0 else 22
def secsT (l : List UInt8) (off n sh : Nat) : List Sect := (List.range n).map fun i => sectT l (tblT l off sh) (entN l (off + 64 * i))
theorem secsT_next (l : List UInt8) (off k sh : Nat) : secsT l off (k + 1) sh = secsT l off k sh ++ [sectT l (tblT l off sh) (entN l (off + 64 * k))] := by
  simp [secsT, List.range_succ]

/-- Sections that were told: a row of the call's own, their bytes rows of the call's own. -/
def Told (w : World) (base : Nat) (v : Value) (ss : List Sect) : Prop := ∃ L : List Lay, secsOf L = ss ∧ OwnL w base v L ∧ ∀ x ∈ L, Own w base x.dv x.s.data
theorem Told.below {w w' : World} {base : Nat} {v : Value} {ss : List Sect} (h : Told w base v ss) (hb : Below w.heap.size w w') : Told w' base v ss := by
  obtain ⟨L, h1, h2, h3⟩ := h
  exact ⟨L, h1, row_below h2 hb, fun x hx => own_below (h3 x hx) hb⟩
theorem Told.base_ {w : World} {base base' : Nat} {v : Value} {ss : List Sect} (h : Told w base v ss) (hb : base' ≤ base) : Told w base' v ss := by
  obtain ⟨L, h1, h2, h3⟩ := h
  exact ⟨L, h1, row_base h2 hb, fun x hx => own_up (h3 x hx) hb⟩
theorem Told.length {w : World} {base : Nat} {v : Value} {ss : List Sect} (h : Told w base v ss) : ∃ L : List Lay, L.length = ss.length ∧ secsOf L = ss := by
  obtain ⟨L, h1, _⟩ := h
  exact ⟨L, by rw [← h1]; simp, h1⟩
/-- One section more. -/
theorem told_snoc {w w' : World} {base base' g c : Nat} {ss : List Sect} {L : List Lay} {x : Lay} (h1 : secsOf L = ss) (h3 : ∀ y ∈ L, Own w base y.dv y.s.data) (hx : Own w base x.dv x.s.data)
    (hr : w'.ownsRow base 39 9 (.slice (some ⟨g, 0, none⟩) (L.length + 1) c) (L.length + 1) (cellsL L ++ x.cells)) (ho : Only base' (CellsOf 39) w w') : Told w' base (.slice (some ⟨g, 0, none⟩) (L.length + 1) c) (ss ++ [x.s]) := by
  refine ⟨L ++ [x], by simp [secsOf, ← h1], ?_, fun y hy => ?_⟩
  · rw [OwnL, cellsL_append, show cellsL [x] = x.cells by simp [cellsL], List.length_append]
    exact hr
  · have : Own w base y.dv y.s.data := by
      rcases List.mem_append.1 hy with hy | hy
      · exact h3 y hy
      · rw [List.mem_singleton.1 hy]; exact hx
    exact row_only this ho (fun cs f hh => absurd (show 5 = 39 from hh) (by decide))

theorem dataT_len (l : List UInt8) (ns : List Nat) (hl : ns.length = 10) (h : entE ns l.length = 0) : (dataT l ns).length ≤ 65536 := by
  match ns, hl with
  | [nm, kd, fl, ad, pl, sz, lk, inf, al, ec], _ =>
    have hd : dataT l [nm, kd, fl, ad, pl, sz, lk, inf, al, ec] = if kd = 0 then [] else if kd = 8 then List.replicate sz 0 else (l.drop pl).take sz := rfl
    rw [hd]
    rcases entE_zero h with hk | ⟨hk, hsz⟩ | ⟨hk0, hk8, hin, hsz⟩
    · rw [if_pos hk]; exact Nat.zero_le _
    · rw [if_neg (by omega), if_pos hk, List.length_replicate]; exact hsz
    · rw [if_neg hk0, if_neg hk8]
      exact Nat.le_trans (List.length_take_le _ _) hsz
theorem cells_at (x : Lay) (w : World) (t : TypeId) (j : Nat) (u : Value) (h : x.cells[j]? = some u) : (w.alloc (.cells x.cells.toArray t)).cell? ((⟨w.heap.size, 0, none⟩ : Addr).add j) = some u := by
  rw [addr_add, Nat.zero_add, (Box.new w t x.cells.toArray).cell]
  simpa using h
theorem namesOk_next {l tbl : List UInt8} {off k : Nat} (h : namesOk l tbl off k) (hk : (atT tbl (nameN (entN l (off + 64 * k)))).2 = 0) : namesOk l tbl off (k + 1) := fun i hi => by
  rcases Nat.lt_or_ge i k with h1 | h1
  · exact h i h1
  · rw [show i = k by omega]; exact hk

theorem wrap_small (x : Nat) (h : x ≤ 2147483647) : IntKind.i64.wrap (x : Int) = (x : Int) := by rw [IntKind.wrap_i64]; omega

set_option maxRecDepth 10000 in
set_option maxHeartbeats 6400000 in
theorem tell_any {w : World} {A : Option Addr} {l : List UInt8} (hr : Rd w w.heap.size A l) (c : Nat) (hlc : l.length ≤ c) (hl : l.length ≤ 140737488355328) (t m : Int) (off n sh : Nat) (hn : n ≤ 64) (hsh : sh < n) (hin : off + n * 64 ≤ l.length)
    {be : Nat} {v : Value} (hE : OwnE w be v (entsT l off n)) (h0 : errUp l off n = 0) :
    Calls Tryz.prog 49 #[.slice A l.length c, hdV t m off n sh, v] w fun r w' => ∃ u, r = .returned (.tuple #[u, .int .i64 (tellE l off n sh)]) ∧ (tellE l off n sh = 0 → Told w' w.heap.size u (secsT l off n sh)) ∧ Below w.heap.size w w' := by
  have hpos : 0 < l.length := by omega
  have hn1 : 0 < n := by omega
  obtain ⟨ge, ce, rfl, _, hge, hce⟩ := owne_form hE (by rw [entsT_length]; exact hn1)
  rw [OwnE, entsT_length] at hE
  rw [entsT_length] at hce ⊢
  have hb0 : Below w.heap.size w (w.alloc (.cells #[.int .i64 t, .int .i64 m, .int .u64 (off : Int), .int .i64 (n : Int), .int .i64 (sh : Int)] 55)) := (Below.refl _ _).alloc (Nat.le_refl _) _
  have hX0 := Box.new w 55 #[.int .i64 t, .int .i64 m, .int .u64 (off : Int), .int .i64 (n : Int), .int .i64 (sh : Int)]
  have hcE := fun (i j x : Nat) (hi : i < n) (hx : (entN l (off + 64 * i))[j]? = some x) => (show w.cell? ⟨ge, i * 10 + j, none⟩ = some (.int .u64 (x : Int)) by
    have hj : j < 10 := by rw [← entN_length l (off + 64 * i)]; exact (List.getElem?_eq_some_iff.1 hx).1
    rw [World.ownsRow.cellAt (g := ge) (cap := ce) hE (i * 10 + j) (by omega)]
    exact cellsE_at _ (entsT_tens l off n) i _ j x (entsT_get l off n i hi) hx)
  have HEA := Lib.hid (fun (W : World) (hW : Below w.heap.size w W) (i : Nat) (hi : i < n) => (show EntAt W ge (i * 10) (entN l (off + 64 * i)) from
    ⟨entN_length _ _, fun j x hx => by rw [hW.cell (p := ⟨ge, i * 10 + j, none⟩) hge]; exact hcE i j x hi hx⟩))
  have HRD := Lib.hid hr
  have HOK := Lib.hid (errUp_ok h0)
  have HLC := Lib.hid hlc
  have HLL := Lib.hid hl
  clear hcE hE hr h0 hlc hl hin
  have e0 := HEA.out w (Below.refl _ _) 0 (by omega)
  obtain ⟨a0, a1, a2, a3, a4, a5, a6, a7, a8, a9, h10⟩ : ∃ a0 a1 a2 a3 a4 a5 a6 a7 a8 a9 : Nat, entN l (off + 64 * 0) = [a0, a1, a2, a3, a4, a5, a6, a7, a8, a9] := ⟨_, _, _, _, _, _, _, _, _, _, rfl⟩
  rw [h10] at e0
  have f0 := (e0.below hb0 hge).2 0 _ rfl
  have f1 := (e0.below hb0 hge).2 1 _ rfl
  have f2 := (e0.below hb0 hge).2 2 _ rfl
  have f3 := (e0.below hb0 hge).2 3 _ rfl
  have f4 := (e0.below hb0 hge).2 4 _ rfl
  have f5 := (e0.below hb0 hge).2 5 _ rfl
  have f6 := (e0.below hb0 hge).2 6 _ rfl
  have f7 := (e0.below hb0 hge).2 7 _ rfl
  have f8 := (e0.below hb0 hge).2 8 _ rfl
  have f9 := (e0.below hb0 hge).2 9 _ rfl
  simp only [Nat.zero_mul, Nat.zero_add] at f0 f1 f2 f3 f4 f5 f6 f7 f8 f9
  have HNQ := Lib.hid (fun W => neq_entry [a0, a1, a2, a3, a4, a5, a6, a7, a8, a9] (List.replicate 10 0) rfl rfl W)
  have hbq : ([a0, a1, a2, a3, a4, a5, a6, a7, a8, a9] == List.replicate 10 0) = decide (entN l off = List.replicate 10 0) := by
    rw [show off = off + 64 * 0 from rfl, h10, Bool.eq_iff_iff, beq_iff_eq, decide_eq_true_eq]
  rw [hbq] at HNQ
  have HT := Lib.hid (show tellE l off n sh = if entN l off = List.replicate 10 0 ∧ kindN (entN l (off + 64 * sh)) = 3 ∧ namesOk l (tblT l off sh) off n then 0 else 22 from rfl)
  by_cases hz : entN l off = List.replicate 10 0
  · rw [decide_eq_true hz] at HNQ
    have hnq := HNQ.out
    rw [show entV [a0, a1, a2, a3, a4, a5, a6, a7, a8, a9] = .agg #[.int .u64 (a0 : Int), .int .u64 (a1 : Int), .int .u64 (a2 : Int), .int .u64 (a3 : Int), .int .u64 (a4 : Int), .int .u64 (a5 : Int), .int .u64 (a6 : Int), .int .u64 (a7 : Int), .int .u64 (a8 : Int), .int .u64 (a9 : Int)] from rfl, show entV (List.replicate 10 0) = .agg #[.int .u64 0, .int .u64 0, .int .u64 0, .int .u64 0, .int .u64 0, .int .u64 0, .int .u64 0, .int .u64 0, .int .u64 0, .int .u64 0] from rfl] at hnq
    have HB0 := Lib.hid hb0
    have es := HEA.out w (Below.refl _ _) sh hsh
    obtain ⟨kd, hkd⟩ : ∃ kd, kindN (entN l (off + 64 * sh)) = kd := ⟨_, rfl⟩
    have g1 := (es.below hb0 hge).2 1 kd (by rw [← hkd]; rfl)
    have hX4 := hX0.cell 4
    simp at hX4
    clear hX0 e0 hbq h10 HNQ es
    by_cases hk : kd = 3
    · have q3 : ((kd : Int) != 3) = false := by simp [hk]
      have HT2 := Lib.hid (show tellE l off n sh = if namesOk l (tblT l off sh) off n then 0 else 22 by
        rw [HT.out]
        by_cases hno : namesOk l (tblT l off sh) off n
        · rw [if_pos ⟨hz, hkd.trans hk, hno⟩, if_pos hno]
        · rw [if_neg (fun h => hno h.2.2), if_neg hno])
      have HDT := Lib.hid (data_at (HEA.out _ hb0 sh hsh) (HRD.out.below hb0) hb0.size c HLC.out HLL.out (HOK.out sh hsh) hpos)
      have htl : (tblT l off sh).length ≤ 140737488355328 := by
        have : (dataT l (entN l (off + 64 * sh))).length ≤ 65536 := dataT_len l _ (entN_length _ _) (HOK.out sh hsh)
        exact Nat.le_trans this (by decide)
      rw [show dataT l (entN l (off + 64 * sh)) = tblT l off sh from rfl] at HDT
      have HEN := Lib.hid (show ∀ i, i < n → entE (entN l (off + 64 * i)) l.length = 0 from HOK.out)
      have HST := Lib.hid (show ∀ k, secsT l off (k + 1) sh = secsT l off k sh ++ [sectT l (tblT l off sh) (entN l (off + 64 * k))] from fun k => secsT_next l off k sh)
      clear HT hz hk hkd HOK hb0
      generalize tellE l off n sh = te at *
      generalize tblT l off sh = tbl at *
      have hln := hpos
      generalize hll : l.length = ln at *
      go_enter Tryz.func49, Tryz.ntmps49
      obtain ⟨i2, hj2, hy0, hy1, hy2⟩ := info_parts sect_info
      have hmk : i2.bytes * n ≤ 281474976710656 := by rw [hy2]; omega
      have hmx : n ≤ maxLen := by unfold maxLen; omega
      go_wp2_with (first
        | (go_at_call 89; refine HDT.out.mono ?_; rintro r w1 ⟨v1, rfl, hown1, hb1⟩; have HO1 := Lib.hid hown1; have HB1 := Lib.hid (HB0.out.trans (hb1.mono HB0.out.size)); (obtain ⟨A1, c1, rfl, hc1, _, hrd1⟩ := own_slice hown1); clear hown1 hb1 HDT; have HW1 := Lib.hid HB1.out)
        | (at_make; refine wpList_make_own _ rfl _ _ 24 rfl w1.heap.size 39 i2 _ 9 Tryz.underlying24 hj2 hy0 hy1 .i64 .i64 (n : Int) n rfl rfl rfl hmk hmx (Nat.le_refl _) ?_; intro w2 hr2 hg2))
      have hb2 : Below w1.heap.size w1 w2 := below_of_only hg2 (Nat.le_refl _) (by simp)
      have HL2 := Lib.hid (show OwnL w2 w1.heap.size (.slice (some ⟨w1.heap.size, 0, none⟩) 0 n) [] from hr2)
      have HB2 := Lib.hid (HB1.out.trans (hb2.mono HB1.out.size))
      have HRD1 := Lib.hid hrd1
      have hs12 := hb2.size
      have hws1 : w.heap.size ≤ w1.heap.size := HB1.out.size
      have HB12 := Lib.hid hb2
      clear hr2 hg2 hb2 hrd1 f0 f1 f2 f3 f4 f5 f6 f7 f8 f9 hmk hmx HB1 HO1
      generalize hBB : w1.heap.size = BB at *
      have HBB := Lib.hid hBB
      clear hBB
      go_loopw [9, 39] (fun u i wr => ∃ k : Nat, k ≤ n ∧ i = .int .i64 k ∧ Hid (namesOk l tbl off k) ∧ (∃ L, secsOf L = secsT l off k sh ∧ OwnL wr BB u L ∧ ∀ x ∈ L, Own wr BB x.dv x.s.data) ∧ Below BB w1 wr) (fun _ i _ => n - (intOf i).toNat)
      case atStart => exact ⟨0, Nat.zero_le _, rfl, Lib.hid (fun i hi => by omega), ⟨[], rfl, HL2.out, by simp⟩, HB12.out⟩
      case round =>
        obtain ⟨k, hk, rfl, HNO, ⟨L, hLs, hL, hLd⟩, hBl⟩ := hrel
        have hLl : L.length = k := by
          have := congrArg List.length hLs
          simpa [secsT] using this
        by_cases hlt : k < n
        · have hWr := HW1.out.trans (hBl.mono hws1)
          have eA := HEA.out wr hWr k hlt
          have hE0 := HEN.out k hlt
          have hbd := entN_lt l (off + 64 * k)
          have hbs : BB ≤ wr.heap.size := by rw [← HBB.out]; exact hBl.size
          have HSN := Lib.hid (HST.out k)
          have hNN : namesOk l tbl off k → (atT tbl (nameN (entN l (off + 64 * k)))).2 = 0 → namesOk l tbl off (k + 1) := namesOk_next
          have hNB : (atT tbl (nameN (entN l (off + 64 * k)))).2 ≠ 0 → ¬ namesOk l tbl off n := fun h hh => h (hh k hlt)
          obtain ⟨b0, b1, b2, b3, b4, b5, b6, b7, b8, b9, h10⟩ : ∃ a0 a1 a2 a3 a4 a5 a6 a7 a8 a9 : Nat, entN l (off + 64 * k) = [a0, a1, a2, a3, a4, a5, a6, a7, a8, a9] := ⟨_, _, _, _, _, _, _, _, _, _, rfl⟩
          rw [h10] at eA hE0 hbd HSN hNN hNB
          have c0 := eA.2 0 _ rfl
          have c1' := eA.2 1 _ rfl
          have c2 := eA.2 2 _ rfl
          have c3 := eA.2 3 _ rfl
          have c4 := eA.2 4 _ rfl
          have c5 := eA.2 5 _ rfl
          have c6 := eA.2 6 _ rfl
          have c7 := eA.2 7 _ rfl
          have c8 := eA.2 8 _ rfl
          have c9 := eA.2 9 _ rfl
          rw [Nat.add_zero] at c0
          have hb0 : Below wr.heap.size wr (wr.alloc (.cells #[.int .u64 (b0 : Int), .int .u64 (b1 : Int), .int .u64 (b2 : Int), .int .u64 (b3 : Int), .int .u64 (b4 : Int), .int .u64 (b5 : Int), .int .u64 (b6 : Int), .int .u64 (b7 : Int), .int .u64 (b8 : Int), .int .u64 (b9 : Int)] 120)) := (Below.refl _ _).alloc (Nat.le_refl _) _
          have hX0 := Box.new wr 120 #[.int .u64 (b0 : Int), .int .u64 (b1 : Int), .int .u64 (b2 : Int), .int .u64 (b3 : Int), .int .u64 (b4 : Int), .int .u64 (b5 : Int), .int .u64 (b6 : Int), .int .u64 (b7 : Int), .int .u64 (b8 : Int), .int .u64 (b9 : Int)]
          have HAT := Lib.hid (at_any ((HRD1.out.below hBl).below (hb0.mono hbs)) (Nat.le_trans hbs hb0.size) c1 hc1 htl b0 (hbd b0 (by simp)))
          have hsm := entE_small hE0
          simp only [smallN, List.all_cons, List.all_nil, Bool.and_true, Bool.and_eq_true, decide_eq_true_eq] at hsm
          obtain ⟨hs6, hs7, hs8, hs9, hs1'⟩ := hsm
          have HLk := Lib.hid hL
          have HLd := Lib.hid hLd
          have HLs := Lib.hid hLs
          have HBl := Lib.hid hBl
          have HX0 := Lib.hid hX0
          have HWr := Lib.hid hWr
          have HB00 := Lib.hid hb0
          have hb0s := hb0.size
          have HE0 := Lib.hid hE0
          clear eA hbd h10 hL hLd hLs hBl hWr hX0 hb0 hE0
          rw [show nameN [b0, b1, b2, b3, b4, b5, b6, b7, b8, b9] = b0 from rfl] at hNN hNB
          by_cases hat : (atT tbl b0).2 = 0
          · have q1 : ((atT tbl b0).2 != 0) = false := by simp [hat]
            have HNO1 := Lib.hid (hNN HNO.out hat)
            have HSC := Lib.hid (show sectT l tbl [b0, b1, b2, b3, b4, b5, b6, b7, b8, b9] = ⟨(atT tbl b0).1, (b1 : Int), b2, b3, dataT l [b0, b1, b2, b3, b4, b5, b6, b7, b8, b9], (b6 : Int), (b7 : Int), (b8 : Int), (b9 : Int)⟩ from rfl)
            have w1' := wrap_small b1 hs1'
            have w6 := wrap_small b6 hs6
            have w7 := wrap_small b7 hs7
            have w8 := wrap_small b8 hs8
            have w9 := wrap_small b9 hs9
            clear hat hNN hNB hs1' hs6 hs7 hs8 hs9
            generalize (atT tbl b0).1 = txt at *
            generalize (atT tbl b0).2 = er at *
            go_wp2_with (go_at_call 90; refine HAT.out.mono ?_; rintro r w3 ⟨rfl, hb3⟩; have HB3 := Lib.hid hb3; clear hb3 HAT)
            have hx3 := HX0.out.below HB3.out (by simp)
            have hs3 : BB ≤ w3.heap.size := Nat.le_trans (Nat.le_trans hbs hb0s) HB3.out.size
            have hB3r : Below wr.heap.size wr w3 := HB00.out.trans (HB3.out.mono hb0s)
            have HW3 := Lib.hid (HWr.out.trans (hB3r.mono (Nat.le_trans hws1 hbs)))
            have HRW := Lib.hid (row_below HLk.out hB3r)
            have HLD := Lib.hid (fun x hx => own_below (HLd.out x hx) hB3r)
            have HB13 := Lib.hid (HBl.out.trans (hB3r.mono hbs))
            have hEA3 : EntAt w3.drew wr.heap.size 0 [b0, b1, b2, b3, b4, b5, b6, b7, b8, b9] := ⟨rfl, fun j x hx => by
              rw [Nat.zero_add]
              have h1 := hx3.cell j
              have h2 : (#[Value.int .u64 (b0 : Int), .int .u64 (b1 : Int), .int .u64 (b2 : Int), .int .u64 (b3 : Int), .int .u64 (b4 : Int), .int .u64 (b5 : Int), .int .u64 (b6 : Int), .int .u64 (b7 : Int), .int .u64 (b8 : Int), .int .u64 (b9 : Int)])[j]? = ([b0, b1, b2, b3, b4, b5, b6, b7, b8, b9][j]?).map (fun n => Value.int .u64 ((n : Nat) : Int)) := by rw [← List.getElem?_map]; simp
              rw [h2, hx] at h1
              exact h1⟩
            have hDt := data_at hEA3 (B := w.heap.size) (HRD.out.below (HW3.out.drew)) HW3.out.size c (by rw [hll]; exact HLC.out) (by rw [hll]; exact HLL.out) (by rw [hll]; exact HE0.out) (by rw [hll]; exact hln)
            rw [hll] at hDt
            have HDt := Lib.hid hDt
            have KS := Lib.hid (fun (W : World) (hW : Only BB (CellsOf 39) w3 W) => (by
              have hXW : Box W wr.heap.size 120 _ := hW.2 _ _ hx3 (fun hh => absurd (show 120 = 39 from hh) (by decide))
              exact ⟨hXW.cell 1, hXW.cell 2, hXW.cell 3, hXW.cell 6, hXW.cell 7, hXW.cell 8, hXW.cell 9⟩ :
              W.cell? ⟨wr.heap.size, 1, none⟩ = some (.int .u64 (b1 : Int)) ∧ W.cell? ⟨wr.heap.size, 2, none⟩ = some (.int .u64 (b2 : Int)) ∧ W.cell? ⟨wr.heap.size, 3, none⟩ = some (.int .u64 (b3 : Int)) ∧ W.cell? ⟨wr.heap.size, 6, none⟩ = some (.int .u64 (b6 : Int)) ∧ W.cell? ⟨wr.heap.size, 7, none⟩ = some (.int .u64 (b7 : Int)) ∧ W.cell? ⟨wr.heap.size, 8, none⟩ = some (.int .u64 (b8 : Int)) ∧ W.cell? ⟨wr.heap.size, 9, none⟩ = some (.int .u64 (b9 : Int))))
            have hO6 : Only BB (CellsOf 39) w3 w3.drew := Only.drew (Only.refl _ _ _)
            have h63 : k + 1 ≤ maxLen := by unfold maxLen; omega
            have hby : (k + 1) * 96 ≤ 140737488355328 := by omega
            rw [hLl] at HRW
            clear hx3 hB3r hEA3 hDt HLk HLd HBl HX0 HWr HB00 HB3 c0 c1' c2 c3 c4 c5 c6 c7 c8 c9
            generalize hdt : dataT l [b0, b1, b2, b3, b4, b5, b6, b7, b8, b9] = dt at *
            clear hdt
            go_region_held_law (fun W => W.cell? ⟨wr.heap.size, 1, none⟩ = some (.int .u64 (b1 : Int)) ∧ W.cell? ⟨wr.heap.size, 2, none⟩ = some (.int .u64 (b2 : Int)) ∧ W.cell? ⟨wr.heap.size, 3, none⟩ = some (.int .u64 (b3 : Int)) ∧ W.cell? ⟨wr.heap.size, 6, none⟩ = some (.int .u64 (b6 : Int)) ∧ W.cell? ⟨wr.heap.size, 7, none⟩ = some (.int .u64 (b7 : Int)) ∧ W.cell? ⟨wr.heap.size, 8, none⟩ = some (.int .u64 (b8 : Int)) ∧ W.cell? ⟨wr.heap.size, 9, none⟩ = some (.int .u64 (b9 : Int)))
              ((refine KS.out _ ?_; first | exact hO6 | exact hO7 | exact hO7' _ | exact hO8))
              (first
                | (go_at_call 89; refine HDt.out.mono ?_; rintro r w7 ⟨v7, rfl, hown7, hb7⟩; have hO7 : Only BB (CellsOf 39) w3 w7 := hO6.trans (Only.below hb7 (by exact hs3)); have hR7 := row_below (w := w3.drew) HRW.out hb7; have hs7 : BB ≤ w7.heap.size := Nat.le_trans hs3 hO7.1.size; (obtain ⟨A7, c7, rfl, hc7, hcm7, hrd7⟩ := own_slice hown7); have HO7 := Lib.hid hown7; have hO7' := Only.alloc hO7 hs7; have HB7 := Lib.hid hb7; clear hown7 hb7 hO6 HDt)
                | (refine step_append_lies _ (by rfl) (.tmp 52) (.tmp 76) _ (by rfl) BB 39 i2 _ 9 96 Tryz.underlying24 hj2 hy0 hy1 hy2 (by rfl) (by decide) u9 k (cellsL L) (by rfl) (by exact hR7.alloc _) ⟨w7.heap.size, 0, none⟩ 1 1 (Lay.cells ⟨⟨txt, (b1 : Int), b2, b3, dt, (b6 : Int), (b7 : Int), (b8 : Int), (b9 : Int)⟩, A7, c7⟩) (by rfl) rfl (fun j u h => cells_at ⟨⟨txt, (b1 : Int), b2, b3, dt, (b6 : Int), (b7 : Int), (b8 : Int), (b9 : Int)⟩, A7, c7⟩ w7 _ j u h) (cells_one _) (by decide) h63 hby (by simp; omega) _ rfl ?_; intro g8 cap8 w8 hown8 hg8 hat8 hlt8; have hO78 : Only BB (CellsOf 39) w7 w8 := (Only.alloc (Only.refl _ _ _) hs7 _).trans (row_turns (by exact hR7.alloc _) hg8 (by simp; omega)); have hO8 := hO7.trans hO78; clear hg8 hat8 hO7'))
            have HTD := Lib.hid (show Told w8 BB (.slice (some ⟨g8, 0, none⟩) (k + 1) cap8) (secsT l off (k + 1) sh) by
              have h1 := told_snoc (w := w7) (w' := w8) (base := BB) (base' := BB) (g := g8) (c := cap8) (x := ⟨⟨txt, (b1 : Int), b2, b3, dt, (b6 : Int), (b7 : Int), (b8 : Int), (b9 : Int)⟩, A7, c7⟩) HLs.out
                (fun y hy => own_below (w := w3.drew) (by exact HLD.out y hy) HB7.out) (own_up HO7.out hs3) (by rw [hLl]; exact hown8) hO78
              rw [hLl] at h1
              rw [HSN.out, HSC.out]
              exact h1)
            have HBF := Lib.hid (HB13.out.trans hO8.1)
            clear hown8 hO78 hO8 hO7 hR7 HLD HB7 HO7 hlt8
            go_wp2_with fail
            go_roundw
            case rel => exact ⟨k + 1, by omega, by go_num, HNO1, HTD.out, HBF.out⟩
            case measure => simp [intOf]; omega
          · have q1 : ((atT tbl b0).2 != 0) = true := by simpa using hat
            have HF := Lib.hid (show te = 22 by rw [HT2.out, if_neg (hNB hat)])
            have HWF := Lib.hid (fun W (hW : Below wr.heap.size _ W) => (HWr.out.trans ((HB00.out.trans hW).mono (Nat.le_trans hws1 hbs))))
            clear hat hNN hNB
            generalize (atT tbl b0).1 = txt at *
            generalize (atT tbl b0).2 = er at *
            go_wp2_with (go_at_call 90; refine HAT.out.mono ?_; rintro r w3 ⟨rfl, hb3⟩; have HB3 := Lib.hid hb3; clear hb3 HAT)
            go_ret2
            exact ⟨_, by rw [HF.out]; rfl, fun h => absurd (h.symm.trans HF.out) (by decide), HWF.out _ (HB3.out.mono hb0s)⟩
        · have hkn : k = n := by omega
          subst hkn
          have HF := Lib.hid (show te = 0 by rw [HT2.out, if_pos HNO.out])
          have HTD := Lib.hid (show Told wr w.heap.size u9 (secsT l off k sh) from Told.base_ ⟨L, hLs, hL, hLd⟩ hws1)
          have HWF := Lib.hid (HW1.out.trans (hBl.mono hws1))
          clear hLs hL hLd hBl hLl
          go_wp2_with fail
          go_ret2
          exact ⟨_, by rw [HF.out]; rfl, fun _ => HTD.out, HWF.out⟩
    · have HF := Lib.hid (show tellE l off n sh = 22 by rw [HT.out, if_neg (fun h => hk (hkd.symm.trans h.2.1))])
      have q3 : ((kd : Int) != 3) = true := by simp; omega
      clear HEA HRD HOK HT hb0 hk hkd
      generalize tellE l off n sh = te at *
      generalize l.length = ln at *
      go_enter Tryz.func49, Tryz.ntmps49
      go_wp2_with fail
      go_ret2
      exact ⟨_, by rw [HF.out]; rfl, fun h => absurd (h.symm.trans HF.out) (by decide), HB0.out⟩
  · have HF := Lib.hid (show tellE l off n sh = 22 by rw [HT.out, if_neg (fun h => hz h.1)])
    rw [decide_eq_false hz] at HNQ
    have hnq := HNQ.out
    rw [show entV [a0, a1, a2, a3, a4, a5, a6, a7, a8, a9] = .agg #[.int .u64 (a0 : Int), .int .u64 (a1 : Int), .int .u64 (a2 : Int), .int .u64 (a3 : Int), .int .u64 (a4 : Int), .int .u64 (a5 : Int), .int .u64 (a6 : Int), .int .u64 (a7 : Int), .int .u64 (a8 : Int), .int .u64 (a9 : Int)] from rfl, show entV (List.replicate 10 0) = .agg #[.int .u64 0, .int .u64 0, .int .u64 0, .int .u64 0, .int .u64 0, .int .u64 0, .int .u64 0, .int .u64 0, .int .u64 0, .int .u64 0] from rfl] at hnq
    have HB0 := Lib.hid hb0
    clear HEA HRD HOK HT hb0 hX0 e0 hbq h10 HNQ hz
    generalize tellE l off n sh = te at *
    generalize l.length = ln at *
    go_enter Tryz.func49, Tryz.ntmps49
    go_wp2_with fail
    go_ret2
    exact ⟨_, by rw [HF.out]; rfl, fun h => absurd (h.symm.trans HF.out) (by decide), HB0.out⟩

end Go.Proofs.YtldmjnbmjfnfeaaGreatDoor
