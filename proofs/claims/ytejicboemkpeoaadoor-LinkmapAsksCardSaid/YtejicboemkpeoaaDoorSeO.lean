/-
  Sections that came in, opened to their cells.
-/
import Derived.Test.YtejicboemkpeoaaDoorEhZ
import Derived.Test.YtejicboemkpeoaaDoorSeY
import Derived.Test.YtejicboemkpeoaaDoorCsL
import Derived.Test.YtejicboemkpeoaaDoorSeBe
import Derived.Deep.Slices
namespace Go.Proofs.YtejicboemkpeoaaDoor
open Go Go.RowKit Go.ChangeShapes Go.WideShapes Go.Deep

theorem list_of {α : Type} {P : Nat → α → Prop} : ∀ (n : Nat), (∀ i, i < n → ∃ x, P i x) → ∃ L : List α, L.length = n ∧ ∀ (i : Nat) (x : α), L[i]? = some x → P i x
  | 0, _ => ⟨[], rfl, fun i x h => by simp at h⟩
  | n + 1, h => by
    obtain ⟨L, h1, h2⟩ := list_of n (fun i hi => h i (by omega))
    obtain ⟨y, hy⟩ := h n (by omega)
    refine ⟨L ++ [y], by simp [h1], fun i x hx => ?_⟩
    rcases Nat.lt_or_ge i n with hi | hi
    · rw [List.getElem?_append_left (by omega)] at hx
      exact h2 i x hx
    · have hil : i < (L ++ [y]).length := (List.getElem?_eq_some_iff.1 hx).1
      have : i = n := by simp at hil; omega
      subst this
      rw [List.getElem?_append_right (by omega), h1, Nat.sub_self] at hx
      injection hx with hx
      exact hx ▸ hy

theorem se_nine : Tryd.prog.cellsOf 70 = 9 := by kernel_rfl
theorem se_str : Tryd.prog.cellsOf 9 = 1 := by kernel_rfl
theorem se_row : Tryd.prog.cellsOf 68 = 1 := by kernel_rfl

set_option maxRecDepth 20000 in
/-- One section out of its nine cells. -/
theorem sect_of {H : Type} {enc : TypeId × Value → H} {w : World} {held : Bool} {fuel : Nat} {cs : List Value} {x : DataW H × List MemPlace}
    (h : DataW.trod enc Tryd.prog w 0 (fun _ => true) held fuel 70 cs = some x) : ∃ y : Lay, cs = y.cells ∧ Rd w w.heap.size y.A y.s.data ∧ y.s.data.length ≤ y.c ∧ y.c ≤ maxLen ∧ y.s.Nums := by
  obtain ⟨xs, k, _, _, hcl, hlen, hg⟩ := DataW.trod_struct Tryd.underlying70 h
  rw [se_nine] at hcl
  have hint : ∀ (c : Value) (y : DataW H × List MemPlace), DataW.trod enc Tryd.prog w 0 (fun _ => true) held k 3 [c] = some y → ∃ z, c = .int .i64 z ∧ InI z :=
    fun c y hy => by
      obtain ⟨z, hz, _, hw⟩ := DataW.trod_int Tryd.underlying3 hy
      injection hz with hz
      exact ⟨z, hz, i64_of hw⟩
  have hnat : ∀ (c : Value) (y : DataW H × List MemPlace), DataW.trod enc Tryd.prog w 0 (fun _ => true) held k 41 [c] = some y → ∃ z : Nat, c = .int .u64 (z : Int) ∧ z < two64 :=
    fun c y hy => by
      obtain ⟨z, hz, _, hw⟩ := DataW.trod_int Tryd.underlying41 hy
      injection hz with hz
      obtain ⟨n, rfl, hn⟩ := nat_of_u64 hw
      exact ⟨n, hz, hn⟩
  match cs, hcl, xs, hlen with
  | [c0, c1, c2, c3, c4, c5, c6, c7, c8], _, [y0, y1, y2, y3, y4, y5, y6, y7, y8], _ =>
    have g0 := hg 0 _ rfl
    have g1 := hg 1 _ rfl
    have g2 := hg 2 _ rfl
    have g3 := hg 3 _ rfl
    have g4 := hg 4 _ rfl
    have g5 := hg 5 _ rfl
    have g6 := hg 6 _ rfl
    have g7 := hg 7 _ rfl
    have g8 := hg 8 _ rfl
    simp [eh_one, eh_one', se_str, se_row] at g0 g1 g2 g3 g4 g5 g6 g7 g8
    obtain ⟨s, hs, _, _⟩ := DataW.trod_string Tryd.underlying9 g0
    injection hs with hs
    obtain ⟨z1, rfl, i1⟩ := hint _ _ g1
    obtain ⟨z2, rfl, i2⟩ := hnat _ _ g2
    obtain ⟨z3, rfl, i3⟩ := hnat _ _ g3
    obtain ⟨z5, rfl, i5⟩ := hint _ _ g5
    obtain ⟨z6, rfl, i6⟩ := hint _ _ g6
    obtain ⟨z7, rfl, i7⟩ := hint _ _ g7
    obtain ⟨z8, rfl, i8⟩ := hint _ _ g8
    have hsl : ∃ a len cap, c4 = .slice a len cap := by
      rcases open_slice Tryd.underlying68 g4 with ⟨e, _⟩ | ⟨a, len, cap, m, n, D, Pl, e, _⟩
      · injection e with e
        exact ⟨_, _, _, e⟩
      · injection e with e
        exact ⟨_, _, _, e⟩
    obtain ⟨a, len, cap, rfl⟩ := hsl
    obtain ⟨zs, hrow, _⟩ := eh_row (a := a) (len := len) (cap := cap) (by simpa [Value.cells] using g4)
    obtain ⟨l, hl, hrd, hlc, hcm⟩ := row_bytes hrow
    subst hl
    refine ⟨⟨⟨s.data.toList, z1, z2, z3, l, z5, z6, z7, z8⟩, a, cap⟩, ?_, hrd, hlc, hcm, ⟨i1, i5, i6, i7, i8, i2, i3⟩⟩
    rw [hs]
    show _ = [Value.string ⟨s.data.toList.toArray⟩, _, _, _, _, _, _, _, _]
    simp
    rfl

set_option maxRecDepth 20000 in
theorem secs_of {H : Type} {enc : TypeId × Value → H} {w : World} {held : Bool} {fuel : Nat} {a1 : Option Addr} {len1 cap1 : Nat} {x : DataW H × List MemPlace}
    (h : DataW.trod enc Tryd.prog w 0 (fun _ => true) held fuel 44 (Value.slice a1 len1 cap1).cells.toList = some x) : ∃ L : List Lay, L.length = len1 ∧ len1 ≤ cap1 ∧ SecsIn w w.heap.size a1 L := by
  rcases open_slice Tryd.underlying44 h with ⟨hcs, _⟩ | ⟨a, len, cap, m, n, D, Pl, hcs, _, hl, _, hmm, _, hi⟩
  · simp [Value.cells] at hcs
    obtain ⟨rfl, rfl, rfl⟩ := hcs
    exact ⟨[], rfl, Nat.le_refl _, ⟨fun h0 => absurd h0 (by simp), fun x hx => by cases hx⟩⟩
  · simp [Value.cells] at hcs
    obtain ⟨rfl, rfl, rfl⟩ := hcs
    have hlm : len1 ≤ m := by rw [hmm]; simp; omega
    rw [se_nine] at hi
    obtain ⟨L, hL, hP⟩ := list_of (P := fun i (y : Lay) => (∀ (j : Nat) (v : Value), y.cells[j]? = some v → w.cell? ((a.add (i * 9)).add j) = some v) ∧ Rd w w.heap.size y.A y.s.data ∧ y.s.data.length ≤ y.c ∧ y.c ≤ maxLen ∧ y.s.Nums) len1 (fun i hi1 => by
      obtain ⟨cs', hc, ht⟩ := hi i (by omega)
      obtain ⟨_, hcl, hat⟩ := World.cells?_some hc
      obtain ⟨y, rfl, g1, g2, g3, g4⟩ := sect_of ht
      exact ⟨y, fun j v hv => by
        have hj : j < 9 := (List.getElem?_eq_some_iff.1 hv).1
        rw [hat j hj, hv], g1, g2, g3, g4⟩)
    refine ⟨L, hL, hl, ⟨fun h0 => ?_, fun y hy => ?_⟩⟩
    · have hx0 : L[0]? = some (L[0]'h0) := List.getElem?_eq_getElem _
      have hc0 := (hP 0 _ hx0).1 0 _ rfl
      obtain ⟨b, o, spot⟩ := a
      have hspot : spot = none := by simpa [Addr.add] using World.cell?_spot hc0
      subst hspot
      refine ⟨b, o, rfl, ?_, fun i y hy j v hv => ?_⟩
      · have := World.block_lt_of_cell? w _ hc0
        simpa [addr_add] using this
      · have := (hP i y hy).1 j v hv
        rwa [addr_add, addr_add] at this
    · obtain ⟨i, hi', e⟩ := List.getElem_of_mem hy
      exact (hP i y (by rw [← e]; exact List.getElem?_eq_getElem hi')).2

end Go.Proofs.YtejicboemkpeoaaDoor
