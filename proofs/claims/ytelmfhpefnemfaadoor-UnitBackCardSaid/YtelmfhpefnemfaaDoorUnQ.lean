/-
  Heads and bodies that came in, opened to their cells.
-/
import Derived.Test.YtelmfhpefnemfaaDoorUnL
import Derived.Test.YtelmfhpefnemfaaDoorLtZ
import Derived.Deep.Slices
namespace Go.Proofs.YtelmfhpefnemfaaDoor
open Go Go.RowKit Go.ChangeShapes Go.WideShapes Go.ChangeAt Go.Deep

theorem list_ofU {α : Type} {P : Nat → α → Prop} : ∀ (n : Nat), (∀ i, i < n → ∃ x, P i x) → ∃ L : List α, L.length = n ∧ ∀ (i : Nat) (x : α), L[i]? = some x → P i x
  | 0, _ => ⟨[], rfl, fun i x h => by simp at h⟩
  | n + 1, h => by
    obtain ⟨L, h1, h2⟩ := list_ofU n (fun i hi => h i (by omega))
    obtain ⟨y, hy⟩ := h n (by omega)
    refine ⟨L ++ [y], by simp [h1], fun i x hx => ?_⟩
    rcases Nat.lt_or_ge i n with hi | hi
    · rw [List.getElem?_append_left (by omega)] at hx
      exact h2 i x hx
    · have hil : i < (L ++ [y]).length := (List.getElem?_eq_some_iff.1 hx).1
      have : i = n := by simp at hil; omega
      subst this
      rw [List.getElem?_append_right (by omega), h1, Nat.sub_self] at hx
      injection hx with hx
      exact hx ▸ hy

theorem un_eight : Tryd.prog.cellsOf 79 = 8 := by kernel_rfl
theorem un_int : Tryd.prog.cellsOf 3 = 1 := by kernel_rfl
theorem un_bool : Tryd.prog.cellsOf 4 = 1 := by kernel_rfl
theorem un_u64 : Tryd.prog.cellsOf 41 = 1 := by kernel_rfl

section
variable {H : Type} {enc : TypeId × Value → H} {w : World}
theorem i64_ofU {a : Int} (h : (Lit.int .i64 a).wf = true) : -9223372036854775808 ≤ a ∧ a ≤ 9223372036854775807 := by
  have := Go.bounds_i64 h
  omega
set_option maxRecDepth 20000 in
/-- A head out of its eight cells. -/
theorem uhd_of {held : Bool} {fuel : Nat} {cs : List Value} {x : DataW H × List MemPlace}
    (h : DataW.trod enc Tryd.prog w 0 (fun _ => true) held fuel 79 cs = some x) : ∃ y : UHd, cs = y.cells ∧ y.In := by
  obtain ⟨xs, k, _, _, hcl, hlen, hg⟩ := DataW.trod_struct Tryd.underlying79 h
  rw [un_eight] at hcl
  have hnat : ∀ (c : Value) (y : DataW H × List MemPlace), DataW.trod enc Tryd.prog w 0 (fun _ => true) held k 41 [c] = some y → ∃ z : Nat, c = .int .u64 (z : Int) ∧ z < two64 :=
    fun c y hy => by
      obtain ⟨z, hz, _, hw⟩ := DataW.trod_int Tryd.underlying41 hy
      injection hz with hz
      obtain ⟨n, rfl, hn⟩ := nat_of_u64 hw
      exact ⟨n, hz, hn⟩
  match cs, hcl, xs, hlen with
  | [c0, c1, c2, c3, c4, c5, c6, c7], _, [y0, y1, y2, y3, y4, y5, y6, y7], _ =>
    have g0 := hg 0 _ rfl
    have g1 := hg 1 _ rfl
    have g2 := hg 2 _ rfl
    have g3 := hg 3 _ rfl
    have g4 := hg 4 _ rfl
    have g5 := hg 5 _ rfl
    have g6 := hg 6 _ rfl
    have g7 := hg 7 _ rfl
    simp [un_int, un_bool, un_u64] at g0 g1 g2 g3 g4 g5 g6 g7
    obtain ⟨z0, e0, _, i0⟩ := DataW.trod_int Tryd.underlying3 g0
    injection e0 with e0
    obtain ⟨b1, e1, _⟩ := DataW.trod_bool Tryd.underlying4 g1
    injection e1 with e1
    obtain ⟨z2, rfl, i2⟩ := hnat _ _ g2
    obtain ⟨z3, rfl, i3⟩ := hnat _ _ g3
    obtain ⟨z4, rfl, i4⟩ := hnat _ _ g4
    obtain ⟨z5, rfl, i5⟩ := hnat _ _ g5
    obtain ⟨z6, rfl, i6⟩ := hnat _ _ g6
    obtain ⟨z7, rfl, i7⟩ := hnat _ _ g7
    subst e0 e1
    exact ⟨⟨z0, b1, z2, z3, z4, z5, z6, z7⟩, rfl, ⟨i64_ofU i0, i2, i3, i4⟩⟩
end

/-- A unit to be put: its head, its entries' bytes and where they are. -/
structure UBody where
  h : UHd
  b : List UInt8
  a : Option Addr
  c : Nat
def UBody.cells (y : UBody) : List Value := y.h.cells ++ [.slice y.a y.b.length y.c]
structure UBody.In (w : World) (y : UBody) : Prop where
  h : y.h.In
  r : Rd w w.heap.size y.a y.b
  c : y.b.length ≤ y.c
theorem un_nine : Tryd.prog.cellsOf 89 = 9 := by kernel_rfl
theorem un_byt : Tryd.prog.cellsOf 66 = 1 := by kernel_rfl
section
variable {H : Type} {enc : TypeId × Value → H} {w : World}
set_option maxRecDepth 20000 in
theorem ubody_of {held : Bool} {fuel : Nat} {cs : List Value} {x : DataW H × List MemPlace}
    (h : DataW.trod enc Tryd.prog w 0 (fun _ => true) held fuel 89 cs = some x) : ∃ y : UBody, cs = y.cells ∧ y.In w := by
  obtain ⟨xs, k, _, _, hcl, hlen, hg⟩ := DataW.trod_struct Tryd.underlying89 h
  rw [un_nine] at hcl
  match cs, hcl, xs, hlen with
  | [c0, c1, c2, c3, c4, c5, c6, c7, c8], _, [y0, y1], _ =>
    have g0 := hg 0 _ rfl
    have g1 := hg 1 _ rfl
    simp [un_eight, un_byt] at g0 g1
    obtain ⟨y, e, hi⟩ := uhd_of g0
    have hsl : ∃ a len cap, c8 = .slice a len cap := by
      rcases open_slice Tryd.underlying66 g1 with ⟨e, _⟩ | ⟨a, len, cap, m, n, D, Pl, e, _⟩
      · injection e with e
        exact ⟨_, _, _, e⟩
      · injection e with e
        exact ⟨_, _, _, e⟩
    obtain ⟨a, len, cap, rfl⟩ := hsl
    obtain ⟨zs, hrow⟩ := lt_bytes (a := a) (len := len) (cap := cap) (by simpa [Value.cells] using g1)
    obtain ⟨l, hl, hrd, hlc, hcm⟩ := row_bytes hrow
    subst hl
    refine ⟨⟨y, l, a, cap⟩, ?_, ⟨hi, hrd, hlc⟩⟩
    show _ = y.cells ++ [Value.slice a l.length cap]
    rw [← e]
    rfl
set_option maxRecDepth 20000 in
theorem bodies_of {held : Bool} {fuel : Nat} {a1 : Option Addr} {len1 cap1 : Nat} {x : DataW H × List MemPlace}
    (h : DataW.trod enc Tryd.prog w 0 (fun _ => true) held fuel 87 (Value.slice a1 len1 cap1).cells.toList = some x) : ∃ L : List UBody, len1 = L.length ∧ Row 9 UBody.cells w w.heap.size a1 L ∧ ∀ y ∈ L, y.In w := by
  rcases open_slice Tryd.underlying87 h with ⟨hcs, _⟩ | ⟨a, len, cap, m, n, D, Pl, hcs, _, hl, _, hmm, _, hi⟩
  · simp [Value.cells] at hcs
    obtain ⟨rfl, rfl, rfl⟩ := hcs
    exact ⟨[], rfl, fun h0 => absurd h0 (by simp), fun x hx => by cases hx⟩
  · simp [Value.cells] at hcs
    obtain ⟨rfl, rfl, rfl⟩ := hcs
    have hlm : len1 ≤ m := by rw [hmm]; simp; omega
    rw [un_nine] at hi
    obtain ⟨L, hL, hP⟩ := list_ofU (P := fun i (y : UBody) => (∀ (j : Nat) (v : Value), y.cells[j]? = some v → w.cell? ((a.add (i * 9)).add j) = some v) ∧ y.In w) len1 (fun i hi1 => by
      obtain ⟨cs', hc, ht⟩ := hi i (by omega)
      obtain ⟨_, hcl, hat⟩ := World.cells?_some hc
      obtain ⟨y, rfl, g1⟩ := ubody_of ht
      exact ⟨y, fun j v hv => by
        have hj : j < 9 := (List.getElem?_eq_some_iff.1 hv).1
        rw [hat j hj, hv], g1⟩)
    refine ⟨L, hL.symm, fun h0 => ?_, fun y hy => ?_⟩
    · have hx0 : L[0]? = some (L[0]'h0) := List.getElem?_eq_getElem _
      have hc0 := (hP 0 _ hx0).1 0 _ rfl
      obtain ⟨b, o, spot⟩ := a
      have hspot : spot = none := by simpa [Addr.add] using World.cell?_spot hc0
      subst hspot
      refine ⟨b, o, rfl, ?_, fun i y hy j v hv => ?_⟩
      · have := World.block_lt_of_cell? w _ hc0
        simpa [addr_add] using this
      · have := (hP i y hy).1 j v hv
        rwa [addr_add, addr_add] at this
    · obtain ⟨i, hi', e⟩ := List.getElem_of_mem hy
      exact (hP i y (by rw [← e]; exact List.getElem?_eq_getElem hi')).2
end

end Go.Proofs.YtelmfhpefnemfaaDoor
