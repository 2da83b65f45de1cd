/-
  Numbers and tables to be put that came in, opened to their cells.
-/
import Derived.Test.YtpmpgfngogdfhaaDoorTbA
import Derived.Test.YtpmpgfngogdfhaaDoorUnQ
namespace Go.Proofs.YtpmpgfngogdfhaaDoor
open Go Go.RowKit Go.ChangeShapes Go.WideShapes Go.ChangeAt Go.Deep

/-- A table to be put: its form, its items and where they are. -/
structure TItm where
  wide : Bool
  l : List Nat
  a : Option Addr
  c : Nat
def TItm.cells (y : TItm) : List Value := [.bool y.wide, .slice y.a y.l.length y.c]
theorem titm_two (y : TItm) : y.cells.length = 2 := rfl
structure TItm.In (w : World) (y : TItm) : Prop where
  r : Row 1 numC w w.heap.size y.a y.l
  n : ∀ x ∈ y.l, x < two64
section
variable {H : Type} {enc : TypeId × Value → H} {w : World}
theorem row_ofT {α : Type} {n : Nat} {f : α → List Value} {a : Addr} {L : List α} {Q : α → Prop} (hn : 0 < n) (hf : ∀ x, (f x).length = n)
    (hP : ∀ (i : Nat) (x : α), L[i]? = some x → (∀ (j : Nat) (v : Value), (f x)[j]? = some v → w.cell? ((a.add (i * n)).add j) = some v) ∧ Q x) : Row n f w w.heap.size (some a) L ∧ ∀ y ∈ L, Q y := by
  refine ⟨fun h0 => ?_, fun y hy => ?_⟩
  · have hx0 : L[0]? = some (L[0]'h0) := List.getElem?_eq_getElem _
    have hl0 : 0 < (f (L[0]'h0)).length := by rw [hf]; exact hn
    have hc0 := (hP 0 _ hx0).1 0 _ (List.getElem?_eq_getElem hl0)
    obtain ⟨b, o, spot⟩ := a
    have hspot : spot = none := by simpa [Addr.add] using World.cell?_spot hc0
    subst hspot
    refine ⟨b, o, rfl, ?_, fun i y hy j v hv => ?_⟩
    · have := World.block_lt_of_cell? w _ hc0
      simpa [addr_add] using this
    · have := (hP i y hy).1 j v hv
      rwa [addr_add, addr_add] at this
  · obtain ⟨i, hi', e⟩ := List.getElem_of_mem hy
    exact (hP i y (by rw [← e]; exact List.getElem?_eq_getElem hi')).2
theorem nat_ofT {held : Bool} {k : Nat} {c : Value} {y : DataW H × List MemPlace} (hy : DataW.trod enc Tryd.prog w 0 (fun _ => true) held k 41 [c] = some y) : ∃ z : Nat, c = .int .u64 (z : Int) ∧ z < two64 := by
  obtain ⟨z, hz, _, hw⟩ := DataW.trod_int Tryd.underlying41 hy
  injection hz with hz
  obtain ⟨n, rfl, hn⟩ := nat_of_u64 hw
  exact ⟨n, hz, hn⟩
set_option maxRecDepth 20000 in
theorem nums_ofT {held : Bool} {fuel : Nat} {a1 : Option Addr} {len1 cap1 : Nat} {x : DataW H × List MemPlace}
    (h : DataW.trod enc Tryd.prog w 0 (fun _ => true) held fuel 28 (Value.slice a1 len1 cap1).cells.toList = some x) : ∃ S : List Nat, len1 = S.length ∧ Row 1 numC w w.heap.size a1 S ∧ ∀ n ∈ S, n < two64 := by
  rcases open_slice Tryd.underlying28 h with ⟨hcs, _⟩ | ⟨a, len, cap, m, n, D, Pl, hcs, _, hl, _, hmm, _, hi⟩
  · simp [Value.cells] at hcs
    obtain ⟨rfl, rfl, rfl⟩ := hcs
    exact ⟨[], rfl, fun h0 => absurd h0 (by simp), fun x hx => by cases hx⟩
  · simp [Value.cells] at hcs
    obtain ⟨rfl, rfl, rfl⟩ := hcs
    have hlm : len1 ≤ m := by rw [hmm]; simp; omega
    rw [un_u64] at hi
    obtain ⟨L, hL, hP⟩ := list_ofU (P := fun i (y : Nat) => (∀ (j : Nat) (v : Value), (numC y)[j]? = some v → w.cell? ((a.add (i * 1)).add j) = some v) ∧ y < two64) len1 (fun i hi1 => by
      obtain ⟨cs', hc, ht⟩ := hi i (by omega)
      obtain ⟨_, hcl, hat⟩ := World.cells?_some hc
      match cs', hcl with
      | [c0], _ =>
        obtain ⟨z, rfl, hz⟩ := nat_ofT ht
        exact ⟨z, fun j v hv => by
          have hj : j < 1 := (List.getElem?_eq_some_iff.1 hv).1
          rw [hat j hj]
          exact hv, hz⟩)
    exact ⟨L, hL.symm, row_ofT (by decide) num_oneT hP⟩
theorem tb_two : Tryd.prog.cellsOf 84 = 2 := by kernel_rfl
theorem tb_nums : Tryd.prog.cellsOf 28 = 1 := by kernel_rfl
set_option maxRecDepth 20000 in
theorem titm_of {held : Bool} {fuel : Nat} {cs : List Value} {x : DataW H × List MemPlace}
    (h : DataW.trod enc Tryd.prog w 0 (fun _ => true) held fuel 84 cs = some x) : ∃ y : TItm, cs = y.cells ∧ y.In w := by
  obtain ⟨xs, k, _, _, hcl, hlen, hg⟩ := DataW.trod_struct Tryd.underlying84 h
  rw [tb_two] at hcl
  match cs, hcl, xs, hlen with
  | [c0, c1], _, [y0, y1], _ =>
    have g0 := hg 0 _ rfl
    have g1 := hg 1 _ rfl
    simp [un_bool, tb_nums] at g0 g1
    obtain ⟨b0, e0, _⟩ := DataW.trod_bool Tryd.underlying4 g0
    injection e0 with e0
    have hsl : ∃ a len cap, c1 = .slice a len cap := by
      rcases open_slice Tryd.underlying28 g1 with ⟨e, _⟩ | ⟨a, len, cap, m, n, D, Pl, e, _⟩
      · injection e with e
        exact ⟨_, _, _, e⟩
      · injection e with e
        exact ⟨_, _, _, e⟩
    obtain ⟨a, len, cap, rfl⟩ := hsl
    obtain ⟨S, hl, hr, hn⟩ := nums_ofT (a1 := a) (len1 := len) (cap1 := cap) (by simpa [Value.cells] using g1)
    subst hl e0
    exact ⟨⟨b0, S, a, cap⟩, rfl, ⟨hr, hn⟩⟩
set_option maxRecDepth 20000 in
theorem titms_of {held : Bool} {fuel : Nat} {a1 : Option Addr} {len1 cap1 : Nat} {x : DataW H × List MemPlace}
    (h : DataW.trod enc Tryd.prog w 0 (fun _ => true) held fuel 82 (Value.slice a1 len1 cap1).cells.toList = some x) : ∃ L : List TItm, len1 = L.length ∧ Row 2 TItm.cells w w.heap.size a1 L ∧ ∀ y ∈ L, y.In w := by
  rcases open_slice Tryd.underlying82 h with ⟨hcs, _⟩ | ⟨a, len, cap, m, n, D, Pl, hcs, _, hl, _, hmm, _, hi⟩
  · simp [Value.cells] at hcs
    obtain ⟨rfl, rfl, rfl⟩ := hcs
    exact ⟨[], rfl, fun h0 => absurd h0 (by simp), fun x hx => by cases hx⟩
  · simp [Value.cells] at hcs
    obtain ⟨rfl, rfl, rfl⟩ := hcs
    have hlm : len1 ≤ m := by rw [hmm]; simp; omega
    rw [tb_two] at hi
    obtain ⟨L, hL, hP⟩ := list_ofU (P := fun i (y : TItm) => (∀ (j : Nat) (v : Value), y.cells[j]? = some v → w.cell? ((a.add (i * 2)).add j) = some v) ∧ y.In w) len1 (fun i hi1 => by
      obtain ⟨cs', hc, ht⟩ := hi i (by omega)
      obtain ⟨_, hcl, hat⟩ := World.cells?_some hc
      obtain ⟨y, rfl, g1⟩ := titm_of ht
      exact ⟨y, fun j v hv => by
        have hj : j < 2 := (List.getElem?_eq_some_iff.1 hv).1
        rw [hat j hj, hv], g1⟩)
    exact ⟨L, hL.symm, row_ofT (by decide) titm_two hP⟩
end

end Go.Proofs.YtpmpgfngogdfhaaDoor
