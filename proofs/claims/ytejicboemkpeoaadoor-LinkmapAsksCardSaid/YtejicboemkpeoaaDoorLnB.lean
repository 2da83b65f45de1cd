/-
  Package linkmap: a queue of images in memory; Len, Less, Swap.
-/
import Derived.Test.YtejicboemkpeoaaDoorLnA
import Derived.Test.YtejicboemkpeoaaDoorCsQ
import Derived.Test.YtejicboemkpeoaaDoorLnK
import Derived.RegionTactic
import Derived.BigRegion
namespace Go.Proofs.YtejicboemkpeoaaDoor
open Go Go.RowKit

/-- Images side by side, the call's own. -/
abbrev OwnI (w : World) (base : Nat) (v : Value) (L : List Img) : Prop := w.ownsRow base 83 4 v L.length (cellsF Img.cells L)

/-- What a queue's calls may turn. -/
def QObj : Obj → Prop
  | .cells _ t _ => t = 83 ∨ t = 79
  | _ => False

/-- A queue in memory: its block, the value in it, its images. -/
structure QAt (w : World) (base g : Nat) (v : Value) (L : List Img) : Prop where
  ge : base ≤ g
  box : Box w g 79 #[v]
  own : OwnI w base v L

theorem img_info : (Tryd.prog.info? 83).map (fun i => (i.zero, i.size, i.bytes)) = some (some (.agg #[.int .u64 0, .int .u64 0, .int .i64 0, .int .i64 0]), 4, 32) := by kernel_rfl

section
variable {w : World} {base : Nat} {v : Value} {L : List Img}
theorem owni_lit (h : OwnI w base v L) (hl : 0 < L.length) : ∃ gr c, v = .slice (some ⟨gr, 0, none⟩) L.length c ∧ L.length ≤ c ∧ base ≤ gr ∧ gr < w.heap.size ∧ c ≤ maxLen := by
  have hlt := fun k hk => h.lt k hk
  obtain ⟨A, c, rfl, hc, hm, hr⟩ := own_row img_four h
  obtain ⟨b, o, rfl, -, -⟩ := hr hl
  rcases h.2 with ⟨e, _⟩ | ⟨g, cap, cur, e, _⟩
  · cases e
  · injection e with e1 e2 e3
    injection e1 with e1
    injection e1 with e1 e4
    subst e1 e4
    exact ⟨b, c, rfl, hc, (hlt b rfl).1, (hlt b rfl).2, hm⟩
theorem owni_cell {gr c : Nat} (h : OwnI w base (.slice (some ⟨gr, 0, none⟩) L.length c) L) {i : Nat} {x : Img} (hx : L[i]? = some x) :
    w.cell? ⟨gr, i * 4, none⟩ = some (.int .u64 (x.lo : Int)) ∧ w.cell? ⟨gr, i * 4 + 1, none⟩ = some (.int .u64 (x.hi : Int)) ∧ w.cell? ⟨gr, i * 4 + 2, none⟩ = some (.int .i64 x.obj) ∧ w.cell? ⟨gr, i * 4 + 3, none⟩ = some (.int .i64 x.sect) := by
  have hi := (List.getElem?_eq_some_iff.1 hx).1
  have hk : ∀ (j : Nat) (u : Value), x.cells[j]? = some u → j < 4 → w.cell? ⟨gr, i * 4 + j, none⟩ = some u := fun j u hu hj => by
    have h1 := World.ownsRow.cellAt (g := gr) (cap := c) h (i * 4 + j) (by omega)
    rw [h1]
    exact cellsF_at img_four L i x j u hx hu
  exact ⟨hk 0 _ rfl (by omega), hk 1 _ rfl (by omega), hk 2 _ rfl (by omega), hk 3 _ rfl (by omega)⟩
theorem owni_free {gr c : Nat} (h : OwnI w base (.slice (some ⟨gr, 0, none⟩) L.length c) L) (j : Nat) : w.frozen? ⟨gr, j, none⟩ = false := World.ownsRow.frozenAt (g := gr) (cap := c) h j
/-- An image stored at a place. -/
theorem cells_set : ∀ (L : List Img) (i : Nat) (x : Img), i < L.length → ((((cellsF Img.cells L).set (i * 4) (.int .u64 (x.lo : Int))).set (i * 4 + 1) (.int .u64 (x.hi : Int))).set (i * 4 + 2) (.int .i64 x.obj)).set (i * 4 + 3) (.int .i64 x.sect) = cellsF Img.cells (L.set i x)
  | [], _, _, h => absurd h (by simp)
  | y :: L, 0, x, _ => by simp [cellsF, Img.cells]
  | y :: L, i + 1, x, h => by
    have ih := cells_set L i x (by simpa using h)
    have e : ∀ j, (i + 1) * 4 + j = i * 4 + j + 1 + 1 + 1 + 1 := fun j => by omega
    have e0 : (i + 1) * 4 = i * 4 + 1 + 1 + 1 + 1 := by omega
    show ((((y.cells ++ cellsF Img.cells L).set _ _).set _ _).set _ _).set _ _ = y.cells ++ cellsF Img.cells (L.set i x)
    rw [← ih, e, e, e, e0]
    simp [Img.cells]
theorem owni_set {gr c : Nat} (h : OwnI w base (.slice (some ⟨gr, 0, none⟩) L.length c) L) {i : Nat} (hi : i < L.length) (x : Img) :
    OwnI ((((w.setCell ⟨gr, i * 4, none⟩ (.int .u64 (x.lo : Int))).setCell ⟨gr, i * 4 + 1, none⟩ (.int .u64 (x.hi : Int))).setCell ⟨gr, i * 4 + 2, none⟩ (.int .i64 x.obj)).setCell ⟨gr, i * 4 + 3, none⟩ (.int .i64 x.sect)) base (.slice (some ⟨gr, 0, none⟩) L.length c) (L.set i x) ∧
    w.grownBy ((((w.setCell ⟨gr, i * 4, none⟩ (.int .u64 (x.lo : Int))).setCell ⟨gr, i * 4 + 1, none⟩ (.int .u64 (x.hi : Int))).setCell ⟨gr, i * 4 + 2, none⟩ (.int .i64 x.obj)).setCell ⟨gr, i * 4 + 3, none⟩ (.int .i64 x.sect)) (some gr) := by
  obtain ⟨s1, g1⟩ := World.ownsRow.stored h (i * 4) (.int .u64 (x.lo : Int))
  obtain ⟨s2, g2⟩ := World.ownsRow.stored s1 (i * 4 + 1) (.int .u64 (x.hi : Int))
  obtain ⟨s3, g3⟩ := World.ownsRow.stored s2 (i * 4 + 2) (.int .i64 x.obj)
  obtain ⟨s4, g4⟩ := World.ownsRow.stored s3 (i * 4 + 3) (.int .i64 x.sect)
  rw [cells_set L i x hi] at s4
  refine ⟨?_, only_trans (only_trans (only_trans g1 g2 (.inl rfl)) g3 (.inl rfl)) g4 (.inl rfl)⟩
  show World.ownsRow _ _ _ _ _ (L.set i x).length _
  rw [List.length_set]
  exact s4
theorem owni_row (h : OwnI w base v L) : ∃ A c, v = .slice A L.length c ∧ L.length ≤ c ∧ c ≤ maxLen ∧ Row 4 Img.cells w w.heap.size A L := own_row img_four h
/-- What turns is of the kind. -/
theorem owni_turns {w1 : World} (h : OwnI w base v L) (hg : w.grownBy w1 v.ownBlock) (hb : base ≤ w.heap.size) : Only base QObj w w1 := by
  rcases h.2 with ⟨rfl, _⟩ | ⟨g', cap, cur, rfl, hgb, hh, _⟩
  · exact Only.below (below_of_only hg (Nat.le_refl _) (by simp [Value.ownBlock])) hb
  · exact Only.row (g := g') hg hh (.inl rfl) hgb
end

set_option maxRecDepth 10000 in
theorem qlen_any {w : World} {A : Option Addr} {n c : Nat} :
    Calls Tryd.prog 44 #[.slice A n c] w fun r w' => r = .returned (.int .i64 (n : Int)) ∧ w = w' := by
  go_enter Tryd.func44, Tryd.ntmps44
  go_wp2_with fail
  go_ret
  exact ⟨rfl, rfl⟩

set_option maxRecDepth 10000 in
set_option maxHeartbeats 1600000 in
theorem qless_any {w : World} {B : Nat} {A : Option Addr} {c i j : Nat} {L : List Img} (h : Row 4 Img.cells w B A L) {x y : Img} (hi : L[i]? = some x) (hj : L[j]? = some y) :
    Calls Tryd.prog 93 #[.slice A L.length c, .int .i64 (i : Int), .int .i64 (j : Int)] w fun r w' => r = .returned (.bool (decide (x.lo < y.lo))) ∧ ∃ n, w' = w.drewN n := by
  obtain ⟨N, hN⟩ : ∃ N, L.length = N := ⟨_, rfl⟩
  have h1 := (List.getElem?_eq_some_iff.1 hi).1
  have h2 := (List.getElem?_eq_some_iff.1 hj).1
  obtain ⟨b, o, rfl, hb, c0, c1, c2, c3⟩ := img_at h hi
  obtain ⟨b', o', e, hb', d0, d1, d2, d3⟩ := img_at h hj
  injection e with e
  injection e with e1 e2
  subst e1 e2
  rw [hN] at h1 h2 ⊢
  clear h hi hj hN
  generalize x.lo = xl at *
  generalize y.lo = yl at *
  have hd : (decide ((xl : Int) < (yl : Int))) = decide (xl < yl) := by rw [Bool.eq_iff_iff]; simp
  clear c1 c2 c3 d1 d2 d3
  go_enter Tryd.func93, Tryd.ntmps93
  go_wp2_with fail
  go_quiet (fail)
  go_wp2_with fail
  go_ret
  exact ⟨rfl, _, rfl⟩

theorem owni_drew {w : World} {base : Nat} {v : Value} {L : List Img} (h : OwnI w base v L) : OwnI w.drew base v L := h
theorem only_drew {a w : World} {row : Option Nat} (h : a.grownBy w row) : a.grownBy w.drew row := only_drewN h 1
/-- Four cells stored at a place. -/
def putI (w : World) (gr i : Nat) (x : Img) : World := (((w.setCell ⟨gr, i * 4, none⟩ (.int .u64 (x.lo : Int))).setCell ⟨gr, i * 4 + 1, none⟩ (.int .u64 (x.hi : Int))).setCell ⟨gr, i * 4 + 2, none⟩ (.int .i64 x.obj)).setCell ⟨gr, i * 4 + 3, none⟩ (.int .i64 x.sect)
theorem owni_swap {w : World} {base gr c i j n : Nat} {L : List Img} {x y : Img} (hn : L.length = n) (h : OwnI w base (.slice (some ⟨gr, 0, none⟩) n c) L) (hx : L[i]? = some x) (hy : L[j]? = some y) :
    OwnI (putI (putI w gr i y) gr j x) base (.slice (some ⟨gr, 0, none⟩) n c) (swp L i j) ∧ w.grownBy (putI (putI w gr i y) gr j x) (some gr) := by
  subst hn
  have hi := (List.getElem?_eq_some_iff.1 hx).1
  have hj := (List.getElem?_eq_some_iff.1 hy).1
  obtain ⟨h1, g1⟩ := owni_set h hi y
  have hl : (L.set i y).length = L.length := by simp
  have h1' : OwnI (putI w gr i y) base (.slice (some ⟨gr, 0, none⟩) (L.set i y).length c) (L.set i y) := by rw [hl]; exact h1
  obtain ⟨h2, g2⟩ := owni_set h1' (i := j) (by rw [hl]; exact hj) x
  rw [swp_of hx hy]
  rw [hl] at h2
  exact ⟨h2, only_trans g1 g2 (.inl rfl)⟩

set_option maxRecDepth 10000 in
set_option maxHeartbeats 1600000 in
theorem qswap_any {w : World} {base : Nat} {v : Value} {L : List Img} (h : OwnI w base v L) {i j : Nat} (hl : L.length ≤ 1000000) (hi : i < L.length) (hj : j < L.length) :
    Calls Tryd.prog 94 #[v, .int .i64 (i : Int), .int .i64 (j : Int)] w fun r w' => r = .returned (.tuple #[]) ∧ OwnI w' base v (swp L i j) ∧ w.grownBy w' v.ownBlock := by
  obtain ⟨gr, c, rfl, hc, _, _, _⟩ := owni_lit h (by omega)
  obtain ⟨x, hx⟩ : ∃ x, L[i]? = some x := ⟨_, List.getElem?_eq_getElem hi⟩
  obtain ⟨y, hy⟩ : ∃ y, L[j]? = some y := ⟨_, List.getElem?_eq_getElem hj⟩
  obtain ⟨c0, c1, c2, c3⟩ := owni_cell h hx
  obtain ⟨d0, d1, d2, d3⟩ := owni_cell h hy
  have hf := fun k => owni_free h k
  obtain ⟨N, hN⟩ : ∃ N, L.length = N := ⟨_, rfl⟩
  rw [hN] at hl hi hj hc ⊢
  have hF := owni_swap hN (hN ▸ h) hx hy
  unfold putI at hF
  have HF := Lib.hid (And.intro (owni_drew hF.1) (only_drew hF.2))
  clear hF
  by_cases e : i = j
  · subst e
    have e : x = y := by rw [hx] at hy; injection hy
    subst e
    clear h hx hy hN
    go_enter Tryd.func94, Tryd.ntmps94
    go_wp2_with fail
    go_region
    go_end0
    exact ⟨rfl, HF.out.1, HF.out.2⟩
  · clear h hx hy hN
    have e' : j ≠ i := fun h => e h.symm
    go_enter Tryd.func94, Tryd.ntmps94
    go_wp2_with fail
    go_region
    go_end0
    exact ⟨rfl, HF.out.1, HF.out.2⟩

end Go.Proofs.YtejicboemkpeoaaDoor
