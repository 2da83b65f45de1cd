/-
  Package linkmap: a queue's Push and Pop.
-/
import Derived.Test.YteadabmlleipiaaSyF
import Derived.Test.YteadabmlleipiaaUntil
import Derived.RangeFuncNested
import Derived.RangeFuncBound
import Derived.RangeFuncCalls
import Derived.RangeFuncLeaves
import Derived.WalkKit
import Derived.Deep.RegionHeld
import Derived.ControlIn
import Derived.OrdersIn
import Derived.Deep.AppendLies
import Derived.Deep.RegionHeldLaw
import Derived.Deep.DeepCutAuto
import Derived.Deep.LoopGhost
namespace Go.Proofs.Yteadabmlleipiaa
open Go Go.RowKit

abbrev ifQ (g : Nat) : Value := .iface 106 (.pointer (some ⟨g, 0, none⟩))
abbrev imgV (x : Img) : Value := .agg #[.int .u64 (x.lo : Int), .int .u64 (x.hi : Int), .int .i64 x.obj, .int .i64 x.sect]
abbrev ifI (x : Img) : Value := .iface 102 (imgV x)

/-- A queue's own blocks. -/
def Qb (g : Nat) (v : Value) (k : Nat) : Prop := k = g ∨ v.ownBlock = some k
section
variable {w w' : World} {base g : Nat} {v : Value} {L : List Img}
theorem QAt.below (h : QAt w base g v L) (hb : Below w.heap.size w w') : QAt w' base g v L :=
  ⟨h.ge, h.box.below hb h.box.lt, row_below h.own hb⟩
theorem QAt.drewN (h : QAt w base g v L) (n : Nat) : QAt (w.drewN n) base g v L := ⟨h.ge, h.box, h.own⟩
theorem QAt.le (h : QAt w base g v L) : base ≤ w.heap.size := Nat.le_trans h.ge (Nat.le_of_lt h.box.lt)
theorem QAt.apart (h : QAt w base g v L) : some g ≠ v.ownBlock := fun e => row_other h.own h.box (by decide) g e.symm rfl
theorem QAt.only (h : QAt w base g v L) (hb : But (Qb g v) w w') : Only base QObj w w' := by
  refine ⟨hb.below h.le (fun k hk => ?_), fun k o ho hn => ?_⟩
  · rcases hk with rfl | hk
    · exact h.ge
    · exact (h.own.lt k hk).1
  · have hlt := (Array.getElem?_eq_some_iff.1 ho).1
    refine (hb.2 k hlt (fun hk => hn ?_)).trans ho
    rcases hk with rfl | hk
    · have hx := h.box
      unfold Box at hx
      rw [hx] at ho
      injection ho with ho
      subst ho
      exact .inr rfl
    · obtain ⟨cs, f, hc⟩ := row_heap h.own hk
      rw [hc] at ho
      injection ho with ho
      subst ho
      exact .inl rfl
theorem But.drewN {P : Nat → Prop} {a b : World} (h : But P a b) (n : Nat) : But P a (b.drewN n) := h.then_ (below_drewN (Below.refl _ _) n)
/-- Another row stored. -/
theorem QAt.put (h : QAt w base g v L) {w1 : World} {v1 : Value} {M : List Img} (hg : w.grownBy w1 v.ownBlock) (ho : OwnI w1 base v1 M) :
    QAt (w1.setCell ⟨g, 0, none⟩ v1) base g v1 M ∧ Only base QObj w (w1.setCell ⟨g, 0, none⟩ v1) := by
  have hX1 := h.box.grown hg h.apart
  have hX2 := hX1.set 0 v1
  have hne : v1.ownBlock ≠ some g := fun e => row_other ho hX1 (by decide) g e rfl
  have hgs : w1.grownBy (w1.setCell ⟨g, 0, none⟩ v1) (some g) := only_set (only_refl _ _) 0 v1
  refine ⟨⟨h.ge, by simpa using hX2, World.ownsRow.kept ho hgs (.inr hne)⟩, (owni_turns h.own hg h.le).trans (Only.row hgs hX1 (.inr rfl) h.ge)⟩
end

set_option linter.unusedSimpArgs false
attribute [local go_sem ↓] Go.wp_at_zero Go.wp_at_succ

theorem assert_img (w : World) (x : Img) : (Instr.typeAssert (ifI x) 20 102 true).run Try.prog w = .ok (.tuple #[imgV x, .bool true]) w := by kernel_rfl

set_option maxRecDepth 10000 in
set_option maxHeartbeats 1600000 in
theorem qpush_any {w : World} {base g : Nat} {v : Value} {L : List Img} (h : QAt w base g v L) (x : Img) (hl : L.length ≤ 100000) :
    Calls Try.prog 137 #[.pointer (some ⟨g, 0, none⟩), ifI x] w fun r w' => r = .returned (.tuple #[]) ∧ (∃ v', QAt w' base g v' (L ++ [x])) ∧ Only base QObj w w' := by
  obtain ⟨i1, hj, hy0, hy1, hy2⟩ := info_parts img_info
  generalize hw0 : w.alloc (.cells #[.int .u64 (x.lo : Int), .int .u64 (x.hi : Int), .int .i64 x.obj, .int .i64 x.sect] 102) = w0 at *
  have hb0 : Below w.heap.size w w0 := hw0 ▸ (Below.refl _ _).alloc (Nat.le_refl _) _
  have hX0 := Box.new w 102 #[.int .u64 (x.lo : Int), .int .u64 (x.hi : Int), .int .i64 x.obj, .int .i64 x.sect]
  rw [hw0] at hX0
  have hlt0 : w.heap.size < w0.heap.size := by rw [← hw0]; simp
  have HLE := Lib.hid h.le
  have HO := Lib.hid (Only.below (bad := QObj) hb0 h.le)
  have hQ := h.below hb0
  have HQ := Lib.hid hQ
  have h63 : L.length + 1 ≤ maxLen := by unfold maxLen; omega
  have hby : (L.length + 1) * 32 ≤ 140737488355328 := by omega
  have hle := hQ.le
  obtain ⟨A, c, hv, _, _, _⟩ := owni_row hQ.own
  have hne : (Value.slice A L.length c).ownBlock ≠ some w.heap.size := fun e => by
    rw [← hv] at e
    have h1 := row_other hQ.own hX0
    have h2 := h.own.lt w.heap.size e
    omega
  have KC := Lib.hid (fun W (hW : w0.grownBy W (Value.slice A L.length c).ownBlock) => (⟨by have := (hQ.box.grown hW (hv ▸ hQ.apart)).cell 0; simpa using this, four_cells (hX0.grown hW hne.symm)⟩ :
    W.cell? ⟨g, 0, none⟩ = some v ∧ W.cell? ⟨w.heap.size, 0, none⟩ = some (.int .u64 (x.lo : Int)) ∧ W.cell? ⟨w.heap.size, 1, none⟩ = some (.int .u64 (x.hi : Int)) ∧ W.cell? ⟨w.heap.size, 2, none⟩ = some (.int .i64 x.obj) ∧ W.cell? ⟨w.heap.size, 3, none⟩ = some (.int .i64 x.sect)))
  obtain ⟨c0, c1, c2, c3, c4⟩ := KC.out _ (only_refl _ _)
  have hA0 : ∀ o, Below w0.heap.size w0 (w0.alloc o) := fun o => (Below.refl _ _).alloc (Nat.le_refl _) o
  have hr0 := hQ.own
  have hG0 : ∀ o, w0.grownBy (w0.alloc o) (Value.slice A L.length c).ownBlock := fun o => only_below (hA0 o) _
  clear hX0 hb0 h hQ
  subst hv
  have hta := fun W => assert_img W x
  go_enter Try.func137, Try.ntmps137
  go_upto_region 1 with fail
  try rw [hw0]
  clear hw0
  go_upto_region 2 with fail
  have hA1 : Below w0.heap.size w0 (w0.alloc (.cells (Img.cells x).toArray 102)).drew := below_drewN (hA0 _) 1
  have HQ1 := Lib.hid (HQ.out.below hA1)
  have hrA := HQ1.out.own
  have hcA : ∀ j u, (Img.cells x)[j]? = some u → (w0.alloc (.cells (Img.cells x).toArray 102)).drew.cell? ((⟨w0.heap.size, 0, none⟩ : Addr).add j) = some u := fun j u h => cells_new w0 _ _ j u h
  have hsA := HQ1.out.le
  have hGA := only_below hA1 (Value.slice A L.length c).ownBlock
  clear hA1
  refine region_any (by kernel_rfl) ?_
  refine wpAny_of_until (S := fun W => W.cell? ⟨g, 0, none⟩ = some (.slice A L.length c) ∧ W.cell? ⟨w.heap.size, 0, none⟩ = some (.int .u64 (x.lo : Int)) ∧ W.cell? ⟨w.heap.size, 1, none⟩ = some (.int .u64 (x.hi : Int)) ∧ W.cell? ⟨w.heap.size, 2, none⟩ = some (.int .i64 x.obj) ∧ W.cell? ⟨w.heap.size, 3, none⟩ = some (.int .i64 x.sect)) (p := 8) _ _ _ _ ?_
  have hHeld := KC.out _ (only_drewN (only_refl _ _) 1)
  refine take_u (i := 0) (v := ?_) [7, 8] rfl (by kernel_rfl) (by kernel_rfl) (by kernel_rfl) (by kernel_rfl) (by kernel_rfl) (by kernel_rfl) (by kernel_rfl) (fun _ _ _ h => h) (Or.inl ⟨by rfl, ?_⟩) hHeld ?_
  rotate_left
  · (intro wS hSw; (try dsimp only at hSw); go_simp; (try with_reducible rfl))
  try simp only [Act.put, List.setIfInBounds_toArray, List.set_cons_zero, List.set_cons_succ]
  refine take_u (i := 1) (v := ?_) [2, 3, 6, 8] rfl (by kernel_rfl) (by kernel_rfl) (by kernel_rfl) (by kernel_rfl) (by kernel_rfl) (by kernel_rfl) (by kernel_rfl) (fun _ _ _ h => h) (Or.inl ⟨by rfl, ?_⟩) hHeld ?_
  rotate_left
  · (intro wS hSw; (try dsimp only at hSw); go_simp; (try with_reducible rfl))
  try simp only [Act.put, List.setIfInBounds_toArray, List.set_cons_zero, List.set_cons_succ]
  refine take_u (i := 2) (v := ?_) [3, 6, 8] rfl (by kernel_rfl) (by kernel_rfl) (by kernel_rfl) (by kernel_rfl) (by kernel_rfl) (by kernel_rfl) (by kernel_rfl) (fun _ _ _ h => h) (Or.inl ⟨by rfl, ?_⟩) hHeld ?_
  rotate_left
  · (intro wS hSw; (try dsimp only at hSw); go_simp; (try with_reducible rfl))
  try simp only [Act.put, List.setIfInBounds_toArray, List.set_cons_zero, List.set_cons_succ]
  refine take_u (i := 3) (v := ?_) [6, 8] rfl (by kernel_rfl) (by kernel_rfl) (by kernel_rfl) (by kernel_rfl) (by kernel_rfl) (by kernel_rfl) (by kernel_rfl) (fun _ _ _ h => h) (Or.inl ⟨by rfl, ?_⟩) hHeld ?_
  rotate_left
  · (intro wS hSw; (try dsimp only at hSw); go_simp; (try with_reducible rfl))
  try simp only [Act.put, List.setIfInBounds_toArray, List.set_cons_zero, List.set_cons_succ]
  refine take_u (i := 4) (v := ?_) [5, 6, 8] rfl (by kernel_rfl) (by kernel_rfl) (by kernel_rfl) (by kernel_rfl) (by kernel_rfl) (by kernel_rfl) (by kernel_rfl) (fun _ _ _ h => h) (Or.inl ⟨by rfl, ?_⟩) hHeld ?_
  rotate_left
  · (intro wS hSw; (try dsimp only at hSw); go_simp; (try with_reducible rfl))
  try simp only [Act.put, List.setIfInBounds_toArray, List.set_cons_zero, List.set_cons_succ]
  refine ready_u (i := 5) (by kernel_rfl) rfl (by kernel_rfl) (fun K hK => ?_)
  go_simp
  go_wp2_with (fail)
  refine hK.out _ _ ?_ (fun hNew => ?_)
  · exact KC.out _ (only_drewN (hG0 _) 1)
  clear hHeld hK K
  have hHeld := hNew
  clear hNew
  refine ready_u (i := 6) (by kernel_rfl) rfl (by kernel_rfl) (fun K hK => ?_)
  refine step_append_lies _ (by rfl) (.tmp 15) (.tmp 17) _ (by rfl) base 102 i1 _ 4 32 Try.underlying96 hj hy0 hy1 hy2 (by rfl) (by decide) (.slice A L.length c) L.length (cellsF Img.cells L) (by rfl) (by exact hrA) ⟨w0.heap.size, 0, none⟩ 1 1 (Img.cells x) (by rfl) rfl hcA (Img.one _) (by decide) h63 hby (by exact hsA) _ rfl ?_; intro g8 cap8 w8 hown8 hg8 hat8 hlt8; have hg9 := hGA.trans hg8; have HP8 := Lib.hid (QAt.put HQ1.out (M := L ++ [x]) hg8 (by simpa [OwnI, cellsF] using hown8)); have hX8 := HQ1.out.box.grown hg8 HQ1.out.apart; have hz0 := hX8.cell 0; have hz1 := hX8.free 0; simp at hz0; clear hX8 hat8 hown8
  try simp only [Act.put, List.setIfInBounds_toArray, List.set_cons_zero, List.set_cons_succ]
  refine hK.out _ _ ?_ (fun hNew => ?_)
  · exact KC.out _ hg9
  clear hHeld hK K
  have hHeld := hNew
  clear hNew
  refine ready_u (i := 7) (by kernel_rfl) rfl (by kernel_rfl) (fun K hK => ?_)
  go_simp
  go_wp2_with (fail)
  refine hK.out _ _ ?_ (fun hNew => ?_)
  · exact hHeld
  clear hHeld hK K
  have hHeld := hNew
  clear hNew
  refine end_u (by kernel_rfl) rfl (fun K hK => ?_)
  go_simp
  refine hK.out _ _ ?_
  clear hHeld hK K
  refine wpAny_of_held (S := fun _ => True) _ _ _ _ ?_
  refine wpAnyH_done (by kernel_rfl) ?_ _
  go_wp2_with fail
  first | go_end0 | (refine bodyPost_ret (results_none rfl _ _ _) rfl ?_)
  exact ⟨rfl, ⟨_, HP8.out.1⟩, (HO.out.then_ (below_drewN (hA0 _) 1) HLE.out).trans HP8.out.2⟩

theorem owni_front {w : World} {base gr c n : Nat} {M : List Img} {x : Img} (h : OwnI w base (.slice (some ⟨gr, 0, none⟩) (M ++ [x]).length c) (M ++ [x])) (hn : M.length = n) : OwnI w base (.slice (some ⟨gr, 0, none⟩) n c) M := by
  subst hn
  obtain ⟨h1, h2⟩ := h
  rcases h2 with ⟨e, _⟩ | ⟨g, cap, cur, e, hg, hh, hn, hm, hsz, ht⟩
  · cases e
  · injection e with e1 e2 e3
    injection e1 with e1
    injection e1 with e1 e4
    subst e1 e3
    have hl := cellsF_length img_four M
    refine ⟨hl, .inr ⟨gr, c, cur, rfl, hg, hh, by simp at hn; omega, hm, hsz, ?_⟩⟩
    have h3 : (cur.toList.take ((M ++ [x]).length * 4)).take (M.length * 4) = (cellsF Img.cells (M ++ [x])).take (M.length * 4) := by rw [ht]
    rw [List.take_take, cellsF_append, List.take_left' hl] at h3
    rw [← h3]
    congr 1
    simp

set_option maxRecDepth 10000 in
set_option maxHeartbeats 1600000 in
theorem qpop_any {w : World} {base g : Nat} {v : Value} {M : List Img} {x : Img} (h : QAt w base g v (M ++ [x])) (hl : M.length ≤ 100000) :
    Calls Try.prog 136 #[.pointer (some ⟨g, 0, none⟩)] w fun r w' => r = .returned (ifI x) ∧ (∃ v', v'.ownBlock = v.ownBlock ∧ QAt w' base g v' M) ∧ But (Qb g v) w w' := by
  obtain ⟨gr, c, rfl, hc, hgr, hlt, hcm⟩ := owni_lit h.own (by simp)
  have c0 := h.box.cell 0
  have f0 := h.box.free 0
  have c0' : w.cell? ⟨g, 0, none⟩ = some (.slice (some ⟨gr, 0, none⟩) (M ++ [x]).length c) := by simpa using c0
  clear c0
  rename w.cell? _ = some (Value.slice _ _ c) => c0
  obtain ⟨d0, d1, d2, d3⟩ := owni_cell h.own (show (M ++ [x])[M.length]? = some x by simp)
  obtain ⟨N, hN⟩ : ∃ N, M.length = N := ⟨_, rfl⟩
  have hl1 : (M ++ [x]).length = N + 1 := by simp [hN]
  have H := Lib.hid h
  have HF := Lib.hid (owni_front h.own hN)
  rw [hl1] at c0 H hc
  rw [hN] at d0 d1 d2 d3 hl
  have HQ := Lib.hid (fun W (hb : Below w.heap.size w W) => (show QAt (W.setCell ⟨g, 0, none⟩ (.slice (some ⟨gr, 0, none⟩) N c)) base g (.slice (some ⟨gr, 0, none⟩) N c) M ∧ But (Qb g (.slice (some ⟨gr, 0, none⟩) (N + 1) c)) w (W.setCell ⟨g, 0, none⟩ (.slice (some ⟨gr, 0, none⟩) N c)) from by
    have h1 := H.out.below hb
    have h2 := h1.put (w1 := W) (v1 := .slice (some ⟨gr, 0, none⟩) N c) (M := M) (only_refl _ _) (row_below HF.out hb)
    exact ⟨h2.1, (But.of_below hb).grown (only_set (only_refl _ _) 0 _) (fun x e => by injection e with e; exact .inl (.inl e.symm))⟩))
  have hq1 : (N : Int) + 1 - 1 = (N : Int) := by omega
  have hgg : g < w.heap.size := h.box.lt
  clear h hN hl1
  go_enter Try.func136, Try.ntmps136
  go_wp2_with fail
  go_ret
  have h1 := HQ.out w (Below.refl _ _)
  exact ⟨rfl, ⟨.slice (some ⟨gr, 0, none⟩) N c, rfl, h1.1.below ((Below.refl _ _).alloc (Nat.le_refl _) _)⟩, h1.2.then_ ((Below.refl _ _).alloc (Nat.le_refl _) _)⟩

end Go.Proofs.Yteadabmlleipiaa
