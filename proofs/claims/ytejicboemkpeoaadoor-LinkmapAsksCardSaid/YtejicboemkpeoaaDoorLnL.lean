/-
  Package linkmap: a place is kept, and its image told (place).
-/
import Derived.Test.YtejicboemkpeoaaDoorLnB
import Derived.Test.YtejicboemkpeoaaDoorSyF
import Derived.Test.YtejicboemkpeoaaDoorUntil
import Derived.Test.YtejicboemkpeoaaDoorRoundRegion
import Derived.Deep.AppendLies
import Derived.Deep.RegionHeldLaw
import Derived.Deep.DeepCutAuto
import Derived.Deep.LoopGhost
import Derived.Test.YtejicboemkpeoaaDoorLnK
import Derived.Test.YtejicboemkpeoaaDoorObT
import Derived.RegionTactic
import Derived.BigRegion
namespace Go.Proofs.YtejicboemkpeoaaDoor
open Go Go.RowKit

abbrev ifQ (g : Nat) : Value := .iface 87 (.pointer (some ⟨g, 0, none⟩))
abbrev imgV (x : Img) : Value := .agg #[.int .u64 (x.lo : Int), .int .u64 (x.hi : Int), .int .i64 x.obj, .int .i64 x.sect]
abbrev ifI (x : Img) : Value := .iface 83 (imgV x)

/-- A queue's own blocks. -/
def Qb (g : Nat) (v : Value) (k : Nat) : Prop := k = g ∨ v.ownBlock = some k
section
variable {w w' : World} {base g : Nat} {v : Value} {L : List Img}
theorem QAt.below (h : QAt w base g v L) (hb : Below w.heap.size w w') : QAt w' base g v L :=
  ⟨h.ge, h.box.below hb h.box.lt, row_below h.own hb⟩
theorem QAt.drewN (h : QAt w base g v L) (n : Nat) : QAt (w.drewN n) base g v L := ⟨h.ge, h.box, h.own⟩
theorem QAt.le (h : QAt w base g v L) : base ≤ w.heap.size := Nat.le_trans h.ge (Nat.le_of_lt h.box.lt)
theorem QAt.apart (h : QAt w base g v L) : some g ≠ v.ownBlock := fun e => row_other h.own h.box (by decide) g e.symm rfl
theorem QAt.only (h : QAt w base g v L) (hb : But (Qb g v) w w') : Only base QObj w w' := by
  refine ⟨hb.below h.le (fun k hk => ?_), fun k o ho hn => ?_⟩
  · rcases hk with rfl | hk
    · exact h.ge
    · exact (h.own.lt k hk).1
  · have hlt := (Array.getElem?_eq_some_iff.1 ho).1
    refine (hb.2 k hlt (fun hk => hn ?_)).trans ho
    rcases hk with rfl | hk
    · have hx := h.box
      unfold Box at hx
      rw [hx] at ho
      injection ho with ho
      subst ho
      exact .inr rfl
    · obtain ⟨cs, f, hc⟩ := row_heap h.own hk
      rw [hc] at ho
      injection ho with ho
      subst ho
      exact .inl rfl
theorem But.drewN {P : Nat → Prop} {a b : World} (h : But P a b) (n : Nat) : But P a (b.drewN n) := h.then_ (below_drewN (Below.refl _ _) n)
/-- Another row stored. -/
theorem QAt.put (h : QAt w base g v L) {w1 : World} {v1 : Value} {M : List Img} (hg : w.grownBy w1 v.ownBlock) (ho : OwnI w1 base v1 M) :
    QAt (w1.setCell ⟨g, 0, none⟩ v1) base g v1 M ∧ Only base QObj w (w1.setCell ⟨g, 0, none⟩ v1) := by
  have hX1 := h.box.grown hg h.apart
  have hX2 := hX1.set 0 v1
  have hne : v1.ownBlock ≠ some g := fun e => row_other ho hX1 (by decide) g e rfl
  have hgs : w1.grownBy (w1.setCell ⟨g, 0, none⟩ v1) (some g) := only_set (only_refl _ _) 0 v1
  refine ⟨⟨h.ge, by simpa using hX2, World.ownsRow.kept ho hgs (.inr hne)⟩, (owni_turns h.own hg h.le).trans (Only.row hgs hX1 (.inr rfl) h.ge)⟩
end

set_option linter.unusedSimpArgs false
attribute [local go_sem ↓] Go.wp_at_zero Go.wp_at_succ

theorem assert_img (w : World) (x : Img) : (Instr.typeAssert (ifI x) 20 83 true).run Tryd.prog w = .ok (.tuple #[imgV x, .bool true]) w := by kernel_rfl

set_option maxRecDepth 10000 in
set_option maxHeartbeats 1600000 in
theorem qpush_any {w : World} {base g : Nat} {v : Value} {L : List Img} (h : QAt w base g v L) (x : Img) (hl : L.length ≤ 100000) :
    Calls Tryd.prog 96 #[.pointer (some ⟨g, 0, none⟩), ifI x] w fun r w' => r = .returned (.tuple #[]) ∧ (∃ v', QAt w' base g v' (L ++ [x])) ∧ Only base QObj w w' := by
  obtain ⟨i1, hj, hy0, hy1, hy2⟩ := info_parts img_info
  generalize hw0 : w.alloc (.cells #[.int .u64 (x.lo : Int), .int .u64 (x.hi : Int), .int .i64 x.obj, .int .i64 x.sect] 83) = w0 at *
  have hb0 : Below w.heap.size w w0 := hw0 ▸ (Below.refl _ _).alloc (Nat.le_refl _) _
  have hX0 := Box.new w 83 #[.int .u64 (x.lo : Int), .int .u64 (x.hi : Int), .int .i64 x.obj, .int .i64 x.sect]
  rw [hw0] at hX0
  have hlt0 : w.heap.size < w0.heap.size := by rw [← hw0]; simp
  have HLE := Lib.hid h.le
  have HO := Lib.hid (Only.below (bad := QObj) hb0 h.le)
  have hQ := h.below hb0
  have HQ := Lib.hid hQ
  have h63 : L.length + 1 ≤ maxLen := by unfold maxLen; omega
  have hby : (L.length + 1) * 32 ≤ 140737488355328 := by omega
  have hle := hQ.le
  obtain ⟨A, c, hv, _, _, _⟩ := owni_row hQ.own
  have hne : (Value.slice A L.length c).ownBlock ≠ some w.heap.size := fun e => by
    rw [← hv] at e
    have h1 := row_other hQ.own hX0
    have h2 := h.own.lt w.heap.size e
    omega
  have KC := Lib.hid (fun W (hW : w0.grownBy W (Value.slice A L.length c).ownBlock) => (⟨by have := (hQ.box.grown hW (hv ▸ hQ.apart)).cell 0; simpa using this, four_cells (hX0.grown hW hne.symm)⟩ :
    W.cell? ⟨g, 0, none⟩ = some v ∧ W.cell? ⟨w.heap.size, 0, none⟩ = some (.int .u64 (x.lo : Int)) ∧ W.cell? ⟨w.heap.size, 1, none⟩ = some (.int .u64 (x.hi : Int)) ∧ W.cell? ⟨w.heap.size, 2, none⟩ = some (.int .i64 x.obj) ∧ W.cell? ⟨w.heap.size, 3, none⟩ = some (.int .i64 x.sect)))
  obtain ⟨c0, c1, c2, c3, c4⟩ := KC.out _ (only_refl _ _)
  have hA0 : ∀ o, Below w0.heap.size w0 (w0.alloc o) := fun o => (Below.refl _ _).alloc (Nat.le_refl _) o
  have hr0 := hQ.own
  have hG0 : ∀ o, w0.grownBy (w0.alloc o) (Value.slice A L.length c).ownBlock := fun o => only_below (hA0 o) _
  clear hX0 hb0 h hQ
  subst hv
  have hta := fun W => assert_img W x
  go_enter Tryd.func96, Tryd.ntmps96
  go_upto_region 1 with fail
  try rw [hw0]
  clear hw0
  go_upto_region 2 with fail
  have hA1 : Below w0.heap.size w0 (w0.alloc (.cells (Img.cells x).toArray 83)).drew := below_drewN (hA0 _) 1
  have HQ1 := Lib.hid (HQ.out.below hA1)
  have hrA := HQ1.out.own
  have hcA : ∀ j u, (Img.cells x)[j]? = some u → (w0.alloc (.cells (Img.cells x).toArray 83)).drew.cell? ((⟨w0.heap.size, 0, none⟩ : Addr).add j) = some u := fun j u h => cells_new w0 _ _ j u h
  have hsA := HQ1.out.le
  have hGA := only_below hA1 (Value.slice A L.length c).ownBlock
  clear hA1
  refine region_any (by kernel_rfl) ?_
  refine wpAny_of_until (S := fun W => W.cell? ⟨g, 0, none⟩ = some (.slice A L.length c) ∧ W.cell? ⟨w.heap.size, 0, none⟩ = some (.int .u64 (x.lo : Int)) ∧ W.cell? ⟨w.heap.size, 1, none⟩ = some (.int .u64 (x.hi : Int)) ∧ W.cell? ⟨w.heap.size, 2, none⟩ = some (.int .i64 x.obj) ∧ W.cell? ⟨w.heap.size, 3, none⟩ = some (.int .i64 x.sect)) (p := 8) _ _ _ _ ?_
  have hHeld := KC.out _ (only_drewN (only_refl _ _) 1)
  refine take_u (i := 0) (v := ?_) [7, 8] rfl (by kernel_rfl) (by kernel_rfl) (by kernel_rfl) (by kernel_rfl) (by kernel_rfl) (by kernel_rfl) (by kernel_rfl) (fun _ _ _ h => h) (Or.inl ⟨by rfl, ?_⟩) hHeld ?_
  rotate_left
  · (intro wS hSw; (try dsimp only at hSw); go_simp; (try with_reducible rfl))
  try simp only [Act.put, List.setIfInBounds_toArray, List.set_cons_zero, List.set_cons_succ]
  refine take_u (i := 1) (v := ?_) [2, 3, 6, 8] rfl (by kernel_rfl) (by kernel_rfl) (by kernel_rfl) (by kernel_rfl) (by kernel_rfl) (by kernel_rfl) (by kernel_rfl) (fun _ _ _ h => h) (Or.inl ⟨by rfl, ?_⟩) hHeld ?_
  rotate_left
  · (intro wS hSw; (try dsimp only at hSw); go_simp; (try with_reducible rfl))
  try simp only [Act.put, List.setIfInBounds_toArray, List.set_cons_zero, List.set_cons_succ]
  refine take_u (i := 2) (v := ?_) [3, 6, 8] rfl (by kernel_rfl) (by kernel_rfl) (by kernel_rfl) (by kernel_rfl) (by kernel_rfl) (by kernel_rfl) (by kernel_rfl) (fun _ _ _ h => h) (Or.inl ⟨by rfl, ?_⟩) hHeld ?_
  rotate_left
  · (intro wS hSw; (try dsimp only at hSw); go_simp; (try with_reducible rfl))
  try simp only [Act.put, List.setIfInBounds_toArray, List.set_cons_zero, List.set_cons_succ]
  refine take_u (i := 3) (v := ?_) [6, 8] rfl (by kernel_rfl) (by kernel_rfl) (by kernel_rfl) (by kernel_rfl) (by kernel_rfl) (by kernel_rfl) (by kernel_rfl) (fun _ _ _ h => h) (Or.inl ⟨by rfl, ?_⟩) hHeld ?_
  rotate_left
  · (intro wS hSw; (try dsimp only at hSw); go_simp; (try with_reducible rfl))
  try simp only [Act.put, List.setIfInBounds_toArray, List.set_cons_zero, List.set_cons_succ]
  refine take_u (i := 4) (v := ?_) [5, 6, 8] rfl (by kernel_rfl) (by kernel_rfl) (by kernel_rfl) (by kernel_rfl) (by kernel_rfl) (by kernel_rfl) (by kernel_rfl) (fun _ _ _ h => h) (Or.inl ⟨by rfl, ?_⟩) hHeld ?_
  rotate_left
  · (intro wS hSw; (try dsimp only at hSw); go_simp; (try with_reducible rfl))
  try simp only [Act.put, List.setIfInBounds_toArray, List.set_cons_zero, List.set_cons_succ]
  refine ready_u (i := 5) (by kernel_rfl) rfl (by kernel_rfl) (fun K hK => ?_)
  go_simp
  go_wp2_with (fail)
  refine hK.out _ _ ?_ (fun hNew => ?_)
  · exact KC.out _ (only_drewN (hG0 _) 1)
  clear hHeld hK K
  have hHeld := hNew
  clear hNew
  refine ready_u (i := 6) (by kernel_rfl) rfl (by kernel_rfl) (fun K hK => ?_)
  refine step_append_lies _ (by rfl) (.tmp 15) (.tmp 17) _ (by rfl) base 83 i1 _ 4 32 Tryd.underlying79 hj hy0 hy1 hy2 (by rfl) (by decide) (.slice A L.length c) L.length (cellsF Img.cells L) (by rfl) (by exact hrA) ⟨w0.heap.size, 0, none⟩ 1 1 (Img.cells x) (by rfl) rfl hcA (Img.one _) (by decide) h63 hby (by exact hsA) _ rfl ?_; intro g8 cap8 w8 hown8 hg8 hat8 hlt8; have hg9 := hGA.trans hg8; have HP8 := Lib.hid (QAt.put HQ1.out (M := L ++ [x]) hg8 (by simpa [OwnI, cellsF] using hown8)); have hX8 := HQ1.out.box.grown hg8 HQ1.out.apart; have hz0 := hX8.cell 0; have hz1 := hX8.free 0; simp at hz0; clear hX8 hat8 hown8
  try simp only [Act.put, List.setIfInBounds_toArray, List.set_cons_zero, List.set_cons_succ]
  refine hK.out _ _ ?_ (fun hNew => ?_)
  · exact KC.out _ hg9
  clear hHeld hK K
  have hHeld := hNew
  clear hNew
  refine ready_u (i := 7) (by kernel_rfl) rfl (by kernel_rfl) (fun K hK => ?_)
  go_simp
  go_wp2_with (fail)
  refine hK.out _ _ ?_ (fun hNew => ?_)
  · exact hHeld
  clear hHeld hK K
  have hHeld := hNew
  clear hNew
  refine end_u (by kernel_rfl) rfl (fun K hK => ?_)
  go_simp
  refine hK.out _ _ ?_
  clear hHeld hK K
  refine wpAny_of_held (S := fun _ => True) _ _ _ _ ?_
  refine wpAnyH_done (by kernel_rfl) ?_ _
  go_wp2_with fail
  first | go_end0 | (refine bodyPost_ret (results_none rfl _ _ _) rfl ?_)
  exact ⟨rfl, ⟨_, HP8.out.1⟩, (HO.out.then_ (below_drewN (hA0 _) 1) HLE.out).trans HP8.out.2⟩

theorem owni_front {w : World} {base gr c n : Nat} {M : List Img} {x : Img} (h : OwnI w base (.slice (some ⟨gr, 0, none⟩) (M ++ [x]).length c) (M ++ [x])) (hn : M.length = n) : OwnI w base (.slice (some ⟨gr, 0, none⟩) n c) M := by
  subst hn
  obtain ⟨h1, h2⟩ := h
  rcases h2 with ⟨e, _⟩ | ⟨g, cap, cur, e, hg, hh, hn, hm, hsz, ht⟩
  · cases e
  · injection e with e1 e2 e3
    injection e1 with e1
    injection e1 with e1 e4
    subst e1 e3
    have hl := cellsF_length img_four M
    refine ⟨hl, .inr ⟨gr, c, cur, rfl, hg, hh, by simp at hn; omega, hm, hsz, ?_⟩⟩
    have h3 : (cur.toList.take ((M ++ [x]).length * 4)).take (M.length * 4) = (cellsF Img.cells (M ++ [x])).take (M.length * 4) := by rw [ht]
    rw [List.take_take, cellsF_append, List.take_left' hl] at h3
    rw [← h3]
    congr 1
    simp

set_option maxRecDepth 10000 in
set_option maxHeartbeats 1600000 in
theorem qpop_any {w : World} {base g : Nat} {v : Value} {M : List Img} {x : Img} (h : QAt w base g v (M ++ [x])) (hl : M.length ≤ 100000) :
    Calls Tryd.prog 95 #[.pointer (some ⟨g, 0, none⟩)] w fun r w' => r = .returned (ifI x) ∧ (∃ v', v'.ownBlock = v.ownBlock ∧ QAt w' base g v' M) ∧ But (Qb g v) w w' := by
  obtain ⟨gr, c, rfl, hc, hgr, hlt, hcm⟩ := owni_lit h.own (by simp)
  have c0 := h.box.cell 0
  have f0 := h.box.free 0
  have c0' : w.cell? ⟨g, 0, none⟩ = some (.slice (some ⟨gr, 0, none⟩) (M ++ [x]).length c) := by simpa using c0
  clear c0
  rename w.cell? _ = some (Value.slice _ _ c) => c0
  obtain ⟨d0, d1, d2, d3⟩ := owni_cell h.own (show (M ++ [x])[M.length]? = some x by simp)
  obtain ⟨N, hN⟩ : ∃ N, M.length = N := ⟨_, rfl⟩
  have hl1 : (M ++ [x]).length = N + 1 := by simp [hN]
  have H := Lib.hid h
  have HF := Lib.hid (owni_front h.own hN)
  rw [hl1] at c0 H hc
  rw [hN] at d0 d1 d2 d3 hl
  have HQ := Lib.hid (fun W (hb : Below w.heap.size w W) => (show QAt (W.setCell ⟨g, 0, none⟩ (.slice (some ⟨gr, 0, none⟩) N c)) base g (.slice (some ⟨gr, 0, none⟩) N c) M ∧ But (Qb g (.slice (some ⟨gr, 0, none⟩) (N + 1) c)) w (W.setCell ⟨g, 0, none⟩ (.slice (some ⟨gr, 0, none⟩) N c)) from by
    have h1 := H.out.below hb
    have h2 := h1.put (w1 := W) (v1 := .slice (some ⟨gr, 0, none⟩) N c) (M := M) (only_refl _ _) (row_below HF.out hb)
    exact ⟨h2.1, (But.of_below hb).grown (only_set (only_refl _ _) 0 _) (fun x e => by injection e with e; exact .inl (.inl e.symm))⟩))
  have hq1 : (N : Int) + 1 - 1 = (N : Int) := by omega
  have hgg : g < w.heap.size := h.box.lt
  clear h hN hl1
  go_enter Tryd.func95, Tryd.ntmps95
  go_wp2_with fail
  go_ret
  have h1 := HQ.out w (Below.refl _ _)
  exact ⟨rfl, ⟨.slice (some ⟨gr, 0, none⟩) N c, rfl, h1.1.below ((Below.refl _ _).alloc (Nat.le_refl _) _)⟩, h1.2.then_ ((Below.refl _ _).alloc (Nat.le_refl _) _)⟩

end Go.Proofs.YtejicboemkpeoaaDoor

namespace Go.Proofs.YtejicboemkpeoaaDoor
open Go Go.RowKit

theorem img_box {W : World} {H : Nat} {cs : Array Value} (h : Box W H 83 cs) (hs : cs.size = 4) (v0 v1 v2 v3 : Value) :
    Box ((((W.setCell ⟨H, 0, none⟩ v0).setCell ⟨H, 1, none⟩ v1).setCell ⟨H, 2, none⟩ v2).setCell ⟨H, 3, none⟩ v3) H 83 #[v0, v1, v2, v3] := four_box h hs v0 v1 v2 v3
theorem below_put {B H : Nat} {a W : World} (h : Below B a W) (hH : B ≤ H) (v0 v1 v2 v3 : Value) : Below B a ((((W.setCell ⟨H, 0, none⟩ v0).setCell ⟨H, 1, none⟩ v1).setCell ⟨H, 2, none⟩ v2).setCell ⟨H, 3, none⟩ v3) :=
  ⟨h.os, h.tape, h.output, by simpa using h.size, fun k hk => by
    have hg := four_only W H v0 v1 v2 v3
    have hkW : k < W.heap.size ∨ W.heap.size ≤ k := by omega
    rcases hkW with hkW | hkW
    · exact (hg.block k hkW (by simp; omega)).trans (h.block k hk)
    · rw [Array.getElem?_eq_none (by simpa using hkW), ← h.block k hk, Array.getElem?_eq_none hkW]⟩
theorem below_then {a b : World} (n : Nat) (h : Below (a.drewN n).heap.size (a.drewN n) b) : Below a.heap.size a b := ⟨h.os, h.tape, h.output, h.size, h.block⟩
theorem sub_tomb {n m : Nat} (h : n ≤ 100000) (hm : 18446744073709551615 - n = m) : IntKind.u64.wrap (18446744073709551615 - (n : Int)) = (m : Int) := by
  rw [IntKind.wrap_u64]
  omega
def noneI : Img := ⟨0, 0, 0, 0⟩
/-- What a place makes. -/
def imgP (O : List ObjV) (p : Place) : Img := ⟨p.addr, p.addr + sizK O p, p.obj, p.sect⟩

set_option maxRecDepth 10000 in
set_option maxHeartbeats 3200000 in
theorem lplace_any {w : World} {base g mp my : Nat} {v : Value} {P : List Place} {aO aQ : Option Addr} {cO cQ : Nat} {O : List ObjV} {Q : List BLay} (hX : Box w g 77 #[.map (some mp), v, .map (some my)]) (hP : PMap w base mp P) (hpl : P.length ≤ 1000)
    (hO : Objs w w.heap.size aO O) (hQ : BRows w w.heap.size aQ Q) (hL : ∀ ob ∈ O, ob.L.length ≤ 100000) (hD : ∀ ob ∈ O, ∀ x ∈ ob.L, x.s.data.length ≤ 100000 ∧ x.s.flags < two64) {p : Place} (hp : p.Nums) :
    Calls Tryd.prog 25 #[.pointer (some ⟨g, 0, none⟩), .agg #[.int .i64 p.obj, .int .i64 p.sect, .int .u64 (p.addr : Int)], .slice aO O.length cO, .slice aQ Q.length cQ] w fun r w' =>
      (goodP O Q P p = true → r = .returned (.tuple #[imgV (imgP O p), .bool true]) ∧ PMap w' base mp (P ++ [p])) ∧ (goodP O Q P p = false → r = .returned (.tuple #[imgV noneI, .bool false])) ∧ But (fun k => k = mp) w w' := by
  obtain ⟨po, ps, pa⟩ := p
  simp only at hp ⊢
  generalize hw0 : ((w.alloc (.cells #[.int .i64 po, .int .i64 ps, .int .u64 (pa : Int)] 43)).alloc (.cells #[.int .u64 0, .int .u64 0, .int .i64 0, .int .i64 0] 83)).alloc (.cells #[.int .i64 po, .int .i64 ps] 81) = w0 at *
  have hb0 : Below w.heap.size w w0 := hw0 ▸ (((Below.refl _ _).alloc (Nat.le_refl _) _).alloc (by simp) _).alloc (by simp; omega) _
  have HB0 := Lib.hid hb0
  have hs0 : w0.heap.size = w.heap.size + 3 := by rw [← hw0]; simp
  have hXp : Box w0 w.heap.size 43 #[.int .i64 po, .int .i64 ps, .int .u64 (pa : Int)] := by
    rw [← hw0]
    exact ((Box.new w _ _).below ((Below.refl _ _).alloc (Nat.le_refl _) _) (by simp)).below ((Below.refl _ _).alloc (Nat.le_refl _) _) (by simp; omega)
  have hXz : Box w0 (w.heap.size + 1) 83 #[.int .u64 0, .int .u64 0, .int .i64 0, .int .i64 0] := by
    rw [← hw0]
    have h1 := Box.new (w.alloc (.cells #[.int .i64 po, .int .i64 ps, .int .u64 (pa : Int)] 43)) 83 #[.int .u64 0, .int .u64 0, .int .i64 0, .int .i64 0]
    rw [show (w.alloc (.cells #[.int .i64 po, .int .i64 ps, .int .u64 (pa : Int)] 43)).heap.size = w.heap.size + 1 by simp] at h1
    exact h1.below ((Below.refl _ _).alloc (Nat.le_refl _) _) (by simp)
  have hXs : Box w0 (w.heap.size + 1 + 1) 81 #[.int .i64 po, .int .i64 ps] := by
    rw [← hw0]
    have h1 := Box.new ((w.alloc (.cells #[.int .i64 po, .int .i64 ps, .int .u64 (pa : Int)] 43)).alloc (.cells #[.int .u64 0, .int .u64 0, .int .i64 0, .int .i64 0] 83)) 81 #[.int .i64 po, .int .i64 ps]
    rw [show ((w.alloc (.cells #[.int .i64 po, .int .i64 ps, .int .u64 (pa : Int)] 43)).alloc (.cells #[.int .u64 0, .int .u64 0, .int .i64 0, .int .i64 0] 83)).heap.size = w.heap.size + 1 + 1 by simp] at h1
    exact h1
  have KX := Lib.hid (fun W (hW : Below w0.heap.size w0 W) => (⟨hXp.below hW (by omega), hXz.below hW (by omega), hXs.below hW (by omega)⟩ : Box W w.heap.size 43 #[.int .i64 po, .int .i64 ps, .int .u64 (pa : Int)] ∧ Box W (w.heap.size + 1) 83 #[.int .u64 0, .int .u64 0, .int .i64 0, .int .i64 0] ∧ Box W (w.heap.size + 1 + 1) 81 #[.int .i64 po, .int .i64 ps]))
  have HAM := Lib.hid (among_any (c := cO) (hO.below hb0) (by omega) hL po ps)
  have y0 := hXs.cell 0
  have y1 := hXs.cell 1
  have f0 := hXs.free 0
  simp at y0 y1
  have HS0 := Lib.hid hs0
  cases hx : secK O po ps with
  | none =>
    have HG := Lib.hid (show goodP O Q P ⟨po, ps, pa⟩ = false by unfold goodP; rw [hx])
    rw [hx] at HAM
    clear hX hP hO hQ hL hD hb0 hs0 hXp hXz hXs hx
    go_enter Tryd.func25, Tryd.ntmps25
    go_upto_region 2 with fail
    try rw [hw0]
    clear hw0
    go_upto_region 3 with (go_at_call 38; refine HAM.out.mono ?_; rintro r w1 ⟨rfl, hb1⟩; have HB1 := Lib.hid hb1; clear hb1)
    clear y0 y1 f0
    obtain ⟨-, zz, -⟩ := KX.out _ HB1.out
    obtain ⟨z0, z1, z2, z3⟩ := four_cells zz
    obtain ⟨f0, f1, f2, f3⟩ := four_free zz
    have HZ := Lib.hid zz
    clear zz
    repeat (first | go_skip | go_guarded | go_step | go_upon)
    refine ret_two Tryd.underlying83 Tryd.results25 (img_box HZ.out rfl _ _ _ _) (by kernel_rfl) (by rfl) rfl ?_
    exact ⟨fun h => (by rw [HG.out] at h; cases h), fun _ => rfl, But.of_below (below_put (HB0.out.trans (HB1.out.mono HB0.out.size)) (by omega) _ _ _ _)⟩
  | some x =>
    obtain ⟨i, k, ob, rfl, rfl, hO1, hx1⟩ := secK_some hx
    rw [hx] at HAM
    have HOUT := Lib.hid (fun W (hW : Below w0.heap.size w0 W) => out_any (w := W) (c := cQ) ((hQ.below hb0).below (hW.mono (by omega))) (by have := hW.size; omega) i k)
    have hmem := List.mem_of_getElem? hO1
    have hmx := List.mem_of_getElem? hx1
    obtain ⟨hdx, hfx⟩ := hD ob hmem x hmx
    obtain ⟨b, oo, rfl, hb, n0, n1, n2, n3, n4⟩ := hO.at_ hO1
    obtain ⟨b2, o2, hbs, hb2, m0, m1, m2, m3, m4, m5, m6, m7, m8⟩ := ((hO.ok ob hmem).secs).at_ hx1
    have KN := Lib.hid (fun W (hW : Below w0.heap.size w0 W) => (by
      have hW' := hb0.trans (hW.mono (by omega))
      have hc := fun (q : Addr) (hq : q.block < w.heap.size) => hW'.cell (p := q) hq
      exact ⟨by rw [hc _ hb]; exact n2, by rw [hc _ hb2]; exact m0, by rw [hc _ hb2]; exact m1, by rw [hc _ hb2]; exact m2, by rw [hc _ hb2]; exact m3, by rw [hc _ hb2]; exact m4, by rw [hc _ hb2]; exact m5, by rw [hc _ hb2]; exact m6, by rw [hc _ hb2]; exact m7, by rw [hc _ hb2]; exact m8⟩ :
      W.cell? ⟨b, oo + i * 5 + 2, none⟩ = some (.slice ob.aS ob.L.length ob.cS) ∧ W.cell? ⟨b2, o2 + k * 9, none⟩ = some (.string ⟨x.s.name.toArray⟩) ∧ W.cell? ⟨b2, o2 + k * 9 + 1, none⟩ = some (.int .i64 x.s.kind) ∧ W.cell? ⟨b2, o2 + k * 9 + 2, none⟩ = some (.int .u64 (x.s.flags : Int)) ∧ W.cell? ⟨b2, o2 + k * 9 + 3, none⟩ = some (.int .u64 (x.s.addr : Int)) ∧ W.cell? ⟨b2, o2 + k * 9 + 4, none⟩ = some (.slice x.A x.s.data.length x.c) ∧ W.cell? ⟨b2, o2 + k * 9 + 5, none⟩ = some (.int .i64 x.s.link) ∧ W.cell? ⟨b2, o2 + k * 9 + 6, none⟩ = some (.int .i64 x.s.inf) ∧ W.cell? ⟨b2, o2 + k * 9 + 7, none⟩ = some (.int .i64 x.s.algn) ∧ W.cell? ⟨b2, o2 + k * 9 + 8, none⟩ = some (.int .i64 x.s.ent)))
    have hik : i < O.length := (List.getElem?_eq_some_iff.1 hO1).1
    have hkl : k < ob.L.length := (List.getElem?_eq_some_iff.1 hx1).1
    rw [hbs] at KN
    cases ho : outB Q (i : Int) (k : Int) with
    | true =>
      have HG := Lib.hid (show goodP O Q P ⟨(i : Int), (k : Int), pa⟩ = false by unfold goodP; simp only; rw [hx, ho]; rfl)
      rw [ho] at HOUT
      clear hX hP hO hQ hL hD hb0 hs0 hXp hXz hXs hx n0 n1 n2 n3 n4 m0 m1 m2 m3 m4 m5 m6 m7 m8 hmem hmx hdx hfx KN
      go_enter Tryd.func25, Tryd.ntmps25
      go_upto_region 2 with fail
      try rw [hw0]
      clear hw0
      go_upto_region 3 with (first
        | (go_at_call 38; refine HAM.out.mono ?_; rintro r w1 ⟨rfl, hb1⟩; have HB1 := Lib.hid hb1; obtain ⟨-, -, zs⟩ := KX.out _ hb1; have z5 := zs.cell 0; have z6 := zs.cell 1; simp at z5 z6; clear hb1 zs)
        | (go_at_call 39; refine (HOUT.out _ HB1.out).mono ?_; rintro r w2 ⟨rfl, hb2⟩; have HB2 := Lib.hid (HB1.out.trans (hb2.mono HB1.out.size)); clear hb2))
      clear y0 y1 f0
      obtain ⟨-, zz, -⟩ := KX.out _ HB2.out
      obtain ⟨z0, z1, z2, z3⟩ := four_cells zz
      obtain ⟨f0, f1, f2, f3⟩ := four_free zz
      have HZ := Lib.hid zz
      clear zz
      repeat (first | go_skip | go_guarded | go_step | go_upon)
      refine ret_two Tryd.underlying83 Tryd.results25 (img_box HZ.out rfl _ _ _ _) (by kernel_rfl) (by rfl) rfl ?_
      exact ⟨fun h => (by rw [HG.out] at h; cases h), fun _ => rfl, But.of_below (below_put (HB0.out.trans (HB2.out.mono HB0.out.size)) (by omega) _ _ _ _)⟩
    | false =>
      rw [ho] at HOUT
      obtain ⟨hg1, hg2⟩ : g < w.heap.size ∧ mp < w.heap.size := ⟨hX.lt, hP.lt⟩
      have KP := Lib.hid (fun W (hW : Below w0.heap.size w0 W) => (by
        have hW' := hb0.trans (hW.mono (by omega))
        exact ⟨hX.below hW' hg1, hP.same (hW'.block mp hg2)⟩ : Box W g 77 #[.map (some mp), v, .map (some my)] ∧ PMap W base mp P))
      have HX := Lib.hid hx
      have HOF := Lib.hid ho
      clear hX hP hO hQ hL hD hb0 hs0 hXp hXz hXs hx ho n0 n1 n2 n3 n4 m0 m1 m2 m3 m4 m5 m6 m7 m8 hmem hmx
      go_enter Tryd.func25, Tryd.ntmps25
      go_upto_region 2 with fail
      try rw [hw0]
      clear hw0
      go_upto_region 4 with (first
        | (go_at_call 38; refine HAM.out.mono ?_; rintro r w1 ⟨rfl, hb1⟩; have HB1 := Lib.hid hb1; obtain ⟨-, -, zs⟩ := KX.out _ hb1; have z5 := zs.cell 0; have z6 := zs.cell 1; simp at z5 z6; clear hb1 zs)
        | (go_at_call 39; refine (HOUT.out _ HB1.out).mono ?_; rintro r w2 ⟨rfl, hb2⟩; have HB2 := Lib.hid (HB1.out.trans (hb2.mono HB1.out.size)); clear hb2))
      clear y0 y1 f0 z5 z6
      obtain ⟨-, -, zs⟩ := KX.out _ HB2.out
      have y0 := zs.cell 0
      have y1 := zs.cell 1
      simp at y0 y1
      obtain ⟨n2, m0, m1, m2, m3, m4, m5, m6, m7, m8⟩ := KN.out _ HB2.out
      clear zs
      have hA2 : Below w0.heap.size w0 (w2.alloc (.cells #[.string ⟨#[]⟩, .int .i64 0, .int .u64 0, .int .u64 0, .slice none 0 0, .int .i64 0, .int .i64 0, .int .i64 0, .int .i64 0] 70)).drew := (HB2.out.alloc HB2.out.size _).drew
      have HA2 := Lib.hid hA2
      obtain ⟨-, -, zs⟩ := KX.out _ hA2
      have y0' := zs.cell 0
      have y1' := zs.cell 1
      simp at y0' y1'
      obtain ⟨n2', m0', m1', m2', m3', m4', m5', m6', m7', m8'⟩ := KN.out _ hA2
      clear zs hA2
      go_region
      generalize hw3 : (w2.alloc (.cells #[.string ⟨x.s.name.toArray⟩, .int .i64 x.s.kind, .int .u64 (x.s.flags : Int), .int .u64 (x.s.addr : Int), .slice x.A x.s.data.length x.c, .int .i64 x.s.link, .int .i64 x.s.inf, .int .i64 x.s.algn, .int .i64 x.s.ent] 70)).drew = w3 at *
      have hb3 : Below w0.heap.size w0 w3 := hw3 ▸ (HB2.out.alloc HB2.out.size _).drew
      have hXw : Box w3 w2.heap.size 70 #[.string ⟨x.s.name.toArray⟩, .int .i64 x.s.kind, .int .u64 (x.s.flags : Int), .int .u64 (x.s.addr : Int), .slice x.A x.s.data.length x.c, .int .i64 x.s.link, .int .i64 x.s.inf, .int .i64 x.s.algn, .int .i64 x.s.ent] := hw3 ▸ (Box.new w2 _ _).drew
      have HB3 := Lib.hid hb3
      clear hw3 y0 y1 n2 m0 m1 m2 m3 m4 m5 m6 m7 m8 y0' y1' n2' m0' m1' m2' m3' m4' m5' m6' m7' m8' HA2
      have KZ := Lib.hid (fun W (hW : Below w3.heap.size w3 W) => (nine_cells (hXw.below hW hXw.lt)))
      obtain ⟨zp, zz, zs⟩ := KX.out _ hb3
      have y0 := zs.cell 0
      have y1 := zs.cell 1
      have p2 := zp.cell 2
      simp at y0 y1 p2
      have g0 := (KP.out _ hb3).1.cell 0
      simp at g0
      have hlook := fun n => ((KP.out _ hb3).2.same (w' := w3.drewN n) rfl).look hp.1 hp.2.1
      simp only at hlook
      obtain ⟨m0, m1, m2, m3, m4, m5, m6, m7, m8⟩ := KZ.out _ (Below.refl _ _)
      have hcv : IntKind.u64.wrap (x.s.data.length : Int) = (x.s.data.length : Int) := by rw [IntKind.wrap_u64]; omega
      have HLN := Lib.hid (show sizK O ⟨(i : Int), (k : Int), pa⟩ = x.s.data.length by unfold sizK; simp only; rw [HX.out])
      have HGD := Lib.hid (show goodP O Q P ⟨(i : Int), (k : Int), pa⟩ = (memB x.s.flags && ((outK P (i : Int) (k : Int)).isNone && decide (pa < 18446744073709551615 - x.s.data.length))) by unfold goodP; simp only; rw [HX.out]; simp only; rw [HOF.out]; rfl)
      clear zp zz zs hb3 hXw
      have HDX := Lib.hid hdx
      generalize outA P (i : Int) (k : Int) = oa at *
      generalize hko : (outK P (i : Int) (k : Int)) = ko at *
      have HKO := Lib.hid hko
      clear hko
      go_upto_region 6 with fail
      go_quiet (fail)
      have HAL := Lib.hid (alloc_any (.string ⟨x.s.name.toArray⟩) x.s.kind x.s.flags (.int .u64 (x.s.addr : Int)) (.slice x.A x.s.data.length x.c) (.int .i64 x.s.link) (.int .i64 x.s.inf) (.int .i64 x.s.algn) (.int .i64 x.s.ent) hfx (w3.drewN nq))
      obtain ⟨mT, hmT⟩ : ∃ mT : Nat, 18446744073709551615 - x.s.data.length = mT := ⟨_, rfl⟩
      have hsub : IntKind.u64.wrap (18446744073709551615 - (x.s.data.length : Int)) = (mT : Int) := sub_tomb hdx hmT
      rw [hmT] at HGD
      have HMT := Lib.hid hmT
      clear hmT hlook hcv hdx
      cases hm : memB x.s.flags with
      | false =>
        have HG := Lib.hid (show goodP O Q P ⟨(i : Int), (k : Int), pa⟩ = false by rw [HGD.out, hm]; rfl)
        rw [hm] at HAL
        clear hm
        go_upto_region 8 with (go_at_call 40; refine HAL.out.mono ?_; rintro r w4 ⟨rfl, hb4⟩; have HB4 := Lib.hid (HB3.out.trans ((below_then nq hb4).mono HB3.out.size)); obtain ⟨zp, -, -⟩ := KX.out _ HB4.out; have q2 := zp.cell 2; simp at q2; clear zp hb4)
        obtain ⟨-, zz, -⟩ := KX.out _ HB4.out
        obtain ⟨z0, z1, z2, z3⟩ := four_cells zz
        obtain ⟨f0, f1, f2, f3⟩ := four_free zz
        have HZ := Lib.hid zz
        clear zz
        repeat (first | go_skip | go_guarded | go_step | go_upon)
        refine ret_two Tryd.underlying83 Tryd.results25 (img_box HZ.out rfl _ _ _ _) (by kernel_rfl) (by rfl) rfl ?_
        exact ⟨fun h => (by rw [HG.out] at h; cases h), fun _ => rfl, But.of_below (below_put (HB0.out.trans (HB4.out.mono HB0.out.size)) (by omega) _ _ _ _)⟩
      | true =>
        rw [hm] at HAL HGD
        clear hm
        cases ko with
        | some kk =>
          have HG := Lib.hid (show goodP O Q P ⟨(i : Int), (k : Int), pa⟩ = false by rw [HGD.out]; rfl)
          go_upto_region 8 with (go_at_call 40; refine HAL.out.mono ?_; rintro r w4 ⟨rfl, hb4⟩; have HB4 := Lib.hid (HB3.out.trans ((below_then nq hb4).mono HB3.out.size)); obtain ⟨zp, -, -⟩ := KX.out _ HB4.out; have q2 := zp.cell 2; simp at q2; clear zp hb4)
          obtain ⟨-, zz, -⟩ := KX.out _ HB4.out
          obtain ⟨z0, z1, z2, z3⟩ := four_cells zz
          obtain ⟨f0, f1, f2, f3⟩ := four_free zz
          have HZ := Lib.hid zz
          clear zz
          repeat (first | go_skip | go_guarded | go_step | go_upon)
          refine ret_two Tryd.underlying83 Tryd.results25 (img_box HZ.out rfl _ _ _ _) (by kernel_rfl) (by rfl) rfl ?_
          exact ⟨fun h => (by rw [HG.out] at h; cases h), fun _ => rfl, But.of_below (below_put (HB0.out.trans (HB4.out.mono HB0.out.size)) (by omega) _ _ _ _)⟩
        | none =>
          by_cases hpa : pa < mT
          · have HG := Lib.hid (show goodP O Q P ⟨(i : Int), (k : Int), pa⟩ = true by rw [HGD.out, decide_eq_true hpa]; rfl)
            have hdp : decide ((mT : Int) ≤ (pa : Int)) = false := decide_eq_false (by omega)
            have hdp' : decide (mT ≤ pa) = false := decide_eq_false (by omega)
            have HPA := Lib.hid hpa
            clear hpa
            go_upto_region 9 with (go_at_call 40; refine HAL.out.mono ?_; rintro r w4 ⟨rfl, hb4⟩; have HB4 := Lib.hid (HB3.out.trans ((below_then nq hb4).mono HB3.out.size)); obtain ⟨zp, -, -⟩ := KX.out _ HB4.out; have q2 := zp.cell 2; simp at q2; clear zp hb4)
            obtain ⟨w5, hrun, hP5, hg5⟩ := ((KP.out _ HB4.out).2.same (w' := w4.drew) rfl).put hp HKO.out (Nat.le_trans hpl (by omega))
            simp only at hrun
            have HP5 := Lib.hid hP5
            have HG5 := Lib.hid hg5
            obtain ⟨zp, zz, zs⟩ := KX.out _ HB4.out
            have HQ5 := Lib.hid (show Box w5 w.heap.size 43 #[.int .i64 (i : Int), .int .i64 (k : Int), .int .u64 (pa : Int)] ∧ Box w5 (w.heap.size + 1) 83 #[.int .u64 0, .int .u64 0, .int .i64 0, .int .i64 0] ∧ Box w5 (w.heap.size + 1 + 1) 81 #[.int .i64 (i : Int), .int .i64 (k : Int)] from
              ⟨zp.drew.grown hg5 (by simp; omega), zz.drew.grown hg5 (by simp; omega), zs.drew.grown hg5 (by simp; omega)⟩)
            have q0 := zs.cell 0
            have q1 := zs.cell 1
            have g4 := (KP.out _ HB4.out).1.cell 0
            simp at q0 q1 g4
            clear zp zz zs hP5 hg5
            go_region
            obtain ⟨zp, zz, zs⟩ := HQ5.out
            have p0 := zp.cell 0
            have p1 := zp.cell 1
            have p2' := zp.cell 2
            have s0 := zs.cell 0
            have s1 := zs.cell 1
            obtain ⟨z0, z1, z2, z3⟩ := four_cells zz
            obtain ⟨f0, f1, f2, f3⟩ := four_free zz
            have HZ := Lib.hid zz
            simp at p0 p1 p2' s0 s1
            clear zp zz zs y0 y1 p2 g0 q0 q1 q2 g4 m0 m1 m2 m3 m4 m5 m6 m7 m8
            obtain ⟨hi, hhi⟩ : ∃ hi : Nat, pa + x.s.data.length = hi := ⟨_, rfl⟩
            have hadd : IntKind.u64.wrap ((pa : Int) + (x.s.data.length : Int)) = (hi : Int) := by
              rw [IntKind.wrap_u64]
              have h1 := HPA.out
              have h2 := HMT.out
              omega
            have HHI := Lib.hid hhi
            clear hhi
            repeat (first | go_skip | go_guarded | go_step | go_upon)
            refine ret_two Tryd.underlying83 Tryd.results25 (img_box HZ.out rfl _ _ _ _) (by kernel_rfl) (by rfl) rfl ?_
            have ho4 := four_only w5 (w.heap.size + 1) (.int .u64 (pa : Int)) (.int .u64 (hi : Int)) (.int .i64 (i : Int)) (.int .i64 (k : Int))
            refine ⟨fun _ => ⟨?_, ?_⟩, fun h => (by rw [HG.out] at h; cases h), ?_⟩
            · have e : imgP O ⟨(i : Int), (k : Int), pa⟩ = ⟨pa, hi, (i : Int), (k : Int)⟩ := by unfold imgP; rw [HLN.out, HHI.out]
              rw [e]
              rfl
            · exact HP5.out.same (ho4.block mp HP5.out.lt (by simp; omega))
            · exact ((((But.of_below (HB0.out.trans (HB4.out.mono HB0.out.size))).then_ (Below.refl _ _).drew).grown HG5.out (fun x e => .inl (by injection e with e; exact e.symm)))).grown ho4 (fun x e => .inr (by injection e with e; omega))
          · have HG := Lib.hid (show goodP O Q P ⟨(i : Int), (k : Int), pa⟩ = false by rw [HGD.out, decide_eq_false hpa]; rfl)
            have hdp : decide ((mT : Int) ≤ (pa : Int)) = true := decide_eq_true (by omega)
            have hdp' : decide (mT ≤ pa) = true := decide_eq_true (by omega)
            clear hpa
            go_upto_region 8 with (go_at_call 40; refine HAL.out.mono ?_; rintro r w4 ⟨rfl, hb4⟩; have HB4 := Lib.hid (HB3.out.trans ((below_then nq hb4).mono HB3.out.size)); obtain ⟨zp, -, -⟩ := KX.out _ HB4.out; have q2 := zp.cell 2; simp at q2; clear zp hb4)
            obtain ⟨-, zz, -⟩ := KX.out _ HB4.out
            obtain ⟨z0, z1, z2, z3⟩ := four_cells zz
            obtain ⟨f0, f1, f2, f3⟩ := four_free zz
            have HZ := Lib.hid zz
            clear zz
            repeat (first | go_skip | go_guarded | go_step | go_upon)
            refine ret_two Tryd.underlying83 Tryd.results25 (img_box HZ.out rfl _ _ _ _) (by kernel_rfl) (by rfl) rfl ?_
            exact ⟨fun h => (by rw [HG.out] at h; cases h), fun _ => rfl, But.of_below (below_put (HB0.out.trans (HB4.out.mono HB0.out.size)) (by omega) _ _ _ _)⟩

end Go.Proofs.YtejicboemkpeoaaDoor
