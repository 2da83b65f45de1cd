/-
  The chapter's example: works of stage 12.
-/
import Derived.Test.YteadabmlleipiaaLpA
import Derived.Test.YteadabmlleipiaaRegInv
import Derived.Test.YteadabmlleipiaaOcC
namespace Go.Proofs.Yteadabmlleipiaa
open Go Go.RowKit

theorem make16 (W : World) : (Instr.makeSlice 41 (.int .i64 16) (.int .i64 16)).run Try.prog W = .ok (.slice (some ⟨W.heap.size, 0, none⟩) 16 16) (W.alloc (.cells (u8s (List.replicate 16 0)).toArray 5)) := by kernel_rfl
theorem make17 (W : World) : (Instr.makeSlice 41 (.int .i64 17) (.int .i64 17)).run Try.prog W = .ok (.slice (some ⟨W.heap.size, 0, none⟩) 17 17) (W.alloc (.cells (u8s (List.replicate 17 0)).toArray 5)) := by kernel_rfl

def debxN : List UInt8 := [46, 100, 101, 98, 117, 103, 95, 120]
def exL12 (g1 g2 g3 : Nat) : List Lay := [⟨zeroS, none, 0⟩, ⟨{ zeroS with flags := 6, data := List.replicate 16 0 }, some ⟨g1, 0, none⟩, 16⟩, ⟨{ zeroS with flags := 6, data := List.replicate 16 0 }, some ⟨g2, 0, none⟩, 16⟩, ⟨{ zeroS with name := debxN, kind := 1, data := List.replicate 17 0 }, some ⟨g3, 0, none⟩, 17⟩]
def exY12 : List Sym := [⟨[], 0, 0, 0, 0, 0⟩, ⟨[], 0, 0, 1, 8, 0⟩, ⟨[], 0, 0, 2, 0, 0⟩]
def exR12 : List Rel := [⟨1, 1, 1, 4⟩, ⟨9, 2, 1, 0⟩]
def exQ12 (gr : Nat) : List RLay := [⟨none, 0, []⟩, ⟨none, 0, []⟩, ⟨none, 0, []⟩, ⟨some ⟨gr, 0, none⟩, 2, exR12⟩]
def exO12 (gs g1 g2 g3 gy gl gr : Nat) : ObjV := ⟨0, 62, some ⟨gs, 0, none⟩, 4, exL12 g1 g2 g3, some ⟨gy, 0, none⟩, 3, exY12, some ⟨gl, 0, none⟩, 4, exQ12 gr⟩
def secA (nm : List UInt8) (k : Int) (f : Nat) (a : Option Addr) (n : Nat) : Value := .agg #[.string ⟨nm.toArray⟩, .int .i64 k, .int .u64 (f : Int), .int .u64 0, .slice a n n, .int .i64 0, .int .i64 0, .int .i64 0, .int .i64 0]
def symA (k : Int) (v : Nat) : Value := .agg #[.string ⟨#[]⟩, .int .i64 0, .int .i64 0, .int .i64 k, .int .u64 (v : Int), .int .u64 0]
def relA (o : Nat) (s k a : Int) : Value := .agg #[.int .u64 (o : Int), .int .i64 s, .int .i64 k, .int .i64 a]
def BoxS (X : World) (gs g1 g2 g3 : Nat) : Prop := Box X gs 46 (cellsL (exL12 g1 g2 g3)).toArray ∧ RowB X g1 (List.replicate 16 0) ∧ RowB X g2 (List.replicate 16 0) ∧ RowB X g3 (List.replicate 17 0)
def BoxQ (X : World) (gl gr : Nat) : Prop := Box X gl 49 (cellsF RLay.cells1 (exQ12 gr)).toArray ∧ Box X gr 51 (cellsF Rel.cells exR12).toArray
def BoxY (X : World) (gy : Nat) : Prop := Box X gy 85 (cellsF Sym.cells exY12).toArray
/-- What holds of each operation's value once it has come up. -/
def S12 (B : Nat) (i : Nat) (v : Value) (X : World) : Prop :=
  match i with
  | 0 => v = secA [] 0 0 none 0
  | 1 | 3 => ∃ g, v = .slice (some ⟨g, 0, none⟩) 16 16 ∧ RowB X g (List.replicate 16 0)
  | 2 | 4 => ∃ g, v = secA [] 0 6 (some ⟨g, 0, none⟩) 16 ∧ RowB X g (List.replicate 16 0)
  | 5 => ∃ g, v = .slice (some ⟨g, 0, none⟩) 17 17 ∧ RowB X g (List.replicate 17 0)
  | 6 => ∃ g, v = secA debxN 1 0 (some ⟨g, 0, none⟩) 17 ∧ RowB X g (List.replicate 17 0)
  | 7 => ∃ gs g1 g2 g3, v = .slice (some ⟨gs, 0, none⟩) 4 4 ∧ BoxS X gs g1 g2 g3
  | 8 => v = symA 0 0
  | 9 => v = symA 1 8
  | 10 => v = symA 2 0
  | 11 => ∃ gy, v = .slice (some ⟨gy, 0, none⟩) 3 3 ∧ BoxY X gy
  | 12 => v = relA 1 1 1 4
  | 13 => v = relA 9 2 1 0
  | 14 => ∃ gr, v = .slice (some ⟨gr, 0, none⟩) 2 2 ∧ Box X gr 51 (cellsF Rel.cells exR12).toArray
  | 15 => ∃ gl gr, v = .slice (some ⟨gl, 0, none⟩) 4 4 ∧ BoxQ X gl gr
  | 16 => ∃ gs g1 g2 g3 gy gl gr, v = .agg #[.int .i64 0, .int .i64 62, .slice (some ⟨gs, 0, none⟩) 4 4, .slice (some ⟨gy, 0, none⟩) 3 3, .slice (some ⟨gl, 0, none⟩) 4 4] ∧ BoxS X gs g1 g2 g3 ∧ BoxY X gy ∧ BoxQ X gl gr
  | 17 => ∃ g, v = .pointer (some ⟨g, 0, none⟩) ∧ B ≤ g ∧ ∃ cs : Array Value, cs.size = 5 ∧ Box X g 40 cs
  | _ => True
theorem BoxS.below {X X' : World} {gs g1 g2 g3 : Nat} (h : BoxS X gs g1 g2 g3) (hb : Below X.heap.size X X') : BoxS X' gs g1 g2 g3 :=
  ⟨Box.below h.1 hb h.1.lt, Box.below h.2.1 hb h.2.1.lt, Box.below h.2.2.1 hb h.2.2.1.lt, Box.below h.2.2.2 hb h.2.2.2.lt⟩
theorem BoxQ.below {X X' : World} {gl gr : Nat} (h : BoxQ X gl gr) (hb : Below X.heap.size X X') : BoxQ X' gl gr := ⟨Box.below h.1 hb h.1.lt, Box.below h.2 hb h.2.lt⟩
theorem BoxY.below {X X' : World} {gy : Nat} (h : BoxY X gy) (hb : Below X.heap.size X X') : BoxY X' gy := Box.below h hb (Box.lt h)
theorem S12.below {B j : Nat} {u : Value} {X X' : World} (hb : Below X.heap.size X X') (h : S12 B j u X) : S12 B j u X' := by
  rcases j with _ | _ | _ | _ | _ | _ | _ | _ | _ | _ | _ | _ | _ | _ | _ | _ | _ | _ | i
  · exact h
  · obtain ⟨g, e, h⟩ := h; exact ⟨g, e, Box.below h hb h.lt⟩
  · obtain ⟨g, e, h⟩ := h; exact ⟨g, e, Box.below h hb h.lt⟩
  · obtain ⟨g, e, h⟩ := h; exact ⟨g, e, Box.below h hb h.lt⟩
  · obtain ⟨g, e, h⟩ := h; exact ⟨g, e, Box.below h hb h.lt⟩
  · obtain ⟨g, e, h⟩ := h; exact ⟨g, e, Box.below h hb h.lt⟩
  · obtain ⟨g, e, h⟩ := h; exact ⟨g, e, Box.below h hb h.lt⟩
  · obtain ⟨a, b, c, d, e, h⟩ := h; exact ⟨a, b, c, d, e, h.below hb⟩
  · exact h
  · exact h
  · exact h
  · obtain ⟨a, e, h⟩ := h; exact ⟨a, e, h.below hb⟩
  · exact h
  · exact h
  · obtain ⟨g, e, h⟩ := h; exact ⟨g, e, Box.below h hb h.lt⟩
  · obtain ⟨a, b, e, h⟩ := h; exact ⟨a, b, e, h.below hb⟩
  · obtain ⟨a, b, c, d, e, f, g, k, h1, h2, h3⟩ := h; exact ⟨a, b, c, d, e, f, g, k, h1.below hb, h2.below hb, h3.below hb⟩
  · obtain ⟨g, e, hB, cs, hs, h⟩ := h; exact ⟨g, e, hB, cs, hs, Box.below h hb h.lt⟩
  · trivial

theorem list49 (l : List Value) (h : l.length = 49) : ∃ t0 t1 t2 t3 t4 t5 t6 t7 t8 t9 t10 t11 t12 t13 t14 t15 t16 t17 t18 t19 t20 t21 t22 t23 t24 t25 t26 t27 t28 t29 t30 t31 t32 t33 t34 t35 t36 t37 t38 t39 t40 t41 t42 t43 t44 t45 t46 t47 t48, l = [t0, t1, t2, t3, t4, t5, t6, t7, t8, t9, t10, t11, t12, t13, t14, t15, t16, t17, t18, t19, t20, t21, t22, t23, t24, t25, t26, t27, t28, t29, t30, t31, t32, t33, t34, t35, t36, t37, t38, t39, t40, t41, t42, t43, t44, t45, t46, t47, t48] := by
  match l, h with
  | t0 :: t1 :: t2 :: t3 :: t4 :: t5 :: t6 :: t7 :: t8 :: t9 :: t10 :: t11 :: t12 :: t13 :: t14 :: t15 :: t16 :: t17 :: t18 :: t19 :: t20 :: t21 :: t22 :: t23 :: t24 :: t25 :: t26 :: t27 :: t28 :: t29 :: t30 :: t31 :: t32 :: t33 :: t34 :: t35 :: t36 :: t37 :: t38 :: t39 :: t40 :: t41 :: t42 :: t43 :: t44 :: t45 :: t46 :: t47 :: t48 :: [], _ => exact ⟨t0, t1, t2, t3, t4, t5, t6, t7, t8, t9, t10, t11, t12, t13, t14, t15, t16, t17, t18, t19, t20, t21, t22, t23, t24, t25, t26, t27, t28, t29, t30, t31, t32, t33, t34, t35, t36, t37, t38, t39, t40, t41, t42, t43, t44, t45, t46, t47, t48, rfl⟩

theorem box_ne {X : World} {g g' : Nat} {T T' : TypeId} {cs cs' : Array Value} (h : Box X g T cs) (h' : Box X g' T' cs') (hT : T ≠ T') : some g' ≠ some g := fun e => by
  injection e with e
  subst e
  unfold Box at h h'
  rw [h] at h'
  injection h' with h'
  injection h' with h1 h2
  first | exact hT h2 | exact hT h1
theorem RowB.grown12 {X X' : World} {g g' : Nat} {l : List UInt8} {cs : Array Value} (h : RowB X g' l) (hg : X.grownBy X' (some g)) (hX : Box X g 40 cs) : RowB X' g' l :=
  Box.grown h hg (by first | exact box_ne hX h (by decide) | exact (box_ne hX h (by decide)).symm)
/-- What the region leaves. -/
structure Ex12 (w X : World) (g gs g1 g2 g3 gy gl gr : Nat) : Prop where
  below : Below w.heap.size w X
  box : Box X g 40 (exO12 gs g1 g2 g3 gy gl gr).cells.toArray
  secs : BoxS X gs g1 g2 g3
  syms : BoxY X gy
  lists : BoxQ X gl gr

end Go.Proofs.Yteadabmlleipiaa

namespace Go.Proofs.Yteadabmlleipiaa
open Go Go.RowKit

theorem box_row {α : Type} {n : Nat} {f : α → List Value} (hn : ∀ x, (f x).length = n) {X : World} {g : Nat} {T : TypeId} {L : List α} (h : Box X g T (cellsF f L).toArray) : Row n f X X.heap.size (some ⟨g, 0, none⟩) L := fun _ =>
  ⟨g, 0, rfl, h.lt, fun i x hx j v hv => by
    rw [h.cell, Nat.zero_add, List.getElem?_toArray]
    exact cellsF_at hn L i x j v hx hv⟩
theorem rd_rowb {X : World} {g : Nat} {l : List UInt8} (h : RowB X g l) : Rd X X.heap.size (some ⟨g, 0, none⟩) l := fun _ =>
  ⟨g, 0, rfl, h.lt, fun j u hu => by
    obtain ⟨hj, rfl⟩ := List.getElem?_eq_some_iff.1 hu
    rw [Nat.zero_add]
    exact h.cell_ j hj⟩
theorem ex12_fits : (zeroS).Fits ∧ ({ zeroS with flags := 6, data := List.replicate 16 0 } : Sect).Fits ∧ ({ zeroS with name := debxN, kind := 1, data := List.replicate 17 0 } : Sect).Fits := by
  refine ⟨fits_small _ ?_, fits_small _ ?_, fits_small _ ?_⟩ <;> (unfold InI zeroS; refine ⟨?_, ?_, ?_, ?_, ?_, ?_, ?_, ?_, ?_⟩ <;> decide)
theorem ex12_ok {w X : World} {g gs g1 g2 g3 gy gl gr : Nat} (h : Ex12 w X g gs g1 g2 g3 gy gl gr) : (exO12 gs g1 g2 g3 gy gl gr).Ok X X.heap.size := by
  obtain ⟨f1, f2, f3⟩ := ex12_fits
  refine ⟨⟨fun _ => ⟨gs, 0, rfl, h.secs.1.lt, fun i x hx j v hv => ?_⟩, fun x hx => ?_⟩, box_row sym_six h.syms, ⟨box_row rlay_one h.lists.1, fun q hq => ?_⟩, Nat.le_refl _, Nat.le_refl _⟩
  · rw [h.secs.1.cell, Nat.zero_add, List.getElem?_toArray]
    exact cellsL_at _ i x j v hx hv
  · simp only [exO12, exL12, List.mem_cons, List.not_mem_nil, or_false] at hx
    rcases hx with rfl | rfl | rfl | rfl
    · exact ⟨Rd.nil_, Nat.le_refl _, Nat.zero_le _, f1⟩
    · exact ⟨rd_rowb h.secs.2.1, Nat.le_refl _, show (16 : Nat) ≤ maxLen by decide, f2⟩
    · exact ⟨rd_rowb h.secs.2.2.1, Nat.le_refl _, show (16 : Nat) ≤ maxLen by decide, f2⟩
    · exact ⟨rd_rowb h.secs.2.2.2, Nat.le_refl _, show (17 : Nat) ≤ maxLen by decide, f3⟩
  · simp only [exO12, exQ12, List.mem_cons, List.not_mem_nil, or_false] at hq
    rcases hq with rfl | rfl | rfl | rfl
    · exact fun h => absurd h (by decide)
    · exact fun h => absurd h (by decide)
    · exact fun h => absurd h (by decide)
    · exact box_row rel_four h.lists.2
def exP12 : List Place := [⟨0, 1, 4096⟩]
section
variable (gs g1 g2 g3 gy gl gr : Nat)
theorem ex12_ref : refM [exO12 gs g1 g2 g3 gy gl gr] [] exP12 [] = false := by kernel_rfl
theorem ex12_imgs : imgsP [exO12 gs g1 g2 g3 gy gl gr] exP12 = [⟨4096, 4112, 0, 1⟩] := by kernel_rfl
theorem ex12_apart : ApartI (imgsP [exO12 gs g1 g2 g3 gy gl gr] exP12) := by
  rw [ex12_imgs]
  exact List.pairwise_singleton _ _
theorem ex12_rels : relsOf (exO12 gs g1 g2 g3 gy gl gr) 3 = exR12 := rfl
theorem ex12_err : errL (exO12 gs g1 g2 g3 gy gl gr) 0 exP12 [] 17 exR12 = 0 := by kernel_rfl
theorem ex12_v1 : valR (exO12 gs g1 g2 g3 gy gl gr) 0 exP12 [] ⟨1, 1, 1, 4⟩ = (4108, 0) := by kernel_rfl
theorem ex12_v2 : valR (exO12 gs g1 g2 g3 gy gl gr) 0 exP12 [] ⟨9, 2, 1, 0⟩ = (tombN, 0) := by kernel_rfl
theorem ex12_b1 : leBytes 4108 8 = [12, 16, 0, 0, 0, 0, 0, 0] := by decide
theorem ex12_b2 : leBytes tombN 8 = [255, 255, 255, 255, 255, 255, 255, 255] := by decide
theorem ex12_app : appL (exO12 gs g1 g2 g3 gy gl gr) 0 exP12 [] (List.replicate 17 0) exR12 = [0, 12, 16, 0, 0, 0, 0, 0, 0, 255, 255, 255, 255, 255, 255, 255, 255] := by
  unfold appL exR12
  simp only [List.foldl_cons, List.foldl_nil, patchR]
  rw [ex12_v1, ex12_v2]
  rw [show sizR (exO12 gs g1 g2 g3 gy gl gr).machine 1 = 8 from rfl]
  simp only
  rw [ex12_b1, ex12_b2]
  rfl
theorem ex12_symok : (exO12 gs g1 g2 g3 gy gl gr).SymOk := fun y hy => by
  simp only [exO12, exY12, List.mem_cons, List.not_mem_nil, or_false] at hy
  rcases hy with rfl | rfl | rfl <;> exact ⟨by unfold InI; decide, by decide⟩
theorem ex12_relok : ∀ q ∈ (exO12 gs g1 g2 g3 gy gl gr).Q, q.l.length ≤ 100000 ∧ ∀ r ∈ q.l, r.off < two64 := fun q hq => by
  simp only [exO12, exQ12, List.mem_cons, List.not_mem_nil, or_false] at hq
  rcases hq with rfl | rfl | rfl | rfl
  · exact ⟨Nat.zero_le _, fun r hr => by cases hr⟩
  · exact ⟨Nat.zero_le _, fun r hr => by cases hr⟩
  · exact ⟨Nat.zero_le _, fun r hr => by cases hr⟩
  · refine ⟨show (2 : Nat) ≤ 100000 by decide, fun r hr => ?_⟩
    simp only [exR12, List.mem_cons, List.not_mem_nil, or_false] at hr
    rcases hr with rfl | rfl <;> decide
end

end Go.Proofs.Yteadabmlleipiaa

namespace Go.Proofs.Yteadabmlleipiaa
open Go Go.RowKit

set_option maxRecDepth 10000 in
set_option maxHeartbeats 3200000 in
theorem works12_any {w : World} :
    Calls Try.prog 8 #[] w fun r w' => r = .returned (.bool true) ∧ Below w.heap.size w w' := by
  go_enter Try.func8, Try.ntmps8
  go_upto_region 1 with fail
  refine region_inv_last 49 18 (S12 w.heap.size) (fun X => Below w.heap.size w X) (by kernel_rfl) rfl rfl (by kernel_rfl) (by kernel_rfl) (by kernel_rfl) ((Below.refl _ _).drew) ?steps ?last
  case steps =>
    intro i o ho hi a X hN hk hg hdep K hK
    rcases i with _ | _ | _ | _ | _ | _ | _ | _ | _ | _ | _ | _ | _ | _ | _ | _ | _ | _ | i
    · obtain rfl := Option.some.inj ho
      clear ho hi hk
      go_simp
      exact hK _ _ hg rfl (fun _ _ h => h)
    · obtain rfl := Option.some.inj ho
      clear ho hi hk
      have k := make16 X
      go_simp
      exact hK _ _ (hg.alloc hg.size _) ⟨_, rfl, Box.new X _ _⟩ (fun j u => S12.below ((Below.refl _ _).alloc (Nat.le_refl _) _))
    · obtain rfl := Option.some.inj ho
      clear ho hi hk
      obtain ⟨g, e, hb⟩ := hdep { on := 1, ground := .data } (by simp) rfl
      have e := slot_some hN (by decide) e
      clear hN
      go_simp
      exact hK _ _ hg ⟨g, rfl, hb⟩ (fun _ _ h => h)
    · obtain rfl := Option.some.inj ho
      clear ho hi hk
      have k := make16 X
      go_simp
      exact hK _ _ (hg.alloc hg.size _) ⟨_, rfl, Box.new X _ _⟩ (fun j u => S12.below ((Below.refl _ _).alloc (Nat.le_refl _) _))
    · obtain rfl := Option.some.inj ho
      clear ho hi hk
      obtain ⟨g, e, hb⟩ := hdep { on := 3, ground := .data } (by simp) rfl
      have e := slot_some hN (by decide) e
      clear hN
      go_simp
      exact hK _ _ hg ⟨g, rfl, hb⟩ (fun _ _ h => h)
    · obtain rfl := Option.some.inj ho
      clear ho hi hk
      have k := make17 X
      go_simp
      exact hK _ _ (hg.alloc hg.size _) ⟨_, rfl, Box.new X _ _⟩ (fun j u => S12.below ((Below.refl _ _).alloc (Nat.le_refl _) _))
    · obtain rfl := Option.some.inj ho
      clear ho hi hk
      obtain ⟨g, e, hb⟩ := hdep { on := 5, ground := .data } (by simp) rfl
      have e := slot_some hN (by decide) e
      clear hN
      go_simp
      exact hK _ _ hg ⟨g, rfl, hb⟩ (fun _ _ h => h)
    · obtain rfl := Option.some.inj ho
      clear ho hi hk
      have e0 := slot_some hN (by decide) (hdep { on := 0, ground := .data } (by simp) rfl)
      obtain ⟨g1, e1, b1⟩ := hdep { on := 2, ground := .data } (by simp) rfl
      obtain ⟨g2, e2, b2⟩ := hdep { on := 4, ground := .data } (by simp) rfl
      obtain ⟨g3, e3, b3⟩ := hdep { on := 6, ground := .data } (by simp) rfl
      have e1 := slot_some hN (by decide) e1
      have e2 := slot_some hN (by decide) e2
      have e3 := slot_some hN (by decide) e3
      clear hN
      unfold secA at e0 e1 e2 e3
      go_simp
      have hb : Below X.heap.size X _ := (Below.refl X.heap.size X).alloc (Nat.le_refl _) (.cells (cellsL (exL12 g1 g2 g3)).toArray 46)
      exact hK _ _ (hg.trans (hb.mono hg.size)) ⟨X.heap.size, g1, g2, g3, rfl, Box.new X _ _, Box.below b1 hb b1.lt, Box.below b2 hb b2.lt, Box.below b3 hb b3.lt⟩ (fun j u => S12.below hb)
    · obtain rfl := Option.some.inj ho
      clear ho hi hk
      go_simp
      exact hK _ _ hg rfl (fun _ _ h => h)
    · obtain rfl := Option.some.inj ho
      clear ho hi hk
      go_simp
      exact hK _ _ hg rfl (fun _ _ h => h)
    · obtain rfl := Option.some.inj ho
      clear ho hi hk
      go_simp
      exact hK _ _ hg rfl (fun _ _ h => h)
    · obtain rfl := Option.some.inj ho
      clear ho hi hk
      have e0 := slot_some hN (by decide) (hdep { on := 8, ground := .data } (by simp) rfl)
      have e1 := slot_some hN (by decide) (hdep { on := 9, ground := .data } (by simp) rfl)
      have e2 := slot_some hN (by decide) (hdep { on := 10, ground := .data } (by simp) rfl)
      clear hN
      unfold symA at e0 e1 e2
      go_simp
      have hb : Below X.heap.size X _ := (Below.refl X.heap.size X).alloc (Nat.le_refl _) (.cells (cellsF Sym.cells exY12).toArray 85)
      exact hK _ _ (hg.trans (hb.mono hg.size)) ⟨X.heap.size, rfl, Box.new X _ _⟩ (fun j u => S12.below hb)
    · obtain rfl := Option.some.inj ho
      clear ho hi hk
      go_simp
      exact hK _ _ hg rfl (fun _ _ h => h)
    · obtain rfl := Option.some.inj ho
      clear ho hi hk
      go_simp
      exact hK _ _ hg rfl (fun _ _ h => h)
    · obtain rfl := Option.some.inj ho
      clear ho hi hk
      have e0 := slot_some hN (by decide) (hdep { on := 12, ground := .data } (by simp) rfl)
      have e1 := slot_some hN (by decide) (hdep { on := 13, ground := .data } (by simp) rfl)
      clear hN
      unfold relA at e0 e1
      go_simp
      have hb : Below X.heap.size X _ := (Below.refl X.heap.size X).alloc (Nat.le_refl _) (.cells (cellsF Rel.cells exR12).toArray 51)
      exact hK _ _ (hg.trans (hb.mono hg.size)) ⟨X.heap.size, rfl, Box.new X _ _⟩ (fun j u => S12.below hb)
    · obtain rfl := Option.some.inj ho
      clear ho hi hk
      obtain ⟨gr, e0, b0⟩ := hdep { on := 14, ground := .data } (by simp) rfl
      have e0 := slot_some hN (by decide) e0
      clear hN
      go_simp
      have hb : Below X.heap.size X _ := (Below.refl X.heap.size X).alloc (Nat.le_refl _) (.cells (cellsF RLay.cells1 (exQ12 gr)).toArray 49)
      exact hK _ _ (hg.trans (hb.mono hg.size)) ⟨X.heap.size, gr, rfl, Box.new X _ _, Box.below b0 hb b0.lt⟩ (fun j u => S12.below hb)
    · obtain rfl := Option.some.inj ho
      clear ho hi hk
      obtain ⟨gs, g1, g2, g3, e0, hS⟩ := hdep { on := 7, ground := .data } (by simp) rfl
      obtain ⟨gy, e1, hY⟩ := hdep { on := 11, ground := .data } (by simp) rfl
      obtain ⟨gl, gr, e2, hQ⟩ := hdep { on := 15, ground := .data } (by simp) rfl
      have e0 := slot_some hN (by decide) e0
      have e1 := slot_some hN (by decide) e1
      have e2 := slot_some hN (by decide) e2
      clear hN
      go_simp
      exact hK _ _ hg ⟨gs, g1, g2, g3, gy, gl, gr, rfl, hS, hY, hQ⟩ (fun _ _ h => h)
    · obtain rfl := Option.some.inj ho
      clear ho hi hk
      go_simp
      have hb : Below X.heap.size X _ := (Below.refl X.heap.size X).alloc (Nat.le_refl _) (.cells #[.int .i64 0, .int .i64 0, .slice none 0 0, .slice none 0 0, .slice none 0 0] 40)
      exact hK _ _ (hg.trans (hb.mono hg.size)) ⟨X.heap.size, rfl, Below.size hg, _, rfl, Box.new X _ _⟩ (fun j u => S12.below hb)
    · exact absurd hi (by omega)
  case last =>
    intro o ho a X hN hdf hk hg hdep
    obtain rfl := Option.some.inj ho
    obtain ⟨g, e1, hB, cs, hcs, hX⟩ := hdep 17 (by decide)
    obtain ⟨gs, g1, g2, g3, gy, gl, gr, e2, hS, hY, hQ⟩ := hdep 16 (by decide)
    have e1 := slot_some hN (by decide) e1
    have e2 := slot_some hN (by decide) e2
    obtain ⟨c0, c1, c2, c3, c4, rfl⟩ : ∃ c0 c1 c2 c3 c4, cs = #[c0, c1, c2, c3, c4] := by
      obtain ⟨cl⟩ := cs
      match cl, hcs with
      | [c0, c1, c2, c3, c4], _ => exact ⟨c0, c1, c2, c3, c4, rfl⟩
    obtain ⟨f0, f1, f2, f3, f4⟩ := five_free hX
    obtain ⟨v0, v1, v2, v3, v4⟩ := five_cells hX
    have HN := Lib.hid hN
    have HDF := Lib.hid hdf
    have hbx := fiveO_box hX rfl (.int .i64 0) (.int .i64 62) (.slice (some ⟨gs, 0, none⟩) 4 4) (.slice (some ⟨gy, 0, none⟩) 3 3) (.slice (some ⟨gl, 0, none⟩) 4 4)
    have hgr := five_only X g (.int .i64 0) (.int .i64 62) (.slice (some ⟨gs, 0, none⟩) 4 4) (.slice (some ⟨gy, 0, none⟩) 3 3) (.slice (some ⟨gl, 0, none⟩) 4 4)
    have hE := Lib.hid (show Ex12 w _ g gs g1 g2 g3 gy gl gr from ⟨hg.grown hgr hg.size (fun k hk => by injection hk with hk; omega), hbx, ⟨hS.1.grown hgr (by first | exact box_ne hX hS.1 (by decide) | exact (box_ne hX hS.1 (by decide)).symm), RowB.grown12 hS.2.1 hgr hX, RowB.grown12 hS.2.2.1 hgr hX, RowB.grown12 hS.2.2.2 hgr hX⟩, hY.grown hgr (by first | exact box_ne hX hY (by decide) | exact (box_ne hX hY (by decide)).symm), ⟨hQ.1.grown hgr (by first | exact box_ne hX hQ.1 (by decide) | exact (box_ne hX hQ.1 (by decide)).symm), hQ.2.grown hgr (by first | exact box_ne hX hQ.2 (by decide) | exact (box_ne hX hQ.2 (by decide)).symm)⟩⟩)
    clear hN hdf hk hdep hX hS hY hQ hbx hgr hg
    go_simp
    generalize ((((X.setCell ⟨g, 0, none⟩ (.int .i64 0)).setCell ⟨g, 1, none⟩ (.int .i64 62)).setCell ⟨g, 2, none⟩ (.slice (some ⟨gs, 0, none⟩) 4 4)).setCell ⟨g, 3, none⟩ (.slice (some ⟨gy, 0, none⟩) 3 3)).setCell ⟨g, 4, none⟩ (.slice (some ⟨gl, 0, none⟩) 4 4) = W at *
    clear f0 f1 f2 f3 f4 v0 v1 v2 v3 v4 e2
    obtain ⟨⟨tl⟩, df⟩ := a
    have hdf := HDF.out
    have hN := HN.out
    simp only at hdf
    subst hdf
    obtain ⟨t0, t1, t2, t3, t4, t5, t6, t7, t8, t9, t10, t11, t12, t13, t14, t15, t16, t17, t18, t19, t20, t21, t22, t23, t24, t25, t26, t27, t28, t29, t30, t31, t32, t33, t34, t35, t36, t37, t38, t39, t40, t41, t42, t43, t44, t45, t46, t47, t48, rfl⟩ := list49 tl (by simpa using hN)
    obtain rfl : t1 = .pointer (some ⟨g, 0, none⟩) := by simpa using e1
    clear e1 hN HN HDF
    refine ‹∀ (a : Act) (w : World), Code.wp _ _ _ a w → _› _ _ ?_
    obtain ⟨n0, n1, n2, n3, n4⟩ := five_cells (show Box W g 40 #[.int .i64 0, .int .i64 62, .slice (some ⟨gs, 0, none⟩) 4 4, .slice (some ⟨gy, 0, none⟩) 3 3, .slice (some ⟨gl, 0, none⟩) 4 4] from hE.out.box)
    generalize hw4 : (W.alloc (.cells #[.int .i64 0, .int .i64 1, .int .u64 4096] 87)).alloc (.cells #[.int .i64 0, .int .i64 62, .slice (some ⟨gs, 0, none⟩) 4 4, .slice (some ⟨gy, 0, none⟩) 3 3, .slice (some ⟨gl, 0, none⟩) 4 4] 40) = w4 at *
    have hb4 : Below W.heap.size W w4 := hw4 ▸ ((Below.refl _ _).alloc (Nat.le_refl _) _).alloc (by simp) _
    have hs4 : w4.heap.size = W.heap.size + 2 := by rw [← hw4]; simp
    have hP4 : Row 3 Place.cells w4 w4.heap.size (some ⟨W.heap.size, 0, none⟩) exP12 := by
      have h : Row 3 Place.cells w4 (W.heap.size + 1) (some ⟨W.heap.size, 0, none⟩) exP12 := by
        rw [← hw4]
        have h := lit_row place_three W 87 exP12
        rw [show (cellsF Place.cells exP12).toArray = #[.int .i64 0, .int .i64 1, .int .u64 4096] from rfl] at h
        exact Row.below h ((Below.refl _ _).alloc (by simp) _)
      exact Row.more h (by omega)
    have hOk := ((ex12_ok hE.out).below hb4).more hb4.size
    have hO4 : Objs w4 w4.heap.size (some ⟨W.heap.size + 1, 0, none⟩) [exO12 gs g1 g2 g3 gy gl gr] := ⟨by
      have h := lit_row obj_cells (W.alloc (.cells #[.int .i64 0, .int .i64 1, .int .u64 4096] 87)) 40 [exO12 gs g1 g2 g3 gy gl gr]
      rw [show (cellsF ObjV.cells [exO12 gs g1 g2 g3 gy gl gr]).toArray = #[.int .i64 0, .int .i64 62, .slice (some ⟨gs, 0, none⟩) 4 4, .slice (some ⟨gy, 0, none⟩) 3 3, .slice (some ⟨gl, 0, none⟩) 4 4] from rfl, show (W.alloc (.cells #[.int .i64 0, .int .i64 1, .int .u64 4096] 87)).heap.size = W.heap.size + 1 by simp, hw4] at h
      exact Row.more h (by omega), fun o ho => by rw [List.mem_singleton.1 ho]; exact hOk⟩
    have HPN : ∀ p ∈ exP12, p.Nums := fun p hp => by
      rw [List.mem_singleton.1 hp]
      exact ⟨by unfold InI; decide, by unfold InI; decide, by decide⟩
    have HNEW := Lib.hid ((lnew_any (cP := 1) (cY := 0) (cO := 1) (cQ := 0) (Y := []) (Q := []) (aY := none) (aQ := none) hP4 (fun h => absurd h (by decide)) HPN (fun y hy => by cases hy) (fun y hy => by cases hy) hO4 ⟨fun h => absurd h (by decide), fun q hq => by cases hq⟩ (fun ob hob => by rw [List.mem_singleton.1 hob]; exact (by decide : 4 ≤ 100000)) (fun ob hob x hx => by
      rw [List.mem_singleton.1 hob] at hx
      simp only [exO12, exL12, List.mem_cons, List.not_mem_nil, or_false] at hx
      rcases hx with rfl | rfl | rfl | rfl
      · exact ⟨by simp [zeroS], show (0 : Nat) < two64 by decide⟩
      · exact ⟨by simp, show (6 : Nat) < two64 by decide⟩
      · exact ⟨by simp, show (6 : Nat) < two64 by decide⟩
      · exact ⟨by simp, show (0 : Nat) < two64 by decide⟩)).mono (fun r w' h => (by
        obtain ⟨hb, -, h2⟩ := h
        obtain ⟨g, hr, hL⟩ := (h2 (ex12_ref _ _ _ _ _ _ _)).2 (ex12_apart _ _ _ _ _ _ _)
        exact ⟨g, hr, Lib.hid hb, Lib.hid hL.places, Lib.hid hL.syms⟩ : ∃ g, r = .returned (.tuple #[.pointer (some ⟨g, 0, none⟩), .int .i64 0]) ∧ Hid (Below w4.heap.size w4 w') ∧ Hid (PlacesAt w' (.pointer (some ⟨g, 0, none⟩)) exP12) ∧ Hid (SymsAt w' (.pointer (some ⟨g, 0, none⟩)) []))))
    have HB4 := Lib.hid hb4
    have HOK := Lib.hid hOk
    have HW4 := Lib.hid hw4
    have HBX := Lib.hid (hE.out.box.below hb4 hE.out.box.lt)
    have HEB := Lib.hid (hE.out.below.trans (hb4.mono hE.out.below.size))
    have hBA : Below W.heap.size W (W.alloc (.cells #[.int .i64 0, .int .i64 1, .int .u64 4096] 87)) := (Below.refl _ _).alloc (Nat.le_refl _) _
    obtain ⟨p0, p1, p2, p3, p4⟩ := five_cells (show Box (W.alloc (.cells #[.int .i64 0, .int .i64 1, .int .u64 4096] 87)) g 40 #[.int .i64 0, .int .i64 62, .slice (some ⟨gs, 0, none⟩) 4 4, .slice (some ⟨gy, 0, none⟩) 3 3, .slice (some ⟨gl, 0, none⟩) 4 4] from hE.out.box.below hBA hE.out.box.lt)
    clear hw4 hb4 hs4 hP4 hOk hO4 HPN hBA n0 n1 n2 n3 n4
    go_upto_region 3 with (first | (rw [HW4.out]; go_at_call 11; refine HNEW.out.mono ?_; rintro r w5 ⟨g5, rfl, HB5, HP5, HY5⟩) | (go_at_call 11; rw [HW4.out]; refine HNEW.out.mono ?_; rintro r w5 ⟨g5, rfl, HB5, HP5, HY5⟩))
    clear p0 p1 p2 p3 p4 HW4 HNEW
    obtain ⟨p0, p1, p2, p3, p4⟩ := five_cells (show Box w5 g 40 #[.int .i64 0, .int .i64 62, .slice (some ⟨gs, 0, none⟩) 4 4, .slice (some ⟨gy, 0, none⟩) 3 3, .slice (some ⟨gl, 0, none⟩) 4 4] from HBX.out.below HB5.out HBX.out.lt)
    have HAP := Lib.hid ((apply_in (w := w5) (exO12 gs g1 g2 g3 gy gl gr) ((HOK.out.below HB5.out).more HB5.out.size) (ex12_symok _ _ _ _ _ _ _) (ex12_relok _ _ _ _ _ _ _) HP5.out HY5.out (obj := 0) (by unfold InI; decide) 3 _ rfl (show (17 : Nat) ≤ 100000 by decide)).mono (fun r w' h => (by
      obtain ⟨hb, v', hr, -, h2⟩ := h
      rw [ex12_rels] at hr h2
      have h3 := h2 (ex12_err _ _ _ _ _ _ _)
      rw [show (List.replicate 17 (0 : UInt8)).length = 17 from rfl] at *
      rw [ex12_err] at hr
      rw [ex12_app] at h3
      exact ⟨v', hr, Lib.hid hb, Lib.hid (conv_own h3)⟩ : ∃ v', r = .returned (.tuple #[v', .int .i64 0]) ∧ Hid (Below w5.heap.size w5 w') ∧ Hid ((convert 41 9 v').run Try.prog w' = .ok (.string ⟨#[0, 12, 16, 0, 0, 0, 0, 0, 0, 255, 255, 255, 255, 255, 255, 255, 255]⟩) w'))))
    rw [show ObjV.val (exO12 gs g1 g2 g3 gy gl gr) = .agg #[.int .i64 0, .int .i64 62, .slice (some ⟨gs, 0, none⟩) 4 4, .slice (some ⟨gy, 0, none⟩) 3 3, .slice (some ⟨gl, 0, none⟩) 4 4] from rfl] at HAP
    clear HOK
    go_wp2_with (go_at_call 12; refine HAP.out.mono ?_; rintro r w6 ⟨v6, rfl, HB6, HC6⟩; have hc6 := HC6.out)
    go_ret
    exact ⟨rfl, HEB.out.trans ((HB5.out.trans (HB6.out.mono HB5.out.size)).mono HEB.out.size)⟩

end Go.Proofs.Yteadabmlleipiaa
