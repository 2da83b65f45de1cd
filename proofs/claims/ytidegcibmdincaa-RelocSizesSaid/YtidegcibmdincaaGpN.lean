/-
  Groups of objects, plain facts: how many there are, what they name; rows of rows of truths that grow; objects that lie side by side.
-/
import Derived.Test.YtidegcibmdincaaGpM
namespace Go.Proofs.Ytidegcibmdincaa
open Go Go.RowKit

/-! ### Rows behind steps that turn some blocks -/
section
variable {α : Type} {n : Nat} {f : α → List Value} {w w' : World} {B : Nat} {a : Option Addr} {L : List α} {P : Nat → Prop}
theorem Row.but (h : Row n f w B a L) (hb : But P w w') (hp : ∀ k, P k → B ≤ k ∨ ∃ es c, w.heap[k]? = some (.map es c)) : Row n f w' B a L := fun hl => by
  obtain ⟨b, o, e, hlt, hc⟩ := h hl
  refine ⟨b, o, e, hlt, fun i x hx j v hv => ?_⟩
  have h1 := hc i x hx j v hv
  refine (World.cell?_of_block (hb.2 b (by simpa using World.block_lt_of_cell? w _ h1) (fun hpb => ?_))).trans h1
  rcases hp b hpb with h2 | ⟨es, c, h2⟩
  · omega
  · simp [World.cell?, h2] at h1
theorem Grps.but {L : List GLay} (h : Grps w B a L) (hb : But P w w') (hp : ∀ k, P k → B ≤ k ∨ ∃ es c, w.heap[k]? = some (.map es c)) : Grps w' B a L :=
  ⟨Row.but h.row hb hp, fun x hx => ⟨Row.but (h.ok x hx).mem hb hp, (h.ok x hx).cap, (h.ok x hx).max⟩⟩
end

/-! ### Rows of rows of truths that grow -/
structure BSt (w : World) (base : Nat) (v : Value) (Q : List BLay) : Prop where
  row : w.ownsRow base 49 1 v Q.length (cellsF BLay.cells1 Q)
  mem : ∀ q ∈ Q, OwnB w base q.val q.l
theorem BLay.one (q : BLay) : ∀ u ∈ q.cells1, u.oneCell' = true := fun u hu => by
  simp only [BLay.cells1, BLay.val, List.mem_cons, List.not_mem_nil, or_false] at hu
  subst hu; rfl
section
variable {w w' : World} {base base' : Nat} {v v' : Value} {Q : List BLay} {q : BLay}
theorem BSt.nil (w : World) (base : Nat) : BSt w base (.slice none 0 0) [] := ⟨World.ownsRow_nil _ _ _ _, fun _ h => by cases h⟩
theorem BSt.but {P : Nat → Prop} (h : BSt w base v Q) (hb : But P w w') (h1 : ∀ k, v.ownBlock = some k → ¬ P k) (h2 : ∀ q ∈ Q, ∀ k, q.val.ownBlock = some k → ¬ P k) : BSt w' base v Q :=
  ⟨hb.row h.row h1, fun x hx => hb.row (h.mem x hx) (h2 x hx)⟩
theorem BSt.below (h : BSt w base v Q) (hb : Below w.heap.size w w') : BSt w' base v Q := ⟨row_below h.row hb, fun x hx => row_below (h.mem x hx) hb⟩
/-- One more. -/
theorem BSt.more (h : BSt w base v Q) (hx : OwnB w base q.val q.l) (hown : w'.ownsRow base 49 1 v' (Q.length + 1) (cellsF BLay.cells1 Q ++ q.cells1)) (hg : w.grownBy w' v.ownBlock) : BSt w' base v' (Q ++ [q]) := by
  refine ⟨by rw [List.length_append, cellsF_append, cellsF_one]; exact hown, fun y hy => ?_⟩
  have hk : ∀ z : BLay, OwnB w base z.val z.l → OwnB w' base z.val z.l := fun z hz =>
    ((But.refl (fun k => some k = v.ownBlock) w).grown hg (fun x hx => .inl hx.symm)).row hz (fun k hk hp => by
      obtain ⟨cs, f, hb⟩ := row_heap h.row hp.symm
      exact row_other hz hb (by decide) k hk rfl)
  rcases List.mem_append.1 hy with hy | hy
  · exact hk y (h.mem y hy)
  · obtain rfl := List.mem_singleton.1 hy
    exact hk _ hx
/-- As rows that lie. -/
theorem BSt.rows (h : BSt w base v Q) : ∃ (A : Option Addr) (c : Nat), v = .slice A Q.length c ∧ BRows w w.heap.size A Q := by
  obtain ⟨A, c, e, _, _, hr⟩ := own_row blay_one h.row
  refine ⟨A, c, e, hr, fun q hq => ?_⟩
  obtain ⟨A', c', e', _, _, hr'⟩ := own_row bool_one (h.mem q hq)
  unfold BLay.val at e'
  injection e' with e1 e2 e3
  rw [e1]
  exact hr'
end
/-! ### Objects that lie side by side -/
theorem obj_cells (o : ObjV) : o.cells.length = 5 := rfl
structure Objs (w : World) (B : Nat) (a : Option Addr) (O : List ObjV) : Prop where
  row : Row 5 ObjV.cells w B a O
  ok : ∀ o ∈ O, o.Ok w B
section
variable {w w' : World} {B B' : Nat} {a : Option Addr} {O : List ObjV} {o : ObjV}
theorem Objs.below (h : Objs w B a O) (hb : Below B w w') : Objs w' B a O := ⟨h.row.below hb, fun o ho => (h.ok o ho).below hb⟩
theorem Objs.more (h : Objs w B a O) (hB : B ≤ B') : Objs w B' a O := ⟨h.row.more hB, fun o ho => (h.ok o ho).more hB⟩
theorem Objs.up (h : Objs w w.heap.size a O) (hb : Below w.heap.size w w') : Objs w' w'.heap.size a O := (h.below hb).more hb.size
theorem Objs.at_ (h : Objs w B a O) {i : Nat} (ho : O[i]? = some o) : ∃ b oo, a = some ⟨b, oo, none⟩ ∧ b < B ∧ w.cell? ⟨b, oo + i * 5, none⟩ = some (.int .i64 o.kind) ∧ w.cell? ⟨b, oo + i * 5 + 1, none⟩ = some (.int .i64 o.machine) ∧
    w.cell? ⟨b, oo + i * 5 + 2, none⟩ = some (.slice o.aS o.L.length o.cS) ∧ w.cell? ⟨b, oo + i * 5 + 3, none⟩ = some (.slice o.aY o.Y.length o.cY) ∧ w.cell? ⟨b, oo + i * 5 + 4, none⟩ = some (.slice o.aR o.Q.length o.cR) := by
  have hl : 0 < O.length := by have := (List.getElem?_eq_some_iff.1 ho).1; omega
  obtain ⟨b, oo, e, hlt, hc⟩ := h.row hl
  exact ⟨b, oo, e, hlt, hc i o ho 0 _ rfl, hc i o ho 1 _ rfl, hc i o ho 2 _ rfl, hc i o ho 3 _ rfl, hc i o ho 4 _ rfl⟩
end
end Go.Proofs.Ytidegcibmdincaa
