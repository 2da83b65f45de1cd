/-
  The document's answer for what is left out of objects: how things stand.
-/
import Derived.Test.YtidegcibmdincaaLmC
import Derived.Test.YtidegcibmdincaaSeY
import Derived.Test.YtidegcibmdincaaSeR
import Derived.Test.YtidegcibmdincaaSyX
import Derived.Test.YtidegcibmdincaaPut
import Derived.OpenShut
import Derived.Test.YtidegcibmdincaaCsL
import Derived.ProofKit
import Derived.Deep.Slices
import Derived.Deep.DeepCutAuto
import Derived.Deep.LoopGhost
import Derived.Test.YtidegcibmdincaaGpN
import Derived.Test.YtidegcibmdincaaGpI
import Derived.Test.YtidegcibmdincaaRefR
namespace Go.Proofs.Ytidegcibmdincaa
open Go Go.RowKit

def Bulk6 (L : List Lay) (k : Nat) : Prop := ∀ (j : Nat) (x : Lay), j < k → L[j]? = some x → x.s.data.length ≤ 6000 ∧ x.s.name.length ≤ 6000
theorem Bulk6.next {L : List Lay} {k : Nat} {x : Lay} (h : Bulk6 L k) (hx : L[k]? = some x) (h1 : x.s.data.length ≤ 6000) (h2 : x.s.name.length ≤ 6000) : Bulk6 L (k + 1) := fun j y hj hy => by
  rcases Nat.lt_or_ge j k with h3 | h3
  · exact h j y h3 hy
  · rw [show j = k by omega, hx] at hy
    injection hy with hy
    exact hy ▸ ⟨h1, h2⟩
theorem Bulk6.all {L : List Lay} (h : Bulk6 L L.length) : ∀ x ∈ L, x.s.data.length ≤ 6000 ∧ x.s.name.length ≤ 6000 := fun x hx => by
  obtain ⟨i, hi, e⟩ := List.getElem_of_mem hx
  exact h i x hi (by rw [← e]; exact List.getElem?_eq_getElem hi)

/-- An object that came in: nothing is said of how much it has. -/
structure ObjV.In (w : World) (B : Nat) (o : ObjV) : Prop where
  secs : SecsIn w B o.aS o.L
  syms : Syms w B o.aY o.Y
  lists : Lists w B o.aR o.Q
  capS : o.L.length ≤ o.cS
  capR : o.Q.length ≤ o.cR
  numY : ∀ y ∈ o.Y, y.Nums
  numQ : ∀ q ∈ o.Q, ∀ r ∈ q.l, r.Nums
structure ObjV.Small (o : ObjV) : Prop where
  S : o.L.length ≤ 6000
  s : ∀ x ∈ o.L, x.s.data.length ≤ 6000 ∧ x.s.name.length ≤ 6000
  Y : o.Y.length + sumN o.Y ≤ 6000
  Q : o.Q.length ≤ 6000
  q : ∀ q ∈ o.Q, q.l.length ≤ 6000

end Go.Proofs.Ytidegcibmdincaa

namespace Go.Proofs.Ytidegcibmdincaa
open Go Go.RowKit

/-- A row of groups of the call's own, as groups that lie. -/
theorem GSt.grps {T : TypeId} {w : World} {base : Nat} {v : Value} {L : List GLay} (h : GSt T w base v L) : ∃ (A : Option Addr) (c : Nat), v = .slice A L.length c ∧ Grps w w.heap.size A L := by
  obtain ⟨A, c, e, _, _, hr⟩ := own_row glay_four h.row
  exact ⟨A, c, e, hr, fun x hx => ownm_ok (h.mem x hx)⟩

/-- How things stand behind k objects. -/
structure RLeftSt (w1 w : World) (base : Nat) (vn v : Value) (Q : List BLay) (names : List (List UInt8)) (out : List (List Bool)) : Prop where
  list : Q.map (·.l) = out
  rows : BSt w base v Q
  names : OwnS w base vn names
  below : Below base w1 w
/-- What turns while one object's groups are asked: the row of truths in 'ob', the row of names that was there. -/
abbrev LeaveP (ob : Nat) (vn : Value) : Nat → Prop := fun k => k = ob ∨ some k = vn.ownBlock
/-- How things stand behind some groups of an object. -/
structure RLvSt (T : TypeId) (w4 w : World) (base ob n : Nat) (vg vn0 vn : Value) (LG : List GLay) (names : List (List UInt8)) (b : List Bool) : Prop where
  met : Met w base ob n b
  names : OwnS w base vn names
  grps : GSt T w base vg LG
  but : But (LeaveP ob vn0) w4 w
  at_ : vn.ownBlock = vn0.ownBlock ∨ ∀ x, vn.ownBlock = some x → w4.heap.size ≤ x
section
variable {T : TypeId} {w1 w w4 w' : World} {base ob n : Nat} {vg v vn0 vn vn' : Value} {Q : List BLay} {LG : List GLay} {names : List (List UInt8)} {out : List (List Bool)} {b : List Bool}
theorem RLeftSt.later (h : RLeftSt w1 w base vn v Q names out) (hb : Below w.heap.size w w') (hB : base ≤ w.heap.size) : RLeftSt w1 w' base vn v Q names out :=
  ⟨h.list, h.rows.below hb, row_below h.names hb, h.below.trans (hb.mono hB)⟩
/-- Behind all groups of an object. -/
theorem RLeftSt.leave (h : RLeftSt w1 w base vn v Q names out) (hB : base ≤ w.heap.size) {names' : List (List UInt8)} (hob : w.heap.size ≤ ob) (hN : OwnS w' base vn' names') (hb : But (LeaveP ob vn) w w') : RLeftSt w1 w' base vn' v Q names' out := by
  refine ⟨h.list, h.rows.but hb (fun k hk => ?_) (fun q hq k hk => ?_), hN, h.below.trans (hb.below hB (fun k hk => ?_))⟩
  · rintro (rfl | e)
    · have := (h.rows.row.lt k hk).2; omega
    · obtain ⟨cs, f, h1⟩ := row_heap h.names e.symm
      exact row_other h.rows.row h1 (by decide) k hk rfl
  · rintro (rfl | e)
    · have := ((h.rows.mem q hq).lt k hk).2; omega
    · obtain ⟨cs, f, h1⟩ := row_heap h.names e.symm
      exact row_other (h.rows.mem q hq) h1 (by decide) k hk rfl
  · rcases hk with rfl | e
    · omega
    · exact (h.names.lt k e.symm).1
/-- A row of truths more. -/
theorem RLeftSt.more (h : RLeftSt w1 w base vn v Q names out) (hB : base ≤ w.heap.size) {q : BLay} (hq : OwnB w base q.val q.l) {o : Obj} {v' : Value} (hown : w'.ownsRow base 49 1 v' (Q.length + 1) (cellsF BLay.cells1 Q ++ q.cells1)) (hg : (w.alloc o).grownBy w' v.ownBlock) : RLeftSt w1 w' base vn v' (Q ++ [q]) names (out ++ [q.l]) := by
  have hb : Below w.heap.size w (w.alloc o) := (Below.refl w.heap.size w).alloc (Nat.le_refl _) o
  have h1 := h.later hb hB
  refine ⟨by simp [h.list], h1.rows.more (row_below hq hb) hown hg, ?_, h1.below.trans (below_of_only hg (by have := hb.size; omega) (fun k hk => (h1.rows.row.lt k hk).1))⟩
  exact ((But.refl (fun k => some k = v.ownBlock) _).grown hg (fun x hx => .inl hx.symm)).row h1.names (fun k hk hp => by
    obtain ⟨cs, f, hh⟩ := row_heap h1.rows.row hp.symm
    exact row_other h1.names hh (by decide) k hk rfl)
theorem RLvSt.drewN (h : RLvSt T w4 w base ob n vg vn0 vn LG names b) (q : Nat) : RLvSt T w4 (w.drewN q) base ob n vg vn0 vn LG names b :=
  ⟨h.met, h.names, ⟨h.grps.row, h.grps.mem⟩, h.but.grown (only_drewN (only_refl w none) q) (by simp), h.at_⟩
/-- A name more. -/
theorem RLvSt.name (h : RLvSt T w4 w base ob n vg vn0 vn LG names b) (hT : T ≠ 9) {t : List UInt8} {o : Obj} {g cap : Nat} (hown : w'.ownsRow base 9 1 (.slice (some ⟨g, 0, none⟩) (names.length + 1) cap) (names.length + 1) (strV names ++ [.string ⟨t.toArray⟩])) (hg : (w.alloc o).grownBy w' vn.ownBlock) (hat : vn.ownBlock = some g ∨ g = (w.alloc o).heap.size) :
    RLvSt T w4 w' base ob n vg vn0 (.slice (some ⟨g, 0, none⟩) (names.length + 1) cap) LG (names ++ [t]) b := by
  have hb : Below w.heap.size w (w.alloc o) := (Below.refl w.heap.size w).alloc (Nat.le_refl _) o
  have hn := row_below h.names hb
  have hB := (But.refl (fun k => some k = vn.ownBlock) _).grown hg (fun x hx => .inl hx.symm)
  have hne : ∀ {e : TypeId} {size m : Nat} {u : Value} {xs : List Value}, e ≠ 9 → w.ownsRow base e size u m xs → w'.ownsRow base e size u m xs := fun {e size m u xs} he hr =>
    hB.row (row_below hr hb) (fun k hk hp => by
      obtain ⟨cs, f, hh⟩ := row_heap hn hp.symm
      exact row_other (row_below hr hb) hh he k hk rfl)
  refine ⟨⟨h.met.1, hne (by decide) h.met.2⟩, ?_, ⟨hne hT h.grps.row, fun x hx => hne (by decide) (h.grps.mem x hx)⟩, (h.but.then_ hb).grown hg (fun x hx => ?_), ?_⟩
  · rw [OwnS, strV_append, List.length_append]
    exact hown
  · rcases h.at_ with e | e
    · exact .inl (.inr (hx.symm.trans e))
    · exact .inr (e x hx)
  · rcases hat with e | e
    · rcases h.at_ with e2 | e2
      · exact .inl (by rw [← e2, e]; rfl)
      · exact .inr (fun x hx => e2 x (by rw [e]; exact hx))
    · refine .inr (fun x hx => ?_)
      have hx' : g = x := by simpa [Value.ownBlock] using hx
      have h1 := h.but.1.size
      have h2 := hb.size
      omega
/-- A member is left out. -/
theorem RLvSt.store (h : RLvSt T w4 w base ob n vg vn0 vn LG names b) (hT : T ≠ 4) (m : Nat) : RLvSt T w4 (w.setCell ⟨ob, m, none⟩ (.bool true)) base ob n vg vn0 vn LG names (b.set m true) := by
  have hs : w.grownBy (w.setCell ⟨ob, m, none⟩ (.bool true)) (some ob) := only_set (only_refl _ _) m (.bool true)
  have hB := (But.refl (fun k => k = ob) _).grown hs (fun x hx => .inl (by injection hx with hx; exact hx.symm))
  obtain ⟨cs, f, hh⟩ := h.met.box
  have hne : ∀ {e : TypeId} {size k : Nat} {u : Value} {xs : List Value}, e ≠ 4 → w.ownsRow base e size u k xs → (w.setCell ⟨ob, m, none⟩ (.bool true)).ownsRow base e size u k xs := fun {e size k u xs} he hr =>
    hB.row hr (fun z hz hp => row_other hr hh he z hz hp)
  exact ⟨h.met.store m true, hne (by decide) h.names, ⟨hne hT h.grps.row, fun x hx => hne (by decide) (h.grps.mem x hx)⟩, h.but.grown hs (fun x hx => .inl (.inl (by injection hx with hx; exact hx.symm))), h.at_⟩
end
end Go.Proofs.Ytidegcibmdincaa
