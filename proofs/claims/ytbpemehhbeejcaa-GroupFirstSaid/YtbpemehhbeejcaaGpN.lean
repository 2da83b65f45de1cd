/-
  Groups of objects, plain facts: how many there are, what they name; rows of rows of truths that grow; objects that lie side by side.
-/
import Derived.Test.YtbpemehhbeejcaaGpM
namespace Go.Proofs.Ytbpemehhbeejcaa
open Go Go.RowKit

/-! ### Plain facts -/
theorem grpS_from {S : List Sect} {Y : List Sym} : ∀ {k : Nat} {l : List Grp} {met : List Bool}, grpS S Y k = some (l, met) → ∀ g ∈ l, ∃ i s, S[i]? = some s ∧ g = grpOf Y i s
  | 0, l, met, h => by
    rw [grpS] at h
    cases h
    intro g hg; cases hg
  | k + 1, l, met, h => by
    rw [grpS] at h
    cases hk : grpS S Y k with
    | none => simp [hk] at h
    | some q =>
      obtain ⟨l', m'⟩ := q
      have ih := grpS_from hk
      rw [hk] at h
      cases hs : S[k]? with
      | none => simp [hs] at h; obtain ⟨rfl, rfl⟩ := h; exact ih
      | some s =>
        by_cases h17 : s.kind = 17
        · by_cases hh : headG S Y.length s
          · cases hb : metG S.length k s.data m' (cntG s.data) with
            | none => simp [hs, h17, hh, hb] at h
            | some b =>
              simp [hs, h17, hh, hb] at h
              obtain ⟨rfl, rfl⟩ := h
              intro g hg
              rcases List.mem_append.1 hg with hg | hg
              · exact ih g hg
              · exact ⟨k, s, hs, List.mem_singleton.1 hg⟩
          · simp [hs, h17, hh] at h
        · simp [hs, h17] at h; obtain ⟨rfl, rfl⟩ := h; exact ih
theorem sumN_mem {Y : List Sym} {y : Sym} (h : y ∈ Y) : y.name.length ≤ sumN Y := by
  induction Y with
  | nil => cases h
  | cons x Y ih =>
    have e : sumN (x :: Y) = x.name.length + sumN Y := by simp [sumN]
    rw [e]
    rcases List.mem_cons.1 h with rfl | h
    · omega
    · have := ih h; omega
/-- What an object's groups are bounded by. -/
theorem grpT_bounds {S : List Sect} {Y : List Sym} {R : List Grp} (h : grpT S Y = some R) (hS : S.length ≤ 6000) (hD : ∀ s ∈ S, s.data.length ≤ 6000) (hY : Y.length + sumN Y ≤ 6000) :
    R.length ≤ 6000 ∧ ∀ g ∈ R, (∀ m ∈ g.mem, m < S.length) ∧ g.mem.length ≤ 6000 ∧ g.name.length ≤ 6000 := by
  unfold grpT at h
  cases hk : grpS S Y S.length with
  | none => rw [hk] at h; cases h
  | some q =>
    obtain ⟨l, met⟩ := q
    rw [hk] at h
    injection h with h
    simp only at h
    subst h
    have h1 := (grpS_length hk).2
    refine ⟨by omega, fun g hg => ⟨fun m hm => ((grpS_facts hk).1 g hg m hm).1, ?_⟩⟩
    obtain ⟨i, s, hs, rfl⟩ := grpS_from hk g hg
    have h2 := hD s (List.mem_of_getElem? hs)
    refine ⟨by show (memsG s.data (cntG s.data)).length ≤ 6000; rw [memsG_length]; unfold cntG; omega, ?_⟩
    show (((Y[s.inf.toNat]?).map (·.name)).getD []).length ≤ 6000
    cases hy : Y[s.inf.toNat]? with
    | none => simp
    | some y =>
      have := sumN_mem (List.mem_of_getElem? hy)
      simp
      omega
theorem leftK_count {n : Nat} {G : List Grp} {names : List (List UInt8)} : ∀ k, (leftK n G names k).1.length ≤ names.length + k
  | 0 => Nat.le_refl _
  | k + 1 => by
    have ih := leftK_count (n := n) (G := G) (names := names) k
    cases hk : G[k]? with
    | none => rw [leftK, hk]; simp only; omega
    | some g =>
      rw [leaveK hk]
      unfold leaveN
      split
      · simp; omega
      · simp only; omega
theorem leftS_count {O : List (List Sect × List Sym)} (hG : ∀ q ∈ O, ∀ R, grpT q.1 q.2 = some R → R.length ≤ 6000) : ∀ {k : Nat} {names : List (List UInt8)} {out : List (List Bool)}, leftS O k = some (names, out) → names.length ≤ 6000 * k
  | 0, names, out, h => by
    rw [leftS] at h
    cases h
    simp
  | k + 1, names, out, h => by
    cases hk : leftS O k with
    | none => rw [leftS_none hk (k + 1) (by omega)] at h; cases h
    | some r =>
      obtain ⟨nm, ou⟩ := r
      have ih := leftS_count hG hk
      cases ho : O[k]? with
      | none => rw [leftS, hk] at h; simp [ho] at h; obtain ⟨rfl, rfl⟩ := h; omega
      | some q =>
        obtain ⟨S, Y⟩ := q
        cases hg : grpT S Y with
        | none => rw [leftS_bad hk ho hg] at h; cases h
        | some G =>
          rw [leftS_next hk ho hg] at h
          simp at h
          obtain ⟨rfl, rfl⟩ := h
          have h1 := leftK_count (n := S.length) (G := G) (names := nm) G.length
          have h2 := hG _ (List.mem_of_getElem? ho) G hg
          omega
/-- Why it is not told what is left out of objects; what is. -/
def leftE (O : List (List Sect × List Sym)) : Int := if 6 < O.length then 3 else match leftS O O.length with
  | some _ => 0
  | none => 25
def leftL (O : List (List Sect × List Sym)) : List (List Bool) := if 6 < O.length then [] else match leftS O O.length with
  | some q => q.2
  | none => []
theorem left_big {O : List (List Sect × List Sym)} (h : 6 < O.length) : leftE O = 3 ∧ leftL O = [] := by unfold leftE leftL; rw [if_pos h, if_pos h]; exact ⟨rfl, rfl⟩
theorem left_none {O : List (List Sect × List Sym)} (h : ¬ 6 < O.length) (hn : leftS O O.length = none) : leftE O = 25 ∧ leftL O = [] := by unfold leftE leftL; rw [if_neg h, if_neg h, hn]; exact ⟨rfl, rfl⟩
theorem left_some {O : List (List Sect × List Sym)} (h : ¬ 6 < O.length) {names : List (List UInt8)} {out : List (List Bool)} (hn : leftS O O.length = some (names, out)) : leftE O = 0 ∧ leftL O = out := by unfold leftE leftL; rw [if_neg h, if_neg h, hn]; exact ⟨rfl, rfl⟩

/-! ### Rows behind steps that turn some blocks -/
section
variable {α : Type} {n : Nat} {f : α → List Value} {w w' : World} {B : Nat} {a : Option Addr} {L : List α} {P : Nat → Prop}
theorem Row.but (h : Row n f w B a L) (hb : But P w w') (hp : ∀ k, P k → B ≤ k ∨ ∃ es c, w.heap[k]? = some (.map es c)) : Row n f w' B a L := fun hl => by
  obtain ⟨b, o, e, hlt, hc⟩ := h hl
  refine ⟨b, o, e, hlt, fun i x hx j v hv => ?_⟩
  have h1 := hc i x hx j v hv
  refine (World.cell?_of_block (hb.2 b (by simpa using World.block_lt_of_cell? w _ h1) (fun hpb => ?_))).trans h1
  rcases hp b hpb with h2 | ⟨es, c, h2⟩
  · omega
  · simp [World.cell?, h2] at h1
theorem Grps.but {L : List GLay} (h : Grps w B a L) (hb : But P w w') (hp : ∀ k, P k → B ≤ k ∨ ∃ es c, w.heap[k]? = some (.map es c)) : Grps w' B a L :=
  ⟨Row.but h.row hb hp, fun x hx => ⟨Row.but (h.ok x hx).mem hb hp, (h.ok x hx).cap, (h.ok x hx).max⟩⟩
theorem row_no_map {base m size : Nat} {e : TypeId} {v : Value} {xs : List Value} {mb : Nat} {es : Array MapEntry} {c : Nat} (h : w.ownsRow base e size v m xs) (hg : w.heap[mb]? = some (.map es c)) : ∀ k, v.ownBlock = some k → k ≠ mb := by
  rintro k hk rfl
  obtain ⟨cs, f, h1⟩ := row_heap h hk
  rw [h1] at hg; cases hg
end

/-! ### Rows of rows of truths that grow -/
structure BSt (w : World) (base : Nat) (v : Value) (Q : List BLay) : Prop where
  row : w.ownsRow base 57 1 v Q.length (cellsF BLay.cells1 Q)
  mem : ∀ q ∈ Q, OwnB w base q.val q.l
theorem BLay.one (q : BLay) : ∀ u ∈ q.cells1, u.oneCell' = true := fun u hu => by
  simp only [BLay.cells1, BLay.val, List.mem_cons, List.not_mem_nil, or_false] at hu
  subst hu; rfl
section
variable {w w' : World} {base base' : Nat} {v v' : Value} {Q : List BLay} {q : BLay}
theorem BSt.nil (w : World) (base : Nat) : BSt w base (.slice none 0 0) [] := ⟨World.ownsRow_nil _ _ _ _, fun _ h => by cases h⟩
theorem BSt.but {P : Nat → Prop} (h : BSt w base v Q) (hb : But P w w') (h1 : ∀ k, v.ownBlock = some k → ¬ P k) (h2 : ∀ q ∈ Q, ∀ k, q.val.ownBlock = some k → ¬ P k) : BSt w' base v Q :=
  ⟨hb.row h.row h1, fun x hx => hb.row (h.mem x hx) (h2 x hx)⟩
theorem BSt.below (h : BSt w base v Q) (hb : Below w.heap.size w w') : BSt w' base v Q := ⟨row_below h.row hb, fun x hx => row_below (h.mem x hx) hb⟩
theorem BSt.base_ (h : BSt w base v Q) (hb : base' ≤ base) : BSt w base' v Q := ⟨row_base h.row hb, fun x hx => row_base (h.mem x hx) hb⟩
/-- One more. -/
theorem BSt.more (h : BSt w base v Q) (hx : OwnB w base q.val q.l) (hown : w'.ownsRow base 57 1 v' (Q.length + 1) (cellsF BLay.cells1 Q ++ q.cells1)) (hg : w.grownBy w' v.ownBlock) : BSt w' base v' (Q ++ [q]) := by
  refine ⟨by rw [List.length_append, cellsF_append, cellsF_one]; exact hown, fun y hy => ?_⟩
  have hk : ∀ z : BLay, OwnB w base z.val z.l → OwnB w' base z.val z.l := fun z hz =>
    ((But.refl (fun k => some k = v.ownBlock) w).grown hg (fun x hx => .inl hx.symm)).row hz (fun k hk hp => by
      obtain ⟨cs, f, hb⟩ := row_heap h.row hp.symm
      exact row_other hz hb (by decide) k hk rfl)
  rcases List.mem_append.1 hy with hy | hy
  · exact hk y (h.mem y hy)
  · obtain rfl := List.mem_singleton.1 hy
    exact hk _ hx
/-- As rows that lie. -/
theorem BSt.rows (h : BSt w base v Q) : ∃ (A : Option Addr) (c : Nat), v = .slice A Q.length c ∧ BRows w w.heap.size A Q := by
  obtain ⟨A, c, e, _, _, hr⟩ := own_row blay_one h.row
  refine ⟨A, c, e, hr, fun q hq => ?_⟩
  obtain ⟨A', c', e', _, _, hr'⟩ := own_row bool_one (h.mem q hq)
  unfold BLay.val at e'
  injection e' with e1 e2 e3
  rw [e1]
  exact hr'
end
theorem bools_info : (Try.prog.info? 57).map (fun i => (i.zero, i.size, i.bytes)) = some (some (.slice none 0 0), 1, 24) := by kernel_rfl
theorem blay_lit (w : World) (q : BLay) : ∀ j u, q.cells1[j]? = some u → (w.alloc (.cells #[.slice q.a q.l.length q.c] 57)).cell? ((⟨w.heap.size, 0, none⟩ : Addr).add j) = some u := fun j u h => by
  rw [addr_add, (Box.new w 57 #[.slice q.a q.l.length q.c]).cell, Nat.zero_add]
  simpa [BLay.cells1, BLay.val] using h

/-! ### Objects that lie side by side -/
theorem obj_cells (o : ObjV) : o.cells.length = 5 := rfl
structure Objs (w : World) (B : Nat) (a : Option Addr) (O : List ObjV) : Prop where
  row : Row 5 ObjV.cells w B a O
  ok : ∀ o ∈ O, o.Ok w B
section
variable {w w' : World} {B B' : Nat} {a : Option Addr} {O : List ObjV} {o : ObjV}
theorem Objs.below (h : Objs w B a O) (hb : Below B w w') : Objs w' B a O := ⟨h.row.below hb, fun o ho => (h.ok o ho).below hb⟩
theorem Objs.more (h : Objs w B a O) (hB : B ≤ B') : Objs w B' a O := ⟨h.row.more hB, fun o ho => (h.ok o ho).more hB⟩
theorem Objs.up (h : Objs w w.heap.size a O) (hb : Below w.heap.size w w') : Objs w' w'.heap.size a O := (h.below hb).more hb.size
theorem Objs.at_ (h : Objs w B a O) {i : Nat} (ho : O[i]? = some o) : ∃ b oo, a = some ⟨b, oo, none⟩ ∧ b < B ∧ w.cell? ⟨b, oo + i * 5, none⟩ = some (.int .i64 o.kind) ∧ w.cell? ⟨b, oo + i * 5 + 1, none⟩ = some (.int .i64 o.machine) ∧
    w.cell? ⟨b, oo + i * 5 + 2, none⟩ = some (.slice o.aS o.L.length o.cS) ∧ w.cell? ⟨b, oo + i * 5 + 3, none⟩ = some (.slice o.aY o.Y.length o.cY) ∧ w.cell? ⟨b, oo + i * 5 + 4, none⟩ = some (.slice o.aR o.Q.length o.cR) := by
  have hl : 0 < O.length := by have := (List.getElem?_eq_some_iff.1 ho).1; omega
  obtain ⟨b, oo, e, hlt, hc⟩ := h.row hl
  exact ⟨b, oo, e, hlt, hc i o ho 0 _ rfl, hc i o ho 1 _ rfl, hc i o ho 2 _ rfl, hc i o ho 3 _ rfl, hc i o ho 4 _ rfl⟩
end
/-- What groups are asked of: an object's sections and symbols. -/
abbrev objO (o : ObjV) : List Sect × List Sym := (secsOf o.L, o.Y)

end Go.Proofs.Ytbpemehhbeejcaa
