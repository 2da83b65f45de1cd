/-
  RelocMoves' walk.
-/
import Derived.Test.YtidegcibmdincaaRlG
import Derived.Test.YtidegcibmdincaaRegInv
import Derived.Test.YtidegcibmdincaaRmA
import Derived.Test.YtidegcibmdincaaRmB
import Derived.Test.YtidegcibmdincaaLoG
import Derived.Test.YtidegcibmdincaaLmN
namespace Go.Proofs.Ytidegcibmdincaa
open Go Go.RowKit

/-! ### The copy whose place is moved -/
theorem box_far {X X' : World} {g g' : Nat} {T T' : TypeId} {cs cs' : Array Value} (h : Box X g' T' cs') (hg : X.grownBy X' (some g)) (hX : Box X g T cs) (hT : T ≠ T') : Box X' g' T' cs' :=
  Box.grown h hg (by first | exact box_ne hX h hT | exact (box_ne hX h hT).symm)
theorem owns_far {X X' : World} {B g k n : Nat} {T e : TypeId} {cs : Array Value} {v : Value} {xs : List Value} (h : X.ownsRow B e n v k xs) (hg : X.grownBy X' (some g)) (hX : Box X g T cs) (hT : T ≠ e) : X'.ownsRow B e n v k xs := by
  refine ⟨h.1, ?_⟩
  rcases h.2 with h0 | ⟨g', cap, cur, e1, hb, hh, hr⟩
  · exact .inl h0
  · exact .inr ⟨g', cap, cur, e1, hb, box_far hh hg hX hT, hr⟩
theorem owns_slice12 {X : World} {B k n : Nat} {e : TypeId} {v : Value} {xs : List Value} (h : X.ownsRow B e n v k xs) : ∃ A c, v = .slice A k c := by
  rcases h.2 with ⟨rfl, h0⟩ | ⟨g, cap, cur, rfl, _⟩
  · exact ⟨none, 0, by rw [h0]⟩
  · exact ⟨_, _, rfl⟩
theorem cellsF_all12 {α : Type} {f : α → List Value} (h : ∀ x, ∀ u ∈ f x, u.oneCell' = true) (L : List α) : ∀ u ∈ cellsF f L, u.oneCell' = true := fun u hu => by
  obtain ⟨x, _, hx⟩ := List.mem_flatMap.1 hu
  exact h x u hx
theorem cells_moved (by_ : Nat) : ∀ (P : List Place) (i : Nat) (p : Place), P[i]? = some p → (cellsF Place.cells P).set (i * 3 + 2) (.int .u64 ((add64 p.addr by_ : Nat) : Int)) = cellsF Place.cells (movedP P i p by_)
  | [], i, p, h => by cases h
  | x :: P, 0, p, h => by
    simp at h
    subst h
    rfl
  | x :: P, i + 1, p, h => by
    have ih := cells_moved by_ P i p (by simpa using h)
    unfold movedP at ih ⊢
    rw [List.set_cons_succ]
    show (Place.cells x ++ cellsF Place.cells P).set ((i + 1) * 3 + 2) _ = Place.cells x ++ cellsF Place.cells (P.set i _)
    rw [← ih, List.set_append_right _ _ (by rw [place_three]; omega), place_three, show (i + 1) * 3 + 2 - 3 = i * 3 + 2 by omega]
theorem moved_nums {P : List Place} {i by_ : Nat} {p : Place} (hp : P[i]? = some p) (h : ∀ x ∈ P, x.Nums) : ∀ x ∈ movedP P i p by_, x.Nums := fun x hx => by
  unfold movedP at hx
  rcases List.mem_or_eq_of_mem_set hx with h1 | rfl
  · exact h x h1
  · have := h p (List.mem_of_getElem? hp)
    exact ⟨this.1, this.2.1, add64_lt _ _⟩
theorem valR_err {o : ObjV} {obj : Int} {P : List Place} {Y : List Named} {r : Rel} (h : (valR o obj P Y r).2 ≠ 0) : (valR o obj P Y r).1 = 0 := by
  unfold valR at h ⊢
  split
  · rfl
  · rename_i h1
    rw [if_neg h1] at h
    cases hs : o.Y[r.sym.toNat]? with
    | none => rfl
    | some s =>
      rw [hs] at h
      simp only at h ⊢
      split
      · rfl
      · rename_i h2
        rw [if_neg h2] at h
        split at h <;> exact absurd rfl h
theorem refM_good {O : List ObjV} {P : List Place} {Y : List Named} (h : refM O [] P Y = false) : goodPs O [] P P.length = true := by
  unfold refM at h
  simp only [Bool.or_eq_false_iff, Bool.not_eq_false'] at h
  exact h.2.1
theorem owns_box {X : World} {B k n g c : Nat} {e : TypeId} {xs : List Value} (h : X.ownsRow B e n (.slice (some ⟨g, 0, none⟩) k c) k xs) : B ≤ g ∧ ∃ cs, Box X g e cs := by
  rcases h.2 with ⟨h0, _⟩ | ⟨g', cap, cur, e1, hb, hh, _⟩
  · cases h0
  · injection e1 with e1
    injection e1 with e1
    injection e1 with e1
    subst e1
    exact ⟨hb, cur, hh⟩
theorem owns_at0 {X : World} {B k n c : Nat} {A : Option Addr} {e : TypeId} {xs : List Value} (h : X.ownsRow B e n (.slice A k c) k xs) (hk : 0 < k) : ∃ g, A = some ⟨g, 0, none⟩ := by
  rcases h.2 with ⟨_, h1⟩ | ⟨g, cap, cur, e1, _⟩
  · omega
  · injection e1 with e1
    exact ⟨g, e1⟩
/-- What holds of the second region's values. -/
def SQ (B p0 : Nat) (aP aY : Option Addr) (NP cP NY cY : Nat) (cs : List Value) (b : Bool × Bool × Nat) (i : Nat) (v : Value) (X : World) : Prop :=
  match i with
  | 0 => ∃ g, v = .slice (some ⟨g, 0, none⟩) 0 0 ∧ (b.1 = false → B ≤ g ∧ Box X g 57 #[])
  | 1 => v = .pointer (some ⟨p0, 0, none⟩)
  | 2 => v = .slice aP NP cP
  | 3 => X.ownsRow B 57 3 v NP cs
  | 4 => v = .pointer (some ⟨p0, 1, none⟩)
  | 5 => v = .slice aY NY cY
  | 6 => ∃ u, v = .agg #[u, .slice aY NY cY] ∧ X.ownsRow B 57 3 u NP cs
  | 7 => v = .pointer (some ⟨b.2.2, 0, none⟩) ∧ B ≤ b.2.2 ∧ (b.2.1 = false → ∃ c0 c1, Box X b.2.2 38 #[c0, c1])
  | 8 => ∃ u, Box X b.2.2 38 #[u, .slice aY NY cY] ∧ X.ownsRow B 57 3 u NP cs
  | _ => True
theorem SQ.below {B p0 : Nat} {aP aY : Option Addr} {NP cP NY cY : Nat} {cs : List Value} {b : Bool × Bool × Nat} {i : Nat} {v : Value} {X X' : World} (hb : Below X.heap.size X X') (h : SQ B p0 aP aY NP cP NY cY cs b i v X) : SQ B p0 aP aY NP cP NY cY cs b i v X' := by
  rcases i with _ | _ | _ | _ | _ | _ | _ | _ | _ | i
  · obtain ⟨g, e, h⟩ := h
    exact ⟨g, e, fun h0 => ⟨(h h0).1, Box.below (h h0).2 hb (h h0).2.lt⟩⟩
  · exact h
  · exact h
  · exact row_below h hb
  · exact h
  · exact h
  · obtain ⟨u, e, h⟩ := h
    exact ⟨u, e, row_below h hb⟩
  · obtain ⟨e, h1, h2⟩ := h
    exact ⟨e, h1, fun h0 => (h2 h0).imp fun c0 h => h.imp fun c1 h => Box.below h hb h.lt⟩
  · obtain ⟨u, h1, h2⟩ := h
    exact ⟨u, Box.below h1 hb h1.lt, row_below h2 hb⟩
  · trivial

/-- The guards, one behind the other, by what Great tells. -/
def c1 (NP : Nat) (b : Bool) : Bool := b || decide (NP = 0)
def c2 (NP : Nat) (obj : Int) (b : Bool) : Bool := c1 NP b || decide (obj < 0)
def c3 (NP N : Nat) (obj : Int) (b : Bool) : Bool := c2 NP obj b || decide ((N : Int) ≤ obj)
def c4 (NP N : Nat) (obj sym : Int) (b : Bool) : Bool := c3 NP N obj b || decide (sym < 0)
def c5 (NP N yl : Nat) (obj sym : Int) (b : Bool) : Bool := c4 NP N obj sym b || decide ((yl : Int) ≤ sym)
theorem c4_facts {NP N : Nat} {obj sym : Int} {b : Bool} (h : c4 NP N obj sym b = false) : b = false ∧ NP ≠ 0 ∧ 0 ≤ obj ∧ obj < N ∧ 0 ≤ sym := by
  simp only [c4, c3, c2, c1, Bool.or_eq_false_iff, decide_eq_false_iff_not] at h
  obtain ⟨⟨⟨⟨h1, h2⟩, h3⟩, h4⟩, h5⟩ := h
  exact ⟨h1, h2, by omega, by omega, by omega⟩
theorem c5_facts {NP N yl : Nat} {obj sym : Int} {b : Bool} (h : c5 NP N yl obj sym b = false) : (b = false ∧ NP ≠ 0 ∧ 0 ≤ obj ∧ obj < N ∧ 0 ≤ sym) ∧ sym < yl := by
  simp only [c5, Bool.or_eq_false_iff, decide_eq_false_iff_not] at h
  exact ⟨c4_facts h.1, by omega⟩
def ylO (O : List ObjV) (obj : Int) : Nat := match O[obj.toNat]? with | some ob => ob.Y.length | none => 0
/-- What holds of each operation's value once it has come up. -/
def SM (GR : Prop) (aO aP aY : Option Addr) (cO cP cY N NP NY yl p0 p1 : Nat) (obj sym : Int) (b : Bool) (i : Nat) (v : Value) (_ : World) : Prop :=
  match i with
  | 0 => v = .slice aO N cO
  | 1 => v = .agg #[.slice aP NP cP, .slice aY NY cY]
  | 2 => v = .bool b ∧ (b = false → GR)
  | 3 => v = .bool b
  | 4 => b = false → v = .pointer (some ⟨p0, 0, none⟩)
  | 5 => b = false → v = .slice aP NP cP
  | 6 => b = false → v = .int .i64 (NP : Int)
  | 7 => b = false → v = .bool (decide (NP = 0))
  | 8 => v = .bool (c1 NP b)
  | 9 => v = .bool (c1 NP b)
  | 10 => c1 NP b = false → v = .int .i64 obj
  | 11 => c1 NP b = false → v = .bool (decide (obj < 0))
  | 12 => v = .bool (c2 NP obj b)
  | 13 => v = .bool (c2 NP obj b)
  | 14 => c2 NP obj b = false → v = .int .i64 obj
  | 15 => c2 NP obj b = false → v = .slice aO N cO
  | 16 => c2 NP obj b = false → v = .int .i64 (N : Int)
  | 17 => c2 NP obj b = false → v = .bool (decide ((N : Int) ≤ obj))
  | 18 => v = .bool (c3 NP N obj b)
  | 19 => v = .bool (c3 NP N obj b)
  | 20 => c3 NP N obj b = false → v = .pointer (some ⟨p1, 1, none⟩)
  | 21 => c3 NP N obj b = false → v = .int .i64 sym
  | 22 => c3 NP N obj b = false → v = .bool (decide (sym < 0))
  | 23 => v = .bool (c4 NP N obj sym b)
  | 24 => v = .bool (c4 NP N obj sym b)
  | 25 => c4 NP N obj sym b = false → v = .pointer (some ⟨p1, 1, none⟩)
  | 26 => c4 NP N obj sym b = false → v = .int .i64 sym
  | 27 => c4 NP N obj sym b = false → v = .slice aO N cO
  | 28 => c4 NP N obj sym b = false → v = .int .i64 obj
  | 29 => c4 NP N obj sym b = false → ∃ bb oo, aO = some ⟨bb, oo, none⟩ ∧ v = .pointer (some ⟨bb, oo + obj.toNat * 5, none⟩)
  | 30 => c4 NP N obj sym b = false → ∃ bb oo, aO = some ⟨bb, oo, none⟩ ∧ v = .pointer (some ⟨bb, oo + obj.toNat * 5 + 3, none⟩)
  | 31 => c4 NP N obj sym b = false → ∃ a c, v = .slice a yl c
  | 32 => c4 NP N obj sym b = false → v = .int .i64 (yl : Int)
  | 33 => c4 NP N obj sym b = false → v = .bool (decide ((yl : Int) ≤ sym))
  | 34 => v = .bool (c5 NP N yl obj sym b)
  | _ => True

set_option maxRecDepth 10000 in
set_option maxHeartbeats 3200000 in
theorem rmoves_walk (aO aP aY : Option Addr) (cO cP cY : Nat) (P : List Place) (Y : List Named) (O : List ObjV) (at_ obj : Int) (by_ : Nat) (q : Rel) (w : World) (hP : Row 3 Place.cells w w.heap.size aP P) (hY : Row 2 Named.cells w w.heap.size aY Y) (hpn : ∀ p ∈ P, p.Nums) (hyn : ∀ y ∈ Y, y.Nums) (hO : ObjsIn w w.heap.size aO O) (hby : by_ < two64) (hq : q.Nums) (hobj : InI obj) :
    Calls Try.prog 5 #[.slice aO O.length cO, .agg #[.slice aP P.length cP, .slice aY Y.length cY], .int .i64 at_, .int .u64 (by_ : Int), .int .i64 obj, q.val] w fun r w' => r = .returned (.bool true) ∧ Below w.heap.size w w' := by
  unfold Rel.val
  generalize hw1 : w.alloc (.cells #[.slice aP P.length cP, .slice aY Y.length cY] 38) = w1 at *
  have hb1 : Below w.heap.size w w1 := hw1 ▸ (Below.refl _ _).alloc (Nat.le_refl _) _
  have hs1 : w1.heap.size = w.heap.size + 1 := by rw [← hw1]; simp
  have hXm := Box.new w 38 #[.slice aP P.length cP, .slice aY Y.length cY]
  rw [hw1] at hXm
  generalize hw0 : w1.alloc (.cells #[.int .u64 (q.off : Int), .int .i64 q.sym, .int .i64 q.kind, .int .i64 q.add] 53) = w0 at *
  have hb10 : Below w1.heap.size w1 w0 := hw0 ▸ (Below.refl _ _).alloc (Nat.le_refl _) _
  have hs0 : w0.heap.size = w.heap.size + 2 := by rw [← hw0]; simp; omega
  have hXr := Box.new w1 53 #[.int .u64 (q.off : Int), .int .i64 q.sym, .int .i64 q.kind, .int .i64 q.add]
  rw [hw0] at hXr
  have hb0 : Below w.heap.size w w0 := hb1.trans (hb10.mono hb1.size)
  have hXm0 := hXm.below hb10 (by omega)
  have HB0 := Lib.hid hb0
  have KX := Lib.hid (fun W (hW : Below w0.heap.size w0 W) => (⟨by rw [(hXm0.below hW (by omega)).cell]; rfl, by rw [(hXm0.below hW (by omega)).cell]; rfl, four_cells (hXr.below hW (by omega))⟩ :
    W.cell? ⟨w.heap.size, 0, none⟩ = some (.slice aP P.length cP) ∧ W.cell? ⟨w.heap.size, 1, none⟩ = some (.slice aY Y.length cY) ∧
    (W.cell? ⟨w1.heap.size, 0, none⟩ = some (.int .u64 (q.off : Int)) ∧ W.cell? ⟨w1.heap.size, 1, none⟩ = some (.int .i64 q.sym) ∧ W.cell? ⟨w1.heap.size, 2, none⟩ = some (.int .i64 q.kind) ∧ W.cell? ⟨w1.heap.size, 3, none⟩ = some (.int .i64 q.add))))
  have HI := Lib.hid (fun W (hW : Below w0.heap.size w0 W) => (by
    have h := hb0.trans (hW.mono hb0.size)
    exact ⟨Row.more (Row.below hP h) h.size, Row.more (Row.below hY h) h.size, (hO.below h).more h.size⟩ : Row 3 Place.cells W W.heap.size aP P ∧ Row 2 Named.cells W W.heap.size aY Y ∧ ObjsIn W W.heap.size aO O))
  have HN := Lib.hid (And.intro hpn hyn)
  have HQ := Lib.hid hq
  have HBY := Lib.hid hby
  have HOBJ := Lib.hid hobj

  have HWK := Lib.hid (works12_any (w := w0))
  have HS0 := Lib.hid hs0
  clear hP hY hpn hyn hO hby hq hobj hb1 hb10 hXm hXr hXm0 hb0 hs1 hs0
  go_enter Try.func5, Try.ntmps5
  go_upto_region 1 with fail
  try rw [hw1]
  try rw [hw0]
  clear hw1 hw0
  go_upto_region 3 with (go_at_call 9; refine HWK.out.mono ?_; rintro r w2 ⟨rfl, hb2⟩; have HB2 := Lib.hid hb2; clear hb2)
  have HGR := Lib.hid (fun W (hW : Below w0.heap.size w0 W) => great12_any (w := W) (aP := aP) (cP := cP) (cY := cY) (P := P) (HI.out _ hW).2.1 (HI.out _ hW).2.2 cO)
  obtain ⟨N, hN⟩ : ∃ N, O.length = N := ⟨_, rfl⟩
  obtain ⟨NP, hNP⟩ : ∃ N, P.length = N := ⟨_, rfl⟩
  obtain ⟨NY, hNY⟩ : ∃ N, Y.length = N := ⟨_, rfl⟩
  have HNO := Lib.hid hN
  have HNP := Lib.hid hNP
  have HNY := Lib.hid hNY
  rw [hNP, hNY] at HGR KX
  rw [hN] at HGR ⊢
  clear hNP hNY
  refine region_ex 186 (SM ((N ≤ 10 ∧ ∀ o ∈ O, o.Small) ∧ NP ≤ 250 ∧ NY ≤ 250 ∧ ∀ s ∈ Y, s.name.length ≤ 300) aO aP aY cO cP cY N NP NY (ylO O obj) w.heap.size w1.heap.size obj q.sym) (fun X => Below w0.heap.size w0 X) (fun _ _ => True) false (fun _ => trivial) (by kernel_rfl) rfl (by kernel_rfl) (by kernel_rfl) HB2.out.drew ?steps ?rest
  case steps =>
    intro i o ho b a X hN hk hg _ hdep K hK
    have s0 : a.tmps[0]? = some (.slice aO N cO) := slot_some hN (by decide) (kept_at hk (by kernel_rfl))
    have s4 : a.tmps[4]? = some (.int .i64 obj) := slot_some hN (by decide) (kept_at hk (by kernel_rfl))
    have s7 : a.tmps[7]? = some (.pointer (some ⟨w.heap.size, 0, none⟩)) := slot_some hN (by decide) (kept_at hk (by kernel_rfl))
    have s11 : a.tmps[11]? = some (.pointer (some ⟨w1.heap.size, 0, none⟩)) := slot_some hN (by decide) (kept_at hk (by kernel_rfl))
    rcases i with _ | _ | _ | _ | _ | _ | _ | _ | _ | _ | _ | _ | _ | _ | _ | _ | _ | _ | _ | _ | _ | _ | _ | _ | _ | _ | _ | _ | _ | _ | _ | _ | _ | _ | _ | i
    · obtain rfl := Option.some.inj ho
      clear ho hk
      refine (if_pos (by rfl)).mpr ?_
      clear hN
      go_simp
      exact hK _ _ b hg (rfl) (fun _ _ _ _ h => h) (fun _ _ _ => trivial)
    · obtain rfl := Option.some.inj ho
      clear ho hk
      refine (if_pos (by rfl)).mpr ?_
      obtain ⟨x0, x1, -⟩ := KX.out _ hg
      clear hN
      go_simp
      exact hK _ _ b hg (rfl) (fun _ _ _ _ h => h) (fun _ _ _ => trivial)
    · obtain rfl := Option.some.inj ho
      clear ho hk
      refine (if_pos (by rfl)).mpr ?_
      have e0 := slot_some hN (by decide) (hdep { on := 0, ground := .data } (by simp) rfl)
      have e1 := slot_some hN (by decide) (hdep { on := 1, ground := .data } (by simp) rfl)
      clear hN
      go_simp
      refine (HGR.out _ hg).mono ?_
      rintro r w3 ⟨b', rfl, hsm, hb3⟩
      exact hK _ _ b' (hg.trans (hb3.mono hg.size)) ⟨rfl, hsm⟩ (fun j u hji hw h => by
        rcases j with _ | _ | _ | j
        · exact h
        · exact h
        · exact absurd rfl hji
        · rcases Nat.lt_or_ge j 32 with hj | hj
          · exact absurd (List.all_eq_true.1 (show (List.range 32).all (fun k => waitsF _ 2 _ (k + 3)) = true from by kernel_rfl) j (List.mem_range.2 hj)) (by rw [hw]; exact Bool.false_ne_true)
          · obtain ⟨k, rfl⟩ : ∃ k, j = k + 32 := ⟨j - 32, by omega⟩
            exact trivial) (fun _ _ _ => trivial)
    · obtain rfl := Option.some.inj ho
      clear ho hk
      refine (if_pos (by rfl)).mpr ?_
      have e0 := slot_some hN (by decide) (hdep { on := 2, ground := .data } (by simp) rfl).1
      clear hN
      go_simp
      exact hK _ _ b hg rfl (fun _ _ _ _ h => h) (fun _ _ _ => trivial)
    · obtain rfl := Option.some.inj ho
      clear ho hk
      have eg := slot_some hN (by decide) (hdep { on := 3, ground := .guard } (by simp) rfl)
      cases b with
      | true =>
        refine (if_neg (by simp [Region.wanted, yielded, eg])).mpr ?_
        exact hK undef X true hg (fun h => by cases h) (fun _ _ _ _ h => h) (fun _ _ _ => trivial)
      | false =>
        refine (if_pos (by simp [Region.wanted, yielded, eg])).mpr ?_
        clear hN
        go_simp
        exact hK _ _ false hg (fun _ => rfl) (fun _ _ _ _ h => h) (fun _ _ _ => trivial)
    · obtain rfl := Option.some.inj ho
      clear ho hk
      have eg := slot_some hN (by decide) (hdep { on := 3, ground := .guard } (by simp) rfl)
      cases b with
      | true =>
        refine (if_neg (by simp [Region.wanted, yielded, eg])).mpr ?_
        exact hK undef X true hg (fun h => by cases h) (fun _ _ _ _ h => h) (fun _ _ _ => trivial)
      | false =>
        refine (if_pos (by simp [Region.wanted, yielded, eg])).mpr ?_
        have e0 := slot_some hN (by decide) ((hdep { on := 4, ground := .data } (by simp) rfl) rfl)
        obtain ⟨x0, x1, -⟩ := KX.out _ hg
        clear hN
        go_simp
        exact hK _ _ false hg (fun _ => rfl) (fun _ _ _ _ h => h) (fun _ _ _ => trivial)
    · obtain rfl := Option.some.inj ho
      clear ho hk
      have eg := slot_some hN (by decide) (hdep { on := 3, ground := .guard } (by simp) rfl)
      cases b with
      | true =>
        refine (if_neg (by simp [Region.wanted, yielded, eg])).mpr ?_
        exact hK undef X true hg (fun h => by cases h) (fun _ _ _ _ h => h) (fun _ _ _ => trivial)
      | false =>
        refine (if_pos (by simp [Region.wanted, yielded, eg])).mpr ?_
        have e0 := slot_some hN (by decide) ((hdep { on := 5, ground := .data } (by simp) rfl) rfl)
        clear hN
        go_simp
        exact hK _ _ false hg (fun _ => rfl) (fun _ _ _ _ h => h) (fun _ _ _ => trivial)
    · obtain rfl := Option.some.inj ho
      clear ho hk
      have eg := slot_some hN (by decide) (hdep { on := 3, ground := .guard } (by simp) rfl)
      cases b with
      | true =>
        refine (if_neg (by simp [Region.wanted, yielded, eg])).mpr ?_
        exact hK undef X true hg (fun h => by cases h) (fun _ _ _ _ h => h) (fun _ _ _ => trivial)
      | false =>
        refine (if_pos (by simp [Region.wanted, yielded, eg])).mpr ?_
        have e0 := slot_some hN (by decide) ((hdep { on := 6, ground := .data } (by simp) rfl) rfl)
        have k0 : ((NP : Int) == 0) = decide (NP = 0) := by rw [Bool.eq_iff_iff]; simp
        clear hN
        go_simp
        exact hK _ _ false hg (fun _ => rfl) (fun _ _ _ _ h => h) (fun _ _ _ => trivial)
    · obtain rfl := Option.some.inj ho
      clear ho hk
      refine (if_pos (by rfl)).mpr ?_
      have e0 := slot_some hN (by decide) (hdep { on := 3, ground := .data } (by simp) rfl)
      cases b with
      | true =>
        clear hN
        go_simp
        exact hK _ _ true hg (by show Value.bool _ = Value.bool _; simp [c1]) (fun _ _ _ _ h => h) (fun _ _ _ => trivial)
      | false =>
        have e1 := slot_some hN (by decide) ((hdep { on := 7, ground := .data } (by simp) rfl) rfl)
        clear hN
        go_simp
        exact hK _ _ false hg (by show Value.bool _ = Value.bool _; simp [c1]) (fun _ _ _ _ h => h) (fun _ _ _ => trivial)
    · obtain rfl := Option.some.inj ho
      clear ho hk
      refine (if_pos (by rfl)).mpr ?_
      have e0 := slot_some hN (by decide) (hdep { on := 8, ground := .data } (by simp) rfl)
      clear hN
      go_simp
      exact hK _ _ b hg (rfl) (fun _ _ _ _ h => h) (fun _ _ _ => trivial)
    · obtain rfl := Option.some.inj ho
      clear ho hk
      have eg := slot_some hN (by decide) (hdep { on := 9, ground := .guard } (by simp) rfl)
      cases hc : (c1 NP b) with
      | true =>
        rw [hc] at eg
        refine (if_neg (by simp [Region.wanted, yielded, eg])).mpr ?_
        exact hK undef X b hg (fun h => by rw [hc] at h; cases h) (fun _ _ _ _ h => h) (fun _ _ _ => trivial)
      | false =>
        rw [hc] at eg
        refine (if_pos (by simp [Region.wanted, yielded, eg])).mpr ?_
        clear hN
        go_simp
        exact hK _ _ b hg (fun _ => rfl) (fun _ _ _ _ h => h) (fun _ _ _ => trivial)
    · obtain rfl := Option.some.inj ho
      clear ho hk
      have eg := slot_some hN (by decide) (hdep { on := 9, ground := .guard } (by simp) rfl)
      cases hc : (c1 NP b) with
      | true =>
        rw [hc] at eg
        refine (if_neg (by simp [Region.wanted, yielded, eg])).mpr ?_
        exact hK undef X b hg (fun h => by rw [hc] at h; cases h) (fun _ _ _ _ h => h) (fun _ _ _ => trivial)
      | false =>
        rw [hc] at eg
        refine (if_pos (by simp [Region.wanted, yielded, eg])).mpr ?_
        have e0 := slot_some hN (by decide) ((hdep { on := 10, ground := .data } (by simp) rfl) hc)
        clear hN
        go_simp
        exact hK _ _ b hg (fun _ => rfl) (fun _ _ _ _ h => h) (fun _ _ _ => trivial)
    · obtain rfl := Option.some.inj ho
      clear ho hk
      refine (if_pos (by rfl)).mpr ?_
      have e0 := slot_some hN (by decide) (hdep { on := 9, ground := .data } (by simp) rfl)
      cases hc : (c1 NP b) with
      | true =>
        rw [hc] at e0
        clear hN
        go_simp
        exact hK _ _ b hg (by show Value.bool _ = Value.bool _; simp [c2, hc]) (fun _ _ _ _ h => h) (fun _ _ _ => trivial)
      | false =>
        rw [hc] at e0
        have e1 := slot_some hN (by decide) ((hdep { on := 11, ground := .data } (by simp) rfl) hc)
        clear hN
        go_simp
        exact hK _ _ b hg (by show Value.bool _ = Value.bool _; simp [c2, hc]) (fun _ _ _ _ h => h) (fun _ _ _ => trivial)
    · obtain rfl := Option.some.inj ho
      clear ho hk
      refine (if_pos (by rfl)).mpr ?_
      have e0 := slot_some hN (by decide) (hdep { on := 12, ground := .data } (by simp) rfl)
      clear hN
      go_simp
      exact hK _ _ b hg (rfl) (fun _ _ _ _ h => h) (fun _ _ _ => trivial)
    · obtain rfl := Option.some.inj ho
      clear ho hk
      have eg := slot_some hN (by decide) (hdep { on := 13, ground := .guard } (by simp) rfl)
      cases hc : (c2 NP obj b) with
      | true =>
        rw [hc] at eg
        refine (if_neg (by simp [Region.wanted, yielded, eg])).mpr ?_
        exact hK undef X b hg (fun h => by rw [hc] at h; cases h) (fun _ _ _ _ h => h) (fun _ _ _ => trivial)
      | false =>
        rw [hc] at eg
        refine (if_pos (by simp [Region.wanted, yielded, eg])).mpr ?_
        clear hN
        go_simp
        exact hK _ _ b hg (fun _ => rfl) (fun _ _ _ _ h => h) (fun _ _ _ => trivial)
    · obtain rfl := Option.some.inj ho
      clear ho hk
      have eg := slot_some hN (by decide) (hdep { on := 13, ground := .guard } (by simp) rfl)
      cases hc : (c2 NP obj b) with
      | true =>
        rw [hc] at eg
        refine (if_neg (by simp [Region.wanted, yielded, eg])).mpr ?_
        exact hK undef X b hg (fun h => by rw [hc] at h; cases h) (fun _ _ _ _ h => h) (fun _ _ _ => trivial)
      | false =>
        rw [hc] at eg
        refine (if_pos (by simp [Region.wanted, yielded, eg])).mpr ?_
        clear hN
        go_simp
        exact hK _ _ b hg (fun _ => rfl) (fun _ _ _ _ h => h) (fun _ _ _ => trivial)
    · obtain rfl := Option.some.inj ho
      clear ho hk
      have eg := slot_some hN (by decide) (hdep { on := 13, ground := .guard } (by simp) rfl)
      cases hc : (c2 NP obj b) with
      | true =>
        rw [hc] at eg
        refine (if_neg (by simp [Region.wanted, yielded, eg])).mpr ?_
        exact hK undef X b hg (fun h => by rw [hc] at h; cases h) (fun _ _ _ _ h => h) (fun _ _ _ => trivial)
      | false =>
        rw [hc] at eg
        refine (if_pos (by simp [Region.wanted, yielded, eg])).mpr ?_
        have e0 := slot_some hN (by decide) ((hdep { on := 15, ground := .data } (by simp) rfl) hc)
        clear hN
        go_simp
        exact hK _ _ b hg (fun _ => rfl) (fun _ _ _ _ h => h) (fun _ _ _ => trivial)
    · obtain rfl := Option.some.inj ho
      clear ho hk
      have eg := slot_some hN (by decide) (hdep { on := 13, ground := .guard } (by simp) rfl)
      cases hc : (c2 NP obj b) with
      | true =>
        rw [hc] at eg
        refine (if_neg (by simp [Region.wanted, yielded, eg])).mpr ?_
        exact hK undef X b hg (fun h => by rw [hc] at h; cases h) (fun _ _ _ _ h => h) (fun _ _ _ => trivial)
      | false =>
        rw [hc] at eg
        refine (if_pos (by simp [Region.wanted, yielded, eg])).mpr ?_
        have e0 := slot_some hN (by decide) ((hdep { on := 14, ground := .data } (by simp) rfl) hc)
        have e1 := slot_some hN (by decide) ((hdep { on := 16, ground := .data } (by simp) rfl) hc)
        clear hN
        go_simp
        exact hK _ _ b hg (fun _ => rfl) (fun _ _ _ _ h => h) (fun _ _ _ => trivial)
    · obtain rfl := Option.some.inj ho
      clear ho hk
      refine (if_pos (by rfl)).mpr ?_
      have e0 := slot_some hN (by decide) (hdep { on := 13, ground := .data } (by simp) rfl)
      cases hc : (c2 NP obj b) with
      | true =>
        rw [hc] at e0
        clear hN
        go_simp
        exact hK _ _ b hg (by show Value.bool _ = Value.bool _; simp [c3, hc]) (fun _ _ _ _ h => h) (fun _ _ _ => trivial)
      | false =>
        rw [hc] at e0
        have e1 := slot_some hN (by decide) ((hdep { on := 17, ground := .data } (by simp) rfl) hc)
        clear hN
        go_simp
        exact hK _ _ b hg (by show Value.bool _ = Value.bool _; simp [c3, hc]) (fun _ _ _ _ h => h) (fun _ _ _ => trivial)
    · obtain rfl := Option.some.inj ho
      clear ho hk
      refine (if_pos (by rfl)).mpr ?_
      have e0 := slot_some hN (by decide) (hdep { on := 18, ground := .data } (by simp) rfl)
      clear hN
      go_simp
      exact hK _ _ b hg (rfl) (fun _ _ _ _ h => h) (fun _ _ _ => trivial)
    · obtain rfl := Option.some.inj ho
      clear ho hk
      have eg := slot_some hN (by decide) (hdep { on := 19, ground := .guard } (by simp) rfl)
      cases hc : (c3 NP N obj b) with
      | true =>
        rw [hc] at eg
        refine (if_neg (by simp [Region.wanted, yielded, eg])).mpr ?_
        exact hK undef X b hg (fun h => by rw [hc] at h; cases h) (fun _ _ _ _ h => h) (fun _ _ _ => trivial)
      | false =>
        rw [hc] at eg
        refine (if_pos (by simp [Region.wanted, yielded, eg])).mpr ?_
        clear hN
        go_simp
        exact hK _ _ b hg (fun _ => rfl) (fun _ _ _ _ h => h) (fun _ _ _ => trivial)
    · obtain rfl := Option.some.inj ho
      clear ho hk
      have eg := slot_some hN (by decide) (hdep { on := 19, ground := .guard } (by simp) rfl)
      cases hc : (c3 NP N obj b) with
      | true =>
        rw [hc] at eg
        refine (if_neg (by simp [Region.wanted, yielded, eg])).mpr ?_
        exact hK undef X b hg (fun h => by rw [hc] at h; cases h) (fun _ _ _ _ h => h) (fun _ _ _ => trivial)
      | false =>
        rw [hc] at eg
        refine (if_pos (by simp [Region.wanted, yielded, eg])).mpr ?_
        have e0 := slot_some hN (by decide) ((hdep { on := 20, ground := .data } (by simp) rfl) hc)
        have y1 := (KX.out _ hg).2.2.2.1
        clear hN
        go_simp
        exact hK _ _ b hg (fun _ => rfl) (fun _ _ _ _ h => h) (fun _ _ _ => trivial)
    · obtain rfl := Option.some.inj ho
      clear ho hk
      have eg := slot_some hN (by decide) (hdep { on := 19, ground := .guard } (by simp) rfl)
      cases hc : (c3 NP N obj b) with
      | true =>
        rw [hc] at eg
        refine (if_neg (by simp [Region.wanted, yielded, eg])).mpr ?_
        exact hK undef X b hg (fun h => by rw [hc] at h; cases h) (fun _ _ _ _ h => h) (fun _ _ _ => trivial)
      | false =>
        rw [hc] at eg
        refine (if_pos (by simp [Region.wanted, yielded, eg])).mpr ?_
        have e0 := slot_some hN (by decide) ((hdep { on := 21, ground := .data } (by simp) rfl) hc)
        clear hN
        go_simp
        exact hK _ _ b hg (fun _ => rfl) (fun _ _ _ _ h => h) (fun _ _ _ => trivial)
    · obtain rfl := Option.some.inj ho
      clear ho hk
      refine (if_pos (by rfl)).mpr ?_
      have e0 := slot_some hN (by decide) (hdep { on := 19, ground := .data } (by simp) rfl)
      cases hc : (c3 NP N obj b) with
      | true =>
        rw [hc] at e0
        clear hN
        go_simp
        exact hK _ _ b hg (by show Value.bool _ = Value.bool _; simp [c4, hc]) (fun _ _ _ _ h => h) (fun _ _ _ => trivial)
      | false =>
        rw [hc] at e0
        have e1 := slot_some hN (by decide) ((hdep { on := 22, ground := .data } (by simp) rfl) hc)
        clear hN
        go_simp
        exact hK _ _ b hg (by show Value.bool _ = Value.bool _; simp [c4, hc]) (fun _ _ _ _ h => h) (fun _ _ _ => trivial)
    · obtain rfl := Option.some.inj ho
      clear ho hk
      refine (if_pos (by rfl)).mpr ?_
      have e0 := slot_some hN (by decide) (hdep { on := 23, ground := .data } (by simp) rfl)
      clear hN
      go_simp
      exact hK _ _ b hg (rfl) (fun _ _ _ _ h => h) (fun _ _ _ => trivial)
    · obtain rfl := Option.some.inj ho
      clear ho hk
      have eg := slot_some hN (by decide) (hdep { on := 24, ground := .guard } (by simp) rfl)
      cases hc : (c4 NP N obj q.sym b) with
      | true =>
        rw [hc] at eg
        refine (if_neg (by simp [Region.wanted, yielded, eg])).mpr ?_
        exact hK undef X b hg (fun h => by rw [hc] at h; cases h) (fun _ _ _ _ h => h) (fun _ _ _ => trivial)
      | false =>
        rw [hc] at eg
        refine (if_pos (by simp [Region.wanted, yielded, eg])).mpr ?_
        clear hN
        go_simp
        exact hK _ _ b hg (fun _ => rfl) (fun _ _ _ _ h => h) (fun _ _ _ => trivial)
    · obtain rfl := Option.some.inj ho
      clear ho hk
      have eg := slot_some hN (by decide) (hdep { on := 24, ground := .guard } (by simp) rfl)
      cases hc : (c4 NP N obj q.sym b) with
      | true =>
        rw [hc] at eg
        refine (if_neg (by simp [Region.wanted, yielded, eg])).mpr ?_
        exact hK undef X b hg (fun h => by rw [hc] at h; cases h) (fun _ _ _ _ h => h) (fun _ _ _ => trivial)
      | false =>
        rw [hc] at eg
        refine (if_pos (by simp [Region.wanted, yielded, eg])).mpr ?_
        have e0 := slot_some hN (by decide) ((hdep { on := 25, ground := .data } (by simp) rfl) hc)
        have y1 := (KX.out _ hg).2.2.2.1
        clear hN
        go_simp
        exact hK _ _ b hg (fun _ => rfl) (fun _ _ _ _ h => h) (fun _ _ _ => trivial)
    · obtain rfl := Option.some.inj ho
      clear ho hk
      have eg := slot_some hN (by decide) (hdep { on := 24, ground := .guard } (by simp) rfl)
      cases hc : (c4 NP N obj q.sym b) with
      | true =>
        rw [hc] at eg
        refine (if_neg (by simp [Region.wanted, yielded, eg])).mpr ?_
        exact hK undef X b hg (fun h => by rw [hc] at h; cases h) (fun _ _ _ _ h => h) (fun _ _ _ => trivial)
      | false =>
        rw [hc] at eg
        refine (if_pos (by simp [Region.wanted, yielded, eg])).mpr ?_
        clear hN
        go_simp
        exact hK _ _ b hg (fun _ => rfl) (fun _ _ _ _ h => h) (fun _ _ _ => trivial)
    · obtain rfl := Option.some.inj ho
      clear ho hk
      have eg := slot_some hN (by decide) (hdep { on := 24, ground := .guard } (by simp) rfl)
      cases hc : (c4 NP N obj q.sym b) with
      | true =>
        rw [hc] at eg
        refine (if_neg (by simp [Region.wanted, yielded, eg])).mpr ?_
        exact hK undef X b hg (fun h => by rw [hc] at h; cases h) (fun _ _ _ _ h => h) (fun _ _ _ => trivial)
      | false =>
        rw [hc] at eg
        refine (if_pos (by simp [Region.wanted, yielded, eg])).mpr ?_
        clear hN
        go_simp
        exact hK _ _ b hg (fun _ => rfl) (fun _ _ _ _ h => h) (fun _ _ _ => trivial)
    · obtain rfl := Option.some.inj ho
      clear ho hk
      have eg := slot_some hN (by decide) (hdep { on := 24, ground := .guard } (by simp) rfl)
      cases hc : (c4 NP N obj q.sym b) with
      | true =>
        rw [hc] at eg
        refine (if_neg (by simp [Region.wanted, yielded, eg])).mpr ?_
        exact hK undef X b hg (fun h => by rw [hc] at h; cases h) (fun _ _ _ _ h => h) (fun _ _ _ => trivial)
      | false =>
        rw [hc] at eg
        refine (if_pos (by simp [Region.wanted, yielded, eg])).mpr ?_
        have e0 := slot_some hN (by decide) ((hdep { on := 27, ground := .data } (by simp) rfl) hc)
        have e1 := slot_some hN (by decide) ((hdep { on := 28, ground := .data } (by simp) rfl) hc)
        obtain ⟨hb0, hnp, ho0, hoN, hs0⟩ := c4_facts hc
        obtain ⟨m, rfl⟩ : ∃ m : Nat, obj = (m : Int) := ⟨obj.toNat, by omega⟩
        obtain ⟨ob, hob⟩ : ∃ ob, O[m]? = some ob := ⟨_, List.getElem?_eq_getElem (by rw [HNO.out]; omega)⟩
        obtain ⟨bb, oo, haO, hbb, z0, z1, z2, z3, z4⟩ := row5_at (HI.out _ hg).2.2.row hob
        rw [haO] at e0
        have hmN : m < N := by omega
        clear hN
        go_simp
        exact hK _ _ b hg (fun _ => ⟨bb, oo, haO, rfl⟩) (fun _ _ _ _ h => h) (fun _ _ _ => trivial)
    · obtain rfl := Option.some.inj ho
      clear ho hk
      have eg := slot_some hN (by decide) (hdep { on := 24, ground := .guard } (by simp) rfl)
      cases hc : (c4 NP N obj q.sym b) with
      | true =>
        rw [hc] at eg
        refine (if_neg (by simp [Region.wanted, yielded, eg])).mpr ?_
        exact hK undef X b hg (fun h => by rw [hc] at h; cases h) (fun _ _ _ _ h => h) (fun _ _ _ => trivial)
      | false =>
        rw [hc] at eg
        refine (if_pos (by simp [Region.wanted, yielded, eg])).mpr ?_
        obtain ⟨bb, oo, haO, e0⟩ := (hdep { on := 29, ground := .data } (by simp) rfl) hc
        have e0 := slot_some hN (by decide) e0
        clear hN
        go_simp
        exact hK _ _ b hg (fun _ => ⟨bb, oo, haO, rfl⟩) (fun _ _ _ _ h => h) (fun _ _ _ => trivial)
    · obtain rfl := Option.some.inj ho
      clear ho hk
      have eg := slot_some hN (by decide) (hdep { on := 24, ground := .guard } (by simp) rfl)
      cases hc : (c4 NP N obj q.sym b) with
      | true =>
        rw [hc] at eg
        refine (if_neg (by simp [Region.wanted, yielded, eg])).mpr ?_
        exact hK undef X b hg (fun h => by rw [hc] at h; cases h) (fun _ _ _ _ h => h) (fun _ _ _ => trivial)
      | false =>
        rw [hc] at eg
        refine (if_pos (by simp [Region.wanted, yielded, eg])).mpr ?_
        obtain ⟨bb', oo', haO', e0⟩ := (hdep { on := 30, ground := .data } (by simp) rfl) hc
        have e0 := slot_some hN (by decide) e0
        obtain ⟨hb0, hnp, ho0, hoN, hs0⟩ := c4_facts hc
        obtain ⟨m, rfl⟩ : ∃ m : Nat, obj = (m : Int) := ⟨obj.toNat, by omega⟩
        obtain ⟨ob, hob⟩ : ∃ ob, O[m]? = some ob := ⟨_, List.getElem?_eq_getElem (by rw [HNO.out]; omega)⟩
        obtain ⟨bb, oo, haO, hbb, z0, z1, z2, z3, z4⟩ := row5_at (HI.out _ hg).2.2.row hob
        rw [haO] at haO'
        injection haO' with haO'
        injection haO' with h1 h2
        subst h1 h2
        rw [Int.toNat_natCast] at e0
        have hyl : ob.Y.length = ylO O (m : Int) := by unfold ylO; rw [Int.toNat_natCast, hob]
        rw [hyl] at z3
        clear hN
        go_simp
        exact hK _ _ b hg (fun _ => ⟨_, _, rfl⟩) (fun _ _ _ _ h => h) (fun _ _ _ => trivial)
    · obtain rfl := Option.some.inj ho
      clear ho hk
      have eg := slot_some hN (by decide) (hdep { on := 24, ground := .guard } (by simp) rfl)
      cases hc : (c4 NP N obj q.sym b) with
      | true =>
        rw [hc] at eg
        refine (if_neg (by simp [Region.wanted, yielded, eg])).mpr ?_
        exact hK undef X b hg (fun h => by rw [hc] at h; cases h) (fun _ _ _ _ h => h) (fun _ _ _ => trivial)
      | false =>
        rw [hc] at eg
        refine (if_pos (by simp [Region.wanted, yielded, eg])).mpr ?_
        obtain ⟨aa, cc, e0⟩ := (hdep { on := 31, ground := .data } (by simp) rfl) hc
        have e0 := slot_some hN (by decide) e0
        clear hN
        go_simp
        exact hK _ _ b hg (fun _ => rfl) (fun _ _ _ _ h => h) (fun _ _ _ => trivial)
    · obtain rfl := Option.some.inj ho
      clear ho hk
      have eg := slot_some hN (by decide) (hdep { on := 24, ground := .guard } (by simp) rfl)
      cases hc : (c4 NP N obj q.sym b) with
      | true =>
        rw [hc] at eg
        refine (if_neg (by simp [Region.wanted, yielded, eg])).mpr ?_
        exact hK undef X b hg (fun h => by rw [hc] at h; cases h) (fun _ _ _ _ h => h) (fun _ _ _ => trivial)
      | false =>
        rw [hc] at eg
        refine (if_pos (by simp [Region.wanted, yielded, eg])).mpr ?_
        have e0 := slot_some hN (by decide) ((hdep { on := 26, ground := .data } (by simp) rfl) hc)
        have e1 := slot_some hN (by decide) ((hdep { on := 32, ground := .data } (by simp) rfl) hc)
        clear hN
        go_simp
        exact hK _ _ b hg (fun _ => rfl) (fun _ _ _ _ h => h) (fun _ _ _ => trivial)
    · obtain rfl := Option.some.inj ho
      clear ho hk
      refine (if_pos (by rfl)).mpr ?_
      have e0 := slot_some hN (by decide) (hdep { on := 24, ground := .data } (by simp) rfl)
      cases hc : (c4 NP N obj q.sym b) with
      | true =>
        rw [hc] at e0
        clear hN
        go_simp
        exact hK _ _ b hg (by show Value.bool _ = Value.bool _; simp [c5, hc]) (fun _ _ _ _ h => h) (fun _ _ _ => trivial)
      | false =>
        rw [hc] at e0
        have e1 := slot_some hN (by decide) ((hdep { on := 33, ground := .data } (by simp) rfl) hc)
        clear hN
        go_simp
        exact hK _ _ b hg (by show Value.bool _ = Value.bool _; simp [c5, hc]) (fun _ _ _ _ h => h) (fun _ _ _ => trivial)
    · exact absurd ho (by simp)
  case rest =>
    intro b a X hN hdf hk hg hall
    have hGR := (hall 2 (by decide)).2
    rw [act_eq [27, 28, 29, 30, 31, 32, 33, 34, 35, 36, 37, 38, 39, 40, 41, 42, 43, 44, 45, 46, 47, 48, 49, 50, 51, 52, 53, 54, 55, 56, 57, 58, 59, 60, 61] hN rfl hdf hk (by kernel_rfl)]
    obtain ⟨F, hF⟩ : ∃ F : Tmp → Value, F = fun t => a.tmps.getD t undef := ⟨_, rfl⟩
    have e61 : F 61 = .bool (c5 NP N (ylO O obj) obj q.sym b) := by rw [hF]; exact hall 34 (by decide)
    rw [← hF]
    clear hF hk hall hN hdf
    simp only [laySlots, List.setIfInBounds_toArray, List.set_cons_succ, List.set_cons_zero]
    rw [e61]
    clear e61
    have HG := Lib.hid hg
    have HGRR := Lib.hid hGR
    clear hg hGR HB2 HGR
    refine ‹∀ (a : Act) (w : World), Code.wp Try.prog _ _ a w → _› _ _ ?_
    cases hc : c5 NP N (ylO O obj) obj q.sym b with
    | true =>
      go_wp2_with fail
      go_ret
      exact ⟨rfl, HB0.out.trans (HG.out.mono HB0.out.size)⟩
    | false =>
      obtain ⟨⟨hb0, hnp, ho0, hoN, hs0⟩, hsy⟩ := c5_facts hc
      subst hb0
      have HC5 := Lib.hid (And.intro (And.intro hnp (And.intro ho0 (And.intro hoN hs0))) hsy)
      obtain ⟨hn10, h250, h250y, hnm⟩ := (show _ ∧ _ ∧ _ ∧ _ from HGRR.out rfl)
      have HSM := Lib.hid hn10.2
      have HN10 := Lib.hid hn10.1
      have HNM := Lib.hid hnm
      obtain ⟨x0, x1, y0, y1, y2, y3⟩ := KX.out _ HG.out
      obtain ⟨t, ht, ht64⟩ : ∃ t : Nat, IntKind.u64.wrap at_ = (t : Int) ∧ t < 18446744073709551616 := ⟨(IntKind.u64.wrap at_).toNat, by rw [IntKind.wrap_u64]; omega, by rw [IntKind.wrap_u64]; omega⟩
      have r1 : (t : Int) % (NP : Int) = ((t % NP : Nat) : Int) := (Int.natCast_emod t NP).symm
      have hi1 : t % NP < NP := Nat.mod_lt t (by omega)
      have w1' : IntKind.u64.wrap (NP : Int) = (NP : Int) := by rw [IntKind.wrap_u64]; omega
      have w3' : IntKind.i64.wrap ((t % NP : Nat) : Int) = ((t % NP : Nat) : Int) := by rw [IntWalk.i64_in _ (by omega)]
      have n1 : ((NP : Int) == 0) = false := by simp; omega
      have n1' : decide (NP = 0) = false := decide_eq_false hnp
      generalize t % NP = i at *
      clear hnp ho0 hoN hs0 hsy hc hn10 hnm HGRR
      go_upto_region 6 with fail
      clear x0 x1 y0 y1 y2 y3 r1 w1' w3' n1 n1' ht ht64
      refine region_ex 186 (SQ X.heap.size w.heap.size aP aY NP cP NY cY (cellsF Place.cells P)) (fun Z => Below X.heap.size X Z) (fun b i => (i = 3 → b.1 = false) ∧ (i = 8 → b.2.1 = false)) (false, false, 0) (fun _ => ⟨fun _ => rfl, fun _ => rfl⟩) (by kernel_rfl) rfl (by kernel_rfl) (by kernel_rfl) (Below.refl _ _).drew ?steps6 ?rest6
      case steps6 =>
        intro k o ho b a Z hN hk hg hRb hdep K hK
        have s7 : a.tmps[7]? = some (.pointer (some ⟨w.heap.size, 0, none⟩)) := slot_some hN (by decide) (kept_at hk (by kernel_rfl))
        rcases k with _ | _ | _ | _ | _ | _ | _ | _ | _ | k
        · obtain rfl := Option.some.inj ho
          clear ho hk
          refine (if_pos (by rfl)).mpr ?_
          go_simp
          have hb : Below Z.heap.size Z (Z.alloc (.cells #[] 57)) := (Below.refl _ _).alloc (Nat.le_refl _) _
          exact hK _ _ b (hg.trans (hb.mono hg.size)) ⟨_, rfl, fun _ => ⟨hg.size, Box.new Z _ _⟩⟩ (fun j u _ _ => SQ.below hb) (fun _ _ h => h)
        · obtain rfl := Option.some.inj ho
          clear ho hk
          refine (if_pos (by rfl)).mpr ?_
          clear hN
          go_simp
          exact hK _ _ b hg rfl (fun _ _ _ _ h => h) (fun j _ h => h)
        · obtain rfl := Option.some.inj ho
          clear ho hk
          refine (if_pos (by rfl)).mpr ?_
          have e0 := slot_some hN (by decide) (hdep { on := 1, ground := .data } (by simp) rfl)
          obtain ⟨x0, x1, -⟩ := KX.out _ (HG.out.trans (hg.mono HG.out.size))
          clear hN
          go_simp
          exact hK _ _ b hg rfl (fun _ _ _ _ h => h) (fun j _ h => h)
        · obtain rfl := Option.some.inj ho
          clear ho hk
          refine (if_pos (by rfl)).mpr ?_
          obtain ⟨g, e0, hb0⟩ := hdep { on := 0, ground := .data } (by simp) rfl
          have e1 : a.tmps.getD 72 undef = _ := hdep { on := 2, ground := .data } (by simp) rfl
          obtain ⟨hBg, hBx⟩ := hb0 (hRb.1 rfl)
          have hrow := (HI.out _ (HG.out.trans (hg.mono HG.out.size))).1
          obtain ⟨ip, hp1, hp2, hp3, hp4⟩ := info_parts place_info
          have hnw := row_news place_three hrow
          rw [HNP.out] at hnw
          refine (if_pos (by rfl)).mp (step_rows (ops := #[]) (E := True) rfl (.tmp 70) (.tmp 72) _ rfl X.heap.size 57 ip _ 3 24 Try.underlying35 hp1 hp2 hp3 hp4 (by rfl) (by decide) _ 0 [] e0 (ownr_empty hBx hBg) aP NP cP (cellsF Place.cells P) e1 (by rw [cellsF_length place_three, HNP.out]) hnw.1 hnw.2 (cellsF_all12 Place.one P) (by unfold maxLen; omega) (by omega) hg.size ?_)
          intro v5 w5 hown5 hg5
          rw [Nat.zero_add, List.nil_append] at hown5
          refine hK _ _ (true, b.2) (hg.grown hg5 hg.size (fun x e => by simp [Value.ownBlock] at e; omega)) hown5 ?_ (fun j hj h => ⟨fun e => absurd e hj, h.2⟩)
          intro j u hji hw h
          rcases j with _ | _ | _ | _ | _ | _ | _ | _ | _ | j
          · obtain ⟨g', e', _⟩ := h
            exact ⟨g', e', fun h => by cases h⟩
          · exact h
          · exact h
          · exact absurd rfl hji
          · exact h
          · exact h
          · exact absurd (hw.symm.trans (by kernel_rfl)) Bool.false_ne_true
          · obtain ⟨e', h1, h2⟩ := h
            exact ⟨e', h1, fun h0 => (h2 h0).imp fun c0 h => h.imp fun c1 h => box_far h hg5 hBx (by decide)⟩
          · exact absurd (hw.symm.trans (by kernel_rfl)) Bool.false_ne_true
          · trivial
        · obtain rfl := Option.some.inj ho
          clear ho hk
          refine (if_pos (by rfl)).mpr ?_
          clear hN
          go_simp
          exact hK _ _ b hg rfl (fun _ _ _ _ h => h) (fun j _ h => h)
        · obtain rfl := Option.some.inj ho
          clear ho hk
          refine (if_pos (by rfl)).mpr ?_
          have e0 := slot_some hN (by decide) (hdep { on := 4, ground := .data } (by simp) rfl)
          obtain ⟨x0, x1, -⟩ := KX.out _ (HG.out.trans (hg.mono HG.out.size))
          clear hN
          go_simp
          exact hK _ _ b hg rfl (fun _ _ _ _ h => h) (fun j _ h => h)
        · obtain rfl := Option.some.inj ho
          clear ho hk
          refine (if_pos (by rfl)).mpr ?_
          have hr := hdep { on := 3, ground := .data } (by simp) rfl
          have e1 := slot_some hN (by decide) (hdep { on := 5, ground := .data } (by simp) rfl)
          obtain ⟨u, eu⟩ : ∃ u, a.tmps.getD 73 undef = u := ⟨_, rfl⟩
          have hr : Z.ownsRow X.heap.size 57 3 u NP (cellsF Place.cells P) := by rw [← eu]; exact hr
          obtain ⟨gA, cA, rfl⟩ := owns_slice12 hr
          have e0 := slot_some hN (by decide) eu
          clear hN
          go_simp
          exact hK _ _ b hg ⟨_, rfl, hr⟩ (fun _ _ _ _ h => h) (fun j _ h => h)
        · obtain rfl := Option.some.inj ho
          clear ho hk
          refine (if_pos (by rfl)).mpr ?_
          go_simp
          have hb : Below Z.heap.size Z (Z.alloc (.cells #[.slice none 0 0, .slice none 0 0] 38)) := (Below.refl _ _).alloc (Nat.le_refl _) _
          refine hK _ _ (b.1, b.2.1, Z.heap.size) (hg.trans (hb.mono hg.size)) ⟨rfl, hg.size, fun _ => ⟨_, _, Box.new Z _ _⟩⟩ ?_ (fun _ _ h => h)
          intro j u hji hw h
          have h := SQ.below hb h
          rcases j with _ | _ | _ | _ | _ | _ | _ | _ | _ | j
          · exact h
          · exact h
          · exact h
          · exact h
          · exact h
          · exact h
          · exact h
          · exact absurd rfl hji
          · exact absurd (hw.symm.trans (by kernel_rfl)) Bool.false_ne_true
          · trivial
        · obtain rfl := Option.some.inj ho
          clear ho hk
          refine (if_pos (by rfl)).mpr ?_
          obtain ⟨e0, hBg, hbx⟩ := hdep { on := 7, ground := .data } (by simp) rfl
          obtain ⟨u, e1, hr⟩ := hdep { on := 6, ground := .data } (by simp) rfl
          obtain ⟨c0, c1, hX⟩ := hbx (hRb.2 rfl)
          obtain ⟨gA, cA, rfl⟩ := owns_slice12 hr
          have e0 := slot_some hN (by decide) e0
          have e1 := slot_some hN (by decide) e1
          have v0 := hX.cell 0
          have v1 := hX.cell 1
          have f0 := hX.free 0
          have f1 := hX.free 1
          simp at v0 v1
          clear hN
          go_simp
          have hgr := only_set (only_set (only_refl Z (some b.2.2)) 0 (.slice gA NP cA)) 1 (.slice aY NY cY)
          have hbx : Box ((Z.setCell ⟨b.2.2, 0, none⟩ (.slice gA NP cA)).setCell ⟨b.2.2, 1, none⟩ (.slice aY NY cY)) b.2.2 38 #[.slice gA NP cA, .slice aY NY cY] := by simpa using (hX.set 0 (.slice gA NP cA)).set 1 (.slice aY NY cY)
          refine hK undef _ (b.1, true, b.2.2) (hg.grown hgr hg.size (fun x e => by injection e with e; omega)) ⟨_, hbx, owns_far hr hgr hX (by decide)⟩ ?_ (fun j hj h => ⟨h.1, fun e => absurd e hj⟩)
          intro j u hji hw h
          rcases j with _ | _ | _ | _ | _ | _ | _ | _ | _ | j
          · obtain ⟨g, e, h⟩ := h
            exact ⟨g, e, fun h0 => ⟨(h h0).1, box_far (h h0).2 hgr hX (by decide)⟩⟩
          · exact h
          · exact h
          · exact owns_far h hgr hX (by decide)
          · exact h
          · exact h
          · obtain ⟨u, e, h⟩ := h
            exact ⟨u, e, owns_far h hgr hX (by decide)⟩
          · obtain ⟨e, h1, _⟩ := h
            exact ⟨e, h1, fun h => by cases h⟩
          · exact absurd rfl hji
          · trivial
        · exact absurd ho (by simp)
      case rest6 =>
        intro b a Z hN hdf hk hg hall
        obtain ⟨e14, hBg, -⟩ := hall 7 (by decide)
        obtain ⟨u, hbx, hown⟩ := hall 8 (by decide)
        rw [act_eq [70, 71, 72, 73, 74, 75, 76, 14] hN rfl hdf hk (by kernel_rfl)]
        obtain ⟨F2, hF⟩ : ∃ F : Tmp → Value, F = fun t => a.tmps.getD t undef := ⟨_, rfl⟩
        have e14 : F2 14 = .pointer (some ⟨b.2.2, 0, none⟩) := by rw [hF]; exact e14
        rw [← hF]
        clear hF hk hall hN hdf
        simp only [laySlots, List.setIfInBounds_toArray, List.set_cons_succ, List.set_cons_zero]
        rw [e14]
        clear e14
        generalize b.2.2 = gm at *
        refine ‹∀ (a : Act) (w : World), Code.wp Try.prog _ _ a w → _› _ _ ?_
        obtain ⟨A, c, rfl, hAc, hcm, hrow⟩ := own_row place_three (by rw [HNP.out]; exact hown : Z.ownsRow X.heap.size 57 3 u P.length (cellsF Place.cells P))
        rw [HNP.out] at hbx hAc hown
        have HZ := Lib.hid (HG.out.trans (hg.mono HG.out.size))
        obtain ⟨gr, rfl⟩ := owns_at0 hown (Nat.lt_of_le_of_lt (Nat.zero_le _) hi1)
        obtain ⟨hBr, csr, hXr⟩ := owns_box hown
        obtain ⟨p, hp⟩ : ∃ p, P[i]? = some p := ⟨_, List.getElem?_eq_getElem (by rw [HNP.out]; exact hi1)⟩
        obtain ⟨bb, oo, hbo, hbb, d0, d1, d2⟩ := place_at hrow hp
        injection hbo with hbo
        injection hbo with h1 h2
        subst h1 h2
        rw [Nat.zero_add] at d0 d1 d2
        have hf2 := (row_free hown (i * 3 + 2) (by omega)).2
        have hst := World.ownsRow.stored hown (i * 3 + 2) (.int .u64 ((add64 p.addr by_ : Nat) : Int))
        rw [cells_moved by_ P i p hp] at hst
        have e6 := add64_eq p.addr by_
        have m0 := hbx.cell 0
        have m1 := hbx.cell 1
        simp only [List.getElem?_toArray, List.getElem?_cons_zero, List.getElem?_cons_succ] at m0 m1
        have HBX := Lib.hid (box_far hbx hst.2 hXr (by decide))
        have HST := Lib.hid hst
        have HZ1 := Lib.hid (HZ.out.grown hst.2 HZ.out.size (fun x e => by simp at e; have := HG.out.size; omega))
        have HP := Lib.hid hp
        clear hst hbx hXr hown hrow hp hBr hBg hg
        go_upto_region 8 with fail
        clear m0 m1 d0 d1 d2 hf2 e6
        generalize Z.setCell ⟨gr, i * 3 + 2, none⟩ (.int .u64 ((add64 p.addr by_ : Nat) : Int)) = Z1 at *
        obtain ⟨A7, c7, e7, hc7, hm7, hrow7⟩ := own_row place_three (show Z1.ownsRow X.heap.size 57 3 (.slice (some ⟨gr, 0, none⟩) NP c) (movedP P i p by_).length (cellsF Place.cells (movedP P i p by_)) by
          rw [show (movedP P i p by_).length = NP by unfold movedP; rw [List.length_set, HNP.out]]; exact HST.out.1)
        rw [show (movedP P i p by_).length = NP by unfold movedP; rw [List.length_set, HNP.out]] at e7 hc7
        injection e7 with e7 e8 e9
        subst e7 e9
        have HML := Lib.hid (show (movedP P i p by_).length = NP by unfold movedP; rw [List.length_set, HNP.out])
        have hB := HBX.out
        have HR7 := Lib.hid (fun W (hW : Below Z1.heap.size Z1 W) => (⟨Row.more (Row.below hrow7 hW) hW.size, by rw [(hB.below hW hB.lt).cell]; rfl, by rw [(hB.below hW hB.lt).cell]; rfl⟩ : Row 3 Place.cells W W.heap.size (some ⟨gr, 0, none⟩) (movedP P i p by_) ∧ W.cell? ⟨gm, 0, none⟩ = some (.slice (some ⟨gr, 0, none⟩) NP c) ∧ W.cell? ⟨gm, 1, none⟩ = some (.slice aY NY cY)))
        clear hrow7 hB HST HBX HZ h250 h250y hcm hAc hc7 hm7 e8
        have HOB := Lib.hid (fun W (hW : Below Z1.heap.size Z1 W) => ((HI.out W (HZ1.out.trans (hW.mono HZ1.out.size))).2.2.objs HSM.out : Objs W W.heap.size aO O))
        have hn10 : N ≤ 10 := HN10.out
        have HOS := Lib.hid (objects_any (HOB.out _ (Below.refl _ _)) cO (by rw [HNO.out]; omega))
        rw [HNO.out] at HOS
        go_upto_region 9 with (go_at_call 11; refine HOS.out.mono ?_; rintro r w4 ⟨A4, c4, rfl, -, hO4, hb4⟩; have HB4 := Lib.hid hb4; have HO4 := Lib.hid hO4; clear hb4 hO4)
        clear HOS
        have hA4 := HZ1.out.trans (HB4.out.mono HZ1.out.size)
        have HNW := Lib.hid (newis_any (cP := cP) (cY := cY) (cO := c4) (HI.out _ hA4).1 (HI.out _ hA4).2.1 HN.out.1 HN.out.2 HNM.out HO4.out HSM.out)
        rw [HNP.out, HNY.out, HNO.out] at HNW
        obtain ⟨x0, x1, -⟩ := KX.out _ hA4
        clear hA4
        go_upto_region 10 with (go_at_call 12; refine HNW.out.mono ?_; rintro r w5 ⟨v5, e5, rfl, hb5, hN5⟩; have HB5 := Lib.hid (HB4.out.trans (hb5.mono HB4.out.size)); have HN5 := Lib.hid hN5; have HO5 := Lib.hid ((HO4.out.below hb5).more hb5.size); clear hb5 hN5)
        clear HNW x0 x1
        have hA5 := HZ1.out.trans (HB5.out.mono HZ1.out.size)
        have HNW := Lib.hid (newis_any (cP := c) (cY := cY) (cO := c4) (HR7.out _ HB5.out).1 (HI.out _ hA5).2.1 (moved_nums HP.out HN.out.1) HN.out.2 HNM.out HO5.out HSM.out)
        rw [HML.out, HNY.out, HNO.out] at HNW
        obtain ⟨-, x0, x1⟩ := HR7.out _ HB5.out
        clear hA5
        go_upto_region 11 with (go_at_call 12; refine HNW.out.mono ?_; rintro r w6 ⟨v6, e6, rfl, hb6, hN6⟩; have HB6 := Lib.hid (HB5.out.trans (hb6.mono HB5.out.size)); have HN6 := Lib.hid hN6; have HO6 := Lib.hid ((HO5.out.below hb6).more hb6.size); have HB56 := Lib.hid hb6; clear hb6 hN6)
        clear HNW x0 x1
        have HE6 := Lib.hid (HB0.out.trans ((HZ1.out.trans (HB6.out.mono HZ1.out.size)).mono HB0.out.size))
        rcases HN5.out with ⟨rfl, rfl | rfl⟩ | ⟨rfl, g5, rfl, hL5, hR5⟩
        · go_wp2_with fail
          go_ret
          exact ⟨rfl, HE6.out⟩
        · go_wp2_with fail
          go_ret
          exact ⟨rfl, HE6.out⟩
        · rcases HN6.out with ⟨rfl, rfl | rfl⟩ | ⟨rfl, g6, rfl, hL6, hR6⟩
          · go_wp2_with fail
            go_ret
            exact ⟨rfl, HE6.out⟩
          · go_wp2_with fail
            go_ret
            exact ⟨rfl, HE6.out⟩
          · go_upto_region 13 with fail
            obtain ⟨⟨hnp, ho0, hoN, hs0⟩, hsy⟩ := HC5.out
            obtain ⟨m, rfl⟩ : ∃ m : Nat, obj = (m : Int) := ⟨obj.toNat, by omega⟩
            obtain ⟨k, hk⟩ : ∃ k : Nat, q.sym = (k : Int) := ⟨q.sym.toNat, by omega⟩
            obtain ⟨ob, hob⟩ : ∃ ob, O[m]? = some ob := ⟨_, List.getElem?_eq_getElem (by rw [HNO.out]; omega)⟩
            have hmem := List.mem_of_getElem? hob
            have hyl : ylO O (m : Int) = ob.Y.length := by unfold ylO; rw [Int.toNat_natCast, hob]
            rw [hyl, hk] at hsy
            obtain ⟨sy, hsyk⟩ : ∃ s, ob.Y[k]? = some s := ⟨_, List.getElem?_eq_getElem (by omega)⟩
            obtain ⟨b4, o4, hA4, hb4, z0, z1, z2, z3, z4⟩ := HO6.out.at_ hob
            have HMV := Lib.hid (moved_val (by_ := by_) (Y := Y) (refM_good hR5) HP.out hob q)
            have hin := ((HI.out _ (HZ1.out.trans (HB6.out.mono HZ1.out.size))).2.2.ok ob hmem)
            have hsok : ob.SymOk := fun y hy => ⟨(hin.numY y hy).sect, by
              have := (HSM.out ob hmem).Y
              have := name_sum hy
              unfold maxLen
              omega⟩
            have HOK := Lib.hid (HO6.out.ok ob hmem)
            have HV5 := Lib.hid (fun W (hW : Below w6.heap.size w6 W) => value_any ob ((HOK.out.below hW).more hW.size) hsok ((hL5.places.below HB56.out).below hW) ((hL5.syms.below HB56.out).below hW) HOBJ.out q)
            have HV6 := Lib.hid (fun W (hW : Below w6.heap.size w6 W) => value_any ob ((HOK.out.below hW).more hW.size) hsok (hL6.places.below hW) (hL6.syms.below hW) HOBJ.out q)
            rw [show ObjV.val ob = .agg #[.int .i64 ob.kind, .int .i64 ob.machine, .slice ob.aS ob.L.length ob.cS, .slice ob.aY ob.Y.length ob.cY, .slice ob.aR ob.Q.length ob.cR] from rfl] at HV5 HV6
            unfold Rel.val at HV5 HV6
            have KV := Lib.hid (fun W (hW : Below w6.heap.size w6 W) => (⟨⟨by rw [hW.cell (p := ⟨b4, _, none⟩) hb4]; exact z0, by rw [hW.cell (p := ⟨b4, _, none⟩) hb4]; exact z1, by rw [hW.cell (p := ⟨b4, _, none⟩) hb4]; exact z2, by rw [hW.cell (p := ⟨b4, _, none⟩) hb4]; exact z3, by rw [hW.cell (p := ⟨b4, _, none⟩) hb4]; exact z4⟩, (KX.out W (HZ1.out.trans ((HB6.out.trans (hW.mono HB6.out.size)).mono HZ1.out.size))).2.2⟩ :
              (W.cell? ⟨b4, o4 + m * 5, none⟩ = some (.int .i64 ob.kind) ∧ W.cell? ⟨b4, o4 + m * 5 + 1, none⟩ = some (.int .i64 ob.machine) ∧ W.cell? ⟨b4, o4 + m * 5 + 2, none⟩ = some (.slice ob.aS ob.L.length ob.cS) ∧ W.cell? ⟨b4, o4 + m * 5 + 3, none⟩ = some (.slice ob.aY ob.Y.length ob.cY) ∧ W.cell? ⟨b4, o4 + m * 5 + 4, none⟩ = some (.slice ob.aR ob.Q.length ob.cR)) ∧
              (W.cell? ⟨w1.heap.size, 0, none⟩ = some (.int .u64 (q.off : Int)) ∧ W.cell? ⟨w1.heap.size, 1, none⟩ = some (.int .i64 q.sym) ∧ W.cell? ⟨w1.heap.size, 2, none⟩ = some (.int .i64 q.kind) ∧ W.cell? ⟨w1.heap.size, 3, none⟩ = some (.int .i64 q.add))))
            have hmN : m < N := by omega
            have HSL := Lib.hid (show ob.L.length ≤ 6000 from (HSM.out ob hmem).S)
            have HSK := Lib.hid hsyk
            have HOBM := Lib.hid hob
            have HKQ := Lib.hid hk
            have HIN := Lib.hid hin
            rw [hA4]
            clear z0 z1 z2 z3 z4 hb4 hin hsok hL5 hL6 hR5 hR6 HN5 HN6 hmem hyl hob hsyk hsy hnp ho0 hoN hs0 hk HC5
            have hA6 := Below.refl w6.heap.size w6
            have hA6d := hA6.drew
            go_region_held_law (fun W => (W.cell? ⟨b4, o4 + m * 5, none⟩ = some (.int .i64 ob.kind) ∧ W.cell? ⟨b4, o4 + m * 5 + 1, none⟩ = some (.int .i64 ob.machine) ∧ W.cell? ⟨b4, o4 + m * 5 + 2, none⟩ = some (.slice ob.aS ob.L.length ob.cS) ∧ W.cell? ⟨b4, o4 + m * 5 + 3, none⟩ = some (.slice ob.aY ob.Y.length ob.cY) ∧ W.cell? ⟨b4, o4 + m * 5 + 4, none⟩ = some (.slice ob.aR ob.Q.length ob.cR)) ∧ (W.cell? ⟨w1.heap.size, 0, none⟩ = some (.int .u64 (q.off : Int)) ∧ W.cell? ⟨w1.heap.size, 1, none⟩ = some (.int .i64 q.sym) ∧ W.cell? ⟨w1.heap.size, 2, none⟩ = some (.int .i64 q.kind) ∧ W.cell? ⟨w1.heap.size, 3, none⟩ = some (.int .i64 q.add)))
              ((refine KV.out _ ?_; first | assumption | exact hA6d))
              ((go_at_call 15; refine (HV5.out _ hA6d).mono ?_; rintro r w7 ⟨rfl, hb7⟩; have hA7 := hA6d.trans (hb7.mono hA6d.size); clear hb7))
            have hA7d := hA7.drew
            go_upto_region 14 with fail
            go_region_held_law (fun W => (W.cell? ⟨b4, o4 + m * 5, none⟩ = some (.int .i64 ob.kind) ∧ W.cell? ⟨b4, o4 + m * 5 + 1, none⟩ = some (.int .i64 ob.machine) ∧ W.cell? ⟨b4, o4 + m * 5 + 2, none⟩ = some (.slice ob.aS ob.L.length ob.cS) ∧ W.cell? ⟨b4, o4 + m * 5 + 3, none⟩ = some (.slice ob.aY ob.Y.length ob.cY) ∧ W.cell? ⟨b4, o4 + m * 5 + 4, none⟩ = some (.slice ob.aR ob.Q.length ob.cR)) ∧ (W.cell? ⟨w1.heap.size, 0, none⟩ = some (.int .u64 (q.off : Int)) ∧ W.cell? ⟨w1.heap.size, 1, none⟩ = some (.int .i64 q.sym) ∧ W.cell? ⟨w1.heap.size, 2, none⟩ = some (.int .i64 q.kind) ∧ W.cell? ⟨w1.heap.size, 3, none⟩ = some (.int .i64 q.add)))
              ((refine KV.out _ ?_; first | assumption | exact hA7d))
              ((go_at_call 15; refine (HV6.out _ hA7d).mono ?_; rintro r w8 ⟨rfl, hb8⟩; have hA8 := hA7d.trans (hb8.mono hA7d.size); clear hb8))
            have HA8 := Lib.hid hA8
            have HE8 := Lib.hid (HB0.out.trans ((HZ1.out.trans ((HB6.out.trans (hA8.mono HB6.out.size)).mono HZ1.out.size)).mono HB0.out.size))
            obtain ⟨mv1, mv2⟩ := HMV.out
            have he1 := valR_err (o := ob) (obj := (m : Int)) (P := P) (Y := Y) (r := q)
            have he2 := valR_err (o := ob) (obj := (m : Int)) (P := movedP P i p by_) (Y := Y) (r := q)
            rw [HKQ.out, Int.toNat_natCast] at mv2
            have mv3 := mv2 sy HSK.out (by omega)
            rw [mv1] at he2 ⊢
            clear mv1 mv2 hA6 hA6d hA7 hA7d hA8 HMV HV5 HV6
            generalize valR ob (m : Int) P Y q = vx at *
            generalize (valR ob (m : Int) (movedP P i p by_) Y q).1 = vy at *
            obtain ⟨vx, ve⟩ := vx
            simp only at mv3 he1 he2 ⊢
            have e0 : (ve != ve) = false := by simp
            have hW8 := HZ1.out.trans ((HB6.out.trans (HA8.out.mono HB6.out.size)).mono HZ1.out.size)
            obtain ⟨b7, o7, haO, hb7', u0, u1, u2, u3, u4⟩ := row5_at (HI.out w8 hW8).2.2.row HOBM.out
            obtain ⟨b8, o8, haY, hb8', j0, j1, j2, j3, j4, j5⟩ := sym_at ((HI.out w8 hW8).2.2.ok ob (List.mem_of_getElem? HOBM.out)).syms HSK.out
            obtain ⟨b9, o9, haP, hb9', p0, p1, p2⟩ := place_at (HI.out w8 hW8).1 HP.out
            have x0 := (KX.out _ hW8).1
            have y1 := (KX.out _ hW8).2.2.2.1
            rw [haY] at u3
            rw [haP] at x0
            rw [HKQ.out] at y1
            have hlw : w.heap.size < w8.heap.size := by have := hW8.size; have := HS0.out; omega
            have hlw1 : w1.heap.size < w8.heap.size := World.block_lt_of_cell? w8 ⟨w1.heap.size, 1, none⟩ y1
            have KW := Lib.hid (fun W (hW : Below w8.heap.size w8 W) => (⟨⟨by rw [hW.cell (p := ⟨b7, _, none⟩) hb7']; exact u3, by rw [hW.cell (p := ⟨w1.heap.size, 1, none⟩) hlw1]; exact y1, by rw [hW.cell (p := ⟨b8, _, none⟩) hb8']; exact j3⟩, by rw [hW.cell (p := ⟨w.heap.size, 0, none⟩) hlw]; exact x0, by rw [hW.cell (p := ⟨b9, _, none⟩) hb9']; exact p0, by rw [hW.cell (p := ⟨b9, _, none⟩) hb9']; exact p1, by rw [hW.cell (p := ⟨b7, _, none⟩) hb7']; exact u2⟩ :
              (W.cell? ⟨b7, o7 + m * 5 + 3, none⟩ = some (.slice (some ⟨b8, o8, none⟩) ob.Y.length ob.cY) ∧ W.cell? ⟨w1.heap.size, 1, none⟩ = some (.int .i64 (k : Int)) ∧ W.cell? ⟨b8, o8 + k * 6 + 3, none⟩ = some (.int .i64 sy.sect)) ∧ (W.cell? ⟨w.heap.size, 0, none⟩ = some (.slice (some ⟨b9, o9, none⟩) NP cP) ∧ W.cell? ⟨b9, o9 + i * 3, none⟩ = some (.int .i64 p.obj) ∧ W.cell? ⟨b9, o9 + i * 3 + 1, none⟩ = some (.int .i64 p.sect) ∧ W.cell? ⟨b7, o7 + m * 5 + 2, none⟩ = some (.slice ob.aS ob.L.length ob.cS))))
            rw [haO, haP]
            have hkY : k < ob.Y.length := (List.getElem?_eq_some_iff.1 HSK.out).1
            clear u0 u1 u2 u3 u4 j0 j1 j2 j3 j4 j5 p0 p1 p2 x0 y1 hb7' hb8' hb9' hW8 haO haY haP hlw hlw1
            go_upto_region 17 with fail
            have hA9 := (Below.refl w8.heap.size w8).drew
            go_region_held_law (fun W => (W.cell? ⟨b7, o7 + m * 5 + 3, none⟩ = some (.slice (some ⟨b8, o8, none⟩) ob.Y.length ob.cY) ∧ W.cell? ⟨w1.heap.size, 1, none⟩ = some (.int .i64 (k : Int)) ∧ W.cell? ⟨b8, o8 + k * 6 + 3, none⟩ = some (.int .i64 sy.sect)))
              ((refine (KW.out _ ?_).1; first | assumption | exact hA9))
              (fail)
            have HE9 := HE8.out.drew
            clear HE8
            have HE8 := Lib.hid HE9
            obtain ⟨⟨-, -, -⟩, x0, p0, p1, u2⟩ := KW.out _ hA9
            clear HE9 hA9 KW
            have hsl := HSL.out
            by_cases hve : ve = 0
            · subst hve
              have mv4 := mv3 rfl
              clear mv3 he1 he2
              have e1 : decide (sy.sect ≤ 0) = decide (sy.sect ≤ 0) := rfl
              clear e1
              by_cases g1 : sy.sect ≤ 0
              · have d1 : decide (sy.sect ≤ 0) = true := decide_eq_true g1
                have ev : ((vx : Int) == (vy : Int)) = true := by rw [mv4, if_neg (fun c => by omega)]; simp
                clear mv4 g1
                go_wp2_with fail
                go_ret
                exact ⟨rfl, HE8.out⟩
              · have d1 : decide (sy.sect ≤ 0) = false := decide_eq_false g1
                by_cases g2 : (ob.L.length : Int) ≤ sy.sect
                · have d2 : decide ((ob.L.length : Int) ≤ sy.sect) = true := decide_eq_true g2
                  have ev : ((vx : Int) == (vy : Int)) = true := by rw [mv4, if_neg (fun c => by omega)]; simp
                  clear mv4 g1 g2
                  go_wp2_with fail
                  go_ret
                  exact ⟨rfl, HE8.out⟩
                · have d2 : decide ((ob.L.length : Int) ≤ sy.sect) = false := decide_eq_false g2
                  by_cases g3 : p.obj = (m : Int)
                  · have d3 : (p.obj != (m : Int)) = false := by simp [g3]
                    by_cases g4 : p.sect = sy.sect
                    · have d4 : (p.sect != sy.sect) = false := by simp [g4]
                      have ea := add64_eq vx by_
                      have ev : ((vy : Int) == ((add64 vx by_ : Nat) : Int)) = true := by rw [mv4, if_pos ⟨by omega, by omega, by omega, g3, g4⟩]; simp
                      clear mv4 g1 g2 g3 g4
                      go_wp2_with fail
                      go_ret
                      exact ⟨rfl, HE8.out⟩
                    · have d4 : (p.sect != sy.sect) = true := by simp [g4]
                      have ev : ((vx : Int) == (vy : Int)) = true := by rw [mv4, if_neg (fun c => g4 c.2.2.2.2)]; simp
                      clear mv4 g1 g2 g3 g4
                      go_wp2_with fail
                      go_ret
                      exact ⟨rfl, HE8.out⟩
                  · have d3 : (p.obj != (m : Int)) = true := by simp [g3]
                    have ev : ((vx : Int) == (vy : Int)) = true := by rw [mv4, if_neg (fun c => g3 c.2.2.2.1)]; simp
                    clear mv4 g1 g2 g3
                    go_wp2_with fail
                    go_ret
                    exact ⟨rfl, HE8.out⟩
            · have d0 : (ve != 0) = true := by simp [hve]
              have ev : ((vx : Int) == (vy : Int)) = true := by rw [he1 hve, he2 hve]; rfl
              clear mv3 he1 he2 hve
              go_wp2_with fail
              go_ret
              exact ⟨rfl, HE8.out⟩

end Go.Proofs.Ytidegcibmdincaa
