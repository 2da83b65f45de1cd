/-
  The document's Take of entries.
-/
import Derived.Test.YtejicboemkpeoaaGreatDoorRwG
import Derived.Test.YtejicboemkpeoaaGreatDoorRoundRegion
import Derived.Test.YtejicboemkpeoaaGreatDoorUntil
namespace Go.Proofs.YtejicboemkpeoaaGreatDoor
open Go Go.RowKit

theorem ratt_info : (Tryz.prog.info? 143).map (fun i => (i.zero, i.size, i.bytes)) = some (some (.agg #[.int .i64 0, .int .i64 0, .int .u64 0, .int .i64 0, .slice none 0 0, .string ⟨#[]⟩]), 6, 72) := by kernel_rfl
theorem rent_info : (Tryz.prog.info? 69).map (fun i => (i.zero, i.size, i.bytes)) = some (some (.agg #[.int .u64 0, .int .u64 0, .int .i64 0, .int .i64 0, .int .i64 0, .slice none 0 0]), 6, 64) := by kernel_rfl
theorem Row.back {α : Type} {n : Nat} {f : α → List Value} {w w' : World} {B : Nat} {a : Option Addr} {L : List α} (h : Row n f w' B a L) (hb : Below B w w') : Row n f w B a L := fun hl => by
  obtain ⟨b, o, e, hlt, hc⟩ := h hl
  exact ⟨b, o, e, hlt, fun i x hx j v hv => by rw [← hb.cell (p := ⟨b, o + i * n + j, none⟩) hlt]; exact hc i x hx j v hv⟩
theorem But.with_ {P Q : Nat → Prop} {a b c : World} (h : But P a b) (k : But Q b c) (hq : ∀ x, Q x → P x ∨ a.heap.size ≤ x) : But P a c :=
  ⟨h.1.trans k.1, fun i hi hp => (k.2 i (Nat.lt_of_lt_of_le hi h.1.size) (fun hx => (hq i hx).elim hp (fun h2 => absurd hi (Nat.not_lt_of_le h2)))).trans (h.2 i hi hp)⟩
theorem But.rr {P : Nat → Prop} {B : Nat} {w w' : World} {g : Nat} {v : Value} {l : List UInt8} {a : Nat} {e : Int} (hb : But P w w') (h : RR B w g v l a e) (hg : ¬ P g) (hB : ∀ k, P k → B ≤ k) : RR B w' g v l a e := by
  refine ⟨hb.box h.1 hg, h.2.1.imp fun A => Exists.imp fun c k => ⟨k.1, k.2.1, k.2.2.1, fun hl => ?_⟩, h.2.2.1, h.2.2.2⟩
  obtain ⟨b, o, e, hb', hc⟩ := k.2.2.2 hl
  refine ⟨b, o, e, hb', fun j u hu => ?_⟩
  have h3 := hc j u hu
  have hlt := World.block_lt_of_cell? w _ h3
  exact (World.cell?_of_block (hb.2 b hlt (fun hp => by have := hB b hp; omega))).trans h3
/-- What the document's tree tells: which entries are read, where the cursor stands; how the tree goes on behind them. -/
structure Out17 (l : List UInt8) (wide : Bool) (T : List ALay) (pa : Int) (d : Nat) (s : CSt) (L L' : List Ent) (s' : CSt) : Prop where
  go : tU l s ≠ 0 → ∀ P : List Int, P.length = d → (s'.2 = 0 → treeW l wide T s L (pa :: P) = contW l wide T s' L' (pa :: P)) ∧ (s'.2 ≠ 0 → (treeW l wide T s L (pa :: P)).2.2 = s'.2)
  nul : tU l s = 0 → s'.2 = (sF (sU l s) 43).2
  far : s.1 ≤ s'.1
  more : s'.2 = 0 → s.1 < s'.1 ∧ L' ≠ []
/-- Of the cursor's block, and the row's. -/
def TurnP (g : Nat) (u : Value) (k : Nat) : Prop := k = g ∨ u.ownBlock = some k
def TreeEnd (B base : Nat) (w : World) (g : Nat) (v : Value) (l : List UInt8) (wide : Bool) (T : List ALay) (pa : Int) (d : Nat) (s : CSt) (u : Value) (L : List DLay) (x : Ending) (w' : World) : Prop :=
  ∃ u' L' s', x = .returned u' ∧ OwnD 143 69 w' base u' L' ∧ RR B w' g v l s'.1 s'.2 ∧ But (TurnP g u) w w' ∧ (∀ k, u'.ownBlock = some k → u.ownBlock = some k ∨ w.heap.size ≤ k) ∧ L'.length ≤ 1000 ∧ Out17 l wide T pa d s (L.map DLay.ent) (L'.map DLay.ent) s'
theorem Out17.quit {l : List UInt8} {wide : Bool} {T : List ALay} {pa : Int} {d : Nat} {s s' s'' : CSt} {L L' : List Ent} (h : ∀ P : List Int, P.length = d → entF l wide T L.length (P.length) s = (none, s'')) (h0 : tU l s ≠ 0) (he : s''.2 ≠ 0) (hs : s'.2 = s''.2) (hf : s.1 ≤ s'.1) : Out17 l wide T pa d s L L' s' :=
  ⟨fun _ P hP => ⟨fun h1 => absurd (hs.symm.trans h1) he, fun _ => by
      rw [treeW_none (P := pa :: P) (h P hP), contW_ref he]
      exact hs.symm⟩, fun h1 => absurd h1 h0, hf, fun h1 => absurd (hs.symm.trans h1) he⟩
/-- What rfindA_any tells, cell by cell. -/
theorem rdfind_any {w : World} {B : Nat} {ta : Option Addr} {T : List ALay} (h : Abbs w B ta T) (hB : B ≤ w.heap.size) (tc : Nat) (hTl : T.length ≤ 100000) (hTin : ∀ y ∈ T, y.x.l.length ≤ 100000) (cd : Nat) :
    Calls Tryz.prog 67 #[.slice ta T.length tc, .int .u64 (cd : Int)] w fun r w' => ∃ kc tg kd sa sc b, r = .returned (.tuple #[.agg #[.int .u64 kc, .int .i64 tg, .bool kd, .slice sa (psO (abbK T cd)).length sc], .bool b]) ∧ FoundD w B (abbK T cd) tg kd sa b ∧ Below w.heap.size w w' := by
  refine (rfindA_any (h.more hB) tc hTl (fun y hy => Nat.le_trans (hTin y hy) (by decide)) cd).mono ?_
  rintro r w' ⟨z, b, rfl, hf, hb⟩
  rcases found_abb hf with ⟨h1, rfl, rfl⟩ | ⟨y, h1, h2, rfl, rfl⟩
  · rw [h1]
    exact ⟨_, _, _, _, _, _, rfl, ⟨rfl, rfl, fun h => absurd h (by decide), rfl⟩, hb⟩
  · rw [h1]
    exact ⟨_, _, _, _, _, _, rfl, ⟨rfl, rfl, h.spcs y h2, rfl⟩, hb⟩
/-- The loop over pairs: the cursor, the entry that is made, its values, the abbreviation. -/
structure AtSt (B : Nat) (w wx : World) (g : Nat) (v : Value) (l : List UInt8) (s : CSt) (He Ha : Nat) (c0 c1 c2 c3 c4 u : Value) (X : List AtL) (d0 d1 d2 d3 : Value) : Prop where
  rr : RR B wx g v l s.1 s.2
  gr : w.grownBy wx (some g)
  e : Box wx He 69 #[c0, c1, c2, c3, c4, u]
  a : Box wx Ha 123 #[d0, d1, d2, d3]
  o : OwnT 143 wx w.heap.size u X
section
variable {B : Nat} {w wx wy : World} {g : Nat} {v : Value} {l : List UInt8} {s s' : CSt} {He Ha : Nat} {c0 c1 c2 c3 c4 u u' : Value} {X X' : List AtL} {d0 d1 d2 d3 : Value}
theorem AtSt.call (h : AtSt B w wx g v l s He Ha c0 c1 c2 c3 c4 u X d0 d1 d2 d3) (hC : RR B wy g v l s'.1 s'.2) (hG : wx.grownBy wy (some g)) : AtSt B w wy g v l s' He Ha c0 c1 c2 c3 c4 u X d0 d1 d2 d3 :=
  ⟨hC, h.gr.trans hG, h.e.grown hG (fun e => by injection e with e; exact (h.e.other h.rr.1 (by decide)) e), h.a.grown hG (fun e => by injection e with e; exact (h.a.other h.rr.1 (by decide)) e), un_farT h.o hG h.rr.1 (by decide) (by decide)⟩
theorem AtSt.below (h : AtSt B w wx g v l s He Ha c0 c1 c2 c3 c4 u X d0 d1 d2 d3) (hb : Below wx.heap.size wx wy) : AtSt B w wy g v l s He Ha c0 c1 c2 c3 c4 u X d0 d1 d2 d3 :=
  ⟨h.rr.below hb, only_then_below h.gr hb, h.e.below hb h.e.lt, h.a.below hb h.a.lt, h.o.below hb⟩
/-- A value appended. -/
theorem AtSt.more (h : AtSt B w wx g v l s He Ha c0 c1 c2 c3 c4 u X d0 d1 d2 d3) (hBw : B ≤ w.heap.size) (hG : wx.grownBy wy u.ownBlock) (ho : OwnT 143 wy w.heap.size u' X') : RR B wy g v l s.1 s.2 ∧ w.grownBy wy (some g) ∧ Box wy He 69 #[c0, c1, c2, c3, c4, u] ∧ Box wy Ha 123 #[d0, d1, d2, d3] ∧ OwnT 143 wy w.heap.size u' X' := by
  have hu : ∀ x, u.ownBlock = some x → w.heap.size ≤ x := fun x hx => (h.o.row.lt x hx).1
  exact ⟨h.rr.grown hG (fun e => by
      obtain ⟨cs, f, e2⟩ := row_heap h.o.row e.symm
      have h1 := h.rr.1
      unfold Box at h1
      rw [h1] at e2
      injection e2 with e2
      injection e2 with _ e2
      exact absurd e2 (by decide)) (fun x hx => Nat.le_trans hBw (hu x hx)), only_trans h.gr hG (.inr hu), un_box h.e h.o.row (by decide) hG, un_box h.a h.o.row (by decide) hG, ho⟩
/-- And stored. -/
theorem AtSt.stored (hr : RR B wx g v l s.1 s.2) (hBw : B ≤ w.heap.size) (hg : w.grownBy wx (some g)) (he : Box wx He 69 #[c0, c1, c2, c3, c4, u]) (ha : Box wx Ha 123 #[d0, d1, d2, d3]) (ho : OwnT 143 wx w.heap.size u' X') (hH : w.heap.size ≤ He) :
    AtSt B w (wx.setCell ⟨He, 5, none⟩ u') g v l s He Ha c0 c1 c2 c3 c4 u' X' d0 d1 d2 d3 := by
  have G : wx.grownBy (wx.setCell ⟨He, 5, none⟩ u') (some He) := only_set (only_refl wx (some He)) 5 u'
  exact ⟨hr.grown G (fun e => by injection e with e; exact (hr.1.other he (by decide)) e) (fun x hx => by injection hx with hx; omega), only_trans hg G (.inr fun x hx => by injection hx with hx; omega), by simpa using he.set 5 u', ha.grown G (fun e => by injection e with e; exact (ha.other he (by decide)) e), un_farT ho G he (by decide) (by decide)⟩
end

/-- The loop over children. -/
structure KSt (B base : Nat) (w wr : World) (g : Nat) (v : Value) (l : List UInt8) (s5 : CSt) (u0 u5 : Value) (L5 : List DLay) (Ha : Nat) (d0 d1 d2 d3 : Value) : Prop where
  rr : RR B wr g v l s5.1 s5.2
  o : OwnD 143 69 wr base u5 L5
  but : But (TurnP g u0) w wr
  own : ∀ k, u5.ownBlock = some k → u0.ownBlock = some k ∨ w.heap.size ≤ k
  a : Box wr Ha 123 #[d0, d1, d2, d3]
  len : L5.length ≤ 1000
  ne : s5.2 = 0 → L5 ≠ []
theorem KSt.below {B base : Nat} {w wr wy : World} {g : Nat} {v : Value} {l : List UInt8} {s5 : CSt} {u0 u5 : Value} {L5 : List DLay} {Ha : Nat} {d0 d1 d2 d3 : Value} (h : KSt B base w wr g v l s5 u0 u5 L5 Ha d0 d1 d2 d3) (hb : Below wr.heap.size wr wy) : KSt B base w wy g v l s5 u0 u5 L5 Ha d0 d1 d2 d3 :=
  ⟨h.rr.below hb, h.o.below hb, h.but.then_ hb, h.own, h.a.below hb h.a.lt, h.len, h.ne⟩
theorem KSt.call {B base : Nat} {w wr wy : World} {g : Nat} {v : Value} {l : List UInt8} {s5 s6 : CSt} {u0 u5 : Value} {L5 : List DLay} {Ha : Nat} {d0 d1 d2 d3 : Value} (h : KSt B base w wr g v l s5 u0 u5 L5 Ha d0 d1 d2 d3) (h50 : s5.2 = 0) (hR : RR B wy g v l s6.1 s6.2) (hG : wr.grownBy wy (some g)) : KSt B base w wy g v l s6 u0 u5 L5 Ha d0 d1 d2 d3 :=
  ⟨hR, un_farD h.o hG h.rr.1 (by decide) (by decide) (by decide), h.but.grown hG (fun x hx => .inl (.inl (by injection hx with hx; exact hx.symm))), h.own, h.a.grown hG (fun e => by injection e with e; exact (h.a.other h.rr.1 (by decide)) e), h.len, fun _ => h.ne h50⟩
/-- Behind the call below. -/
theorem KSt.child {B base : Nat} {w wr wy : World} {g : Nat} {v : Value} {l : List UInt8} {s5 s7 : CSt} {u0 u5 u7 : Value} {L5 L7 : List DLay} {Ha : Nat} {d0 d1 d2 d3 : Value} (h : KSt B base w wr g v l s5 u0 u5 L5 Ha d0 d1 d2 d3) (hR : RR B wy g v l s7.1 s7.2) (hO : OwnD 143 69 wy base u7 L7) (hb : But (TurnP g u5) wr wy) (ho : ∀ k, u7.ownBlock = some k → u5.ownBlock = some k ∨ wr.heap.size ≤ k) (hl : L7.length ≤ 1000) (hn : s7.2 = 0 → L7 ≠ []) : KSt B base w wy g v l s7 u0 u7 L7 Ha d0 d1 d2 d3 := by
  refine ⟨hR, hO, h.but.with_ hb ?_, fun k hk => ?_, hb.box h.a ?_, hl, hn⟩
  · rintro x (hx | hx)
    · exact .inl (.inl hx)
    · rcases h.own x hx with h1 | h1
      · exact .inl (.inr h1)
      · exact .inr h1
  · rcases ho k hk with h1 | h1
    · exact h.own k h1
    · exact .inr (Nat.le_trans h.but.1.size h1)
  · rintro (hx | hx)
    · exact (h.a.other h.rr.1 (by decide)) hx
    · obtain ⟨cs, f, e⟩ := row_heap h.o.row hx
      have h1 := h.a
      unfold Box at h1
      rw [h1] at e
      injection e with e
      injection e with _ e
      exact absurd e (by decide)
/-- How the tree goes on behind what was read of it. -/
structure NxW (l : List UInt8) (wide : Bool) (T : List ALay) (pa : Int) (d : Nat) (s : CSt) (L0 : List Ent) (kd : Bool) (s5 : CSt) (L5 : List Ent) : Prop where
  ok : s5.2 = 0 → ∀ P : List Int, P.length = d → treeW l wide T s L0 (pa :: P) = if kd = true then treeW l wide T s5 L5 ((L0.length : Int) :: pa :: P) else contW l wide T s5 L5 (pa :: P)
  bad : s5.2 ≠ 0 → ∀ P : List Int, P.length = d → (treeW l wide T s L0 (pa :: P)).2.2 = s5.2
  far : s.1 < s5.1
theorem NxW.start {l : List UInt8} {wide : Bool} {T : List ALay} {pa : Int} {d : Nat} {s s4 : CSt} {L0 : List Ent} {e : Ent} {kd : Bool} (h : entF l wide T L0.length d s = if s4.2 = 0 then (some (e, kd), s4) else (none, s4)) (hf : s.1 < s4.1) : NxW l wide T pa d s L0 kd s4 (L0 ++ [{ e with parent := pa }]) := by
  refine ⟨fun h0 P hP => ?_, fun h0 P hP => ?_, hf⟩
  · rw [if_pos h0] at h
    cases kd with
    | true =>
      rw [if_pos rfl, treeW_kids (P := pa :: P) (by rw [List.length_cons, hP]; exact h)]
      show contW _ _ _ _ _ _ = _
      unfold contW
      rw [if_neg (by simp)]
      rfl
    | false =>
      rw [if_neg (by decide), treeW_leaf (P := pa :: P) (by rw [List.length_cons, hP]; exact h)]
      rfl
  · rw [if_neg h0] at h
    rw [treeW_none (P := pa :: P) (by rw [List.length_cons, hP]; exact h)]
    exact contW_ref h0 _ _
theorem NxW.leave {l : List UInt8} {wide : Bool} {T : List ALay} {pa : Int} {d : Nat} {s s5 : CSt} {L0 L5 : List Ent} {kd : Bool} (h : NxW l wide T pa d s L0 kd s5 L5) (hk : s5.2 = 0 → kd = false) (h0 : tU l s ≠ 0) (hne : s5.2 = 0 → L5 ≠ []) : Out17 l wide T pa d s L0 L5 s5 :=
  ⟨fun _ P hP => ⟨fun h1 => by rw [h.ok h1 P hP, hk h1, if_neg (by decide)], fun h1 => h.bad h1 P hP⟩, fun h1 => absurd h1 h0, Nat.le_of_lt h.far, fun h1 => ⟨h.far, hne h1⟩⟩
/-- At an end. -/
theorem NxW.end_ {l : List UInt8} {wide : Bool} {T : List ALay} {pa : Int} {d : Nat} {s s5 : CSt} {L0 L5 : List Ent} (h : NxW l wide T pa d s L0 true s5 L5) (h1 : s5.2 = 0) (hz : tU l s5 = 0) (hs : (sU l s5).2 = 0) (h0 : tU l s ≠ 0) (hne : L5 ≠ []) : Out17 l wide T pa d s L0 L5 (sU l s5) := by
  have hm := sU_mono l s5
  refine ⟨fun _ P hP => ⟨fun _ => ?_, fun h2 => absurd hs h2⟩, fun h2 => absurd h2 h0, Nat.le_trans (Nat.le_of_lt h.far) hm, fun _ => ⟨Nat.lt_of_lt_of_le h.far hm, hne⟩⟩
  rw [h.ok h1 P hP, if_pos rfl, treeW_none (s' := sU l s5) (by unfold entF; rw [if_pos hz])]
  rfl
/-- Where the cursor refuses. -/
theorem NxW.stuck {l : List UInt8} {wide : Bool} {T : List ALay} {pa : Int} {d : Nat} {s s5 : CSt} {L0 L5 : List Ent} (h : NxW l wide T pa d s L0 true s5 L5) (h1 : s5.2 = 0) (hs : (sU l s5).2 ≠ 0) : NxW l wide T pa d s L0 true (sU l s5) L5 := by
  refine ⟨fun h2 => absurd h2 hs, fun _ P hP => ?_, Nat.lt_of_lt_of_le h.far (sU_mono l s5)⟩
  rw [h.ok h1 P hP, if_pos rfl, treeW_none (s' := sU l s5) (by unfold entF; rw [if_pos (sU_bad hs)]), contW_ref hs]
/-- Behind a child. -/
theorem NxW.child {l : List UInt8} {wide : Bool} {T : List ALay} {pa : Int} {d : Nat} {s s5 s7 : CSt} {L0 L5 L7 : List Ent} (h : NxW l wide T pa d s L0 true s5 L5) (h1 : s5.2 = 0) (hc : tU l s5 ≠ 0) (ho : Out17 l wide T (L0.length : Int) (d + 1) s5 L5 L7 s7) : NxW l wide T pa d s L0 true s7 L7 := by
  refine ⟨fun h2 P hP => ?_, fun h2 P hP => ?_, Nat.lt_of_lt_of_le h.far ho.far⟩
  · rw [h.ok h1 P hP, if_pos rfl, if_pos rfl, (ho.go hc (pa :: P) (by rw [List.length_cons, hP])).1 h2]
    unfold contW
    rw [if_neg (by simp)]
  · rw [h.ok h1 P hP, if_pos rfl, (ho.go hc (pa :: P) (by rw [List.length_cons, hP])).2 h2]
/-- A byte 0 is the code 0. -/
theorem tU_zero {l : List UInt8} {s : CSt} (h0 : s.2 = 0) (h : s.1 < l.length) (hb : l[s.1]'h = 0) : tU l s = 0 ∧ sU l s = (s.1 + 1, 0) := by
  have hd : l.drop s.1 = 0 :: l.drop (s.1 + 1) := by rw [List.drop_eq_getElem_cons h, hb]
  have hr : readU (l.drop s.1) = (0, 1, 0) := by
    rw [hd]
    rfl
  unfold tU sU uOf
  rw [if_pos h0, hr]
  exact ⟨rfl, rfl⟩

/-- What the call below is asked to tell. -/
def Deeper (B base : Nat) (l : List UInt8) (wide : Bool) (ta : Option Addr) (tc : Nat) (T : List ALay) (g : Nat) (v : Value) (d : Nat) : Prop :=
  ∀ (w : World) (s : CSt) (u : Value) (L : List DLay) (pa : Int), RR B w g v l s.1 s.2 → s.2 = 0 → B ≤ base → base ≤ w.heap.size → Abbs w B ta T → OwnD 143 69 w base u L → L.length ≤ 1000 →
    Calls Tryz.prog 57 #[.pointer (some ⟨g, 0, none⟩), .bool wide, .slice ta T.length tc, .int .i64 pa, .int .i64 (d : Int), u] w fun x w' => TreeEnd B base w g v l wide T pa d s u L x w'

set_option maxRecDepth 10000 in
set_option maxHeartbeats 6400000 in
theorem rtree_step {B base : Nat} {l : List UInt8} (hlen : l.length ≤ 140737488355000) {wide : Bool} {ta : Option Addr} {tc : Nat} {T : List ALay} (hTl : T.length ≤ 100000) (hTin : ∀ y ∈ T, y.x.l.length ≤ 100000) {g : Nat} {v : Value} {d : Nat} (hd : d ≤ 41) (IH : d ≤ 40 → Deeper B base l wide ta tc T g v (d + 1)) : Deeper B base l wide ta tc T g v d := by
  intro w s u L pa hR hs0 hBb hbw hT hO hLn
  obtain ⟨i1, hj1, hy0, hy1, hy2⟩ := info_parts rent_info
  obtain ⟨i2, hk1, hw0, hw1, hw2⟩ := info_parts ratt_info
  have HIH := Lib.hid IH
  have HL := Lib.hid hlen
  have HTL := Lib.hid hTl
  have HTI := Lib.hid hTin
  have HBB := Lib.hid hBb
  have HBW := Lib.hid hbw
  have HTT := Lib.hid hT
  have HO := Lib.hid hO
  have HGW := Lib.hid (show g < w.heap.size from hR.1.lt)
  have HR := Lib.hid hR
  have HBG := Lib.hid (show B ≤ g from hR.2.2.2)
  have hlen2 : l.length ≤ 140737488355328 := by omega
  have HU := Lib.hid (ru_st hR hlen2)
  have k1 := rr_at hR
  have hal : s.1 ≤ 140737488355000 := Nat.le_trans hR.2.2.1 hlen
  have hw64 : IntKind.u64.wrap (s.1 : Int) = (s.1 : Int) := by rw [IntWalk.u64_in _ (by omega)]
  obtain ⟨N, hN⟩ : ∃ N, L.length = N := ⟨_, rfl⟩
  have HN := Lib.hid hN
  have HS0 := Lib.hid hs0
  obtain ⟨Au, cu, hu⟩ := un_slc hO.row
  rw [hN] at hLn hu
  subst hu
  obtain ⟨tn, htn⟩ : ∃ tn, T.length = tn := ⟨_, rfl⟩
  have HTN := Lib.hid htn
  rw [htn]
  clear IH hlen hTl hTin hR hBb hbw hT hO hN hs0 hlen2 htn
  obtain ⟨cd, hcd⟩ : ∃ cd, tU l s = cd := ⟨_, rfl⟩
  obtain ⟨s1, hs1⟩ : ∃ s1, sU l s = s1 := ⟨_, rfl⟩
  have HCD := Lib.hid hcd
  have HS1 := Lib.hid hs1
  have HM1 := Lib.hid (show s.1 ≤ s1.1 by rw [← hs1]; exact sU_mono l s)
  have HBD := Lib.hid (show s1.2 ≠ 0 → cd = 0 by rw [← hs1, ← hcd]; exact sU_bad)
  rw [hcd, hs1] at HU
  clear hcd hs1
  go_enter Tryz.func57, Tryz.ntmps57
  go_upto_region 3 with (go_at_call 94; refine HU.out.mono ?_; rintro r w1 ⟨rfl, hR1, hG1⟩; have HR1 := Lib.hid hR1; have HG1 := Lib.hid hG1; clear hR1 hG1)
  have k2 := rr_e HR1.out
  clear k1 HU
  have HB1 := Lib.hid (show But (TurnP g (.slice Au N cu)) w w1 from (But.refl _ w).grown HG1.out (fun x hx => .inl (.inl (by injection hx with hx; exact hx.symm))))
  have HO1 := Lib.hid (un_farD HO.out HG1.out HR.out.1 (by decide) (by decide) (by decide))
  obtain ⟨a1, e1⟩ := s1
  simp only at k2 HR1
  by_cases he1 : e1 = 0
  rotate_left
  · have hc0 := HBD.out he1
    subst hc0
    have q1 : (e1 == 0) = false := by simpa using he1
    have q2 : (e1 != 0) = true := by simpa using he1
    have HE1 := Lib.hid he1
    clear he1
    go_wp2_with fail
    go_ret
    exact ⟨_, L, (a1, e1), rfl, HO1.out, HR1.out, HB1.out, fun k hk => .inl hk, by rw [HN.out]; exact hLn, ⟨fun h => absurd HCD.out h, fun _ => by rw [HS1.out]; exact (by rw [sF_ref (s := (a1, e1)) HE1.out]), HM1.out, fun h => absurd h HE1.out⟩⟩
  subst he1
  by_cases hc0 : cd = 0
  · subst hc0
    have hf := HR1.out.1.free 2
    have HR2 := Lib.hid (HR1.out.failed 43)
    have G2 := Lib.hid (only_set (only_refl w1 (some g)) 2 (.int .i64 43))
    have HO2 := Lib.hid (un_farD HO1.out G2.out HR1.out.1 (by decide) (by decide) (by decide))
    have HB2 := Lib.hid (HB1.out.grown G2.out (fun x hx => .inl (.inl (by injection hx with hx; exact hx.symm))))
    go_upto_region 5 with fail
    generalize w1.setCell ⟨g, 2, none⟩ (.int .i64 43) = w2 at *
    have k3 := rr_e HR2.out
    clear k2 hf
    go_wp2_with fail
    go_ret
    exact ⟨_, L, (a1, 43), rfl, HO2.out, HR2.out, HB2.out, fun k hk => .inl hk, by rw [HN.out]; exact hLn, ⟨fun h => absurd HCD.out h, fun _ => by rw [HS1.out]; rfl, HM1.out, fun h => by cases h⟩⟩
  have q : ((cd : Int) == 0) = false := by simpa using hc0
  have HCN := Lib.hid (show tU l s ≠ 0 by rw [HCD.out]; exact hc0)
  have HBT := Lib.hid (below_of_only (B := B) HG1.out (Nat.le_trans HBB.out HBW.out) (fun x hx => by injection hx with hx; rw [← hx]; exact HBG.out))
  have HFD := Lib.hid (rdfind_any (HTT.out.below HBT.out) (Nat.le_trans HBB.out (Nat.le_trans HBW.out HG1.out.size)) tc HTL.out HTI.out cd)
  have HPL := Lib.hid (psO_len HTI.out cd)
  have HEA := Lib.hid (entA_eq l wide (abbK T cd) N d (a1, 0))
  have HEN := Lib.hid (show entF l wide T N d s = if (entA l wide (abbK T cd) N d (a1, 0)).2.2 = 0 then (some (⟨s.1, cd, tagO (abbK T cd), 0, (d : Int), (entA l wide (abbK T cd) N d (a1, 0)).1⟩, kidO (abbK T cd)), (entA l wide (abbK T cd) N d (a1, 0)).2) else (none, (entA l wide (abbK T cd) N d (a1, 0)).2) by
    unfold entF
    rw [if_neg HCN.out, HCD.out, HS1.out])
  rw [HTN.out] at HFD
  obtain ⟨o, ho⟩ : ∃ o, abbK T cd = o := ⟨_, rfl⟩
  rw [ho] at HFD HPL HEA HEN
  obtain ⟨pn, hpn⟩ : ∃ pn, (psO o).length = pn := ⟨_, rfl⟩
  have HPN := Lib.hid hpn
  rw [hpn] at HFD HPL
  have HML := Lib.hid (show (L.map DLay.ent).length = N by rw [List.length_map, HN.out])
  clear ho hpn hc0 HBD
  go_upto_region 8 with (go_at_call 67; refine HFD.out.mono ?_; rintro r w4 ⟨kc, tg, kd, sa, sc, b, rfl, hFD, hb4⟩; have HFO := Lib.hid hFD; have HB4 := Lib.hid hb4; clear hFD hb4)
  have hX5 := Box.new w4 123 #[.int .u64 kc, .int .i64 tg, .bool kd, .slice sa pn sc]
  have hb5 : Below w4.heap.size w4 (w4.alloc (.cells #[.int .u64 kc, .int .i64 tg, .bool kd, .slice sa pn sc] 123)) := (Below.refl _ _).alloc (Nat.le_refl _) _
  generalize w4.alloc (.cells #[.int .u64 kc, .int .i64 tg, .bool kd, .slice sa pn sc] 123) = w5 at *
  have hb15 := HB4.out.trans (hb5.mono HB4.out.size)
  have HSP := Lib.hid (Row.below HFO.out.spcs (hb15.mono (Nat.le_trans HBB.out (Nat.le_trans HBW.out HG1.out.size))))
  have HX5 := Lib.hid hX5
  have HR5 := Lib.hid (HR1.out.below hb15)
  have HO5 := Lib.hid (HO1.out.below hb15)
  have HG5 := Lib.hid (only_then_below HG1.out hb15)
  have HB5 := Lib.hid (HB1.out.then_ hb15)
  have HHa := Lib.hid (show w.heap.size ≤ w4.heap.size from Nat.le_trans HG1.out.size HB4.out.size)
  have HOB := HFO.out.b
  have HTK := Lib.hid (And.intro HFO.out.tag HFO.out.kid)
  subst HOB
  clear hb5 hX5 hb15 HFO HB4 HFD HBT HR1 HO1 HB1 HG1 k2
  generalize w4.heap.size = Ha at *
  cases o with
  | none =>
    have k3 := rr_e HR5.out
    have hf := HR5.out.1.free 2
    have HR6 := Lib.hid (HR5.out.failed 40)
    have G6 := Lib.hid (only_set (only_refl w5 (some g)) 2 (.int .i64 40))
    have HO6 := Lib.hid (un_farD HO5.out G6.out HR5.out.1 (by decide) (by decide) (by decide))
    have HB6 := Lib.hid (HB5.out.grown G6.out (fun x hx => .inl (.inl (by injection hx with hx; exact hx.symm))))
    have hq : (entA l wide none N d (a1, 0)).2.2 = 40 := by
      show (if bigQ N d then sF (sF (a1, 0) 40) 3 else sF (a1, 0) 40).2 = 40
      split <;> rfl
    have HE4 := Lib.hid (show entF l wide T N d s = (none, (entA l wide none N d (a1, 0)).2) by rw [HEN.out, if_neg (by rw [hq]; decide)])
    have HQ := Lib.hid hq
    clear hq
    go_wp2_with fail
    go_ret
    exact ⟨_, L, (a1, 40), rfl, HO6.out, HR6.out, HB6.out, fun k hk => .inl hk, by rw [HN.out]; exact hLn, Out17.quit (s'' := (entA l wide none N d (a1, 0)).2) (fun P hP => by rw [HML.out, hP]; exact HE4.out) HCN.out (by rw [HQ.out]; decide) HQ.out.symm HM1.out⟩
  | some y =>
  have hst : stO (some y) (a1, 0) = (a1, 0) := rfl
  rw [hst] at HEA
  clear hst
  obtain ⟨q1, hq1⟩ : ∃ q, decide (N = 1000) = q := ⟨_, rfl⟩
  obtain ⟨q2, hq2⟩ : ∃ q, decide (40 < d) = q := ⟨_, rfl⟩
  have HBQ := Lib.hid (show bigQ N d = (q1 || q2) by
    unfold bigQ
    rw [hq2, ← hq1]
    congr 1
    rw [Bool.eq_iff_iff]
    simp
    omega)
  have d1 : ((N : Int) == 1000) = q1 := by rw [← hq1, Bool.eq_iff_iff]; simp; omega
  have d2 : decide ((40 : Int) < (d : Int)) = q2 := by rw [← hq2, Bool.eq_iff_iff]; simp; omega
  have HQ12 := Lib.hid (And.intro hq1 hq2)
  rw [HBQ.out] at HEA
  rcases (by cases q1 <;> cases q2 <;> simp : (q1 = true ∧ (q1 || q2) = true) ∨ (q1 = false ∧ q2 = true ∧ (q1 || q2) = true) ∨ (q1 = false ∧ q2 = false)) with ⟨rfl, hqq⟩ | ⟨rfl, rfl, hqq⟩ | ⟨rfl, rfl⟩
  · rw [if_pos hqq] at HEA
    have k3 := rr_e HR5.out
    have hf := HR5.out.1.free 2
    have HR6 := Lib.hid (HR5.out.failed 3)
    have G6 := Lib.hid (only_set (only_refl w5 (some g)) 2 (.int .i64 3))
    have HO6 := Lib.hid (un_farD HO5.out G6.out HR5.out.1 (by decide) (by decide) (by decide))
    have HB6 := Lib.hid (HB5.out.grown G6.out (fun x hx => .inl (.inl (by injection hx with hx; exact hx.symm))))
    have hq : (entA l wide (some y) N d (a1, 0)).2.2 = 3 := by
      rw [HEA.out]
      exact attF_ref l wide _ _ (sF_ne _ (by decide))
    have HE4 := Lib.hid (show entF l wide T N d s = (none, (entA l wide (some y) N d (a1, 0)).2) by rw [HEN.out, if_neg (by rw [hq]; decide)])
    have HQ := Lib.hid hq
    clear hq
    go_wp2_with fail
    go_ret
    exact ⟨_, L, (a1, 3), rfl, HO6.out, HR6.out, HB6.out, fun k hk => .inl hk, by rw [HN.out]; exact hLn, Out17.quit (s'' := (entA l wide (some y) N d (a1, 0)).2) (fun P hP => by rw [HML.out, hP]; exact HE4.out) HCN.out (by rw [HQ.out]; decide) HQ.out.symm HM1.out⟩
  · rw [if_pos hqq] at HEA
    have k3 := rr_e HR5.out
    have hf := HR5.out.1.free 2
    have HR6 := Lib.hid (HR5.out.failed 3)
    have G6 := Lib.hid (only_set (only_refl w5 (some g)) 2 (.int .i64 3))
    have HO6 := Lib.hid (un_farD HO5.out G6.out HR5.out.1 (by decide) (by decide) (by decide))
    have HB6 := Lib.hid (HB5.out.grown G6.out (fun x hx => .inl (.inl (by injection hx with hx; exact hx.symm))))
    have hq : (entA l wide (some y) N d (a1, 0)).2.2 = 3 := by
      rw [HEA.out]
      exact attF_ref l wide _ _ (sF_ne _ (by decide))
    have HE4 := Lib.hid (show entF l wide T N d s = (none, (entA l wide (some y) N d (a1, 0)).2) by rw [HEN.out, if_neg (by rw [hq]; decide)])
    have HQ := Lib.hid hq
    clear hq
    go_wp2_with fail
    go_ret
    exact ⟨_, L, (a1, 3), rfl, HO6.out, HR6.out, HB6.out, fun k hk => .inl hk, by rw [HN.out]; exact hLn, Out17.quit (s'' := (entA l wide (some y) N d (a1, 0)).2) (fun P hP => by rw [HML.out, hP]; exact HE4.out) HCN.out (by rw [HQ.out]; decide) HQ.out.symm HM1.out⟩
  simp only [Bool.or_false, Bool.false_eq_true, if_false] at HEA
  have hps : psO (some y) = y.x.l := rfl
  rw [hps] at HEA HSP HPN
  generalize y.x.l = ps at *
  have HWB := Lib.hid (show B ≤ w.heap.size from Nat.le_trans HBB.out HBW.out)
  have hbB : Below B w w5 := below_of_only (B := B) HG5.out HWB.out (fun x hx => by injection hx with hx; rw [← hx]; exact HBG.out)
  have HSW := Lib.hid (Row.back HSP.out hbB)
  clear hps hbB HSP
  obtain ⟨y0, y1, y2, y3⟩ := four_cells HX5.out
  go_upto_region 16 with fail
  clear y0 y1 y2 y3
  have hb6 : Below w5.heap.size w5 (w5.alloc (.cells #[.int .u64 (s.1 : Int), .int .u64 (cd : Int), .int .i64 tg, .int .i64 pa, .int .i64 (d : Int), .slice none 0 0] 69)) := (Below.refl _ _).alloc (Nat.le_refl _) _
  have hX6 := Box.new w5 69 #[.int .u64 (s.1 : Int), .int .u64 (cd : Int), .int .i64 tg, .int .i64 pa, .int .i64 (d : Int), .slice none 0 0]
  generalize w5.alloc (.cells #[.int .u64 (s.1 : Int), .int .u64 (cd : Int), .int .i64 tg, .int .i64 pa, .int .i64 (d : Int), .slice none 0 0] 69) = w6 at *
  have HA6 := Lib.hid (show AtSt B w w6 g v l (a1, 0) w5.heap.size Ha (.int .u64 (s.1 : Int)) (.int .u64 (cd : Int)) (.int .i64 tg) (.int .i64 pa) (.int .i64 (d : Int)) (.slice none 0 0) [] (.int .u64 kc) (.int .i64 tg) (.bool kd) (.slice sa pn sc) from
    ⟨HR5.out.below hb6, only_then_below HG5.out hb6, hX6, HX5.out.below hb6 HX5.out.lt, OwnT.nil _ _ _⟩)
  have HB6 := Lib.hid (HB5.out.then_ hb6)
  have HO6 := Lib.hid (HO5.out.below hb6)
  have HHe := Lib.hid (show w.heap.size ≤ w5.heap.size from HG5.out.size)
  clear hb6 hX6 HR5 HG5 HX5 HB5 HO5 hw64
  generalize w5.heap.size = He at *
  go_loopg [18] pn (fun gk i wr => ∃ (k : Nat) (u : Value) (X : List AtL), k ≤ pn ∧ gk = pn - k ∧ i = .int .i64 k ∧ Hid (X.length = k) ∧ Hid (X.map AtL.att = (attF l wide (ps.take k) (a1, 0)).1) ∧ Hid (AtSt B w wr g v l (attF l wide (ps.take k) (a1, 0)).2 He Ha (.int .u64 (s.1 : Int)) (.int .u64 (cd : Int)) (.int .i64 tg) (.int .i64 pa) (.int .i64 (d : Int)) u X (.int .u64 kc) (.int .i64 tg) (.bool kd) (.slice sa pn sc)))
  case atStart => exact ⟨0, .slice none 0 0, [], Nat.zero_le _, rfl, rfl, Lib.hid rfl, Lib.hid rfl, HA6⟩
  case round =>
    obtain ⟨k, u, X, hk, rfl, rfl, HX, HM, HA⟩ := hrel
    clear HA6
    obtain ⟨e0, e1, e2, e3, e4, e5⟩ := six_cells HA.out.e
    obtain ⟨y0, y1, y2, y3⟩ := four_cells HA.out.a
    obtain ⟨A3, c3, hu⟩ := un_slc HA.out.o.row
    rw [HX.out] at hu
    subst hu
    by_cases hlt : k < pn
    · obtain ⟨p, hp⟩ : ∃ p, ps[k]? = some p := ⟨ps[k]'(by rw [HPN.out]; exact hlt), List.getElem?_eq_getElem _⟩
      have HS := Lib.hid (attF_snoc l wide (ps.take k) p (a1, 0))
      have htk : ps.take (k + 1) = ps.take k ++ [p] := by rw [List.take_add_one, hp]; rfl
      rw [← htk] at HS
      obtain ⟨b, o, rfl, -⟩ := spc_at HSW.out hp
      have KT := Lib.hid (fun (W : World) (hg : w.grownBy W (some g)) (he : Box W He 69 #[.int .u64 (s.1 : Int), .int .u64 (cd : Int), .int .i64 tg, .int .i64 pa, .int .i64 (d : Int), .slice A3 k c3]) (ha : Box W Ha 123 #[.int .u64 kc, .int .i64 tg, .bool kd, .slice (some ⟨b, o, none⟩) pn sc]) => (by
        obtain ⟨b', o', e', -, c0, c1, c2⟩ := spc_at (Row.below HSW.out (below_of_only (B := B) hg HWB.out (fun x hx => by injection hx with hx; rw [← hx]; exact HBG.out))) hp
        injection e' with e'
        injection e' with e1 e2
        subst e1 e2
        exact ⟨(six_cells he).2.2.2.2.2, (four_cells ha).2.2.2, c0, c1, c2⟩ : W.cell? ⟨He, 5, none⟩ = some (.slice A3 k c3) ∧ W.cell? ⟨Ha, 3, none⟩ = some (.slice (some ⟨b, o, none⟩) pn sc) ∧ W.cell? ⟨b, o + k * 3, none⟩ = some (.int .i64 p.at_) ∧ W.cell? ⟨b, o + k * 3 + 1, none⟩ = some (.int .i64 p.form) ∧ W.cell? ⟨b, o + k * 3 + 2, none⟩ = some (.int .i64 p.imp)))
      generalize attF l wide (ps.take k) (a1, 0) = R1 at *
      obtain ⟨R1a, s2⟩ := R1
      simp only at HM HA HS
      have KS := Lib.hid (fun (W : World) (s' : CSt) (h : AtSt B w W g v l s' He Ha (.int .u64 (s.1 : Int)) (.int .u64 (cd : Int)) (.int .i64 tg) (.int .i64 pa) (.int .i64 (d : Int)) (.slice A3 k c3) X (.int .u64 kc) (.int .i64 tg) (.bool kd) (.slice (some ⟨b, o, none⟩) pn sc)) => KT.out W h.gr h.e h.a)
      obtain ⟨tv, s3, hT⟩ : ∃ tv s3, takeW l p.form p.imp wide s2 = (tv, s3) := ⟨_, _, rfl⟩
      rw [hT] at HS
      simp only at HS
      obtain ⟨bn, hbn⟩ : ∃ bn, tv.b.length = bn := ⟨_, rfl⟩
      have HBN := Lib.hid hbn
      have HT := Lib.hid (fun (W : World) (h : AtSt B w W g v l s2 He Ha (.int .u64 (s.1 : Int)) (.int .u64 (cd : Int)) (.int .i64 tg) (.int .i64 pa) (.int .i64 (d : Int)) (.slice A3 k c3) X (.int .u64 kc) (.int .i64 tg) (.bool kd) (.slice (some ⟨b, o, none⟩) pn sc)) => (by
        have := rtakeW_st h.rr (Nat.le_trans HWB.out h.gr.size) HL.out p.at_ p.form p.imp wide
        rw [hT] at this
        refine this.mono ?_
        rintro r w' ⟨⟨A5, c5, h1, h2⟩, h3, h4⟩
        exact ⟨⟨A5, c5, h1, own_base h2 h.gr.size⟩, h.call h3 h4⟩ :
        Calls Tryz.prog 95 #[.pointer (some ⟨g, 0, none⟩), .agg #[.int .i64 p.at_, .int .i64 p.form, .int .i64 p.imp], .bool wide] W fun r w' => (∃ A5 c5, r = .returned (.agg #[.int .i64 tv.form, .int .u64 (tv.u : Int), .int .i64 tv.s, .slice A5 tv.b.length c5, .string ⟨tv.t.toArray⟩]) ∧ Own w' w.heap.size (.slice A5 tv.b.length c5) tv.b) ∧ AtSt B w w' g v l s3 He Ha (.int .u64 (s.1 : Int)) (.int .u64 (cd : Int)) (.int .i64 tg) (.int .i64 pa) (.int .i64 (d : Int)) (.slice A3 k c3) X (.int .u64 kc) (.int .i64 tg) (.bool kd) (.slice (some ⟨b, o, none⟩) pn sc)))
      have AC := Lib.hid (fun (A : Option Addr) (q : Nat) (u : Value) (hu : u ∈ ([.int .i64 p.at_, .int .i64 tv.form, .int .u64 (tv.u : Int), .int .i64 tv.s, .slice A bn q, .string ⟨tv.t.toArray⟩] : List Value)) => (by
        simp only [List.mem_cons, List.not_mem_nil, or_false] at hu
        rcases hu with rfl | rfl | rfl | rfl | rfl | rfl <;> rfl : u.oneCell' = true))
      have h63 : k + 1 ≤ maxLen := by have := HPL.out; unfold maxLen; omega
      have hby : (k + 1) * 72 ≤ 140737488355328 := by have := HPL.out; omega
      have hd' : decide ((k : Int) < (pn : Int)) = true := by simp; omega
      have hd'' : decide (k < pn) = true := by simpa using hlt
      clear hbn htk hT hp
      go_upto_region 18 with fail
      clear e0 e1 e2 e3 e4 e5 y0 y1 y2 y3
      have HA1 := Lib.hid (HA.out.below (below_drewN (Below.refl _ _) 1))
      clear HA
      refine region_any (by kernel_rfl) ?_
      refine wpAny_of_until (S := fun W => W.cell? ⟨He, 5, none⟩ = some (.slice A3 k c3) ∧ W.cell? ⟨Ha, 3, none⟩ = some (.slice (some ⟨b, o, none⟩) pn sc) ∧ W.cell? ⟨b, o + k * 3, none⟩ = some (.int .i64 p.at_) ∧ W.cell? ⟨b, o + k * 3 + 1, none⟩ = some (.int .i64 p.form) ∧ W.cell? ⟨b, o + k * 3 + 2, none⟩ = some (.int .i64 p.imp)) (p := 20) _ _ _ _ ?_
      have hHeld := KS.out _ _ (HA1.out)
      refine take_u (i := 0) (v := ?_) [1, 18, 20] rfl (by kernel_rfl) (by kernel_rfl) (by kernel_rfl) (by kernel_rfl) (by kernel_rfl) (by kernel_rfl) (by kernel_rfl) (fun _ _ _ h => h) (Or.inl ⟨by rfl, ?_⟩) hHeld ?_
      rotate_left
      · (intro wS hSw; (try dsimp only at hSw); go_simp; (try with_reducible rfl))
      try simp only [Act.put, List.setIfInBounds_toArray, List.set_cons_zero, List.set_cons_succ]
      refine take_u (i := 1) (v := ?_) [18, 20] rfl (by kernel_rfl) (by kernel_rfl) (by kernel_rfl) (by kernel_rfl) (by kernel_rfl) (by kernel_rfl) (by kernel_rfl) (fun _ _ _ h => h) (Or.inl ⟨by rfl, ?_⟩) hHeld ?_
      rotate_left
      · (intro wS hSw; (try dsimp only at hSw); go_simp; (try with_reducible rfl))
      try simp only [Act.put, List.setIfInBounds_toArray, List.set_cons_zero, List.set_cons_succ]
      refine take_u (i := 2) (v := ?_) [3, 5, 6, 7, 16, 17, 18, 20] rfl (by kernel_rfl) (by kernel_rfl) (by kernel_rfl) (by kernel_rfl) (by kernel_rfl) (by kernel_rfl) (by kernel_rfl) (fun _ _ _ h => h) (Or.inl ⟨by rfl, ?_⟩) hHeld ?_
      rotate_left
      · (intro wS hSw; (try dsimp only at hSw); go_simp; (try with_reducible rfl))
      try simp only [Act.put, List.setIfInBounds_toArray, List.set_cons_zero, List.set_cons_succ]
      refine take_u (i := 3) (v := ?_) [5, 6, 7, 16, 17, 18, 20] rfl (by kernel_rfl) (by kernel_rfl) (by kernel_rfl) (by kernel_rfl) (by kernel_rfl) (by kernel_rfl) (by kernel_rfl) (fun _ _ _ h => h) (Or.inl ⟨by rfl, ?_⟩) hHeld ?_
      rotate_left
      · (intro wS hSw; (try dsimp only at hSw); go_simp; (try with_reducible rfl))
      try simp only [Act.put, List.setIfInBounds_toArray, List.set_cons_zero, List.set_cons_succ]
      refine take_u (i := 4) (v := ?_) [5, 6, 7, 16, 17, 18, 20] rfl (by kernel_rfl) (by kernel_rfl) (by kernel_rfl) (by kernel_rfl) (by kernel_rfl) (by kernel_rfl) (by kernel_rfl) (fun _ _ _ h => h) (Or.inl ⟨by rfl, ?_⟩) hHeld ?_
      rotate_left
      · (intro wS hSw; (try dsimp only at hSw); go_simp; (try with_reducible rfl))
      try simp only [Act.put, List.setIfInBounds_toArray, List.set_cons_zero, List.set_cons_succ]
      refine take_u (i := 5) (v := ?_) [6, 7, 16, 17, 18, 20] rfl (by kernel_rfl) (by kernel_rfl) (by kernel_rfl) (by kernel_rfl) (by kernel_rfl) (by kernel_rfl) (by kernel_rfl) (fun _ _ _ h => h) (Or.inl ⟨by rfl, ?_⟩) hHeld ?_
      rotate_left
      · (intro wS hSw; (try dsimp only at hSw); go_simp; (try with_reducible rfl))
      try simp only [Act.put, List.setIfInBounds_toArray, List.set_cons_zero, List.set_cons_succ]
      refine take_u (i := 6) (v := ?_) [7, 16, 17, 18, 20] rfl (by kernel_rfl) (by kernel_rfl) (by kernel_rfl) (by kernel_rfl) (by kernel_rfl) (by kernel_rfl) (by kernel_rfl) (fun _ _ _ h => h) (Or.inl ⟨by rfl, ?_⟩) hHeld ?_
      rotate_left
      · (intro wS hSw; (try dsimp only at hSw); go_simp; (try with_reducible rfl))
      try simp only [Act.put, List.setIfInBounds_toArray, List.set_cons_zero, List.set_cons_succ]
      refine take_u (i := 7) (v := ?_) [16, 17, 18, 20] rfl (by kernel_rfl) (by kernel_rfl) (by kernel_rfl) (by kernel_rfl) (by kernel_rfl) (by kernel_rfl) (by kernel_rfl) (fun _ _ _ h => h) (Or.inl ⟨by rfl, ?_⟩) hHeld ?_
      rotate_left
      · (intro wS hSw; (try dsimp only at hSw); go_simp; (try with_reducible rfl))
      try simp only [Act.put, List.setIfInBounds_toArray, List.set_cons_zero, List.set_cons_succ]
      refine take_u (i := 8) (v := ?_) [15, 16, 17, 18, 20] rfl (by kernel_rfl) (by kernel_rfl) (by kernel_rfl) (by kernel_rfl) (by kernel_rfl) (by kernel_rfl) (by kernel_rfl) (fun _ _ _ h => h) (Or.inl ⟨by rfl, ?_⟩) hHeld ?_
      rotate_left
      · (intro wS hSw; (try dsimp only at hSw); go_simp; (try with_reducible rfl))
      try simp only [Act.put, List.setIfInBounds_toArray, List.set_cons_zero, List.set_cons_succ]
      refine take_u (i := 9) (v := ?_) [10, 12, 13, 15, 16, 17, 18, 20] rfl (by kernel_rfl) (by kernel_rfl) (by kernel_rfl) (by kernel_rfl) (by kernel_rfl) (by kernel_rfl) (by kernel_rfl) (fun _ _ _ h => h) (Or.inl ⟨by rfl, ?_⟩) hHeld ?_
      rotate_left
      · (intro wS hSw; (try dsimp only at hSw); go_simp; (try with_reducible rfl))
      try simp only [Act.put, List.setIfInBounds_toArray, List.set_cons_zero, List.set_cons_succ]
      refine take_u (i := 10) (v := ?_) [12, 13, 15, 16, 17, 18, 20] rfl (by kernel_rfl) (by kernel_rfl) (by kernel_rfl) (by kernel_rfl) (by kernel_rfl) (by kernel_rfl) (by kernel_rfl) (fun _ _ _ h => h) (Or.inl ⟨by rfl, ?_⟩) hHeld ?_
      rotate_left
      · (intro wS hSw; (try dsimp only at hSw); go_simp; (try with_reducible rfl))
      try simp only [Act.put, List.setIfInBounds_toArray, List.set_cons_zero, List.set_cons_succ]
      refine take_u (i := 11) (v := ?_) [12, 13, 15, 16, 17, 18, 20] rfl (by kernel_rfl) (by kernel_rfl) (by kernel_rfl) (by kernel_rfl) (by kernel_rfl) (by kernel_rfl) (by kernel_rfl) (fun _ _ _ h => h) (Or.inl ⟨by rfl, ?_⟩) hHeld ?_
      rotate_left
      · (intro wS hSw; (try dsimp only at hSw); go_simp; (try with_reducible rfl))
      try simp only [Act.put, List.setIfInBounds_toArray, List.set_cons_zero, List.set_cons_succ]
      refine take_u (i := 12) (v := ?_) [13, 15, 16, 17, 18, 20] rfl (by kernel_rfl) (by kernel_rfl) (by kernel_rfl) (by kernel_rfl) (by kernel_rfl) (by kernel_rfl) (by kernel_rfl) (fun _ _ _ h => h) (Or.inl ⟨by rfl, ?_⟩) hHeld ?_
      rotate_left
      · (intro wS hSw; (try dsimp only at hSw); go_simp; (try with_reducible rfl))
      try simp only [Act.put, List.setIfInBounds_toArray, List.set_cons_zero, List.set_cons_succ]
      refine take_u (i := 13) (v := ?_) [15, 16, 17, 18, 20] rfl (by kernel_rfl) (by kernel_rfl) (by kernel_rfl) (by kernel_rfl) (by kernel_rfl) (by kernel_rfl) (by kernel_rfl) (fun _ _ _ h => h) (Or.inl ⟨by rfl, ?_⟩) hHeld ?_
      rotate_left
      · (intro wS hSw; (try dsimp only at hSw); go_simp; (try with_reducible rfl))
      try simp only [Act.put, List.setIfInBounds_toArray, List.set_cons_zero, List.set_cons_succ]
      refine take_u (i := 14) (v := ?_) [15, 16, 17, 18, 20] rfl (by kernel_rfl) (by kernel_rfl) (by kernel_rfl) (by kernel_rfl) (by kernel_rfl) (by kernel_rfl) (by kernel_rfl) (fun _ _ _ h => h) (Or.inl ⟨by rfl, ?_⟩) hHeld ?_
      rotate_left
      · (intro wS hSw; (try dsimp only at hSw); go_simp; (try with_reducible rfl))
      try simp only [Act.put, List.setIfInBounds_toArray, List.set_cons_zero, List.set_cons_succ]
      refine ready_u (i := 15) (by kernel_rfl) rfl (by kernel_rfl) (fun K hK => ?_)
      go_simp
      go_wp2_with (go_at_call 95; refine (HT.out _ HA1.out).mono ?_; rintro r w3 ⟨⟨A5, c5, rfl, hO5⟩, hA3⟩; have HSP := Lib.hid hO5; rw [HBN.out]; have HA3 := Lib.hid hA3; clear hO5 hA3)
      refine hK.out _ _ ?_ (fun hNew => ?_)
      · exact KS.out _ _ HA3.out
      clear hHeld hK K
      have hHeld := hNew
      clear hNew
      refine take_u (i := 16) (v := ?_) [17, 18, 20] rfl (by kernel_rfl) (by kernel_rfl) (by kernel_rfl) (by kernel_rfl) (by kernel_rfl) (by kernel_rfl) (by kernel_rfl) (fun _ _ _ h => h) (Or.inl ⟨by rfl, ?_⟩) hHeld ?_
      rotate_left
      · (intro wS hSw; (try dsimp only at hSw); go_simp; (try with_reducible rfl))
      try simp only [Act.put, List.setIfInBounds_toArray, List.set_cons_zero, List.set_cons_succ]
      have hb4 : Below w3.heap.size w3 (w3.alloc (.cells #[.int .i64 p.at_, .int .i64 tv.form, .int .u64 (tv.u : Int), .int .i64 tv.s, .slice A5 bn c5, .string ⟨tv.t.toArray⟩] 143)) := (Below.refl _ _).alloc (Nat.le_refl _) _
      have HA4 := Lib.hid (HA3.out.below hb4)
      have HS4 := Lib.hid (row_below HSP.out hb4)
      have HR4 := Lib.hid (show (w3.alloc (.cells #[.int .i64 p.at_, .int .i64 tv.form, .int .u64 (tv.u : Int), .int .i64 tv.s, .slice A5 bn c5, .string ⟨tv.t.toArray⟩] 143)).ownsRow w.heap.size 143 6 (.slice A3 k c3) k (cellsF AtL.cells X) from by have := HA4.out.o.row; rwa [HX.out] at this)
      have hsz : w.heap.size ≤ (w3.alloc (.cells #[.int .i64 p.at_, .int .i64 tv.form, .int .u64 (tv.u : Int), .int .i64 tv.s, .slice A5 bn c5, .string ⟨tv.t.toArray⟩] 143)).heap.size := HA4.out.gr.size
      refine ready_u (i := 17) (by kernel_rfl) rfl (by kernel_rfl) (fun K hK => ?_)
      go_simp
      go_wp2_with (fail)
      refine hK.out _ _ ?_ (fun hNew => ?_)
      · exact KS.out _ _ HA4.out
      clear hHeld hK K
      have hHeld := hNew
      clear hNew
      refine ready_u (i := 18) (by kernel_rfl) rfl (by kernel_rfl) (fun K hK => ?_)
      refine step_append_lies _ (by rfl) (.tmp 85) (.tmp 101) _ (by rfl) w.heap.size 143 i2 _ 6 72 Tryz.underlying67 hk1 hw0 hw1 hw2 (by rfl) (by decide) (.slice A3 k c3) k (cellsF AtL.cells X) (by rfl) (by exact HR4.out) ⟨w3.heap.size, 0, none⟩ 1 1 [.int .i64 p.at_, .int .i64 tv.form, .int .u64 (tv.u : Int), .int .i64 tv.s, .slice A5 bn c5, .string ⟨tv.t.toArray⟩] (by rfl) rfl (fun j u h => cells_newA w3 [.int .i64 p.at_, .int .i64 tv.form, .int .u64 (tv.u : Int), .int .i64 tv.s, .slice A5 bn c5, .string ⟨tv.t.toArray⟩] _ j u h) (AC.out A5 c5) (by decide) h63 hby (by exact hsz) _ rfl ?_
      intro g6 c6 w6 hown6 hg6 hat6 hlt6
      obtain ⟨hr6, hgr6, he6, ha6, ho6⟩ := HA4.out.more HWB.out hg6 (HA4.out.o.snoc (t := ⟨p.at_, ⟨tv, A5, c5⟩⟩) HS4.out (by decide) hg6 (by have h := hown6; rw [← HBN.out] at h; rw [HX.out]; exact h))
      have HA7 := Lib.hid (AtSt.stored hr6 HWB.out hgr6 he6 ha6 ho6 HHe.out)
      have HK6 := Lib.hid (KT.out _ hgr6 he6 ha6)
      have z6 := (six_cells he6).2.2.2.2.2
      have f6 := he6.free 5
      clear hown6 hg6 hat6 hlt6 hr6 hgr6 he6 ha6 ho6
      try simp only [Act.put, List.setIfInBounds_toArray, List.set_cons_zero, List.set_cons_succ]
      refine hK.out _ _ ?_ (fun hNew => ?_)
      · exact HK6.out
      clear hHeld hK K
      have hHeld := hNew
      clear hNew
      refine ready_u (i := 19) (by kernel_rfl) rfl (by kernel_rfl) (fun K hK => ?_)
      go_simp
      go_wp2_with (fail)
      refine hK.out _ _ ?_ (fun hNew => ?_)
      · exact hHeld
      clear hHeld hK K
      have hHeld := hNew
      clear hNew
      refine end_u (by kernel_rfl) rfl (fun K hK => ?_)
      go_simp
      refine hK.out _ _ ?_
      clear hHeld hK K
      refine wpAny_of_held (S := fun _ => True) _ _ _ _ ?_
      refine wpAnyH_done (by kernel_rfl) ?_ _
      go_wp2_with fail
      go_roundg (pn - (k + 1))
      case measure => omega
      case rel => exact ⟨k + 1, _, X ++ [⟨p.at_, ⟨tv, A5, c5⟩⟩], by omega, rfl, by go_num, Lib.hid (by rw [List.length_append, HX.out]; rfl), Lib.hid (by rw [List.map_append, HM.out, HS.out]; rfl), Lib.hid (by rw [HS.out]; exact HA7.out)⟩
    · have hkn : k = pn := by omega
      have htk : ps.take k = ps := List.take_of_length_le (by rw [HPN.out]; omega)
      rw [htk] at HM HA
      subst hkn
      obtain ⟨RA, s4, hra⟩ : ∃ RA s4, attF l wide ps (a1, 0) = (RA, s4) := ⟨_, _, rfl⟩
      have HM4 := Lib.hid (show a1 ≤ s4.1 by have := attF_mono l wide ps (a1, 0); rw [hra] at this; exact this)
      have HS14 := Lib.hid (show s.1 < a1 by have := (tU_more HCN.out).2.1; rw [HS1.out] at this; exact this)
      have HSL := Lib.hid (show s.1 < l.length from (tU_more HCN.out).1)
      rw [hra] at HM HA HEA
      rw [HEA.out] at HEN
      simp only at HM HA HEN
      have hd' : decide ((k : Int) < (k : Int)) = false := by simp
      have hd'' : decide (k < k) = false := by simp
      have hN1000 : N < 1000 := by have := of_decide_eq_false HQ12.out.1; omega
      have hd40 : d ≤ 40 := by have := of_decide_eq_false HQ12.out.2; omega
      clear htk hra hlt hk
      go_upto_region 20 with fail
      clear hd' hd'' e0 e1 e2 e3 e4 e5 y0 y1 y2 y3
      obtain ⟨e0, e1, e2, e3, e4, e5⟩ := six_cells HA.out.e
      have hOW : OwnD 143 69 wr base (.slice Au N cu) L := un_farD HO.out HA.out.gr HR.out.1 (by decide) (by decide) (by decide)
      have hA7 : Below wr.heap.size wr (wr.alloc (.cells #[.int .u64 (s.1 : Int), .int .u64 (cd : Int), .int .i64 tg, .int .i64 pa, .int .i64 (d : Int), .slice A3 k c3] 69)) := (Below.refl _ _).alloc (Nat.le_refl _) _
      have HRB := Lib.hid (hOW.below hA7)
      have hR7 := HRB.out.row
      rw [HN.out] at hR7
      have HRA := Lib.hid hR7
      have HAA := Lib.hid (HA.out.below hA7)
      obtain ⟨yd, hyd⟩ : ∃ yd : DLay, yd = ⟨s.1, cd, tg, pa, (d : Int), X, A3, c3⟩ := ⟨_, rfl⟩
      have HYC := Lib.hid (show yd.cells = [.int .u64 (s.1 : Int), .int .u64 (cd : Int), .int .i64 tg, .int .i64 pa, .int .i64 (d : Int), .slice A3 k c3] by rw [hyd, ← HX.out]; rfl)
      have HYE := Lib.hid (show yd.ent = ⟨s.1, cd, tg, pa, (d : Int), RA⟩ by rw [hyd, ← HM.out]; rfl)
      have HYO := Lib.hid (show OwnT 143 (wr.alloc (.cells #[.int .u64 (s.1 : Int), .int .u64 (cd : Int), .int .i64 tg, .int .i64 pa, .int .i64 (d : Int), .slice A3 k c3] 69)) base (.slice yd.a yd.L.length yd.c) yd.L by
        rw [hyd]
        show OwnT _ _ base (.slice A3 X.length c3) X
        rw [HX.out]
        exact HAA.out.o.lower HBW.out)
      have AC := Lib.hid (fun (u : Value) (hu : u ∈ ([.int .u64 (s.1 : Int), .int .u64 (cd : Int), .int .i64 tg, .int .i64 pa, .int .i64 (d : Int), .slice A3 k c3] : List Value)) => (by
        rw [← HYC.out] at hu
        exact ent_one yd u hu : u.oneCell' = true))
      have hmx : N + 1 ≤ maxLen := by unfold maxLen; omega
      have hby : (N + 1) * 64 ≤ 140737488355328 := by omega
      have hsz7 : base ≤ (wr.alloc (.cells #[.int .u64 (s.1 : Int), .int .u64 (cd : Int), .int .i64 tg, .int .i64 pa, .int .i64 (d : Int), .slice A3 k c3] 69)).heap.size := Nat.le_trans HBW.out HAA.out.gr.size
      clear hyd hR7 hOW
      go_upto_region 21 with (at_builtin; refine wpList_append_own_at _ (by rfl) (.tmp 106) (.tmp 108) _ (by rfl) base 69 i1 _ 6 64 Tryz.underlying52 hj1 hy0 hy1 hy2 rfl (by decide) _ N (cellsF DLay.cells L) (by rfl) HRA.out ⟨wr.heap.size, 0, none⟩ 1 1 [.int .u64 (s.1 : Int), .int .u64 (cd : Int), .int .i64 tg, .int .i64 pa, .int .i64 (d : Int), .slice A3 k c3] (by rfl) rfl (fun j u h => cells_newA wr [.int .u64 (s.1 : Int), .int .u64 (cd : Int), .int .i64 tg, .int .i64 pa, .int .i64 (d : Int), .slice A3 k c3] _ j u h) AC.out hmx hby hsz7 ?_; intro v8 w8 hown8 hg8 hn8 hat8; clear hn8; have HO8 := Lib.hid hown8; have HG8 := Lib.hid hg8; have HAT := Lib.hid hat8; clear hown8 hg8 hat8)
      have HON := Lib.hid (show OwnD 143 69 w8 base v8 (L ++ [yd]) from HRB.out.snoc HYO.out (by decide) (by decide) HG8.out (by rw [HN.out, HYC.out]; exact HO8.out))
      have HK8 := Lib.hid (show KSt B base w w8 g v l s4 (.slice Au N cu) v8 (L ++ [yd]) Ha (.int .u64 kc) (.int .i64 tg) (.bool kd) (.slice sa k sc) from
        ⟨HAA.out.rr.grown HG8.out (fun e => by
            obtain ⟨cs, f, e2⟩ := row_heap HRA.out e.symm
            have h1 := HAA.out.rr.1
            unfold Box at h1
            rw [h1] at e2
            injection e2 with e2
            injection e2 with _ e2
            exact absurd e2 (by decide)) (fun x hx => Nat.le_trans HBB.out (HRA.out.lt x hx).1), HON.out,
          ((But.refl _ w).grown HAA.out.gr (fun x hx => .inl (.inl (by injection hx with hx; exact hx.symm)))).grown HG8.out (fun x hx => .inl (.inr hx)),
          fun x hx => by
            rcases HAT.out with h1 | h1
            · exact .inl (h1 ▸ hx)
            · rw [h1] at hx
              injection hx with hx
              exact .inr (by rw [← hx]; exact HAA.out.gr.size),
          un_box HAA.out.a HRA.out (by decide) HG8.out, by rw [List.length_append, HN.out]; exact hN1000, by simp⟩)
      have HX8 := Lib.hid (show NxW l wide T pa d s (L.map DLay.ent) kd s4 ((L ++ [yd]).map DLay.ent) from by
        have := NxW.start (pa := pa) (L0 := L.map DLay.ent) (e := ⟨s.1, cd, tg, 0, (d : Int), RA⟩) (kd := kd) (s4 := s4) (d := d) (s := s) (l := l) (wide := wide) (T := T) (by
          rw [HML.out, HEN.out, HTK.out.1, HTK.out.2]) (Nat.lt_of_lt_of_le HS14.out HM4.out)
        rw [List.map_append, List.map_cons, List.map_nil, HYE.out]
        exact this)
      clear HON HO8 HG8 HAT HRB HRA HAA HYO HYC HYE AC HA HM HEN HEA HS14 HM4 e0 e1 e2 e3 e4 e5
      generalize L ++ [yd] = L8 at *
      have HNL := Lib.hid (show l.length ≤ 140737488355328 from Nat.le_trans HL.out (by decide))
      have HRU := Lib.hid (fun (W : World) (s' : CSt) (h : RR B W g v l s'.1 s'.2) => ru_st h HNL.out)
      have HLF := Lib.hid (fun (W : World) (s' : CSt) (h : RR B W g v l s'.1 s'.2) => qleft h)
      have hdd : IntKind.i64.wrap ((d : Int) + 1) = (d : Int) + 1 := by rw [IntWalk.i64_in _ (by omega)]
      have HD40 := Lib.hid hd40
      generalize wr = wq at *
      go_wp2_with fail
      go_loopg [5] (l.length - s4.1 + (if s4.2 = 0 then 1 else 0)) (fun gk u5 wr => ∃ (s5 : CSt) (L5 : List DLay), gk = l.length - s5.1 + (if s5.2 = 0 then 1 else 0) ∧ Hid (KSt B base w wr g v l s5 (.slice Au N cu) u5 L5 Ha (.int .u64 kc) (.int .i64 tg) (.bool kd) (.slice sa k sc)) ∧ Hid (NxW l wide T pa d s (L.map DLay.ent) kd s5 (L5.map DLay.ent)))
      case atStart => exact ⟨s4, L8, rfl, HK8, HX8⟩
      case round =>
        obtain ⟨s5, L5, rfl, HK, HX5⟩ := hrel
        clear HK8 HX8
        have HNE := Lib.hid (show s5.2 = 0 → L5.map DLay.ent ≠ [] from fun h e => HK.out.ne h (List.map_eq_nil_iff.1 e))
        obtain ⟨a5, e5⟩ := s5
        have k3 := rr_e HK.out.rr
        have k4 := rr_at HK.out.rr
        obtain ⟨y0, y1, y2, y3⟩ := four_cells HK.out.a
        by_cases he5 : e5 = 0
        rotate_left
        · have q5 : (e5 == 0) = false := by simpa using he5
          have HE5 := Lib.hid he5
          clear he5
          cases kd
          all_goals
            go_wp2_with fail
            go_ret
            exact ⟨_, L5, (a5, e5), rfl, HK.out.o, HK.out.rr, HK.out.but, HK.out.own, HK.out.len, HX5.out.leave (fun h => absurd h HE5.out) HCN.out (fun h => absurd h HE5.out)⟩
        subst he5
        cases kd with
        | false =>
          go_wp2_with fail
          go_ret
          exact ⟨_, L5, (a5, 0), rfl, HK.out.o, HK.out.rr, HK.out.but, HK.out.own, HK.out.len, HX5.out.leave (fun _ => rfl) HCN.out (fun _ => by first | exact HNE.out rfl | exact HNE.out trivial)⟩
        | true =>
          obtain ⟨Av, cv, hv, hlcv, hcmv, hrdv⟩ := HK.out.rr.2.1
          have k5 := HK.out.rr.1.cell 0
          obtain ⟨nl, hnl⟩ : ∃ nl, l.length = nl := ⟨_, rfl⟩
          have HNLL := Lib.hid hnl
          rw [hv, hnl] at k5
          simp at k5
          clear hv hlcv hcmv
          have hq0 : leftOf l a5 0 = nl - a5 := by unfold leftOf; rw [if_pos rfl, hnl]
          have ha5 : a5 ≤ nl := by have := HK.out.rr.2.2.1; rwa [hnl] at this
          by_cases hlt : a5 < nl
          · have hlt' : a5 < l.length := by rw [hnl]; exact hlt
            obtain ⟨bb, oo, rfl, -, hbc⟩ := hrdv (by omega)
            have kb := hbc a5 _ (List.getElem?_eq_getElem hlt')
            have HZ0 := Lib.hid (@tU_zero l (a5, 0) rfl hlt')
            obtain ⟨b0, hb0⟩ : ∃ b0, (l[a5]'hlt').toNat = b0 := ⟨_, rfl⟩
            have HB0 := Lib.hid (show b0 = 0 → l[a5]'hlt' = 0 from fun h => UInt8.toNat_inj.1 (hb0.trans h))
            rw [hb0] at kb
            have ha64 : IntKind.i64.wrap ((a5 : Int) + 1) = (a5 : Int) + 1 := by rw [IntWalk.i64_in _ (by have := HL.out; omega)]
            obtain ⟨q, hq⟩ : ∃ q, leftOf l a5 0 = q := ⟨_, rfl⟩
            have dq : decide ((0 : Int) < (q : Int)) = true := by rw [← hq, hq0]; simp; omega
            have dq' : decide (0 < q) = true := by simpa using dq
            have HQ := Lib.hid hq
            clear hbc hb0 hrdv
            by_cases hbz : b0 = 0
            · have qb : ((b0 : Int) == 0) = true := by simp [hbz]
              obtain ⟨hz1, hz2⟩ := HZ0.out (HB0.out hbz)
              have HZ1 := Lib.hid hz1
              have HZ2 := Lib.hid hz2
              clear HZ0 HB0 hz1 hz2 hbz
              go_upto_region 22 with fail
              have hlq := HLF.out _ (a5, 0) (HK.out.rr.drewN 1)
              simp only [hq] at hlq
              have HLQ := Lib.hid hlq
              clear hlq hq hq0
              refine wp_region_held_drew (S := fun X => X.cell? ⟨g, 0, none⟩ = some (.slice (some ⟨bb, oo, none⟩) nl cv) ∧ X.cell? ⟨g, 1, none⟩ = some (.int .i64 (a5 : Int)) ∧ X.cell? ⟨bb, oo + a5, none⟩ = some (.int .u8 (b0 : Int))) (by kernel_rfl) ?_ (fun hHeld => ?_)
              · exact ⟨k5, k4, kb⟩
              refine take_r (i := 0) (v := ?_) rfl (by kernel_rfl) (by kernel_rfl) (by kernel_rfl) (fun _ _ _ h => h) (Or.inl ⟨by rfl, ?_⟩) hHeld ?_
              rotate_left
              · (intro wS hSw; (try dsimp only at hSw); go_simp; (try with_reducible rfl))
              try simp only [Act.put, List.setIfInBounds_toArray, List.set_cons_zero, List.set_cons_succ]
              refine wpAnyH_ready (rs := [1]) (by kernel_rfl) (by simp) ?_
              refine ready_r rfl (fun K hK => ?_)
              go_simp
              go_wp2_with (go_at_call 96; refine HLQ.out.mono ?_; rintro r w11 ⟨rfl, nq, rfl⟩)
              refine hK.out _ _ ?_ (fun hNew => ?_)
              · exact ⟨k5, k4, kb⟩
              clear hHeld hK K
              have hHeld := hNew
              clear hNew
              refine take_r (i := 2) (v := ?_) rfl (by kernel_rfl) (by kernel_rfl) (by kernel_rfl) (fun _ _ _ h => h) (Or.inl ⟨by rfl, ?_⟩) hHeld ?_
              rotate_left
              · (intro wS hSw; (try dsimp only at hSw); go_simp; (try with_reducible rfl))
              try simp only [Act.put, List.setIfInBounds_toArray, List.set_cons_zero, List.set_cons_succ]
              refine take_r (i := 3) (v := ?_) rfl (by kernel_rfl) (by kernel_rfl) (by kernel_rfl) (fun _ _ _ h => h) (Or.inl ⟨by rfl, ?_⟩) hHeld ?_
              rotate_left
              · (intro wS hSw; (try dsimp only at hSw); go_simp; (try with_reducible rfl))
              try simp only [Act.put, List.setIfInBounds_toArray, List.set_cons_zero, List.set_cons_succ]
              refine take_r (i := 4) (v := ?_) rfl (by kernel_rfl) (by kernel_rfl) (by kernel_rfl) (fun _ _ _ h => h) (Or.inl ⟨by rfl, ?_⟩) hHeld ?_
              rotate_left
              · (intro wS hSw; (try dsimp only at hSw); go_simp; (try with_reducible rfl))
              try simp only [Act.put, List.setIfInBounds_toArray, List.set_cons_zero, List.set_cons_succ]
              refine take_r (i := 5) (v := ?_) rfl (by kernel_rfl) (by kernel_rfl) (by kernel_rfl) (fun _ _ _ h => h) (Or.inl ⟨by rfl, ?_⟩) hHeld ?_
              rotate_left
              · (intro wS hSw; (try dsimp only at hSw); go_simp; (try with_reducible rfl))
              try simp only [Act.put, List.setIfInBounds_toArray, List.set_cons_zero, List.set_cons_succ]
              refine take_r (i := 6) (v := ?_) rfl (by kernel_rfl) (by kernel_rfl) (by kernel_rfl) (fun _ _ _ h => h) (Or.inl ⟨by rfl, ?_⟩) hHeld ?_
              rotate_left
              · (intro wS hSw; (try dsimp only at hSw); go_simp; (try with_reducible rfl))
              try simp only [Act.put, List.setIfInBounds_toArray, List.set_cons_zero, List.set_cons_succ]
              refine take_r (i := 7) (v := ?_) rfl (by kernel_rfl) (by kernel_rfl) (by kernel_rfl) (fun _ _ _ h => h) (Or.inl ⟨by rfl, ?_⟩) hHeld ?_
              rotate_left
              · (intro wS hSw; (try dsimp only at hSw); go_simp; (try with_reducible rfl))
              try simp only [Act.put, List.setIfInBounds_toArray, List.set_cons_zero, List.set_cons_succ]
              refine take_r (i := 8) (v := ?_) rfl (by kernel_rfl) (by kernel_rfl) (by kernel_rfl) (fun _ _ _ h => h) (Or.inl ⟨by rfl, ?_⟩) hHeld ?_
              rotate_left
              · (intro wS hSw; (try dsimp only at hSw); go_simp; (try with_reducible rfl))
              try simp only [Act.put, List.setIfInBounds_toArray, List.set_cons_zero, List.set_cons_succ]
              refine take_r (i := 9) (v := ?_) rfl (by kernel_rfl) (by kernel_rfl) (by kernel_rfl) (fun _ _ _ h => h) (Or.inl ⟨by rfl, ?_⟩) hHeld ?_
              rotate_left
              · (intro wS hSw; (try dsimp only at hSw); go_simp; (try with_reducible rfl))
              try simp only [Act.put, List.setIfInBounds_toArray, List.set_cons_zero, List.set_cons_succ]
              refine take_r (i := 10) (v := ?_) rfl (by kernel_rfl) (by kernel_rfl) (by kernel_rfl) (fun _ _ _ h => h) (Or.inl ⟨by rfl, ?_⟩) hHeld ?_
              rotate_left
              · (intro wS hSw; (try dsimp only at hSw); go_simp; (try with_reducible rfl))
              try simp only [Act.put, List.setIfInBounds_toArray, List.set_cons_zero, List.set_cons_succ]
              refine take_r (i := 11) (v := ?_) rfl (by kernel_rfl) (by kernel_rfl) (by kernel_rfl) (fun _ _ _ h => h) (Or.inl ⟨by rfl, ?_⟩) hHeld ?_
              rotate_left
              · (intro wS hSw; (try dsimp only at hSw); go_simp; (try with_reducible rfl))
              try simp only [Act.put, List.setIfInBounds_toArray, List.set_cons_zero, List.set_cons_succ]
              refine take_r (i := 12) (v := ?_) rfl (by kernel_rfl) (by kernel_rfl) (by kernel_rfl) (fun _ _ _ h => h) (Or.inl ⟨by rfl, ?_⟩) hHeld ?_
              rotate_left
              · (intro wS hSw; (try dsimp only at hSw); go_simp; (try with_reducible rfl))
              try simp only [Act.put, List.setIfInBounds_toArray, List.set_cons_zero, List.set_cons_succ]
              refine take_r (i := 13) (v := ?_) rfl (by kernel_rfl) (by kernel_rfl) (by kernel_rfl) (fun _ _ _ h => h) (Or.inl ⟨by rfl, ?_⟩) hHeld ?_
              rotate_left
              · (intro wS hSw; (try dsimp only at hSw); go_simp; (try with_reducible rfl))
              try simp only [Act.put, List.setIfInBounds_toArray, List.set_cons_zero, List.set_cons_succ]
              refine take_r (i := 14) (v := ?_) rfl (by kernel_rfl) (by kernel_rfl) (by kernel_rfl) (fun _ _ _ h => h) (Or.inl ⟨by rfl, ?_⟩) hHeld ?_
              rotate_left
              · (intro wS hSw; (try dsimp only at hSw); go_simp; (try with_reducible rfl))
              try simp only [Act.put, List.setIfInBounds_toArray, List.set_cons_zero, List.set_cons_succ]
              refine take_r (i := 15) (v := ?_) rfl (by kernel_rfl) (by kernel_rfl) (by kernel_rfl) (fun _ _ _ h => h) (Or.inl ⟨by rfl, ?_⟩) hHeld ?_
              rotate_left
              · (intro wS hSw; (try dsimp only at hSw); go_simp; (try with_reducible rfl))
              try simp only [Act.put, List.setIfInBounds_toArray, List.set_cons_zero, List.set_cons_succ]
              refine wpAnyH_done (by kernel_rfl) ?_ _
              have HK9 := Lib.hid (HK.out.below (below_drewN (Below.refl _ _) (1 + nq)))
              clear k3 k4 k5 y0 y1 y2 y3 kb HK HLQ
              generalize wr.drewN (1 + nq) = w12 at *
              have k4 := rr_at HK9.out.rr
              have f1 := HK9.out.rr.1.free 1
              have hmv := HK9.out.rr.moved (a5 + 1) (by rw [HNLL.out]; omega)
              have hca : ((a5 + 1 : Nat) : Int) = (a5 : Int) + 1 := by omega
              rw [hca] at hmv
              have HK10 := Lib.hid (HK9.out.call (s6 := (a5 + 1, 0)) rfl hmv (only_set (only_refl w12 (some g)) 1 _))
              clear hmv hca
              go_upto_region 24 with fail
              generalize w12.setCell ⟨g, 1, none⟩ (.int .i64 ((a5 : Int) + 1)) = w13 at *
              clear k4 f1 HK9
              have HXE := Lib.hid (HX5.out.end_ rfl HZ1.out (by rw [HZ2.out]) HCN.out (by first | exact HNE.out rfl | exact HNE.out trivial))
              rw [HZ2.out] at HXE
              go_wp2_with fail
              (try rw [Exit.noGoto_ret])
              go_ret
              exact ⟨_, L5, (a5 + 1, 0), rfl, HK10.out.o, HK10.out.rr, HK10.out.but, HK10.out.own, HK10.out.len, HXE.out⟩
            · have qb : ((b0 : Int) == 0) = false := by simpa using hbz
              clear hbz HZ0 HB0
              go_upto_region 22 with fail
              have hlq := HLF.out _ (a5, 0) (HK.out.rr.drewN 1)
              simp only [hq] at hlq
              have HLQ := Lib.hid hlq
              clear hlq hq hq0
              refine wp_region_held_drew (S := fun X => X.cell? ⟨g, 0, none⟩ = some (.slice (some ⟨bb, oo, none⟩) nl cv) ∧ X.cell? ⟨g, 1, none⟩ = some (.int .i64 (a5 : Int)) ∧ X.cell? ⟨bb, oo + a5, none⟩ = some (.int .u8 (b0 : Int))) (by kernel_rfl) ?_ (fun hHeld => ?_)
              · exact ⟨k5, k4, kb⟩
              refine take_r (i := 0) (v := ?_) rfl (by kernel_rfl) (by kernel_rfl) (by kernel_rfl) (fun _ _ _ h => h) (Or.inl ⟨by rfl, ?_⟩) hHeld ?_
              rotate_left
              · (intro wS hSw; (try dsimp only at hSw); go_simp; (try with_reducible rfl))
              try simp only [Act.put, List.setIfInBounds_toArray, List.set_cons_zero, List.set_cons_succ]
              refine wpAnyH_ready (rs := [1]) (by kernel_rfl) (by simp) ?_
              refine ready_r rfl (fun K hK => ?_)
              go_simp
              go_wp2_with (go_at_call 96; refine HLQ.out.mono ?_; rintro r w11 ⟨rfl, nq, rfl⟩)
              refine hK.out _ _ ?_ (fun hNew => ?_)
              · exact ⟨k5, k4, kb⟩
              clear hHeld hK K
              have hHeld := hNew
              clear hNew
              refine take_r (i := 2) (v := ?_) rfl (by kernel_rfl) (by kernel_rfl) (by kernel_rfl) (fun _ _ _ h => h) (Or.inl ⟨by rfl, ?_⟩) hHeld ?_
              rotate_left
              · (intro wS hSw; (try dsimp only at hSw); go_simp; (try with_reducible rfl))
              try simp only [Act.put, List.setIfInBounds_toArray, List.set_cons_zero, List.set_cons_succ]
              refine take_r (i := 3) (v := ?_) rfl (by kernel_rfl) (by kernel_rfl) (by kernel_rfl) (fun _ _ _ h => h) (Or.inl ⟨by rfl, ?_⟩) hHeld ?_
              rotate_left
              · (intro wS hSw; (try dsimp only at hSw); go_simp; (try with_reducible rfl))
              try simp only [Act.put, List.setIfInBounds_toArray, List.set_cons_zero, List.set_cons_succ]
              refine take_r (i := 4) (v := ?_) rfl (by kernel_rfl) (by kernel_rfl) (by kernel_rfl) (fun _ _ _ h => h) (Or.inl ⟨by rfl, ?_⟩) hHeld ?_
              rotate_left
              · (intro wS hSw; (try dsimp only at hSw); go_simp; (try with_reducible rfl))
              try simp only [Act.put, List.setIfInBounds_toArray, List.set_cons_zero, List.set_cons_succ]
              refine take_r (i := 5) (v := ?_) rfl (by kernel_rfl) (by kernel_rfl) (by kernel_rfl) (fun _ _ _ h => h) (Or.inl ⟨by rfl, ?_⟩) hHeld ?_
              rotate_left
              · (intro wS hSw; (try dsimp only at hSw); go_simp; (try with_reducible rfl))
              try simp only [Act.put, List.setIfInBounds_toArray, List.set_cons_zero, List.set_cons_succ]
              refine take_r (i := 6) (v := ?_) rfl (by kernel_rfl) (by kernel_rfl) (by kernel_rfl) (fun _ _ _ h => h) (Or.inl ⟨by rfl, ?_⟩) hHeld ?_
              rotate_left
              · (intro wS hSw; (try dsimp only at hSw); go_simp; (try with_reducible rfl))
              try simp only [Act.put, List.setIfInBounds_toArray, List.set_cons_zero, List.set_cons_succ]
              refine take_r (i := 7) (v := ?_) rfl (by kernel_rfl) (by kernel_rfl) (by kernel_rfl) (fun _ _ _ h => h) (Or.inl ⟨by rfl, ?_⟩) hHeld ?_
              rotate_left
              · (intro wS hSw; (try dsimp only at hSw); go_simp; (try with_reducible rfl))
              try simp only [Act.put, List.setIfInBounds_toArray, List.set_cons_zero, List.set_cons_succ]
              refine take_r (i := 8) (v := ?_) rfl (by kernel_rfl) (by kernel_rfl) (by kernel_rfl) (fun _ _ _ h => h) (Or.inl ⟨by rfl, ?_⟩) hHeld ?_
              rotate_left
              · (intro wS hSw; (try dsimp only at hSw); go_simp; (try with_reducible rfl))
              try simp only [Act.put, List.setIfInBounds_toArray, List.set_cons_zero, List.set_cons_succ]
              refine take_r (i := 9) (v := ?_) rfl (by kernel_rfl) (by kernel_rfl) (by kernel_rfl) (fun _ _ _ h => h) (Or.inl ⟨by rfl, ?_⟩) hHeld ?_
              rotate_left
              · (intro wS hSw; (try dsimp only at hSw); go_simp; (try with_reducible rfl))
              try simp only [Act.put, List.setIfInBounds_toArray, List.set_cons_zero, List.set_cons_succ]
              refine take_r (i := 10) (v := ?_) rfl (by kernel_rfl) (by kernel_rfl) (by kernel_rfl) (fun _ _ _ h => h) (Or.inl ⟨by rfl, ?_⟩) hHeld ?_
              rotate_left
              · (intro wS hSw; (try dsimp only at hSw); go_simp; (try with_reducible rfl))
              try simp only [Act.put, List.setIfInBounds_toArray, List.set_cons_zero, List.set_cons_succ]
              refine take_r (i := 11) (v := ?_) rfl (by kernel_rfl) (by kernel_rfl) (by kernel_rfl) (fun _ _ _ h => h) (Or.inl ⟨by rfl, ?_⟩) hHeld ?_
              rotate_left
              · (intro wS hSw; (try dsimp only at hSw); go_simp; (try with_reducible rfl))
              try simp only [Act.put, List.setIfInBounds_toArray, List.set_cons_zero, List.set_cons_succ]
              refine take_r (i := 12) (v := ?_) rfl (by kernel_rfl) (by kernel_rfl) (by kernel_rfl) (fun _ _ _ h => h) (Or.inl ⟨by rfl, ?_⟩) hHeld ?_
              rotate_left
              · (intro wS hSw; (try dsimp only at hSw); go_simp; (try with_reducible rfl))
              try simp only [Act.put, List.setIfInBounds_toArray, List.set_cons_zero, List.set_cons_succ]
              refine take_r (i := 13) (v := ?_) rfl (by kernel_rfl) (by kernel_rfl) (by kernel_rfl) (fun _ _ _ h => h) (Or.inl ⟨by rfl, ?_⟩) hHeld ?_
              rotate_left
              · (intro wS hSw; (try dsimp only at hSw); go_simp; (try with_reducible rfl))
              try simp only [Act.put, List.setIfInBounds_toArray, List.set_cons_zero, List.set_cons_succ]
              refine take_r (i := 14) (v := ?_) rfl (by kernel_rfl) (by kernel_rfl) (by kernel_rfl) (fun _ _ _ h => h) (Or.inl ⟨by rfl, ?_⟩) hHeld ?_
              rotate_left
              · (intro wS hSw; (try dsimp only at hSw); go_simp; (try with_reducible rfl))
              try simp only [Act.put, List.setIfInBounds_toArray, List.set_cons_zero, List.set_cons_succ]
              refine take_r (i := 15) (v := ?_) rfl (by kernel_rfl) (by kernel_rfl) (by kernel_rfl) (fun _ _ _ h => h) (Or.inl ⟨by rfl, ?_⟩) hHeld ?_
              rotate_left
              · (intro wS hSw; (try dsimp only at hSw); go_simp; (try with_reducible rfl))
              try simp only [Act.put, List.setIfInBounds_toArray, List.set_cons_zero, List.set_cons_succ]
              refine wpAnyH_done (by kernel_rfl) ?_ _
              have HK9 := Lib.hid (HK.out.below (below_drewN (Below.refl _ _) (1 + nq)))
              clear k3 k4 k5 y0 y1 y2 y3 HK HLQ
              generalize wr.drewN (1 + nq) = w12 at *
              have k4 := rr_at HK9.out.rr
              have hu6 := HRU.out w12 (a5, 0) HK9.out.rr
              obtain ⟨n5, hn5⟩ : ∃ n, tU l (a5, 0) = n := ⟨_, rfl⟩
              obtain ⟨s6, hs6⟩ : ∃ s6, sU l (a5, 0) = s6 := ⟨_, rfl⟩
              have HN5 := Lib.hid hn5
              have HS6 := Lib.hid hs6
              have HMO := Lib.hid (show a5 ≤ s6.1 by rw [← hs6]; exact sU_mono l (a5, 0))
              rw [hn5, hs6] at hu6
              have HU6 := Lib.hid hu6
              clear hu6 hn5 hs6
              go_upto_region 27 with (go_at_call 94; refine HU6.out.mono ?_; rintro r w13 ⟨rfl, hR13, hG13⟩; have HK13 := Lib.hid (HK9.out.call rfl hR13 hG13); clear hR13 hG13)
              clear k4 HK9 HU6
              obtain ⟨a6, e6⟩ := s6
              have k8 := rr_e HK13.out.rr
              by_cases he6 : e6 = 0
              rotate_left
              · have q6 : (e6 == 0) = false := by simpa using he6
                have HE6 := Lib.hid he6
                clear he6
                have HXS := Lib.hid (HX5.out.stuck rfl (by rw [HS6.out]; exact HE6.out))
                rw [HS6.out] at HXS
                go_wp2_with fail
                go_roundg (l.length - a6 + (if e6 = 0 then 1 else 0))
                case measure => rw [if_neg HE6.out]; have : a5 ≤ a6 := HMO.out; omega
                case rel => exact ⟨(a6, e6), L5, rfl, HK13, HXS⟩
              subst he6
              by_cases hn0 : n5 = 0
              · have q7 : ((n5 : Int) == 0) = true := by simp [hn0]
                have HXE := Lib.hid (HX5.out.end_ rfl (by rw [HN5.out]; exact hn0) (by rw [HS6.out]) HCN.out (by first | exact HNE.out rfl | exact HNE.out trivial))
                rw [HS6.out] at HXE
                clear hn0
                go_wp2_with fail
                (try rw [Exit.noGoto_ret])
                go_ret
                exact ⟨_, L5, (a6, 0), rfl, HK13.out.o, HK13.out.rr, HK13.out.but, HK13.out.own, HK13.out.len, HXE.out⟩
              have q7 : ((n5 : Int) == 0) = false := by simpa using hn0
              have HTN5 := Lib.hid (show tU l (a5, 0) ≠ 0 by rw [HN5.out]; exact hn0)
              have hr13 : RR B w13 g v l a6 0 := HK13.out.rr
              have f1 := hr13.1.free 1
              have k9 := rr_at hr13
              have HK14 := Lib.hid (HK13.out.call (s6 := (a5, 0)) rfl (hr13.moved a5 (by rw [HNLL.out]; exact ha5)) (only_set (only_refl w13 (some g)) 1 _))
              clear hn0
              go_upto_region 31 with fail
              generalize w13.setCell ⟨g, 1, none⟩ (.int .i64 (a5 : Int)) = w14 at *
              clear f1 k9 k8 HK13 hr13
              have hbB : Below B w w14 := HK14.out.but.below HWB.out (fun x hx => by
                rcases hx with rfl | hx
                · exact HBG.out
                · exact Nat.le_trans HBB.out (HO.out.row.lt x hx).1)
              have hch := HIH.out HD40.out w14 (a5, 0) _ L5 (N : Int) HK14.out.rr rfl HBB.out (Nat.le_trans HBW.out HK14.out.but.1.size) (HTT.out.below hbB) HK14.out.o HK14.out.len
              rw [HTN.out] at hch
              have HCH := Lib.hid hch
              clear hch hbB
              go_wp2_with (go_at_call 57; refine HCH.out.mono ?_; rintro r w15 ⟨u7, L7, s7, rfl, hO7, hR7, hB7, hW7, hl7, hX7⟩; have HK15 := Lib.hid (HK14.out.child hR7 hO7 hB7 hW7 hl7 (fun h => by have := (hX7.more h).2; exact fun e => this (by rw [e]; rfl))); have HX7 := Lib.hid hX7; clear hO7 hR7 hB7 hW7 hl7 hX7)
              go_roundg (l.length - s7.1 + (if s7.2 = 0 then 1 else 0))
              case measure =>
                have h1 : a5 ≤ s7.1 := HX7.out.far
                have h2 : s7.2 = 0 → a5 < s7.1 ∧ _ := HX7.out.more
                have h3 : a5 < l.length := (tU_more HTN5.out).1
                by_cases h4 : s7.2 = 0
                · rw [if_pos h4]; have := (h2 h4).1; omega
                · rw [if_neg h4]; omega
              case rel => exact ⟨s7, L7, rfl, HK15, Lib.hid (HX5.out.child rfl HTN5.out (by rw [HML.out]; exact HX7.out))⟩
          · have hq1 : leftOf l a5 0 = 0 := by rw [hq0]; omega
            have dq : decide ((0 : Int) < ((0 : Nat) : Int)) = false := rfl
            have hlq := HLF.out _ (a5, 0) (HK.out.rr.drewN 1)
            simp only [hq1] at hlq
            have HLQ := Lib.hid hlq
            clear hlq hq1 hq0 hrdv hlt
            go_upto_region 22 with fail
            refine wp_region_held_drew (S := fun X => X.cell? ⟨g, 0, none⟩ = some (.slice Av nl cv)) (by kernel_rfl) ?_ (fun hHeld => ?_)
            · exact k5
            refine take_r (i := 0) (v := ?_) rfl (by kernel_rfl) (by kernel_rfl) (by kernel_rfl) (fun _ _ _ h => h) (Or.inl ⟨by rfl, ?_⟩) hHeld ?_
            rotate_left
            · (intro wS hSw; (try dsimp only at hSw); go_simp; (try with_reducible rfl))
            try simp only [Act.put, List.setIfInBounds_toArray, List.set_cons_zero, List.set_cons_succ]
            refine wpAnyH_ready (rs := [1]) (by kernel_rfl) (by simp) ?_
            refine ready_r rfl (fun K hK => ?_)
            go_simp
            go_wp2_with (go_at_call 96; refine HLQ.out.mono ?_; rintro r w11 ⟨rfl, nq, rfl⟩)
            refine hK.out _ _ ?_ (fun hNew => ?_)
            · exact k5
            clear hHeld hK K
            have hHeld := hNew
            clear hNew
            refine take_r (i := 2) (v := ?_) rfl (by kernel_rfl) (by kernel_rfl) (by kernel_rfl) (fun _ _ _ h => h) (Or.inl ⟨by rfl, ?_⟩) hHeld ?_
            rotate_left
            · (intro wS hSw; (try dsimp only at hSw); go_simp; (try with_reducible rfl))
            try simp only [Act.put, List.setIfInBounds_toArray, List.set_cons_zero, List.set_cons_succ]
            refine take_r (i := 3) (v := ?_) rfl (by kernel_rfl) (by kernel_rfl) (by kernel_rfl) (fun _ _ _ h => h) (Or.inl ⟨by rfl, ?_⟩) hHeld ?_
            rotate_left
            · (intro wS hSw; (try dsimp only at hSw); go_simp; (try with_reducible rfl))
            try simp only [Act.put, List.setIfInBounds_toArray, List.set_cons_zero, List.set_cons_succ]
            refine take_r (i := 4) (v := undef) rfl (by kernel_rfl) (by kernel_rfl) (by kernel_rfl) (fun _ _ _ h => h) (Or.inr ⟨by rfl, rfl⟩) hHeld ?_; try simp only [Act.put, List.setIfInBounds_toArray, List.set_cons_zero, List.set_cons_succ]
            refine take_r (i := 5) (v := undef) rfl (by kernel_rfl) (by kernel_rfl) (by kernel_rfl) (fun _ _ _ h => h) (Or.inr ⟨by rfl, rfl⟩) hHeld ?_; try simp only [Act.put, List.setIfInBounds_toArray, List.set_cons_zero, List.set_cons_succ]
            refine take_r (i := 6) (v := undef) rfl (by kernel_rfl) (by kernel_rfl) (by kernel_rfl) (fun _ _ _ h => h) (Or.inr ⟨by rfl, rfl⟩) hHeld ?_; try simp only [Act.put, List.setIfInBounds_toArray, List.set_cons_zero, List.set_cons_succ]
            refine take_r (i := 7) (v := undef) rfl (by kernel_rfl) (by kernel_rfl) (by kernel_rfl) (fun _ _ _ h => h) (Or.inr ⟨by rfl, rfl⟩) hHeld ?_; try simp only [Act.put, List.setIfInBounds_toArray, List.set_cons_zero, List.set_cons_succ]
            refine take_r (i := 8) (v := undef) rfl (by kernel_rfl) (by kernel_rfl) (by kernel_rfl) (fun _ _ _ h => h) (Or.inr ⟨by rfl, rfl⟩) hHeld ?_; try simp only [Act.put, List.setIfInBounds_toArray, List.set_cons_zero, List.set_cons_succ]
            refine take_r (i := 9) (v := undef) rfl (by kernel_rfl) (by kernel_rfl) (by kernel_rfl) (fun _ _ _ h => h) (Or.inr ⟨by rfl, rfl⟩) hHeld ?_; try simp only [Act.put, List.setIfInBounds_toArray, List.set_cons_zero, List.set_cons_succ]
            refine take_r (i := 10) (v := undef) rfl (by kernel_rfl) (by kernel_rfl) (by kernel_rfl) (fun _ _ _ h => h) (Or.inr ⟨by rfl, rfl⟩) hHeld ?_; try simp only [Act.put, List.setIfInBounds_toArray, List.set_cons_zero, List.set_cons_succ]
            refine take_r (i := 11) (v := undef) rfl (by kernel_rfl) (by kernel_rfl) (by kernel_rfl) (fun _ _ _ h => h) (Or.inr ⟨by rfl, rfl⟩) hHeld ?_; try simp only [Act.put, List.setIfInBounds_toArray, List.set_cons_zero, List.set_cons_succ]
            refine take_r (i := 12) (v := undef) rfl (by kernel_rfl) (by kernel_rfl) (by kernel_rfl) (fun _ _ _ h => h) (Or.inr ⟨by rfl, rfl⟩) hHeld ?_; try simp only [Act.put, List.setIfInBounds_toArray, List.set_cons_zero, List.set_cons_succ]
            refine take_r (i := 13) (v := undef) rfl (by kernel_rfl) (by kernel_rfl) (by kernel_rfl) (fun _ _ _ h => h) (Or.inr ⟨by rfl, rfl⟩) hHeld ?_; try simp only [Act.put, List.setIfInBounds_toArray, List.set_cons_zero, List.set_cons_succ]
            refine take_r (i := 14) (v := undef) rfl (by kernel_rfl) (by kernel_rfl) (by kernel_rfl) (fun _ _ _ h => h) (Or.inr ⟨by rfl, rfl⟩) hHeld ?_; try simp only [Act.put, List.setIfInBounds_toArray, List.set_cons_zero, List.set_cons_succ]
            refine take_r (i := 15) (v := ?_) rfl (by kernel_rfl) (by kernel_rfl) (by kernel_rfl) (fun _ _ _ h => h) (Or.inl ⟨by rfl, ?_⟩) hHeld ?_
            rotate_left
            · (intro wS hSw; (try dsimp only at hSw); go_simp; (try with_reducible rfl))
            try simp only [Act.put, List.setIfInBounds_toArray, List.set_cons_zero, List.set_cons_succ]
            refine wpAnyH_done (by kernel_rfl) ?_ _
            have HK9 := Lib.hid (HK.out.below (below_drewN (Below.refl _ _) (1 + nq)))
            clear k3 k4 k5 y0 y1 y2 y3 HK HLQ
            generalize wr.drewN (1 + nq) = w12 at *
            have k4 := rr_at HK9.out.rr
            have hu6 := HRU.out w12 (a5, 0) HK9.out.rr
            obtain ⟨n5, hn5⟩ : ∃ n, tU l (a5, 0) = n := ⟨_, rfl⟩
            obtain ⟨s6, hs6⟩ : ∃ s6, sU l (a5, 0) = s6 := ⟨_, rfl⟩
            have HN5 := Lib.hid hn5
            have HS6 := Lib.hid hs6
            have HMO := Lib.hid (show a5 ≤ s6.1 by rw [← hs6]; exact sU_mono l (a5, 0))
            rw [hn5, hs6] at hu6
            have HU6 := Lib.hid hu6
            clear hu6 hn5 hs6
            go_upto_region 27 with (go_at_call 94; refine HU6.out.mono ?_; rintro r w13 ⟨rfl, hR13, hG13⟩; have HK13 := Lib.hid (HK9.out.call rfl hR13 hG13); clear hR13 hG13)
            clear k4 HK9 HU6
            obtain ⟨a6, e6⟩ := s6
            have k8 := rr_e HK13.out.rr
            by_cases he6 : e6 = 0
            rotate_left
            · have q6 : (e6 == 0) = false := by simpa using he6
              have HE6 := Lib.hid he6
              clear he6
              have HXS := Lib.hid (HX5.out.stuck rfl (by rw [HS6.out]; exact HE6.out))
              rw [HS6.out] at HXS
              go_wp2_with fail
              go_roundg (l.length - a6 + (if e6 = 0 then 1 else 0))
              case measure => rw [if_neg HE6.out]; have : a5 ≤ a6 := HMO.out; omega
              case rel => exact ⟨(a6, e6), L5, rfl, HK13, HXS⟩
            subst he6
            by_cases hn0 : n5 = 0
            · have q7 : ((n5 : Int) == 0) = true := by simp [hn0]
              have HXE := Lib.hid (HX5.out.end_ rfl (by rw [HN5.out]; exact hn0) (by rw [HS6.out]) HCN.out (by first | exact HNE.out rfl | exact HNE.out trivial))
              rw [HS6.out] at HXE
              clear hn0
              go_wp2_with fail
              (try rw [Exit.noGoto_ret])
              go_ret
              exact ⟨_, L5, (a6, 0), rfl, HK13.out.o, HK13.out.rr, HK13.out.but, HK13.out.own, HK13.out.len, HXE.out⟩
            have q7 : ((n5 : Int) == 0) = false := by simpa using hn0
            have HTN5 := Lib.hid (show tU l (a5, 0) ≠ 0 by rw [HN5.out]; exact hn0)
            have hr13 : RR B w13 g v l a6 0 := HK13.out.rr
            have f1 := hr13.1.free 1
            have k9 := rr_at hr13
            have HK14 := Lib.hid (HK13.out.call (s6 := (a5, 0)) rfl (hr13.moved a5 (by rw [HNLL.out]; exact ha5)) (only_set (only_refl w13 (some g)) 1 _))
            clear hn0
            go_upto_region 31 with fail
            generalize w13.setCell ⟨g, 1, none⟩ (.int .i64 (a5 : Int)) = w14 at *
            clear f1 k9 k8 HK13 hr13
            have hbB : Below B w w14 := HK14.out.but.below HWB.out (fun x hx => by
              rcases hx with rfl | hx
              · exact HBG.out
              · exact Nat.le_trans HBB.out (HO.out.row.lt x hx).1)
            have hch := HIH.out HD40.out w14 (a5, 0) _ L5 (N : Int) HK14.out.rr rfl HBB.out (Nat.le_trans HBW.out HK14.out.but.1.size) (HTT.out.below hbB) HK14.out.o HK14.out.len
            rw [HTN.out] at hch
            have HCH := Lib.hid hch
            clear hch hbB
            go_wp2_with (go_at_call 57; refine HCH.out.mono ?_; rintro r w15 ⟨u7, L7, s7, rfl, hO7, hR7, hB7, hW7, hl7, hX7⟩; have HK15 := Lib.hid (HK14.out.child hR7 hO7 hB7 hW7 hl7 (fun h => by have := (hX7.more h).2; exact fun e => this (by rw [e]; rfl))); have HX7 := Lib.hid hX7; clear hO7 hR7 hB7 hW7 hl7 hX7)
            go_roundg (l.length - s7.1 + (if s7.2 = 0 then 1 else 0))
            case measure =>
              have h1 : a5 ≤ s7.1 := HX7.out.far
              have h2 : s7.2 = 0 → a5 < s7.1 ∧ _ := HX7.out.more
              have h3 : a5 < l.length := (tU_more HTN5.out).1
              by_cases h4 : s7.2 = 0
              · rw [if_pos h4]; have := (h2 h4).1; omega
              · rw [if_neg h4]; omega
            case rel => exact ⟨s7, L7, rfl, HK15, Lib.hid (HX5.out.child rfl HTN5.out (by rw [HML.out]; exact HX7.out))⟩

end Go.Proofs.YtejicboemkpeoaaGreatDoor

namespace Go.Proofs.YtejicboemkpeoaaGreatDoor
open Go Go.RowKit

theorem rtree_any {B base : Nat} {l : List UInt8} (hlen : l.length ≤ 140737488355000) {wide : Bool} {ta : Option Addr} {tc : Nat} {T : List ALay} (hTl : T.length ≤ 100000) (hTin : ∀ y ∈ T, y.x.l.length ≤ 100000) {g : Nat} {v : Value} : ∀ (k d : Nat), d + k = 41 → Deeper B base l wide ta tc T g v d
  | 0, d, h => rtree_step hlen hTl hTin (by omega) (fun h2 => absurd h2 (by omega))
  | k + 1, d, h => rtree_step hlen hTl hTin (by omega) (fun _ => rtree_any hlen hTl hTin k (d + 1) (by omega))
theorem out_root {l : List UInt8} {wide : Bool} {T : List ALay} {s s' : CSt} {L' : List Ent} (h : Out17 l wide T (-1) 0 s [] L' s') :
    zeroE l s' = zeroE l (rootS (treeW l wide T s [] [-1])) ∧ (zeroE l s' = 0 → L' = (treeW l wide T s [] [-1]).1) := by
  by_cases h0 : tU l s = 0
  · have h1 := h.nul h0
    have hn : (sF (sU l s) 43).2 ≠ 0 := sF_ne _ (by decide)
    have ht : treeW l wide T s [] [-1] = ([], sU l s) := by
      rw [treeW_none (P := [-1]) (s' := sU l s) (by unfold entF; rw [if_pos h0])]
      rfl
    have hr : rootS (treeW l wide T s [] [-1]) = sF (sU l s) 43 := by rw [ht]; rfl
    rw [hr, zeroE_err (by rw [h1]; exact hn), zeroE_err hn, h1]
    exact ⟨rfl, fun e => absurd e hn⟩
  · obtain ⟨h1, h2⟩ := h.go h0 [] rfl
    by_cases hs : s'.2 = 0
    · have ht : treeW l wide T s [] [-1] = (L', s') := h1 hs
      have hr : rootS (treeW l wide T s [] [-1]) = s' := by
        rw [ht]
        exact if_neg (h.more hs).2
      rw [hr, ht]
      exact ⟨rfl, fun _ => rfl⟩
    · have ht := h2 hs
      have hr : (rootS (treeW l wide T s [] [-1])).2 = s'.2 := by
        unfold rootS
        split
        · rw [sF_ref (by rw [ht]; exact hs), ht]
        · exact ht
      rw [zeroE_err hs, zeroE_err (by rw [hr]; exact hs), hr]
      exact ⟨rfl, fun e => absurd e hs⟩

set_option maxRecDepth 10000 in
set_option maxHeartbeats 3200000 in
theorem rdtake_any {w : World} {A : Option Addr} {sec : List UInt8} (hr : Rd w w.heap.size A sec) (c : Nat) (hlc : sec.length ≤ c) (hcm : c ≤ maxLen) (hlen : sec.length ≤ 140737488355000) {ta : Option Addr} {T : List ALay} (hT : Abbs w w.heap.size ta T) (tc : Nat) (hTl : T.length ≤ 100000) (hTin : ∀ y ∈ T, y.x.l.length ≤ 100000) (y : UHd) :
    Calls Tryz.prog 18 #[.slice A sec.length c, .agg #[.int .i64 y.kind, .bool y.wide, .int .u64 (y.ab : Int), .int .u64 (y.sig : Int), .int .u64 (y.ty : Int), .int .u64 (y.off : Int), .int .u64 (y.first : Int), .int .u64 (y.stop : Int)], .slice ta T.length tc] w fun x w' =>
      DieEnd 143 69 w (dieE sec y.wide T y.first y.stop) (dieL sec y.wide T y.first y.stop) x w' := by
  have HR := Lib.hid hr
  have HTT := Lib.hid hT
  have HTL := Lib.hid hTl
  have HTI := Lib.hid hTin
  have HLC := Lib.hid hlc
  have HCM := Lib.hid hcm
  have HLN := Lib.hid hlen
  have HBAD := Lib.hid (@dieE_bad sec y.wide T y.first y.stop)
  have HE := Lib.hid (show dieE sec y.wide T y.first y.stop = if y.stop < y.first ∨ sec.length < y.stop then 2 else zeroE (sec.take y.stop) (rootS (dieR sec y.wide T y.first y.stop)) from rfl)
  have HL := Lib.hid (show dieL sec y.wide T y.first y.stop = if dieE sec y.wide T y.first y.stop = 0 then (dieR sec y.wide T y.first y.stop).1 else [] from rfl)
  have HRR := Lib.hid (show dieR sec y.wide T y.first y.stop = treeW (sec.take y.stop) y.wide T (y.first, 0) [] [-1] from rfl)
  have hb1 := (Below.refl w.heap.size w).alloc (Nat.le_refl _) (.cells #[.int .i64 y.kind, .bool y.wide, .int .u64 (y.ab : Int), .int .u64 (y.sig : Int), .int .u64 (y.ty : Int), .int .u64 (y.off : Int), .int .u64 (y.first : Int), .int .u64 (y.stop : Int)] 45)
  have HX1 := Lib.hid (Box.new w 45 #[.int .i64 y.kind, .bool y.wide, .int .u64 (y.ab : Int), .int .u64 (y.sig : Int), .int .u64 (y.ty : Int), .int .u64 (y.off : Int), .int .u64 (y.first : Int), .int .u64 (y.stop : Int)])
  have HB1 := Lib.hid hb1
  clear hr hT hTl hTin hlc hcm hlen hb1
  generalize dieE sec y.wide T y.first y.stop = E at *
  generalize dieL sec y.wide T y.first y.stop = R at *
  generalize dieR sec y.wide T y.first y.stop = RRt at *
  obtain ⟨tn, htn⟩ : ∃ tn, T.length = tn := ⟨_, rfl⟩
  have HTN := Lib.hid htn
  obtain ⟨n, hn⟩ : ∃ n, sec.length = n := ⟨_, rfl⟩
  have HN := Lib.hid hn
  rw [hn] at HE HBAD HLC HLN
  rw [htn, hn]
  have s1 : IntKind.u64.wrap (n : Int) = (n : Int) := by rw [IntWalk.u64_in _ (by have := HLN.out; omega)]
  clear htn hn
  generalize y.kind = x0 at *
  generalize y.wide = wide at *
  generalize y.ab = x2 at *
  generalize y.sig = x3 at *
  generalize y.ty = x4 at *
  generalize y.off = x5 at *
  generalize y.first = first at *
  generalize y.stop = stop at *
  obtain ⟨b1, hb1⟩ : ∃ b, decide (stop < first) = b := ⟨_, rfl⟩
  obtain ⟨b2, hb2⟩ : ∃ b, decide (n < stop) = b := ⟨_, rfl⟩
  have d1 : decide ((stop : Int) < (first : Int)) = b1 := by rw [← hb1, Bool.eq_iff_iff]; simp
  have d2 : decide ((n : Int) < (stop : Int)) = b2 := by rw [← hb2, Bool.eq_iff_iff]; simp
  have HD := Lib.hid (And.intro hb1 hb2)
  go_enter Tryz.func18, Tryz.ntmps18
  go_upto_region 1 with fail
  generalize w.alloc (.cells #[.int .i64 x0, .bool wide, .int .u64 (x2 : Int), .int .u64 (x3 : Int), .int .u64 (x4 : Int), .int .u64 (x5 : Int), .int .u64 (first : Int), .int .u64 (stop : Int)] 45) = w1 at *
  generalize hHx : w.heap.size = Hx at HX1 ⊢
  clear hHx
  obtain ⟨p0, p1, p2, p3, p4, p5, p6, p7⟩ := eight_cells HX1.out
  rcases (by cases b1 <;> cases b2 <;> simp : b2 = true ∨ (b2 = false ∧ b1 = true) ∨ (b2 = false ∧ b1 = false)) with rfl | ⟨rfl, rfl⟩ | ⟨rfl, rfl⟩
  · obtain ⟨e1, e2⟩ := HBAD.out (.inr (of_decide_eq_true HD.out.2))
    subst e1 e2
    go_wp2_with fail
    go_ret2
    exact ⟨_, [], rfl, OwnD.nil _ _ _ _, rfl, by decide, HB1.out⟩
  · obtain ⟨e1, e2⟩ := HBAD.out (.inl (of_decide_eq_true HD.out.1))
    subst e1 e2
    go_wp2_with fail
    go_ret2
    exact ⟨_, [], rfl, OwnD.nil _ _ _ _, rfl, by decide, HB1.out⟩
  have hle1 : first ≤ stop := by have := of_decide_eq_false HD.out.1; omega
  have hle2 : stop ≤ n := by have := of_decide_eq_false HD.out.2; omega
  have he := HE.out
  rw [if_neg (by omega)] at he
  have HE1 := Lib.hid he
  have hcut := fun W => cut_i64 W (A := A) (n := n) (c := c) (d := stop) (Nat.le_trans hle2 HLC.out)
  have hra := rd_ahead HR.out c stop
  obtain ⟨A2, hA2⟩ : ∃ A2, (if c = 0 then A else Option.map (fun x => x.add 0) A) = A2 := ⟨_, rfl⟩
  rw [hA2] at hra
  simp only [hA2] at hcut
  obtain ⟨l, hl⟩ : ∃ l, sec.take stop = l := ⟨_, rfl⟩
  rw [hl] at hra HE1 HRR
  have hll : l.length = stop := by rw [← hl, List.length_take, HN.out]; omega
  have HLL := Lib.hid hll
  have h2n : stop ≤ 140737488355000 := by have := HLN.out; omega
  have i1 : IntKind.i64.wrap (stop : Int) = (stop : Int) := by rw [IntWalk.i64_in _ (by omega)]
  have i2 : IntKind.i64.wrap (first : Int) = (first : Int) := by rw [IntWalk.i64_in _ (by omega)]
  clear he hA2 hl hll HE HBAD HD hb1 hb2 d1 d2
  have HRA := Lib.hid hra
  clear hra
  go_upto_region 3 with fail
  go_region
  have hb3 : Below w1.heap.size w1 (w1.alloc (.cells #[.slice A2 stop c, .int .i64 (first : Int), .int .i64 0] 140)).drew := ((Below.refl _ _).alloc (Nat.le_refl _) _).drew
  have hX3 := (Box.new w1 140 #[.slice A2 stop c, .int .i64 (first : Int), .int .i64 0]).drew
  generalize (w1.alloc (.cells #[.slice A2 stop c, .int .i64 (first : Int), .int .i64 0] 140)).drew = w3 at *
  have HB03 := Lib.hid (HB1.out.trans (hb3.mono HB1.out.size))
  have HR3 := Lib.hid (show RR w.heap.size w3 w1.heap.size (.slice A2 stop c) l first 0 from ⟨hX3, ⟨A2, c, by rw [HLL.out], by rw [HLL.out]; exact Nat.le_trans hle2 HLC.out, HCM.out, HRA.out.below HB03.out⟩, by rw [HLL.out]; exact hle1, HB1.out.size⟩)
  have HX3 := Lib.hid (HX1.out.below hb3 HX1.out.lt)
  have HGG := Lib.hid (show w.heap.size ≤ w1.heap.size from HB1.out.size)
  have HTR := Lib.hid (rtree_any (B := w.heap.size) (base := w.heap.size) (l := l) (by rw [HLL.out]; exact h2n) (wide := wide) (ta := ta) (tc := tc) HTL.out HTI.out (g := w1.heap.size) (v := .slice A2 stop c) 41 0 rfl)
  have htr := HTR.out w3 (first, 0) (.slice none 0 0) [] (-1) HR3.out rfl (Nat.le_refl _) HB03.out.size (HTT.out.below HB03.out) (OwnD.nil _ _ _ _) (by decide)
  rw [HTN.out] at htr
  have HTC := Lib.hid htr
  clear htr HTR hb3 hX3 p0 p1 p2 p3 p4 p5 p6 p7 hcut i1 i2 HX1 HR3 HRA
  obtain ⟨p0, p1, p2, p3, p4, p5, p6, p7⟩ := eight_cells HX3.out
  generalize w1.heap.size = g at *
  go_upto_region 4 with fail
  go_wp2_with (go_at_call 57; refine HTC.out.mono ?_; rintro r w5 ⟨u5, L5, s5, rfl, hO5, hR5, hB5, -, hN5, hX5⟩; have HO5 := Lib.hid hO5; have HN5 := Lib.hid hN5; have HR5 := Lib.hid hR5; have HX5 := Lib.hid (out_root hX5); have HB05 := Lib.hid (HB03.out.trans (hB5.below HB03.out.size (fun x hx => hx.elim (fun h => by rw [h]; exact HGG.out) (fun h => by cases h)))); clear hO5 hR5 hB5 hN5 hX5)
  obtain ⟨A5, c5, rfl⟩ := un_slc HO5.out.row
  obtain ⟨N, hNN⟩ : ∃ N, L5.length = N := ⟨_, rfl⟩
  rw [hNN] at HO5
  have HNN := Lib.hid hNN
  rw [hNN]
  have HEE := Lib.hid (show zeroE l s5 = E by rw [HE1.out, HRR.out]; exact HX5.out.1)
  have HRL := Lib.hid (show E = 0 → L5.map DLay.ent = R by
    intro h0
    rw [HL.out, if_pos h0, HRR.out]
    exact HX5.out.2 (HEE.out.trans h0))
  have HNO := Lib.hid (show E ≠ 0 → R = [] from fun h0 => by rw [HL.out, if_neg h0])
  have HLE := Lib.hid (show l.length ≤ 140737488355328 by rw [HLL.out]; omega)
  have HUI := Lib.hid (fun (W : World) (s' : CSt) (h : RR w.heap.size W g (.slice A2 stop c) l s'.1 s'.2) => rb_st (s := s') h HLE.out)
  clear hNN HX5 HE1 HRR HL p0 p1 p2 p3 p4 p5 p6 p7 HX3 HTC
  go_loopg [] (l.length - s5.1) (fun gk wr => ∃ (s6 : CSt), gk = l.length - s6.1 ∧ Hid (RR w.heap.size wr g (.slice A2 stop c) l s6.1 s6.2) ∧ Hid (OwnD 143 69 wr w.heap.size (.slice A5 N c5) L5) ∧ Hid (Below w.heap.size w wr) ∧ Hid (zeroE l s6 = E))
  case atStart => exact ⟨s5, rfl, HR5, HO5, HB05, HEE⟩
  case round =>
    obtain ⟨s6, rfl, HR6, HO6, HB6, HE6⟩ := hrel
    clear HR5 HO5 HB05 HEE
    have k1 := rr_e HR6.out
    have k2 := rr_at HR6.out
    have k3 := HR6.out.1.cell 0
    simp at k3
    obtain ⟨a6, e6⟩ := s6
    simp only at k1 k2
    have ha6 : a6 ≤ stop := by have := HR6.out.2.2.1; rwa [HLL.out] at this
    by_cases he : e6 = 0
    rotate_left
    · have q1 : (e6 == 0) = false := by simpa using he
      have q2 : (e6 != 0) = true := by simpa using he
      have HEQ := Lib.hid (show E = e6 by rw [← HE6.out, zeroE_err (s := (a6, e6)) he])
      have HN0 := Lib.hid (HNO.out (by rw [HEQ.out]; exact he))
      clear he
      go_upto_region 5 with fail
      go_quiet (fail)
      go_upto_region 9 with fail
      go_quiet (fail)
      go_wp2_with fail
      go_ret2
      exact ⟨_, [], by rw [HEQ.out]; rfl, OwnD.nil _ _ _ _, by rw [HN0.out]; rfl, by decide, below_drewN HB6.out _⟩
    subst he
    by_cases hlt : a6 < stop
    · have hlt' : a6 < l.length := by rw [HLL.out]; exact hlt
      have d1 : decide ((a6 : Int) < (stop : Int)) = true := by simp; omega
      have d1' : decide (a6 < stop) = true := by simpa using hlt
      have HZN := Lib.hid (@zeroE_next l (a6, 0) rfl hlt')
      have HZB := Lib.hid (@zeroE_bad l (a6, 0) rfl hlt')
      have HSB := Lib.hid (tB_at (l := l) (s := (a6, 0)) rfl hlt').2
      obtain ⟨bv, hbv⟩ : ∃ bv, tB l (a6, 0) = bv := ⟨_, rfl⟩
      rw [hbv] at HZN HZB
      have HUJ := Lib.hid (fun (W : World) (h : RR w.heap.size W g (.slice A2 stop c) l a6 0) => (by have := HUI.out W (a6, 0) h; rw [hbv, HSB.out] at this; exact this : Calls Tryz.prog 58 #[.pointer (some ⟨g, 0, none⟩), .int .i64 1] W fun r w' => r = .returned (.int .u64 (bv : Int)) ∧ RR w.heap.size w' g (.slice A2 stop c) l (a6 + 1) 0 ∧ W.grownBy w' (some g)))
      clear hbv
      by_cases hb : bv = 0
      · have q3 : ((bv : Int) != 0) = false := by simp [hb]
        have HZ := Lib.hid (HZN.out hb)
        rw [HSB.out] at HZ
        clear hb HZN HZB
        go_upto_region 5 with fail
        go_quiet (fail)
        go_wp2_with (go_at_call 58; refine (HUJ.out _ (HR6.out.drewN _)).mono ?_; rintro r w8 ⟨rfl, hR8, hG8⟩; have HR8 := Lib.hid hR8; have HO8 := Lib.hid (un_farD (HO6.out.below (below_drewN (Below.refl _ _) nq)) hG8 HR6.out.1 (by decide) (by decide) (by decide)); have HB8 := Lib.hid ((below_drewN HB6.out nq).grown hG8 HB6.out.size (fun x hx => by injection hx with hx; have := HGG.out; omega)); clear hR8 hG8)
        go_roundg (l.length - (a6 + 1))
        case measure => omega
        case rel => exact ⟨(a6 + 1, 0), rfl, HR8, HO8, HB8, Lib.hid (by rw [HZ.out]; exact HE6.out)⟩
      · have q3 : ((bv : Int) != 0) = true := by simpa using hb
        have HZ := Lib.hid (HZB.out hb)
        clear hb HZN HZB
        go_upto_region 5 with fail
        go_quiet (fail)
        go_upto_region 7 with (go_at_call 58; refine (HUJ.out _ (HR6.out.drewN _)).mono ?_; rintro r w8 ⟨rfl, hR8, hG8⟩; have HR8 := Lib.hid hR8; have HO8 := Lib.hid (un_farD (HO6.out.below (below_drewN (Below.refl _ _) nq)) hG8 HR6.out.1 (by decide) (by decide) (by decide)); have HB8 := Lib.hid ((below_drewN HB6.out nq).grown hG8 HB6.out.size (fun x hx => by injection hx with hx; have := HGG.out; omega)); clear hR8 hG8)
        have f2 := HR8.out.1.free 2
        have k4 := rr_e HR8.out
        have HR9 := Lib.hid (HR8.out.failed 43)
        have G9 := Lib.hid (only_set (only_refl w8 (some g)) 2 (.int .i64 43))
        have HO9 := Lib.hid (un_farD HO8.out G9.out HR8.out.1 (by decide) (by decide) (by decide))
        have HB9 := Lib.hid (HB8.out.grown G9.out HB8.out.size (fun x hx => by injection hx with hx; have := HGG.out; omega))
        go_wp2_with fail
        go_roundg (l.length - (a6 + 1))
        case measure => omega
        case rel => exact ⟨(a6 + 1, 43), rfl, HR9, HO9, HB9, Lib.hid (by rw [← HE6.out, HZ.out]; rfl)⟩
    · have d1 : decide ((a6 : Int) < (stop : Int)) = false := by simp; omega
      have d1' : decide (a6 < stop) = false := by simpa using hlt
      have HE0 := Lib.hid (show E = 0 by rw [← HE6.out]; exact zeroE_end rfl (by rw [HLL.out]; show stop ≤ a6; omega))
      have HRM := Lib.hid (HRL.out HE0.out)
      clear hlt
      go_upto_region 5 with fail
      go_quiet (fail)
      go_wp2_with fail
      go_ret2
      exact ⟨_, L5, by rw [HE0.out]; rfl, HO6.out.below (below_drewN (Below.refl _ _) _), HRM.out, HN5.out, below_drewN HB6.out _⟩

end Go.Proofs.YtejicboemkpeoaaGreatDoor
