/-
  Package group: an object's groups (Take).
-/
import Derived.Test.YtejicboemkpeoaaDoorSyI
import Derived.Test.YtejicboemkpeoaaDoorPoO
import Derived.Deep.Cut
import Derived.Deep.LoopGhost
import Derived.Deep.DeepCutAuto
import Derived.Test.YtejicboemkpeoaaDoorLnK
namespace Go.Proofs.YtejicboemkpeoaaDoor
open Go Go.RowKit

set_option maxRecDepth 10000 in
set_option maxHeartbeats 1600000 in
theorem long_any {w : World} {B : Nat} {aP aY : Option Addr} {P : List Place} {Y : List Named} (cP cY : Nat) (hY : Row 2 Named.cells w B aY Y) (hB : B ≤ w.heap.size) :
    Calls Tryd.prog 5 #[.agg #[.slice aP P.length cP, .slice aY Y.length cY]] w fun r w' => ∃ b : Bool, r = .returned (.bool b) ∧ (b = false → P.length ≤ 250 ∧ Y.length ≤ 250 ∧ ∀ s ∈ Y, s.name.length ≤ 300) ∧ Below w.heap.size w w' := by
  have HY := Lib.hid hY
  have HB := Lib.hid hB
  generalize hN : P.length = N at *
  generalize hM : Y.length = M at *
  have HM := Lib.hid hM
  obtain ⟨w0, hw0⟩ : ∃ w0, w.alloc (.cells #[.slice aP N cP, .slice aY M cY] 25) = w0 := ⟨_, rfl⟩
  have hX := Box.new w 25 #[.slice aP N cP, .slice aY M cY]
  have hb0 : Below w.heap.size w w0 := hw0 ▸ (Below.refl _ _).alloc (Nat.le_refl _) _
  have hs0 : w.heap.size < w0.heap.size := by rw [← hw0]; simp
  rw [hw0] at hX
  have HB0 := Lib.hid hb0
  have HS0 := Lib.hid hs0
  have HW0 := Lib.hid hw0
  have x0 := hX.cell 0
  have x1 := hX.cell 1
  simp at x0 x1
  clear hX hb0 hs0 hw0 hY hB hN hM
  by_cases h1 : N ≤ 250
  · have d1 : ¬ ((250 : Int) < (N : Int)) := by omega
    have d1' : decide ((250 : Int) < (N : Int)) = false := decide_eq_false d1
    by_cases h2 : M ≤ 250
    · have d2 : decide ((250 : Int) < (M : Int)) = false := decide_eq_false (by omega)
      have H1 := Lib.hid h1
      have H2 := Lib.hid h2
      clear h1 d1
      go_enter Tryd.func5, Tryd.ntmps5
      go_upto_region 1 with fail
      rw [HW0.out]
      go_wp2_with fail
      clear d1' d2
      go_loopg [18] M (fun gk i wr => ∃ k : Nat, k ≤ M ∧ gk = M - k ∧ i = .int .i64 k ∧ Hid (∀ j s, j < k → Y[j]? = some s → s.name.length ≤ 300) ∧ Hid (Below w0.heap.size w0 wr))
      case atStart => exact ⟨0, Nat.zero_le _, rfl, rfl, Lib.hid (fun _ _ hj => by omega), Lib.hid (Below.refl _ _)⟩
      case round =>
        obtain ⟨k, hk, rfl, rfl, HS, HBW⟩ := hrel
        by_cases hlt : k < M
        · have HLT := Lib.hid hlt
          obtain ⟨p, hpk⟩ : ∃ p, Y[k]? = some p := ⟨Y[k]'(by rw [HM.out]; exact hlt), List.getElem?_eq_getElem _⟩
          obtain ⟨b, o, rfl, -, c1, c2⟩ := named_at ((HY.out.below (HB0.out.mono HB.out)).below (HBW.out.mono (Nat.le_trans HB.out (Nat.le_of_lt HS0.out)))) hpk
          obtain ⟨w2, hw2⟩ : ∃ w2, wr.alloc (.cells #[.string ⟨p.name.toArray⟩, .int .u64 (p.addr : Int)] 67) = w2 := ⟨_, rfl⟩
          have hX2 := Box.new wr 67 #[.string ⟨p.name.toArray⟩, .int .u64 (p.addr : Int)]
          have hb2 : Below wr.heap.size wr w2 := hw2 ▸ (Below.refl _ _).alloc (Nat.le_refl _) _
          rw [hw2] at hX2
          have HW2 := Lib.hid hw2
          have HB2 := Lib.hid (HBW.out.trans (hb2.mono HBW.out.size))
          have hsz : (ByteArray.mk p.name.toArray).size = p.name.length := rfl
          have HSK := Lib.hid (show p.name.length ≤ 300 → ∀ j s, j < k + 1 → Y[j]? = some s → s.name.length ≤ 300 from fun hs j s hj ho => by
            rcases Nat.lt_or_ge j k with h1 | h1
            · exact HS.out j s h1 ho
            · rw [show j = k by omega, hpk] at ho
              injection ho with ho
              exact ho ▸ hs)
          generalize p.addr = pa at *
          generalize p.name.length = ln at *
          generalize ByteArray.mk p.name.toArray = nm at *
          clear hw2 hb2 hpk
          go_upto_region 6 with fail
          rw [HW2.out]
          have y0 := hX2.cell 0
          simp at y0
          clear c1 c2 HW2 hX2
          by_cases h3 : ln ≤ 300
          · have d3 : decide ((300 : Int) < (ln : Int)) = false := decide_eq_false (by omega)
            have HS3 := Lib.hid (HSK.out h3)
            clear h3
            go_wp2_with fail
            go_roundg (M - (k + 1))
            case measure => exact Nat.sub_succ_lt_self _ _ HLT.out
            case rel => exact ⟨k + 1, HLT.out, rfl, by go_num, HS3, HB2⟩
          · have d3 : decide ((300 : Int) < (ln : Int)) = true := decide_eq_true (by omega)
            clear h3
            go_wp2_with fail
            go_ret
            exact ⟨true, rfl, (fun h => by cases h), HB0.out.trans (HB2.out.mono (Nat.le_of_lt HS0.out))⟩
        · have hkM : k = M := by omega
          subst hkM
          go_wp2_with fail
          go_ret
          exact ⟨false, rfl, fun _ => ⟨H1.out, H2.out, fun s hs => by
            obtain ⟨j, hj⟩ := List.getElem?_of_mem hs
            exact HS.out j s (by have := (List.getElem?_eq_some_iff.1 hj).1; rw [HM.out] at this; exact this) hj⟩, HB0.out.trans (HBW.out.mono (Nat.le_of_lt HS0.out))⟩
    · have d2 : decide ((250 : Int) < (M : Int)) = true := decide_eq_true (by omega)
      clear h1 h2 d1
      go_enter Tryd.func5, Tryd.ntmps5
      go_upto_region 1 with fail
      rw [HW0.out]
      go_wp2_with fail
      go_ret
      exact ⟨true, rfl, (fun h => by cases h), HB0.out⟩
  · have d1 : decide ((250 : Int) < (N : Int)) = true := decide_eq_true (by omega)
    clear h1
    go_enter Tryd.func5, Tryd.ntmps5
    go_upto_region 1 with fail
    rw [HW0.out]
    go_wp2_with fail
    go_ret
    exact ⟨true, rfl, (fun h => by cases h), HB0.out⟩

end Go.Proofs.YtejicboemkpeoaaDoor

namespace Go.Proofs.YtejicboemkpeoaaDoor
open Go Go.RowKit

/-- How things stand behind k sections. -/
structure TakeG (T : TypeId) (w1 w : World) (base mb N : Nat) (v : Value) (L : List GLay) (l : List Grp) (met : List Bool) : Prop where
  list : L.map (·.g) = l
  rows : GSt T w base v L
  met_ : Met w base mb N met
  below : Below base w1 w
section
variable {T : TypeId} {w0 w1 w w' : World} {base mb N : Nat} {v : Value} {L : List GLay} {l : List Grp} {met : List Bool}
theorem TakeG.later (h : TakeG T w1 w base mb N v L l met) (hb : Below w.heap.size w w') (hB : base ≤ w.heap.size) : TakeG T w1 w' base mb N v L l met :=
  ⟨h.list, h.rows.below hb, h.met_.below hb, h.below.trans (hb.mono hB)⟩
/-- A group's bytes were read. -/
theorem TakeG.read (h : TakeG T w1 w base mb N v L l met) (hB : base ≤ w.heap.size) {g : Nat} (hg : w.heap.size = g) (hT : T ≠ 4) {o : Obj} {met' : List Bool} (hM : Met w' base mb N met') (hb : But (ReadP g mb) (w.alloc o) w') : TakeG T w1 w' base mb N v L l met' := by
  have h1 := h.later ((Below.refl w.heap.size w).alloc (Nat.le_refl _) o) hB
  obtain ⟨cs, f, hh⟩ := h1.met_.box
  have hlt := h.met_.lt
  refine ⟨h.list, h1.rows.but hb (fun k hk => ?_) (fun x hx k hk => ?_), hM, h1.below.trans (hb.below (by have := h.met_.lt; simp; omega) (fun k hk => ?_))⟩
  · rintro (rfl | rfl)
    · have := (h.rows.row.lt k hk).2; omega
    · exact row_other h1.rows.row hh hT k hk rfl
  · rintro (rfl | rfl)
    · have := ((h.rows.mem x hx).lt k hk).2; omega
    · exact row_other (h1.rows.mem x hx) hh (by decide) k hk rfl
  · rcases hk with rfl | rfl
    · omega
    · omega
/-- A group more. -/
theorem TakeG.more (h : TakeG T w1 w base mb N v L l met) (hB : base ≤ w.heap.size) (hT : 3 ≠ T) (hT2 : T ≠ 4) {x : GLay} (hx : OwnM w base (.slice x.a x.g.mem.length x.c) x.g.mem) {o : Obj} {v' : Value} (hown : w'.ownsRow base T 4 v' (L.length + 1) (cellsF GLay.cells L ++ x.cells)) (hg : (w.alloc o).grownBy w' v.ownBlock) : TakeG T w1 w' base mb N v' (L ++ [x]) (l ++ [x.g]) met := by
  have hb : Below w.heap.size w (w.alloc o) := (Below.refl w.heap.size w).alloc (Nat.le_refl _) o
  have h1 := h.later hb hB
  obtain ⟨cs, f, hh⟩ := h1.met_.box
  exact ⟨by simp [h.list], h1.rows.more (row_below hx hb) hT hown hg, h1.met_.grown hg (fun e => row_other h1.rows.row hh hT2 _ e.symm rfl), h1.below.trans (below_of_only hg (by have := hb.size; omega) (fun k hk => (h1.rows.row.lt k hk).1))⟩
end

end Go.Proofs.YtejicboemkpeoaaDoor
