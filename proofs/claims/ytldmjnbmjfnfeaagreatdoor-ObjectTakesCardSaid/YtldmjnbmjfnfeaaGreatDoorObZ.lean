/-
  The document's Same of objects, where they are alike.
-/
import Derived.Test.YtldmjnbmjfnfeaaGreatDoorObR
import Derived.Test.YtldmjnbmjfnfeaaGreatDoorSeZ
import Derived.Test.YtldmjnbmjfnfeaaGreatDoorObB
import Derived.Deep.DeepCutAuto
import Derived.Deep.LoopGhost
namespace Go.Proofs.YtldmjnbmjfnfeaaGreatDoor
open Go Go.RowKit

/-- What two objects that are alike have. -/
structure ObjV.Like (o o' : ObjV) : Prop where
  kind : o'.kind = o.kind
  machine : o'.machine = o.machine
  secs : sameAll (secsOf o.L) (secsOf o'.L) = true
  syms : o'.Y = o.Y
  lists : ∀ k : Nat, ((o.Q.map (·.l))[k]?).getD [] = ((o'.Q.map (·.l))[k]?).getD []

set_option maxRecDepth 10000 in
set_option maxHeartbeats 6400000 in
theorem osame_any {w : World} (o o' : ObjV) (h : o.Ok w w.heap.size) (h' : o'.Ok w w.heap.size) (hA : o.Like o') (hS : o.L.length ≤ 100000) (hY : o.Y.length ≤ 100000) (hQ : o.Q.length ≤ 100000) (hQ' : o'.Q.length ≤ 100000) (hq : ∀ q ∈ o.Q, q.l.length ≤ 100000) :
    Calls Tryz.prog 9 #[o.val, o'.val] w fun r w' => r = .returned (.bool true) ∧ Below w.heap.size w w' := by
  obtain ⟨kd0, mc0, aS, cS, L, aY, cY, Y0, aR, cR, Q⟩ := o
  obtain ⟨kd, mc, bS, eS, M, bY, eY, Y, bR, eR, P⟩ := o'
  obtain ⟨a1, a2, a3, a4, a5⟩ := hA
  simp only at a1 a2 a4
  subst a1 a2 a4
  have hN : M.length = L.length := by
    have h3 := a3
    unfold sameAll at h3
    simp only [Bool.and_eq_true, decide_eq_true_eq] at h3
    have := h3.1
    simp only [secsOf, List.length_map] at this
    omega
  rw [show ObjV.val ⟨kd, mc, aS, cS, L, aY, cY, Y, aR, cR, Q⟩ = .agg #[.int .i64 kd, .int .i64 mc, .slice aS L.length cS, .slice aY Y.length cY, .slice aR Q.length cR] from rfl, show ObjV.val ⟨kd, mc, bS, eS, M, bY, eY, Y, bR, eR, P⟩ = .agg #[.int .i64 kd, .int .i64 mc, .slice bS M.length eS, .slice bY Y.length eY, .slice bR P.length eR] from rfl]
  obtain ⟨hs, hy, hl, -, -⟩ := h
  obtain ⟨hs', hy', hl', -, -⟩ := h'
  simp only at hs hy hl hs' hy' hl' hS hY hQ hQ' hq a3 a5 ⊢
  rw [hN]
  generalize hny : Y.length = ny at *
  generalize hnl : L.length = N at *
  generalize hna : Q.length = na at *
  generalize hnb : P.length = nb at *
  have hb1 : Below w.heap.size w (w.alloc (.cells #[.int .i64 kd, .int .i64 mc, .slice aS N cS, .slice aY ny cY, .slice aR na cR] 32)) := (Below.refl _ _).alloc (Nat.le_refl _) _
  have hb0 := hb1.alloc (by simp) (.cells #[.int .i64 kd, .int .i64 mc, .slice bS N eS, .slice bY ny eY, .slice bR nb eR] 32)
  have hX1 := (Box.new w 32 #[.int .i64 kd, .int .i64 mc, .slice aS N cS, .slice aY ny cY, .slice aR na cR]).below ((Below.refl _ _).alloc (Nat.le_refl _) (.cells #[.int .i64 kd, .int .i64 mc, .slice bS N eS, .slice bY ny eY, .slice bR nb eR] 32)) (by simp)
  have hX2 := Box.new (w.alloc (.cells #[.int .i64 kd, .int .i64 mc, .slice aS N cS, .slice aY ny cY, .slice aR na cR] 32)) 32 #[.int .i64 kd, .int .i64 mc, .slice bS N eS, .slice bY ny eY, .slice bR nb eR]
  rw [show (w.alloc (.cells #[.int .i64 kd, .int .i64 mc, .slice aS N cS, .slice aY ny cY, .slice aR na cR] 32)).heap.size = w.heap.size + 1 by simp] at hX2
  have hlt1 : w.heap.size < ((w.alloc (.cells #[.int .i64 kd, .int .i64 mc, .slice aS N cS, .slice aY ny cY, .slice aR na cR] 32)).alloc (.cells #[.int .i64 kd, .int .i64 mc, .slice bS N eS, .slice bY ny eY, .slice bR nb eR] 32)).heap.size := by simp; omega
  have hlt2 : w.heap.size + 1 < ((w.alloc (.cells #[.int .i64 kd, .int .i64 mc, .slice aS N cS, .slice aY ny cY, .slice aR na cR] 32)).alloc (.cells #[.int .i64 kd, .int .i64 mc, .slice bS N eS, .slice bY ny eY, .slice bR nb eR] 32)).heap.size := by simp
  have HSM := Lib.hid (rsame_any (hs.below hb0) (hs'.below hb0) hb0.size cS eS (by rw [hnl]; exact hS))
  rw [a3, hnl, hN] at HSM
  have HSY := Lib.hid (fun W (hW : Below w.heap.size w W) => ysame_any (w := W) (Row.below hy hW) (Row.below hy' hW) hW.size cY eY (by rw [hny]; exact hY))
  rw [alikeL_refl sameY_refl, hny] at HSY
  have HL := Lib.hid hl
  have HL' := Lib.hid hl'
  have HB0 := Lib.hid hb0
  have HNA := Lib.hid hna
  have HNB := Lib.hid hnb
  have HA5 := Lib.hid a5
  have HQL := Lib.hid hq
  clear hs hy hl hs' hy' hl' hb0 hb1 hny hnl hna hnb a3 a5 hN hq
  have KX := Lib.hid (fun W (hW : Below ((w.alloc (.cells #[.int .i64 kd, .int .i64 mc, .slice aS N cS, .slice aY ny cY, .slice aR na cR] 32)).alloc (.cells #[.int .i64 kd, .int .i64 mc, .slice bS N eS, .slice bY ny eY, .slice bR nb eR] 32)).heap.size ((w.alloc (.cells #[.int .i64 kd, .int .i64 mc, .slice aS N cS, .slice aY ny cY, .slice aR na cR] 32)).alloc (.cells #[.int .i64 kd, .int .i64 mc, .slice bS N eS, .slice bY ny eY, .slice bR nb eR] 32)) W) => And.intro (five_cells (hX1.below hW hlt1)) (five_cells (hX2.below hW hlt2)))
  clear hX1 hX2
  obtain ⟨⟨x0, x1, x2, x3, x4⟩, y0, y1, y2, y3, y4⟩ := KX.out _ (Below.refl _ _)
  go_enter Tryz.func9, Tryz.ntmps9
  go_wp2_with fail
  refine HSM.out.mono ?_
  rintro r w1 ⟨rfl, hb1⟩
  clear x0 x1 x2 x3 x4 y0 y1 y2 y3 y4 HSM
  generalize ((w.alloc (.cells #[.int .i64 kd, .int .i64 mc, .slice aS N cS, .slice aY ny cY, .slice aR na cR] 32)).alloc (.cells #[.int .i64 kd, .int .i64 mc, .slice bS N eS, .slice bY ny eY, .slice bR nb eR] 32)) = w0 at *
  obtain ⟨⟨x0, x1, x2, x3, x4⟩, y0, y1, y2, y3, y4⟩ := KX.out _ hb1
  have HB1 := Lib.hid hb1
  have HSY1 := Lib.hid (HSY.out _ (HB0.out.trans (hb1.mono HB0.out.size)))
  clear hb1 HSY
  go_wp2_with fail
  refine HSY1.out.mono ?_
  rintro r w2 ⟨rfl, hb2⟩
  clear x0 x1 x2 x3 x4 y0 y1 y2 y3 y4 HSY1
  have HB2 := Lib.hid (HB1.out.trans (hb2.mono HB1.out.size))
  obtain ⟨⟨x0, x1, x2, x3, x4⟩, y0, y1, y2, y3, y4⟩ := KX.out _ HB2.out
  clear hb2
  go_wp2_with fail
  go_loopg [5] (max na nb) (fun gk i wx => ∃ k : Nat, k ≤ max na nb ∧ gk = max na nb - k ∧ i = .int .i64 k ∧ Below w0.heap.size w0 wx)
  case atStart => exact ⟨0, Nat.zero_le _, rfl, rfl, HB2.out⟩
  case round =>
    obtain ⟨k, hk, rfl, rfl, hb3⟩ := hrel
    have HB3 := Lib.hid hb3
    clear x0 x1 x2 x3 x4 y0 y1 y2 y3 y4
    obtain ⟨⟨x0, x1, x2, x3, x4⟩, y0, y1, y2, y3, y4⟩ := KX.out _ hb3
    have hbw : Below w.heap.size w wr := HB0.out.trans (hb3.mono HB0.out.size)
    by_cases ha : k < na
    · obtain ⟨q, hq⟩ : ∃ q, Q[k]? = some q := ⟨Q[k]'(by rw [HNA.out]; exact ha), List.getElem?_eq_getElem _⟩
      have hLw := HL.out.below hbw
      obtain ⟨b2, o2, rfl, hb2, c0⟩ := hLw.at_ hq
      have hmx : k < max na nb := by omega
      have HMX := Lib.hid hmx
      have hqm := List.mem_of_getElem? hq
      by_cases hb : k < nb
      · obtain ⟨p, hp⟩ : ∃ p, P[k]? = some p := ⟨P[k]'(by rw [HNB.out]; exact hb), List.getElem?_eq_getElem _⟩
        have hLw' := HL'.out.below hbw
        obtain ⟨b3, o3, rfl, hb3', c3⟩ := hLw'.at_ hp
        have he : q.l = p.l := by
          have := HA5.out k
          rw [List.getElem?_map, List.getElem?_map, hq, hp] at this
          exact this
        have HR := Lib.hid (yrsame_any ((hLw.rels q hqm)) (hLw'.rels p (List.mem_of_getElem? hp)) hbw.size q.c p.c (HQL.out q hqm))
        rw [he, alikeL_refl sameR_refl, ← he] at HR
        rw [← he] at c3
        clear hq hp hLw hLw' he hb3 hbw hqm hmx
        go_wp2_with fail
        refine HR.out.mono ?_
        rintro r w4 ⟨rfl, hb4⟩
        have HB4 := Lib.hid (HB3.out.trans (hb4.mono HB3.out.size))
        clear hb4 HR
        go_wp2_with fail
        go_roundg (max na nb - (k + 1))
        case measure => have := HMX.out; omega
        case rel => exact ⟨k + 1, HMX.out, rfl, by go_num, HB4.out⟩
      · have he : q.l = [] := by
          have := HA5.out k
          rw [List.getElem?_map, List.getElem?_map, hq, List.getElem?_eq_none (l := P) (by rw [HNB.out]; omega)] at this
          exact this
        have HR := Lib.hid (show Calls Tryz.prog 29 #[.slice q.a q.l.length q.c, .slice none 0 0] wr (fun r w' => r = .returned (.bool true) ∧ Below wr.heap.size wr w') from (yrsame_any ((hLw.rels q hqm)) (show Rels wr w.heap.size none [] from fun h => absurd h (by decide)) hbw.size q.c 0 (HQL.out q hqm)).mono fun r w' h => ⟨by rw [h.1]; rw [he, alikeL_refl sameR_refl], h.2⟩)
        clear hq hLw he hb3 hbw hqm hmx
        go_wp2_with fail
        refine HR.out.mono ?_
        rintro r w4 ⟨rfl, hb4⟩
        have HB4 := Lib.hid (HB3.out.trans (hb4.mono HB3.out.size))
        clear hb4 HR
        go_wp2_with fail
        go_roundg (max na nb - (k + 1))
        case measure => have := HMX.out; omega
        case rel => exact ⟨k + 1, HMX.out, rfl, by go_num, HB4.out⟩
    · by_cases hb : k < nb
      · obtain ⟨p, hp⟩ : ∃ p, P[k]? = some p := ⟨P[k]'(by rw [HNB.out]; exact hb), List.getElem?_eq_getElem _⟩
        have hLw' := HL'.out.below hbw
        obtain ⟨b3, o3, rfl, hb3', c3⟩ := hLw'.at_ hp
        have hmx : k < max na nb := by omega
        have HMX := Lib.hid hmx
        have he : [] = p.l := by
          have := HA5.out k
          rw [List.getElem?_map, List.getElem?_map, hp, List.getElem?_eq_none (l := Q) (by rw [HNA.out]; omega)] at this
          exact this
        have HR := Lib.hid (show Calls Tryz.prog 29 #[.slice none 0 0, .slice p.a p.l.length p.c] wr (fun r w' => r = .returned (.bool true) ∧ Below wr.heap.size wr w') from (yrsame_any (show Rels wr w.heap.size none [] from fun h => absurd h (by decide)) (hLw'.rels p (List.mem_of_getElem? hp)) hbw.size 0 p.c (by decide)).mono fun r w' h => ⟨by rw [h.1]; rw [← he, alikeL_refl sameR_refl], h.2⟩)
        clear hp hLw' he hb3 hbw hmx
        go_wp2_with fail
        refine HR.out.mono ?_
        rintro r w4 ⟨rfl, hb4⟩
        have HB4 := Lib.hid (HB3.out.trans (hb4.mono HB3.out.size))
        clear hb4 HR
        go_wp2_with fail
        go_roundg (max na nb - (k + 1))
        case measure => have := HMX.out; omega
        case rel => exact ⟨k + 1, HMX.out, rfl, by go_num, HB4.out⟩
      · clear hb3 hbw
        go_wp2_with fail
        go_ret
        exact ⟨rfl, HB0.out.trans (HB3.out.mono HB0.out.size)⟩

end Go.Proofs.YtldmjnbmjfnfeaaGreatDoor
