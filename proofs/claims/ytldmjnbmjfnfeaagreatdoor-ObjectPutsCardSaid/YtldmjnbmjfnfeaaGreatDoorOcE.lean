/-
  ObjectPuts: an object is put as the document has it.
-/
import Derived.Test.YtldmjnbmjfnfeaaGreatDoorObY
import Derived.Test.YtldmjnbmjfnfeaaGreatDoorSyP
import Derived.Test.YtldmjnbmjfnfeaaGreatDoorSpA
import Derived.Test.YtldmjnbmjfnfeaaGreatDoorObB
import Derived.Deep.DeepCutAuto
import Derived.Deep.LoopGhost
import Derived.Test.YtldmjnbmjfnfeaaGreatDoorObV
import Derived.Test.YtldmjnbmjfnfeaaGreatDoorSpD
import Derived.RegionTactic
import Derived.BigRegion
import Derived.ChangeAlike
import Derived.Test.YtldmjnbmjfnfeaaGreatDoorObW
namespace Go.Proofs.YtldmjnbmjfnfeaaGreatDoor
open Go Go.RowKit

theorem Lists.take {w : World} {B : Nat} {a : Option Addr} {Q : List RLay} (h : Lists w B a Q) (n : Nat) : Lists w B a (Q.take n) :=
  ⟨fun hl => by
    obtain ⟨b, o, e, hlt, hc⟩ := h.row (by simp at hl; omega)
    exact ⟨b, o, e, hlt, fun i x hx j v hv => hc i x (by
      have hi : i < (Q.take n).length := (List.getElem?_eq_some_iff.1 hx).1
      rw [List.getElem?_take] at hx
      split at hx
      · exact hx
      · cases hx) j v hv⟩, fun q hq => h.rels q (List.mem_of_mem_take hq)⟩
theorem ObjV.In.ok {w : World} {B : Nat} {o : ObjV} (h : o.In w B) (hs : o.Small) : o.Ok w B :=
  ⟨h.secs.secs (fun x hx => ⟨Nat.le_trans (hs.s x hx).1 (by decide), Nat.le_trans (hs.s x hx).2 (by decide)⟩), h.syms, h.lists, h.capS, h.capR⟩
theorem ObjV.Small.bulk {o : ObjV} (h : o.Small) : o.Bulk :=
  ⟨Nat.le_trans h.S (by decide), fun x hx => Nat.le_trans (h.s x hx).2 (by decide), by have := h.Y; omega, by have := h.Y; omega, Nat.le_trans h.Q (by decide), fun q hq => Nat.le_trans (h.q q hq) (by decide)⟩
theorem SecsIn.more {w : World} {B B' : Nat} {a : Option Addr} {L : List Lay} (h : SecsIn w B a L) (hB : B ≤ B') : SecsIn w B' a L :=
  ⟨fun hl => by
    obtain ⟨b, o, e, hlt, hc⟩ := h.row hl
    exact ⟨b, o, e, by omega, hc⟩, fun x hx => ⟨(h.rd x hx).1.more hB, (h.rd x hx).2⟩⟩
theorem ObjV.In.below {w w' : World} {B : Nat} {o : ObjV} (h : o.In w B) (hb : Below B w w') : o.In w' B := ⟨h.secs.below hb, Row.below h.syms hb, h.lists.below hb, h.capS, h.capR, h.numY, h.numQ⟩
theorem ObjV.In.more {w : World} {B B' : Nat} {o : ObjV} (h : o.In w B) (hB : B ≤ B') : o.In w B' := ⟨h.secs.more hB, Row.more h.syms hB, h.lists.more hB, h.capS, h.capR, h.numY, h.numQ⟩

end Go.Proofs.YtldmjnbmjfnfeaaGreatDoor

namespace Go.Proofs.YtldmjnbmjfnfeaaGreatDoor
open Go Go.RowKit

theorem ObjV.In.word {w : World} {B : Nat} {o : ObjV} (h : o.In w B) (hs : o.Small) : o.Word :=
  ⟨fun x hx => ⟨by have h1 := name_sum hx; have := hs.Y; omega, (h.numY x hx).value, (h.numY x hx).size⟩, fun q hq r hr => (h.numQ q hq r hr).off⟩
theorem nine_cells9 {W : World} {H : Nat} {T : TypeId} {c0 c1 c2 c3 c4 c5 c6 c7 c8 : Value} (h : Box W H T #[c0, c1, c2, c3, c4, c5, c6, c7, c8]) : W.cell? ⟨H, 0, none⟩ = some c0 ∧ W.cell? ⟨H, 1, none⟩ = some c1 ∧ W.cell? ⟨H, 2, none⟩ = some c2 ∧ W.cell? ⟨H, 3, none⟩ = some c3 ∧ W.cell? ⟨H, 4, none⟩ = some c4 ∧ W.cell? ⟨H, 5, none⟩ = some c5 ∧ W.cell? ⟨H, 6, none⟩ = some c6 ∧ W.cell? ⟨H, 7, none⟩ = some c7 ∧ W.cell? ⟨H, 8, none⟩ = some c8 := by
  refine ⟨?_, ?_, ?_, ?_, ?_, ?_, ?_, ?_, ?_⟩ <;> (rw [h.cell]; rfl)

set_option maxRecDepth 10000 in
set_option maxHeartbeats 12800000 in
theorem oputs_walk (o : ObjV) (sb : ByteArray) (sk : Int) (fl : Nat) (d3 d4 d5 d6 d7 d8 : Value) (w : World) (h : o.In w w.heap.size) (hfl : fl < two64) (hM : Mg w) :
    Calls Tryz.prog 4 #[o.val, .agg #[.string sb, .int .i64 sk, .int .u64 (fl : Int), d3, d4, d5, d6, d7, d8]] w fun e w' => e = .returned (.bool true) ∧ Below w.heap.size w w' := by
  have hMp := hM.pos
  have HW := Lib.hid (fun W (hW : Below w.heap.size w W) => oworks_any (w := W) (hM.below hW hMp))
  have HBK := Lib.hid (fun W (hW : Below w.heap.size w W) => obulk_any (w := W) o ((h.below hW).more hW.size) (fun _ _ _ _ _ h1 h2 => h1.below h2))
  have HPU := Lib.hid (fun W (hW : Below w.heap.size w W) (hs : o.Small) => oput_any (w := W) o (((h.below hW).more hW.size).ok hs) hs.bulk (hM.below hW hMp))
  have HRP := Lib.hid (fun W (hW : Below w.heap.size w W) (hs : o.Small) => roput_any (w := W) o (((h.below hW).more hW.size).ok hs) hs.bulk (h.word hs))
  have HRT := Lib.hid (fun W (hW : Below w.heap.size w W) (hs : o.Small) => oright_any (w := W) o (((h.below hW).more hW.size).ok hs) (Nat.le_trans hs.bulk.S (by decide)) (Nat.le_trans hs.bulk.Y (by decide)) (Nat.le_trans hs.bulk.Q (by decide)) hs.bulk.q)
  have HRR := Lib.hid (fun W (hW : Below w.heap.size w W) (hs : o.Small) => roright_any (w := W) o (((h.below hW).more hW.size).ok hs) (Nat.le_trans hs.bulk.S (by decide)) (Nat.le_trans hs.bulk.Y (by decide)) (Nat.le_trans hs.bulk.Q (by decide)) hs.bulk.q (fun x hx => ((h.word hs).nm x hx).1))
  have HD := Lib.hid (fun W => debug_any sb sk fl d3 d4 d5 d6 d7 d8 hfl W)
  have HRD := Lib.hid (fun W => rdebug_any sb sk fl d3 d4 d5 d6 d7 d8 hfl W)
  have HA := Lib.hid (fun W => alloc_any (.string sb) sk fl d3 d4 d5 d6 d7 d8 hfl W)
  have HRA := Lib.hid (fun W => ralloc_any (.string sb) sk fl d3 d4 d5 d6 d7 d8 hfl W)
  obtain ⟨kd, mc, aS, cS, L, aY, cY, Y, aR, cR, Q⟩ := o
  rw [show ObjV.val ⟨kd, mc, aS, cS, L, aY, cY, Y, aR, cR, Q⟩ = .agg #[.int .i64 kd, .int .i64 mc, .slice aS L.length cS, .slice aY Y.length cY, .slice aR Q.length cR] from rfl] at HBK HPU HRP HRT HRR ⊢
  simp only at HPU HRP HRT HRR
  clear h hM hfl
  generalize ObjV.Small ⟨kd, mc, aS, cS, L, aY, cY, Y, aR, cR, Q⟩ = SM at *
  generalize oputE kd mc (secsOf L) Y (Q.map (·.l)) = ee at *
  generalize oputR kd mc (secsOf L) Y (Q.map (·.l)) = tl at *
  generalize rightO (secsOf L) Y (Q.map (·.l)) = rs at *
  generalize L.length = N at *
  generalize Y.length = ny at *
  generalize Q.length = nr at *
  generalize dbgB sk fl sb = db at *
  generalize memB fl = mb at *
  have hb1 : Below w.heap.size w (w.alloc (.cells #[.int .i64 kd, .int .i64 mc, .slice aS N cS, .slice aY ny cY, .slice aR nr cR] 32)) := (Below.refl _ _).alloc (Nat.le_refl _) _
  have hb0 : Below w.heap.size w ((w.alloc (.cells #[.int .i64 kd, .int .i64 mc, .slice aS N cS, .slice aY ny cY, .slice aR nr cR] 32)).alloc (.cells #[.string sb, .int .i64 sk, .int .u64 (fl : Int), d3, d4, d5, d6, d7, d8] 39)) := hb1.alloc (by simp) _
  have hX1 := (Box.new w 32 #[.int .i64 kd, .int .i64 mc, .slice aS N cS, .slice aY ny cY, .slice aR nr cR]).below ((Below.refl _ _).alloc (Nat.le_refl _) (.cells #[.string sb, .int .i64 sk, .int .u64 (fl : Int), d3, d4, d5, d6, d7, d8] 39)) (by simp)
  have hX2 := Box.new (w.alloc (.cells #[.int .i64 kd, .int .i64 mc, .slice aS N cS, .slice aY ny cY, .slice aR nr cR] 32)) 39 #[.string sb, .int .i64 sk, .int .u64 (fl : Int), d3, d4, d5, d6, d7, d8]
  rw [show (w.alloc (.cells #[.int .i64 kd, .int .i64 mc, .slice aS N cS, .slice aY ny cY, .slice aR nr cR] 32)).heap.size = w.heap.size + 1 by simp] at hX2
  have hlt1 : w.heap.size < ((w.alloc (.cells #[.int .i64 kd, .int .i64 mc, .slice aS N cS, .slice aY ny cY, .slice aR nr cR] 32)).alloc (.cells #[.string sb, .int .i64 sk, .int .u64 (fl : Int), d3, d4, d5, d6, d7, d8] 39)).heap.size := by simp; omega
  have hlt2 : w.heap.size + 1 < ((w.alloc (.cells #[.int .i64 kd, .int .i64 mc, .slice aS N cS, .slice aY ny cY, .slice aR nr cR] 32)).alloc (.cells #[.string sb, .int .i64 sk, .int .u64 (fl : Int), d3, d4, d5, d6, d7, d8] 39)).heap.size := by simp
  have HB0 := Lib.hid hb0
  have KX := Lib.hid (fun W (hW : Below ((w.alloc (.cells #[.int .i64 kd, .int .i64 mc, .slice aS N cS, .slice aY ny cY, .slice aR nr cR] 32)).alloc (.cells #[.string sb, .int .i64 sk, .int .u64 (fl : Int), d3, d4, d5, d6, d7, d8] 39)).heap.size ((w.alloc (.cells #[.int .i64 kd, .int .i64 mc, .slice aS N cS, .slice aY ny cY, .slice aR nr cR] 32)).alloc (.cells #[.string sb, .int .i64 sk, .int .u64 (fl : Int), d3, d4, d5, d6, d7, d8] 39)) W) => And.intro (five_cells (hX1.below hW hlt1)) (nine_cells9 (hX2.below hW hlt2)))
  clear hb0 hb1 hX1 hX2
  obtain ⟨⟨x0, x1, x2, x3, x4⟩, y0, y1, y2, y3, y4, y5, y6, y7, y8⟩ := KX.out _ (Below.refl _ _)
  have HBK1 := Lib.hid (HBK.out _ HB0.out)
  go_enter Tryz.func4, Tryz.ntmps4
  go_wp2_with fail
  refine HBK1.out.mono ?_
  rintro r w2 ⟨n, rfl, hsm, hb2⟩
  clear x0 x1 x2 x3 x4 y0 y1 y2 y3 y4 y5 y6 y7 y8 HBK HBK1
  generalize ((w.alloc (.cells #[.int .i64 kd, .int .i64 mc, .slice aS N cS, .slice aY ny cY, .slice aR nr cR] 32)).alloc (.cells #[.string sb, .int .i64 sk, .int .u64 (fl : Int), d3, d4, d5, d6, d7, d8] 39)) = w0 at *
  obtain ⟨⟨x0, x1, x2, x3, x4⟩, y0, y1, y2, y3, y4, y5, y6, y7, y8⟩ := KX.out _ hb2
  have HB2 := Lib.hid hb2
  have HSL := Lib.hid hsm
  have HU2 := Lib.hid (HB0.out.trans (hb2.mono HB0.out.size))
  clear hb2 hsm
  by_cases hn : 6000 < n
  · have hd : decide (6000 < n) = true := decide_eq_true hn
    have HW2 := Lib.hid (HW.out _ HU2.out)
    go_wp2_with fail
    refine HW2.out.mono ?_
    rintro r w3 ⟨rfl, hb3⟩
    have HB3 := Lib.hid (HU2.out.trans (hb3.mono HU2.out.size))
    clear hb3
    go_wp2_with fail
    go_ret
    exact ⟨rfl, HB3.out⟩
  · have hd : decide (6000 < n) = false := decide_eq_false hn
    have HSA := Lib.hid (HSL.out (by omega))
    have HPU1 := Lib.hid (HPU.out _ HU2.out HSA.out)
    clear HPU HSL hn
    go_wp2_with fail
    refine HPU1.out.mono ?_
    rintro r w3 ⟨v3, rfl, ho3, hb3⟩
    obtain ⟨A3, c3, rfl, _, _, _⟩ := own_slice ho3
    have HO3 := Lib.hid ho3
    have HB3 := Lib.hid (HB2.out.trans (hb3.mono HB2.out.size))
    have HU3 := Lib.hid (HU2.out.trans (hb3.mono HU2.out.size))
    have HRP1 := Lib.hid (HRP.out _ HU3.out HSA.out)
    clear ho3 hb3 HPU1 HRP x0 x1 x2 x3 x4 y0 y1 y2 y3 y4 y5 y6 y7 y8 hd
    obtain ⟨⟨x0, x1, x2, x3, x4⟩, y0, y1, y2, y3, y4, y5, y6, y7, y8⟩ := KX.out _ HB3.out
    go_wp2_with fail
    refine HRP1.out.mono ?_
    rintro r w4 ⟨v4, rfl, ho4, hb4⟩
    obtain ⟨A4, c4, rfl, _, _, _⟩ := own_slice ho4
    have HO4 := Lib.hid ho4
    have HO34 := Lib.hid (own_below HO3.out hb4)
    have HB4 := Lib.hid (HB3.out.trans (hb4.mono HB3.out.size))
    have HU4 := Lib.hid (HU3.out.trans (hb4.mono HU3.out.size))
    obtain ⟨st, hst⟩ : ∃ s : ByteArray, s = ⟨tl.toArray⟩ := ⟨_, rfl⟩
    clear ho4 hb4 HRP1 x0 x1 x2 x3 x4 y0 y1 y2 y3 y4 y5 y6 y7 y8
    have HUP := Lib.hid (fun W (hW : Below w4.heap.size w4 W) => HU4.out.trans (hW.mono HU4.out.size))
    have HRT4 := Lib.hid (fun W (hW : Below w4.heap.size w4 W) => (show Calls Tryz.prog 13 #[.agg #[.int .i64 kd, .int .i64 mc, .slice aS N cS, .slice aY ny cY, .slice aR nr cR]] W (fun r w' => r = .returned (.bool rs) ∧ Below w4.heap.size w4 w') from (HRT.out W (HUP.out W hW) HSA.out).mono fun r w' ⟨h1, h2⟩ => ⟨h1, hW.trans (h2.mono hW.size)⟩))
    have HRR4 := Lib.hid (fun W (hW : Below w4.heap.size w4 W) => (show Calls Tryz.prog 14 #[.agg #[.int .i64 kd, .int .i64 mc, .slice aS N cS, .slice aY ny cY, .slice aR nr cR]] W (fun r w' => r = .returned (.bool rs) ∧ Below w4.heap.size w4 w') from (HRR.out W (HUP.out W hW) HSA.out).mono fun r w' ⟨h1, h2⟩ => ⟨h1, hW.trans (h2.mono hW.size)⟩))
    have HD4 := Lib.hid (fun W (hW : Below w4.heap.size w4 W) => (show Calls Tryz.prog 15 #[.agg #[.string sb, .int .i64 sk, .int .u64 (fl : Int), d3, d4, d5, d6, d7, d8]] W (fun r w' => r = .returned (.bool db) ∧ Below w4.heap.size w4 w') from (HD.out W).mono fun r w' ⟨h1, h2⟩ => ⟨h1, hW.trans (h2.mono hW.size)⟩))
    have HRD4 := Lib.hid (fun W (hW : Below w4.heap.size w4 W) => (show Calls Tryz.prog 16 #[.agg #[.string sb, .int .i64 sk, .int .u64 (fl : Int), d3, d4, d5, d6, d7, d8]] W (fun r w' => r = .returned (.bool db) ∧ Below w4.heap.size w4 w') from (HRD.out W).mono fun r w' ⟨h1, h2⟩ => ⟨h1, hW.trans (h2.mono hW.size)⟩))
    have HA4 := Lib.hid (fun W (hW : Below w4.heap.size w4 W) => (show Calls Tryz.prog 17 #[.agg #[.string sb, .int .i64 sk, .int .u64 (fl : Int), d3, d4, d5, d6, d7, d8]] W (fun r w' => r = .returned (.bool mb) ∧ Below w4.heap.size w4 w') from (HA.out W).mono fun r w' ⟨h1, h2⟩ => ⟨h1, hW.trans (h2.mono hW.size)⟩))
    have HRA4 := Lib.hid (fun W (hW : Below w4.heap.size w4 W) => (show Calls Tryz.prog 18 #[.agg #[.string sb, .int .i64 sk, .int .u64 (fl : Int), d3, d4, d5, d6, d7, d8]] W (fun r w' => r = .returned (.bool mb) ∧ Below w4.heap.size w4 w') from (HRA.out W).mono fun r w' ⟨h1, h2⟩ => ⟨h1, hW.trans (h2.mono hW.size)⟩))
    have HW4 := Lib.hid (fun W (hW : Below w4.heap.size w4 W) => (show Calls Tryz.prog 6 #[] W (fun r w' => r = .returned (.bool true) ∧ Below w4.heap.size w4 w') from (HW.out W (HUP.out W hW)).mono fun r w' ⟨h1, h2⟩ => ⟨h1, hW.trans (h2.mono hW.size)⟩))
    have KS := Lib.hid (fun W (hW : Below w4.heap.size w4 W) => (⟨hW, conv_as hst (conv_own (own_below HO34.out hW)), conv_as hst (conv_own (own_below HO4.out hW)), (KX.out W (HB4.out.trans (hW.mono HB4.out.size))).1.1, (KX.out W (HB4.out.trans (hW.mono HB4.out.size))).1.2.1, (KX.out W (HB4.out.trans (hW.mono HB4.out.size))).1.2.2.1, (KX.out W (HB4.out.trans (hW.mono HB4.out.size))).1.2.2.2.1, (KX.out W (HB4.out.trans (hW.mono HB4.out.size))).1.2.2.2.2, (KX.out W (HB4.out.trans (hW.mono HB4.out.size))).2⟩ :
      Below w4.heap.size w4 W ∧ (convert 22 9 (.slice A3 tl.length c3)).run Tryz.prog W = .ok (.string st) W ∧ (convert 22 9 (.slice A4 tl.length c4)).run Tryz.prog W = .ok (.string st) W ∧ W.cell? ⟨w.heap.size, 0, none⟩ = some (.int .i64 kd) ∧ W.cell? ⟨w.heap.size, 1, none⟩ = some (.int .i64 mc) ∧ W.cell? ⟨w.heap.size, 2, none⟩ = some (.slice aS N cS) ∧ W.cell? ⟨w.heap.size, 3, none⟩ = some (.slice aY ny cY) ∧ W.cell? ⟨w.heap.size, 4, none⟩ = some (.slice aR nr cR) ∧ W.cell? ⟨w.heap.size + 1, 0, none⟩ = some (.string sb) ∧ W.cell? ⟨w.heap.size + 1, 1, none⟩ = some (.int .i64 sk) ∧ W.cell? ⟨w.heap.size + 1, 2, none⟩ = some (.int .u64 (fl : Int)) ∧ W.cell? ⟨w.heap.size + 1, 3, none⟩ = some (d3) ∧ W.cell? ⟨w.heap.size + 1, 4, none⟩ = some (d4) ∧ W.cell? ⟨w.heap.size + 1, 5, none⟩ = some (d5) ∧ W.cell? ⟨w.heap.size + 1, 6, none⟩ = some (d6) ∧ W.cell? ⟨w.heap.size + 1, 7, none⟩ = some (d7) ∧ W.cell? ⟨w.heap.size + 1, 8, none⟩ = some (d8)))
    generalize tl.length = ntl at *
    have q1 : (rs == rs) = true := by simp
    have q2 : (st.toList == st.toList) = true := by simp
    have q3 : (ee == ee) = true := by simp
    have q4 : (db == db) = true := by simp
    have q5 : (mb == mb) = true := by simp
    clear hst HO3 HO4 HO34 HRT HRR HD HRD HA HRA HW HB2 HB3 HU2 HU3
    go_wp2_with fail
    go_region_held_law (fun W => Below w4.heap.size w4 W ∧ (convert 22 9 (.slice A3 ntl c3)).run Tryz.prog W = .ok (.string st) W ∧ (convert 22 9 (.slice A4 ntl c4)).run Tryz.prog W = .ok (.string st) W ∧ W.cell? ⟨w.heap.size, 0, none⟩ = some (.int .i64 kd) ∧ W.cell? ⟨w.heap.size, 1, none⟩ = some (.int .i64 mc) ∧ W.cell? ⟨w.heap.size, 2, none⟩ = some (.slice aS N cS) ∧ W.cell? ⟨w.heap.size, 3, none⟩ = some (.slice aY ny cY) ∧ W.cell? ⟨w.heap.size, 4, none⟩ = some (.slice aR nr cR) ∧ W.cell? ⟨w.heap.size + 1, 0, none⟩ = some (.string sb) ∧ W.cell? ⟨w.heap.size + 1, 1, none⟩ = some (.int .i64 sk) ∧ W.cell? ⟨w.heap.size + 1, 2, none⟩ = some (.int .u64 (fl : Int)) ∧ W.cell? ⟨w.heap.size + 1, 3, none⟩ = some (d3) ∧ W.cell? ⟨w.heap.size + 1, 4, none⟩ = some (d4) ∧ W.cell? ⟨w.heap.size + 1, 5, none⟩ = some (d5) ∧ W.cell? ⟨w.heap.size + 1, 6, none⟩ = some (d6) ∧ W.cell? ⟨w.heap.size + 1, 7, none⟩ = some (d7) ∧ W.cell? ⟨w.heap.size + 1, 8, none⟩ = some (d8))
      ((refine KS.out _ ?_; first | assumption | exact (Below.refl _ _).drew))
      (first
        | (go_at_call 13; refine (HRT4.out _ ((Below.refl _ _).drew)).mono ?_; rintro r w5 ⟨rfl, hb5⟩)
        | (go_at_call 14; refine (HRR4.out _ hb5).mono ?_; rintro r w6 ⟨rfl, hb6⟩; clear hb5)
        | (go_at_call 15; refine (HD4.out _ hb6).mono ?_; rintro r w7 ⟨rfl, hb7⟩; clear hb6)
        | (go_at_call 16; refine (HRD4.out _ hb7).mono ?_; rintro r w8 ⟨rfl, hb8⟩; clear hb7)
        | (go_at_call 17; refine (HA4.out _ hb8).mono ?_; rintro r w9 ⟨rfl, hb9⟩; clear hb8)
        | (go_at_call 18; refine (HRA4.out _ hb9).mono ?_; rintro r w10 ⟨rfl, hb10⟩; clear hb9)
        | (go_at_call 6; refine (HW4.out _ hb10).mono ?_; rintro r w11 ⟨rfl, hb11⟩; clear hb10))
    all_goals trace "WAY"
    all_goals go_wp2_with fail
    all_goals go_ret
    all_goals exact ⟨rfl, HUP.out _ (by first | assumption | exact below_drewN hb11 _)⟩

theorem oputs_card (o : ObjV) (sb : ByteArray) (sk : Int) (fl : Nat) (d3 d4 d5 d6 d7 d8 : Value) (w : World) (hM : Mg w) (h : o.In w w.heap.size) (hfl : fl < two64) :
    Calls Tryz.prog 4 #[o.val, .agg #[.string sb, .int .i64 sk, .int .u64 (fl : Int), d3, d4, d5, d6, d7, d8]] w fun e w' => e = .returned (.bool true) ∧ Below w.heap.size w w' := oputs_walk o sb sk fl d3 d4 d5 d6 d7 d8 w h hfl hM

end Go.Proofs.YtldmjnbmjfnfeaaGreatDoor
