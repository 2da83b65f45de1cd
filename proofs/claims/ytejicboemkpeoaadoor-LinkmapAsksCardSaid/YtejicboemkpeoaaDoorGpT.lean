/-
  The statements' own helpers: objects turned into the program's (Objects); are objects too great (Great)?
-/
import Derived.Test.YtejicboemkpeoaaDoorOcC
import Derived.Test.YtejicboemkpeoaaDoorGpS
import Derived.Test.YtejicboemkpeoaaDoorObT
import Derived.Test.YtejicboemkpeoaaDoorSeR
import Derived.Test.YtejicboemkpeoaaDoorSyI
import Derived.Deep.DeepCutAuto
import Derived.Deep.LoopGhost
import Derived.Test.YtejicboemkpeoaaDoorSyF
import Derived.Deep.RegionHeldLaw
import Derived.Deep.AppendLies
import Derived.Test.YtejicboemkpeoaaDoorSeV
import Derived.Test.YtejicboemkpeoaaDoorEhH
import Derived.Test.YtejicboemkpeoaaDoorSeBe
import Derived.RegionTactic
import Derived.BigRegion
import Derived.ChangeAlike
namespace Go.Proofs.YtejicboemkpeoaaDoor
open Go Go.RowKit

theorem Lists.take {w : World} {B : Nat} {a : Option Addr} {Q : List RLay} (h : Lists w B a Q) (n : Nat) : Lists w B a (Q.take n) :=
  ⟨fun hl => by
    obtain ⟨b, o, e, hlt, hc⟩ := h.row (by simp at hl; omega)
    exact ⟨b, o, e, hlt, fun i x hx j v hv => hc i x (by
      have hi : i < (Q.take n).length := (List.getElem?_eq_some_iff.1 hx).1
      rw [List.getElem?_take] at hx
      split at hx
      · exact hx
      · cases hx) j v hv⟩, fun q hq => h.rels q (List.mem_of_mem_take hq)⟩
theorem ObjV.In.ok {w : World} {B : Nat} {o : ObjV} (h : o.In w B) (hs : o.Small) : o.Ok w B :=
  ⟨h.secs.secs (fun x hx => ⟨Nat.le_trans (hs.s x hx).1 (by decide), Nat.le_trans (hs.s x hx).2 (by decide)⟩), h.syms, h.lists, h.capS, h.capR⟩
theorem SecsIn.more {w : World} {B B' : Nat} {a : Option Addr} {L : List Lay} (h : SecsIn w B a L) (hB : B ≤ B') : SecsIn w B' a L :=
  ⟨fun hl => by
    obtain ⟨b, o, e, hlt, hc⟩ := h.row hl
    exact ⟨b, o, e, by omega, hc⟩, fun x hx => ⟨(h.rd x hx).1.more hB, (h.rd x hx).2⟩⟩
theorem ObjV.In.below {w w' : World} {B : Nat} {o : ObjV} (h : o.In w B) (hb : Below B w w') : o.In w' B := ⟨h.secs.below hb, Row.below h.syms hb, h.lists.below hb, h.capS, h.capR, h.numY, h.numQ⟩
theorem ObjV.In.more {w : World} {B B' : Nat} {o : ObjV} (h : o.In w B) (hB : B ≤ B') : o.In w B' := ⟨h.secs.more hB, Row.more h.syms hB, h.lists.more hB, h.capS, h.capR, h.numY, h.numQ⟩

end Go.Proofs.YtejicboemkpeoaaDoor

namespace Go.Proofs.YtejicboemkpeoaaDoor
open Go Go.RowKit

/-- Objects that came in: nothing is said of how much they have. -/
structure ObjsIn (w : World) (B : Nat) (a : Option Addr) (O : List ObjV) : Prop where
  row : Row 5 ObjV.cells w B a O
  ok : ∀ o ∈ O, o.In w B
section
variable {w w' : World} {B B' : Nat} {a : Option Addr} {O : List ObjV} {o : ObjV}
theorem ObjsIn.below (h : ObjsIn w B a O) (hb : Below B w w') : ObjsIn w' B a O := ⟨h.row.below hb, fun o ho => (h.ok o ho).below hb⟩
theorem ObjsIn.more (h : ObjsIn w B a O) (hB : B ≤ B') : ObjsIn w B' a O := ⟨h.row.more hB, fun o ho => (h.ok o ho).more hB⟩
theorem ObjsIn.up (h : ObjsIn w w.heap.size a O) (hb : Below w.heap.size w w') : ObjsIn w' w'.heap.size a O := (h.below hb).more hb.size
theorem ObjsIn.objs (h : ObjsIn w B a O) (hs : ∀ o ∈ O, o.Small) : Objs w B a O := ⟨h.row, fun o ho => (h.ok o ho).ok (hs o ho)⟩
theorem row5_at (h : Row 5 ObjV.cells w B a O) {i : Nat} (ho : O[i]? = some o) : ∃ b oo, a = some ⟨b, oo, none⟩ ∧ b < B ∧ w.cell? ⟨b, oo + i * 5, none⟩ = some (.int .i64 o.kind) ∧ w.cell? ⟨b, oo + i * 5 + 1, none⟩ = some (.int .i64 o.machine) ∧
    w.cell? ⟨b, oo + i * 5 + 2, none⟩ = some (.slice o.aS o.L.length o.cS) ∧ w.cell? ⟨b, oo + i * 5 + 3, none⟩ = some (.slice o.aY o.Y.length o.cY) ∧ w.cell? ⟨b, oo + i * 5 + 4, none⟩ = some (.slice o.aR o.Q.length o.cR) := by
  have hl : 0 < O.length := by have := (List.getElem?_eq_some_iff.1 ho).1; omega
  obtain ⟨b, oo, e, hlt, hc⟩ := h hl
  exact ⟨b, oo, e, hlt, hc i o ho 0 _ rfl, hc i o ho 1 _ rfl, hc i o ho 2 _ rfl, hc i o ho 3 _ rfl, hc i o ho 4 _ rfl⟩
end
theorem ObjV.one (o : ObjV) : ∀ u ∈ o.cells, u.oneCell' = true := fun u hu => by
  simp only [ObjV.cells, List.mem_cons, List.not_mem_nil, or_false] at hu
  rcases hu with rfl | rfl | rfl | rfl | rfl <;> rfl
theorem obj_lit (T : TypeId) (w : World) (o : ObjV) : ∀ j u, o.cells[j]? = some u → (w.alloc (.cells #[.int .i64 o.kind, .int .i64 o.machine, .slice o.aS o.L.length o.cS, .slice o.aY o.Y.length o.cY, .slice o.aR o.Q.length o.cR] T)).cell? ((⟨w.heap.size, 0, none⟩ : Addr).add j) = some u := fun j u h => by
  rw [addr_add, (Box.new w T #[.int .i64 o.kind, .int .i64 o.machine, .slice o.aS o.L.length o.cS, .slice o.aY o.Y.length o.cY, .slice o.aR o.Q.length o.cR]).cell, Nat.zero_add]
  simpa [ObjV.cells] using h
theorem object_info : (Tryd.prog.info? 71).map (fun i => (i.zero, i.size, i.bytes)) = some (some (.agg #[.int .i64 0, .int .i64 0, .slice none 0 0, .slice none 0 0, .slice none 0 0]), 5, 88) := by kernel_rfl

set_option maxRecDepth 10000 in
set_option maxHeartbeats 3200000 in
theorem objects_any {w : World} {a : Option Addr} {O : List ObjV} (h : Objs w w.heap.size a O) (c : Nat) (hl : O.length ≤ 1000) :
    Calls Tryd.prog 8 #[.slice a O.length c] w fun r w' => ∃ A cap, r = .returned (.slice A O.length cap) ∧ O.length ≤ cap ∧ Objs w' w'.heap.size A O ∧ Below w.heap.size w w' := by
  obtain ⟨i2, hj2, hz0, hz1, hz2⟩ := info_parts object_info
  have HH := Lib.hid h
  generalize hN : O.length = N at *
  have HN := Lib.hid hN
  clear h hN
  go_enter Tryd.func8, Tryd.ntmps8
  go_wp2_with fail
  go_loopg [3, 8] N (fun gk v i wr => ∃ k : Nat, k ≤ N ∧ gk = N - k ∧ i = .int .i64 k ∧ Hid (wr.ownsRow w.heap.size 71 5 v k (cellsF ObjV.cells (O.take k))) ∧ Hid (Below w.heap.size w wr))
  case atStart => exact ⟨0, Nat.zero_le _, rfl, rfl, Lib.hid (World.ownsRow_nil _ _ _ _), Lib.hid (Below.refl _ _)⟩
  case round =>
    obtain ⟨k, hk, rfl, rfl, HO, HB⟩ := hrel
    by_cases hlt : k < N
    · have HLT := Lib.hid hlt
      obtain ⟨x, hx⟩ : ∃ x, O[k]? = some x := ⟨O[k]'(by rw [HN.out]; exact hlt), List.getElem?_eq_getElem _⟩
      obtain ⟨b, o, rfl, hb, c0, c1, c2, c3, c4⟩ := (HH.out.below HB.out).at_ hx
      have HNX := Lib.hid (glay_take (f := ObjV.cells) hx)
      obtain ⟨w2, hw2⟩ : ∃ w2, wr.alloc (.cells #[.int .i64 x.kind, .int .i64 x.machine, .slice x.aS x.L.length x.cS, .slice x.aY x.Y.length x.cY, .slice x.aR x.Q.length x.cR] 48) = w2 := ⟨_, rfl⟩
      have hb2 : Below wr.heap.size wr w2 := hw2 ▸ (Below.refl _ _).alloc (Nat.le_refl _) _
      have hX2 := Box.new wr 48 #[.int .i64 x.kind, .int .i64 x.machine, .slice x.aS x.L.length x.cS, .slice x.aY x.Y.length x.cY, .slice x.aR x.Q.length x.cR]
      rw [hw2] at hX2
      have HW2 := Lib.hid hw2
      have HB2 := Lib.hid (HB.out.trans (hb2.mono HB.out.size))
      have hown2 := row_below HO.out hb2
      have h63 : k + 1 ≤ maxLen := by unfold maxLen; omega
      have hby : (k + 1) * 88 ≤ 140737488355328 := by omega
      clear hw2 hx
      obtain ⟨Av, cv, rfl⟩ : ∃ Av cv, u3 = .slice Av k cv := by
        rcases HO.out.2 with ⟨e, h0⟩ | ⟨g, cap, cur, e, _⟩
        · exact ⟨none, 0, by rw [e, h0]⟩
        · exact ⟨_, _, e⟩
      go_upto_region 5 with fail
      rw [HW2.out]
      clear c0 c1 c2 c3 c4 HW2
      obtain ⟨y0, y1, y2, y3, y4⟩ := five_cells hX2
      clear hX2
      have hbs := HB2.out.size
      go_wp2_with (at_builtin; refine wpList_append_lies _ (by rfl) (.tmp 12) (.tmp 14) _ (by rfl) w.heap.size 71 i2 _ 5 88 Tryd.underlying36 hj2 hz0 hz1 hz2 (by rfl) (by decide) (.slice Av k cv) k (cellsF ObjV.cells (O.take k)) (by rfl) (by exact hown2.alloc _) ⟨w2.heap.size, 0, none⟩ 1 1 (ObjV.cells x) (by rfl) rfl (obj_lit _ w2 x) (ObjV.one x) (by decide) h63 hby (by simp; omega) _ rfl ?_; intro g5 cap5 w5 hown5 hg5 hat5 hlt5; have HO5 := Lib.hid hown5; have HB5 := Lib.hid ((HB2.out.alloc hbs _).grown hg5 (by simp; omega) (fun z hz => (hown2.lt z hz).1)); clear hown5 hg5 hat5 hlt5)
      go_roundg (N - (k + 1))
      case measure => have := HLT.out; omega
      case rel => exact ⟨k + 1, HLT.out, rfl, by go_num, Lib.hid (by rw [HNX.out]; exact HO5.out), HB5⟩
    · have hkN : k = N := by omega
      subst hkN
      have hO := HO.out
      rw [List.take_of_length_le (by rw [HN.out]; omega)] at hO
      have hO2 : wr.ownsRow w.heap.size 71 5 u3 O.length (cellsF ObjV.cells O) := by rw [HN.out]; exact hO
      obtain ⟨A, cap, e, hcap, -, hr⟩ := own_row obj_cells hO2
      have HR := Lib.hid hr
      have HC := Lib.hid hcap
      rw [HN.out] at e
      subst e
      clear hO hO2 hr hcap
      go_wp2_with fail
      go_ret
      exact ⟨A, cap, rfl, by have := HC.out; rwa [HN.out] at this, ⟨HR.out, fun x hx => (((HH.out.ok x hx).below HB.out).more HB.out.size)⟩, HB.out⟩

set_option maxRecDepth 10000 in
set_option maxHeartbeats 3200000 in
theorem great_any {w : World} {a : Option Addr} {O : List ObjV} (h : ObjsIn w w.heap.size a O) (c : Nat) :
    Calls Tryd.prog 4 #[.slice a O.length c] w fun r w' => ∃ b : Bool, r = .returned (.bool b) ∧ (b = false → O.length ≤ 10 ∧ ∀ o ∈ O, o.Small) ∧ Below w.heap.size w w' := by
  have HH := Lib.hid h
  generalize hN : O.length = N at *
  have HN := Lib.hid hN
  clear h hN
  go_enter Tryd.func4, Tryd.ntmps4
  by_cases hbig : 10 < N
  · have hd : decide ((10 : Int) < (N : Int)) = true := decide_eq_true (by omega)
    clear hbig
    go_wp2_with fail
    go_ret
    exact ⟨true, rfl, (fun h => by cases h), Below.refl _ _⟩
  · have hd : decide ((10 : Int) < (N : Int)) = false := decide_eq_false (by omega)
    have HNB := Lib.hid hbig
    have hn10 : N ≤ 10 := by omega
    clear hbig
    go_wp2_with fail
    clear hd
    go_loopg [10] N (fun gk i wr => ∃ k : Nat, k ≤ N ∧ gk = N - k ∧ i = .int .i64 k ∧ Hid (∀ j o, j < k → O[j]? = some o → o.Small) ∧ Hid (Below w.heap.size w wr))
    case atStart => exact ⟨0, Nat.zero_le _, rfl, rfl, Lib.hid (fun _ _ hj => by omega), Lib.hid (Below.refl _ _)⟩
    case round =>
      obtain ⟨k, hk, rfl, rfl, HS, HB⟩ := hrel
      by_cases hlt : k < N
      · have HLT := Lib.hid hlt
        obtain ⟨x, hx⟩ : ∃ x, O[k]? = some x := ⟨O[k]'(by rw [HN.out]; exact hlt), List.getElem?_eq_getElem _⟩
        obtain ⟨b, o, rfl, hb, c0, c1, c2, c3, c4⟩ := row5_at (HH.out.below HB.out).row hx
        obtain ⟨w2, hw2⟩ : ∃ w2, wr.alloc (.cells #[.int .i64 x.kind, .int .i64 x.machine, .slice x.aS x.L.length x.cS, .slice x.aY x.Y.length x.cY, .slice x.aR x.Q.length x.cR] 48) = w2 := ⟨_, rfl⟩
        have hb2 : Below wr.heap.size wr w2 := hw2 ▸ (Below.refl _ _).alloc (Nat.le_refl _) _
        have hX2 := Box.new wr 48 #[.int .i64 x.kind, .int .i64 x.machine, .slice x.aS x.L.length x.cS, .slice x.aY x.Y.length x.cY, .slice x.aR x.Q.length x.cR]
        rw [hw2] at hX2
        have HW2 := Lib.hid hw2
        have HB2 := Lib.hid (HB.out.trans (hb2.mono HB.out.size))
        have HK := Lib.hid (obulk_any (w := w2) x (((HH.out.ok x (List.mem_of_getElem? hx)).below HB2.out).more HB2.out.size) (fun w w' B a L h1 h2 => SecsIn.below h1 h2))
        rw [show x.val = .agg #[.int .i64 x.kind, .int .i64 x.machine, .slice x.aS x.L.length x.cS, .slice x.aY x.Y.length x.cY, .slice x.aR x.Q.length x.cR] from rfl] at HK
        have HX := Lib.hid hx
        have hbs := HB2.out.size
        clear hw2 hx
        go_upto_region 6 with fail
        rw [HW2.out]
        clear c0 c1 c2 c3 c4 HW2
        obtain ⟨y0, y1, y2, y3, y4⟩ := five_cells hX2
        clear hX2
        have HSK := Lib.hid (show x.Small → ∀ j o, j < k + 1 → O[j]? = some o → o.Small from fun hs j o hj ho => by
          rcases Nat.lt_or_ge j k with h1 | h1
          · exact HS.out j o h1 ho
          · rw [show j = k by omega, HX.out] at ho
            injection ho with ho
            exact ho ▸ hs)
        generalize ObjV.Small x = SM at *
        go_wp2_with fail
        refine HK.out.mono ?_
        rintro r w3 ⟨n3, rfl, hs3, hb3⟩
        have HB3 := Lib.hid (HB2.out.trans (hb3.mono hbs))
        have HS3 := Lib.hid hs3
        clear hs3 hb3
        by_cases hn3 : n3 ≤ 6000
        · have d3 : decide (6000 < n3) = false := decide_eq_false (by omega)
          have HS4 := Lib.hid (HSK.out (HS3.out hn3))
          clear hn3
          go_wp2_with fail
          go_roundg (N - (k + 1))
          case measure => have := HLT.out; omega
          case rel => exact ⟨k + 1, HLT.out, rfl, by go_num, HS4, HB3⟩
        · have d3 : decide (6000 < n3) = true := decide_eq_true (by omega)
          clear hn3
          go_wp2_with fail
          go_ret
          exact ⟨true, rfl, (fun h => by cases h), HB3.out⟩
      · have hkN : k = N := by omega
        subst hkN
        go_wp2_with fail
        go_ret
        exact ⟨false, rfl, fun _ => ⟨hn10, fun o ho => by
          obtain ⟨j, hj⟩ := List.getElem?_of_mem ho
          exact HS.out j o (by have := (List.getElem?_eq_some_iff.1 hj).1; rw [HN.out] at this; exact this) hj⟩, HB.out⟩

end Go.Proofs.YtejicboemkpeoaaDoor
