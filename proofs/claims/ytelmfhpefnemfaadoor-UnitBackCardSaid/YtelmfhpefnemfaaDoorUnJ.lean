/-
  Package unit: the law's told: heads of one type as heads of another.
-/
import Derived.Test.YtelmfhpefnemfaaDoorUnI
namespace Go.Proofs.YtelmfhpefnemfaaDoor
open Go Go.RowKit

set_option maxRecDepth 10000 in
set_option maxHeartbeats 1600000 in
theorem told_unit {w : World} {B : Nat} {A : Option Addr} {L : List UHd} (h : Row 8 UHd.cells w B A L) (hB : B ≤ w.heap.size) (c : Nat) (hl : L.length ≤ 100000) :
    Calls Tryd.prog 30 #[.slice A L.length c] w fun r w' => ∃ u, r = .returned u ∧ OwnH 79 w' w.heap.size u L ∧ Below w.heap.size w w' := by
  obtain ⟨i1, hj1, hy0, hy1, hy2⟩ := info_parts rhd_info
  have HH := Lib.hid h
  generalize hN : L.length = N at *
  have HN := Lib.hid hN
  clear h hN
  go_enter Tryd.func30, Tryd.ntmps30
  go_wp2_with fail
  go_loopg [3, 8] N (fun gk u i wr => ∃ k : Nat, k ≤ N ∧ gk = N - k ∧ i = .int .i64 k ∧ Hid (wr.ownsRow w.heap.size 79 8 u k (cellsF UHd.cells (L.take k))) ∧ Hid (Below w.heap.size w wr))
  case atStart => exact ⟨0, Nat.zero_le _, rfl, rfl, Lib.hid (World.ownsRow_nil _ _ _ _), Lib.hid (Below.refl _ _)⟩
  case round =>
    obtain ⟨k, hk, rfl, rfl, HO, HB⟩ := hrel
    by_cases hlt : k < N
    · have HLT := Lib.hid hlt
      obtain ⟨x, hx⟩ : ∃ x, L[k]? = some x := ⟨L[k]'(by rw [HN.out]; exact hlt), List.getElem?_eq_getElem _⟩
      obtain ⟨b, o, rfl, hb, c0, c1, c2, c3, c4, c5, c6, c7⟩ := uhd_at (HH.out.below (HB.out.mono hB)) hx
      have HNX := Lib.hid (show cellsF UHd.cells (L.take (k + 1)) = cellsF UHd.cells (L.take k) ++ x.cells by rw [List.take_add_one, hx, cellsF_append]; simp [cellsF])
      obtain ⟨w2, hw2⟩ : ∃ w2, wr.alloc (.cells #[.int .i64 x.kind, .bool x.wide, .int .u64 (x.ab : Int), .int .u64 (x.sig : Int), .int .u64 (x.ty : Int), .int .u64 (x.off : Int), .int .u64 (x.first : Int), .int .u64 (x.stop : Int)] 82) = w2 := ⟨_, rfl⟩
      have hb2 : Below wr.heap.size wr w2 := hw2 ▸ (Below.refl _ _).alloc (Nat.le_refl _) _
      have hX2 := Box.new wr 82 #[.int .i64 x.kind, .bool x.wide, .int .u64 (x.ab : Int), .int .u64 (x.sig : Int), .int .u64 (x.ty : Int), .int .u64 (x.off : Int), .int .u64 (x.first : Int), .int .u64 (x.stop : Int)]
      rw [hw2] at hX2
      have HW2 := Lib.hid hw2
      have HB2 := Lib.hid (HB.out.trans (hb2.mono HB.out.size))
      have HO2 := Lib.hid (row_below HO.out hb2)
      have hmx : k + 1 ≤ maxLen := by unfold maxLen; omega
      have hby : (k + 1) * 64 ≤ 140737488355328 := by omega
      clear hw2 hx hb
      obtain ⟨Av, cv, hu⟩ := un_slc HO.out
      subst hu
      go_upto_region 5 with fail
      rw [HW2.out]
      clear c0 c1 c2 c3 c4 c5 c6 c7 HW2
      obtain ⟨y0, y1, y2, y3, y4, y5, y6, y7⟩ := eight_cells hX2
      clear hX2
      have hA := (Below.refl w2.heap.size w2).alloc (Nat.le_refl _) (.cells #[.int .i64 x.kind, .bool x.wide, .int .u64 (x.ab : Int), .int .u64 (x.sig : Int), .int .u64 (x.ty : Int), .int .u64 (x.off : Int), .int .u64 (x.first : Int), .int .u64 (x.stop : Int)] 79)
      have HO3 := Lib.hid (row_below HO2.out hA)
      have hbs : w.heap.size ≤ w2.heap.size + 1 := by have := HB2.out.size; omega
      have HAA := Lib.hid hA
      clear hA
      go_wp2_with (at_builtin; refine wpList_append_own_at _ (by rfl) (.tmp 12) (.tmp 14) _ (by rfl) w.heap.size 79 i1 _ 8 64 Tryd.underlying70 hj1 hy0 hy1 hy2 rfl (by decide) _ k (cellsF UHd.cells (L.take k)) (by rfl) HO3.out ⟨w2.heap.size, 0, none⟩ 1 1 x.cells (by rfl) rfl (fun j u h => cells_newU w2 x.cells _ j u h) (uhd_one _) hmx hby (by simpa using hbs) ?_; intro v6 w6 hown6 hg6 hn6 hat6; clear hn6 hat6; have HO6 := Lib.hid hown6; have HB6 := Lib.hid ((HB2.out.trans (HAA.out.mono HB2.out.size)).grown hg6 (by simpa using hbs) (fun y hy => (HO3.out.lt y hy).1)); clear hown6 hg6)
      go_roundg (N - (k + 1))
      case measure => have := HLT.out; omega
      case rel => exact ⟨k + 1, HLT.out, rfl, by go_num, Lib.hid (by rw [HNX.out]; exact HO6.out), HB6⟩
    · have hkN : k = N := by omega
      subst hkN
      have HO2 := Lib.hid (show OwnH 79 wr w.heap.size u3 L by
        have := HO.out
        rw [List.take_of_length_le (by rw [HN.out]; omega)] at this
        rw [OwnH, HN.out]
        exact this)
      go_wp2_with fail
      go_ret
      exact ⟨_, rfl, HO2.out, HB.out⟩

end Go.Proofs.YtelmfhpefnemfaaDoor
