/-
  Package unit: the document's All.
-/
import Derived.Test.YtelmfhpefnemfaaDoorUnF
namespace Go.Proofs.YtelmfhpefnemfaaDoor
open Go Go.RowKit

theorem un_rr {B : Nat} {W W1 : World} {g base n m : Nat} {t : TypeId} {v u : Value} {l : List UInt8} {a : Nat} {e : Int} {xs : List Value} (h : RR B W g v l a e) (hrow : W.ownsRow base t m u n xs) (h1 : 128 ≠ t) (hB : B ≤ base) (hg : W.grownBy W1 u.ownBlock) : RR B W1 g v l a e := by
  refine h.grown hg (fun e => ?_) (fun x hx => Nat.le_trans hB (hrow.lt x hx).1)
  rcases hrow.2 with ⟨rfl, _⟩ | ⟨g', cap, cur, rfl, _, hh, _⟩
  · simp [Value.ownBlock] at e
  · have e' : g = g' := by simpa [Value.ownBlock] using e
    subst e'
    have hX := h.1
    unfold Box at hX
    rw [hX] at hh
    injection hh with hh
    injection hh with _ hh
    exact h1 hh
theorem rhd_info : (Tryd.prog.info? 79).map (fun i => (i.zero, i.size, i.bytes)) = some (some (.agg #[.int .i64 0, .bool false, .int .u64 0, .int .u64 0, .int .u64 0, .int .u64 0, .int .u64 0, .int .u64 0]), 8, 64) := by kernel_rfl
theorem tk_ok {sec : List UInt8} {a : Nat} (h : tkX sec a = 0) : bdE sec a 0 = 0 := by
  have := tk_fail sec a
  rw [h] at this
  unfold failOf at this
  split at this
  · assumption
  · exact this

set_option maxRecDepth 10000 in
set_option maxHeartbeats 3200000 in
theorem rall_unit {w : World} {A : Option Addr} {sec : List UInt8} {B : Nat} (c : Nat) (hr : Rd w B A sec) (hB : B ≤ w.heap.size) (hc : sec.length ≤ c) (hcm : c ≤ maxLen) (hlen : sec.length ≤ 140737488355328) :
    Calls Tryd.prog 28 #[.slice A sec.length c] w fun r w' => ∃ u, r = .returned (.tuple #[u, .int .i64 (allE sec)]) ∧ OwnH 79 w' w.heap.size u (allL sec) ∧ Below w.heap.size w w' := by
  obtain ⟨i1, hj1, hy0, hy1, hy2⟩ := info_parts rhd_info
  have HLN := Lib.hid hlen
  have HE := Lib.hid (show allE sec = (finU sec).e from rfl)
  have HL := Lib.hid (show allL sec = if allE sec = 0 then (finU sec).L else [] from rfl)
  have HF := Lib.hid (show finU sec = runU sec 61 ⟨0, 0, []⟩ from rfl)
  have hb1 : Below w.heap.size w (w.alloc (.cells #[.slice A sec.length c, .int .i64 0, .int .i64 0] 128)) := (Below.refl _ _).alloc (Nat.le_refl _) _
  have HR1 := Lib.hid (show RR B (w.alloc (.cells #[.slice A sec.length c, .int .i64 0, .int .i64 0] 128)) w.heap.size (.slice A sec.length c) sec 0 0 from
    ⟨Box.new _ _ _, ⟨A, c, rfl, hc, hcm, hr.below (hb1.mono hB)⟩, Nat.zero_le _, hB⟩)
  have HB1 := Lib.hid hb1
  have HBW := Lib.hid hB
  clear hr hB hlen hb1 hc hcm
  generalize allE sec = E at *
  generalize allL sec = R at *
  generalize finU sec = F at *
  obtain ⟨N, hN⟩ : ∃ N, sec.length = N := ⟨_, rfl⟩
  have HN := Lib.hid hN
  rw [hN] at HR1 HB1 HLN ⊢
  clear hN
  go_enter Tryd.func28, Tryd.ntmps28
  go_upto_region 3 with fail
  generalize w.alloc (.cells #[.slice A N c, .int .i64 0, .int .i64 0] 128) = w1 at *
  have HGW := Lib.hid (Nat.le_refl w.heap.size)
  generalize hg : w.heap.size = g at HR1 HGW ⊢
  have HGE := Lib.hid hg
  clear hg
  go_loopg [5] 62 (fun gk u wr => ∃ (k : Nat) (s : UAt), k ≤ 60 ∧ gk = 62 - k ∧ Hid (s.L.length = k) ∧ Hid (s.e = 0) ∧ Hid (F = runU sec (61 - k) s) ∧ Hid (OwnH 79 wr w.heap.size u s.L) ∧ Hid (RR B wr g (.slice A N c) sec s.a 0) ∧ Hid (Below w.heap.size w wr))
  case atStart => exact ⟨0, ⟨0, 0, []⟩, Nat.zero_le _, rfl, Lib.hid rfl, Lib.hid rfl, HF, Lib.hid (World.ownsRow_nil _ _ _ _), HR1, HB1⟩
  case round =>
    obtain ⟨k, s, hk, rfl, HX, HKE, HFF, HO, HC, HB⟩ := hrel
    clear HR1 HB1 HF
    have k1 := rr_at HC.out
    have hal : s.a ≤ N := by have := HC.out.2.2.1; rw [HN.out] at this; exact this
    by_cases hq0 : s.a < N
    · have d : decide ((s.a : Int) < (N : Int)) = true := by simp; omega
      have d' : decide (s.a < N) = true := by simpa using hq0
      have HSS := Lib.hid (show stepU sec s = ⟨bdA sec s.a 0, if 60 < k + 1 then failOf (tkX sec s.a) 3 else tkX sec s.a, s.L ++ [tkH sec s.a]⟩ from by rw [stepU, HX.out])
      have HFN := Lib.hid (show F = runU sec (61 - (k + 1)) (stepU sec s) from by rw [HFF.out, show 61 - k = 61 - (k + 1) + 1 by omega, runU, if_pos (by rw [HKE.out]; unfold leftOf; rw [if_pos rfl, HN.out]; omega)])
      have HON := Lib.hid (rone_any (Nat.le_trans HBW.out HB.out.size) HC.out (by rw [HN.out]; exact HLN.out))
      have HTO := Lib.hid (@tk_ok sec s.a)
      have HRO := Lib.hid (show roneH sec s.a = if tkX sec s.a = 0 then tkH sec s.a else zeroUH from rfl)
      have HED := Lib.hid (@runU_end sec (stepU sec s))
      clear HFF HKE
      generalize stepU sec s = s2 at *
      generalize roneH sec s.a = y at *
      generalize tkH sec s.a = x at *
      generalize tkX sec s.a = xe at *
      generalize bdA sec s.a 0 = m at *
      generalize bdE sec s.a 0 = be at *
      have hyc : y.cells = [.int .i64 y.kind, .bool y.wide, .int .u64 (y.ab : Int), .int .u64 (y.sig : Int), .int .u64 (y.ty : Int), .int .u64 (y.off : Int), .int .u64 (y.first : Int), .int .u64 (y.stop : Int)] := rfl
      have HTK := Lib.hid (by
        have := HON.out
        rw [hyc] at this
        exact this : Calls Tryd.prog 53 #[.pointer (some ⟨g, 0, none⟩)] wr fun r w' => r = .returned (.tuple #[.agg #[.int .i64 y.kind, .bool y.wide, .int .u64 (y.ab : Int), .int .u64 (y.sig : Int), .int .u64 (y.ty : Int), .int .u64 (y.off : Int), .int .u64 (y.first : Int), .int .u64 (y.stop : Int)], .int .i64 xe]) ∧ RR B w' g (.slice A N c) sec m be ∧ wr.grownBy w' (some g))
      clear HON hyc
      generalize s.a = sa at *
      obtain ⟨A3, c3, hu⟩ := un_slc HO.out
      rw [HX.out] at hu
      subst hu
      go_upto_region 5 with (go_at_call 53; refine HTK.out.mono ?_; rintro r w4 ⟨rfl, hC, hG⟩; have HC4 := Lib.hid hC; have HG4 := Lib.hid hG; clear hC hG)
      have hX5 := Box.new w4 79 #[.int .i64 y.kind, .bool y.wide, .int .u64 (y.ab : Int), .int .u64 (y.sig : Int), .int .u64 (y.ty : Int), .int .u64 (y.off : Int), .int .u64 (y.first : Int), .int .u64 (y.stop : Int)]
      have hb5 : Below w4.heap.size w4 (w4.alloc (.cells #[.int .i64 y.kind, .bool y.wide, .int .u64 (y.ab : Int), .int .u64 (y.sig : Int), .int .u64 (y.ty : Int), .int .u64 (y.off : Int), .int .u64 (y.first : Int), .int .u64 (y.stop : Int)] 79)) := (Below.refl _ _).alloc (Nat.le_refl _) _
      generalize hw5 : w4.alloc (.cells #[.int .i64 y.kind, .bool y.wide, .int .u64 (y.ab : Int), .int .u64 (y.sig : Int), .int .u64 (y.ty : Int), .int .u64 (y.off : Int), .int .u64 (y.first : Int), .int .u64 (y.stop : Int)] 79) = w5 at *
      have HC5 := Lib.hid (HC4.out.below hb5)
      have HO4 := Lib.hid (un_far HO.out HG4.out HC.out.1 (by decide))
      rw [HX.out] at HO4
      have HO5 := Lib.hid (row_below HO4.out hb5)
      have HB4 := Lib.hid (HB.out.grown HG4.out HB.out.size (fun y hy => by injection hy with hy; have := HGW.out; have := HGE.out; omega))
      have HB5 := Lib.hid (HB4.out.trans (hb5.mono HB4.out.size))
      obtain ⟨y0, y1, y2, y3, y4, y5, y6, y7⟩ := eight_cells hX5
      have hxl : w4.heap.size < w5.heap.size := hX5.lt
      clear hw5 hX5 hb5 HC4 HG4 HO4 HB4 HO HC HB k1 HTK
      generalize w4.heap.size = X at *
      by_cases hxe : xe = 0
      · have n1 : (xe != 0) = false := by simpa using hxe
        have HBE := Lib.hid (HTO.out hxe)
        have hyx : y = x := by rw [HRO.out, if_pos hxe]
        subst hyx
        have HXE := Lib.hid hxe
        have hmx : k + 1 ≤ maxLen := by unfold maxLen; omega
        have hby : (k + 1) * 64 ≤ 140737488355328 := by omega
        have hsz : w.heap.size ≤ w5.heap.size + 1 := by have := HB5.out.size; omega
        have hA := (Below.refl w5.heap.size w5).alloc (Nat.le_refl _) (.cells #[.int .i64 y.kind, .bool y.wide, .int .u64 (y.ab : Int), .int .u64 (y.sig : Int), .int .u64 (y.ty : Int), .int .u64 (y.off : Int), .int .u64 (y.first : Int), .int .u64 (y.stop : Int)] 79)
        have HO6 := Lib.hid (row_below HO5.out hA)
        clear hxe HRO HTO
        go_upto_region 8 with (at_builtin; refine wpList_append_own_at _ (by rfl) (.tmp 26) (.tmp 28) _ (by rfl) w.heap.size 79 i1 _ 8 64 Tryd.underlying70 hj1 hy0 hy1 hy2 rfl (by decide) _ k (cellsF UHd.cells s.L) (by rfl) HO6.out ⟨w5.heap.size, 0, none⟩ 1 1 y.cells (by rfl) rfl (fun j u h => cells_newU w5 y.cells _ j u h) (uhd_one _) hmx hby (by simpa using hsz) ?_; intro v6 w6 hown6 hg6 hn6 hat6; clear hn6 hat6; have HO7 := Lib.hid hown6; have HG6 := Lib.hid hg6; clear hown6 hg6)
        have HC6 := Lib.hid (un_rr (HC5.out.below hA) HO6.out (by decide) HBW.out HG6.out)
        have HB6 := Lib.hid ((HB5.out.trans (hA.mono HB5.out.size)).grown HG6.out (by simpa using hsz) (fun y hy => (HO6.out.lt y hy).1))
        have HON := Lib.hid (show OwnH 79 w6 w.heap.size v6 (s.L ++ [y]) from by
          have := HO7.out
          rw [OwnH, List.length_append, HX.out, cellsF_append, cellsF_one]
          exact this)
        clear hA HO5 HO6 HG6 HO7 HC5 HB5 y0 y1 y2 y3 y4 y5 y6 y7 hxl
        obtain ⟨A6, c6, hu6⟩ := un_slc HON.out
        rw [List.length_append, HX.out] at hu6
        subst hu6
        by_cases h60 : 60 < k + 1
        · have d2 : decide ((60 : Int) < ((k : Int) + 1)) = true := by simp; omega
          have d3 : decide (60 < k + 1) = true := by simpa using h60
          rw [if_pos h60, HXE.out] at HSS
          have HEE := Lib.hid (show E = 3 by rw [HE.out, HFN.out, HED.out (by rw [HSS.out]; rfl), HSS.out]; rfl)
          have HRR := Lib.hid (show R = [] by rw [HL.out, if_neg (by rw [HEE.out]; decide)])
          clear h60
          go_wp2_with fail
          (try rw [Exit.noGoto_ret])
          go_ret2
          exact ⟨_, by rw [HEE.out]; rfl, by rw [HRR.out]; exact World.ownsRow_nil _ _ _ _, HB6.out⟩
        · have d2 : decide ((60 : Int) < ((k : Int) + 1)) = false := by simp; omega
          have d3 : decide (60 < k + 1) = false := by simpa using h60
          rw [if_neg h60] at HSS
          have h60' : k + 1 ≤ 60 := by omega
          clear h60
          go_wp2_with fail
          go_roundg (62 - (k + 1))
          case measure => omega
          case rel => exact ⟨k + 1, s2, h60', rfl, Lib.hid (by rw [HSS.out]; simp [HX.out]), Lib.hid (by rw [HSS.out]; exact HXE.out), HFN, Lib.hid (by rw [HSS.out]; exact HON.out), Lib.hid (by rw [HSS.out]; have := HC6.out; rw [HBE.out] at this; exact this), HB6⟩
      · have n1 : (xe != 0) = true := by simpa using hxe
        have hs2 : s2.e = xe := by
          rw [HSS.out]
          simp only
          split
          · unfold failOf; rw [if_neg hxe]
          · rfl
        have HEE := Lib.hid (show E = xe by rw [HE.out, HFN.out, HED.out (by unfold leftOf; rw [hs2, if_neg hxe])]; exact hs2)
        have HRR := Lib.hid (show R = [] by rw [HL.out, if_neg (by rw [HEE.out]; exact hxe)])
        clear hxe hs2
        go_wp2_with fail
        (try rw [Exit.noGoto_ret])
        go_ret2
        exact ⟨_, by rw [HEE.out]; rfl, by rw [HRR.out]; exact World.ownsRow_nil _ _ _ _, HB5.out⟩
    · have d : decide ((s.a : Int) < (N : Int)) = false := by simp; omega
      have d' : decide (s.a < N) = false := by simpa using hq0
      have HFF2 := Lib.hid (show F = s from by rw [HFF.out]; exact runU_end (by rw [HKE.out]; unfold leftOf; rw [if_pos rfl, HN.out]; omega) _)
      have HEE := Lib.hid (show E = 0 by rw [HE.out, HFF2.out]; exact HKE.out)
      have HLL := Lib.hid (show R = s.L from by rw [HL.out, if_pos HEE.out, HFF2.out])
      generalize s.a = sa at *
      clear HFF HFF2 HKE HE HL
      go_wp2_with fail
      go_ret2
      exact ⟨_, by rw [HEE.out]; rfl, by rw [HLL.out]; exact HO.out, HB.out⟩

end Go.Proofs.YtelmfhpefnemfaaDoor
