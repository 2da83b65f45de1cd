/-
  Package tables: all, by either reader of a table's numbers; Strs and Addrs (written by wip/tools/gen_tbd.py).
-/
import Derived.Test.YtpmpgfngogdfhaaDoorTbC
import Derived.Test.YtpmpgfngogdfhaaDoorCurD
namespace Go.Proofs.YtpmpgfngogdfhaaDoor
open Go Go.RowKit

theorem tbl_info : (Tryd.prog.info? 86).map (fun i => (i.zero, i.size, i.bytes)) = some (some (.agg #[.bool false, .int .u64 0, .slice none 0 0]), 3, 40) := by kernel_rfl
theorem OwnTb.snoc {T : TypeId} {W W' : World} {base : Nat} {v v' : Value} {L : List TLay} {y : TLay} (h : OwnTb T W base v L) (hy : OwnU W base (.slice y.a y.x.items.length y.c) y.x.items) (hT : 41 ≠ T) (hg : W.grownBy W' v.ownBlock) (hrow : W'.ownsRow base T 3 v' (L.length + 1) (cellsF TLay.cells L ++ y.cells)) : OwnTb T W' base v' (L ++ [y]) := by
  refine ⟨?_, fun z hz => ?_⟩
  · rw [List.length_append, cellsF_append, cellsF_one]
    exact hrow
  · rcases List.mem_append.1 hz with hz | hz
    · exact un_apart (h.its z hz) h.row hT hg
    · rw [List.mem_singleton.1 hz]
      exact un_apart hy h.row hT hg

set_option maxRecDepth 10000 in
set_option maxHeartbeats 3200000 in
theorem all_strs {w : World} {A : Option Addr} {sec : List UInt8} {B : Nat} (hs : Sz w) (c : Nat) (hr : Rd w B A sec) (hB : B ≤ w.heap.size) (hlen : sec.length ≤ 140737488355328) :
    Calls Tryd.prog 50 #[.slice A sec.length c, .func (.func 51) #[] #[]] w fun r w' => ∃ u M, r = .returned (.tuple #[u, .int .i64 (allTbE sec false)]) ∧ M.map TLay.x = allTbL sec false ∧ OwnTb 86 w' w.heap.size u M ∧ Below w.heap.size w w' := by
  obtain ⟨i1, hj1, hy0, hy1, hy2⟩ := info_parts tbl_info
  have HNW := Lib.hid (fun W (hW : W = w) => new_any (w := W) c (hW ▸ hr) (hW ▸ hB) hlen)
  have HLN := Lib.hid hlen
  have HS := Lib.hid hs
  have HZ := Lib.hid hs.pos
  have HE := Lib.hid (show allTbE sec false = (finTb sec false).e from rfl)
  have HL := Lib.hid (show allTbL sec false = if allTbE sec false = 0 then (finTb sec false).L else [] from rfl)
  have HF := Lib.hid (show finTb sec false = runTb sec false 61 ⟨0, 0, []⟩ from rfl)
  clear hr hB hlen hs
  generalize allTbE sec false = E at *
  generalize allTbL sec false = R at *
  generalize finTb sec false = F at *
  obtain ⟨N, hN⟩ : ∃ N, sec.length = N := ⟨_, rfl⟩
  rw [hN] at HNW ⊢
  clear hN
  go_enter Tryd.func50, Tryd.ntmps50
  go_upto_region 3 with (go_at_call 36; refine (HNW.out _ rfl).mono ?_; rintro r w1 ⟨g, v, rfl, hM, hb⟩; have HM := Lib.hid hM; have HB1 := Lib.hid hb; clear hM hb)
  have HC1 := Lib.hid HM.out.1
  have HGE := Lib.hid (show w.heap.size ≤ g from HM.out.2.1)
  have HS1 := Lib.hid (HS.out.below HB1.out HS.out.pos)
  clear HM HNW
  go_loopg [7] 62 (fun gk u wr => ∃ (k : Nat) (s : TAt) (M : List TLay), k ≤ 61 ∧ gk = 62 - k ∧ Hid (M.length = k) ∧ Hid (M.map TLay.x = s.L) ∧ Hid (k ≤ 60 ∨ s.e ≠ 0) ∧ Hid (F = runTb sec false (61 - k) s) ∧ Hid (OwnTb 86 wr w.heap.size u M) ∧ Hid (Cur wr g v sec s.a s.e) ∧ Hid (Below w.heap.size w wr) ∧ Hid (Sz wr))
  case atStart => exact ⟨0, ⟨0, 0, []⟩, [], Nat.zero_le _, rfl, Lib.hid rfl, Lib.hid rfl, Lib.hid (.inl (Nat.zero_le _)), HF, Lib.hid (OwnTb.nil _ _ _), HC1, HB1, HS1⟩
  case round =>
    obtain ⟨k, s, M, hk, rfl, HX, HMM, HKE, HFF, HO, HC, HB, HSZ⟩ := hrel
    clear HC1 HB1 HS1 HF
    have HLF := Lib.hid (left_cur HC.out)
    obtain ⟨q, hq⟩ : ∃ q, leftOf sec s.a s.e = q := ⟨_, rfl⟩
    rw [hq] at HLF
    have HQ := Lib.hid hq
    clear hq
    by_cases hq0 : 0 < q
    · have d : decide ((0 : Int) < (q : Int)) = true := by simp; omega
      have d' : decide (0 < q) = true := by simpa using hq0
      have he0 : s.e = 0 := left_err (by rw [HQ.out]; exact hq0)
      have hk60 : k ≤ 60 := by rcases HKE.out with h | h; exact h; exact absurd he0 h
      have hsl : s.L.length = k := by rw [← HMM.out, List.length_map, HX.out]
      have HSL := Lib.hid hsl
      have HSS := Lib.hid (show stepTb sec false s = ⟨bdA sec s.a 0, if 60 < k + 1 then failOf (xTb sec s.a false) 3 else xTb sec s.a false, s.L ++ [tTb sec s.a false]⟩ from by rw [stepTb, hsl])
      have HFN := Lib.hid (show F = runTb sec false (61 - (k + 1)) (stepTb sec false s) from by rw [HFF.out, show 61 - k = 61 - (k + 1) + 1 by omega, runTb, if_pos (by rw [HQ.out]; exact hq0)])
      have HTK := Lib.hid (fun (W : World) (hC : Cur W g v sec s.a s.e) (hS : Sz W) => take_strs hS (show Cur W g v sec s.a 0 from by rw [← he0]; exact hC) HLN.out)
      have HFU := Lib.hid (@stepTb_full sec false s)
      clear he0 hsl HQ HFF HKE
      generalize stepTb sec false s = s2 at *
      generalize tTb sec s.a false = x at *
      generalize xTb sec s.a false = xe at *
      generalize bdA sec s.a 0 = m at *
      go_upto_region 4 with (go_at_call 86; refine HLF.out.mono ?_; rintro r w2 ⟨rfl, nq, rfl⟩)
      obtain ⟨A3, c3, hu⟩ := un_slc HO.out.row
      rw [HX.out] at hu
      subst hu
      have hmx : k + 1 ≤ maxLen := by unfold maxLen; omega
      have hby : (k + 1) * 40 ≤ 140737488355328 := by omega
      have HTK2 := Lib.hid (HTK.out _ (HC.out.drewN nq) (HSZ.out.drewN nq))
      have HOQ := Lib.hid (show OwnTb 86 (wr.drewN nq) w.heap.size (.slice A3 k c3) M from ⟨HO.out.row, HO.out.its⟩)
      have HCQ := Lib.hid (HC.out.drewN nq)
      have HBQ := Lib.hid (below_drewN HB.out nq)
      have HSQ := Lib.hid (HSZ.out.drewN nq)
      clear HTK HO HC HB HSZ HLF
      generalize wr.drewN nq = w3 at *
      go_upto_region 5 with (first
        | (go_at_call 87; refine HTK2.out.mono ?_; rintro r w4 ⟨y, hyx, rfl, hOU, hC, hG⟩; have HYX := Lib.hid hyx; have HC4 := Lib.hid hC; have HS4 := Lib.hid (HSQ.out.grown hG (HSQ.out.cur HCQ.out)); have HO4 := Lib.hid (HOQ.out.far hG HCQ.out.1 (by decide) (by decide)); have HU4 := Lib.hid (row_base hOU HBQ.out.size); have HB4 := Lib.hid (HBQ.out.grown hG HBQ.out.size (fun y hy => by injection hy with hy; have := HGE.out; omega)); have hsz : w.heap.size ≤ w4.heap.size + 1 := (by have := HB4.out.size; omega); have HO5 := Lib.hid (HO4.out.below ((Below.refl w4.heap.size w4).alloc (Nat.le_refl _) (.cells #[.bool y.x.wide, .int .u64 (y.x.base : Int), .slice y.a y.x.items.length y.c] 86))); have HR5 := Lib.hid HO5.out.row; rw [HX.out] at HR5; clear hyx hOU hC hG)
        | (at_builtin; refine wpList_append_own_at _ (by rfl) (.tmp 14) (.tmp 18) _ (by rfl) w.heap.size 86 i1 _ 3 40 Tryd.underlying66 hj1 hy0 hy1 hy2 rfl (by decide) _ k (cellsF TLay.cells M) (by rfl) HR5.out ⟨w4.heap.size, 0, none⟩ 1 1 y.cells (by rfl) rfl (fun j u h => cells_newU w4 y.cells _ j u h) (tbl_one _) hmx hby (by simpa using hsz) ?_; intro v6 w6 hown6 hg6 hn6 hat6; clear hn6 hat6; have HO6 := Lib.hid hown6; have HG6 := Lib.hid hg6; clear hown6 hg6))
      have hA := (Below.refl w4.heap.size w4).alloc (Nat.le_refl _) (.cells #[.bool y.x.wide, .int .u64 (y.x.base : Int), .slice y.a y.x.items.length y.c] 86)
      have HC6 := Lib.hid (un_cur (HC4.out.below hA) HO5.out.row (by decide) (by decide) HG6.out)
      have HS6 := Lib.hid (un_sz (HS4.out.below hA HS4.out.pos) HO5.out.row HZ.out HG6.out)
      have HB6 := Lib.hid ((HB4.out.trans (hA.mono HB4.out.size)).grown HG6.out (by simpa using hsz) (fun y hy => (HO5.out.row.lt y hy).1))
      have HON := Lib.hid (show OwnTb 86 w6 w.heap.size v6 (M ++ [y]) from HO5.out.snoc (row_below HU4.out hA) (by decide) HG6.out (by rw [HX.out]; exact HO6.out))
      have HMN := Lib.hid (show (M ++ [y]).map TLay.x = s.L ++ [x] by rw [List.map_append, HMM.out, List.map_cons, List.map_nil, HYX.out])
      have HNL := Lib.hid (show (M ++ [y]).length = k + 1 by rw [List.length_append, HX.out]; rfl)
      clear hA HO4 HO5 HR5 HG6 HO6 HC4 HS4 HB4 HU4 HOQ HCQ HBQ HSQ HTK2
      obtain ⟨A6, c6, hu6⟩ := un_slc HON.out.row
      rw [HNL.out] at hu6
      subst hu6
      by_cases h60 : 60 < k + 1
      · have d2 : decide ((60 : Int) < ((k : Int) + 1)) = true := by simp; omega
        have d3 : decide (60 < k + 1) = true := by simpa using h60
        rw [if_pos h60] at HSS
        have H60 := Lib.hid h60
        clear h60
        go_wp2_with (go_at_call 68; refine (fail_cur HC6.out 3).mono ?_; rintro r w7 ⟨rfl, hC, hG⟩; have HC7 := Lib.hid hC; have HS7 := Lib.hid (HS6.out.grown hG (HS6.out.cur HC6.out)); have HO7 := Lib.hid (HON.out.far hG HC6.out.1 (by decide) (by decide)); have HB7 := Lib.hid (HB6.out.grown hG HB6.out.size (fun y hy => by injection hy with hy; have := HGE.out; omega)); clear hC hG)
        go_roundg (62 - (k + 1))
        case measure => omega
        case rel => exact ⟨k + 1, s2, M ++ [y], by omega, rfl, HNL, Lib.hid (by rw [HSS.out]; exact HMN.out), Lib.hid (.inr (HFU.out (by rw [HSL.out]; exact H60.out))), HFN, HO7, Lib.hid (by rw [HSS.out]; exact HC7.out), HB7, HS7⟩
      · have d2 : decide ((60 : Int) < ((k : Int) + 1)) = false := by simp; omega
        have d3 : decide (60 < k + 1) = false := by simpa using h60
        rw [if_neg h60] at HSS
        have h60' : k + 1 ≤ 60 := by omega
        clear h60
        go_wp2_with fail
        go_roundg (62 - (k + 1))
        case measure => omega
        case rel => exact ⟨k + 1, s2, M ++ [y], by omega, rfl, HNL, Lib.hid (by rw [HSS.out]; exact HMN.out), Lib.hid (.inl h60'), HFN, HON, Lib.hid (by rw [HSS.out]; exact HC6.out), HB6, HS6⟩
    · have d : decide ((0 : Int) < (q : Int)) = false := by simp; omega
      have d' : decide (0 < q) = false := by simpa using hq0
      have HFF2 := Lib.hid (show F = s from by rw [HFF.out]; exact runTb_end (by rw [HQ.out]; omega) _)
      have hE : E = s.e := by rw [HE.out, HFF2.out]
      have HLL := Lib.hid (show R = if E = 0 then s.L else [] from by rw [HL.out, HFF2.out])
      have HER := Lib.hid (fun n => by
        have := err_cur (HC.out.drewN n)
        rw [← hE] at this
        exact this : ∀ n, Calls Tryd.prog 66 #[.pointer (some ⟨g, 0, none⟩)] (wr.drewN n) fun r w' => r = .returned (.int .i64 E) ∧ wr.drewN n = w')
      clear hE HFF HFF2 HE HL
      by_cases hz : E = 0
      · have n1 : (E != 0) = false := by simpa using hz
        rw [if_pos hz] at HLL
        have HEZ := Lib.hid hz
        clear hz
        go_wp2_with (first
          | (go_at_call 86; refine HLF.out.mono ?_; rintro r w2 ⟨rfl, nq, rfl⟩)
          | (go_at_call 66; refine (HER.out _).mono ?_; rintro r w3 ⟨rfl, rfl⟩))
        go_ret2
        exact ⟨_, M, by rw [HEZ.out]; rfl, by rw [HLL.out]; exact HMM.out, ⟨HO.out.row, HO.out.its⟩, below_drewN HB.out _⟩
      · have n1 : (E != 0) = true := by simpa using hz
        rw [if_neg hz] at HLL
        clear hz
        go_wp2_with (first
          | (go_at_call 86; refine HLF.out.mono ?_; rintro r w2 ⟨rfl, nq, rfl⟩)
          | (go_at_call 66; refine (HER.out _).mono ?_; rintro r w3 ⟨rfl, rfl⟩))
        go_ret2
        exact ⟨_, [], rfl, by rw [HLL.out]; rfl, OwnTb.nil _ _ _, below_drewN HB.out _⟩

set_option maxRecDepth 10000 in
theorem tables_strs {w : World} {A : Option Addr} {sec : List UInt8} {B : Nat} (hs : Sz w) (c : Nat) (hr : Rd w B A sec) (hB : B ≤ w.heap.size) (hlen : sec.length ≤ 140737488355328) :
    Calls Tryd.prog 26 #[.slice A sec.length c] w fun r w' => ∃ u M, r = .returned (.tuple #[u, .int .i64 (allTbE sec false)]) ∧ M.map TLay.x = allTbL sec false ∧ OwnTb 86 w' w.heap.size u M ∧ Below w.heap.size w w' := by
  have H := Lib.hid (all_strs hs c hr hB hlen)
  clear hs hr hB hlen
  go_enter Tryd.func26, Tryd.ntmps26
  go_wp2_with (go_at_call 50; refine H.out.mono ?_; rintro r w1 ⟨u, M, rfl, hM, hO, hb⟩; have HM := Lib.hid hM; have HO := Lib.hid hO; have HB := Lib.hid hb; clear hM hO hb)
  go_ret2
  exact ⟨_, M, rfl, HM.out, HO.out, HB.out⟩

set_option maxRecDepth 10000 in
set_option maxHeartbeats 3200000 in
theorem all_addrs {w : World} {A : Option Addr} {sec : List UInt8} {B : Nat} (hs : Sz w) (c : Nat) (hr : Rd w B A sec) (hB : B ≤ w.heap.size) (hlen : sec.length ≤ 140737488355328) :
    Calls Tryd.prog 50 #[.slice A sec.length c, .func (.func 58) #[] #[]] w fun r w' => ∃ u M, r = .returned (.tuple #[u, .int .i64 (allTbE sec true)]) ∧ M.map TLay.x = allTbL sec true ∧ OwnTb 86 w' w.heap.size u M ∧ Below w.heap.size w w' := by
  obtain ⟨i1, hj1, hy0, hy1, hy2⟩ := info_parts tbl_info
  have HNW := Lib.hid (fun W (hW : W = w) => new_any (w := W) c (hW ▸ hr) (hW ▸ hB) hlen)
  have HLN := Lib.hid hlen
  have HS := Lib.hid hs
  have HZ := Lib.hid hs.pos
  have HE := Lib.hid (show allTbE sec true = (finTb sec true).e from rfl)
  have HL := Lib.hid (show allTbL sec true = if allTbE sec true = 0 then (finTb sec true).L else [] from rfl)
  have HF := Lib.hid (show finTb sec true = runTb sec true 61 ⟨0, 0, []⟩ from rfl)
  clear hr hB hlen hs
  generalize allTbE sec true = E at *
  generalize allTbL sec true = R at *
  generalize finTb sec true = F at *
  obtain ⟨N, hN⟩ : ∃ N, sec.length = N := ⟨_, rfl⟩
  rw [hN] at HNW ⊢
  clear hN
  go_enter Tryd.func50, Tryd.ntmps50
  go_upto_region 3 with (go_at_call 36; refine (HNW.out _ rfl).mono ?_; rintro r w1 ⟨g, v, rfl, hM, hb⟩; have HM := Lib.hid hM; have HB1 := Lib.hid hb; clear hM hb)
  have HC1 := Lib.hid HM.out.1
  have HGE := Lib.hid (show w.heap.size ≤ g from HM.out.2.1)
  have HS1 := Lib.hid (HS.out.below HB1.out HS.out.pos)
  clear HM HNW
  go_loopg [7] 62 (fun gk u wr => ∃ (k : Nat) (s : TAt) (M : List TLay), k ≤ 61 ∧ gk = 62 - k ∧ Hid (M.length = k) ∧ Hid (M.map TLay.x = s.L) ∧ Hid (k ≤ 60 ∨ s.e ≠ 0) ∧ Hid (F = runTb sec true (61 - k) s) ∧ Hid (OwnTb 86 wr w.heap.size u M) ∧ Hid (Cur wr g v sec s.a s.e) ∧ Hid (Below w.heap.size w wr) ∧ Hid (Sz wr))
  case atStart => exact ⟨0, ⟨0, 0, []⟩, [], Nat.zero_le _, rfl, Lib.hid rfl, Lib.hid rfl, Lib.hid (.inl (Nat.zero_le _)), HF, Lib.hid (OwnTb.nil _ _ _), HC1, HB1, HS1⟩
  case round =>
    obtain ⟨k, s, M, hk, rfl, HX, HMM, HKE, HFF, HO, HC, HB, HSZ⟩ := hrel
    clear HC1 HB1 HS1 HF
    have HLF := Lib.hid (left_cur HC.out)
    obtain ⟨q, hq⟩ : ∃ q, leftOf sec s.a s.e = q := ⟨_, rfl⟩
    rw [hq] at HLF
    have HQ := Lib.hid hq
    clear hq
    by_cases hq0 : 0 < q
    · have d : decide ((0 : Int) < (q : Int)) = true := by simp; omega
      have d' : decide (0 < q) = true := by simpa using hq0
      have he0 : s.e = 0 := left_err (by rw [HQ.out]; exact hq0)
      have hk60 : k ≤ 60 := by rcases HKE.out with h | h; exact h; exact absurd he0 h
      have hsl : s.L.length = k := by rw [← HMM.out, List.length_map, HX.out]
      have HSL := Lib.hid hsl
      have HSS := Lib.hid (show stepTb sec true s = ⟨bdA sec s.a 0, if 60 < k + 1 then failOf (xTb sec s.a true) 3 else xTb sec s.a true, s.L ++ [tTb sec s.a true]⟩ from by rw [stepTb, hsl])
      have HFN := Lib.hid (show F = runTb sec true (61 - (k + 1)) (stepTb sec true s) from by rw [HFF.out, show 61 - k = 61 - (k + 1) + 1 by omega, runTb, if_pos (by rw [HQ.out]; exact hq0)])
      have HTK := Lib.hid (fun (W : World) (hC : Cur W g v sec s.a s.e) (hS : Sz W) => take_addrs hS (show Cur W g v sec s.a 0 from by rw [← he0]; exact hC) HLN.out)
      have HFU := Lib.hid (@stepTb_full sec true s)
      clear he0 hsl HQ HFF HKE
      generalize stepTb sec true s = s2 at *
      generalize tTb sec s.a true = x at *
      generalize xTb sec s.a true = xe at *
      generalize bdA sec s.a 0 = m at *
      go_upto_region 4 with (go_at_call 86; refine HLF.out.mono ?_; rintro r w2 ⟨rfl, nq, rfl⟩)
      obtain ⟨A3, c3, hu⟩ := un_slc HO.out.row
      rw [HX.out] at hu
      subst hu
      have hmx : k + 1 ≤ maxLen := by unfold maxLen; omega
      have hby : (k + 1) * 40 ≤ 140737488355328 := by omega
      have HTK2 := Lib.hid (HTK.out _ (HC.out.drewN nq) (HSZ.out.drewN nq))
      have HOQ := Lib.hid (show OwnTb 86 (wr.drewN nq) w.heap.size (.slice A3 k c3) M from ⟨HO.out.row, HO.out.its⟩)
      have HCQ := Lib.hid (HC.out.drewN nq)
      have HBQ := Lib.hid (below_drewN HB.out nq)
      have HSQ := Lib.hid (HSZ.out.drewN nq)
      clear HTK HO HC HB HSZ HLF
      generalize wr.drewN nq = w3 at *
      go_upto_region 5 with (first
        | (go_at_call 87; refine HTK2.out.mono ?_; rintro r w4 ⟨y, hyx, rfl, hOU, hC, hG⟩; have HYX := Lib.hid hyx; have HC4 := Lib.hid hC; have HS4 := Lib.hid (HSQ.out.grown hG (HSQ.out.cur HCQ.out)); have HO4 := Lib.hid (HOQ.out.far hG HCQ.out.1 (by decide) (by decide)); have HU4 := Lib.hid (row_base hOU HBQ.out.size); have HB4 := Lib.hid (HBQ.out.grown hG HBQ.out.size (fun y hy => by injection hy with hy; have := HGE.out; omega)); have hsz : w.heap.size ≤ w4.heap.size + 1 := (by have := HB4.out.size; omega); have HO5 := Lib.hid (HO4.out.below ((Below.refl w4.heap.size w4).alloc (Nat.le_refl _) (.cells #[.bool y.x.wide, .int .u64 (y.x.base : Int), .slice y.a y.x.items.length y.c] 86))); have HR5 := Lib.hid HO5.out.row; rw [HX.out] at HR5; clear hyx hOU hC hG)
        | (at_builtin; refine wpList_append_own_at _ (by rfl) (.tmp 14) (.tmp 18) _ (by rfl) w.heap.size 86 i1 _ 3 40 Tryd.underlying66 hj1 hy0 hy1 hy2 rfl (by decide) _ k (cellsF TLay.cells M) (by rfl) HR5.out ⟨w4.heap.size, 0, none⟩ 1 1 y.cells (by rfl) rfl (fun j u h => cells_newU w4 y.cells _ j u h) (tbl_one _) hmx hby (by simpa using hsz) ?_; intro v6 w6 hown6 hg6 hn6 hat6; clear hn6 hat6; have HO6 := Lib.hid hown6; have HG6 := Lib.hid hg6; clear hown6 hg6))
      have hA := (Below.refl w4.heap.size w4).alloc (Nat.le_refl _) (.cells #[.bool y.x.wide, .int .u64 (y.x.base : Int), .slice y.a y.x.items.length y.c] 86)
      have HC6 := Lib.hid (un_cur (HC4.out.below hA) HO5.out.row (by decide) (by decide) HG6.out)
      have HS6 := Lib.hid (un_sz (HS4.out.below hA HS4.out.pos) HO5.out.row HZ.out HG6.out)
      have HB6 := Lib.hid ((HB4.out.trans (hA.mono HB4.out.size)).grown HG6.out (by simpa using hsz) (fun y hy => (HO5.out.row.lt y hy).1))
      have HON := Lib.hid (show OwnTb 86 w6 w.heap.size v6 (M ++ [y]) from HO5.out.snoc (row_below HU4.out hA) (by decide) HG6.out (by rw [HX.out]; exact HO6.out))
      have HMN := Lib.hid (show (M ++ [y]).map TLay.x = s.L ++ [x] by rw [List.map_append, HMM.out, List.map_cons, List.map_nil, HYX.out])
      have HNL := Lib.hid (show (M ++ [y]).length = k + 1 by rw [List.length_append, HX.out]; rfl)
      clear hA HO4 HO5 HR5 HG6 HO6 HC4 HS4 HB4 HU4 HOQ HCQ HBQ HSQ HTK2
      obtain ⟨A6, c6, hu6⟩ := un_slc HON.out.row
      rw [HNL.out] at hu6
      subst hu6
      by_cases h60 : 60 < k + 1
      · have d2 : decide ((60 : Int) < ((k : Int) + 1)) = true := by simp; omega
        have d3 : decide (60 < k + 1) = true := by simpa using h60
        rw [if_pos h60] at HSS
        have H60 := Lib.hid h60
        clear h60
        go_wp2_with (go_at_call 68; refine (fail_cur HC6.out 3).mono ?_; rintro r w7 ⟨rfl, hC, hG⟩; have HC7 := Lib.hid hC; have HS7 := Lib.hid (HS6.out.grown hG (HS6.out.cur HC6.out)); have HO7 := Lib.hid (HON.out.far hG HC6.out.1 (by decide) (by decide)); have HB7 := Lib.hid (HB6.out.grown hG HB6.out.size (fun y hy => by injection hy with hy; have := HGE.out; omega)); clear hC hG)
        go_roundg (62 - (k + 1))
        case measure => omega
        case rel => exact ⟨k + 1, s2, M ++ [y], by omega, rfl, HNL, Lib.hid (by rw [HSS.out]; exact HMN.out), Lib.hid (.inr (HFU.out (by rw [HSL.out]; exact H60.out))), HFN, HO7, Lib.hid (by rw [HSS.out]; exact HC7.out), HB7, HS7⟩
      · have d2 : decide ((60 : Int) < ((k : Int) + 1)) = false := by simp; omega
        have d3 : decide (60 < k + 1) = false := by simpa using h60
        rw [if_neg h60] at HSS
        have h60' : k + 1 ≤ 60 := by omega
        clear h60
        go_wp2_with fail
        go_roundg (62 - (k + 1))
        case measure => omega
        case rel => exact ⟨k + 1, s2, M ++ [y], by omega, rfl, HNL, Lib.hid (by rw [HSS.out]; exact HMN.out), Lib.hid (.inl h60'), HFN, HON, Lib.hid (by rw [HSS.out]; exact HC6.out), HB6, HS6⟩
    · have d : decide ((0 : Int) < (q : Int)) = false := by simp; omega
      have d' : decide (0 < q) = false := by simpa using hq0
      have HFF2 := Lib.hid (show F = s from by rw [HFF.out]; exact runTb_end (by rw [HQ.out]; omega) _)
      have hE : E = s.e := by rw [HE.out, HFF2.out]
      have HLL := Lib.hid (show R = if E = 0 then s.L else [] from by rw [HL.out, HFF2.out])
      have HER := Lib.hid (fun n => by
        have := err_cur (HC.out.drewN n)
        rw [← hE] at this
        exact this : ∀ n, Calls Tryd.prog 66 #[.pointer (some ⟨g, 0, none⟩)] (wr.drewN n) fun r w' => r = .returned (.int .i64 E) ∧ wr.drewN n = w')
      clear hE HFF HFF2 HE HL
      by_cases hz : E = 0
      · have n1 : (E != 0) = false := by simpa using hz
        rw [if_pos hz] at HLL
        have HEZ := Lib.hid hz
        clear hz
        go_wp2_with (first
          | (go_at_call 86; refine HLF.out.mono ?_; rintro r w2 ⟨rfl, nq, rfl⟩)
          | (go_at_call 66; refine (HER.out _).mono ?_; rintro r w3 ⟨rfl, rfl⟩))
        go_ret2
        exact ⟨_, M, by rw [HEZ.out]; rfl, by rw [HLL.out]; exact HMM.out, ⟨HO.out.row, HO.out.its⟩, below_drewN HB.out _⟩
      · have n1 : (E != 0) = true := by simpa using hz
        rw [if_neg hz] at HLL
        clear hz
        go_wp2_with (first
          | (go_at_call 86; refine HLF.out.mono ?_; rintro r w2 ⟨rfl, nq, rfl⟩)
          | (go_at_call 66; refine (HER.out _).mono ?_; rintro r w3 ⟨rfl, rfl⟩))
        go_ret2
        exact ⟨_, [], rfl, by rw [HLL.out]; rfl, OwnTb.nil _ _ _, below_drewN HB.out _⟩

set_option maxRecDepth 10000 in
theorem tables_addrs {w : World} {A : Option Addr} {sec : List UInt8} {B : Nat} (hs : Sz w) (c : Nat) (hr : Rd w B A sec) (hB : B ≤ w.heap.size) (hlen : sec.length ≤ 140737488355328) :
    Calls Tryd.prog 28 #[.slice A sec.length c] w fun r w' => ∃ u M, r = .returned (.tuple #[u, .int .i64 (allTbE sec true)]) ∧ M.map TLay.x = allTbL sec true ∧ OwnTb 86 w' w.heap.size u M ∧ Below w.heap.size w w' := by
  have H := Lib.hid (all_addrs hs c hr hB hlen)
  clear hs hr hB hlen
  go_enter Tryd.func28, Tryd.ntmps28
  go_wp2_with (go_at_call 50; refine H.out.mono ?_; rintro r w1 ⟨u, M, rfl, hM, hO, hb⟩; have HM := Lib.hid hM; have HO := Lib.hid hO; have HB := Lib.hid hb; clear hM hO hb)
  go_ret2
  exact ⟨_, M, rfl, HM.out, HO.out, HB.out⟩

end Go.Proofs.YtpmpgfngogdfhaaDoor
