/-
  Tables: the law's told; the document's Same where alike; an item by its base, the program's and the document's.
-/
import Derived.Test.YtpmpgfngogdfhaaDoorTbE
import Derived.Test.YtpmpgfngogdfhaaDoorTbQ
namespace Go.Proofs.YtpmpgfngogdfhaaDoor
open Go Go.RowKit

set_option maxRecDepth 10000 in
set_option maxHeartbeats 1600000 in
theorem told_tb {w : World} {B : Nat} {A : Option Addr} {L : List TLay} (h : Tabs w B A L) (hB : B ≤ w.heap.size) (c : Nat) (hl : L.length ≤ 100000) :
    Calls Tryd.prog 30 #[.slice A L.length c] w fun r w' => ∃ u, r = .returned u ∧ w'.ownsRow w.heap.size 131 3 u L.length (cellsF TLay.cells L) ∧ Below w.heap.size w w' := by
  obtain ⟨i1, hj1, hy0, hy1, hy2⟩ := info_parts rtbl_info
  have HH := Lib.hid h
  generalize hN : L.length = N at *
  have HN := Lib.hid hN
  clear h hN
  go_enter Tryd.func30, Tryd.ntmps30
  go_wp2_with fail
  go_loopg [3, 8] N (fun gk u i wr => ∃ k : Nat, k ≤ N ∧ gk = N - k ∧ i = .int .i64 k ∧ Hid (wr.ownsRow w.heap.size 131 3 u k (cellsF TLay.cells (L.take k))) ∧ Hid (Below w.heap.size w wr))
  case atStart => exact ⟨0, Nat.zero_le _, rfl, rfl, Lib.hid (World.ownsRow_nil _ _ _ _), Lib.hid (Below.refl _ _)⟩
  case round =>
    obtain ⟨k, hk, rfl, rfl, HO, HB⟩ := hrel
    by_cases hlt : k < N
    · have HLT := Lib.hid hlt
      obtain ⟨x, hx⟩ : ∃ x, L[k]? = some x := ⟨L[k]'(by rw [HN.out]; exact hlt), List.getElem?_eq_getElem _⟩
      obtain ⟨b, o, rfl, hb, c0, c1, c2⟩ := tbl_at (HH.out.below (HB.out.mono hB)) hx
      have HNX := Lib.hid (show cellsF TLay.cells (L.take (k + 1)) = cellsF TLay.cells (L.take k) ++ x.cells by rw [List.take_add_one, hx, cellsF_append]; simp [cellsF])
      obtain ⟨w2, hw2⟩ : ∃ w2, wr.alloc (.cells #[.bool x.x.wide, .int .u64 (x.x.base : Int), .slice x.a x.x.items.length x.c] 86) = w2 := ⟨_, rfl⟩
      have hb2 : Below wr.heap.size wr w2 := hw2 ▸ (Below.refl _ _).alloc (Nat.le_refl _) _
      have hX2 := Box.new wr 86 #[.bool x.x.wide, .int .u64 (x.x.base : Int), .slice x.a x.x.items.length x.c]
      rw [hw2] at hX2
      have HW2 := Lib.hid hw2
      have HB2 := Lib.hid (HB.out.trans (hb2.mono HB.out.size))
      have HO2 := Lib.hid (row_below HO.out hb2)
      have hmx : k + 1 ≤ maxLen := by unfold maxLen; omega
      have hby : (k + 1) * 40 ≤ 140737488355328 := by omega
      clear hw2 hx hb
      obtain ⟨Av, cv, hu⟩ := un_slc HO.out
      subst hu
      go_upto_region 5 with fail
      rw [HW2.out]
      clear c0 c1 c2 HW2
      obtain ⟨y0, y1, y2⟩ := three_cellsT hX2
      clear hX2
      have hA := (Below.refl w2.heap.size w2).alloc (Nat.le_refl _) (.cells #[.bool x.x.wide, .int .u64 (x.x.base : Int), .slice x.a x.x.items.length x.c] 131)
      have HO3 := Lib.hid (row_below HO2.out hA)
      have hbs : w.heap.size ≤ w2.heap.size + 1 := by have := HB2.out.size; omega
      have HAA := Lib.hid hA
      clear hA
      go_wp2_with (at_builtin; refine wpList_append_own_at _ (by rfl) (.tmp 12) (.tmp 14) _ (by rfl) w.heap.size 131 i1 _ 3 40 Tryd.underlying69 hj1 hy0 hy1 hy2 rfl (by decide) _ k (cellsF TLay.cells (L.take k)) (by rfl) HO3.out ⟨w2.heap.size, 0, none⟩ 1 1 x.cells (by rfl) rfl (fun j u h => cells_newU w2 x.cells _ j u h) (tbl_one _) hmx hby (by simpa using hbs) ?_; intro v6 w6 hown6 hg6 hn6 hat6; clear hn6 hat6; have HO6 := Lib.hid hown6; have HB6 := Lib.hid ((HB2.out.trans (HAA.out.mono HB2.out.size)).grown hg6 (by simpa using hbs) (fun y hy => (HO3.out.lt y hy).1)); clear hown6 hg6)
      go_roundg (N - (k + 1))
      case measure => have := HLT.out; omega
      case rel => exact ⟨k + 1, HLT.out, rfl, by go_num, Lib.hid (by rw [HNX.out]; exact HO6.out), HB6⟩
    · have hkN : k = N := by omega
      subst hkN
      have HO2 := Lib.hid (show wr.ownsRow w.heap.size 131 3 u3 k (cellsF TLay.cells L) by
        have := HO.out
        rw [List.take_of_length_le (by rw [HN.out]; omega)] at this
        exact this)
      clear HO
      go_wp2_with fail
      go_ret
      exact ⟨_, rfl, HO2.out, HB.out⟩

/-- What was told lies. -/
theorem told_lies {w w' : World} {B base : Nat} {T : TypeId} {A : Option Addr} {u : Value} {L : List TLay} (h : Tabs w B A L) (hb : Below B w w') (hB : B ≤ w'.heap.size) (ho : w'.ownsRow base T 3 u L.length (cellsF TLay.cells L)) : ∃ A' c', u = .slice A' L.length c' ∧ Tabs w' w'.heap.size A' L := by
  obtain ⟨A', c', e, -, -, hr⟩ := own_row tbl_three ho
  exact ⟨A', c', e, hr, fun y hy => ((h.its y hy).below hb).more hB⟩

set_option maxRecDepth 10000 in
set_option maxHeartbeats 3200000 in
theorem rsame_tb {w : World} {B : Nat} {A A' : Option Addr} {L L' : List TLay} (h : Tabs w B A L) (h' : Tabs w B A' L') (he : L.map TLay.x = L'.map TLay.x) (c c' : Nat) (hl : L.length ≤ 100000) (hi : ∀ y ∈ L, y.x.items.length ≤ 1000000000) :
    Calls Tryd.prog 29 #[.slice A L.length c, .slice A' L.length c'] w fun r w' => r = .returned (.bool true) ∧ ∃ q, w' = w.drewN q := by
  have HH := Lib.hid h
  have HH' := Lib.hid h'
  have HE := Lib.hid (fun (k : Nat) (x : TLay) (hx : L[k]? = some x) => (by
    have h1 : (L'.map TLay.x)[k]? = some x.x := by rw [← he, List.getElem?_map, hx]; rfl
    rw [List.getElem?_map] at h1
    obtain ⟨y, hy, e⟩ := Option.map_eq_some_iff.1 h1
    exact ⟨y, hy, e⟩ : ∃ y, L'[k]? = some y ∧ y.x = x.x))
  have HIT := Lib.hid hi
  generalize hN : L.length = N at *
  have HN := Lib.hid hN
  have n0 : ((N : Int) != (N : Int)) = false := by simp
  clear h h' he hN hi
  go_enter Tryd.func29, Tryd.ntmps29
  go_wp2_with fail
  go_loopg [5] N (fun gk i wr => ∃ (k q : Nat), k ≤ N ∧ gk = N - k ∧ i = .int .i64 k ∧ Hid (wr = w.drewN q))
  case atStart => exact ⟨0, 0, Nat.zero_le _, rfl, rfl, Lib.hid rfl⟩
  case round =>
    obtain ⟨k, q, hk, rfl, rfl, HW⟩ := hrel
    by_cases hlt : k < N
    · have HLT := Lib.hid hlt
      obtain ⟨x, hx⟩ : ∃ x, L[k]? = some x := ⟨L[k]'(by rw [HN.out]; exact hlt), List.getElem?_eq_getElem _⟩
      obtain ⟨y, hy, hyx⟩ := HE.out k x hx
      have hHw : Tabs wr B A L := HW.out ▸ HH.out.below (below_drewN (Below.refl _ _) q)
      have hHw' : Tabs wr B A' L' := HW.out ▸ HH'.out.below (below_drewN (Below.refl _ _) q)
      obtain ⟨b, o, rfl, hb, c0, c1, c2⟩ := tbl_at hHw hx
      obtain ⟨b', o', rfl, hb', d0, d1, d2⟩ := tbl_at hHw' hy
      have HRX := Lib.hid (hHw.its x (List.mem_of_getElem? hx))
      have HRY := Lib.hid (hHw'.its y (List.mem_of_getElem? hy))
      have HML := Lib.hid (HIT.out x (List.mem_of_getElem? hx))
      rw [hyx] at d0 d1 d2 HRY
      clear hx hy hyx hb hb' hHw hHw'
      generalize x.x.wide = wd at *
      generalize x.x.base = bs at *
      generalize x.x.items = its at *
      generalize x.a = xa at *
      generalize x.c = xc at *
      generalize y.a = ya at *
      generalize y.c = yc at *
      obtain ⟨m, hm⟩ : ∃ m, its.length = m := ⟨_, rfl⟩
      rw [hm] at c2 d2 HML
      have HMM := Lib.hid hm
      clear hm
      have q1 : (wd != wd) = false := by simp
      have q2 : ((bs : Int) != (bs : Int)) = false := by simp
      have q3 : ((m : Int) != (m : Int)) = false := by simp
      go_upto_region 6 with fail
      go_quiet (fail)
      go_upto_region 9 with fail
      have c2' : (wr.drewN nq).cell? ⟨b, o + k * 3 + 2, none⟩ = some (.slice xa m xc) := c2
      have d2' : (wr.drewN nq).cell? ⟨b', o' + k * 3 + 2, none⟩ = some (.slice ya m yc) := d2
      have HW2 := Lib.hid (show wr.drewN nq = w.drewN (q + nq) by rw [HW.out, World.drewN_drewN])
      have HRX2 := Lib.hid (show Row 1 numC (wr.drewN nq) B xa its from HRX.out)
      have HRY2 := Lib.hid (show Row 1 numC (wr.drewN nq) B ya its from HRY.out)
      clear c0 c1 c2 d0 d1 d2 HW HRX HRY q1 q2
      generalize wr.drewN nq = wj at *
      have C2 := Lib.hid c2'
      have D2 := Lib.hid d2'
      go_loopg [6] m (fun gk i wx => ∃ (j r : Nat), j ≤ m ∧ gk = m - j ∧ i = .int .i64 j ∧ Hid (wx = wj.drewN r))
      case atStart => exact ⟨0, 0, Nat.zero_le _, rfl, rfl, Lib.hid rfl⟩
      case round =>
        obtain ⟨j, r, hj, rfl, rfl, HWJ⟩ := hrel
        have e2 : wr.cell? ⟨b, o + k * 3 + 2, none⟩ = some (.slice xa m xc) := by rw [HWJ.out]; exact C2.out
        have f2 : wr.cell? ⟨b', o' + k * 3 + 2, none⟩ = some (.slice ya m yc) := by rw [HWJ.out]; exact D2.out
        clear c2' d2'
        by_cases hjm : j < m
        · have HJM := Lib.hid hjm
          obtain ⟨v, hv⟩ : ∃ v, its[j]? = some v := ⟨its[j]'(by rw [HMM.out]; exact hjm), List.getElem?_eq_getElem _⟩
          obtain ⟨bx, ox, hxa, hbx, cx⟩ := num_atT (HRX2.out) hv
          obtain ⟨by', oy, hya, hby, cy⟩ := num_atT (HRY2.out) hv
          subst hxa hya
          have cx' : wr.cell? ⟨bx, ox + j, none⟩ = some (.int .u64 (v : Int)) := by rw [HWJ.out]; exact cx
          have cy' : wr.cell? ⟨by', oy + j, none⟩ = some (.int .u64 (v : Int)) := by rw [HWJ.out]; exact cy
          have q1 : ((v : Int) != (v : Int)) = false := by simp
          have hj9 : j + 1 ≤ 1000000000 := by have := HML.out; omega
          clear cx cy hv
          go_upto_region 11 with fail
          go_quiet (fail)
          go_wp2_with fail
          go_roundg (m - (j + 1))
          case measure => have := HJM.out; omega
          case rel => exact ⟨j + 1, _, HJM.out, rfl, by go_num, Lib.hid (by rw [HWJ.out, World.drewN_drewN])⟩
        · have hjm' : j = m := by omega
          subst hjm'
          go_wp2_with fail
          go_roundg (N - (k + 1))
          case measure => have := HLT.out; omega
          case rel => exact ⟨k + 1, _, HLT.out, rfl, by go_num, Lib.hid (by rw [HWJ.out, HW2.out, World.drewN_drewN])⟩
    · have hkN : k = N := by omega
      subst hkN
      go_wp2_with fail
      go_ret
      exact ⟨rfl, q, HW.out⟩

/-! ### An item by its base -/
theorem find_firstT {α : Type} (p : α → Bool) : ∀ (L : List α) (k : Nat) (x : α), (L.take k).all (fun t => !p t) = true → L[k]? = some x → p x = true → L.find? p = some x
  | [], k, x, _, h, _ => by simp at h
  | y :: L, 0, x, _, h, hp => by
    simp only [List.getElem?_cons_zero, Option.some.injEq] at h
    subst h
    simp [hp]
  | y :: L, k + 1, x, ha, h, hp => by
    simp only [List.take_succ_cons, List.all_cons, Bool.and_eq_true, Bool.not_eq_true'] at ha
    rw [List.getElem?_cons_succ] at h
    rw [List.find?_cons_of_neg (by rw [ha.1]; decide)]
    exact find_firstT p L k x ha.2 h hp
theorem find_noneT {α : Type} (p : α → Bool) : ∀ (L : List α), L.all (fun t => !p t) = true → L.find? p = none
  | [], _ => rfl
  | y :: L, ha => by
    simp only [List.all_cons, Bool.and_eq_true, Bool.not_eq_true'] at ha
    rw [List.find?_cons_of_neg (by rw [ha.1]; decide)]
    exact find_noneT p L ha.2
theorem all_takeT {α : Type} (p : α → Bool) (L : List α) (k : Nat) (x : α) (h : (L.take k).all p = true) (hx : L[k]? = some x) (hp : p x = true) : (L.take (k + 1)).all p = true := by
  rw [List.take_add_one, hx, List.all_append, h]
  simp [hp]
def itTb (l : List Nat) (i : Nat) : Nat × Bool := match l[i]? with | some n => (n, true) | none => (0, false)
theorem itTb_none {l : List Nat} {i : Nat} (h : l.length ≤ i) : itTb l i = (0, false) := by unfold itTb; rw [List.getElem?_eq_none h]
theorem itTb_some {l : List Nat} {i v : Nat} (h : l[i]? = some v) : itTb l i = (v, true) := by unfold itTb; rw [h]
theorem atTb_is (L : List Tbl) (b i : Nat) : atTb L b i = match L.find? (fun t => t.base == b) with | some t => itTb t.items i | none => (0, false) := rfl
/-- The first table with that base. -/
def IxTb (L : List TLay) (b : Nat) (k : Int) : Prop := (∃ (n : Nat) (y : TLay), k = (n : Int) ∧ L[n]? = some y ∧ (L.map TLay.x).find? (fun t => t.base == b) = some y.x) ∨ (k = -1 ∧ (L.map TLay.x).find? (fun t => t.base == b) = none)

set_option maxRecDepth 10000 in
theorem at1_tb {w : World} (y : TLay) (b gb : Nat) (hb : w.cell? ⟨gb, 0, none⟩ = some (.int .u64 (b : Int))) :
    Calls Tryd.prog 61 #[.agg #[.bool y.x.wide, .int .u64 (y.x.base : Int), .slice y.a y.x.items.length y.c], .pointer (some ⟨gb, 0, none⟩)] w fun r w' => r = .returned (.bool (y.x.base == b)) ∧ Below w.heap.size w w' := by
  have hlt := World.block_lt_of_cell? w _ hb
  have HB0 := Lib.hid (show Below w.heap.size w (w.alloc (.cells #[.bool y.x.wide, .int .u64 (y.x.base : Int), .slice y.a y.x.items.length y.c] 86)) from (Below.refl _ _).alloc (Nat.le_refl _) _)
  have hb2 : (w.alloc (.cells #[.bool y.x.wide, .int .u64 (y.x.base : Int), .slice y.a y.x.items.length y.c] 86)).cell? ⟨gb, 0, none⟩ = some (.int .u64 (b : Int)) := (HB0.out.cell (p := ⟨gb, 0, none⟩) hlt).trans hb
  obtain ⟨q, hq⟩ : ∃ q, (y.x.base == b) = q := ⟨_, rfl⟩
  have q1 : ((y.x.base : Int) == (b : Int)) = q := by rw [← hq, Bool.eq_iff_iff]; simp; omega
  rw [hq]
  clear hb hlt hq
  generalize y.x.base = bs at *
  go_enter Tryd.func61, Tryd.ntmps61
  go_wp2_with fail
  go_ret
  exact ⟨rfl, HB0.out⟩

set_option maxRecDepth 10000 in
set_option maxHeartbeats 1600000 in
theorem index_tb {w : World} {B : Nat} {A : Option Addr} {L : List TLay} (h : Tabs w B A L) (hB : B ≤ w.heap.size) (c b gb : Nat) (hb : w.cell? ⟨gb, 0, none⟩ = some (.int .u64 (b : Int))) (hl : L.length ≤ 100000) :
    Calls Tryd.prog 60 #[.slice A L.length c, .func (.func 61) #[] #[.pointer (some ⟨gb, 0, none⟩)]] w fun r w' => ∃ k : Int, r = .returned (.int .i64 k) ∧ IxTb L b k ∧ Below w.heap.size w w' := by
  obtain ⟨N, hN⟩ : ∃ N, L.length = N := ⟨_, rfl⟩
  have HH := Lib.hid h
  have HN := Lib.hid hN
  have HB0 := Lib.hid hb
  have HLT := Lib.hid (World.block_lt_of_cell? w _ hb)
  rw [hN] at hl ⊢
  clear h hN hb
  go_enter Tryd.func60, Tryd.ntmps60
  go_wp2_with fail
  go_loopw [8] (fun i wr => ∃ k : Nat, k ≤ N ∧ i = .int .i64 k ∧ Below w.heap.size w wr ∧ Hid ((L.take k).all (fun t => !(t.x.base == b)) = true)) (fun i _ => N - (intOf i).toNat)
  case atStart => exact ⟨0, Nat.zero_le _, rfl, Below.refl _ _, Lib.hid rfl⟩
  case round =>
    obtain ⟨k, hk, rfl, hB1, HY⟩ := hrel
    have HB := Lib.hid hB1
    by_cases hlt : k < N
    · obtain ⟨x, hx⟩ : ∃ x, L[k]? = some x := ⟨L[k]'(by rw [HN.out]; exact hlt), List.getElem?_eq_getElem _⟩
      obtain ⟨bb, o, rfl, hbb, c0, c1, c2⟩ := tbl_at (HH.out.below (hB1.mono hB)) hx
      have HW := Lib.hid (at1_tb (w := wr) x b gb ((hB1.cell (p := ⟨gb, 0, none⟩) HLT.out).trans HB0.out))
      by_cases hst : (x.x.base == b) = true
      · have HF := Lib.hid (show IxTb L b (k : Int) from .inl ⟨k, x, rfl, hx, by
          have h1 : ((L.map TLay.x).take k).all (fun t => !(t.base == b)) = true := by rw [← List.map_take, List.all_map]; exact HY.out
          exact find_firstT _ _ k x.x h1 (by rw [List.getElem?_map, hx]; rfl) hst⟩)
        rw [hst] at HW
        clear hx hst hB1
        go_wp2_with (go_at_call 61; refine HW.out.mono ?_; rintro r w1 ⟨rfl, hb1⟩)
        have HB2 := Lib.hid (HB.out.trans (hb1.mono HB.out.size))
        go_ret
        exact ⟨k, rfl, HF.out, HB2.out⟩
      · have hst' : (x.x.base == b) = false := by simpa using hst
        have HF := Lib.hid (all_takeT (fun t : TLay => !(t.x.base == b)) L k x HY.out hx (by rw [hst']; rfl))
        rw [hst'] at HW
        clear hx hst hB1 hst'
        go_wp2_with (go_at_call 61; refine HW.out.mono ?_; rintro r w1 ⟨rfl, hb1⟩)
        have HB2 := Lib.hid (HB.out.trans (hb1.mono HB.out.size))
        go_roundw
        case rel => exact ⟨k + 1, by omega, by go_num, HB2.out, HF⟩
        case measure => simp [intOf]; omega
    · have HF := Lib.hid (show IxTb L b (-1) from .inr ⟨rfl, find_noneT _ _ (by
        have := HY.out
        rw [List.take_of_length_le (by rw [HN.out]; omega)] at this
        rw [List.all_map]
        exact this)⟩)
      clear hB1
      go_wp2_with fail
      go_ret
      exact ⟨-1, rfl, HF.out, HB.out⟩

set_option maxRecDepth 10000 in
set_option maxHeartbeats 1600000 in
theorem at_tb {w : World} {B : Nat} {A : Option Addr} {L : List TLay} (h : Tabs w B A L) (hB : B ≤ w.heap.size) (c b i : Nat) (hl : L.length ≤ 100000) (hi : ∀ y ∈ L, y.x.items.length ≤ 1000000000) :
    Calls Tryd.prog 31 #[.slice A L.length c, .int .u64 (b : Int), .int .u64 (i : Int)] w fun r w' => r = .returned (.tuple #[.int .u64 ((atTb (L.map TLay.x) b i).1 : Int), .bool (atTb (L.map TLay.x) b i).2]) ∧ Below w.heap.size w w' := by
  have hb1 : Below w.heap.size w (w.alloc (.cells #[.int .u64 (b : Int)] 41)) := (Below.refl _ _).alloc (Nat.le_refl _) _
  have hX : (w.alloc (.cells #[.int .u64 (b : Int)] 41)).cell? ⟨w.heap.size, 0, none⟩ = some (.int .u64 (b : Int)) := by rw [(Box.new w 41 #[.int .u64 (b : Int)]).cell 0]; rfl
  have HI := Lib.hid (index_tb (h.below (hb1.mono hB)) (Nat.le_trans hB hb1.size) c b w.heap.size hX hl)
  have HB1 := Lib.hid hb1
  have HH := Lib.hid h
  have HA := Lib.hid (atTb_is (L.map TLay.x) b i)
  have HM := Lib.hid hi
  have HIX := Lib.hid (fun (k : Int) (h : IxTb L b k) => h)
  have hmf : ∀ (fn : Fn) (first cap : Array Value) (W : World), (Instr.makeFunc fn first cap).run Tryd.prog W = .ok (.func fn first cap) W := fun _ _ _ _ => rfl
  generalize hr : atTb (L.map TLay.x) b i = R at *
  generalize hN : L.length = N at *
  clear h hb1 hX hi hr
  go_enter Tryd.func31, Tryd.ntmps31
  go_upto_region 2 with (go_at_call 60; refine HI.out.mono ?_; rintro r w1 ⟨k, rfl, hk, hb⟩; have HK := Lib.hid hk; have HB2 := Lib.hid (HB1.out.trans (hb.mono HB1.out.size)); clear hk hb)
  rcases HK.out with ⟨n, y, rfl, hy, hf⟩ | ⟨rfl, hf⟩
  · rw [hf] at HA
    have HA := Lib.hid (show R = itTb y.x.items i from HA.out)
    have hd : decide (((n : Nat) : Int) < 0) = false := by simp
    obtain ⟨bb, o, rfl, hbb, c0, c1, c2⟩ := tbl_at (HH.out.below (HB2.out.mono hB)) hy
    have hRI := (HH.out.below (HB2.out.mono hB)).its y (List.mem_of_getElem? hy)
    have hml := HM.out y (List.mem_of_getElem? hy)
    have hnl : n < N := by rw [← hN]; exact (List.getElem?_eq_some_iff.1 hy).1
    have HRI := Lib.hid hRI
    generalize y.x.items = its at *
    generalize y.a = ya at *
    generalize y.c = yc at *
    obtain ⟨m, hm⟩ : ∃ m, its.length = m := ⟨_, rfl⟩
    rw [hm] at c2 hml
    have s1 : IntKind.u64.wrap (m : Int) = (m : Int) := by rw [IntWalk.u64_in _ (by omega)]
    by_cases him : m ≤ i
    · have d1 : decide ((m : Int) ≤ (i : Int)) = true := by simp; omega
      have d2 : decide (m ≤ i) = true := by simpa using him
      have HR := Lib.hid (show R = (0, false) by rw [HA.out]; exact itTb_none (by omega))
      clear HA hm hf hy hRI him
      go_wp2_with fail
      go_ret2
      exact ⟨by rw [HR.out]; rfl, HB2.out⟩
    · have d1 : decide ((m : Int) ≤ (i : Int)) = false := by simp; omega
      have d2 : decide (m ≤ i) = false := by simpa using him
      obtain ⟨v, hv⟩ : ∃ v, its[i]? = some v := ⟨its[i]'(by omega), List.getElem?_eq_getElem _⟩
      have HR := Lib.hid (show R = (v, true) by rw [HA.out]; exact itTb_some hv)
      obtain ⟨bx, ox, rfl, hbx, cx⟩ := num_atT hRI hv
      have him' : i < m := by omega
      clear HA hm hf hy hRI him hv
      go_wp2_with fail
      go_ret2
      exact ⟨by rw [HR.out]; rfl, HB2.out⟩
  · rw [hf] at HA
    have HR := Lib.hid (show R = (0, false) from HA.out)
    clear HA hf
    go_wp2_with fail
    go_ret2
    exact ⟨by rw [HR.out]; rfl, HB2.out⟩

set_option maxRecDepth 10000 in
set_option maxHeartbeats 1600000 in
theorem rat_tb {w : World} {B : Nat} {A : Option Addr} {L : List TLay} (h : Tabs w B A L) (c b i : Nat) (hl : L.length ≤ 100000) (hi : ∀ y ∈ L, y.x.items.length ≤ 1000000000) :
    Calls Tryd.prog 32 #[.slice A L.length c, .int .u64 (b : Int), .int .u64 (i : Int)] w fun r w' => r = .returned (.tuple #[.int .u64 ((atTb (L.map TLay.x) b i).1 : Int), .bool (atTb (L.map TLay.x) b i).2]) ∧ w = w' := by
  have HH := Lib.hid h
  have HA := Lib.hid (atTb_is (L.map TLay.x) b i)
  have HM := Lib.hid hi
  generalize hr : atTb (L.map TLay.x) b i = R at *
  generalize hN : L.length = N at *
  have HN := Lib.hid hN
  clear h hi hr hN
  go_enter Tryd.func32, Tryd.ntmps32
  go_wp2_with fail
  go_loopw [8] (fun x wr => ∃ k : Nat, k ≤ N ∧ x = .int .i64 k ∧ w = wr ∧ Hid ((L.take k).all (fun t => !(t.x.base == b)) = true)) (fun x _ => N - (intOf x).toNat)
  case atStart => exact ⟨0, Nat.zero_le _, rfl, rfl, Lib.hid rfl⟩
  case round =>
    obtain ⟨k, hk, rfl, rfl, HY⟩ := hrel
    by_cases hlt : k < N
    · obtain ⟨x, hx⟩ : ∃ x, L[k]? = some x := ⟨L[k]'(by rw [HN.out]; exact hlt), List.getElem?_eq_getElem _⟩
      obtain ⟨bb, o, rfl, hbb, c0, c1, c2⟩ := tbl_at HH.out hx
      by_cases hst : (x.x.base == b) = true
      · have hF : (L.map TLay.x).find? (fun t => t.base == b) = some x.x := by
          have h1 : ((L.map TLay.x).take k).all (fun t => !(t.base == b)) = true := by rw [← List.map_take, List.all_map]; exact HY.out
          exact find_firstT _ _ k x.x h1 (by rw [List.getElem?_map, hx]; rfl) hst
        rw [hF] at HA
        have HA := Lib.hid (show R = itTb x.x.items i from HA.out)
        have q1 : ((x.x.base : Int) == (b : Int)) = true := by rw [Bool.eq_iff_iff] at hst ⊢; simp at hst ⊢; omega
        have hRI := HH.out.its x (List.mem_of_getElem? hx)
        have hml := HM.out x (List.mem_of_getElem? hx)
        clear hF hst hx
        generalize x.x.base = bs at *
        generalize x.x.items = its at *
        generalize x.a = ya at *
        generalize x.c = yc at *
        obtain ⟨m, hm⟩ : ∃ m, its.length = m := ⟨_, rfl⟩
        rw [hm] at c2 hml
        have s1 : IntKind.u64.wrap (m : Int) = (m : Int) := by rw [IntWalk.u64_in _ (by omega)]
        by_cases him : m ≤ i
        · have d1 : decide ((m : Int) ≤ (i : Int)) = true := by simp; omega
          have d2 : decide (m ≤ i) = true := by simpa using him
          have HR := Lib.hid (show R = (0, false) by rw [HA.out]; exact itTb_none (by omega))
          clear HA hm hRI
          go_wp2_with fail
          (try rw [Exit.noGoto_ret])
          go_ret2
          exact ⟨by rw [HR.out]; rfl, by first | rfl | trivial⟩
        · have d1 : decide ((m : Int) ≤ (i : Int)) = false := by simp; omega
          have d2 : decide (m ≤ i) = false := by simpa using him
          obtain ⟨v, hv⟩ : ∃ v, its[i]? = some v := ⟨its[i]'(by omega), List.getElem?_eq_getElem _⟩
          have HR := Lib.hid (show R = (v, true) by rw [HA.out]; exact itTb_some hv)
          obtain ⟨bx, ox, rfl, hbx, cx⟩ := num_atT hRI hv
          have him' : i < m := by omega
          have s2 : IntKind.i64.wrap (i : Int) = (i : Int) := by rw [IntWalk.i64_in _ (by omega)]
          clear HA hm hRI hv
          go_wp2_with fail
          (try rw [Exit.noGoto_ret])
          go_ret2
          exact ⟨by rw [HR.out]; rfl, by first | rfl | trivial⟩
      · have hst' : (x.x.base == b) = false := by simpa using hst
        have HF := Lib.hid (all_takeT (fun t : TLay => !(t.x.base == b)) L k x HY.out hx (by rw [hst']; rfl))
        have q1 : ((x.x.base : Int) == (b : Int)) = false := by rw [Bool.eq_false_iff] at hst' ⊢; simp at hst' ⊢; omega
        clear hx hst hst'
        go_wp2_with fail
        go_roundw
        case rel => exact ⟨k + 1, by omega, by go_num, by first | rfl | trivial, HF⟩
        case measure => simp [intOf]; omega
    · have hF : (L.map TLay.x).find? (fun t => t.base == b) = none := find_noneT _ _ (by
        have := HY.out
        rw [List.take_of_length_le (by rw [HN.out]; omega)] at this
        rw [List.all_map]
        exact this)
      rw [hF] at HA
      have HR := Lib.hid (show R = (0, false) from HA.out)
      clear HA hF
      go_wp2_with fail
      go_ret2
      exact ⟨by rw [HR.out]; rfl, by first | rfl | trivial⟩

end Go.Proofs.YtpmpgfngogdfhaaDoor
