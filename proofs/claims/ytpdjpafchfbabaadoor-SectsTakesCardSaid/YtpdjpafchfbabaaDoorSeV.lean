/-
  Package sects: tell.
-/

import Derived.Test.YtpdjpafchfbabaaDoorSeU
import Derived.Test.YtpdjpafchfbabaaDoorCsA
namespace Go.Proofs.YtpdjpafchfbabaaDoor
open Go Go.RowKit

def nameN (ns : List Nat) : Nat := ns.getD 0 0
def kindN (ns : List Nat) : Nat := ns.getD 1 0
/-- An entry's section; tbl: the table of names. -/
def sectT (l tbl : List UInt8) (ns : List Nat) : Sect :=
  ⟨(atT tbl (nameN ns)).1, (kindN ns : Int), ns.getD 2 0, ns.getD 3 0, dataT l ns, (ns.getD 6 0 : Int), (ns.getD 7 0 : Int), (ns.getD 8 0 : Int), (ns.getD 9 0 : Int)⟩
def tblT (l : List UInt8) (off sh : Nat) : List UInt8 := dataT l (entN l (off + 64 * sh))
/-- Whether the first k names can be read. -/
def namesOk (l tbl : List UInt8) (off k : Nat) : Prop := ∀ i, i < k → (atT tbl (nameN (entN l (off + 64 * i)))).2 = 0
instance (l tbl : List UInt8) (off k : Nat) : Decidable (namesOk l tbl off k) := Nat.decidableBallLT k fun i _ => (atT tbl (nameN (entN l (off + 64 * i)))).2 = 0
/-- What the sections are refused with, behind what entries are refused with by themselves. -/
def tellE (l : List UInt8) (off n sh : Nat) : Int :=
  if entN l off = List.replicate 10 0 ∧ kindN (entN l (off + 64 * sh)) = 3 ∧ namesOk l (tblT l off sh) off n then 0 else 22
def secsT (l : List UInt8) (off n sh : Nat) : List Sect := (List.range n).map fun i => sectT l (tblT l off sh) (entN l (off + 64 * i))
theorem secsT_next (l : List UInt8) (off k sh : Nat) : secsT l off (k + 1) sh = secsT l off k sh ++ [sectT l (tblT l off sh) (entN l (off + 64 * k))] := by
  simp [secsT, List.range_succ]

/-- Sections that were told: a row of the call's own, their bytes rows of the call's own. -/
def Told (w : World) (base : Nat) (v : Value) (ss : List Sect) : Prop := ∃ L : List Lay, secsOf L = ss ∧ OwnL w base v L ∧ ∀ x ∈ L, Own w base x.dv x.s.data
theorem Told.below {w w' : World} {base : Nat} {v : Value} {ss : List Sect} (h : Told w base v ss) (hb : Below w.heap.size w w') : Told w' base v ss := by
  obtain ⟨L, h1, h2, h3⟩ := h
  exact ⟨L, h1, row_below h2 hb, fun x hx => own_below (h3 x hx) hb⟩
theorem Told.base_ {w : World} {base base' : Nat} {v : Value} {ss : List Sect} (h : Told w base v ss) (hb : base' ≤ base) : Told w base' v ss := by
  obtain ⟨L, h1, h2, h3⟩ := h
  exact ⟨L, h1, row_base h2 hb, fun x hx => own_up (h3 x hx) hb⟩
theorem Told.length {w : World} {base : Nat} {v : Value} {ss : List Sect} (h : Told w base v ss) : ∃ L : List Lay, L.length = ss.length ∧ secsOf L = ss := by
  obtain ⟨L, h1, _⟩ := h
  exact ⟨L, by rw [← h1]; simp, h1⟩
/-- One section more. -/
theorem told_snoc {w w' : World} {base base' g c : Nat} {ss : List Sect} {L : List Lay} {x : Lay} (h1 : secsOf L = ss) (h3 : ∀ y ∈ L, Own w base y.dv y.s.data) (hx : Own w base x.dv x.s.data)
    (hr : w'.ownsRow base 36 9 (.slice (some ⟨g, 0, none⟩) (L.length + 1) c) (L.length + 1) (cellsL L ++ x.cells)) (ho : Only base' (CellsOf 36) w w') : Told w' base (.slice (some ⟨g, 0, none⟩) (L.length + 1) c) (ss ++ [x.s]) := by
  refine ⟨L ++ [x], by simp [secsOf, ← h1], ?_, fun y hy => ?_⟩
  · rw [OwnL, cellsL_append, show cellsL [x] = x.cells by simp [cellsL], List.length_append]
    exact hr
  · have : Own w base y.dv y.s.data := by
      rcases List.mem_append.1 hy with hy | hy
      · exact h3 y hy
      · rw [List.mem_singleton.1 hy]; exact hx
    exact row_only this ho (fun cs f hh => absurd (show 5 = 36 from hh) (by decide))

theorem dataT_len (l : List UInt8) (ns : List Nat) (hl : ns.length = 10) (h : entE ns l.length = 0) : (dataT l ns).length ≤ 65536 := by
  match ns, hl with
  | [nm, kd, fl, ad, pl, sz, lk, inf, al, ec], _ =>
    have hd : dataT l [nm, kd, fl, ad, pl, sz, lk, inf, al, ec] = if kd = 0 then [] else if kd = 8 then List.replicate sz 0 else (l.drop pl).take sz := rfl
    rw [hd]
    rcases entE_zero h with hk | ⟨hk, hsz⟩ | ⟨hk0, hk8, hin, hsz⟩
    · rw [if_pos hk]; exact Nat.zero_le _
    · rw [if_neg (by omega), if_pos hk, List.length_replicate]; exact hsz
    · rw [if_neg hk0, if_neg hk8]
      exact Nat.le_trans (List.length_take_le _ _) hsz
theorem cells_at (x : Lay) (w : World) (t : TypeId) (j : Nat) (u : Value) (h : x.cells[j]? = some u) : (w.alloc (.cells x.cells.toArray t)).cell? ((⟨w.heap.size, 0, none⟩ : Addr).add j) = some u := by
  rw [addr_add, Nat.zero_add, (Box.new w t x.cells.toArray).cell]
  simpa using h
theorem namesOk_next {l tbl : List UInt8} {off k : Nat} (h : namesOk l tbl off k) (hk : (atT tbl (nameN (entN l (off + 64 * k)))).2 = 0) : namesOk l tbl off (k + 1) := fun i hi => by
  rcases Nat.lt_or_ge i k with h1 | h1
  · exact h i h1
  · rw [show i = k by omega]; exact hk

theorem wrap_small (x : Nat) (h : x ≤ 2147483647) : IntKind.i64.wrap (x : Int) = (x : Int) := by rw [IntKind.wrap_i64]; omega

set_option maxRecDepth 10000 in
set_option maxHeartbeats 6400000 in
theorem tell_any {w : World} {A : Option Addr} {l : List UInt8} (hr : Rd w w.heap.size A l) (c : Nat) (hlc : l.length ≤ c) (hl : l.length ≤ 140737488355328) (t m : Int) (off n sh : Nat) (hn : n ≤ 64) (hsh : sh < n) (hin : off + n * 64 ≤ l.length)
    {be : Nat} {v : Value} (hE : OwnE w be v (entsT l off n)) (h0 : errUp l off n = 0) :
    Calls Tryd.prog 19 #[.slice A l.length c, hdV t m off n sh, v] w fun r w' => ∃ u, r = .returned (.tuple #[u, .int .i64 (tellE l off n sh)]) ∧ (tellE l off n sh = 0 → Told w' w.heap.size u (secsT l off n sh)) ∧ Below w.heap.size w w' := by
  have hpos : 0 < l.length := by omega
  have hn1 : 0 < n := by omega
  obtain ⟨ge, ce, rfl, _, hge, hce⟩ := owne_form hE (by rw [entsT_length]; exact hn1)
  rw [OwnE, entsT_length] at hE
  rw [entsT_length] at hce ⊢
  have hb0 : Below w.heap.size w (w.alloc (.cells #[.int .i64 t, .int .i64 m, .int .u64 (off : Int), .int .i64 (n : Int), .int .i64 (sh : Int)] 26)) := (Below.refl _ _).alloc (Nat.le_refl _) _
  have hX0 := Box.new w 26 #[.int .i64 t, .int .i64 m, .int .u64 (off : Int), .int .i64 (n : Int), .int .i64 (sh : Int)]
  have hcE := fun (i j x : Nat) (hi : i < n) (hx : (entN l (off + 64 * i))[j]? = some x) => (show w.cell? ⟨ge, i * 10 + j, none⟩ = some (.int .u64 (x : Int)) by
    have hj : j < 10 := by rw [← entN_length l (off + 64 * i)]; exact (List.getElem?_eq_some_iff.1 hx).1
    rw [World.ownsRow.cellAt (g := ge) (cap := ce) hE (i * 10 + j) (by omega)]
    exact cellsE_at _ (entsT_tens l off n) i _ j x (entsT_get l off n i hi) hx)
  have HEA := Lib.hid (fun (W : World) (hW : Below w.heap.size w W) (i : Nat) (hi : i < n) => (show EntAt W ge (i * 10) (entN l (off + 64 * i)) from
    ⟨entN_length _ _, fun j x hx => by rw [hW.cell (p := ⟨ge, i * 10 + j, none⟩) hge]; exact hcE i j x hi hx⟩))
  have HRD := Lib.hid hr
  have HOK := Lib.hid (errUp_ok h0)
  have HLC := Lib.hid hlc
  have HLL := Lib.hid hl
  clear hcE hE hr h0 hlc hl hin
  have e0 := HEA.out w (Below.refl _ _) 0 (by omega)
  obtain ⟨a0, a1, a2, a3, a4, a5, a6, a7, a8, a9, h10⟩ : ∃ a0 a1 a2 a3 a4 a5 a6 a7 a8 a9 : Nat, entN l (off + 64 * 0) = [a0, a1, a2, a3, a4, a5, a6, a7, a8, a9] := ⟨_, _, _, _, _, _, _, _, _, _, rfl⟩
  rw [h10] at e0
  have f0 := (e0.below hb0 hge).2 0 _ rfl
  have f1 := (e0.below hb0 hge).2 1 _ rfl
  have f2 := (e0.below hb0 hge).2 2 _ rfl
  have f3 := (e0.below hb0 hge).2 3 _ rfl
  have f4 := (e0.below hb0 hge).2 4 _ rfl
  have f5 := (e0.below hb0 hge).2 5 _ rfl
  have f6 := (e0.below hb0 hge).2 6 _ rfl
  have f7 := (e0.below hb0 hge).2 7 _ rfl
  have f8 := (e0.below hb0 hge).2 8 _ rfl
  have f9 := (e0.below hb0 hge).2 9 _ rfl
  simp only [Nat.zero_mul, Nat.zero_add] at f0 f1 f2 f3 f4 f5 f6 f7 f8 f9
  have HNQ := Lib.hid (fun W => neq_entry [a0, a1, a2, a3, a4, a5, a6, a7, a8, a9] (List.replicate 10 0) rfl rfl W)
  have hbq : ([a0, a1, a2, a3, a4, a5, a6, a7, a8, a9] == List.replicate 10 0) = decide (entN l off = List.replicate 10 0) := by
    rw [show off = off + 64 * 0 from rfl, h10, Bool.eq_iff_iff, beq_iff_eq, decide_eq_true_eq]
  rw [hbq] at HNQ
  have HT := Lib.hid (show tellE l off n sh = if entN l off = List.replicate 10 0 ∧ kindN (entN l (off + 64 * sh)) = 3 ∧ namesOk l (tblT l off sh) off n then 0 else 22 from rfl)
  by_cases hz : entN l off = List.replicate 10 0
  · rw [decide_eq_true hz] at HNQ
    have hnq := HNQ.out
    rw [show entV [a0, a1, a2, a3, a4, a5, a6, a7, a8, a9] = .agg #[.int .u64 (a0 : Int), .int .u64 (a1 : Int), .int .u64 (a2 : Int), .int .u64 (a3 : Int), .int .u64 (a4 : Int), .int .u64 (a5 : Int), .int .u64 (a6 : Int), .int .u64 (a7 : Int), .int .u64 (a8 : Int), .int .u64 (a9 : Int)] from rfl, show entV (List.replicate 10 0) = .agg #[.int .u64 0, .int .u64 0, .int .u64 0, .int .u64 0, .int .u64 0, .int .u64 0, .int .u64 0, .int .u64 0, .int .u64 0, .int .u64 0] from rfl] at hnq
    have HB0 := Lib.hid hb0
    have es := HEA.out w (Below.refl _ _) sh hsh
    obtain ⟨kd, hkd⟩ : ∃ kd, kindN (entN l (off + 64 * sh)) = kd := ⟨_, rfl⟩
    have g1 := (es.below hb0 hge).2 1 kd (by rw [← hkd]; rfl)
    have hX4 := hX0.cell 4
    simp at hX4
    clear hX0 e0 hbq h10 HNQ es
    by_cases hk : kd = 3
    · have q3 : ((kd : Int) != 3) = false := by simp [hk]
      have HT2 := Lib.hid (show tellE l off n sh = if namesOk l (tblT l off sh) off n then 0 else 22 by
        rw [HT.out]
        by_cases hno : namesOk l (tblT l off sh) off n
        · rw [if_pos ⟨hz, hkd.trans hk, hno⟩, if_pos hno]
        · rw [if_neg (fun h => hno h.2.2), if_neg hno])
      have HDT := Lib.hid (data_at (HEA.out _ hb0 sh hsh) (HRD.out.below hb0) hb0.size c HLC.out HLL.out (HOK.out sh hsh) hpos)
      have htl : (tblT l off sh).length ≤ 140737488355328 := by
        have : (dataT l (entN l (off + 64 * sh))).length ≤ 65536 := dataT_len l _ (entN_length _ _) (HOK.out sh hsh)
        exact Nat.le_trans this (by decide)
      rw [show dataT l (entN l (off + 64 * sh)) = tblT l off sh from rfl] at HDT
      have HEN := Lib.hid (show ∀ i, i < n → entE (entN l (off + 64 * i)) l.length = 0 from HOK.out)
      have HST := Lib.hid (show ∀ k, secsT l off (k + 1) sh = secsT l off k sh ++ [sectT l (tblT l off sh) (entN l (off + 64 * k))] from fun k => secsT_next l off k sh)
      clear HT hz hk hkd HOK hb0
      generalize tellE l off n sh = te at *
      generalize tblT l off sh = tbl at *
      have hln := hpos
      generalize hll : l.length = ln at *
      go_enter Tryd.func19, Tryd.ntmps19
      obtain ⟨i2, hj2, hy0, hy1, hy2⟩ := info_parts sect_info
      have hmk : i2.bytes * n ≤ 281474976710656 := by rw [hy2]; omega
      have hmx : n ≤ maxLen := by unfold maxLen; omega
      go_wp2_with (first
        | (go_at_call 48; refine HDT.out.mono ?_; rintro r w1 ⟨v1, rfl, hown1, hb1⟩; have HO1 := Lib.hid hown1; have HB1 := Lib.hid (HB0.out.trans (hb1.mono HB0.out.size)); (obtain ⟨A1, c1, rfl, hc1, _, hrd1⟩ := own_slice hown1); clear hown1 hb1 HDT; have HW1 := Lib.hid HB1.out)
        | (at_make; refine wpList_make_own _ rfl _ _ 27 rfl w1.heap.size 36 i2 _ 9 Tryd.underlying27 hj2 hy0 hy1 .i64 .i64 (n : Int) n rfl rfl rfl hmk hmx (Nat.le_refl _) ?_; intro w2 hr2 hg2))
      have hb2 : Below w1.heap.size w1 w2 := below_of_only hg2 (Nat.le_refl _) (by simp)
      have HL2 := Lib.hid (show OwnL w2 w1.heap.size (.slice (some ⟨w1.heap.size, 0, none⟩) 0 n) [] from hr2)
      have HB2 := Lib.hid (HB1.out.trans (hb2.mono HB1.out.size))
      have HRD1 := Lib.hid hrd1
      have hs12 := hb2.size
      have hws1 : w.heap.size ≤ w1.heap.size := HB1.out.size
      have HB12 := Lib.hid hb2
      clear hr2 hg2 hb2 hrd1 f0 f1 f2 f3 f4 f5 f6 f7 f8 f9 hmk hmx HB1 HO1
      generalize hBB : w1.heap.size = BB at *
      have HBB := Lib.hid hBB
      clear hBB
      go_loopw [9, 39] (fun u i wr => ∃ k : Nat, k ≤ n ∧ i = .int .i64 k ∧ Hid (namesOk l tbl off k) ∧ (∃ L, secsOf L = secsT l off k sh ∧ OwnL wr BB u L ∧ ∀ x ∈ L, Own wr BB x.dv x.s.data) ∧ Below BB w1 wr) (fun _ i _ => n - (intOf i).toNat)
      case atStart => exact ⟨0, Nat.zero_le _, rfl, Lib.hid (fun i hi => by omega), ⟨[], rfl, HL2.out, by simp⟩, HB12.out⟩
      case round =>
        obtain ⟨k, hk, rfl, HNO, ⟨L, hLs, hL, hLd⟩, hBl⟩ := hrel
        have hLl : L.length = k := by
          have := congrArg List.length hLs
          simpa [secsT] using this
        by_cases hlt : k < n
        · have hWr := HW1.out.trans (hBl.mono hws1)
          have eA := HEA.out wr hWr k hlt
          have hE0 := HEN.out k hlt
          have hbd := entN_lt l (off + 64 * k)
          have hbs : BB ≤ wr.heap.size := by rw [← HBB.out]; exact hBl.size
          have HSN := Lib.hid (HST.out k)
          have hNN : namesOk l tbl off k → (atT tbl (nameN (entN l (off + 64 * k)))).2 = 0 → namesOk l tbl off (k + 1) := namesOk_next
          have hNB : (atT tbl (nameN (entN l (off + 64 * k)))).2 ≠ 0 → ¬ namesOk l tbl off n := fun h hh => h (hh k hlt)
          obtain ⟨b0, b1, b2, b3, b4, b5, b6, b7, b8, b9, h10⟩ : ∃ a0 a1 a2 a3 a4 a5 a6 a7 a8 a9 : Nat, entN l (off + 64 * k) = [a0, a1, a2, a3, a4, a5, a6, a7, a8, a9] := ⟨_, _, _, _, _, _, _, _, _, _, rfl⟩
          rw [h10] at eA hE0 hbd HSN hNN hNB
          have c0 := eA.2 0 _ rfl
          have c1' := eA.2 1 _ rfl
          have c2 := eA.2 2 _ rfl
          have c3 := eA.2 3 _ rfl
          have c4 := eA.2 4 _ rfl
          have c5 := eA.2 5 _ rfl
          have c6 := eA.2 6 _ rfl
          have c7 := eA.2 7 _ rfl
          have c8 := eA.2 8 _ rfl
          have c9 := eA.2 9 _ rfl
          rw [Nat.add_zero] at c0
          have hb0 : Below wr.heap.size wr (wr.alloc (.cells #[.int .u64 (b0 : Int), .int .u64 (b1 : Int), .int .u64 (b2 : Int), .int .u64 (b3 : Int), .int .u64 (b4 : Int), .int .u64 (b5 : Int), .int .u64 (b6 : Int), .int .u64 (b7 : Int), .int .u64 (b8 : Int), .int .u64 (b9 : Int)] 68)) := (Below.refl _ _).alloc (Nat.le_refl _) _
          have hX0 := Box.new wr 68 #[.int .u64 (b0 : Int), .int .u64 (b1 : Int), .int .u64 (b2 : Int), .int .u64 (b3 : Int), .int .u64 (b4 : Int), .int .u64 (b5 : Int), .int .u64 (b6 : Int), .int .u64 (b7 : Int), .int .u64 (b8 : Int), .int .u64 (b9 : Int)]
          have HAT := Lib.hid (at_any ((HRD1.out.below hBl).below (hb0.mono hbs)) (Nat.le_trans hbs hb0.size) c1 hc1 htl b0 (hbd b0 (by simp)))
          have hsm := entE_small hE0
          simp only [smallN, List.all_cons, List.all_nil, Bool.and_true, Bool.and_eq_true, decide_eq_true_eq] at hsm
          obtain ⟨hs6, hs7, hs8, hs9, hs1'⟩ := hsm
          have HLk := Lib.hid hL
          have HLd := Lib.hid hLd
          have HLs := Lib.hid hLs
          have HBl := Lib.hid hBl
          have HX0 := Lib.hid hX0
          have HWr := Lib.hid hWr
          have HB00 := Lib.hid hb0
          have hb0s := hb0.size
          have HE0 := Lib.hid hE0
          clear eA hbd h10 hL hLd hLs hBl hWr hX0 hb0 hE0
          rw [show nameN [b0, b1, b2, b3, b4, b5, b6, b7, b8, b9] = b0 from rfl] at hNN hNB
          by_cases hat : (atT tbl b0).2 = 0
          · have q1 : ((atT tbl b0).2 != 0) = false := by simp [hat]
            have HNO1 := Lib.hid (hNN HNO.out hat)
            have HSC := Lib.hid (show sectT l tbl [b0, b1, b2, b3, b4, b5, b6, b7, b8, b9] = ⟨(atT tbl b0).1, (b1 : Int), b2, b3, dataT l [b0, b1, b2, b3, b4, b5, b6, b7, b8, b9], (b6 : Int), (b7 : Int), (b8 : Int), (b9 : Int)⟩ from rfl)
            have w1' := wrap_small b1 hs1'
            have w6 := wrap_small b6 hs6
            have w7 := wrap_small b7 hs7
            have w8 := wrap_small b8 hs8
            have w9 := wrap_small b9 hs9
            clear hat hNN hNB hs1' hs6 hs7 hs8 hs9
            generalize (atT tbl b0).1 = txt at *
            generalize (atT tbl b0).2 = er at *
            go_wp2_with (go_at_call 49; refine HAT.out.mono ?_; rintro r w3 ⟨rfl, hb3⟩; have HB3 := Lib.hid hb3; clear hb3 HAT)
            have hx3 := HX0.out.below HB3.out (by simp)
            have hs3 : BB ≤ w3.heap.size := Nat.le_trans (Nat.le_trans hbs hb0s) HB3.out.size
            have hB3r : Below wr.heap.size wr w3 := HB00.out.trans (HB3.out.mono hb0s)
            have HW3 := Lib.hid (HWr.out.trans (hB3r.mono (Nat.le_trans hws1 hbs)))
            have HRW := Lib.hid (row_below HLk.out hB3r)
            have HLD := Lib.hid (fun x hx => own_below (HLd.out x hx) hB3r)
            have HB13 := Lib.hid (HBl.out.trans (hB3r.mono hbs))
            have hEA3 : EntAt w3.drew wr.heap.size 0 [b0, b1, b2, b3, b4, b5, b6, b7, b8, b9] := ⟨rfl, fun j x hx => by
              rw [Nat.zero_add]
              have h1 := hx3.cell j
              have h2 : (#[Value.int .u64 (b0 : Int), .int .u64 (b1 : Int), .int .u64 (b2 : Int), .int .u64 (b3 : Int), .int .u64 (b4 : Int), .int .u64 (b5 : Int), .int .u64 (b6 : Int), .int .u64 (b7 : Int), .int .u64 (b8 : Int), .int .u64 (b9 : Int)])[j]? = ([b0, b1, b2, b3, b4, b5, b6, b7, b8, b9][j]?).map (fun n => Value.int .u64 ((n : Nat) : Int)) := by rw [← List.getElem?_map]; simp
              rw [h2, hx] at h1
              exact h1⟩
            have hDt := data_at hEA3 (B := w.heap.size) (HRD.out.below (HW3.out.drew)) HW3.out.size c (by rw [hll]; exact HLC.out) (by rw [hll]; exact HLL.out) (by rw [hll]; exact HE0.out) (by rw [hll]; exact hln)
            rw [hll] at hDt
            have HDt := Lib.hid hDt
            have KS := Lib.hid (fun (W : World) (hW : Only BB (CellsOf 36) w3 W) => (by
              have hXW : Box W wr.heap.size 68 _ := hW.2 _ _ hx3 (fun hh => absurd (show 68 = 36 from hh) (by decide))
              exact ⟨hXW.cell 1, hXW.cell 2, hXW.cell 3, hXW.cell 6, hXW.cell 7, hXW.cell 8, hXW.cell 9⟩ :
              W.cell? ⟨wr.heap.size, 1, none⟩ = some (.int .u64 (b1 : Int)) ∧ W.cell? ⟨wr.heap.size, 2, none⟩ = some (.int .u64 (b2 : Int)) ∧ W.cell? ⟨wr.heap.size, 3, none⟩ = some (.int .u64 (b3 : Int)) ∧ W.cell? ⟨wr.heap.size, 6, none⟩ = some (.int .u64 (b6 : Int)) ∧ W.cell? ⟨wr.heap.size, 7, none⟩ = some (.int .u64 (b7 : Int)) ∧ W.cell? ⟨wr.heap.size, 8, none⟩ = some (.int .u64 (b8 : Int)) ∧ W.cell? ⟨wr.heap.size, 9, none⟩ = some (.int .u64 (b9 : Int))))
            have hO6 : Only BB (CellsOf 36) w3 w3.drew := Only.drew (Only.refl _ _ _)
            have h63 : k + 1 ≤ maxLen := by unfold maxLen; omega
            have hby : (k + 1) * 96 ≤ 140737488355328 := by omega
            rw [hLl] at HRW
            clear hx3 hB3r hEA3 hDt HLk HLd HBl HX0 HWr HB00 HB3 c0 c1' c2 c3 c4 c5 c6 c7 c8 c9
            generalize hdt : dataT l [b0, b1, b2, b3, b4, b5, b6, b7, b8, b9] = dt at *
            clear hdt
            go_region_held_law (fun W => W.cell? ⟨wr.heap.size, 1, none⟩ = some (.int .u64 (b1 : Int)) ∧ W.cell? ⟨wr.heap.size, 2, none⟩ = some (.int .u64 (b2 : Int)) ∧ W.cell? ⟨wr.heap.size, 3, none⟩ = some (.int .u64 (b3 : Int)) ∧ W.cell? ⟨wr.heap.size, 6, none⟩ = some (.int .u64 (b6 : Int)) ∧ W.cell? ⟨wr.heap.size, 7, none⟩ = some (.int .u64 (b7 : Int)) ∧ W.cell? ⟨wr.heap.size, 8, none⟩ = some (.int .u64 (b8 : Int)) ∧ W.cell? ⟨wr.heap.size, 9, none⟩ = some (.int .u64 (b9 : Int)))
              ((refine KS.out _ ?_; first | exact hO6 | exact hO7 | exact hO7' _ | exact hO8))
              (first
                | (go_at_call 48; refine HDt.out.mono ?_; rintro r w7 ⟨v7, rfl, hown7, hb7⟩; have hO7 : Only BB (CellsOf 36) w3 w7 := hO6.trans (Only.below hb7 (by exact hs3)); have hR7 := row_below (w := w3.drew) HRW.out hb7; have hs7 : BB ≤ w7.heap.size := Nat.le_trans hs3 hO7.1.size; (obtain ⟨A7, c7, rfl, hc7, hcm7, hrd7⟩ := own_slice hown7); have HO7 := Lib.hid hown7; have hO7' := Only.alloc hO7 hs7; have HB7 := Lib.hid hb7; clear hown7 hb7 hO6 HDt)
                | (refine step_append_lies _ (by rfl) (.tmp 52) (.tmp 76) _ (by rfl) BB 36 i2 _ 9 96 Tryd.underlying27 hj2 hy0 hy1 hy2 (by rfl) (by decide) u9 k (cellsL L) (by rfl) (by exact hR7.alloc _) ⟨w7.heap.size, 0, none⟩ 1 1 (Lay.cells ⟨⟨txt, (b1 : Int), b2, b3, dt, (b6 : Int), (b7 : Int), (b8 : Int), (b9 : Int)⟩, A7, c7⟩) (by rfl) rfl (fun j u h => cells_at ⟨⟨txt, (b1 : Int), b2, b3, dt, (b6 : Int), (b7 : Int), (b8 : Int), (b9 : Int)⟩, A7, c7⟩ w7 _ j u h) (cells_one _) (by decide) h63 hby (by simp; omega) _ rfl ?_; intro g8 cap8 w8 hown8 hg8 hat8 hlt8; have hO78 : Only BB (CellsOf 36) w7 w8 := (Only.alloc (Only.refl _ _ _) hs7 _).trans (row_turns (by exact hR7.alloc _) hg8 (by simp; omega)); have hO8 := hO7.trans hO78; clear hg8 hat8 hO7'))
            have HTD := Lib.hid (show Told w8 BB (.slice (some ⟨g8, 0, none⟩) (k + 1) cap8) (secsT l off (k + 1) sh) by
              have h1 := told_snoc (w := w7) (w' := w8) (base := BB) (base' := BB) (g := g8) (c := cap8) (x := ⟨⟨txt, (b1 : Int), b2, b3, dt, (b6 : Int), (b7 : Int), (b8 : Int), (b9 : Int)⟩, A7, c7⟩) HLs.out
                (fun y hy => own_below (w := w3.drew) (by exact HLD.out y hy) HB7.out) (own_up HO7.out hs3) (by rw [hLl]; exact hown8) hO78
              rw [hLl] at h1
              rw [HSN.out, HSC.out]
              exact h1)
            have HBF := Lib.hid (HB13.out.trans hO8.1)
            clear hown8 hO78 hO8 hO7 hR7 HLD HB7 HO7 hlt8
            go_wp2_with fail
            go_roundw
            case rel => exact ⟨k + 1, by omega, by go_num, HNO1, HTD.out, HBF.out⟩
            case measure => simp [intOf]; omega
          · have q1 : ((atT tbl b0).2 != 0) = true := by simpa using hat
            have HF := Lib.hid (show te = 22 by rw [HT2.out, if_neg (hNB hat)])
            have HWF := Lib.hid (fun W (hW : Below wr.heap.size _ W) => (HWr.out.trans ((HB00.out.trans hW).mono (Nat.le_trans hws1 hbs))))
            clear hat hNN hNB
            generalize (atT tbl b0).1 = txt at *
            generalize (atT tbl b0).2 = er at *
            go_wp2_with (go_at_call 49; refine HAT.out.mono ?_; rintro r w3 ⟨rfl, hb3⟩; have HB3 := Lib.hid hb3; clear hb3 HAT)
            go_ret2
            exact ⟨_, by rw [HF.out]; rfl, fun h => absurd (h.symm.trans HF.out) (by decide), HWF.out _ (HB3.out.mono hb0s)⟩
        · have hkn : k = n := by omega
          subst hkn
          have HF := Lib.hid (show te = 0 by rw [HT2.out, if_pos HNO.out])
          have HTD := Lib.hid (show Told wr w.heap.size u9 (secsT l off k sh) from Told.base_ ⟨L, hLs, hL, hLd⟩ hws1)
          have HWF := Lib.hid (HW1.out.trans (hBl.mono hws1))
          clear hLs hL hLd hBl hLl
          go_wp2_with fail
          go_ret2
          exact ⟨_, by rw [HF.out]; rfl, fun _ => HTD.out, HWF.out⟩
    · have HF := Lib.hid (show tellE l off n sh = 22 by rw [HT.out, if_neg (fun h => hk (hkd.symm.trans h.2.1))])
      have q3 : ((kd : Int) != 3) = true := by simp; omega
      clear HEA HRD HOK HT hb0 hk hkd
      generalize tellE l off n sh = te at *
      generalize l.length = ln at *
      go_enter Tryd.func19, Tryd.ntmps19
      go_wp2_with fail
      go_ret2
      exact ⟨_, by rw [HF.out]; rfl, fun h => absurd (h.symm.trans HF.out) (by decide), HB0.out⟩
  · have HF := Lib.hid (show tellE l off n sh = 22 by rw [HT.out, if_neg (fun h => hz h.1)])
    rw [decide_eq_false hz] at HNQ
    have hnq := HNQ.out
    rw [show entV [a0, a1, a2, a3, a4, a5, a6, a7, a8, a9] = .agg #[.int .u64 (a0 : Int), .int .u64 (a1 : Int), .int .u64 (a2 : Int), .int .u64 (a3 : Int), .int .u64 (a4 : Int), .int .u64 (a5 : Int), .int .u64 (a6 : Int), .int .u64 (a7 : Int), .int .u64 (a8 : Int), .int .u64 (a9 : Int)] from rfl, show entV (List.replicate 10 0) = .agg #[.int .u64 0, .int .u64 0, .int .u64 0, .int .u64 0, .int .u64 0, .int .u64 0, .int .u64 0, .int .u64 0, .int .u64 0, .int .u64 0] from rfl] at hnq
    have HB0 := Lib.hid hb0
    clear HEA HRD HOK HT hb0 hX0 e0 hbq h10 HNQ hz
    generalize tellE l off n sh = te at *
    generalize l.length = ln at *
    go_enter Tryd.func19, Tryd.ntmps19
    go_wp2_with fail
    go_ret2
    exact ⟨_, by rw [HF.out]; rfl, fun h => absurd (h.symm.trans HF.out) (by decide), HB0.out⟩

end Go.Proofs.YtpdjpafchfbabaaDoor
