/-
  SectsTakes.
-/

import Derived.Test.YtpdjpafchfbabaaDoorStE
import Derived.Test.YtpdjpafchfbabaaDoorSeZ
namespace Go.Proofs.YtpdjpafchfbabaaDoor
open Go Go.RowKit

theorem secH_is (l : List UInt8) : ∃ (t m : Int) (o : Nat) (n s : Int), secH l = hdV t m o n s := by
  unfold secH
  split
  · unfold takeH
    split
    · exact ⟨_, _, _, _, _, rfl⟩
    · exact ⟨0, 0, 0, 0, 0, rfl⟩
  · exact ⟨0, 0, 0, 0, 0, rfl⟩
theorem secL_len (l : List UInt8) : (secL l).length ≤ 100000 := by
  unfold secL
  split
  · unfold secsT
    rw [List.length_map, List.length_range]
    have h := leNat_lt (cutT (l.take 64) 60 2)
    have h2 : (cutT (l.take 64) 60 2).length ≤ 2 := by simp [cutT]; omega
    have h3 : (256 : Nat) ^ (cutT (l.take 64) 60 2).length ≤ 256 ^ 2 := Nat.pow_le_pow_right (by decide) h2
    have h4 : (256 : Nat) ^ 2 = 65536 := rfl
    unfold cntT numT
    omega
  · exact Nat.zero_le _
theorem u8_one_more (x : UInt8) : IntKind.u8.wrap ((x.toNat : Int) + 1) = ((x + 1).toNat : Int) := by
  rw [IntKind.wrap_u8, UInt8.toNat_add]
  have h1 : (1 : UInt8).toNat = 1 := rfl
  rw [h1]
  omega
/-- A byte stored anywhere leaves each row of bytes a row of as many. -/
theorem own_stored {w : World} {base : Nat} {v : Value} {l : List UInt8} (h : Own w base v l) (g i : Nat) (b : UInt8) : ∃ l' : List UInt8, l'.length = l.length ∧ Own (w.setCell ⟨g, i, none⟩ (.int .u8 (b.toNat : Int))) base v l' := by
  rcases h.2 with ⟨hv, h0⟩ | ⟨g', cap, cur, hv, hb, hg, hnc, hcm, hcs, ht⟩
  · exact ⟨l, rfl, h.1, .inl ⟨hv, h0⟩⟩
  · by_cases e : g' = g
    · subst e
      have hB : Box w g' 5 cur := hg
      have h2 := hB.set i (.int .u8 (b.toNat : Int))
      refine ⟨l.set i b, by simp, by simp, .inr ⟨g', cap, _, by rw [List.length_set]; exact hv, hb, h2, by rw [List.length_set]; exact hnc, hcm, by simpa using hcs, ?_⟩⟩
      rw [Array.toList_setIfInBounds, List.length_set, List.take_set, ht]
      simp [u8s, List.map_set]
    · refine ⟨l, rfl, h.kept (only_set (only_refl w (some g)) i _) (.inr ?_)⟩
      rw [hv]
      intro e2
      exact e (by simpa [Value.ownBlock] using e2)

/-- Rows of bytes, of sections. -/
def RowsOf (w : World) (B : Nat) (L : List Lay) : Prop := ∀ x ∈ L, ∃ l' : List UInt8, l'.length = x.s.data.length ∧ Own w B x.dv l'
theorem RowsOf.stored {w : World} {B : Nat} {L : List Lay} (h : RowsOf w B L) (g i : Nat) (b : UInt8) : RowsOf (w.setCell ⟨g, i, none⟩ (.int .u8 (b.toNat : Int))) B L := fun x hx => by
  obtain ⟨l1, h1, h2⟩ := h x hx
  obtain ⟨l2, h3, h4⟩ := own_stored h2 g i b
  exact ⟨l2, h3.trans h1, h4⟩
theorem RowsOf.below {w w' : World} {B : Nat} {L : List Lay} (h : RowsOf w B L) (hb : Below w.heap.size w w') : RowsOf w' B L := fun x hx => by
  obtain ⟨l1, h1, h2⟩ := h x hx
  exact ⟨l1, h1, own_below h2 hb⟩
/-- A byte of a row: where it is, and that it may be stored. -/
theorem RowsOf.at_ {w : World} {B : Nat} {L : List Lay} (h : RowsOf w B L) {x : Lay} (hx : x ∈ L) {j : Nat} (hj : j < x.s.data.length) : ∃ (g : Nat) (b : UInt8) (cur : Array Value), x.A = some ⟨g, 0, none⟩ ∧ B ≤ g ∧ Box w g 5 cur ∧ w.cell? ⟨g, j, none⟩ = some (.int .u8 (b.toNat : Int)) ∧ w.frozen? ⟨g, j, none⟩ = false := by
  obtain ⟨l1, h1, h2⟩ := h x hx
  obtain ⟨A, c, e, _, _, hr⟩ := own_slice h2
  rcases h2.2 with ⟨_, h0⟩ | ⟨g, cap, cur, hv, hb, hg, _⟩
  · omega
  · rw [hv] at e
    injection e with e1 _ _
    obtain ⟨b, o, e2, _, hc⟩ := hr (by omega)
    rw [← e1] at e2
    injection e2 with e2
    injection e2 with e3 e4 _
    subst e3 e4
    have hB : Box w g 5 cur := hg
    have hx2 : l1[j]? = some (l1[j]'(by omega)) := List.getElem?_eq_getElem _
    have h3 := hc j _ hx2
    rw [Nat.zero_add] at h3
    unfold Lay.dv at hv
    injection hv with hv1 _ _
    exact ⟨g, _, cur, hv1, hb, hB, h3, hB.free j⟩

set_option maxRecDepth 10000 in
set_option maxHeartbeats 6400000 in
theorem stakes_walk (a0 : Option Addr) (len0 cap0 : Nat) (z0 : List Int) (w : World) (hM : Mg w) (w0 : IsRow .u8 w a0 len0 cap0 z0) :
    Calls Tryd.prog 3 #[.slice a0 len0 cap0] w fun e w' => e = .returned (.bool true) ∧ Below w.heap.size w w' := by
  obtain ⟨l, hlen, hrd, hlc, hcm⟩ := row_bytes w0
  clear w0
  subst hlen
  obtain ⟨i0, hi, hz0, hz1, hz2⟩ := info_parts u8_info
  have hpos := hM.pos
  have HW := Lib.hid (fun W (hW : Below w.heap.size w W) => sworks_any (hM.below hW hpos))
  by_cases hbig : 8000 < l.length
  · have hd : decide ((8000 : Int) < (l.length : Int)) = true := decide_eq_true (by omega)
    clear hbig hrd hlc hcm hM
    generalize l.length = N at *
    go_enter Tryd.func3, Tryd.ntmps3
    go_wp2_with fail
    refine (HW.out _ (Below.refl _ _)).mono ?_
    rintro r w1 ⟨rfl, hb1⟩
    go_wp2_with fail
    go_ret
    exact ⟨rfl, hb1⟩
  · have hd : decide ((8000 : Int) < (l.length : Int)) = false := decide_eq_false (by omega)
    have hl : l.length ≤ 140737488355328 := by omega
    have hsum : ([] : List UInt8).length + l.length ≤ 140737488355328 := by simpa using hl
    have hb0 := (Below.refl w.heap.size w).alloc (Nat.le_refl _) (.cells #[] 5)
    obtain ⟨t, m, o, n, s, hH⟩ := secH_is l
    have HR := Lib.hid hrd
    have HT1 := Lib.hid (fun W A c (hr : Rd W W.heap.size A l) (hc : l.length ≤ c) (hW : Below w.heap.size w W) => stake_any hr c hc hl (hM.below hW hpos))
    have HT2 := Lib.hid (fun W (hW : Below w.heap.size w W) => rstake_any ((hrd.below hW).more hW.size) cap0 hlc hcm hl)
    unfold STake at HT1
    unfold RSTake at HT2
    rw [hH] at HT1 HT2
    have HFIT := Lib.hid (secL_fits l)
    have HSLN := Lib.hid (secL_len l)
    clear hbig hrd hlc hcm hM hH hl
    generalize secE l = se at *
    generalize secL l = sl at *
    go_enter Tryd.func3, Tryd.ntmps3
    go_wp2_with (at_builtin; refine wpList_append_bytes (by rfl) (.tmp 17) (.tmp 18) _ (by rfl) w.heap.size i0 Tryd.underlying22 hi hz0 hz1 hz2 (.slice (some ⟨w.heap.size, 0, none⟩) 0 0) [] (by rfl) (by exact own_new w) w.heap.size a0 l.length cap0 l rfl (by rfl) (HR.out.below hb0) hsum hb0.size ?_; intro v1 w1 hown1 hg1 hat1; have HB1 := Lib.hid (hb0.grown hg1 hb0.size (by simp [Value.ownBlock])); rw [List.nil_append] at hown1; have HO1 := Lib.hid hown1; (obtain ⟨A1, c1, rfl, hlc1, _, hrd1⟩ := own_slice hown1); have HR1 := Lib.hid hrd1; have HL1 := Lib.hid hlc1; clear hg1 hat1 hown1 hrd1 hlc1 hsum hb0)
    refine (HT1.out _ _ _ HR1.out HL1.out HB1.out).mono ?_
    rintro r w2 ⟨u2, rfl, hT2, hb2⟩
    obtain ⟨L2, hL2, hOL2, hOD2⟩ := hT2
    obtain ⟨A2, c2, rfl, hc2, _, hS2⟩ := ownl_secs hOL2 (fun x hx => by
      obtain ⟨A', c', e, hle, hcm, hrd⟩ := own_slice (hOD2 x hx)
      unfold Lay.dv at e
      injection e with e1 e2 e3
      exact ⟨by rw [e1]; exact hrd, by rw [e3]; exact hle, by rw [e3]; exact hcm, HFIT.out _ (by rw [← hL2]; exact List.mem_map_of_mem hx)⟩)
    have HB2 := Lib.hid (HB1.out.trans (hb2.mono HB1.out.size))
    have HO2 := Lib.hid (own_below HO1.out hb2)
    have HZ12 := Lib.hid hb2.size
    have HB12 := Lib.hid hb2
    have HOL2 := Lib.hid hOL2
    have HOD2 := Lib.hid (show RowsOf w2 w1.heap.size L2 from fun x hx => ⟨_, rfl, hOD2 x hx⟩)
    have HS2 := Lib.hid hS2
    have HL2 := Lib.hid hL2
    clear HT1 HR1 hb2 hOL2 hOD2 hS2 hL2
    go_wp2_with fail
    have hb3 : Below w2.heap.size w2 (w2.alloc (.cells #[.int .i64 t, .int .i64 m, .int .u64 (o : Int), .int .i64 n, .int .i64 s] 26)) := (Below.refl _ _).alloc (Nat.le_refl _) _
    have HB3 := Lib.hid (HB2.out.trans (hb3.mono HB2.out.size))
    refine (HT2.out _ HB3.out).mono ?_
    rintro r w4 ⟨A4, c4, L4, rfl, hL4, hS4, hc4, hb4⟩
    have hb24 : Below w2.heap.size w2 w4 := hb3.trans (hb4.mono hb3.size)
    have HB4 := Lib.hid (HB2.out.trans (hb24.mono HB2.out.size))
    have HB24 := Lib.hid hb24
    have hX4 := (Box.new w2 26 #[.int .i64 t, .int .i64 m, .int .u64 (o : Int), .int .i64 n, .int .i64 s]).below hb4 (by simp)
    have hlt : w2.heap.size < w4.heap.size := hX4.lt
    have x0 := hX4.cell 0
    have x1 := hX4.cell 1
    have x2 := hX4.cell 2
    have x3 := hX4.cell 3
    have x4 := hX4.cell 4
    simp at x0 x1 x2 x3 x4
    have hb5 : Below w4.heap.size w4 (w4.alloc (.cells #[.int .i64 t, .int .i64 m, .int .u64 (o : Int), .int .i64 n, .int .i64 s] 31)) := (Below.refl _ _).alloc (Nat.le_refl _) _
    have HB5 := Lib.hid (HB4.out.trans (hb5.mono HB4.out.size))
    have HB25 := Lib.hid (hb24.trans (hb5.mono hb24.size))
    have hsm := rsame_any (B := (w4.alloc (.cells #[.int .i64 t, .int .i64 m, .int .u64 (o : Int), .int .i64 n, .int .i64 s] 31)).heap.size) ((HS2.out.below HB25.out).more HB25.out.size) ((hS4.below hb5).more hb5.size) (Nat.le_refl _) c2 c4 (by
      have h1 : L2.length = sl.length := by rw [← HL2.out]; simp
      rw [h1]; exact HSLN.out)
    have HNB := Lib.hid (show L2.length ≤ 100000 by
      have h1 : L2.length = sl.length := by rw [← HL2.out]; simp
      rw [h1]; exact HSLN.out)
    have HDB := Lib.hid (show ∀ x ∈ L2, x.s.data.length ≤ 100000 from fun x hx => (HFIT.out x.s (by rw [← HL2.out]; exact List.mem_map_of_mem hx)).data)
    rw [HL2.out, hL4, sameAll_refl] at hsm
    have HSM := Lib.hid hsm
    clear hb3 hb4 hb24 hX4 hb5 hsm hS4 hL4 HT2
    go_wp2_with fail
    refine HSM.out.mono ?_
    rintro r w6 ⟨rfl, hb6⟩
    have hq : (se != se) = false := by simp
    have hb26 : Below w2.heap.size w2 w6 := HB25.out.trans (hb6.mono HB25.out.size)
    have HB16 := Lib.hid (show Below w1.heap.size w2 w6 from hb26.mono HZ12.out)
    have HB6 := Lib.hid (HB2.out.trans (hb26.mono HB2.out.size))
    have HOL6 := Lib.hid (row_below HOL2.out hb26)
    have HRW6 := Lib.hid (HOD2.out.below hb26)
    have HZ6 := Lib.hid (Nat.le_trans HZ12.out hb26.size)
    clear HSM hb6 hb26 x0 x1 x2 x3 x4 hlt HB24 HB25 HB3 HB4 HB5 HS2 HL2 HOL2 HOD2 HO2
    have hNb : L2.length ≤ 100000 := HNB.out
    obtain ⟨N, hN⟩ : ∃ N, L2.length = N := ⟨_, rfl⟩
    rw [hN] at hc2 hNb ⊢
    rw [hN] at HOL6
    have HN := Lib.hid hN
    clear hN
    go_wp2_with fail
    go_loopg [48] N (fun gk i wx => ∃ k : Nat, k ≤ N ∧ gk = N - k ∧ i = .int .i64 k ∧ RowsOf wx w1.heap.size L2 ∧ Only w1.heap.size (CellsOf 5) w6 wx)
    case atStart => exact ⟨0, Nat.zero_le _, rfl, rfl, HRW6.out, Only.refl _ _ _⟩
    case round =>
      obtain ⟨k, hk, rfl, rfl, hRw, hOn⟩ := hrel
      clear HRW6
      by_cases hlt : k < N
      · obtain ⟨x, hx⟩ : ∃ x, L2[k]? = some x := ⟨L2[k]'(by rw [HN.out]; exact hlt), List.getElem?_eq_getElem _⟩
        have hol := row_only HOL6.out hOn (fun cs f hh => absurd (show 36 = 5 from hh) (by decide))
        have hform : ∃ g2, A2 = some ⟨g2, 0, none⟩ := by
          rcases hol.2 with ⟨_, h0⟩ | ⟨g2, cap, cur, e, _⟩
          · omega
          · injection e with e1 _ _
            exact ⟨g2, e1⟩
        obtain ⟨g2, rfl⟩ := hform
        have hcells : ∀ j v, x.cells[j]? = some v → wr.cell? ⟨g2, k * 9 + j, none⟩ = some v := fun j v hv => by
          have hj : j < 9 := (List.getElem?_eq_some_iff.1 hv).1
          rw [World.ownsRow.cellAt (g := g2) (cap := c2) hol (k * 9 + j) (by omega)]
          exact cellsL_at L2 k x j v hx hv
        have c0 := hcells 0 _ rfl
        have c1' := hcells 1 _ rfl
        have c2' := hcells 2 _ rfl
        have c3 := hcells 3 _ rfl
        have c4' := hcells 4 _ rfl
        have c5 := hcells 5 _ rfl
        have c6 := hcells 6 _ rfl
        have c7 := hcells 7 _ rfl
        have c8 := hcells 8 _ rfl
        rw [Nat.add_zero] at c0
        rw [show x.dv = .slice x.A x.s.data.length x.c from rfl] at c4'
        have hb7 : Below wr.heap.size wr (wr.alloc (.cells #[.string ⟨x.s.name.toArray⟩, .int .i64 x.s.kind, .int .u64 (x.s.flags : Int), .int .u64 (x.s.addr : Int), .slice x.A x.s.data.length x.c, .int .i64 x.s.link, .int .i64 x.s.inf, .int .i64 x.s.algn, .int .i64 x.s.ent] 36)) := (Below.refl _ _).alloc (Nat.le_refl _) _
        have HX7 := Lib.hid (Box.new wr 36 #[.string ⟨x.s.name.toArray⟩, .int .i64 x.s.kind, .int .u64 (x.s.flags : Int), .int .u64 (x.s.addr : Int), .slice x.A x.s.data.length x.c, .int .i64 x.s.link, .int .i64 x.s.inf, .int .i64 x.s.algn, .int .i64 x.s.ent])
        have hzw : w1.heap.size ≤ wr.heap.size := Nat.le_trans HZ6.out hOn.1.size
        have HRW7 := Lib.hid (hRw.below hb7)
        have HO7 := Lib.hid (hOn.then_ hb7 HZ6.out)
        have HATX := Lib.hid (fun (W : World) (hW : RowsOf W w1.heap.size L2) (j : Nat) (hj : j < x.s.data.length) => hW.at_ (List.mem_of_getElem? hx) hj)
        have hdb : x.s.data.length ≤ 100000 := HDB.out x (List.mem_of_getElem? hx)
        have HLT := Lib.hid hlt
        clear hx hol hcells hb7 hRw hOn hlt
        generalize x.s.data.length = dn at *
        generalize x.A = dA at *
        generalize x.c = dc at *
        generalize ByteArray.mk x.s.name.toArray = sb at *
        generalize x.s.kind = i1 at *
        generalize x.s.link = i2 at *
        generalize x.s.inf = i3 at *
        generalize x.s.algn = i4 at *
        generalize x.s.ent = i5 at *
        generalize x.s.flags = n1 at *
        generalize x.s.addr = n2 at *
        go_wp2_with fail
        generalize hE : wr.heap.size = E at *
        generalize wr.alloc (.cells #[.string sb, .int .i64 i1, .int .u64 (n1 : Int), .int .u64 (n2 : Int), .slice dA dn dc, .int .i64 i2, .int .i64 i3, .int .i64 i4, .int .i64 i5] 36) = w7 at *
        clear hE c0 c1' c2' c3 c4' c5 c6 c7 c8
        go_loopg [55] dn (fun gk i wy => ∃ j : Nat, j ≤ dn ∧ gk = dn - j ∧ i = .int .i64 j ∧ RowsOf wy w1.heap.size L2 ∧ Box wy E 36 #[.string sb, .int .i64 i1, .int .u64 (n1 : Int), .int .u64 (n2 : Int), .slice dA dn dc, .int .i64 i2, .int .i64 i3, .int .i64 i4, .int .i64 i5] ∧ Only w1.heap.size (CellsOf 5) w6 wy)
        case atStart => exact ⟨0, Nat.zero_le _, rfl, rfl, HRW7.out, HX7.out, HO7.out⟩
        case round =>
          obtain ⟨j, hj, rfl, rfl, hRy, hXy, hOy⟩ := hrel
          clear HRW7 HX7 HO7
          have y4 : wr.cell? ⟨E, 4, none⟩ = some (.slice dA dn dc) := hXy.cell 4
          by_cases hjl : j < dn
          · obtain ⟨g, b, cur, rfl, hBg, hBx, hcell, hfr⟩ := HATX.out wr hRy j hjl
            have hu := u8_one_more b
            have HR1 := Lib.hid (hRy.stored g j (b + 1))
            have hgs := only_set (only_refl wr (some g)) j (.int .u8 ((b + 1).toNat : Int))
            have HX1 := Lib.hid (hXy.grown hgs (fun e => by injection e with e; exact (Box.other hXy hBx (by decide)) e))
            have HO1 := Lib.hid (hOy.trans (Only.row (g := g) (bad := CellsOf 5) hgs hBx rfl hBg))
            have HJL := Lib.hid hjl
            clear hRy hXy hOy hBg hBx hgs
            generalize (b + 1).toNat = b1 at *
            generalize b.toNat = b0 at *
            go_wp2_with fail
            go_roundg (dn - (j + 1))
            case measure => have := HJL.out; omega
            case rel => exact ⟨j + 1, HJL.out, rfl, by go_num, HR1.out, HX1.out, HO1.out⟩
          · have HR1 := Lib.hid hRy
            have HO1 := Lib.hid hOy
            clear hRy hXy hOy
            go_wp2_with fail
            go_roundg (N - (k + 1))
            case measure => have := HLT.out; omega
            case rel => exact ⟨k + 1, HLT.out, rfl, by go_num, HR1.out, HO1.out⟩
      · have hB1 : Below w1.heap.size w2 wr := HB16.out.trans hOn.1
        have hBw : Below w.heap.size w wr := HB6.out.trans (hOn.1.mono HB1.out.size)
        have hc1 : (convert 22 9 (.slice A1 l.length c1)).run Tryd.prog wr = .ok (.string ⟨l.toArray⟩) wr := conv_own (own_below HO1.out (HB12.out.trans hB1))
        have hc2 := conv_rd (HR.out.below hBw) cap0
        have HBw := Lib.hid hBw
        clear hRw hOn hB1 hBw
        generalize ByteArray.mk l.toArray = sb at *
        have hq2 : (sb.toList == sb.toList) = true := by simp
        generalize l.length = ln at *
        go_wp2_with fail
        refine (HW.out _ HBw.out).mono ?_
        rintro r w9 ⟨rfl, hb9⟩
        have HB9 := Lib.hid (HBw.out.trans (hb9.mono HBw.out.size))
        clear hb9 hc1 hc2
        go_wp2_with fail
        go_ret
        exact ⟨rfl, HB9.out⟩

end Go.Proofs.YtpdjpafchfbabaaDoor
