/-
  Package sects: what an entry is refused with (refusal), and its bytes (data).
-/
import Derived.Test.YtldmjnbmjfnfeaaGreatDoorObB
import Derived.Test.YtldmjnbmjfnfeaaGreatDoorObC
import Derived.Test.YtldmjnbmjfnfeaaGreatDoorSyDa
import Derived.Test.YtldmjnbmjfnfeaaGreatDoorCsL
import Derived.Deep.RegionHeldLaw
import Derived.Test.YtldmjnbmjfnfeaaGreatDoorEhC
namespace Go.Proofs.YtldmjnbmjfnfeaaGreatDoor
open Go Go.RowKit

/-- The symbols of a table d with names t, in a file of n sections: why there are none, and they. -/
def symE (n : Nat) (d t : List UInt8) : Int := if takeEY d.length (okK d t) 23 ≠ 0 then takeEY d.length (okK d t) 23 else errOf (placedY (takeLY d.length (okK d t) (symK d t)) n) 23
def symL (n : Nat) (d t : List UInt8) : List Sym := if symE n d t = 0 then takeLY d.length (okK d t) (symK d t) else []
/-- Those of the section at a place. -/
def symsE (S : List Sect) (p : Nat) : Int := match S[p]? with
  | none => 23
  | some s => match S[s.link.toNat]? with
    | none => 23
    | some t => if t.kind = 3 then symE S.length s.data t.data else 23
def symsL (S : List Sect) (p : Nat) : List Sym := match S[p]? with
  | none => []
  | some s => match S[s.link.toNat]? with
    | none => []
    | some t => if t.kind = 3 then symL S.length s.data t.data else []
variable {S : List Sect} {p : Nat} {s t : Sect}
theorem syms_far (h : S[p]? = some s) (h2 : S[s.link.toNat]? = none) : symsE S p = 23 ∧ symsL S p = [] := by simp [symsE, symsL, h, h2]
theorem syms_else (h : S[p]? = some s) (h2 : S[s.link.toNat]? = some t) (h3 : t.kind ≠ 3) : symsE S p = 23 ∧ symsL S p = [] := by simp [symsE, symsL, h, h2, h3]
theorem syms_there (h : S[p]? = some s) (h2 : S[s.link.toNat]? = some t) (h3 : t.kind = 3) : symsE S p = symE S.length s.data t.data ∧ symsL S p = symL S.length s.data t.data := by simp [symsE, symsL, h, h2, h3]
theorem sym_not {n : Nat} {d t : List UInt8} (h : takeEY d.length (okK d t) 23 ≠ 0) : symE n d t = takeEY d.length (okK d t) 23 ∧ symL n d t = [] := by
  have h1 : symE n d t = takeEY d.length (okK d t) 23 := if_pos h
  exact ⟨h1, by unfold symL; rw [h1, if_neg h]⟩
theorem sym_off {n : Nat} {d t : List UInt8} (h : takeEY d.length (okK d t) 23 = 0) (h2 : placedY (takeLY d.length (okK d t) (symK d t)) n = false) : symE n d t = 23 ∧ symL n d t = [] := by
  have h1 : symE n d t = 23 := by unfold symE; rw [if_neg (by simp [h]), h2]; rfl
  exact ⟨h1, by unfold symL; rw [h1]; rfl⟩
theorem sym_in {n : Nat} {d t : List UInt8} (h : takeEY d.length (okK d t) 23 = 0) (h2 : placedY (takeLY d.length (okK d t) (symK d t)) n = true) : symE n d t = 0 ∧ symL n d t = takeLY d.length (okK d t) (symK d t) := by
  have h1 : symE n d t = 0 := by unfold symE; rw [if_neg (by simp [h]), h2]; rfl
  exact ⟨h1, by unfold symL; rw [h1]; rfl⟩
theorem takeLY_length {α : Type} (n : Nat) (ok : Nat → Bool) (f : Nat → α) : (takeLY n ok f).length ≤ 400 := by
  unfold takeLY
  split
  · simp
  · split
    · simp
    · split
      · rw [listTo_length]; omega
      · simp

set_option maxRecDepth 10000 in
theorem tsyms_none {w : World} (a : Option Addr) (n c : Nat) : Calls Tryz.prog 21 #[.slice a n c, .int .i64 0] w fun r w' => r = .returned (.tuple #[.slice none 0 0, .int .i64 0]) ∧ w = w' := by
  go_enter Tryz.func21, Tryz.ntmps21
  go_wp2_with fail
  go_ret2
  exact ⟨rfl, rfl⟩

set_option maxRecDepth 10000 in
set_option maxHeartbeats 3200000 in
theorem tsyms_any {w : World} {a : Option Addr} {L : List Lay} (h : Secs w w.heap.size a L) (c : Nat) (p : Nat) (hp : 0 < p) {x : Lay} (hx : L[p]? = some x) (hk : 0 ≤ x.s.link) :
    Calls Tryz.prog 21 #[.slice a L.length c, .int .i64 (p : Int)] w fun r w' => ∃ u, r = .returned (.tuple #[u, .int .i64 (symsE (secsOf L) p)]) ∧ OwnY w' w.heap.size u (symsL (secsOf L) p) ∧ Below w.heap.size w w' := by
  obtain ⟨lk, hlk⟩ : ∃ lk : Nat, x.s.link = (lk : Int) := ⟨x.s.link.toNat, by omega⟩
  have hlt : x.s.link.toNat = lk := by omega
  have hpl : p < L.length := (List.getElem?_eq_some_iff.1 hx).1
  have hgx := get_secsOf hx
  have hsl : (secsOf L).length = L.length := by simp
  obtain ⟨b, o, rfl, hb, c0, c1, c2, c3, c4, c5, c6, c7, c8⟩ := h.at_ hx
  have hpz : (((p : Nat) : Int) == 0) = false := by simp; omega
  have hin : decide ((p : Int) < (L.length : Int)) = true := decide_eq_true (by omega)
  rw [hlk] at c5
  have hb0 : Below w.heap.size w (w.alloc (.cells #[.string ⟨x.s.name.toArray⟩, .int .i64 x.s.kind, .int .u64 (x.s.flags : Int), .int .u64 (x.s.addr : Int), .slice x.A x.s.data.length x.c, .int .i64 (lk : Int), .int .i64 x.s.inf, .int .i64 x.s.algn, .int .i64 x.s.ent] 39)) := (Below.refl _ _).alloc (Nat.le_refl _) _
  by_cases hfar : L.length ≤ lk
  · have HF := Lib.hid (syms_far hgx (by rw [hlt]; exact List.getElem?_eq_none (by omega)))
    have hd : decide ((L.length : Int) ≤ (lk : Int)) = true := decide_eq_true (by omega)
    have HB0 := Lib.hid hb0
    clear h hx hgx hsl hlk hlt hb0 hk
    generalize x.A = dA at *
    generalize x.s.data.length = dn at *
    generalize x.c = dc at *
    generalize ByteArray.mk x.s.name.toArray = sb at *
    generalize L.length = N at *
    go_enter Tryz.func21, Tryz.ntmps21
    go_wp2_with fail
    go_ret2
    exact ⟨_, by rw [HF.out.1]; rfl, by rw [HF.out.2]; exact World.ownsRow_nil _ _ _ _, HB0.out⟩
  · obtain ⟨y, hy⟩ : ∃ y, L[lk]? = some y := ⟨L[lk]'(by omega), List.getElem?_eq_getElem _⟩
    have hgy : (secsOf L)[x.s.link.toNat]? = some y.s := by rw [hlt]; exact get_secsOf hy
    have hd : decide ((L.length : Int) ≤ (lk : Int)) = false := decide_eq_false (by omega)
    have hd2 : decide ((lk : Int) < (L.length : Int)) = true := decide_eq_true (by omega)
    have hln : lk < L.length := by omega
    have hnl : ¬ L.length ≤ lk := by omega
    obtain ⟨b', o', e', _, m0, m1, m2, m3, m4, -⟩ := h.at_ hy
    cases e'
    have hbl : ∀ (j : Nat) (v : Value) (W : World), w.cell? ⟨b, j, none⟩ = some v → Below w.heap.size w W → W.cell? ⟨b, j, none⟩ = some v := fun j v W e hW => by rw [hW.cell (p := ⟨b, j, none⟩) hb]; exact e
    have n1 := hbl _ _ _ m1 hb0
    by_cases hy3 : y.s.kind = 3
    · have q3 : (y.s.kind != 3) = false := by simp [hy3]
      have hT := syms_there hgx hgy hy3
      rw [hsl] at hT
      have n4 := hbl _ _ _ m4 hb0
      have HO := Lib.hid h
      have hokx := h.get hx
      have hoky := h.get hy
      have HT := Lib.hid (fun W (hW : Below w.heap.size w W) => ytake_any ((hokx.rd.below hW).more hW.size) ((hoky.rd.below hW).more hW.size) x.c y.c hoky.le (by have := hokx.fits.data; omega) (by have := hoky.fits.data; omega))
      have HPL := Lib.hid (fun W A (c' : Nat) (hS : Syms W W.heap.size A (takeLY x.s.data.length (okK x.s.data y.s.data) (symK x.s.data y.s.data))) => placed_any hS c' (by have := takeLY_length x.s.data.length (okK x.s.data y.s.data) (symK x.s.data y.s.data); omega) L.length)
      have HB0 := Lib.hid hb0
      have hX := Box.new w 39 #[.string ⟨x.s.name.toArray⟩, .int .i64 x.s.kind, .int .u64 (x.s.flags : Int), .int .u64 (x.s.addr : Int), .slice x.A x.s.data.length x.c, .int .i64 (lk : Int), .int .i64 x.s.inf, .int .i64 x.s.algn, .int .i64 x.s.ent]
      have k4 : (w.alloc (.cells #[.string ⟨x.s.name.toArray⟩, .int .i64 x.s.kind, .int .u64 (x.s.flags : Int), .int .u64 (x.s.addr : Int), .slice x.A x.s.data.length x.c, .int .i64 (lk : Int), .int .i64 x.s.inf, .int .i64 x.s.algn, .int .i64 x.s.ent] 39)).cell? ⟨w.heap.size, 4, none⟩ = some (.slice x.A x.s.data.length x.c) := hX.cell 4
      have k5 : (w.alloc (.cells #[.string ⟨x.s.name.toArray⟩, .int .i64 x.s.kind, .int .u64 (x.s.flags : Int), .int .u64 (x.s.addr : Int), .slice x.A x.s.data.length x.c, .int .i64 (lk : Int), .int .i64 x.s.inf, .int .i64 x.s.algn, .int .i64 x.s.ent] 39)).cell? ⟨w.heap.size, 5, none⟩ = some (.int .i64 (lk : Int)) := hX.cell 5
      clear hX
      have HN := Lib.hid (@sym_not L.length x.s.data y.s.data)
      have HOF := Lib.hid (@sym_off L.length x.s.data y.s.data)
      have HIN := Lib.hid (@sym_in L.length x.s.data y.s.data)
      rw [← hT.1, ← hT.2] at HN HOF HIN
      clear hgy hy3 h hx hgx hsl hlk hlt hk hy m0 m2 m3 m4 m1 hT hbl hokx hoky hfar
      generalize symsE (secsOf L) p = se at *
      generalize symsL (secsOf L) p = sl at *
      generalize takeLY x.s.data.length (okK x.s.data y.s.data) (symK x.s.data y.s.data) = tl at *
      generalize takeEY x.s.data.length (okK x.s.data y.s.data) 23 = te at *
      generalize x.A = dA at *
      generalize x.s.data.length = dn at *
      generalize x.c = dc at *
      generalize y.A = eA at *
      generalize y.s.data.length = en at *
      generalize y.c = ec at *
      generalize y.s.kind = yk at *
      generalize ByteArray.mk x.s.name.toArray = sb at *
      generalize L.length = N at *
      go_enter Tryz.func21, Tryz.ntmps21
      go_wp2_with fail
      clear c0 c1 c2 c3 c4 c5 c6 c7 c8 n1
      generalize hw1 : w.alloc (.cells #[.string sb, .int .i64 x.s.kind, .int .u64 (x.s.flags : Int), .int .u64 (x.s.addr : Int), .slice dA dn dc, .int .i64 (lk : Int), .int .i64 x.s.inf, .int .i64 x.s.algn, .int .i64 x.s.ent] 39) = w1 at *
      have hz1 : w.heap.size < w1.heap.size := by rw [← hw1]; simp
      clear hw1 hb0
      have KS := Lib.hid (fun W (hW : Below w1.heap.size w1 W) => (⟨hW, by rw [hW.cell (p := ⟨w.heap.size, 4, none⟩) hz1]; exact k4, by rw [hW.cell (p := ⟨w.heap.size, 5, none⟩) hz1]; exact k5, by rw [hW.cell (p := ⟨b, o + lk * 9 + 4, none⟩) (by show b < _; omega)]; exact n4⟩ :
        Below w1.heap.size w1 W ∧ W.cell? ⟨w.heap.size, 4, none⟩ = some (.slice dA dn dc) ∧ W.cell? ⟨w.heap.size, 5, none⟩ = some (.int .i64 (lk : Int)) ∧ W.cell? ⟨b, o + lk * 9 + 4, none⟩ = some (.slice eA en ec)))
      have HT1 := Lib.hid (fun W (hW : Below w1.heap.size w1 W) => (show Calls Tryz.prog 50 #[.slice dA dn dc, .slice eA en ec] W (fun r w' => ∃ u, r = .returned (.tuple #[u, .int .i64 te]) ∧ OwnY w' W.heap.size u tl ∧ Below W.heap.size W w' ∧ Below w1.heap.size w1 w') from (HT.out W (HB0.out.trans (hW.mono HB0.out.size))).mono fun r w' ⟨u, h1, h2, h3⟩ => ⟨u, h1, h2, h3, hW.trans (h3.mono hW.size)⟩))
      clear HT n4 k4 k5
      by_cases hte : te = 0
      · have q0 : (te != 0) = false := by simp [hte]
        go_region_held_law (fun W => Below w1.heap.size w1 W ∧ W.cell? ⟨w.heap.size, 4, none⟩ = some (.slice dA dn dc) ∧ W.cell? ⟨w.heap.size, 5, none⟩ = some (.int .i64 (lk : Int)) ∧ W.cell? ⟨b, o + lk * 9 + 4, none⟩ = some (.slice eA en ec))
          ((refine KS.out _ ?_; first | assumption | exact (Below.refl _ _).drew))
          ((go_at_call 50; refine (HT1.out _ ((Below.refl _ _).drew)).mono ?_; rintro r w2 ⟨u, rfl, hO2, hb2, hb12⟩))
        obtain ⟨A2, c2, rfl, hc2, hm2, hS2⟩ := own_row sym_six hO2
        have HO2 := Lib.hid hO2
        have HB2 := Lib.hid (HB0.out.trans (hb12.mono HB0.out.size))
        have HBu := Lib.hid hb2
        have HP2 := Lib.hid (HPL.out w2 A2 c2 hS2)
        clear hO2 hb2 hb12 hS2 HPL HT1 KS
        cases hpl2 : placedY tl N with
        | false =>
          have HF := Lib.hid (HOF.out hte hpl2)
          rw [hpl2] at HP2
          clear hpl2 HOF HIN HN hte
          generalize tl.length = tn at *
          go_wp2_with (go_at_call 41; refine HP2.out.mono ?_; rintro r w3 ⟨rfl, hb3⟩)
          have HB3 := Lib.hid (HB2.out.trans (hb3.mono HB2.out.size))
          go_ret2
          exact ⟨_, by rw [HF.out.1]; rfl, by rw [HF.out.2]; exact World.ownsRow_nil _ _ _ _, HB3.out⟩
        | true =>
          have HF := Lib.hid (HIN.out hte hpl2)
          rw [hpl2] at HP2
          clear hpl2 HOF HIN HN hte
          obtain ⟨tn, htn⟩ : ∃ tn, tl.length = tn := ⟨_, rfl⟩
          have HTN := Lib.hid htn
          rw [htn] at HP2 hc2 ⊢
          clear htn
          go_wp2_with (go_at_call 41; refine HP2.out.mono ?_; rintro r w3 ⟨rfl, hb3⟩)
          have HB3 := Lib.hid (HB2.out.trans (hb3.mono HB2.out.size))
          go_ret2
          refine ⟨_, by rw [HF.out.1]; rfl, ?_, HB3.out⟩
          rw [HF.out.2, ← HTN.out]
          exact row_below (row_base HO2.out (by have := HB0.out.size; simpa using this)) hb3
      · have q0 : (te != 0) = true := by simp [hte]
        have HF := Lib.hid (HN.out hte)
        clear HOF HIN HN hte HPL
        go_region_held_law (fun W => Below w1.heap.size w1 W ∧ W.cell? ⟨w.heap.size, 4, none⟩ = some (.slice dA dn dc) ∧ W.cell? ⟨w.heap.size, 5, none⟩ = some (.int .i64 (lk : Int)) ∧ W.cell? ⟨b, o + lk * 9 + 4, none⟩ = some (.slice eA en ec))
          ((refine KS.out _ ?_; first | assumption | exact (Below.refl _ _).drew))
          ((go_at_call 50; refine (HT1.out _ ((Below.refl _ _).drew)).mono ?_; rintro r w2 ⟨u, rfl, hO2, hb2, hb12⟩))
        have HB2 := Lib.hid (HB0.out.trans (hb12.mono HB0.out.size))
        go_wp2_with fail
        go_ret2
        exact ⟨_, by rw [HF.out.1]; rfl, by rw [HF.out.2]; exact World.ownsRow_nil _ _ _ _, HB2.out⟩
    · have q3 : (y.s.kind != 3) = true := by simp [hy3]
      have HF := Lib.hid (syms_else hgx hgy hy3)
      have HB0 := Lib.hid hb0
      clear hgy hy3 h hx hgx hsl hlk hlt hk hy m0 m2 m3 m4 m1 hb0 hbl hfar
      generalize x.A = dA at *
      generalize x.s.data.length = dn at *
      generalize x.c = dc at *
      generalize y.s.kind = yk at *
      generalize ByteArray.mk x.s.name.toArray = sb at *
      generalize L.length = N at *
      go_enter Tryz.func21, Tryz.ntmps21
      go_wp2_with fail
      go_ret2
      exact ⟨_, by rw [HF.out.1]; rfl, by rw [HF.out.2]; exact World.ownsRow_nil _ _ _ _, HB0.out⟩

end Go.Proofs.YtldmjnbmjfnfeaaGreatDoor

namespace Go.Proofs.YtldmjnbmjfnfeaaGreatDoor
open Go Go.RowKit

theorem yrel_odd {w : World} (A : Option Addr) (n c : Nat) (hl : n ≤ 1000000) (h : n % 24 ≠ 0) :
    Calls Tryz.prog 51 #[.slice A n c] w fun r w' => r = .returned (.tuple #[.slice none 0 0, .int .i64 24]) ∧ w = w' := by
  have hC := fun W => count_any (w := W) A n c 24 (by omega)
  rw [if_pos h, if_pos h] at hC
  clear h
  go_enter Tryz.func51, Tryz.ntmps51
  go_wp2_with (go_at_call 91; refine (hC _).mono ?_; rintro r w1 ⟨rfl, rfl⟩)
  go_ret2
  exact ⟨rfl, rfl⟩

theorem yrel_big {w : World} (A : Option Addr) (n c : Nat) (hl : n ≤ 1000000) (h : ¬ n % 24 ≠ 0) (h2 : 400 < n / 24) :
    Calls Tryz.prog 51 #[.slice A n c] w fun r w' => r = .returned (.tuple #[.slice none 0 0, .int .i64 3]) ∧ w = w' := by
  have hC := fun W => count_any (w := W) A n c 24 (by omega)
  rw [if_neg h, if_pos h2, if_neg h, if_pos h2] at hC
  clear h h2
  go_enter Tryz.func51, Tryz.ntmps51
  go_wp2_with (go_at_call 91; refine (hC _).mono ?_; rintro r w1 ⟨rfl, rfl⟩)
  go_ret2
  exact ⟨rfl, rfl⟩

/-- A round's end: an item stored into the row, nothing stored ahead of it. -/
theorem take_stepR {T : TypeId} {n k ge q gc a : Nat} {C vs : List Value} {w w5 : World} {vc : Value} {t : List UInt8} (hR : RowTo T n w5 ge q C) (hC : Cur w5 gc vc t a 0) (hB : Below w.heap.size w w5)
    (hgc : gc ≠ ge) (hvc : vc.ownBlock ≠ some ge) (hl : C.length = k * n) (hvl : vs.length = n) (hk : k < q) (h2 : w.heap.size ≤ ge) :
    RowTo T n (setAll w5 ge (k * n) vs) ge q (C ++ vs) ∧ Cur (setAll w5 ge (k * n) vs) gc vc t a 0 ∧ Below w.heap.size w (setAll w5 ge (k * n) vs) := by
  have hle : (k + 1) * n ≤ q * n := Nat.mul_le_mul_right n hk
  rw [Nat.add_mul] at hle
  obtain ⟨s1, s2⟩ := hR.store vs (by rw [hl, hvl]; omega)
  rw [hl] at s1 s2
  exact ⟨s1, hC.grown s2 (by simpa using hgc) (.inr hvc), below_only hB (Nat.le_refl _) s2 h2⟩

set_option maxRecDepth 10000 in
set_option maxHeartbeats 1600000 in
theorem yrel_even {w : World} {A : Option Addr} {t : List UInt8} {n q : Nat} (hn : t.length = n) (hlq : n = 24 * q) (hq4 : q ≤ 400) (hr : Rd w w.heap.size A t) (c : Nat) :
    Calls Tryz.prog 51 #[.slice A n c] w fun r w' => ∃ u, r = .returned (.tuple #[u, .int .i64 (errOf (okTo (okR t) q) 24)]) ∧ (okTo (okR t) q = true → OwnR w' w.heap.size u (listTo (relK t) q)) ∧ (okTo (okR t) q = false → u = .slice none 0 0) ∧ Below w.heap.size w w' := by
  have hC := fun W => count_any (w := W) A n c 24 (by omega)
  rw [if_neg (by omega), if_neg (by omega), if_neg (by omega), if_neg (by omega), show n / 24 = q by omega] at hC
  obtain ⟨i1, hj, hy0, hy1, hy2⟩ := info_parts rel_info
  have HN := Lib.hid (fun W (hW : W = w) => (by
    have := new_any (w := W) c (hW ▸ hr) (Nat.le_of_eq (by rw [hW])) (by omega)
    rwa [hn] at this : Calls Tryz.prog 81 #[.slice A n c] W fun r w' => ∃ g v, r = .returned (.pointer (some ⟨g, 0, none⟩)) ∧ Made W.heap.size w' g v t 0 ∧ Below W.heap.size W w'))
  have hm1 : i1.bytes * q ≤ 281474976710656 := by rw [hy2]; omega
  have hm2 : q ≤ maxLen := by unfold maxLen; omega
  have HLQ := Lib.hid (show t.length = 24 * q by omega)
  have HQ4 := Lib.hid hq4
  clear hr hn hlq hq4
  go_enter Tryz.func51, Tryz.ntmps51
  go_wp2_with (first
    | (go_at_call 91; refine (hC _).mono ?_; rintro r w1 ⟨rfl, rfl⟩)
    | (go_at_call 81; refine (HN.out _ rfl).mono ?_; rintro r w1 ⟨gc, vc, rfl, hM1, hb1⟩; have HM1 := Lib.hid hM1; have HB1 := Lib.hid hb1; clear hM1 hb1)
    | (at_make; refine wpList_make_full _ rfl _ _ 49 rfl w1.heap.size 53 i1 _ 4 Tryz.underlying49 hj hy0 hy1 .i64 .i64 (q : Int) (q : Int) q rfl rfl rfl rfl hm1 hm2 (Nat.le_refl _) ?_; intro w2 hown2 hg2))
  have hmf : ∀ (fn : Fn) (first cap : Array Value) (W : World), (Instr.makeFunc fn first cap).run Tryz.prog W = .ok (.func fn first cap) W := fun _ _ _ _ => rfl
  have hC1 := HM1.out.1
  have hgc : w.heap.size ≤ gc := HM1.out.2.1
  have hgl : gc < w1.heap.size := hC1.1.lt
  have hvc : vc.ownBlock ≠ some w1.heap.size := fun e => by have := (own_ge hC1.2.1 _ e).2; omega
  have hb12 : Below w1.heap.size w1 w2 := below_of_only hg2 (Nat.le_refl _) (by simp)
  have HC2 := Lib.hid (hC1.below hb12)
  have HW2 := Lib.hid (show RowTo 53 4 w2 w1.heap.size q (cellsF Rel.cells (listTo (relK t) 0)) from ⟨_, hown2⟩)
  have HB2 := Lib.hid (HB1.out.trans (hb12.mono HB1.out.size))
  have hbg : w.heap.size ≤ w1.heap.size := HB1.out.size
  clear hC hC1 HN HM1 HB1 hown2 hg2 hb12 hm1 hm2 hj hy0 hy1 hy2
  generalize w1.heap.size = ge at *
  have hgcne : gc ≠ ge := by omega
  have hgcne' : ge ≠ gc := by omega
  go_loopw [25] (fun i wr => ∃ k : Nat, k ≤ q ∧ i = .int .i64 k ∧ Hid (okTo (okR t) k = true) ∧ RowTo 53 4 wr ge q (cellsF Rel.cells (listTo (relK t) k)) ∧ Cur wr gc vc t (24 * k) 0 ∧ Below w.heap.size w wr) (fun i _ => q - (intOf i).toNat)
  case atStart => exact ⟨0, Nat.zero_le _, rfl, Lib.hid rfl, HW2.out, HC2.out, HB2.out⟩
  case round =>
    obtain ⟨k, hk, rfl, HOK, hR, hC, hB⟩ := hrel
    clear HC2 HW2
    by_cases hlt : k < q
    · have HLT := Lib.hid hlt
      have HS := Lib.hid (rela_any (a := 24 * k) (by rw [HLQ.out]; have := HQ4.out; omega) (by rw [HLQ.out]; omega) hC)
      have HR := Lib.hid hR
      have HB := Lib.hid hB
      have HK := Lib.hid (show relK t k = ⟨numT t (24 * k) 8, (numT t (24 * k + 12) 4 : Int), (numT t (24 * k + 8) 4 : Int), IntKind.i64.wrap (numT t (24 * k + 16) 8 : Int)⟩ from rfl)
      have HO := Lib.hid (show okR t k = (decide (numT t (24 * k + 8) 4 ≤ 2147483647) && decide (numT t (24 * k + 12) 4 ≤ 2147483647)) from rfl)
      clear hR hC hB
      generalize (decide (numT t (24 * k + 8) 4 ≤ 2147483647) && decide (numT t (24 * k + 12) 4 ≤ 2147483647)) = ob at *
      generalize IntKind.i64.wrap (numT t (24 * k + 16) 8 : Int) = m3 at *
      generalize numT t (24 * k) 8 = m0 at *
      generalize numT t (24 * k + 8) 4 = m1 at *
      generalize numT t (24 * k + 12) 4 = m2 at *
      have FB := Lib.hid (fun (w4 : World) (hC4 : Cur w4 gc vc t (24 * k + 24) 0) (hG4 : wr.grownBy w4 (some gc)) => (⟨hC4, HR.out.kept hG4 (by simpa using hgcne'), below_only HB.out (Nat.le_refl _) hG4 hgc⟩ :
        Cur w4 gc vc t (24 * k + 24) 0 ∧ RowTo 53 4 w4 ge q (cellsF Rel.cells (listTo (relK t) k)) ∧ Below w.heap.size w w4))
      have hclen : (cellsF Rel.cells (listTo (relK t) k)).length = k * 4 := by rw [cellsF_length rel_four, listTo_length]
      have HCL := Lib.hid hclen
      clear hclen
      cases ob with
      | true =>
        go_wp2_with (first
          | (go_at_call 94; refine HS.out.mono ?_; rintro r w4 ⟨rfl, hC4, hG4⟩; (obtain ⟨hC5, hR5, hB5⟩ := FB.out w4 hC4 hG4); have HC5 := Lib.hid hC5; have HR5 := Lib.hid hR5; have HB5 := Lib.hid hB5; have hge4 := Nat.lt_of_lt_of_le HR.out.lt hG4.size; (obtain ⟨⟨y0, g0⟩, z0⟩ := hR5.free (k * 4) (by omega)); (obtain ⟨⟨y1, g1⟩, z1⟩ := hR5.free (k * 4 + 1) (by omega)); (obtain ⟨⟨y2, g2⟩, z2⟩ := hR5.free (k * 4 + 2) (by omega)); (obtain ⟨⟨y3, g3⟩, z3⟩ := hR5.free (k * 4 + 3) (by omega)); clear hC4 hG4 hC5 hR5 hB5))
        obtain ⟨e1, e2, e3⟩ := take_stepR (vs := [.int .u64 (m0 : Int), .int .i64 (m2 : Int), .int .i64 (m1 : Int), .int .i64 m3]) HR5.out HC5.out HB5.out hgcne hvc HCL.out rfl HLT.out hbg
        rw [rel_set] at e1 e2 e3
        generalize hWX : (((w4.setCell ⟨ge, k * 4, none⟩ (.int .u64 (m0 : Int))).setCell ⟨ge, k * 4 + 1, none⟩ (.int .i64 (m2 : Int))).setCell ⟨ge, k * 4 + 2, none⟩ (.int .i64 (m1 : Int))).setCell ⟨ge, k * 4 + 3, none⟩ (.int .i64 m3) = WX at *
        have hAX : Below WX.heap.size WX (WX.alloc (.cells #[.int .u64 (m0 : Int), .int .i64 (m2 : Int), .int .i64 (m1 : Int), .int .i64 m3] 53)) := (Below.refl _ _).alloc (Nat.le_refl _) _
        have E1 := Lib.hid (e1.below hAX)
        have E2 := Lib.hid (e2.below hAX)
        have E3 := Lib.hid (e3.trans (hAX.mono e3.size))
        clear hAX
        clear e1 e2 e3 g0 g1 g2 g3 z0 z1 z2 z3 HC5 HR5 HB5
        clear hWX
        go_roundw
        case rel =>
          refine ⟨k + 1, by have := HLT.out; omega, by (have h1 := HLT.out; have h2 := HQ4.out; have h3 : wrap64 ((k : Int) + 1) = (k : Int) + 1 := (by unfold wrap64; omega); rw [h3]; rfl), Lib.hid (by rw [okTo_next, HOK.out, HO.out]; rfl), ?_, E2.out, E3.out⟩
          rw [listTo_next, cellsF_append, cellsF_one, HK.out]
          exact E1.out
        case measure => have h1 := HLT.out; have h2 := HQ4.out; have h3 : wrap64 ((k : Int) + 1) = (k : Int) + 1 := (by unfold wrap64; omega); rw [h3]; simp [intOf]; omega
      | false =>
        have HF := Lib.hid (okTo_more hlt (show okR t k = false by rw [HO.out]))
        go_wp2_with (first
          | (go_at_call 94; refine HS.out.mono ?_; rintro r w4 ⟨rfl, hC4, hG4⟩; (obtain ⟨hC5, hR5, hB5⟩ := FB.out w4 hC4 hG4); have HB5 := Lib.hid hB5; clear hC4 hG4 hC5 hR5 hB5))
        go_ret2
        exact ⟨_, by rw [HF.out]; rfl, fun h => absurd (HF.out.symm.trans h) (by decide), fun _ => rfl, below_alloc_any HB5.out _⟩
    · have hkq : k = q := by omega
      subst hkq
      have HD := Lib.hid (show OwnR wr w.heap.size (.slice (some ⟨ge, 0, none⟩) k k) (listTo (relK t) k) by
        rw [OwnR, listTo_length]
        exact hR.done (by rw [cellsF_length rel_four, listTo_length]) hbg)
      have HB := Lib.hid hB
      clear hR hC hB
      go_wp2_with fail
      go_ret2
      exact ⟨_, by rw [HOK.out]; rfl, fun _ => HD.out, fun h => absurd (HOK.out.symm.trans h) (by decide), HB.out⟩

/-- TakeRelas, of whatever bytes. -/
theorem yrel_any {w : World} {A : Option Addr} {t : List UInt8} (hr : Rd w w.heap.size A t) (c : Nat) (hl : t.length ≤ 1000000) :
    Calls Tryz.prog 51 #[.slice A t.length c] w fun r w' => ∃ u, r = .returned (.tuple #[u, .int .i64 (takeEY t.length (okR t) 24)]) ∧ OwnR w' w.heap.size u (takeLY t.length (okR t) (relK t)) ∧ Below w.heap.size w w' := by
  by_cases h1 : t.length % 24 ≠ 0
  · rw [takeEY_odd h1, takeLY_odd h1]
    exact (yrel_odd A _ c hl h1).mono fun r w' ⟨e, hw⟩ => ⟨_, e, World.ownsRow_nil _ _ _ _, hw ▸ Below.refl _ _⟩
  · by_cases h2 : 400 < t.length / 24
    · rw [takeEY_big h1 h2, takeLY_big h1 h2]
      exact (yrel_big A _ c hl h1 h2).mono fun r w' ⟨e, hw⟩ => ⟨_, e, World.ownsRow_nil _ _ _ _, hw ▸ Below.refl _ _⟩
    · have hq : t.length = 24 * (t.length / 24) := by omega
      refine (yrel_even rfl hq (by omega) hr c).mono fun r w' ⟨u, e, g1, g2, hb⟩ => ⟨u, ?_, ?_, hb⟩
      · rw [e]
        cases ho : okTo (okR t) (t.length / 24) with
        | true => rw [takeEY_ok hq (by omega) ho]; rfl
        | false => rw [takeEY_bad hq (by omega) ho]; rfl
      · cases ho : okTo (okR t) (t.length / 24) with
        | true => rw [takeLY_ok hq (by omega) ho]; exact g1 ho
        | false => rw [takeLY_bad hq (by omega) ho, g2 ho]; exact World.ownsRow_nil _ _ _ _

end Go.Proofs.YtldmjnbmjfnfeaaGreatDoor

namespace Go.Proofs.YtldmjnbmjfnfeaaGreatDoor
open Go Go.RowKit

/-! ### What is read -/
/-- Relocations by one of n symbols, out of bytes: why there are none, and they. -/
def relsE (n : Nat) (d : List UInt8) : Int := if takeEY d.length (okR d) 24 ≠ 0 then takeEY d.length (okR d) 24 else errOf (fitR (takeLY d.length (okR d) (relK d)) n) 24
def relsL (d : List UInt8) : List Rel := takeLY d.length (okR d) (relK d)
/-- What has been read behind k sections: whose relocations, and they. -/
def hadK (S : List Sect) : Nat → List Bool
  | 0 => List.replicate S.length false
  | k + 1 => match S[k]? with
    | none => hadK S k
    | some s => if s.kind = 4 then (hadK S k).set s.inf.toNat true else hadK S k
def relaK (S : List Sect) : Nat → List (List Rel)
  | 0 => List.replicate S.length []
  | k + 1 => match S[k]? with
    | none => relaK S k
    | some s => if s.kind = 4 then (relaK S k).set s.inf.toNat (relsL s.data) else relaK S k
/-- What a section of Type 4 is refused with, or one of Type 9. -/
def relE (N : Nat) (p : Int) (n : Nat) (h : List Bool) (s : Sect) : Int :=
  if s.kind = 9 then 24 else if s.kind = 4 then (if p < 0 ∨ s.link ≠ p ∨ s.inf < 1 ∨ (N : Int) ≤ s.inf ∨ h[s.inf.toNat]? = some true then 24 else relsE n s.data) else 0
def relUp (S : List Sect) (p : Int) (n : Nat) : Nat → Int
  | 0 => 0
  | k + 1 => if relUp S p n k ≠ 0 then relUp S p n k else match S[k]? with
    | none => 0
    | some s => relE S.length p n (hadK S k) s
variable {S : List Sect} {p : Int} {n k : Nat} {s : Sect}
theorem relaK_length (S : List Sect) : ∀ k, (relaK S k).length = S.length
  | 0 => by simp [relaK]
  | k + 1 => by
    have ih := relaK_length S k
    rcases hx : S[k]? with _ | x
    · simpa [relaK, hx] using ih
    · by_cases h4 : x.kind = 4
      · simpa [relaK, hx, h4] using ih
      · simpa [relaK, hx, h4] using ih
theorem relUp_next (h : S[k]? = some s) (h0 : relUp S p n k = 0) : relUp S p n (k + 1) = relE S.length p n (hadK S k) s := by simp [relUp, h, h0]
theorem relUp_stays {e : Int} (he : e ≠ 0) (h : relUp S p n k = e) : ∀ m, k ≤ m → relUp S p n m = e
  | 0, hm => by
    obtain rfl : k = 0 := by omega
    exact h
  | m + 1, hm => by
    rcases Nat.lt_or_ge m k with h1 | h1
    · obtain rfl : k = m + 1 := by omega
      exact h
    · have ih := relUp_stays he h m h1
      rw [relUp, if_pos (by rw [ih]; exact he), ih]
theorem rel_other (h : S[k]? = some s) (h0 : relUp S p n k = 0) (h9 : s.kind ≠ 9) (h4 : s.kind ≠ 4) : relUp S p n (k + 1) = 0 ∧ hadK S (k + 1) = hadK S k ∧ relaK S (k + 1) = relaK S k := by
  refine ⟨?_, ?_, ?_⟩
  · rw [relUp_next h h0, relE, if_neg h9, if_neg h4]
  · simp [hadK, h, h4]
  · simp [relaK, h, h4]
theorem rel_bad (h : S[k]? = some s) (h0 : relUp S p n k = 0) {e : Int} (he : e ≠ 0) (hE : relE S.length p n (hadK S k) s = e) : relUp S p n S.length = e :=
  relUp_stays he (by rw [relUp_next h h0, hE]) _ (by have := (List.getElem?_eq_some_iff.1 h).1; omega)
theorem relE_nine {N : Nat} {h : List Bool} (h9 : s.kind = 9) : relE N p n h s = 24 := by simp [relE, h9]
theorem relE_out {N : Nat} {h : List Bool} (h4 : s.kind = 4) (hb : p < 0 ∨ s.link ≠ p ∨ s.inf < 1 ∨ (N : Int) ≤ s.inf ∨ h[s.inf.toNat]? = some true) : relE N p n h s = 24 := by
  rw [relE, if_neg (by omega), if_pos h4, if_pos hb]
theorem relE_in {N : Nat} {h : List Bool} (h4 : s.kind = 4) (hb : ¬ (p < 0 ∨ s.link ≠ p ∨ s.inf < 1 ∨ (N : Int) ≤ s.inf ∨ h[s.inf.toNat]? = some true)) : relE N p n h s = relsE n s.data := by
  rw [relE, if_neg (by omega), if_pos h4, if_neg hb]
theorem rel_four_next (h : S[k]? = some s) (h0 : relUp S p n k = 0) (h4 : s.kind = 4) (hE : relE S.length p n (hadK S k) s = 0) : relUp S p n (k + 1) = 0 ∧ hadK S (k + 1) = (hadK S k).set s.inf.toNat true ∧ relaK S (k + 1) = (relaK S k).set s.inf.toNat (relsL s.data) := by
  refine ⟨by rw [relUp_next h h0, hE], ?_, ?_⟩
  · simp [hadK, h, h4]
  · simp [relaK, h, h4]
theorem relsE_not {d : List UInt8} (h : takeEY d.length (okR d) 24 ≠ 0) : relsE n d = takeEY d.length (okR d) 24 := if_pos h
theorem relsE_fit {d : List UInt8} (h : takeEY d.length (okR d) 24 = 0) : relsE n d = errOf (fitR (takeLY d.length (okR d) (relK d)) n) 24 := if_neg (by simp [h])

/-! ### Rows -/
theorem made_one (z : Value) (n : Nat) : (madeCells #[z] (n * 1)).toList = List.replicate n z := by
  apply List.ext_getElem
  · simp [madeCells]
  · intro i h1 h2
    simp [madeCells, Nat.mod_one]
/-- Relocations, with where they are. -/
structure RLay where
  a : Option Addr
  c : Nat
  l : List Rel
def RLay.val (x : RLay) : Value := .slice x.a x.l.length x.c
theorem bool_info1 : (Tryz.prog.info? 4).map (fun i => (i.zero, i.size, i.bytes)) = some (some (.bool false), 1, 1) := by kernel_rfl
theorem list_info1 : (Tryz.prog.info? 49).map (fun i => (i.zero, i.size, i.bytes)) = some (some (.slice none 0 0), 1, 24) := by kernel_rfl
abbrev RowBl (w : World) (base g N : Nat) (h : List Bool) : Prop := w.ownsRow base 4 1 (.slice (some ⟨g, 0, none⟩) N N) N (h.map Value.bool)
abbrev RowQ (w : World) (base g N : Nat) (Q : List RLay) : Prop := w.ownsRow base 49 1 (.slice (some ⟨g, 0, none⟩) N N) N (Q.map RLay.val)
/-- What goes along in the rounds: what was met, the relocations; nothing that was there has turned. -/
structure RelAt (w wr : World) (gm gr N : Nat) (h : List Bool) (Q : List RLay) : Prop where
  met : RowBl wr w.heap.size gm N h
  rel : RowQ wr w.heap.size gr N Q
  own : ∀ q ∈ Q, OwnR wr w.heap.size q.val q.l
  below : Below w.heap.size w wr
variable {w wr w' : World} {gm gr N : Nat} {h : List Bool} {Q : List RLay}
theorem RelAt.later (H : RelAt w wr gm gr N h Q) (hb : Below wr.heap.size wr w') : RelAt w w' gm gr N h Q :=
  ⟨row_below H.met hb, row_below H.rel hb, fun q hq => row_below (H.own q hq) hb, H.below.trans (hb.mono H.below.size)⟩
theorem RelAt.alloc (H : RelAt w wr gm gr N h Q) (o : Obj) : RelAt w (wr.alloc o) gm gr N h Q := H.later ((Below.refl _ _).alloc (Nat.le_refl _) o)
theorem row_lens {T : TypeId} {b n : Nat} {v : Value} {X : List Value} (H : w.ownsRow b T 1 v n X) : X.length = n := by have := H.1; simpa using this
theorem RelAt.lens (H : RelAt w wr gm gr N h Q) : h.length = N ∧ Q.length = N := ⟨by have := row_lens H.met; simpa using this, by have := row_lens H.rel; simpa using this⟩
theorem row_block {T : TypeId} {b n c g : Nat} {X : List Value} (H : w.ownsRow b T 1 (.slice (some ⟨g, 0, none⟩) n c) n X) : b ≤ g ∧ g < w.heap.size ∧ ∃ cs, Box w g T cs := by
  rcases H.2 with ⟨e, _⟩ | ⟨g', cap, cur, e, hb, hg, _⟩
  · cases e
  · injection e with e _ _
    injection e with e
    injection e with e _ _
    subst e
    exact ⟨hb, (Array.getElem?_eq_some_iff.1 hg).1, cur, hg⟩
theorem RelAt.apart (H : RelAt w wr gm gr N h Q) : gm ≠ gr := by
  obtain ⟨_, _, cs, h1⟩ := row_block H.met
  obtain ⟨_, _, cs', h2⟩ := row_block H.rel
  exact Box.other h1 h2 (by decide)
/-- Cells that may be read, and stored. -/
theorem RelAt.cell (H : RelAt w wr gm gr N h Q) {i : Nat} (hi : i < N) : (∃ b, h[i]? = some b ∧ wr.cell? ⟨gm, i, none⟩ = some (.bool b)) ∧ wr.frozen? ⟨gm, i, none⟩ = false ∧ (∃ v, wr.cell? ⟨gr, i, none⟩ = some v) ∧ wr.frozen? ⟨gr, i, none⟩ = false := by
  obtain ⟨l1, l2⟩ := H.lens
  have c1 := World.ownsRow.cellAt (g := gm) (cap := N) H.met i (by omega)
  have c2 := World.ownsRow.cellAt (g := gr) (cap := N) H.rel i (by omega)
  rw [List.getElem?_map] at c1 c2
  refine ⟨⟨h[i]'(by omega), List.getElem?_eq_getElem _, ?_⟩, World.ownsRow.frozenAt (g := gm) (cap := N) H.met i, ⟨(Q[i]'(by omega)).val, ?_⟩, World.ownsRow.frozenAt (g := gr) (cap := N) H.rel i⟩
  · rw [c1, List.getElem?_eq_getElem (by omega)]; rfl
  · rw [c2, List.getElem?_eq_getElem (by omega)]; rfl
/-- Relocations put at a place. -/
theorem RelAt.put (H : RelAt w wr gm gr N h Q) {q : RLay} (hq : OwnR wr w.heap.size q.val q.l) (i : Nat) : RelAt w ((wr.setCell ⟨gm, i, none⟩ (.bool true)).setCell ⟨gr, i, none⟩ q.val) gm gr N (h.set i true) (Q.set i q) := by
  have hB := H.below.size
  obtain ⟨s1, s2⟩ := World.ownsRow.stored H.met i (.bool true)
  have o1 : Only w.heap.size (CellsOf 4) wr _ := row_turns H.met s2 hB
  have r1 := row_only H.rel o1 (fun cs f hh => absurd (show 49 = 4 from hh) (by decide))
  obtain ⟨t1, t2⟩ := World.ownsRow.stored r1 i q.val
  have hB1 := Nat.le_trans hB o1.1.size
  have o2 : Only w.heap.size (CellsOf 49) _ _ := row_turns r1 t2 hB1
  have m2 := row_only s1 o2 (fun cs f hh => absurd (show 4 = 49 from hh) (by decide))
  have hown : ∀ (x : RLay), OwnR wr w.heap.size x.val x.l → OwnR ((wr.setCell ⟨gm, i, none⟩ (.bool true)).setCell ⟨gr, i, none⟩ q.val) w.heap.size x.val x.l := fun x hx =>
    row_only (row_only hx o1 (fun cs f hh => absurd (show 53 = 4 from hh) (by decide))) o2 (fun cs f hh => absurd (show 53 = 49 from hh) (by decide))
  refine ⟨?_, ?_, fun x hx => ?_, H.below.trans (o1.1.trans o2.1)⟩
  · rw [RowBl, List.map_set]; exact m2
  · rw [RowQ, List.map_set]; exact t1
  · rcases List.mem_or_eq_of_mem_set hx with hx | rfl
    · exact hown x (H.own x hx)
    · exact hown _ hq
/-- A row of rows of relocations of the call's own. -/
def OwnQ (w : World) (base : Nat) (v : Value) (R : List (List Rel)) : Prop := ∃ Q : List RLay, Q.map (·.l) = R ∧ w.ownsRow base 49 1 v Q.length (Q.map RLay.val) ∧ ∀ q ∈ Q, OwnR w base q.val q.l
theorem OwnQ.later {base : Nat} {v : Value} {R : List (List Rel)} (H : OwnQ w base v R) (hb : Below w.heap.size w w') : OwnQ w' base v R := by
  obtain ⟨Q, h1, h2, h3⟩ := H
  exact ⟨Q, h1, row_below h2 hb, fun q hq => row_below (h3 q hq) hb⟩
theorem OwnQ.base_ {base base' : Nat} {v : Value} {R : List (List Rel)} (H : OwnQ w base v R) (hb : base' ≤ base) : OwnQ w base' v R := by
  obtain ⟨Q, h1, h2, h3⟩ := H
  exact ⟨Q, h1, row_base h2 hb, fun q hq => row_base (h3 q hq) hb⟩

end Go.Proofs.YtldmjnbmjfnfeaaGreatDoor

namespace Go.Proofs.YtldmjnbmjfnfeaaGreatDoor
open Go Go.RowKit

/-- What the program's table tells of the place of the section of symbols. -/
def PlaceIs (t : Nat) (p : Int) : Prop := (t = 0 ∧ p = -1) ∨ (0 < t ∧ p = (t : Int))
/-- What takeRelas tells. -/
def TRel (S : List Sect) (p : Int) (n : Nat) (w : World) (r : Ending) (w' : World) : Prop :=
  ∃ u, r = .returned (.tuple #[u, .int .i64 (relUp S p n S.length)]) ∧ (relUp S p n S.length = 0 → OwnQ w' w.heap.size u (relaK S S.length)) ∧ Below w.heap.size w w'
theorem trel_bad {S : List Sect} {p : Int} {n : Nat} {w w' : World} {e : Int} (he : e ≠ 0) (hE : relUp S p n S.length = e) (hB : Below w.heap.size w w') : TRel S p n w (.returned (.tuple #[.slice none 0 0, .int .i64 e])) w' :=
  ⟨_, by rw [hE], fun h => absurd (hE.symm.trans h) he, hB⟩
theorem okR_bounds (d : List UInt8) : ∀ x ∈ relsL d, takeEY d.length (okR d) 24 = 0 → 0 ≤ x.sym ∧ x.sym ≤ 2147483647 ∧ 0 ≤ x.kind ∧ x.kind ≤ 2147483647 := by
  intro x hx he
  unfold relsL takeLY at hx
  unfold takeEY at he
  split at hx
  · cases hx
  · split at hx
    · cases hx
    · split at hx
      · rename_i h1 h2 h3
        obtain ⟨k, hk, rfl⟩ := List.mem_map.1 hx
        have := (List.all_eq_true.1 h3) k hk
        unfold okR at this
        simp only [Bool.and_eq_true, decide_eq_true_eq] at this
        unfold relK
        simp only
        omega
      · cases hx

set_option maxRecDepth 10000 in
set_option maxHeartbeats 6400000 in
theorem trelas_any {w : World} {a : Option Addr} {L : List Lay} (h : Secs w w.heap.size a L) (c : Nat) (hl : L.length ≤ 100000) (hnn : ∀ x ∈ L, 0 ≤ x.s.link ∧ 0 ≤ x.s.inf) (t n : Nat) (p : Int) (hp : PlaceIs t p) :
    Calls Tryz.prog 22 #[.slice a L.length c, .int .i64 (t : Int), .int .i64 (n : Int)] w (TRel (secsOf L) p n w) := by
  obtain ⟨i1, hj, hy0, hy1, hy2⟩ := info_parts list_info1
  obtain ⟨i2, hk, hx0, hx1, hx2⟩ := info_parts bool_info1
  have hsl : (secsOf L).length = L.length := by simp
  obtain ⟨N, hN⟩ : ∃ N, L.length = N := ⟨_, rfl⟩
  have HH := Lib.hid h
  have HN := Lib.hid hN
  have HNN := Lib.hid hnn
  have HSL := Lib.hid (hsl.trans hN)
  rw [hN] at hl ⊢
  have hm1 : i1.bytes * N ≤ 281474976710656 := by rw [hy2]; omega
  have hm2 : N ≤ maxLen := by unfold maxLen; omega
  have hm3 : i2.bytes * N ≤ 281474976710656 := by rw [hx2]; omega
  clear h hN hnn hsl
  go_enter Tryz.func22, Tryz.ntmps22
  go_wp2_with fail
  go_step3
  go_wp2_with (first
    | (at_make; refine wpList_make_full _ rfl _ _ 26 rfl w.heap.size 49 i1 _ 1 Tryz.underlying26 hj hy0 hy1 .i64 .i64 (N : Int) (N : Int) N rfl rfl rfl rfl hm1 hm2 (Nat.le_refl _) ?_; intro w1 hown1 hg1)
    | (at_make; refine wpList_make_full _ rfl _ _ 70 rfl w.heap.size 4 i2 _ 1 Tryz.underlying70 hk hx0 hx1 .i64 .i64 (N : Int) (N : Int) N rfl rfl rfl rfl hm3 hm2 hg1.size ?_; intro w2 hown2 hg2))
  go_step3
  go_wp2_with fail
  have hb1 : Below w.heap.size w w1 := below_of_only hg1 (Nat.le_refl _) (by simp)
  have hb2 : Below w1.heap.size w1 w2 := below_of_only hg2 (Nat.le_refl _) (by simp)
  have HA := Lib.hid (show RelAt w w2 w1.heap.size w.heap.size N (hadK (secsOf L) 0) (List.replicate N ⟨none, 0, []⟩) from
    ⟨by rw [show (Value.bool false).cells = #[Value.bool false] from rfl, made_one] at hown2; rw [RowBl, hadK, HSL.out, List.map_replicate]; exact hown2, by rw [show (Value.slice none 0 0).cells = #[Value.slice none 0 0] from rfl, made_one] at hown1; rw [RowQ, List.map_replicate]; exact row_below hown1 hb2, fun q hq => by rw [(List.mem_replicate.1 hq).2]; exact World.ownsRow_nil _ _ _ _, hb1.trans (hb2.mono hb1.size)⟩)
  have HQ := Lib.hid (show (List.replicate N (⟨none, 0, []⟩ : RLay)).map (·.l) = relaK (secsOf L) 0 by rw [List.map_replicate, relaK, HSL.out])
  have hgne := HA.out.apart
  clear hown1 hg1 hown2 hg2 hb1 hb2 hm1 hm2 hm3 hj hk hy0 hy1 hy2 hx0 hx1 hx2
  generalize w1.heap.size = gm at *
  go_loopw [22] (fun i wr => ∃ (k : Nat) (Q : List RLay), k ≤ N ∧ i = .int .i64 k ∧ RelAt w wr gm w.heap.size N (hadK (secsOf L) k) Q ∧ Hid (Q.map (·.l) = relaK (secsOf L) k) ∧ Hid (relUp (secsOf L) p n k = 0)) (fun i _ => N - (intOf i).toNat)
  case atStart => exact ⟨0, _, Nat.zero_le _, rfl, HA.out, HQ, Lib.hid rfl⟩
  case round =>
    obtain ⟨k, Q, hk, rfl, hR, HM, HU⟩ := hrel
    clear HA HQ
    have HR := Lib.hid hR
    have HB := Lib.hid hR.below
    by_cases hlt : k < N
    · obtain ⟨x, hx⟩ : ∃ x, L[k]? = some x := ⟨L[k]'(by rw [HN.out]; exact hlt), List.getElem?_eq_getElem _⟩
      have hokx := (HH.out.below hR.below).get hx
      obtain ⟨b, o, rfl, hb, c0, c1, c2, c3, c4, c5, c6, c7, c8⟩ := (HH.out.below hR.below).at_ hx
      have hgs := get_secsOf hx
      have hnn := HNN.out x (List.mem_of_getElem? hx)
      obtain ⟨lk, hlk⟩ : ∃ lk : Nat, x.s.link = (lk : Int) := ⟨x.s.link.toNat, by omega⟩
      obtain ⟨m, hm⟩ : ∃ m : Nat, x.s.inf = (m : Int) := ⟨x.s.inf.toNat, by omega⟩
      rw [hlk] at c5
      rw [hm] at c6
      have hHR := hR
      clear hR
      by_cases h9 : x.s.kind = 9
      · have q9 : (x.s.kind == 9) = true := by simp [h9]
        have HF := Lib.hid (rel_bad hgs HU.out (e := 24) (by decide) (relE_nine h9))
        clear hx hgs h9 hokx hHR hp hnn
        generalize x.A = dA at *
        generalize x.s.data.length = dn at *
        generalize x.c = dc at *
        generalize ByteArray.mk x.s.name.toArray = sb at *
        generalize x.s.kind = i1 at *
        go_wp2_with fail
        (try rw [Exit.noGoto_ret])
        go_ret2
        exact trel_bad (by decide) HF.out (below_alloc_any HB.out _)
      · have q9 : (x.s.kind == 9) = false := by simp [h9]
        by_cases h4 : x.s.kind = 4
        · have q4 : (x.s.kind == 4) = true := by simp [h4]
          by_cases e1 : t = 0
          · have r1 : (((t : Nat) : Int) == 0) = true := by simp [e1]
            have hp0 : p < 0 := by rcases hp with ⟨_, h⟩ | ⟨h, _⟩ <;> omega
            have HF := Lib.hid (rel_bad hgs HU.out (e := 24) (by decide) (relE_out h4 (.inl hp0)))
            clear hx hgs h4 h9 hokx hHR hp hnn
            generalize x.A = dA at *
            generalize x.s.data.length = dn at *
            generalize x.c = dc at *
            generalize ByteArray.mk x.s.name.toArray = sb at *
            generalize x.s.kind = i1 at *
            go_wp2_with fail
            (try rw [Exit.noGoto_ret])
            go_ret2
            exact trel_bad (by decide) HF.out (below_alloc_any HB.out _)
          · have r1 : (((t : Nat) : Int) == 0) = false := by simp [e1]
            have hpt : p = (t : Int) := by rcases hp with ⟨h, _⟩ | ⟨_, h⟩ <;> omega
            by_cases e2 : lk = t
            · have r2 : ((lk : Int) != (t : Int)) = false := by simp [e2]
              subst e2
              by_cases e3 : m = 0
              · have r3 : ((m : Int) == 0) = true := by simp [e3]
                have hbd : x.s.inf < 1 := by omega
                have HF := Lib.hid (rel_bad hgs HU.out (e := 24) (by decide) (relE_out h4 (.inr (.inr (.inl hbd)))))
                clear hx hgs h4 h9 hokx hHR hp hnn
                generalize x.A = dA at *
                generalize x.s.data.length = dn at *
                generalize x.c = dc at *
                generalize ByteArray.mk x.s.name.toArray = sb at *
                generalize x.s.kind = i1 at *
                go_wp2_with fail
                (try rw [Exit.noGoto_ret])
                go_ret2
                exact trel_bad (by decide) HF.out (below_alloc_any HB.out _)
              · have r3 : ((m : Int) == 0) = false := by simp [e3]
                by_cases e4 : N ≤ m
                · have r4 : decide ((N : Int) ≤ (m : Int)) = true := decide_eq_true (by omega)
                  have hbd : ((secsOf L).length : Int) ≤ x.s.inf := by rw [HSL.out, hm]; omega
                  have HF := Lib.hid (rel_bad hgs HU.out (e := 24) (by decide) (relE_out h4 (.inr (.inr (.inr (.inl hbd))))))
                  clear hx hgs h4 h9 hokx hHR hp hnn
                  generalize x.A = dA at *
                  generalize x.s.data.length = dn at *
                  generalize x.c = dc at *
                  generalize ByteArray.mk x.s.name.toArray = sb at *
                  generalize x.s.kind = i1 at *
                  go_wp2_with fail
                  (try rw [Exit.noGoto_ret])
                  go_ret2
                  exact trel_bad (by decide) HF.out (below_alloc_any HB.out _)
                · have r4 : decide ((N : Int) ≤ (m : Int)) = false := decide_eq_false (by omega)
                  have hmN : m < N := by omega
                  have hnm : ¬ N ≤ m := e4
                  have hmt : x.s.inf.toNat = m := by omega
                  obtain ⟨⟨bm, hbm, d1⟩, -, -, -⟩ := hHR.cell hmN
                  have hEg : wr.heap.size ≠ gm := by have := (row_block hHR.met).2.1; omega
                  have hEr : wr.heap.size ≠ w.heap.size := by have := (row_block hHR.rel).2.1; omega
                  have d2 : (wr.alloc (.cells #[.string ⟨x.s.name.toArray⟩, .int .i64 x.s.kind, .int .u64 (x.s.flags : Int), .int .u64 (x.s.addr : Int), .slice x.A x.s.data.length x.c, .int .i64 (lk : Int), .int .i64 (m : Int), .int .i64 x.s.algn, .int .i64 x.s.ent] 39)).cell? ⟨gm, m, none⟩ = some (.bool bm) := by
                    rw [((Below.refl wr.heap.size wr).alloc (Nat.le_refl _) _).cell (p := ⟨gm, m, none⟩) (by have := (row_block hHR.met).2.1; exact this)]
                    exact d1
                  clear d1
                  cases bm with
                  | true =>
                    have hbd : (hadK (secsOf L) k)[x.s.inf.toNat]? = some true := by rw [hmt]; exact hbm
                    have HF := Lib.hid (rel_bad hgs HU.out (e := 24) (by decide) (relE_out h4 (.inr (.inr (.inr (.inr hbd))))))
                    clear hbd hbm hx hgs h4 h9 hokx hHR hp hnn
                    generalize x.A = dA at *
                    generalize x.s.data.length = dn at *
                    generalize x.c = dc at *
                    generalize ByteArray.mk x.s.name.toArray = sb at *
                    generalize x.s.kind = i1 at *
                    go_wp2_with fail
                    (try rw [Exit.noGoto_ret])
                    go_ret2
                    exact trel_bad (by decide) HF.out (below_alloc_any HB.out _)
                  | false =>
                    have hbn : ¬ (p < 0 ∨ x.s.link ≠ p ∨ x.s.inf < 1 ∨ ((secsOf L).length : Int) ≤ x.s.inf ∨ (hadK (secsOf L) k)[x.s.inf.toNat]? = some true) := by
                      rintro (h | h | h | h | h)
                      · omega
                      · omega
                      · omega
                      · rw [HSL.out, hm] at h; omega
                      · rw [hmt, hbm] at h; cases h
                    have hE := relE_in (n := n) h4 hbn
                    have hR1 := hHR.alloc (.cells #[.string ⟨x.s.name.toArray⟩, .int .i64 x.s.kind, .int .u64 (x.s.flags : Int), .int .u64 (x.s.addr : Int), .slice x.A x.s.data.length x.c, .int .i64 (lk : Int), .int .i64 (m : Int), .int .i64 x.s.algn, .int .i64 x.s.ent] 39)
                    have hEc : (wr.alloc (.cells #[.string ⟨x.s.name.toArray⟩, .int .i64 x.s.kind, .int .u64 (x.s.flags : Int), .int .u64 (x.s.addr : Int), .slice x.A x.s.data.length x.c, .int .i64 (lk : Int), .int .i64 (m : Int), .int .i64 x.s.algn, .int .i64 x.s.ent] 39)).cell? ⟨wr.heap.size, 6, none⟩ = some (.int .i64 (m : Int)) := (Box.new wr 39 #[.string ⟨x.s.name.toArray⟩, .int .i64 x.s.kind, .int .u64 (x.s.flags : Int), .int .u64 (x.s.addr : Int), .slice x.A x.s.data.length x.c, .int .i64 (lk : Int), .int .i64 (m : Int), .int .i64 x.s.algn, .int .i64 x.s.ent]).cell 6
                    have hbE : Below wr.heap.size wr (wr.alloc (.cells #[.string ⟨x.s.name.toArray⟩, .int .i64 x.s.kind, .int .u64 (x.s.flags : Int), .int .u64 (x.s.addr : Int), .slice x.A x.s.data.length x.c, .int .i64 (lk : Int), .int .i64 (m : Int), .int .i64 x.s.algn, .int .i64 x.s.ent] 39)) := (Below.refl _ _).alloc (Nat.le_refl _) _
                    have HT := Lib.hid (yrel_any ((hokx.rd.more hHR.below.size).below hbE |>.more hbE.size) x.c (by have := hokx.fits.data; omega))
                    have HP := Lib.hid (fun W A (c' : Nat) (hS : Rels W W.heap.size A (relsL x.s.data)) => fit_any hS c' (by have := takeLY_length x.s.data.length (okR x.s.data) (relK x.s.data); unfold relsL; omega) n)
                    have HBAD := Lib.hid (fun (e : Int) (he : e ≠ 0) (h : relsE n x.s.data = e) => rel_bad hgs HU.out he (hE.trans h))
                    have HNX := Lib.hid (fun (h : relsE n x.s.data = 0) => rel_four_next hgs HU.out h4 (hE.trans h))
                    have HNE := Lib.hid (@relsE_not n x.s.data)
                    have HFE := Lib.hid (@relsE_fit n x.s.data)
                    have HR1 := Lib.hid hR1
                    rw [hmt] at HNX
                    rw [show takeLY x.s.data.length (okR x.s.data) (relK x.s.data) = relsL x.s.data from rfl] at HT HFE
                    clear hbn hE hR1 hx hgs h4 h9 hokx hHR hp hnn hbE hbm hmt e3
                    generalize relsE n x.s.data = re at *
                    generalize takeEY x.s.data.length (okR x.s.data) 24 = te at *
                    generalize relsL x.s.data = tl at *
                    generalize x.A = dA at *
                    generalize x.s.data.length = dn at *
                    generalize x.c = dc at *
                    generalize ByteArray.mk x.s.name.toArray = sb at *
                    generalize x.s.kind = i1 at *
                    by_cases hte : te = 0
                    · have q0 : (te != 0) = false := by simp [hte]
                      have HF0 := Lib.hid (HFE.out hte)
                      clear HNE HFE hte
                      cases hft : fitR tl n with
                      | false =>
                        have HF := Lib.hid (HBAD.out 24 (by decide) (by rw [HF0.out, hft]; rfl))
                        clear HBAD HNX HF0
                        go_wp2_with (first
                          | (go_at_call 51; refine HT.out.mono ?_; rintro r w2 ⟨u, rfl, hO2, hb2⟩; have HB2 := Lib.hid (HR1.out.below.trans (hb2.mono HR1.out.below.size)); (obtain ⟨A2, cl, rfl, hcl, hm2', hS2⟩ := own_row rel_four hO2); have HP2 := Lib.hid (HP.out w2 A2 cl hS2); clear hO2 hb2 hS2 HP HT)
                          | (go_at_call 44; refine HP2.out.mono ?_; rintro r w3 ⟨rfl, hb3⟩; have HB3 := Lib.hid (HB2.out.trans (hb3.mono HB2.out.size)); clear hb3))
                        (try rw [Exit.noGoto_ret])
                        go_ret2
                        exact trel_bad (by decide) HF.out HB3.out
                      | true =>
                        have HF := Lib.hid (HNX.out (by rw [HF0.out, hft]; rfl))
                        clear HBAD HNX HF0
                        go_wp2_with (first
                          | (go_at_call 51; refine HT.out.mono ?_; rintro r w2 ⟨u, rfl, hO2, hb2⟩; have HR2 := Lib.hid (HR1.out.later hb2); have HE2 := Lib.hid ((hb2.cell (p := ⟨wr.heap.size, 6, none⟩) (by simp)).trans hEc); (obtain ⟨A2, cl, rfl, hcl, hm2', hS2⟩ := own_row rel_four hO2); have HO2 := Lib.hid hO2; have HP2 := Lib.hid (HP.out w2 A2 cl hS2); have HZ2 := Lib.hid (show wr.heap.size < w2.heap.size from Nat.lt_of_lt_of_le (by simp) hb2.size); clear hO2 hb2 hS2 HP HT hEc)
                          | (go_at_call 44; refine HP2.out.mono ?_; rintro r w3 ⟨rfl, hb3⟩; have HR3 := Lib.hid (HR2.out.later hb3); have hE3 := (hb3.cell (p := ⟨wr.heap.size, 6, none⟩) HZ2.out).trans HE2.out; have HO3 := Lib.hid (row_below HO2.out hb3); clear hb3))
                        clear c0 c1 c2 c3 c4 c5 c6 c7 c8 d2
                        obtain ⟨⟨bx, _, g1⟩, z1, ⟨y2, g2⟩, z2⟩ := HR3.out.cell hmN
                        have hgne' : w.heap.size ≠ gm := fun e => hgne e.symm
                        have hEg' : gm ≠ wr.heap.size := fun e => hEg e.symm
                        have hEr' : w.heap.size ≠ wr.heap.size := fun e => hEr e.symm
                        have hi1 : (0 : Int) ≤ (m : Int) := by omega
                        have hi2 : (m : Int) < (N : Int) := by omega
                        go_region_held_law (fun W => W.cell? ⟨wr.heap.size, 6, none⟩ = some (.int .i64 (m : Int))) (go_keep) (fail)
                        have HRF := Lib.hid ((HR3.out.put (q := ⟨A2, cl, tl⟩) (row_base HO3.out (by have := HB.out.size; simp; omega)) m).later (Below.refl _ _).drew)
                        rw [show RLay.val ⟨A2, cl, tl⟩ = .slice A2 tl.length cl from rfl] at HRF
                        clear g1 z1 g2 z2
                        go_wp2_with fail
                        go_roundw
                        case rel => exact ⟨k + 1, Q.set m ⟨A2, cl, tl⟩, by omega, by go_num, by rw [HF.out.2.1]; exact HRF.out, Lib.hid (by rw [HF.out.2.2, ← HM.out, List.map_set]), Lib.hid HF.out.1⟩
                        case measure => simp [intOf]; omega
                    · have q0 : (te != 0) = true := by simp [hte]
                      have HF := Lib.hid (HBAD.out te hte (HNE.out hte))
                      clear HBAD HNX HNE HFE
                      go_wp2_with (go_at_call 51; refine HT.out.mono ?_; rintro r w2 ⟨u, rfl, hO2, hb2⟩; have HB2 := Lib.hid (HR1.out.below.trans (hb2.mono HR1.out.below.size)); clear hO2 hb2)
                      (try rw [Exit.noGoto_ret])
                      go_ret2
                      exact trel_bad hte HF.out HB2.out
            · have r2 : ((lk : Int) != (t : Int)) = true := bne_iff_ne.2 (by omega)
              have hbd : x.s.link ≠ p := by omega
              have HF := Lib.hid (rel_bad hgs HU.out (e := 24) (by decide) (relE_out h4 (.inr (.inl hbd))))
              clear hx hgs h4 h9 hokx hHR hp hnn
              generalize x.A = dA at *
              generalize x.s.data.length = dn at *
              generalize x.c = dc at *
              generalize ByteArray.mk x.s.name.toArray = sb at *
              generalize x.s.kind = i1 at *
              go_wp2_with fail
              (try rw [Exit.noGoto_ret])
              go_ret2
              exact trel_bad (by decide) HF.out (below_alloc_any HB.out _)
        · have q4 : (x.s.kind == 4) = false := by simp [h4]
          have HF := Lib.hid (rel_other hgs HU.out h9 h4)
          have HR1 := Lib.hid (HR.out.alloc (.cells #[.string ⟨x.s.name.toArray⟩, .int .i64 x.s.kind, .int .u64 (x.s.flags : Int), .int .u64 (x.s.addr : Int), .slice x.A x.s.data.length x.c, .int .i64 (lk : Int), .int .i64 (m : Int), .int .i64 x.s.algn, .int .i64 x.s.ent] 39))
          clear hx hgs h9 h4 hokx hHR hp hnn
          generalize x.A = dA at *
          generalize x.s.data.length = dn at *
          generalize x.c = dc at *
          generalize ByteArray.mk x.s.name.toArray = sb at *
          generalize x.s.kind = i1 at *
          go_wp2_with fail
          go_roundw
          case rel => exact ⟨k + 1, Q, by omega, by go_num, by rw [HF.out.2.1]; exact HR1.out, Lib.hid (by rw [HF.out.2.2]; exact HM.out), Lib.hid HF.out.1⟩
          case measure => simp [intOf]; omega
    · have hkn : k = N := by omega
      subst hkn
      have hlen := hR.lens.2
      have HO := Lib.hid (show OwnQ wr w.heap.size (.slice (some ⟨w.heap.size, 0, none⟩) k k) (relaK (secsOf L) (secsOf L).length) from ⟨Q, by rw [HSL.out]; exact HM.out, by rw [hlen]; exact hR.rel, hR.own⟩)
      have HF := Lib.hid (show relUp (secsOf L) p n (secsOf L).length = 0 by rw [HSL.out]; exact HU.out)
      clear hR hlen
      go_wp2_with fail
      (try rw [Exit.noGoto_ret])
      go_ret2
      exact ⟨_, by rw [HF.out]; rfl, fun _ => HO.out, HB.out⟩

end Go.Proofs.YtldmjnbmjfnfeaaGreatDoor

namespace Go.Proofs.YtldmjnbmjfnfeaaGreatDoor
open Go Go.RowKit

/-! ### An entry's numbers, read -/
/-- What an entry of a file of some size is refused with. -/
def entE (ns : List Nat) (size : Nat) : Int :=
  match ns with
  | [_, kd, _, _, pl, sz, lk, inf, al, ec] => if smallN [lk, inf, al, ec, kd] = true then (if kd = 0 then 0 else if kd ≠ 8 ∧ size < pl + sz then 22 else if 65536 < sz then 3 else 0) else 22
  | _ => 0
/-- An entry's bytes in a file. -/
def dataT (l : List UInt8) (ns : List Nat) : List UInt8 :=
  match ns with
  | [_, kd, _, _, pl, sz, _, _, _, _] => if kd = 0 then [] else if kd = 8 then List.replicate sz 0 else (l.drop pl).take sz
  | _ => []

/-- An entry in memory. -/
def EntAt (w : World) (g o : Nat) (ns : List Nat) : Prop := ns.length = 10 ∧ ∀ (j x : Nat), ns[j]? = some x → w.cell? ⟨g, o + j, none⟩ = some (.int .u64 (x : Int))
theorem EntAt.below {w w' : World} {g o B : Nat} {ns : List Nat} (h : EntAt w g o ns) (hb : Below B w w') (hg : g < B) : EntAt w' g o ns :=
  ⟨h.1, fun j x hx => by rw [hb.cell (p := ⟨g, o + j, none⟩) hg]; exact h.2 j x hx⟩
theorem EntAt.lt {w : World} {g o : Nat} {ns : List Nat} (h : EntAt w g o ns) : g < w.heap.size := by
  have h0 : ns[0]? = some (ns[0]'(by rw [h.1]; decide)) := List.getElem?_eq_getElem _
  exact World.block_lt_of_cell? w _ (h.2 0 _ h0)

theorem wrap_len (n : Nat) (h : n ≤ 140737488355328) : IntKind.u64.wrap (n : Int) = (n : Int) := by rw [IntWalk.u64_in _ (by omega)]

theorem small5b (a b c d e : Nat) (w : World) (g : Nat) (hB : Box w g 37 #[.int .u64 (a : Int), .int .u64 (b : Int), .int .u64 (c : Int), .int .u64 (d : Int), .int .u64 (e : Int)]) : Calls Tryz.prog 122 #[.slice (some ⟨g, 0, none⟩) 5 5] w fun r w' => r = .returned (.bool (smallN [a, b, c, d, e])) ∧ w = w' :=
  small_nat [a, b, c, d, e] _ _ 5 (fun i n hi => by
    rw [hB.cell i]
    have : (#[Value.int .u64 (a : Int), .int .u64 (b : Int), .int .u64 (c : Int), .int .u64 (d : Int), .int .u64 (e : Int)])[i]? = ([a, b, c, d, e][i]?).map (fun n => Value.int .u64 ((n : Nat) : Int)) := by
      rw [← List.getElem?_map]; simp
    rw [this, hi]
    rfl) (by simp)

set_option maxRecDepth 10000 in
set_option maxHeartbeats 1600000 in
theorem refusal_at {w : World} {g o : Nat} {ns : List Nat} (h : EntAt w g o ns) (hn : ∀ x ∈ ns, x < two64) (size : Nat) (hs : size ≤ 140737488355328) :
    Calls Tryz.prog 88 #[.pointer (some ⟨g, o, none⟩), .int .i64 (size : Int)] w fun r w' => r = .returned (.int .i64 (entE ns size)) ∧ Below w.heap.size w w' := by
  have hg := h.lt
  obtain ⟨hl, hc⟩ := h
  match ns, hl with
  | [nm, kd, fl, ad, pl, sz, lk, inf, al, ec], _ =>
  have c1 := hc 1 kd rfl
  have c4 := hc 4 pl rfl
  have c5 := hc 5 sz rfl
  have c6 := hc 6 lk rfl
  have c7 := hc 7 inf rfl
  have c8 := hc 8 al rfl
  have c9 := hc 9 ec rfl
  have HE := Lib.hid (show entE [nm, kd, fl, ad, pl, sz, lk, inf, al, ec] size = if smallN [lk, inf, al, ec, kd] = true then (if kd = 0 then 0 else if kd ≠ 8 ∧ size < pl + sz then 22 else if 65536 < sz then 3 else 0) else 22 from rfl)
  have HS := Lib.hid (fun W q hq => small5b lk inf al ec kd W q hq)
  have hpl : pl < two64 := hn pl (by simp)
  have hsz : sz < two64 := hn sz (by simp)
  have HW := Lib.hid (fun W => within_any pl sz size W hpl hsz)
  rw [within_iff pl sz size (by unfold two64; omega)] at HW
  have hwr := wrap_len size hs
  have KS := Lib.hid (fun (W : World) (hW : Below w.heap.size w W) => (⟨by rw [hW.cell (p := ⟨g, o + 6, none⟩) hg]; exact c6, by rw [hW.cell (p := ⟨g, o + 7, none⟩) hg]; exact c7, by rw [hW.cell (p := ⟨g, o + 8, none⟩) hg]; exact c8, by rw [hW.cell (p := ⟨g, o + 9, none⟩) hg]; exact c9, by rw [hW.cell (p := ⟨g, o + 1, none⟩) hg]; exact c1, by rw [hW.cell (p := ⟨g, o + 4, none⟩) hg]; exact c4, by rw [hW.cell (p := ⟨g, o + 5, none⟩) hg]; exact c5⟩ :
    W.cell? ⟨g, o + 6, none⟩ = some (.int .u64 (lk : Int)) ∧ W.cell? ⟨g, o + 7, none⟩ = some (.int .u64 (inf : Int)) ∧ W.cell? ⟨g, o + 8, none⟩ = some (.int .u64 (al : Int)) ∧ W.cell? ⟨g, o + 9, none⟩ = some (.int .u64 (ec : Int)) ∧ W.cell? ⟨g, o + 1, none⟩ = some (.int .u64 (kd : Int)) ∧ W.cell? ⟨g, o + 4, none⟩ = some (.int .u64 (pl : Int)) ∧ W.cell? ⟨g, o + 5, none⟩ = some (.int .u64 (sz : Int))))
  clear hc hn hpl hsz hs
  generalize entE [nm, kd, fl, ad, pl, sz, lk, inf, al, ec] size = ev at *
  generalize hsm : smallN [lk, inf, al, ec, kd] = sm at *
  clear hsm
  have hb0 : Below w.heap.size w w.drew := (Below.refl _ _).drew
  go_enter Tryz.func88, Tryz.ntmps88
  go_wp2_with fail
  cases sm with
  | false =>
    go_region_held_law (fun W => W.cell? ⟨g, o + 6, none⟩ = some (.int .u64 (lk : Int)) ∧ W.cell? ⟨g, o + 7, none⟩ = some (.int .u64 (inf : Int)) ∧ W.cell? ⟨g, o + 8, none⟩ = some (.int .u64 (al : Int)) ∧ W.cell? ⟨g, o + 9, none⟩ = some (.int .u64 (ec : Int)) ∧ W.cell? ⟨g, o + 1, none⟩ = some (.int .u64 (kd : Int)) ∧ W.cell? ⟨g, o + 4, none⟩ = some (.int .u64 (pl : Int)) ∧ W.cell? ⟨g, o + 5, none⟩ = some (.int .u64 (sz : Int)))
      ((refine KS.out _ ?_; go_grown))
      (first | (go_at_call 122; refine (HS.out _ _ (by exact Box.new w _ _)).mono ?_; rintro r w1 ⟨rfl, hw1⟩; subst hw1))
    have HF := Lib.hid (show ev = 22 by rw [HE.out]; rfl)
    all_goals go_wp2_with fail
    all_goals go_ret
    all_goals exact ⟨by rw [HF.out]; rfl, by go_grown⟩
  | true =>
    rw [if_pos (show (true : Bool) = true from rfl)] at HE
    go_region_held_law (fun W => W.cell? ⟨g, o + 6, none⟩ = some (.int .u64 (lk : Int)) ∧ W.cell? ⟨g, o + 7, none⟩ = some (.int .u64 (inf : Int)) ∧ W.cell? ⟨g, o + 8, none⟩ = some (.int .u64 (al : Int)) ∧ W.cell? ⟨g, o + 9, none⟩ = some (.int .u64 (ec : Int)) ∧ W.cell? ⟨g, o + 1, none⟩ = some (.int .u64 (kd : Int)) ∧ W.cell? ⟨g, o + 4, none⟩ = some (.int .u64 (pl : Int)) ∧ W.cell? ⟨g, o + 5, none⟩ = some (.int .u64 (sz : Int)))
      ((refine KS.out _ ?_; go_grown))
      (first | (go_at_call 122; refine (HS.out _ _ (by exact Box.new w _ _)).mono ?_; rintro r w1 ⟨rfl, hw1⟩; subst hw1))
    rename_i hHeld
    obtain ⟨-, -, -, -, k1, k4, k5⟩ := hHeld
    have hHB : Below w.heap.size w (w.alloc (.cells #[.int .u64 (lk : Int), .int .u64 (inf : Int), .int .u64 (al : Int), .int .u64 (ec : Int), .int .u64 (kd : Int)] 37)).drew := by go_grown
    generalize (w.alloc (.cells #[.int .u64 (lk : Int), .int .u64 (inf : Int), .int .u64 (al : Int), .int .u64 (ec : Int), .int .u64 (kd : Int)] 37)).drew = w1 at *
    have HB := Lib.hid hHB
    clear KS HS hHB hb0 c1 c4 c5 c6 c7 c8 c9
    by_cases h0 : kd = 0
    · have HF := Lib.hid (show ev = 0 by rw [HE.out, if_pos h0])
      have q0 : ((kd : Int) == 0) = true := by simp [h0]
      clear h0 HE
      go_wp2_with fail
      go_ret
      exact ⟨by rw [HF.out]; rfl, HB.out⟩
    · have q0 : ((kd : Int) == 0) = false := by simpa using h0
      rw [if_neg h0] at HE
      clear h0
      by_cases h8 : kd = 8
      · have q8 : ((kd : Int) != 8) = false := by simp [h8]
        have q9 : ((kd : Int) == 8) = true := by simp [h8]
        rw [if_neg (show ¬ (kd ≠ 8 ∧ size < pl + sz) by simp [h8])] at HE
        clear h8 HW
        by_cases hz : 65536 < sz
        · have HF := Lib.hid (show ev = 3 by rw [HE.out, if_pos hz])
          have hd : decide ((65536 : Int) < (sz : Int)) = true := decide_eq_true (by omega)
          clear hz HE
          go_wp2_with fail
          go_quiet (fail)
          go_wp2_with fail
          go_ret
          exact ⟨by rw [HF.out]; rfl, below_drewN HB.out _⟩
        · have HF := Lib.hid (show ev = 0 by rw [HE.out, if_neg hz])
          have hd : decide ((65536 : Int) < (sz : Int)) = false := decide_eq_false (by omega)
          clear hz HE
          go_wp2_with fail
          go_quiet (fail)
          go_wp2_with fail
          go_ret
          exact ⟨by rw [HF.out]; rfl, below_drewN HB.out _⟩
      · have q8 : ((kd : Int) != 8) = true := by simp; omega
        have q9 : ((kd : Int) == 8) = false := by simp; omega
        have hW1 := HW.out w1.drew
        by_cases hin : pl + sz ≤ size
        · rw [decide_eq_true hin] at HW
          rw [if_neg (show ¬ (kd ≠ 8 ∧ size < pl + sz) by omega)] at HE
          clear h8 hin hW1
          have kk : (fun W => W.cell? ⟨g, o + 1, none⟩ = some (.int .u64 (kd : Int)) ∧ W.cell? ⟨g, o + 4, none⟩ = some (.int .u64 (pl : Int)) ∧ W.cell? ⟨g, o + 5, none⟩ = some (.int .u64 (sz : Int))) w1 := ⟨k1, k4, k5⟩
          by_cases hz : 65536 < sz
          · have HF := Lib.hid (show ev = 3 by rw [HE.out, if_pos hz])
            have hd : decide ((65536 : Int) < (sz : Int)) = true := decide_eq_true (by omega)
            clear hz HE
            go_wp2_with fail
            go_region_held_law (fun W => W.cell? ⟨g, o + 1, none⟩ = some (.int .u64 (kd : Int)) ∧ W.cell? ⟨g, o + 4, none⟩ = some (.int .u64 (pl : Int)) ∧ W.cell? ⟨g, o + 5, none⟩ = some (.int .u64 (sz : Int))) (exact kk)
              (first | (go_at_call 110; refine (HW.out _).mono ?_; rintro r w2 ⟨rfl, hw2⟩; subst hw2))
            all_goals go_wp2_with fail
            all_goals go_ret
            all_goals exact ⟨by rw [HF.out]; rfl, by have := HB.out; go_grown⟩
          · have HF := Lib.hid (show ev = 0 by rw [HE.out, if_neg hz])
            have hd : decide ((65536 : Int) < (sz : Int)) = false := decide_eq_false (by omega)
            clear hz HE
            go_wp2_with fail
            go_region_held_law (fun W => W.cell? ⟨g, o + 1, none⟩ = some (.int .u64 (kd : Int)) ∧ W.cell? ⟨g, o + 4, none⟩ = some (.int .u64 (pl : Int)) ∧ W.cell? ⟨g, o + 5, none⟩ = some (.int .u64 (sz : Int))) (exact kk)
              (first | (go_at_call 110; refine (HW.out _).mono ?_; rintro r w2 ⟨rfl, hw2⟩; subst hw2))
            all_goals go_wp2_with fail
            all_goals go_ret
            all_goals exact ⟨by rw [HF.out]; rfl, by have := HB.out; go_grown⟩
        · have HF := Lib.hid (show ev = 22 by rw [HE.out, if_pos ⟨h8, by omega⟩])
          rw [decide_eq_false hin] at HW
          clear h8 hin hW1 HE
          have kk : (fun W => W.cell? ⟨g, o + 1, none⟩ = some (.int .u64 (kd : Int)) ∧ W.cell? ⟨g, o + 4, none⟩ = some (.int .u64 (pl : Int)) ∧ W.cell? ⟨g, o + 5, none⟩ = some (.int .u64 (sz : Int))) w1 := ⟨k1, k4, k5⟩
          go_wp2_with fail
          go_region_held_law (fun W => W.cell? ⟨g, o + 1, none⟩ = some (.int .u64 (kd : Int)) ∧ W.cell? ⟨g, o + 4, none⟩ = some (.int .u64 (pl : Int)) ∧ W.cell? ⟨g, o + 5, none⟩ = some (.int .u64 (sz : Int))) (exact kk)
            (first | (go_at_call 110; refine (HW.out _).mono ?_; rintro r w2 ⟨rfl, hw2⟩; subst hw2))
          all_goals go_wp2_with fail
          all_goals go_ret
          all_goals exact ⟨by rw [HF.out]; rfl, by have := HB.out; go_grown⟩

end Go.Proofs.YtldmjnbmjfnfeaaGreatDoor
