/-
  The document's section of an entry.
-/

import Derived.Test.YtpdjpafchfbabaaDoorSeU
import Derived.Test.YtpdjpafchfbabaaDoorSeV
import Derived.Test.YtpdjpafchfbabaaDoorLawA
namespace Go.Proofs.YtpdjpafchfbabaaDoor
open Go Go.RowKit

/-- An entry's section, without its name. -/
def sectZ (l : List UInt8) (ns : List Nat) : Sect :=
  ⟨[], (kindN ns : Int), ns.getD 2 0, ns.getD 3 0, dataT l ns, (ns.getD 6 0 : Int), (ns.getD 7 0 : Int), (ns.getD 8 0 : Int), (ns.getD 9 0 : Int)⟩
/-- What the document's section tells. -/
def SecIs (B : Nat) (l : List UInt8) (ns : List Nat) (w : World) (r : Ending) (w' : World) : Prop :=
  ∃ y : Lay, r = .returned (.tuple #[y.val, .int .i64 (entE ns l.length)]) ∧ (entE ns l.length = 0 → y.s = sectZ l ns ∧ (Rd w B y.A y.s.data ∨ Own w' w.heap.size y.dv y.s.data) ∧ y.s.data.length ≤ y.c ∧ y.c ≤ maxLen) ∧ Below w.heap.size w w'

theorem nine_box {W : World} {H : Nat} {T : TypeId} {cs : Array Value} (h : Box W H T cs) (hs : cs.size = 9) (v0 v1 v2 v3 v4 v5 v6 v7 v8 : Value) :
    Box (((((((((W.setCell ⟨H, 0, none⟩ v0).setCell ⟨H, 1, none⟩ v1).setCell ⟨H, 2, none⟩ v2).setCell ⟨H, 3, none⟩ v3).setCell ⟨H, 4, none⟩ v4).setCell ⟨H, 5, none⟩ v5).setCell ⟨H, 6, none⟩ v6).setCell ⟨H, 7, none⟩ v7).setCell ⟨H, 8, none⟩ v8) H T #[v0, v1, v2, v3, v4, v5, v6, v7, v8] := by
  obtain ⟨l⟩ := cs
  match l, hs with
  | [c0, c1, c2, c3, c4, c5, c6, c7, c8], _ =>
    simpa using ((((((((h.set 0 v0).set 1 v1).set 2 v2).set 3 v3).set 4 v4).set 5 v5).set 6 v6).set 7 v7).set 8 v8
theorem nine_below {B : Nat} {W0 W : World} {H : Nat} (h : Below B W0 W) (hH : B ≤ H) (v0 v1 v2 v3 v4 v5 v6 v7 v8 : Value) :
    Below B W0 (((((((((W.setCell ⟨H, 0, none⟩ v0).setCell ⟨H, 1, none⟩ v1).setCell ⟨H, 2, none⟩ v2).setCell ⟨H, 3, none⟩ v3).setCell ⟨H, 4, none⟩ v4).setCell ⟨H, 5, none⟩ v5).setCell ⟨H, 6, none⟩ v6).setCell ⟨H, 7, none⟩ v7).setCell ⟨H, 8, none⟩ v8) :=
  ((((((((h.setCell hH _).setCell hH _).setCell hH _).setCell hH _).setCell hH _).setCell hH _).setCell hH _).setCell hH _).setCell hH _

theorem box_keep {w : World} {k : Nat} {t : TypeId} {cs : Array Value} (h : Box w k t cs) (o : Obj) : Box (w.alloc o) k t cs := h.below ((Below.refl w.heap.size w).alloc (Nat.le_refl _) o) h.lt
theorem nine_cells {W : World} {H : Nat} {T : TypeId} {c0 c1 c2 c3 c4 c5 c6 c7 c8 : Value} (h : Box W H T #[c0, c1, c2, c3, c4, c5, c6, c7, c8]) : W.cell? ⟨H, 0, none⟩ = some c0 ∧ W.cell? ⟨H, 1, none⟩ = some c1 ∧ W.cell? ⟨H, 2, none⟩ = some c2 ∧ W.cell? ⟨H, 3, none⟩ = some c3 ∧ W.cell? ⟨H, 4, none⟩ = some c4 ∧ W.cell? ⟨H, 5, none⟩ = some c5 ∧ W.cell? ⟨H, 6, none⟩ = some c6 ∧ W.cell? ⟨H, 7, none⟩ = some c7 ∧ W.cell? ⟨H, 8, none⟩ = some c8 := by
  refine ⟨?_, ?_, ?_, ?_, ?_, ?_, ?_, ?_, ?_⟩ <;> (rw [h.cell]; rfl)
theorem nine_free {W : World} {H : Nat} {T : TypeId} {cs : Array Value} (h : Box W H T cs) : W.frozen? ⟨H, 0, none⟩ = false ∧ W.frozen? ⟨H, 1, none⟩ = false ∧ W.frozen? ⟨H, 2, none⟩ = false ∧ W.frozen? ⟨H, 3, none⟩ = false ∧ W.frozen? ⟨H, 4, none⟩ = false ∧ W.frozen? ⟨H, 5, none⟩ = false ∧ W.frozen? ⟨H, 6, none⟩ = false ∧ W.frozen? ⟨H, 7, none⟩ = false ∧ W.frozen? ⟨H, 8, none⟩ = false :=
  ⟨h.free 0, h.free 1, h.free 2, h.free 3, h.free 4, h.free 5, h.free 6, h.free 7, h.free 8⟩
theorem nine_only {base : Nat} {W : World} {H : Nat} {T : TypeId} {cs : Array Value} (h : Box W H T cs) (hH : base ≤ H) (v0 v1 v2 v3 v4 v5 v6 v7 v8 : Value) :
    Only base (CellsOf T) W (((((((((W.setCell ⟨H, 0, none⟩ v0).setCell ⟨H, 1, none⟩ v1).setCell ⟨H, 2, none⟩ v2).setCell ⟨H, 3, none⟩ v3).setCell ⟨H, 4, none⟩ v4).setCell ⟨H, 5, none⟩ v5).setCell ⟨H, 6, none⟩ v6).setCell ⟨H, 7, none⟩ v7).setCell ⟨H, 8, none⟩ v8) :=
  Only.row (g := H) (only_set (only_set (only_set (only_set (only_set (only_set (only_set (only_set (only_set (only_refl W (some H)) 0 v0) 1 v1) 2 v2) 3 v3) 4 v4) 5 v5) 6 v6) 7 v7) 8 v8) h rfl hH
/-- What the document's section leaves: the bytes stored into the section, and it into the result. -/
theorem sect_done {base : Nat} {W : World} {H E : Nat} {ch ce : Array Value} (hz : Box W H 36 ch) (hs : ch.size = 9) (he : Box W E 36 ce) (hne : E ≠ H) (h1 : base ≤ H) (h2 : base ≤ E) (d v0 v1 v2 v3 v4 v5 v6 v7 v8 : Value) :
    Box ((((((((((W.setCell ⟨E, 4, none⟩ d).setCell ⟨H, 0, none⟩ v0).setCell ⟨H, 1, none⟩ v1).setCell ⟨H, 2, none⟩ v2).setCell ⟨H, 3, none⟩ v3).setCell ⟨H, 4, none⟩ v4).setCell ⟨H, 5, none⟩ v5).setCell ⟨H, 6, none⟩ v6).setCell ⟨H, 7, none⟩ v7).setCell ⟨H, 8, none⟩ v8) H 36 #[v0, v1, v2, v3, v4, v5, v6, v7, v8] ∧
    Only base (CellsOf 36) W ((((((((((W.setCell ⟨E, 4, none⟩ d).setCell ⟨H, 0, none⟩ v0).setCell ⟨H, 1, none⟩ v1).setCell ⟨H, 2, none⟩ v2).setCell ⟨H, 3, none⟩ v3).setCell ⟨H, 4, none⟩ v4).setCell ⟨H, 5, none⟩ v5).setCell ⟨H, 6, none⟩ v6).setCell ⟨H, 7, none⟩ v7).setCell ⟨H, 8, none⟩ v8) := by
  have hg := only_set (only_refl W (some E)) 4 d
  have hz5 : Box (W.setCell ⟨E, 4, none⟩ d) H 36 ch := hz.grown hg (fun e => by injection e with e; exact hne e.symm)
  exact ⟨nine_box hz5 hs v0 v1 v2 v3 v4 v5 v6 v7 v8, (Only.row (g := E) (bad := CellsOf 36) hg he rfl h2).trans (nine_only hz5 h1 v0 v1 v2 v3 v4 v5 v6 v7 v8)⟩

/-- A test that is no number's: the first that is too great. -/
theorem small_ways (kd lk inf al ec : Nat) : (smallN [lk, inf, al, ec, kd] = true ∧ kd ≤ 2147483647 ∧ lk ≤ 2147483647 ∧ inf ≤ 2147483647 ∧ al ≤ 2147483647 ∧ ec ≤ 2147483647) ∨
    (smallN [lk, inf, al, ec, kd] = false ∧ (2147483647 < kd ∨ (kd ≤ 2147483647 ∧ 2147483647 < lk) ∨ (kd ≤ 2147483647 ∧ lk ≤ 2147483647 ∧ 2147483647 < inf) ∨ (kd ≤ 2147483647 ∧ lk ≤ 2147483647 ∧ inf ≤ 2147483647 ∧ 2147483647 < al) ∨ (kd ≤ 2147483647 ∧ lk ≤ 2147483647 ∧ inf ≤ 2147483647 ∧ al ≤ 2147483647 ∧ 2147483647 < ec))) := by
  cases h : smallN [lk, inf, al, ec, kd] with
  | true =>
    simp only [smallN, List.all_cons, List.all_nil, Bool.and_true, Bool.and_eq_true, decide_eq_true_eq] at h
    exact .inl ⟨rfl, by omega⟩
  | false =>
    refine .inr ⟨rfl, ?_⟩
    have h' : ¬ (lk ≤ 2147483647 ∧ inf ≤ 2147483647 ∧ al ≤ 2147483647 ∧ ec ≤ 2147483647 ∧ kd ≤ 2147483647) := by
      intro hh
      have : smallN [lk, inf, al, ec, kd] = true := by
        simp only [smallN, List.all_cons, List.all_nil, Bool.and_true, Bool.and_eq_true, decide_eq_true_eq]
        exact hh
      rw [h] at this
      cases this
    omega
theorem gt_true {n : Nat} (h : 2147483647 < n) : decide ((2147483647 : Int) < (n : Int)) = true := decide_eq_true (by omega)
theorem gt_false {n : Nat} (h : n ≤ 2147483647) : decide ((2147483647 : Int) < (n : Int)) = false := decide_eq_false (by omega)

set_option maxRecDepth 10000 in
set_option maxHeartbeats 3200000 in
theorem rsection_great {w : World} {B : Nat} {A : Option Addr} {l : List UInt8} (c : Nat) {gx cx : Nat} (nm kd fl ad pl sz lk inf al ec : Nat) (hx : EntAt w gx 0 [nm, kd, fl, ad, pl, sz, lk, inf, al, ec])
    (hs : smallN [lk, inf, al, ec, kd] = false) (hw : 2147483647 < kd ∨ (kd ≤ 2147483647 ∧ 2147483647 < lk) ∨ (kd ≤ 2147483647 ∧ lk ≤ 2147483647 ∧ 2147483647 < inf) ∨ (kd ≤ 2147483647 ∧ lk ≤ 2147483647 ∧ inf ≤ 2147483647 ∧ 2147483647 < al) ∨ (kd ≤ 2147483647 ∧ lk ≤ 2147483647 ∧ inf ≤ 2147483647 ∧ al ≤ 2147483647 ∧ 2147483647 < ec)) :
    Calls Tryd.prog 22 #[.slice A l.length c, .slice (some ⟨gx, 0, none⟩) 10 cx] w (SecIs B l [nm, kd, fl, ad, pl, sz, lk, inf, al, ec] w) := by
  have hE : entE [nm, kd, fl, ad, pl, sz, lk, inf, al, ec] l.length = 22 := by
    show (if smallN [lk, inf, al, ec, kd] = true then _ else 22) = 22
    rw [hs]; rfl
  have hgx := hx.lt
  have c1 := hx.2 1 kd rfl
  have c6 := hx.2 6 lk rfl
  have c7 := hx.2 7 inf rfl
  have c8 := hx.2 8 al rfl
  have c9 := hx.2 9 ec rfl
  rw [Nat.zero_add] at c1 c6 c7 c8 c9
  have HW := Lib.hid hw
  have HE := Lib.hid hE
  unfold SecIs
  clear hx hs hw hE
  generalize entE [nm, kd, fl, ad, pl, sz, lk, inf, al, ec] l.length = e at *
  generalize l.length = n at *
  have hb0 : Below w.heap.size w (w.alloc (.cells #[.string ⟨#[]⟩, .int .i64 0, .int .u64 0, .int .u64 0, .slice none 0 0, .int .i64 0, .int .i64 0, .int .i64 0, .int .i64 0] 36)) := (Below.refl _ _).alloc (Nat.le_refl _) _
  have HB := Lib.hid (hb0.alloc (by simp) (.cells #[.string ⟨#[]⟩, .int .i64 0, .int .u64 0, .int .u64 0, .slice none 0 0, .int .i64 0, .int .i64 0, .int .i64 0, .int .i64 0] 36))
  have HZ := Lib.hid (box_keep (Box.new w 36 #[.string ⟨#[]⟩, .int .i64 0, .int .u64 0, .int .u64 0, .slice none 0 0, .int .i64 0, .int .i64 0, .int .i64 0, .int .i64 0]) (.cells #[.string ⟨#[]⟩, .int .i64 0, .int .u64 0, .int .u64 0, .slice none 0 0, .int .i64 0, .int .i64 0, .int .i64 0, .int .i64 0] 36))
  clear hb0
  go_enter Tryd.func22, Tryd.ntmps22
  rcases HW.out with h | ⟨h1, h⟩ | ⟨h1, h2, h⟩ | ⟨h1, h2, h3, h⟩ | ⟨h1, h2, h3, h4, h⟩
  · have d1 := gt_true h
    clear h
    go_wp2_with fail
    refine ret_two Tryd.underlying36 Tryd.results22 HZ.out (by kernel_rfl) (by rfl) rfl ?_
    exact ⟨⟨zeroS, none, 0⟩, by rw [HE.out]; rfl, fun h0 => absurd (HE.out.symm.trans h0) (by decide), HB.out⟩
  · have d1 := gt_false h1
    have d2 := gt_true h
    clear h h1
    go_wp2_with fail
    refine ret_two Tryd.underlying36 Tryd.results22 HZ.out (by kernel_rfl) (by rfl) rfl ?_
    exact ⟨⟨zeroS, none, 0⟩, by rw [HE.out]; rfl, fun h0 => absurd (HE.out.symm.trans h0) (by decide), HB.out⟩
  · have d1 := gt_false h1
    have d2 := gt_false h2
    have d3 := gt_true h
    clear h h1 h2
    go_wp2_with fail
    refine ret_two Tryd.underlying36 Tryd.results22 HZ.out (by kernel_rfl) (by rfl) rfl ?_
    exact ⟨⟨zeroS, none, 0⟩, by rw [HE.out]; rfl, fun h0 => absurd (HE.out.symm.trans h0) (by decide), HB.out⟩
  · have d1 := gt_false h1
    have d2 := gt_false h2
    have d3 := gt_false h3
    have d4 := gt_true h
    clear h h1 h2 h3
    go_wp2_with fail
    refine ret_two Tryd.underlying36 Tryd.results22 HZ.out (by kernel_rfl) (by rfl) rfl ?_
    exact ⟨⟨zeroS, none, 0⟩, by rw [HE.out]; rfl, fun h0 => absurd (HE.out.symm.trans h0) (by decide), HB.out⟩
  · have d1 := gt_false h1
    have d2 := gt_false h2
    have d3 := gt_false h3
    have d4 := gt_false h4
    have d5 := gt_true h
    clear h h1 h2 h3 h4
    go_wp2_with fail
    refine ret_two Tryd.underlying36 Tryd.results22 HZ.out (by kernel_rfl) (by rfl) rfl ?_
    exact ⟨⟨zeroS, none, 0⟩, by rw [HE.out]; rfl, fun h0 => absurd (HE.out.symm.trans h0) (by decide), HB.out⟩

set_option maxRecDepth 10000 in
set_option maxHeartbeats 6400000 in
theorem rsection_small {w : World} {B : Nat} {A : Option Addr} {l : List UInt8} (hr : Rd w B A l) (c : Nat) (hlc : l.length ≤ c) (hcm : c ≤ maxLen) (hl : l.length ≤ 140737488355328) {gx cx : Nat} (nm kd fl ad pl sz lk inf al ec : Nat) (hx : EntAt w gx 0 [nm, kd, fl, ad, pl, sz, lk, inf, al, ec])
    (hn : ∀ x ∈ [nm, kd, fl, ad, pl, sz, lk, inf, al, ec], x < two64) (hs : smallN [lk, inf, al, ec, kd] = true) (h1 : kd ≤ 2147483647) (h2 : lk ≤ 2147483647) (h3 : inf ≤ 2147483647) (h4 : al ≤ 2147483647) (h5 : ec ≤ 2147483647) :
    Calls Tryd.prog 22 #[.slice A l.length c, .slice (some ⟨gx, 0, none⟩) 10 cx] w (SecIs B l [nm, kd, fl, ad, pl, sz, lk, inf, al, ec] w) := by
  have hE : entE [nm, kd, fl, ad, pl, sz, lk, inf, al, ec] l.length = if kd = 0 then 0 else if kd ≠ 8 ∧ l.length < pl + sz then 22 else if 65536 < sz then 3 else 0 := by
    show (if smallN [lk, inf, al, ec, kd] = true then _ else 22) = _
    rw [hs]; rfl
  have hD : sectZ l [nm, kd, fl, ad, pl, sz, lk, inf, al, ec] = ⟨[], (kd : Int), fl, ad, (if kd = 0 then [] else if kd = 8 then List.replicate sz 0 else (l.drop pl).take sz), (lk : Int), (inf : Int), (al : Int), (ec : Int)⟩ := rfl
  have hgx := hx.lt
  have d1 := gt_false h1
  have d2 := gt_false h2
  have d3 := gt_false h3
  have d4 := gt_false h4
  have d5 := gt_false h5
  have e1 := IntWalk.i64_in (kd : Int) (by omega)
  have e2 := IntWalk.i64_in (lk : Int) (by omega)
  have e3 := IntWalk.i64_in (inf : Int) (by omega)
  have e4 := IntWalk.i64_in (al : Int) (by omega)
  have e5 := IntWalk.i64_in (ec : Int) (by omega)
  have hpl := hn pl (by simp)
  have hsz := hn sz (by simp)
  have HWI := Lib.hid (fun W => rwithin_any pl sz l.length W hpl hsz)
  rw [within_iff pl sz l.length (by unfold two64; omega)] at HWI
  have HX := Lib.hid (fun W (hW : Below w.heap.size w W) => (hx.below hW hgx))
  have HE := Lib.hid hE
  have HD := Lib.hid hD
  have hb0 : Below w.heap.size w (w.alloc (.cells #[.string ⟨#[]⟩, .int .i64 0, .int .u64 0, .int .u64 0, .slice none 0 0, .int .i64 0, .int .i64 0, .int .i64 0, .int .i64 0] 36)) := (Below.refl _ _).alloc (Nat.le_refl _) _
  have HB := Lib.hid (hb0.alloc (by simp) (.cells #[.string ⟨#[]⟩, .int .i64 0, .int .u64 0, .int .u64 0, .slice none 0 0, .int .i64 0, .int .i64 0, .int .i64 0, .int .i64 0] 36))
  have HZ := Lib.hid (box_keep (Box.new w 36 #[.string ⟨#[]⟩, .int .i64 0, .int .u64 0, .int .u64 0, .slice none 0 0, .int .i64 0, .int .i64 0, .int .i64 0, .int .i64 0]) (.cells #[.string ⟨#[]⟩, .int .i64 0, .int .u64 0, .int .u64 0, .slice none 0 0, .int .i64 0, .int .i64 0, .int .i64 0, .int .i64 0] 36))
  have HN := Lib.hid (show Box ((w.alloc (.cells #[.string ⟨#[]⟩, .int .i64 0, .int .u64 0, .int .u64 0, .slice none 0 0, .int .i64 0, .int .i64 0, .int .i64 0, .int .i64 0] 36)).alloc (.cells #[.string ⟨#[]⟩, .int .i64 0, .int .u64 0, .int .u64 0, .slice none 0 0, .int .i64 0, .int .i64 0, .int .i64 0, .int .i64 0] 36)) (w.heap.size + 1) 36 #[.string ⟨#[]⟩, .int .i64 0, .int .u64 0, .int .u64 0, .slice none 0 0, .int .i64 0, .int .i64 0, .int .i64 0, .int .i64 0] by simpa using Box.new (w.alloc (.cells #[.string ⟨#[]⟩, .int .i64 0, .int .u64 0, .int .u64 0, .slice none 0 0, .int .i64 0, .int .i64 0, .int .i64 0, .int .i64 0] 36)) 36 #[.string ⟨#[]⟩, .int .i64 0, .int .u64 0, .int .u64 0, .slice none 0 0, .int .i64 0, .int .i64 0, .int .i64 0, .int .i64 0])
  obtain ⟨i0, hi, hz0, hz1, hz2⟩ := info_parts u8_info
  have c1 := hx.2 1 kd rfl
  have c6 := hx.2 6 lk rfl
  have c7 := hx.2 7 inf rfl
  have c8 := hx.2 8 al rfl
  have c9 := hx.2 9 ec rfl
  rw [Nat.zero_add] at c1 c6 c7 c8 c9
  unfold SecIs
  clear hb0 hx hn hs h1 h2 h3 h4 h5 hE hD hpl hsz
  generalize entE [nm, kd, fl, ad, pl, sz, lk, inf, al, ec] l.length = e at *
  generalize sectZ l [nm, kd, fl, ad, pl, sz, lk, inf, al, ec] = yz at *
  go_enter Tryd.func22, Tryd.ntmps22
  go_wp2_with fail
  have hs2 : ((w.alloc (.cells #[.string ⟨#[]⟩, .int .i64 0, .int .u64 0, .int .u64 0, .slice none 0 0, .int .i64 0, .int .i64 0, .int .i64 0, .int .i64 0] 36)).alloc (.cells #[.string ⟨#[]⟩, .int .i64 0, .int .u64 0, .int .u64 0, .slice none 0 0, .int .i64 0, .int .i64 0, .int .i64 0, .int .i64 0] 36)).heap.size = w.heap.size + 2 := by simp
  generalize hw2 : (w.alloc (.cells #[.string ⟨#[]⟩, .int .i64 0, .int .u64 0, .int .u64 0, .slice none 0 0, .int .i64 0, .int .i64 0, .int .i64 0, .int .i64 0] 36)).alloc (.cells #[.string ⟨#[]⟩, .int .i64 0, .int .u64 0, .int .u64 0, .slice none 0 0, .int .i64 0, .int .i64 0, .int .i64 0, .int .i64 0] 36) = w2 at *
  clear hw2
  have KS := Lib.hid (fun W (hW : Below w2.heap.size w2 W) => (by
    have h := (HX.out W (HB.out.trans (hW.mono HB.out.size))).2
    have k1 := h 1 kd rfl
    have k2 := h 2 fl rfl
    have k3 := h 3 ad rfl
    have k4 := h 4 pl rfl
    have k5 := h 5 sz rfl
    have k6 := h 6 lk rfl
    have k7 := h 7 inf rfl
    have k8 := h 8 al rfl
    have k9 := h 9 ec rfl
    rw [Nat.zero_add] at k1 k2 k3 k4 k5 k6 k7 k8 k9
    exact ⟨k1, k2, k3, k4, k5, k6, k7, k8, k9⟩ :
    W.cell? ⟨gx, 1, none⟩ = some (.int .u64 (kd : Int)) ∧ W.cell? ⟨gx, 2, none⟩ = some (.int .u64 (fl : Int)) ∧ W.cell? ⟨gx, 3, none⟩ = some (.int .u64 (ad : Int)) ∧ W.cell? ⟨gx, 4, none⟩ = some (.int .u64 (pl : Int)) ∧ W.cell? ⟨gx, 5, none⟩ = some (.int .u64 (sz : Int)) ∧
      W.cell? ⟨gx, 6, none⟩ = some (.int .u64 (lk : Int)) ∧ W.cell? ⟨gx, 7, none⟩ = some (.int .u64 (inf : Int)) ∧ W.cell? ⟨gx, 8, none⟩ = some (.int .u64 (al : Int)) ∧ W.cell? ⟨gx, 9, none⟩ = some (.int .u64 (ec : Int))))
  have hb2 : Below w2.heap.size w2 w2.drew := (Below.refl _ _).drew
  clear c1 c6 c7 c8 c9
  go_region_held_law (fun W => W.cell? ⟨gx, 1, none⟩ = some (.int .u64 (kd : Int)) ∧ W.cell? ⟨gx, 2, none⟩ = some (.int .u64 (fl : Int)) ∧ W.cell? ⟨gx, 3, none⟩ = some (.int .u64 (ad : Int)) ∧ W.cell? ⟨gx, 4, none⟩ = some (.int .u64 (pl : Int)) ∧ W.cell? ⟨gx, 5, none⟩ = some (.int .u64 (sz : Int)) ∧
      W.cell? ⟨gx, 6, none⟩ = some (.int .u64 (lk : Int)) ∧ W.cell? ⟨gx, 7, none⟩ = some (.int .u64 (inf : Int)) ∧ W.cell? ⟨gx, 8, none⟩ = some (.int .u64 (al : Int)) ∧ W.cell? ⟨gx, 9, none⟩ = some (.int .u64 (ec : Int)))
    ((refine KS.out _ ?_; (repeat' (first | with_reducible assumption | with_reducible refine below_drewN ?_ _ | with_reducible refine Below.drew ?_ | (with_reducible refine Below.alloc ?_ ?_ _) | with_reducible exact Below.refl _ _ | with_reducible exact Nat.le_refl _ | (simp; done)))))
    (fail)
  have hs3 : w2.heap.size < (w2.alloc (.cells #[.string ⟨#[]⟩, .int .i64 (kd : Int), .int .u64 (fl : Int), .int .u64 (ad : Int), .slice none 0 0, .int .i64 (lk : Int), .int .i64 (inf : Int), .int .i64 (al : Int), .int .i64 (ec : Int)] 36)).drew.heap.size := by simp
  have hb3 : Below w2.heap.size w2 (w2.alloc (.cells #[.string ⟨#[]⟩, .int .i64 (kd : Int), .int .u64 (fl : Int), .int .u64 (ad : Int), .slice none 0 0, .int .i64 (lk : Int), .int .i64 (inf : Int), .int .i64 (al : Int), .int .i64 (ec : Int)] 36)).drew := ((Below.refl _ _).alloc (Nat.le_refl _) _).drew
  have hX3 : Box (w2.alloc (.cells #[.string ⟨#[]⟩, .int .i64 (kd : Int), .int .u64 (fl : Int), .int .u64 (ad : Int), .slice none 0 0, .int .i64 (lk : Int), .int .i64 (inf : Int), .int .i64 (al : Int), .int .i64 (ec : Int)] 36)).drew (w.heap.size + 2) 36 #[.string ⟨#[]⟩, .int .i64 (kd : Int), .int .u64 (fl : Int), .int .u64 (ad : Int), .slice none 0 0, .int .i64 (lk : Int), .int .i64 (inf : Int), .int .i64 (al : Int), .int .i64 (ec : Int)] := by rw [← hs2]; exact Box.new w2 _ _
  have hZ3 := HZ.out.below hb3 HZ.out.lt
  have hN3 := HN.out.below hb3 HN.out.lt
  have HB3 := Lib.hid (HB.out.trans (hb3.mono HB.out.size))
  have HK3 := Lib.hid (fun W (hW : Below (w2.alloc (.cells #[.string ⟨#[]⟩, .int .i64 (kd : Int), .int .u64 (fl : Int), .int .u64 (ad : Int), .slice none 0 0, .int .i64 (lk : Int), .int .i64 (inf : Int), .int .i64 (al : Int), .int .i64 (ec : Int)] 36)).drew.heap.size (w2.alloc (.cells #[.string ⟨#[]⟩, .int .i64 (kd : Int), .int .u64 (fl : Int), .int .u64 (ad : Int), .slice none 0 0, .int .i64 (lk : Int), .int .i64 (inf : Int), .int .i64 (al : Int), .int .i64 (ec : Int)] 36)).drew W) => KS.out W (hb3.trans (hW.mono (Nat.le_of_lt hs3))))
  clear hb3 hb2 KS HZ HN HB
  generalize (w2.alloc (.cells #[.string ⟨#[]⟩, .int .i64 (kd : Int), .int .u64 (fl : Int), .int .u64 (ad : Int), .slice none 0 0, .int .i64 (lk : Int), .int .i64 (inf : Int), .int .i64 (al : Int), .int .i64 (ec : Int)] 36)).drew = w3 at *
  rw [hs2] at hs3
  clear hs2
  obtain ⟨r0, r1, r2, r3, r4, r5, r6, r7, r8⟩ := nine_cells hZ3
  obtain ⟨n0, n1, n2, n3, n4, n5, n6, n7, n8⟩ := nine_cells hN3
  obtain ⟨x0, x1, x2, x3, x4, x5, x6, x7, x8⟩ := nine_cells hX3
  obtain ⟨f0, f1, f2, f3, f4, f5, f6, f7, f8⟩ := nine_free hZ3
  have g4 := hX3.free 4
  obtain ⟨-, -, -, k4, k5, -⟩ := HK3.out w3 (Below.refl _ _)
  have HZ3 := Lib.hid hZ3
  have HX3 := Lib.hid hX3
  clear hZ3 hN3 hX3
  by_cases hk0 : kd = 0
  · subst hk0
    have HF := Lib.hid (show e = 0 ∧ yz = ⟨[], 0, fl, ad, [], (lk : Int), (inf : Int), (al : Int), (ec : Int)⟩ by rw [HE.out, HD.out]; exact ⟨rfl, rfl⟩)
    clear HE HD HK3 k4 k5
    go_wp2_with fail
    refine ret_two Tryd.underlying36 Tryd.results22 (nine_box HZ3.out rfl _ _ _ _ _ _ _ _ _) (by kernel_rfl) (by rfl) rfl ?_
    exact ⟨⟨⟨[], 0, fl, ad, [], (lk : Int), (inf : Int), (al : Int), (ec : Int)⟩, none, 0⟩, by rw [HF.out.1]; rfl, fun _ => ⟨HF.out.2.symm, .inl Rd.nil_, Nat.le_refl _, Nat.zero_le _⟩, nine_below HB3.out (Nat.le_refl _) _ _ _ _ _ _ _ _ _⟩
  · by_cases hk8 : kd = 8
    · subst hk8
      by_cases hbig : 65536 < sz
      · have q : decide ((65536 : Int) < (sz : Int)) = true := decide_eq_true (by omega)
        have HF := Lib.hid (show e = 3 by rw [HE.out, if_neg (by decide), if_neg (by simp), if_pos hbig])
        clear HE HD HK3 hbig hk0
        go_wp2_with fail
        refine ret_two Tryd.underlying36 Tryd.results22 (nine_box HZ3.out rfl _ _ _ _ _ _ _ _ _) (by kernel_rfl) (by rfl) rfl ?_
        exact ⟨⟨zeroS, none, 0⟩, by rw [HF.out]; rfl, fun h0 => absurd (HF.out.symm.trans h0) (by decide), nine_below HB3.out (Nat.le_refl _) _ _ _ _ _ _ _ _ _⟩
      · have q : decide ((65536 : Int) < (sz : Int)) = false := decide_eq_false (by omega)
        have hsz : sz ≤ 65536 := by omega
        have e6 := IntWalk.i64_in (sz : Int) (by omega)
        have HF := Lib.hid (show e = 0 ∧ yz = ⟨[], 8, fl, ad, List.replicate sz 0, (lk : Int), (inf : Int), (al : Int), (ec : Int)⟩ by rw [HE.out, HD.out, if_neg (by decide), if_neg (by simp), if_neg hbig]; exact ⟨rfl, rfl⟩)
        have hn4 : sz ≤ 140737488355328 := by omega
        clear HE HD HK3 hbig hk0
        go_wp2_with (at_make; refine wpList_make_bytes rfl _ _ 22 rfl i0 Tryd.underlying22 hi hz0 hz1 hz2 sz hn4 rfl rfl w3.heap.size rfl ?_; intro w4 hr4 hb4; have HZ4 := Lib.hid (HZ3.out.below hb4 HZ3.out.lt); have HX4 := Lib.hid (HX3.out.below hb4 HX3.out.lt); have HB4 := Lib.hid (HB3.out.trans (hb4.mono HB3.out.size)); have HR4 := Lib.hid hr4; clear r0 r1 r2 r3 r4 r5 r6 r7 r8 n0 n1 n2 n3 n4 n5 n6 n7 n8 x0 x1 x2 x3 x4 x5 x6 x7 x8 f0 f1 f2 f3 f4 f5 f6 f7 f8 g4 k4 k5 hb4 hr4; obtain ⟨r0, r1, r2, r3, r4, r5, r6, r7, r8⟩ := nine_cells HZ4.out; obtain ⟨x0, x1, x2, x3, x4, x5, x6, x7, x8⟩ := nine_cells HX4.out; obtain ⟨f0, f1, f2, f3, f4, f5, f6, f7, f8⟩ := nine_free HZ4.out; have g4 := HX4.out.free 4)
        obtain ⟨hb9, ho9⟩ := sect_done (base := w.heap.size) HZ4.out rfl HX4.out (by omega) (Nat.le_refl _) (by omega) (.slice (some ⟨w3.heap.size, 0, none⟩) sz sz) (.string ⟨#[]⟩) (.int .i64 8) (.int .u64 (fl : Int)) (.int .u64 (ad : Int)) (.slice (some ⟨w3.heap.size, 0, none⟩) sz sz) (.int .i64 (lk : Int)) (.int .i64 (inf : Int)) (.int .i64 (al : Int)) (.int .i64 (ec : Int))
        refine ret_two Tryd.underlying36 Tryd.results22 hb9 (by kernel_rfl) (by rfl) rfl ?_
        have hrow : Own w4 w3.heap.size (.slice (some ⟨w3.heap.size, 0, none⟩) sz sz) (List.replicate sz 0) := by
          have := HR4.out.own (base := w3.heap.size) (Nat.le_refl _) (by rw [List.length_replicate]; unfold maxLen; omega)
          rwa [List.length_replicate] at this
        have hrow9 := row_only hrow ho9 (fun cs f hh => absurd (show 5 = 36 from hh) (by decide))
        have hown9 := own_up hrow9 HB3.out.size
        exact ⟨⟨⟨[], 8, fl, ad, List.replicate sz 0, (lk : Int), (inf : Int), (al : Int), (ec : Int)⟩, some ⟨w3.heap.size, 0, none⟩, sz⟩, by rw [HF.out.1]; simp [Lay.val, Lay.cells, Lay.dv, List.length_replicate], fun _ => ⟨HF.out.2.symm, .inr (by simp only [Lay.dv, List.length_replicate]; simpa using hown9), by simp, by unfold maxLen; simp only; omega⟩, HB4.out.trans ho9.1⟩
    · have q1 : ((kd : Int) == 8) = false := by simp; omega
      have q2 : ((kd : Int) != 0) = true := by simp; omega
      have q3 : ((kd : Int) != 8) = true := by simp; omega
      have HKD := Lib.hid (And.intro hk0 hk8)
      have wl := IntWalk.u64_in (l.length : Int) (by omega)
      obtain ⟨bw, hbw⟩ : ∃ bw, decide (pl + sz ≤ l.length) = bw := ⟨_, rfl⟩
      rw [hbw] at HWI
      have HBW := Lib.hid hbw
      clear hk0 hk8 hbw
      go_wp2_with fail
      go_quiet ((go_at_call 53; exact Calls.quiet_of_same ((HWI.out _).mono fun _ _ h => ⟨h.1, h.2.symm⟩)))
      have HB3q := Lib.hid (below_drewN HB3.out nq)
      have HZ3q := Lib.hid (HZ3.out.drewN nq)
      have HX3q := Lib.hid (HX3.out.drewN nq)
      cases bw with
      | false =>
        have hin : ¬ pl + sz ≤ l.length := of_decide_eq_false HBW.out
        have HF := Lib.hid (show e = 22 by rw [HE.out, if_neg HKD.out.1, if_pos ⟨HKD.out.2, by omega⟩])
        clear HE HD HK3 hin
        go_wp2_with fail
        refine ret_two Tryd.underlying36 Tryd.results22 (nine_box HZ3q.out rfl _ _ _ _ _ _ _ _ _) (by kernel_rfl) (by rfl) rfl ?_
        exact ⟨⟨zeroS, none, 0⟩, by rw [HF.out]; rfl, fun h0 => absurd (HF.out.symm.trans h0) (by decide), nine_below HB3q.out (Nat.le_refl _) _ _ _ _ _ _ _ _ _⟩

      | true =>
        have hin : pl + sz ≤ l.length := of_decide_eq_true HBW.out
        by_cases hbig : 65536 < sz
        · have q : decide ((65536 : Int) < (sz : Int)) = true := decide_eq_true (by omega)
          have HF := Lib.hid (show e = 3 by rw [HE.out, if_neg HKD.out.1, if_neg (by omega), if_pos hbig])
          clear HE HD HK3 hbig hin
          go_wp2_with fail
          refine ret_two Tryd.underlying36 Tryd.results22 (nine_box HZ3q.out rfl _ _ _ _ _ _ _ _ _) (by kernel_rfl) (by rfl) rfl ?_
          exact ⟨⟨zeroS, none, 0⟩, by rw [HF.out]; rfl, fun h0 => absurd (HF.out.symm.trans h0) (by decide), nine_below HB3q.out (Nat.le_refl _) _ _ _ _ _ _ _ _ _⟩
        · have q : decide ((65536 : Int) < (sz : Int)) = false := decide_eq_false (by omega)
          have hsz : sz ≤ 65536 := by omega
          have HF := Lib.hid (show e = 0 ∧ yz = ⟨[], (kd : Int), fl, ad, (l.drop pl).take sz, (lk : Int), (inf : Int), (al : Int), (ec : Int)⟩ by rw [HE.out, HD.out, if_neg HKD.out.1, if_neg (by omega), if_neg hbig, if_neg HKD.out.1, if_neg HKD.out.2]; exact ⟨rfl, rfl⟩)
          have e6 := IntWalk.i64_in (pl : Int) (by omega)
          have e7 := IntWalk.u64_in ((pl : Int) + (sz : Int)) (by omega)
          have e8 := IntWalk.i64_in ((pl : Int) + (sz : Int)) (by omega)
          have hpl : ((l.drop pl).take sz).length = sz := by simp; omega
          obtain ⟨A2, c2, hsl, hra⟩ : ∃ A2 c2, (∀ W : World, (Instr.slice 22 (.slice A l.length c) (some (.int .i64 (pl : Int))) (some (.int .i64 ((pl : Int) + (sz : Int)))) none).run Tryd.prog W = .ok (.slice A2 sz c2) W) ∧ Hid (Rd w B A2 ((l.drop pl).take sz) ∧ sz ≤ c2 ∧ c2 ≤ maxLen) := by
            have hnn : ((pl : Int) + (sz : Int)).toNat - pl = sz := by omega
            have hs1 : ∀ W : World, (sizeOf (Tryd.prog.elem 22)).run Tryd.prog W = .ok 1 W := fun W => by kernel_rfl
            refine ⟨if c = pl then A else Option.map (fun x => x.add pl) A, c - pl, fun W => ?_, ?_⟩
            · rw [run_slice_lh W _ _ _ _ Tryd.underlying22 _ _ _ _ (by omega) (by omega) (by omega), hs1]
              simp only [Result.andThen, sliced, hnn, Int.toNat_natCast, Nat.mul_one]
            · have hrest : sz ≤ c - pl ∧ c - pl ≤ maxLen := by omega
              by_cases hca : c = pl
              · have h0 : (l.drop pl).take sz = [] := List.eq_nil_of_length_eq_zero (by rw [hpl]; omega)
                rw [h0]
                exact Lib.hid ⟨Rd.nil_, hrest⟩
              · rw [if_neg hca]
                exact Lib.hid ⟨rd_cut hr pl sz, hrest⟩
          have HPL := Lib.hid hpl
          have KS := Lib.hid (fun W (hW : Below w.heap.size w W) => (by
            have h := (HX.out W hW).2
            have k4 := h 4 pl rfl
            have k5 := h 5 sz rfl
            rw [Nat.zero_add] at k4 k5
            exact ⟨k4, k5⟩ : W.cell? ⟨gx, 4, none⟩ = some (.int .u64 (pl : Int)) ∧ W.cell? ⟨gx, 5, none⟩ = some (.int .u64 (sz : Int))))
          have hb4 : Below w.heap.size w (w3.drewN nq) := HB3q.out
          have hge : w.heap.size ≤ w.heap.size + 2 := by omega
          clear HE HD HK3 hbig hin hpl hr
          go_wp2_with fail
          generalize w3.drewN nq = w5 at *
          clear r0 r1 r2 r3 r4 r5 r6 r7 r8 n0 n1 n2 n3 n4 n5 n6 n7 n8 x0 x1 x2 x3 x4 x5 x6 x7 x8 f0 f1 f2 f3 f4 f5 f6 f7 f8 g4 k4 k5
          have x4 := (nine_cells HX3q.out).2.2.2.2.1
          have g4 := HX3q.out.free 4
          go_region_held_law (fun W => W.cell? ⟨gx, 4, none⟩ = some (.int .u64 (pl : Int)) ∧ W.cell? ⟨gx, 5, none⟩ = some (.int .u64 (sz : Int)))
            ((refine KS.out _ ?_; (repeat' (first | with_reducible assumption | with_reducible refine below_drewN ?_ _ | with_reducible refine Below.drew ?_ | (with_reducible refine Below.setCell ?_ ?_ _)))))
            (fail)
          have hg7 := only_set (only_refl w5 (some (w.heap.size + 2))) 4 (.slice A2 sz c2)
          have hZ7 : Box (w5.setCell ⟨w.heap.size + 2, 4, none⟩ (.slice A2 sz c2)).drew w.heap.size 36 _ := (HZ3q.out.grown hg7 (fun e => by injection e with e; omega)).drew
          have hX7 : Box (w5.setCell ⟨w.heap.size + 2, 4, none⟩ (.slice A2 sz c2)).drew (w.heap.size + 2) 36 #[.string ⟨#[]⟩, .int .i64 (kd : Int), .int .u64 (fl : Int), .int .u64 (ad : Int), .slice A2 sz c2, .int .i64 (lk : Int), .int .i64 (inf : Int), .int .i64 (al : Int), .int .i64 (ec : Int)] := by simpa using (HX3q.out.set 4 (.slice A2 sz c2)).drew
          have hB7 : Below w.heap.size w (w5.setCell ⟨w.heap.size + 2, 4, none⟩ (.slice A2 sz c2)).drew := (HB3q.out.setCell hge _).drew
          have HZ7 := Lib.hid hZ7
          have HB7 := Lib.hid hB7
          obtain ⟨r0, r1, r2, r3, r4, r5, r6, r7, r8⟩ := nine_cells hZ7
          obtain ⟨x0, x1, x2, x3, y4, x5, x6, x7, x8⟩ := nine_cells hX7
          obtain ⟨f0, f1, f2, f3, f4, f5, f6, f7, f8⟩ := nine_free hZ7
          clear hg7 hZ7 hX7 hB7 x4 g4 KS hb4
          generalize (w5.setCell ⟨w.heap.size + 2, 4, none⟩ (.slice A2 sz c2)).drew = w7 at *
          go_wp2_with fail
          refine ret_two Tryd.underlying36 Tryd.results22 (nine_box HZ7.out rfl _ _ _ _ _ _ _ _ _) (by kernel_rfl) (by rfl) rfl ?_
          have hB9 := nine_below HB7.out (Nat.le_refl _) (.string ⟨#[]⟩) (.int .i64 (kd : Int)) (.int .u64 (fl : Int)) (.int .u64 (ad : Int)) (.slice A2 sz c2) (.int .i64 (lk : Int)) (.int .i64 (inf : Int)) (.int .i64 (al : Int)) (.int .i64 (ec : Int))
          exact ⟨⟨⟨[], (kd : Int), fl, ad, (l.drop pl).take sz, (lk : Int), (inf : Int), (al : Int), (ec : Int)⟩, A2, c2⟩, by rw [HF.out.1]; simp only [Lay.val, Lay.cells, Lay.dv, HPL.out]; rfl, fun _ => ⟨HF.out.2.symm, .inl hra.out.1, by rw [HPL.out]; exact hra.out.2.1, hra.out.2.2⟩, hB9⟩

theorem rsection_any {w : World} {B : Nat} {A : Option Addr} {l : List UInt8} (hr : Rd w B A l) (c : Nat) (hlc : l.length ≤ c) (hcm : c ≤ maxLen) (hl : l.length ≤ 140737488355328) {gx cx : Nat} {ns : List Nat} (hx : EntAt w gx 0 ns) (hn : ∀ x ∈ ns, x < two64) :
    Calls Tryd.prog 22 #[.slice A l.length c, .slice (some ⟨gx, 0, none⟩) 10 cx] w (SecIs B l ns w) := by
  match ns, hx.1 with
  | [nm, kd, fl, ad, pl, sz, lk, inf, al, ec], _ =>
    rcases small_ways kd lk inf al ec with ⟨hs, h1, h2, h3, h4, h5⟩ | ⟨hs, hw⟩
    · exact rsection_small hr c hlc hcm hl nm kd fl ad pl sz lk inf al ec hx hn hs h1 h2 h3 h4 h5
    · exact rsection_great c nm kd fl ad pl sz lk inf al ec hx hs hw

end Go.Proofs.YtpdjpafchfbabaaDoor
