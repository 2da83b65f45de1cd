/-
  The document's Same of tables, Bulk.
-/
import Derived.Test.YtejicboemkpeoaaGreatDoorAbD
import Derived.Test.YtejicboemkpeoaaGreatDoorGpA
import Derived.Test.YtejicboemkpeoaaGreatDoorRefU
import Derived.Test.YtejicboemkpeoaaGreatDoorCsQ
import Derived.Test.YtejicboemkpeoaaGreatDoorCsL
namespace Go.Proofs.YtejicboemkpeoaaGreatDoor
open Go Go.RowKit Go.Maps

theorem tU_lt (l : List UInt8) (s : CSt) : tU l s < two64 := by
  unfold tU uOf
  split
  · unfold readU
    split
    · show (0 : Nat) < _; unfold two64; omega
    · split
      · split
        · rename_i h; exact h
        · show (0 : Nat) < _; unfold two64; omega
      · show (0 : Nat) < _; unfold two64; omega
  · show (0 : Nat) < _; unfold two64; omega

section
variable {w : World} {g : Nat} {v : Value} {l : List UInt8}
theorem u_st {s : CSt} (h : Cur w g v l s.1 s.2) (hlen : l.length ≤ 140737488355328) :
    Calls Tryz.prog 90 #[.pointer (some ⟨g, 0, none⟩)] w fun x w' => x = .returned (.int .u64 (tU l s : Int)) ∧ Cur w' g v l (sU l s).1 (sU l s).2 ∧ w.grownBy w' (some g) := u_cur h hlen
theorem s_st {s : CSt} (h : Cur w g v l s.1 s.2) (hlen : l.length ≤ 140737488355328) :
    Calls Tryz.prog 200 #[.pointer (some ⟨g, 0, none⟩)] w fun x w' => x = .returned (.int .i64 (tS l s)) ∧ Cur w' g v l (sS l s).1 (sS l s).2 ∧ w.grownBy w' (some g) := s_cur h hlen
theorem b_st {s : CSt} (h : Cur w g v l s.1 s.2) (hlen : l.length ≤ 140737488355328) :
    Calls Tryz.prog 93 #[.pointer (some ⟨g, 0, none⟩)] w fun x w' => x = .returned (.int .u64 (tB l s : Int)) ∧ Cur w' g v l (sB l s).1 (sB l s).2 ∧ w.grownBy w' (some g) := u8_cur h hlen
theorem f_st {s : CSt} (h : Cur w g v l s.1 s.2) (f : Int) :
    Calls Tryz.prog 54 #[.pointer (some ⟨g, 0, none⟩), .int .i64 f] w fun x w' => x = .returned (.tuple #[]) ∧ Cur w' g v l (sF s f).1 (sF s f).2 ∧ w.grownBy w' (some g) := fail_cur h f

end

/-! ### Pairs -/
theorem cells_newA (w : World) (cs : List Value) (T : TypeId) (j : Nat) (u : Value) (h : cs[j]? = some u) : (w.alloc (.cells cs.toArray T)).cell? ((⟨w.heap.size, 0, none⟩ : Addr).add j) = some u := by
  rw [addr_add, Nat.zero_add, (Box.new w T cs.toArray).cell]
  simpa using h
theorem rown_past {w w' : World} {base g m : Nat} {t : TypeId} {v : Value} {n : Nat} {xs : List Value} (h : w.ownsRow base t m v n xs) (hg : w.grownBy w' (some g)) (hlt : g < base) : w'.ownsRow base t m v n xs := by
  refine h.kept hg ?_
  rcases hv : v.ownBlock with _ | q
  · exact .inl rfl
  · refine .inr fun e => ?_
    have := (h.lt q hv).1
    injection e with e
    omega
end Go.Proofs.YtejicboemkpeoaaGreatDoor

namespace Go.Proofs.YtejicboemkpeoaaGreatDoor
open Go Go.RowKit Go.Maps

theorem sF_ne (s : CSt) {f : Int} (hf : f ≠ 0) : (sF s f).2 ≠ 0 := by
  unfold sF failOf
  simp only
  split
  · exact hf
  · assumption
/-- An abbreviation whose numbers are numbers of 64 bits. -/
structure Abb.In (x : Abb) : Prop where
  code : x.code < two64
  tag : InI x.tag
  len : x.l.length ≤ 100000
  spcs : ∀ y ∈ x.l, y.In
/-! ### Abbreviations of the call's own -/
theorem own_lower {w : World} {B B' m n : Nat} {t : TypeId} {v : Value} {xs : List Value} (h : w.ownsRow B t m v n xs) (hB : B' ≤ B) : w.ownsRow B' t m v n xs := by
  refine ⟨h.1, ?_⟩
  rcases h.2 with h0 | ⟨g, cap, cur, e, hb, r⟩
  · exact .inl h0
  · exact .inr ⟨g, cap, cur, e, Nat.le_trans hB hb, r⟩
/-- A row of another type stays behind a step of one. -/
theorem own_apart {w w' : World} {B B' m m' n n' : Nat} {t t' : TypeId} {v v' : Value} {xs xs' : List Value} (h : w.ownsRow B t m v n xs) (h' : w.ownsRow B' t' m' v' n' xs') (ht : t ≠ t') (hg : w.grownBy w' v'.ownBlock) : w'.ownsRow B t m v n xs := by
  refine h.kept hg ?_
  rcases h.2 with ⟨rfl, _⟩ | ⟨g, cap, cur, rfl, _, hh, _⟩
  · exact .inl rfl
  · rcases h'.2 with ⟨rfl, _⟩ | ⟨g', cap', cur', rfl, _, hh', _⟩
    · exact .inr (by simp [Value.ownBlock])
    · refine .inr fun e => ?_
      have e' : g = g' := by simpa [Value.ownBlock] using e
      subst e'
      rw [hh] at hh'
      injection hh' with hh'
      injection hh' with _ hh'
      exact ht hh'
abbrev OwnSp (w : World) (base : Nat) (y : ALay) : Prop := w.ownsRow base 125 3 (.slice y.a y.x.l.length y.c) y.x.l.length (cellsF Spc.cells y.x.l)
structure OwnA (w : World) (base : Nat) (v : Value) (L : List ALay) : Prop where
  row : w.ownsRow base 123 4 v L.length (cellsF ALay.cells L)
  spcs : ∀ y ∈ L, OwnSp w base y
theorem OwnA.nil (w : World) (base : Nat) : OwnA w base (.slice none 0 0) [] := ⟨World.ownsRow_nil _ _ _ _, fun y hy => by cases hy⟩
theorem OwnA.past {w w' : World} {base g : Nat} {v : Value} {L : List ALay} (h : OwnA w base v L) (hg : w.grownBy w' (some g)) (hlt : g < base) : OwnA w' base v L := ⟨rown_past h.row hg hlt, fun y hy => rown_past (h.spcs y hy) hg hlt⟩
theorem OwnA.below {w w' : World} {base : Nat} {v : Value} {L : List ALay} (h : OwnA w base v L) (hb : Below w.heap.size w w') : OwnA w' base v L := ⟨row_below h.row hb, fun y hy => row_below (h.spcs y hy) hb⟩
/-- As abbreviations that lie. -/
theorem OwnA.lies {w : World} {base : Nat} {v : Value} {L : List ALay} (h : OwnA w base v L) : ∃ A c, v = .slice A L.length c ∧ L.length ≤ c ∧ c ≤ maxLen ∧ Abbs w w.heap.size A L := by
  obtain ⟨A, c, e, h1, h2, hr⟩ := own_row abb_four h.row
  refine ⟨A, c, e, h1, h2, hr, fun y hy => ?_⟩
  obtain ⟨A', c', e', -, -, hr'⟩ := own_row spc_three (h.spcs y hy)
  injection e' with e1 _ _
  rw [e1]
  exact hr'
theorem OwnA.slice {w : World} {base : Nat} {v : Value} {L : List ALay} (h : OwnA w base v L) : ∃ A c, v = .slice A L.length c := by
  obtain ⟨A, c, e, -⟩ := h.lies
  exact ⟨A, c, e⟩

theorem failOf_no {e : Int} (h : e ≠ 0) (f : Int) : failOf e f = e := by unfold failOf; rw [if_neg h]
end Go.Proofs.YtejicboemkpeoaaGreatDoor

namespace Go.Proofs.YtejicboemkpeoaaGreatDoor
open Go Go.RowKit Go.Maps

/-! ### Find -/
def hasC (code : Nat) (y : ALay) : Bool := decide (y.x.code = code)
def findK (L : List ALay) (code : Nat) : Option Nat := firstK (hasC code) 0 L
def findI (L : List ALay) (code : Nat) : Int := match findK L code with | some k => (k : Int) | none => -1
def zeroA : Value := .agg #[.int .u64 0, .int .i64 0, .bool false, .slice none 0 0]
/-- What is found. -/
def Found (L : List ALay) (code : Nat) (z : Value) (b : Bool) : Prop := (findK L code = none ∧ b = false ∧ z = zeroA) ∨ ∃ k y, findK L code = some k ∧ L[k]? = some y ∧ b = true ∧ z = y.val
theorem findK_at {L : List ALay} {code k : Nat} {y : ALay} (hy : L[k]? = some y) (hn : (L.take k).all (fun y => !(hasC code y)) = true) (h : hasC code y = true) : findK L code = some k := by
  have := firstK_take (p := hasC code) L 0 k y hy hn h
  rwa [Nat.zero_add] at this
theorem findK_no {L : List ALay} {code : Nat} (hn : L.all (fun y => !(hasC code y)) = true) : findK L code = none := firstK_none (p := hasC code) L 0 hn
theorem findK_get {L : List ALay} {code k : Nat} (h : findK L code = some k) : ∃ y, L[k]? = some y ∧ y.x.code = code := by
  obtain ⟨y, h1, h2, -⟩ := firstK_some (i := 0) (by rw [Nat.zero_add]; exact h)
  exact ⟨y, h1, by simpa [hasC] using h2⟩
theorem all_snoc {α : Type} {p : α → Bool} {l : List α} {k : Nat} {x : α} (hx : l[k]? = some x) (h : (l.take k).all p = true) (hp : p x = true) : (l.take (k + 1)).all p = true := by
  rw [List.take_add_one, hx, List.all_append, h]
  simp [hp]

theorem find1_any {w : World} (y : ALay) (code g : Nat) (hg : w.cell? ⟨g, 0, none⟩ = some (.int .u64 (code : Int))) :
    Calls Tryz.prog 99 #[.agg #[.int .u64 (y.x.code : Int), .int .i64 y.x.tag, .bool y.x.kids, .slice y.a y.x.l.length y.c], .pointer (some ⟨g, 0, none⟩)] w fun r w' => r = .returned (.bool (hasC code y)) ∧ Below w.heap.size w w' := by
  have hb : ((y.x.code : Int) == (code : Int)) = hasC code y := by unfold hasC; rw [Bool.eq_iff_iff]; simp; omega
  have hlt : g < w.heap.size := by simpa using World.block_lt_of_cell? w _ hg
  generalize hasC code y = b at *
  generalize y.x.l.length = ln at *
  generalize y.x.code = cd at *
  generalize y.x.tag = tg at *
  generalize y.x.kids = kd at *
  generalize y.a = ya at *
  generalize y.c = yc at *
  have HB0 := Lib.hid (show Below w.heap.size w (w.alloc (.cells #[.int .u64 (cd : Int), .int .i64 tg, .bool kd, .slice ya ln yc] 123)) from (Below.refl _ _).alloc (Nat.le_refl _) _)
  have hg1 : (w.alloc (.cells #[.int .u64 (cd : Int), .int .i64 tg, .bool kd, .slice ya ln yc] 123)).cell? ⟨g, 0, none⟩ = some (.int .u64 (code : Int)) := by
    rw [HB0.out.cell (p := ⟨g, 0, none⟩) hlt]; exact hg
  clear hlt
  go_enter Tryz.func99, Tryz.ntmps99
  go_wp2_with fail
  go_ret
  exact ⟨by rw [← hb]; rfl, HB0.out⟩

set_option maxRecDepth 10000 in
set_option maxHeartbeats 1600000 in
theorem aindex_find {w : World} {a : Option Addr} {L : List ALay} (h : Abbs w w.heap.size a L) (c : Nat) (hl : L.length ≤ 100000) (hll : ∀ y ∈ L, y.x.l.length ≤ 9223372036854775807) (code g : Nat) (hg : w.cell? ⟨g, 0, none⟩ = some (.int .u64 (code : Int))) :
    Calls Tryz.prog 98 #[.slice a L.length c, .func (.func 99) #[] #[.pointer (some ⟨g, 0, none⟩)]] w fun r w' => r = .returned (.int .i64 (findI L code)) ∧ Below w.heap.size w w' := by
  obtain ⟨N, hN⟩ : ∃ N, L.length = N := ⟨_, rfl⟩
  have HH := Lib.hid h
  have HN := Lib.hid hN
  have hlt : g < w.heap.size := by simpa using World.block_lt_of_cell? w _ hg
  have HG := Lib.hid (fun (W : World) (hW : Below w.heap.size w W) => (show W.cell? ⟨g, 0, none⟩ = some (.int .u64 (code : Int)) by rw [hW.cell (p := ⟨g, 0, none⟩) hlt]; exact hg))
  have HLL := Lib.hid hll
  rw [hN] at hl ⊢
  clear h hN hg hlt hll
  go_enter Tryz.func98, Tryz.ntmps98
  go_wp2_with fail
  go_loopw [8] (fun i wr => ∃ k : Nat, k ≤ N ∧ i = .int .i64 k ∧ Hid (Below w.heap.size w wr) ∧ Hid ((L.take k).all (fun y => !(hasC code y)) = true)) (fun i _ => N - (intOf i).toNat)
  case atStart => exact ⟨0, Nat.zero_le _, rfl, Lib.hid (Below.refl _ _), Lib.hid rfl⟩
  case round =>
    obtain ⟨k, hk, rfl, HB, HY⟩ := hrel
    by_cases hlt : k < N
    · obtain ⟨y, hy⟩ : ∃ y, L[k]? = some y := ⟨L[k]'(by rw [HN.out]; exact hlt), List.getElem?_eq_getElem _⟩
      obtain ⟨b, o, rfl, hb, c0, c1, c2, c3⟩ := abb_at (HH.out.below HB.out) hy
      have HW := Lib.hid (find1_any (w := wr) y code g (HG.out wr HB.out))
      have hyl := HLL.out y (List.mem_of_getElem? hy)
      cases hst : hasC code y with
      | true =>
        have HF := Lib.hid (show findI L code = (k : Int) by unfold findI; rw [findK_at hy HY.out hst])
        rw [hst] at HW
        clear hy hst
        generalize y.x.l.length = ln at *
        generalize y.x.code = cd at *
        generalize y.x.tag = tg at *
        generalize y.x.kids = kd at *
        generalize y.a = ya at *
        generalize y.c = yc at *
        go_wp2_with (go_at_call 99; refine HW.out.mono ?_; rintro r w1 ⟨rfl, hb1⟩)
        have HB1 := Lib.hid (HB.out.trans (hb1.mono HB.out.size))
        go_ret
        exact ⟨by rw [HF.out]; rfl, HB1.out⟩
      | false =>
        have HF := Lib.hid (all_snoc (p := fun y => !(hasC code y)) hy HY.out (by rw [hst]; rfl))
        rw [hst] at HW
        clear hy hst
        generalize y.x.l.length = ln at *
        generalize y.x.code = cd at *
        generalize y.x.tag = tg at *
        generalize y.x.kids = kd at *
        generalize y.a = ya at *
        generalize y.c = yc at *
        go_wp2_with (go_at_call 99; refine HW.out.mono ?_; rintro r w1 ⟨rfl, hb1⟩)
        have HB1 := Lib.hid (HB.out.trans (hb1.mono HB.out.size))
        go_roundw
        case rel => exact ⟨k + 1, by omega, by go_num, HB1, HF⟩
        case measure => simp [intOf]; omega
    · have HF := Lib.hid (show findI L code = -1 by
        have := HY.out
        rw [List.take_of_length_le (by rw [HN.out]; omega)] at this
        unfold findI
        rw [findK_no this])
      go_wp2_with fail
      go_ret
      exact ⟨by rw [HF.out]; rfl, HB.out⟩

set_option maxRecDepth 10000 in
set_option maxHeartbeats 1600000 in
theorem findA_any {w : World} {a : Option Addr} {L : List ALay} (h : Abbs w w.heap.size a L) (c : Nat) (hl : L.length ≤ 100000) (hll : ∀ y ∈ L, y.x.l.length ≤ 9223372036854775807) (code : Nat) :
    Calls Tryz.prog 63 #[.slice a L.length c, .int .u64 (code : Int)] w fun r w' => ∃ z b, r = .returned (.tuple #[z, .bool b]) ∧ Found L code z b ∧ Below w.heap.size w w' := by
  generalize hw0 : w.alloc (.cells #[.int .u64 (code : Int)] 38) = w0 at *
  have hb0 : Below w.heap.size w w0 := hw0 ▸ (Below.refl _ _).alloc (Nat.le_refl _) _
  have hX0 := Box.new w 38 #[.int .u64 (code : Int)]
  rw [hw0] at hX0
  generalize hw1 : w0.alloc (.cells #[.int .u64 0, .int .i64 0, .bool false, .slice none 0 0] 123) = w1 at *
  have hb1 : Below w0.heap.size w0 w1 := hw1 ▸ (Below.refl _ _).alloc (Nat.le_refl _) _
  have hX1 := Box.new w0 123 #[.int .u64 0, .int .i64 0, .bool false, .slice none 0 0]
  rw [hw1] at hX1
  have hb01 := hb0.trans (hb1.mono hb0.size)
  have hg : w1.cell? ⟨w.heap.size, 0, none⟩ = some (.int .u64 (code : Int)) := by rw [(hX0.below hb1 hX0.lt).cell]; rfl
  have HI := Lib.hid (aindex_find (h.up hb01) c hl hll code w.heap.size hg)
  have HX1 := Lib.hid hX1
  have HB1 := Lib.hid hb01
  have HH := Lib.hid h
  have HLL := Lib.hid hll
  obtain ⟨N, hN⟩ : ∃ N, L.length = N := ⟨_, rfl⟩
  have HN := Lib.hid hN
  have hh0 : w0.heap.size = w.heap.size + 1 := by rw [← hw0]; simp
  have HH0 := Lib.hid hh0
  rw [hN] at hl HI ⊢
  have hmf : ∀ (fn : Fn) (first cap : Array Value) (W : World), (Instr.makeFunc fn first cap).run Tryz.prog W = .ok (.func fn first cap) W := fun _ _ _ _ => rfl
  clear h hll hN hb0 hb1 hb01 hX0 hX1 hh0 hg
  go_enter Tryz.func63, Tryz.ntmps63
  go_upto_region 1 with fail
  try rw [hw0, hw1]
  clear hw0 hw1
  go_upto_region 2 with (go_at_call 98; refine HI.out.mono ?_; rintro r w2 ⟨rfl, hb2⟩; have HX2 := Lib.hid (HX1.out.below hb2 HX1.out.lt); have HB2 := Lib.hid (HB1.out.trans (hb2.mono HB1.out.size)); clear hb2)
  obtain ⟨q0, q1, q2, q3⟩ := four_cells HX2.out
  obtain ⟨f0, f1, f2, f3⟩ := four_free HX2.out
  have HRF := Lib.hid (fun (v0 v1 v2 v3 : Value) => HB2.out.trans (below_of_only (B := w.heap.size) (four_only w2 w0.heap.size v0 v1 v2 v3) HB2.out.size (fun x hx => by cases hx; rw [HH0.out]; exact Nat.le_succ _)))
  cases hf : findK L code with
  | none =>
    have hi : findI L code = -1 := by unfold findI; rw [hf]
    have HF := Lib.hid hf
    rw [hi]
    clear hf hi
    generalize w0.heap.size = H at *
    go_wp2_with fail
    refine ret_two Tryz.underlying123 Tryz.results63 (four_box HX2.out rfl _ _ _ _) (by kernel_rfl) (by rfl) rfl ?_
    exact ⟨_, _, rfl, .inl ⟨HF.out, rfl, rfl⟩, HRF.out _ _ _ _⟩
  | some k =>
    have hi : findI L code = (k : Int) := by unfold findI; rw [hf]
    obtain ⟨y, hy, -⟩ := findK_get hf
    obtain ⟨b, o, rfl, hb, c0, c1, c2, c3⟩ := abb_at (HH.out.below HB2.out) hy
    have hkN : k < N := by rw [← HN.out]; exact (List.getElem?_eq_some_iff.1 hy).1
    have hyl := HLL.out y (List.mem_of_getElem? hy)
    have HF := Lib.hid hf
    have HY := Lib.hid hy
    have HV := Lib.hid (show y.val = .agg #[.int .u64 (y.x.code : Int), .int .i64 y.x.tag, .bool y.x.kids, .slice y.a y.x.l.length y.c] from rfl)
    rw [hi]
    clear hf hi hy
    generalize y.x.l.length = ln at *
    generalize y.x.code = cd at *
    generalize y.x.tag = tg at *
    generalize y.x.kids = kd at *
    generalize y.a = ya at *
    generalize y.c = yc at *
    generalize w0.heap.size = H at *
    go_wp2_with fail
    refine ret_two Tryz.underlying123 Tryz.results63 (four_box HX2.out rfl _ _ _ _) (by kernel_rfl) (by rfl) rfl ?_
    exact ⟨_, _, rfl, .inr ⟨k, y, HF.out, HY.out, rfl, HV.out.symm⟩, HRF.out _ _ _ _⟩


set_option maxRecDepth 10000 in
set_option maxHeartbeats 1600000 in
theorem rfindA_any {w : World} {a : Option Addr} {L : List ALay} (h : Abbs w w.heap.size a L) (c : Nat) (hl : L.length ≤ 100000) (hll : ∀ y ∈ L, y.x.l.length ≤ 9223372036854775807) (code : Nat) :
    Calls Tryz.prog 67 #[.slice a L.length c, .int .u64 (code : Int)] w fun r w' => ∃ z b, r = .returned (.tuple #[z, .bool b]) ∧ Found L code z b ∧ Below w.heap.size w w' := by
  generalize hw1 : w.alloc (.cells #[.int .u64 0, .int .i64 0, .bool false, .slice none 0 0] 123) = w1 at *
  have hb1 : Below w.heap.size w w1 := hw1 ▸ (Below.refl _ _).alloc (Nat.le_refl _) _
  have hX1 := Box.new w 123 #[.int .u64 0, .int .i64 0, .bool false, .slice none 0 0]
  rw [hw1] at hX1
  have HX1 := Lib.hid hX1
  have HB1 := Lib.hid hb1
  have HH := Lib.hid (h.below hb1)
  have HLL := Lib.hid hll
  obtain ⟨N, hN⟩ : ∃ N, L.length = N := ⟨_, rfl⟩
  have HN := Lib.hid hN
  rw [hN] at hl ⊢
  clear h hll hN hb1 hX1
  go_enter Tryz.func67, Tryz.ntmps67
  go_upto_region 1 with fail
  try rw [hw1]
  clear hw1
  have HRF := Lib.hid (fun (v0 v1 v2 v3 : Value) => HB1.out.trans (below_of_only (B := w.heap.size) (four_only w1 w.heap.size v0 v1 v2 v3) HB1.out.size (fun x hx => by cases hx; exact Nat.le_refl _)))
  go_wp2_with fail
  go_loopw [6] (fun i wr => ∃ k : Nat, k ≤ N ∧ i = .int .i64 k ∧ wr = w1 ∧ Hid ((L.take k).all (fun y => !(hasC code y)) = true)) (fun i _ => N - (intOf i).toNat)
  case atStart => exact ⟨0, Nat.zero_le _, rfl, rfl, Lib.hid rfl⟩
  case round =>
    obtain ⟨k, hk, rfl, rfl, HY⟩ := hrel
    obtain ⟨q0, q1, q2, q3⟩ := four_cells HX1.out
    obtain ⟨f0, f1, f2, f3⟩ := four_free HX1.out
    by_cases hlt : k < N
    · obtain ⟨y, hy⟩ : ∃ y, L[k]? = some y := ⟨L[k]'(by rw [HN.out]; exact hlt), List.getElem?_eq_getElem _⟩
      obtain ⟨b, o, rfl, hb, c0, c1, c2, c3⟩ := abb_at HH.out hy
      have hyl := HLL.out y (List.mem_of_getElem? hy)
      have hbb : ((y.x.code : Int) == (code : Int)) = hasC code y := by unfold hasC; rw [Bool.eq_iff_iff]; simp; omega
      cases hst : hasC code y with
      | true =>
        have HF := Lib.hid (findK_at hy HY.out hst)
        have HYK := Lib.hid hy
        have HV := Lib.hid (show y.val = .agg #[.int .u64 (y.x.code : Int), .int .i64 y.x.tag, .bool y.x.kids, .slice y.a y.x.l.length y.c] from rfl)
        rw [hst] at hbb
        clear hy hst
        generalize y.x.l.length = ln at *
        generalize y.x.code = cd at *
        generalize y.x.tag = tg at *
        generalize y.x.kids = kd at *
        generalize y.a = ya at *
        generalize y.c = yc at *
        go_wp2_with fail
        refine ret_two Tryz.underlying123 Tryz.results67 (four_box HX1.out rfl _ _ _ _) (by kernel_rfl) (by rfl) rfl ?_
        exact ⟨_, _, rfl, .inr ⟨k, y, HF.out, HYK.out, rfl, HV.out.symm⟩, HRF.out _ _ _ _⟩
      | false =>
        have HF := Lib.hid (all_snoc (p := fun y => !(hasC code y)) hy HY.out (by rw [hst]; rfl))
        rw [hst] at hbb
        clear hy hst
        generalize y.x.l.length = ln at *
        generalize y.x.code = cd at *
        generalize y.x.tag = tg at *
        generalize y.x.kids = kd at *
        generalize y.a = ya at *
        generalize y.c = yc at *
        go_wp2_with fail
        go_roundw
        case rel => exact ⟨k + 1, by omega, by go_num, trivial, HF⟩
        case measure => simp [intOf]; omega
    · have HF := Lib.hid (show findK L code = none by
        have := HY.out
        rw [List.take_of_length_le (by rw [HN.out]; omega)] at this
        exact findK_no this)
      go_wp2_with fail
      refine ret_two Tryz.underlying123 Tryz.results67 (four_box HX1.out rfl _ _ _ _) (by kernel_rfl) (by rfl) rfl ?_
      exact ⟨_, _, rfl, .inl ⟨HF.out, rfl, rfl⟩, HRF.out _ _ _ _⟩

end Go.Proofs.YtejicboemkpeoaaGreatDoor

namespace Go.Proofs.YtejicboemkpeoaaGreatDoor
open Go Go.RowKit Go.Maps

set_option maxRecDepth 10000 in
set_option maxHeartbeats 1600000 in
theorem bulkA_any {w : World} {B : Nat} {a : Option Addr} {L : List ALay} (h : Abbs w B a L) (c : Nat) :
    Calls Tryz.prog 15 #[.slice a L.length c, .int .i64 1500] w fun r w' => (∃ n : Int, r = .returned (.int .i64 n) ∧ (n ≤ 1500 → L.length ≤ 1500 ∧ ∀ y ∈ L, y.x.l.length ≤ 1500)) ∧ w = w' := by
  obtain ⟨N, hN⟩ : ∃ N, L.length = N := ⟨_, rfl⟩
  have HH := Lib.hid h
  have HN := Lib.hid hN
  rw [hN]
  clear h hN
  by_cases hbig : 1500 < N
  · have d : decide ((1500 : Int) < (N : Int)) = true := decide_eq_true (by omega)
    clear hbig
    go_enter Tryz.func15, Tryz.ntmps15
    go_wp2_with fail
    go_ret
    exact ⟨⟨_, rfl, fun h => absurd h (by decide)⟩, rfl⟩
  · have d : decide ((1500 : Int) < (N : Int)) = false := decide_eq_false (by omega)
    have HNB := Lib.hid (show N ≤ 1500 by omega)
    clear hbig
    go_enter Tryz.func15, Tryz.ntmps15
    go_wp2_with fail
    clear d
    have hN5 := HNB.out
    go_loopg [5, 6] N (fun gk n i wr => ∃ k m : Nat, k ≤ N ∧ gk = N - k ∧ n = .int .i64 m ∧ i = .int .i64 k ∧ m ≤ 3000 ∧ wr = w ∧ Hid (∀ j y, j < k → L[j]? = some y → y.x.l.length ≤ 1500))
    case atStart => exact ⟨0, N, Nat.zero_le _, rfl, rfl, rfl, by omega, rfl, Lib.hid (fun j y hj => by omega)⟩
    case round =>
      obtain ⟨k, m, hk, rfl, rfl, rfl, hm, rfl, HJ⟩ := hrel
      by_cases hlt : k < N
      · have HLT := Lib.hid hlt
        obtain ⟨y, hy⟩ : ∃ y, L[k]? = some y := ⟨L[k]'(by rw [HN.out]; exact hlt), List.getElem?_eq_getElem _⟩
        obtain ⟨b, o, rfl, hb, c0, c1, c2, c3⟩ := abb_at HH.out hy
        by_cases hm5 : 1500 < m
        · have d1 : decide ((1500 : Int) < (m : Int)) = true := decide_eq_true (by omega)
          clear hm5 hy
          generalize y.x.l.length = ln at *
          go_wp2_with fail
          go_ret
          exact ⟨⟨_, rfl, fun h => absurd h (by decide)⟩, rfl⟩
        · have d1 : decide ((1500 : Int) < (m : Int)) = false := decide_eq_false (by omega)
          by_cases hl5 : 1500 < y.x.l.length
          · have d2 : decide ((1500 : Int) < (y.x.l.length : Int)) = true := decide_eq_true (by omega)
            clear hm5 hy hl5
            generalize y.x.l.length = ln at *
            go_wp2_with fail
            go_ret
            exact ⟨⟨_, rfl, fun h => absurd h (by decide)⟩, rfl⟩
          · have d2 : decide ((1500 : Int) < (y.x.l.length : Int)) = false := decide_eq_false (by omega)
            have HJ2 := Lib.hid (show ∀ j z, j < k + 1 → L[j]? = some z → z.x.l.length ≤ 1500 from fun j z hj hz => by
              rcases Nat.lt_or_ge j k with h | h
              · exact HJ.out j z h hz
              · obtain rfl : j = k := by omega
                rw [hy] at hz
                injection hz with hz
                subst hz
                omega)
            have hl6 : y.x.l.length ≤ 1500 := by omega
            have hm6 : m ≤ 1500 := by omega
            clear hm5 hy hl5
            generalize y.x.l.length = ln at *
            go_wp2_with fail
            go_roundg (N - (k + 1))
            case measure => have := HLT.out; omega
            case rel => exact ⟨k + 1, m + ln, HLT.out, rfl, by go_num, by go_num, by omega, rfl, HJ2⟩
      · have HE := Lib.hid (show ∀ y ∈ L, y.x.l.length ≤ 1500 from fun y hy => by
          obtain ⟨j, hj⟩ := List.getElem?_of_mem hy
          exact HJ.out j y (by have := (List.getElem?_eq_some_iff.1 hj).1; rw [HN.out] at this; omega) hj)
        go_wp2_with fail
        go_ret
        exact ⟨⟨_, rfl, fun _ => ⟨HNB.out, HE.out⟩⟩, rfl⟩

end Go.Proofs.YtejicboemkpeoaaGreatDoor
