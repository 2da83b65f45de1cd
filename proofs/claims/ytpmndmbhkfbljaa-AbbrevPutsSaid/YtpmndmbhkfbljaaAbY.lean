/-
  AbbrevPuts' walk.
-/
import Derived.Test.YtpmndmbhkfbljaaAbS
import Derived.Test.YtpmndmbhkfbljaaSyO
import Derived.Deep.AppendLies
import Derived.Test.YtpmndmbhkfbljaaRoundRegion
import Derived.Test.YtpmndmbhkfbljaaLawA
namespace Go.Proofs.Ytpmndmbhkfbljaa
open Go Go.RowKit Go.ChangeShapes Go.WideShapes Go.Deep

theorem ao_one : Try.prog.cellsOf 48 = 1 := by kernel_rfl
theorem ao_bool : Try.prog.cellsOf 4 = 1 := by kernel_rfl
theorem ao_three : Try.prog.cellsOf 56 = 3 := by kernel_rfl
theorem ao_four : Try.prog.cellsOf 50 = 4 := by kernel_rfl
section
variable {H : Type} {enc : TypeId × Value → H} {w : World} {held : Bool} {fuel : Nat}
/-- A cell of a slice's type holds a slice. -/
theorem ao_cell {t e : TypeId} (ht : Try.prog.underlying t = some (.slice e)) {cs : List Value} {x : DataW H × List MemPlace}
    (h : DataW.trod enc Try.prog w 0 (fun _ => true) held fuel t cs = some x) : ∃ a len cap, cs = (Value.slice a len cap).cells.toList := by
  rcases open_slice ht h with ⟨e, _⟩ | ⟨a, len, cap, m, n, D, Pl, e, _⟩
  · exact ⟨none, 0, 0, e⟩
  · exact ⟨some a, len, cap, e⟩

set_option maxRecDepth 20000 in
theorem spc_of {cs : List Value} {x : DataW H × List MemPlace}
    (h : DataW.trod enc Try.prog w 0 (fun _ => true) held fuel 56 cs = some x) : ∃ y : Spc, cs = y.cells ∧ y.In := by
  obtain ⟨xs, k, _, _, hcl, hlen, hg⟩ := DataW.trod_struct Try.underlying56 h
  rw [ao_three] at hcl
  match cs, hcl, xs, hlen with
  | [c0, c1, c2], _, [y0, y1, y2], _ =>
    have g0 := hg 0 _ rfl
    have g1 := hg 1 _ rfl
    have g2 := hg 2 _ rfl
    simp [y_int, y_i64] at g0 g1 g2
    obtain ⟨z0, rfl, i0⟩ := y_int_of g0
    obtain ⟨z1, rfl, i1⟩ := y_int_of g1
    obtain ⟨z2, rfl, i2⟩ := y_i64_of g2
    exact ⟨⟨z0, z1, z2⟩, rfl, i0, i1, i2⟩

set_option maxRecDepth 20000 in
theorem spcs_of {a1 : Option Addr} {len1 cap1 : Nat} {x : DataW H × List MemPlace}
    (h : DataW.trod enc Try.prog w 0 (fun _ => true) held fuel 48 (Value.slice a1 len1 cap1).cells.toList = some x) : ∃ L : List Spc, L.length = len1 ∧ len1 ≤ 9223372036854775807 ∧ Spcs w w.heap.size a1 L ∧ ∀ y ∈ L, y.In := by
  rcases open_slice Try.underlying48 h with ⟨hcs, _⟩ | ⟨a, len, cap, m, n, D, Pl, hcs, _, hl, hcx, hmm, _, hi⟩
  · simp [Value.cells] at hcs
    obtain ⟨rfl, rfl, rfl⟩ := hcs
    exact ⟨[], rfl, by decide, fun h0 => absurd h0 (by simp), fun x hx => by cases hx⟩
  · simp [Value.cells] at hcs
    obtain ⟨rfl, rfl, rfl⟩ := hcs
    have hlm : len1 ≤ m := by rw [hmm]; simp; omega
    rw [ao_three] at hi
    obtain ⟨L, hL, hP⟩ := each_of (P := fun i (y : Spc) => (∀ (j : Nat) (v : Value), y.cells[j]? = some v → w.cell? ((a.add (i * 3)).add j) = some v) ∧ y.In) len1 (fun i hi1 => by
      obtain ⟨cs', hc, ht⟩ := hi i (by omega)
      obtain ⟨_, hcl, hat⟩ := World.cells?_some hc
      obtain ⟨y, rfl, g1⟩ := spc_of ht
      exact ⟨y, fun j v hv => by
        have hj : j < 3 := (List.getElem?_eq_some_iff.1 hv).1
        rw [hat j hj, hv], g1⟩)
    obtain ⟨h1, h2⟩ := row_of spc_three (by decide) hP
    exact ⟨L, hL, by unfold maxLen at hcx; omega, h1, h2⟩

set_option maxRecDepth 20000 in
theorem alay_of {cs : List Value} {x : DataW H × List MemPlace} (h : DataW.trod enc Try.prog w 0 (fun _ => true) held fuel 50 cs = some x) : ∃ y : ALay, cs = y.cells ∧ Spcs w w.heap.size y.a y.x.l ∧ y.Nums ∧ y.x.l.length ≤ 9223372036854775807 := by
  obtain ⟨xs, k, _, _, hcl, hlen, hg⟩ := DataW.trod_struct Try.underlying50 h
  rw [ao_four] at hcl
  match cs, hcl, xs, hlen with
  | [c0, c1, c2, c3], _, [y0, y1, y2, y3], _ =>
    have g0 := hg 0 _ rfl
    have g1 := hg 1 _ rfl
    have g2 := hg 2 _ rfl
    have g3 := hg 3 _ rfl
    simp [y_int, y_u64, ao_bool, ao_one] at g0 g1 g2 g3
    obtain ⟨z0, rfl, i0⟩ := y_nat_of g0
    obtain ⟨z1, rfl, i1⟩ := y_int_of g1
    obtain ⟨b1, hb1, _⟩ := DataW.trod_bool Try.underlying4 g2
    injection hb1 with hb1
    obtain ⟨a3, n3, k3, e3⟩ := ao_cell Try.underlying48 g3
    rw [e3] at g3
    simp only [Value.cells, List.cons.injEq, and_true] at e3
    obtain ⟨L, rfl, hm, hs, hn⟩ := spcs_of g3
    exact ⟨⟨⟨z0, z1, b1, L⟩, a3, k3⟩, by rw [hb1, e3]; rfl, hs, ⟨i0, i1, hn⟩, hm⟩

set_option maxRecDepth 20000 in
theorem abbs_of {a1 : Option Addr} {len1 cap1 : Nat} {x : DataW H × List MemPlace}
    (h : DataW.trod enc Try.prog w 0 (fun _ => true) held fuel 30 (Value.slice a1 len1 cap1).cells.toList = some x) : ∃ L : List ALay, L.length = len1 ∧ Abbs w w.heap.size a1 L ∧ ∀ y ∈ L, y.Nums := by
  rcases open_slice Try.underlying30 h with ⟨hcs, _⟩ | ⟨a, len, cap, m, n, D, Pl, hcs, _, hl, _, hmm, _, hi⟩
  · simp [Value.cells] at hcs
    obtain ⟨rfl, rfl, rfl⟩ := hcs
    exact ⟨[], rfl, ⟨fun h0 => absurd h0 (by simp), fun x hx => by cases hx⟩, fun x hx => by cases hx⟩
  · simp [Value.cells] at hcs
    obtain ⟨rfl, rfl, rfl⟩ := hcs
    have hlm : len1 ≤ m := by rw [hmm]; simp; omega
    rw [ao_four] at hi
    obtain ⟨L, hL, hP⟩ := each_of (P := fun i (y : ALay) => (∀ (j : Nat) (v : Value), y.cells[j]? = some v → w.cell? ((a.add (i * 4)).add j) = some v) ∧ Spcs w w.heap.size y.a y.x.l ∧ y.Nums) len1 (fun i hi1 => by
      obtain ⟨cs', hc, ht⟩ := hi i (by omega)
      obtain ⟨_, hcl, hat⟩ := World.cells?_some hc
      obtain ⟨y, rfl, g1, g2, -⟩ := alay_of ht
      exact ⟨y, fun j v hv => by
        have hj : j < 4 := (List.getElem?_eq_some_iff.1 hv).1
        rw [hat j hj, hv], g1, g2⟩)
    obtain ⟨h1, h2⟩ := row_of (P := fun (y : ALay) => Spcs w w.heap.size y.a y.x.l ∧ y.Nums) abb_four (by decide) hP
    exact ⟨L, hL, ⟨h1, fun y hy => (h2 y hy).1⟩, fun y hy => (h2 y hy).2⟩
end

section
variable {H : Type} {enc : TypeId × Value → H} {w : World}
end

end Go.Proofs.Ytpmndmbhkfbljaa

namespace Go.Proofs.Ytpmndmbhkfbljaa
open Go Go.RowKit

section
variable {P : Program}
variable {α : Type} {f : α → List Value} {w X : World} {ops : Array Oper} {o : Oper} {a : Act} {K : Act → World → Prop} {Q : Exit → Act → World → Prop} {E : Prop}
end
theorem oneL_self (y : ALay) : oneL y y = true := (oneB_iff _ _).2 rfl

end Go.Proofs.Ytpmndmbhkfbljaa

namespace Go.Proofs.Ytpmndmbhkfbljaa
open Go Go.RowKit

theorem calls_found {f : FuncId} {xs : Array Value} {w : World} {L : List ALay} {code k : Nat} {y : ALay} (h : Calls Try.prog f xs w fun r w' => ∃ z b, r = .returned (.tuple #[z, .bool b]) ∧ Found L code z b ∧ Below w.heap.size w w') (hk : findK L code = some k) (hy : L[k]? = some y) :
    Calls Try.prog f xs w fun r w' => r = .returned (.tuple #[.agg #[.int .u64 (y.x.code : Int), .int .i64 y.x.tag, .bool y.x.kids, .slice y.a y.x.l.length y.c], .bool true]) ∧ Below w.heap.size w w' :=
  h.mono fun r w' hh => by
    obtain ⟨z, b, rfl, hf, hb⟩ := hh
    rcases hf with ⟨e, _⟩ | ⟨k', y', e, e2, rfl, rfl⟩
    · rw [hk] at e; cases e
    · rw [hk] at e
      injection e with e
      subst e
      rw [hy] at e2
      injection e2 with e2
      subst e2
      exact ⟨rfl, hb⟩
theorem calls_lost {f : FuncId} {xs : Array Value} {w : World} {L : List ALay} {code : Nat} (h : Calls Try.prog f xs w fun r w' => ∃ z b, r = .returned (.tuple #[z, .bool b]) ∧ Found L code z b ∧ Below w.heap.size w w') (hk : findK L code = none) :
    Calls Try.prog f xs w fun r w' => r = .returned (.tuple #[.agg #[.int .u64 0, .int .i64 0, .bool false, .slice none 0 0], .bool false]) ∧ Below w.heap.size w w' :=
  h.mono fun r w' hh => by
    obtain ⟨z, b, rfl, hf, hb⟩ := hh
    rcases hf with ⟨_, rfl, rfl⟩ | ⟨k', y', e, _⟩
    · exact ⟨rfl, hb⟩
    · rw [hk] at e; cases e
theorem one_self {w : World} (y : ALay) (hy : Spcs w w.heap.size y.a y.x.l) (hl : y.x.l.length ≤ 9223372036854775807) :
    Calls Try.prog 21 #[.agg #[.int .u64 (y.x.code : Int), .int .i64 y.x.tag, .bool y.x.kids, .slice y.a y.x.l.length y.c], .agg #[.int .u64 (y.x.code : Int), .int .i64 y.x.tag, .bool y.x.kids, .slice y.a y.x.l.length y.c]] w fun r w' => r = .returned (.bool true) ∧ Below w.heap.size w w' := by
  have := one_any y y hy hy hl
  rwa [oneL_self] at this

end Go.Proofs.Ytpmndmbhkfbljaa

namespace Go.Proofs.Ytpmndmbhkfbljaa
open Go Go.RowKit

theorem one_none {w : World} :
    Calls Try.prog 21 #[.agg #[.int .u64 0, .int .i64 0, .bool false, .slice none 0 0], .agg #[.int .u64 0, .int .i64 0, .bool false, .slice none 0 0]] w fun r w' => r = .returned (.bool true) ∧ Below w.heap.size w w' :=
  one_self (w := w) ⟨⟨0, 0, false, []⟩, none, 0⟩ (fun h => absurd h (by decide)) (by decide)

set_option maxRecDepth 10000 in
set_option maxHeartbeats 6400000 in
theorem aputs_walk (a0 : Option Addr) (c0 : Nat) (L : List ALay) (a1 : Option Addr) (len1 cap1 : Nat) (z1 : List Int) (code : Nat) (w : World) (h0 : Abbs w w.heap.size a0 L) (hn : ∀ y ∈ L, y.Nums) (w1 : IsRow .u8 w a1 len1 cap1 z1) :
    Calls Try.prog 4 #[.slice a0 L.length c0, .slice a1 len1 cap1, .int .u64 (code : Int)] w fun r w' => r = .returned (.bool true) ∧ Below w.heap.size w w' := by
  obtain ⟨bl, hlen, hrd, hlc, hcm⟩ := row_bytes w1
  clear w1
  obtain ⟨i0, hi, hz0, hz1, hz2⟩ := info_parts u8_info
  have HAB := Lib.hid h0
  have HNU := Lib.hid hn
  have HRD := Lib.hid hrd
  have HTL := Lib.hid hlen
  have HWK := Lib.hid (fun W => works13_any W)
  have HBK := Lib.hid (bulkA_any (w := w) h0 c0)
  obtain ⟨N, hN⟩ : ∃ N, L.length = N := ⟨_, rfl⟩
  have HN := Lib.hid hN
  rw [hN] at HBK ⊢
  clear h0 hn hrd hlc hcm hN
  go_enter Try.func4, Try.ntmps4
  go_wp2_with fail
  refine HBK.out.mono ?_
  rintro r w3 ⟨⟨n, rfl, hnb⟩, rfl⟩
  have HNB := Lib.hid hnb
  clear hnb HBK
  by_cases hn5 : 1500 < n
  · have d5 : decide ((1500 : Int) < n) = true := decide_eq_true hn5
    clear hn5
    go_wp2_with (go_at_call 5; refine (HWK.out _).mono ?_; rintro r w4 ⟨rfl, hb4⟩; have HB4 := Lib.hid hb4; clear hb4)
    go_ret
    exact ⟨rfl, HB4.out⟩
  have d5 : decide ((1500 : Int) < n) = false := decide_eq_false hn5
  obtain ⟨hl5, hs5⟩ := HNB.out (by omega)
  clear hn5 HNB
  by_cases hbig : 3000 < len1
  · have d : decide ((3000 : Int) < (len1 : Int)) = true := decide_eq_true (by omega)
    clear hbig hlen
    go_wp2_with (go_at_call 5; refine (HWK.out _).mono ?_; rintro r w4 ⟨rfl, hb4⟩; have HB4 := Lib.hid hb4; clear hb4)
    go_ret
    exact ⟨rfl, HB4.out⟩
  have d : decide ((3000 : Int) < (len1 : Int)) = false := decide_eq_false (by omega)
  have HT2 := Lib.hid (show len1 ≤ 3000 by omega)
  have HL5 := Lib.hid hl5
  have HS5 := Lib.hid hs5
  have HIN := Lib.hid (show ∀ y ∈ L, y.x.In from fun y hy => nums_in (HNU.out y hy) (hs5 y hy))
  have hsm1 : ([] : List UInt8).length + bl.length ≤ 140737488355328 := by rw [hlen]; simp; omega
  have hblen : ([] ++ bl : List UInt8).length ≤ 140737487000000 := by rw [List.nil_append, hlen]; omega
  clear hbig hl5 hs5
  obtain ⟨rr, hrr⟩ : ∃ rr, rightA (absOf L) = rr := ⟨_, rfl⟩
  have HRR := Lib.hid hrr
  have HPE : putAE (absOf L) = if rr = true then 0 else 2 := by rw [← hrr]; rfl
  obtain ⟨T, hT⟩ : ∃ T, tabB (absOf L) = T := ⟨_, rfl⟩
  have HTT := Lib.hid hT
  have HP := Lib.hid (fun W v (hO : Own W w.heap.size v ([] ++ bl)) (hb : Below w.heap.size w W) => (by
    have := putA_any hO hb.size (HAB.out.below hb) c0 (by rw [HN.out]; have := HL5.out; omega) HIN.out hblen
    rwa [hrr, HPE, hT, HN.out] at this : Calls Try.prog 15 #[v, .slice a0 N c0] W fun r w' => ∃ v', r = .returned (.tuple #[v', .int .i64 (if rr = true then 0 else 2)]) ∧ (rr = true → Laid W w' w.heap.size v v' ([] ++ bl ++ T)) ∧ (rr = false → v' = .slice none 0 0 ∧ Below W.heap.size W w')))
  have HQ := Lib.hid (fun W (hb : Below w.heap.size w W) => (by
    have := rputA_any (HAB.out.up hb) c0 (by rw [HN.out]; have := HL5.out; omega) HIN.out
    rwa [hrr, HPE, hT, HN.out] at this : Calls Try.prog 16 #[.slice a0 N c0] W fun r w' => ∃ v', r = .returned (.tuple #[v', .int .i64 (if rr = true then 0 else 2)]) ∧ Own w' W.heap.size v' (if rr = true then T else []) ∧ Below W.heap.size W w'))
  have HR1 := Lib.hid (fun W (hb : Below w.heap.size w W) => (by
    have := rightA_any (HAB.out.up hb) c0 (by rw [HN.out]; have := HL5.out; omega) (lays_in HIN.out)
    rwa [hrr, HN.out] at this : Calls Try.prog 17 #[.slice a0 N c0] W fun r w' => r = .returned (.bool rr) ∧ Below W.heap.size W w'))
  have HR2 := Lib.hid (fun W (hb : Below w.heap.size w W) => (by
    have := rrightA_any (HAB.out.up hb) c0 (by rw [HN.out]; have := HL5.out; omega) (lays_in HIN.out)
    rwa [hrr, HN.out] at this : Calls Try.prog 18 #[.slice a0 N c0] W fun r w' => r = .returned (.bool rr) ∧ Below W.heap.size W w'))
  have HF1 := Lib.hid (fun W (hW : Below w.heap.size w W) => (by
    have := findA_any (HAB.out.up hW) c0 (by rw [HN.out]; have := HL5.out; omega) (fun y hy => by have := HS5.out y hy; omega) code
    rwa [HN.out] at this : Calls Try.prog 19 #[.slice a0 N c0, .int .u64 (code : Int)] W fun r w' => ∃ z b, r = .returned (.tuple #[z, .bool b]) ∧ Found L code z b ∧ Below W.heap.size W w'))
  have HF2 := Lib.hid (fun W (hW : Below w.heap.size w W) => (by
    have := rfindA_any (HAB.out.up hW) c0 (by rw [HN.out]; have := HL5.out; omega) (fun y hy => by have := HS5.out y hy; omega) code
    rwa [HN.out] at this : Calls Try.prog 20 #[.slice a0 N c0, .int .u64 (code : Int)] W fun r w' => ∃ z b, r = .returned (.tuple #[z, .bool b]) ∧ Found L code z b ∧ Below W.heap.size W w'))
  have HTLN := Lib.hid (show rr = true → T.length ≤ 400000 from fun hr => by
    obtain ⟨h3, hall, -⟩ := rightA_spec (hrr.trans hr)
    have := abbsB_len hall (fun x hx => by obtain ⟨y, hy, rfl⟩ := List.mem_map.1 hx; exact HIN.out y hy)
    rw [← hT]
    unfold tabB
    rw [List.length_append]
    have : ([0] : List UInt8).length = 1 := rfl
    omega)
  have HE0 := Lib.hid (own_new w)
  have HA0 := Lib.hid ((Below.refl w.heap.size w).alloc (Nat.le_refl _) (.cells #[] 5))
  have HRDa := Lib.hid (HRD.out.below HA0.out)
  have hbz : w.heap.size ≤ (w.alloc (.cells #[] 5)).heap.size := HA0.out.size
  clear HPE hT hrr HIN HRR HTT hlen hblen
  have hq : ∀ b : Bool, (b != b) = false := fun b => by cases b <;> rfl
  cases rr with
  | false =>
    go_upto_region 4 with (first
      | (at_builtin; refine wpList_append_bytes (by rfl) (.tmp 25) (.tmp 26) _ (by rfl) w.heap.size i0 Try.underlying22 hi hz0 hz1 hz2 _ [] (by rfl) HE0.out w.heap.size a1 len1 cap1 bl HTL.out (by rfl) HRDa.out hsm1 hbz ?_; intro v1 w1 hown1 hg1 hat1; have HO1 := Lib.hid hown1; have HB1 := Lib.hid (show Below w.heap.size w w1 from HA0.out.trans (below_of_only hg1 hbz (fun k hk => by simp [Value.ownBlock] at hk; omega))); clear hown1 hg1 hat1)
      | (go_at_call 15; refine (HP.out _ _ HO1.out HB1.out).mono ?_; rintro r w2 ⟨v2, rfl, -, hf2⟩; (obtain ⟨rfl, hb2⟩ := hf2 (by first | rfl | trivial)); have HB2 := Lib.hid (HB1.out.trans (hb2.mono HB1.out.size)); clear hf2 hb2))
    go_upto_region 5 with (go_at_call 16; refine (HQ.out _ HB2.out).mono ?_; rintro r w3 ⟨v3, rfl, hO3, hb3⟩; have HO3 := Lib.hid hO3; have HB23 := Lib.hid hb3; clear hO3 hb3)
    have HB3 := Lib.hid (HB2.out.trans (HB23.out.mono HB2.out.size))
    have HRG := Lib.hid (fun W (hW : Below w3.heap.size w3 W) => HR1.out W (HB3.out.trans (hW.mono HB3.out.size)))
    have HRR3 := Lib.hid (fun W (hW : Below w3.heap.size w3 W) => HR2.out W (HB3.out.trans (hW.mono HB3.out.size)))
    have KS := Lib.hid (fun X (hX : Below w3.heap.size w3 X) => (⟨hX, trivial⟩ : Below w3.heap.size w3 X ∧ True))
    have hrf := Below.refl w3.heap.size w3
    clear HP HQ HE0 HA0 HRDa hbz hsm1 d d5
    go_upto_region 7 with (first
      | (go_at_call 17; refine (HRG.out _ hrf).mono ?_; rintro r w4 ⟨rfl, hb4⟩; have HX4 := Lib.hid hb4; clear hb4)
      | (go_at_call 18; refine (HRR3.out _ HX4.out).mono ?_; rintro r w5 ⟨rfl, hb5⟩; have HX5 := Lib.hid (HX4.out.trans (hb5.mono HX4.out.size)); clear hb5))
    have HB5 := Lib.hid (HB3.out.trans (HX5.out.mono HB3.out.size))
    clear HRG HRR3 KS HR1 HR2 HX5
    cases hf : findK L code with
    | some k =>
      obtain ⟨y, hy, -⟩ := findK_get hf
      have hym := List.mem_of_getElem? hy
      have FN1 := Lib.hid (fun W (hW : Below w.heap.size w W) => calls_found (HF1.out W hW) hf hy)
      have FN2 := Lib.hid (fun W (hW : Below w.heap.size w W) => calls_found (HF2.out W hW) hf hy)
      have ON := Lib.hid (fun W (hW : Below w.heap.size w W) => one_self (w := W) y (Row.more (Row.below (HAB.out.spcs y hym) hW) hW.size) (by have := HS5.out y hym; omega))
      clear hf hy hym HF1 HF2
      generalize y.x.l.length = yn at *
      generalize y.x.code = cd at *
      generalize y.x.tag = tg at *
      generalize y.x.kids = kd at *
      generalize y.a = ya at *
      generalize y.c = yc at *
      go_upto_region 8 with (go_at_call 19; refine (FN1.out _ HB5.out).mono ?_; rintro r w6 ⟨rfl, hb6⟩; have HB6 := Lib.hid (HB5.out.trans (hb6.mono HB5.out.size)); clear hb6)
      have hX7 := Box.new w6 50 #[.int .u64 (cd : Int), .int .i64 tg, .bool kd, .slice ya yn yc]
      have hb7 : Below w6.heap.size w6 (w6.alloc (.cells #[.int .u64 (cd : Int), .int .i64 tg, .bool kd, .slice ya yn yc] 50)) := (Below.refl _ _).alloc (Nat.le_refl _) _
      generalize hw7 : w6.alloc (.cells #[.int .u64 (cd : Int), .int .i64 tg, .bool kd, .slice ya yn yc] 50) = w7 at *
      clear hw7
      have HB7 := Lib.hid (HB6.out.trans (hb7.mono HB6.out.size))
      go_upto_region 9 with (go_at_call 20; refine (FN2.out _ HB7.out).mono ?_; rintro r w8 ⟨rfl, hb8⟩; have HB8 := Lib.hid (HB7.out.trans (hb8.mono HB7.out.size)))
      have hX9 := Box.new w8 50 #[.int .u64 (cd : Int), .int .i64 tg, .bool kd, .slice ya yn yc]
      have hb9 : Below w8.heap.size w8 (w8.alloc (.cells #[.int .u64 (cd : Int), .int .i64 tg, .bool kd, .slice ya yn yc] 50)) := (Below.refl _ _).alloc (Nat.le_refl _) _
      have hX7' := (hX7.below hb8 hX7.lt).below hb9 (Nat.lt_of_lt_of_le hX7.lt hb8.size)
      generalize hw9 : w8.alloc (.cells #[.int .u64 (cd : Int), .int .i64 tg, .bool kd, .slice ya yn yc] 50) = w9 at *
      clear hw9
      have HB9 := Lib.hid (HB8.out.trans (hb9.mono HB8.out.size))
      obtain ⟨q0, q1, q2, q3⟩ := four_cells hX7'
      obtain ⟨s0, s1, s2, s3⟩ := four_cells hX9
      clear hb7 hb8 hb9 hX7 hX9 hX7'
      go_wp2_with (first
        | (go_at_call 21; refine (ON.out _ HB9.out).mono ?_; rintro r w10 ⟨rfl, hb10⟩; have HB10 := Lib.hid (HB9.out.trans (hb10.mono HB9.out.size)); clear hb10)
        | (go_at_call 5; refine (HWK.out _).mono ?_; rintro r w11 ⟨rfl, hb11⟩; have HB11 := Lib.hid (HB10.out.trans (hb11.mono HB10.out.size)); clear hb11))
      go_ret
      exact ⟨rfl, HB11.out⟩
    | none =>
      have FN1 := Lib.hid (fun W (hW : Below w.heap.size w W) => calls_lost (HF1.out W hW) hf)
      have FN2 := Lib.hid (fun W (hW : Below w.heap.size w W) => calls_lost (HF2.out W hW) hf)
      have ON := Lib.hid (fun W (_ : Below w.heap.size w W) => one_none (w := W))
      clear hf HF1 HF2
      go_upto_region 8 with (go_at_call 19; refine (FN1.out _ HB5.out).mono ?_; rintro r w6 ⟨rfl, hb6⟩; have HB6 := Lib.hid (HB5.out.trans (hb6.mono HB5.out.size)); clear hb6)
      have hX7 := Box.new w6 50 #[.int .u64 0, .int .i64 0, .bool false, .slice none 0 0]
      have hb7 : Below w6.heap.size w6 (w6.alloc (.cells #[.int .u64 0, .int .i64 0, .bool false, .slice none 0 0] 50)) := (Below.refl _ _).alloc (Nat.le_refl _) _
      generalize hw7 : w6.alloc (.cells #[.int .u64 0, .int .i64 0, .bool false, .slice none 0 0] 50) = w7 at *
      clear hw7
      have HB7 := Lib.hid (HB6.out.trans (hb7.mono HB6.out.size))
      go_upto_region 9 with (go_at_call 20; refine (FN2.out _ HB7.out).mono ?_; rintro r w8 ⟨rfl, hb8⟩; have HB8 := Lib.hid (HB7.out.trans (hb8.mono HB7.out.size)))
      have hX9 := Box.new w8 50 #[.int .u64 0, .int .i64 0, .bool false, .slice none 0 0]
      have hb9 : Below w8.heap.size w8 (w8.alloc (.cells #[.int .u64 0, .int .i64 0, .bool false, .slice none 0 0] 50)) := (Below.refl _ _).alloc (Nat.le_refl _) _
      have hX7' := (hX7.below hb8 hX7.lt).below hb9 (Nat.lt_of_lt_of_le hX7.lt hb8.size)
      generalize hw9 : w8.alloc (.cells #[.int .u64 0, .int .i64 0, .bool false, .slice none 0 0] 50) = w9 at *
      clear hw9
      have HB9 := Lib.hid (HB8.out.trans (hb9.mono HB8.out.size))
      obtain ⟨q0, q1, q2, q3⟩ := four_cells hX7'
      obtain ⟨s0, s1, s2, s3⟩ := four_cells hX9
      clear hb7 hb8 hb9 hX7 hX9 hX7'
      go_wp2_with (first
        | (go_at_call 21; refine (ON.out _ HB9.out).mono ?_; rintro r w10 ⟨rfl, hb10⟩; have HB10 := Lib.hid (HB9.out.trans (hb10.mono HB9.out.size)); clear hb10)
        | (go_at_call 5; refine (HWK.out _).mono ?_; rintro r w11 ⟨rfl, hb11⟩; have HB11 := Lib.hid (HB10.out.trans (hb11.mono HB10.out.size)); clear hb11))
      go_ret
      exact ⟨rfl, HB11.out⟩
  | true =>
    go_upto_region 4 with (first
      | (at_builtin; refine wpList_append_bytes (by rfl) (.tmp 25) (.tmp 26) _ (by rfl) w.heap.size i0 Try.underlying22 hi hz0 hz1 hz2 _ [] (by rfl) HE0.out w.heap.size a1 len1 cap1 bl HTL.out (by rfl) HRDa.out hsm1 hbz ?_; intro v1 w1 hown1 hg1 hat1; have HO1 := Lib.hid hown1; have HB1 := Lib.hid (show Below w.heap.size w w1 from HA0.out.trans (below_of_only hg1 hbz (fun k hk => by simp [Value.ownBlock] at hk; omega))); clear hown1 hg1 hat1)
      | (go_at_call 15; refine (HP.out _ _ HO1.out HB1.out).mono ?_; rintro r w2 ⟨v2, rfl, hL2, -⟩; have HL2 := Lib.hid (hL2 (by first | rfl | trivial)); clear hL2))
    have HB2 := Lib.hid (HB1.out.trans (laid_under HO1.out HB1.out.size HL2.out))
    have HO2 := Lib.hid HL2.out.1
    obtain ⟨A2, c2, rfl, -, -, -⟩ := own_slice HO2.out
    obtain ⟨n2, hn2⟩ : ∃ n, ([] ++ bl ++ T).length = n := ⟨_, rfl⟩
    rw [hn2]
    have HO2 := Lib.hid (by have := HO2.out; rwa [hn2] at this : Own w2 w.heap.size (.slice A2 n2 c2) ([] ++ bl ++ T))
    clear hn2 HL2
    go_upto_region 5 with (go_at_call 16; refine (HQ.out _ HB2.out).mono ?_; rintro r w3 ⟨v3, rfl, hO3, hb3⟩; have HO3 := Lib.hid hO3; have HB23 := Lib.hid hb3; clear hO3 hb3)
    have HB3 := Lib.hid (HB2.out.trans (HB23.out.mono HB2.out.size))
    have HRG := Lib.hid (fun W (hW : Below w3.heap.size w3 W) => HR1.out W (HB3.out.trans (hW.mono HB3.out.size)))
    have HRR3 := Lib.hid (fun W (hW : Below w3.heap.size w3 W) => HR2.out W (HB3.out.trans (hW.mono HB3.out.size)))
    rw [if_pos trivial] at HO3
    have hT4 := HTLN.out (by first | rfl | trivial)
    obtain ⟨A3, c3, rfl, -, -, -⟩ := own_slice HO3.out
    obtain ⟨n3, hn3⟩ : ∃ n, T.length = n := ⟨_, rfl⟩
    rw [hn3] at hT4 ⊢
    have HO3 := Lib.hid (by have := HO3.out; rwa [hn3] at this : Own w3 w2.heap.size (.slice A3 n3 c3) T)
    obtain ⟨sX, hsX⟩ : ∃ s : ByteArray, s = ⟨([] ++ bl ++ T).toArray⟩ := ⟨_, rfl⟩
    obtain ⟨sB, hsB⟩ : ∃ s : ByteArray, s = ⟨bl.toArray⟩ := ⟨_, rfl⟩
    obtain ⟨sT, hsT⟩ : ∃ s : ByteArray, s = ⟨T.toArray⟩ := ⟨_, rfl⟩
    have hno : ¬ (9223372036854775807 < sB.size + sT.size) := by
      have h1 := HTL.out
      have h2 := HT2.out
      subst hsB hsT
      simp [ByteArray.size]; omega
    have heq : (sX.toList == (sB ++ sT).toList) = true := by
      subst hsX hsB hsT
      simp [ByteArray.mk_append_mk]
    have hne : (sX.toList != (sB ++ sT).toList) = false := by rw [bne, heq]; rfl
    have KS := Lib.hid (fun X (hX : Below w3.heap.size w3 X) => (⟨hX, conv_as hsX (conv_own (own_below (own_below HO2.out HB23.out) hX)), (by have := conv_rd (HRD.out.below (HB3.out.trans (hX.mono HB3.out.size))) cap1; rw [HTL.out] at this; exact conv_as hsB this), conv_as hsT (conv_own (own_below HO3.out hX))⟩ : Below w3.heap.size w3 X ∧ (convert 22 9 (.slice A2 n2 c2)).run Try.prog X = .ok (.string sX) X ∧ (convert 22 9 (.slice a1 len1 cap1)).run Try.prog X = .ok (.string sB) X ∧ (convert 22 9 (.slice A3 n3 c3)).run Try.prog X = .ok (.string sT) X))
    clear hn3 hsX hsB hsT hT4
    have hrf := Below.refl w3.heap.size w3
    clear HP HQ HE0 HA0 HRDa hbz hsm1 d d5
    obtain ⟨-, cvx, cvb, cvt⟩ := KS.out _ hrf
    go_upto_region 7 with (first
      | (go_at_call 17; refine (HRG.out _ hrf).mono ?_; rintro r w4 ⟨rfl, hb4⟩; have HX4 := Lib.hid hb4; clear hb4)
      | (go_at_call 18; refine (HRR3.out _ HX4.out).mono ?_; rintro r w5 ⟨rfl, hb5⟩; have HX5 := Lib.hid (HX4.out.trans (hb5.mono HX4.out.size)); clear hb5))
    have HB5 := Lib.hid (HB3.out.trans (HX5.out.mono HB3.out.size))
    clear HRG HRR3 KS HR1 HR2 HX5
    cases hf : findK L code with
    | some k =>
      obtain ⟨y, hy, -⟩ := findK_get hf
      have hym := List.mem_of_getElem? hy
      have FN1 := Lib.hid (fun W (hW : Below w.heap.size w W) => calls_found (HF1.out W hW) hf hy)
      have FN2 := Lib.hid (fun W (hW : Below w.heap.size w W) => calls_found (HF2.out W hW) hf hy)
      have ON := Lib.hid (fun W (hW : Below w.heap.size w W) => one_self (w := W) y (Row.more (Row.below (HAB.out.spcs y hym) hW) hW.size) (by have := HS5.out y hym; omega))
      clear hf hy hym HF1 HF2
      generalize y.x.l.length = yn at *
      generalize y.x.code = cd at *
      generalize y.x.tag = tg at *
      generalize y.x.kids = kd at *
      generalize y.a = ya at *
      generalize y.c = yc at *
      go_upto_region 8 with (go_at_call 19; refine (FN1.out _ HB5.out).mono ?_; rintro r w6 ⟨rfl, hb6⟩; have HB6 := Lib.hid (HB5.out.trans (hb6.mono HB5.out.size)); clear hb6)
      have hX7 := Box.new w6 50 #[.int .u64 (cd : Int), .int .i64 tg, .bool kd, .slice ya yn yc]
      have hb7 : Below w6.heap.size w6 (w6.alloc (.cells #[.int .u64 (cd : Int), .int .i64 tg, .bool kd, .slice ya yn yc] 50)) := (Below.refl _ _).alloc (Nat.le_refl _) _
      generalize hw7 : w6.alloc (.cells #[.int .u64 (cd : Int), .int .i64 tg, .bool kd, .slice ya yn yc] 50) = w7 at *
      clear hw7
      have HB7 := Lib.hid (HB6.out.trans (hb7.mono HB6.out.size))
      go_upto_region 9 with (go_at_call 20; refine (FN2.out _ HB7.out).mono ?_; rintro r w8 ⟨rfl, hb8⟩; have HB8 := Lib.hid (HB7.out.trans (hb8.mono HB7.out.size)))
      have hX9 := Box.new w8 50 #[.int .u64 (cd : Int), .int .i64 tg, .bool kd, .slice ya yn yc]
      have hb9 : Below w8.heap.size w8 (w8.alloc (.cells #[.int .u64 (cd : Int), .int .i64 tg, .bool kd, .slice ya yn yc] 50)) := (Below.refl _ _).alloc (Nat.le_refl _) _
      have hX7' := (hX7.below hb8 hX7.lt).below hb9 (Nat.lt_of_lt_of_le hX7.lt hb8.size)
      generalize hw9 : w8.alloc (.cells #[.int .u64 (cd : Int), .int .i64 tg, .bool kd, .slice ya yn yc] 50) = w9 at *
      clear hw9
      have HB9 := Lib.hid (HB8.out.trans (hb9.mono HB8.out.size))
      obtain ⟨q0, q1, q2, q3⟩ := four_cells hX7'
      obtain ⟨s0, s1, s2, s3⟩ := four_cells hX9
      clear hb7 hb8 hb9 hX7 hX9 hX7'
      go_wp2_with (first
        | (go_at_call 21; refine (ON.out _ HB9.out).mono ?_; rintro r w10 ⟨rfl, hb10⟩; have HB10 := Lib.hid (HB9.out.trans (hb10.mono HB9.out.size)); clear hb10)
        | (go_at_call 5; refine (HWK.out _).mono ?_; rintro r w11 ⟨rfl, hb11⟩; have HB11 := Lib.hid (HB10.out.trans (hb11.mono HB10.out.size)); clear hb11))
      go_ret
      exact ⟨rfl, HB11.out⟩
    | none =>
      have FN1 := Lib.hid (fun W (hW : Below w.heap.size w W) => calls_lost (HF1.out W hW) hf)
      have FN2 := Lib.hid (fun W (hW : Below w.heap.size w W) => calls_lost (HF2.out W hW) hf)
      have ON := Lib.hid (fun W (_ : Below w.heap.size w W) => one_none (w := W))
      clear hf HF1 HF2
      go_upto_region 8 with (go_at_call 19; refine (FN1.out _ HB5.out).mono ?_; rintro r w6 ⟨rfl, hb6⟩; have HB6 := Lib.hid (HB5.out.trans (hb6.mono HB5.out.size)); clear hb6)
      have hX7 := Box.new w6 50 #[.int .u64 0, .int .i64 0, .bool false, .slice none 0 0]
      have hb7 : Below w6.heap.size w6 (w6.alloc (.cells #[.int .u64 0, .int .i64 0, .bool false, .slice none 0 0] 50)) := (Below.refl _ _).alloc (Nat.le_refl _) _
      generalize hw7 : w6.alloc (.cells #[.int .u64 0, .int .i64 0, .bool false, .slice none 0 0] 50) = w7 at *
      clear hw7
      have HB7 := Lib.hid (HB6.out.trans (hb7.mono HB6.out.size))
      go_upto_region 9 with (go_at_call 20; refine (FN2.out _ HB7.out).mono ?_; rintro r w8 ⟨rfl, hb8⟩; have HB8 := Lib.hid (HB7.out.trans (hb8.mono HB7.out.size)))
      have hX9 := Box.new w8 50 #[.int .u64 0, .int .i64 0, .bool false, .slice none 0 0]
      have hb9 : Below w8.heap.size w8 (w8.alloc (.cells #[.int .u64 0, .int .i64 0, .bool false, .slice none 0 0] 50)) := (Below.refl _ _).alloc (Nat.le_refl _) _
      have hX7' := (hX7.below hb8 hX7.lt).below hb9 (Nat.lt_of_lt_of_le hX7.lt hb8.size)
      generalize hw9 : w8.alloc (.cells #[.int .u64 0, .int .i64 0, .bool false, .slice none 0 0] 50) = w9 at *
      clear hw9
      have HB9 := Lib.hid (HB8.out.trans (hb9.mono HB8.out.size))
      obtain ⟨q0, q1, q2, q3⟩ := four_cells hX7'
      obtain ⟨s0, s1, s2, s3⟩ := four_cells hX9
      clear hb7 hb8 hb9 hX7 hX9 hX7'
      go_wp2_with (first
        | (go_at_call 21; refine (ON.out _ HB9.out).mono ?_; rintro r w10 ⟨rfl, hb10⟩; have HB10 := Lib.hid (HB9.out.trans (hb10.mono HB9.out.size)); clear hb10)
        | (go_at_call 5; refine (HWK.out _).mono ?_; rintro r w11 ⟨rfl, hb11⟩; have HB11 := Lib.hid (HB10.out.trans (hb11.mono HB10.out.size)); clear hb11))
      go_ret
      exact ⟨rfl, HB11.out⟩


theorem aputs_card (a0 : Option Addr) (c0 : Nat) (L : List ALay) (a1 : Option Addr) (len1 cap1 : Nat) (z1 : List Int) (n2 : Int) (w : World) (h0 : Abbs w w.heap.size a0 L ∧ ∀ y ∈ L, y.Nums) (w1 : IsRow .u8 w a1 len1 cap1 z1) (w2 : (Lit.int .u64 n2).wf = true) :
    Calls Try.prog 4 #[.slice a0 L.length c0, .slice a1 len1 cap1, .int .u64 n2] w fun r w' => r = .returned (.bool true) ∧ Below w.heap.size w w' := by
  obtain ⟨n, rfl, hn⟩ := nat_of_u64 w2
  exact aputs_walk a0 c0 L a1 len1 cap1 z1 n w h0.1 h0.2 w1

end Go.Proofs.Ytpmndmbhkfbljaa
