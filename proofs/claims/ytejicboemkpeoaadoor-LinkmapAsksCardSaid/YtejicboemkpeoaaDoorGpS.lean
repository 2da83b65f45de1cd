/-
  The statements' own helpers: groups and objects turned into the other's (told, Objects); are objects too great (Great)?
-/
import Derived.Test.YtejicboemkpeoaaDoorOcC
import Derived.Test.YtejicboemkpeoaaDoorCsL
import Derived.ProofKit
import Derived.OpenShut
import Derived.Deep.Slices
import Derived.Test.YtejicboemkpeoaaDoorObT
import Derived.Test.YtejicboemkpeoaaDoorSeY
import Derived.Test.YtejicboemkpeoaaDoorSyI
import Derived.Deep.DeepCutAuto
import Derived.Deep.LoopGhost
import Derived.Test.YtejicboemkpeoaaDoorLnK
import Derived.Test.YtejicboemkpeoaaDoorGpI
import Derived.Test.YtejicboemkpeoaaDoorRefR
namespace Go.Proofs.YtejicboemkpeoaaDoor
open Go Go.RowKit Go.ChangeShapes Go.WideShapes Go.Deep

theorem each_of {α : Type} {P : Nat → α → Prop} : ∀ (n : Nat), (∀ i, i < n → ∃ x, P i x) → ∃ L : List α, L.length = n ∧ ∀ (i : Nat) (x : α), L[i]? = some x → P i x
  | 0, _ => ⟨[], rfl, fun i x h => by simp at h⟩
  | n + 1, h => by
    obtain ⟨L, h1, h2⟩ := each_of n (fun i hi => h i (by omega))
    obtain ⟨y, hy⟩ := h n (by omega)
    refine ⟨L ++ [y], by simp [h1], fun i x hx => ?_⟩
    rcases Nat.lt_or_ge i n with hi | hi
    · rw [List.getElem?_append_left (by omega)] at hx
      exact h2 i x hx
    · have hil : i < (L ++ [y]).length := (List.getElem?_eq_some_iff.1 hx).1
      have : i = n := by simp at hil; omega
      subst this
      rw [List.getElem?_append_right (by omega), h1, Nat.sub_self] at hx
      injection hx with hx
      exact hx ▸ hy

theorem y_six : Tryd.prog.cellsOf 113 = 6 := by kernel_rfl
theorem y_four : Tryd.prog.cellsOf 162 = 4 := by kernel_rfl
theorem y_str : Tryd.prog.cellsOf 9 = 1 := by kernel_rfl
theorem y_int : Tryd.prog.cellsOf 3 = 1 := by kernel_rfl
theorem y_i64 : Tryd.prog.cellsOf 2 = 1 := by kernel_rfl
theorem y_u64 : Tryd.prog.cellsOf 41 = 1 := by kernel_rfl

section
variable {H : Type} {enc : TypeId × Value → H} {w : World} {held : Bool} {fuel : Nat}
theorem y_int_of {c : Value} {y : DataW H × List MemPlace} (hy : DataW.trod enc Tryd.prog w 0 (fun _ => true) held fuel 3 [c] = some y) : ∃ z, c = .int .i64 z ∧ InI z := by
  obtain ⟨z, hz, _, hw⟩ := DataW.trod_int Tryd.underlying3 hy
  injection hz with hz
  exact ⟨z, hz, i64_of hw⟩
theorem y_i64_of {c : Value} {y : DataW H × List MemPlace} (hy : DataW.trod enc Tryd.prog w 0 (fun _ => true) held fuel 2 [c] = some y) : ∃ z, c = .int .i64 z ∧ InI z := by
  obtain ⟨z, hz, _, hw⟩ := DataW.trod_int Tryd.underlying2 hy
  injection hz with hz
  exact ⟨z, hz, i64_of hw⟩
theorem y_nat_of {c : Value} {y : DataW H × List MemPlace} (hy : DataW.trod enc Tryd.prog w 0 (fun _ => true) held fuel 41 [c] = some y) : ∃ z : Nat, c = .int .u64 (z : Int) ∧ z < two64 := by
  obtain ⟨z, hz, _, hw⟩ := DataW.trod_int Tryd.underlying41 hy
  injection hz with hz
  obtain ⟨n, rfl, hn⟩ := nat_of_u64 hw
  exact ⟨n, hz, hn⟩

set_option maxRecDepth 20000 in
/-- One symbol out of its six cells. -/
theorem sym_of {cs : List Value} {x : DataW H × List MemPlace}
    (h : DataW.trod enc Tryd.prog w 0 (fun _ => true) held fuel 113 cs = some x) : ∃ y : Sym, cs = y.cells ∧ y.Nums := by
  obtain ⟨xs, k, _, _, hcl, hlen, hg⟩ := DataW.trod_struct Tryd.underlying113 h
  rw [y_six] at hcl
  match cs, hcl, xs, hlen with
  | [c0, c1, c2, c3, c4, c5], _, [y0, y1, y2, y3, y4, y5], _ =>
    have g0 := hg 0 _ rfl
    have g1 := hg 1 _ rfl
    have g2 := hg 2 _ rfl
    have g3 := hg 3 _ rfl
    have g4 := hg 4 _ rfl
    have g5 := hg 5 _ rfl
    simp [y_str, y_int, y_u64] at g0 g1 g2 g3 g4 g5
    obtain ⟨s, hs, _, _⟩ := DataW.trod_string Tryd.underlying9 g0
    injection hs with hs
    obtain ⟨z1, rfl, i1⟩ := y_int_of g1
    obtain ⟨z2, rfl, i2⟩ := y_int_of g2
    obtain ⟨z3, rfl, i3⟩ := y_int_of g3
    obtain ⟨z4, rfl, i4⟩ := y_nat_of g4
    obtain ⟨z5, rfl, i5⟩ := y_nat_of g5
    refine ⟨⟨s.data.toList, z1, z2, z3, z4, z5⟩, ?_, ⟨i1, i2, i3, i4, i5⟩⟩
    rw [hs]
    show _ = [Value.string ⟨s.data.toList.toArray⟩, _, _, _, _, _]
    simp
set_option maxRecDepth 20000 in
/-- One relocation out of its four cells. -/
theorem rel_of {cs : List Value} {x : DataW H × List MemPlace}
    (h : DataW.trod enc Tryd.prog w 0 (fun _ => true) held fuel 162 cs = some x) : ∃ y : Rel, cs = y.cells ∧ y.Nums := by
  obtain ⟨xs, k, _, _, hcl, hlen, hg⟩ := DataW.trod_struct Tryd.underlying162 h
  rw [y_four] at hcl
  match cs, hcl, xs, hlen with
  | [c0, c1, c2, c3], _, [y0, y1, y2, y3], _ =>
    have g0 := hg 0 _ rfl
    have g1 := hg 1 _ rfl
    have g2 := hg 2 _ rfl
    have g3 := hg 3 _ rfl
    simp [y_int, y_u64, y_i64] at g0 g1 g2 g3
    obtain ⟨z0, rfl, i0⟩ := y_nat_of g0
    obtain ⟨z1, rfl, i1⟩ := y_int_of g1
    obtain ⟨z2, rfl, i2⟩ := y_int_of g2
    obtain ⟨z3, rfl, i3⟩ := y_i64_of g3
    exact ⟨⟨z0, z1, z2, z3⟩, rfl, ⟨i0, i1, i2, i3⟩⟩

/-- Items that lie at their places. -/
theorem row_of {α : Type} {n : Nat} {f : α → List Value} {P : α → Prop} (hn : ∀ x, (f x).length = n) (hpos : 0 < n) {a : Addr} {L : List α} (hP : ∀ (i : Nat) (y : α), L[i]? = some y → (∀ (j : Nat) (v : Value), (f y)[j]? = some v → w.cell? ((a.add (i * n)).add j) = some v) ∧ P y) :
    Row n f w w.heap.size (some a) L ∧ ∀ y ∈ L, P y := by
  refine ⟨fun h0 => ?_, fun y hy => ?_⟩
  · have hx0 : L[0]? = some (L[0]'h0) := List.getElem?_eq_getElem _
    have hz : 0 < (f (L[0]'h0)).length := by rw [hn]; exact hpos
    have hc0 := (hP 0 _ hx0).1 0 _ (List.getElem?_eq_getElem hz)
    obtain ⟨b, o, spot⟩ := a
    have hspot : spot = none := by simpa [Addr.add] using World.cell?_spot hc0
    subst hspot
    refine ⟨b, o, rfl, ?_, fun i y hy j v hv => ?_⟩
    · have := World.block_lt_of_cell? w _ hc0
      simpa [addr_add] using this
    · have := (hP i y hy).1 j v hv
      rwa [addr_add, addr_add] at this
  · obtain ⟨i, hi', e⟩ := List.getElem_of_mem hy
    exact (hP i y (by rw [← e]; exact List.getElem?_eq_getElem hi')).2

set_option maxRecDepth 20000 in
theorem syms_of {a1 : Option Addr} {len1 cap1 : Nat} {x : DataW H × List MemPlace}
    (h : DataW.trod enc Tryd.prog w 0 (fun _ => true) held fuel 45 (Value.slice a1 len1 cap1).cells.toList = some x) : ∃ L : List Sym, L.length = len1 ∧ len1 ≤ cap1 ∧ Syms w w.heap.size a1 L ∧ ∀ y ∈ L, y.Nums := by
  rcases open_slice Tryd.underlying45 h with ⟨hcs, _⟩ | ⟨a, len, cap, m, n, D, Pl, hcs, _, hl, _, hmm, _, hi⟩
  · simp [Value.cells] at hcs
    obtain ⟨rfl, rfl, rfl⟩ := hcs
    exact ⟨[], rfl, Nat.le_refl _, fun h0 => absurd h0 (by simp), fun x hx => by cases hx⟩
  · simp [Value.cells] at hcs
    obtain ⟨rfl, rfl, rfl⟩ := hcs
    have hlm : len1 ≤ m := by rw [hmm]; simp; omega
    rw [y_six] at hi
    obtain ⟨L, hL, hP⟩ := each_of (P := fun i (y : Sym) => (∀ (j : Nat) (v : Value), y.cells[j]? = some v → w.cell? ((a.add (i * 6)).add j) = some v) ∧ y.Nums) len1 (fun i hi1 => by
      obtain ⟨cs', hc, ht⟩ := hi i (by omega)
      obtain ⟨_, hcl, hat⟩ := World.cells?_some hc
      obtain ⟨y, rfl, g1⟩ := sym_of ht
      exact ⟨y, fun j v hv => by
        have hj : j < 6 := (List.getElem?_eq_some_iff.1 hv).1
        rw [hat j hj, hv], g1⟩)
    exact ⟨L, hL, hl, row_of sym_six (by decide) hP⟩

set_option maxRecDepth 20000 in
theorem rels_of {a1 : Option Addr} {len1 cap1 : Nat} {x : DataW H × List MemPlace}
    (h : DataW.trod enc Tryd.prog w 0 (fun _ => true) held fuel 97 (Value.slice a1 len1 cap1).cells.toList = some x) : ∃ L : List Rel, L.length = len1 ∧ len1 ≤ cap1 ∧ Rels w w.heap.size a1 L ∧ ∀ y ∈ L, y.Nums := by
  rcases open_slice Tryd.underlying97 h with ⟨hcs, _⟩ | ⟨a, len, cap, m, n, D, Pl, hcs, _, hl, _, hmm, _, hi⟩
  · simp [Value.cells] at hcs
    obtain ⟨rfl, rfl, rfl⟩ := hcs
    exact ⟨[], rfl, Nat.le_refl _, fun h0 => absurd h0 (by simp), fun x hx => by cases hx⟩
  · simp [Value.cells] at hcs
    obtain ⟨rfl, rfl, rfl⟩ := hcs
    have hlm : len1 ≤ m := by rw [hmm]; simp; omega
    rw [y_four] at hi
    obtain ⟨L, hL, hP⟩ := each_of (P := fun i (y : Rel) => (∀ (j : Nat) (v : Value), y.cells[j]? = some v → w.cell? ((a.add (i * 4)).add j) = some v) ∧ y.Nums) len1 (fun i hi1 => by
      obtain ⟨cs', hc, ht⟩ := hi i (by omega)
      obtain ⟨_, hcl, hat⟩ := World.cells?_some hc
      obtain ⟨y, rfl, g1⟩ := rel_of ht
      exact ⟨y, fun j v hv => by
        have hj : j < 4 := (List.getElem?_eq_some_iff.1 hv).1
        rw [hat j hj, hv], g1⟩)
    exact ⟨L, hL, hl, row_of rel_four (by decide) hP⟩
end

end Go.Proofs.YtejicboemkpeoaaDoor

namespace Go.Proofs.YtejicboemkpeoaaDoor
open Go Go.RowKit

def Bulk6 (L : List Lay) (k : Nat) : Prop := ∀ (j : Nat) (x : Lay), j < k → L[j]? = some x → x.s.data.length ≤ 6000 ∧ x.s.name.length ≤ 6000
theorem Bulk6.next {L : List Lay} {k : Nat} {x : Lay} (h : Bulk6 L k) (hx : L[k]? = some x) (h1 : x.s.data.length ≤ 6000) (h2 : x.s.name.length ≤ 6000) : Bulk6 L (k + 1) := fun j y hj hy => by
  rcases Nat.lt_or_ge j k with h3 | h3
  · exact h j y h3 hy
  · rw [show j = k by omega, hx] at hy
    injection hy with hy
    exact hy ▸ ⟨h1, h2⟩
theorem Bulk6.all {L : List Lay} (h : Bulk6 L L.length) : ∀ x ∈ L, x.s.data.length ≤ 6000 ∧ x.s.name.length ≤ 6000 := fun x hx => by
  obtain ⟨i, hi, e⟩ := List.getElem_of_mem hx
  exact h i x hi (by rw [← e]; exact List.getElem?_eq_getElem hi)

set_option maxRecDepth 10000 in
set_option maxHeartbeats 1600000 in
theorem bulk6_any {w : World} {B : Nat} {a : Option Addr} {L : List Lay} (h : SecsIn w B a L) (c : Nat) :
    Calls Tryd.prog 33 #[.slice a L.length c, .int .i64 6000] w fun r w' => ∃ n : Int, r = .returned (.int .i64 n) ∧ 0 ≤ n ∧ n ≤ 20000 ∧ (n ≤ 6000 → L.length ≤ 6000 ∧ ∀ x ∈ L, x.s.data.length ≤ 6000 ∧ x.s.name.length ≤ 6000) ∧ ∃ q, w' = w.drewN q := by
  have HH := Lib.hid h
  generalize hN : L.length = N at *
  have HN := Lib.hid hN
  clear h hN
  go_enter Tryd.func33, Tryd.ntmps33
  by_cases hbig : 6000 < N
  · have hd : decide ((6000 : Int) < (N : Int)) = true := decide_eq_true (by omega)
    clear hbig
    go_wp2_with fail
    go_ret
    exact ⟨6001, rfl, by decide, by decide, fun h => absurd h (by decide), 0, rfl⟩
  · have hd : decide ((6000 : Int) < (N : Int)) = false := decide_eq_false (by omega)
    have HNB := Lib.hid hbig
    have hNb : N ≤ 6000 := by omega
    clear hbig
    go_wp2_with fail
    clear hd
    go_loopw [5, 6] (fun n i wr => ∃ k q z : Nat, k ≤ N ∧ q ≤ 18000 ∧ n = .int .i64 q ∧ i = .int .i64 k ∧ wr = w.drewN z ∧ Hid (Bulk6 L k)) (fun _ i _ => N - (intOf i).toNat)
    case atStart => exact ⟨0, N, 0, Nat.zero_le _, by omega, rfl, rfl, rfl, Lib.hid (fun _ _ hj => by omega)⟩
    case round =>
      obtain ⟨k, q, z, hk, hq, rfl, rfl, rfl, HBk⟩ := hrel
      by_cases hlt : k < N
      · obtain ⟨x, hx⟩ : ∃ x, L[k]? = some x := ⟨L[k]'(by rw [HN.out]; exact hlt), List.getElem?_eq_getElem _⟩
        obtain ⟨b, o, rfl, _, hc⟩ := HH.out.row (by rw [HN.out]; omega)
        have c0 := hc k x hx 0 _ rfl
        have c4 := hc k x hx 4 _ rfl
        rw [show x.dv = .slice x.A x.s.data.length x.c from rfl] at c4
        rw [Nat.add_zero] at c0
        have hsz : (ByteArray.mk x.s.name.toArray).size = x.s.name.length := rfl
        by_cases h1 : 6000 < q
        · have d1 : decide ((6000 : Int) < (q : Int)) = true := decide_eq_true (by omega)
          clear h1 hc hx
          go_wp2_with fail
          go_ret
          exact ⟨6001, rfl, by decide, by decide, fun h => absurd h (by decide), z, rfl⟩
        · have d1 : decide ((6000 : Int) < (q : Int)) = false := decide_eq_false (by omega)
          have hq8 : q ≤ 6000 := by omega
          by_cases h2 : 6000 < x.s.data.length
          · have d2 : decide ((6000 : Int) < (x.s.data.length : Int)) = true := decide_eq_true (by omega)
            clear h1 h2 hc hx hq8
            generalize ByteArray.mk x.s.name.toArray = sb at *
            go_wp2_with fail
            go_ret
            exact ⟨6001, rfl, by decide, by decide, fun h => absurd h (by decide), z, rfl⟩
          · have d2 : decide ((6000 : Int) < (x.s.data.length : Int)) = false := decide_eq_false (by omega)
            by_cases h3 : 6000 < x.s.name.length
            · have d3 : decide ((6000 : Int) < (x.s.name.length : Int)) = true := decide_eq_true (by omega)
              clear h1 h2 h3 hc hx hq8
              generalize ByteArray.mk x.s.name.toArray = sb at *
              go_wp2_with fail
              go_ret
              exact ⟨6001, rfl, by decide, by decide, fun h => absurd h (by decide), z, rfl⟩
            · have d3 : decide ((6000 : Int) < (x.s.name.length : Int)) = false := decide_eq_false (by omega)
              have HB1 := Lib.hid (HBk.out.next hx (by omega) (by omega))
              have hdl : x.s.data.length ≤ 6000 := by omega
              have hnl : x.s.name.length ≤ 6000 := by omega
              clear h1 h2 h3 hc hx hq
              generalize ByteArray.mk x.s.name.toArray = sb at *
              generalize x.s.data.length = dl at *
              generalize x.s.name.length = nl at *
              go_wp2_with fail
              go_quiet (fail)
              go_wp2_with fail
              go_roundw
              case rel => exact ⟨k + 1, q + dl + nl, _, by omega, by omega, by go_num, by go_num, by first | rfl | (simp; rfl), HB1⟩
              case measure => simp [intOf]; omega
      · have hkN : k = N := by omega
        subst hkN
        have HA := Lib.hid (show ∀ x ∈ L, x.s.data.length ≤ 6000 ∧ x.s.name.length ≤ 6000 from by have := HBk.out; rw [← HN.out] at this; exact this.all)
        go_wp2_with fail
        go_ret
        exact ⟨q, rfl, by omega, by omega, fun _ => ⟨hNb, HA.out⟩, z, rfl⟩

set_option maxRecDepth 10000 in
set_option maxHeartbeats 11800000 in
theorem ybulk6_any {w : World} {B : Nat} {a : Option Addr} {L : List Sym} (h : Syms w B a L) (c : Nat) :
    Calls Tryd.prog 34 #[.slice a L.length c, .int .i64 6000] w fun r w' => ∃ n : Int, r = .returned (.int .i64 n) ∧ 0 ≤ n ∧ n ≤ 20000 ∧ (n ≤ 6000 → L.length + sumN L ≤ 6000) ∧ ∃ q, w' = w.drewN q := by
  have HH := Lib.hid h
  generalize hN : L.length = N at *
  have HN := Lib.hid hN
  clear h hN
  go_enter Tryd.func34, Tryd.ntmps34
  by_cases hbig : 6000 < N
  · have hd : decide ((6000 : Int) < (N : Int)) = true := decide_eq_true (by omega)
    clear hbig
    go_wp2_with fail
    go_ret
    exact ⟨6001, rfl, by decide, by decide, fun h => absurd h (by decide), 0, rfl⟩
  · have hd : decide ((6000 : Int) < (N : Int)) = false := decide_eq_false (by omega)
    have HNB := Lib.hid hbig
    have hNb : N ≤ 6000 := by omega
    clear hbig
    go_wp2_with fail
    clear hd
    go_loopw [5, 6] (fun n i wr => ∃ k q z : Nat, k ≤ N ∧ q ≤ 18000 ∧ n = .int .i64 q ∧ i = .int .i64 k ∧ wr = w.drewN z ∧ Hid (q = N + sumN (L.take k))) (fun _ i _ => N - (intOf i).toNat)
    case atStart => exact ⟨0, N, 0, Nat.zero_le _, by omega, rfl, rfl, rfl, Lib.hid rfl⟩
    case round =>
      obtain ⟨k, q, z, hk, hq, rfl, rfl, rfl, HBk⟩ := hrel
      by_cases hlt : k < N
      · obtain ⟨x, hx⟩ : ∃ x, L[k]? = some x := ⟨L[k]'(by rw [HN.out]; exact hlt), List.getElem?_eq_getElem _⟩
        obtain ⟨b, o, rfl, hb, c0, -⟩ := sym_at HH.out hx
        have hsz : (ByteArray.mk x.name.toArray).size = x.name.length := rfl
        have HBn := Lib.hid (show q + x.name.length = N + sumN (L.take (k + 1)) by rw [sumN_next hx, HBk.out]; omega)
        by_cases h1 : 6000 < q
        · have d1 : decide ((6000 : Int) < (q : Int)) = true := decide_eq_true (by omega)
          clear h1 hx
          go_wp2_with fail
          go_ret
          exact ⟨6001, rfl, by decide, by decide, fun h => absurd h (by decide), z, rfl⟩
        · have d1 : decide ((6000 : Int) < (q : Int)) = false := decide_eq_false (by omega)
          have hq8 : q ≤ 6000 := by omega
          by_cases h3 : 6000 < x.name.length
          · have d3 : decide ((6000 : Int) < (x.name.length : Int)) = true := decide_eq_true (by omega)
            clear h1 h3 hx hq8
            generalize ByteArray.mk x.name.toArray = sb at *
            go_wp2_with fail
            go_ret
            exact ⟨6001, rfl, by decide, by decide, fun h => absurd h (by decide), z, rfl⟩
          · have d3 : decide ((6000 : Int) < (x.name.length : Int)) = false := decide_eq_false (by omega)
            have hnl : x.name.length ≤ 6000 := by omega
            have HLT := Lib.hid hlt
            clear h1 h3 hx hq
            generalize ByteArray.mk x.name.toArray = sb at *
            generalize x.name.length = nl at *
            go_wp2_with fail
            exact ⟨⟨k + 1, q + nl, z, HLT.out, by omega, by go_num, by go_num, rfl, HBn⟩, by have := HLT.out; simp [intOf]; omega⟩
      · have hkN : k = N := by omega
        subst hkN
        have HA := Lib.hid (show q = k + sumN L by have := HBk.out; rwa [List.take_of_length_le (by rw [HN.out]; omega)] at this)
        go_wp2_with fail
        go_ret
        exact ⟨q, rfl, by omega, by omega, fun hh => by have := HA.out; omega, z, rfl⟩

/-- An object that came in: nothing is said of how much it has. -/
structure ObjV.In (w : World) (B : Nat) (o : ObjV) : Prop where
  secs : SecsIn w B o.aS o.L
  syms : Syms w B o.aY o.Y
  lists : Lists w B o.aR o.Q
  capS : o.L.length ≤ o.cS
  capR : o.Q.length ≤ o.cR
  numY : ∀ y ∈ o.Y, y.Nums
  numQ : ∀ q ∈ o.Q, ∀ r ∈ q.l, r.Nums
structure ObjV.Small (o : ObjV) : Prop where
  S : o.L.length ≤ 6000
  s : ∀ x ∈ o.L, x.s.data.length ≤ 6000 ∧ x.s.name.length ≤ 6000
  Y : o.Y.length + sumN o.Y ≤ 6000
  Q : o.Q.length ≤ 6000
  q : ∀ q ∈ o.Q, q.l.length ≤ 6000

set_option maxRecDepth 10000 in
set_option maxHeartbeats 3200000 in
theorem obulk_any {w : World} (o : ObjV) (h : o.In w w.heap.size) (hb : ∀ (w w' : World) (B : Nat) (a : Option Addr) (L : List Lay), SecsIn w B a L → Below B w w' → SecsIn w' B a L) :
    Calls Tryd.prog 22 #[o.val, .int .i64 6000] w fun r w' => ∃ n : Int, r = .returned (.int .i64 n) ∧ (n ≤ 6000 → o.Small) ∧ Below w.heap.size w w' := by
  obtain ⟨kd, mc, aS, cS, L, aY, cY, Y, aR, cR, Q⟩ := o
  rw [show ObjV.val ⟨kd, mc, aS, cS, L, aY, cY, Y, aR, cR, Q⟩ = .agg #[.int .i64 kd, .int .i64 mc, .slice aS L.length cS, .slice aY Y.length cY, .slice aR Q.length cR] from rfl]
  obtain ⟨hs, hy, hl, -, -, -, -⟩ := h
  simp only at hs hy hl ⊢
  have hb0 : Below w.heap.size w (w.alloc (.cells #[.int .i64 kd, .int .i64 mc, .slice aS L.length cS, .slice aY Y.length cY, .slice aR Q.length cR] 48)) := (Below.refl _ _).alloc (Nat.le_refl _) _
  have hX0 := Box.new w 48 #[.int .i64 kd, .int .i64 mc, .slice aS L.length cS, .slice aY Y.length cY, .slice aR Q.length cR]
  have hlt0 : w.heap.size < (w.alloc (.cells #[.int .i64 kd, .int .i64 mc, .slice aS L.length cS, .slice aY Y.length cY, .slice aR Q.length cR] 48)).heap.size := by simp
  have HB7 := Lib.hid (bulk6_any (hb _ _ _ _ _ hs hb0) cS)
  have HY0 := Lib.hid hy
  have HL := Lib.hid hl
  have HB0 := Lib.hid hb0
  have HSM := Lib.hid (show ∀ n7 n8 : Int, 0 ≤ n7 → 0 ≤ n8 → (n7 ≤ 6000 → L.length ≤ 6000 ∧ ∀ x ∈ L, x.s.data.length ≤ 6000 ∧ x.s.name.length ≤ 6000) → (n8 ≤ 6000 → Y.length + sumN Y ≤ 6000) → n7 + n8 ≤ 6000 → (L.length ≤ 6000 ∧ ∀ x ∈ L, x.s.data.length ≤ 6000 ∧ x.s.name.length ≤ 6000) ∧ Y.length + sumN Y ≤ 6000 from fun n7 n8 h1 h2 h3 h4 h5 => ⟨h3 (by omega), h4 (by omega)⟩)
  have HFI := Lib.hid (show (L.length ≤ 6000 ∧ ∀ x ∈ L, x.s.data.length ≤ 6000 ∧ x.s.name.length ≤ 6000) ∧ Y.length + sumN Y ≤ 6000 → Q.length ≤ 6000 → (∀ j q, j < Q.length → Q[j]? = some q → q.l.length ≤ 6000) → (⟨kd, mc, aS, cS, L, aY, cY, Y, aR, cR, Q⟩ : ObjV).Small from fun h1 h2 h3 => ⟨h1.1.1, h1.1.2, h1.2, h2, fun q hq => by
    obtain ⟨i, hi, e⟩ := List.getElem_of_mem hq
    exact h3 i q hi (by rw [← e]; exact List.getElem?_eq_getElem hi)⟩)
  clear hs hy hl hb0 hb
  generalize ObjV.Small ⟨kd, mc, aS, cS, L, aY, cY, Y, aR, cR, Q⟩ = SM at *
  generalize hP : ((L.length ≤ 6000 ∧ ∀ x ∈ L, x.s.data.length ≤ 6000 ∧ x.s.name.length ≤ 6000) ∧ Y.length + sumN Y ≤ 6000) = P6 at *
  clear hP
  generalize L.length = N at *
  have HYB := Lib.hid (fun W (hW : Below w.heap.size w W) => ybulk6_any (w := W) (Row.below HY0.out hW) cY)
  generalize hny : Y.length = ny at *
  generalize hnr : Q.length = nr at *
  have HNR := Lib.hid hnr
  clear hny hnr
  have KX := Lib.hid (fun W (hW : Below (w.alloc (.cells #[.int .i64 kd, .int .i64 mc, .slice aS N cS, .slice aY ny cY, .slice aR nr cR] 48)).heap.size (w.alloc (.cells #[.int .i64 kd, .int .i64 mc, .slice aS N cS, .slice aY ny cY, .slice aR nr cR] 48)) W) => five_cells (hX0.below hW hlt0))
  have HX := Lib.hid hX0
  clear hX0
  obtain ⟨x0, x1, x2, x3, x4⟩ := KX.out _ (Below.refl _ _)
  go_enter Tryd.func22, Tryd.ntmps22
  go_wp2_with fail
  refine HB7.out.mono ?_
  rintro r w1 ⟨n7, rfl, h70, h71, h72, q7, rfl⟩
  have HB1 := Lib.hid (below_drewN (Below.refl (w.alloc (.cells #[.int .i64 kd, .int .i64 mc, .slice aS N cS, .slice aY ny cY, .slice aR nr cR] 48)).heap.size (w.alloc (.cells #[.int .i64 kd, .int .i64 mc, .slice aS N cS, .slice aY ny cY, .slice aR nr cR] 48))) q7)
  generalize hw1 : (w.alloc (.cells #[.int .i64 kd, .int .i64 mc, .slice aS N cS, .slice aY ny cY, .slice aR nr cR] 48)).drewN q7 = w1 at *
  clear hw1
  generalize w.alloc (.cells #[.int .i64 kd, .int .i64 mc, .slice aS N cS, .slice aY ny cY, .slice aR nr cR] 48) = w0 at *
  have H72 := Lib.hid h72
  clear x0 x1 x2 x3 x4 HB7 HX h72
  obtain ⟨x0, x1, x2, x3, x4⟩ := KX.out _ HB1.out
  go_upto_if 13 with fail
  go_cut [5] (fun v wx => ∃ n0 : Int, v = .int .i64 n0 ∧ 0 ≤ n0 ∧ n0 ≤ 40000 ∧ Below w0.heap.size w0 wx ∧ Hid (n0 ≤ 6000 → P6))
  case first =>
    by_cases h7 : n7 ≤ 6000
    · have d1 : decide (n7 ≤ 6000) = true := decide_eq_true h7
      have HYB1 := Lib.hid (HYB.out _ (HB0.out.trans (HB1.out.mono HB0.out.size)))
      go_wp2_with fail
      refine HYB1.out.mono ?_
      rintro r w2 ⟨n8, rfl, h80, h81, h82, q8, rfl⟩
      have HB2 := Lib.hid (below_drewN HB1.out q8)
      have HP := Lib.hid (HSM.out n7 n8 h70 h80 H72.out h82)
      clear h82 HYB1
      go_wp2_with fail
      go_meet
      case rel => exact ⟨n7 + n8, by go_num, by omega, by omega, HB2.out, Lib.hid HP.out⟩
    · have d1 : decide (n7 ≤ 6000) = false := decide_eq_false h7
      go_wp2_with fail
      go_meet
      case rel => exact ⟨n7, rfl, h70, by omega, HB1.out, Lib.hid (fun h => absurd h (by omega))⟩
  case rest =>
    obtain ⟨n0, rfl, hn0, hn1, hb2, HP0⟩ := hcut
    have HB2 := Lib.hid hb2
    clear x0 x1 x2 x3 x4 h70 h71 H72 HSM HYB HB1 hb2
    obtain ⟨x0, x1, x2, x3, x4⟩ := KX.out _ HB2.out
    by_cases hq : 6000 < nr
    · have d1 : decide ((6000 : Int) < (nr : Int)) = true := decide_eq_true (by omega)
      clear hq
      go_wp2_with fail
      go_ret
      exact ⟨6001, rfl, fun h => absurd h (by decide), HB0.out.trans (HB2.out.mono HB0.out.size)⟩
    · have d1 : decide ((6000 : Int) < (nr : Int)) = false := decide_eq_false (by omega)
      have HQ6 := Lib.hid (show nr ≤ 6000 by omega)
      have hnr6 : nr ≤ 6000 := HQ6.out
      clear hq
      go_wp2_with fail
      clear d1
      go_loopg [5, 6] nr (fun gk v i wx => ∃ (k : Nat) (m : Int), k ≤ nr ∧ gk = nr - k ∧ i = .int .i64 k ∧ v = .int .i64 m ∧ n0 ≤ m ∧ m ≤ 200000 ∧ Below w0.heap.size w0 wx ∧ Hid (∀ j q, j < k → Q[j]? = some q → q.l.length ≤ 6000))
      case atStart => exact ⟨0, n0, Nat.zero_le _, rfl, rfl, rfl, Int.le_refl _, by omega, HB2.out, Lib.hid (fun j q hj => by omega)⟩
      case round =>
        obtain ⟨k, m, hk, rfl, rfl, rfl, hm0, hm1, hb3, HQk⟩ := hrel
        have HB3 := Lib.hid hb3
        clear x0 x1 x2 x3 x4
        obtain ⟨x0, x1, x2, x3, x4⟩ := KX.out _ hb3
        by_cases hlt : k < nr
        · obtain ⟨q, hq⟩ : ∃ q, Q[k]? = some q := ⟨Q[k]'(by rw [HNR.out]; exact hlt), List.getElem?_eq_getElem _⟩
          obtain ⟨b2, o2, rfl, hb2, c0⟩ := (HL.out.below (HB0.out.trans (hb3.mono HB0.out.size))).at_ hq
          have HLT := Lib.hid hlt
          by_cases hm6 : m ≤ 6000
          · have e1 : decide (m ≤ 6000) = true := decide_eq_true hm6
            by_cases hql : 6000 < q.l.length
            · have e2 : decide ((6000 : Int) < (q.l.length : Int)) = true := decide_eq_true (by omega)
              clear hq hb3 hm6 hql
              go_wp2_with fail
              go_ret
              exact ⟨6001, rfl, fun h => absurd h (by decide), HB0.out.trans (HB3.out.mono HB0.out.size)⟩
            · have e2 : decide ((6000 : Int) < (q.l.length : Int)) = false := decide_eq_false (by omega)
              have hq6 : q.l.length ≤ 6000 := by omega
              have HQ1 := Lib.hid (show ∀ j q', j < k + 1 → Q[j]? = some q' → q'.l.length ≤ 6000 from fun j q' hj h' => by
                rcases Nat.lt_or_ge j k with h3 | h3
                · exact HQk.out j q' h3 h'
                · rw [show j = k by omega, hq] at h'
                  injection h' with h'
                  exact h' ▸ hq6)
              clear hq hb3 hql
              generalize q.l.length = ql at *
              go_wp2_with fail
              go_roundg (nr - (k + 1))
              case measure => have := HLT.out; omega
              case rel => exact ⟨k + 1, m + 24 * (ql : Int), HLT.out, rfl, by go_num, by go_num, by omega, by omega, HB3.out, HQ1⟩
          · have e1 : decide (m ≤ 6000) = false := decide_eq_false hm6
            have HN6 := Lib.hid (show ¬ m ≤ 6000 from hm6)
            clear hq hb3 c0
            go_wp2_with fail
            go_ret
            exact ⟨m, rfl, fun h => absurd h (by have := HN6.out; omega), HB0.out.trans (HB3.out.mono HB0.out.size)⟩
        · have HF := Lib.hid (show m ≤ 6000 → SM from fun h => HFI.out (HP0.out (by omega)) HQ6.out (fun j q hj hq => HQk.out j q (by omega) hq))
          clear hb3
          go_wp2_with fail
          go_ret
          exact ⟨m, rfl, HF.out, HB0.out.trans (HB3.out.mono HB0.out.size)⟩

end Go.Proofs.YtejicboemkpeoaaDoor

namespace Go.Proofs.YtejicboemkpeoaaDoor
open Go Go.RowKit

/-- A row of groups of the call's own, as groups that lie. -/
theorem GSt.grps {T : TypeId} {w : World} {base : Nat} {v : Value} {L : List GLay} (h : GSt T w base v L) : ∃ (A : Option Addr) (c : Nat), v = .slice A L.length c ∧ Grps w w.heap.size A L := by
  obtain ⟨A, c, e, _, _, hr⟩ := own_row glay_four h.row
  exact ⟨A, c, e, hr, fun x hx => ownm_ok (h.mem x hx)⟩

/-- How things stand behind k objects. -/
structure RLeftSt (w1 w : World) (base : Nat) (vn v : Value) (Q : List BLay) (names : List (List UInt8)) (out : List (List Bool)) : Prop where
  list : Q.map (·.l) = out
  rows : BSt w base v Q
  names : OwnS w base vn names
  below : Below base w1 w
/-- What turns while one object's groups are asked: the row of truths in 'ob', the row of names that was there. -/
abbrev LeaveP (ob : Nat) (vn : Value) : Nat → Prop := fun k => k = ob ∨ some k = vn.ownBlock
/-- How things stand behind some groups of an object. -/
structure RLvSt (T : TypeId) (w4 w : World) (base ob n : Nat) (vg vn0 vn : Value) (LG : List GLay) (names : List (List UInt8)) (b : List Bool) : Prop where
  met : Met w base ob n b
  names : OwnS w base vn names
  grps : GSt T w base vg LG
  but : But (LeaveP ob vn0) w4 w
  at_ : vn.ownBlock = vn0.ownBlock ∨ ∀ x, vn.ownBlock = some x → w4.heap.size ≤ x
section
variable {T : TypeId} {w1 w w4 w' : World} {base ob n : Nat} {vg v vn0 vn vn' : Value} {Q : List BLay} {LG : List GLay} {names : List (List UInt8)} {out : List (List Bool)} {b : List Bool}
theorem RLeftSt.later (h : RLeftSt w1 w base vn v Q names out) (hb : Below w.heap.size w w') (hB : base ≤ w.heap.size) : RLeftSt w1 w' base vn v Q names out :=
  ⟨h.list, h.rows.below hb, row_below h.names hb, h.below.trans (hb.mono hB)⟩
/-- Behind all groups of an object. -/
theorem RLeftSt.leave (h : RLeftSt w1 w base vn v Q names out) (hB : base ≤ w.heap.size) {names' : List (List UInt8)} (hob : w.heap.size ≤ ob) (hN : OwnS w' base vn' names') (hb : But (LeaveP ob vn) w w') : RLeftSt w1 w' base vn' v Q names' out := by
  refine ⟨h.list, h.rows.but hb (fun k hk => ?_) (fun q hq k hk => ?_), hN, h.below.trans (hb.below hB (fun k hk => ?_))⟩
  · rintro (rfl | e)
    · have := (h.rows.row.lt k hk).2; omega
    · obtain ⟨cs, f, h1⟩ := row_heap h.names e.symm
      exact row_other h.rows.row h1 (by decide) k hk rfl
  · rintro (rfl | e)
    · have := ((h.rows.mem q hq).lt k hk).2; omega
    · obtain ⟨cs, f, h1⟩ := row_heap h.names e.symm
      exact row_other (h.rows.mem q hq) h1 (by decide) k hk rfl
  · rcases hk with rfl | e
    · omega
    · exact (h.names.lt k e.symm).1
/-- A row of truths more. -/
theorem RLeftSt.more (h : RLeftSt w1 w base vn v Q names out) (hB : base ≤ w.heap.size) {q : BLay} (hq : OwnB w base q.val q.l) {o : Obj} {v' : Value} (hown : w'.ownsRow base 91 1 v' (Q.length + 1) (cellsF BLay.cells1 Q ++ q.cells1)) (hg : (w.alloc o).grownBy w' v.ownBlock) : RLeftSt w1 w' base vn v' (Q ++ [q]) names (out ++ [q.l]) := by
  have hb : Below w.heap.size w (w.alloc o) := (Below.refl w.heap.size w).alloc (Nat.le_refl _) o
  have h1 := h.later hb hB
  refine ⟨by simp [h.list], h1.rows.more (row_below hq hb) hown hg, ?_, h1.below.trans (below_of_only hg (by have := hb.size; omega) (fun k hk => (h1.rows.row.lt k hk).1))⟩
  exact ((But.refl (fun k => some k = v.ownBlock) _).grown hg (fun x hx => .inl hx.symm)).row h1.names (fun k hk hp => by
    obtain ⟨cs, f, hh⟩ := row_heap h1.rows.row hp.symm
    exact row_other h1.names hh (by decide) k hk rfl)
theorem RLvSt.drewN (h : RLvSt T w4 w base ob n vg vn0 vn LG names b) (q : Nat) : RLvSt T w4 (w.drewN q) base ob n vg vn0 vn LG names b :=
  ⟨h.met, h.names, ⟨h.grps.row, h.grps.mem⟩, h.but.grown (only_drewN (only_refl w none) q) (by simp), h.at_⟩
/-- A name more. -/
theorem RLvSt.name (h : RLvSt T w4 w base ob n vg vn0 vn LG names b) (hT : T ≠ 9) {t : List UInt8} {o : Obj} {g cap : Nat} (hown : w'.ownsRow base 9 1 (.slice (some ⟨g, 0, none⟩) (names.length + 1) cap) (names.length + 1) (strV names ++ [.string ⟨t.toArray⟩])) (hg : (w.alloc o).grownBy w' vn.ownBlock) (hat : vn.ownBlock = some g ∨ g = (w.alloc o).heap.size) :
    RLvSt T w4 w' base ob n vg vn0 (.slice (some ⟨g, 0, none⟩) (names.length + 1) cap) LG (names ++ [t]) b := by
  have hb : Below w.heap.size w (w.alloc o) := (Below.refl w.heap.size w).alloc (Nat.le_refl _) o
  have hn := row_below h.names hb
  have hB := (But.refl (fun k => some k = vn.ownBlock) _).grown hg (fun x hx => .inl hx.symm)
  have hne : ∀ {e : TypeId} {size m : Nat} {u : Value} {xs : List Value}, e ≠ 9 → w.ownsRow base e size u m xs → w'.ownsRow base e size u m xs := fun {e size m u xs} he hr =>
    hB.row (row_below hr hb) (fun k hk hp => by
      obtain ⟨cs, f, hh⟩ := row_heap hn hp.symm
      exact row_other (row_below hr hb) hh he k hk rfl)
  refine ⟨⟨h.met.1, hne (by decide) h.met.2⟩, ?_, ⟨hne hT h.grps.row, fun x hx => hne (by decide) (h.grps.mem x hx)⟩, (h.but.then_ hb).grown hg (fun x hx => ?_), ?_⟩
  · rw [OwnS, strV_append, List.length_append]
    exact hown
  · rcases h.at_ with e | e
    · exact .inl (.inr (hx.symm.trans e))
    · exact .inr (e x hx)
  · rcases hat with e | e
    · rcases h.at_ with e2 | e2
      · exact .inl (by rw [← e2, e]; rfl)
      · exact .inr (fun x hx => e2 x (by rw [e]; exact hx))
    · refine .inr (fun x hx => ?_)
      have hx' : g = x := by simpa [Value.ownBlock] using hx
      have h1 := h.but.1.size
      have h2 := hb.size
      omega
end
end Go.Proofs.YtejicboemkpeoaaDoor

namespace Go.Proofs.YtejicboemkpeoaaDoor
open Go Go.RowKit

theorem glay_take {α : Type} {f : α → List Value} {L : List α} {k : Nat} {x : α} (h : L[k]? = some x) : cellsF f (L.take (k + 1)) = cellsF f (L.take k) ++ f x := by
  rw [List.take_add_one, h, cellsF_append]
  simp [cellsF]

end Go.Proofs.YtejicboemkpeoaaDoor
