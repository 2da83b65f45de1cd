/-
  The document's Same, Relas and Bulk: the same symbols, the same relocations; how many symbols and bytes of names there are.
-/

import Derived.Test.YtkadjejjillmmaaSyA
import Derived.Test.YtkadjejjillmmaaSeB
import Derived.Test.YtkadjejjillmmaaCsB
import Derived.Laws.StructEq
namespace Go.Proofs.Ytkadjejjillmmaa
open Go Go.RowKit

/-- The same symbol? -/
def sameY (x y : Sym) : Bool := decide (x.name = y.name) && (decide (x.bind = y.bind) && (decide (x.kind = y.kind) && (decide (x.sect = y.sect) && (decide (x.value = y.value) && decide (x.size = y.size)))))
theorem sameY_refl (x : Sym) : sameY x x = true := by simp [sameY]
/-- The same relocation? -/
def sameR (x y : Rel) : Bool := decide (x.off = y.off) && (decide (x.sym = y.sym) && (decide (x.kind = y.kind) && decide (x.add = y.add)))
theorem sameR_refl (x : Rel) : sameR x x = true := by simp [sameR]
/-- All alike, one by one. -/
def alikeL {α : Type} (p : α → α → Bool) (l m : List α) : Bool := decide (l.length = m.length) && (l.zip m).all fun q => p q.1 q.2
theorem alikeL_refl {α : Type} {p : α → α → Bool} (hp : ∀ x, p x x = true) (l : List α) : alikeL p l l = true := by
  unfold alikeL
  rw [Bool.and_eq_true, decide_eq_true_eq, List.all_eq_true]
  refine ⟨rfl, fun q hq => ?_⟩
  have : q.1 = q.2 := by
    obtain ⟨i, hi, e⟩ := List.getElem_of_mem hq
    rw [← e, List.getElem_zip]
  rw [this]
  exact hp _
theorem zip_get {α : Type} {l m : List α} {k : Nat} {x y : α} (hx : l[k]? = some x) (hy : m[k]? = some y) : (l.zip m)[k]? = some (x, y) := by rw [List.getElem?_zip_eq_some]; exact ⟨hx, hy⟩

section
theorem part_str (xs : Array Value) (k : Nat) (u : Value) (hx : xs[k]? = some u) (W : World) : (part 9 xs k).run Try.prog W = .ok u W := by
  simp only [part, Sem.run_bind, isAgg, run_underlying Try.underlying9, Result.andThen_ok, Sem.run_pure]
  simp [hx]
theorem part_int (xs : Array Value) (k : Nat) (u : Value) (hx : xs[k]? = some u) (W : World) : (part 3 xs k).run Try.prog W = .ok u W := by
  simp only [part, Sem.run_bind, isAgg, run_underlying Try.underlying3, Result.andThen_ok, Sem.run_pure]
  simp [hx]
theorem part_u64 (xs : Array Value) (k : Nat) (u : Value) (hx : xs[k]? = some u) (W : World) : (part 46 xs k).run Try.prog W = .ok u W := by
  simp only [part, Sem.run_bind, isAgg, run_underlying Try.underlying46, Result.andThen_ok, Sem.run_pure]
  simp [hx]
theorem part_i64 (xs : Array Value) (k : Nat) (u : Value) (hx : xs[k]? = some u) (W : World) : (part 2 xs k).run Try.prog W = .ok u W := by
  simp only [part, Sem.run_bind, isAgg, run_underlying Try.underlying2, Result.andThen_ok, Sem.run_pure]
  simp [hx]
theorem eq_fields {d : Nat} {xs ys : Array Value} {f : Field} {fs : List Field} {W : World} {u v : Value} {b r : Bool} (hn : f.name ≠ "_") (hu : (part f.type xs f.offset).run Try.prog W = .ok u W) (hv : (part f.type ys f.offset).run Try.prog W = .ok v W)
    (he : (Op.equalIn (d + 1) f.type u v).run Try.prog W = .ok b W) (hr : (Op.eqFields (d + 1) xs ys fs).run Try.prog W = .ok r W) : (Op.eqFields (d + 1) xs ys (f :: fs)).run Try.prog W = .ok (b && r) W := by
  simp only [Op.eqFields, if_pos hn, Sem.run_bind, hu, hv, he, Result.andThen_ok]
  cases b
  · simp
  · simp [hr]
theorem beq_int (a b : Int) : (a == b) = decide (a = b) := by rw [Bool.eq_iff_iff, beq_iff_eq, decide_eq_true_eq]
theorem beq_nat (a b : Nat) : ((a : Int) == (b : Int)) = decide (a = b) := by rw [beq_int]; exact decide_eq_decide.2 (by omega)

theorem eqFields_sym (x y : Sym) (W : World) (d : Nat) : (Op.eqFields (d + 1) x.cells.toArray y.cells.toArray (Try.prog.fieldsOf 51).toList).run Try.prog W = .ok (sameY x y) W := by
  have h0 := run_equalIn_string (P := Try.prog) W d 9 ⟨x.name.toArray⟩ ⟨y.name.toArray⟩ Try.underlying9
  have h1 := run_equalIn_int (P := Try.prog) W d 3 .i64 .i64 x.bind y.bind Try.underlying3
  have h2 := run_equalIn_int (P := Try.prog) W d 3 .i64 .i64 x.kind y.kind Try.underlying3
  have h3 := run_equalIn_int (P := Try.prog) W d 3 .i64 .i64 x.sect y.sect Try.underlying3
  have h4 := run_equalIn_int (P := Try.prog) W d 46 .u64 .u64 (x.value : Int) (y.value : Int) Try.underlying46
  have h5 := run_equalIn_int (P := Try.prog) W d 46 .u64 .u64 (x.size : Int) (y.size : Int) Try.underlying46
  rw [str_eq] at h0
  rw [beq_int] at h1 h2 h3
  rw [beq_nat] at h4 h5
  have hf : ∀ (i : Nat) (f : Field), (Try.prog.fieldsOf 51).toList[i]? = some f → f.name ≠ "_" ∧ f.offset = i ∧ [9, 3, 3, 3, 46, 46][i]? = some f.type := by
    simp only [Program.fieldsOf, Try.underlying51]
    intro i f hf
    have hi := (List.getElem?_eq_some_iff.1 hf).1
    simp only [List.length_cons, List.length_nil] at hi
    match i, hi with
    | 0, _ | 1, _ | 2, _ | 3, _ | 4, _ | 5, _ =>
      injection hf with hf
      subst hf
      exact ⟨by decide, rfl, rfl⟩
  have hl : (Try.prog.fieldsOf 51).toList.length = 6 := by simp only [Program.fieldsOf, Try.underlying51]; rfl
  generalize (Try.prog.fieldsOf 51).toList = fs at *
  obtain ⟨f0, f1, f2, f3, f4, f5, rfl⟩ : ∃ f0 f1 f2 f3 f4 f5, fs = [f0, f1, f2, f3, f4, f5] := by
    match fs, hl with
    | [f0, f1, f2, f3, f4, f5], _ => exact ⟨f0, f1, f2, f3, f4, f5, rfl⟩
  obtain ⟨n0, o0, t0⟩ := hf 0 _ rfl
  obtain ⟨n1, o1, t1⟩ := hf 1 _ rfl
  obtain ⟨n2, o2, t2⟩ := hf 2 _ rfl
  obtain ⟨n3, o3, t3⟩ := hf 3 _ rfl
  obtain ⟨n4, o4, t4⟩ := hf 4 _ rfl
  obtain ⟨n5, o5, t5⟩ := hf 5 _ rfl
  have t0 : f0.type = 9 := (Option.some.inj (show some 9 = some f0.type from t0)).symm
  have t1 : f1.type = 3 := (Option.some.inj (show some 3 = some f1.type from t1)).symm
  have t2 : f2.type = 3 := (Option.some.inj (show some 3 = some f2.type from t2)).symm
  have t3 : f3.type = 3 := (Option.some.inj (show some 3 = some f3.type from t3)).symm
  have t4 : f4.type = 46 := (Option.some.inj (show some 46 = some f4.type from t4)).symm
  have t5 : f5.type = 46 := (Option.some.inj (show some 46 = some f5.type from t5)).symm
  have key := eq_fields (xs := x.cells.toArray) (ys := y.cells.toArray) n0 (by rw [t0, o0]; exact part_str _ 0 _ rfl W) (by rw [t0, o0]; exact part_str _ 0 _ rfl W) (by rw [t0]; exact h0)
    (eq_fields n1 (by rw [t1, o1]; exact part_int _ 1 _ rfl W) (by rw [t1, o1]; exact part_int _ 1 _ rfl W) (by rw [t1]; exact h1)
    (eq_fields n2 (by rw [t2, o2]; exact part_int _ 2 _ rfl W) (by rw [t2, o2]; exact part_int _ 2 _ rfl W) (by rw [t2]; exact h2)
    (eq_fields n3 (by rw [t3, o3]; exact part_int _ 3 _ rfl W) (by rw [t3, o3]; exact part_int _ 3 _ rfl W) (by rw [t3]; exact h3)
    (eq_fields n4 (by rw [t4, o4]; exact part_u64 _ 4 _ rfl W) (by rw [t4, o4]; exact part_u64 _ 4 _ rfl W) (by rw [t4]; exact h4)
    (eq_fields n5 (by rw [t5, o5]; exact part_u64 _ 5 _ rfl W) (by rw [t5, o5]; exact part_u64 _ 5 _ rfl W) (by rw [t5]; exact h5) (fs := []) (r := true) rfl)))))
  rw [key]
  unfold sameY
  simp only [Bool.and_true]
theorem eqFields_rel (x y : Rel) (W : World) (d : Nat) : (Op.eqFields (d + 1) x.cells.toArray y.cells.toArray (Try.prog.fieldsOf 48).toList).run Try.prog W = .ok (sameR x y) W := by
  have h0 := run_equalIn_int (P := Try.prog) W d 46 .u64 .u64 (x.off : Int) (y.off : Int) Try.underlying46
  have h1 := run_equalIn_int (P := Try.prog) W d 3 .i64 .i64 x.sym y.sym Try.underlying3
  have h2 := run_equalIn_int (P := Try.prog) W d 3 .i64 .i64 x.kind y.kind Try.underlying3
  have h3 := run_equalIn_int (P := Try.prog) W d 2 .i64 .i64 x.add y.add Try.underlying2
  rw [beq_int] at h1 h2 h3
  rw [beq_nat] at h0
  have hf : ∀ (i : Nat) (f : Field), (Try.prog.fieldsOf 48).toList[i]? = some f → f.name ≠ "_" ∧ f.offset = i ∧ [46, 3, 3, 2][i]? = some f.type := by
    simp only [Program.fieldsOf, Try.underlying48]
    intro i f hf
    have hi := (List.getElem?_eq_some_iff.1 hf).1
    simp only [List.length_cons, List.length_nil] at hi
    match i, hi with
    | 0, _ | 1, _ | 2, _ | 3, _ =>
      injection hf with hf
      subst hf
      exact ⟨by decide, rfl, rfl⟩
  have hl : (Try.prog.fieldsOf 48).toList.length = 4 := by simp only [Program.fieldsOf, Try.underlying48]; rfl
  generalize (Try.prog.fieldsOf 48).toList = fs at *
  obtain ⟨f0, f1, f2, f3, rfl⟩ : ∃ f0 f1 f2 f3, fs = [f0, f1, f2, f3] := by
    match fs, hl with
    | [f0, f1, f2, f3], _ => exact ⟨f0, f1, f2, f3, rfl⟩
  obtain ⟨n0, o0, t0⟩ := hf 0 _ rfl
  obtain ⟨n1, o1, t1⟩ := hf 1 _ rfl
  obtain ⟨n2, o2, t2⟩ := hf 2 _ rfl
  obtain ⟨n3, o3, t3⟩ := hf 3 _ rfl
  have t0 : f0.type = 46 := (Option.some.inj (show some 46 = some f0.type from t0)).symm
  have t1 : f1.type = 3 := (Option.some.inj (show some 3 = some f1.type from t1)).symm
  have t2 : f2.type = 3 := (Option.some.inj (show some 3 = some f2.type from t2)).symm
  have t3 : f3.type = 2 := (Option.some.inj (show some 2 = some f3.type from t3)).symm
  have key := eq_fields (xs := x.cells.toArray) (ys := y.cells.toArray) n0 (by rw [t0, o0]; exact part_u64 _ 0 _ rfl W) (by rw [t0, o0]; exact part_u64 _ 0 _ rfl W) (by rw [t0]; exact h0)
    (eq_fields n1 (by rw [t1, o1]; exact part_int _ 1 _ rfl W) (by rw [t1, o1]; exact part_int _ 1 _ rfl W) (by rw [t1]; exact h1)
    (eq_fields n2 (by rw [t2, o2]; exact part_int _ 2 _ rfl W) (by rw [t2, o2]; exact part_int _ 2 _ rfl W) (by rw [t2]; exact h2)
    (eq_fields n3 (by rw [t3, o3]; exact part_i64 _ 3 _ rfl W) (by rw [t3, o3]; exact part_i64 _ 3 _ rfl W) (by rw [t3]; exact h3) (fs := []) (r := true) rfl)))
  rw [key]
  unfold sameR
  simp only [Bool.and_true]
theorem neq_sym (x y : Sym) (W : World) : (binOp .neq 51 (.agg x.cells.toArray) (.agg y.cells.toArray)).run Try.prog W = .ok (.bool (!(sameY x y))) W := by
  rw [run_neq_struct, run_equalIn_agg W 9999 _ _ _ (by kernel_rfl) (by kernel_rfl), eqFields_sym x y W 9998]
  rfl
theorem neq_rel (x y : Rel) (W : World) : (binOp .neq 48 (.agg x.cells.toArray) (.agg y.cells.toArray)).run Try.prog W = .ok (.bool (!(sameR x y))) W := by
  rw [run_neq_struct, run_equalIn_agg W 9999 _ _ _ (by kernel_rfl) (by kernel_rfl), eqFields_rel x y W 9998]
  rfl
end

set_option maxRecDepth 10000 in
set_option maxHeartbeats 1600000 in
theorem ysame_any {w : World} {B : Nat} {a a' : Option Addr} {L M : List Sym} (h : Syms w B a L) (h' : Syms w B a' M) (hB : B ≤ w.heap.size) (c c' : Nat) (hl : L.length ≤ 100000) :
    Calls Try.prog 11 #[.slice a L.length c, .slice a' M.length c'] w fun r w' => r = .returned (.bool (alikeL sameY L M)) ∧ Below w.heap.size w w' := by
  by_cases hlen : L.length = M.length
  · have HS := Lib.hid (show alikeL sameY L M = (L.zip M).all (fun p => sameY p.1 p.2) by unfold alikeL; rw [decide_eq_true hlen, Bool.true_and])
    have HH := Lib.hid h
    have HM := Lib.hid h'
    rw [← hlen]
    generalize hN : L.length = N at *
    have HN := Lib.hid hN
    have HN' := Lib.hid hlen
    generalize alikeL sameY L M = sa at *
    have q : ((N : Int) != (N : Int)) = false := by simp
    clear h h' hN hlen
    go_enter Try.func11, Try.ntmps11
    go_wp2_with fail
    clear q
    go_loopw [5] (fun i wr => ∃ k : Nat, k ≤ N ∧ i = .int .i64 k ∧ Below w.heap.size w wr ∧ Hid (((L.zip M).take k).all (fun p => sameY p.1 p.2) = true)) (fun i _ => N - (intOf i).toNat)
    case atStart => exact ⟨0, Nat.zero_le _, rfl, Below.refl _ _, Lib.hid rfl⟩
    case round =>
      obtain ⟨k, hk, rfl, hBl, HA⟩ := hrel
      by_cases hlt : k < N
      · obtain ⟨x, hx⟩ : ∃ x, L[k]? = some x := ⟨L[k]'(by rw [HN.out]; exact hlt), List.getElem?_eq_getElem _⟩
        obtain ⟨y, hy⟩ : ∃ y, M[k]? = some y := ⟨M[k]'(by rw [← HN'.out]; exact hlt), List.getElem?_eq_getElem _⟩
        have hx1 := (HH.out.below (hBl.mono hB))
        have hy1 := (HM.out.below (hBl.mono hB))
        obtain ⟨b, o, rfl, hb, c0, c1, c2, c3, c4, c5⟩ := sym_at hx1 hx
        obtain ⟨b', o', rfl, hb', e0, e1, e2, e3, e4, e5⟩ := sym_at hy1 hy
        have hz := zip_get hx hy
        have HT := Lib.hid (fun (e : sameY x y = true) => all_take (fun p : Sym × Sym => sameY p.1 p.2) _ k _ hz HA.out e)
        have HF := Lib.hid (fun (e : sameY x y = false) => all_not (fun p : Sym × Sym => sameY p.1 p.2) _ k _ hz e)
        have hq := fun W => neq_sym x y W
        rw [show Value.agg x.cells.toArray = .agg #[.string ⟨x.name.toArray⟩, .int .i64 x.bind, .int .i64 x.kind, .int .i64 x.sect, .int .u64 (x.value : Int), .int .u64 (x.size : Int)] from rfl,
          show Value.agg y.cells.toArray = .agg #[.string ⟨y.name.toArray⟩, .int .i64 y.bind, .int .i64 y.kind, .int .i64 y.sect, .int .u64 (y.value : Int), .int .u64 (y.size : Int)] from rfl] at hq
        have HBl := Lib.hid hBl
        have HLT := Lib.hid hlt
        clear hx hy hx1 hy1 hz hBl HA hb hb'
        generalize sameY x y = ss at *
        generalize ByteArray.mk x.name.toArray = xn at *
        generalize ByteArray.mk y.name.toArray = yn at *
        generalize x.bind = x1 at *
        generalize x.kind = x2 at *
        generalize x.sect = x3 at *
        generalize x.value = x4 at *
        generalize x.size = x5 at *
        generalize y.bind = y1 at *
        generalize y.kind = y2 at *
        generalize y.sect = y3 at *
        generalize y.value = y4 at *
        generalize y.size = y5 at *
        cases ss with
        | false =>
          have HZ := Lib.hid (HF.out rfl)
          go_wp2_with fail
          go_region
          all_goals go_wp2
          all_goals go_ret
          all_goals exact ⟨by rw [HS.out, HZ.out]; rfl, below_drewN HBl.out _⟩
        | true =>
          have HZ := Lib.hid (HT.out rfl)
          go_wp2_with fail
          go_region
          all_goals go_wp2
          all_goals exact ⟨⟨k + 1, HLT.out, by go_num, HBl.out.drew, HZ⟩, by have := HLT.out; simp [intOf]; omega⟩
      · have HZ := Lib.hid (show sa = true by
          rw [HS.out]
          have := HA.out
          rwa [List.take_of_length_le (by rw [List.length_zip, ← HN'.out, HN.out]; omega)] at this)
        have HBl := Lib.hid hBl
        clear hBl HA
        go_wp2_with fail
        go_ret
        exact ⟨by rw [HZ.out]; rfl, HBl.out⟩
  · have HF := Lib.hid (show alikeL sameY L M = false by unfold alikeL; rw [decide_eq_false hlen, Bool.false_and])
    have q : ((L.length : Int) != (M.length : Int)) = true := by simp; omega
    clear h h'
    generalize alikeL sameY L M = sa at *
    generalize L.length = n at *
    generalize M.length = m at *
    go_enter Try.func11, Try.ntmps11
    go_wp2_with fail
    go_ret
    exact ⟨by rw [HF.out]; rfl, Below.refl _ _⟩

set_option maxRecDepth 10000 in
set_option maxHeartbeats 1600000 in
theorem yrsame_any {w : World} {B : Nat} {a a' : Option Addr} {L M : List Rel} (h : Rels w B a L) (h' : Rels w B a' M) (hB : B ≤ w.heap.size) (c c' : Nat) (hl : L.length ≤ 100000) :
    Calls Try.prog 12 #[.slice a L.length c, .slice a' M.length c'] w fun r w' => r = .returned (.bool (alikeL sameR L M)) ∧ Below w.heap.size w w' := by
  by_cases hlen : L.length = M.length
  · have HS := Lib.hid (show alikeL sameR L M = (L.zip M).all (fun p => sameR p.1 p.2) by unfold alikeL; rw [decide_eq_true hlen, Bool.true_and])
    have HH := Lib.hid h
    have HM := Lib.hid h'
    rw [← hlen]
    generalize hN : L.length = N at *
    have HN := Lib.hid hN
    have HN' := Lib.hid hlen
    generalize alikeL sameR L M = sa at *
    have q : ((N : Int) != (N : Int)) = false := by simp
    clear h h' hN hlen
    go_enter Try.func12, Try.ntmps12
    go_wp2_with fail
    clear q
    go_loopw [5] (fun i wr => ∃ k : Nat, k ≤ N ∧ i = .int .i64 k ∧ Below w.heap.size w wr ∧ Hid (((L.zip M).take k).all (fun p => sameR p.1 p.2) = true)) (fun i _ => N - (intOf i).toNat)
    case atStart => exact ⟨0, Nat.zero_le _, rfl, Below.refl _ _, Lib.hid rfl⟩
    case round =>
      obtain ⟨k, hk, rfl, hBl, HA⟩ := hrel
      by_cases hlt : k < N
      · obtain ⟨x, hx⟩ : ∃ x, L[k]? = some x := ⟨L[k]'(by rw [HN.out]; exact hlt), List.getElem?_eq_getElem _⟩
        obtain ⟨y, hy⟩ : ∃ y, M[k]? = some y := ⟨M[k]'(by rw [← HN'.out]; exact hlt), List.getElem?_eq_getElem _⟩
        have hx1 := (HH.out.below (hBl.mono hB))
        have hy1 := (HM.out.below (hBl.mono hB))
        obtain ⟨b, o, rfl, hb, c0, c1, c2, c3⟩ := rel_at hx1 hx
        obtain ⟨b', o', rfl, hb', e0, e1, e2, e3⟩ := rel_at hy1 hy
        have hz := zip_get hx hy
        have HT := Lib.hid (fun (e : sameR x y = true) => all_take (fun p : Rel × Rel => sameR p.1 p.2) _ k _ hz HA.out e)
        have HF := Lib.hid (fun (e : sameR x y = false) => all_not (fun p : Rel × Rel => sameR p.1 p.2) _ k _ hz e)
        have hq := fun W => neq_rel x y W
        rw [show Value.agg x.cells.toArray = .agg #[.int .u64 (x.off : Int), .int .i64 x.sym, .int .i64 x.kind, .int .i64 x.add] from rfl,
          show Value.agg y.cells.toArray = .agg #[.int .u64 (y.off : Int), .int .i64 y.sym, .int .i64 y.kind, .int .i64 y.add] from rfl] at hq
        have HBl := Lib.hid hBl
        have HLT := Lib.hid hlt
        clear hx hy hx1 hy1 hz hBl HA hb hb'
        generalize sameR x y = ss at *
        generalize x.off = x1 at *
        generalize x.sym = x2 at *
        generalize x.kind = x3 at *
        generalize x.add = x4 at *
        generalize y.off = y1 at *
        generalize y.sym = y2 at *
        generalize y.kind = y3 at *
        generalize y.add = y4 at *
        cases ss with
        | false =>
          have HZ := Lib.hid (HF.out rfl)
          go_wp2_with fail
          go_region
          all_goals go_wp2
          all_goals go_ret
          all_goals exact ⟨by rw [HS.out, HZ.out]; rfl, below_drewN HBl.out _⟩
        | true =>
          have HZ := Lib.hid (HT.out rfl)
          go_wp2_with fail
          go_region
          all_goals go_wp2
          all_goals exact ⟨⟨k + 1, HLT.out, by go_num, HBl.out.drew, HZ⟩, by have := HLT.out; simp [intOf]; omega⟩
      · have HZ := Lib.hid (show sa = true by
          rw [HS.out]
          have := HA.out
          rwa [List.take_of_length_le (by rw [List.length_zip, ← HN'.out, HN.out]; omega)] at this)
        have HBl := Lib.hid hBl
        clear hBl HA
        go_wp2_with fail
        go_ret
        exact ⟨by rw [HZ.out]; rfl, HBl.out⟩
  · have HF := Lib.hid (show alikeL sameR L M = false by unfold alikeL; rw [decide_eq_false hlen, Bool.false_and])
    have q : ((L.length : Int) != (M.length : Int)) = true := by simp; omega
    clear h h'
    generalize alikeL sameR L M = sa at *
    generalize L.length = n at *
    generalize M.length = m at *
    go_enter Try.func12, Try.ntmps12
    go_wp2_with fail
    go_ret
    exact ⟨by rw [HF.out]; rfl, Below.refl _ _⟩

/-- How many bytes the names have. -/
def sumN (L : List Sym) : Nat := (L.map fun x => x.name.length).sum
theorem sumN_next {L : List Sym} {k : Nat} {x : Sym} (h : L[k]? = some x) : sumN (L.take (k + 1)) = sumN (L.take k) + x.name.length := by
  unfold sumN
  rw [List.take_add_one, h]
  simp

set_option maxRecDepth 10000 in
set_option maxHeartbeats 1600000 in
theorem ybulk_any {w : World} {B : Nat} {a : Option Addr} {L : List Sym} (h : Syms w B a L) (c : Nat) :
    Calls Try.prog 13 #[.slice a L.length c, .int .i64 2000] w fun r w' => ∃ n : Int, r = .returned (.int .i64 n) ∧ (n ≤ 2000 → L.length + sumN L ≤ 2000) ∧ ∃ q, w' = w.drewN q := by
  have HH := Lib.hid h
  generalize hN : L.length = N at *
  have HN := Lib.hid hN
  clear h hN
  go_enter Try.func13, Try.ntmps13
  by_cases hbig : 2000 < N
  · have hd : decide ((2000 : Int) < (N : Int)) = true := decide_eq_true (by omega)
    clear hbig
    go_wp2_with fail
    go_ret
    exact ⟨2001, rfl, fun h => absurd h (by decide), 0, rfl⟩
  · have hd : decide ((2000 : Int) < (N : Int)) = false := decide_eq_false (by omega)
    have HNB := Lib.hid hbig
    have hNb : N ≤ 2000 := by omega
    clear hbig
    go_wp2_with fail
    clear hd
    go_loopw [5, 6] (fun n i wr => ∃ k q z : Nat, k ≤ N ∧ q ≤ 6000 ∧ n = .int .i64 q ∧ i = .int .i64 k ∧ wr = w.drewN z ∧ Hid (q = N + sumN (L.take k))) (fun _ i _ => N - (intOf i).toNat)
    case atStart => exact ⟨0, N, 0, Nat.zero_le _, by omega, rfl, rfl, rfl, Lib.hid rfl⟩
    case round =>
      obtain ⟨k, q, z, hk, hq, rfl, rfl, rfl, HBk⟩ := hrel
      by_cases hlt : k < N
      · obtain ⟨x, hx⟩ : ∃ x, L[k]? = some x := ⟨L[k]'(by rw [HN.out]; exact hlt), List.getElem?_eq_getElem _⟩
        obtain ⟨b, o, rfl, hb, c0, -⟩ := sym_at HH.out hx
        have hsz : (ByteArray.mk x.name.toArray).size = x.name.length := rfl
        have HBn := Lib.hid (show q + x.name.length = N + sumN (L.take (k + 1)) by rw [sumN_next hx, HBk.out]; omega)
        by_cases h1 : 2000 < q
        · have d1 : decide ((2000 : Int) < (q : Int)) = true := decide_eq_true (by omega)
          clear h1 hx
          go_wp2_with fail
          go_ret
          exact ⟨2001, rfl, fun h => absurd h (by decide), z, rfl⟩
        · have d1 : decide ((2000 : Int) < (q : Int)) = false := decide_eq_false (by omega)
          have hq8 : q ≤ 2000 := by omega
          by_cases h3 : 2000 < x.name.length
          · have d3 : decide ((2000 : Int) < (x.name.length : Int)) = true := decide_eq_true (by omega)
            clear h1 h3 hx hq8
            generalize ByteArray.mk x.name.toArray = sb at *
            go_wp2_with fail
            go_ret
            exact ⟨2001, rfl, fun h => absurd h (by decide), z, rfl⟩
          · have d3 : decide ((2000 : Int) < (x.name.length : Int)) = false := decide_eq_false (by omega)
            have hnl : x.name.length ≤ 2000 := by omega
            have HLT := Lib.hid hlt
            clear h1 h3 hx hq
            generalize ByteArray.mk x.name.toArray = sb at *
            generalize x.name.length = nl at *
            go_wp2_with fail
            exact ⟨⟨k + 1, q + nl, z, HLT.out, by omega, by go_num, by go_num, rfl, HBn⟩, by have := HLT.out; simp [intOf]; omega⟩
      · have hkN : k = N := by omega
        subst hkN
        have HA := Lib.hid (show q = k + sumN L by have := HBk.out; rwa [List.take_of_length_le (by rw [HN.out]; omega)] at this)
        go_wp2_with fail
        go_ret
        exact ⟨q, rfl, fun hh => by have := HA.out; omega, z, rfl⟩

end Go.Proofs.Ytkadjejjillmmaa
