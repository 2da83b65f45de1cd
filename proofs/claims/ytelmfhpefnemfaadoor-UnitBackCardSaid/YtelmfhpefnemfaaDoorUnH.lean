/-
  Package unit: equality of two heads, field by field; the document's Same.
-/
import Derived.Test.YtelmfhpefnemfaaDoorUnA
import Derived.Test.YtelmfhpefnemfaaDoorSyH
import Derived.Laws.StructEq
namespace Go.Proofs.YtelmfhpefnemfaaDoor
open Go Go.RowKit

/-- The same? -/
def sameU (x y : UHd) : Bool := decide (x.kind = y.kind) && (decide (x.wide = y.wide) && (decide (x.ab = y.ab) && (decide (x.sig = y.sig) && (decide (x.ty = y.ty) && (decide (x.off = y.off) && (decide (x.first = y.first) && (decide (x.stop = y.stop))))))))
theorem sameU_refl (x : UHd) : sameU x x = true := by simp [sameU]
theorem sameU_eq {x y : UHd} (h : sameU x y = true) : x = y := by
  unfold sameU at h
  simp only [Bool.and_eq_true, decide_eq_true_eq] at h
  cases x; cases y; simp_all
theorem part_boolU (xs : Array Value) (k : Nat) (u : Value) (hx : xs[k]? = some u) (W : World) : (part 4 xs k).run Tryd.prog W = .ok u W := by
  simp only [part, Sem.run_bind, isAgg, run_underlying Tryd.underlying4, Result.andThen_ok, Sem.run_pure]
  simp [hx]
theorem beq_boolU (a b : Bool) : (a == b) = decide (a = b) := by cases a <;> cases b <;> rfl
theorem eqFields_uhd (x y : UHd) (W : World) (d : Nat) : (Op.eqFields (d + 1) x.cells.toArray y.cells.toArray (Tryd.prog.fieldsOf 79).toList).run Tryd.prog W = .ok (sameU x y) W := by
  have h0 := run_equalIn_int (P := Tryd.prog) W d 3 .i64 .i64 (x.kind : Int) (y.kind : Int) Tryd.underlying3
  have h1 := run_equalIn_bool' (P := Tryd.prog) W d 4 x.wide y.wide Tryd.underlying4
  have h2 := run_equalIn_int (P := Tryd.prog) W d 41 .u64 .u64 (x.ab : Int) (y.ab : Int) Tryd.underlying41
  have h3 := run_equalIn_int (P := Tryd.prog) W d 41 .u64 .u64 (x.sig : Int) (y.sig : Int) Tryd.underlying41
  have h4 := run_equalIn_int (P := Tryd.prog) W d 41 .u64 .u64 (x.ty : Int) (y.ty : Int) Tryd.underlying41
  have h5 := run_equalIn_int (P := Tryd.prog) W d 41 .u64 .u64 (x.off : Int) (y.off : Int) Tryd.underlying41
  have h6 := run_equalIn_int (P := Tryd.prog) W d 41 .u64 .u64 (x.first : Int) (y.first : Int) Tryd.underlying41
  have h7 := run_equalIn_int (P := Tryd.prog) W d 41 .u64 .u64 (x.stop : Int) (y.stop : Int) Tryd.underlying41
  rw [beq_int] at h0
  rw [beq_boolU] at h1
  rw [beq_nat] at h2
  rw [beq_nat] at h3
  rw [beq_nat] at h4
  rw [beq_nat] at h5
  rw [beq_nat] at h6
  rw [beq_nat] at h7
  have hf : ∀ (i : Nat) (f : Field), (Tryd.prog.fieldsOf 79).toList[i]? = some f → f.name ≠ "_" ∧ f.offset = i ∧ [3, 4, 41, 41, 41, 41, 41, 41][i]? = some f.type := by
    simp only [Program.fieldsOf, Tryd.underlying79]
    intro i f hf
    have hi := (List.getElem?_eq_some_iff.1 hf).1
    simp only [List.length_cons, List.length_nil] at hi
    match i, hi with
    | 0, _ | 1, _ | 2, _ | 3, _ | 4, _ | 5, _ | 6, _ | 7, _ =>
      injection hf with hf
      subst hf
      exact ⟨by decide, rfl, rfl⟩
  have hl : (Tryd.prog.fieldsOf 79).toList.length = 8 := by simp only [Program.fieldsOf, Tryd.underlying79]; rfl
  generalize (Tryd.prog.fieldsOf 79).toList = fs at *
  obtain ⟨f0, f1, f2, f3, f4, f5, f6, f7, rfl⟩ : ∃ f0 f1 f2 f3 f4 f5 f6 f7, fs = [f0, f1, f2, f3, f4, f5, f6, f7] := by
    match fs, hl with
    | [f0, f1, f2, f3, f4, f5, f6, f7], _ => exact ⟨f0, f1, f2, f3, f4, f5, f6, f7, rfl⟩
  obtain ⟨n0, o0, t0⟩ := hf 0 _ rfl
  obtain ⟨n1, o1, t1⟩ := hf 1 _ rfl
  obtain ⟨n2, o2, t2⟩ := hf 2 _ rfl
  obtain ⟨n3, o3, t3⟩ := hf 3 _ rfl
  obtain ⟨n4, o4, t4⟩ := hf 4 _ rfl
  obtain ⟨n5, o5, t5⟩ := hf 5 _ rfl
  obtain ⟨n6, o6, t6⟩ := hf 6 _ rfl
  obtain ⟨n7, o7, t7⟩ := hf 7 _ rfl
  have t0 : f0.type = 3 := (Option.some.inj (show some 3 = some f0.type from t0)).symm
  have t1 : f1.type = 4 := (Option.some.inj (show some 4 = some f1.type from t1)).symm
  have t2 : f2.type = 41 := (Option.some.inj (show some 41 = some f2.type from t2)).symm
  have t3 : f3.type = 41 := (Option.some.inj (show some 41 = some f3.type from t3)).symm
  have t4 : f4.type = 41 := (Option.some.inj (show some 41 = some f4.type from t4)).symm
  have t5 : f5.type = 41 := (Option.some.inj (show some 41 = some f5.type from t5)).symm
  have t6 : f6.type = 41 := (Option.some.inj (show some 41 = some f6.type from t6)).symm
  have t7 : f7.type = 41 := (Option.some.inj (show some 41 = some f7.type from t7)).symm
  have key := eq_fields (xs := x.cells.toArray) (ys := y.cells.toArray) n0 (by rw [t0, o0]; exact part_int _ 0 _ rfl W) (by rw [t0, o0]; exact part_int _ 0 _ rfl W) (by rw [t0]; exact h0)
    (eq_fields n1 (by rw [t1, o1]; exact part_boolU _ 1 _ rfl W) (by rw [t1, o1]; exact part_boolU _ 1 _ rfl W) (by rw [t1]; exact h1)
    (eq_fields n2 (by rw [t2, o2]; exact part_u64 _ 2 _ rfl W) (by rw [t2, o2]; exact part_u64 _ 2 _ rfl W) (by rw [t2]; exact h2)
    (eq_fields n3 (by rw [t3, o3]; exact part_u64 _ 3 _ rfl W) (by rw [t3, o3]; exact part_u64 _ 3 _ rfl W) (by rw [t3]; exact h3)
    (eq_fields n4 (by rw [t4, o4]; exact part_u64 _ 4 _ rfl W) (by rw [t4, o4]; exact part_u64 _ 4 _ rfl W) (by rw [t4]; exact h4)
    (eq_fields n5 (by rw [t5, o5]; exact part_u64 _ 5 _ rfl W) (by rw [t5, o5]; exact part_u64 _ 5 _ rfl W) (by rw [t5]; exact h5)
    (eq_fields n6 (by rw [t6, o6]; exact part_u64 _ 6 _ rfl W) (by rw [t6, o6]; exact part_u64 _ 6 _ rfl W) (by rw [t6]; exact h6)
    (eq_fields n7 (by rw [t7, o7]; exact part_u64 _ 7 _ rfl W) (by rw [t7, o7]; exact part_u64 _ 7 _ rfl W) (by rw [t7]; exact h7) (fs := []) (r := true) rfl)))))))
  rw [key]
  unfold sameU
  simp only [Bool.and_true]
theorem neq_uhd (x y : UHd) (W : World) : (binOp .neq 79 (.agg x.cells.toArray) (.agg y.cells.toArray)).run Tryd.prog W = .ok (.bool (!(sameU x y))) W := by
  rw [run_neq_struct, run_equalIn_agg W 9999 _ _ _ (by kernel_rfl) (by kernel_rfl), eqFields_uhd x y W 9998]
  rfl
theorem uhd_at {w : World} {B : Nat} {a : Option Addr} {L : List UHd} (h : Row 8 UHd.cells w B a L) {i : Nat} {x : UHd} (hx : L[i]? = some x) : ∃ b o, a = some ⟨b, o, none⟩ ∧ b < B ∧
    w.cell? ⟨b, o + i * 8, none⟩ = some (.int .i64 x.kind) ∧ w.cell? ⟨b, o + i * 8 + 1, none⟩ = some (.bool x.wide) ∧ w.cell? ⟨b, o + i * 8 + 2, none⟩ = some (.int .u64 (x.ab : Int)) ∧ w.cell? ⟨b, o + i * 8 + 3, none⟩ = some (.int .u64 (x.sig : Int)) ∧
    w.cell? ⟨b, o + i * 8 + 4, none⟩ = some (.int .u64 (x.ty : Int)) ∧ w.cell? ⟨b, o + i * 8 + 5, none⟩ = some (.int .u64 (x.off : Int)) ∧ w.cell? ⟨b, o + i * 8 + 6, none⟩ = some (.int .u64 (x.first : Int)) ∧ w.cell? ⟨b, o + i * 8 + 7, none⟩ = some (.int .u64 (x.stop : Int)) := by
  have hl : 0 < L.length := by have := (List.getElem?_eq_some_iff.1 hx).1; omega
  obtain ⟨b, o, e, hlt, hc⟩ := h hl
  have h' := hc i x hx
  exact ⟨b, o, e, hlt, h' 0 _ rfl, h' 1 _ rfl, h' 2 _ rfl, h' 3 _ rfl, h' 4 _ rfl, h' 5 _ rfl, h' 6 _ rfl, h' 7 _ rfl⟩
theorem alikeU {L M : List UHd} : alikeL sameU L M = true ↔ L = M := by
  constructor
  · intro h
    unfold alikeL at h
    rw [Bool.and_eq_true, decide_eq_true_eq, List.all_eq_true] at h
    refine List.ext_getElem? fun i => ?_
    rcases Nat.lt_or_ge i L.length with hi | hi
    · have hx := List.getElem?_eq_getElem hi
      have hy := List.getElem?_eq_getElem (show i < M.length by omega)
      rw [hx, hy]
      have := h.2 _ (List.mem_of_getElem? (zip_get hx hy))
      exact congrArg some (sameU_eq this)
    · rw [List.getElem?_eq_none hi, List.getElem?_eq_none (by omega)]
  · rintro rfl
    exact alikeL_refl sameU_refl L

set_option maxRecDepth 10000 in
set_option maxHeartbeats 1600000 in
theorem rsame_unit {w : World} {B : Nat} {a a' : Option Addr} {L M : List UHd} (h : Row 8 UHd.cells w B a L) (h' : Row 8 UHd.cells w B a' M) (hB : B ≤ w.heap.size) (c c' : Nat) (hl : L.length ≤ 100000) :
    Calls Tryd.prog 29 #[.slice a L.length c, .slice a' M.length c'] w fun r w' => r = .returned (.bool (alikeL sameU L M)) ∧ Below w.heap.size w w' := by
  by_cases hlen : L.length = M.length
  · have HS := Lib.hid (show alikeL sameU L M = (L.zip M).all (fun p => sameU p.1 p.2) by unfold alikeL; rw [decide_eq_true hlen, Bool.true_and])
    have HH := Lib.hid h
    have HM := Lib.hid h'
    rw [← hlen]
    generalize hN : L.length = N at *
    have HN := Lib.hid hN
    have HN' := Lib.hid hlen
    generalize alikeL sameU L M = sa at *
    have q : ((N : Int) != (N : Int)) = false := by simp
    clear h h' hN hlen
    go_enter Tryd.func29, Tryd.ntmps29
    go_wp2_with fail
    clear q
    go_loopw [5] (fun i wr => ∃ k : Nat, k ≤ N ∧ i = .int .i64 k ∧ Below w.heap.size w wr ∧ Hid (((L.zip M).take k).all (fun p => sameU p.1 p.2) = true)) (fun i _ => N - (intOf i).toNat)
    case atStart => exact ⟨0, Nat.zero_le _, rfl, Below.refl _ _, Lib.hid rfl⟩
    case round =>
      obtain ⟨k, hk, rfl, hBl, HA⟩ := hrel
      by_cases hlt : k < N
      · obtain ⟨x, hx⟩ : ∃ x, L[k]? = some x := ⟨L[k]'(by rw [HN.out]; exact hlt), List.getElem?_eq_getElem _⟩
        obtain ⟨y, hy⟩ : ∃ y, M[k]? = some y := ⟨M[k]'(by rw [← HN'.out]; exact hlt), List.getElem?_eq_getElem _⟩
        have hx1 := (HH.out.below (hBl.mono hB))
        have hy1 := (HM.out.below (hBl.mono hB))
        obtain ⟨b, o, rfl, hb, c0, c1, c2, c3, c4, c5, c6, c7⟩ := uhd_at hx1 hx
        obtain ⟨b', o', rfl, hb', e0, e1, e2, e3, e4, e5, e6, e7⟩ := uhd_at hy1 hy
        have hz := zip_get hx hy
        have HT := Lib.hid (fun (e : sameU x y = true) => all_take (fun p : UHd × UHd => sameU p.1 p.2) _ k _ hz HA.out e)
        have HF := Lib.hid (fun (e : sameU x y = false) => all_not (fun p : UHd × UHd => sameU p.1 p.2) _ k _ hz e)
        have hq := fun W => neq_uhd x y W
        rw [show Value.agg x.cells.toArray = .agg #[.int .i64 x.kind, .bool x.wide, .int .u64 (x.ab : Int), .int .u64 (x.sig : Int), .int .u64 (x.ty : Int), .int .u64 (x.off : Int), .int .u64 (x.first : Int), .int .u64 (x.stop : Int)] from rfl,
          show Value.agg y.cells.toArray = .agg #[.int .i64 y.kind, .bool y.wide, .int .u64 (y.ab : Int), .int .u64 (y.sig : Int), .int .u64 (y.ty : Int), .int .u64 (y.off : Int), .int .u64 (y.first : Int), .int .u64 (y.stop : Int)] from rfl] at hq
        have HBl := Lib.hid hBl
        have HLT := Lib.hid hlt
        clear hx hy hx1 hy1 hz hBl HA hb hb'
        generalize sameU x y = ss at *
        generalize x.kind = x1 at *
        generalize x.wide = x2 at *
        generalize x.ab = x3 at *
        generalize x.sig = x4 at *
        generalize x.ty = x5 at *
        generalize x.off = x6 at *
        generalize x.first = x7 at *
        generalize x.stop = x8 at *
        generalize y.kind = y1 at *
        generalize y.wide = y2 at *
        generalize y.ab = y3 at *
        generalize y.sig = y4 at *
        generalize y.ty = y5 at *
        generalize y.off = y6 at *
        generalize y.first = y7 at *
        generalize y.stop = y8 at *
        cases ss with
        | false =>
          have HZ := Lib.hid (HF.out rfl)
          go_wp2_with fail
          go_quiet (fail)
          go_wp2
          go_ret
          exact ⟨by rw [HS.out, HZ.out]; rfl, below_drewN HBl.out _⟩
        | true =>
          have HZ := Lib.hid (HT.out rfl)
          go_wp2_with fail
          go_quiet (fail)
          go_wp2
          exact ⟨⟨k + 1, HLT.out, by go_num, below_drewN HBl.out _, HZ⟩, by have := HLT.out; simp [intOf]; omega⟩
      · have HZ := Lib.hid (show sa = true by
          rw [HS.out]
          have := HA.out
          rwa [List.take_of_length_le (by rw [List.length_zip, ← HN'.out, HN.out]; omega)] at this)
        have HBl := Lib.hid hBl
        clear hBl HA
        go_wp2_with fail
        go_ret
        exact ⟨by rw [HZ.out]; rfl, HBl.out⟩
  · have HF := Lib.hid (show alikeL sameU L M = false by unfold alikeL; rw [decide_eq_false hlen, Bool.false_and])
    have q : ((L.length : Int) != (M.length : Int)) = true := by simp; omega
    clear h h'
    generalize alikeL sameU L M = sa at *
    generalize L.length = n at *
    generalize M.length = m at *
    go_enter Tryd.func29, Tryd.ntmps29
    go_wp2_with fail
    go_ret
    exact ⟨by rw [HF.out]; rfl, Below.refl _ _⟩

end Go.Proofs.YtelmfhpefnemfaaDoor
