/-
  AbbrevFinds' walk.
-/
import Derived.Test.YteadabmlleipiaaAbS
import Derived.Test.YteadabmlleipiaaSyO
import Derived.Deep.AppendLies
namespace Go.Proofs.Yteadabmlleipiaa
open Go Go.RowKit Go.ChangeShapes Go.WideShapes Go.Deep

theorem ao_one : Try.prog.cellsOf 75 = 1 := by kernel_rfl
theorem ao_bool : Try.prog.cellsOf 4 = 1 := by kernel_rfl
theorem ao_three : Try.prog.cellsOf 121 = 3 := by kernel_rfl
theorem ao_four : Try.prog.cellsOf 77 = 4 := by kernel_rfl
section
variable {H : Type} {enc : TypeId × Value → H} {w : World} {held : Bool} {fuel : Nat}
/-- A cell of a slice's type holds a slice. -/
theorem ao_cell {t e : TypeId} (ht : Try.prog.underlying t = some (.slice e)) {cs : List Value} {x : DataW H × List MemPlace}
    (h : DataW.trod enc Try.prog w 0 (fun _ => true) held fuel t cs = some x) : ∃ a len cap, cs = (Value.slice a len cap).cells.toList := by
  rcases open_slice ht h with ⟨e, _⟩ | ⟨a, len, cap, m, n, D, Pl, e, _⟩
  · exact ⟨none, 0, 0, e⟩
  · exact ⟨some a, len, cap, e⟩

set_option maxRecDepth 20000 in
theorem spc_of {cs : List Value} {x : DataW H × List MemPlace}
    (h : DataW.trod enc Try.prog w 0 (fun _ => true) held fuel 121 cs = some x) : ∃ y : Spc, cs = y.cells ∧ y.In := by
  obtain ⟨xs, k, _, _, hcl, hlen, hg⟩ := DataW.trod_struct Try.underlying121 h
  rw [ao_three] at hcl
  match cs, hcl, xs, hlen with
  | [c0, c1, c2], _, [y0, y1, y2], _ =>
    have g0 := hg 0 _ rfl
    have g1 := hg 1 _ rfl
    have g2 := hg 2 _ rfl
    simp [y_int, y_i64] at g0 g1 g2
    obtain ⟨z0, rfl, i0⟩ := y_int_of g0
    obtain ⟨z1, rfl, i1⟩ := y_int_of g1
    obtain ⟨z2, rfl, i2⟩ := y_i64_of g2
    exact ⟨⟨z0, z1, z2⟩, rfl, i0, i1, i2⟩

set_option maxRecDepth 20000 in
theorem spcs_of {a1 : Option Addr} {len1 cap1 : Nat} {x : DataW H × List MemPlace}
    (h : DataW.trod enc Try.prog w 0 (fun _ => true) held fuel 75 (Value.slice a1 len1 cap1).cells.toList = some x) : ∃ L : List Spc, L.length = len1 ∧ len1 ≤ 9223372036854775807 ∧ Spcs w w.heap.size a1 L ∧ ∀ y ∈ L, y.In := by
  rcases open_slice Try.underlying75 h with ⟨hcs, _⟩ | ⟨a, len, cap, m, n, D, Pl, hcs, _, hl, hcx, hmm, _, hi⟩
  · simp [Value.cells] at hcs
    obtain ⟨rfl, rfl, rfl⟩ := hcs
    exact ⟨[], rfl, by decide, fun h0 => absurd h0 (by simp), fun x hx => by cases hx⟩
  · simp [Value.cells] at hcs
    obtain ⟨rfl, rfl, rfl⟩ := hcs
    have hlm : len1 ≤ m := by rw [hmm]; simp; omega
    rw [ao_three] at hi
    obtain ⟨L, hL, hP⟩ := each_of (P := fun i (y : Spc) => (∀ (j : Nat) (v : Value), y.cells[j]? = some v → w.cell? ((a.add (i * 3)).add j) = some v) ∧ y.In) len1 (fun i hi1 => by
      obtain ⟨cs', hc, ht⟩ := hi i (by omega)
      obtain ⟨_, hcl, hat⟩ := World.cells?_some hc
      obtain ⟨y, rfl, g1⟩ := spc_of ht
      exact ⟨y, fun j v hv => by
        have hj : j < 3 := (List.getElem?_eq_some_iff.1 hv).1
        rw [hat j hj, hv], g1⟩)
    obtain ⟨h1, h2⟩ := row_of spc_three (by decide) hP
    exact ⟨L, hL, by unfold maxLen at hcx; omega, h1, h2⟩

set_option maxRecDepth 20000 in
theorem alay_of {cs : List Value} {x : DataW H × List MemPlace} (h : DataW.trod enc Try.prog w 0 (fun _ => true) held fuel 77 cs = some x) : ∃ y : ALay, cs = y.cells ∧ Spcs w w.heap.size y.a y.x.l ∧ y.Nums ∧ y.x.l.length ≤ 9223372036854775807 := by
  obtain ⟨xs, k, _, _, hcl, hlen, hg⟩ := DataW.trod_struct Try.underlying77 h
  rw [ao_four] at hcl
  match cs, hcl, xs, hlen with
  | [c0, c1, c2, c3], _, [y0, y1, y2, y3], _ =>
    have g0 := hg 0 _ rfl
    have g1 := hg 1 _ rfl
    have g2 := hg 2 _ rfl
    have g3 := hg 3 _ rfl
    simp [y_int, y_u64, ao_bool, ao_one] at g0 g1 g2 g3
    obtain ⟨z0, rfl, i0⟩ := y_nat_of g0
    obtain ⟨z1, rfl, i1⟩ := y_int_of g1
    obtain ⟨b1, hb1, _⟩ := DataW.trod_bool Try.underlying4 g2
    injection hb1 with hb1
    obtain ⟨a3, n3, k3, e3⟩ := ao_cell Try.underlying75 g3
    rw [e3] at g3
    simp only [Value.cells, List.cons.injEq, and_true] at e3
    obtain ⟨L, rfl, hm, hs, hn⟩ := spcs_of g3
    exact ⟨⟨⟨z0, z1, b1, L⟩, a3, k3⟩, by rw [hb1, e3]; rfl, hs, ⟨i0, i1, hn⟩, hm⟩

set_option maxRecDepth 20000 in
theorem abbs_of {a1 : Option Addr} {len1 cap1 : Nat} {x : DataW H × List MemPlace}
    (h : DataW.trod enc Try.prog w 0 (fun _ => true) held fuel 59 (Value.slice a1 len1 cap1).cells.toList = some x) : ∃ L : List ALay, L.length = len1 ∧ Abbs w w.heap.size a1 L ∧ ∀ y ∈ L, y.Nums := by
  rcases open_slice Try.underlying59 h with ⟨hcs, _⟩ | ⟨a, len, cap, m, n, D, Pl, hcs, _, hl, _, hmm, _, hi⟩
  · simp [Value.cells] at hcs
    obtain ⟨rfl, rfl, rfl⟩ := hcs
    exact ⟨[], rfl, ⟨fun h0 => absurd h0 (by simp), fun x hx => by cases hx⟩, fun x hx => by cases hx⟩
  · simp [Value.cells] at hcs
    obtain ⟨rfl, rfl, rfl⟩ := hcs
    have hlm : len1 ≤ m := by rw [hmm]; simp; omega
    rw [ao_four] at hi
    obtain ⟨L, hL, hP⟩ := each_of (P := fun i (y : ALay) => (∀ (j : Nat) (v : Value), y.cells[j]? = some v → w.cell? ((a.add (i * 4)).add j) = some v) ∧ Spcs w w.heap.size y.a y.x.l ∧ y.Nums) len1 (fun i hi1 => by
      obtain ⟨cs', hc, ht⟩ := hi i (by omega)
      obtain ⟨_, hcl, hat⟩ := World.cells?_some hc
      obtain ⟨y, rfl, g1, g2, -⟩ := alay_of ht
      exact ⟨y, fun j v hv => by
        have hj : j < 4 := (List.getElem?_eq_some_iff.1 hv).1
        rw [hat j hj, hv], g1, g2⟩)
    obtain ⟨h1, h2⟩ := row_of (P := fun (y : ALay) => Spcs w w.heap.size y.a y.x.l ∧ y.Nums) abb_four (by decide) hP
    exact ⟨L, hL, ⟨h1, fun y hy => (h2 y hy).1⟩, fun y hy => (h2 y hy).2⟩
end

section
variable {H : Type} {enc : TypeId × Value → H} {w : World}
set_option maxRecDepth 20000 in
theorem abb_arg {base : Nat} {v : Value} {d : DataW H} {p : List MemPlace} (hv : Value.okWide Try.prog w .any base 77 v) (h : DataW.Trod enc Try.prog w 0 (fun _ => true) true 77 v d p) :
    ∃ y : ALay, v = y.val ∧ Spcs w w.heap.size y.a y.x.l ∧ y.Nums ∧ y.x.l.length ≤ 9223372036854775807 := by
  obtain ⟨cs, rfl, hsz⟩ := okWide_struct Try.underlying77 hv
  obtain ⟨fuel, hf⟩ := h
  obtain ⟨y, hy, hn⟩ := alay_of hf
  have hcs : cs = y.cells.toArray := by
    apply Array.ext'
    simpa [Value.cells] using hy
  exact ⟨y, by rw [hcs]; rfl, hn⟩
end

end Go.Proofs.Yteadabmlleipiaa

namespace Go.Proofs.Yteadabmlleipiaa
open Go Go.RowKit

section
variable {P : Program}
theorem run_append_rowsA (w : World) (base : Nat) (t ty e : TypeId) (i : TypeInfo) (z : Value) (size bytes : Nat) (ht : P.underlying t = some (.slice e)) (hi : P.info? e = some i) (hz : i.zero = some z)
    (hsize : i.size = size) (hby : i.bytes = bytes) (hzs : z.cells.size = size) (hsz : 0 < size)
    (v : Value) (n : Nat) (xs : List Value) (hown : w.ownsRow base e size v n xs) (A : Option Addr) (m c : Nat) (news : List Value) (hl : news.length = m * size) (hA : A = none → m = 0) (hnews : ∀ ad, A = some ad → ∀ j u, news[j]? = some u → w.cell? (ad.add j) = some u) (h1 : ∀ u ∈ news, u.oneCell' = true)
    (h63 : n + m ≤ maxLen) (hbytes : (n + m) * bytes ≤ 140737488355328) (hbase : base ≤ w.heap.size) :
    ∃ v' w', (Builtin.append_ #[t, t] ty #[v, .slice A m c]).run P w = .ok v' w' ∧ w'.ownsRow base e size v' (n + m) (xs ++ news) ∧ w.grownBy w' v.ownBlock := by
  rcases A with _ | ad
  · obtain rfl := hA rfl
    obtain rfl : news = [] := List.eq_nil_of_length_eq_zero (by rw [hl]; simp)
    refine ⟨v, w, ?_, by simpa using hown, ⟨rfl, rfl, rfl, Nat.le_refl _, fun _ _ _ => rfl⟩⟩
    rcases hown.2 with ⟨rfl, _⟩ | ⟨g, cap, cur, rfl, _, _, hnc, _⟩
    · simp [Builtin.append_, run_underlying ht, sizeOf, typeInfo, hi, Builtin.lenOf, Builtin.firstCells]
    · simp [Builtin.append_, run_underlying ht, sizeOf, typeInfo, hi, Builtin.lenOf, Builtin.firstCells, hnc, storeCells]
  · obtain ⟨v', w', h2, h3, h4, _, _⟩ := run_append_own_at (P := P) w base t ty e i z size bytes ht hi hz hsize hby hzs hsz v n xs hown ad m c news hl (hnews ad rfl) h1 h63 hbytes hbase
    exact ⟨v', w', h2, h3, h4⟩

variable {α : Type} {f : α → List Value} {w X : World} {ops : Array Oper} {o : Oper} {a : Act} {K : Act → World → Prop} {Q : Exit → Act → World → Prop} {E : Prop}
theorem row_newsA {n B : Nat} {A : Option Addr} {L : List α} (hn : ∀ x, (f x).length = n) (h : Row n f w B A L) : (A = none → L.length = 0) ∧ ∀ ad, A = some ad → ∀ j u, (cellsF f L)[j]? = some u → w.cell? (ad.add j) = some u := by
  constructor
  · intro e
    rcases Nat.eq_zero_or_pos L.length with h0 | h0
    · exact h0
    · obtain ⟨b, o, e', _⟩ := h h0
      rw [e] at e'; cases e'
  · intro ad e j u hu
    have hl : 0 < L.length := by
      rcases Nat.eq_zero_or_pos L.length with h0 | h0
      · rw [List.eq_nil_of_length_eq_zero h0] at hu
        simp [cellsF] at hu
      · exact h0
    obtain ⟨b, o, e', hlt, hc⟩ := h hl
    rw [e] at e'
    injection e' with e'
    subst e'
    have hj : j < (cellsF f L).length := (List.getElem?_eq_some_iff.1 hu).1
    rw [cellsF_length hn] at hj
    have hn0 : 0 < n := by
      rcases Nat.eq_zero_or_pos n with h0 | h0
      · subst h0; simp at hj
      · exact h0
    have hq : j / n < L.length := Nat.div_lt_of_lt_mul (by rw [Nat.mul_comm]; exact hj)
    have hr : j % n < n := Nat.mod_lt _ hn0
    have hx : L[j / n]? = some (L[j / n]'hq) := List.getElem?_eq_getElem _
    have hv : (f (L[j / n]'hq))[j % n]? = some ((f (L[j / n]'hq))[j % n]'(by rw [hn]; exact hr)) := List.getElem?_eq_getElem _
    have h2 := cellsF_at hn L _ _ _ _ hx hv
    rw [show j / n * n + j % n = j by rw [Nat.mul_comm]; exact Nat.div_add_mod j n, hu] at h2
    injection h2 with h2
    have h3 := hc _ _ hx _ _ hv
    rw [addr_add, h2]
    rwa [show o + j / n * n + j % n = o + j by have := Nat.div_add_mod j n; rw [Nat.mul_comm] at this; omega] at h3

/-- A row, be it empty, copied behind an empty one of the call's own. -/
theorem step_copyA (hgd : o.guard = none) (s x : Operand) (t : TypeId)
    (ho : o.op = .call { callee := .builtin .append, args := #[s, x], argTypes := #[t, t] })
    (e : TypeId) (i : TypeInfo) (z : Value) (size bytes : Nat) (ht : P.underlying t = some (.slice e)) (hi : P.info? e = some i) (hz : i.zero = some z)
    (hsize : i.size = size) (hby : i.bytes = bytes) (hzs : z.cells.size = size) (hsz : 0 < size)
    (gA : Nat) (hs : a.eval s = .slice (some ⟨gA, 0, none⟩) 0 0) (hA : X.heap[gA]? = some (.cells #[] e (0, 0))) (hge : w.heap.size ≤ gA) (hb : Below w.heap.size w X)
    (A : Option Addr) (m c : Nat) (L : List α) (hx : a.eval x = .slice A m c) (hm : L.length = m) (hn : ∀ x, (f x).length = size) (hone : ∀ x, ∀ u ∈ f x, u.oneCell' = true) (hrow : Row size f w w.heap.size A L)
    (h63 : m ≤ maxLen) (hbytes : m * bytes ≤ 140737488355328)
    (h : ∀ v' w', w'.ownsRow w.heap.size e size v' m (cellsF f L) → X.grownBy w' (some gA) → Below w.heap.size w w' → K (a.put o.dst v') w') :
    if Region.wanted o (yielded ops a.tmps) = true then Oper.wp P o a X K Q else E := by
  have hw : Region.wanted o (yielded ops a.tmps) = true := by simp [Region.wanted, hgd]
  rw [if_pos hw]
  have hown : X.ownsRow w.heap.size e size (.slice (some ⟨gA, 0, none⟩) 0 0) 0 [] := ⟨by simp, .inr ⟨gA, 0, #[], rfl, hge, hA, Nat.le_refl _, Nat.zero_le _, by simp, by simp⟩⟩
  obtain ⟨hA0, hnews⟩ := row_newsA hn (Row.below hrow hb)
  obtain ⟨v', w', hr, h2, h3⟩ := run_append_rowsA (P := P) X w.heap.size t o.type e i z size bytes ht hi hz hsize hby hzs hsz _ 0 [] hown A m c (cellsF f L) (by rw [cellsF_length hn, hm]) (fun e => by rw [← hm]; exact hA0 e) hnews (fun u hu => by
    obtain ⟨x, _, hx⟩ := List.mem_flatMap.1 hu
    exact hone x u hx) (by omega) (by rw [Nat.zero_add]; exact hbytes) hb.size
  unfold Oper.wp execOp
  simp only [ho, resolve, invoke, builtin, Sem.run_bind, Sem.run_pure, Result.andThen_ok, List.map_toArray, List.map_cons, List.map_nil, hs, hx, hr]
  rw [Nat.zero_add, List.nil_append] at h2
  exact h v' w' h2 h3 (hb.trans (below_of_only h3 hb.size (fun k hk => by have e5 : gA = k := (by simpa [Value.ownBlock] using hk); omega)))
/-- One item more behind a row of the call's own. -/
theorem step_oneA (hgd : o.guard = none) (s x : Operand) (t : TypeId)
    (ho : o.op = .call { callee := .builtin .append, args := #[s, x], argTypes := #[t, t] })
    (base : Nat) (e : TypeId) (i : TypeInfo) (z : Value) (size bytes : Nat) (ht : P.underlying t = some (.slice e)) (hi : P.info? e = some i) (hz : i.zero = some z)
    (hsize : i.size = size) (hby : i.bytes = bytes) (hzs : z.cells.size = size) (hsz : 0 < size)
    (v : Value) (n : Nat) (xs : List Value) (hs : a.eval s = v) (hown : w.ownsRow base e size v n xs) (hb : Below w.heap.size w X)
    (k c : Nat) (cs : Array Value) (hx : a.eval x = .slice (some ⟨k, 0, none⟩) 1 c) (hlit : X.heap[k]? = some (.cells cs e (0, 0))) (hcs : cs.toList.length = 1 * size) (hy : ∀ u ∈ cs.toList, u.oneCell' = true)
    (h63 : n + 1 ≤ maxLen) (hbytes : (n + 1) * bytes ≤ 140737488355328) (hbase : base ≤ w.heap.size)
    (h : ∀ v' w', w'.ownsRow base e size v' (n + 1) (xs ++ cs.toList) → Below base w w' → K (a.put o.dst v') w') :
    if Region.wanted o (yielded ops a.tmps) = true then Oper.wp P o a X K Q else E := by
  have hw : Region.wanted o (yielded ops a.tmps) = true := by simp [Region.wanted, hgd]
  rw [if_pos hw]
  have hX := row_below hown hb
  obtain ⟨v', w', hr, h2, h3⟩ := run_append_rowsA (P := P) X base t o.type e i z size bytes ht hi hz hsize hby hzs hsz v n xs hX (some ⟨k, 0, none⟩) 1 c cs.toList hcs (fun e => by cases e) (fun ad e => by
    injection e with e
    subst e
    exact World.news_of_block (cs := cs) (t := _) (fr := (0, 0)) hlit) hy h63 hbytes (Nat.le_trans hbase hb.size)
  unfold Oper.wp execOp
  simp only [ho, resolve, invoke, builtin, Sem.run_bind, Sem.run_pure, Result.andThen_ok, List.map_toArray, List.map_cons, List.map_nil, hs, hx, hr]
  exact h v' w' h2 ((hb.mono hbase).trans (below_of_only h3 (Nat.le_trans hbase hb.size) (fun k hk => (hX.lt k hk).1)))
end
theorem lit_firstA (w : World) (o1 o2 : Obj) : ((w.alloc o1).alloc o2).heap[w.heap.size]? = some o1 := by
  show ((w.heap.push o1).push o2)[w.heap.size]? = some o1
  simp [Array.getElem?_push]
theorem lit_secondA (w : World) (o1 o2 : Obj) : ((w.alloc o1).alloc o2).heap[w.heap.size + 1]? = some o2 := by
  have := heap_alloc_new (w.alloc o1) o2
  simpa using this

/-! ### What is found -/
theorem findK_front {L : List ALay} {code k : Nat} (R : List ALay) (h : findK L code = some k) : findK (L ++ R) code = some k := by
  obtain ⟨y, h1, h2, h3⟩ := firstK_some (i := 0) (by rw [Nat.zero_add]; exact h)
  have hk := (List.getElem?_eq_some_iff.1 h1).1
  exact findK_at (by rw [List.getElem?_append_left hk]; exact h1) (by rw [List.take_append_of_le_length (by omega)]; exact h3) h2
/-- Where the codes are apart, each is found at its place. -/
theorem findK_own {L : List ALay} (h : ((absOf L).map Abb.code).Nodup) {k : Nat} {y : ALay} (hy : L[k]? = some y) : findK L y.x.code = some k := by
  refine findK_at hy ?_ (by simp [hasC])
  rw [List.all_eq_true]
  intro z hz
  obtain ⟨j, hj, e⟩ := List.getElem_of_mem hz
  have hj' : j < k := by rw [List.length_take] at hj; omega
  have hk := (List.getElem?_eq_some_iff.1 hy).1
  have hne := (List.pairwise_iff_getElem.1 h) j k (by simp [absOf]; omega) (by simp [absOf]; omega) hj'
  have hjL : j < L.length := by omega
  have e1 : L[j] = z := by rw [← e, List.getElem_take]
  have e2 : L[k] = y := by have := (List.getElem?_eq_some_iff.1 hy).2; exact this
  simp only [absOf, List.map_map, List.getElem_map, Function.comp, e1, e2] at hne
  simp only [hasC, Bool.not_eq_true', decide_eq_false_iff_not]
  exact hne
theorem firstK_no {α : Type} {p : α → Bool} : ∀ {l : List α} {i : Nat}, firstK p i l = none → l.all (fun y => !(p y)) = true
  | [], _, _ => rfl
  | x :: l, i, h => by
    unfold firstK at h
    cases hp : p x with
    | true => rw [hp] at h; simp at h
    | false =>
      rw [hp] at h
      simp only [Bool.false_eq_true, if_false] at h
      rw [List.all_cons, hp, firstK_no h]
      rfl
theorem findK_last {L : List ALay} {m : ALay} (h : findK L m.x.code = none) : findK (L ++ [m]) m.x.code = some L.length := by
  refine findK_at (y := m) (by simp) ?_ (by simp [hasC])
  rw [List.take_left' rfl]
  exact firstK_no h
theorem oneL_self (y : ALay) : oneL y y = true := (oneB_iff _ _).2 rfl

end Go.Proofs.Yteadabmlleipiaa

namespace Go.Proofs.Yteadabmlleipiaa
open Go Go.RowKit

theorem calls_found {f : FuncId} {xs : Array Value} {w : World} {L : List ALay} {code k : Nat} {y : ALay} (h : Calls Try.prog f xs w fun r w' => ∃ z b, r = .returned (.tuple #[z, .bool b]) ∧ Found L code z b ∧ Below w.heap.size w w') (hk : findK L code = some k) (hy : L[k]? = some y) :
    Calls Try.prog f xs w fun r w' => r = .returned (.tuple #[.agg #[.int .u64 (y.x.code : Int), .int .i64 y.x.tag, .bool y.x.kids, .slice y.a y.x.l.length y.c], .bool true]) ∧ Below w.heap.size w w' :=
  h.mono fun r w' hh => by
    obtain ⟨z, b, rfl, hf, hb⟩ := hh
    rcases hf with ⟨e, _⟩ | ⟨k', y', e, e2, rfl, rfl⟩
    · rw [hk] at e; cases e
    · rw [hk] at e
      injection e with e
      subst e
      rw [hy] at e2
      injection e2 with e2
      subst e2
      exact ⟨rfl, hb⟩
theorem calls_lost {f : FuncId} {xs : Array Value} {w : World} {L : List ALay} {code : Nat} (h : Calls Try.prog f xs w fun r w' => ∃ z b, r = .returned (.tuple #[z, .bool b]) ∧ Found L code z b ∧ Below w.heap.size w w') (hk : findK L code = none) :
    Calls Try.prog f xs w fun r w' => r = .returned (.tuple #[.agg #[.int .u64 0, .int .i64 0, .bool false, .slice none 0 0], .bool false]) ∧ Below w.heap.size w w' :=
  h.mono fun r w' hh => by
    obtain ⟨z, b, rfl, hf, hb⟩ := hh
    rcases hf with ⟨_, rfl, rfl⟩ | ⟨k', y', e, _⟩
    · exact ⟨rfl, hb⟩
    · rw [hk] at e; cases e
theorem one_self {w : World} (y : ALay) (hy : Spcs w w.heap.size y.a y.x.l) (hl : y.x.l.length ≤ 9223372036854775807) :
    Calls Try.prog 31 #[.agg #[.int .u64 (y.x.code : Int), .int .i64 y.x.tag, .bool y.x.kids, .slice y.a y.x.l.length y.c], .agg #[.int .u64 (y.x.code : Int), .int .i64 y.x.tag, .bool y.x.kids, .slice y.a y.x.l.length y.c]] w fun r w' => r = .returned (.bool true) ∧ Below w.heap.size w w' := by
  have := one_any y y hy hy hl
  rwa [oneL_self] at this

set_option maxRecDepth 10000 in
set_option maxHeartbeats 3200000 in
theorem afinds_walk (a0 : Option Addr) (c0 : Nat) (L : List ALay) (m : ALay) (w : World) (h0 : Abbs w w.heap.size a0 L) (hn : ∀ y ∈ L, y.Nums) (hm : Spcs w w.heap.size m.a m.x.l) (hml : m.x.l.length ≤ 9223372036854775807) :
    Calls Try.prog 7 #[.slice a0 L.length c0, .agg #[.int .u64 (m.x.code : Int), .int .i64 m.x.tag, .bool m.x.kids, .slice m.a m.x.l.length m.c]] w fun r w' => r = .returned (.bool true) ∧ Below w.heap.size w w' := by
  obtain ⟨i1, hj1, hy0, hy1, hy2⟩ := info_parts abb_info
  generalize hw0 : w.alloc (.cells #[.int .u64 (m.x.code : Int), .int .i64 m.x.tag, .bool m.x.kids, .slice m.a m.x.l.length m.c] 77) = w0 at *
  have hb0 : Below w.heap.size w w0 := hw0 ▸ (Below.refl _ _).alloc (Nat.le_refl _) _
  have hX0 := Box.new w 77 #[.int .u64 (m.x.code : Int), .int .i64 m.x.tag, .bool m.x.kids, .slice m.a m.x.l.length m.c]
  rw [hw0] at hX0
  have HAB := Lib.hid h0
  have HNU := Lib.hid hn
  have HSP := Lib.hid hm
  have HML := Lib.hid hml
  have HXL := Lib.hid hX0.lt
  have KX := Lib.hid (fun W (hW : Below w0.heap.size w0 W) => four_cells (hX0.below hW hX0.lt))
  have HB0 := Lib.hid hb0
  have HWK := Lib.hid (works13_any w0)
  have HBK := Lib.hid (fun W (hW : Below w.heap.size w W) => bulkA_any (w := W) (h0.below hW) c0)
  obtain ⟨N, hN⟩ : ∃ N, L.length = N := ⟨_, rfl⟩
  have HN := Lib.hid hN
  rw [hN] at HBK ⊢
  obtain ⟨mn, hmn⟩ : ∃ n, m.x.l.length = n := ⟨_, rfl⟩
  have HMN := Lib.hid hmn
  rw [hmn] at KX ⊢
  clear h0 hn hm hml hN hX0 hb0
  go_enter Try.func7, Try.ntmps7
  go_upto_region 1 with fail
  rw [hmn] at hw0
  try rw [hw0]
  clear hw0 hmn
  go_upto_region 3 with (go_at_call 15; refine HWK.out.mono ?_; rintro r w2 ⟨rfl, hb2⟩; have HB02 := Lib.hid hb2; clear hb2)
  have HB2 := Lib.hid (HB0.out.trans (HB02.out.mono HB0.out.size))
  have HBK2 := Lib.hid (HBK.out _ HB2.out)
  clear HWK HBK
  go_wp2_with fail
  refine HBK2.out.mono ?_
  rintro r w3 ⟨⟨n, rfl, hnb⟩, rfl⟩
  have HNB := Lib.hid hnb
  clear hnb HBK2
  by_cases hn5 : 1500 < n
  · have d5 : decide ((1500 : Int) < n) = true := decide_eq_true hn5
    clear hn5
    go_wp2_with fail
    go_ret
    exact ⟨rfl, HB2.out⟩
  have d5 : decide ((1500 : Int) < n) = false := decide_eq_false hn5
  obtain ⟨hl5, hs5⟩ := HNB.out (by omega)
  have HL5 := Lib.hid hl5
  have HIN := Lib.hid (show ∀ y ∈ L, y.x.In from fun y hy => nums_in (HNU.out y hy) (hs5 y hy))
  have HS5 := Lib.hid hs5
  clear hl5 hs5 hn5 HNB
  have HRG := Lib.hid (rightA_any (HAB.out.up HB2.out) c0 (by rw [HN.out]; have := HL5.out; omega) (lays_in HIN.out))
  obtain ⟨rr, hrr⟩ : ∃ rr, rightA (absOf L) = rr := ⟨_, rfl⟩
  have HRR := Lib.hid hrr
  rw [hrr, HN.out] at HRG
  clear hrr
  cases rr with
  | false =>
    go_wp2_with (go_at_call 27; refine HRG.out.mono ?_; rintro r w4 ⟨rfl, hb4⟩; have HB4 := Lib.hid (HB2.out.trans (hb4.mono HB2.out.size)); clear hb4)
    go_ret
    exact ⟨rfl, HB4.out⟩
  | true =>
    have HND := Lib.hid (rightA_spec HRR.out).2.2
    go_upto_region 5 with (go_at_call 27; refine HRG.out.mono ?_; rintro r w4 ⟨rfl, hb4⟩; have HB24 := Lib.hid hb4; clear hb4)
    clear d5 HRG
    have HB4 := Lib.hid (HB2.out.trans (HB24.out.mono HB2.out.size))
    have HB04 := Lib.hid (HB02.out.trans (HB24.out.mono HB02.out.size))
    have HA4 := Lib.hid (HAB.out.up HB4.out)
    have HSP4 := Lib.hid (Row.more (Row.below HSP.out HB4.out) HB4.out.size)
    go_cut [5] (fun u wx => ∃ A6 c6, u = .slice A6 (N + 1) c6 ∧ Hid (Abbs wx wx.heap.size A6 (L ++ [m])) ∧ Hid (Below w4.heap.size w4 wx))
    case first =>
      have hgl : w.heap.size < w4.heap.size := Nat.lt_of_lt_of_le HXL.out HB04.out.size
      obtain ⟨p0, p1, p2, p3⟩ := KX.out _ HB04.out
      have KS := Lib.hid (fun X (hX : Below w4.heap.size w4 X) => (⟨hX, (hX.cell (p := ⟨w.heap.size, 0, none⟩) hgl).trans p0, (hX.cell (p := ⟨w.heap.size, 1, none⟩) hgl).trans p1, (hX.cell (p := ⟨w.heap.size, 2, none⟩) hgl).trans p2, (hX.cell (p := ⟨w.heap.size, 3, none⟩) hgl).trans p3⟩ :
        Below w4.heap.size w4 X ∧ X.cell? ⟨w.heap.size, 0, none⟩ = some (.int .u64 (m.x.code : Int)) ∧ X.cell? ⟨w.heap.size, 1, none⟩ = some (.int .i64 m.x.tag) ∧ X.cell? ⟨w.heap.size, 2, none⟩ = some (.bool m.x.kids) ∧ X.cell? ⟨w.heap.size, 3, none⟩ = some (.slice m.a mn m.c)))
      have h63 : N ≤ maxLen := by unfold maxLen; have := HL5.out; omega
      have hby : N * 48 ≤ 140737488355328 := by have := HL5.out; omega
      have hN63 : N + 1 ≤ maxLen := by unfold maxLen; have := HL5.out; omega
      have hby2 : (N + 1) * 48 ≤ 140737488355328 := by have := HL5.out; omega
      have HEND := Lib.hid (fun (w6 : World) (A6 : Option Addr) (c6 : Nat) (hown6 : w6.ownsRow w4.heap.size 77 4 (.slice A6 (N + 1) c6) (N + 1) (cellsF ALay.cells L ++ (#[.int .u64 (m.x.code : Int), .int .i64 m.x.tag, .bool m.x.kids, .slice m.a mn m.c] : Array Value).toList)) (hb6 : Below w4.heap.size w4 w6) => (by
        have hrow : w6.ownsRow w4.heap.size 77 4 (.slice A6 (N + 1) c6) (L ++ [m]).length (cellsF ALay.cells (L ++ [m])) := by
          rw [List.length_append, HN.out, cellsF_append, cellsF_one]
          rw [← HMN.out] at hown6
          exact hown6
        obtain ⟨A, cc, e, _, _, hr⟩ := own_row abb_four hrow
        injection e with e1 e2 e3
        exact ⟨by rw [e1]; exact hr, fun y hy => by
          rcases List.mem_append.1 hy with h1 | h1
          · exact (HA4.out.up hb6).spcs y h1
          · rw [List.mem_singleton.1 h1]
            exact Row.more (Row.below HSP4.out hb6) hb6.size⟩ : Abbs w6 w6.heap.size A6 (L ++ [m])))
      have HR4 := Lib.hid HA4.out.row
      generalize m.x.code = mcd at *
      generalize m.x.tag = mtg at *
      generalize m.x.kids = mkd at *
      generalize m.a = ma at *
      generalize m.c = mc at *
      go_region_held_law (fun X => Below w4.heap.size w4 X ∧ X.cell? ⟨w.heap.size, 0, none⟩ = some (.int .u64 (mcd : Int)) ∧ X.cell? ⟨w.heap.size, 1, none⟩ = some (.int .i64 mtg) ∧ X.cell? ⟨w.heap.size, 2, none⟩ = some (.bool mkd) ∧ X.cell? ⟨w.heap.size, 3, none⟩ = some (.slice ma mn mc))
        ((refine KS.out _ ?_; repeat' (first | (with_reducible assumption) | (with_reducible exact Below.refl _ _) | (with_reducible refine Below.drew ?_) | (with_reducible refine Below.alloc ?_ ?_ _) | omega | (simp; done) | (simp; omega))))
        (first
          | (refine step_copyA (w := w4) (by rfl) (.tmp 26) (.tmp 27) _ (by rfl) 77 i1 _ 4 48 Try.underlying59 hj1 hy0 hy1 hy2 (by rfl) (by decide) _ (by rfl) (by first | exact heap_alloc_new _ _ | exact lit_firstA _ _ _ | exact lit_secondA _ _ _) (by first | exact Nat.le_refl _ | (simp; done) | (simp; omega)) (by repeat' (first | (with_reducible exact Below.refl _ _) | (with_reducible refine Below.drew ?_) | (with_reducible refine Below.alloc ?_ ?_ _) | (simp; done) | omega)) a0 N c0 L (by rfl) HN.out abb_four abb_one HR4.out h63 hby ?_; intro v5 w5 hown5 hg5 hb5; have hs5 := hb5.size)
          | (refine step_oneA (w := w5) (by rfl) (.tmp 28) (.tmp 30) _ (by rfl) w4.heap.size 77 i1 _ 4 48 Try.underlying59 hj1 hy0 hy1 hy2 (by rfl) (by decide) v5 N (cellsF ALay.cells L) (by rfl) hown5 (by repeat' (first | (with_reducible exact Below.refl _ _) | (with_reducible refine Below.drew ?_) | (with_reducible refine Below.alloc ?_ ?_ _) | (simp; done) | omega)) _ _ #[.int .u64 (mcd : Int), .int .i64 mtg, .bool mkd, .slice ma mn mc] (by rfl) (by first | exact heap_alloc_new _ _ | exact (hg5.block _ (by first | (simp; done) | (simp; omega)) (by simp)).trans (lit_secondA _ _ _) | exact (hg5.block _ (by first | (simp; done) | (simp; omega)) (by simp)).trans (lit_firstA _ _ _)) (by rfl) (by intro u hu; simp only [List.mem_cons, List.not_mem_nil, or_false] at hu; rcases hu with rfl | rfl | rfl | rfl <;> rfl) hN63 hby2 hs5 ?_; intro v6 w6 hown6 hb6'; (obtain ⟨A6, c6, rfl⟩ := owns_slc hown6); have hb6 := hb5.trans hb6'; have hs6 := hb6.size; have HM6 := Lib.hid (HEND.out w6 A6 c6 hown6 hb6); have HB6 := Lib.hid hb6))
      all_goals trace "WAY"
      all_goals go_wp2_with fail
      all_goals go_meet
      all_goals exact ⟨_, _, rfl, HM6, HB6⟩
    case rest =>
      obtain ⟨A6, c6, rfl, HM6, HB6⟩ := hcut
      have HB6w := Lib.hid (HB4.out.trans (HB6.out.mono HB4.out.size))
      have HB06 := Lib.hid (HB04.out.trans (HB6.out.mono HB04.out.size))
      have HA6 := Lib.hid (HAB.out.up HB6w.out)
      have HSP6 := Lib.hid (Row.more (Row.below HSP.out HB6w.out) HB6w.out.size)
      have HLM := Lib.hid (show (L ++ [m]).length = N + 1 by rw [List.length_append, HN.out]; rfl)
      have HF1 := Lib.hid (fun W (hW : Below wc.heap.size wc W) (code : Nat) => (by
        have := findA_any (HA6.out.up hW) c0 (by rw [HN.out]; have := HL5.out; omega) (fun y hy => by have := HS5.out y hy; omega) code
        rwa [HN.out] at this : Calls Try.prog 29 #[.slice a0 N c0, .int .u64 (code : Int)] W fun r w' => ∃ z b, r = .returned (.tuple #[z, .bool b]) ∧ Found L code z b ∧ Below W.heap.size W w'))
      have HF2 := Lib.hid (fun W (hW : Below wc.heap.size wc W) (code : Nat) => (by
        have := findA_any (HM6.out.up hW) c6 (by rw [HLM.out]; have := HL5.out; omega) (fun y hy => by
          rcases List.mem_append.1 hy with h1 | h1
          · have := HS5.out y h1; omega
          · rw [List.mem_singleton.1 h1]; exact HML.out) code
        rwa [HLM.out] at this : Calls Try.prog 29 #[.slice A6 (N + 1) c6, .int .u64 (code : Int)] W fun r w' => ∃ z b, r = .returned (.tuple #[z, .bool b]) ∧ Found (L ++ [m]) code z b ∧ Below W.heap.size W w'))
      have hn6 : N ≤ 1500 := HL5.out
      go_wp2_with fail
      go_loopw [34] (fun i wr => ∃ k : Nat, k ≤ N ∧ i = .int .i64 k ∧ Hid (Below wc.heap.size wc wr)) (fun i _ => N - (intOf i).toNat)
      case atStart => exact ⟨0, Nat.zero_le _, rfl, Lib.hid (Below.refl _ _)⟩
      case round =>
        obtain ⟨k, hk, rfl, HBl⟩ := hrel
        by_cases hlt : k < N
        · have HLT := Lib.hid hlt
          obtain ⟨y, hy⟩ : ∃ y, L[k]? = some y := ⟨L[k]'(by rw [HN.out]; exact hlt), List.getElem?_eq_getElem _⟩
          have hym := List.mem_of_getElem? hy
          have HBlw := Lib.hid (HB6w.out.trans (HBl.out.mono HB6w.out.size))
          obtain ⟨b, o, rfl, hb, p0, p1, p2, p3⟩ := abb_at (HAB.out.below HBlw.out) hy
          have HFK := Lib.hid (findK_own HND.out hy)
          have HY := Lib.hid hy
          have hkl := (List.getElem?_eq_some_iff.1 hy).1
          have FN1 := Lib.hid (fun W (hW : Below wc.heap.size wc W) => calls_found (HF1.out W hW y.x.code) HFK.out HY.out)
          have FN2 := Lib.hid (fun W (hW : Below wc.heap.size wc W) => calls_found (HF2.out W hW y.x.code) (findK_front [m] HFK.out) (by rw [List.getElem?_append_left hkl]; exact HY.out))
          have ON := Lib.hid (fun W (hW : Below wc.heap.size wc W) => one_self (w := W) y (Row.more (Row.below (HA6.out.spcs y hym) hW) hW.size) (by have := HS5.out y hym; omega))
          clear hy hym hkl HFK HY HF1 HF2
          generalize y.x.l.length = yln at *
          generalize y.x.code = ycd at *
          generalize y.x.tag = ytg at *
          generalize y.x.kids = ykd at *
          generalize y.a = ya at *
          generalize y.c = yc at *
          go_upto_region 9 with fail
          clear p0 p1 p2 p3
          have hX7 := Box.new wr 77 #[.int .u64 (ycd : Int), .int .i64 ytg, .bool ykd, .slice ya yln yc]
          have hb7 : Below wr.heap.size wr (wr.alloc (.cells #[.int .u64 (ycd : Int), .int .i64 ytg, .bool ykd, .slice ya yln yc] 77)) := (Below.refl _ _).alloc (Nat.le_refl _) _
          generalize hw7 : wr.alloc (.cells #[.int .u64 (ycd : Int), .int .i64 ytg, .bool ykd, .slice ya yln yc] 77) = w7 at *
          clear hw7
          have HB7 := Lib.hid (HBl.out.trans (hb7.mono HBl.out.size))
          obtain ⟨q0, q1, q2, q3⟩ := four_cells hX7
          go_upto_region 10 with (go_at_call 29; refine (FN1.out _ HB7.out).mono ?_; rintro r w8 ⟨rfl, hb8⟩; have HB8 := Lib.hid (HB7.out.trans (hb8.mono HB7.out.size)))
          clear q0 q1 q2 q3
          have hX8 := Box.new w8 77 #[.int .u64 (ycd : Int), .int .i64 ytg, .bool ykd, .slice ya yln yc]
          have hb9 : Below w8.heap.size w8 (w8.alloc (.cells #[.int .u64 (ycd : Int), .int .i64 ytg, .bool ykd, .slice ya yln yc] 77)) := (Below.refl _ _).alloc (Nat.le_refl _) _
          generalize hw9 : w8.alloc (.cells #[.int .u64 (ycd : Int), .int .i64 ytg, .bool ykd, .slice ya yln yc] 77) = w9 at *
          clear hw9
          have HB9 := Lib.hid (HB8.out.trans (hb9.mono HB8.out.size))
          have hX7' := (hX7.below hb8 hX7.lt).below hb9 (Nat.lt_of_lt_of_le hX7.lt hb8.size)
          obtain ⟨q0, q1, q2, q3⟩ := four_cells hX7'
          go_upto_region 11 with (go_at_call 29; refine (FN2.out _ HB9.out).mono ?_; rintro r w10 ⟨rfl, hb10⟩; have HB10 := Lib.hid (HB9.out.trans (hb10.mono HB9.out.size)))
          clear q0 q1 q2 q3
          have hX10 := Box.new w10 77 #[.int .u64 (ycd : Int), .int .i64 ytg, .bool ykd, .slice ya yln yc]
          have hb11 : Below w10.heap.size w10 (w10.alloc (.cells #[.int .u64 (ycd : Int), .int .i64 ytg, .bool ykd, .slice ya yln yc] 77)) := (Below.refl _ _).alloc (Nat.le_refl _) _
          generalize hw11 : w10.alloc (.cells #[.int .u64 (ycd : Int), .int .i64 ytg, .bool ykd, .slice ya yln yc] 77) = w11 at *
          clear hw11
          have HB11 := Lib.hid (HB10.out.trans (hb11.mono HB10.out.size))
          have hb911 := hb10.trans (hb11.mono hb10.size)
          have hX7c := hX7'.below hb911 hX7'.lt
          have hX8c := hX8.below hb911 hX8.lt
          have KC := Lib.hid (fun W (hW : Below w11.heap.size w11 W) => And.intro (four_cells (hX7c.below hW hX7c.lt)) (four_cells (hX10.below hW hX10.lt)))
          obtain ⟨q0, q1, q2, q3⟩ := four_cells hX7c
          obtain ⟨s0, s1, s2, s3⟩ := four_cells hX8c
          clear hb7 hb8 hb9 hb10 hb11 hb911 hX7 hX8 hX10 hX7' hX7c hX8c
          go_wp2_with (first
            | (go_at_call 31; refine (ON.out _ HB11.out).mono ?_; rintro r w12 ⟨rfl, hb12⟩; have HB12 := Lib.hid (HB11.out.trans (hb12.mono HB11.out.size)); (obtain ⟨⟨f0, f1, f2, f3⟩, g0, g1, g2, g3⟩ := KC.out _ hb12); clear hb12)
            | (go_at_call 31; refine (ON.out _ HB12.out).mono ?_; rintro r w13 ⟨rfl, hb13⟩; have HB13 := Lib.hid (HB12.out.trans (hb13.mono HB12.out.size)); clear hb13))
          go_roundw
          case rel => exact ⟨k + 1, HLT.out, by go_num, HB13⟩
          case measure => have := HLT.out; simp [intOf]; omega
        · have HBw := Lib.hid (HB6w.out.trans (HBl.out.mono HB6w.out.size))
          have HB0w := Lib.hid (HB06.out.trans (HBl.out.mono HB06.out.size))
          cases hf : findK L m.x.code with
          | some j =>
          obtain ⟨y, hy, -⟩ := findK_get hf
          have hkl := (List.getElem?_eq_some_iff.1 hy).1
          have FN1 := Lib.hid (fun W (hW : Below wc.heap.size wc W) => calls_found (HF1.out W hW m.x.code) hf hy)
          have FN2 := Lib.hid (fun W (hW : Below wc.heap.size wc W) => calls_found (HF2.out W hW m.x.code) (findK_front [m] hf) (by rw [List.getElem?_append_left hkl]; exact hy))
          have K3 := Lib.hid (fun W (hW : Below wr.heap.size wr W) => KX.out W (HB0w.out.trans (hW.mono HB0w.out.size)))
          clear hf hy hkl HF1 HF2 KX
          generalize y.x.l.length = yln at *
          generalize y.x.code = ycd at *
          generalize y.x.tag = ytg at *
          generalize y.x.kids = ykd at *
          generalize y.a = ya at *
          generalize y.c = yc at *
          generalize m.x.code = mcd at *
          generalize m.x.tag = mtg at *
          generalize m.x.kids = mkd at *
          generalize m.a = ma at *
          generalize m.c = mc at *
          obtain ⟨q0, q1, q2, q3⟩ := K3.out _ (Below.refl _ _)
          go_upto_region 15 with (go_at_call 29; refine (FN2.out _ HBl.out).mono ?_; rintro r w8 ⟨rfl, hb8⟩; have HB8 := Lib.hid (HBl.out.trans (hb8.mono HBl.out.size)))
          clear q0 q1 q2 q3
          have hX8 := Box.new w8 77 #[.int .u64 (ycd : Int), .int .i64 ytg, .bool ykd, .slice ya yln yc]
          have hb9 : Below w8.heap.size w8 (w8.alloc (.cells #[.int .u64 (ycd : Int), .int .i64 ytg, .bool ykd, .slice ya yln yc] 77)) := (Below.refl _ _).alloc (Nat.le_refl _) _
          generalize hw9 : w8.alloc (.cells #[.int .u64 (ycd : Int), .int .i64 ytg, .bool ykd, .slice ya yln yc] 77) = w9 at *
          clear hw9
          have HB9 := Lib.hid (HB8.out.trans (hb9.mono HB8.out.size))
          obtain ⟨q0, q1, q2, q3⟩ := K3.out _ (hb8.trans (hb9.mono hb8.size))
          go_upto_region 16 with (go_at_call 29; refine (FN1.out _ HB9.out).mono ?_; rintro r w10 ⟨rfl, hb10⟩; have HB10 := Lib.hid (HB9.out.trans (hb10.mono HB9.out.size)))
          clear q0 q1 q2 q3
          have hX10 := Box.new w10 77 #[.int .u64 (ycd : Int), .int .i64 ytg, .bool ykd, .slice ya yln yc]
          have hb11 : Below w10.heap.size w10 (w10.alloc (.cells #[.int .u64 (ycd : Int), .int .i64 ytg, .bool ykd, .slice ya yln yc] 77)) := (Below.refl _ _).alloc (Nat.le_refl _) _
          generalize hw11 : w10.alloc (.cells #[.int .u64 (ycd : Int), .int .i64 ytg, .bool ykd, .slice ya yln yc] 77) = w11 at *
          clear hw11
          have HB11 := Lib.hid (HB10.out.trans (hb11.mono HB10.out.size))
          go_wp2_with fail
          go_ret
          exact ⟨rfl, HB6w.out.trans (HB11.out.mono HB6w.out.size)⟩
          | none =>
          have FN1 := Lib.hid (fun W (hW : Below wc.heap.size wc W) => calls_lost (HF1.out W hW m.x.code) hf)
          have FN2 := Lib.hid (fun W (hW : Below wc.heap.size wc W) => calls_found (y := m) (HF2.out W hW m.x.code) (findK_last hf) (by simp))
          have ON := Lib.hid (fun W (hW : Below wc.heap.size wc W) => one_self (w := W) m (Row.more (Row.below HSP6.out hW) hW.size) HML.out)
          have K3 := Lib.hid (fun W (hW : Below wr.heap.size wr W) => KX.out W (HB0w.out.trans (hW.mono HB0w.out.size)))
          rw [HMN.out] at FN2 ON
          clear hf HF1 HF2 KX
          generalize m.x.code = mcd at *
          generalize m.x.tag = mtg at *
          generalize m.x.kids = mkd at *
          generalize m.a = ma at *
          generalize m.c = mc at *
          obtain ⟨q0, q1, q2, q3⟩ := K3.out _ (Below.refl _ _)
          go_upto_region 15 with (go_at_call 29; refine (FN2.out _ HBl.out).mono ?_; rintro r w8 ⟨rfl, hb8⟩; have HB8 := Lib.hid (HBl.out.trans (hb8.mono HBl.out.size)))
          clear q0 q1 q2 q3
          have hX8 := Box.new w8 77 #[.int .u64 (mcd : Int), .int .i64 mtg, .bool mkd, .slice ma mn mc]
          have hb9 : Below w8.heap.size w8 (w8.alloc (.cells #[.int .u64 (mcd : Int), .int .i64 mtg, .bool mkd, .slice ma mn mc] 77)) := (Below.refl _ _).alloc (Nat.le_refl _) _
          generalize hw9 : w8.alloc (.cells #[.int .u64 (mcd : Int), .int .i64 mtg, .bool mkd, .slice ma mn mc] 77) = w9 at *
          clear hw9
          have HB9 := Lib.hid (HB8.out.trans (hb9.mono HB8.out.size))
          obtain ⟨q0, q1, q2, q3⟩ := K3.out _ (hb8.trans (hb9.mono hb8.size))
          go_upto_region 16 with (go_at_call 29; refine (FN1.out _ HB9.out).mono ?_; rintro r w10 ⟨rfl, hb10⟩; have HB10 := Lib.hid (HB9.out.trans (hb10.mono HB9.out.size)))
          clear q0 q1 q2 q3
          have hX10 := Box.new w10 77 #[.int .u64 0, .int .i64 0, .bool false, .slice none 0 0]
          have hb11 : Below w10.heap.size w10 (w10.alloc (.cells #[.int .u64 0, .int .i64 0, .bool false, .slice none 0 0] 77)) := (Below.refl _ _).alloc (Nat.le_refl _) _
          generalize hw11 : w10.alloc (.cells #[.int .u64 0, .int .i64 0, .bool false, .slice none 0 0] 77) = w11 at *
          clear hw11
          have HB11 := Lib.hid (HB10.out.trans (hb11.mono HB10.out.size))
          have hb911 := hb10.trans (hb11.mono hb10.size)
          have hX8c := hX8.below hb911 hX8.lt
          obtain ⟨q0, q1, q2, q3⟩ := K3.out _ ((hb8.trans (hb9.mono hb8.size)).trans (hb911.mono (hb8.trans (hb9.mono hb8.size)).size))
          obtain ⟨s0, s1, s2, s3⟩ := four_cells hX8c
          clear hb8 hb9 hb10 hb11 hb911 hX8 hX10 hX8c
          go_wp2_with (go_at_call 31; refine (ON.out _ HB11.out).mono ?_; rintro r w12 ⟨rfl, hb12⟩; have HB12 := Lib.hid (HB11.out.trans (hb12.mono HB11.out.size)); clear hb12)
          go_ret
          exact ⟨rfl, HB6w.out.trans (HB12.out.mono HB6w.out.size)⟩

theorem afinds_card (a0 : Option Addr) (c0 : Nat) (L : List ALay) (m : ALay) (w : World) (h0 : Abbs w w.heap.size a0 L ∧ ∀ y ∈ L, y.Nums) (h1 : Spcs w w.heap.size m.a m.x.l ∧ m.Nums ∧ m.x.l.length ≤ 9223372036854775807) :
    Calls Try.prog 7 #[.slice a0 L.length c0, m.val] w fun r w' => r = .returned (.bool true) ∧ Below w.heap.size w w' :=
  afinds_walk a0 c0 L m w h0.1 h0.2 h1.1 h1.2.2

end Go.Proofs.Yteadabmlleipiaa
