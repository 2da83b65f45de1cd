/-
  Package sects: what an entry is refused with (refusal), and its bytes (data).
-/

import Derived.Test.YtpdjpafchfbabaaDoorSeD
import Derived.Test.YtpdjpafchfbabaaDoorZeros
import Derived.Test.YtpdjpafchfbabaaDoorPoX
import Derived.Laws.Cover3
import Derived.Test.YtpdjpafchfbabaaDoorEhA
namespace Go.Proofs.YtpdjpafchfbabaaDoor
open Go Go.RowKit

/-! ### Bytes 0 up to the next multiple of 8 -/
def padN (n : Nat) : Nat := (8 - n % 8) % 8
def padB (l : List UInt8) : List UInt8 := l ++ List.replicate (padN l.length) 0
theorem padN_lt (n : Nat) : padN n < 8 := Nat.mod_lt _ (by decide)
theorem padB_length (l : List UInt8) : (padB l).length = l.length + padN l.length := by simp [padB]

section
variable {P : Program}
theorem run_append_no_zeros (w : World) (base : Nat) (t tn ty : TypeId) (i : TypeInfo) (kn kq : IntKind) (ht : P.underlying t = some (.slice 5)) (htn : P.underlying tn = some (.int kn)) (hi : P.info? 5 = some i) (hz : i.zero = some (.int .u8 0))
    (hy : i.bytes = 1) (v : Value) (l : List UInt8) (hown : Own w base v l) :
    (Builtin.append_ #[t, tn] ty #[v, .int kq 0]).run P w = .ok v w := by
  have hw : IntKind.i64.wrap (0 : Int) = 0 := by rw [IntKind.wrap_i64]; omega
  rcases hown.2 with ⟨rfl, h00⟩ | ⟨g, cap, cur, rfl, hbg, hg, hnc, hcm, hcs, htake⟩
  · simp [Builtin.append_, run_underlying ht, run_underlying htn, sizeOf, typeInfo, zeroValue, hi, hz, hy, asInt, asIntOf, hw]
  · simp [Builtin.append_, run_underlying ht, run_underlying htn, sizeOf, typeInfo, zeroValue, hi, hz, hy, asInt, asIntOf, hw, hnc, storeCells]
theorem wpList_append_no_zeros {w : World} {ops : Array Oper} {rest : List Oper} {o : Oper} {a : Act} {Q : Exit → Act → World → Prop} (hgd : o.guard = none) (s x : Operand) (t tn : TypeId)
    (ho : o.op = .call { callee := .builtin .append, args := #[s, x], argTypes := #[t, tn] })
    (base : Nat) (i : TypeInfo) (kn kq : IntKind) (ht : P.underlying t = some (.slice 5)) (htn : P.underlying tn = some (.int kn)) (hi : P.info? 5 = some i) (hz : i.zero = some (.int .u8 0)) (hy : i.bytes = 1)
    (v : Value) (l : List UInt8) (hv : a.eval s = v) (hown : Own w base v l) (z : Int) (hx : a.eval x = .int kq z) (hzn : z = 0)
    (h : wpList P ops Q rest (a.put o.dst v) w) :
    wpList P ops Q (o :: rest) a w := by
  subst hzn
  refine wpList_plain hgd fun K hK => ?_
  have hrun := run_append_no_zeros (P := P) w base t tn o.type i kn kq ht htn hi hz hy v l hown
  unfold Oper.wp execOp
  simp only [ho, resolve, invoke, builtin, Sem.run_bind, Sem.run_pure, Result.andThen_ok, List.map_toArray, List.map_cons, List.map_nil, hv, hx, hrun]
  exact hK _ _ h
end

theorem i64_and7 (n : Int) : bits .and .i64 n 7 = n % 8 := by
  have h7 : (BitVec.ofInt 64 7).toNat = 2 ^ 3 - 1 := by decide
  have key : (BitVec.ofInt 64 n &&& BitVec.ofInt 64 7).toNat = (n % ((2 ^ 64 : Nat) : Int)).toNat % 2 ^ 3 := by
    rw [BitVec.toNat_and, BitVec.toNat_ofInt, h7, Nat.and_two_pow_sub_one_eq_mod]
  show IntKind.i64.wrap ((BitVec.ofInt 64 n &&& BitVec.ofInt 64 7).toNat : Nat) = n % 8
  rw [key, IntKind.wrap_i64]
  omega
theorem pad_and (n : Nat) : bits .and .i64 (-(n : Int)) 7 = (padN n : Int) := by
  rw [i64_and7]
  unfold padN
  omega

set_option maxRecDepth 10000 in
theorem fill_any {w : World} {base : Nat} {v : Value} {l : List UInt8} (hown : Own w base v l) (hbase : base ≤ w.heap.size) (hlen : l.length ≤ 140737488355000) :
    Calls Tryd.prog 57 #[v] w fun r w' => ∃ v', r = .returned v' ∧ Laid w w' base v v' (padB l) := by
  obtain ⟨i0, hi, hz0, hz1, hz2⟩ := info_parts u8_info
  obtain ⟨A, c, rfl, _, _, _⟩ := own_slice hown
  have HO := Lib.hid hown
  have hp := pad_and l.length
  have HP := Lib.hid (padN_lt l.length)
  have hlen2 : l.length + padN l.length ≤ 140737488355328 := by have := padN_lt l.length; omega
  have hpb : padB l = l ++ List.replicate (padN l.length) 0 := rfl
  clear hown
  by_cases h0 : padN l.length = 0
  · rw [h0, List.replicate_zero, List.append_nil] at hpb
    rw [h0] at hp
    rw [hpb]
    clear hpb h0 HP hlen2
    go_enter Tryd.func57, Tryd.ntmps57
    go_wp2_with (at_builtin; refine wpList_append_no_zeros (by rfl) (.tmp 3) (.tmp 7) _ _ (by rfl) base i0 .i64 .i64 Tryd.underlying22 Tryd.underlying3 hi hz0 hz2 (.slice A l.length c) l (by rfl) HO.out _ (by rfl) (by first | rfl | exact hp) ?_)
    go_ret
    exact ⟨_, rfl, Laid.refl HO.out⟩
  · rw [hpb]
    clear hpb
    go_enter Tryd.func57, Tryd.ntmps57
    go_wp2_with (at_builtin; refine wpList_append_zeros (by rfl) (.tmp 3) (.tmp 7) _ _ (by rfl) base i0 .i64 .i64 Tryd.underlying22 Tryd.underlying3 hi hz0 hz1 hz2 (.slice A l.length c) l (by rfl) HO.out (padN l.length) _ (by rfl) (by first | rfl | exact hp) (by omega) hlen2 hbase ?_; intro v1 w1 hown1 hg1 hat1 _)
    go_ret
    exact ⟨_, rfl, Laid.of_append (Below.refl _ _) hown1 hg1 hat1⟩

/-! ### Copies -/
theorem own_empty (w : World) (base : Nat) (hb : base ≤ w.heap.size) (e : TypeId) (size : Nat) : (w.alloc (.cells #[] e)).ownsRow base e size (.slice (some ⟨w.heap.size, 0, none⟩) 0 0) 0 [] :=
  ⟨by simp, .inr ⟨w.heap.size, 0, #[], rfl, hb, heap_alloc_new w _, Nat.le_refl _, Nat.zero_le _, by simp, by simp⟩⟩

theorem eql_nil {t e : TypeId} (h : Tryd.prog.underlying t = some (.slice e)) (A : Option Addr) (n c : Nat) (W : World) : (binOp .eql t (.slice A n c) (.slice none 0 0)).run Tryd.prog W = .ok (.bool A.isNone) W := by
  simp only [binOp]
  simp [run_equal_slice_nil W t e A n c h]

set_option maxRecDepth 10000 in
theorem bclone_any {w : World} {B : Nat} {A : Option Addr} {l : List UInt8} (hr : Rd w B A l) (hB : B ≤ w.heap.size) (c : Nat) (hl : l.length ≤ 140737488355328) :
    Calls Tryd.prog 66 #[.slice A l.length c] w fun r w' => ∃ v', r = .returned v' ∧ Own w' w.heap.size v' l ∧ Below w.heap.size w w' := by
  obtain ⟨i0, hi, hz0, hz1, hz2⟩ := info_parts u8_info
  rcases A with _ | ad
  · have hl0 : l = [] := by
      rcases l with _ | ⟨x, r⟩
      · rfl
      · obtain ⟨b, o, e, _⟩ := hr (by simp)
        cases e
    subst hl0
    have hE := eql_nil Tryd.underlying22 none
    go_enter Tryd.func66, Tryd.ntmps66
    go_wp2_with fail
    go_ret
    exact ⟨_, rfl, World.ownsRow_nil _ _ _ _, Below.refl _ _⟩
  · have HR := Lib.hid (((hr.more hB).alloc (Nat.le_refl _) (.cells #[] 5)))
    have HO := Lib.hid (own_empty w w.heap.size (Nat.le_refl _) 5 1)
    have hbs : w.heap.size ≤ (w.alloc (.cells #[] 5)).heap.size := by simp
    have hsum : ([] : List UInt8).length + l.length ≤ 140737488355328 := by simpa using hl
    have HB := Lib.hid ((Below.refl w.heap.size w).alloc (Nat.le_refl _) (.cells #[] 5))
    have hE := eql_nil Tryd.underlying22 (some ad)
    clear hr hB hl
    go_enter Tryd.func66, Tryd.ntmps66
    go_wp2_with (at_builtin; refine wpList_append_bytes (by rfl) (.tmp 5) (.tmp 6) _ (by rfl) w.heap.size i0 Tryd.underlying22 hi hz0 hz1 hz2 (.slice (some ⟨w.heap.size, 0, none⟩) 0 0) [] (by rfl) HO.out w.heap.size (some ad) l.length c l rfl (by rfl) HR.out hsum hbs ?_; intro v1 w1 hown1 hg1 hat1)
    go_ret
    exact ⟨_, rfl, hown1, HB.out.grown hg1 (by simp) (by simp [Value.ownBlock])⟩

def cellsL (L : List Lay) : List Value := L.flatMap Lay.cells
theorem cellsL_length (L : List Lay) : (cellsL L).length = L.length * 9 := by
  induction L with
  | nil => rfl
  | cons x L ih =>
    have : (cellsL (x :: L)).length = 9 + (cellsL L).length := by simp [cellsL, Lay.cells]; omega
    rw [this, ih, List.length_cons]
    omega
theorem cellsL_at : ∀ (L : List Lay) (i : Nat) (x : Lay) (j : Nat) (v : Value), L[i]? = some x → x.cells[j]? = some v → (cellsL L)[i * 9 + j]? = some v
  | [], _, _, _, _, h, _ => by simp at h
  | y :: L, 0, x, j, v, h, hv => by
    simp at h
    subst h
    have hj : j < y.cells.length := (List.getElem?_eq_some_iff.1 hv).1
    rw [show cellsL (y :: L) = y.cells ++ cellsL L from rfl, Nat.zero_mul, Nat.zero_add, List.getElem?_append_left hj]
    exact hv
  | y :: L, i + 1, x, j, v, h, hv => by
    have ih := cellsL_at L i x j v (by simpa using h) hv
    have h9 : y.cells.length = 9 := rfl
    rw [show cellsL (y :: L) = y.cells ++ cellsL L from rfl, List.getElem?_append_right (by omega), h9, show (i + 1) * 9 + j - 9 = i * 9 + j by omega]
    exact ih
theorem cellsL_get (L : List Lay) (k : Nat) (v : Value) (h : (cellsL L)[k]? = some v) : ∃ x, L[k / 9]? = some x ∧ x.cells[k % 9]? = some v := by
  have hk : k < L.length * 9 := by rw [← cellsL_length]; exact (List.getElem?_eq_some_iff.1 h).1
  have hx : L[k / 9]? = some (L[k / 9]'(by omega)) := List.getElem?_eq_getElem _
  have hj : (L[k / 9]'(by omega)).cells[k % 9]? = some ((L[k / 9]'(by omega)).cells[k % 9]'(by show k % 9 < 9; omega)) := List.getElem?_eq_getElem _
  have h2 := cellsL_at L _ _ _ _ hx hj
  rw [show k / 9 * 9 + k % 9 = k by omega, h] at h2
  injection h2 with h2
  exact ⟨_, hx, by rw [hj, h2]⟩
theorem cellsL_append (L M : List Lay) : cellsL (L ++ M) = cellsL L ++ cellsL M := by simp [cellsL]
theorem cells_one (x : Lay) : ∀ u ∈ x.cells, u.oneCell' = true := by
  intro u hu
  simp only [Lay.cells, Lay.dv, List.mem_cons, List.not_mem_nil, or_false] at hu
  rcases hu with rfl | rfl | rfl | rfl | rfl | rfl | rfl | rfl | rfl <;> rfl

/-- A row of sections of the call's own. -/
abbrev OwnL (w : World) (base : Nat) (v : Value) (L : List Lay) : Prop := w.ownsRow base 36 9 v L.length (cellsL L)
theorem sect_info : (Tryd.prog.info? 36).map (fun i => (i.zero, i.size, i.bytes)) = some (some (.agg #[.string ⟨#[]⟩, .int .i64 0, .int .u64 0, .int .u64 0, .slice none 0 0, .int .i64 0, .int .i64 0, .int .i64 0, .int .i64 0]), 9, 96) := by kernel_rfl

/-- A row of the call's own, as sections that lie. -/
theorem ownl_secs {w : World} {base : Nat} {v : Value} {L : List Lay} (h : OwnL w base v L) (hok : ∀ x ∈ L, x.Ok w w.heap.size) : ∃ A c, v = .slice A L.length c ∧ L.length ≤ c ∧ c ≤ maxLen ∧ Secs w w.heap.size A L := by
  rcases h.2 with ⟨rfl, h0⟩ | ⟨g, cap, cur, rfl, hb, hg, hnc, hcm, hcs, htake⟩
  · rw [h0]
    exact ⟨none, 0, rfl, Nat.le_refl _, Nat.zero_le _, ⟨fun hl => by omega, hok⟩⟩
  · have hlt : g < w.heap.size := by
      rcases Nat.lt_or_ge g w.heap.size with h1 | h1
      · exact h1
      · rw [Array.getElem?_eq_none h1] at hg; cases hg
    refine ⟨some ⟨g, 0, none⟩, cap, rfl, hnc, hcm, ⟨fun _ => ⟨g, 0, rfl, hlt, fun i x hx j u hu => ?_⟩, hok⟩⟩
    have hc := cellsL_at L i x j u hx hu
    have hil := (List.getElem?_eq_some_iff.1 hx).1
    have hjl : j < 9 := (List.getElem?_eq_some_iff.1 hu).1
    have h1 := World.ownsRow.cellAt (g := g) (cap := cap) h (i * 9 + j) (by omega)
    rw [Nat.zero_add, h1, hc]

set_option maxRecDepth 10000 in
theorem sclone_any {w : World} {a : Option Addr} {L : List Lay} (h : Secs w w.heap.size a L) (c : Nat) (h0 : 0 < L.length) (hl : L.length ≤ 100000) :
    Calls Tryd.prog 56 #[.slice a L.length c] w fun r w' => ∃ v', r = .returned v' ∧ OwnL w' w.heap.size v' L ∧ Below w.heap.size w w' := by
  obtain ⟨i0, hi, hz0, hz1, hz2⟩ := info_parts sect_info
  obtain ⟨b, o, rfl, hb, hc⟩ := h.row h0
  have HC := Lib.hid (show ∀ j u, (cellsL L)[j]? = some u → (w.alloc (.cells #[] 36)).cell? ((⟨b, o, none⟩ : Addr).add j) = some u from fun j u hu => by
    obtain ⟨x, hx, hv⟩ := cellsL_get L j u hu
    rw [addr_add, ((Below.refl w.heap.size w).alloc (Nat.le_refl _) (.cells #[] 36)).cell (p := ⟨b, o + j, none⟩) hb]
    have := hc _ x hx _ u hv
    rwa [show o + j / 9 * 9 + j % 9 = o + j by omega] at this)
  have HO := Lib.hid (own_empty w w.heap.size (Nat.le_refl _) 36 9)
  have h1 : ∀ u ∈ cellsL L, u.oneCell' = true := fun u hu => by
    obtain ⟨x, _, hx⟩ := List.mem_flatMap.1 hu
    exact cells_one x u hx
  have H1 := Lib.hid h1
  have HLN := Lib.hid (show (cellsL L).length = L.length * 9 from cellsL_length L)
  have hbs : w.heap.size ≤ (w.alloc (.cells #[] 36)).heap.size := by simp
  have HB := Lib.hid ((Below.refl w.heap.size w).alloc (Nat.le_refl _) (.cells #[] 36))
  have hm1 : 0 + L.length ≤ maxLen := by unfold maxLen; omega
  have hm2 : (0 + L.length) * 96 ≤ 140737488355328 := by omega

  have hE := eql_nil Tryd.underlying27 (some ⟨b, o, none⟩)
  clear hc h hb h1
  generalize hN : L.length = N at *
  have HN := Lib.hid hN
  clear hN
  go_enter Tryd.func56, Tryd.ntmps56
  go_wp2_with (at_builtin; refine wpList_append_lies _ (by rfl) (.tmp 5) (.tmp 6) _ (by rfl) w.heap.size 36 i0 _ 9 96 Tryd.underlying27 hi hz0 hz1 hz2 (by rfl) (by decide) (.slice (some ⟨w.heap.size, 0, none⟩) 0 0) 0 [] (by rfl) HO.out ⟨b, o, none⟩ N c (cellsL L) (by rfl) HLN.out HC.out H1.out h0 hm1 hm2 hbs _ rfl ?_; intro g cap w1 hown1 hg1 hat1 hlt1)
  go_ret
  rw [Nat.zero_add, List.nil_append] at hown1
  exact ⟨_, rfl, by rw [OwnL, HN.out]; exact hown1, HB.out.grown hg1 (by simp) (by simp [Value.ownBlock])⟩

end Go.Proofs.YtpdjpafchfbabaaDoor

namespace Go.Proofs.YtpdjpafchfbabaaDoor
open Go Go.RowKit

/-! ### An entry's numbers, read -/
/-- What an entry of a file of some size is refused with. -/
def entE (ns : List Nat) (size : Nat) : Int :=
  match ns with
  | [_, kd, _, _, pl, sz, lk, inf, al, ec] => if smallN [lk, inf, al, ec, kd] = true then (if kd = 0 then 0 else if kd ≠ 8 ∧ size < pl + sz then 22 else if 65536 < sz then 3 else 0) else 22
  | _ => 0
/-- An entry's bytes in a file. -/
def dataT (l : List UInt8) (ns : List Nat) : List UInt8 :=
  match ns with
  | [_, kd, _, _, pl, sz, _, _, _, _] => if kd = 0 then [] else if kd = 8 then List.replicate sz 0 else (l.drop pl).take sz
  | _ => []

/-- An entry in memory. -/
def EntAt (w : World) (g o : Nat) (ns : List Nat) : Prop := ns.length = 10 ∧ ∀ (j x : Nat), ns[j]? = some x → w.cell? ⟨g, o + j, none⟩ = some (.int .u64 (x : Int))
theorem EntAt.below {w w' : World} {g o B : Nat} {ns : List Nat} (h : EntAt w g o ns) (hb : Below B w w') (hg : g < B) : EntAt w' g o ns :=
  ⟨h.1, fun j x hx => by rw [hb.cell (p := ⟨g, o + j, none⟩) hg]; exact h.2 j x hx⟩
theorem EntAt.lt {w : World} {g o : Nat} {ns : List Nat} (h : EntAt w g o ns) : g < w.heap.size := by
  have h0 : ns[0]? = some (ns[0]'(by rw [h.1]; decide)) := List.getElem?_eq_getElem _
  exact World.block_lt_of_cell? w _ (h.2 0 _ h0)

theorem wrap_len (n : Nat) (h : n ≤ 140737488355328) : IntKind.u64.wrap (n : Int) = (n : Int) := by rw [IntWalk.u64_in _ (by omega)]

theorem small5b (a b c d e : Nat) (w : World) (g : Nat) (hB : Box w g 24 #[.int .u64 (a : Int), .int .u64 (b : Int), .int .u64 (c : Int), .int .u64 (d : Int), .int .u64 (e : Int)]) : Calls Tryd.prog 70 #[.slice (some ⟨g, 0, none⟩) 5 5] w fun r w' => r = .returned (.bool (smallN [a, b, c, d, e])) ∧ w = w' :=
  small_nat [a, b, c, d, e] _ _ 5 (fun i n hi => by
    rw [hB.cell i]
    have : (#[Value.int .u64 (a : Int), .int .u64 (b : Int), .int .u64 (c : Int), .int .u64 (d : Int), .int .u64 (e : Int)])[i]? = ([a, b, c, d, e][i]?).map (fun n => Value.int .u64 ((n : Nat) : Int)) := by
      rw [← List.getElem?_map]; simp
    rw [this, hi]
    rfl) (by simp)

set_option maxRecDepth 10000 in
set_option maxHeartbeats 1600000 in
theorem refusal_at {w : World} {g o : Nat} {ns : List Nat} (h : EntAt w g o ns) (hn : ∀ x ∈ ns, x < two64) (size : Nat) (hs : size ≤ 140737488355328) :
    Calls Tryd.prog 47 #[.pointer (some ⟨g, o, none⟩), .int .i64 (size : Int)] w fun r w' => r = .returned (.int .i64 (entE ns size)) ∧ Below w.heap.size w w' := by
  have hg := h.lt
  obtain ⟨hl, hc⟩ := h
  match ns, hl with
  | [nm, kd, fl, ad, pl, sz, lk, inf, al, ec], _ =>
  have c1 := hc 1 kd rfl
  have c4 := hc 4 pl rfl
  have c5 := hc 5 sz rfl
  have c6 := hc 6 lk rfl
  have c7 := hc 7 inf rfl
  have c8 := hc 8 al rfl
  have c9 := hc 9 ec rfl
  have HE := Lib.hid (show entE [nm, kd, fl, ad, pl, sz, lk, inf, al, ec] size = if smallN [lk, inf, al, ec, kd] = true then (if kd = 0 then 0 else if kd ≠ 8 ∧ size < pl + sz then 22 else if 65536 < sz then 3 else 0) else 22 from rfl)
  have HS := Lib.hid (fun W q hq => small5b lk inf al ec kd W q hq)
  have hpl : pl < two64 := hn pl (by simp)
  have hsz : sz < two64 := hn sz (by simp)
  have HW := Lib.hid (fun W => within_any pl sz size W hpl hsz)
  rw [within_iff pl sz size (by unfold two64; omega)] at HW
  have hwr := wrap_len size hs
  have KS := Lib.hid (fun (W : World) (hW : Below w.heap.size w W) => (⟨by rw [hW.cell (p := ⟨g, o + 6, none⟩) hg]; exact c6, by rw [hW.cell (p := ⟨g, o + 7, none⟩) hg]; exact c7, by rw [hW.cell (p := ⟨g, o + 8, none⟩) hg]; exact c8, by rw [hW.cell (p := ⟨g, o + 9, none⟩) hg]; exact c9, by rw [hW.cell (p := ⟨g, o + 1, none⟩) hg]; exact c1, by rw [hW.cell (p := ⟨g, o + 4, none⟩) hg]; exact c4, by rw [hW.cell (p := ⟨g, o + 5, none⟩) hg]; exact c5⟩ :
    W.cell? ⟨g, o + 6, none⟩ = some (.int .u64 (lk : Int)) ∧ W.cell? ⟨g, o + 7, none⟩ = some (.int .u64 (inf : Int)) ∧ W.cell? ⟨g, o + 8, none⟩ = some (.int .u64 (al : Int)) ∧ W.cell? ⟨g, o + 9, none⟩ = some (.int .u64 (ec : Int)) ∧ W.cell? ⟨g, o + 1, none⟩ = some (.int .u64 (kd : Int)) ∧ W.cell? ⟨g, o + 4, none⟩ = some (.int .u64 (pl : Int)) ∧ W.cell? ⟨g, o + 5, none⟩ = some (.int .u64 (sz : Int))))
  clear hc hn hpl hsz hs
  generalize entE [nm, kd, fl, ad, pl, sz, lk, inf, al, ec] size = ev at *
  generalize hsm : smallN [lk, inf, al, ec, kd] = sm at *
  clear hsm
  have hb0 : Below w.heap.size w w.drew := (Below.refl _ _).drew
  go_enter Tryd.func47, Tryd.ntmps47
  go_wp2_with fail
  cases sm with
  | false =>
    go_region_held_law (fun W => W.cell? ⟨g, o + 6, none⟩ = some (.int .u64 (lk : Int)) ∧ W.cell? ⟨g, o + 7, none⟩ = some (.int .u64 (inf : Int)) ∧ W.cell? ⟨g, o + 8, none⟩ = some (.int .u64 (al : Int)) ∧ W.cell? ⟨g, o + 9, none⟩ = some (.int .u64 (ec : Int)) ∧ W.cell? ⟨g, o + 1, none⟩ = some (.int .u64 (kd : Int)) ∧ W.cell? ⟨g, o + 4, none⟩ = some (.int .u64 (pl : Int)) ∧ W.cell? ⟨g, o + 5, none⟩ = some (.int .u64 (sz : Int)))
      ((refine KS.out _ ?_; go_grown))
      (first | (go_at_call 70; refine (HS.out _ _ (by exact Box.new w _ _)).mono ?_; rintro r w1 ⟨rfl, hw1⟩; subst hw1))
    have HF := Lib.hid (show ev = 22 by rw [HE.out]; rfl)
    all_goals go_wp2_with fail
    all_goals go_ret
    all_goals exact ⟨by rw [HF.out]; rfl, by go_grown⟩
  | true =>
    rw [if_pos (show (true : Bool) = true from rfl)] at HE
    go_region_held_law (fun W => W.cell? ⟨g, o + 6, none⟩ = some (.int .u64 (lk : Int)) ∧ W.cell? ⟨g, o + 7, none⟩ = some (.int .u64 (inf : Int)) ∧ W.cell? ⟨g, o + 8, none⟩ = some (.int .u64 (al : Int)) ∧ W.cell? ⟨g, o + 9, none⟩ = some (.int .u64 (ec : Int)) ∧ W.cell? ⟨g, o + 1, none⟩ = some (.int .u64 (kd : Int)) ∧ W.cell? ⟨g, o + 4, none⟩ = some (.int .u64 (pl : Int)) ∧ W.cell? ⟨g, o + 5, none⟩ = some (.int .u64 (sz : Int)))
      ((refine KS.out _ ?_; go_grown))
      (first | (go_at_call 70; refine (HS.out _ _ (by exact Box.new w _ _)).mono ?_; rintro r w1 ⟨rfl, hw1⟩; subst hw1))
    rename_i hHeld
    obtain ⟨-, -, -, -, k1, k4, k5⟩ := hHeld
    have hHB : Below w.heap.size w (w.alloc (.cells #[.int .u64 (lk : Int), .int .u64 (inf : Int), .int .u64 (al : Int), .int .u64 (ec : Int), .int .u64 (kd : Int)] 24)).drew := by go_grown
    generalize (w.alloc (.cells #[.int .u64 (lk : Int), .int .u64 (inf : Int), .int .u64 (al : Int), .int .u64 (ec : Int), .int .u64 (kd : Int)] 24)).drew = w1 at *
    have HB := Lib.hid hHB
    clear KS HS hHB hb0 c1 c4 c5 c6 c7 c8 c9
    by_cases h0 : kd = 0
    · have HF := Lib.hid (show ev = 0 by rw [HE.out, if_pos h0])
      have q0 : ((kd : Int) == 0) = true := by simp [h0]
      clear h0 HE
      go_wp2_with fail
      go_ret
      exact ⟨by rw [HF.out]; rfl, HB.out⟩
    · have q0 : ((kd : Int) == 0) = false := by simpa using h0
      rw [if_neg h0] at HE
      clear h0
      by_cases h8 : kd = 8
      · have q8 : ((kd : Int) != 8) = false := by simp [h8]
        have q9 : ((kd : Int) == 8) = true := by simp [h8]
        rw [if_neg (show ¬ (kd ≠ 8 ∧ size < pl + sz) by simp [h8])] at HE
        clear h8 HW
        by_cases hz : 65536 < sz
        · have HF := Lib.hid (show ev = 3 by rw [HE.out, if_pos hz])
          have hd : decide ((65536 : Int) < (sz : Int)) = true := decide_eq_true (by omega)
          clear hz HE
          go_wp2_with fail
          go_quiet (fail)
          go_wp2_with fail
          go_ret
          exact ⟨by rw [HF.out]; rfl, below_drewN HB.out _⟩
        · have HF := Lib.hid (show ev = 0 by rw [HE.out, if_neg hz])
          have hd : decide ((65536 : Int) < (sz : Int)) = false := decide_eq_false (by omega)
          clear hz HE
          go_wp2_with fail
          go_quiet (fail)
          go_wp2_with fail
          go_ret
          exact ⟨by rw [HF.out]; rfl, below_drewN HB.out _⟩
      · have q8 : ((kd : Int) != 8) = true := by simp; omega
        have q9 : ((kd : Int) == 8) = false := by simp; omega
        have hW1 := HW.out w1.drew
        by_cases hin : pl + sz ≤ size
        · rw [decide_eq_true hin] at HW
          rw [if_neg (show ¬ (kd ≠ 8 ∧ size < pl + sz) by omega)] at HE
          clear h8 hin hW1
          have kk : (fun W => W.cell? ⟨g, o + 1, none⟩ = some (.int .u64 (kd : Int)) ∧ W.cell? ⟨g, o + 4, none⟩ = some (.int .u64 (pl : Int)) ∧ W.cell? ⟨g, o + 5, none⟩ = some (.int .u64 (sz : Int))) w1 := ⟨k1, k4, k5⟩
          by_cases hz : 65536 < sz
          · have HF := Lib.hid (show ev = 3 by rw [HE.out, if_pos hz])
            have hd : decide ((65536 : Int) < (sz : Int)) = true := decide_eq_true (by omega)
            clear hz HE
            go_wp2_with fail
            go_region_held_law (fun W => W.cell? ⟨g, o + 1, none⟩ = some (.int .u64 (kd : Int)) ∧ W.cell? ⟨g, o + 4, none⟩ = some (.int .u64 (pl : Int)) ∧ W.cell? ⟨g, o + 5, none⟩ = some (.int .u64 (sz : Int))) (exact kk)
              (first | (go_at_call 59; refine (HW.out _).mono ?_; rintro r w2 ⟨rfl, hw2⟩; subst hw2))
            all_goals go_wp2_with fail
            all_goals go_ret
            all_goals exact ⟨by rw [HF.out]; rfl, by have := HB.out; go_grown⟩
          · have HF := Lib.hid (show ev = 0 by rw [HE.out, if_neg hz])
            have hd : decide ((65536 : Int) < (sz : Int)) = false := decide_eq_false (by omega)
            clear hz HE
            go_wp2_with fail
            go_region_held_law (fun W => W.cell? ⟨g, o + 1, none⟩ = some (.int .u64 (kd : Int)) ∧ W.cell? ⟨g, o + 4, none⟩ = some (.int .u64 (pl : Int)) ∧ W.cell? ⟨g, o + 5, none⟩ = some (.int .u64 (sz : Int))) (exact kk)
              (first | (go_at_call 59; refine (HW.out _).mono ?_; rintro r w2 ⟨rfl, hw2⟩; subst hw2))
            all_goals go_wp2_with fail
            all_goals go_ret
            all_goals exact ⟨by rw [HF.out]; rfl, by have := HB.out; go_grown⟩
        · have HF := Lib.hid (show ev = 22 by rw [HE.out, if_pos ⟨h8, by omega⟩])
          rw [decide_eq_false hin] at HW
          clear h8 hin hW1 HE
          have kk : (fun W => W.cell? ⟨g, o + 1, none⟩ = some (.int .u64 (kd : Int)) ∧ W.cell? ⟨g, o + 4, none⟩ = some (.int .u64 (pl : Int)) ∧ W.cell? ⟨g, o + 5, none⟩ = some (.int .u64 (sz : Int))) w1 := ⟨k1, k4, k5⟩
          go_wp2_with fail
          go_region_held_law (fun W => W.cell? ⟨g, o + 1, none⟩ = some (.int .u64 (kd : Int)) ∧ W.cell? ⟨g, o + 4, none⟩ = some (.int .u64 (pl : Int)) ∧ W.cell? ⟨g, o + 5, none⟩ = some (.int .u64 (sz : Int))) (exact kk)
            (first | (go_at_call 59; refine (HW.out _).mono ?_; rintro r w2 ⟨rfl, hw2⟩; subst hw2))
          all_goals go_wp2_with fail
          all_goals go_ret
          all_goals exact ⟨by rw [HF.out]; rfl, by have := HB.out; go_grown⟩

end Go.Proofs.YtpdjpafchfbabaaDoor
