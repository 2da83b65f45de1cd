/-
  Package sects: an entry's numbers (numbers).
-/
import Derived.Test.YtldmjnbmjfnfeaaGreatDoorSeR
import Derived.Test.YtldmjnbmjfnfeaaGreatDoorEhH
import Derived.Test.YtldmjnbmjfnfeaaGreatDoorSyDa
import Derived.Test.YtldmjnbmjfnfeaaGreatDoorObB
import Derived.Test.YtldmjnbmjfnfeaaGreatDoorZeros
import Derived.Test.YtldmjnbmjfnfeaaGreatDoorPoX
namespace Go.Proofs.YtldmjnbmjfnfeaaGreatDoor
open Go Go.RowKit

theorem entE_zero {nm kd fl ad pl sz lk inf al ec size : Nat} (h : entE [nm, kd, fl, ad, pl, sz, lk, inf, al, ec] size = 0) : kd = 0 ∨ (kd = 8 ∧ sz ≤ 65536) ∨ (kd ≠ 0 ∧ kd ≠ 8 ∧ pl + sz ≤ size ∧ sz ≤ 65536) := by
  unfold entE at h
  simp only at h
  split at h
  · split at h
    · exact .inl (by assumption)
    · split at h
      · omega
      · split at h
        · omega
        · rename_i _ h0 h1 h2
          omega
  · omega
theorem entE_small {nm kd fl ad pl sz lk inf al ec size : Nat} (h : entE [nm, kd, fl, ad, pl, sz, lk, inf, al, ec] size = 0) : smallN [lk, inf, al, ec, kd] = true := by
  unfold entE at h
  simp only at h
  split at h
  · assumption
  · omega

set_option maxRecDepth 10000 in
set_option maxHeartbeats 1600000 in
theorem data_at {w : World} {g o B : Nat} {ns : List Nat} (h : EntAt w g o ns) {A : Option Addr} {l : List UInt8} (hr : Rd w B A l) (hB : B ≤ w.heap.size) (c : Nat) (hlc : l.length ≤ c) (hl : l.length ≤ 140737488355328) (h0 : entE ns l.length = 0) (h1 : 0 < l.length) :
    Calls Tryz.prog 89 #[.pointer (some ⟨g, o, none⟩), .slice A l.length c] w fun r w' => ∃ v, r = .returned v ∧ Own w' w.heap.size v (dataT l ns) ∧ Below w.heap.size w w' := by
  obtain ⟨i0, hi, hz0, hz1, hz2⟩ := info_parts u8_info
  have hg := h.lt
  obtain ⟨hll, hc⟩ := h
  match ns, hll with
  | [nm, kd, fl, ad, pl, sz, lk, inf, al, ec], _ =>
  have c1 := hc 1 kd rfl
  have c4 := hc 4 pl rfl
  have c5 := hc 5 sz rfl
  have HD := Lib.hid (show dataT l [nm, kd, fl, ad, pl, sz, lk, inf, al, ec] = if kd = 0 then [] else if kd = 8 then List.replicate sz 0 else (l.drop pl).take sz from rfl)
  generalize dataT l [nm, kd, fl, ad, pl, sz, lk, inf, al, ec] = dt at *
  rcases entE_zero h0 with hk | ⟨hk, hsz⟩ | ⟨hk0, hk8, hin, hsz⟩
  · have q0 : ((kd : Int) == 0) = true := by simp [hk]
    rw [if_pos hk] at HD
    clear hk hc h0 hr
    generalize l.length = n at *
    go_enter Tryz.func89, Tryz.ntmps89
    go_wp2_with fail
    go_ret
    exact ⟨_, rfl, by rw [HD.out]; exact World.ownsRow_nil _ _ _ _, Below.refl _ _⟩
  · have q0 : ((kd : Int) == 0) = false := by simp; omega
    have q8 : ((kd : Int) == 8) = true := by simp [hk]
    rw [if_neg (by omega), if_pos hk] at HD
    clear hk hc h0 hr
    generalize l.length = n at *
    go_enter Tryz.func89, Tryz.ntmps89
    go_wp2_with (at_make; refine wpList_make_full _ rfl _ _ 22 rfl w.heap.size 5 i0 (.int .u8 0) 1 Tryz.underlying22 hi hz0 hz1 .u64 .u64 (sz : Int) (sz : Int) sz rfl rfl rfl rfl (by rw [hz2]; omega) (by unfold maxLen; omega) (Nat.le_refl _) ?_; intro w1 hown1 hg1)
    go_ret
    refine ⟨_, rfl, ?_, below_of_only hg1 (Nat.le_refl _) (by simp)⟩
    rw [HD.out, Own, List.length_replicate]
    have e : (madeCells (Value.int .u8 0).cells (sz * 1)).toList = u8s (List.replicate sz 0) := by
      apply List.ext_getElem
      · simp [madeCells, u8s]
      · intro i h1 h2
        simp [madeCells, u8s, Value.cells, Nat.mod_one]
    rw [e] at hown1
    exact hown1
  · have q0 : ((kd : Int) == 0) = false := by simp; omega
    have q8 : ((kd : Int) == 8) = false := by simp; omega
    rw [if_neg hk0, if_neg hk8] at HD
    obtain ⟨b, q, rfl, hb, _⟩ := hr h1
    have hcut := rd_cut hr pl sz
    rw [Option.map_some, addr_add] at hcut
    have hcl : ((l.drop pl).take sz).length = sz := by simp; omega
    have HC := Lib.hid (fun (cc : Nat) => bclone_any (w := w.drew) (hcut.below ((Below.refl B w).drew)) hB cc (by rw [hcl]; omega))
    rw [hcl] at HC
    have hbw : Below w.heap.size w w.drew := (Below.refl _ _).drew
    have hpc : pl ≤ c := by omega
    have hpn : pl ≤ l.length := by omega
    have hszc : sz ≤ c - pl := by omega
    have hp48 : pl ≤ 140737488355328 := by omega
    have hcl2 := hcl
    clear hk0 hk8 hc h0 hr hcut hcl hin
    have hdl : ((l.drop pl).take sz).length = sz := hcl2
    clear hcl2
    generalize (l.drop pl).take sz = dl at *
    generalize l.length = n at *
    go_enter Tryz.func89, Tryz.ntmps89
    go_wp2_with fail
    have KS := Lib.hid (fun (W : World) (hW : Below w.heap.size w W) => (⟨by rw [hW.cell (p := ⟨g, o + 4, none⟩) hg]; exact c4, by rw [hW.cell (p := ⟨g, o + 5, none⟩) hg]; exact c5⟩ : W.cell? ⟨g, o + 4, none⟩ = some (.int .u64 (pl : Int)) ∧ W.cell? ⟨g, o + 5, none⟩ = some (.int .u64 (sz : Int))))
    clear c4 c5
    by_cases hpe : pl = c
    · have hs0 : sz = 0 := by omega
      have hd0 : dl = [] := List.eq_nil_of_length_eq_zero (by rw [hdl]; exact hs0)
      have HC0 := Lib.hid (fun W (A' : Option Addr) (cc : Nat) => bclone_any (w := W) (B := 0) (A := A') (l := []) Rd.nil_ (Nat.zero_le _) cc (by simp))
      rw [hd0] at HD
      subst hs0 hpe
      clear HC hd0 hdl
      go_region_held_law (fun W => W.cell? ⟨g, o + 4, none⟩ = some (.int .u64 (pl : Int)) ∧ W.cell? ⟨g, o + 5, none⟩ = some (.int .u64 ((0 : Nat) : Int))) ((refine KS.out _ ?_; first | exact hbw | exact hB1))
        (first | (go_at_call 118; refine (HC0.out _ _ _).mono ?_; rintro r w1 ⟨v1, rfl, hown1, hb1⟩; have hB1 : Below w.heap.size w w1 := hbw.trans (hb1.mono (by simp))))
      all_goals go_wp2
      all_goals go_ret
      all_goals exact ⟨_, rfl, by rw [HD.out]; exact own_up hown1 (by simp), hB1⟩
    · have hpc2 : pl < c := by omega
      have hpe2 : ¬ c = pl := by omega
      go_region_held_law (fun W => W.cell? ⟨g, o + 4, none⟩ = some (.int .u64 (pl : Int)) ∧ W.cell? ⟨g, o + 5, none⟩ = some (.int .u64 (sz : Int))) ((refine KS.out _ ?_; first | exact hbw | exact hB1))
        (first | (go_at_call 118; refine (HC.out _).mono ?_; rintro r w1 ⟨v1, rfl, hown1, hb1⟩; have hB1 : Below w.heap.size w w1 := hbw.trans (hb1.mono (by simp))))
      all_goals go_wp2
      all_goals go_ret
      all_goals exact ⟨_, rfl, by rw [HD.out]; exact own_up hown1 (by simp), hB1⟩

end Go.Proofs.YtldmjnbmjfnfeaaGreatDoor

namespace Go.Proofs.YtldmjnbmjfnfeaaGreatDoor
open Go Go.RowKit

/-! ### What is laid -/
/-- The bytes and the entries behind the first k of the sections from 1 on; ps: where their names stand. -/
def layK (ss : List Sect) (ps : List Nat) : Nat → List UInt8 × List (List Nat)
  | 0 => (List.replicate 64 0, [List.replicate 10 0])
  | k + 1 => match ss[k + 1]?, ps[k + 1]? with
    | some s, some p => (padB (layK ss ps k).1 ++ (if s.kind = 8 then [] else s.data), (layK ss ps k).2 ++ [entNs s p (padB (layK ss ps k).1).length])
    | _, _ => layK ss ps k
theorem layK_next {ss : List Sect} {ps : List Nat} {k p : Nat} {s : Sect} (hs : ss[k + 1]? = some s) (hp : ps[k + 1]? = some p) :
    layK ss ps (k + 1) = (padB (layK ss ps k).1 ++ (if s.kind = 8 then [] else s.data), (layK ss ps k).2 ++ [entNs s p (padB (layK ss ps k).1).length]) := by
  rw [layK, hs, hp]
theorem layK_size (ss : List Sect) (ps : List Nat) (hd : ∀ s ∈ ss, s.data.length ≤ 100000) : ∀ k, (layK ss ps k).1.length ≤ 64 + k * 100007
  | 0 => by simp [layK]
  | k + 1 => by
    have ih := layK_size ss ps hd k
    rcases hs : ss[k + 1]? with _ | s
    · rw [layK, hs]
      exact Nat.le_trans ih (by omega)
    · rcases hp : ps[k + 1]? with _ | p
      · rw [layK, hs, hp]
        exact Nat.le_trans ih (by omega)
      · rw [layK_next hs hp]
        have h1 := hd s (List.mem_of_getElem? hs)
        have h2 := padN_lt (layK ss ps k).1.length
        simp only [List.length_append, padB_length]
        split
        · simp only [List.length_nil]; omega
        · omega
theorem layK_count (ss : List Sect) (ps : List Nat) : ∀ k, k < ss.length → k < ps.length → (layK ss ps k).2.length = k + 1
  | 0, _, _ => rfl
  | k + 1, h1, h2 => by
    rw [layK_next (List.getElem?_eq_getElem h1) (List.getElem?_eq_getElem h2)]
    simp [layK_count ss ps k (by omega) (by omega)]

/-- The last one's bytes are the table of names. -/
def tabled (ss : List Sect) (t : List UInt8) : List Sect := match ss[ss.length - 1]? with
  | some z => ss.set (ss.length - 1) { z with data := t }
  | none => ss

/-! ### Rows -/
/-- Entries in a row of the call's own. -/
def cellsE (es : List (List Nat)) : List Value := es.flatMap entCs
abbrev OwnE (w : World) (base : Nat) (v : Value) (es : List (List Nat)) : Prop := w.ownsRow base 120 10 v es.length (cellsE es)
theorem cellsE_append (a b : List (List Nat)) : cellsE (a ++ b) = cellsE a ++ cellsE b := by simp [cellsE]
theorem cellsE_one (x : List Nat) : cellsE [x] = entCs x := by simp [cellsE]
theorem ent_info : (Tryz.prog.info? 120).map (fun i => (i.zero, i.size, i.bytes)) = some (some (.agg #[.int .u64 0, .int .u64 0, .int .u64 0, .int .u64 0, .int .u64 0, .int .u64 0, .int .u64 0, .int .u64 0, .int .u64 0, .int .u64 0]), 10, 80) := by kernel_rfl

section
variable {P : Program}
/-- 'make([]T, l, c)' of two numbers. -/
theorem wpList_make_some {w : World} {ops : Array Oper} {rest : List Oper} {o : Oper} {a : Act} {Q : Exit → Act → World → Prop} (hg : o.guard = none) (l c : Operand) (t : TypeId) (hop : o.op = Op.makeSlice t l c)
    (base : Nat) (e : TypeId) (i : TypeInfo) (z : Value) (size : Nat) (h1 : P.underlying t = some (.slice e)) (h2 : P.info? e = some i) (h3 : i.zero = some z) (h4 : i.size = size)
    (m n : Nat) (hmn : m ≤ n) (C : Int) (hl : a.eval l = .int .i64 (m : Int)) (hc : a.eval c = .int .i64 C) (hC : C = (n : Int)) (b2 : i.bytes * n ≤ 281474976710656) (b3 : n ≤ maxLen) (b4 : base ≤ w.heap.size)
    (hk : ∀ w', w'.ownsRow base e size (.slice (some ⟨w.heap.size, 0, none⟩) m n) m (madeCells z.cells (m * size)).toList → Below w.heap.size w w' → wpList P ops Q rest (a.put o.dst (.slice (some ⟨w.heap.size, 0, none⟩) m n)) w') :
    wpList P ops Q (o :: rest) a w := by
  subst hC
  refine wpList_plain hg fun K hK => ?_
  have hb' : (i.bytes : Int) * (n : Int) ≤ 281474976710656 := by
    have h : ((i.bytes * n : Nat) : Int) ≤ 281474976710656 := by omega
    rwa [Int.natCast_mul] at h
  have hrun := run_make (P := P) w t e i z h1 h2 h3 .i64 .i64 (m : Int) (n : Int) (by omega) (by omega) hb' (by unfold maxLen at b3; omega)
  rw [Int.toNat_natCast, Int.toNat_natCast, h4] at hrun
  unfold Oper.wp
  simp [execOp, hop, hl, hc, hrun, Result.andThen]
  refine hK _ _ (hk _ ⟨by simp [madeCells], .inr ⟨w.heap.size, n, _, rfl, b4, heap_alloc_new w _, hmn, b3, by simp [madeCells], ?_⟩⟩ ((Below.refl _ _).alloc (Nat.le_refl _) _))
  apply List.ext_getElem?
  intro j
  have hle : m * size ≤ n * size := Nat.mul_le_mul_right _ hmn
  by_cases hj : j < m * size
  · simp [madeCells, hj, show j < n * size by omega]
  · simp [madeCells, hj]
    rw [Nat.min_eq_left hmn]
    omega
end

/-- The last one's bytes turned. -/
theorem ownl_last {w : World} {base g c : Nat} {L : List Lay} {m : Nat} {z : Lay} (h : OwnL w base (.slice (some ⟨g, 0, none⟩) L.length c) L) (hz : L[m]? = some z) (y : Lay) (hy : y.cells = z.cells.set 4 y.dv) :
    OwnL (w.setCell ⟨g, m * 9 + 4, none⟩ y.dv) base (.slice (some ⟨g, 0, none⟩) L.length c) (L.set m y) ∧ w.grownBy (w.setCell ⟨g, m * 9 + 4, none⟩ y.dv) (some g) := by
  obtain ⟨h1, h2⟩ := World.ownsRow.stored h (m * 9 + 4) y.dv
  refine ⟨?_, h2⟩
  have hml := (List.getElem?_eq_some_iff.1 hz).1
  have e : cellsL (L.set m y) = (cellsL L).set (m * 9 + 4) y.dv := by
    apply List.ext_getElem?
    intro j
    by_cases hj : j < L.length * 9
    · have hq : L[j / 9]? = some (L[j / 9]'(by omega)) := List.getElem?_eq_getElem _
      have hr : (L[j / 9]'(by omega)).cells[j % 9]? = some ((L[j / 9]'(by omega)).cells[j % 9]'(by show j % 9 < 9; omega)) := List.getElem?_eq_getElem _
      have h0 := cellsL_at L _ _ _ _ hq hr
      rw [show j / 9 * 9 + j % 9 = j by omega] at h0
      by_cases hjm : j / 9 = m
      · subst hjm
        have hzz : L[j / 9]'(by omega) = z := by rw [hq] at hz; injection hz
        have hs : (L.set (j / 9) y)[j / 9]? = some y := List.getElem?_set_self (by omega)
        have hyc : y.cells[j % 9]? = some (y.cells[j % 9]'(by show j % 9 < 9; omega)) := List.getElem?_eq_getElem _
        have h3 := cellsL_at _ _ _ _ _ hs hyc
        rw [show j / 9 * 9 + j % 9 = j by omega] at h3
        rw [h3, ← hyc, hy]
        by_cases h4 : j % 9 = 4
        · rw [h4, List.getElem?_set_self (by show 4 < 9; omega), show j = j / 9 * 9 + 4 by omega, show (j / 9 * 9 + 4) / 9 = j / 9 by omega, List.getElem?_set_self (by rw [cellsL_length]; omega)]
        · rw [List.getElem?_set_ne (by omega), List.getElem?_set_ne (by omega), h0, ← hr, hzz]
      · have hs : (L.set m y)[j / 9]? = some (L[j / 9]'(by omega)) := by rw [List.getElem?_set_ne (by omega)]; exact hq
        have h3 := cellsL_at _ _ _ _ _ hs hr
        rw [show j / 9 * 9 + j % 9 = j by omega] at h3
        rw [h3, List.getElem?_set_ne (by omega), h0]
    · rw [List.getElem?_eq_none (by rw [cellsL_length, List.length_set]; omega), List.getElem?_eq_none (by rw [List.length_set, cellsL_length]; omega)]
  unfold OwnL
  rw [List.length_set, e]
  exact h1

end Go.Proofs.YtldmjnbmjfnfeaaGreatDoor

namespace Go.Proofs.YtldmjnbmjfnfeaaGreatDoor
open Go Go.RowKit

theorem gat_good (ns : List (List UInt8)) : GoodT (gat ns).1 := by
  have key : ∀ k, k ≤ ns.length → GoodT (gat (ns.take k)).1 := by
    intro k
    induction k with
    | zero => intro _; exact goodT_nil
    | succ k ih =>
      intro hk
      have h : ns[k]? = some (ns[k]'(by omega)) := List.getElem?_eq_getElem _
      rw [gat_take h]
      exact goodT_add (ih (by omega)) _
  have := key ns.length (Nat.le_refl _)
  rwa [List.take_length] at this
theorem gat_table (ns : List (List UInt8)) : (putsT (gat ns).1).length ≤ 65536 := by
  have h := gat_good ns
  rw [spanT_puts h.1]
  exact h.2.1
theorem gat_count (ns : List (List UInt8)) : (gat ns).2.length = ns.length := by
  have := gat_length ns ns.length (Nat.le_refl _)
  rwa [List.take_length] at this

theorem tabled_set {L : List Lay} {m : Nat} {z y : Lay} (hm : L.length = m + 1) (hz : L[m]? = some z) {t : List UInt8} (hy : y.s = { z.s with data := t }) : secsOf (L.set m y) = tabled (secsOf L) t := by
  have hl : (secsOf L).length - 1 = m := by simp [hm]
  unfold tabled
  rw [hl, get_secsOf hz]
  simp only [secsOf, List.map_set, hy]

section
variable {base : Nat} {bad : Obj → Prop} {a b : World}
theorem Only.drew (h : Only base bad a b) : Only base bad a b.drew := ⟨h.1.drew, h.2⟩
theorem Only.alloc (h : Only base bad a b) (hs : base ≤ b.heap.size) (o : Obj) : Only base bad a (b.alloc o) := h.trans (Only.below ((Below.refl _ _).alloc (Nat.le_refl _) o) hs)
end

theorem entCs_at (ns : List Nat) (w : World) (t : TypeId) (j : Nat) (u : Value) (h : (entCs ns)[j]? = some u) : (w.alloc (.cells (entCs ns).toArray t)).cell? ((⟨w.heap.size, 0, none⟩ : Addr).add j) = some u := by
  rw [addr_add, Nat.zero_add, (Box.new w t (entCs ns).toArray).cell]
  simpa using h
theorem entCs_one (ns : List Nat) : ∀ u ∈ entCs ns, u.oneCell' = true := by
  intro u hu
  obtain ⟨n, _, rfl⟩ := List.mem_map.1 hu
  rfl

theorem made_ent : (madeCells (Value.agg #[.int .u64 0, .int .u64 0, .int .u64 0, .int .u64 0, .int .u64 0, .int .u64 0, .int .u64 0, .int .u64 0, .int .u64 0, .int .u64 0]).cells (1 * 10)).toList = cellsE [List.replicate 10 0] := by kernel_rfl

/-- What goes along in the rounds of lay. -/
structure LaySt (BB : Nat) (w5 wr : World) (u v : Value) (ss : List Sect) (ps : List Nat) (k : Nat) : Prop where
  b : Own wr BB u (layK ss ps k).1
  e : OwnE wr BB v (layK ss ps k).2
  below : Below BB w5 wr
  size : BB ≤ wr.heap.size

set_option maxRecDepth 10000 in
set_option maxHeartbeats 3200000 in
theorem lay_any {w : World} {a : Option Addr} {L : List Lay} (h : Secs w w.heap.size a L) (c : Nat) (hlc : L.length ≤ c) (hl2 : 2 ≤ L.length) (hl : L.length ≤ 64) :
    Calls Tryz.prog 61 #[.slice a L.length c] w fun r w' => ∃ u v, r = .returned (.tuple #[u, v]) ∧ Own w' w.heap.size u (padB (layK (tabled (secsOf L) (putsT (gat (namesL L)).1)) (gat (namesL L)).2 (L.length - 1)).1) ∧
      OwnE w' w.heap.size v (layK (tabled (secsOf L) (putsT (gat (namesL L)).1)) (gat (namesL L)).2 (L.length - 1)).2 ∧ Below w.heap.size w w' := by
  obtain ⟨m, hm⟩ : ∃ m, L.length = m + 1 := ⟨L.length - 1, by omega⟩
  obtain ⟨i0, hi, hz0, hz1, hz2⟩ := info_parts u8_info
  obtain ⟨i1, hj, hy0, hy1, hy2⟩ := info_parts ent_info
  obtain ⟨z, hz⟩ : ∃ x, L[m]? = some x := ⟨L[m]'(by omega), List.getElem?_eq_getElem _⟩
  have HGA := Lib.hid (gather_any h c (by omega))
  have HCL := Lib.hid (fun W (hW : Below w.heap.size w W) => sclone_any ((h.below hW).more hW.size) c (by omega) (by omega))
  have HH := Lib.hid h
  have htl := gat_table (namesL L)
  have hgc : (gat (namesL L)).2.length = m + 1 := by rw [gat_count, namesL, List.length_map, hm]
  rw [hm] at HGA HCL hlc
  rw [hm, Nat.add_sub_cancel]
  have hmb : m ≤ 100 := by omega
  have hm1 : 1 ≤ m := by omega
  clear h hl hl2
  generalize htab : putsT (gat (namesL L)).1 = tab at *
  generalize (gat (namesL L)).2 = ps at *
  clear htab
  go_enter Tryz.func61, Tryz.ntmps61
  go_wp2_with fail
  refine HGA.out.mono ?_
  rintro r w1 ⟨u1, v1, rfl, hp1, ht1, hb1⟩
  have HP1 := Lib.hid hp1
  have HT1 := Lib.hid ht1
  have HB1 := Lib.hid hb1
  clear hp1 ht1 hb1 HGA
  go_wp2_with fail
  refine (HCL.out _ HB1.out).mono ?_
  rintro r w2 ⟨v2, rfl, ho2, hb2⟩
  have HO2 := Lib.hid ho2
  have HB2 := Lib.hid hb2
  clear ho2 hb2 HCL
  obtain ⟨g, c2, rfl, hgb, hgl⟩ := HO2.out.form (by omega)
  obtain ⟨At, ct, rfl, htc, htcm, htr⟩ := own_slice (own_below HT1.out HB2.out)
  have hO2 := HO2.out
  obtain ⟨hL3, hg3⟩ := ownl_last hO2 hz ⟨{ z.s with data := tab }, At, ct⟩ rfl
  have hon := row_turns hO2 hg3 HB2.out.size
  have hcell := World.ownsRow.cellAt (g := g) (cap := c2) hO2 (m * 9 + 4) (by omega)
  rw [cellsL_at L m z 4 _ hz rfl, show z.dv = .slice z.A z.s.data.length z.c from rfl] at hcell
  have hfree := World.ownsRow.frozenAt (g := g) (cap := c2) hO2 (m * 9 + 4)
  have hT3 := row_only (own_below HT1.out HB2.out) hon (fun cs f hh => absurd (show 5 = 39 from hh) (by decide))
  have hP3 := row_only (row_below HP1.out HB2.out) hon (fun cs f hh => absurd (show 37 = 39 from hh) (by decide))
  have hB3 : Below w.heap.size w _ := HB1.out.trans ((HB2.out.mono HB1.out.size).trans (hon.1.mono HB1.out.size))
  rw [show Lay.dv ⟨{ z.s with data := tab }, At, ct⟩ = .slice At tab.length ct from rfl] at hL3 hg3 hon hT3 hP3 hB3
  have hfz := (HH.out.get hz).fits
  have hsz3 : (w2.setCell ⟨g, m * 9 + 4, none⟩ (.slice At tab.length ct)).heap.size = w2.heap.size := by simp
  have hok3 : ∀ x ∈ L.set m ⟨{ z.s with data := tab }, At, ct⟩, x.Ok (w2.setCell ⟨g, m * 9 + 4, none⟩ (.slice At tab.length ct)) (w2.setCell ⟨g, m * 9 + 4, none⟩ (.slice At tab.length ct)).heap.size := by
    intro x hx
    rcases List.mem_or_eq_of_mem_set hx with hx | rfl
    · exact ((HH.out.ok x hx).below hB3).more hB3.size
    · obtain ⟨A', c', e, _, _, hrd⟩ := own_slice hT3
      injection e with e1 e2 e3
      subst e1 e3
      exact ⟨hrd, htc, htcm, ⟨hfz.kind, hfz.link, hfz.inf, hfz.algn, hfz.ent, hfz.flags, hfz.addr, Nat.le_trans htl (by decide), hfz.name⟩⟩
  obtain ⟨A', c', e', _, _, hS3⟩ := ownl_secs hL3 hok3
  injection e' with e1 e2 e3
  subst e1 e3
  obtain ⟨Ap, cp, rfl, hpc⟩ := ownu_at hP3
  rw [hgc] at hpc
  rw [hgc]
  have HSS := Lib.hid (tabled_set hm hz (y := ⟨{ z.s with data := tab }, At, ct⟩) (t := tab) rfl)
  have hLL : (L.set m ⟨{ z.s with data := tab }, At, ct⟩).length = m + 1 := by rw [List.length_set, hm]
  generalize L.set m ⟨{ z.s with data := tab }, At, ct⟩ = L3 at *
  have HS3 := Lib.hid hS3
  have HPC := Lib.hid hpc
  have HB3 := Lib.hid hB3
  have HLL := Lib.hid hLL
  have HGC := Lib.hid hgc
  rw [hm]
  clear hO2 hL3 hg3 hon hT3 hP3 hB3 hfz hok3 hS3 hpc HP1 HT1 HO2 htr htc htcm HH hLL hgc htl HB1 HB2 hgb
  have hmb1 : i1.bytes * (m + 1) ≤ 281474976710656 := by rw [hy2]; omega
  go_wp2_with (first
    | (at_make; refine wpList_make_bytes rfl _ _ 22 rfl i0 Tryz.underlying22 hi hz0 hz1 hz2 64 (by decide) rfl rfl w2.heap.size (by simp) ?_; intro w4 hr4 hb4; clear hcell hfree)
    | (at_make; refine wpList_make_some rfl _ _ 94 rfl w2.heap.size 120 i1 _ 10 Tryz.underlying94 hj hy0 hy1 1 (m + 1) (by omega) ((m : Int) + 1) rfl rfl (by omega) hmb1 (by unfold maxLen; omega) (by have := hb4.size; simp at this; omega) ?_; intro w5 hr5 hb5))
  have HS := Lib.hid (show LaySt w2.heap.size w5 w5 (.slice (some ⟨w2.heap.size, 0, none⟩) 64 64) (.slice (some ⟨w4.heap.size, 0, none⟩) 1 (m + 1)) (secsOf L3) ps 0 from
    ⟨by have := own_below (hr4.own (base := w2.heap.size) (Nat.le_refl _) (by simp [maxLen])) hb5; rwa [List.length_replicate] at this,
     by rw [made_ent] at hr5; exact hr5, Below.refl _ _, by have h4 := hb4.size; have h5 := hb5.size; simp at h4; omega⟩)
  rw [hsz3] at HS3 HPC
  have hb45 : Below w2.heap.size (w2.setCell ⟨g, m * 9 + 4, none⟩ (.slice At tab.length ct)) w5 := by
    have h4 := hb4.size
    rw [hsz3] at h4 hb4
    exact hb4.trans (hb5.mono h4)
  have HB5 := Lib.hid (HB3.out.trans (hb45.mono (by have := HB3.out.size; rwa [hsz3] at this)))
  have HS5 := Lib.hid (HS3.out.below hb45)
  have HPC5 := Lib.hid (show ∀ (j : Nat) (p : Nat), ps[j]? = some p → ∃ gp, Ap = some ⟨gp, 0, none⟩ ∧ gp < w2.heap.size ∧ w5.cell? ⟨gp, j, none⟩ = some (.int .u64 (p : Int)) from fun j p hp => by
    obtain ⟨gp, e, hlt, hc⟩ := HPC.out (by omega)
    exact ⟨gp, e, hlt, by rw [hb45.cell (p := ⟨gp, j, none⟩) hlt]; exact hc j p hp⟩)
  have hbw : w.heap.size ≤ w2.heap.size := by have := HB3.out.size; rwa [hsz3] at this
  clear hr4 hb4 hr5 hb5 hb45 hsz3 HB3 HS3 HPC
  generalize w2.heap.size = BB at *
  go_loopw [2, 3, 29] (fun u v i wr => ∃ k : Nat, k ≤ m ∧ i = .int .i64 k ∧ LaySt BB w5 wr u v (secsOf L3) ps k) (fun _ _ i _ => m - (intOf i).toNat)
  case atStart => exact ⟨0, Nat.zero_le _, rfl, HS.out⟩
  case round =>
    obtain ⟨k, hk, rfl, hst⟩ := hrel
    clear HS
    by_cases hlt : k < m
    · obtain ⟨x, hx⟩ : ∃ x, L3[k + 1]? = some x := ⟨L3[k + 1]'(by rw [HLL.out]; omega), List.getElem?_eq_getElem _⟩
      obtain ⟨p, hp⟩ : ∃ p, ps[k + 1]? = some p := ⟨ps[k + 1]'(by rw [HGC.out]; omega), List.getElem?_eq_getElem _⟩
      have hx' : (L3.drop 1)[k]? = some x := by rw [List.getElem?_drop, Nat.add_comm]; exact hx
      obtain ⟨b', o', e', hb', c0, c1, c2', c3, c4, c5, c6, c7, c8⟩ := ((HS5.out.below hst.below).drop 1).at_ hx'
      rw [Option.map_some, addr_add, Nat.one_mul] at e'
      cases e'
      have hxo := (HS5.out.below hst.below).get hx
      have HNX := Lib.hid (layK_next (get_secsOf hx) hp)
      have hsz := layK_size (secsOf L3) ps (fun s hs => by
        obtain ⟨y, hy, rfl⟩ := List.mem_map.1 hs
        exact (HS5.out.ok y hy).fits.data) k
      have hcnt := layK_count (secsOf L3) ps k (by simp [HLL.out]; omega) (by rw [HGC.out]; omega)
      generalize hnk1 : layK (secsOf L3) ps (k + 1) = nk1 at *
      have HK1 := Lib.hid hnk1
      generalize hnk : layK (secsOf L3) ps k = nk at *
      obtain ⟨hO, hE, hBl, hBs⟩ := hst
      rw [hnk] at hO hE
      obtain ⟨gp, rfl, hgp, hpc⟩ := HPC5.out _ _ hp
      have hpc' : wr.cell? ⟨gp, k + 1, none⟩ = some (.int .u64 (p : Int)) := by rw [hBl.cell (p := ⟨gp, k + 1, none⟩) hgp]; exact hpc
      have hb0 : Below wr.heap.size wr (wr.alloc (.cells #[.string ⟨x.s.name.toArray⟩, .int .i64 x.s.kind, .int .u64 (x.s.flags : Int), .int .u64 (x.s.addr : Int), .slice x.A x.s.data.length x.c, .int .i64 x.s.link, .int .i64 x.s.inf, .int .i64 x.s.algn, .int .i64 x.s.ent] 39)) := (Below.refl _ _).alloc (Nat.le_refl _) _
      have hX0 := Box.new wr 39 #[.string ⟨x.s.name.toArray⟩, .int .i64 x.s.kind, .int .u64 (x.s.flags : Int), .int .u64 (x.s.addr : Int), .slice x.A x.s.data.length x.c, .int .i64 x.s.link, .int .i64 x.s.inf, .int .i64 x.s.algn, .int .i64 x.s.ent]
      have HF := Lib.hid (fill_any (own_below hO hb0) (Nat.le_trans hBs hb0.size) (by omega))
      have HD := Lib.hid (fun W => describe_any x hxo.fits.data p (padB nk.1).length W)
      rw [show x.val = .agg #[.string ⟨x.s.name.toArray⟩, .int .i64 x.s.kind, .int .u64 (x.s.flags : Int), .int .u64 (x.s.addr : Int), .slice x.A x.s.data.length x.c, .int .i64 x.s.link, .int .i64 x.s.inf, .int .i64 x.s.algn, .int .i64 x.s.ent] from rfl] at HD
      have HE0 := Lib.hid (row_below hE hb0)
      have HX0 := Lib.hid hX0
      have HO0 := Lib.hid (own_below hO hb0)
      have HBL := Lib.hid (hBl.trans (hb0.mono hBs))
      have HPC0 := Lib.hid (show (wr.alloc (.cells #[.string ⟨x.s.name.toArray⟩, .int .i64 x.s.kind, .int .u64 (x.s.flags : Int), .int .u64 (x.s.addr : Int), .slice x.A x.s.data.length x.c, .int .i64 x.s.link, .int .i64 x.s.inf, .int .i64 x.s.algn, .int .i64 x.s.ent] 39)).cell? ⟨gp, k + 1, none⟩ = some (.int .u64 (p : Int)) by
        rw [hb0.cell (p := ⟨gp, k + 1, none⟩) (by show gp < _; omega)]; exact hpc')
      have HRD := Lib.hid ((hxo.rd.below (hb0.mono hBs)))
      have HDL := Lib.hid hxo.fits.data
      rw [hcnt] at HE0
      have hbsz := hb0.size
      clear hx hp hx' hnk1 hnk hE hO hBl hb0 hX0 hpc hpc' hxo
      generalize x.A = dA at *
      generalize x.c = dc at *
      generalize ByteArray.mk x.s.name.toArray = sb at *
      go_wp2_with (go_at_call 108; refine HF.out.mono ?_; rintro r w6 ⟨u6, rfl, hl6⟩; obtain ⟨A6, c6, rfl, hc6, _, _⟩ := own_slice hl6.1)
      have HL6 := Lib.hid hl6
      have ht6 := row_turns HO0.out hl6.2.1 (Nat.le_trans hBs hbsz)
      have hE6 := row_only HE0.out ht6 (fun cs f hh => absurd (show 120 = 5 from hh) (by decide))
      have hX6 : Box w6 wr.heap.size 39 _ := ht6.2 _ _ HX0.out (fun hh => absurd (show 39 = 5 from hh) (by decide))
      have hp6 : w6.cell? ⟨gp, k + 1, none⟩ = some (.int .u64 (p : Int)) := by rw [ht6.1.cell (p := ⟨gp, k + 1, none⟩) hgp]; exact HPC0.out
      have KS := Lib.hid (fun (W : World) (hW : Only BB (CellsOf 120) w6 W) => (by
        have hXW : Box W wr.heap.size 39 _ := hW.2 _ _ hX6 (fun hh => absurd (show 39 = 120 from hh) (by decide))
        exact ⟨hXW.cell 0, hXW.cell 1, hXW.cell 2, hXW.cell 3, hXW.cell 4, hXW.cell 5, hXW.cell 6, hXW.cell 7, hXW.cell 8, by rw [hW.1.cell (p := ⟨gp, k + 1, none⟩) hgp]; exact hp6⟩ :
        W.cell? ⟨wr.heap.size, 0, none⟩ = some (.string sb) ∧ W.cell? ⟨wr.heap.size, 1, none⟩ = some (.int .i64 x.s.kind) ∧ W.cell? ⟨wr.heap.size, 2, none⟩ = some (.int .u64 (x.s.flags : Int)) ∧ W.cell? ⟨wr.heap.size, 3, none⟩ = some (.int .u64 (x.s.addr : Int)) ∧ W.cell? ⟨wr.heap.size, 4, none⟩ = some (.slice dA x.s.data.length dc) ∧ W.cell? ⟨wr.heap.size, 5, none⟩ = some (.int .i64 x.s.link) ∧ W.cell? ⟨wr.heap.size, 6, none⟩ = some (.int .i64 x.s.inf) ∧ W.cell? ⟨wr.heap.size, 7, none⟩ = some (.int .i64 x.s.algn) ∧ W.cell? ⟨wr.heap.size, 8, none⟩ = some (.int .i64 x.s.ent) ∧ W.cell? ⟨gp, k + 1, none⟩ = some (.int .u64 (p : Int))))
      have hs6 : BB ≤ w6.heap.size := Nat.le_trans (Nat.le_trans hBs hbsz) ht6.1.size
      have hO6 : Only BB (CellsOf 120) w6 w6.drew := Only.drew (Only.refl _ _ _)
      have HE6 := Lib.hid hE6
      have HT6 := Lib.hid ht6
      have h63 : k + 1 + 1 ≤ maxLen := by unfold maxLen; omega
      have hby : (k + 1 + 1) * 80 ≤ 140737488355328 := by omega
      have HR := Lib.hid (show entV (entNs x.s p (padB nk.1).length) = .agg #[.int .u64 (p : Int), .int .u64 (wrapN x.s.kind : Int), .int .u64 (x.s.flags : Int), .int .u64 (x.s.addr : Int), .int .u64 ((padB nk.1).length : Int), .int .u64 (x.s.data.length : Int), .int .u64 (wrapN x.s.link : Int), .int .u64 (wrapN x.s.inf : Int), .int .u64 (wrapN x.s.algn : Int), .int .u64 (wrapN x.s.ent : Int)] from rfl)
      rw [HR.out] at HD
      have hpl : (padB nk.1).length ≤ 64 + k * 100007 + 8 := by rw [padB_length]; have := padN_lt nk.1.length; omega
      have hzl := IntWalk.u64_in ((padB nk.1).length : Int) (by omega)
      have HPL := Lib.hid hpl
      have hk3 : k + 1 < m + 1 := by omega
      have hk4 : (k : Int) + 1 < (m : Int) + 1 := by omega
      have hk5 : ¬ ((k : Int) + 1 < 0) := by omega
      have hk6 : IntKind.i64.wrap ((k : Int) + 1) = (k : Int) + 1 := by rw [IntKind.wrap_i64]; omega
      clear hl6 hE6 hX6 hp6 ht6 HO0 HX0 HPC0 HE0 HF hpl
      go_region_held_law (fun W => W.cell? ⟨wr.heap.size, 0, none⟩ = some (.string sb) ∧ W.cell? ⟨wr.heap.size, 1, none⟩ = some (.int .i64 x.s.kind) ∧ W.cell? ⟨wr.heap.size, 2, none⟩ = some (.int .u64 (x.s.flags : Int)) ∧ W.cell? ⟨wr.heap.size, 3, none⟩ = some (.int .u64 (x.s.addr : Int)) ∧ W.cell? ⟨wr.heap.size, 4, none⟩ = some (.slice dA x.s.data.length dc) ∧ W.cell? ⟨wr.heap.size, 5, none⟩ = some (.int .i64 x.s.link) ∧ W.cell? ⟨wr.heap.size, 6, none⟩ = some (.int .i64 x.s.inf) ∧ W.cell? ⟨wr.heap.size, 7, none⟩ = some (.int .i64 x.s.algn) ∧ W.cell? ⟨wr.heap.size, 8, none⟩ = some (.int .i64 x.s.ent) ∧ W.cell? ⟨gp, k + 1, none⟩ = some (.int .u64 (p : Int)))
        ((refine KS.out _ ?_; (repeat' (first | with_reducible assumption | with_reducible refine Only.drewN ?_ _ | with_reducible refine Only.drew ?_ | (with_reducible refine Only.alloc ?_ ?_ _) | (simp at *; omega)))))
        (first
          | (go_at_call 104; refine (HD.out _).mono ?_; rintro r w7 ⟨rfl, hb7⟩; have hE7 : OwnE w7 BB u3 nk.2 := (by rw [OwnE, hcnt]; refine row_below ?_ hb7; exact HE6.out); have hO7 : Only BB (CellsOf 120) w6 w7 := Only.then_ (by (repeat' (first | with_reducible assumption | with_reducible refine Only.drewN ?_ _ | with_reducible refine Only.drew ?_))) hb7 hs6; clear hO6; have hs7 : BB ≤ w7.heap.size := Nat.le_trans hs6 hO7.1.size; clear hb7)
          | (refine step_append_lies _ (by rfl) (.tmp 36) (.tmp 47) _ (by rfl) BB 120 i1 _ 10 80 Tryz.underlying94 hj hy0 hy1 hy2 (by rfl) (by decide) u3 (k + 1) (cellsE nk.2) (by rfl) (by have := hE7; rw [OwnE, hcnt] at this; exact this.alloc _) ⟨w7.heap.size, 0, none⟩ 1 1 (entCs (entNs x.s p (padB nk.1).length)) (by rfl) rfl (fun j u h => entCs_at (entNs x.s p (padB nk.1).length) w7 _ j u h) (entCs_one _) (by decide) h63 hby (by simp; omega) _ rfl ?_; intro g8 cap8 w8 hown8 hg8 hat8 hlt8; have hO8 : Only BB (CellsOf 120) w6 w8 := (Only.alloc hO7 hs7 _).trans (row_turns (by have := hE7; rw [OwnE, hcnt] at this; exact this.alloc _) hg8 (by simp; omega)); clear hO7 hg8 hat8))
      have HO8 := Lib.hid hO8
      obtain ⟨-, d1, -, -, d4, -⟩ := KS.out _ hO8
      have HW8 := Lib.hid (show OwnE w8 BB (.slice (some ⟨g8, 0, none⟩) (k + 1 + 1) cap8) nk1.2 by
        rw [HNX.out, OwnE, cellsE_append, cellsE_one, List.length_append, hcnt]; exact hown8)
      have HB8 := Lib.hid (show Below BB w5 w8 from (HBL.out.trans HT6.out.1).trans hO8.1)
      have hs8 : BB ≤ w8.heap.size := Nat.le_trans hs6 hO8.1.size
      have HU8 := Lib.hid (row_only HL6.out.1 hO8 (fun cs f hh => absurd (show 5 = 120 from hh) (by decide)))
      have HRD8 := Lib.hid ((HRD.out.below HT6.out.1).below hO8.1)
      clear hown8 hO8 hE7 HE6 KS HR HD HRD HT6 HBL hlt8
      by_cases h8 : x.s.kind = 8
      · have hk8 : (x.s.kind != 8) = false := by simp [h8]
        have HN1 := Lib.hid (show nk1.1 = padB nk.1 by rw [HNX.out, if_pos h8]; exact List.append_nil _)
        clear h8 HNX
        go_wp2_with fail
        go_roundw
        case rel => exact ⟨k + 1, by omega, by go_num, ⟨by rw [HK1.out, HN1.out]; exact HU8.out, by rw [HK1.out]; exact HW8.out, HB8.out, hs8⟩⟩
        case measure => simp [intOf]; omega
      · have hk8 : (x.s.kind != 8) = true := by simp [h8]
        have HN1 := Lib.hid (show nk1.1 = padB nk.1 ++ x.s.data by rw [HNX.out, if_neg h8])
        have hsum : (padB nk.1).length + x.s.data.length ≤ 140737488355328 := by have := HPL.out; have := HDL.out; omega
        clear h8 HNX
        go_wp2_with (at_builtin; refine wpList_append_bytes (by rfl) (.tmp 52) (.tmp 54) _ (by rfl) BB i0 Tryz.underlying22 hi hz0 hz1 hz2 (.slice A6 (padB nk.1).length c6) (padB nk.1) (by rfl) HU8.out BB dA x.s.data.length dc x.s.data rfl (by rfl) HRD8.out hsum hs8 ?_; intro v9 w9 hown9 hg9 hat9; have ht9 := row_turns HU8.out hg9 hs8; clear hg9 hat9)
        go_roundw
        case rel => exact ⟨k + 1, by omega, by go_num, ⟨by rw [HK1.out, HN1.out]; exact hown9, by rw [HK1.out]; exact row_only HW8.out ht9 (fun cs f hh => absurd (show 120 = 5 from hh) (by decide)), HB8.out.trans ht9.1, Nat.le_trans hs8 ht9.1.size⟩⟩
        case measure => simp [intOf]; omega
    · have hkm : k = m := by omega
      subst hkm
      rw [HSS.out] at hst
      obtain ⟨hO, hE, hBl, hBs⟩ := hst
      have hsz := layK_size (tabled (secsOf L) tab) ps (fun s hs => by
        rw [← HSS.out] at hs
        obtain ⟨y, hy, rfl⟩ := List.mem_map.1 hs
        exact (HS5.out.ok y hy).fits.data) k
      have HF := Lib.hid (fill_any hO hBs (by omega))
      have HE := Lib.hid hE
      have HO := Lib.hid hO
      have HB := Lib.hid hBl
      clear hO hE hBl hsz
      go_wp2_with (go_at_call 108; refine HF.out.mono ?_; rintro r w6 ⟨u6, rfl, hl6⟩)
      go_ret2
      have ht6 := row_turns HO.out hl6.2.1 hBs
      exact ⟨_, _, rfl, own_up hl6.1 hbw, row_base (row_only HE.out ht6 (fun cs f hh => absurd (show 120 = 5 from hh) (by decide))) hbw, HB5.out.trans ((HB.out.trans ht6.1).mono hbw)⟩

end Go.Proofs.YtldmjnbmjfnfeaaGreatDoor

namespace Go.Proofs.YtldmjnbmjfnfeaaGreatDoor
open Go Go.RowKit

/-! ### An entry's numbers -/
def sizesN : List Nat := [4, 4, 8, 8, 8, 8, 4, 4, 8, 8]
def numV (g o : Nat) : List Value := ((List.range 10).zip sizesN).flatMap fun x => [Value.pointer (some ⟨g, o + x.1, none⟩), Value.int .i64 (x.2 : Int)]
theorem numV_at (g o k s : Nat) (h : sizesN[k]? = some s) : (numV g o)[k * 2]? = some (.pointer (some ⟨g, o + k, none⟩)) ∧ (numV g o)[k * 2 + 1]? = some (.int .i64 (s : Int)) := by
  have hk : k < 10 := (List.getElem?_eq_some_iff.1 h).1
  have h10 : k = 0 ∨ k = 1 ∨ k = 2 ∨ k = 3 ∨ k = 4 ∨ k = 5 ∨ k = 6 ∨ k = 7 ∨ k = 8 ∨ k = 9 := by omega
  rcases h10 with rfl | rfl | rfl | rfl | rfl | rfl | rfl | rfl | rfl | rfl <;> (injection h with h; subst h; exact ⟨rfl, rfl⟩)

set_option maxRecDepth 10000 in
set_option maxHeartbeats 3200000 in
theorem numbers_at (g o : Nat) (w : World) :
    Calls Tryz.prog 62 #[.pointer (some ⟨g, o, none⟩)] w fun r w' => r = .returned (.slice (some ⟨w.heap.size, 0, none⟩) 10 10) ∧ Box w' w.heap.size 125 (numV g o).toArray ∧ Below w.heap.size w w' := by
  have HX := Lib.hid (Box.new w 125 (numV g o).toArray)
  have HB := Lib.hid ((Below.refl w.heap.size w).alloc (Nat.le_refl _) (.cells (numV g o).toArray 125))
  go_enter Tryz.func62, Tryz.ntmps62
  go_wp2_with fail
  go_region_held_law (fun _ => True) (trivial) (fail)
  all_goals go_wp2
  all_goals go_ret
  all_goals exact ⟨rfl, HX.out.drewN _, below_drewN HB.out _⟩

end Go.Proofs.YtldmjnbmjfnfeaaGreatDoor
