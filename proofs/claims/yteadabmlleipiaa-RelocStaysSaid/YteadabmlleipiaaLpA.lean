/-
  Package linkmap: what New tells of objects that are not great and a map that is not long.
-/
import Derived.Test.YteadabmlleipiaaLnV
import Derived.Test.YteadabmlleipiaaCopyB
import Derived.Test.YteadabmlleipiaaGpT
import Derived.Test.YteadabmlleipiaaEhG
import Derived.Test.YteadabmlleipiaaOcC
import Derived.Deep.RegionHeldLaw
namespace Go.Proofs.Yteadabmlleipiaa
open Go Go.RowKit

/-! ### How many bytes -/
def sizR (m k : Int) : Nat :=
  bif (decide (m = 62) && decide (k = 1)) || (decide (m = 183) && decide (k = 257)) then 8
  else bif (decide (m = 62) && decide (k = 10)) || ((decide (m = 62) && decide (k = 11)) || (decide (m = 183) && decide (k = 258))) then 4 else 0
theorem sizR_le (m k : Int) : sizR m k ≤ 8 := by
  unfold sizR; cases (decide (m = 62) && decide (k = 1)) || (decide (m = 183) && decide (k = 257)) <;> cases (decide (m = 62) && decide (k = 10)) || ((decide (m = 62) && decide (k = 11)) || (decide (m = 183) && decide (k = 258))) <;> decide
theorem sizR_is (m k : Int) : sizR m k = 8 ∨ sizR m k = 4 ∨ sizR m k = 0 := by
  unfold sizR; cases (decide (m = 62) && decide (k = 1)) || (decide (m = 183) && decide (k = 257)) <;> cases (decide (m = 62) && decide (k = 10)) || ((decide (m = 62) && decide (k = 11)) || (decide (m = 183) && decide (k = 258))) <;> simp

set_option maxRecDepth 10000 in
set_option maxHeartbeats 800000 in
theorem size12_any (m k : Int) (w : World) : Calls Try.prog 43 #[.int .i64 m, .int .i64 k] w fun r w' => r = .returned (.int .i64 ((sizR m k : Nat) : Int)) ∧ w' = w := by
  have e1 := int_eq_beq m 62
  have e2 := int_eq_beq m 183
  have e3 := int_eq_beq k 1
  have e4 := int_eq_beq k 257
  have e5 := int_eq_beq k 10
  have e6 := int_eq_beq k 11
  have e7 := int_eq_beq k 258
  have hx : decide (m = 62) = true → decide (m = 183) = false := fun h => decide_eq_false (by have := of_decide_eq_true h; omega)
  unfold sizR
  generalize decide (m = 62) = b1 at *
  generalize decide (m = 183) = b2 at *
  generalize decide (k = 1) = c1 at *
  generalize decide (k = 257) = c2 at *
  generalize decide (k = 10) = c3 at *
  generalize decide (k = 11) = c4 at *
  generalize decide (k = 258) = c5 at *
  go_enter Try.func43, Try.ntmps43
  cases b1
  · clear hx e3 e5 e6
    cases b2
    · go_wp2_with fail
      go_ret
      exact ⟨rfl, rfl⟩
    · cases c2 <;> cases c5
      all_goals
        go_wp2_with fail
        go_ret
        exact ⟨rfl, rfl⟩
  · obtain rfl : b2 = false := hx rfl
    clear hx e4 e7
    cases c1 <;> cases c3 <;> cases c4
    all_goals
      go_wp2_with fail
      go_ret
      exact ⟨rfl, rfl⟩

/-! ### What it makes -/
def add64 (a b : Nat) : Nat := (a + b) % 18446744073709551616
theorem add64_eq (a b : Nat) : IntKind.u64.wrap ((a : Int) + (b : Int)) = (add64 a b : Int) := by
  rw [IntKind.wrap_u64, show (18446744073709551616 : Int) = ((18446744073709551616 : Nat) : Int) from rfl]
  unfold add64
  omega
def tombN : Nat := 18446744073709551615
/-- Where a symbol lies, if it was retained. -/
def addrS (o : ObjV) (obj : Int) (P : List Place) (Y : List Named) (s : Sym) : Nat × Bool :=
  if s.sect = 65521 then (s.value, true)
  else if s.sect = 0 then (if s.name = [] then (0, true) else (nameA Y s.name, decide (nameA Y s.name ≠ tombN)))
  else match o.L[s.sect.toNat]? with
    | none => (0, false)
    | some x => if memB x.s.flags = true then (add64 (outA P obj s.sect) s.value, (outK P obj s.sect).isSome) else (s.value, true)
/-- May a symbol stand in a section with that number? -/
def standsB (n : Nat) (k : Int) : Bool := decide (0 ≤ k) && decide (k < min 65521 (n : Int))
/-- What a relocation makes, or why it does not. -/
def valR (o : ObjV) (obj : Int) (P : List Place) (Y : List Named) (r : Rel) : Nat × Int :=
  if r.sym < 0 ∨ (o.Y.length : Int) ≤ r.sym then (0, 24)
  else match o.Y[r.sym.toNat]? with
    | none => (0, 24)
    | some s =>
      if s.sect ≠ 65521 ∧ standsB o.L.length s.sect = false then (0, 24)
      else if (addrS o obj P Y s).2 = false then (tombN, 0) else (add64 (addrS o obj P Y s).1 (wrapN r.add), 0)

end Go.Proofs.Yteadabmlleipiaa

namespace Go.Proofs.Yteadabmlleipiaa
open Go Go.RowKit

set_option maxRecDepth 10000 in
set_option maxHeartbeats 800000 in
theorem stands_any {w : World} (o : ObjV) (k : Int) : Calls Try.prog 74 #[o.val, .int .i64 k] w fun r w' => r = .returned (.bool (standsB o.L.length k)) ∧ Below w.heap.size w w' := by
  rw [show ObjV.val o = .agg #[.int .i64 o.kind, .int .i64 o.machine, .slice o.aS o.L.length o.cS, .slice o.aY o.Y.length o.cY, .slice o.aR o.Q.length o.cR] from rfl]
  have HB := Lib.hid ((Below.refl w.heap.size w).alloc (Nat.le_refl _) (.cells #[.int .i64 o.kind, .int .i64 o.machine, .slice o.aS o.L.length o.cS, .slice o.aY o.Y.length o.cY, .slice o.aR o.Q.length o.cR] 40))
  unfold standsB
  generalize o.kind = x0 at *
  generalize o.machine = x1 at *
  generalize o.L.length = n at *
  generalize o.Y.length = n2 at *
  generalize o.Q.length = n3 at *
  go_enter Try.func74, Try.ntmps74
  by_cases h0 : 0 ≤ k
  · have d0 : decide (0 ≤ k) = true := decide_eq_true h0
    go_wp2_with fail
    go_ret
    exact ⟨by simp [h0], HB.out⟩
  · have d0 : decide (0 ≤ k) = false := decide_eq_false h0
    go_wp2_with fail
    go_ret
    exact ⟨rfl, HB.out⟩

set_option maxRecDepth 10000 in
set_option maxHeartbeats 800000 in
theorem fits_any {w : World} (v : Nat) (n : Nat) : Calls Try.prog 46 #[.int .u64 (v : Int), .int .i64 (n : Int)] w fun r w' => r = .returned (.bool (decide (n = 8) || (decide (v ≤ 4294967295) || decide (v = tombN)))) ∧ w' = w := by
  have e1 : ((n : Int) == 8) = decide (n = 8) := by rw [Bool.eq_iff_iff]; simp; omega
  have e2 : decide ((v : Int) ≤ 4294967295) = decide (v ≤ 4294967295) := by rw [Bool.eq_iff_iff]; simp; omega
  have e3 : ((v : Int) == 18446744073709551615) = decide (v = tombN) := by rw [Bool.eq_iff_iff]; unfold tombN; simp; omega
  generalize decide (n = 8) = b1 at *
  generalize decide (v ≤ 4294967295) = b2 at *
  generalize decide (v = tombN) = b3 at *
  go_enter Try.func46, Try.ntmps46
  cases b1 <;> cases b2
  all_goals
    go_wp2_with fail
    go_ret
    exact ⟨by simp, rfl⟩

/-- A section's relocations. -/
def relsOf (o : ObjV) (k : Nat) : List Rel := match o.Q[k]? with | some q => q.l | none => []
set_option maxRecDepth 10000 in
set_option maxHeartbeats 800000 in
theorem relas_any {w : World} {B : Nat} (o : ObjV) (h : Lists w B o.aR o.Q) (hB : B ≤ w.heap.size) (k : Nat) : Calls Try.prog 42 #[o.val, .int .i64 (k : Int)] w fun r w' => (∃ a c, r = .returned (.slice a (relsOf o k).length c) ∧ Rels w B a (relsOf o k)) ∧ Below w.heap.size w w' := by
  rw [show ObjV.val o = .agg #[.int .i64 o.kind, .int .i64 o.machine, .slice o.aS o.L.length o.cS, .slice o.aY o.Y.length o.cY, .slice o.aR o.Q.length o.cR] from rfl]
  have HB := Lib.hid ((Below.refl w.heap.size w).alloc (Nat.le_refl _) (.cells #[.int .i64 o.kind, .int .i64 o.machine, .slice o.aS o.L.length o.cS, .slice o.aY o.Y.length o.cY, .slice o.aR o.Q.length o.cR] 40))
  obtain ⟨N, hN⟩ : ∃ N, o.Q.length = N := ⟨_, rfl⟩
  by_cases hk : k < N
  · obtain ⟨q, hq⟩ : ∃ q, o.Q[k]? = some q := ⟨_, List.getElem?_eq_getElem (by rw [hN]; exact hk)⟩
    obtain ⟨b, oo, ha, hb', hc⟩ := h.at_ hq
    have hb : b < w.heap.size := Nat.lt_of_lt_of_le hb' hB
    have HR := Lib.hid (h.rels q (List.mem_of_getElem? hq))
    have hc' : ∀ O, (w.alloc O).cell? ⟨b, oo + k, none⟩ = some (.slice q.a q.l.length q.c) := fun O => by rw [((Below.refl w.heap.size w).alloc (Nat.le_refl _) O).cell (p := ⟨b, oo + k, none⟩) hb]; exact hc
    rw [show relsOf o k = q.l by unfold relsOf; rw [hq]]
    rw [hN] at HB ⊢
    rw [ha] at HB ⊢
    clear hN hq ha h hc
    have d1 : decide ((N : Int) ≤ (k : Int)) = false := decide_eq_false (by omega)
    generalize o.kind = x0 at *
    generalize o.machine = x1 at *
    generalize o.L.length = n at *
    generalize o.Y.length = n2 at *
    go_enter Try.func42, Try.ntmps42
    go_wp2_with fail
    go_ret
    exact ⟨⟨_, _, rfl, HR.out⟩, HB.out⟩
  · have hq : o.Q[k]? = none := List.getElem?_eq_none (by omega)
    rw [show relsOf o k = [] by unfold relsOf; rw [hq]]
    rw [hN] at HB ⊢
    clear hN hq h
    have d1 : decide ((N : Int) ≤ (k : Int)) = true := decide_eq_true (by omega)
    generalize o.kind = x0 at *
    generalize o.machine = x1 at *
    generalize o.L.length = n at *
    generalize o.Y.length = n2 at *
    go_enter Try.func42, Try.ntmps42
    go_wp2_with fail
    go_ret
    exact ⟨⟨none, 0, rfl, fun h => absurd h (by decide)⟩, HB.out⟩

end Go.Proofs.Yteadabmlleipiaa

namespace Go.Proofs.Yteadabmlleipiaa
open Go Go.RowKit

def Sym.val (s : Sym) : Value := .agg #[.string ⟨s.name.toArray⟩, .int .i64 s.bind, .int .i64 s.kind, .int .i64 s.sect, .int .u64 (s.value : Int), .int .u64 (s.size : Int)]
theorem tomb_beq (n : Nat) : ((n : Int) != 18446744073709551615) = decide (n ≠ tombN) := by unfold tombN; rw [Bool.eq_iff_iff]; simp; omega

set_option maxRecDepth 10000 in
set_option maxHeartbeats 1600000 in
theorem address_any {w : World} (o : ObjV) (ho : o.Ok w w.heap.size) {v : Value} {P : List Place} {Y : List Named} (hP : PlacesAt w v P) (hY : SymsAt w v Y) {obj : Int} (hobj : InI obj) (s : Sym) (hs : InI s.sect) (hnm : s.name.length ≤ maxLen) (hst : s.sect = 65521 ∨ standsB o.L.length s.sect = true) :
    Calls Try.prog 75 #[o.val, .int .i64 obj, s.val, v] w fun r w' => r = .returned (.tuple #[.int .u64 ((addrS o obj P Y s).1 : Int), .bool (addrS o obj P Y s).2]) ∧ Below w.heap.size w w' := by
  rw [show ObjV.val o = .agg #[.int .i64 o.kind, .int .i64 o.machine, .slice o.aS o.L.length o.cS, .slice o.aY o.Y.length o.cY, .slice o.aR o.Q.length o.cR] from rfl]
  unfold Sym.val
  generalize hw1 : w.alloc (.cells #[.int .i64 o.kind, .int .i64 o.machine, .slice o.aS o.L.length o.cS, .slice o.aY o.Y.length o.cY, .slice o.aR o.Q.length o.cR] 40) = w1 at *
  have hb1 : Below w.heap.size w w1 := hw1 ▸ (Below.refl _ _).alloc (Nat.le_refl _) _
  have hs1 : w1.heap.size = w.heap.size + 1 := by rw [← hw1]; simp
  have hXo := Box.new w 40 #[.int .i64 o.kind, .int .i64 o.machine, .slice o.aS o.L.length o.cS, .slice o.aY o.Y.length o.cY, .slice o.aR o.Q.length o.cR]
  rw [hw1] at hXo
  generalize hw0 : w1.alloc (.cells #[.string ⟨s.name.toArray⟩, .int .i64 s.bind, .int .i64 s.kind, .int .i64 s.sect, .int .u64 (s.value : Int), .int .u64 (s.size : Int)] 85) = w0 at *
  have hb10 : Below w1.heap.size w1 w0 := hw0 ▸ (Below.refl _ _).alloc (Nat.le_refl _) _
  have hs0 : w0.heap.size = w.heap.size + 2 := by rw [← hw0]; simp; omega
  have hXs := Box.new w1 85 #[.string ⟨s.name.toArray⟩, .int .i64 s.bind, .int .i64 s.kind, .int .i64 s.sect, .int .u64 (s.value : Int), .int .u64 (s.size : Int)]
  rw [hw0] at hXs
  have hb0 : Below w.heap.size w w0 := hb1.trans (hb10.mono hb1.size)
  have hXo0 := hXo.below hb10 (by omega)
  have HB0 := Lib.hid hb0
  have KX := Lib.hid (fun W (hW : Below w0.heap.size w0 W) => (⟨(five_cells (hXo0.below hW (by omega))).2.2.1, (six_cells (hXs.below hW (by omega))).1, (six_cells (hXs.below hW (by omega))).2.2.2.1, (six_cells (hXs.below hW (by omega))).2.2.2.2.1⟩ :
    W.cell? ⟨w.heap.size, 2, none⟩ = some (.slice o.aS o.L.length o.cS) ∧ W.cell? ⟨w1.heap.size, 0, none⟩ = some (.string ⟨s.name.toArray⟩) ∧ W.cell? ⟨w1.heap.size, 3, none⟩ = some (.int .i64 s.sect) ∧ W.cell? ⟨w1.heap.size, 4, none⟩ = some (.int .u64 (s.value : Int))))
  have HP := Lib.hid (fun W (hW : Below w0.heap.size w0 W) => lnout_any (hP.below (hb0.trans (hW.mono (by omega)))) hobj hs)
  have HY := Lib.hid (fun W (hW : Below w0.heap.size w0 W) => lnsym_any (hY.below (hb0.trans (hW.mono (by omega)))) hnm)
  obtain ⟨n2, m0, m3, m4⟩ := KX.out _ (Below.refl _ _)
  have HS0 := Lib.hid hs0
  by_cases h1 : s.sect = 65521
  · have e1 : (s.sect == 65521) = true := by simp [h1]
    have HA := Lib.hid (show addrS o obj P Y s = (s.value, true) by unfold addrS; rw [if_pos h1])
    clear ho hP hY hb1 hb10 hXo hXs hXo0 hb0 KX HP HY hst h1 hs1 hs0
    generalize s.sect = k at *
    go_enter Try.func75, Try.ntmps75
    go_upto_region 1 with fail
    try rw [hw1]
    try rw [hw0]
    clear hw1 hw0
    go_wp2_with fail
    go_ret2
    exact ⟨by rw [HA.out]; rfl, HB0.out⟩
  · have hst' : standsB o.L.length s.sect = true := hst.resolve_left h1
    unfold standsB at hst'
    rw [Bool.and_eq_true, decide_eq_true_eq, decide_eq_true_eq] at hst'
    obtain ⟨k, hk⟩ : ∃ k : Nat, s.sect = (k : Int) := ⟨s.sect.toNat, by omega⟩
    have hkl : k < o.L.length := by omega
    have hk6 : k < 65521 := by omega
    obtain ⟨x, hx⟩ : ∃ x, o.L[k]? = some x := ⟨_, List.getElem?_eq_getElem hkl⟩
    by_cases h2 : s.sect = 0
    · have e1 : (s.sect == 65521) = false := by simp; omega
      have e2 : (s.sect == 0) = true := by simp [h2]
      by_cases hn : s.name = []
      · have HA := Lib.hid (show addrS o obj P Y s = (0, true) by unfold addrS; rw [if_neg h1, if_pos h2, if_pos hn])
        have e3 : (ByteArray.mk s.name.toArray).toList.isEmpty = true := by rw [mk_list, hn]; rfl
        clear ho hP hY hb1 hb10 hXo hXs hXo0 hb0 KX HP HY hst hst' h1 h2 hs1 hs0 hn hx hkl hk hk6
        generalize s.sect = kk at *
        generalize ByteArray.mk s.name.toArray = nm at *
        go_enter Try.func75, Try.ntmps75
        go_upto_region 1 with fail
        try rw [hw1]
        try rw [hw0]
        clear hw1 hw0
        go_wp2_with fail
        go_ret2
        exact ⟨by rw [HA.out]; rfl, HB0.out⟩
      · have HA := Lib.hid (show addrS o obj P Y s = (nameA Y s.name, decide (nameA Y s.name ≠ tombN)) by unfold addrS; rw [if_neg h1, if_pos h2, if_neg hn])
        have e3 : (ByteArray.mk s.name.toArray).toList.isEmpty = false := by rw [mk_list]; simpa using hn
        have e4 := tomb_beq (nameA Y s.name)
        clear ho hP hY hb1 hb10 hXo hXs hXo0 hb0 KX HP hst hst' h1 h2 hs1 hs0 hn hx hkl hk hk6
        generalize s.sect = kk at *
        generalize nameA Y s.name = a at *
        generalize ByteArray.mk s.name.toArray = nm at *
        generalize decide (a ≠ tombN) = bt at *
        go_enter Try.func75, Try.ntmps75
        go_upto_region 1 with fail
        try rw [hw1]
        try rw [hw0]
        clear hw1 hw0
        go_wp2_with (go_at_call 97; refine (HY.out _ (Below.refl _ _)).mono ?_; rintro r w2 ⟨rfl, rfl⟩)
        go_ret2
        exact ⟨by rw [HA.out]; rfl, HB0.out⟩
    · rw [hk] at HP m3 KX hw0 ⊢
      have e1 : ((k : Int) == 65521) = false := by simp; omega
      have e2 : ((k : Int) == 0) = false := by simp; omega
      obtain ⟨b2, o2, hbs, hb2, c0, c1, c2, c3, c4, c5, c6, c7, c8⟩ := ho.secs.at_ hx
      have hfl := ((ho.secs.ok x (List.mem_of_getElem? hx)).fits).flags
      have KN := (by
        have hc := fun (q : Addr) (hq : q.block < w.heap.size) => hb0.cell (p := q) hq
        exact ⟨by rw [hc _ hb2]; exact c0, by rw [hc _ hb2]; exact c1, by rw [hc _ hb2]; exact c2, by rw [hc _ hb2]; exact c3, by rw [hc _ hb2]; exact c4, by rw [hc _ hb2]; exact c5, by rw [hc _ hb2]; exact c6, by rw [hc _ hb2]; exact c7, by rw [hc _ hb2]; exact c8⟩ :
        w0.cell? ⟨b2, o2 + k * 9, none⟩ = some (.string ⟨x.s.name.toArray⟩) ∧ w0.cell? ⟨b2, o2 + k * 9 + 1, none⟩ = some (.int .i64 x.s.kind) ∧ w0.cell? ⟨b2, o2 + k * 9 + 2, none⟩ = some (.int .u64 (x.s.flags : Int)) ∧ w0.cell? ⟨b2, o2 + k * 9 + 3, none⟩ = some (.int .u64 (x.s.addr : Int)) ∧ w0.cell? ⟨b2, o2 + k * 9 + 4, none⟩ = some (.slice x.A x.s.data.length x.c) ∧ w0.cell? ⟨b2, o2 + k * 9 + 5, none⟩ = some (.int .i64 x.s.link) ∧ w0.cell? ⟨b2, o2 + k * 9 + 6, none⟩ = some (.int .i64 x.s.inf) ∧ w0.cell? ⟨b2, o2 + k * 9 + 7, none⟩ = some (.int .i64 x.s.algn) ∧ w0.cell? ⟨b2, o2 + k * 9 + 8, none⟩ = some (.int .i64 x.s.ent))
      clear c0 c1 c2 c3 c4 c5 c6 c7 c8
      obtain ⟨c0, c1, c2, c3, c4, c5, c6, c7, c8⟩ := KN
      have HAL := Lib.hid (fun nm kd c3 c4 c5 c6 c7 c8 W => alloc_any nm kd x.s.flags c3 c4 c5 c6 c7 c8 hfl W)
      rw [hbs] at n2 KX hw1 ⊢
      have HA := Lib.hid (show addrS o obj P Y s = if memB x.s.flags = true then (add64 (outA P obj (k : Int)) s.value, (outK P obj (k : Int)).isSome) else (s.value, true) by
        unfold addrS; rw [if_neg h1, if_neg (by omega), show s.sect.toNat = k by omega, hx, hk])
      have e4 := add64_eq (outA P obj (k : Int)) s.value
      clear ho hP hY hb1 hb10 hXo hXs hXo0 hb0 HY hst hst' h1 hs1 hs0 hx hk hfl hbs
      generalize memB x.s.flags = mb at *
      generalize add64 (outA P obj (k : Int)) s.value = ad at *
      generalize outA P obj (k : Int) = oa at *
      generalize (outK P obj (k : Int)).isSome = oi at *
      generalize ByteArray.mk s.name.toArray = nm at *
      generalize ByteArray.mk x.s.name.toArray = xn at *
      generalize x.s.kind = y1 at *
      generalize x.s.flags = y2 at *
      generalize x.s.addr = y3 at *
      generalize x.s.data.length = y4 at *
      generalize x.s.link = y5 at *
      generalize x.s.inf = y6 at *
      generalize x.s.algn = y7 at *
      generalize x.s.ent = y8 at *
      generalize o.L.length = nL at *
      go_enter Try.func75, Try.ntmps75
      go_upto_region 1 with fail
      try rw [hw1]
      try rw [hw0]
      clear hw1 hw0
      cases mb with
      | false =>
        clear e4 HP
        go_wp2_with (go_at_call 67; refine (HAL.out _ _ _ _ _ _ _ _ _).mono ?_; rintro r w2 ⟨rfl, hb2'⟩; have HB2 := Lib.hid hb2'; obtain ⟨n2', m0', m3', m4'⟩ := KX.out _ hb2'; clear hb2')
        go_ret2
        exact ⟨by rw [HA.out]; rfl, HB0.out.trans (HB2.out.mono HB0.out.size)⟩
      | true =>
        go_wp2_with (first
          | (go_at_call 67; refine (HAL.out _ _ _ _ _ _ _ _ _).mono ?_; rintro r w2 ⟨rfl, hb2'⟩; have HB2 := Lib.hid hb2'; obtain ⟨n2', m0', m3', m4'⟩ := KX.out _ hb2'; clear hb2')
          | (go_at_call 98; refine (HP.out _ HB2.out).mono ?_; rintro r w3 ⟨rfl, rfl⟩))
        go_ret2
        exact ⟨by rw [HA.out]; rfl, HB0.out.trans (HB2.out.mono HB0.out.size)⟩

end Go.Proofs.Yteadabmlleipiaa

namespace Go.Proofs.Yteadabmlleipiaa
open Go Go.RowKit

def Rel.val (r : Rel) : Value := .agg #[.int .u64 (r.off : Int), .int .i64 r.sym, .int .i64 r.kind, .int .i64 r.add]
/-- What a call of Value wants to know of an object's symbols. -/
def ObjV.SymOk (o : ObjV) : Prop := ∀ y ∈ o.Y, InI y.sect ∧ y.name.length ≤ maxLen

set_option maxRecDepth 10000 in
set_option maxHeartbeats 1600000 in
theorem value_any {w : World} (o : ObjV) (ho : o.Ok w w.heap.size) (hyo : o.SymOk) {v : Value} {P : List Place} {Y : List Named} (hP : PlacesAt w v P) (hY : SymsAt w v Y) {obj : Int} (hobj : InI obj) (q : Rel) :
    Calls Try.prog 45 #[o.val, .int .i64 obj, q.val, v] w fun r w' => r = .returned (.tuple #[.int .u64 ((valR o obj P Y q).1 : Int), .int .i64 (valR o obj P Y q).2]) ∧ Below w.heap.size w w' := by
  have HOV := Lib.hid (show ObjV.val o = .agg #[.int .i64 o.kind, .int .i64 o.machine, .slice o.aS o.L.length o.cS, .slice o.aY o.Y.length o.cY, .slice o.aR o.Q.length o.cR] from rfl)
  rw [HOV.out]
  unfold Rel.val
  generalize hw1 : w.alloc (.cells #[.int .i64 o.kind, .int .i64 o.machine, .slice o.aS o.L.length o.cS, .slice o.aY o.Y.length o.cY, .slice o.aR o.Q.length o.cR] 40) = w1 at *
  have hb1 : Below w.heap.size w w1 := hw1 ▸ (Below.refl _ _).alloc (Nat.le_refl _) _
  have hs1 : w1.heap.size = w.heap.size + 1 := by rw [← hw1]; simp
  have hXo := Box.new w 40 #[.int .i64 o.kind, .int .i64 o.machine, .slice o.aS o.L.length o.cS, .slice o.aY o.Y.length o.cY, .slice o.aR o.Q.length o.cR]
  rw [hw1] at hXo
  generalize hw0 : w1.alloc (.cells #[.int .u64 (q.off : Int), .int .i64 q.sym, .int .i64 q.kind, .int .i64 q.add] 51) = w0 at *
  have hb10 : Below w1.heap.size w1 w0 := hw0 ▸ (Below.refl _ _).alloc (Nat.le_refl _) _
  have hs0 : w0.heap.size = w.heap.size + 2 := by rw [← hw0]; simp; omega
  have hXr := Box.new w1 51 #[.int .u64 (q.off : Int), .int .i64 q.sym, .int .i64 q.kind, .int .i64 q.add]
  rw [hw0] at hXr
  have hb0 : Below w.heap.size w w0 := hb1.trans (hb10.mono hb1.size)
  have hXo0 := hXo.below hb10 (by omega)
  have HB0 := Lib.hid hb0
  have KX := Lib.hid (fun W (hW : Below w0.heap.size w0 W) => (⟨five_cells (hXo0.below hW (by omega)), (four_cells (hXr.below hW (by omega))).2.1, (four_cells (hXr.below hW (by omega))).2.2.2⟩ :
    (W.cell? ⟨w.heap.size, 0, none⟩ = some (.int .i64 o.kind) ∧ W.cell? ⟨w.heap.size, 1, none⟩ = some (.int .i64 o.machine) ∧ W.cell? ⟨w.heap.size, 2, none⟩ = some (.slice o.aS o.L.length o.cS) ∧ W.cell? ⟨w.heap.size, 3, none⟩ = some (.slice o.aY o.Y.length o.cY) ∧ W.cell? ⟨w.heap.size, 4, none⟩ = some (.slice o.aR o.Q.length o.cR)) ∧
    W.cell? ⟨w1.heap.size, 1, none⟩ = some (.int .i64 q.sym) ∧ W.cell? ⟨w1.heap.size, 3, none⟩ = some (.int .i64 q.add)))
  obtain ⟨⟨n0, n1, n2, n3, n4⟩, m1, m3⟩ := KX.out _ (Below.refl _ _)
  by_cases h1 : q.sym < 0
  · have d1 : decide (q.sym < 0) = true := decide_eq_true h1
    have HA := Lib.hid (show valR o obj P Y q = (0, 24) by unfold valR; rw [if_pos (.inl h1)])
    clear ho hP hY hb1 hb10 hXo hXr hXo0 hb0 KX h1 hs1 hs0 hyo HOV
    generalize q.sym = k at *
    go_enter Try.func45, Try.ntmps45
    go_upto_region 1 with fail
    try rw [hw1]
    try rw [hw0]
    clear hw1 hw0
    go_wp2_with fail
    go_ret2
    exact ⟨by rw [HA.out]; rfl, HB0.out⟩
  · obtain ⟨k, hk⟩ : ∃ k : Nat, q.sym = (k : Int) := ⟨q.sym.toNat, by omega⟩
    rw [hk] at KX m1 hw0 ⊢
    have d1 : decide ((k : Int) < 0) = false := decide_eq_false (by omega)
    obtain ⟨N, hN⟩ : ∃ N, o.Y.length = N := ⟨_, rfl⟩
    by_cases hkN : k < N
    · have d2 : decide ((N : Int) ≤ (k : Int)) = false := decide_eq_false (by omega)
      obtain ⟨s, hs⟩ : ∃ s, o.Y[k]? = some s := ⟨_, List.getElem?_eq_getElem (by rw [hN]; exact hkN)⟩
      obtain ⟨hsn, hnm⟩ := hyo s (List.mem_of_getElem? hs)
      obtain ⟨b2, o2, hay, hb2, c0, c1, c2, c3, c4, c5⟩ := sym_at ho.syms hs
      have KN := (by
        have hc := fun (q : Addr) (hq : q.block < w.heap.size) => hb0.cell (p := q) hq
        exact ⟨by rw [hc _ hb2]; exact c0, by rw [hc _ hb2]; exact c1, by rw [hc _ hb2]; exact c2, by rw [hc _ hb2]; exact c3, by rw [hc _ hb2]; exact c4, by rw [hc _ hb2]; exact c5⟩ :
        w0.cell? ⟨b2, o2 + k * 6, none⟩ = some (.string ⟨s.name.toArray⟩) ∧ w0.cell? ⟨b2, o2 + k * 6 + 1, none⟩ = some (.int .i64 s.bind) ∧ w0.cell? ⟨b2, o2 + k * 6 + 2, none⟩ = some (.int .i64 s.kind) ∧ w0.cell? ⟨b2, o2 + k * 6 + 3, none⟩ = some (.int .i64 s.sect) ∧ w0.cell? ⟨b2, o2 + k * 6 + 4, none⟩ = some (.int .u64 (s.value : Int)) ∧ w0.cell? ⟨b2, o2 + k * 6 + 5, none⟩ = some (.int .u64 (s.size : Int)))
      clear c0 c1 c2 c3 c4 c5
      obtain ⟨c0, c1, c2, c3, c4, c5⟩ := KN
      have HA := Lib.hid (show valR o obj P Y q = if s.sect ≠ 65521 ∧ standsB o.L.length s.sect = false then (0, 24) else if (addrS o obj P Y s).2 = false then (tombN, 0) else (add64 (addrS o obj P Y s).1 (wrapN q.add), 0) by
        unfold valR
        rw [if_neg (by omega), show q.sym.toNat = k by omega, hs])
      generalize hw2 : w0.alloc (.cells #[.string ⟨s.name.toArray⟩, .int .i64 s.bind, .int .i64 s.kind, .int .i64 s.sect, .int .u64 (s.value : Int), .int .u64 (s.size : Int)] 85) = w2 at *
      have hb2' : Below w0.heap.size w0 w2 := hw2 ▸ (Below.refl _ _).alloc (Nat.le_refl _) _
      have hs2 : w2.heap.size = w0.heap.size + 1 := by rw [← hw2]; simp
      have hXy := Box.new w0 85 #[.string ⟨s.name.toArray⟩, .int .i64 s.bind, .int .i64 s.kind, .int .i64 s.sect, .int .u64 (s.value : Int), .int .u64 (s.size : Int)]
      rw [hw2] at hXy
      have KY := Lib.hid (fun W (hW : Below w2.heap.size w2 W) => (⟨KX.out W (hb2'.trans (hW.mono (by omega))), six_cells (hXy.below hW (by omega))⟩ : _ ∧ _))
      have HST := Lib.hid (fun W => stands_any (w := W) o s.sect)
      have HAD := Lib.hid (fun W (hW : Below w2.heap.size w2 W) (hst : s.sect = 65521 ∨ standsB o.L.length s.sect = true) => (by
        have hWW := hb0.trans ((hb2'.trans (hW.mono (by omega))).mono (by omega))
        exact address_any o ((ho.below hWW).more hWW.size) (hP.below hWW) (hY.below hWW) hobj s hsn hnm hst : Calls Try.prog 75 #[o.val, .int .i64 obj, s.val, v] W fun r w' => r = .returned (.tuple #[.int .u64 ((addrS o obj P Y s).1 : Int), .bool (addrS o obj P Y s).2]) ∧ Below W.heap.size W w'))
      unfold Sym.val at HAD
      rw [HOV.out] at HAD HST
      obtain ⟨⟨⟨p0, p1, p2, p3, p4⟩, r1, r3⟩, y0, y1, y2, y3, y4, y5⟩ := KY.out _ (Below.refl _ _)
      have HB2 := Lib.hid hb2'
      have HS0 := Lib.hid hs0
      have HS2 := Lib.hid hs2
      have e5 := wrapN_eq q.add
      have e6 := add64_eq (addrS o obj P Y s).1 (wrapN q.add)
      rw [hay, hN] at n3 p3 KX KY HAD HST hw1 ⊢
      clear ho hP hY hb1 hb10 hXo hXr hXo0 hb0 KX h1 hs1 hs0 hyo HOV hN hs hsn hnm hay hb2' hs2 hXy hobj hk
      by_cases h65 : s.sect = 65521
      · have e1 : (s.sect != 65521) = false := by simp [h65]
        have HF := Lib.hid (show valR o obj P Y q = if (addrS o obj P Y s).2 = false then (tombN, 0) else (add64 (addrS o obj P Y s).1 (wrapN q.add), 0) by rw [HA.out, if_neg (fun h => h.1 h65)])
        have HL := Lib.hid (fun W hW => HAD.out W hW (.inl h65))
        clear HA HAD HST h65
        generalize addrS o obj P Y s = ad at *
        generalize s.sect = ss at *
        obtain ⟨a, ok⟩ := ad
        simp only at HF HL e6
        generalize add64 a (wrapN q.add) = tot at *
        generalize wrapN q.add = wn at *
        go_enter Try.func45, Try.ntmps45
        go_upto_region 1 with fail
        try rw [hw1]
        try rw [hw0]
        clear hw1 hw0
        go_upto_region 4 with fail
        try rw [hw2]
        clear hw2 n0 n1 n2 n3 n4 m1 m3 c0 c1 c2 c3 c4 c5
        cases ok
        all_goals
          go_wp2_with (go_at_call 75; refine (HL.out _ (Below.refl _ _)).mono ?_; rintro r w3 ⟨rfl, hb3⟩; have HB3 := Lib.hid (HB2.out.trans (hb3.mono (by have := HS2.out; omega))); obtain ⟨-, t1, t3⟩ := (KY.out _ hb3).1; clear hb3)
          go_ret2
          exact ⟨by rw [HF.out]; rfl, HB0.out.trans (HB3.out.mono HB0.out.size)⟩
      · have e1 : (s.sect != 65521) = true := by simp [h65]
        have e2 : ∀ b : Bool, Hid (standsB o.L.length s.sect = b) → valR o obj P Y q = if b = false then (0, 24) else if (addrS o obj P Y s).2 = false then (tombN, 0) else (add64 (addrS o obj P Y s).1 (wrapN q.add), 0) := by
          intro b hb
          rw [HA.out, hb.out]
          simp [h65]
        have HF := Lib.hid e2
        clear HA e2 h65
        cases hb : standsB o.L.length s.sect with
        | false =>
          have HG := Lib.hid (show valR o obj P Y q = (0, 24) by rw [HF.out false (Lib.hid hb)]; rfl)
          rw [hb] at HST
          clear HF HAD hb e5 e6
          generalize s.sect = ss at *
          go_enter Try.func45, Try.ntmps45
          go_upto_region 1 with fail
          try rw [hw1]
          try rw [hw0]
          clear hw1 hw0
          go_upto_region 4 with fail
          try rw [hw2]
          clear hw2 n0 n1 n2 n3 n4 m1 m3 c0 c1 c2 c3 c4 c5
          go_wp2_with (go_at_call 74; refine (HST.out _).mono ?_; rintro r w3 ⟨rfl, hb3⟩; have HB3 := Lib.hid (HB2.out.trans (hb3.mono (by have := HS2.out; omega))); obtain ⟨⟨q0, q1, q2, q3, q4⟩, t1, t3⟩ := (KY.out _ hb3).1; clear hb3)
          go_ret2
          exact ⟨by rw [HG.out]; rfl, HB0.out.trans (HB3.out.mono HB0.out.size)⟩
        | true =>
          have HG := Lib.hid (show valR o obj P Y q = if (addrS o obj P Y s).2 = false then (tombN, 0) else (add64 (addrS o obj P Y s).1 (wrapN q.add), 0) by rw [HF.out true (Lib.hid hb)]; rfl)
          have HL := Lib.hid (fun W hW => HAD.out W hW (.inr hb))
          rw [hb] at HST
          clear HF HAD hb
          generalize addrS o obj P Y s = ad at *
          generalize s.sect = ss at *
          obtain ⟨a, ok⟩ := ad
          simp only at HG HL e6
          generalize add64 a (wrapN q.add) = tot at *
          generalize wrapN q.add = wn at *
          go_enter Try.func45, Try.ntmps45
          go_upto_region 1 with fail
          try rw [hw1]
          try rw [hw0]
          clear hw1 hw0
          go_upto_region 4 with fail
          try rw [hw2]
          clear hw2 n0 n1 n2 n3 n4 m1 m3 c0 c1 c2 c3 c4 c5
          cases ok
          all_goals
            go_wp2_with (first
              | (go_at_call 74; refine (HST.out _).mono ?_; rintro r w3 ⟨rfl, hb3⟩; have HB3 := Lib.hid hb3; obtain ⟨⟨⟨q0, q1, q2, q3, q4⟩, t1, t3⟩, z0, z1, z2, z3, z4, z5⟩ := KY.out _ hb3; clear hb3 p0 p1 p2 p3 p4 r1 r3 y0 y1 y2 y3 y4 y5 HST)
              | (go_at_call 75; refine (HL.out _ HB3.out).mono ?_; rintro r w4 ⟨rfl, hb4⟩; have HB4 := Lib.hid (HB3.out.trans (hb4.mono HB3.out.size)); obtain ⟨-, t1', t3'⟩ := (KY.out _ HB4.out).1; clear hb4))
            go_ret2
            exact ⟨by rw [HG.out]; rfl, HB0.out.trans ((HB2.out.trans (HB4.out.mono (by have := HS2.out; omega))).mono HB0.out.size)⟩
    · have d2 : decide ((N : Int) ≤ (k : Int)) = true := decide_eq_true (by omega)
      have HA := Lib.hid (show valR o obj P Y q = (0, 24) by unfold valR; rw [if_pos (.inr (by omega))])
      rw [hN] at n3 hw1 ⊢
      clear ho hP hY hb1 hb10 hXo hXr hXo0 hb0 KX h1 hs1 hs0 hyo hk hN HOV
      go_enter Try.func45, Try.ntmps45
      go_upto_region 1 with fail
      try rw [hw1]
      try rw [hw0]
      clear hw1 hw0
      go_wp2_with fail
      go_ret2
      exact ⟨by rw [HA.out]; rfl, HB0.out⟩

end Go.Proofs.Yteadabmlleipiaa

namespace Go.Proofs.Yteadabmlleipiaa
open Go Go.RowKit

/-! ### Copy into a row of the call's own -/
theorem take_mid {α : Type} (c m : List α) (o n : Nat) (h : o + m.length ≤ n) (hn : n ≤ c.length) : (c.take o ++ m ++ c.drop (o + m.length)).take n = (c.take n).take o ++ m ++ (c.take n).drop (o + m.length) := by
  rw [List.take_take, Nat.min_eq_left (by omega), List.drop_take, List.take_append, List.take_of_length_le (by simp; omega)]
  congr 1
  rw [show n - (c.take o ++ m).length = n - (o + m.length) by simp; omega]
section
variable {P : Program}
theorem step_copy_own {w : World} {ops : Array Oper} {o : Oper} {a : Act} {K : Act → World → Prop} {Q : Exit → Act → World → Prop} {E : Prop} (hw : Region.wanted o (yielded ops a.tmps) = true) (s x : Operand) (t : TypeId)
    (ho : o.op = .call { callee := .builtin .copy, args := #[s, x], argTypes := #[t, t] })
    (i : TypeInfo) (ht : P.underlying t = some (.slice 5)) (hi : P.info? 5 = some i) (hs : i.size = 1)
    (base g p N C dl dc : Nat) (hv : a.eval s = .slice (some ⟨g, p, none⟩) dl dc) (l : List UInt8) (hN : l.length = N) (h : Own w base (.slice (some ⟨g, 0, none⟩) N C) l) (A : Option Addr) (n c B : Nat) (m : List UInt8) (hn : m.length = n) (hx : a.eval x = .slice A n c) (hr : Rd w B A m)
    (hm : 0 < m.length) (hd : m.length ≤ dl) (hf : p + m.length ≤ l.length)
    (hk : ∀ w', Own w' base (.slice (some ⟨g, 0, none⟩) N C) (putAt l p m) → w.grownBy w' (some g) → K (a.put o.dst (goInt m.length)) w') :
    if Region.wanted o (yielded ops a.tmps) = true then Oper.wp P o a w K Q else E := by
  subst hn
  subst hN
  rw [if_pos hw]
  obtain ⟨b, q, rfl, _, hc⟩ := hr hm
  rcases h.2 with ⟨h0, _⟩ | ⟨g', cap, cur, he, hb, hg, hcl, hmx, hsz, htk⟩
  · cases h0
  · injection he with e1 e2 e3
    injection e1 with e1
    injection e1 with e1
    subst e1
    subst e3
    rw [Nat.mul_one] at hsz htk
    have hcur : l.length ≤ cur.toList.length := by simpa [hsz] using hcl
    have hrun := run_copy_row (P := P) w t t o.type 5 g p dl dc ⟨b, q, none⟩ m.length c cur 5 (u8s m) ht (by rw [hi]; simp [hs]) hg (by rw [u8s_length]; exact (Nat.min_eq_left hd).symm)
      (fun j v hv => by
        rw [u8s_get] at hv
        rcases hj : m[j]? with _ | x
        · rw [hj] at hv; cases hv
        · rw [hj] at hv
          rw [addr_add, hc j x hj]
          simpa using hv) (by rw [u8s_length]; have : l.length ≤ cur.size := by simpa [hsz] using hcl
                              omega) (u8s_one m)
    rw [u8s_length] at hrun
    have hbox := setRow_heap w g _ (cur.toList.take p ++ u8s m ++ cur.toList.drop (p + m.length)).toArray 5 _ hg
    have hown : Own (w.setRow g (cur.toList.take p ++ u8s m ++ cur.toList.drop (p + m.length)).toArray) base (.slice (some ⟨g, 0, none⟩) l.length C) (putAt l p m) := by
      refine ⟨by rw [u8s_length, putAt_length l p m hf]; simp, .inr ⟨g, C, _, by rw [putAt_length l p m hf], hb, hbox, by rw [putAt_length l p m hf]; exact hcl, hmx, ?_, ?_⟩⟩
      · have hpl : p + m.length ≤ cur.size := by have : l.length ≤ cur.size := by simpa [hsz] using hcl
                                                 omega
        simp only [List.size_toArray, List.length_append, List.length_take, List.length_drop, u8s_length, Array.length_toList]
        omega
      · rw [putAt_length l p m hf, Nat.mul_one, u8s_putAt, ← htk]
        have := take_mid cur.toList (u8s m) p l.length (by rw [u8s_length]; exact hf) hcur
        rw [u8s_length] at this
        exact this
    unfold Oper.wp execOp
    simp only [ho, resolve, invoke, builtin, Sem.run_bind, Sem.run_pure, Result.andThen_ok, List.map_toArray, List.map_cons, List.map_nil, hv, hx, hrun]
    exact hk _ hown (grown_setRow w g _)
end

/-! ### Relocations applied -/
def fitsB (v n : Nat) : Bool := decide (n = 8) || (decide (v ≤ 4294967295) || decide (v = tombN))
section
variable (o : ObjV) (obj : Int) (P : List Place) (Y : List Named)
/-- Why a relocation is not applied, among so many bytes. -/
def errR (n : Nat) (r : Rel) : Int :=
  if sizR o.machine r.kind = 0 ∨ n < r.off + sizR o.machine r.kind then 24
  else if (valR o obj P Y r).2 ≠ 0 then (valR o obj P Y r).2
  else if fitsB (valR o obj P Y r).1 (sizR o.machine r.kind) = true then 0 else 24
def patchR (l : List UInt8) (r : Rel) : List UInt8 := putAt l r.off (leBytes (valR o obj P Y r).1 (sizR o.machine r.kind))
def errL (n : Nat) : List Rel → Int
  | [] => 0
  | r :: R => if errR o obj P Y n r ≠ 0 then errR o obj P Y n r else errL n R
def appL (l : List UInt8) (R : List Rel) : List UInt8 := R.foldl (patchR o obj P Y) l
end
section
variable {o : ObjV} {obj : Int} {P : List Place} {Y : List Named} {n : Nat} {R : List Rel} {r : Rel} {k : Nat}
theorem errL_next (hr : R[k]? = some r) (h : errL o obj P Y n (R.take k) = 0) : errL o obj P Y n (R.take (k + 1)) = errR o obj P Y n r := by
  induction R generalizing k with
  | nil => cases hr
  | cons x R ih =>
    cases k with
    | zero =>
      simp at hr
      subst hr
      simp only [List.take_succ_cons, List.take_zero, errL]
      split
      · rfl
      · rename_i h; simp at h; exact h.symm
    | succ k =>
      simp only [List.take_succ_cons, errL] at h ⊢
      split at h
      · rename_i hx; exact absurd h hx
      · rename_i hx
        rw [if_neg hx]
        exact ih (by simpa using hr) h
theorem errL_stays {e : Int} (he : e ≠ 0) (h : errL o obj P Y n (R.take k) = e) : errL o obj P Y n R = e := by
  induction R generalizing k with
  | nil => simpa [errL] using h
  | cons x R ih =>
    cases k with
    | zero => exact absurd h.symm he
    | succ k =>
      simp only [List.take_succ_cons, errL] at h ⊢
      split at h
      · rename_i hx; rw [if_pos hx]; exact h
      · rename_i hx; rw [if_neg hx]; exact ih h
theorem appL_next (hr : R[k]? = some r) (l : List UInt8) : appL o obj P Y l (R.take (k + 1)) = patchR o obj P Y (appL o obj P Y l (R.take k)) r := by
  rw [List.take_add_one, hr]
  simp [appL, List.foldl_append]
theorem errR_zero (h : errR o obj P Y n r = 0) : sizR o.machine r.kind ≠ 0 ∧ r.off + sizR o.machine r.kind ≤ n ∧ (valR o obj P Y r).2 = 0 ∧ fitsB (valR o obj P Y r).1 (sizR o.machine r.kind) = true := by
  unfold errR at h
  split at h
  · cases h
  · rename_i h1
    split at h
    · rename_i h2; exact absurd h h2
    · rename_i h2
      split at h
      · rename_i h3; exact ⟨fun h => h1 (.inl h), by omega, by simpa using h2, h3⟩
      · cases h
theorem errL_all (h : errL o obj P Y n R = 0) : ∀ r ∈ R, errR o obj P Y n r = 0 := by
  induction R with
  | nil => intro r hr; cases hr
  | cons x R ih =>
    simp only [errL] at h
    split at h
    · rename_i hx; exact absurd h hx
    · rename_i hx
      intro r hr
      rcases List.mem_cons.1 hr with rfl | hr
      · simpa using hx
      · exact ih h r hr
theorem errL_of_all (h : ∀ r ∈ R, errR o obj P Y n r = 0) : errL o obj P Y n R = 0 := by
  induction R with
  | nil => rfl
  | cons x R ih =>
    simp only [errL]
    rw [if_neg (by simp [h x (List.mem_cons_self)])]
    exact ih fun r hr => h r (List.mem_cons_of_mem _ hr)
theorem patchR_length {l : List UInt8} (h : errR o obj P Y l.length r = 0) : (patchR o obj P Y l r).length = l.length := by
  unfold patchR
  exact putAt_length _ _ _ (by rw [show (leBytes (valR o obj P Y r).1 (sizR o.machine r.kind)).length = sizR o.machine r.kind by simp]; exact (errR_zero h).2.1)
theorem appL_length {l : List UInt8} (h : errL o obj P Y l.length R = 0) : (appL o obj P Y l R).length = l.length := by
  induction R generalizing l with
  | nil => rfl
  | cons x R ih =>
    have hx := errL_all h x List.mem_cons_self
    have hl := patchR_length hx
    have : errL o obj P Y (patchR o obj P Y l x).length R = 0 := by rw [hl]; exact errL_of_all fun r hr => errL_all h r (List.mem_cons_of_mem _ hr)
    rw [show appL o obj P Y l (x :: R) = appL o obj P Y (patchR o obj P Y l x) R from rfl, ih this, hl]
end

end Go.Proofs.Yteadabmlleipiaa

namespace Go.Proofs.Yteadabmlleipiaa
open Go Go.RowKit

theorem row_back {α : Type} {n : Nat} {f : α → List Value} {w w' : World} {B : Nat} {a : Option Addr} {L : List α} (h : Row n f w' B a L) (hb : Below B w w') : Row n f w B a L := fun hl => by
  obtain ⟨b, o, e, hlt, hc⟩ := h hl
  refine ⟨b, o, e, hlt, fun i x hx j u hu => ?_⟩
  rw [← hb.cell (p := ⟨b, _, none⟩) hlt]
  exact hc i x hx j u hu
theorem own_lower12 {w : World} {b b' : Nat} {v : Value} {l : List UInt8} (h : Own w b v l) (hb : b' ≤ b) : Own w b' v l :=
  ⟨h.1, h.2.imp id fun ⟨g, cap, cur, a, c, d⟩ => ⟨g, cap, cur, a, Nat.le_trans hb c, d⟩⟩
theorem own_some {w : World} {base N C : Nat} {A : Option Addr} {l : List UInt8} (h : Own w base (.slice A N C) l) (hN : l.length = N) (h0 : 0 < N) : ∃ g, A = some ⟨g, 0, none⟩ := by
  rcases h.2 with ⟨_, h1⟩ | ⟨g, cap, cur, he, _⟩
  · omega
  · injection he with e1
    exact ⟨g, e1⟩

theorem put_new (W : World) (v n : Nat) (hn : n ≤ 8) : Calls Try.prog 47 #[.slice none 0 0, .int .u64 (v : Int), .int .i64 (n : Int)] W fun r w' => ∃ v', r = .returned v' ∧ Own w' W.heap.size v' (leBytes v n) ∧ Below W.heap.size W w' := by
  have hc : clampOf (n : Int) = n := by unfold clampOf; omega
  refine (put_any (w := W) (base := W.heap.size) (v := .slice none 0 0) (l := []) (World.ownsRow_nil _ _ _ _) (Nat.le_refl _) v n (by omega) (by simp)).mono ?_
  rintro r w' ⟨v', rfl, h1, h2, h3⟩
  rw [List.nil_append, hc] at h1
  exact ⟨v', rfl, h1, (Below.refl W.heap.size W).grown h2 (Nat.le_refl _) (by simp [Value.ownBlock])⟩

set_option maxRecDepth 10000 in
set_option maxHeartbeats 3200000 in
theorem apply_in {w : World} (o : ObjV) (ho : o.Ok w w.heap.size) (hyo : o.SymOk) (hqn : ∀ q ∈ o.Q, q.l.length ≤ 100000 ∧ ∀ r ∈ q.l, r.off < two64) {g : Nat} {P : List Place} {Y : List Named} (hP : PlacesAt w (.pointer (some ⟨g, 0, none⟩)) P) (hY : SymsAt w (.pointer (some ⟨g, 0, none⟩)) Y) {obj : Int} (hobj : InI obj) (k : Nat) (x : Lay) (hx : o.L[k]? = some x) (hD : x.s.data.length ≤ 100000) :
    Calls Try.prog 12 #[o.val, .int .i64 obj, .int .i64 (k : Int), .pointer (some ⟨g, 0, none⟩)] w fun r w' => Below w.heap.size w w' ∧ ∃ v', r = .returned (.tuple #[v', .int .i64 (errL o obj P Y x.s.data.length (relsOf o k))]) ∧
      (errL o obj P Y x.s.data.length (relsOf o k) ≠ 0 → v' = .slice none 0 0) ∧ (errL o obj P Y x.s.data.length (relsOf o k) = 0 → Own w' w.heap.size v' (appL o obj P Y x.s.data (relsOf o k))) := by
  have HOV := Lib.hid (show ObjV.val o = .agg #[.int .i64 o.kind, .int .i64 o.machine, .slice o.aS o.L.length o.cS, .slice o.aY o.Y.length o.cY, .slice o.aR o.Q.length o.cR] from rfl)
  rw [HOV.out]
  generalize hw1 : w.alloc (.cells #[.int .i64 o.kind, .int .i64 o.machine, .slice o.aS o.L.length o.cS, .slice o.aY o.Y.length o.cY, .slice o.aR o.Q.length o.cR] 40) = w1 at *
  have hb1 : Below w.heap.size w w1 := hw1 ▸ (Below.refl _ _).alloc (Nat.le_refl _) _
  have hs1 : w1.heap.size = w.heap.size + 1 := by rw [← hw1]; simp
  have hXo := Box.new w 40 #[.int .i64 o.kind, .int .i64 o.machine, .slice o.aS o.L.length o.cS, .slice o.aY o.Y.length o.cY, .slice o.aR o.Q.length o.cR]
  rw [hw1] at hXo
  have HB1 := Lib.hid hb1
  have HS1 := Lib.hid hs1
  have KX := Lib.hid (fun W (hW : Below w1.heap.size w1 W) => five_cells (hXo.below hW (by omega)))
  have HV := Lib.hid (fun W (hW : Below w1.heap.size w1 W) (q : Rel) => (by
    have hWW := hb1.trans (hW.mono (by omega))
    have := value_any o ((ho.below hWW).more hWW.size) hyo (hP.below hWW) (hY.below hWW) hobj q
    rw [HOV.out] at this
    exact this : Calls Try.prog 45 #[.agg #[.int .i64 o.kind, .int .i64 o.machine, .slice o.aS o.L.length o.cS, .slice o.aY o.Y.length o.cY, .slice o.aR o.Q.length o.cR], .int .i64 obj, q.val, .pointer (some ⟨g, 0, none⟩)] W fun r w' => r = .returned (.tuple #[.int .u64 ((valR o obj P Y q).1 : Int), .int .i64 (valR o obj P Y q).2]) ∧ Below W.heap.size W w'))
  have HR := Lib.hid (fun W (hW : Below w1.heap.size w1 W) => (by
    have hWW := hb1.trans (hW.mono (by omega))
    have := relas_any o (ho.lists.below hWW) hWW.size k
    rw [HOV.out] at this
    exact this : Calls Try.prog 42 #[.agg #[.int .i64 o.kind, .int .i64 o.machine, .slice o.aS o.L.length o.cS, .slice o.aY o.Y.length o.cY, .slice o.aR o.Q.length o.cR], .int .i64 (k : Int)] W fun r w' => (∃ a c, r = .returned (.slice a (relsOf o k).length c) ∧ Rels W w.heap.size a (relsOf o k)) ∧ Below W.heap.size W w'))
  obtain ⟨b2, o2, hbs, hb2, m0, m1, m2, m3, m4, m5, m6, m7, m8⟩ := ho.secs.at_ hx
  have hkl : k < o.L.length := (List.getElem?_eq_some_iff.1 hx).1
  have hm4 : w1.cell? ⟨b2, o2 + k * 9 + 4, none⟩ = some (.slice x.A x.s.data.length x.c) := by rw [hb1.cell (p := ⟨b2, _, none⟩) hb2]; exact m4
  have hCL := Lib.hid (bclone_any (w := w1) (((ho.secs.ok x (List.mem_of_getElem? hx)).rd).below hb1) hb1.size x.c (by omega))
  obtain ⟨n0, n1, n2, n3, n4⟩ := KX.out _ (Below.refl _ _)
  have hRn : (relsOf o k).length ≤ 100000 ∧ ∀ r ∈ relsOf o k, r.off < two64 := by
    unfold relsOf
    cases hq : o.Q[k]? with
    | none => exact ⟨Nat.zero_le _, fun r hr => by cases hr⟩
    | some q => exact hqn q (List.mem_of_getElem? hq)
  have d1 : decide ((k : Int) < 0) = false := decide_eq_false (by omega)
  have d2 : decide ((o.L.length : Int) ≤ (k : Int)) = false := decide_eq_false (by omega)
  rw [hbs] at n2 hw1 KX HV HR ⊢
  obtain ⟨hR100, hRoff⟩ := hRn
  have HRO := Lib.hid hRoff
  have hdl : x.s.data.length ≤ 100000 := hD
  obtain ⟨R, hRR⟩ : ∃ R, relsOf o k = R := ⟨_, rfl⟩
  obtain ⟨M, hM⟩ : ∃ M, R.length = M := ⟨_, rfl⟩
  obtain ⟨D, hDD⟩ : ∃ D, x.s.data = D := ⟨_, rfl⟩
  obtain ⟨N, hN⟩ : ∃ N, D.length = N := ⟨_, rfl⟩
  rw [hRR] at HR hR100 HRO ⊢
  rw [hDD] at hm4 hCL hdl ⊢
  rw [hN] at hm4 hCL hdl ⊢
  rw [hM] at HR hR100
  have HN := Lib.hid hN
  have HM := Lib.hid hM
  obtain ⟨nL, hnL⟩ : ∃ nL, o.L.length = nL := ⟨_, rfl⟩
  rw [hnL] at n2 hw1 KX HV HR d2 hkl ⊢
  have HML := Lib.hid (fun (m q : Int) W => size12_any m q W)
  clear ho hyo hqn hP hY hobj hx hD hb1 hs1 hXo hbs hb2 m0 m1 m2 m3 m4 m5 m6 m7 m8 hRR hRoff hDD hN hM hnL HOV
  go_enter Try.func12, Try.ntmps12
  go_upto_region 1 with fail
  try rw [hw1]
  clear hw1
  go_upto_region 6 with (go_at_call 41; refine hCL.out.mono ?_; rintro r w2 ⟨v2, rfl, hown2, hb2⟩; have HO2 := Lib.hid hown2; have HB2 := Lib.hid hb2; obtain ⟨p0, p1, p2, p3, p4⟩ := KX.out _ hb2; clear hb2 hown2)
  go_upto_region 7 with (go_at_call 42; refine (HR.out _ HB2.out).mono ?_; rintro r w3 ⟨⟨a3, c3, rfl, hR3⟩, hb3⟩; have HB3 := Lib.hid (HB2.out.trans (hb3.mono HB2.out.size)); have HR3 := Lib.hid (row_back hR3 (HB2.out.mono (by have := HS1.out; omega))); have HO3 := Lib.hid (own_below HO2.out hb3); clear hb3 hR3)
  clear HB2 HO2 n0 n1 n2 n3 n4 p0 p1 p2 p3 p4 hm4 hCL HR d1 d2
  obtain ⟨A, C, rfl, hC1, hC2, -⟩ := own_slice HO3.out
  rw [HN.out] at HO3 hC1 ⊢
  have HE0 := Lib.hid (show appL o obj P Y D (R.take 0) = D from rfl)
  go_loopg [38] M (fun gk i wr => ∃ j : Nat, j ≤ M ∧ gk = M - j ∧ i = .int .i64 j ∧ Hid (Below w1.heap.size w1 wr) ∧ Hid (errL o obj P Y N (R.take j) = 0) ∧ Hid (Own wr w1.heap.size (.slice A N C) (appL o obj P Y D (R.take j))))
  case atStart => exact ⟨0, Nat.zero_le _, rfl, rfl, HB3, Lib.hid rfl, Lib.hid (by rw [HE0.out]; exact HO3.out)⟩
  case round =>
    obtain ⟨j, hj, rfl, rfl, HB, HE, HO⟩ := hrel
    clear HE0 HO3 HB3
    by_cases hlt : j < M
    · obtain ⟨q, hq⟩ : ∃ q, R[j]? = some q := ⟨_, List.getElem?_eq_getElem (by rw [HM.out]; exact hlt)⟩
      obtain ⟨b, oo, rfl, hb, c0, c1, c2, c3⟩ := rel_at (Row.below HR3.out (HB.out.mono (by have := HS1.out; omega))) hq
      have HQ := Lib.hid hq
      have hoff : q.off < two64 := HRO.out q (List.mem_of_getElem? hq)
      have HX := Lib.hid (fun (e : Int) (h : errR o obj P Y N q = e) (h0 : e ≠ 0) => errL_stays (n := N) (R := R) (k := j + 1) h0 (by rw [errL_next HQ.out HE.out]; exact h))
      have HZ := Lib.hid (fun (h : errR o obj P Y N q = 0) => (by rw [errL_next HQ.out HE.out]; exact h : errL o obj P Y N (R.take (j + 1)) = 0))
      have HPN := Lib.hid (show appL o obj P Y D (R.take (j + 1)) = putAt (appL o obj P Y D (R.take j)) q.off (leBytes (valR o obj P Y q).1 (sizR o.machine q.kind)) by rw [appL_next HQ.out]; rfl)
      have HLN := Lib.hid (show (appL o obj P Y D (R.take j)).length = N by
        have := appL_length (l := D) (by rw [HN.out]; exact HE.out)
        rw [HN.out] at this
        exact this)
      have HER := Lib.hid (show errR o obj P Y N q = if sizR o.machine q.kind = 0 ∨ N < q.off + sizR o.machine q.kind then 24 else if (valR o obj P Y q).2 ≠ 0 then (valR o obj P Y q).2 else if fitsB (valR o obj P Y q).1 (sizR o.machine q.kind) = true then 0 else 24 from rfl)
      have HSZ := Lib.hid (fun W => HML.out o.machine q.kind W)
      have HVQ := Lib.hid (fun W hW => HV.out W hW q)
      have hsz := sizR_is o.machine q.kind
      unfold Rel.val at HVQ
      generalize hw4 : wr.alloc (.cells #[.int .u64 (q.off : Int), .int .i64 q.sym, .int .i64 q.kind, .int .i64 q.add] 51) = w4 at *
      have hb4 : Below wr.heap.size wr w4 := hw4 ▸ (Below.refl _ _).alloc (Nat.le_refl _) _
      have hXq := Box.new wr 51 #[.int .u64 (q.off : Int), .int .i64 q.sym, .int .i64 q.kind, .int .i64 q.add]
      rw [hw4] at hXq
      have HB4 := Lib.hid (HB.out.trans (hb4.mono HB.out.size))
      have HO4 := Lib.hid (own_below HO.out hb4)
      have KQ := Lib.hid (fun W (hW : Below w4.heap.size w4 W) => four_cells (hXq.below hW hXq.lt))
      obtain ⟨q0, q1, q2, q3⟩ := KQ.out _ (Below.refl _ _)
      have n1 := (KX.out _ HB4.out).2.1
      have HXL := Lib.hid hXq.lt
      clear hb4 hXq hb HQ HE HML HV hq
      generalize sizR o.machine q.kind = sz at *
      generalize valR o obj P Y q = vr at *
      obtain ⟨vv, ve⟩ := vr
      simp only at HER HPN HVQ
      have e1 : ((sz : Int) == 0) = decide (sz = 0) := by rw [Bool.eq_iff_iff]; simp
      have e2 : IntKind.u64.wrap (sz : Int) = (sz : Int) := by rw [IntKind.wrap_u64]; omega
      have e3 : IntKind.u64.wrap (N : Int) = (N : Int) := by rw [IntKind.wrap_u64]; omega
      have HW := Lib.hid (fun W => within_any q.off sz N W hoff (by unfold two64; omega))
      have HWI := Lib.hid (show withinOf q.off sz N = decide (q.off + sz ≤ N) from within_iff _ _ _ (by unfold two64; omega))
      generalize withinOf q.off sz N = wi at *
      by_cases hz : sz = 0
      · have e4 : decide (sz = 0) = true := decide_eq_true hz
        have HF := Lib.hid (HX.out 24 (by rw [HER.out, if_pos (.inl hz)]) (by decide))
        clear HX HZ HPN HER hz hsz HW HWI HVQ
        go_upto_region 9 with fail
        try rw [hw4]
        clear hw4 c0 c1 c2 c3
        go_wp2_with (go_at_call 43; refine (HSZ.out _).mono ?_; rintro r w5 ⟨rfl, rfl⟩)
        go_ret2
        exact ⟨HB1.out.trans (HB4.out.mono (by have := HS1.out; omega)), .slice none 0 0, by rw [HF.out]; rfl, fun _ => rfl, fun h => (by rw [HF.out] at h; cases h)⟩
      · have e4 : decide (sz = 0) = false := decide_eq_false hz
        obtain ⟨n0, -, n2, n3, n4⟩ := KX.out _ HB4.out
        cases wi with
        | false =>
          have HF := Lib.hid (HX.out 24 (by rw [HER.out, if_pos (.inr (by have := HWI.out; have := of_decide_eq_false this.symm; omega))]) (by decide))
          clear HX HZ HPN HER hz hsz HVQ HWI
          go_upto_region 9 with fail
          try rw [hw4]
          clear hw4 c0 c1 c2 c3
          go_wp2_with (first
            | (go_at_call 43; refine (HSZ.out _).mono ?_; rintro r w5 ⟨rfl, rfl⟩)
            | (go_at_call 44; refine (HW.out _).mono ?_; rintro r w5 ⟨rfl, rfl⟩))
          go_ret2
          exact ⟨HB1.out.trans (HB4.out.mono (by have := HS1.out; omega)), .slice none 0 0, by rw [HF.out]; rfl, fun _ => rfl, fun h => (by rw [HF.out] at h; cases h)⟩
        | true =>
          have hwi : q.off + sz ≤ N := of_decide_eq_true HWI.out.symm
          have HE2 := Lib.hid (show errR o obj P Y N q = if ve ≠ 0 then ve else if fitsB vv sz = true then 0 else 24 by rw [HER.out, if_neg (by omega)])
          clear HER HWI
          by_cases hve : ve = 0
          · subst hve
            have HFI := Lib.hid (fun W => show Calls Try.prog 46 #[.int .u64 (vv : Int), .int .i64 (sz : Int)] W fun r w' => r = .returned (.bool (fitsB vv sz)) ∧ w' = W from fits_any (w := W) vv sz)
            have HE3 := Lib.hid (show errR o obj P Y N q = if fitsB vv sz = true then 0 else 24 by rw [HE2.out, if_neg (by simp)])
            clear HE2
            generalize fitsB vv sz = fb at *
            cases fb with
            | false =>
              have HF := Lib.hid (HX.out 24 (by rw [HE3.out]; rfl) (by decide))
              clear HX HZ HPN HE3 hz hsz hwi
              go_upto_region 9 with fail
              try rw [hw4]
              clear hw4 c0 c1 c2 c3
              go_wp2_with (first
                | (go_at_call 43; refine (HSZ.out _).mono ?_; rintro r w5 ⟨rfl, rfl⟩)
                | (go_at_call 44; refine (HW.out _).mono ?_; rintro r w5 ⟨rfl, rfl⟩)
                | (go_at_call 45; refine (HVQ.out _ HB4.out).mono ?_; rintro r w6 ⟨rfl, hb6⟩; have HB6 := Lib.hid (HB4.out.trans (hb6.mono HB4.out.size)); have HO6 := Lib.hid (own_below HO4.out hb6); have t0 := (KQ.out _ hb6).1; have KQ6 := Lib.hid hb6; clear hb6)
                | (go_at_call 46; refine (HFI.out _).mono ?_; rintro r w7 ⟨rfl, rfl⟩))
              go_ret2
              exact ⟨HB1.out.trans (HB6.out.mono (by have := HS1.out; omega)), .slice none 0 0, by rw [HF.out]; rfl, fun _ => rfl, fun h => (by rw [HF.out] at h; cases h)⟩
            | true =>
              have HE4 := Lib.hid (HZ.out (by rw [HE3.out]; rfl))
              clear HX HZ HE3
              go_upto_region 9 with fail
              try rw [hw4]
              clear hw4 c0 c1 c2 c3
              go_upto_region 17 with (first
                | (go_at_call 43; refine (HSZ.out _).mono ?_; rintro r w5 ⟨rfl, rfl⟩)
                | (go_at_call 44; refine (HW.out _).mono ?_; rintro r w5 ⟨rfl, rfl⟩)
                | (go_at_call 45; refine (HVQ.out _ HB4.out).mono ?_; rintro r w6 ⟨rfl, hb6⟩; have HB6 := Lib.hid (HB4.out.trans (hb6.mono HB4.out.size)); have HO6 := Lib.hid (own_below HO4.out hb6); have t0 := (KQ.out _ hb6).1; have KQ6 := Lib.hid hb6; clear hb6)
                | (go_at_call 46; refine (HFI.out _).mono ?_; rintro r w7 ⟨rfl, rfl⟩))
              obtain ⟨gA, rfl⟩ := own_some HO6.out HLN.out (by omega)
              have hgA := own_ge HO6.out gA rfl
              have HNE := Lib.hid (show some wr.heap.size ≠ some gA by intro e; injection e with e; have := (own_ge HO.out gA rfl).2; omega)
              have HPT := Lib.hid (fun W => put_new W vv sz (by omega))
              have hoN : q.off ≤ N := by omega
              have hoC : q.off ≤ C := by omega
              have hsl : (leBytes vv sz).length = sz := by simp
              obtain ⟨i0, hi, hz0, hz1, hz2⟩ := info_parts u8_info
              have HO6D := Lib.hid (show Own w7.drew w1.heap.size (.slice (some ⟨gA, 0, none⟩) N C) (appL o obj P Y D (List.take j R)) from HO6.out)
              have HB6D := Lib.hid HB6.out.drew
              have KQ6D := Lib.hid KQ6.out.drew
              go_region_held_law (fun X => X.cell? ⟨wr.heap.size, 0, none⟩ = some (.int .u64 (q.off : Int))) ((first | exact t0 | exact t8 | exact t9)) (first
                | (go_at_call 47; refine (HPT.out _).mono ?_; rintro r w8 ⟨v8, rfl, hown8, hb8⟩; have HO8 := Lib.hid (own_below HO6D.out hb8); have HB8 := Lib.hid (HB6D.out.trans (hb8.mono HB6D.out.size)); have t8 := (KQ.out _ (KQ6D.out.trans (hb8.mono KQ6D.out.size))).1; (obtain ⟨A8, c8, rfl, _, _, hrd8⟩ := own_slice hown8); have HS8 := Lib.hid (show wr.heap.size < w8.heap.size by have := HXL.out; have := KQ6D.out.size; have := hb8.size; omega); clear hown8 hb8 HPT)
                | (refine step_copy_own (by rfl) (.tmp 78) (.tmp 81) _ (by rfl) i0 Try.underlying41 hi hz1 w1.heap.size gA q.off N C (N - q.off) (C - q.off) (by rfl) (appL o obj P Y D (List.take j R)) HLN.out HO8.out A8 sz c8 _ (leBytes vv sz) hsl (by rfl) hrd8 (by omega) (by omega) (by rw [HLN.out]; omega) ?_; intro w9 hown9 hg9; have HO9 := Lib.hid hown9; have HB9 := Lib.hid (HB8.out.grown hg9 HB8.out.size (fun x e => by injection e with e; rw [← e]; exact hgA.1)); have t9 : w9.cell? ⟨wr.heap.size, 0, none⟩ = some (.int .u64 (q.off : Int)) := ((World.cell?_of_block (hg9.block wr.heap.size HS8.out (by first | exact HNE.out | exact HNE.out.symm))).trans t8); clear hown9 hg9))
              clear n0 n1 n2 n3 n4 q0 q1 q2 q3 t0 t8 t9 HO4 HB6 HO6 KQ6 HO6D HB6D KQ6D HO8 HB8 HS8 HNE hrd8
              have HT := Lib.hid hlt
              go_wp2_with fail
              go_roundg (M - (j + 1))
              case measure => have := HT.out; omega
              case rel => exact ⟨j + 1, HT.out, rfl, by go_num, HB9, HE4, Lib.hid (by rw [HPN.out]; exact HO9.out)⟩
          · have e5 : (ve != 0) = true := by simp [hve]
            have HF := Lib.hid (HX.out ve (by rw [HE2.out, if_pos hve]) hve)
            clear HX HZ HPN HE2 hz hsz hwi
            go_upto_region 9 with fail
            try rw [hw4]
            clear hw4 c0 c1 c2 c3
            go_wp2_with (first
              | (go_at_call 43; refine (HSZ.out _).mono ?_; rintro r w5 ⟨rfl, rfl⟩)
              | (go_at_call 44; refine (HW.out _).mono ?_; rintro r w5 ⟨rfl, rfl⟩)
              | (go_at_call 45; refine (HVQ.out _ HB4.out).mono ?_; rintro r w6 ⟨rfl, hb6⟩; have HB6 := Lib.hid (HB4.out.trans (hb6.mono HB4.out.size)); have HO6 := Lib.hid (own_below HO4.out hb6); have t0 := (KQ.out _ hb6).1; have KQ6 := Lib.hid hb6; clear hb6))
            go_ret2
            exact ⟨HB1.out.trans (HB6.out.mono (by have := HS1.out; omega)), .slice none 0 0, by rw [HF.out]; rfl, fun _ => rfl, fun h => absurd (HF.out.symm.trans h) hve⟩
    · have hjM : j = M := by omega
      have HE2 := Lib.hid (show errL o obj P Y N R = 0 by have := HE.out; rw [hjM, ← HM.out, List.take_length] at this; exact this)
      have HO2 := Lib.hid (show Own wr w1.heap.size (.slice A N C) (appL o obj P Y D R) by have := HO.out; rw [hjM, ← HM.out, List.take_length] at this; exact this)
      clear hjM HE HO
      go_wp2_with fail
      go_ret2
      exact ⟨HB1.out.trans (HB.out.mono (by have := HS1.out; omega)), .slice A N C, by rw [HE2.out]; rfl, fun h => absurd HE2.out h, fun _ => own_lower12 HO2.out (by have := HS1.out; omega)⟩

end Go.Proofs.Yteadabmlleipiaa

namespace Go.Proofs.Yteadabmlleipiaa
open Go Go.RowKit

/-- What New tells, by its value and its refusal. -/
def NewIs (w' : World) (B : Nat) (O : List ObjV) (P : List Place) (Y : List Named) (v : Value) (e : Int) : Prop :=
  (v = .pointer none ∧ (e = 30 ∨ e = 31)) ∨ (e = 0 ∧ ∃ g, v = .pointer (some ⟨g, 0, none⟩) ∧ LinkG w' B g O P Y ∧ refM O [] P Y = false)
theorem newis_any {w : World} {aP aY aO : Option Addr} {cP cY cO : Nat} {P : List Place} {Y : List Named} {O : List ObjV} (hP : Row 3 Place.cells w w.heap.size aP P) (hY : Row 2 Named.cells w w.heap.size aY Y) (hpn : ∀ p ∈ P, p.Nums) (hyn : ∀ y ∈ Y, y.Nums) (hyl : ∀ y ∈ Y, y.name.length ≤ 300)
    (hO : Objs w w.heap.size aO O) (hs : ∀ ob ∈ O, ob.Small) :
    Calls Try.prog 11 #[.agg #[.slice aP P.length cP, .slice aY Y.length cY], .slice aO O.length cO, .slice none 0 0] w fun r w' => ∃ v e, r = .returned (.tuple #[v, .int .i64 e]) ∧ Below w.heap.size w w' ∧ NewIs w' w.heap.size O P Y v e := by
  refine (lnew_any (cQ := 0) (Q := []) (aQ := none) hP hY hpn hyn (fun y hy => Nat.le_trans (hyl y hy) (by decide)) hO ⟨fun h => absurd h (by decide), fun q hq => by cases hq⟩ (fun ob hob => Nat.le_trans (hs ob hob).S (by decide)) (fun ob hob x hx => ⟨Nat.le_trans ((hs ob hob).s x hx).1 (by decide), ((hO.ok ob hob).secs.ok x hx).fits.flags⟩)).mono ?_
  rintro r w' ⟨hb, h1, h2⟩
  cases h : refM O [] P Y with
  | true => exact ⟨_, _, h1 h, hb, .inl ⟨rfl, .inl rfl⟩⟩
  | false =>
    by_cases ha : ApartI (imgsP O P)
    · obtain ⟨g, hr, hL⟩ := (h2 h).2 ha
      exact ⟨_, _, hr, hb, .inr ⟨rfl, g, rfl, hL, h⟩⟩
    · exact ⟨_, _, (h2 h).1 ha, hb, .inl ⟨rfl, .inr rfl⟩⟩

end Go.Proofs.Yteadabmlleipiaa
