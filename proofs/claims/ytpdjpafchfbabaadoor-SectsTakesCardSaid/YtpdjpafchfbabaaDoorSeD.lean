/-
  Package sects: whether sections may be: Right.
-/

import Derived.Test.YtpdjpafchfbabaaDoorSeC
namespace Go.Proofs.YtpdjpafchfbabaaDoor
open Go Go.RowKit

/-- The name of the section of the names. -/
def shstrN : List UInt8 := [46, 115, 104, 115, 116, 114, 116, 97, 98]
/-- The same section? -/
def sameS (x y : Sect) : Bool :=
  decide (x.name = y.name) && (decide (x.kind = y.kind) && (decide (x.flags = y.flags) && (decide (x.addr = y.addr) && (decide (x.data = y.data) && (decide (x.link = y.link) && (decide (x.inf = y.inf) && (decide (x.algn = y.algn) && decide (x.ent = y.ent))))))))
theorem sameS_refl (x : Sect) : sameS x x = true := by simp [sameS]

/-- Whether sections may be. -/
def rightS (l : List Sect) : Bool :=
  decide (2 ≤ l.length ∧ l.length ≤ 64) && ((l[0]?).any (fun s => sameS s zeroS) && ((l[l.length - 1]?).any (fun s => decide (s.kind = 3)) && (decide (findS l shstrN = ((l.length - 1 : Nat) : Int)) && okAll (l.drop 1))))

theorem wrapN_zero {k : Int} (h : InI k) : wrapN k = 0 ↔ k = 0 := by
  unfold wrapN InI at *
  rw [IntKind.wrap_u64]
  omega

theorem entNs_zero (s : Sect) (hf : s.Fits) : (entNs s 0 0 = List.replicate 10 0) ↔ (s.kind = 0 ∧ s.flags = 0 ∧ s.addr = 0 ∧ s.data = [] ∧ s.link = 0 ∧ s.inf = 0 ∧ s.algn = 0 ∧ s.ent = 0) := by
  have h1 := wrapN_zero hf.kind
  have h2 := wrapN_zero hf.link
  have h3 := wrapN_zero hf.inf
  have h4 := wrapN_zero hf.algn
  have h5 := wrapN_zero hf.ent
  simp only [entNs, List.replicate, List.cons.injEq, true_and, and_true, h1, h2, h3, h4, h5, List.length_eq_zero_iff]

theorem zero_first (s : Sect) (hf : s.Fits) : sameS s zeroS = (decide (s.name = []) && decide (entNs s 0 0 = List.replicate 10 0)) := by
  have h := entNs_zero s hf
  rw [Bool.eq_iff_iff]
  simp only [sameS, Bool.and_eq_true, decide_eq_true_eq]
  show (s.name = [] ∧ s.kind = 0 ∧ s.flags = 0 ∧ s.addr = 0 ∧ s.data = [] ∧ s.link = 0 ∧ s.inf = 0 ∧ s.algn = 0 ∧ s.ent = 0) ↔ _
  rw [h]

theorem run_part (xs : List Nat) (k x : Nat) (hx : xs[k]? = some x) (W : World) : (part 24 (entCs xs).toArray k).run Tryd.prog W = .ok (.int .u64 (x : Int)) W := by
  have h : (entCs xs).toArray[k]? = some (.int .u64 (x : Int)) := by simp [entCs, hx]
  simp only [part, Sem.run_bind, isAgg, run_underlying Tryd.underlying24, Result.andThen_ok, Sem.run_pure]
  simp [h]

theorem eqFields_nums (W : World) (d : Nat) (xs ys : List Nat) (hxy : ys.length = xs.length) : ∀ (fs : List Field) (k : Nat), (∀ (i : Nat) (f : Field), fs[i]? = some f → f.type = 24 ∧ f.offset = k + i ∧ f.name ≠ "_") → k + fs.length = xs.length →
    (Op.eqFields (d + 1) (entCs xs).toArray (entCs ys).toArray fs).run Tryd.prog W = .ok (xs.drop k == ys.drop k) W := by
  intro fs
  induction fs with
  | nil =>
    intro k _ hk
    have h1 : xs.drop k = [] := List.drop_eq_nil_of_le (by simp at hk; omega)
    have h2 : ys.drop k = [] := List.drop_eq_nil_of_le (by simp at hk; omega)
    rw [h1, h2]
    rfl
  | cons f fs ih =>
    intro k hf hk
    simp only [List.length_cons] at hk
    obtain ⟨h1, h2, h3⟩ := hf 0 f rfl
    have hx : xs[k]? = some (xs[k]'(by omega)) := List.getElem?_eq_getElem _
    have hy : ys[k]? = some (ys[k]'(by omega)) := List.getElem?_eq_getElem _
    have e1 := run_part xs k _ hx W
    have e2 := run_part ys k _ hy W
    have e3 := run_equalIn_int (P := Tryd.prog) W d 24 .u64 .u64 (xs[k]'(by omega) : Int) (ys[k]'(by omega) : Int) Tryd.underlying24
    have e4 := ih (k + 1) (fun i g hg => by
      obtain ⟨g1, g2, g3⟩ := hf (i + 1) g (by simpa using hg)
      exact ⟨g1, by omega, g3⟩) (by omega)
    have d1 : xs.drop k = xs[k]'(by omega) :: xs.drop (k + 1) := List.drop_eq_getElem_cons (by omega)
    have d2 : ys.drop k = ys[k]'(by omega) :: ys.drop (k + 1) := List.drop_eq_getElem_cons (by omega)
    simp only [Op.eqFields, if_pos h3, h1, h2, Nat.add_zero, Sem.run_bind, e1, e2, e3, Result.andThen_ok]
    rw [d1, d2]
    clear e1 e2 e3 d1 d2 hx hy
    generalize xs.drop (k + 1) = u at *
    generalize ys.drop (k + 1) = v at *
    generalize xs[k]'(by omega) = p
    generalize ys[k]'(by omega) = q
    by_cases he : p = q
    · subst he
      simp [e4]
    · have he' : ((p : Int) == (q : Int)) = false := by
        simp only [beq_eq_false_iff_ne, ne_eq]
        omega
      rw [he']
      simp [he]

theorem eqFields_entry (xs ys : List Nat) (hx : xs.length = 10) (hy : ys.length = 10) (W : World) (d : Nat) :
    (Op.eqFields (d + 1) (entCs xs).toArray (entCs ys).toArray (Tryd.prog.fieldsOf 68).toList).run Tryd.prog W = .ok (xs == ys) W := by
  have h := eqFields_nums W d xs ys (by omega) (Tryd.prog.fieldsOf 68).toList 0
  simp only [Program.fieldsOf, Tryd.underlying68] at h ⊢
  refine h (fun i f hf => ?_) (by simp [hx])
  have hi := (List.getElem?_eq_some_iff.1 hf).1
  simp only [List.length_cons, List.length_nil] at hi
  match i, hi with
  | 0, _ | 1, _ | 2, _ | 3, _ | 4, _ | 5, _ | 6, _ | 7, _ | 8, _ | 9, _ =>
    injection hf with hf
    subst hf
    exact ⟨rfl, rfl, by decide⟩

set_option maxRecDepth 10000 in
theorem neq_entry (xs ys : List Nat) (hx : xs.length = 10) (hy : ys.length = 10) (W : World) : (binOp .neq 68 (entV xs) (entV ys)).run Tryd.prog W = .ok (.bool (!(xs == ys))) W := by
  unfold entV
  rw [run_neq_struct, run_equalIn_agg W 9999 _ _ _ (by kernel_rfl) (by kernel_rfl), eqFields_entry xs ys hx hy W 9998]
  rfl

theorem rightS_len {l : List Sect} (h : ¬ (2 ≤ l.length ∧ l.length ≤ 64)) : rightS l = false := by unfold rightS; rw [decide_eq_false h, Bool.false_and]

set_option maxRecDepth 10000 in
set_option maxHeartbeats 3200000 in
theorem sright_any {w : World} {a : Option Addr} {L : List Lay} (h : Secs w w.heap.size a L) (c : Nat) (hlc : L.length ≤ c) (hl : L.length ≤ 100000) :
    Calls Tryd.prog 13 #[.slice a L.length c] w fun r w' => r = .returned (.bool (rightS (secsOf L))) ∧ Below w.heap.size w w' := by
  have hlen : (secsOf L).length = L.length := by simp
  by_cases h2 : L.length < 2
  · have HF := Lib.hid (show rightS (secsOf L) = false from rightS_len (by omega))
    clear h hlen
    generalize rightS (secsOf L) = rs at *
    generalize L.length = n at *
    have hd : decide ((n : Int) < 2) = true := decide_eq_true (by omega)
    go_enter Tryd.func13, Tryd.ntmps13
    go_wp2_with fail
    go_ret
    exact ⟨by rw [HF.out]; rfl, Below.refl _ _⟩
  · by_cases h64 : 64 < L.length
    · have HF := Lib.hid (show rightS (secsOf L) = false from rightS_len (by omega))
      clear h hlen
      generalize rightS (secsOf L) = rs at *
      generalize L.length = n at *
      have hd : decide ((n : Int) < 2) = false := decide_eq_false (by omega)
      have hd2 : decide ((64 : Int) < (n : Int)) = true := decide_eq_true (by omega)
      go_enter Tryd.func13, Tryd.ntmps13
      go_wp2_with fail
      go_ret
      exact ⟨by rw [HF.out]; rfl, Below.refl _ _⟩
    · have HR := Lib.hid (show rightS (secsOf L) = ((secsOf L)[0]?.any (fun s => sameS s zeroS) && (((secsOf L)[(secsOf L).length - 1]?).any (fun s => decide (s.kind = 3)) && (decide (findS (secsOf L) shstrN = (((secsOf L).length - 1 : Nat) : Int)) && okAll ((secsOf L).drop 1)))) by
        unfold rightS
        rw [decide_eq_true (show 2 ≤ (secsOf L).length ∧ (secsOf L).length ≤ 64 by omega), Bool.true_and])
      generalize rightS (secsOf L) = rs at *
      obtain ⟨m, hm⟩ : ∃ m, L.length = m + 1 := ⟨L.length - 1, by omega⟩
      obtain ⟨x, hx⟩ : ∃ x, L[0]? = some x := ⟨L[0]'(by omega), List.getElem?_eq_getElem _⟩
      obtain ⟨z, hz⟩ : ∃ x, L[m]? = some x := ⟨L[m]'(by omega), List.getElem?_eq_getElem _⟩
      have HZ := Lib.hid (zero_first x.s (h.get hx).fits)
      have hsl : (secsOf L).length - 1 = m := by rw [hlen, hm]; rfl
      rw [get_secsOf hx, hsl, get_secsOf hz, Option.any_some, Option.any_some, HZ.out] at HR
      have hfx := (h.get hx).fits
      have HD := Lib.hid (fun W => describe_any x hfx.data 0 0 W)
      have HN := Lib.hid (fun W => neq_entry (entNs x.s 0 0) (List.replicate 10 0) rfl rfl W)
      rw [show entV (List.replicate 10 0) = .agg #[.int .u64 0, .int .u64 0, .int .u64 0, .int .u64 0, .int .u64 0, .int .u64 0, .int .u64 0, .int .u64 0, .int .u64 0, .int .u64 0] from rfl] at HN
      have HG := Lib.hid (fun (p q : Operand) (W : World) => run_eqGuard_agg W .neq 68 p q (entCs (entNs x.s 0 0)).toArray #[.int .u64 0, .int .u64 0, .int .u64 0, .int .u64 0, .int .u64 0, .int .u64 0, .int .u64 0, .int .u64 0, .int .u64 0, .int .u64 0] Tryd.eqGuardType68)
      rw [show Value.agg (entCs (entNs x.s 0 0)).toArray = entV (entNs x.s 0 0) from rfl] at HG
      rw [show x.val = .agg #[.string ⟨x.s.name.toArray⟩, .int .i64 x.s.kind, .int .u64 (x.s.flags : Int), .int .u64 (x.s.addr : Int), .slice x.A x.s.data.length x.c, .int .i64 x.s.link, .int .i64 x.s.inf, .int .i64 x.s.algn, .int .i64 x.s.ent] from rfl] at HD
      obtain ⟨b, o, rfl, hb, c0, c1, c2, c3, c4, c5, c6, c7, c8⟩ := h.at_ hx
      rw [Nat.zero_mul, Nat.add_zero] at c0 c1 c2 c3 c4 c5 c6 c7 c8
      have HFD := Lib.hid (fun W (hW : Below w.heap.size w W) => find_any ((h.below hW).more hW.size) c hl shstrN)
      have HCW := Lib.hid (fun W (hW : Below w.heap.size w W) => contains_wrong (((h.below hW).more hW.size).drop 1) (c - 1) (by simp; omega))
      have HZC := Lib.hid (fun W (hW : Below w.heap.size w W) => (h.below hW).at_ hz)
      have hmb : m ≤ 100 := by omega
      have hc1 : ¬ c = 1 := by omega
      have hc2 : 1 < c := by omega
      have hd : decide ((m : Int) + 1 < 2) = false := decide_eq_false (by omega)
      have hd2 : decide ((64 : Int) < (m : Int) + 1) = false := decide_eq_false (by omega)
      have q1 : ((ByteArray.mk x.s.name.toArray).toList == []) = decide (x.s.name = []) := by rw [Lib.toList_data, Bool.eq_iff_iff]; simp
      have q2 : ((ByteArray.mk x.s.name.toArray).toList != []) = !decide (x.s.name = []) := by rw [← q1]; rfl
      rw [hm] at HFD hlc
      rw [show (secsOf L).drop 1 = secsOf (L.drop 1) by simp [secsOf]] at HR
      rw [show (L.drop 1).length = m by simp [hm], Option.map_some, addr_add, Nat.one_mul] at HCW
      rw [show ByteArray.mk shstrN.toArray = ⟨#[46, 115, 104, 115, 116, 114, 116, 97, 98]⟩ from rfl] at HFD
      generalize z.s.kind = zk at *
      clear hx hz h hlen hsl h2 h64 hl hfx HZ
      rw [hm]
      generalize findS (secsOf L) shstrN = fd at *
      generalize okAll (secsOf (L.drop 1)) = ok at *
      generalize decide (x.s.name = []) = bn at *
      have hee : (entNs x.s 0 0 == List.replicate 10 0) = decide (entNs x.s 0 0 = List.replicate 10 0) := by rw [Bool.eq_iff_iff, beq_iff_eq, decide_eq_true_eq]
      rw [hee] at HN
      generalize decide (entNs x.s 0 0 = List.replicate 10 0) = bz at *
      clear hee
      generalize entV (entNs x.s 0 0) = rv at *
      generalize x.A = dA at *
      generalize x.s.data.length = dn at *
      generalize x.c = dc at *
      generalize ByteArray.mk x.s.name.toArray = sb at *
      generalize x.s.kind = i1 at *
      generalize x.s.link = i2 at *
      generalize x.s.inf = i3 at *
      generalize x.s.algn = i4 at *
      generalize x.s.ent = i5 at *
      generalize x.s.flags = n1 at *
      generalize x.s.addr = n2 at *
      have HB0 := Lib.hid ((Below.refl w.heap.size w).alloc (Nat.le_refl _) (.cells #[.string sb, .int .i64 i1, .int .u64 (n1 : Int), .int .u64 (n2 : Int), .slice dA dn dc, .int .i64 i2, .int .i64 i3, .int .i64 i4, .int .i64 i5] 36))
      go_enter Tryd.func13, Tryd.ntmps13
      cases bn with
      | false =>
        have HF := Lib.hid (show rs = false by rw [HR.out]; rfl)
        clear HR HN HG HD HFD HCW HZC
        go_wp2_with fail
        go_ret
        exact ⟨by rw [HF.out]; rfl, HB0.out⟩
      | true =>
        have hn1 := HN.out
        have hg1 := HG.out
        cases bz with
        | false =>
          have HF := Lib.hid (show rs = false by rw [HR.out]; rfl)
          clear HR HN HG HFD HCW HZC
          go_wp2_with (go_at_call 34; refine (HD.out _).mono ?_; rintro r w1 ⟨rfl, hb1⟩)
          go_ret
          exact ⟨by rw [HF.out]; rfl, HB0.out.trans (hb1.mono (by simp))⟩
        | true =>
          clear HN HG
          rw [Bool.and_self, Bool.true_and] at HR
          by_cases hk : zk = 3
          · have hk3 : (zk == 3) = true := by simp [hk]
            have hk4 : (zk != 3) = false := by simp [hk]
            rw [decide_eq_true hk, Bool.true_and] at HR
            clear hk
            by_cases hf : fd = ((m : Nat) : Int)
            · have hf3 : (fd == (m : Int)) = true := by simp [hf]
              have hf4 : (fd != (m : Int)) = false := by simp [hf]
              rw [decide_eq_true hf, Bool.true_and] at HR
              clear hf
              go_wp2_with (first
                | (go_at_call 34; refine (HD.out _).mono ?_; rintro r w1 ⟨rfl, hb1⟩; have HB1 := Lib.hid (HB0.out.trans (hb1.mono (by simp))); (obtain ⟨b', o', e, _, _, z1, _⟩ := HZC.out _ HB1.out); cases e; clear hb1 HD)
                | (go_at_call 15; refine (HFD.out _ HB1.out).mono ?_; rintro r w2 ⟨rfl, hb2⟩; have HB2 := Lib.hid (HB1.out.trans (hb2.mono HB1.out.size)); clear hb2 HFD)
                | (go_at_call 35; refine (HCW.out _ HB2.out).mono ?_; rintro r w3 ⟨rfl, hb3⟩; have HB3 := Lib.hid (HB2.out.trans (hb3.mono HB2.out.size)); clear hb3 HCW))
              go_ret
              exact ⟨by rw [HR.out]; simp, HB3.out⟩
            · have hf3 : (fd == (m : Int)) = false := by simpa using hf
              have hf4 : (fd != (m : Int)) = true := by simpa using hf
              have HF := Lib.hid (show rs = false by rw [HR.out, decide_eq_false hf]; rfl)
              clear hf HR HCW
              go_wp2_with (first
                | (go_at_call 34; refine (HD.out _).mono ?_; rintro r w1 ⟨rfl, hb1⟩; have HB1 := Lib.hid (HB0.out.trans (hb1.mono (by simp))); (obtain ⟨b', o', e, _, _, z1, _⟩ := HZC.out _ HB1.out); cases e; clear hb1 HD)
                | (go_at_call 15; refine (HFD.out _ HB1.out).mono ?_; rintro r w2 ⟨rfl, hb2⟩; have HB2 := Lib.hid (HB1.out.trans (hb2.mono HB1.out.size)); clear hb2 HFD))
              go_ret
              exact ⟨by rw [HF.out]; rfl, HB2.out⟩
          · have hk3 : (zk == 3) = false := by simpa using hk
            have hk4 : (zk != 3) = true := by simpa using hk
            have HF := Lib.hid (show rs = false by rw [HR.out, decide_eq_false hk]; rfl)
            clear hk HR HCW HFD
            go_wp2_with (go_at_call 34; refine (HD.out _).mono ?_; rintro r w1 ⟨rfl, hb1⟩; have HB1 := Lib.hid (HB0.out.trans (hb1.mono (by simp))); (obtain ⟨b', o', e, _, _, z1, _⟩ := HZC.out _ HB1.out); cases e; clear hb1 HD)
            go_ret
            exact ⟨by rw [HF.out]; rfl, HB1.out⟩

end Go.Proofs.YtpdjpafchfbabaaDoor
