/-
  Package syms: Take refused for its size.
-/

import Derived.Test.YtkadjejjillmmaaSyD
namespace Go.Proofs.Ytkadjejjillmmaa
open Go Go.RowKit

set_option maxRecDepth 10000 in
set_option maxHeartbeats 800000 in
theorem ytake_odd {w : World} (A A' : Option Addr) (n n' c c' : Nat) (hl : n ≤ 1000000) (h : n % 24 ≠ 0) :
    Calls Try.prog 7 #[.slice A n c, .slice A' n' c'] w fun r w' => r = .returned (.tuple #[.slice none 0 0, .int .i64 23]) ∧ w = w' := by
  have hC := fun W => count_any (w := W) A n c 23 (by omega)
  rw [if_pos h, if_pos h] at hC
  clear h
  go_enter Try.func7, Try.ntmps7
  go_wp2_with (go_at_call 20; refine (hC _).mono ?_; rintro r w1 ⟨rfl, rfl⟩)
  go_ret2
  exact ⟨rfl, rfl⟩

theorem ytake_big {w : World} (A A' : Option Addr) (n n' c c' : Nat) (hl : n ≤ 1000000) (h : ¬ n % 24 ≠ 0) (h2 : 400 < n / 24) :
    Calls Try.prog 7 #[.slice A n c, .slice A' n' c'] w fun r w' => r = .returned (.tuple #[.slice none 0 0, .int .i64 3]) ∧ w = w' := by
  have hC := fun W => count_any (w := W) A n c 23 (by omega)
  rw [if_neg h, if_pos h2, if_neg h, if_pos h2] at hC
  clear h h2
  go_enter Try.func7, Try.ntmps7
  go_wp2_with (go_at_call 20; refine (hC _).mono ?_; rintro r w1 ⟨rfl, rfl⟩)
  go_ret2
  exact ⟨rfl, rfl⟩

/-- What is refused, or nothing. -/
def errOf (b : Bool) (bad : Int) : Int := match b with | true => 0 | false => bad
theorem sym_set {W : World} {ge k : Nat} (v0 v1 v2 v3 v4 v5 : Value) : setAll W ge (k * 6) [v0, v1, v2, v3, v4, v5] = (((((W.setCell ⟨ge, k * 6, none⟩ v0).setCell ⟨ge, k * 6 + 1, none⟩ v1).setCell ⟨ge, k * 6 + 2, none⟩ v2).setCell ⟨ge, k * 6 + 3, none⟩ v3).setCell ⟨ge, k * 6 + 4, none⟩ v4).setCell ⟨ge, k * 6 + 5, none⟩ v5 := rfl
theorem RowTo.lt {T : TypeId} {n ge q : Nat} {C : List Value} {w : World} (h : RowTo T n w ge q C) : ge < w.heap.size := by
  obtain ⟨R, hR⟩ := h
  exact (hR.lt ge rfl).2
/-- A round's end: an item stored into the row. -/
theorem take_step {T : TypeId} {n k ge q H gc a : Nat} {C vs : List Value} {w w5 : World} {vc : Value} {t : List UInt8} {cs : Array Value} (hT : T ≠ 90) (hT2 : 5 ≠ T) (hR : RowTo T n w5 ge q C) (hX : Box w5 H T cs) (hC : Cur w5 gc vc t a 0) (hB : Below w.heap.size w w5)
    (hgh : ge ≠ H) (hgc : gc ≠ ge) (hvc : vc.ownBlock ≠ some ge) (hl : C.length = k * n) (hvl : vs.length = n) (hk : k < q) (h1 : w.heap.size ≤ H) (h2 : w.heap.size ≤ ge) (i : Nat) (u : Value) :
    RowTo T n (setAll (w5.setCell ⟨H, i, none⟩ u) ge (k * n) vs) ge q (C ++ vs) ∧ Cur (setAll (w5.setCell ⟨H, i, none⟩ u) ge (k * n) vs) gc vc t a 0 ∧ Below w.heap.size w (setAll (w5.setCell ⟨H, i, none⟩ u) ge (k * n) vs) := by
  have hg : w5.grownBy (w5.setCell ⟨H, i, none⟩ u) (some H) := only_set (only_refl _ _) i u
  have hne : gc ≠ H := fun e => (hX.other hC.1 hT) e.symm
  have hR6 : RowTo T n _ ge q C := hR.kept hg (by simpa using hgh)
  have hC6 := hC.grown hg (by simpa using hne) (.inr (own_other hC.2.1 hX hT2))
  have hB6 := below_only hB (Nat.le_refl _) hg h1
  have hle : (k + 1) * n ≤ q * n := Nat.mul_le_mul_right n hk
  rw [Nat.add_mul] at hle
  obtain ⟨s1, s2⟩ := hR6.store vs (by rw [hl, hvl]; omega)
  rw [hl] at s1 s2
  exact ⟨s1, hC6.grown s2 (by simpa using hgc) (.inr hvc), below_only hB6 (Nat.le_refl _) s2 h2⟩
theorem rel_set {W : World} {ge k : Nat} (v0 v1 v2 v3 : Value) : setAll W ge (k * 4) [v0, v1, v2, v3] = (((W.setCell ⟨ge, k * 4, none⟩ v0).setCell ⟨ge, k * 4 + 1, none⟩ v1).setCell ⟨ge, k * 4 + 2, none⟩ v2).setCell ⟨ge, k * 4 + 3, none⟩ v3 := rfl

set_option maxRecDepth 10000 in
set_option maxHeartbeats 1600000 in
theorem ytake_even {w : World} {A A' : Option Addr} {t ns : List UInt8} {n q : Nat} (hn : t.length = n) (hlq : n = 24 * q) (hq4 : q ≤ 400) (hr : Rd w w.heap.size A t) (hr' : Rd w w.heap.size A' ns) (c c' : Nat) (hlc' : ns.length ≤ c') (hl' : ns.length ≤ 1000000) :
    Calls Try.prog 7 #[.slice A n c, .slice A' ns.length c'] w fun r w' => ∃ u, r = .returned (.tuple #[u, .int .i64 (errOf (okTo (okK t ns) q) 23)]) ∧ (okTo (okK t ns) q = true → OwnY w' w.heap.size u (listTo (symK t ns) q)) ∧ (okTo (okK t ns) q = false → u = .slice none 0 0) ∧ Below w.heap.size w w' := by
  have hC := fun W => count_any (w := W) A n c 23 (by omega)
  rw [if_neg (by omega), if_neg (by omega), if_neg (by omega), if_neg (by omega), show n / 24 = q by omega] at hC
  obtain ⟨i1, hj, hy0, hy1, hy2⟩ := info_parts sym_info
  have HN := Lib.hid (fun W (hW : W = w) => (by
    have := new_any (w := W) c (hW ▸ hr) (Nat.le_of_eq (by rw [hW])) (by omega)
    rwa [hn] at this : Calls Try.prog 21 #[.slice A n c] W fun r w' => ∃ g v, r = .returned (.pointer (some ⟨g, 0, none⟩)) ∧ Made W.heap.size w' g v t 0 ∧ Below W.heap.size W w'))
  have HA := Lib.hid (fun (W : World) (hW : Below w.heap.size w W) (off : Nat) (ho : off < two64) => at_any (hr'.below hW) hW.size c' hlc' (by omega) off ho)
  have hm1 : i1.bytes * q ≤ 281474976710656 := by rw [hy2]; omega
  have hm2 : q ≤ maxLen := by unfold maxLen; omega
  have HLQ := Lib.hid (show t.length = 24 * q by omega)
  have HQ4 := Lib.hid hq4
  clear hr hr' hl' hlc' hn hlq hq4
  generalize hn' : ns.length = n' at *
  clear hn'
  go_enter Try.func7, Try.ntmps7
  go_wp2_with (first
    | (go_at_call 20; refine (hC _).mono ?_; rintro r w1 ⟨rfl, rfl⟩)
    | (go_at_call 21; refine (HN.out _ rfl).mono ?_; rintro r w1 ⟨gc, vc, rfl, hM1, hb1⟩; have HM1 := Lib.hid hM1; have HB1 := Lib.hid hb1; clear hM1 hb1)
    | (at_make; refine wpList_make_full _ rfl _ _ 24 rfl w1.heap.size 51 i1 _ 6 Try.underlying24 hj hy0 hy1 .i64 .i64 (q : Int) (q : Int) q rfl rfl rfl rfl hm1 hm2 (Nat.le_refl _) ?_; intro w2 hown2 hg2))
  have hmf : ∀ (fn : Fn) (first cap : Array Value) (W : World), (Instr.makeFunc fn first cap).run Try.prog W = .ok (.func fn first cap) W := fun _ _ _ _ => rfl
  have hC1 := HM1.out.1
  have hgc : w.heap.size ≤ gc := HM1.out.2.1
  have hgl : gc < w1.heap.size := hC1.1.lt
  have hvc : vc.ownBlock ≠ some w1.heap.size := fun e => by have := (own_ge hC1.2.1 _ e).2; omega
  have hb12 : Below w1.heap.size w1 w2 := below_of_only hg2 (Nat.le_refl _) (by simp)
  have HC2 := Lib.hid (hC1.below hb12)
  have HW2 := Lib.hid (show RowTo 51 6 w2 w1.heap.size q (cellsF Sym.cells (listTo (symK t ns) 0)) from ⟨_, hown2⟩)
  have HB2 := Lib.hid (HB1.out.trans (hb12.mono HB1.out.size))
  have hbg : w.heap.size ≤ w1.heap.size := HB1.out.size
  clear hC hC1 HN HM1 HB1 hown2 hg2 hb12 hm1 hm2 hj hy0 hy1 hy2
  generalize w1.heap.size = ge at *
  have hgcne : gc ≠ ge := by omega
  have hgcne' : ge ≠ gc := by omega
  go_loopw [29] (fun i wr => ∃ k : Nat, k ≤ q ∧ i = .int .i64 k ∧ Hid (okTo (okK t ns) k = true) ∧ RowTo 51 6 wr ge q (cellsF Sym.cells (listTo (symK t ns) k)) ∧ Cur wr gc vc t (24 * k) 0 ∧ Below w.heap.size w wr) (fun i _ => q - (intOf i).toNat)
  case atStart => exact ⟨0, Nat.zero_le _, rfl, Lib.hid rfl, HW2.out, HC2.out, HB2.out⟩
  case round =>
    obtain ⟨k, hk, rfl, HOK, hR, hC, hB⟩ := hrel
    clear HC2 HW2
    by_cases hlt : k < q
    · have HLT := Lib.hid hlt
      have HS := Lib.hid (symbol_any (a := 24 * k) (by rw [HLQ.out]; have := HQ4.out; omega) (by rw [HLQ.out]; omega) hC)
      have HR := Lib.hid hR
      have HB := Lib.hid hB
      have hn4 := num4 t (24 * k)
      have hn2 := num2 t (24 * k + 6)
      have HK := Lib.hid (show symK t ns k = ⟨(atT ns (numT t (24 * k) 4)).1, ((numT t (24 * k + 4) 1 / 16 : Nat) : Int), ((numT t (24 * k + 4) 1 % 16 : Nat) : Int), (numT t (24 * k + 6) 2 : Int), numT t (24 * k + 8) 8, numT t (24 * k + 16) 8⟩ from rfl)
      have HO := Lib.hid (show okK t ns k = (decide ((atT ns (numT t (24 * k) 4)).2 = 0) && decide (numT t (24 * k + 6) 2 ≤ 65534)) from rfl)
      clear hR hC hB
      generalize numT t (24 * k) 4 = m0 at *
      generalize numT t (24 * k + 4) 1 / 16 = m1 at *
      generalize numT t (24 * k + 4) 1 % 16 = m2 at *
      generalize numT t (24 * k + 6) 2 = m3 at *
      generalize numT t (24 * k + 8) 8 = m4 at *
      generalize numT t (24 * k + 16) 8 = m5 at *
      obtain ⟨nm, hnm⟩ : ∃ x, (atT ns m0).1 = x := ⟨_, rfl⟩
      obtain ⟨ev, hev⟩ : ∃ x, (atT ns m0).2 = x := ⟨_, rfl⟩
      have HAm := Lib.hid (fun (W : World) (hW : Below w.heap.size w W) => HA.out W hW m0 (by unfold two64; omega))
      rw [hnm, hev] at HAm
      rw [hnm] at HK
      rw [hev] at HO
      clear hnm hev HA
      have FB := Lib.hid (fun (w4 : World) (hC4 : Cur w4 gc vc t (24 * k + 24) 0) (hG4 : wr.grownBy w4 (some gc)) => (by
        have hB4 : Below w.heap.size w w4 := below_only HB.out (Nat.le_refl _) hG4 hgc
        have hA4 : Below w4.heap.size w4 (w4.alloc (.cells #[.string ⟨#[]⟩, .int .i64 (m1 : Int), .int .i64 (m2 : Int), .int .i64 (m3 : Int), .int .u64 (m4 : Int), .int .u64 (m5 : Int)] 51)) := (Below.refl _ _).alloc (Nat.le_refl _) _
        have hR4 : RowTo 51 6 w4 ge q _ := HR.out.kept hG4 (by simpa using hgcne')
        refine ⟨hB4.trans (hA4.mono hB4.size), fun w5 hb5 => ?_⟩
        have hX5 := (Box.new w4 51 #[.string ⟨#[]⟩, .int .i64 (m1 : Int), .int .i64 (m2 : Int), .int .i64 (m3 : Int), .int .u64 (m4 : Int), .int .u64 (m5 : Int)]).below hb5 (by simp)
        have hb45 : Below w4.heap.size w4 w5 := hA4.trans (hb5.mono hA4.size)
        exact ⟨hX5, hC4.below hb45, hR4.below hb45, hB4.trans (hb45.mono hB4.size)⟩ :
        Below w.heap.size w (w4.alloc (.cells #[.string ⟨#[]⟩, .int .i64 (m1 : Int), .int .i64 (m2 : Int), .int .i64 (m3 : Int), .int .u64 (m4 : Int), .int .u64 (m5 : Int)] 51)) ∧
        ∀ w5, Below (w4.alloc (.cells #[.string ⟨#[]⟩, .int .i64 (m1 : Int), .int .i64 (m2 : Int), .int .i64 (m3 : Int), .int .u64 (m4 : Int), .int .u64 (m5 : Int)] 51)).heap.size (w4.alloc (.cells #[.string ⟨#[]⟩, .int .i64 (m1 : Int), .int .i64 (m2 : Int), .int .i64 (m3 : Int), .int .u64 (m4 : Int), .int .u64 (m5 : Int)] 51)) w5 →
          Box w5 w4.heap.size 51 #[.string ⟨#[]⟩, .int .i64 (m1 : Int), .int .i64 (m2 : Int), .int .i64 (m3 : Int), .int .u64 (m4 : Int), .int .u64 (m5 : Int)] ∧ Cur w5 gc vc t (24 * k + 24) 0 ∧ RowTo 51 6 w5 ge q (cellsF Sym.cells (listTo (symK t ns) k)) ∧ Below w.heap.size w w5))
      have hclen : (cellsF Sym.cells (listTo (symK t ns) k)).length = k * 6 := by rw [cellsF_length sym_six, listTo_length]
      have HCL := Lib.hid hclen
      clear hclen
      by_cases he : ev = 0
      · have q0 : (ev != 0) = false := by simp [he]
        rw [decide_eq_true he, Bool.true_and] at HO
        clear he
        by_cases h5 : m3 ≤ 65534
        · have q1 : decide ((65534 : Int) < (m3 : Int)) = false := decide_eq_false (by omega)
          rw [decide_eq_true h5] at HO
          clear h5
          go_wp2_with (first
            | (go_at_call 22; refine HS.out.mono ?_; rintro r w4 ⟨rfl, hC4, hG4⟩; (obtain ⟨hb4, hf4⟩ := FB.out w4 hC4 hG4); have HHLT := Lib.hid (show ge < w4.heap.size from Nat.lt_of_lt_of_le HR.out.lt hG4.size); clear hC4 hG4)
            | (go_at_call 27; refine (HAm.out _ hb4).mono ?_; rintro r w5 ⟨rfl, hb5⟩; (obtain ⟨hX5, hC5, hR5, hB5⟩ := hf4 _ hb5); have HX5 := Lib.hid hX5; have HC5 := Lib.hid hC5; have HR5 := Lib.hid hR5; have HB5 := Lib.hid hB5; (obtain ⟨k0, k1, k2, k3, k4, k5⟩ := six_cells hX5); (obtain ⟨f0, f1, f2, f3, f4, f5⟩ := six_free hX5); (obtain ⟨⟨y0, g0⟩, z0⟩ := hR5.free (k * 6) (by omega)); (obtain ⟨⟨y1, g1⟩, z1⟩ := hR5.free (k * 6 + 1) (by omega)); (obtain ⟨⟨y2, g2⟩, z2⟩ := hR5.free (k * 6 + 2) (by omega)); (obtain ⟨⟨y3, g3⟩, z3⟩ := hR5.free (k * 6 + 3) (by omega)); (obtain ⟨⟨y4, g4⟩, z4⟩ := hR5.free (k * 6 + 4) (by omega)); (obtain ⟨⟨y5, g5⟩, z5⟩ := hR5.free (k * 6 + 5) (by omega)); have hgh1 : ge ≠ w4.heap.size := (by have := HHLT.out; omega); have hgh2 : w4.heap.size ≠ ge := (by have := HHLT.out; omega); clear hX5 hC5 hR5 hB5 hb5 hf4 hb4))
          obtain ⟨e1, e2, e3⟩ := take_step (vs := [.string ⟨nm.toArray⟩, .int .i64 (m1 : Int), .int .i64 (m2 : Int), .int .i64 (m3 : Int), .int .u64 (m4 : Int), .int .u64 (m5 : Int)]) (by decide) (by decide) HR5.out HX5.out HC5.out HB5.out hgh1 hgcne hvc HCL.out rfl hlt (by have := HHLT.out; omega) hbg 0 (.string ⟨nm.toArray⟩)
          rw [sym_set] at e1 e2 e3
          have E1 := Lib.hid e1
          have E2 := Lib.hid e2
          have E3 := Lib.hid e3
          clear e1 e2 e3 k0 k1 k2 k3 k4 k5 f0 f1 f2 f3 f4 f5 g0 g1 g2 g3 g4 g5 z0 z1 z2 z3 z4 z5 HX5 HC5 HR5 HB5
          go_roundw
          case rel =>
            refine ⟨k + 1, by have := HLT.out; omega, by (have h1 := HLT.out; have h2 := HQ4.out; have h3 : wrap64 ((k : Int) + 1) = (k : Int) + 1 := (by unfold wrap64; omega); rw [h3]; rfl), Lib.hid (by rw [okTo_next, HOK.out, HO.out]; rfl), ?_, E2.out, E3.out⟩
            rw [listTo_next, cellsF_append, cellsF_one, HK.out]
            exact E1.out
          case measure => have h1 := HLT.out; have h2 := HQ4.out; have h3 : wrap64 ((k : Int) + 1) = (k : Int) + 1 := (by unfold wrap64; omega); rw [h3]; simp [intOf]; omega
        · have q1 : decide ((65534 : Int) < (m3 : Int)) = true := decide_eq_true (by omega)
          rw [decide_eq_false h5] at HO
          have HF := Lib.hid (okTo_more hlt (show okK t ns k = false by rw [HO.out]))
          clear h5
          go_wp2_with (first
            | (go_at_call 22; refine HS.out.mono ?_; rintro r w4 ⟨rfl, hC4, hG4⟩; (obtain ⟨hb4, hf4⟩ := FB.out w4 hC4 hG4); clear hC4 hG4)
            | (go_at_call 27; refine (HAm.out _ hb4).mono ?_; rintro r w5 ⟨rfl, hb5⟩; (obtain ⟨hX5, hC5, hR5, hB5⟩ := hf4 _ hb5); have HB5 := Lib.hid hB5; (obtain ⟨k0, k1, k2, k3, k4, k5⟩ := six_cells hX5); clear hX5 hC5 hR5 hB5 hb5 hf4 hb4))
          go_ret2
          exact ⟨_, by rw [HF.out]; rfl, fun h => absurd (HF.out.symm.trans h) (by decide), fun _ => rfl, HB5.out⟩
      · have q0 : (ev != 0) = true := by simpa using he
        rw [decide_eq_false he, Bool.false_and] at HO
        have HF := Lib.hid (okTo_more hlt (show okK t ns k = false by rw [HO.out]))
        clear he
        go_wp2_with (first
          | (go_at_call 22; refine HS.out.mono ?_; rintro r w4 ⟨rfl, hC4, hG4⟩; (obtain ⟨hb4, hf4⟩ := FB.out w4 hC4 hG4); clear hC4 hG4)
          | (go_at_call 27; refine (HAm.out _ hb4).mono ?_; rintro r w5 ⟨rfl, hb5⟩; (obtain ⟨hX5, hC5, hR5, hB5⟩ := hf4 _ hb5); have HB5 := Lib.hid hB5; clear hX5 hC5 hR5 hB5 hb5 hf4 hb4))
        go_ret2
        exact ⟨_, by rw [HF.out]; rfl, fun h => absurd (HF.out.symm.trans h) (by decide), fun _ => rfl, HB5.out⟩
    · have hkq : k = q := by omega
      subst hkq
      have HD := Lib.hid (show OwnY wr w.heap.size (.slice (some ⟨ge, 0, none⟩) k k) (listTo (symK t ns) k) by
        rw [OwnY, listTo_length]
        exact hR.done (by rw [cellsF_length sym_six, listTo_length]) hbg)
      have HB := Lib.hid hB
      clear hR hC hB
      go_wp2_with fail
      go_ret2
      exact ⟨_, by rw [HOK.out]; rfl, fun _ => HD.out, fun h => absurd (HOK.out.symm.trans h) (by decide), HB.out⟩

/-- Take, of whatever bytes. -/
theorem ytake_any {w : World} {A A' : Option Addr} {t ns : List UInt8} (hr : Rd w w.heap.size A t) (hr' : Rd w w.heap.size A' ns) (c c' : Nat) (hlc' : ns.length ≤ c') (hl : t.length ≤ 1000000) (hl' : ns.length ≤ 1000000) :
    Calls Try.prog 7 #[.slice A t.length c, .slice A' ns.length c'] w fun r w' => ∃ u, r = .returned (.tuple #[u, .int .i64 (takeEY t.length (okK t ns) 23)]) ∧ OwnY w' w.heap.size u (takeLY t.length (okK t ns) (symK t ns)) ∧ Below w.heap.size w w' := by
  by_cases h1 : t.length % 24 ≠ 0
  · rw [takeEY_odd h1, takeLY_odd h1]
    exact (ytake_odd A A' _ _ c c' hl h1).mono fun r w' ⟨e, hw⟩ => ⟨_, e, World.ownsRow_nil _ _ _ _, hw ▸ Below.refl _ _⟩
  · by_cases h2 : 400 < t.length / 24
    · rw [takeEY_big h1 h2, takeLY_big h1 h2]
      exact (ytake_big A A' _ _ c c' hl h1 h2).mono fun r w' ⟨e, hw⟩ => ⟨_, e, World.ownsRow_nil _ _ _ _, hw ▸ Below.refl _ _⟩
    · have hq : t.length = 24 * (t.length / 24) := by omega
      refine (ytake_even rfl hq (by omega) hr hr' c c' hlc' hl').mono fun r w' ⟨u, e, g1, g2, hb⟩ => ⟨u, ?_, ?_, hb⟩
      · rw [e]
        cases ho : okTo (okK t ns) (t.length / 24) with
        | true => rw [takeEY_ok hq (by omega) ho]; rfl
        | false => rw [takeEY_bad hq (by omega) ho]; rfl
      · cases ho : okTo (okK t ns) (t.length / 24) with
        | true => rw [takeLY_ok hq (by omega) ho]; exact g1 ho
        | false => rw [takeLY_bad hq (by omega) ho, g2 ho]; exact World.ownsRow_nil _ _ _ _

end Go.Proofs.Ytkadjejjillmmaa
