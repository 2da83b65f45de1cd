/-
  Package abbrev: tables (abbrevs, Take).
-/
import Derived.Test.YtpmndmbhkfbljaaAbE
import Derived.Test.YtpmndmbhkfbljaaRefU
namespace Go.Proofs.Ytpmndmbhkfbljaa
open Go Go.RowKit Go.Maps

theorem spec_info : (Try.prog.info? 56).map (fun i => (i.zero, i.size, i.bytes)) = some (some (.agg #[.int .i64 0, .int .i64 0, .int .i64 0]), 3, 24) := by kernel_rfl
theorem abb_info : (Try.prog.info? 50).map (fun i => (i.zero, i.size, i.bytes)) = some (some (.agg #[.int .u64 0, .int .i64 0, .bool false, .slice none 0 0]), 4, 48) := by kernel_rfl
theorem tU_lt (l : List UInt8) (s : CSt) : tU l s < two64 := by
  unfold tU uOf
  split
  · unfold readU
    split
    · show (0 : Nat) < _; unfold two64; omega
    · split
      · split
        · rename_i h; exact h
        · show (0 : Nat) < _; unfold two64; omega
      · show (0 : Nat) < _; unfold two64; omega
  · show (0 : Nat) < _; unfold two64; omega

section
variable {w : World} {g : Nat} {v : Value} {l : List UInt8}
theorem u_st {s : CSt} (h : Cur w g v l s.1 s.2) (hlen : l.length ≤ 140737488355328) :
    Calls Try.prog 40 #[.pointer (some ⟨g, 0, none⟩)] w fun x w' => x = .returned (.int .u64 (tU l s : Int)) ∧ Cur w' g v l (sU l s).1 (sU l s).2 ∧ w.grownBy w' (some g) := u_cur h hlen
theorem s_st {s : CSt} (h : Cur w g v l s.1 s.2) (hlen : l.length ≤ 140737488355328) :
    Calls Try.prog 58 #[.pointer (some ⟨g, 0, none⟩)] w fun x w' => x = .returned (.int .i64 (tS l s)) ∧ Cur w' g v l (sS l s).1 (sS l s).2 ∧ w.grownBy w' (some g) := s_cur h hlen
theorem b_st {s : CSt} (h : Cur w g v l s.1 s.2) (hlen : l.length ≤ 140737488355328) :
    Calls Try.prog 57 #[.pointer (some ⟨g, 0, none⟩)] w fun x w' => x = .returned (.int .u64 (tB l s : Int)) ∧ Cur w' g v l (sB l s).1 (sB l s).2 ∧ w.grownBy w' (some g) := u8_cur h hlen
theorem f_st {s : CSt} (h : Cur w g v l s.1 s.2) (f : Int) :
    Calls Try.prog 24 #[.pointer (some ⟨g, 0, none⟩), .int .i64 f] w fun x w' => x = .returned (.tuple #[]) ∧ Cur w' g v l (sF s f).1 (sF s f).2 ∧ w.grownBy w' (some g) := fail_cur h f

set_option maxRecDepth 10000 in
theorem tag_st {s : CSt} (h : Cur w g v l s.1 s.2) (hlen : l.length ≤ 140737488355328) :
    Calls Try.prog 41 #[.pointer (some ⟨g, 0, none⟩)] w fun x w' => x = .returned (.int .i64 (tagT l s : Int)) ∧ Cur w' g v l (tagS l s).1 (tagS l s).2 ∧ w.grownBy w' (some g) := by
  have HU := Lib.hid (u_st h hlen)
  have HF := Lib.hid (fun (W : World) (hW : Cur W g v l (sU l s).1 (sU l s).2) => f_st hW 40)
  have HT := Lib.hid (show tagT l s = if 65535 < tU l s then 0 else tU l s from rfl)
  have HS := Lib.hid (show tagS l s = if 65535 < tU l s then sF (sU l s) 40 else sU l s from rfl)
  generalize tU l s = n at *
  generalize sU l s = s1 at *
  generalize tagT l s = r at *
  generalize tagS l s = s2 at *
  clear h hlen
  by_cases hn : 65535 < n
  · have d : decide ((65535 : Int) < (n : Int)) = true := decide_eq_true (by omega)
    rw [if_pos hn] at HT HS
    clear hn
    go_enter Try.func41, Try.ntmps41
    go_wp2_with (first
      | (go_at_call 40; refine HU.out.mono ?_; rintro x w1 ⟨rfl, hC1, hG1⟩; have HC1 := Lib.hid hC1; have HG1 := Lib.hid hG1; clear hC1 hG1)
      | (go_at_call 24; refine (HF.out _ HC1.out).mono ?_; rintro x w2 ⟨rfl, hC2, hG2⟩; have HC2 := Lib.hid hC2; have HG2 := Lib.hid hG2; clear hC2 hG2))
    go_ret
    exact ⟨by rw [HT.out]; rfl, by rw [HS.out]; exact HC2.out, HG1.out.trans HG2.out⟩
  · have d : decide ((65535 : Int) < (n : Int)) = false := decide_eq_false (by omega)
    have hw : IntKind.i64.wrap (n : Int) = (n : Int) := IntWalk.i64_in _ (by omega)
    rw [if_neg hn] at HT HS
    clear hn
    go_enter Try.func41, Try.ntmps41
    go_wp2_with (first
      | (go_at_call 40; refine HU.out.mono ?_; rintro x w1 ⟨rfl, hC1, hG1⟩; have HC1 := Lib.hid hC1; have HG1 := Lib.hid hG1; clear hC1 hG1))
    go_ret
    exact ⟨by rw [HT.out]; rfl, by rw [HS.out]; exact HC1.out, HG1.out⟩

set_option maxRecDepth 10000 in
theorem kids_st {s : CSt} (h : Cur w g v l s.1 s.2) (hlen : l.length ≤ 140737488355328) :
    Calls Try.prog 42 #[.pointer (some ⟨g, 0, none⟩)] w fun x w' => x = .returned (.bool (kidT l s)) ∧ Cur w' g v l (kidS l s).1 (kidS l s).2 ∧ w.grownBy w' (some g) := by
  have HU := Lib.hid (b_st h hlen)
  have HF := Lib.hid (fun (W : World) (hW : Cur W g v l (sB l s).1 (sB l s).2) => f_st hW 40)
  have hk : ((tB l s : Int) == 1) = kidT l s := by unfold kidT; rw [Bool.eq_iff_iff]; simp; omega
  have HS := Lib.hid (show kidS l s = if 1 < tB l s then sF (sB l s) 40 else sB l s from rfl)
  generalize kidT l s = r at *
  generalize kidS l s = s2 at *
  generalize tB l s = n at *
  generalize sB l s = s1 at *
  clear h hlen
  by_cases hn : 1 < n
  · have d : decide ((1 : Int) < (n : Int)) = true := decide_eq_true (by omega)
    rw [if_pos hn] at HS
    clear hn
    go_enter Try.func42, Try.ntmps42
    go_wp2_with (first
      | (go_at_call 57; refine HU.out.mono ?_; rintro x w1 ⟨rfl, hC1, hG1⟩; have HC1 := Lib.hid hC1; have HG1 := Lib.hid hG1; clear hC1 hG1)
      | (go_at_call 24; refine (HF.out _ HC1.out).mono ?_; rintro x w2 ⟨rfl, hC2, hG2⟩; have HC2 := Lib.hid hC2; have HG2 := Lib.hid hG2; clear hC2 hG2))
    go_ret
    exact ⟨rfl, by rw [HS.out]; exact HC2.out, HG1.out.trans HG2.out⟩
  · have d : decide ((1 : Int) < (n : Int)) = false := decide_eq_false (by omega)
    rw [if_neg hn] at HS
    clear hn
    go_enter Try.func42, Try.ntmps42
    go_wp2_with (first
      | (go_at_call 57; refine HU.out.mono ?_; rintro x w1 ⟨rfl, hC1, hG1⟩; have HC1 := Lib.hid hC1; have HG1 := Lib.hid hG1; clear hC1 hG1))
    go_ret
    exact ⟨rfl, by rw [HS.out]; exact HC1.out, HG1.out⟩
end

/-! ### Pairs -/
theorem cells_newA (w : World) (cs : List Value) (T : TypeId) (j : Nat) (u : Value) (h : cs[j]? = some u) : (w.alloc (.cells cs.toArray T)).cell? ((⟨w.heap.size, 0, none⟩ : Addr).add j) = some u := by
  rw [addr_add, Nat.zero_add, (Box.new w T cs.toArray).cell]
  simpa using h
theorem owns_slc {X : World} {B k n : Nat} {e : TypeId} {v : Value} {xs : List Value} (h : X.ownsRow B e n v k xs) : ∃ A c, v = .slice A k c := by
  rcases h.2 with ⟨rfl, h0⟩ | ⟨g, cap, cur, rfl, _⟩
  · exact ⟨none, 0, by rw [h0]⟩
  · exact ⟨_, _, rfl⟩
theorem rown_past {w w' : World} {base g m : Nat} {t : TypeId} {v : Value} {n : Nat} {xs : List Value} (h : w.ownsRow base t m v n xs) (hg : w.grownBy w' (some g)) (hlt : g < base) : w'.ownsRow base t m v n xs := by
  refine h.kept hg ?_
  rcases hv : v.ownBlock with _ | q
  · exact .inl rfl
  · refine .inr fun e => ?_
    have := (h.lt q hv).1
    injection e with e
    omega
/-- The cursor, and all that lay there, behind an append to a row of the call's own. -/
theorem curn_append {w W W1 : World} {g : Nat} {v u : Value} {l : List UInt8} {a : Nat} {e : Int} {o : Obj} {n m : Nat} {xs : List Value} {t : TypeId} (hgw : g < w.heap.size) (hv : ∀ k, v.ownBlock = some k → k < w.heap.size) (hC : Cur W g v l a e) (hG : w.grownBy W (some g)) (hrow : W.ownsRow w.heap.size t m u n xs) (h2 : (W.alloc o).grownBy W1 u.ownBlock) :
    Cur W1 g v l a e ∧ w.grownBy W1 (some g) := by
  have h3 : Cur (W.alloc o) g v l a e := hC.below ((Below.refl _ _).alloc (Nat.le_refl _) o)
  have hge := fun k hk => (hrow.lt k hk).1
  refine ⟨h3.grown h2 (fun e => by have := hge g e.symm; omega) ?_, ?_⟩
  · rcases hb : v.ownBlock with _ | k
    · exact .inl rfl
    · exact .inr fun e => by have := hv k hb; have := hge k e.symm; omega
  · exact only_trans (only_then_below hG ((Below.refl _ _).alloc (Nat.le_refl _) o)) h2 (.inr hge)

set_option maxRecDepth 10000 in
set_option maxHeartbeats 3200000 in
theorem specs_st {w : World} {g : Nat} {v : Value} {l : List UInt8} {s : CSt} (h : Cur w g v l s.1 s.2) (hlen : l.length ≤ 140737488355328) :
    Calls Try.prog 43 #[.pointer (some ⟨g, 0, none⟩)] w fun x w' => ∃ u, x = .returned u ∧ w'.ownsRow w.heap.size 56 3 u (specsF l 41 s).1.length (cellsF Spc.cells (specsF l 41 s).1) ∧ Cur w' g v l (specsF l 41 s).2.1 (specsF l 41 s).2.2 ∧ w.grownBy w' (some g) := by
  have hgw := h.1.lt
  have hv := own_lt h.2.1
  have HC := Lib.hid h
  have HL := Lib.hid hlen
  have HV := Lib.hid hv
  clear h hlen hv
  obtain ⟨T, hT⟩ : ∃ T, specsF l 41 s = T := ⟨_, rfl⟩
  have HT := Lib.hid hT
  rw [hT]
  clear hT
  go_enter Try.func43, Try.ntmps43
  go_wp2_with fail
  go_step3
  go_wp2_with fail
  go_step3
  go_wp2_with fail
  obtain ⟨i1, hj1, hy0, hy1, hy2⟩ := info_parts spec_info
  have hO0 : w.ownsRow w.heap.size 56 3 (.slice none 0 0) 0 (cellsF Spc.cells []) := World.ownsRow_nil _ _ _ _
  have HO0 := Lib.hid hO0
  clear hO0
  go_loopg [3] 41 (fun gk u wr => ∃ (k : Nat) (X : List Spc) (s1 : CSt), k ≤ 40 ∧ gk = 41 - k ∧ Hid (X.length = k) ∧ Hid (wr.ownsRow w.heap.size 56 3 u k (cellsF Spc.cells X)) ∧ Hid (Cur wr g v l s1.1 s1.2) ∧ Hid (w.grownBy wr (some g)) ∧ Hid (T = (X ++ (specsF l (40 - k + 1) s1).1, (specsF l (40 - k + 1) s1).2)))
  case atStart => exact ⟨0, [], s, Nat.zero_le _, rfl, Lib.hid rfl, HO0, HC, Lib.hid (only_refl _ _), Lib.hid HT.out.symm⟩
  case round =>
    obtain ⟨k, X, s1, hk, rfl, HX, HO, HCU, HG, HTT⟩ := hrel
    clear HO0 HC HT
    have HU1 := Lib.hid (u_st HCU.out HL.out)
    have HU2 := Lib.hid (fun (W : World) (hW : Cur W g v l (sU l s1).1 (sU l s1).2) => u_st hW HL.out)
    have hA64 := tU_lt l s1
    have hF64 := tU_lt l (sU l s1)
    have HE1 := Lib.hid (@specsF_end l (40 - k) s1)
    have HE2 := Lib.hid (@specsF_bad l (40 - k) s1)
    have HE3 := Lib.hid (@specsF_full l s1)
    have HE4 := Lib.hid (@specsF_imp l (40 - k) s1)
    have HE5 := Lib.hid (@specsF_more l (40 - k) s1)
    have HB := Lib.hid (show badP (tU l s1) (tU l (sU l s1)) = (decide (tU l s1 = 0) || (decide (tU l (sU l s1) = 0) || (decide (65535 < tU l s1) || decide (65535 < tU l (sU l s1))))) from rfl)
    generalize tU l s1 = A at *
    generalize tU l (sU l s1) = F at *
    generalize badP A F = bp at *
    obtain ⟨b1, hb1⟩ : ∃ b, decide (A = 0) = b := ⟨_, rfl⟩
    obtain ⟨b2, hb2⟩ : ∃ b, decide (F = 0) = b := ⟨_, rfl⟩
    obtain ⟨b3, hb3⟩ : ∃ b, decide (65535 < A) = b := ⟨_, rfl⟩
    obtain ⟨b4, hb4⟩ : ∃ b, decide (65535 < F) = b := ⟨_, rfl⟩
    rw [hb1, hb2, hb3, hb4] at HB
    have n1 : ((A : Int) == 0) = b1 := by rw [← hb1, Bool.eq_iff_iff]; simp
    have n2 : ((F : Int) == 0) = b2 := by rw [← hb2, Bool.eq_iff_iff]; simp
    have n3 : decide ((65535 : Int) < (A : Int)) = b3 := by rw [← hb3, Bool.eq_iff_iff]; simp; omega
    have n4 : decide ((65535 : Int) < (F : Int)) = b4 := by rw [← hb4, Bool.eq_iff_iff]; simp; omega
    have HAF := Lib.hid (show (b1 = true → A = 0) ∧ (b1 = false → A ≠ 0) ∧ (b2 = true → F = 0) ∧ (b2 = false → F ≠ 0) ∧ (b3 = false → A ≤ 65535) ∧ (b4 = false → F ≤ 65535) by
      refine ⟨fun h => ?_, fun h => ?_, fun h => ?_, fun h => ?_, fun h => ?_, fun h => ?_⟩ <;> subst h
      · exact of_decide_eq_true hb1
      · exact of_decide_eq_false hb1
      · exact of_decide_eq_true hb2
      · exact of_decide_eq_false hb2
      · have := of_decide_eq_false hb3; omega
      · have := of_decide_eq_false hb4; omega)
    clear hb1 hb2 hb3 hb4 hA64 hF64
    go_upto_region 3 with (first
      | (go_at_call 40; refine HU1.out.mono ?_; rintro x w1 ⟨rfl, hC1, hG1⟩; have HC1 := Lib.hid hC1; have HG1 := Lib.hid hG1; clear hC1 hG1 HU1)
      | (go_at_call 40; refine (HU2.out _ HC1.out).mono ?_; rintro x w2 ⟨rfl, hC2, hG2⟩; have HC2 := Lib.hid hC2; have HG2 := Lib.hid (HG1.out.trans hG2); clear hC2 hG2 HU2))
    have HO2 := Lib.hid (rown_past HO.out HG2.out hgw)
    have HGG := Lib.hid (HG.out.trans HG2.out)
    clear HG1 HC1 HCU HO HG HG2
    have hways : (b1 = true ∧ b2 = true) ∨ ((b1 && b2) = false ∧ bp = true) ∨ (b1 = false ∧ b2 = false ∧ b3 = false ∧ b4 = false) := by
      have := HB.out
      revert this
      cases b1 <;> cases b2 <;> cases b3 <;> cases b4 <;> simp
    rcases hways with ⟨rfl, rfl⟩ | ⟨hne, rfl⟩ | ⟨rfl, rfl, rfl, rfl⟩
    · have hz := HE1.out ⟨HAF.out.1 rfl, HAF.out.2.2.1 rfl⟩
      have HZ := Lib.hid (show T = (X, sU l (sU l s1)) by rw [HTT.out, hz, List.append_nil])
      clear hz HE1 HE2 HE3 HE4 HE5 HTT
      go_wp2_with fail
      go_ret
      exact ⟨_, rfl, by rw [HZ.out]; show w2.ownsRow _ _ 3 _ X.length _; rw [HX.out]; exact HO2.out, by rw [HZ.out]; exact HC2.out, HGG.out⟩
    · have h5 : (b1 = true ∧ b2 = false) ∨ (b1 = false ∧ b2 = true) ∨ (b1 = false ∧ b2 = false ∧ b3 = true) ∨ (b1 = false ∧ b2 = false ∧ b3 = false ∧ b4 = true) := by
        have := HB.out
        revert this hne
        cases b1 <;> cases b2 <;> cases b3 <;> cases b4 <;> simp
      have hno : ¬ (A = 0 ∧ F = 0) := by
        rintro ⟨ha, hf⟩
        rcases h5 with ⟨h1, h2⟩ | ⟨h1, h2⟩ | ⟨h1, h2, -⟩ | ⟨h1, h2, -⟩
        · exact HAF.out.2.2.2.1 h2 hf
        · exact HAF.out.2.1 h1 ha
        · exact HAF.out.2.1 h1 ha
        · exact HAF.out.2.1 h1 ha
      have hz := HE2.out hno rfl
      have HZ := Lib.hid (show T = (X, sF (sU l (sU l s1)) 40) by rw [HTT.out, hz, List.append_nil])
      have HF := Lib.hid (f_st HC2.out 40)
      clear hz hno hne HE1 HE2 HE3 HE4 HE5 HTT HAF HB
      rcases h5 with ⟨rfl, rfl⟩ | ⟨rfl, rfl⟩ | ⟨rfl, rfl, rfl⟩ | ⟨rfl, rfl, rfl, rfl⟩
      all_goals
        go_wp2_with (go_at_call 24; refine HF.out.mono ?_; rintro x w3 ⟨rfl, hC3, hG3⟩; have HC3 := Lib.hid hC3; have HG3 := Lib.hid hG3; clear hC3 hG3)
        (try rw [Exit.noGoto_ret])
        go_ret
        exact ⟨_, rfl, by rw [HZ.out]; show w3.ownsRow _ _ 3 _ X.length _; rw [HX.out]; exact rown_past HO2.out HG3.out hgw, by rw [HZ.out]; exact HC3.out, HGG.out.trans HG3.out⟩
    · have hno : ¬ (A = 0 ∧ F = 0) := fun h => HAF.out.2.1 rfl h.1
      have hbp : bp = false := by rw [HB.out]; rfl
      have hA6 := HAF.out.2.2.2.2.1 rfl
      have hF6 := HAF.out.2.2.2.2.2 rfl
      have hwA : IntKind.i64.wrap (A : Int) = (A : Int) := IntWalk.i64_in _ (by omega)
      have hwF : IntKind.i64.wrap (F : Int) = (F : Int) := IntWalk.i64_in _ (by omega)
      obtain ⟨A3, c3, rfl⟩ := owns_slc HO2.out
      by_cases hk40 : k = 40
      · subst hk40
        have hz := HE3.out hno hbp
        have HZ := Lib.hid (show T = (X, sF (sU l (sU l s1)) 3) by rw [HTT.out, Nat.sub_self, hz, List.append_nil])
        have HF := Lib.hid (f_st HC2.out 3)
        clear hz hno hbp HE1 HE2 HE3 HE4 HE5 HTT HAF HB
        go_wp2_with (go_at_call 24; refine HF.out.mono ?_; rintro x w3 ⟨rfl, hC3, hG3⟩; have HC3 := Lib.hid hC3; have HG3 := Lib.hid hG3; clear hC3 hG3)
        (try rw [Exit.noGoto_ret])
        go_ret
        exact ⟨_, rfl, by rw [HZ.out]; show w3.ownsRow _ _ 3 _ X.length _; rw [HX.out]; exact rown_past HO2.out HG3.out hgw, by rw [HZ.out]; exact HC3.out, HGG.out.trans HG3.out⟩
      · have hkl : k < 40 := by omega
        have e40 : ((k : Int) == 40) = false := by simp; omega
        have hmx : k + 1 ≤ maxLen := by unfold maxLen; omega
        have hby : (k + 1) * 24 ≤ 140737488355328 := by omega
        by_cases h33 : F = 33
        · have n5 : ((F : Int) != 33) = false := by simp [h33]
          have hz := HE4.out (by omega) hno hbp h33
          have HZ := Lib.hid (show T = ((X ++ [⟨(A : Int), (F : Int), tS l (sU l (sU l s1))⟩]) ++ (specsF l (40 - (k + 1) + 1) (sS l (sU l (sU l s1)))).1, (specsF l (40 - (k + 1) + 1) (sS l (sU l (sU l s1)))).2) by
            rw [HTT.out, hz, List.append_assoc, show 40 - (k + 1) + 1 = 40 - k by omega]; rfl)
          have HS := Lib.hid (s_st HC2.out HL.out)
          have hss : sS l (sU l (sU l s1)) = sS l (sU l (sU l s1)) := rfl
          generalize tS l (sU l (sU l s1)) = im at *
          generalize sS l (sU l (sU l s1)) = s3 at *
          clear hz hno hbp hss HE1 HE2 HE3 HE4 HE5 HTT HAF HB h33 hk40
          go_upto_region 10 with fail
          go_wp2_with (first
            | (go_at_call 58; refine HS.out.mono ?_; rintro x w3 ⟨rfl, hC3, hG3⟩; have HC3 := Lib.hid hC3; have HG3 := Lib.hid (HGG.out.trans hG3); have HO3 := Lib.hid (rown_past HO2.out hG3 hgw); have HOA := Lib.hid (row_below HO3.out ((Below.refl w3.heap.size w3).alloc (Nat.le_refl _) (.cells #[.int .i64 (A : Int), .int .i64 (F : Int), .int .i64 im] 56))); have hsz : w.heap.size ≤ w3.heap.size + 1 := (by have := HG3.out.size; omega); clear hC3 hG3)
            | (at_builtin; refine wpList_append_own_at _ (by rfl) (.tmp 51) (.tmp 59) _ (by rfl) w.heap.size 56 i1 _ 3 24 Try.underlying48 hj1 hy0 hy1 hy2 rfl (by decide) _ k (cellsF Spc.cells X) (by rfl) HOA.out ⟨w3.heap.size, 0, none⟩ 1 1 (Spc.cells ⟨(A : Int), (F : Int), im⟩) (by rfl) rfl (fun j u h => cells_newA w3 (Spc.cells ⟨(A : Int), (F : Int), im⟩) _ j u h) (spc_one _) hmx hby (by simpa using hsz) ?_; intro v4 w9 hown4 hg4 hn4 hat4; clear hn4 hat4; have HO4 := Lib.hid hown4; have HG4 := Lib.hid hg4; clear hown4 hg4))
          have HS9 := Lib.hid (curn_append hgw HV.out HC3.out HG3.out HO3.out HG4.out)
          clear HG4
          go_roundg (41 - (k + 1))
          case measure => omega
          case rel => exact ⟨k + 1, _, _, by omega, rfl, Lib.hid (by rw [List.length_append, HX.out]; rfl), Lib.hid (by rw [cellsF_append, cellsF_one]; exact HO4.out), Lib.hid HS9.out.1, Lib.hid HS9.out.2, HZ⟩
        · have n5 : ((F : Int) != 33) = true := by simp; omega
          have hz := HE5.out (by omega) hno hbp h33
          have HZ := Lib.hid (show T = ((X ++ [⟨(A : Int), (F : Int), 0⟩]) ++ (specsF l (40 - (k + 1) + 1) (sU l (sU l s1))).1, (specsF l (40 - (k + 1) + 1) (sU l (sU l s1))).2) by
            rw [HTT.out, hz, List.append_assoc, show 40 - (k + 1) + 1 = 40 - k by omega]; rfl)
          have HOA := Lib.hid (row_below HO2.out ((Below.refl w2.heap.size w2).alloc (Nat.le_refl _) (.cells #[.int .i64 (A : Int), .int .i64 (F : Int), .int .i64 0] 56)))
          have hsz : w.heap.size ≤ w2.heap.size + 1 := by have := HGG.out.size; omega
          clear hz hno hbp HE1 HE2 HE3 HE4 HE5 HTT HAF HB h33 hk40
          go_upto_region 9 with fail
          go_wp2_with (at_builtin; refine wpList_append_own_at _ (by rfl) (.tmp 43) (.tmp 49) _ (by rfl) w.heap.size 56 i1 _ 3 24 Try.underlying48 hj1 hy0 hy1 hy2 rfl (by decide) _ k (cellsF Spc.cells X) (by rfl) HOA.out ⟨w2.heap.size, 0, none⟩ 1 1 (Spc.cells ⟨(A : Int), (F : Int), 0⟩) (by rfl) rfl (fun j u h => cells_newA w2 (Spc.cells ⟨(A : Int), (F : Int), 0⟩) _ j u h) (spc_one _) hmx hby (by simpa using hsz) ?_; intro v4 w9 hown4 hg4 hn4 hat4; clear hn4 hat4; have HO4 := Lib.hid hown4; have HG4 := Lib.hid hg4; clear hown4 hg4)
          have HS9 := Lib.hid (curn_append hgw HV.out HC2.out HGG.out HO2.out HG4.out)
          clear HG4
          go_roundg (41 - (k + 1))
          case measure => omega
          case rel => exact ⟨k + 1, _, _, by omega, rfl, Lib.hid (by rw [List.length_append, HX.out]; rfl), Lib.hid (by rw [cellsF_append, cellsF_one]; exact HO4.out), Lib.hid HS9.out.1, Lib.hid HS9.out.2, HZ⟩

end Go.Proofs.Ytpmndmbhkfbljaa

namespace Go.Proofs.Ytpmndmbhkfbljaa
open Go Go.RowKit Go.Maps

theorem sF_ne (s : CSt) {f : Int} (hf : f ≠ 0) : (sF s f).2 ≠ 0 := by
  unfold sF failOf
  simp only
  split
  · exact hf
  · assumption
theorem zero_in : InI 0 := by constructor <;> decide
theorem tS_in (l : List UInt8) (s : CSt) : InI (tS l s) := by
  unfold tS sOf
  split
  · unfold readS
    split
    · exact zero_in
    · split
      · split
        · rename_i h; exact h
        · exact zero_in
      · exact zero_in
  · exact zero_in
theorem specsF_len (l : List UInt8) : ∀ (n : Nat) (s : CSt), (specsF l n s).1.length ≤ n - 1
  | 0, s => Nat.le_refl _
  | n + 1, s => by
    rw [specsF]
    split
    · exact Nat.zero_le _
    · split
      · exact Nat.zero_le _
      · split
        · exact Nat.zero_le _
        · have h1 := specsF_len l n (sS l (sU l (sU l s)))
          have h2 := specsF_len l n (sU l (sU l s))
          split
          · simp only [List.length_cons]; omega
          · simp only [List.length_cons]; omega
theorem small_in {n : Nat} (h : n ≤ 65535) : InI (n : Int) := by
  constructor <;> omega
theorem badP_no {a f : Nat} (h : ¬ badP a f = true) : a ≤ 65535 ∧ f ≤ 65535 := by
  unfold badP at h
  simp only [Bool.or_eq_true, decide_eq_true_eq, not_or] at h
  omega
theorem specsF_in (l : List UInt8) : ∀ (n : Nat) (s : CSt), ∀ x ∈ (specsF l n s).1, x.In
  | 0, s => fun x hx => by cases hx
  | n + 1, s => by
    rw [specsF]
    split
    · exact fun x hx => by cases hx
    · split
      · exact fun x hx => by cases hx
      · rename_i hb
        obtain ⟨ha, hf⟩ := badP_no hb
        split
        · exact fun x hx => by cases hx
        · have h1 := specsF_in l n (sS l (sU l (sU l s)))
          have h2 := specsF_in l n (sU l (sU l s))
          split
          · intro x hx
            rcases List.mem_cons.1 hx with rfl | hx
            · exact ⟨small_in ha, small_in hf, tS_in _ _⟩
            · exact h1 x hx
          · intro x hx
            rcases List.mem_cons.1 hx with rfl | hx
            · exact ⟨small_in ha, small_in hf, zero_in⟩
            · exact h2 x hx
theorem tagT_le (l : List UInt8) (s : CSt) : tagT l s ≤ 65535 := by
  unfold tagT
  split <;> omega
/-- An abbreviation whose numbers are numbers of 64 bits. -/
structure Abb.In (x : Abb) : Prop where
  code : x.code < two64
  tag : InI x.tag
  len : x.l.length ≤ 100000
  spcs : ∀ y ∈ x.l, y.In
theorem abbT_in (l : List UInt8) (c : Nat) (hc : c < two64) (s : CSt) : (abbT l c s).In :=
  ⟨hc, small_in (tagT_le l s), by have := specsF_len l 41 (kidS l (tagS l s)); show (specsF l 41 _).1.length ≤ 100000; omega, specsF_in l 41 _⟩

/-! ### Abbreviations of the call's own -/
theorem own_lower {w : World} {B B' m n : Nat} {t : TypeId} {v : Value} {xs : List Value} (h : w.ownsRow B t m v n xs) (hB : B' ≤ B) : w.ownsRow B' t m v n xs := by
  refine ⟨h.1, ?_⟩
  rcases h.2 with h0 | ⟨g, cap, cur, e, hb, r⟩
  · exact .inl h0
  · exact .inr ⟨g, cap, cur, e, Nat.le_trans hB hb, r⟩
/-- A row of another type stays behind a step of one. -/
theorem own_apart {w w' : World} {B B' m m' n n' : Nat} {t t' : TypeId} {v v' : Value} {xs xs' : List Value} (h : w.ownsRow B t m v n xs) (h' : w.ownsRow B' t' m' v' n' xs') (ht : t ≠ t') (hg : w.grownBy w' v'.ownBlock) : w'.ownsRow B t m v n xs := by
  refine h.kept hg ?_
  rcases h.2 with ⟨rfl, _⟩ | ⟨g, cap, cur, rfl, _, hh, _⟩
  · exact .inl rfl
  · rcases h'.2 with ⟨rfl, _⟩ | ⟨g', cap', cur', rfl, _, hh', _⟩
    · exact .inr (by simp [Value.ownBlock])
    · refine .inr fun e => ?_
      have e' : g = g' := by simpa [Value.ownBlock] using e
      subst e'
      rw [hh] at hh'
      injection hh' with hh'
      injection hh' with _ hh'
      exact ht hh'
abbrev OwnSp (w : World) (base : Nat) (y : ALay) : Prop := w.ownsRow base 56 3 (.slice y.a y.x.l.length y.c) y.x.l.length (cellsF Spc.cells y.x.l)
structure OwnA (w : World) (base : Nat) (v : Value) (L : List ALay) : Prop where
  row : w.ownsRow base 50 4 v L.length (cellsF ALay.cells L)
  spcs : ∀ y ∈ L, OwnSp w base y
theorem OwnA.nil (w : World) (base : Nat) : OwnA w base (.slice none 0 0) [] := ⟨World.ownsRow_nil _ _ _ _, fun y hy => by cases hy⟩
theorem OwnA.past {w w' : World} {base g : Nat} {v : Value} {L : List ALay} (h : OwnA w base v L) (hg : w.grownBy w' (some g)) (hlt : g < base) : OwnA w' base v L := ⟨rown_past h.row hg hlt, fun y hy => rown_past (h.spcs y hy) hg hlt⟩
theorem OwnA.below {w w' : World} {base : Nat} {v : Value} {L : List ALay} (h : OwnA w base v L) (hb : Below w.heap.size w w') : OwnA w' base v L := ⟨row_below h.row hb, fun y hy => row_below (h.spcs y hy) hb⟩
/-- As abbreviations that lie. -/
theorem OwnA.lies {w : World} {base : Nat} {v : Value} {L : List ALay} (h : OwnA w base v L) : ∃ A c, v = .slice A L.length c ∧ L.length ≤ c ∧ c ≤ maxLen ∧ Abbs w w.heap.size A L := by
  obtain ⟨A, c, e, h1, h2, hr⟩ := own_row abb_four h.row
  refine ⟨A, c, e, h1, h2, hr, fun y hy => ?_⟩
  obtain ⟨A', c', e', -, -, hr'⟩ := own_row spc_three (h.spcs y hy)
  injection e' with e1 _ _
  rw [e1]
  exact hr'
theorem OwnA.slice {w : World} {base : Nat} {v : Value} {L : List ALay} (h : OwnA w base v L) : ∃ A c, v = .slice A L.length c := by
  obtain ⟨A, c, e, -⟩ := h.lies
  exact ⟨A, c, e⟩

set_option maxRecDepth 10000 in
set_option maxHeartbeats 3200000 in
theorem abbrevs_st {w : World} {g : Nat} {v : Value} {l : List UInt8} {s : CSt} (h : Cur w g v l s.1 s.2) (hlen : l.length ≤ 140737488355328) :
    Calls Try.prog 23 #[.pointer (some ⟨g, 0, none⟩)] w fun x w' => ∃ u L, x = .returned u ∧ OwnA w' w.heap.size u L ∧ L.length ≤ 300 ∧ (∀ y ∈ L, y.x.In) ∧ ((tabF l 301 s).2.2 = 0 → L.map ALay.x = (tabF l 301 s).1) ∧ Cur w' g v l (tabF l 301 s).2.1 (tabF l 301 s).2.2 ∧ w.grownBy w' (some g) := by
  have hgw := h.1.lt
  have hv := own_lt h.2.1
  have HC := Lib.hid h
  have HL := Lib.hid hlen
  have HV := Lib.hid hv
  clear h hlen hv
  obtain ⟨T, hT⟩ : ∃ T, tabF l 301 s = T := ⟨_, rfl⟩
  have HT := Lib.hid hT
  rw [hT]
  clear hT
  obtain ⟨i1, hj1, hy0, hy1, hy2⟩ := info_parts abb_info
  have HO0 := Lib.hid (OwnA.nil w w.heap.size)
  go_enter Try.func23, Try.ntmps23
  go_wp2_with fail
  go_loopg [3] 301 (fun gk u wr => ∃ (k : Nat) (X : List ALay) (s1 : CSt), k ≤ 300 ∧ gk = 301 - k ∧ Hid (X.length = k) ∧ Hid (OwnA wr w.heap.size u X) ∧ Hid (∀ y ∈ X, y.x.In) ∧ Hid (Cur wr g v l s1.1 s1.2) ∧ Hid (w.grownBy wr (some g)) ∧ Hid (T = (X.map ALay.x ++ (tabF l (300 - k + 1) s1).1, (tabF l (300 - k + 1) s1).2)))
  case atStart => exact ⟨0, [], s, Nat.zero_le _, rfl, Lib.hid rfl, HO0, Lib.hid (by intro y hy; cases hy), HC, Lib.hid (only_refl _ _), Lib.hid HT.out.symm⟩
  case round =>
    obtain ⟨k, X, s1, hk, rfl, HX, HO, HIN, HCU, HG, HTT⟩ := hrel
    clear HO0 HC HT
    have HU := Lib.hid (u_st HCU.out HL.out)
    have HA64 := Lib.hid (tU_lt l s1)
    have HE1 := Lib.hid (@tabF_end l (300 - k) s1)
    have HE2 := Lib.hid (@tabF_full l s1)
    have HE3 := Lib.hid (@tabF_more l (300 - k) s1)
    generalize tU l s1 = A at *
    go_upto_region 3 with (go_at_call 40; refine HU.out.mono ?_; rintro x w1 ⟨rfl, hC1, hG1⟩; have HC1 := Lib.hid hC1; have HG1 := Lib.hid hG1; clear hC1 hG1 HU)
    have HO1 := Lib.hid (HO.out.past HG1.out hgw)
    have HGG := Lib.hid (HG.out.trans HG1.out)
    clear HG1 HCU HO HG
    by_cases hA : A = 0
    · have n1 : ((A : Int) == 0) = true := by simp [hA]
      have hz := HE1.out hA
      have HZ := Lib.hid (show T = (X.map ALay.x, sU l s1) by rw [HTT.out, hz, List.append_nil])
      clear hz hA HE1 HE2 HE3 HTT
      go_wp2_with fail
      (try rw [Exit.noGoto_ret])
      go_ret
      exact ⟨_, X, rfl, HO1.out, by rw [HX.out]; exact hk, HIN.out, fun _ => by rw [HZ.out], by rw [HZ.out]; exact HC1.out, HGG.out⟩
    · have n1 : ((A : Int) == 0) = false := by simp [hA]
      obtain ⟨A3, c3, hu⟩ := HO1.out.slice
      rw [HX.out] at hu
      subst hu
      by_cases hk3 : k = 300
      · subst hk3
        have hz := HE2.out hA
        have HZ := Lib.hid (show T = (X.map ALay.x, sF (sU l s1) 3) by rw [HTT.out, Nat.sub_self, hz, List.append_nil])
        have HF := Lib.hid (f_st HC1.out 3)
        clear hz hA HE1 HE2 HE3 HTT
        go_wp2_with (go_at_call 24; refine HF.out.mono ?_; rintro x w3 ⟨rfl, hC3, hG3⟩; have HC3 := Lib.hid hC3; have HG3 := Lib.hid hG3; clear hC3 hG3)
        (try rw [Exit.noGoto_ret])
        go_ret
        exact ⟨_, [], rfl, OwnA.nil _ _, Nat.zero_le _, (fun y hy => by cases hy), (fun h => absurd h (by rw [HZ.out]; exact sF_ne _ (by decide))), by rw [HZ.out]; exact HC3.out, HGG.out.trans HG3.out⟩
      · have hkl : k < 300 := by omega
        have e40 : ((k : Int) == 300) = false := by simp; omega
        have hmx : k + 1 ≤ maxLen := by unfold maxLen; omega
        have hby : (k + 1) * 48 ≤ 140737488355328 := by omega
        have hz := HE3.out (by omega) hA
        have HZ := Lib.hid (show T = (X.map ALay.x ++ [abbT l A (sU l s1)] ++ (tabF l (300 - (k + 1) + 1) (abbS l (sU l s1))).1, (tabF l (300 - (k + 1) + 1) (abbS l (sU l s1))).2) by
          rw [HTT.out, hz, List.append_assoc, show 300 - (k + 1) + 1 = 300 - k by omega]; rfl)
        have HAI := Lib.hid (abbT_in l A HA64.out (sU l s1))
        have HAX := Lib.hid (show abbT l A (sU l s1) = ⟨A, (tagT l (sU l s1) : Int), kidT l (tagS l (sU l s1)), (specsF l 41 (kidS l (tagS l (sU l s1)))).1⟩ from rfl)
        have HAS := Lib.hid (show abbS l (sU l s1) = (specsF l 41 (kidS l (tagS l (sU l s1)))).2 from rfl)
        have HT1 := Lib.hid (tag_st HC1.out HL.out)
        have HK1 := Lib.hid (fun (W : World) (hW : Cur W g v l (tagS l (sU l s1)).1 (tagS l (sU l s1)).2) => kids_st hW HL.out)
        have HP1 := Lib.hid (fun (W : World) (hW : Cur W g v l (kidS l (tagS l (sU l s1))).1 (kidS l (tagS l (sU l s1))).2) => specs_st hW HL.out)
        generalize abbT l A (sU l s1) = ab at *
        generalize abbS l (sU l s1) = s9 at *
        generalize specsF l 41 (kidS l (tagS l (sU l s1))) = sp at *
        generalize kidS l (tagS l (sU l s1)) = s4 at *
        generalize kidT l (tagS l (sU l s1)) = kd at *
        generalize tagS l (sU l s1) = s3 at *
        generalize tagT l (sU l s1) = tg at *
        clear hz hA HE1 HE2 HE3 HTT hk3
        go_upto_region 8 with fail
        go_wp2_with (first
          | (go_at_call 41; refine HT1.out.mono ?_; rintro x w3 ⟨rfl, hC3, hG3⟩; have HC3 := Lib.hid hC3; have HG3 := Lib.hid hG3; clear hC3 hG3)
          | (go_at_call 42; refine (HK1.out _ HC3.out).mono ?_; rintro x w4 ⟨rfl, hC4, hG4⟩; have HC4 := Lib.hid hC4; have HG4 := Lib.hid (HG3.out.trans hG4); clear hC4 hG4)
          | (go_at_call 43; refine (HP1.out _ HC4.out).mono ?_; rintro x w5 ⟨u5, rfl, hR5, hC5, hG5⟩; have HR5 := Lib.hid hR5; have HC5 := Lib.hid hC5; have HG5 := Lib.hid (HG4.out.trans hG5); (obtain ⟨A5, c5, rfl⟩ := owns_slc hR5); have HO5 := Lib.hid (HO1.out.past HG5.out hgw); have HGW := Lib.hid (HGG.out.trans HG5.out); have HSP := Lib.hid (own_lower hR5 (show w.heap.size ≤ w4.heap.size from Nat.le_trans HGG.out.size HG4.out.size)); have HRW := Lib.hid (show w5.ownsRow w.heap.size 50 4 (.slice A3 k c3) k (cellsF ALay.cells X) from by have := HO5.out.row; rwa [HX.out] at this); have HOA := Lib.hid (row_below HRW.out ((Below.refl w5.heap.size w5).alloc (Nat.le_refl _) (.cells #[.int .u64 (A : Int), .int .i64 (tg : Int), .bool kd, .slice A5 sp.1.length c5] 50))); have hsz : w.heap.size ≤ w5.heap.size + 1 := (by have := HGW.out.size; omega); clear hR5 hC5 hG5)
          | (at_builtin; refine wpList_append_own_at _ (by rfl) (.tmp 17) (.tmp 26) _ (by rfl) w.heap.size 50 i1 _ 4 48 Try.underlying30 hj1 hy0 hy1 hy2 rfl (by decide) _ k (cellsF ALay.cells X) (by rfl) HOA.out ⟨w5.heap.size, 0, none⟩ 1 1 (ALay.cells ⟨⟨A, (tg : Int), kd, sp.1⟩, A5, c5⟩) (by rfl) rfl (fun j u h => cells_newA w5 (ALay.cells ⟨⟨A, (tg : Int), kd, sp.1⟩, A5, c5⟩) _ j u h) (abb_one _) hmx hby (by simpa using hsz) ?_; intro v6 w6 hown6 hg6 hn6 hat6; clear hn6 hat6; have HO6 := Lib.hid hown6; have HG6 := Lib.hid hg6; clear hown6 hg6))
        have hax := HAX.out
        subst hax
        have HS6 := Lib.hid (curn_append hgw HV.out HC5.out HGW.out HRW.out HG6.out)
        have hA5 := (Below.refl w5.heap.size w5).alloc (Nat.le_refl _) (.cells #[.int .u64 (A : Int), .int .i64 (tg : Int), .bool kd, .slice A5 sp.1.length c5] 50)
        have HON := Lib.hid (show OwnA w6 w.heap.size v6 (X ++ [⟨⟨A, (tg : Int), kd, sp.1⟩, A5, c5⟩]) from ⟨by
          rw [List.length_append, HX.out, cellsF_append, cellsF_one]
          exact HO6.out, fun y hy => by
          rcases List.mem_append.1 hy with hy | hy
          · exact own_apart (row_below (HO5.out.spcs y hy) hA5) HOA.out (by decide) HG6.out
          · rw [List.mem_singleton.1 hy]
            exact own_apart (row_below HSP.out hA5) HOA.out (by decide) HG6.out⟩)
        clear HG6 HO6 hA5
        go_roundg (301 - (k + 1))
        case measure => omega
        case rel => exact ⟨k + 1, _, s9, by omega, rfl, Lib.hid (by rw [List.length_append, HX.out]; rfl), HON, Lib.hid (fun y hy => by
          rcases List.mem_append.1 hy with hy | hy
          · exact HIN.out y hy
          · rw [List.mem_singleton.1 hy]; exact HAI.out), Lib.hid (by have := HS6.out.1; rw [HAS.out]; exact this), Lib.hid HS6.out.2, Lib.hid (by rw [List.map_append]; exact HZ.out)⟩

theorem lays_in {L : List ALay} (h : ∀ y ∈ L, y.x.In) : ∀ y ∈ L, y.In := fun y hy => ⟨(h y hy).code, (h y hy).tag, (h y hy).len, (h y hy).spcs⟩
theorem failOf_no {e : Int} (h : e ≠ 0) (f : Int) : failOf e f = e := by unfold failOf; rw [if_neg h]
theorem take_ok {l : List UInt8} {s : CSt} (h : (tabF l 301 s).2.2 = 0) (hr : rightA (tabF l 301 s).1 = true) : takeAE l s = 0 ∧ takeAL l s = (tabF l 301 s).1 := by
  have h1 : takeAE l s = 0 := by unfold takeAE; rw [if_pos h, if_pos hr]
  exact ⟨h1, by unfold takeAL; rw [if_pos h1]⟩
theorem take_no {l : List UInt8} {s : CSt} (h : (tabF l 301 s).2.2 = 0) (hr : rightA (tabF l 301 s).1 = false) : takeAE l s = 40 ∧ takeAL l s = [] := by
  have h1 : takeAE l s = 40 := by unfold takeAE; rw [if_pos h, if_neg (by rw [hr]; simp)]
  exact ⟨h1, by unfold takeAL; rw [if_neg (by rw [h1]; decide)]⟩
theorem take_bad {l : List UInt8} {s : CSt} (h : (tabF l 301 s).2.2 ≠ 0) : takeAE l s = (tabF l 301 s).2.2 ∧ takeAL l s = [] := by
  have h1 : takeAE l s = (tabF l 301 s).2.2 := by unfold takeAE; rw [if_neg h]
  exact ⟨h1, by unfold takeAL; rw [if_neg (by rw [h1]; exact h)]⟩

set_option maxRecDepth 10000 in
set_option maxHeartbeats 1600000 in
/-- Take, of a cursor over bytes. -/
theorem takeA_st {w : World} {g : Nat} {v : Value} {l : List UInt8} {s : CSt} (h : Cur w g v l s.1 s.2) (hlen : l.length ≤ 140737488355328) :
    Calls Try.prog 7 #[.pointer (some ⟨g, 0, none⟩)] w fun x w' => ∃ u L, x = .returned (.tuple #[u, .int .i64 (takeAE l s)]) ∧ OwnA w' w.heap.size u L ∧ L.map ALay.x = takeAL l s ∧ (∀ y ∈ L, y.x.In) ∧ L.length ≤ 300 ∧ Cur w' g v l (takeAP l s) (takeAE l s) ∧ w.grownBy w' (some g) := by
  have hgw := h.1.lt
  have HA := Lib.hid (abbrevs_st h hlen)
  have HP := Lib.hid (show takeAP l s = (tabF l 301 s).2.1 from rfl)
  have H1 := Lib.hid (@take_ok l s)
  have H2 := Lib.hid (@take_no l s)
  have H3 := Lib.hid (@take_bad l s)
  clear h hlen
  generalize takeAP l s = P at *
  generalize takeAE l s = E at *
  generalize takeAL l s = R at *
  generalize tabF l 301 s = T at *
  go_enter Try.func7, Try.ntmps7
  go_upto_region 2 with (go_at_call 23; refine HA.out.mono ?_; rintro x w1 ⟨u1, L, rfl, hO1, hl1, hin1, hm1, hC1, hG1⟩; have HO1 := Lib.hid hO1; have HL1 := Lib.hid hl1; have HI1 := Lib.hid hin1; have HM1 := Lib.hid hm1; have HC1 := Lib.hid hC1; have HG1 := Lib.hid hG1; clear hO1 hl1 hin1 hm1 hC1 hG1)
  obtain ⟨A1, c1, rfl, -, -, hlies⟩ := HO1.out.lies
  have HR := Lib.hid (rightA_any hlies c1 (by have := HL1.out; omega) (lays_in HI1.out))
  clear hlies
  generalize hN : L.length = N at *
  obtain ⟨b, hb⟩ : ∃ b, rightA (absOf L) = b := ⟨_, rfl⟩
  have HB := Lib.hid hb
  rw [hb] at HR
  have HN := Lib.hid hN
  clear HA hb hN
  by_cases he : T.2.2 = 0
  · have HT := Lib.hid (show L.map ALay.x = T.1 from HM1.out he)
    have HE := Lib.hid he
    clear he
    cases b with
    | true =>
      have hh := H1.out HE.out (by rw [← HT.out]; exact HB.out)
      have HH := Lib.hid hh
      clear hh
      go_wp2_with (first
        | (go_at_call 17; refine HR.out.mono ?_; rintro x w2 ⟨rfl, hb2⟩; have HB2 := Lib.hid hb2; have HC2 := Lib.hid (HC1.out.below hb2); have hE2 := err_cur HC2.out; rw [HE.out] at hE2; clear hb2)
        | (go_at_call 10; refine hE2.mono ?_; rintro x w3 ⟨rfl, rfl⟩; clear hE2))
      go_ret2
      exact ⟨_, L, by rw [HH.out.1]; rfl, HO1.out.below HB2.out, by rw [HH.out.2]; exact HT.out, HI1.out, by rw [HN.out]; exact HL1.out, by have := HC2.out; rw [HE.out] at this; rw [HH.out.1, HP.out]; exact this, HG1.out.trans (only_below (HB2.out) _)⟩
    | false =>
      have hh := H2.out HE.out (by rw [← HT.out]; exact HB.out)
      have HH := Lib.hid hh
      clear hh
      go_wp2_with (first
        | (go_at_call 17; refine HR.out.mono ?_; rintro x w2 ⟨rfl, hb2⟩; have HB2 := Lib.hid hb2; have HC2 := Lib.hid (HC1.out.below hb2); have hF2 := fail_cur HC2.out 40; rw [HE.out] at hF2; clear hb2)
        | (go_at_call 24; refine hF2.mono ?_; rintro x w3 ⟨rfl, hC3, hG3⟩; have HC3 := Lib.hid hC3; have HG3 := Lib.hid hG3; have hE3 := err_cur HC3.out; clear hF2 hC3 hG3)
        | (go_at_call 10; refine hE3.mono ?_; rintro x w4 ⟨rfl, rfl⟩; clear hE3))
      go_ret2
      exact ⟨_, [], by rw [HH.out.1]; rfl, OwnA.nil _ _, by rw [HH.out.2]; rfl, (fun y hy => by cases hy), Nat.zero_le _, by have := HC3.out; rw [HH.out.1, HP.out]; exact this, (HG1.out.trans (only_below (HB2.out) _)).trans HG3.out⟩
  · have hh := H3.out he
    have HH := Lib.hid hh
    have HE := Lib.hid he
    have hne : (T.2.2 != 0) = true := by simp [he]
    clear hh he
    generalize hT2 : T.2.2 = e at *
    cases b with
    | true =>
      go_wp2_with (first
        | (go_at_call 17; refine HR.out.mono ?_; rintro x w2 ⟨rfl, hb2⟩; have HB2 := Lib.hid hb2; have HC2 := Lib.hid (HC1.out.below hb2); have hE2 := err_cur HC2.out; clear hb2)
        | (go_at_call 10; refine hE2.mono ?_; rintro x w3 ⟨rfl, rfl⟩; clear hE2))
      go_ret2
      exact ⟨_, [], by rw [HH.out.1]; rfl, OwnA.nil _ _, by rw [HH.out.2]; rfl, (fun y hy => by cases hy), Nat.zero_le _, by have := HC2.out; rw [HH.out.1, HP.out]; exact this, HG1.out.trans (only_below (HB2.out) _)⟩
    | false =>
      go_wp2_with (first
        | (go_at_call 17; refine HR.out.mono ?_; rintro x w2 ⟨rfl, hb2⟩; have HB2 := Lib.hid hb2; have HC2 := Lib.hid (HC1.out.below hb2); have hF2 := fail_cur HC2.out 40; rw [failOf_no HE.out] at hF2; clear hb2)
        | (go_at_call 24; refine hF2.mono ?_; rintro x w3 ⟨rfl, hC3, hG3⟩; have HC3 := Lib.hid hC3; have HG3 := Lib.hid hG3; have hE3 := err_cur HC3.out; clear hF2 hC3 hG3)
        | (go_at_call 10; refine hE3.mono ?_; rintro x w4 ⟨rfl, rfl⟩; clear hE3))
      go_ret2
      exact ⟨_, [], by rw [HH.out.1]; rfl, OwnA.nil _ _, by rw [HH.out.2]; rfl, (fun y hy => by cases hy), Nat.zero_le _, by have := HC3.out; rw [HH.out.1, HP.out]; exact this, (HG1.out.trans (only_below (HB2.out) _)).trans HG3.out⟩

end Go.Proofs.Ytpmndmbhkfbljaa
