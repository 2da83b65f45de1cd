/-
  The document's Same of tables, Bulk.
-/
import Derived.Test.YtpmndmbhkfbljaaAbE
import Derived.Test.YtpmndmbhkfbljaaRefU
import Derived.Test.YtpmndmbhkfbljaaCsA
import Derived.Test.YtpmndmbhkfbljaaParts
namespace Go.Proofs.Ytpmndmbhkfbljaa
open Go Go.RowKit Go.Maps

theorem spec_info : (Try.prog.info? 56).map (fun i => (i.zero, i.size, i.bytes)) = some (some (.agg #[.int .i64 0, .int .i64 0, .int .i64 0]), 3, 24) := by kernel_rfl
theorem abb_info : (Try.prog.info? 50).map (fun i => (i.zero, i.size, i.bytes)) = some (some (.agg #[.int .u64 0, .int .i64 0, .bool false, .slice none 0 0]), 4, 48) := by kernel_rfl
theorem tU_lt (l : List UInt8) (s : CSt) : tU l s < two64 := by
  unfold tU uOf
  split
  · unfold readU
    split
    · show (0 : Nat) < _; unfold two64; omega
    · split
      · split
        · rename_i h; exact h
        · show (0 : Nat) < _; unfold two64; omega
      · show (0 : Nat) < _; unfold two64; omega
  · show (0 : Nat) < _; unfold two64; omega

section
variable {w : World} {g : Nat} {v : Value} {l : List UInt8}
theorem u_st {s : CSt} (h : Cur w g v l s.1 s.2) (hlen : l.length ≤ 140737488355328) :
    Calls Try.prog 40 #[.pointer (some ⟨g, 0, none⟩)] w fun x w' => x = .returned (.int .u64 (tU l s : Int)) ∧ Cur w' g v l (sU l s).1 (sU l s).2 ∧ w.grownBy w' (some g) := u_cur h hlen
theorem s_st {s : CSt} (h : Cur w g v l s.1 s.2) (hlen : l.length ≤ 140737488355328) :
    Calls Try.prog 58 #[.pointer (some ⟨g, 0, none⟩)] w fun x w' => x = .returned (.int .i64 (tS l s)) ∧ Cur w' g v l (sS l s).1 (sS l s).2 ∧ w.grownBy w' (some g) := s_cur h hlen
theorem b_st {s : CSt} (h : Cur w g v l s.1 s.2) (hlen : l.length ≤ 140737488355328) :
    Calls Try.prog 57 #[.pointer (some ⟨g, 0, none⟩)] w fun x w' => x = .returned (.int .u64 (tB l s : Int)) ∧ Cur w' g v l (sB l s).1 (sB l s).2 ∧ w.grownBy w' (some g) := u8_cur h hlen
theorem f_st {s : CSt} (h : Cur w g v l s.1 s.2) (f : Int) :
    Calls Try.prog 24 #[.pointer (some ⟨g, 0, none⟩), .int .i64 f] w fun x w' => x = .returned (.tuple #[]) ∧ Cur w' g v l (sF s f).1 (sF s f).2 ∧ w.grownBy w' (some g) := fail_cur h f

set_option maxRecDepth 10000 in
theorem tag_st {s : CSt} (h : Cur w g v l s.1 s.2) (hlen : l.length ≤ 140737488355328) :
    Calls Try.prog 41 #[.pointer (some ⟨g, 0, none⟩)] w fun x w' => x = .returned (.int .i64 (tagT l s : Int)) ∧ Cur w' g v l (tagS l s).1 (tagS l s).2 ∧ w.grownBy w' (some g) := by
  have HU := Lib.hid (u_st h hlen)
  have HF := Lib.hid (fun (W : World) (hW : Cur W g v l (sU l s).1 (sU l s).2) => f_st hW 40)
  have HT := Lib.hid (show tagT l s = if 65535 < tU l s then 0 else tU l s from rfl)
  have HS := Lib.hid (show tagS l s = if 65535 < tU l s then sF (sU l s) 40 else sU l s from rfl)
  generalize tU l s = n at *
  generalize sU l s = s1 at *
  generalize tagT l s = r at *
  generalize tagS l s = s2 at *
  clear h hlen
  by_cases hn : 65535 < n
  · have d : decide ((65535 : Int) < (n : Int)) = true := decide_eq_true (by omega)
    rw [if_pos hn] at HT HS
    clear hn
    go_enter Try.func41, Try.ntmps41
    go_wp2_with (first
      | (go_at_call 40; refine HU.out.mono ?_; rintro x w1 ⟨rfl, hC1, hG1⟩; have HC1 := Lib.hid hC1; have HG1 := Lib.hid hG1; clear hC1 hG1)
      | (go_at_call 24; refine (HF.out _ HC1.out).mono ?_; rintro x w2 ⟨rfl, hC2, hG2⟩; have HC2 := Lib.hid hC2; have HG2 := Lib.hid hG2; clear hC2 hG2))
    go_ret
    exact ⟨by rw [HT.out]; rfl, by rw [HS.out]; exact HC2.out, HG1.out.trans HG2.out⟩
  · have d : decide ((65535 : Int) < (n : Int)) = false := decide_eq_false (by omega)
    have hw : IntKind.i64.wrap (n : Int) = (n : Int) := IntWalk.i64_in _ (by omega)
    rw [if_neg hn] at HT HS
    clear hn
    go_enter Try.func41, Try.ntmps41
    go_wp2_with (first
      | (go_at_call 40; refine HU.out.mono ?_; rintro x w1 ⟨rfl, hC1, hG1⟩; have HC1 := Lib.hid hC1; have HG1 := Lib.hid hG1; clear hC1 hG1))
    go_ret
    exact ⟨by rw [HT.out]; rfl, by rw [HS.out]; exact HC1.out, HG1.out⟩

set_option maxRecDepth 10000 in
theorem kids_st {s : CSt} (h : Cur w g v l s.1 s.2) (hlen : l.length ≤ 140737488355328) :
    Calls Try.prog 42 #[.pointer (some ⟨g, 0, none⟩)] w fun x w' => x = .returned (.bool (kidT l s)) ∧ Cur w' g v l (kidS l s).1 (kidS l s).2 ∧ w.grownBy w' (some g) := by
  have HU := Lib.hid (b_st h hlen)
  have HF := Lib.hid (fun (W : World) (hW : Cur W g v l (sB l s).1 (sB l s).2) => f_st hW 40)
  have hk : ((tB l s : Int) == 1) = kidT l s := by unfold kidT; rw [Bool.eq_iff_iff]; simp; omega
  have HS := Lib.hid (show kidS l s = if 1 < tB l s then sF (sB l s) 40 else sB l s from rfl)
  generalize kidT l s = r at *
  generalize kidS l s = s2 at *
  generalize tB l s = n at *
  generalize sB l s = s1 at *
  clear h hlen
  by_cases hn : 1 < n
  · have d : decide ((1 : Int) < (n : Int)) = true := decide_eq_true (by omega)
    rw [if_pos hn] at HS
    clear hn
    go_enter Try.func42, Try.ntmps42
    go_wp2_with (first
      | (go_at_call 57; refine HU.out.mono ?_; rintro x w1 ⟨rfl, hC1, hG1⟩; have HC1 := Lib.hid hC1; have HG1 := Lib.hid hG1; clear hC1 hG1)
      | (go_at_call 24; refine (HF.out _ HC1.out).mono ?_; rintro x w2 ⟨rfl, hC2, hG2⟩; have HC2 := Lib.hid hC2; have HG2 := Lib.hid hG2; clear hC2 hG2))
    go_ret
    exact ⟨rfl, by rw [HS.out]; exact HC2.out, HG1.out.trans HG2.out⟩
  · have d : decide ((1 : Int) < (n : Int)) = false := decide_eq_false (by omega)
    rw [if_neg hn] at HS
    clear hn
    go_enter Try.func42, Try.ntmps42
    go_wp2_with (first
      | (go_at_call 57; refine HU.out.mono ?_; rintro x w1 ⟨rfl, hC1, hG1⟩; have HC1 := Lib.hid hC1; have HG1 := Lib.hid hG1; clear hC1 hG1))
    go_ret
    exact ⟨rfl, by rw [HS.out]; exact HC1.out, HG1.out⟩
end

/-! ### Pairs -/
theorem cells_newA (w : World) (cs : List Value) (T : TypeId) (j : Nat) (u : Value) (h : cs[j]? = some u) : (w.alloc (.cells cs.toArray T)).cell? ((⟨w.heap.size, 0, none⟩ : Addr).add j) = some u := by
  rw [addr_add, Nat.zero_add, (Box.new w T cs.toArray).cell]
  simpa using h
theorem owns_slc {X : World} {B k n : Nat} {e : TypeId} {v : Value} {xs : List Value} (h : X.ownsRow B e n v k xs) : ∃ A c, v = .slice A k c := by
  rcases h.2 with ⟨rfl, h0⟩ | ⟨g, cap, cur, rfl, _⟩
  · exact ⟨none, 0, by rw [h0]⟩
  · exact ⟨_, _, rfl⟩
theorem rown_past {w w' : World} {base g m : Nat} {t : TypeId} {v : Value} {n : Nat} {xs : List Value} (h : w.ownsRow base t m v n xs) (hg : w.grownBy w' (some g)) (hlt : g < base) : w'.ownsRow base t m v n xs := by
  refine h.kept hg ?_
  rcases hv : v.ownBlock with _ | q
  · exact .inl rfl
  · refine .inr fun e => ?_
    have := (h.lt q hv).1
    injection e with e
    omega
/-- The cursor, and all that lay there, behind an append to a row of the call's own. -/
theorem curn_append {w W W1 : World} {g : Nat} {v u : Value} {l : List UInt8} {a : Nat} {e : Int} {o : Obj} {n m : Nat} {xs : List Value} {t : TypeId} (hgw : g < w.heap.size) (hv : ∀ k, v.ownBlock = some k → k < w.heap.size) (hC : Cur W g v l a e) (hG : w.grownBy W (some g)) (hrow : W.ownsRow w.heap.size t m u n xs) (h2 : (W.alloc o).grownBy W1 u.ownBlock) :
    Cur W1 g v l a e ∧ w.grownBy W1 (some g) := by
  have h3 : Cur (W.alloc o) g v l a e := hC.below ((Below.refl _ _).alloc (Nat.le_refl _) o)
  have hge := fun k hk => (hrow.lt k hk).1
  refine ⟨h3.grown h2 (fun e => by have := hge g e.symm; omega) ?_, ?_⟩
  · rcases hb : v.ownBlock with _ | k
    · exact .inl rfl
    · exact .inr fun e => by have := hv k hb; have := hge k e.symm; omega
  · exact only_trans (only_then_below hG ((Below.refl _ _).alloc (Nat.le_refl _) o)) h2 (.inr hge)

set_option maxRecDepth 10000 in
set_option maxHeartbeats 3200000 in
theorem specs_st {w : World} {g : Nat} {v : Value} {l : List UInt8} {s : CSt} (h : Cur w g v l s.1 s.2) (hlen : l.length ≤ 140737488355328) :
    Calls Try.prog 43 #[.pointer (some ⟨g, 0, none⟩)] w fun x w' => ∃ u, x = .returned u ∧ w'.ownsRow w.heap.size 56 3 u (specsF l 41 s).1.length (cellsF Spc.cells (specsF l 41 s).1) ∧ Cur w' g v l (specsF l 41 s).2.1 (specsF l 41 s).2.2 ∧ w.grownBy w' (some g) := by
  have hgw := h.1.lt
  have hv := own_lt h.2.1
  have HC := Lib.hid h
  have HL := Lib.hid hlen
  have HV := Lib.hid hv
  clear h hlen hv
  obtain ⟨T, hT⟩ : ∃ T, specsF l 41 s = T := ⟨_, rfl⟩
  have HT := Lib.hid hT
  rw [hT]
  clear hT
  go_enter Try.func43, Try.ntmps43
  go_wp2_with fail
  go_step3
  go_wp2_with fail
  go_step3
  go_wp2_with fail
  obtain ⟨i1, hj1, hy0, hy1, hy2⟩ := info_parts spec_info
  have hO0 : w.ownsRow w.heap.size 56 3 (.slice none 0 0) 0 (cellsF Spc.cells []) := World.ownsRow_nil _ _ _ _
  have HO0 := Lib.hid hO0
  clear hO0
  go_loopg [3] 41 (fun gk u wr => ∃ (k : Nat) (X : List Spc) (s1 : CSt), k ≤ 40 ∧ gk = 41 - k ∧ Hid (X.length = k) ∧ Hid (wr.ownsRow w.heap.size 56 3 u k (cellsF Spc.cells X)) ∧ Hid (Cur wr g v l s1.1 s1.2) ∧ Hid (w.grownBy wr (some g)) ∧ Hid (T = (X ++ (specsF l (40 - k + 1) s1).1, (specsF l (40 - k + 1) s1).2)))
  case atStart => exact ⟨0, [], s, Nat.zero_le _, rfl, Lib.hid rfl, HO0, HC, Lib.hid (only_refl _ _), Lib.hid HT.out.symm⟩
  case round =>
    obtain ⟨k, X, s1, hk, rfl, HX, HO, HCU, HG, HTT⟩ := hrel
    clear HO0 HC HT
    have HU1 := Lib.hid (u_st HCU.out HL.out)
    have HU2 := Lib.hid (fun (W : World) (hW : Cur W g v l (sU l s1).1 (sU l s1).2) => u_st hW HL.out)
    have hA64 := tU_lt l s1
    have hF64 := tU_lt l (sU l s1)
    have HE1 := Lib.hid (@specsF_end l (40 - k) s1)
    have HE2 := Lib.hid (@specsF_bad l (40 - k) s1)
    have HE3 := Lib.hid (@specsF_full l s1)
    have HE4 := Lib.hid (@specsF_imp l (40 - k) s1)
    have HE5 := Lib.hid (@specsF_more l (40 - k) s1)
    have HB := Lib.hid (show badP (tU l s1) (tU l (sU l s1)) = (decide (tU l s1 = 0) || (decide (tU l (sU l s1) = 0) || (decide (65535 < tU l s1) || decide (65535 < tU l (sU l s1))))) from rfl)
    generalize tU l s1 = A at *
    generalize tU l (sU l s1) = F at *
    generalize badP A F = bp at *
    obtain ⟨b1, hb1⟩ : ∃ b, decide (A = 0) = b := ⟨_, rfl⟩
    obtain ⟨b2, hb2⟩ : ∃ b, decide (F = 0) = b := ⟨_, rfl⟩
    obtain ⟨b3, hb3⟩ : ∃ b, decide (65535 < A) = b := ⟨_, rfl⟩
    obtain ⟨b4, hb4⟩ : ∃ b, decide (65535 < F) = b := ⟨_, rfl⟩
    rw [hb1, hb2, hb3, hb4] at HB
    have n1 : ((A : Int) == 0) = b1 := by rw [← hb1, Bool.eq_iff_iff]; simp
    have n2 : ((F : Int) == 0) = b2 := by rw [← hb2, Bool.eq_iff_iff]; simp
    have n3 : decide ((65535 : Int) < (A : Int)) = b3 := by rw [← hb3, Bool.eq_iff_iff]; simp; omega
    have n4 : decide ((65535 : Int) < (F : Int)) = b4 := by rw [← hb4, Bool.eq_iff_iff]; simp; omega
    have HAF := Lib.hid (show (b1 = true → A = 0) ∧ (b1 = false → A ≠ 0) ∧ (b2 = true → F = 0) ∧ (b2 = false → F ≠ 0) ∧ (b3 = false → A ≤ 65535) ∧ (b4 = false → F ≤ 65535) by
      refine ⟨fun h => ?_, fun h => ?_, fun h => ?_, fun h => ?_, fun h => ?_, fun h => ?_⟩ <;> subst h
      · exact of_decide_eq_true hb1
      · exact of_decide_eq_false hb1
      · exact of_decide_eq_true hb2
      · exact of_decide_eq_false hb2
      · have := of_decide_eq_false hb3; omega
      · have := of_decide_eq_false hb4; omega)
    clear hb1 hb2 hb3 hb4 hA64 hF64
    go_upto_region 3 with (first
      | (go_at_call 40; refine HU1.out.mono ?_; rintro x w1 ⟨rfl, hC1, hG1⟩; have HC1 := Lib.hid hC1; have HG1 := Lib.hid hG1; clear hC1 hG1 HU1)
      | (go_at_call 40; refine (HU2.out _ HC1.out).mono ?_; rintro x w2 ⟨rfl, hC2, hG2⟩; have HC2 := Lib.hid hC2; have HG2 := Lib.hid (HG1.out.trans hG2); clear hC2 hG2 HU2))
    have HO2 := Lib.hid (rown_past HO.out HG2.out hgw)
    have HGG := Lib.hid (HG.out.trans HG2.out)
    clear HG1 HC1 HCU HO HG HG2
    have hways : (b1 = true ∧ b2 = true) ∨ ((b1 && b2) = false ∧ bp = true) ∨ (b1 = false ∧ b2 = false ∧ b3 = false ∧ b4 = false) := by
      have := HB.out
      revert this
      cases b1 <;> cases b2 <;> cases b3 <;> cases b4 <;> simp
    rcases hways with ⟨rfl, rfl⟩ | ⟨hne, rfl⟩ | ⟨rfl, rfl, rfl, rfl⟩
    · have hz := HE1.out ⟨HAF.out.1 rfl, HAF.out.2.2.1 rfl⟩
      have HZ := Lib.hid (show T = (X, sU l (sU l s1)) by rw [HTT.out, hz, List.append_nil])
      clear hz HE1 HE2 HE3 HE4 HE5 HTT
      go_wp2_with fail
      go_ret
      exact ⟨_, rfl, by rw [HZ.out]; show w2.ownsRow _ _ 3 _ X.length _; rw [HX.out]; exact HO2.out, by rw [HZ.out]; exact HC2.out, HGG.out⟩
    · have h5 : (b1 = true ∧ b2 = false) ∨ (b1 = false ∧ b2 = true) ∨ (b1 = false ∧ b2 = false ∧ b3 = true) ∨ (b1 = false ∧ b2 = false ∧ b3 = false ∧ b4 = true) := by
        have := HB.out
        revert this hne
        cases b1 <;> cases b2 <;> cases b3 <;> cases b4 <;> simp
      have hno : ¬ (A = 0 ∧ F = 0) := by
        rintro ⟨ha, hf⟩
        rcases h5 with ⟨h1, h2⟩ | ⟨h1, h2⟩ | ⟨h1, h2, -⟩ | ⟨h1, h2, -⟩
        · exact HAF.out.2.2.2.1 h2 hf
        · exact HAF.out.2.1 h1 ha
        · exact HAF.out.2.1 h1 ha
        · exact HAF.out.2.1 h1 ha
      have hz := HE2.out hno rfl
      have HZ := Lib.hid (show T = (X, sF (sU l (sU l s1)) 40) by rw [HTT.out, hz, List.append_nil])
      have HF := Lib.hid (f_st HC2.out 40)
      clear hz hno hne HE1 HE2 HE3 HE4 HE5 HTT HAF HB
      rcases h5 with ⟨rfl, rfl⟩ | ⟨rfl, rfl⟩ | ⟨rfl, rfl, rfl⟩ | ⟨rfl, rfl, rfl, rfl⟩
      all_goals
        go_wp2_with (go_at_call 24; refine HF.out.mono ?_; rintro x w3 ⟨rfl, hC3, hG3⟩; have HC3 := Lib.hid hC3; have HG3 := Lib.hid hG3; clear hC3 hG3)
        (try rw [Exit.noGoto_ret])
        go_ret
        exact ⟨_, rfl, by rw [HZ.out]; show w3.ownsRow _ _ 3 _ X.length _; rw [HX.out]; exact rown_past HO2.out HG3.out hgw, by rw [HZ.out]; exact HC3.out, HGG.out.trans HG3.out⟩
    · have hno : ¬ (A = 0 ∧ F = 0) := fun h => HAF.out.2.1 rfl h.1
      have hbp : bp = false := by rw [HB.out]; rfl
      have hA6 := HAF.out.2.2.2.2.1 rfl
      have hF6 := HAF.out.2.2.2.2.2 rfl
      have hwA : IntKind.i64.wrap (A : Int) = (A : Int) := IntWalk.i64_in _ (by omega)
      have hwF : IntKind.i64.wrap (F : Int) = (F : Int) := IntWalk.i64_in _ (by omega)
      obtain ⟨A3, c3, rfl⟩ := owns_slc HO2.out
      by_cases hk40 : k = 40
      · subst hk40
        have hz := HE3.out hno hbp
        have HZ := Lib.hid (show T = (X, sF (sU l (sU l s1)) 3) by rw [HTT.out, Nat.sub_self, hz, List.append_nil])
        have HF := Lib.hid (f_st HC2.out 3)
        clear hz hno hbp HE1 HE2 HE3 HE4 HE5 HTT HAF HB
        go_wp2_with (go_at_call 24; refine HF.out.mono ?_; rintro x w3 ⟨rfl, hC3, hG3⟩; have HC3 := Lib.hid hC3; have HG3 := Lib.hid hG3; clear hC3 hG3)
        (try rw [Exit.noGoto_ret])
        go_ret
        exact ⟨_, rfl, by rw [HZ.out]; show w3.ownsRow _ _ 3 _ X.length _; rw [HX.out]; exact rown_past HO2.out HG3.out hgw, by rw [HZ.out]; exact HC3.out, HGG.out.trans HG3.out⟩
      · have hkl : k < 40 := by omega
        have e40 : ((k : Int) == 40) = false := by simp; omega
        have hmx : k + 1 ≤ maxLen := by unfold maxLen; omega
        have hby : (k + 1) * 24 ≤ 140737488355328 := by omega
        by_cases h33 : F = 33
        · have n5 : ((F : Int) != 33) = false := by simp [h33]
          have hz := HE4.out (by omega) hno hbp h33
          have HZ := Lib.hid (show T = ((X ++ [⟨(A : Int), (F : Int), tS l (sU l (sU l s1))⟩]) ++ (specsF l (40 - (k + 1) + 1) (sS l (sU l (sU l s1)))).1, (specsF l (40 - (k + 1) + 1) (sS l (sU l (sU l s1)))).2) by
            rw [HTT.out, hz, List.append_assoc, show 40 - (k + 1) + 1 = 40 - k by omega]; rfl)
          have HS := Lib.hid (s_st HC2.out HL.out)
          have hss : sS l (sU l (sU l s1)) = sS l (sU l (sU l s1)) := rfl
          generalize tS l (sU l (sU l s1)) = im at *
          generalize sS l (sU l (sU l s1)) = s3 at *
          clear hz hno hbp hss HE1 HE2 HE3 HE4 HE5 HTT HAF HB h33 hk40
          go_upto_region 10 with fail
          go_wp2_with (first
            | (go_at_call 58; refine HS.out.mono ?_; rintro x w3 ⟨rfl, hC3, hG3⟩; have HC3 := Lib.hid hC3; have HG3 := Lib.hid (HGG.out.trans hG3); have HO3 := Lib.hid (rown_past HO2.out hG3 hgw); have HOA := Lib.hid (row_below HO3.out ((Below.refl w3.heap.size w3).alloc (Nat.le_refl _) (.cells #[.int .i64 (A : Int), .int .i64 (F : Int), .int .i64 im] 56))); have hsz : w.heap.size ≤ w3.heap.size + 1 := (by have := HG3.out.size; omega); clear hC3 hG3)
            | (at_builtin; refine wpList_append_own_at _ (by rfl) (.tmp 51) (.tmp 59) _ (by rfl) w.heap.size 56 i1 _ 3 24 Try.underlying48 hj1 hy0 hy1 hy2 rfl (by decide) _ k (cellsF Spc.cells X) (by rfl) HOA.out ⟨w3.heap.size, 0, none⟩ 1 1 (Spc.cells ⟨(A : Int), (F : Int), im⟩) (by rfl) rfl (fun j u h => cells_newA w3 (Spc.cells ⟨(A : Int), (F : Int), im⟩) _ j u h) (spc_one _) hmx hby (by simpa using hsz) ?_; intro v4 w9 hown4 hg4 hn4 hat4; clear hn4 hat4; have HO4 := Lib.hid hown4; have HG4 := Lib.hid hg4; clear hown4 hg4))
          have HS9 := Lib.hid (curn_append hgw HV.out HC3.out HG3.out HO3.out HG4.out)
          clear HG4
          go_roundg (41 - (k + 1))
          case measure => omega
          case rel => exact ⟨k + 1, _, _, by omega, rfl, Lib.hid (by rw [List.length_append, HX.out]; rfl), Lib.hid (by rw [cellsF_append, cellsF_one]; exact HO4.out), Lib.hid HS9.out.1, Lib.hid HS9.out.2, HZ⟩
        · have n5 : ((F : Int) != 33) = true := by simp; omega
          have hz := HE5.out (by omega) hno hbp h33
          have HZ := Lib.hid (show T = ((X ++ [⟨(A : Int), (F : Int), 0⟩]) ++ (specsF l (40 - (k + 1) + 1) (sU l (sU l s1))).1, (specsF l (40 - (k + 1) + 1) (sU l (sU l s1))).2) by
            rw [HTT.out, hz, List.append_assoc, show 40 - (k + 1) + 1 = 40 - k by omega]; rfl)
          have HOA := Lib.hid (row_below HO2.out ((Below.refl w2.heap.size w2).alloc (Nat.le_refl _) (.cells #[.int .i64 (A : Int), .int .i64 (F : Int), .int .i64 0] 56)))
          have hsz : w.heap.size ≤ w2.heap.size + 1 := by have := HGG.out.size; omega
          clear hz hno hbp HE1 HE2 HE3 HE4 HE5 HTT HAF HB h33 hk40
          go_upto_region 9 with fail
          go_wp2_with (at_builtin; refine wpList_append_own_at _ (by rfl) (.tmp 43) (.tmp 49) _ (by rfl) w.heap.size 56 i1 _ 3 24 Try.underlying48 hj1 hy0 hy1 hy2 rfl (by decide) _ k (cellsF Spc.cells X) (by rfl) HOA.out ⟨w2.heap.size, 0, none⟩ 1 1 (Spc.cells ⟨(A : Int), (F : Int), 0⟩) (by rfl) rfl (fun j u h => cells_newA w2 (Spc.cells ⟨(A : Int), (F : Int), 0⟩) _ j u h) (spc_one _) hmx hby (by simpa using hsz) ?_; intro v4 w9 hown4 hg4 hn4 hat4; clear hn4 hat4; have HO4 := Lib.hid hown4; have HG4 := Lib.hid hg4; clear hown4 hg4)
          have HS9 := Lib.hid (curn_append hgw HV.out HC2.out HGG.out HO2.out HG4.out)
          clear HG4
          go_roundg (41 - (k + 1))
          case measure => omega
          case rel => exact ⟨k + 1, _, _, by omega, rfl, Lib.hid (by rw [List.length_append, HX.out]; rfl), Lib.hid (by rw [cellsF_append, cellsF_one]; exact HO4.out), Lib.hid HS9.out.1, Lib.hid HS9.out.2, HZ⟩

end Go.Proofs.Ytpmndmbhkfbljaa

namespace Go.Proofs.Ytpmndmbhkfbljaa
open Go Go.RowKit Go.Maps

theorem sF_ne (s : CSt) {f : Int} (hf : f ≠ 0) : (sF s f).2 ≠ 0 := by
  unfold sF failOf
  simp only
  split
  · exact hf
  · assumption
theorem zero_in : InI 0 := by constructor <;> decide
theorem tS_in (l : List UInt8) (s : CSt) : InI (tS l s) := by
  unfold tS sOf
  split
  · unfold readS
    split
    · exact zero_in
    · split
      · split
        · rename_i h; exact h
        · exact zero_in
      · exact zero_in
  · exact zero_in
theorem specsF_len (l : List UInt8) : ∀ (n : Nat) (s : CSt), (specsF l n s).1.length ≤ n - 1
  | 0, s => Nat.le_refl _
  | n + 1, s => by
    rw [specsF]
    split
    · exact Nat.zero_le _
    · split
      · exact Nat.zero_le _
      · split
        · exact Nat.zero_le _
        · have h1 := specsF_len l n (sS l (sU l (sU l s)))
          have h2 := specsF_len l n (sU l (sU l s))
          split
          · simp only [List.length_cons]; omega
          · simp only [List.length_cons]; omega
theorem small_in {n : Nat} (h : n ≤ 65535) : InI (n : Int) := by
  constructor <;> omega
theorem badP_no {a f : Nat} (h : ¬ badP a f = true) : a ≤ 65535 ∧ f ≤ 65535 := by
  unfold badP at h
  simp only [Bool.or_eq_true, decide_eq_true_eq, not_or] at h
  omega
theorem specsF_in (l : List UInt8) : ∀ (n : Nat) (s : CSt), ∀ x ∈ (specsF l n s).1, x.In
  | 0, s => fun x hx => by cases hx
  | n + 1, s => by
    rw [specsF]
    split
    · exact fun x hx => by cases hx
    · split
      · exact fun x hx => by cases hx
      · rename_i hb
        obtain ⟨ha, hf⟩ := badP_no hb
        split
        · exact fun x hx => by cases hx
        · have h1 := specsF_in l n (sS l (sU l (sU l s)))
          have h2 := specsF_in l n (sU l (sU l s))
          split
          · intro x hx
            rcases List.mem_cons.1 hx with rfl | hx
            · exact ⟨small_in ha, small_in hf, tS_in _ _⟩
            · exact h1 x hx
          · intro x hx
            rcases List.mem_cons.1 hx with rfl | hx
            · exact ⟨small_in ha, small_in hf, zero_in⟩
            · exact h2 x hx
theorem tagT_le (l : List UInt8) (s : CSt) : tagT l s ≤ 65535 := by
  unfold tagT
  split <;> omega
/-- An abbreviation whose numbers are numbers of 64 bits. -/
structure Abb.In (x : Abb) : Prop where
  code : x.code < two64
  tag : InI x.tag
  len : x.l.length ≤ 100000
  spcs : ∀ y ∈ x.l, y.In
theorem abbT_in (l : List UInt8) (c : Nat) (hc : c < two64) (s : CSt) : (abbT l c s).In :=
  ⟨hc, small_in (tagT_le l s), by have := specsF_len l 41 (kidS l (tagS l s)); show (specsF l 41 _).1.length ≤ 100000; omega, specsF_in l 41 _⟩

/-! ### Abbreviations of the call's own -/
theorem own_lower {w : World} {B B' m n : Nat} {t : TypeId} {v : Value} {xs : List Value} (h : w.ownsRow B t m v n xs) (hB : B' ≤ B) : w.ownsRow B' t m v n xs := by
  refine ⟨h.1, ?_⟩
  rcases h.2 with h0 | ⟨g, cap, cur, e, hb, r⟩
  · exact .inl h0
  · exact .inr ⟨g, cap, cur, e, Nat.le_trans hB hb, r⟩
/-- A row of another type stays behind a step of one. -/
theorem own_apart {w w' : World} {B B' m m' n n' : Nat} {t t' : TypeId} {v v' : Value} {xs xs' : List Value} (h : w.ownsRow B t m v n xs) (h' : w.ownsRow B' t' m' v' n' xs') (ht : t ≠ t') (hg : w.grownBy w' v'.ownBlock) : w'.ownsRow B t m v n xs := by
  refine h.kept hg ?_
  rcases h.2 with ⟨rfl, _⟩ | ⟨g, cap, cur, rfl, _, hh, _⟩
  · exact .inl rfl
  · rcases h'.2 with ⟨rfl, _⟩ | ⟨g', cap', cur', rfl, _, hh', _⟩
    · exact .inr (by simp [Value.ownBlock])
    · refine .inr fun e => ?_
      have e' : g = g' := by simpa [Value.ownBlock] using e
      subst e'
      rw [hh] at hh'
      injection hh' with hh'
      injection hh' with _ hh'
      exact ht hh'
abbrev OwnSp (w : World) (base : Nat) (y : ALay) : Prop := w.ownsRow base 56 3 (.slice y.a y.x.l.length y.c) y.x.l.length (cellsF Spc.cells y.x.l)
structure OwnA (w : World) (base : Nat) (v : Value) (L : List ALay) : Prop where
  row : w.ownsRow base 50 4 v L.length (cellsF ALay.cells L)
  spcs : ∀ y ∈ L, OwnSp w base y
theorem OwnA.nil (w : World) (base : Nat) : OwnA w base (.slice none 0 0) [] := ⟨World.ownsRow_nil _ _ _ _, fun y hy => by cases hy⟩
theorem OwnA.past {w w' : World} {base g : Nat} {v : Value} {L : List ALay} (h : OwnA w base v L) (hg : w.grownBy w' (some g)) (hlt : g < base) : OwnA w' base v L := ⟨rown_past h.row hg hlt, fun y hy => rown_past (h.spcs y hy) hg hlt⟩
theorem OwnA.below {w w' : World} {base : Nat} {v : Value} {L : List ALay} (h : OwnA w base v L) (hb : Below w.heap.size w w') : OwnA w' base v L := ⟨row_below h.row hb, fun y hy => row_below (h.spcs y hy) hb⟩
/-- As abbreviations that lie. -/
theorem OwnA.lies {w : World} {base : Nat} {v : Value} {L : List ALay} (h : OwnA w base v L) : ∃ A c, v = .slice A L.length c ∧ L.length ≤ c ∧ c ≤ maxLen ∧ Abbs w w.heap.size A L := by
  obtain ⟨A, c, e, h1, h2, hr⟩ := own_row abb_four h.row
  refine ⟨A, c, e, h1, h2, hr, fun y hy => ?_⟩
  obtain ⟨A', c', e', -, -, hr'⟩ := own_row spc_three (h.spcs y hy)
  injection e' with e1 _ _
  rw [e1]
  exact hr'
theorem OwnA.slice {w : World} {base : Nat} {v : Value} {L : List ALay} (h : OwnA w base v L) : ∃ A c, v = .slice A L.length c := by
  obtain ⟨A, c, e, -⟩ := h.lies
  exact ⟨A, c, e⟩

set_option maxRecDepth 10000 in
set_option maxHeartbeats 3200000 in
theorem abbrevs_st {w : World} {g : Nat} {v : Value} {l : List UInt8} {s : CSt} (h : Cur w g v l s.1 s.2) (hlen : l.length ≤ 140737488355328) :
    Calls Try.prog 23 #[.pointer (some ⟨g, 0, none⟩)] w fun x w' => ∃ u L, x = .returned u ∧ OwnA w' w.heap.size u L ∧ L.length ≤ 300 ∧ (∀ y ∈ L, y.x.In) ∧ ((tabF l 301 s).2.2 = 0 → L.map ALay.x = (tabF l 301 s).1) ∧ Cur w' g v l (tabF l 301 s).2.1 (tabF l 301 s).2.2 ∧ w.grownBy w' (some g) := by
  have hgw := h.1.lt
  have hv := own_lt h.2.1
  have HC := Lib.hid h
  have HL := Lib.hid hlen
  have HV := Lib.hid hv
  clear h hlen hv
  obtain ⟨T, hT⟩ : ∃ T, tabF l 301 s = T := ⟨_, rfl⟩
  have HT := Lib.hid hT
  rw [hT]
  clear hT
  obtain ⟨i1, hj1, hy0, hy1, hy2⟩ := info_parts abb_info
  have HO0 := Lib.hid (OwnA.nil w w.heap.size)
  go_enter Try.func23, Try.ntmps23
  go_wp2_with fail
  go_loopg [3] 301 (fun gk u wr => ∃ (k : Nat) (X : List ALay) (s1 : CSt), k ≤ 300 ∧ gk = 301 - k ∧ Hid (X.length = k) ∧ Hid (OwnA wr w.heap.size u X) ∧ Hid (∀ y ∈ X, y.x.In) ∧ Hid (Cur wr g v l s1.1 s1.2) ∧ Hid (w.grownBy wr (some g)) ∧ Hid (T = (X.map ALay.x ++ (tabF l (300 - k + 1) s1).1, (tabF l (300 - k + 1) s1).2)))
  case atStart => exact ⟨0, [], s, Nat.zero_le _, rfl, Lib.hid rfl, HO0, Lib.hid (by intro y hy; cases hy), HC, Lib.hid (only_refl _ _), Lib.hid HT.out.symm⟩
  case round =>
    obtain ⟨k, X, s1, hk, rfl, HX, HO, HIN, HCU, HG, HTT⟩ := hrel
    clear HO0 HC HT
    have HU := Lib.hid (u_st HCU.out HL.out)
    have HA64 := Lib.hid (tU_lt l s1)
    have HE1 := Lib.hid (@tabF_end l (300 - k) s1)
    have HE2 := Lib.hid (@tabF_full l s1)
    have HE3 := Lib.hid (@tabF_more l (300 - k) s1)
    generalize tU l s1 = A at *
    go_upto_region 3 with (go_at_call 40; refine HU.out.mono ?_; rintro x w1 ⟨rfl, hC1, hG1⟩; have HC1 := Lib.hid hC1; have HG1 := Lib.hid hG1; clear hC1 hG1 HU)
    have HO1 := Lib.hid (HO.out.past HG1.out hgw)
    have HGG := Lib.hid (HG.out.trans HG1.out)
    clear HG1 HCU HO HG
    by_cases hA : A = 0
    · have n1 : ((A : Int) == 0) = true := by simp [hA]
      have hz := HE1.out hA
      have HZ := Lib.hid (show T = (X.map ALay.x, sU l s1) by rw [HTT.out, hz, List.append_nil])
      clear hz hA HE1 HE2 HE3 HTT
      go_wp2_with fail
      (try rw [Exit.noGoto_ret])
      go_ret
      exact ⟨_, X, rfl, HO1.out, by rw [HX.out]; exact hk, HIN.out, fun _ => by rw [HZ.out], by rw [HZ.out]; exact HC1.out, HGG.out⟩
    · have n1 : ((A : Int) == 0) = false := by simp [hA]
      obtain ⟨A3, c3, hu⟩ := HO1.out.slice
      rw [HX.out] at hu
      subst hu
      by_cases hk3 : k = 300
      · subst hk3
        have hz := HE2.out hA
        have HZ := Lib.hid (show T = (X.map ALay.x, sF (sU l s1) 3) by rw [HTT.out, Nat.sub_self, hz, List.append_nil])
        have HF := Lib.hid (f_st HC1.out 3)
        clear hz hA HE1 HE2 HE3 HTT
        go_wp2_with (go_at_call 24; refine HF.out.mono ?_; rintro x w3 ⟨rfl, hC3, hG3⟩; have HC3 := Lib.hid hC3; have HG3 := Lib.hid hG3; clear hC3 hG3)
        (try rw [Exit.noGoto_ret])
        go_ret
        exact ⟨_, [], rfl, OwnA.nil _ _, Nat.zero_le _, (fun y hy => by cases hy), (fun h => absurd h (by rw [HZ.out]; exact sF_ne _ (by decide))), by rw [HZ.out]; exact HC3.out, HGG.out.trans HG3.out⟩
      · have hkl : k < 300 := by omega
        have e40 : ((k : Int) == 300) = false := by simp; omega
        have hmx : k + 1 ≤ maxLen := by unfold maxLen; omega
        have hby : (k + 1) * 48 ≤ 140737488355328 := by omega
        have hz := HE3.out (by omega) hA
        have HZ := Lib.hid (show T = (X.map ALay.x ++ [abbT l A (sU l s1)] ++ (tabF l (300 - (k + 1) + 1) (abbS l (sU l s1))).1, (tabF l (300 - (k + 1) + 1) (abbS l (sU l s1))).2) by
          rw [HTT.out, hz, List.append_assoc, show 300 - (k + 1) + 1 = 300 - k by omega]; rfl)
        have HAI := Lib.hid (abbT_in l A HA64.out (sU l s1))
        have HAX := Lib.hid (show abbT l A (sU l s1) = ⟨A, (tagT l (sU l s1) : Int), kidT l (tagS l (sU l s1)), (specsF l 41 (kidS l (tagS l (sU l s1)))).1⟩ from rfl)
        have HAS := Lib.hid (show abbS l (sU l s1) = (specsF l 41 (kidS l (tagS l (sU l s1)))).2 from rfl)
        have HT1 := Lib.hid (tag_st HC1.out HL.out)
        have HK1 := Lib.hid (fun (W : World) (hW : Cur W g v l (tagS l (sU l s1)).1 (tagS l (sU l s1)).2) => kids_st hW HL.out)
        have HP1 := Lib.hid (fun (W : World) (hW : Cur W g v l (kidS l (tagS l (sU l s1))).1 (kidS l (tagS l (sU l s1))).2) => specs_st hW HL.out)
        generalize abbT l A (sU l s1) = ab at *
        generalize abbS l (sU l s1) = s9 at *
        generalize specsF l 41 (kidS l (tagS l (sU l s1))) = sp at *
        generalize kidS l (tagS l (sU l s1)) = s4 at *
        generalize kidT l (tagS l (sU l s1)) = kd at *
        generalize tagS l (sU l s1) = s3 at *
        generalize tagT l (sU l s1) = tg at *
        clear hz hA HE1 HE2 HE3 HTT hk3
        go_upto_region 8 with fail
        go_wp2_with (first
          | (go_at_call 41; refine HT1.out.mono ?_; rintro x w3 ⟨rfl, hC3, hG3⟩; have HC3 := Lib.hid hC3; have HG3 := Lib.hid hG3; clear hC3 hG3)
          | (go_at_call 42; refine (HK1.out _ HC3.out).mono ?_; rintro x w4 ⟨rfl, hC4, hG4⟩; have HC4 := Lib.hid hC4; have HG4 := Lib.hid (HG3.out.trans hG4); clear hC4 hG4)
          | (go_at_call 43; refine (HP1.out _ HC4.out).mono ?_; rintro x w5 ⟨u5, rfl, hR5, hC5, hG5⟩; have HR5 := Lib.hid hR5; have HC5 := Lib.hid hC5; have HG5 := Lib.hid (HG4.out.trans hG5); (obtain ⟨A5, c5, rfl⟩ := owns_slc hR5); have HO5 := Lib.hid (HO1.out.past HG5.out hgw); have HGW := Lib.hid (HGG.out.trans HG5.out); have HSP := Lib.hid (own_lower hR5 (show w.heap.size ≤ w4.heap.size from Nat.le_trans HGG.out.size HG4.out.size)); have HRW := Lib.hid (show w5.ownsRow w.heap.size 50 4 (.slice A3 k c3) k (cellsF ALay.cells X) from by have := HO5.out.row; rwa [HX.out] at this); have HOA := Lib.hid (row_below HRW.out ((Below.refl w5.heap.size w5).alloc (Nat.le_refl _) (.cells #[.int .u64 (A : Int), .int .i64 (tg : Int), .bool kd, .slice A5 sp.1.length c5] 50))); have hsz : w.heap.size ≤ w5.heap.size + 1 := (by have := HGW.out.size; omega); clear hR5 hC5 hG5)
          | (at_builtin; refine wpList_append_own_at _ (by rfl) (.tmp 17) (.tmp 26) _ (by rfl) w.heap.size 50 i1 _ 4 48 Try.underlying30 hj1 hy0 hy1 hy2 rfl (by decide) _ k (cellsF ALay.cells X) (by rfl) HOA.out ⟨w5.heap.size, 0, none⟩ 1 1 (ALay.cells ⟨⟨A, (tg : Int), kd, sp.1⟩, A5, c5⟩) (by rfl) rfl (fun j u h => cells_newA w5 (ALay.cells ⟨⟨A, (tg : Int), kd, sp.1⟩, A5, c5⟩) _ j u h) (abb_one _) hmx hby (by simpa using hsz) ?_; intro v6 w6 hown6 hg6 hn6 hat6; clear hn6 hat6; have HO6 := Lib.hid hown6; have HG6 := Lib.hid hg6; clear hown6 hg6))
        have hax := HAX.out
        subst hax
        have HS6 := Lib.hid (curn_append hgw HV.out HC5.out HGW.out HRW.out HG6.out)
        have hA5 := (Below.refl w5.heap.size w5).alloc (Nat.le_refl _) (.cells #[.int .u64 (A : Int), .int .i64 (tg : Int), .bool kd, .slice A5 sp.1.length c5] 50)
        have HON := Lib.hid (show OwnA w6 w.heap.size v6 (X ++ [⟨⟨A, (tg : Int), kd, sp.1⟩, A5, c5⟩]) from ⟨by
          rw [List.length_append, HX.out, cellsF_append, cellsF_one]
          exact HO6.out, fun y hy => by
          rcases List.mem_append.1 hy with hy | hy
          · exact own_apart (row_below (HO5.out.spcs y hy) hA5) HOA.out (by decide) HG6.out
          · rw [List.mem_singleton.1 hy]
            exact own_apart (row_below HSP.out hA5) HOA.out (by decide) HG6.out⟩)
        clear HG6 HO6 hA5
        go_roundg (301 - (k + 1))
        case measure => omega
        case rel => exact ⟨k + 1, _, s9, by omega, rfl, Lib.hid (by rw [List.length_append, HX.out]; rfl), HON, Lib.hid (fun y hy => by
          rcases List.mem_append.1 hy with hy | hy
          · exact HIN.out y hy
          · rw [List.mem_singleton.1 hy]; exact HAI.out), Lib.hid (by have := HS6.out.1; rw [HAS.out]; exact this), Lib.hid HS6.out.2, Lib.hid (by rw [List.map_append]; exact HZ.out)⟩

theorem lays_in {L : List ALay} (h : ∀ y ∈ L, y.x.In) : ∀ y ∈ L, y.In := fun y hy => ⟨(h y hy).code, (h y hy).tag, (h y hy).len, (h y hy).spcs⟩
theorem failOf_no {e : Int} (h : e ≠ 0) (f : Int) : failOf e f = e := by unfold failOf; rw [if_neg h]
theorem take_ok {l : List UInt8} {s : CSt} (h : (tabF l 301 s).2.2 = 0) (hr : rightA (tabF l 301 s).1 = true) : takeAE l s = 0 ∧ takeAL l s = (tabF l 301 s).1 := by
  have h1 : takeAE l s = 0 := by unfold takeAE; rw [if_pos h, if_pos hr]
  exact ⟨h1, by unfold takeAL; rw [if_pos h1]⟩
theorem take_no {l : List UInt8} {s : CSt} (h : (tabF l 301 s).2.2 = 0) (hr : rightA (tabF l 301 s).1 = false) : takeAE l s = 40 ∧ takeAL l s = [] := by
  have h1 : takeAE l s = 40 := by unfold takeAE; rw [if_pos h, if_neg (by rw [hr]; simp)]
  exact ⟨h1, by unfold takeAL; rw [if_neg (by rw [h1]; decide)]⟩
theorem take_bad {l : List UInt8} {s : CSt} (h : (tabF l 301 s).2.2 ≠ 0) : takeAE l s = (tabF l 301 s).2.2 ∧ takeAL l s = [] := by
  have h1 : takeAE l s = (tabF l 301 s).2.2 := by unfold takeAE; rw [if_neg h]
  exact ⟨h1, by unfold takeAL; rw [if_neg (by rw [h1]; exact h)]⟩

set_option maxRecDepth 10000 in
set_option maxHeartbeats 1600000 in
/-- Take, of a cursor over bytes. -/
theorem takeA_st {w : World} {g : Nat} {v : Value} {l : List UInt8} {s : CSt} (h : Cur w g v l s.1 s.2) (hlen : l.length ≤ 140737488355328) :
    Calls Try.prog 7 #[.pointer (some ⟨g, 0, none⟩)] w fun x w' => ∃ u L, x = .returned (.tuple #[u, .int .i64 (takeAE l s)]) ∧ OwnA w' w.heap.size u L ∧ L.map ALay.x = takeAL l s ∧ (∀ y ∈ L, y.x.In) ∧ L.length ≤ 300 ∧ Cur w' g v l (takeAP l s) (takeAE l s) ∧ w.grownBy w' (some g) := by
  have hgw := h.1.lt
  have HA := Lib.hid (abbrevs_st h hlen)
  have HP := Lib.hid (show takeAP l s = (tabF l 301 s).2.1 from rfl)
  have H1 := Lib.hid (@take_ok l s)
  have H2 := Lib.hid (@take_no l s)
  have H3 := Lib.hid (@take_bad l s)
  clear h hlen
  generalize takeAP l s = P at *
  generalize takeAE l s = E at *
  generalize takeAL l s = R at *
  generalize tabF l 301 s = T at *
  go_enter Try.func7, Try.ntmps7
  go_upto_region 2 with (go_at_call 23; refine HA.out.mono ?_; rintro x w1 ⟨u1, L, rfl, hO1, hl1, hin1, hm1, hC1, hG1⟩; have HO1 := Lib.hid hO1; have HL1 := Lib.hid hl1; have HI1 := Lib.hid hin1; have HM1 := Lib.hid hm1; have HC1 := Lib.hid hC1; have HG1 := Lib.hid hG1; clear hO1 hl1 hin1 hm1 hC1 hG1)
  obtain ⟨A1, c1, rfl, -, -, hlies⟩ := HO1.out.lies
  have HR := Lib.hid (rightA_any hlies c1 (by have := HL1.out; omega) (lays_in HI1.out))
  clear hlies
  generalize hN : L.length = N at *
  obtain ⟨b, hb⟩ : ∃ b, rightA (absOf L) = b := ⟨_, rfl⟩
  have HB := Lib.hid hb
  rw [hb] at HR
  have HN := Lib.hid hN
  clear HA hb hN
  by_cases he : T.2.2 = 0
  · have HT := Lib.hid (show L.map ALay.x = T.1 from HM1.out he)
    have HE := Lib.hid he
    clear he
    cases b with
    | true =>
      have hh := H1.out HE.out (by rw [← HT.out]; exact HB.out)
      have HH := Lib.hid hh
      clear hh
      go_wp2_with (first
        | (go_at_call 17; refine HR.out.mono ?_; rintro x w2 ⟨rfl, hb2⟩; have HB2 := Lib.hid hb2; have HC2 := Lib.hid (HC1.out.below hb2); have hE2 := err_cur HC2.out; rw [HE.out] at hE2; clear hb2)
        | (go_at_call 10; refine hE2.mono ?_; rintro x w3 ⟨rfl, rfl⟩; clear hE2))
      go_ret2
      exact ⟨_, L, by rw [HH.out.1]; rfl, HO1.out.below HB2.out, by rw [HH.out.2]; exact HT.out, HI1.out, by rw [HN.out]; exact HL1.out, by have := HC2.out; rw [HE.out] at this; rw [HH.out.1, HP.out]; exact this, HG1.out.trans (only_below (HB2.out) _)⟩
    | false =>
      have hh := H2.out HE.out (by rw [← HT.out]; exact HB.out)
      have HH := Lib.hid hh
      clear hh
      go_wp2_with (first
        | (go_at_call 17; refine HR.out.mono ?_; rintro x w2 ⟨rfl, hb2⟩; have HB2 := Lib.hid hb2; have HC2 := Lib.hid (HC1.out.below hb2); have hF2 := fail_cur HC2.out 40; rw [HE.out] at hF2; clear hb2)
        | (go_at_call 24; refine hF2.mono ?_; rintro x w3 ⟨rfl, hC3, hG3⟩; have HC3 := Lib.hid hC3; have HG3 := Lib.hid hG3; have hE3 := err_cur HC3.out; clear hF2 hC3 hG3)
        | (go_at_call 10; refine hE3.mono ?_; rintro x w4 ⟨rfl, rfl⟩; clear hE3))
      go_ret2
      exact ⟨_, [], by rw [HH.out.1]; rfl, OwnA.nil _ _, by rw [HH.out.2]; rfl, (fun y hy => by cases hy), Nat.zero_le _, by have := HC3.out; rw [HH.out.1, HP.out]; exact this, (HG1.out.trans (only_below (HB2.out) _)).trans HG3.out⟩
  · have hh := H3.out he
    have HH := Lib.hid hh
    have HE := Lib.hid he
    have hne : (T.2.2 != 0) = true := by simp [he]
    clear hh he
    generalize hT2 : T.2.2 = e at *
    cases b with
    | true =>
      go_wp2_with (first
        | (go_at_call 17; refine HR.out.mono ?_; rintro x w2 ⟨rfl, hb2⟩; have HB2 := Lib.hid hb2; have HC2 := Lib.hid (HC1.out.below hb2); have hE2 := err_cur HC2.out; clear hb2)
        | (go_at_call 10; refine hE2.mono ?_; rintro x w3 ⟨rfl, rfl⟩; clear hE2))
      go_ret2
      exact ⟨_, [], by rw [HH.out.1]; rfl, OwnA.nil _ _, by rw [HH.out.2]; rfl, (fun y hy => by cases hy), Nat.zero_le _, by have := HC2.out; rw [HH.out.1, HP.out]; exact this, HG1.out.trans (only_below (HB2.out) _)⟩
    | false =>
      go_wp2_with (first
        | (go_at_call 17; refine HR.out.mono ?_; rintro x w2 ⟨rfl, hb2⟩; have HB2 := Lib.hid hb2; have HC2 := Lib.hid (HC1.out.below hb2); have hF2 := fail_cur HC2.out 40; rw [failOf_no HE.out] at hF2; clear hb2)
        | (go_at_call 24; refine hF2.mono ?_; rintro x w3 ⟨rfl, hC3, hG3⟩; have HC3 := Lib.hid hC3; have HG3 := Lib.hid hG3; have hE3 := err_cur HC3.out; clear hF2 hC3 hG3)
        | (go_at_call 10; refine hE3.mono ?_; rintro x w4 ⟨rfl, rfl⟩; clear hE3))
      go_ret2
      exact ⟨_, [], by rw [HH.out.1]; rfl, OwnA.nil _ _, by rw [HH.out.2]; rfl, (fun y hy => by cases hy), Nat.zero_le _, by have := HC3.out; rw [HH.out.1, HP.out]; exact this, (HG1.out.trans (only_below (HB2.out) _)).trans HG3.out⟩

end Go.Proofs.Ytpmndmbhkfbljaa

namespace Go.Proofs.Ytpmndmbhkfbljaa
open Go Go.RowKit Go.Maps

theorem right_none (w : World) : Calls Try.prog 17 #[.slice none 0 0] w fun r w' => r = .returned (.bool true) ∧ Below w.heap.size w w' :=
  (rightA_any (w := w) (a := none) (L := []) ⟨fun h => absurd h (by decide), fun y hy => by cases hy⟩ 0 (by decide) (fun y hy => by cases hy)).mono fun r w' h => h
theorem abbrevs_nil (w : World) : Calls Try.prog 23 #[.pointer none] w fun r w' => r = .returned (.slice none 0 0) ∧ Below w.heap.size w w' := by
  have hU := u_nil w
  go_enter Try.func23, Try.ntmps23
  go_wp2_with fail
  go_loopw [3] (fun u wr => u = .slice none 0 0 ∧ wr = w) (fun _ _ => 0)
  case atStart => exact ⟨rfl, rfl⟩
  case round =>
    obtain ⟨rfl, rfl⟩ := hrel
    go_wp2_with (go_at_call 40; refine hU.mono ?_; rintro r w1 ⟨rfl, hg1⟩; have HB1 := Lib.hid (below_of_only hg1 (Nat.le_refl _) (by simp)); clear hg1)
    (try rw [Exit.noGoto_ret])
    go_ret
    exact ⟨rfl, HB1.out⟩
theorem takeA_nil (w : World) : Calls Try.prog 7 #[.pointer none] w fun r w' => r = .returned (.tuple #[.slice none 0 0, .int .i64 1]) ∧ Below w.heap.size w w' := by
  have hA := abbrevs_nil w
  have hE := fun W => err_nob (p := none) (w := W) (.inl rfl)
  go_enter Try.func7, Try.ntmps7
  go_wp2_with (first
    | (go_at_call 23; refine hA.mono ?_; rintro r w1 ⟨rfl, hb1⟩; have HB1 := Lib.hid hb1; clear hb1)
    | (go_at_call 17; refine (right_none _).mono ?_; rintro r w2 ⟨rfl, hb2⟩; have HB2 := Lib.hid (HB1.out.trans (hb2.mono HB1.out.size)); clear hb2)
    | (go_at_call 10; refine (hE _).mono ?_; rintro r w3 ⟨rfl, rfl⟩))
  go_ret2
  exact ⟨rfl, HB2.out⟩

/-! ### At -/
def atAE (l : List UInt8) (off : Nat) : Int := if off < l.length then takeAE (l.drop off) (0, 0) else 10
def atAL (l : List UInt8) (off : Nat) : List Abb := if off < l.length then takeAL (l.drop off) (0, 0) else []
set_option maxRecDepth 10000 in
set_option maxHeartbeats 1600000 in
theorem atA_any {w : World} {B : Nat} {A : Option Addr} {l : List UInt8} (h : Rd w B A l) (hB : B ≤ w.heap.size) (c : Nat) (hlc : l.length ≤ c) (hlen : l.length ≤ 140737488355328) (off : Nat) (hoff : off < two64) :
    Calls Try.prog 12 #[.slice A l.length c, .int .u64 (off : Int)] w fun r w' => ∃ u L, r = .returned (.tuple #[u, .int .i64 (atAE l off)]) ∧ OwnA w' w.heap.size u L ∧ L.map ALay.x = atAL l off ∧ (∀ y ∈ L, y.x.In) ∧ L.length ≤ 300 ∧ Below w.heap.size w w' := by
  have hW := fun W => within_any off 1 l.length W hoff (by decide)
  have hl64 : l.length < two64 := by unfold two64; omega
  have s1 : IntKind.u64.wrap (l.length : Int) = (l.length : Int) := by rw [IntWalk.u64_in _ (by omega)]
  by_cases hlt : off < l.length
  · have hwi : withinOf off 1 l.length = true := by rw [within_iff _ _ _ hl64]; simp; omega
    rw [hwi] at hW
    have hae : atAE l off = takeAE (l.drop off) (0, 0) := if_pos hlt
    have hal : atAL l off = takeAL (l.drop off) (0, 0) := if_pos hlt
    obtain ⟨r, hr⟩ : ∃ r, r = l.drop off := ⟨_, rfl⟩
    have hrl : r.length = l.length - off := by rw [hr]; simp
    rw [hae, hal, ← hr]
    have b1 : (0 : Int) ≤ (off : Int) := by omega
    have b2 : (off : Int) ≤ (l.length : Int) := by omega
    obtain ⟨A2, c2, hsl, hra⟩ : ∃ A2 c2, (∀ W : World, (Instr.slice 22 (.slice A l.length c) (some (.int .u64 (off : Int))) none none).run Try.prog W = .ok (.slice A2 r.length c2) W) ∧ Hid (Rd w B A2 r ∧ r.length ≤ c2) := by
      refine ⟨if c = off then A else Option.map (fun x => x.add off) A, c - off, fun W => ?_, ?_⟩
      · rw [run_slice_l W _ _ _ _ Try.underlying22 _ _ b1 b2, size_u8, hrl]
        simp only [Result.andThen, sliced, Nat.mul_one, Int.toNat_natCast]
      · rw [if_neg (by omega)]
        have := rd_cut h off r.length
        rw [← hr, List.take_length] at this
        exact Lib.hid ⟨this, by omega⟩
    have hN := new_any (w := w) (B := B) c2 hra.out.1 hB (by omega)
    have hT := Lib.hid (fun W g v (hC : Cur W g v r 0 0) => takeA_st (s := (0, 0)) hC (by omega))
    clear h hB hlc hlen hoff hl64 hlt hwi hae hal hrl hr hra
    generalize takeAE r (0, 0) = E at *
    generalize takeAL r (0, 0) = R at *
    generalize takeAP r (0, 0) = P at *
    generalize r.length = k at *
    generalize l.length = n at *
    go_enter Try.func12, Try.ntmps12
    go_wp2_with (first
      | (go_at_call 30; refine (hW _).mono ?_; rintro r' w' ⟨rfl, rfl⟩)
      | (go_at_call 6; refine hN.mono ?_; rintro r' w1 ⟨g, v, rfl, hM, hb1⟩; have hT1 := hT.out _ _ _ hM.1; have HM := Lib.hid hM.2.1; have HB1 := Lib.hid hb1; clear hM hb1)
      | (go_at_call 7; refine hT1.mono ?_; rintro r' w2 ⟨u, L, rfl, hO, hm, hi, h3, -, hG2⟩; have HO := Lib.hid hO; have HMM := Lib.hid hm; have HI := Lib.hid hi; have H3 := Lib.hid h3; have HB := Lib.hid (HB1.out.trans (below_of_only (B := w.heap.size) hG2 HB1.out.size (fun x hx => by cases hx; exact HM.out))); clear hO hm hi h3 hG2))
    go_ret2
    exact ⟨_, L, rfl, ⟨own_lower HO.out.row HB1.out.size, fun y hy => own_lower (HO.out.spcs y hy) HB1.out.size⟩, HMM.out, HI.out, H3.out, HB.out⟩
  · have hwi : withinOf off 1 l.length = false := by rw [within_iff _ _ _ hl64]; simp; omega
    rw [hwi] at hW
    have hae : atAE l off = 10 := if_neg hlt
    have hal : atAL l off = [] := if_neg hlt
    rw [hae, hal]
    clear h hB hlc hlen hoff hl64 hlt hwi hae hal
    generalize l.length = n at *
    go_enter Try.func12, Try.ntmps12
    go_wp2_with (go_at_call 30; refine (hW _).mono ?_; rintro r' w' ⟨rfl, rfl⟩)
    go_ret2
    exact ⟨_, [], rfl, OwnA.nil _ _, rfl, (fun y hy => by cases hy), Nat.zero_le _, Below.refl _ _⟩

/-! ### Find -/
def hasC (code : Nat) (y : ALay) : Bool := decide (y.x.code = code)
def findK (L : List ALay) (code : Nat) : Option Nat := firstK (hasC code) 0 L
def findI (L : List ALay) (code : Nat) : Int := match findK L code with | some k => (k : Int) | none => -1
def zeroA : Value := .agg #[.int .u64 0, .int .i64 0, .bool false, .slice none 0 0]
/-- What is found. -/
def Found (L : List ALay) (code : Nat) (z : Value) (b : Bool) : Prop := (findK L code = none ∧ b = false ∧ z = zeroA) ∨ ∃ k y, findK L code = some k ∧ L[k]? = some y ∧ b = true ∧ z = y.val
theorem findK_at {L : List ALay} {code k : Nat} {y : ALay} (hy : L[k]? = some y) (hn : (L.take k).all (fun y => !(hasC code y)) = true) (h : hasC code y = true) : findK L code = some k := by
  have := firstK_take (p := hasC code) L 0 k y hy hn h
  rwa [Nat.zero_add] at this
theorem findK_no {L : List ALay} {code : Nat} (hn : L.all (fun y => !(hasC code y)) = true) : findK L code = none := firstK_none (p := hasC code) L 0 hn
theorem findK_get {L : List ALay} {code k : Nat} (h : findK L code = some k) : ∃ y, L[k]? = some y ∧ y.x.code = code := by
  obtain ⟨y, h1, h2, -⟩ := firstK_some (i := 0) (by rw [Nat.zero_add]; exact h)
  exact ⟨y, h1, by simpa [hasC] using h2⟩
theorem all_snoc {α : Type} {p : α → Bool} {l : List α} {k : Nat} {x : α} (hx : l[k]? = some x) (h : (l.take k).all p = true) (hp : p x = true) : (l.take (k + 1)).all p = true := by
  rw [List.take_add_one, hx, List.all_append, h]
  simp [hp]

theorem find1_any {w : World} (y : ALay) (code g : Nat) (hg : w.cell? ⟨g, 0, none⟩ = some (.int .u64 (code : Int))) :
    Calls Try.prog 39 #[.agg #[.int .u64 (y.x.code : Int), .int .i64 y.x.tag, .bool y.x.kids, .slice y.a y.x.l.length y.c], .pointer (some ⟨g, 0, none⟩)] w fun r w' => r = .returned (.bool (hasC code y)) ∧ Below w.heap.size w w' := by
  have hb : ((y.x.code : Int) == (code : Int)) = hasC code y := by unfold hasC; rw [Bool.eq_iff_iff]; simp; omega
  have hlt : g < w.heap.size := by simpa using World.block_lt_of_cell? w _ hg
  generalize hasC code y = b at *
  generalize y.x.l.length = ln at *
  generalize y.x.code = cd at *
  generalize y.x.tag = tg at *
  generalize y.x.kids = kd at *
  generalize y.a = ya at *
  generalize y.c = yc at *
  have HB0 := Lib.hid (show Below w.heap.size w (w.alloc (.cells #[.int .u64 (cd : Int), .int .i64 tg, .bool kd, .slice ya ln yc] 50)) from (Below.refl _ _).alloc (Nat.le_refl _) _)
  have hg1 : (w.alloc (.cells #[.int .u64 (cd : Int), .int .i64 tg, .bool kd, .slice ya ln yc] 50)).cell? ⟨g, 0, none⟩ = some (.int .u64 (code : Int)) := by
    rw [HB0.out.cell (p := ⟨g, 0, none⟩) hlt]; exact hg
  clear hlt
  go_enter Try.func39, Try.ntmps39
  go_wp2_with fail
  go_ret
  exact ⟨by rw [← hb]; rfl, HB0.out⟩

set_option maxRecDepth 10000 in
set_option maxHeartbeats 1600000 in
theorem aindex_find {w : World} {a : Option Addr} {L : List ALay} (h : Abbs w w.heap.size a L) (c : Nat) (hl : L.length ≤ 100000) (hll : ∀ y ∈ L, y.x.l.length ≤ 9223372036854775807) (code g : Nat) (hg : w.cell? ⟨g, 0, none⟩ = some (.int .u64 (code : Int))) :
    Calls Try.prog 38 #[.slice a L.length c, .func (.func 39) #[] #[.pointer (some ⟨g, 0, none⟩)]] w fun r w' => r = .returned (.int .i64 (findI L code)) ∧ Below w.heap.size w w' := by
  obtain ⟨N, hN⟩ : ∃ N, L.length = N := ⟨_, rfl⟩
  have HH := Lib.hid h
  have HN := Lib.hid hN
  have hlt : g < w.heap.size := by simpa using World.block_lt_of_cell? w _ hg
  have HG := Lib.hid (fun (W : World) (hW : Below w.heap.size w W) => (show W.cell? ⟨g, 0, none⟩ = some (.int .u64 (code : Int)) by rw [hW.cell (p := ⟨g, 0, none⟩) hlt]; exact hg))
  have HLL := Lib.hid hll
  rw [hN] at hl ⊢
  clear h hN hg hlt hll
  go_enter Try.func38, Try.ntmps38
  go_wp2_with fail
  go_loopw [8] (fun i wr => ∃ k : Nat, k ≤ N ∧ i = .int .i64 k ∧ Hid (Below w.heap.size w wr) ∧ Hid ((L.take k).all (fun y => !(hasC code y)) = true)) (fun i _ => N - (intOf i).toNat)
  case atStart => exact ⟨0, Nat.zero_le _, rfl, Lib.hid (Below.refl _ _), Lib.hid rfl⟩
  case round =>
    obtain ⟨k, hk, rfl, HB, HY⟩ := hrel
    by_cases hlt : k < N
    · obtain ⟨y, hy⟩ : ∃ y, L[k]? = some y := ⟨L[k]'(by rw [HN.out]; exact hlt), List.getElem?_eq_getElem _⟩
      obtain ⟨b, o, rfl, hb, c0, c1, c2, c3⟩ := abb_at (HH.out.below HB.out) hy
      have HW := Lib.hid (find1_any (w := wr) y code g (HG.out wr HB.out))
      have hyl := HLL.out y (List.mem_of_getElem? hy)
      cases hst : hasC code y with
      | true =>
        have HF := Lib.hid (show findI L code = (k : Int) by unfold findI; rw [findK_at hy HY.out hst])
        rw [hst] at HW
        clear hy hst
        generalize y.x.l.length = ln at *
        generalize y.x.code = cd at *
        generalize y.x.tag = tg at *
        generalize y.x.kids = kd at *
        generalize y.a = ya at *
        generalize y.c = yc at *
        go_wp2_with (go_at_call 39; refine HW.out.mono ?_; rintro r w1 ⟨rfl, hb1⟩)
        have HB1 := Lib.hid (HB.out.trans (hb1.mono HB.out.size))
        go_ret
        exact ⟨by rw [HF.out]; rfl, HB1.out⟩
      | false =>
        have HF := Lib.hid (all_snoc (p := fun y => !(hasC code y)) hy HY.out (by rw [hst]; rfl))
        rw [hst] at HW
        clear hy hst
        generalize y.x.l.length = ln at *
        generalize y.x.code = cd at *
        generalize y.x.tag = tg at *
        generalize y.x.kids = kd at *
        generalize y.a = ya at *
        generalize y.c = yc at *
        go_wp2_with (go_at_call 39; refine HW.out.mono ?_; rintro r w1 ⟨rfl, hb1⟩)
        have HB1 := Lib.hid (HB.out.trans (hb1.mono HB.out.size))
        go_roundw
        case rel => exact ⟨k + 1, by omega, by go_num, HB1, HF⟩
        case measure => simp [intOf]; omega
    · have HF := Lib.hid (show findI L code = -1 by
        have := HY.out
        rw [List.take_of_length_le (by rw [HN.out]; omega)] at this
        unfold findI
        rw [findK_no this])
      go_wp2_with fail
      go_ret
      exact ⟨by rw [HF.out]; rfl, HB.out⟩

set_option maxRecDepth 10000 in
set_option maxHeartbeats 1600000 in
theorem findA_any {w : World} {a : Option Addr} {L : List ALay} (h : Abbs w w.heap.size a L) (c : Nat) (hl : L.length ≤ 100000) (hll : ∀ y ∈ L, y.x.l.length ≤ 9223372036854775807) (code : Nat) :
    Calls Try.prog 19 #[.slice a L.length c, .int .u64 (code : Int)] w fun r w' => ∃ z b, r = .returned (.tuple #[z, .bool b]) ∧ Found L code z b ∧ Below w.heap.size w w' := by
  generalize hw0 : w.alloc (.cells #[.int .u64 (code : Int)] 23) = w0 at *
  have hb0 : Below w.heap.size w w0 := hw0 ▸ (Below.refl _ _).alloc (Nat.le_refl _) _
  have hX0 := Box.new w 23 #[.int .u64 (code : Int)]
  rw [hw0] at hX0
  generalize hw1 : w0.alloc (.cells #[.int .u64 0, .int .i64 0, .bool false, .slice none 0 0] 50) = w1 at *
  have hb1 : Below w0.heap.size w0 w1 := hw1 ▸ (Below.refl _ _).alloc (Nat.le_refl _) _
  have hX1 := Box.new w0 50 #[.int .u64 0, .int .i64 0, .bool false, .slice none 0 0]
  rw [hw1] at hX1
  have hb01 := hb0.trans (hb1.mono hb0.size)
  have hg : w1.cell? ⟨w.heap.size, 0, none⟩ = some (.int .u64 (code : Int)) := by rw [(hX0.below hb1 hX0.lt).cell]; rfl
  have HI := Lib.hid (aindex_find (h.up hb01) c hl hll code w.heap.size hg)
  have HX1 := Lib.hid hX1
  have HB1 := Lib.hid hb01
  have HH := Lib.hid h
  have HLL := Lib.hid hll
  obtain ⟨N, hN⟩ : ∃ N, L.length = N := ⟨_, rfl⟩
  have HN := Lib.hid hN
  have hh0 : w0.heap.size = w.heap.size + 1 := by rw [← hw0]; simp
  have HH0 := Lib.hid hh0
  rw [hN] at hl HI ⊢
  have hmf : ∀ (fn : Fn) (first cap : Array Value) (W : World), (Instr.makeFunc fn first cap).run Try.prog W = .ok (.func fn first cap) W := fun _ _ _ _ => rfl
  clear h hll hN hb0 hb1 hb01 hX0 hX1 hh0 hg
  go_enter Try.func19, Try.ntmps19
  go_upto_region 1 with fail
  try rw [hw0, hw1]
  clear hw0 hw1
  go_upto_region 2 with (go_at_call 38; refine HI.out.mono ?_; rintro r w2 ⟨rfl, hb2⟩; have HX2 := Lib.hid (HX1.out.below hb2 HX1.out.lt); have HB2 := Lib.hid (HB1.out.trans (hb2.mono HB1.out.size)); clear hb2)
  obtain ⟨q0, q1, q2, q3⟩ := four_cells HX2.out
  obtain ⟨f0, f1, f2, f3⟩ := four_free HX2.out
  have HRF := Lib.hid (fun (v0 v1 v2 v3 : Value) => HB2.out.trans (below_of_only (B := w.heap.size) (four_only w2 w0.heap.size v0 v1 v2 v3) HB2.out.size (fun x hx => by cases hx; rw [HH0.out]; exact Nat.le_succ _)))
  cases hf : findK L code with
  | none =>
    have hi : findI L code = -1 := by unfold findI; rw [hf]
    have HF := Lib.hid hf
    rw [hi]
    clear hf hi
    generalize w0.heap.size = H at *
    go_wp2_with fail
    refine ret_two Try.underlying50 Try.results19 (four_box HX2.out rfl _ _ _ _) (by kernel_rfl) (by rfl) rfl ?_
    exact ⟨_, _, rfl, .inl ⟨HF.out, rfl, rfl⟩, HRF.out _ _ _ _⟩
  | some k =>
    have hi : findI L code = (k : Int) := by unfold findI; rw [hf]
    obtain ⟨y, hy, -⟩ := findK_get hf
    obtain ⟨b, o, rfl, hb, c0, c1, c2, c3⟩ := abb_at (HH.out.below HB2.out) hy
    have hkN : k < N := by rw [← HN.out]; exact (List.getElem?_eq_some_iff.1 hy).1
    have hyl := HLL.out y (List.mem_of_getElem? hy)
    have HF := Lib.hid hf
    have HY := Lib.hid hy
    have HV := Lib.hid (show y.val = .agg #[.int .u64 (y.x.code : Int), .int .i64 y.x.tag, .bool y.x.kids, .slice y.a y.x.l.length y.c] from rfl)
    rw [hi]
    clear hf hi hy
    generalize y.x.l.length = ln at *
    generalize y.x.code = cd at *
    generalize y.x.tag = tg at *
    generalize y.x.kids = kd at *
    generalize y.a = ya at *
    generalize y.c = yc at *
    generalize w0.heap.size = H at *
    go_wp2_with fail
    refine ret_two Try.underlying50 Try.results19 (four_box HX2.out rfl _ _ _ _) (by kernel_rfl) (by rfl) rfl ?_
    exact ⟨_, _, rfl, .inr ⟨k, y, HF.out, HY.out, rfl, HV.out.symm⟩, HRF.out _ _ _ _⟩


set_option maxRecDepth 10000 in
set_option maxHeartbeats 1600000 in
theorem rfindA_any {w : World} {a : Option Addr} {L : List ALay} (h : Abbs w w.heap.size a L) (c : Nat) (hl : L.length ≤ 100000) (hll : ∀ y ∈ L, y.x.l.length ≤ 9223372036854775807) (code : Nat) :
    Calls Try.prog 20 #[.slice a L.length c, .int .u64 (code : Int)] w fun r w' => ∃ z b, r = .returned (.tuple #[z, .bool b]) ∧ Found L code z b ∧ Below w.heap.size w w' := by
  generalize hw1 : w.alloc (.cells #[.int .u64 0, .int .i64 0, .bool false, .slice none 0 0] 50) = w1 at *
  have hb1 : Below w.heap.size w w1 := hw1 ▸ (Below.refl _ _).alloc (Nat.le_refl _) _
  have hX1 := Box.new w 50 #[.int .u64 0, .int .i64 0, .bool false, .slice none 0 0]
  rw [hw1] at hX1
  have HX1 := Lib.hid hX1
  have HB1 := Lib.hid hb1
  have HH := Lib.hid (h.below hb1)
  have HLL := Lib.hid hll
  obtain ⟨N, hN⟩ : ∃ N, L.length = N := ⟨_, rfl⟩
  have HN := Lib.hid hN
  rw [hN] at hl ⊢
  clear h hll hN hb1 hX1
  go_enter Try.func20, Try.ntmps20
  go_upto_region 1 with fail
  try rw [hw1]
  clear hw1
  have HRF := Lib.hid (fun (v0 v1 v2 v3 : Value) => HB1.out.trans (below_of_only (B := w.heap.size) (four_only w1 w.heap.size v0 v1 v2 v3) HB1.out.size (fun x hx => by cases hx; exact Nat.le_refl _)))
  go_wp2_with fail
  go_loopw [6] (fun i wr => ∃ k : Nat, k ≤ N ∧ i = .int .i64 k ∧ wr = w1 ∧ Hid ((L.take k).all (fun y => !(hasC code y)) = true)) (fun i _ => N - (intOf i).toNat)
  case atStart => exact ⟨0, Nat.zero_le _, rfl, rfl, Lib.hid rfl⟩
  case round =>
    obtain ⟨k, hk, rfl, rfl, HY⟩ := hrel
    obtain ⟨q0, q1, q2, q3⟩ := four_cells HX1.out
    obtain ⟨f0, f1, f2, f3⟩ := four_free HX1.out
    by_cases hlt : k < N
    · obtain ⟨y, hy⟩ : ∃ y, L[k]? = some y := ⟨L[k]'(by rw [HN.out]; exact hlt), List.getElem?_eq_getElem _⟩
      obtain ⟨b, o, rfl, hb, c0, c1, c2, c3⟩ := abb_at HH.out hy
      have hyl := HLL.out y (List.mem_of_getElem? hy)
      have hbb : ((y.x.code : Int) == (code : Int)) = hasC code y := by unfold hasC; rw [Bool.eq_iff_iff]; simp; omega
      cases hst : hasC code y with
      | true =>
        have HF := Lib.hid (findK_at hy HY.out hst)
        have HYK := Lib.hid hy
        have HV := Lib.hid (show y.val = .agg #[.int .u64 (y.x.code : Int), .int .i64 y.x.tag, .bool y.x.kids, .slice y.a y.x.l.length y.c] from rfl)
        rw [hst] at hbb
        clear hy hst
        generalize y.x.l.length = ln at *
        generalize y.x.code = cd at *
        generalize y.x.tag = tg at *
        generalize y.x.kids = kd at *
        generalize y.a = ya at *
        generalize y.c = yc at *
        go_wp2_with fail
        refine ret_two Try.underlying50 Try.results20 (four_box HX1.out rfl _ _ _ _) (by kernel_rfl) (by rfl) rfl ?_
        exact ⟨_, _, rfl, .inr ⟨k, y, HF.out, HYK.out, rfl, HV.out.symm⟩, HRF.out _ _ _ _⟩
      | false =>
        have HF := Lib.hid (all_snoc (p := fun y => !(hasC code y)) hy HY.out (by rw [hst]; rfl))
        rw [hst] at hbb
        clear hy hst
        generalize y.x.l.length = ln at *
        generalize y.x.code = cd at *
        generalize y.x.tag = tg at *
        generalize y.x.kids = kd at *
        generalize y.a = ya at *
        generalize y.c = yc at *
        go_wp2_with fail
        go_roundw
        case rel => exact ⟨k + 1, by omega, by go_num, trivial, HF⟩
        case measure => simp [intOf]; omega
    · have HF := Lib.hid (show findK L code = none by
        have := HY.out
        rw [List.take_of_length_le (by rw [HN.out]; omega)] at this
        exact findK_no this)
      go_wp2_with fail
      refine ret_two Try.underlying50 Try.results20 (four_box HX1.out rfl _ _ _ _) (by kernel_rfl) (by rfl) rfl ?_
      exact ⟨_, _, rfl, .inl ⟨HF.out, rfl, rfl⟩, HRF.out _ _ _ _⟩

end Go.Proofs.Ytpmndmbhkfbljaa

namespace Go.Proofs.Ytpmndmbhkfbljaa
open Go Go.RowKit Go.Maps

theorem eqP_iff (x y : Spc) : eqP x y = true ↔ x = y := by
  unfold eqP
  simp only [Bool.and_eq_true, decide_eq_true_eq]
  constructor
  · rintro ⟨h1, h2, h3⟩
    cases x; cases y
    simp only at h1 h2 h3
    subst h1 h2 h3
    rfl
  · rintro rfl
    exact ⟨rfl, rfl, rfl⟩
def oneB (x y : Abb) : Bool := decide (x.code = y.code) && (decide (x.tag = y.tag) && (decide (x.kids = y.kids) && alikeL eqP x.l y.l))
theorem alike_iff {α : Type} {p : α → α → Bool} (hp : ∀ x y, p x y = true ↔ x = y) : ∀ (L M : List α), alikeL p L M = true ↔ L = M
  | [], [] => by simp [alikeL]
  | [], y :: M => by simp [alikeL]
  | x :: L, [] => by simp [alikeL]
  | x :: L, y :: M => by
    have ih := alike_iff hp L M
    unfold alikeL at ih ⊢
    simp only [List.length_cons, Nat.add_right_cancel_iff, List.zip_cons_cons, List.all_cons, Bool.and_eq_true, decide_eq_true_eq, List.cons.injEq, hp] at ih ⊢
    constructor
    · rintro ⟨h1, h2, h3⟩; exact ⟨h2, ih.1 ⟨h1, h3⟩⟩
    · rintro ⟨h1, h2⟩; obtain ⟨h3, h4⟩ := ih.2 h2; exact ⟨h3, h1, h4⟩
theorem oneB_iff (x y : Abb) : oneB x y = true ↔ x = y := by
  unfold oneB
  simp only [Bool.and_eq_true, decide_eq_true_eq, alike_iff eqP_iff]
  constructor
  · rintro ⟨h1, h2, h3, h4⟩
    cases x; cases y
    simp only at h1 h2 h3 h4
    subst h1 h2 h3 h4
    rfl
  · rintro rfl
    exact ⟨rfl, rfl, rfl, rfl⟩
def oneL (x y : ALay) : Bool := oneB x.x y.x
theorem alikeA_iff : ∀ (L M : List ALay), alikeL oneL L M = true ↔ L.map ALay.x = M.map ALay.x
  | [], [] => by simp [alikeL]
  | [], y :: M => by simp [alikeL]
  | x :: L, [] => by simp [alikeL]
  | x :: L, y :: M => by
    have ih := alikeA_iff L M
    unfold alikeL at ih ⊢
    simp only [List.length_cons, Nat.add_right_cancel_iff, List.zip_cons_cons, List.all_cons, Bool.and_eq_true, decide_eq_true_eq, List.map_cons, List.cons.injEq, oneL, oneB_iff] at ih ⊢
    constructor
    · rintro ⟨h1, h2, h3⟩; exact ⟨h2, ih.1 ⟨h1, h3⟩⟩
    · rintro ⟨h1, h2⟩; obtain ⟨h3, h4⟩ := ih.2 h2; exact ⟨h3, h1, h4⟩

theorem eqFields_spc (x y : Spc) (W : World) (d : Nat) : (Op.eqFields (d + 1) x.cells.toArray y.cells.toArray (Try.prog.fieldsOf 56).toList).run Try.prog W = .ok (eqP x y) W := by
  have h0 := run_equalIn_int (P := Try.prog) W d 3 .i64 .i64 x.at_ y.at_ Try.underlying3
  have h1 := run_equalIn_int (P := Try.prog) W d 3 .i64 .i64 x.form y.form Try.underlying3
  have h2 := run_equalIn_int (P := Try.prog) W d 2 .i64 .i64 x.imp y.imp Try.underlying2
  rw [beq_int] at h0 h1 h2
  have hf : ∀ (i : Nat) (f : Field), (Try.prog.fieldsOf 56).toList[i]? = some f → f.name ≠ "_" ∧ f.offset = i ∧ [3, 3, 2][i]? = some f.type := by
    simp only [Program.fieldsOf, Try.underlying56]
    intro i f hf
    have hi := (List.getElem?_eq_some_iff.1 hf).1
    simp only [List.length_cons, List.length_nil] at hi
    match i, hi with
    | 0, _ | 1, _ | 2, _ =>
      injection hf with hf
      subst hf
      exact ⟨by decide, rfl, rfl⟩
  have hl : (Try.prog.fieldsOf 56).toList.length = 3 := by simp only [Program.fieldsOf, Try.underlying56]; rfl
  generalize (Try.prog.fieldsOf 56).toList = fs at *
  obtain ⟨f0, f1, f2, rfl⟩ : ∃ f0 f1 f2, fs = [f0, f1, f2] := by
    match fs, hl with
    | [f0, f1, f2], _ => exact ⟨f0, f1, f2, rfl⟩
  obtain ⟨n0, o0, t0⟩ := hf 0 _ rfl
  obtain ⟨n1, o1, t1⟩ := hf 1 _ rfl
  obtain ⟨n2, o2, t2⟩ := hf 2 _ rfl
  have t0 : f0.type = 3 := (Option.some.inj (show some 3 = some f0.type from t0)).symm
  have t1 : f1.type = 3 := (Option.some.inj (show some 3 = some f1.type from t1)).symm
  have t2 : f2.type = 2 := (Option.some.inj (show some 2 = some f2.type from t2)).symm
  have key := eq_fields (xs := x.cells.toArray) (ys := y.cells.toArray) n0 (by rw [t0, o0]; exact part_int _ 0 _ rfl W) (by rw [t0, o0]; exact part_int _ 0 _ rfl W) (by rw [t0]; exact h0)
    (eq_fields n1 (by rw [t1, o1]; exact part_int _ 1 _ rfl W) (by rw [t1, o1]; exact part_int _ 1 _ rfl W) (by rw [t1]; exact h1)
    (eq_fields n2 (by rw [t2, o2]; exact part_i64 _ 2 _ rfl W) (by rw [t2, o2]; exact part_i64 _ 2 _ rfl W) (by rw [t2]; exact h2) (fs := []) (r := true) rfl))
  rw [key]
  unfold eqP
  simp only [Bool.and_true]
theorem neq_spc (x y : Spc) (W : World) : (binOp .neq 56 (.agg x.cells.toArray) (.agg y.cells.toArray)).run Try.prog W = .ok (.bool (!(eqP x y))) W := by
  rw [run_neq_struct, run_equalIn_agg W 9999 _ _ _ (by kernel_rfl) (by kernel_rfl), eqFields_spc x y W 9998]
  rfl

set_option maxRecDepth 10000 in
set_option maxHeartbeats 3200000 in
theorem one_any {w : World} (y z : ALay) (hy : Spcs w w.heap.size y.a y.x.l) (hz : Spcs w w.heap.size z.a z.x.l) (hl : y.x.l.length ≤ 9223372036854775807) :
    Calls Try.prog 21 #[.agg #[.int .u64 (y.x.code : Int), .int .i64 y.x.tag, .bool y.x.kids, .slice y.a y.x.l.length y.c], .agg #[.int .u64 (z.x.code : Int), .int .i64 z.x.tag, .bool z.x.kids, .slice z.a z.x.l.length z.c]] w fun r w' => r = .returned (.bool (oneL y z)) ∧ Below w.heap.size w w' := by
  have HS := Lib.hid (show oneL y z = (decide (y.x.code = z.x.code) && (decide (y.x.tag = z.x.tag) && (decide (y.x.kids = z.x.kids) && (decide (y.x.l.length = z.x.l.length) && (y.x.l.zip z.x.l).all (fun p => eqP p.1 p.2))))) from rfl)
  have HY := Lib.hid hy
  have HZ := Lib.hid hz
  generalize oneL y z = sa at *
  generalize y.x.l = yl at *
  generalize z.x.l = zl at *
  obtain ⟨N, hN⟩ : ∃ N, yl.length = N := ⟨_, rfl⟩
  obtain ⟨M, hM⟩ : ∃ M, zl.length = M := ⟨_, rfl⟩
  have HN := Lib.hid hN
  have HM := Lib.hid hM
  rw [hN] at hl HS ⊢
  rw [hM] at HS ⊢
  clear hy hz hN hM
  generalize y.x.code = cd at *
  generalize y.x.tag = tg at *
  generalize y.x.kids = kd at *
  generalize y.a = ya at *
  generalize y.c = yc at *
  generalize z.x.code = cd' at *
  generalize z.x.tag = tg' at *
  generalize z.x.kids = kd' at *
  generalize z.a = za at *
  generalize z.c = zc at *
  generalize hw0 : w.alloc (.cells #[.int .u64 (cd : Int), .int .i64 tg, .bool kd, .slice ya N yc] 50) = w0 at *
  have hb0 : Below w.heap.size w w0 := hw0 ▸ (Below.refl _ _).alloc (Nat.le_refl _) _
  have hX0 := Box.new w 50 #[.int .u64 (cd : Int), .int .i64 tg, .bool kd, .slice ya N yc]
  rw [hw0] at hX0
  generalize hw1 : w0.alloc (.cells #[.int .u64 (cd' : Int), .int .i64 tg', .bool kd', .slice za M zc] 50) = w1 at *
  have hb1 : Below w0.heap.size w0 w1 := hw1 ▸ (Below.refl _ _).alloc (Nat.le_refl _) _
  have hX1 := Box.new w0 50 #[.int .u64 (cd' : Int), .int .i64 tg', .bool kd', .slice za M zc]
  rw [hw1] at hX1
  have HB1 := Lib.hid (hb0.trans (hb1.mono hb0.size))
  obtain ⟨c0, c1, c2, c3⟩ := four_cells (hX0.below hb1 hX0.lt)
  obtain ⟨e0, e1, e2, e3⟩ := four_cells hX1
  have n0 : ((cd : Int) != (cd' : Int)) = !decide (cd = cd') := by rw [Bool.eq_iff_iff]; simp; omega
  have n2 : (kd == kd') = decide (kd = kd') := by cases kd <;> cases kd' <;> rfl
  have n1 : (tg != tg') = !decide (tg = tg') := by rw [Bool.eq_iff_iff]; simp
  have n3 : ((N : Int) != (M : Int)) = !decide (N = M) := by rw [Bool.eq_iff_iff]; simp; omega
  have h0 : w0.heap.size ≠ w.heap.size := by rw [← hw0]; simp
  have KX := Lib.hid (fun W (hW : Below w1.heap.size w1 W) => And.intro ((hX0.below hb1 hX0.lt).below hW (Nat.lt_of_lt_of_le hX0.lt hb1.size)) (hX1.below hW hX1.lt))
  have HNM := Lib.hid (show decide (N = M) = true → N = M from fun h => of_decide_eq_true h)
  generalize decide (cd = cd') = b0 at *
  generalize decide (tg = tg') = b1 at *
  generalize decide (kd = kd') = b2 at *
  generalize decide (N = M) = b3 at *
  clear hb0 hb1 hX0 hX1
  go_enter Try.func21, Try.ntmps21
  go_upto_region 1 with fail
  try rw [hw0, hw1]
  clear hw0 hw1
  have hways : ((b0 && (b1 && (b2 && b3))) = false) ∨ (b0 = true ∧ b1 = true ∧ b2 = true ∧ b3 = true) := by
    cases b0 <;> cases b1 <;> cases b2 <;> cases b3 <;> simp
  rcases hways with hno | ⟨rfl, rfl, rfl, rfl⟩
  · have HF := Lib.hid (show sa = false by
      rw [HS.out]
      revert hno
      cases b0 <;> cases b1 <;> cases b2 <;> cases b3 <;> simp)
    have h5 : b0 = false ∨ (b0 = true ∧ b1 = false) ∨ (b0 = true ∧ b1 = true ∧ b2 = false) ∨ (b0 = true ∧ b1 = true ∧ b2 = true ∧ b3 = false) := by
      revert hno
      cases b0 <;> cases b1 <;> cases b2 <;> cases b3 <;> simp
    clear hno HS HNM KX
    rcases h5 with rfl | ⟨rfl, rfl⟩ | ⟨rfl, rfl, rfl⟩ | ⟨rfl, rfl, rfl, rfl⟩
    all_goals
      simp only [Bool.not_true, Bool.not_false] at n0 n1 n3
      go_wp2_with fail
      go_ret
      exact ⟨by rw [HF.out]; rfl, HB1.out⟩
  · simp only [Bool.not_true] at n0 n1 n3
    obtain rfl := HNM.out rfl
    simp only [Bool.true_and] at HS
    go_upto_region 3 with fail
    clear c0 c1 c2 c3 e0 e1 e2 e3 n0 n1 n2 n3
    go_wp2_with fail
    go_loopw [5] (fun i wr => ∃ k : Nat, k ≤ N ∧ i = .int .i64 k ∧ Hid (Below w1.heap.size w1 wr) ∧ Hid (((yl.zip zl).take k).all (fun p => eqP p.1 p.2) = true)) (fun i _ => N - (intOf i).toNat)
    case atStart => exact ⟨0, Nat.zero_le _, rfl, Lib.hid (Below.refl _ _), Lib.hid rfl⟩
    case round =>
      obtain ⟨k, hk, rfl, HBl, HA⟩ := hrel
      obtain ⟨x0, x1⟩ := KX.out _ HBl.out
      obtain ⟨c0, c1, c2, c3⟩ := four_cells x0
      obtain ⟨e0, e1, e2, e3⟩ := four_cells x1
      have HBW := Lib.hid (HB1.out.trans (HBl.out.mono HB1.out.size))
      clear x0 x1
      by_cases hlt : k < N
      · have HLT := Lib.hid hlt
        obtain ⟨x, hx⟩ : ∃ x, yl[k]? = some x := ⟨_, List.getElem?_eq_getElem (by rw [HN.out]; exact hlt)⟩
        obtain ⟨y, hy⟩ : ∃ y, zl[k]? = some y := ⟨_, List.getElem?_eq_getElem (by rw [HM.out]; exact hlt)⟩
        obtain ⟨b, o, rfl, hb, p0, p1, p2⟩ := spc_at (Row.below HY.out HBW.out) hx
        obtain ⟨b', o', rfl, hb', q0, q1, q2⟩ := spc_at (Row.below HZ.out HBW.out) hy
        have hz := zip_get hx hy
        have HT := Lib.hid (fun (e : eqP x y = true) => all_take (fun p : Spc × Spc => eqP p.1 p.2) _ k _ hz HA.out e)
        have HF := Lib.hid (fun (e : eqP x y = false) => all_not (fun p : Spc × Spc => eqP p.1 p.2) _ k _ hz e)
        have hq := fun W => neq_spc x y W
        rw [show Value.agg x.cells.toArray = .agg #[.int .i64 x.at_, .int .i64 x.form, .int .i64 x.imp] from rfl, show Value.agg y.cells.toArray = .agg #[.int .i64 y.at_, .int .i64 y.form, .int .i64 y.imp] from rfl] at hq
        clear hx hy hz hb hb'
        generalize eqP x y = ss at *
        generalize x.at_ = x1 at *
        generalize x.form = x2 at *
        generalize x.imp = x3 at *
        generalize y.at_ = y1 at *
        generalize y.form = y2 at *
        generalize y.imp = y3 at *
        cases ss with
        | false =>
          have HZZ := Lib.hid (HF.out rfl)
          go_upto_region 6 with fail
          go_quiet (fail)
          go_wp2_with fail
          go_ret
          exact ⟨by rw [HS.out, HZZ.out]; rfl, below_drewN HBW.out nq⟩
        | true =>
          have HZZ := Lib.hid (HT.out rfl)
          go_upto_region 6 with fail
          go_quiet (fail)
          have HB9 := Lib.hid (below_drewN HBl.out nq)
          go_wp2_with fail
          go_roundw
          case rel => exact ⟨k + 1, HLT.out, by go_num, HB9, HZZ⟩
          case measure => have := HLT.out; simp [intOf]; omega
      · have HZZ := Lib.hid (show sa = true by
          rw [HS.out]
          have := HA.out
          rwa [List.take_of_length_le (by rw [List.length_zip, HN.out, HM.out]; omega)] at this)
        go_wp2_with fail
        go_ret
        exact ⟨by rw [HZZ.out]; rfl, HBW.out⟩

end Go.Proofs.Ytpmndmbhkfbljaa

namespace Go.Proofs.Ytpmndmbhkfbljaa
open Go Go.RowKit Go.Maps

set_option maxRecDepth 10000 in
set_option maxHeartbeats 3200000 in
theorem sameA_any {w : World} {a a' : Option Addr} {L M : List ALay} (h : Abbs w w.heap.size a L) (h' : Abbs w w.heap.size a' M) (c c' : Nat) (hl : L.length ≤ 100000) (hll : ∀ y ∈ L, y.x.l.length ≤ 100000) (hll' : ∀ y ∈ M, y.x.l.length ≤ 100000) :
    Calls Try.prog 9 #[.slice a L.length c, .slice a' M.length c'] w fun r w' => r = .returned (.bool (alikeL oneL L M)) ∧ Below w.heap.size w w' := by
  by_cases hlen : L.length = M.length
  · have HS := Lib.hid (show alikeL oneL L M = (L.zip M).all (fun p => oneL p.1 p.2) by unfold alikeL; rw [decide_eq_true hlen, Bool.true_and])
    have HH := Lib.hid h
    have HM := Lib.hid h'
    have HLL := Lib.hid hll
    have HLM := Lib.hid hll'
    rw [← hlen]
    generalize hN : L.length = N at *
    have HN := Lib.hid hN
    have HN' := Lib.hid hlen
    generalize alikeL oneL L M = sa at *
    have q : ((N : Int) != (N : Int)) = false := by simp
    clear h h' hN hlen hll hll'
    go_enter Try.func9, Try.ntmps9
    go_wp2_with fail
    clear q
    go_loopw [5] (fun i wr => ∃ k : Nat, k ≤ N ∧ i = .int .i64 k ∧ Hid (Below w.heap.size w wr) ∧ Hid (((L.zip M).take k).all (fun p => oneL p.1 p.2) = true)) (fun i _ => N - (intOf i).toNat)
    case atStart => exact ⟨0, Nat.zero_le _, rfl, Lib.hid (Below.refl _ _), Lib.hid rfl⟩
    case round =>
      obtain ⟨k, hk, rfl, HBl, HA⟩ := hrel
      by_cases hlt : k < N
      · have HLT := Lib.hid hlt
        obtain ⟨x, hx⟩ : ∃ x, L[k]? = some x := ⟨L[k]'(by rw [HN.out]; exact hlt), List.getElem?_eq_getElem _⟩
        obtain ⟨y, hy⟩ : ∃ y, M[k]? = some y := ⟨M[k]'(by rw [← HN'.out]; exact hlt), List.getElem?_eq_getElem _⟩
        have hxm := List.mem_of_getElem? hx
        have hym := List.mem_of_getElem? hy
        obtain ⟨b, o, rfl, hb, p0, p1, p2, p3⟩ := abb_at (HH.out.below HBl.out) hx
        obtain ⟨b', o', rfl, hb', q0, q1, q2, q3⟩ := abb_at (HM.out.below HBl.out) hy
        have hz := zip_get hx hy
        have HT := Lib.hid (fun (e : oneL x y = true) => all_take (fun p : ALay × ALay => oneL p.1 p.2) _ k _ hz HA.out e)
        have HF := Lib.hid (fun (e : oneL x y = false) => all_not (fun p : ALay × ALay => oneL p.1 p.2) _ k _ hz e)
        have HO := Lib.hid (fun X (hX : Below wr.heap.size wr X) => (by
          have h1 := HBl.out.trans (hX.mono HBl.out.size)
          exact one_any x y (Row.more ((HH.out.below h1).spcs x hxm) h1.size) (Row.more ((HM.out.below h1).spcs y hym) h1.size) (by have := HLL.out x hxm; omega) :
          Calls Try.prog 21 #[.agg #[.int .u64 (x.x.code : Int), .int .i64 x.x.tag, .bool x.x.kids, .slice x.a x.x.l.length x.c], .agg #[.int .u64 (y.x.code : Int), .int .i64 y.x.tag, .bool y.x.kids, .slice y.a y.x.l.length y.c]] X fun r w' => r = .returned (.bool (oneL x y)) ∧ Below X.heap.size X w'))
        have hbw := HBl.out.size
        have hxl := HLL.out x hxm
        have hyl := HLM.out y hym
        clear hx hy hz hxm hym
        generalize oneL x y = ss at *
        generalize x.x.l.length = xn at *
        generalize x.x.code = x1 at *
        generalize x.x.tag = x2 at *
        generalize x.x.kids = x3 at *
        generalize x.a = x4 at *
        generalize x.c = x5 at *
        generalize y.x.l.length = yn at *
        generalize y.x.code = y1 at *
        generalize y.x.tag = y2 at *
        generalize y.x.kids = y3 at *
        generalize y.a = y4 at *
        generalize y.c = y5 at *
        have KS := Lib.hid (fun X (hX : Below wr.heap.size wr X) => (⟨hX, by rw [hX.cell (p := ⟨b, _, none⟩) (Nat.lt_of_lt_of_le hb hbw)]; exact p0, by rw [hX.cell (p := ⟨b, _, none⟩) (Nat.lt_of_lt_of_le hb hbw)]; exact p1, by rw [hX.cell (p := ⟨b, _, none⟩) (Nat.lt_of_lt_of_le hb hbw)]; exact p2, by rw [hX.cell (p := ⟨b, _, none⟩) (Nat.lt_of_lt_of_le hb hbw)]; exact p3,
            by rw [hX.cell (p := ⟨b', _, none⟩) (Nat.lt_of_lt_of_le hb' hbw)]; exact q0, by rw [hX.cell (p := ⟨b', _, none⟩) (Nat.lt_of_lt_of_le hb' hbw)]; exact q1, by rw [hX.cell (p := ⟨b', _, none⟩) (Nat.lt_of_lt_of_le hb' hbw)]; exact q2, by rw [hX.cell (p := ⟨b', _, none⟩) (Nat.lt_of_lt_of_le hb' hbw)]; exact q3⟩ :
          Below wr.heap.size wr X ∧ X.cell? ⟨b, o + k * 4, none⟩ = some (.int .u64 (x1 : Int)) ∧ X.cell? ⟨b, o + k * 4 + 1, none⟩ = some (.int .i64 x2) ∧ X.cell? ⟨b, o + k * 4 + 2, none⟩ = some (.bool x3) ∧ X.cell? ⟨b, o + k * 4 + 3, none⟩ = some (.slice x4 xn x5) ∧
          X.cell? ⟨b', o' + k * 4, none⟩ = some (.int .u64 (y1 : Int)) ∧ X.cell? ⟨b', o' + k * 4 + 1, none⟩ = some (.int .i64 y2) ∧ X.cell? ⟨b', o' + k * 4 + 2, none⟩ = some (.bool y3) ∧ X.cell? ⟨b', o' + k * 4 + 3, none⟩ = some (.slice y4 yn y5)))
        clear p0 p1 p2 p3 q0 q1 q2 q3
        have hrf := Below.refl wr.heap.size wr
        cases ss with
        | false =>
          have HZZ := Lib.hid (HF.out rfl)
          go_upto_region 6 with fail
          go_region_held_law (fun X => Below wr.heap.size wr X ∧ X.cell? ⟨b, o + k * 4, none⟩ = some (.int .u64 (x1 : Int)) ∧ X.cell? ⟨b, o + k * 4 + 1, none⟩ = some (.int .i64 x2) ∧ X.cell? ⟨b, o + k * 4 + 2, none⟩ = some (.bool x3) ∧ X.cell? ⟨b, o + k * 4 + 3, none⟩ = some (.slice x4 xn x5) ∧
          X.cell? ⟨b', o' + k * 4, none⟩ = some (.int .u64 (y1 : Int)) ∧ X.cell? ⟨b', o' + k * 4 + 1, none⟩ = some (.int .i64 y2) ∧ X.cell? ⟨b', o' + k * 4 + 2, none⟩ = some (.bool y3) ∧ X.cell? ⟨b', o' + k * 4 + 3, none⟩ = some (.slice y4 yn y5))
            ((refine KS.out _ ?_; repeat' (first | (with_reducible assumption) | (with_reducible refine below_drewN ?_ _) | (with_reducible refine Below.drew ?_))))
            ((go_at_call 21; refine (HO.out _ (by repeat' (first | (with_reducible assumption) | (with_reducible refine below_drewN ?_ _) | (with_reducible refine Below.drew ?_)))).mono ?_; rintro r w5 ⟨rfl, hb5⟩; have hx5 : Below wr.heap.size wr w5 := (show Below wr.heap.size wr _ from (by repeat' (first | (with_reducible assumption) | (with_reducible refine below_drewN ?_ _) | (with_reducible refine Below.drew ?_)))).trans hb5; have HX5 := Lib.hid hx5; clear hb5))
          all_goals
            go_wp2_with fail
            go_ret
            exact ⟨by rw [HS.out, HZZ.out]; rfl, HBl.out.trans (HX5.out.mono HBl.out.size)⟩
        | true =>
          have HZZ := Lib.hid (HT.out rfl)
          go_upto_region 6 with fail
          go_region_held_law (fun X => Below wr.heap.size wr X ∧ X.cell? ⟨b, o + k * 4, none⟩ = some (.int .u64 (x1 : Int)) ∧ X.cell? ⟨b, o + k * 4 + 1, none⟩ = some (.int .i64 x2) ∧ X.cell? ⟨b, o + k * 4 + 2, none⟩ = some (.bool x3) ∧ X.cell? ⟨b, o + k * 4 + 3, none⟩ = some (.slice x4 xn x5) ∧
          X.cell? ⟨b', o' + k * 4, none⟩ = some (.int .u64 (y1 : Int)) ∧ X.cell? ⟨b', o' + k * 4 + 1, none⟩ = some (.int .i64 y2) ∧ X.cell? ⟨b', o' + k * 4 + 2, none⟩ = some (.bool y3) ∧ X.cell? ⟨b', o' + k * 4 + 3, none⟩ = some (.slice y4 yn y5))
            ((refine KS.out _ ?_; repeat' (first | (with_reducible assumption) | (with_reducible refine below_drewN ?_ _) | (with_reducible refine Below.drew ?_))))
            ((go_at_call 21; refine (HO.out _ (by repeat' (first | (with_reducible assumption) | (with_reducible refine below_drewN ?_ _) | (with_reducible refine Below.drew ?_)))).mono ?_; rintro r w5 ⟨rfl, hb5⟩; have hx5 : Below wr.heap.size wr w5 := (show Below wr.heap.size wr _ from (by repeat' (first | (with_reducible assumption) | (with_reducible refine below_drewN ?_ _) | (with_reducible refine Below.drew ?_)))).trans hb5; have HX5 := Lib.hid hx5; clear hb5))
          all_goals
            have HB9 := Lib.hid (HBl.out.trans (HX5.out.mono HBl.out.size))
            go_wp2_with fail
            go_roundw
            case rel => exact ⟨k + 1, HLT.out, by go_num, HB9, HZZ⟩
            case measure => have := HLT.out; simp [intOf]; omega
      · have HZZ := Lib.hid (show sa = true by
          rw [HS.out]
          have := HA.out
          rwa [List.take_of_length_le (by rw [List.length_zip, ← HN'.out, HN.out]; omega)] at this)
        go_wp2_with fail
        go_ret
        exact ⟨by rw [HZZ.out]; rfl, HBl.out⟩
  · have HF := Lib.hid (show alikeL oneL L M = false by unfold alikeL; rw [decide_eq_false hlen, Bool.false_and])
    have q : ((L.length : Int) != (M.length : Int)) = true := by simp; omega
    clear h h'
    generalize alikeL oneL L M = sa at *
    generalize L.length = n at *
    generalize M.length = m at *
    go_enter Try.func9, Try.ntmps9
    go_wp2_with fail
    go_ret
    exact ⟨by rw [HF.out]; rfl, Below.refl _ _⟩

set_option maxRecDepth 10000 in
set_option maxHeartbeats 1600000 in
theorem bulkA_any {w : World} {B : Nat} {a : Option Addr} {L : List ALay} (h : Abbs w B a L) (c : Nat) :
    Calls Try.prog 14 #[.slice a L.length c, .int .i64 1500] w fun r w' => (∃ n : Int, r = .returned (.int .i64 n) ∧ (n ≤ 1500 → L.length ≤ 1500 ∧ ∀ y ∈ L, y.x.l.length ≤ 1500)) ∧ w = w' := by
  obtain ⟨N, hN⟩ : ∃ N, L.length = N := ⟨_, rfl⟩
  have HH := Lib.hid h
  have HN := Lib.hid hN
  rw [hN]
  clear h hN
  by_cases hbig : 1500 < N
  · have d : decide ((1500 : Int) < (N : Int)) = true := decide_eq_true (by omega)
    clear hbig
    go_enter Try.func14, Try.ntmps14
    go_wp2_with fail
    go_ret
    exact ⟨⟨_, rfl, fun h => absurd h (by decide)⟩, rfl⟩
  · have d : decide ((1500 : Int) < (N : Int)) = false := decide_eq_false (by omega)
    have HNB := Lib.hid (show N ≤ 1500 by omega)
    clear hbig
    go_enter Try.func14, Try.ntmps14
    go_wp2_with fail
    clear d
    have hN5 := HNB.out
    go_loopg [5, 6] N (fun gk n i wr => ∃ k m : Nat, k ≤ N ∧ gk = N - k ∧ n = .int .i64 m ∧ i = .int .i64 k ∧ m ≤ 3000 ∧ wr = w ∧ Hid (∀ j y, j < k → L[j]? = some y → y.x.l.length ≤ 1500))
    case atStart => exact ⟨0, N, Nat.zero_le _, rfl, rfl, rfl, by omega, rfl, Lib.hid (fun j y hj => by omega)⟩
    case round =>
      obtain ⟨k, m, hk, rfl, rfl, rfl, hm, rfl, HJ⟩ := hrel
      by_cases hlt : k < N
      · have HLT := Lib.hid hlt
        obtain ⟨y, hy⟩ : ∃ y, L[k]? = some y := ⟨L[k]'(by rw [HN.out]; exact hlt), List.getElem?_eq_getElem _⟩
        obtain ⟨b, o, rfl, hb, c0, c1, c2, c3⟩ := abb_at HH.out hy
        by_cases hm5 : 1500 < m
        · have d1 : decide ((1500 : Int) < (m : Int)) = true := decide_eq_true (by omega)
          clear hm5 hy
          generalize y.x.l.length = ln at *
          go_wp2_with fail
          go_ret
          exact ⟨⟨_, rfl, fun h => absurd h (by decide)⟩, rfl⟩
        · have d1 : decide ((1500 : Int) < (m : Int)) = false := decide_eq_false (by omega)
          by_cases hl5 : 1500 < y.x.l.length
          · have d2 : decide ((1500 : Int) < (y.x.l.length : Int)) = true := decide_eq_true (by omega)
            clear hm5 hy hl5
            generalize y.x.l.length = ln at *
            go_wp2_with fail
            go_ret
            exact ⟨⟨_, rfl, fun h => absurd h (by decide)⟩, rfl⟩
          · have d2 : decide ((1500 : Int) < (y.x.l.length : Int)) = false := decide_eq_false (by omega)
            have HJ2 := Lib.hid (show ∀ j z, j < k + 1 → L[j]? = some z → z.x.l.length ≤ 1500 from fun j z hj hz => by
              rcases Nat.lt_or_ge j k with h | h
              · exact HJ.out j z h hz
              · obtain rfl : j = k := by omega
                rw [hy] at hz
                injection hz with hz
                subst hz
                omega)
            have hl6 : y.x.l.length ≤ 1500 := by omega
            have hm6 : m ≤ 1500 := by omega
            clear hm5 hy hl5
            generalize y.x.l.length = ln at *
            go_wp2_with fail
            go_roundg (N - (k + 1))
            case measure => have := HLT.out; omega
            case rel => exact ⟨k + 1, m + ln, HLT.out, rfl, by go_num, by go_num, by omega, rfl, HJ2⟩
      · have HE := Lib.hid (show ∀ y ∈ L, y.x.l.length ≤ 1500 from fun y hy => by
          obtain ⟨j, hj⟩ := List.getElem?_of_mem hy
          exact HJ.out j y (by have := (List.getElem?_eq_some_iff.1 hj).1; rw [HN.out] at this; omega) hj)
        go_wp2_with fail
        go_ret
        exact ⟨⟨_, rfl, fun _ => ⟨HNB.out, HE.out⟩⟩, rfl⟩

end Go.Proofs.Ytpmndmbhkfbljaa
