/-
  The law's works: the chapter's example, and a cursor that is none.
-/
import Derived.Test.YtpmndmbhkfbljaaAbL
import Derived.Test.YtpmndmbhkfbljaaRefS
import Derived.Test.YtpmndmbhkfbljaaAbH
import Derived.Test.YtpmndmbhkfbljaaAbK
namespace Go.Proofs.Ytpmndmbhkfbljaa
open Go Go.RowKit Go.Maps

/-! ### Of a state -/
section
variable {l : List UInt8} {s : CSt}
theorem sU_ref (h : s.2 ≠ 0) : tU l s = 0 ∧ sU l s = s := by
  unfold tU sU uOf
  rw [if_neg h]
  exact ⟨rfl, rfl⟩
theorem sS_ref (h : s.2 ≠ 0) : tS l s = 0 ∧ sS l s = s := by
  unfold tS sS sOf
  rw [if_neg h]
  exact ⟨rfl, rfl⟩
theorem sF_ref (h : s.2 ≠ 0) (f : Int) : sF s f = s := by
  unfold sF
  rw [failOf_no h]
theorem sU_bad (h : (sU l s).2 ≠ 0) : tU l s = 0 := by
  by_cases he : s.2 = 0
  · unfold sU uOf at h
    unfold tU uOf
    rw [if_pos he] at h ⊢
    unfold readU at h ⊢
    split
    · rfl
    · rename_i h1
      rw [if_neg h1] at h
      split
      · rename_i h2
        rw [if_pos h2] at h
        split
        · rename_i h3
          rw [if_pos h3] at h
          exact absurd rfl h
        · rfl
      · rfl
  · exact (sU_ref he).1
theorem tB_ref (h : s.2 ≠ 0) : tB l s = 0 ∧ sB l s = s := by
  unfold tB sB nextGot nextAt nextErr
  simp [h]
  rfl
theorem tagS_ref (h : s.2 ≠ 0) : tagS l s = s := by
  unfold tagS
  rw [(sU_ref h).1, if_neg (by omega), (sU_ref h).2]
theorem kidS_ref (h : s.2 ≠ 0) : kidS l s = s := by
  unfold kidS
  rw [(tB_ref h).1, if_neg (by omega), (tB_ref h).2]
theorem specsF_ref (h : s.2 ≠ 0) (n : Nat) : specsF l (n + 1) s = ([], s) := by
  rw [specsF_end ⟨(sU_ref h).1, by rw [(sU_ref h).2]; exact (sU_ref h).1⟩, (sU_ref h).2, (sU_ref h).2]
theorem abbS_ref (h : s.2 ≠ 0) : abbS l s = s := by
  unfold abbS
  rw [tagS_ref h, kidS_ref h, specsF_ref h]
theorem tabF_ref (h : s.2 ≠ 0) (n : Nat) : tabF l (n + 1) s = ([], s) := by
  rw [tabF_end (sU_ref h).1, (sU_ref h).2]
end

section
variable {B : Nat} {w : World} {g : Nat} {v : Value} {l : List UInt8}
theorem rparts_ref {a : Nat} {e : Int} (h : RR B w g v l a e) (he : e ≠ 0) :
    Calls Try.prog 44 #[.pointer (some ⟨g, 0, none⟩)] w fun r w' => r = .returned (.slice none 0 0) ∧ RR B w' g v l a e ∧ w.grownBy w' (some g) := by
  have HU := Lib.hid (quint_ref h he 1 (by omega))
  have HC := Lib.hid h
  have hk := cell_e h
  have hne : (e != 0) = true := by simp [he]
  clear h
  go_enter Try.func44, Try.ntmps44
  go_wp2_with fail
  go_loopg [3, 4] 0 (fun gk u i wr => gk = 0 ∧ u = .slice none 0 0 ∧ i = .int .i64 0 ∧ wr = w)
  case atStart => exact ⟨rfl, rfl, rfl, rfl⟩
  case round =>
    obtain ⟨rfl, rfl, rfl, rfl⟩ := hrel
    go_wp2_with (go_at_call 27; refine HU.out.mono ?_; rintro r w1 ⟨rfl, rfl⟩)
    go_ret
    exact ⟨rfl, HC.out, only_refl _ _⟩
theorem rU_ref {a : Nat} {e : Int} (h : RR B w g v l a e) (he : e ≠ 0) :
    Calls Try.prog 25 #[.pointer (some ⟨g, 0, none⟩)] w fun r w' => r = .returned (.int .u64 0) ∧ RR B w' g v l a e ∧ w.grownBy w' (some g) := by
  have HP := Lib.hid (rparts_ref h he)
  clear h
  go_enter Try.func25, Try.ntmps25
  go_wp2_with (go_at_call 44; refine HP.out.mono ?_; rintro r w1 ⟨rfl, hC1, hG1⟩; have HC1 := Lib.hid hC1; have HG1 := Lib.hid hG1; clear hC1 hG1)
  go_loopg [4, 5] 0 (fun gk u i wr => gk = 0 ∧ u = .int .u64 0 ∧ i = .int .i64 (-1) ∧ wr = w1)
  case atStart => exact ⟨rfl, rfl, rfl, rfl⟩
  case round =>
    obtain ⟨rfl, rfl, rfl, rfl⟩ := hrel
    go_wp2_with fail
    go_ret
    exact ⟨rfl, HC1.out, HG1.out⟩
theorem rS_ref {a : Nat} {e : Int} (h : RR B w g v l a e) (he : e ≠ 0) :
    Calls Try.prog 29 #[.pointer (some ⟨g, 0, none⟩)] w fun r w' => r = .returned (.int .i64 0) ∧ RR B w' g v l a e ∧ w.grownBy w' (some g) := by
  have HP := Lib.hid (rparts_ref h he)
  clear h
  go_enter Try.func29, Try.ntmps29
  go_wp2_with (go_at_call 44; refine HP.out.mono ?_; rintro r w1 ⟨rfl, hC1, hG1⟩; have HC1 := Lib.hid hC1; have HG1 := Lib.hid hG1; clear hC1 hG1)
  go_ret
  exact ⟨rfl, HC1.out, HG1.out⟩

theorem ru_st {s : CSt} (h : RR B w g v l s.1 s.2) (hlen : l.length ≤ 140737488355328) :
    Calls Try.prog 25 #[.pointer (some ⟨g, 0, none⟩)] w fun x w' => x = .returned (.int .u64 (tU l s : Int)) ∧ RR B w' g v l (sU l s).1 (sU l s).2 ∧ w.grownBy w' (some g) := by
  by_cases he : s.2 = 0
  · obtain ⟨a, e⟩ := s
    simp only at he h
    subst he
    exact rU_ok h hlen
  · rw [(sU_ref he).1, (sU_ref he).2]
    exact rU_ref h he
theorem rs_st {s : CSt} (h : RR B w g v l s.1 s.2) (hlen : l.length ≤ 140737488355328) :
    Calls Try.prog 29 #[.pointer (some ⟨g, 0, none⟩)] w fun x w' => x = .returned (.int .i64 (tS l s)) ∧ RR B w' g v l (sS l s).1 (sS l s).2 ∧ w.grownBy w' (some g) := by
  by_cases he : s.2 = 0
  · obtain ⟨a, e⟩ := s
    simp only at he h
    subst he
    exact rS_ok h hlen
  · rw [(sS_ref he).1, (sS_ref he).2]
    exact rS_ref h he
theorem rb_st {s : CSt} (h : RR B w g v l s.1 s.2) (hlen : l.length ≤ 140737488355328) :
    Calls Try.prog 27 #[.pointer (some ⟨g, 0, none⟩), .int .i64 1] w fun x w' => x = .returned (.int .u64 (tB l s : Int)) ∧ RR B w' g v l (sB l s).1 (sB l s).2 ∧ w.grownBy w' (some g) :=
  quint_cur h 1 (by omega) hlen
theorem rf_st {s : CSt} (h : RR B w g v l s.1 s.2) (f : Int) :
    Calls Try.prog 26 #[.pointer (some ⟨g, 0, none⟩), .int .i64 f] w fun x w' => x = .returned (.tuple #[]) ∧ RR B w' g v l (sF s f).1 (sF s f).2 ∧ w.grownBy w' (some g) := qfail h f

/-! ### A pair -/
theorem three_cells13 {W : World} {H : Nat} {T : TypeId} {c0 c1 c2 : Value} (h : Box W H T #[c0, c1, c2]) : W.cell? ⟨H, 0, none⟩ = some c0 ∧ W.cell? ⟨H, 1, none⟩ = some c1 ∧ W.cell? ⟨H, 2, none⟩ = some c2 := by
  refine ⟨?_, ?_, ?_⟩ <;> (rw [h.cell]; rfl)
theorem three_box13 {W : World} {H : Nat} {T : TypeId} {cs : Array Value} (h : Box W H T cs) (hs : cs.size = 3) (v0 v1 v2 : Value) :
    Box (((W.setCell ⟨H, 0, none⟩ v0).setCell ⟨H, 1, none⟩ v1).setCell ⟨H, 2, none⟩ v2) H T #[v0, v1, v2] := by
  obtain ⟨l⟩ := cs
  match l, hs with
  | [c0, c1, c2], _ => simpa using ((h.set 0 v0).set 1 v1).set 2 v2
theorem three_only13 (W : World) (H : Nat) (v0 v1 v2 : Value) :
    W.grownBy (((W.setCell ⟨H, 0, none⟩ v0).setCell ⟨H, 1, none⟩ v1).setCell ⟨H, 2, none⟩ v2) (some H) :=
  only_set (only_set (only_set (only_refl W (some H)) 0 v0) 1 v1) 2 v2
/-- What the document's pair tells. -/
def PairIs (l : List UInt8) (s : CSt) (x : Spc) (b : Bool) (s' : CSt) : Prop :=
  (b = true ∧ ∀ n, specsF l (n + 1) s = ([], s')) ∨ (b = false ∧ x = ⟨(tU l s : Int), (tU l (sU l s) : Int), 0⟩ ∧ s' = sU l (sU l s) ∧ s'.2 = 0 ∧ ¬ (tU l s = 0 ∧ tU l (sU l s) = 0) ∧ badP (tU l s) (tU l (sU l s)) = false)

def PairEnd (B : Nat) (w : World) (g : Nat) (v : Value) (l : List UInt8) (PI : Spc → Bool → CSt → Prop) (r : Ending) (w' : World) : Prop :=
  ∃ x b s', r = .returned (.tuple #[.agg #[.int .i64 x.at_, .int .i64 x.form, .int .i64 x.imp], .bool b]) ∧ PI x b s' ∧ RR B w' g v l s'.1 s'.2 ∧ w.grownBy w' (some g)
set_option maxRecDepth 10000 in
set_option maxHeartbeats 3200000 in
theorem rpair_st {s : CSt} (h : RR B w g v l s.1 s.2) (hlen : l.length ≤ 140737488355328) :
    Calls Try.prog 28 #[.pointer (some ⟨g, 0, none⟩)] w fun r w' => PairEnd B w g v l (PairIs l s) r w' := by
  generalize hw1 : w.alloc (.cells #[.int .i64 0, .int .i64 0, .int .i64 0] 56) = w1 at *
  have hb1 : Below w.heap.size w w1 := hw1 ▸ (Below.refl _ _).alloc (Nat.le_refl _) _
  have hX1 := Box.new w 56 #[.int .i64 0, .int .i64 0, .int .i64 0]
  rw [hw1] at hX1
  have HX1 := Lib.hid hX1
  have HB1 := Lib.hid hb1
  have hgl := h.1.lt
  have HGL := Lib.hid hgl
  have HU1 := Lib.hid (ru_st (h.below hb1) hlen)
  have HU2 := Lib.hid (fun (W : World) (hW : RR B W g v l (sU l s).1 (sU l s).2) => ru_st hW hlen)
  have HF := Lib.hid (fun (W : World) (s' : CSt) (hW : RR B W g v l s'.1 s'.2) => rf_st hW 40)
  have HP := Lib.hid (show ∀ x b s', PairIs l s x b s' = ((b = true ∧ ∀ n, specsF l (n + 1) s = ([], s')) ∨ (b = false ∧ x = ⟨(tU l s : Int), (tU l (sU l s) : Int), 0⟩ ∧ s' = sU l (sU l s) ∧ s'.2 = 0 ∧ ¬ (tU l s = 0 ∧ tU l (sU l s) = 0) ∧ badP (tU l s) (tU l (sU l s)) = false)) from fun _ _ _ => rfl)
  have HE1 := Lib.hid (fun n => @specsF_end l n s)
  have HE2 := Lib.hid (fun n => @specsF_bad l n s)
  have HZF := Lib.hid (@sU_bad l (sU l s))
  have HBP := Lib.hid (show badP (tU l s) (tU l (sU l s)) = (decide (tU l s = 0) || (decide (tU l (sU l s) = 0) || (decide (65535 < tU l s) || decide (65535 < tU l (sU l s))))) from rfl)
  clear h hlen hb1 hX1
  generalize tU l s = A at *
  generalize tU l (sU l s) = F at *
  generalize sU l (sU l s) = s2 at *
  generalize sU l s = s1 at *
  generalize badP A F = bp at *
  generalize PairIs l s = PI at *
  go_enter Try.func28, Try.ntmps28
  go_upto_region 1 with fail
  try rw [hw1]
  clear hw1
  go_upto_region 2 with (go_at_call 25; refine HU1.out.mono ?_; rintro r w2 ⟨rfl, hC2, hG2⟩; have HC2 := Lib.hid hC2; have HG2 := Lib.hid hG2; clear hC2 hG2)
  go_upto_region 3 with (go_at_call 25; refine (HU2.out _ HC2.out).mono ?_; rintro r w3 ⟨rfl, hC3, hG3⟩; have HC3 := Lib.hid hC3; have HG3 := Lib.hid (HG2.out.trans hG3); clear hC3 hG3)
  clear HU1 HU2 HC2 HG2
  have HX3 := Lib.hid (HX1.out.grown HG3.out (by simp; omega))
  have HGW := Lib.hid (show w.grownBy w3 (some g) from (only_below HB1.out _).trans HG3.out)
  have hcE := cell_e HC3.out
  obtain ⟨a2, e2⟩ := s2
  simp only at hcE
  obtain ⟨p0, p1, p2⟩ := three_cells13 HX3.out
  have f0 := HX3.out.free 0
  have f1 := HX3.out.free 1
  have f2 := HX3.out.free 2
  have HW3 := Lib.hid (fun (W : World) (e : Int) (v0 v1 v2 : Value) (hW : RR B W g v l a2 e) (hG : w.grownBy W (some g)) => (⟨hW.grown (three_only13 W w.heap.size v0 v1 v2) (by simp; omega) (fun x hx => by cases hx; exact Nat.le_of_lt (Nat.lt_of_le_of_lt hW.2.2.2 HGL.out)), only_trans hG (three_only13 W w.heap.size v0 v1 v2) (.inr fun x hx => by cases hx; exact Nat.le_refl _)⟩ : RR B (((W.setCell ⟨w.heap.size, 0, none⟩ v0).setCell ⟨w.heap.size, 1, none⟩ v1).setCell ⟨w.heap.size, 2, none⟩ v2) g v l a2 e ∧ w.grownBy (((W.setCell ⟨w.heap.size, 0, none⟩ v0).setCell ⟨w.heap.size, 1, none⟩ v1).setCell ⟨w.heap.size, 2, none⟩ v2) (some g)))
  obtain ⟨b1, hb1⟩ : ∃ b, decide (A = 0) = b := ⟨_, rfl⟩
  obtain ⟨b2, hb2⟩ : ∃ b, decide (F = 0) = b := ⟨_, rfl⟩
  obtain ⟨b3, hb3⟩ : ∃ b, decide (65535 < A) = b := ⟨_, rfl⟩
  obtain ⟨b4, hb4⟩ : ∃ b, decide (65535 < F) = b := ⟨_, rfl⟩
  rw [hb1, hb2, hb3, hb4] at HBP
  have n1 : ((A : Int) == 0) = b1 := by rw [← hb1, Bool.eq_iff_iff]; simp
  have n2 : ((F : Int) == 0) = b2 := by rw [← hb2, Bool.eq_iff_iff]; simp
  have n3 : decide ((65535 : Int) < (A : Int)) = b3 := by rw [← hb3, Bool.eq_iff_iff]; simp; omega
  have n4 : decide ((65535 : Int) < (F : Int)) = b4 := by rw [← hb4, Bool.eq_iff_iff]; simp; omega
  have HAF := Lib.hid (show (b1 = true → A = 0) ∧ (b1 = false → A ≠ 0) ∧ (b2 = true → F = 0) ∧ (b2 = false → F ≠ 0) ∧ (b3 = false → A ≤ 65535) ∧ (b4 = false → F ≤ 65535) by
    refine ⟨fun h => ?_, fun h => ?_, fun h => ?_, fun h => ?_, fun h => ?_, fun h => ?_⟩ <;> subst h
    · exact of_decide_eq_true hb1
    · exact of_decide_eq_false hb1
    · exact of_decide_eq_true hb2
    · exact of_decide_eq_false hb2
    · have := of_decide_eq_false hb3; omega
    · have := of_decide_eq_false hb4; omega)
  clear hb1 hb2 hb3 hb4
  by_cases he : e2 = 0
  · subst he
    have hways : (b1 = true ∧ b2 = true) ∨ ((b1 && b2) = false ∧ bp = true) ∨ (b1 = false ∧ b2 = false ∧ b3 = false ∧ b4 = false) := by
      have := HBP.out
      revert this
      cases b1 <;> cases b2 <;> cases b3 <;> cases b4 <;> simp
    rcases hways with ⟨rfl, rfl⟩ | ⟨hne, rfl⟩ | ⟨rfl, rfl, rfl, rfl⟩
    · have HR := Lib.hid (show ∀ n, specsF l (n + 1) s = ([], (a2, 0)) from fun n => HE1.out n ⟨HAF.out.1 rfl, HAF.out.2.2.1 rfl⟩)
      clear HE1 HE2 HBP HAF HZF
      go_wp2_with fail
      refine ret_two Try.underlying56 Try.results28 (three_box13 HX3.out rfl _ _ _) (by kernel_rfl) (by rfl) rfl ?_
      exact ⟨⟨0, 0, 0⟩, true, (a2, 0), rfl, by rw [HP.out]; exact .inl ⟨rfl, HR.out⟩, HW3.out _ _ _ _ _ HC3.out HGW.out⟩
    · have h5 : (b1 = true ∧ b2 = false) ∨ (b1 = false ∧ b2 = true) ∨ (b1 = false ∧ b2 = false ∧ b3 = true) ∨ (b1 = false ∧ b2 = false ∧ b3 = false ∧ b4 = true) := by
        have := HBP.out
        revert this hne
        cases b1 <;> cases b2 <;> cases b3 <;> cases b4 <;> simp
      have hno : ¬ (A = 0 ∧ F = 0) := by
        rintro ⟨ha, hf⟩
        rcases h5 with ⟨h1, h2⟩ | ⟨h1, h2⟩ | ⟨h1, h2, -⟩ | ⟨h1, h2, -⟩
        · exact HAF.out.2.2.2.1 h2 hf
        · exact HAF.out.2.1 h1 ha
        · exact HAF.out.2.1 h1 ha
        · exact HAF.out.2.1 h1 ha
      have HR := Lib.hid (show ∀ n, specsF l (n + 1) s = ([], (a2, 40)) from fun n => HE2.out n hno rfl)
      have HFF := Lib.hid (HF.out _ (a2, 0) HC3.out)
      clear hno hne HE1 HE2 HAF HBP HZF p0 p1 p2 f0 f1 f2
      rcases h5 with ⟨rfl, rfl⟩ | ⟨rfl, rfl⟩ | ⟨rfl, rfl, rfl⟩ | ⟨rfl, rfl, rfl, rfl⟩
      all_goals
        go_upto_region 7 with (go_at_call 26; refine HFF.out.mono ?_; rintro x w4 ⟨rfl, hC4, hG4⟩; have HC4 := Lib.hid (show RR B w4 g v l a2 40 from hC4); have HG4 := Lib.hid (HGW.out.trans hG4); have HX4 := Lib.hid (HX3.out.grown hG4 (by simp; omega)); clear hC4 hG4)
        clear hcE
        have hcE := cell_e HC4.out
        obtain ⟨p0, p1, p2⟩ := three_cells13 HX4.out
        have f0 := HX4.out.free 0
        have f1 := HX4.out.free 1
        have f2 := HX4.out.free 2
        have hn1 : g ≠ w.heap.size := by omega
        have hn2 : w.heap.size ≠ g := by omega
        go_region_held_law (fun X => X.cell? ⟨g, 2, none⟩ = some (.int .i64 40)) (go_keep) (fail)
        all_goals go_wp2_with fail
        all_goals refine ret_two Try.underlying56 Try.results28 (three_box13 (cs := #[.int .i64 0, .int .i64 0, .int .i64 0]) (by first | exact HX4.out | exact HX4.out.drewN 1) rfl _ _ _) (by kernel_rfl) (by rfl) rfl ?_
        all_goals exact ⟨⟨_, _, 0⟩, true, (a2, 40), rfl, by rw [HP.out]; exact .inl ⟨rfl, HR.out⟩, (HW3.out w4 40 (.int .i64 (IntKind.i64.wrap (A : Int))) (.int .i64 (IntKind.i64.wrap (F : Int))) (.int .i64 0) HC4.out HG4.out).1.drewN 1, only_drewN (HW3.out w4 40 (.int .i64 (IntKind.i64.wrap (A : Int))) (.int .i64 (IntKind.i64.wrap (F : Int))) (.int .i64 0) HC4.out HG4.out).2 1⟩
    · have hno : ¬ (A = 0 ∧ F = 0) := fun h => HAF.out.2.1 rfl h.1
      have hbp : bp = false := by rw [HBP.out]; rfl
      have hA6 := HAF.out.2.2.2.2.1 rfl
      have hF6 := HAF.out.2.2.2.2.2 rfl
      have hwA : IntKind.i64.wrap (A : Int) = (A : Int) := IntWalk.i64_in _ (by omega)
      have hwF : IntKind.i64.wrap (F : Int) = (F : Int) := IntWalk.i64_in _ (by omega)
      have HNO := Lib.hid hno
      have HBF := Lib.hid hbp
      clear hno hbp HE1 HE2 HAF HBP HZF hA6 hF6
      go_upto_region 7 with fail
      have hn1 : g ≠ w.heap.size := by omega
      have hn2 : w.heap.size ≠ g := by omega
      go_region_held_law (fun X => X.cell? ⟨g, 2, none⟩ = some (.int .i64 0)) (go_keep) (fail)
      all_goals go_wp2_with fail
      all_goals refine ret_two Try.underlying56 Try.results28 (three_box13 (cs := #[.int .i64 0, .int .i64 0, .int .i64 0]) (by first | exact HX3.out | exact HX3.out.drewN 1) rfl _ _ _) (by kernel_rfl) (by rfl) rfl ?_
      all_goals exact ⟨⟨(A : Int), (F : Int), 0⟩, false, (a2, 0), rfl, by rw [HP.out]; exact .inr ⟨rfl, rfl, rfl, rfl, HNO.out, HBF.out⟩, (HW3.out w3 0 (.int .i64 (A : Int)) (.int .i64 (F : Int)) (.int .i64 0) HC3.out HGW.out).1.drewN 1, only_drewN (HW3.out w3 0 (.int .i64 (A : Int)) (.int .i64 (F : Int)) (.int .i64 0) HC3.out HGW.out).2 1⟩
  · have hne : (e2 != 0) = true := by simp [he]
    have HR := Lib.hid (show ∀ n, specsF l (n + 1) s = ([], (a2, e2)) from fun n => by
      by_cases hz : A = 0 ∧ F = 0
      · exact HE1.out n hz
      · have hF0 := HZF.out he
        have hbp : bp = true := by
          rw [HBP.out]
          cases b2 with
          | true => simp
          | false => exact absurd hF0 (HAF.out.2.2.2.1 rfl)
        rw [HE2.out n hz hbp, sF_ref he])
    clear HE1 HE2 HBP HAF HZF
    go_wp2_with fail
    refine ret_two Try.underlying56 Try.results28 (three_box13 HX3.out rfl _ _ _) (by kernel_rfl) (by rfl) rfl ?_
    exact ⟨⟨0, 0, 0⟩, true, (a2, e2), rfl, by rw [HP.out]; exact .inl ⟨rfl, HR.out⟩, HW3.out _ _ _ _ _ HC3.out HGW.out⟩
end

end Go.Proofs.Ytpmndmbhkfbljaa

namespace Go.Proofs.Ytpmndmbhkfbljaa
open Go Go.RowKit

/-- A cursor that has not refused stands ahead of these bytes. -/
def Ahead (l : List UInt8) (s : CSt) (r : List UInt8) : Prop := s.2 = 0 ∧ l.drop s.1 = r
theorem ahead_u {l r : List UInt8} {s : CSt} {n : Nat} (hn : n < 2 ^ 64) (h : Ahead l s (lebPut (sizeU n) (n : Int) ++ r)) : tU l s = n ∧ Ahead l (sU l s) r := by
  obtain ⟨h0, h1⟩ := h
  have hs := sizeU_range n hn
  have hr := readU_put (sizeU n) n r hn (Nat.le_refl _) hs.2
  have hu : uOf (l.drop s.1) s.2 = (n, sizeU n, 0) := by unfold uOf; rw [if_pos h0, h1, hr]
  refine ⟨by unfold tU; rw [hu], by unfold sU; rw [hu], ?_⟩
  unfold sU
  rw [hu]
  show l.drop (s.1 + sizeU n) = r
  rw [← List.drop_drop, h1, List.drop_left' (lebPut_length _ _ hs.1)]
theorem ahead_s {l r : List UInt8} {s : CSt} {n : Int} (hn : InI n) (h : Ahead l s (lebPut (sizeS n) n ++ r)) : tS l s = n ∧ Ahead l (sS l s) r := by
  obtain ⟨h0, h1⟩ := h
  have hs := sizeS_range n hn
  have hr := readS_put (sizeS n) n r hn (Nat.le_refl _) hs.2
  have hu : sOf (l.drop s.1) s.2 = (n, sizeS n, 0) := by unfold sOf; rw [if_pos h0, h1, hr]
  refine ⟨by unfold tS; rw [hu], by unfold sS; rw [hu], ?_⟩
  unfold sS
  rw [hu]
  show l.drop (s.1 + sizeS n) = r
  rw [← List.drop_drop, h1, List.drop_left' (lebPut_length _ _ hs.1)]
theorem put_zero : lebPut (sizeU 0) ((0 : Nat) : Int) = [0] := by decide
theorem ahead_zero {l r : List UInt8} {s : CSt} (h : Ahead l s (0 :: r)) : tU l s = 0 ∧ Ahead l (sU l s) r :=
  ahead_u (n := 0) (by decide) (by rw [put_zero]; exact h)
theorem ahead_b {l r : List UInt8} {s : CSt} {b : UInt8} (h : Ahead l s (b :: r)) : tB l s = b.toNat ∧ Ahead l (sB l s) r := by
  obtain ⟨h0, h1⟩ := h
  have hl : s.1 < l.length := by
    rcases Nat.lt_or_ge s.1 l.length with h | h
    · exact h
    · rw [List.drop_eq_nil_of_le h] at h1; cases h1
  have hg : nextGot l s.1 s.2 1 = [b] := by
    unfold nextGot
    rw [if_pos ⟨h0, by omega⟩, h1]
    rfl
  refine ⟨by unfold tB; rw [hg]; simp [leNat], ?_, ?_⟩
  · unfold sB nextErr
    simp only
    rw [if_pos h0, if_pos (by omega)]
  · unfold sB nextAt
    simp only
    rw [if_pos ⟨h0, by omega⟩, ← List.drop_drop, h1]
    rfl

theorem ahead_specs {l r : List UInt8} : ∀ (X : List Spc) (n : Nat) (s : CSt), X.all okP = true → (∀ x ∈ X, x.In) → X.length + 1 ≤ n → Ahead l s (spcsB X ++ (0 :: 0 :: r)) → (specsF l n s).1 = X ∧ Ahead l (specsF l n s).2 r
  | [], n, s, _, _, hn, h => by
    obtain ⟨m, rfl⟩ : ∃ m, n = m + 1 := ⟨n - 1, by simp at hn; omega⟩
    obtain ⟨h1, h2⟩ := ahead_zero (show Ahead l s (0 :: 0 :: r) from h)
    obtain ⟨h3, h4⟩ := ahead_zero h2
    rw [specsF_end ⟨h1, h3⟩]
    exact ⟨rfl, h4⟩
  | x :: X, n, s, hok, hin, hn, h => by
    rw [List.all_cons, Bool.and_eq_true] at hok
    obtain ⟨m, rfl⟩ : ∃ m, n = m + 1 := ⟨n - 1, by simp at hn; omega⟩
    obtain ⟨p, q, hp, hq, hp1, hp6, hq1, hq6, hqi⟩ := okP_nat hok.1
    have hxi := hin x List.mem_cons_self
    have hb : spcsB (x :: X) ++ (0 :: 0 :: r) = lebPut (sizeU p) (p : Int) ++ (lebPut (sizeU q) (q : Int) ++ ((if x.form = 33 then lebPut (sizeS x.imp) x.imp else []) ++ (spcsB X ++ (0 :: 0 :: r)))) := by
      rw [show spcsB (x :: X) = spcB x ++ spcsB X from rfl, spcB_nat hp hq]
      simp only [List.append_assoc]
    rw [hb] at h
    obtain ⟨h1, h2⟩ := ahead_u (by omega) h
    obtain ⟨h3, h4⟩ := ahead_u (by omega) h2
    have hno : ¬ (tU l s = 0 ∧ tU l (sU l s) = 0) := by rw [h1]; omega
    have hbp : badP (tU l s) (tU l (sU l s)) = false := by
      rw [h1, h3]
      unfold badP
      simp only [Bool.or_eq_false_iff, decide_eq_false_iff_not]
      omega
    have hm : m ≠ 0 := by simp at hn; omega
    have hml : X.length + 1 ≤ m := by simp at hn; omega
    by_cases h33 : q = 33
    · rw [if_pos (by rw [hq, h33]; rfl)] at h4
      obtain ⟨h5, h6⟩ := ahead_s hxi.2.2 h4
      obtain ⟨ih1, ih2⟩ := ahead_specs X m _ hok.2 (fun y hy => hin y (List.mem_cons_of_mem _ hy)) hml h6
      rw [specsF_imp hm hno hbp (by rw [h3]; exact h33), h1, h3, h5]
      refine ⟨?_, ih2⟩
      show _ :: _ = _
      rw [ih1, ← hp, ← hq]
    · rw [if_neg (by rw [hq]; omega), List.nil_append] at h4
      obtain ⟨ih1, ih2⟩ := ahead_specs X m _ hok.2 (fun y hy => hin y (List.mem_cons_of_mem _ hy)) hml h4
      rw [specsF_more hm hno hbp (by rw [h3]; exact h33), h1, h3]
      refine ⟨?_, ih2⟩
      show _ :: _ = _
      have := hqi h33
      rw [ih1, ← hp, ← hq, ← this]
theorem ahead_abb {l r : List UInt8} {x : Abb} {s : CSt} (hok : okA x = true) (hin : x.In) (h : Ahead l s (abbB x ++ r)) : tU l s = x.code ∧ abbT l x.code (sU l s) = x ∧ Ahead l (abbS l (sU l s)) r := by
  obtain ⟨-, htg, h40, hall, -⟩ := okA_spec hok
  obtain ⟨t, ht, ht1, ht6⟩ := numbK_nat htg
  have hb : abbB x ++ r = lebPut (sizeU x.code) (x.code : Int) ++ (lebPut (sizeU t) (t : Int) ++ (kidB x.kids :: (spcsB x.l ++ (0 :: 0 :: r)))) := by
    unfold abbB
    rw [ht, Int.toNat_natCast]
    simp only [List.append_assoc, List.cons_append, List.nil_append]
  rw [hb] at h
  obtain ⟨h1, h2⟩ := ahead_u (by have := hin.code; unfold two64 at this; omega) h
  obtain ⟨h3, h4⟩ := ahead_u (by omega) h2
  have htT : tagT l (sU l s) = t ∧ tagS l (sU l s) = sU l (sU l s) := by
    unfold tagT tagS
    rw [h3, if_neg (by omega), if_neg (by omega)]
    exact ⟨rfl, rfl⟩
  rw [← htT.2] at h4
  obtain ⟨h5, h6⟩ := ahead_b h4
  have hk : kidT l (tagS l (sU l s)) = x.kids ∧ kidS l (tagS l (sU l s)) = sB l (tagS l (sU l s)) := by
    unfold kidT kidS
    rw [h5]
    cases x.kids <;> exact ⟨rfl, rfl⟩
  rw [← hk.2] at h6
  obtain ⟨h7, h8⟩ := ahead_specs x.l 41 _ hall hin.spcs (by omega) h6
  refine ⟨h1, ?_, h8⟩
  unfold abbT
  rw [htT.1, hk.1, h7, ← ht]
theorem ahead_tab {l r : List UInt8} : ∀ (X : List Abb) (n : Nat) (s : CSt), X.all okA = true → (∀ x ∈ X, x.In) → X.length + 1 ≤ n → Ahead l s (abbsB X ++ (0 :: r)) → (tabF l n s).1 = X ∧ Ahead l (tabF l n s).2 r
  | [], n, s, _, _, hn, h => by
    obtain ⟨m, rfl⟩ : ∃ m, n = m + 1 := ⟨n - 1, by simp at hn; omega⟩
    obtain ⟨h1, h2⟩ := ahead_zero (show Ahead l s (0 :: r) from h)
    rw [tabF_end h1]
    exact ⟨rfl, h2⟩
  | x :: X, n, s, hok, hin, hn, h => by
    rw [List.all_cons, Bool.and_eq_true] at hok
    obtain ⟨m, rfl⟩ : ∃ m, n = m + 1 := ⟨n - 1, by simp at hn; omega⟩
    have hb : abbsB (x :: X) ++ (0 :: r) = abbB x ++ (abbsB X ++ (0 :: r)) := by
      rw [show abbsB (x :: X) = abbB x ++ abbsB X from rfl, List.append_assoc]
    rw [hb] at h
    obtain ⟨h1, h2, h3⟩ := ahead_abb hok.1 (hin x List.mem_cons_self) h
    obtain ⟨ih1, ih2⟩ := ahead_tab X m _ hok.2 (fun y hy => hin y (List.mem_cons_of_mem _ hy)) (by simp at hn; omega) h3
    rw [tabF_more (by simp at hn; omega) (by rw [h1]; exact (okA_spec hok.1).1), h1]
    refine ⟨?_, ih2⟩
    show _ :: _ = _
    rw [h2, ih1]
/-- What is put is taken, with what stands behind it left. -/
theorem put_take {L : List Abb} {r : List UInt8} (hr : rightA L = true) (hin : ∀ x ∈ L, x.In) : takeAE (tabB L ++ r) (0, 0) = 0 ∧ takeAL (tabB L ++ r) (0, 0) = L ∧ (tabB L ++ r).length - takeAP (tabB L ++ r) (0, 0) = r.length := by
  obtain ⟨h3, hall, -⟩ := rightA_spec hr
  have ha : Ahead (tabB L ++ r) (0, 0) (abbsB L ++ (0 :: r)) := ⟨rfl, by unfold tabB; simp⟩
  obtain ⟨h1, h2, h4⟩ := ahead_tab L 301 (0, 0) hall hin (by omega) ha
  obtain ⟨t1, t2⟩ := take_ok (l := tabB L ++ r) (s := (0, 0)) h2 (by rw [h1]; exact hr)
  refine ⟨t1, by rw [t2, h1], ?_⟩
  unfold takeAP
  rw [← List.length_drop, h4]

end Go.Proofs.Ytpmndmbhkfbljaa

namespace Go.Proofs.Ytpmndmbhkfbljaa
open Go Go.RowKit Go.Maps

def exA : Abb := ⟨1, 17, true, [⟨3, 8, 0⟩]⟩
theorem exA_in : exA.In := ⟨by decide, by constructor <;> decide, by decide, fun x hx => by
  rw [List.mem_singleton.1 hx]
  exact ⟨by constructor <;> decide, by constructor <;> decide, zero_in⟩⟩
theorem exA_right : rightA [exA] = true := by decide
theorem exA_bytes : tabB [exA] = [1, 17, 1, 3, 8, 0, 0, 0] := by decide
theorem laid_nil {w w' : World} {base : Nat} {v' : Value} {l' : List UInt8} (h : Laid w w' base (.slice none 0 0) v' l') (hb : base ≤ w.heap.size) : Below base w w' := below_of_only h.2.1 hb (by simp [Value.ownBlock])

set_option maxRecDepth 10000 in
set_option maxHeartbeats 3200000 in
theorem works13_any (w : World) : Calls Try.prog 5 #[] w fun r w' => r = .returned (.bool true) ∧ Below w.heap.size w w' := by
  generalize hw1 : w.alloc (.cells #[.int .i64 3, .int .i64 8, .int .i64 0] 56) = w1 at *
  generalize hw2 : w1.alloc (.cells #[.int .u64 1, .int .i64 17, .bool true, .slice (some ⟨w.heap.size, 0, none⟩) 1 1] 50) = w2 at *
  have hb1 : Below w.heap.size w w1 := hw1 ▸ (Below.refl _ _).alloc (Nat.le_refl _) _
  have hb2 : Below w1.heap.size w1 w2 := hw2 ▸ (Below.refl _ _).alloc (Nat.le_refl _) _
  have hs1 : w1.heap.size = w.heap.size + 1 := by rw [← hw1]; simp
  have hs2 : w2.heap.size = w1.heap.size + 1 := by rw [← hw2]; simp
  have hr1 : Spcs w1 (w.heap.size + 1) (some ⟨w.heap.size, 0, none⟩) [⟨3, 8, 0⟩] := by
    rw [← hw1]
    exact lit_row spc_three w 56 [⟨3, 8, 0⟩]
  have hr2 : Row 4 ALay.cells w2 (w1.heap.size + 1) (some ⟨w1.heap.size, 0, none⟩) [⟨exA, some ⟨w.heap.size, 0, none⟩, 1⟩] := by
    rw [← hw2]
    exact lit_row abb_four w1 50 [⟨exA, some ⟨w.heap.size, 0, none⟩, 1⟩]
  have hA : Abbs w2 w2.heap.size (some ⟨w1.heap.size, 0, none⟩) [⟨exA, some ⟨w.heap.size, 0, none⟩, 1⟩] := ⟨hr2.more (by omega), fun y hy => by
    rw [List.mem_singleton.1 hy]
    exact Row.more (Row.below hr1 (hb2.mono (by omega))) (by omega)⟩
  have HIN := Lib.hid (show ∀ y ∈ ([⟨exA, some ⟨w.heap.size, 0, none⟩, 1⟩] : List ALay), y.x.In from fun y hy => by rw [List.mem_singleton.1 hy]; exact exA_in)
  have HP := Lib.hid (putA_any (v := .slice none 0 0) (l := []) (World.ownsRow_nil w2 w2.heap.size 5 1) (Nat.le_refl _) hA 1 (show 1 ≤ 100000 by decide) HIN.out (show 0 ≤ 140737487000000 by decide))
  have hpe : putAE (absOf [⟨exA, some ⟨w.heap.size, 0, none⟩, 1⟩]) = 0 := by unfold putAE; rw [if_pos (show rightA (absOf [⟨exA, some ⟨w.heap.size, 0, none⟩, 1⟩]) = true from exA_right)]
  rw [hpe] at HP
  have hab : absOf [⟨exA, some ⟨w.heap.size, 0, none⟩, 1⟩] = [exA] := rfl
  rw [hab, List.nil_append] at HP
  obtain ⟨T8, hT8⟩ : ∃ T8, tabB [exA] = T8 := ⟨_, rfl⟩
  have HT8 := Lib.hid (show T8 = [1, 17, 1, 3, 8, 0, 0, 0] from hT8.symm.trans exA_bytes)
  have hl8 : T8.length = 8 := by rw [HT8.out]; rfl
  have HW := Lib.hid (hb1.trans (hb2.mono hb1.size))
  have HAB := Lib.hid hA
  obtain ⟨t1, t2, -⟩ := put_take (L := [exA]) (r := []) exA_right (fun x hx => by rw [List.mem_singleton.1 hx]; exact exA_in)
  rw [List.append_nil, hT8] at t1 t2
  rw [hT8] at HP
  have hae : atAE T8 0 = 0 := by unfold atAE; rw [if_pos (by omega), List.drop_zero]; exact t1
  have hal : atAL T8 0 = [exA] := by unfold atAL; rw [if_pos (by omega), List.drop_zero]; exact t2
  have HAE := Lib.hid hae
  have HAL := Lib.hid hal
  have HL8 := Lib.hid hl8
  clear hb1 hb2 hr1 hr2 hA hpe t1 t2 hae hal hab hT8 hl8
  rw [show ([⟨exA, some ⟨w.heap.size, 0, none⟩, 1⟩] : List ALay).length = 1 from rfl] at HP
  have HR := Lib.hid exA_right
  generalize rightA [exA] = rx at *
  clear hs1 hs2
  go_enter Try.func5, Try.ntmps5
  go_upto_region 2 with fail
  try rw [hw1]
  try rw [hw2]
  clear hw1 hw2
  go_upto_region 3 with (go_at_call 15; refine HP.out.mono ?_; rintro r w3 ⟨v3, rfl, hL3, -⟩; have HL3 := Lib.hid (hL3 HR.out); clear hL3)
  have HB3 := Lib.hid (laid_nil HL3.out (Nat.le_refl _))
  obtain ⟨A3, c3, rfl, hc3, hm3, hrd3⟩ := own_slice HL3.out.1
  have HT := Lib.hid (atA_any (l := T8) hrd3 (Nat.le_refl _) c3 hc3 (by rw [HL8.out]; decide) 0 (by decide))
  rw [HAE.out, HAL.out, HL8.out] at HT
  rw [HL8.out]
  have hcv := conv_own HL3.out.1
  rw [HL8.out] at hcv
  have HO3 := Lib.hid HL3.out.1
  have HCV := Lib.hid hcv
  clear hc3 hm3 hrd3 HP HL3 hcv
  go_upto_region 4 with (go_at_call 12; refine HT.out.mono ?_; rintro r w4 ⟨u4, L4, rfl, hO4, hm4, hi4, h34, hb4⟩; have HO4 := Lib.hid hO4; have HM4 := Lib.hid hm4; have HI4 := Lib.hid hi4; have HB4 := Lib.hid hb4; clear hO4 hm4 hi4 h34 hb4)
  obtain ⟨A4, c4, rfl, -, -, hl4⟩ := HO4.out.lies
  have hn4 : L4.length = 1 := by have := congrArg List.length HM4.out; simpa using this
  rw [hn4]
  have HL4 := Lib.hid hl4
  have HN4 := Lib.hid hn4
  clear hl4 hn4
  go_upto_region 5 with (go_at_call 7; refine (takeA_nil _).mono ?_; rintro r w5 ⟨rfl, hb5⟩; have HB5 := Lib.hid hb5; clear hb5)
  have HB35 := Lib.hid (HB4.out.trans (HB5.out.mono HB4.out.size))
  have hc5 := conv_own (row_below HO3.out HB35.out)
  rw [HL8.out, HT8.out] at hc5
  have HB25 := Lib.hid (HB3.out.trans (HB35.out.mono HB3.out.size))
  have HSM := Lib.hid (sameA_any (w := w5) (HAB.out.up HB25.out) (HL4.out.up HB5.out) 1 c4 (show 1 ≤ 100000 by decide) (fun y hy => by rw [List.mem_singleton.1 hy]; exact exA_in.len) (fun y hy => (HI4.out y hy).len))
  rw [show alikeL oneL [⟨exA, some ⟨w.heap.size, 0, none⟩, 1⟩] L4 = true from (alikeA_iff _ _).2 HM4.out.symm, HN4.out, show ([⟨exA, some ⟨w.heap.size, 0, none⟩, 1⟩] : List ALay).length = 1 from rfl] at HSM
  go_wp2_with (go_at_call 9; refine HSM.out.mono ?_; rintro r w6 ⟨rfl, hb6⟩; have HB6 := Lib.hid hb6; clear hb6)
  go_ret
  exact ⟨rfl, HW.out.trans ((HB25.out.trans (HB6.out.mono HB25.out.size)).mono HW.out.size)⟩

end Go.Proofs.Ytpmndmbhkfbljaa
