/-
  AbbrevBack's walk.
-/
import Derived.Test.YteadabmlleipiaaAbH
import Derived.Test.YteadabmlleipiaaAbK
import Derived.Test.YteadabmlleipiaaRefU
import Derived.Test.YteadabmlleipiaaLawA
namespace Go.Proofs.Yteadabmlleipiaa
open Go Go.RowKit

/-- A cursor that has not refused stands ahead of these bytes. -/
def Ahead (l : List UInt8) (s : CSt) (r : List UInt8) : Prop := s.2 = 0 ∧ l.drop s.1 = r
theorem ahead_u {l r : List UInt8} {s : CSt} {n : Nat} (hn : n < 2 ^ 64) (h : Ahead l s (lebPut (sizeU n) (n : Int) ++ r)) : tU l s = n ∧ Ahead l (sU l s) r := by
  obtain ⟨h0, h1⟩ := h
  have hs := sizeU_range n hn
  have hr := readU_put (sizeU n) n r hn (Nat.le_refl _) hs.2
  have hu : uOf (l.drop s.1) s.2 = (n, sizeU n, 0) := by unfold uOf; rw [if_pos h0, h1, hr]
  refine ⟨by unfold tU; rw [hu], by unfold sU; rw [hu], ?_⟩
  unfold sU
  rw [hu]
  show l.drop (s.1 + sizeU n) = r
  rw [← List.drop_drop, h1, List.drop_left' (lebPut_length _ _ hs.1)]
theorem ahead_s {l r : List UInt8} {s : CSt} {n : Int} (hn : InI n) (h : Ahead l s (lebPut (sizeS n) n ++ r)) : tS l s = n ∧ Ahead l (sS l s) r := by
  obtain ⟨h0, h1⟩ := h
  have hs := sizeS_range n hn
  have hr := readS_put (sizeS n) n r hn (Nat.le_refl _) hs.2
  have hu : sOf (l.drop s.1) s.2 = (n, sizeS n, 0) := by unfold sOf; rw [if_pos h0, h1, hr]
  refine ⟨by unfold tS; rw [hu], by unfold sS; rw [hu], ?_⟩
  unfold sS
  rw [hu]
  show l.drop (s.1 + sizeS n) = r
  rw [← List.drop_drop, h1, List.drop_left' (lebPut_length _ _ hs.1)]
theorem put_zero : lebPut (sizeU 0) ((0 : Nat) : Int) = [0] := by decide
theorem ahead_zero {l r : List UInt8} {s : CSt} (h : Ahead l s (0 :: r)) : tU l s = 0 ∧ Ahead l (sU l s) r :=
  ahead_u (n := 0) (by decide) (by rw [put_zero]; exact h)
theorem ahead_b {l r : List UInt8} {s : CSt} {b : UInt8} (h : Ahead l s (b :: r)) : tB l s = b.toNat ∧ Ahead l (sB l s) r := by
  obtain ⟨h0, h1⟩ := h
  have hl : s.1 < l.length := by
    rcases Nat.lt_or_ge s.1 l.length with h | h
    · exact h
    · rw [List.drop_eq_nil_of_le h] at h1; cases h1
  have hg : nextGot l s.1 s.2 1 = [b] := by
    unfold nextGot
    rw [if_pos ⟨h0, by omega⟩, h1]
    rfl
  refine ⟨by unfold tB; rw [hg]; simp [leNat], ?_, ?_⟩
  · unfold sB nextErr
    simp only
    rw [if_pos h0, if_pos (by omega)]
  · unfold sB nextAt
    simp only
    rw [if_pos ⟨h0, by omega⟩, ← List.drop_drop, h1]
    rfl

theorem ahead_specs {l r : List UInt8} : ∀ (X : List Spc) (n : Nat) (s : CSt), X.all okP = true → (∀ x ∈ X, x.In) → X.length + 1 ≤ n → Ahead l s (spcsB X ++ (0 :: 0 :: r)) → (specsF l n s).1 = X ∧ Ahead l (specsF l n s).2 r
  | [], n, s, _, _, hn, h => by
    obtain ⟨m, rfl⟩ : ∃ m, n = m + 1 := ⟨n - 1, by simp at hn; omega⟩
    obtain ⟨h1, h2⟩ := ahead_zero (show Ahead l s (0 :: 0 :: r) from h)
    obtain ⟨h3, h4⟩ := ahead_zero h2
    rw [specsF_end ⟨h1, h3⟩]
    exact ⟨rfl, h4⟩
  | x :: X, n, s, hok, hin, hn, h => by
    rw [List.all_cons, Bool.and_eq_true] at hok
    obtain ⟨m, rfl⟩ : ∃ m, n = m + 1 := ⟨n - 1, by simp at hn; omega⟩
    obtain ⟨p, q, hp, hq, hp1, hp6, hq1, hq6, hqi⟩ := okP_nat hok.1
    have hxi := hin x List.mem_cons_self
    have hb : spcsB (x :: X) ++ (0 :: 0 :: r) = lebPut (sizeU p) (p : Int) ++ (lebPut (sizeU q) (q : Int) ++ ((if x.form = 33 then lebPut (sizeS x.imp) x.imp else []) ++ (spcsB X ++ (0 :: 0 :: r)))) := by
      rw [show spcsB (x :: X) = spcB x ++ spcsB X from rfl, spcB_nat hp hq]
      simp only [List.append_assoc]
    rw [hb] at h
    obtain ⟨h1, h2⟩ := ahead_u (by omega) h
    obtain ⟨h3, h4⟩ := ahead_u (by omega) h2
    have hno : ¬ (tU l s = 0 ∧ tU l (sU l s) = 0) := by rw [h1]; omega
    have hbp : badP (tU l s) (tU l (sU l s)) = false := by
      rw [h1, h3]
      unfold badP
      simp only [Bool.or_eq_false_iff, decide_eq_false_iff_not]
      omega
    have hm : m ≠ 0 := by simp at hn; omega
    have hml : X.length + 1 ≤ m := by simp at hn; omega
    by_cases h33 : q = 33
    · rw [if_pos (by rw [hq, h33]; rfl)] at h4
      obtain ⟨h5, h6⟩ := ahead_s hxi.2.2 h4
      obtain ⟨ih1, ih2⟩ := ahead_specs X m _ hok.2 (fun y hy => hin y (List.mem_cons_of_mem _ hy)) hml h6
      rw [specsF_imp hm hno hbp (by rw [h3]; exact h33), h1, h3, h5]
      refine ⟨?_, ih2⟩
      show _ :: _ = _
      rw [ih1, ← hp, ← hq]
    · rw [if_neg (by rw [hq]; omega), List.nil_append] at h4
      obtain ⟨ih1, ih2⟩ := ahead_specs X m _ hok.2 (fun y hy => hin y (List.mem_cons_of_mem _ hy)) hml h4
      rw [specsF_more hm hno hbp (by rw [h3]; exact h33), h1, h3]
      refine ⟨?_, ih2⟩
      show _ :: _ = _
      have := hqi h33
      rw [ih1, ← hp, ← hq, ← this]
theorem ahead_abb {l r : List UInt8} {x : Abb} {s : CSt} (hok : okA x = true) (hin : x.In) (h : Ahead l s (abbB x ++ r)) : tU l s = x.code ∧ abbT l x.code (sU l s) = x ∧ Ahead l (abbS l (sU l s)) r := by
  obtain ⟨-, htg, h40, hall, -⟩ := okA_spec hok
  obtain ⟨t, ht, ht1, ht6⟩ := numbK_nat htg
  have hb : abbB x ++ r = lebPut (sizeU x.code) (x.code : Int) ++ (lebPut (sizeU t) (t : Int) ++ (kidB x.kids :: (spcsB x.l ++ (0 :: 0 :: r)))) := by
    unfold abbB
    rw [ht, Int.toNat_natCast]
    simp only [List.append_assoc, List.cons_append, List.nil_append]
  rw [hb] at h
  obtain ⟨h1, h2⟩ := ahead_u (by have := hin.code; unfold two64 at this; omega) h
  obtain ⟨h3, h4⟩ := ahead_u (by omega) h2
  have htT : tagT l (sU l s) = t ∧ tagS l (sU l s) = sU l (sU l s) := by
    unfold tagT tagS
    rw [h3, if_neg (by omega), if_neg (by omega)]
    exact ⟨rfl, rfl⟩
  rw [← htT.2] at h4
  obtain ⟨h5, h6⟩ := ahead_b h4
  have hk : kidT l (tagS l (sU l s)) = x.kids ∧ kidS l (tagS l (sU l s)) = sB l (tagS l (sU l s)) := by
    unfold kidT kidS
    rw [h5]
    cases x.kids <;> exact ⟨rfl, rfl⟩
  rw [← hk.2] at h6
  obtain ⟨h7, h8⟩ := ahead_specs x.l 41 _ hall hin.spcs (by omega) h6
  refine ⟨h1, ?_, h8⟩
  unfold abbT
  rw [htT.1, hk.1, h7, ← ht]
theorem ahead_tab {l r : List UInt8} : ∀ (X : List Abb) (n : Nat) (s : CSt), X.all okA = true → (∀ x ∈ X, x.In) → X.length + 1 ≤ n → Ahead l s (abbsB X ++ (0 :: r)) → (tabF l n s).1 = X ∧ Ahead l (tabF l n s).2 r
  | [], n, s, _, _, hn, h => by
    obtain ⟨m, rfl⟩ : ∃ m, n = m + 1 := ⟨n - 1, by simp at hn; omega⟩
    obtain ⟨h1, h2⟩ := ahead_zero (show Ahead l s (0 :: r) from h)
    rw [tabF_end h1]
    exact ⟨rfl, h2⟩
  | x :: X, n, s, hok, hin, hn, h => by
    rw [List.all_cons, Bool.and_eq_true] at hok
    obtain ⟨m, rfl⟩ : ∃ m, n = m + 1 := ⟨n - 1, by simp at hn; omega⟩
    have hb : abbsB (x :: X) ++ (0 :: r) = abbB x ++ (abbsB X ++ (0 :: r)) := by
      rw [show abbsB (x :: X) = abbB x ++ abbsB X from rfl, List.append_assoc]
    rw [hb] at h
    obtain ⟨h1, h2, h3⟩ := ahead_abb hok.1 (hin x List.mem_cons_self) h
    obtain ⟨ih1, ih2⟩ := ahead_tab X m _ hok.2 (fun y hy => hin y (List.mem_cons_of_mem _ hy)) (by simp at hn; omega) h3
    rw [tabF_more (by simp at hn; omega) (by rw [h1]; exact (okA_spec hok.1).1), h1]
    refine ⟨?_, ih2⟩
    show _ :: _ = _
    rw [h2, ih1]
/-- What is put is taken, with what stands behind it left. -/
theorem put_take {L : List Abb} {r : List UInt8} (hr : rightA L = true) (hin : ∀ x ∈ L, x.In) : takeAE (tabB L ++ r) (0, 0) = 0 ∧ takeAL (tabB L ++ r) (0, 0) = L ∧ (tabB L ++ r).length - takeAP (tabB L ++ r) (0, 0) = r.length := by
  obtain ⟨h3, hall, -⟩ := rightA_spec hr
  have ha : Ahead (tabB L ++ r) (0, 0) (abbsB L ++ (0 :: r)) := ⟨rfl, by unfold tabB; simp⟩
  obtain ⟨h1, h2, h4⟩ := ahead_tab L 301 (0, 0) hall hin (by omega) ha
  obtain ⟨t1, t2⟩ := take_ok (l := tabB L ++ r) (s := (0, 0)) h2 (by rw [h1]; exact hr)
  refine ⟨t1, by rw [t2, h1], ?_⟩
  unfold takeAP
  rw [← List.length_drop, h4]

end Go.Proofs.Yteadabmlleipiaa

namespace Go.Proofs.Yteadabmlleipiaa
open Go Go.RowKit Go.Maps

def exA : Abb := ⟨1, 17, true, [⟨3, 8, 0⟩]⟩
theorem exA_in : exA.In := ⟨by decide, by constructor <;> decide, by decide, fun x hx => by
  rw [List.mem_singleton.1 hx]
  exact ⟨by constructor <;> decide, by constructor <;> decide, zero_in⟩⟩
theorem exA_right : rightA [exA] = true := by decide
theorem exA_bytes : tabB [exA] = [1, 17, 1, 3, 8, 0, 0, 0] := by decide
theorem laid_nil {w w' : World} {base : Nat} {v' : Value} {l' : List UInt8} (h : Laid w w' base (.slice none 0 0) v' l') (hb : base ≤ w.heap.size) : Below base w w' := below_of_only h.2.1 hb (by simp [Value.ownBlock])

set_option maxRecDepth 10000 in
set_option maxHeartbeats 3200000 in
theorem works13_any (w : World) : Calls Try.prog 15 #[] w fun r w' => r = .returned (.bool true) ∧ Below w.heap.size w w' := by
  generalize hw1 : w.alloc (.cells #[.int .i64 3, .int .i64 8, .int .i64 0] 121) = w1 at *
  generalize hw2 : w1.alloc (.cells #[.int .u64 1, .int .i64 17, .bool true, .slice (some ⟨w.heap.size, 0, none⟩) 1 1] 77) = w2 at *
  have hb1 : Below w.heap.size w w1 := hw1 ▸ (Below.refl _ _).alloc (Nat.le_refl _) _
  have hb2 : Below w1.heap.size w1 w2 := hw2 ▸ (Below.refl _ _).alloc (Nat.le_refl _) _
  have hs1 : w1.heap.size = w.heap.size + 1 := by rw [← hw1]; simp
  have hs2 : w2.heap.size = w1.heap.size + 1 := by rw [← hw2]; simp
  have hr1 : Spcs w1 (w.heap.size + 1) (some ⟨w.heap.size, 0, none⟩) [⟨3, 8, 0⟩] := by
    rw [← hw1]
    exact lit_row spc_three w 121 [⟨3, 8, 0⟩]
  have hr2 : Row 4 ALay.cells w2 (w1.heap.size + 1) (some ⟨w1.heap.size, 0, none⟩) [⟨exA, some ⟨w.heap.size, 0, none⟩, 1⟩] := by
    rw [← hw2]
    exact lit_row abb_four w1 77 [⟨exA, some ⟨w.heap.size, 0, none⟩, 1⟩]
  have hA : Abbs w2 w2.heap.size (some ⟨w1.heap.size, 0, none⟩) [⟨exA, some ⟨w.heap.size, 0, none⟩, 1⟩] := ⟨hr2.more (by omega), fun y hy => by
    rw [List.mem_singleton.1 hy]
    exact Row.more (Row.below hr1 (hb2.mono (by omega))) (by omega)⟩
  have HIN := Lib.hid (show ∀ y ∈ ([⟨exA, some ⟨w.heap.size, 0, none⟩, 1⟩] : List ALay), y.x.In from fun y hy => by rw [List.mem_singleton.1 hy]; exact exA_in)
  have HP := Lib.hid (putA_any (v := .slice none 0 0) (l := []) (World.ownsRow_nil w2 w2.heap.size 5 1) (Nat.le_refl _) hA 1 (show 1 ≤ 100000 by decide) HIN.out (show 0 ≤ 140737487000000 by decide))
  have hpe : putAE (absOf [⟨exA, some ⟨w.heap.size, 0, none⟩, 1⟩]) = 0 := by unfold putAE; rw [if_pos (show rightA (absOf [⟨exA, some ⟨w.heap.size, 0, none⟩, 1⟩]) = true from exA_right)]
  rw [hpe] at HP
  have hab : absOf [⟨exA, some ⟨w.heap.size, 0, none⟩, 1⟩] = [exA] := rfl
  rw [hab, List.nil_append] at HP
  obtain ⟨T8, hT8⟩ : ∃ T8, tabB [exA] = T8 := ⟨_, rfl⟩
  have HT8 := Lib.hid (show T8 = [1, 17, 1, 3, 8, 0, 0, 0] from hT8.symm.trans exA_bytes)
  have hl8 : T8.length = 8 := by rw [HT8.out]; rfl
  have HW := Lib.hid (hb1.trans (hb2.mono hb1.size))
  have HAB := Lib.hid hA
  obtain ⟨t1, t2, -⟩ := put_take (L := [exA]) (r := []) exA_right (fun x hx => by rw [List.mem_singleton.1 hx]; exact exA_in)
  rw [List.append_nil, hT8] at t1 t2
  rw [hT8] at HP
  have hae : atAE T8 0 = 0 := by unfold atAE; rw [if_pos (by omega), List.drop_zero]; exact t1
  have hal : atAL T8 0 = [exA] := by unfold atAL; rw [if_pos (by omega), List.drop_zero]; exact t2
  have HAE := Lib.hid hae
  have HAL := Lib.hid hal
  have HL8 := Lib.hid hl8
  clear hb1 hb2 hr1 hr2 hA hpe t1 t2 hae hal hab hT8 hl8
  rw [show ([⟨exA, some ⟨w.heap.size, 0, none⟩, 1⟩] : List ALay).length = 1 from rfl] at HP
  have HR := Lib.hid exA_right
  generalize rightA [exA] = rx at *
  clear hs1 hs2
  go_enter Try.func15, Try.ntmps15
  go_upto_region 2 with fail
  try rw [hw1]
  try rw [hw2]
  clear hw1 hw2
  go_upto_region 3 with (go_at_call 25; refine HP.out.mono ?_; rintro r w3 ⟨v3, rfl, hL3, -⟩; have HL3 := Lib.hid (hL3 HR.out); clear hL3)
  have HB3 := Lib.hid (laid_nil HL3.out (Nat.le_refl _))
  obtain ⟨A3, c3, rfl, hc3, hm3, hrd3⟩ := own_slice HL3.out.1
  have HT := Lib.hid (atA_any (l := T8) hrd3 (Nat.le_refl _) c3 hc3 (by rw [HL8.out]; decide) 0 (by decide))
  rw [HAE.out, HAL.out, HL8.out] at HT
  rw [HL8.out]
  have hcv := conv_own HL3.out.1
  rw [HL8.out] at hcv
  have HO3 := Lib.hid HL3.out.1
  have HCV := Lib.hid hcv
  clear hc3 hm3 hrd3 HP HL3 hcv
  go_upto_region 4 with (go_at_call 22; refine HT.out.mono ?_; rintro r w4 ⟨u4, L4, rfl, hO4, hm4, hi4, h34, hb4⟩; have HO4 := Lib.hid hO4; have HM4 := Lib.hid hm4; have HI4 := Lib.hid hi4; have HB4 := Lib.hid hb4; clear hO4 hm4 hi4 h34 hb4)
  obtain ⟨A4, c4, rfl, -, -, hl4⟩ := HO4.out.lies
  have hn4 : L4.length = 1 := by have := congrArg List.length HM4.out; simpa using this
  rw [hn4]
  have HL4 := Lib.hid hl4
  have HN4 := Lib.hid hn4
  clear hl4 hn4
  go_upto_region 5 with (go_at_call 17; refine (takeA_nil _).mono ?_; rintro r w5 ⟨rfl, hb5⟩; have HB5 := Lib.hid hb5; clear hb5)
  have HB35 := Lib.hid (HB4.out.trans (HB5.out.mono HB4.out.size))
  have hc5 := conv_own (row_below HO3.out HB35.out)
  rw [HL8.out, HT8.out] at hc5
  have HB25 := Lib.hid (HB3.out.trans (HB35.out.mono HB3.out.size))
  have HSM := Lib.hid (sameA_any (w := w5) (HAB.out.up HB25.out) (HL4.out.up HB5.out) 1 c4 (show 1 ≤ 100000 by decide) (fun y hy => by rw [List.mem_singleton.1 hy]; exact exA_in.len) (fun y hy => (HI4.out y hy).len))
  rw [show alikeL oneL [⟨exA, some ⟨w.heap.size, 0, none⟩, 1⟩] L4 = true from (alikeA_iff _ _).2 HM4.out.symm, HN4.out, show ([⟨exA, some ⟨w.heap.size, 0, none⟩, 1⟩] : List ALay).length = 1 from rfl] at HSM
  go_wp2_with (go_at_call 19; refine HSM.out.mono ?_; rintro r w6 ⟨rfl, hb6⟩; have HB6 := Lib.hid hb6; clear hb6)
  go_ret
  exact ⟨rfl, HW.out.trans ((HB25.out.trans (HB6.out.mono HB25.out.size)).mono HW.out.size)⟩

end Go.Proofs.Yteadabmlleipiaa

namespace Go.Proofs.Yteadabmlleipiaa
open Go Go.RowKit Go.Maps

/-- Abbreviations that came in: their numbers are numbers of 64 bits. -/
structure ALay.Nums (y : ALay) : Prop where
  code : y.x.code < two64
  tag : InI y.x.tag
  spcs : ∀ x ∈ y.x.l, x.In
theorem nums_in {y : ALay} (h : y.Nums) (hl : y.x.l.length ≤ 1500) : y.x.In := ⟨h.code, h.tag, by omega, h.spcs⟩

end Go.Proofs.Yteadabmlleipiaa
