/-
  AbbrevBack's walk.
-/
import Derived.Test.YteadabmlleipiaaAbH
import Derived.Test.YteadabmlleipiaaAbK
import Derived.Test.YteadabmlleipiaaRefU
import Derived.Test.YteadabmlleipiaaLawA
namespace Go.Proofs.Yteadabmlleipiaa
open Go Go.RowKit

/-- A cursor that has not refused stands ahead of these bytes. -/
def Ahead (l : List UInt8) (s : CSt) (r : List UInt8) : Prop := s.2 = 0 ∧ l.drop s.1 = r
theorem ahead_u {l r : List UInt8} {s : CSt} {n : Nat} (hn : n < 2 ^ 64) (h : Ahead l s (lebPut (sizeU n) (n : Int) ++ r)) : tU l s = n ∧ Ahead l (sU l s) r := by
  obtain ⟨h0, h1⟩ := h
  have hs := sizeU_range n hn
  have hr := readU_put (sizeU n) n r hn (Nat.le_refl _) hs.2
  have hu : uOf (l.drop s.1) s.2 = (n, sizeU n, 0) := by unfold uOf; rw [if_pos h0, h1, hr]
  refine ⟨by unfold tU; rw [hu], by unfold sU; rw [hu], ?_⟩
  unfold sU
  rw [hu]
  show l.drop (s.1 + sizeU n) = r
  rw [← List.drop_drop, h1, List.drop_left' (lebPut_length _ _ hs.1)]
theorem ahead_s {l r : List UInt8} {s : CSt} {n : Int} (hn : InI n) (h : Ahead l s (lebPut (sizeS n) n ++ r)) : tS l s = n ∧ Ahead l (sS l s) r := by
  obtain ⟨h0, h1⟩ := h
  have hs := sizeS_range n hn
  have hr := readS_put (sizeS n) n r hn (Nat.le_refl _) hs.2
  have hu : sOf (l.drop s.1) s.2 = (n, sizeS n, 0) := by unfold sOf; rw [if_pos h0, h1, hr]
  refine ⟨by unfold tS; rw [hu], by unfold sS; rw [hu], ?_⟩
  unfold sS
  rw [hu]
  show l.drop (s.1 + sizeS n) = r
  rw [← List.drop_drop, h1, List.drop_left' (lebPut_length _ _ hs.1)]
theorem put_zero : lebPut (sizeU 0) ((0 : Nat) : Int) = [0] := by decide
theorem ahead_zero {l r : List UInt8} {s : CSt} (h : Ahead l s (0 :: r)) : tU l s = 0 ∧ Ahead l (sU l s) r :=
  ahead_u (n := 0) (by decide) (by rw [put_zero]; exact h)
theorem ahead_b {l r : List UInt8} {s : CSt} {b : UInt8} (h : Ahead l s (b :: r)) : tB l s = b.toNat ∧ Ahead l (sB l s) r := by
  obtain ⟨h0, h1⟩ := h
  have hl : s.1 < l.length := by
    rcases Nat.lt_or_ge s.1 l.length with h | h
    · exact h
    · rw [List.drop_eq_nil_of_le h] at h1; cases h1
  have hg : nextGot l s.1 s.2 1 = [b] := by
    unfold nextGot
    rw [if_pos ⟨h0, by omega⟩, h1]
    rfl
  refine ⟨by unfold tB; rw [hg]; simp [leNat], ?_, ?_⟩
  · unfold sB nextErr
    simp only
    rw [if_pos h0, if_pos (by omega)]
  · unfold sB nextAt
    simp only
    rw [if_pos ⟨h0, by omega⟩, ← List.drop_drop, h1]
    rfl

theorem ahead_specs {l r : List UInt8} : ∀ (X : List Spc) (n : Nat) (s : CSt), X.all okP = true → (∀ x ∈ X, x.In) → X.length + 1 ≤ n → Ahead l s (spcsB X ++ (0 :: 0 :: r)) → (specsF l n s).1 = X ∧ Ahead l (specsF l n s).2 r
  | [], n, s, _, _, hn, h => by
    obtain ⟨m, rfl⟩ : ∃ m, n = m + 1 := ⟨n - 1, by simp at hn; omega⟩
    obtain ⟨h1, h2⟩ := ahead_zero (show Ahead l s (0 :: 0 :: r) from h)
    obtain ⟨h3, h4⟩ := ahead_zero h2
    rw [specsF_end ⟨h1, h3⟩]
    exact ⟨rfl, h4⟩
  | x :: X, n, s, hok, hin, hn, h => by
    rw [List.all_cons, Bool.and_eq_true] at hok
    obtain ⟨m, rfl⟩ : ∃ m, n = m + 1 := ⟨n - 1, by simp at hn; omega⟩
    obtain ⟨p, q, hp, hq, hp1, hp6, hq1, hq6, hqi⟩ := okP_nat hok.1
    have hxi := hin x List.mem_cons_self
    have hb : spcsB (x :: X) ++ (0 :: 0 :: r) = lebPut (sizeU p) (p : Int) ++ (lebPut (sizeU q) (q : Int) ++ ((if x.form = 33 then lebPut (sizeS x.imp) x.imp else []) ++ (spcsB X ++ (0 :: 0 :: r)))) := by
      rw [show spcsB (x :: X) = spcB x ++ spcsB X from rfl, spcB_nat hp hq]
      simp only [List.append_assoc]
    rw [hb] at h
    obtain ⟨h1, h2⟩ := ahead_u (by omega) h
    obtain ⟨h3, h4⟩ := ahead_u (by omega) h2
    have hno : ¬ (tU l s = 0 ∧ tU l (sU l s) = 0) := by rw [h1]; omega
    have hbp : badP (tU l s) (tU l (sU l s)) = false := by
      rw [h1, h3]
      unfold badP
      simp only [Bool.or_eq_false_iff, decide_eq_false_iff_not]
      omega
    have hm : m ≠ 0 := by simp at hn; omega
    have hml : X.length + 1 ≤ m := by simp at hn; omega
    by_cases h33 : q = 33
    · rw [if_pos (by rw [hq, h33]; rfl)] at h4
      obtain ⟨h5, h6⟩ := ahead_s hxi.2.2 h4
      obtain ⟨ih1, ih2⟩ := ahead_specs X m _ hok.2 (fun y hy => hin y (List.mem_cons_of_mem _ hy)) hml h6
      rw [specsF_imp hm hno hbp (by rw [h3]; exact h33), h1, h3, h5]
      refine ⟨?_, ih2⟩
      show _ :: _ = _
      rw [ih1, ← hp, ← hq]
    · rw [if_neg (by rw [hq]; omega), List.nil_append] at h4
      obtain ⟨ih1, ih2⟩ := ahead_specs X m _ hok.2 (fun y hy => hin y (List.mem_cons_of_mem _ hy)) hml h4
      rw [specsF_more hm hno hbp (by rw [h3]; exact h33), h1, h3]
      refine ⟨?_, ih2⟩
      show _ :: _ = _
      have := hqi h33
      rw [ih1, ← hp, ← hq, ← this]
theorem ahead_abb {l r : List UInt8} {x : Abb} {s : CSt} (hok : okA x = true) (hin : x.In) (h : Ahead l s (abbB x ++ r)) : tU l s = x.code ∧ abbT l x.code (sU l s) = x ∧ Ahead l (abbS l (sU l s)) r := by
  obtain ⟨-, htg, h40, hall, -⟩ := okA_spec hok
  obtain ⟨t, ht, ht1, ht6⟩ := numbK_nat htg
  have hb : abbB x ++ r = lebPut (sizeU x.code) (x.code : Int) ++ (lebPut (sizeU t) (t : Int) ++ (kidB x.kids :: (spcsB x.l ++ (0 :: 0 :: r)))) := by
    unfold abbB
    rw [ht, Int.toNat_natCast]
    simp only [List.append_assoc, List.cons_append, List.nil_append]
  rw [hb] at h
  obtain ⟨h1, h2⟩ := ahead_u (by have := hin.code; unfold two64 at this; omega) h
  obtain ⟨h3, h4⟩ := ahead_u (by omega) h2
  have htT : tagT l (sU l s) = t ∧ tagS l (sU l s) = sU l (sU l s) := by
    unfold tagT tagS
    rw [h3, if_neg (by omega), if_neg (by omega)]
    exact ⟨rfl, rfl⟩
  rw [← htT.2] at h4
  obtain ⟨h5, h6⟩ := ahead_b h4
  have hk : kidT l (tagS l (sU l s)) = x.kids ∧ kidS l (tagS l (sU l s)) = sB l (tagS l (sU l s)) := by
    unfold kidT kidS
    rw [h5]
    cases x.kids <;> exact ⟨rfl, rfl⟩
  rw [← hk.2] at h6
  obtain ⟨h7, h8⟩ := ahead_specs x.l 41 _ hall hin.spcs (by omega) h6
  refine ⟨h1, ?_, h8⟩
  unfold abbT
  rw [htT.1, hk.1, h7, ← ht]
theorem ahead_tab {l r : List UInt8} : ∀ (X : List Abb) (n : Nat) (s : CSt), X.all okA = true → (∀ x ∈ X, x.In) → X.length + 1 ≤ n → Ahead l s (abbsB X ++ (0 :: r)) → (tabF l n s).1 = X ∧ Ahead l (tabF l n s).2 r
  | [], n, s, _, _, hn, h => by
    obtain ⟨m, rfl⟩ : ∃ m, n = m + 1 := ⟨n - 1, by simp at hn; omega⟩
    obtain ⟨h1, h2⟩ := ahead_zero (show Ahead l s (0 :: r) from h)
    rw [tabF_end h1]
    exact ⟨rfl, h2⟩
  | x :: X, n, s, hok, hin, hn, h => by
    rw [List.all_cons, Bool.and_eq_true] at hok
    obtain ⟨m, rfl⟩ : ∃ m, n = m + 1 := ⟨n - 1, by simp at hn; omega⟩
    have hb : abbsB (x :: X) ++ (0 :: r) = abbB x ++ (abbsB X ++ (0 :: r)) := by
      rw [show abbsB (x :: X) = abbB x ++ abbsB X from rfl, List.append_assoc]
    rw [hb] at h
    obtain ⟨h1, h2, h3⟩ := ahead_abb hok.1 (hin x List.mem_cons_self) h
    obtain ⟨ih1, ih2⟩ := ahead_tab X m _ hok.2 (fun y hy => hin y (List.mem_cons_of_mem _ hy)) (by simp at hn; omega) h3
    rw [tabF_more (by simp at hn; omega) (by rw [h1]; exact (okA_spec hok.1).1), h1]
    refine ⟨?_, ih2⟩
    show _ :: _ = _
    rw [h2, ih1]
/-- What is put is taken, with what stands behind it left. -/
theorem put_take {L : List Abb} {r : List UInt8} (hr : rightA L = true) (hin : ∀ x ∈ L, x.In) : takeAE (tabB L ++ r) (0, 0) = 0 ∧ takeAL (tabB L ++ r) (0, 0) = L ∧ (tabB L ++ r).length - takeAP (tabB L ++ r) (0, 0) = r.length := by
  obtain ⟨h3, hall, -⟩ := rightA_spec hr
  have ha : Ahead (tabB L ++ r) (0, 0) (abbsB L ++ (0 :: r)) := ⟨rfl, by unfold tabB; simp⟩
  obtain ⟨h1, h2, h4⟩ := ahead_tab L 301 (0, 0) hall hin (by omega) ha
  obtain ⟨t1, t2⟩ := take_ok (l := tabB L ++ r) (s := (0, 0)) h2 (by rw [h1]; exact hr)
  refine ⟨t1, by rw [t2, h1], ?_⟩
  unfold takeAP
  rw [← List.length_drop, h4]

end Go.Proofs.Yteadabmlleipiaa

namespace Go.Proofs.Yteadabmlleipiaa
open Go Go.RowKit Go.Maps

def exA : Abb := ⟨1, 17, true, [⟨3, 8, 0⟩]⟩
theorem exA_in : exA.In := ⟨by decide, by constructor <;> decide, by decide, fun x hx => by
  rw [List.mem_singleton.1 hx]
  exact ⟨by constructor <;> decide, by constructor <;> decide, zero_in⟩⟩
theorem exA_right : rightA [exA] = true := by decide
theorem exA_bytes : tabB [exA] = [1, 17, 1, 3, 8, 0, 0, 0] := by decide
theorem laid_nil {w w' : World} {base : Nat} {v' : Value} {l' : List UInt8} (h : Laid w w' base (.slice none 0 0) v' l') (hb : base ≤ w.heap.size) : Below base w w' := below_of_only h.2.1 hb (by simp [Value.ownBlock])

set_option maxRecDepth 10000 in
set_option maxHeartbeats 3200000 in
theorem works13_any (w : World) : Calls Try.prog 15 #[] w fun r w' => r = .returned (.bool true) ∧ Below w.heap.size w w' := by
  generalize hw1 : w.alloc (.cells #[.int .i64 3, .int .i64 8, .int .i64 0] 121) = w1 at *
  generalize hw2 : w1.alloc (.cells #[.int .u64 1, .int .i64 17, .bool true, .slice (some ⟨w.heap.size, 0, none⟩) 1 1] 77) = w2 at *
  have hb1 : Below w.heap.size w w1 := hw1 ▸ (Below.refl _ _).alloc (Nat.le_refl _) _
  have hb2 : Below w1.heap.size w1 w2 := hw2 ▸ (Below.refl _ _).alloc (Nat.le_refl _) _
  have hs1 : w1.heap.size = w.heap.size + 1 := by rw [← hw1]; simp
  have hs2 : w2.heap.size = w1.heap.size + 1 := by rw [← hw2]; simp
  have hr1 : Spcs w1 (w.heap.size + 1) (some ⟨w.heap.size, 0, none⟩) [⟨3, 8, 0⟩] := by
    rw [← hw1]
    exact lit_row spc_three w 121 [⟨3, 8, 0⟩]
  have hr2 : Row 4 ALay.cells w2 (w1.heap.size + 1) (some ⟨w1.heap.size, 0, none⟩) [⟨exA, some ⟨w.heap.size, 0, none⟩, 1⟩] := by
    rw [← hw2]
    exact lit_row abb_four w1 77 [⟨exA, some ⟨w.heap.size, 0, none⟩, 1⟩]
  have hA : Abbs w2 w2.heap.size (some ⟨w1.heap.size, 0, none⟩) [⟨exA, some ⟨w.heap.size, 0, none⟩, 1⟩] := ⟨hr2.more (by omega), fun y hy => by
    rw [List.mem_singleton.1 hy]
    exact Row.more (Row.below hr1 (hb2.mono (by omega))) (by omega)⟩
  have HIN := Lib.hid (show ∀ y ∈ ([⟨exA, some ⟨w.heap.size, 0, none⟩, 1⟩] : List ALay), y.x.In from fun y hy => by rw [List.mem_singleton.1 hy]; exact exA_in)
  have HP := Lib.hid (putA_any (v := .slice none 0 0) (l := []) (World.ownsRow_nil w2 w2.heap.size 5 1) (Nat.le_refl _) hA 1 (show 1 ≤ 100000 by decide) HIN.out (show 0 ≤ 140737487000000 by decide))
  have hpe : putAE (absOf [⟨exA, some ⟨w.heap.size, 0, none⟩, 1⟩]) = 0 := by unfold putAE; rw [if_pos (show rightA (absOf [⟨exA, some ⟨w.heap.size, 0, none⟩, 1⟩]) = true from exA_right)]
  rw [hpe] at HP
  have hab : absOf [⟨exA, some ⟨w.heap.size, 0, none⟩, 1⟩] = [exA] := rfl
  rw [hab, List.nil_append] at HP
  obtain ⟨T8, hT8⟩ : ∃ T8, tabB [exA] = T8 := ⟨_, rfl⟩
  have HT8 := Lib.hid (show T8 = [1, 17, 1, 3, 8, 0, 0, 0] from hT8.symm.trans exA_bytes)
  have hl8 : T8.length = 8 := by rw [HT8.out]; rfl
  have HW := Lib.hid (hb1.trans (hb2.mono hb1.size))
  have HAB := Lib.hid hA
  obtain ⟨t1, t2, -⟩ := put_take (L := [exA]) (r := []) exA_right (fun x hx => by rw [List.mem_singleton.1 hx]; exact exA_in)
  rw [List.append_nil, hT8] at t1 t2
  rw [hT8] at HP
  have hae : atAE T8 0 = 0 := by unfold atAE; rw [if_pos (by omega), List.drop_zero]; exact t1
  have hal : atAL T8 0 = [exA] := by unfold atAL; rw [if_pos (by omega), List.drop_zero]; exact t2
  have HAE := Lib.hid hae
  have HAL := Lib.hid hal
  have HL8 := Lib.hid hl8
  clear hb1 hb2 hr1 hr2 hA hpe t1 t2 hae hal hab hT8 hl8
  rw [show ([⟨exA, some ⟨w.heap.size, 0, none⟩, 1⟩] : List ALay).length = 1 from rfl] at HP
  have HR := Lib.hid exA_right
  generalize rightA [exA] = rx at *
  clear hs1 hs2
  go_enter Try.func15, Try.ntmps15
  go_upto_region 2 with fail
  try rw [hw1]
  try rw [hw2]
  clear hw1 hw2
  go_upto_region 3 with (go_at_call 25; refine HP.out.mono ?_; rintro r w3 ⟨v3, rfl, hL3, -⟩; have HL3 := Lib.hid (hL3 HR.out); clear hL3)
  have HB3 := Lib.hid (laid_nil HL3.out (Nat.le_refl _))
  obtain ⟨A3, c3, rfl, hc3, hm3, hrd3⟩ := own_slice HL3.out.1
  have HT := Lib.hid (atA_any (l := T8) hrd3 (Nat.le_refl _) c3 hc3 (by rw [HL8.out]; decide) 0 (by decide))
  rw [HAE.out, HAL.out, HL8.out] at HT
  rw [HL8.out]
  have hcv := conv_own HL3.out.1
  rw [HL8.out] at hcv
  have HO3 := Lib.hid HL3.out.1
  have HCV := Lib.hid hcv
  clear hc3 hm3 hrd3 HP HL3 hcv
  go_upto_region 4 with (go_at_call 22; refine HT.out.mono ?_; rintro r w4 ⟨u4, L4, rfl, hO4, hm4, hi4, h34, hb4⟩; have HO4 := Lib.hid hO4; have HM4 := Lib.hid hm4; have HI4 := Lib.hid hi4; have HB4 := Lib.hid hb4; clear hO4 hm4 hi4 h34 hb4)
  obtain ⟨A4, c4, rfl, -, -, hl4⟩ := HO4.out.lies
  have hn4 : L4.length = 1 := by have := congrArg List.length HM4.out; simpa using this
  rw [hn4]
  have HL4 := Lib.hid hl4
  have HN4 := Lib.hid hn4
  clear hl4 hn4
  go_upto_region 5 with (go_at_call 17; refine (takeA_nil _).mono ?_; rintro r w5 ⟨rfl, hb5⟩; have HB5 := Lib.hid hb5; clear hb5)
  have HB35 := Lib.hid (HB4.out.trans (HB5.out.mono HB4.out.size))
  have hc5 := conv_own (row_below HO3.out HB35.out)
  rw [HL8.out, HT8.out] at hc5
  have HB25 := Lib.hid (HB3.out.trans (HB35.out.mono HB3.out.size))
  have HSM := Lib.hid (sameA_any (w := w5) (HAB.out.up HB25.out) (HL4.out.up HB5.out) 1 c4 (show 1 ≤ 100000 by decide) (fun y hy => by rw [List.mem_singleton.1 hy]; exact exA_in.len) (fun y hy => (HI4.out y hy).len))
  rw [show alikeL oneL [⟨exA, some ⟨w.heap.size, 0, none⟩, 1⟩] L4 = true from (alikeA_iff _ _).2 HM4.out.symm, HN4.out, show ([⟨exA, some ⟨w.heap.size, 0, none⟩, 1⟩] : List ALay).length = 1 from rfl] at HSM
  go_wp2_with (go_at_call 19; refine HSM.out.mono ?_; rintro r w6 ⟨rfl, hb6⟩; have HB6 := Lib.hid hb6; clear hb6)
  go_ret
  exact ⟨rfl, HW.out.trans ((HB25.out.trans (HB6.out.mono HB25.out.size)).mono HW.out.size)⟩

end Go.Proofs.Yteadabmlleipiaa

namespace Go.Proofs.Yteadabmlleipiaa
open Go Go.RowKit Go.Maps

/-- Abbreviations that came in: their numbers are numbers of 64 bits. -/
structure ALay.Nums (y : ALay) : Prop where
  code : y.x.code < two64
  tag : InI y.x.tag
  spcs : ∀ x ∈ y.x.l, x.In
theorem nums_in {y : ALay} (h : y.Nums) (hl : y.x.l.length ≤ 1500) : y.x.In := ⟨h.code, h.tag, by omega, h.spcs⟩

set_option maxRecDepth 10000 in
set_option maxHeartbeats 3200000 in
theorem aback_walk (a0 : Option Addr) (c0 : Nat) (L : List ALay) (a1 : Option Addr) (len1 cap1 : Nat) (z1 : List Int) (w : World) (h0 : Abbs w w.heap.size a0 L) (hn : ∀ y ∈ L, y.Nums) (w1 : IsRow .u8 w a1 len1 cap1 z1) :
    Calls Try.prog 6 #[.slice a0 L.length c0, .slice a1 len1 cap1] w fun r w' => r = .returned (.bool true) ∧ Below w.heap.size w w' := by
  obtain ⟨tl, hlen, hrd, hlc, hcm⟩ := row_bytes w1
  clear w1
  obtain ⟨i0, hi, hz0, hz1, hz2⟩ := info_parts u8_info
  have HAB := Lib.hid h0
  have HNU := Lib.hid hn
  have HRD := Lib.hid hrd
  have HTL := Lib.hid hlen
  have HWK := Lib.hid (works13_any w)
  have HBK := Lib.hid (fun W (hW : Below w.heap.size w W) => bulkA_any (w := W) (h0.below hW) c0)
  obtain ⟨N, hN⟩ : ∃ N, L.length = N := ⟨_, rfl⟩
  have HN := Lib.hid hN
  rw [hN] at HBK ⊢
  clear h0 hn hrd hlc hcm hN
  go_enter Try.func6, Try.ntmps6
  go_upto_region 3 with (go_at_call 15; refine HWK.out.mono ?_; rintro r w2 ⟨rfl, hb2⟩; have HB2 := Lib.hid hb2; clear hb2)
  have HBK2 := Lib.hid (HBK.out _ HB2.out)
  clear HWK HBK
  by_cases hbig : 2000 < len1
  · have d : decide ((2000 : Int) < (len1 : Int)) = true := decide_eq_true (by omega)
    clear hbig hlen
    go_wp2_with (go_at_call 24; refine HBK2.out.mono ?_; rintro r w3 ⟨⟨n, rfl, -⟩, rfl⟩)
    all_goals go_wp2
    all_goals go_ret
    all_goals exact ⟨rfl, HB2.out⟩
  have d : decide ((2000 : Int) < (len1 : Int)) = false := decide_eq_false (by omega)
  have HT2 := Lib.hid (show len1 ≤ 2000 by omega)
  clear hbig hlen
  go_wp2_with fail
  refine HBK2.out.mono ?_
  rintro r w3 ⟨⟨n, rfl, hnb⟩, rfl⟩
  have HNB := Lib.hid hnb
  clear hnb
  by_cases hn5 : 1500 < n
  · have d5 : decide ((1500 : Int) < n) = true := decide_eq_true hn5
    clear hn5
    go_wp2_with fail
    go_ret
    exact ⟨rfl, HB2.out⟩
  have d5 : decide ((1500 : Int) < n) = false := decide_eq_false hn5
  obtain ⟨hl5, hs5⟩ := HNB.out (by omega)
  have HL5 := Lib.hid hl5
  have HIN := Lib.hid (show ∀ y ∈ L, y.x.In from fun y hy => nums_in (HNU.out y hy) (hs5 y hy))
  clear hl5 hs5 hn5 HNB
  go_upto_region 5 with fail
  clear d d5
  have HA2 := Lib.hid (HAB.out.up HB2.out)
  have HP := Lib.hid (putA_any (v := .slice none 0 0) (l := []) (World.ownsRow_nil w2 w2.heap.size 5 1) (Nat.le_refl _) HA2.out c0 (by rw [HN.out]; have := HL5.out; omega) HIN.out (show 0 ≤ 140737487000000 by decide))
  rw [List.nil_append, HN.out] at HP
  have HXI := Lib.hid (show ∀ x ∈ absOf L, x.In from fun x hx => by
    obtain ⟨y, hy, rfl⟩ := List.mem_map.1 hx
    exact HIN.out y hy)
  obtain ⟨rr, hrr⟩ : ∃ rr, rightA (absOf L) = rr := ⟨_, rfl⟩
  have HRR := Lib.hid hrr
  obtain ⟨pe, hpe⟩ : ∃ pe, putAE (absOf L) = pe := ⟨_, rfl⟩
  have HPE := Lib.hid (show pe = if rr = true then 0 else 2 by rw [← hpe, ← hrr]; rfl)
  obtain ⟨T, hT⟩ : ∃ T, tabB (absOf L) = T := ⟨_, rfl⟩
  have HTT := Lib.hid hT
  rw [hrr, hpe, hT] at HP
  clear hpe hT
  cases rr with
  | false =>
    have hp2 : pe = 2 := by have := HPE.out; simpa using this
    subst hp2
    have HRG := Lib.hid (fun W (hW : Below w.heap.size w W) => rightA_any (HAB.out.up hW) c0 (by rw [HN.out]; have := HL5.out; omega) (lays_in HIN.out))
    rw [hrr, HN.out] at HRG
    clear hrr
    go_wp2_with (first
      | (go_at_call 25; refine HP.out.mono ?_; rintro r w3 ⟨v3, rfl, -, hf3⟩; have HB3 := Lib.hid (HB2.out.trans ((hf3 rfl).2.mono HB2.out.size)); clear hf3)
      | (go_at_call 27; refine (HRG.out _ HB3.out).mono ?_; rintro r w4 ⟨rfl, hb4⟩; have HB4 := Lib.hid (HB3.out.trans (hb4.mono HB3.out.size)); clear hb4))
    go_ret
    exact ⟨rfl, HB4.out⟩
  | true =>
    have hp2 : pe = 0 := by have := HPE.out; simpa using this
    subst hp2
    clear hrr
    have HTLN := Lib.hid (show T.length ≤ 400000 by
      obtain ⟨h3, hall, -⟩ := rightA_spec HRR.out
      have := abbsB_len hall HXI.out
      rw [← HTT.out]
      unfold tabB
      rw [List.length_append]
      have : ([0] : List UInt8).length = 1 := rfl
      omega)
    go_upto_region 8 with (go_at_call 25; refine HP.out.mono ?_; rintro r w3 ⟨v3, rfl, hL3, -⟩; have HL3 := Lib.hid (hL3 rfl); clear hL3)
    have HB23 := Lib.hid (laid_nil HL3.out (Nat.le_refl _))
    have HB3 := Lib.hid (HB2.out.trans (HB23.out.mono HB2.out.size))
    have HO3 := Lib.hid HL3.out.1
    obtain ⟨A3, c3, rfl, hc3, hm3, hrd3⟩ := own_slice HO3.out
    have HRD3 := Lib.hid hrd3
    clear hc3 hm3 hrd3 HP HL3
    obtain ⟨tn, htn⟩ : ∃ n, T.length = n := ⟨_, rfl⟩
    have HTN := Lib.hid htn
    have htn4 : tn ≤ 400000 := by have := HTLN.out; omega
    rw [htn]
    have HE3 := Lib.hid (own_new w3)
    have HA3 := Lib.hid ((Below.refl w3.heap.size w3).alloc (Nat.le_refl _) (.cells #[] 5))
    have HRD3' := Lib.hid (HRD3.out.below HA3.out)
    have hsm1 : ([] : List UInt8).length + T.length ≤ 140737488355328 := by rw [htn]; simp; omega
    have hsm2 : ([] ++ T : List UInt8).length + tl.length ≤ 140737488355328 := by rw [List.nil_append, htn, HTL.out]; have := HT2.out; omega
    have hbz : w3.heap.size ≤ (w3.alloc (.cells #[] 5)).heap.size := HA3.out.size
    have htl := HTL.out
    have HLL := Lib.hid (show ([] ++ T ++ tl : List UInt8).length = tn + len1 by rw [List.nil_append, List.length_append, htn, htl])
    go_upto_region 9 with (first
      | (at_builtin; refine wpList_append_bytes (by rfl) (.tmp 36) (.tmp 37) _ (by rfl) w3.heap.size i0 Try.underlying41 hi hz0 hz1 hz2 _ [] (by rfl) HE3.out w3.heap.size A3 tn c3 T htn (by rfl) HRD3'.out hsm1 hbz ?_; intro v4 w4 hown4 hg4 hat4; have hb4 : Below w3.heap.size w3 w4 := HA3.out.trans (below_of_only hg4 hbz (fun k hk => by simp [Value.ownBlock] at hk; omega)); have HO4 := Lib.hid hown4; have HB4 := Lib.hid hb4; have HRD4 := Lib.hid (HRD.out.below (HB3.out.trans (hb4.mono HB3.out.size))); have hbz4 := hb4.size; clear hown4 hg4 hat4 hb4)
      | (at_builtin; refine wpList_append_bytes (by rfl) (.tmp 38) (.tmp 39) _ (by rfl) w3.heap.size i0 Try.underlying41 hi hz0 hz1 hz2 _ ([] ++ T) (by rfl) HO4.out w.heap.size a1 len1 cap1 tl htl (by rfl) HRD4.out hsm2 hbz4 ?_; intro v5 w5 hown5 hg5 hat5; have hb5 : Below w3.heap.size w3 w5 := HB4.out.trans (below_of_only hg5 hbz4 (fun k hk => (own_ge HO4.out k hk).1)); have HO5 := Lib.hid hown5; have HB5 := Lib.hid hb5; (obtain ⟨A5, c5, rfl, hc5, hm5, hrd5⟩ := own_slice hown5); have hnw := new_any c5 hrd5 (Nat.le_refl _) (by have := hsm2; simp only [List.length_append] at this ⊢; omega); rw [HLL.out] at hnw; rw [List.nil_append] at hnw; have HNW := Lib.hid hnw; clear hnw hown5 hg5 hat5 hb5 hc5 hm5 hrd5)
      | (go_at_call 16; refine HNW.out.mono ?_; rintro r w6 ⟨g, v, rfl, hM6, hb6⟩; have HM6 := Lib.hid hM6; have HB6 := Lib.hid hb6; clear hM6 hb6))
    clear hsm1 hsm2 hbz htl
    have HB6' := Lib.hid (HB3.out.trans ((HB5.out.trans (HB6.out.mono HB5.out.size)).mono HB3.out.size))
    have HB36 := Lib.hid (HB5.out.trans (HB6.out.mono HB5.out.size))
    obtain ⟨hte, htl6, htp⟩ := put_take (L := absOf L) (r := tl) HRR.out HXI.out
    rw [HTT.out] at hte htl6 htp
    have HTK := Lib.hid (takeA_st (s := (0, 0)) HM6.out.1 (by rw [List.length_append, htn]; have := HTL.out; have := HT2.out; omega))
    have HTP := Lib.hid htp
    have HTA := Lib.hid htl6
    have HTE := Lib.hid hte
    have HGM := Lib.hid HM6.out.2.1
    clear hte htl6 htp
    generalize takeAE (T ++ tl) (0, 0) = te at *
    generalize takeAL (T ++ tl) (0, 0) = ta at *
    generalize takeAP (T ++ tl) (0, 0) = tp at *
    obtain rfl := HTE.out
    go_upto_region 10 with (go_at_call 17; refine HTK.out.mono ?_; rintro r w7 ⟨u7, M, rfl, hO7, hm7, hi7, h37, hC7, hG7⟩; have HO7 := Lib.hid hO7; have HM7 := Lib.hid hm7; have HI7 := Lib.hid hi7; have H37 := Lib.hid h37; have HC7 := Lib.hid hC7; have HG7 := Lib.hid hG7; clear hO7 hm7 hi7 h37 hC7 hG7)
    have HME := Lib.hid (show absOf M = absOf L from HM7.out.trans HTA.out)
    obtain ⟨A7, c7, rfl, -, -, hl7⟩ := HO7.out.lies
    have HL7 := Lib.hid hl7
    have HP2 := Lib.hid (putA_any (v := .slice none 0 0) (l := []) (World.ownsRow_nil w7 w7.heap.size 5 1) (Nat.le_refl _) hl7 c7 (by have := H37.out; omega) HI7.out (show 0 ≤ 140737487000000 by decide))
    rw [List.nil_append, HME.out, HTT.out] at HP2
    have hpe2 : putAE (absOf L) = 0 := by unfold putAE; rw [if_pos HRR.out]
    rw [hpe2] at HP2
    have HRR2 := Lib.hid HRR.out
    generalize rightA (absOf L) = rx at *
    clear hl7 hpe2 HTK HM6
    go_upto_region 11 with (go_at_call 25; refine HP2.out.mono ?_; rintro r w8 ⟨v8, rfl, hL8, -⟩; have HL8 := Lib.hid (hL8 HRR2.out); clear hL8)
    have HB8 := Lib.hid (laid_nil HL8.out (Nat.le_refl _))
    have HO8 := Lib.hid HL8.out.1
    obtain ⟨A8, c8, rfl, -, -, -⟩ := own_slice HO8.out
    rw [htn]
    have HB67 := Lib.hid (show Below w6.heap.size w6 w6 from Below.refl _ _)
    have HW8 := Lib.hid (show Below w.heap.size w w8 from by
      have h1 := HB6'.out.trans (below_of_only (B := w.heap.size) HG7.out HB6'.out.size (fun k hk => by cases hk; have := HGM.out; have := HB6'.out.size; have := HB5.out.size; have := HB3.out.size; omega))
      exact h1.trans (HB8.out.mono h1.size))
    have HSM := Lib.hid (sameA_any (w := w8) (HL7.out.up HB8.out) (HAB.out.up HW8.out) c7 c0 (by have := H37.out; omega) (fun y hy => (HI7.out y hy).len) (fun y hy => (HIN.out y hy).len))
    rw [show alikeL oneL M L = true from (alikeA_iff _ _).2 HME.out, HN.out] at HSM
    have HC8 := Lib.hid (HC7.out.below HB8.out)
    have hB37 : Below w3.heap.size w3 w7 := HB36.out.trans (below_of_only (B := w3.heap.size) HG7.out HB36.out.size (fun k hk => by cases hk; have := HGM.out; have := HB5.out.size; omega))
    have hB38 := hB37.trans (HB8.out.mono hB37.size)
    have HK3 := Lib.hid (own_below HO3.out hB38)
    rw [htn] at HK3
    have HK8 := HO8
    rw [htn] at HK8
    have HCV := Lib.hid (fun W (hW : Below w8.heap.size w8 W) => And.intro (conv_own (own_below HK8.out hW)) (conv_own (own_below HK3.out hW)))
    have hlf : leftOf (T ++ tl) tp 0 = len1 := by
      have h1 := HTP.out
      have h2 := HTL.out
      unfold leftOf
      rw [if_pos rfl]
      exact h1.trans h2
    have HLF := Lib.hid (fun W (hW : Below w8.heap.size w8 W) => left_cur (HC8.out.below hW))
    rw [hlf] at HLF
    obtain ⟨st, hst⟩ : ∃ s : ByteArray, s = ⟨T.toArray⟩ := ⟨_, rfl⟩
    rw [← hst] at HCV
    have q1 : (st.toList == st.toList) = true := by simp
    have q2 : ((len1 : Int) == (len1 : Int)) = true := by simp
    have q3 : decide ((len1 : Int) = (len1 : Int)) = true := by simp
    clear hst hlf hB37 hB38 HC8 HK3 HK8
    go_wp2_with (first
      | (go_at_call 19; refine HSM.out.mono ?_; rintro r w9 ⟨rfl, hb9⟩; have HB9 := Lib.hid hb9; clear hb9)
      | (go_at_call 32; refine (HLF.out _ HB9.out).mono ?_; rintro r w10 ⟨rfl, n10, rfl⟩; have HB10 := Lib.hid (below_drewN HB9.out n10); (obtain ⟨cv1, cv2⟩ := HCV.out _ HB10.out)))
    go_ret
    exact ⟨rfl, HW8.out.trans (HB10.out.mono HW8.out.size)⟩

end Go.Proofs.Yteadabmlleipiaa
