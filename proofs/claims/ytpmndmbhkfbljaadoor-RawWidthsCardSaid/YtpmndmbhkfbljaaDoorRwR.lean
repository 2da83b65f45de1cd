/-
  RawBack's walk.
-/
import Derived.Test.YtpmndmbhkfbljaaDoorRwM
import Derived.Test.YtpmndmbhkfbljaaDoorAbG
import Derived.Test.YtpmndmbhkfbljaaDoorCsA
import Derived.Test.YtpmndmbhkfbljaaDoorRwA
import Derived.Test.YtpmndmbhkfbljaaDoorRefU
import Derived.Test.YtpmndmbhkfbljaaDoorRwE
import Derived.Test.YtpmndmbhkfbljaaDoorCurN
import Derived.Test.YtpmndmbhkfbljaaDoorLawA
namespace Go.Proofs.YtpmndmbhkfbljaaDoor
open Go Go.RowKit

/-- A cursor that has not refused stands ahead of these bytes. -/
def Ahead (l : List UInt8) (s : CSt) (r : List UInt8) : Prop := s.2 = 0 ∧ l.drop s.1 = r
theorem ahead_u {l r : List UInt8} {s : CSt} {n : Nat} (hn : n < 2 ^ 64) (h : Ahead l s (lebPut (sizeU n) (n : Int) ++ r)) : tU l s = n ∧ Ahead l (sU l s) r := by
  obtain ⟨h0, h1⟩ := h
  have hs := sizeU_range n hn
  have hr := readU_put (sizeU n) n r hn (Nat.le_refl _) hs.2
  have hu : uOf (l.drop s.1) s.2 = (n, sizeU n, 0) := by unfold uOf; rw [if_pos h0, h1, hr]
  refine ⟨by unfold tU; rw [hu], by unfold sU; rw [hu], ?_⟩
  unfold sU
  rw [hu]
  show l.drop (s.1 + sizeU n) = r
  rw [← List.drop_drop, h1, List.drop_left' (lebPut_length _ _ hs.1)]
theorem ahead_s {l r : List UInt8} {s : CSt} {n : Int} (hn : InI n) (h : Ahead l s (lebPut (sizeS n) n ++ r)) : tS l s = n ∧ Ahead l (sS l s) r := by
  obtain ⟨h0, h1⟩ := h
  have hs := sizeS_range n hn
  have hr := readS_put (sizeS n) n r hn (Nat.le_refl _) hs.2
  have hu : sOf (l.drop s.1) s.2 = (n, sizeS n, 0) := by unfold sOf; rw [if_pos h0, h1, hr]
  refine ⟨by unfold tS; rw [hu], by unfold sS; rw [hu], ?_⟩
  unfold sS
  rw [hu]
  show l.drop (s.1 + sizeS n) = r
  rw [← List.drop_drop, h1, List.drop_left' (lebPut_length _ _ hs.1)]
end Go.Proofs.YtpmndmbhkfbljaaDoor

namespace Go.Proofs.YtpmndmbhkfbljaaDoor
open Go Go.RowKit

theorem ahead_got {l r q : List UInt8} {s : CSt} (h : Ahead l s (q ++ r)) : nextGot l s.1 s.2 q.length = q ∧ Ahead l (nextAt l s.1 s.2 q.length, nextErr l s.1 s.2 q.length) r := by
  obtain ⟨h0, h1⟩ := h
  have hl : q.length ≤ l.length - s.1 := by
    have := congrArg List.length h1
    simp at this
    omega
  refine ⟨?_, ?_, ?_⟩
  · unfold nextGot
    rw [if_pos ⟨h0, hl⟩, h1]
    simp
  · show nextErr l s.1 s.2 q.length = 0
    unfold nextErr
    rw [if_pos h0, if_pos hl]
  · show l.drop (nextAt l s.1 s.2 q.length) = r
    unfold nextAt
    rw [if_pos ⟨h0, hl⟩, ← List.drop_drop, h1]
    simp
theorem clamp_ways {z : Int} (hz : z = -1 ∨ z = 0 ∨ z = 1 ∨ z = 2 ∨ z = 3 ∨ z = 4 ∨ z = 8) (h : z ≠ -1) : clampOf z = z.toNat := by
  unfold clampOf
  omega
theorem ahead_num {l r : List UInt8} {s : CSt} {z : Int} {n : Nat} (hz : z = -1 ∨ z = 0 ∨ z = 1 ∨ z = 2 ∨ z = 3 ∨ z = 4 ∨ z = 8) (hh : holdsV z n = true) (hn : n < two64) (h : Ahead l s (numB z n ++ r)) : tN l z s = n ∧ Ahead l (sN l z s) r := by
  unfold numB at h
  unfold tN sN
  by_cases h1 : z = -1
  · rw [if_pos h1] at h
    rw [if_pos h1, if_pos h1]
    exact ahead_u (by unfold two64 at hn; omega) h
  · rw [if_neg h1] at h
    rw [if_neg h1, if_neg h1]
    have hc := clamp_ways hz h1
    have hl : (leBytes n (clampOf z)).length = clampOf z := leBytes_length _ _
    obtain ⟨g1, g2⟩ := ahead_got h
    rw [hl] at g1 g2
    refine ⟨?_, g2⟩
    rw [g1, leNat_leBytes, hc]
    unfold holdsV at hh
    rw [decide_eq_false h1, Bool.false_or, decide_eq_true_eq] at hh
    have hp : 0 < 256 ^ z.toNat := Nat.pow_pos (by decide)
    exact Nat.mod_eq_of_lt ((Nat.div_eq_zero_iff_lt hp).1 hh)
theorem widF30 (wide : Bool) : widF 30 wide = 0 := by cases wide <;> rfl
theorem widF25 (wide : Bool) : widF 25 wide = 0 := by cases wide <;> rfl
theorem numB_zero (n : Nat) : numB 0 n = [] := by
  unfold numB
  rw [if_neg (by decide)]
  rfl

theorem readW_put {l r : List UInt8} {s : CSt} {x : RV} {imp : Int} {wide : Bool} (hr : rightV x wide = true) (hu : x.u < two64) (hs : InI x.s) (himp : x.form = 33 → imp = x.s) (h : Ahead l s (putV x wide ++ r)) :
    (readW l x.form imp wide s).1 = x ∧ Ahead l (readW l x.form imp wide s).2 r := by
  obtain ⟨hk0, hb9, ht5⟩ := rightV_spec hr
  obtain ⟨n, hfn, hn⟩ := kindF_in hk0
  have hzw := widF_ways hn wide
  rw [← hfn] at hzw
  unfold rightV at hr
  simp only [Bool.and_eq_true, Bool.not_eq_true', decide_eq_false_iff_not] at hr
  obtain ⟨-, hsa, hf⟩ := hr
  rw [sameV_iff] at hsa
  unfold putV wholeV at h
  unfold fitsV at hf
  unfold readW
  unfold aloneV at hsa
  by_cases h5 : kindF x.form = 5
  · rw [if_pos h5] at hsa hf h
    rw [if_pos h5]
    obtain ⟨h0, h1⟩ := h
    have hrd := readT_put hf r
    have htx : takeT (l.drop s.1) s.2 = (x.t, x.t.length + 1, 0) := by rw [h0, takeT_zero, h1, hrd]
    unfold txtW
    rw [htx]
    refine ⟨hsa.symm, rfl, ?_⟩
    show l.drop (s.1 + (x.t.length + 1)) = r
    have hpl : (putT x.t).length = x.t.length + 1 := by rw [(rightT_spec hf).2.2]; simp
    rw [← List.drop_drop, h1, ← hpl]
    simp
  rw [if_neg h5] at hsa hf h
  rw [if_neg h5]
  by_cases h9 : kindF x.form = 9 ∨ kindF x.form = 10
  · rw [if_pos h9] at hsa hf h
    rw [if_pos h9]
    rw [List.append_assoc] at h
    unfold blkW
    by_cases h30 : x.form = 30
    · rw [if_pos h30, decide_eq_true_eq] at hf
      rw [h30, widF30, numB_zero, List.nil_append] at h
      have hlw : lenW l x.form wide s = (16, s) := by unfold lenW; rw [if_pos h30]
      rw [hlw]
      have hcw : capW 16 s = s := by unfold capW; rw [if_neg (by decide)]
      simp only [hcw]
      obtain ⟨g1, g2⟩ := ahead_got h
      rw [hf] at g1 g2
      refine ⟨?_, g2⟩
      show (⟨x.form, 0, 0, nextGot l s.1 s.2 16, []⟩ : RV) = x
      rw [g1]
      exact hsa.symm
    · rw [if_neg h30, Bool.and_eq_true, decide_eq_true_eq] at hf
      have h25 : x.form ≠ 25 := fun e => by rw [e] at h9; exact absurd h9 (by decide)
      have hlw : lenW l x.form wide s = (tN l (widF x.form wide) s, sN l (widF x.form wide) s) := by unfold lenW; rw [if_neg h30]; unfold numW; rw [if_neg h25]
      rw [hlw]
      obtain ⟨g1, g2⟩ := ahead_num hzw hf.2 (by have := hf.1; unfold two64; omega) h
      rw [g1]
      have hcw : capW x.b.length (sN l (widF x.form wide) s) = sN l (widF x.form wide) s := by unfold capW; rw [if_neg (by omega)]
      simp only [hcw]
      obtain ⟨g3, g4⟩ := ahead_got g2
      refine ⟨?_, g4⟩
      show (⟨x.form, 0, 0, nextGot l (sN l (widF x.form wide) s).1 (sN l (widF x.form wide) s).2 x.b.length, []⟩ : RV) = x
      rw [g3]
      exact hsa.symm
  rw [if_neg h9] at hsa hf h
  rw [if_neg h9]
  by_cases h3 : kindF x.form = 3
  · rw [if_pos h3] at hsa h
    rw [if_pos h3]
    unfold sgnW
    by_cases h33 : x.form = 33
    · rw [if_pos h33] at h
      rw [if_pos h33, himp h33]
      exact ⟨hsa.symm, h⟩
    · rw [if_neg h33] at h
      rw [if_neg h33]
      obtain ⟨g1, g2⟩ := ahead_s hs h
      refine ⟨?_, g2⟩
      show (⟨x.form, 0, tS l s, [], []⟩ : RV) = x
      rw [g1]
      exact hsa.symm
  rw [if_neg h3] at hsa hf h
  rw [if_neg h3]
  unfold numW
  by_cases h25 : x.form = 25
  · rw [if_pos h25, decide_eq_true_eq] at hf
    rw [h25, widF25, numB_zero] at h
    rw [if_pos h25]
    refine ⟨?_, h⟩
    show (⟨x.form, 1, 0, [], []⟩ : RV) = x
    rw [← hf]
    exact hsa.symm
  · rw [if_neg h25] at hf
    rw [if_neg h25]
    obtain ⟨g1, g2⟩ := ahead_num hzw hf hu h
    refine ⟨?_, g2⟩
    show (⟨x.form, tN l (widF x.form wide) s, 0, [], []⟩ : RV) = x
    rw [g1]
    exact hsa.symm

theorem takeW_put {l r : List UInt8} {s : CSt} {x : RV} {wide : Bool} (hr : rightV x wide = true) (hu : x.u < two64) (hs : InI x.s) (h : Ahead l s (putV x wide ++ r)) :
    (takeW l x.form x.s wide s).1 = x ∧ Ahead l (takeW l x.form x.s wide s).2 r := by
  obtain ⟨hk0, -, -⟩ := rightV_spec hr
  have hf : formW l x.form s = (x.form, s) := by
    unfold formW
    rw [if_neg (fun e => hk0 (by rw [e]; rfl))]
  obtain ⟨g1, g2⟩ := readW_put (imp := x.s) hr hu hs (fun _ => rfl) h
  unfold takeW
  rw [hf, if_neg hk0, if_pos g2.1]
  exact ⟨g1, g2⟩
/-- What is taken of what was put: the value, and behind it the tail. -/
def TakenV (W : World) (x : RV) (g : Nat) (v : Value) (l tl : List UInt8) (r : Ending) (w' : World) : Prop :=
  ∃ A c a, r = .returned (.agg #[.int .i64 x.form, .int .u64 (x.u : Int), .int .i64 x.s, .slice A x.b.length c, .string ⟨x.t.toArray⟩]) ∧ Own w' W.heap.size (.slice A x.b.length c) x.b ∧ CT w' g v l (a, 0) ∧ leftOf l a 0 = tl.length ∧ W.grownBy w' (some g)
theorem wtake_back {W : World} {g : Nat} {v : Value} {x : RV} {wide : Bool} {tl : List UInt8} (hC : CT W g v (putV x wide ++ tl) (0, 0)) (hl : (putV x wide ++ tl).length ≤ 140737488355328) (hr : rightV x wide = true) (hu : x.u < two64) (hs : InI x.s) :
    Calls Tryd.prog 9 #[.pointer (some ⟨g, 0, none⟩), .agg #[.int .i64 0, .int .i64 x.form, .int .i64 x.s], .bool wide] W fun r w' => TakenV W x g v (putV x wide ++ tl) tl r w' :=
  (takeW_st hC hl 0 x.form x.s wide).mono fun r w' ⟨h1, h2, h3⟩ => by
    obtain ⟨g1, g2, g3⟩ := takeW_put (l := putV x wide ++ tl) (s := (0, 0)) hr hu hs ⟨rfl, rfl⟩
    rw [g1] at h1
    obtain ⟨A, c, e, ho⟩ := h1
    generalize takeW (putV x wide ++ tl) x.form x.s wide (0, 0) = q at *
    obtain ⟨q1, qa, qe⟩ := q
    dsimp only at g2 g3 h2
    subst g2
    refine ⟨A, c, qa, e, ho, h2, ?_, h3⟩
    have := congrArg List.length g3
    rw [List.length_drop] at this
    unfold leftOf
    rw [if_pos rfl]
    exact this
end Go.Proofs.YtpmndmbhkfbljaaDoor

namespace Go.Proofs.YtpmndmbhkfbljaaDoor
open Go Go.RowKit

/-! ### Of nobody -/
set_option maxRecDepth 10000 in
theorem number_nil {w : World} (hF : Ft w) (hS : Sz w) :
    Calls Tryd.prog 26 #[.agg #[.pointer none, .int .i64 0, .int .i64 1, .int .i64 0, .bool true]] w fun r w' => r = .returned (.int .u64 0) ∧ Below w.heap.size w w' := by
  have HA := Lib.hid ((Below.refl w.heap.size w).alloc (Nat.le_refl _) (.cells #[.pointer none, .int .i64 0, .int .i64 1, .int .i64 0, .bool true] 56))
  have HW := Lib.hid (fun W (hW : Below w.heap.size w W) => (show Calls Tryd.prog 37 #[.int .i64 1, .bool true] W fun r w' => r = .returned (.int .i64 8) ∧ W = w' from width_any (n := 1) (hF.up hW) (hS.below hW hS.pos) (by decide) true))
  have HN := Lib.hid (fun W => uint_nob (p := none) (w := W) (.inl rfl) 8 (by decide))
  clear hF hS
  go_enter Tryd.func26, Tryd.ntmps26
  go_wp2_with (first
    | (go_at_call 37; refine (HW.out _ HA.out).mono ?_; rintro r w1 ⟨rfl, rfl⟩)
    | (go_at_call 50; refine (HN.out _).mono ?_; rintro r w2 ⟨rfl, rfl⟩))
  go_ret
  exact ⟨rfl, HA.out⟩
set_option maxRecDepth 10000 in
set_option maxHeartbeats 1600000 in
theorem value_nil {w : World} (hF : Ft w) (hS : Sz w) :
    Calls Tryd.prog 25 #[.int .i64 1, .func (.func 26) #[.agg #[.pointer none, .int .i64 0, .int .i64 1, .int .i64 0, .bool true]] #[], .func (.func 27) #[.agg #[.pointer none, .int .i64 0, .int .i64 1, .int .i64 0, .bool true]] #[], .func (.func 28) #[.agg #[.pointer none, .int .i64 0, .int .i64 1, .int .i64 0, .bool true]] #[], .func (.func 29) #[.agg #[.pointer none, .int .i64 0, .int .i64 1, .int .i64 0, .bool true]] #[]] w fun r w' =>
      r = .returned (.agg #[.int .i64 1, .int .u64 0, .int .i64 0, .slice none 0 0, .string ⟨#[]⟩]) ∧ Below w.heap.size w w' := by
  have HK := Lib.hid (fun W (hW : Below w.heap.size w W) => (show Calls Tryd.prog 14 #[.int .i64 1] W fun r w' => r = .returned (.int .i64 1) ∧ W = w' from kind_any (hF.up hW) 1))
  have HNU := Lib.hid (fun W (hW : Below w.heap.size w W) => number_nil (hF.up hW) (hS.below hW hS.pos))
  clear hF hS
  go_enter Tryd.func25, Tryd.ntmps25
  go_upto_region 2 with fail
  generalize hw0 : w.alloc (.cells #[.int .i64 0, .int .u64 0, .int .i64 0, .slice none 0 0, .string ⟨#[]⟩] 33) = w0
  have hs0 : w0.heap.size = w.heap.size + 1 := by rw [← hw0]; simp
  generalize hw1 : w0.alloc (.cells #[.int .i64 1, .int .u64 0, .int .i64 0, .slice none 0 0, .string ⟨#[]⟩] 33) = w1
  have hX0 := Box.new w 33 #[.int .i64 0, .int .u64 0, .int .i64 0, .slice none 0 0, .string ⟨#[]⟩]
  rw [hw0] at hX0
  have hX1 := Box.new w0 33 #[.int .i64 1, .int .u64 0, .int .i64 0, .slice none 0 0, .string ⟨#[]⟩]
  rw [hw1, hs0] at hX1
  have hb0 : Below w.heap.size w w0 := hw0 ▸ (Below.refl _ _).alloc (Nat.le_refl _) _
  have hb1 : Below w0.heap.size w0 w1 := hw1 ▸ (Below.refl _ _).alloc (Nat.le_refl _) _
  have HV := Lib.hid (show HSt w w1 w.heap.size (w.heap.size + 1) #[.int .i64 1, .int .u64 0, .int .i64 0, .slice none 0 0, .string ⟨#[]⟩] from ⟨hX1, hX0.below hb1 hX0.lt, hb0.trans (hb1.mono hb0.size), Nat.le_refl _, Nat.le_succ _, by omega⟩)
  clear hw0 hs0 hw1 hX0 hX1 hb0 hb1
  generalize hH1 : w.heap.size + 1 = H1 at *
  generalize hH0 : w.heap.size = H0 at HV ⊢
  clear hH1 hH0
  go_wp2_with (first
    | (go_at_call 14; refine (HK.out _ HV.out.b).mono ?_; rintro r w2 ⟨rfl, rfl⟩)
    | (go_at_call 26; refine (HNU.out _ HV.out.b).mono ?_; rintro r w2 ⟨rfl, hb2⟩; have HV2 := Lib.hid (HV.out.later hb2); have HV3 := Lib.hid (HV2.out.set 1 (.int .u64 0)); (obtain ⟨p0, p1, p2, p3, p4⟩ := five_cellsR HV2.out.x); (obtain ⟨e0, e1, e2, e3, e4⟩ := five_freeR HV2.out.x); (obtain ⟨z0, z1, z2, z3, z4⟩ := five_cellsR HV2.out.r); (obtain ⟨f0, f1, f2, f3, f4⟩ := five_freeR HV2.out.r); have hne01 := HV2.out.ne; have hne10 := HV2.out.ne.symm; clear hb2))
  refine ret_one Tryd.underlying33 Tryd.results25 (HV3.out.told _ _ _ _ _).1 (by kernel_rfl) (by rfl) rfl ?_
  obtain ⟨-, t2⟩ := HV3.out.told (.int .i64 1) (.int .u64 0) (.int .i64 0) (.slice none 0 0) (.string ⟨#[]⟩)
  exact ⟨rfl, t2⟩
set_option maxRecDepth 10000 in
set_option maxHeartbeats 1600000 in
theorem takeW_nil {w : World} (hF : Ft w) (hS : Sz w) :
    Calls Tryd.prog 9 #[.pointer none, .agg #[.int .i64 0, .int .i64 1, .int .i64 0], .bool true] w fun r w' => r = .returned (.agg #[.int .i64 0, .int .u64 0, .int .i64 0, .slice none 0 0, .string ⟨#[]⟩]) ∧ Below w.heap.size w w' := by
  have hmf : ∀ (fn : Fn) (first cap : Array Value) (W : World), (Instr.makeFunc fn first cap).run Tryd.prog W = .ok (.func fn first cap) W := fun _ _ _ _ => rfl
  have HK := Lib.hid (fun W (hW : Below w.heap.size w W) => (show Calls Tryd.prog 14 #[.int .i64 1] W fun r w' => r = .returned (.int .i64 1) ∧ W = w' from kind_any (hF.up hW) 1))
  have HVA := Lib.hid (fun W (hW : Below w.heap.size w W) => value_nil (hF.up hW) (hS.below hW hS.pos))
  have HER := Lib.hid (fun W => err_nob (p := none) (w := W) (.inl rfl))
  clear hF hS
  go_enter Tryd.func9, Tryd.ntmps9
  go_upto_region 1 with fail
  generalize hw0 : w.alloc (.cells #[.int .i64 0, .int .i64 1, .int .i64 0] 24) = w0
  have hs0 : w0.heap.size = w.heap.size + 1 := by rw [← hw0]; simp
  generalize hw1 : w0.alloc (.cells #[.int .i64 0, .int .u64 0, .int .i64 0, .slice none 0 0, .string ⟨#[]⟩] 33) = w1
  have hX0 := Box.new w 24 #[.int .i64 0, .int .i64 1, .int .i64 0]
  rw [hw0] at hX0
  have hX1 := Box.new w0 33 #[.int .i64 0, .int .u64 0, .int .i64 0, .slice none 0 0, .string ⟨#[]⟩]
  rw [hw1, hs0] at hX1
  have hb0 : Below w.heap.size w w0 := hw0 ▸ (Below.refl _ _).alloc (Nat.le_refl _) _
  have hb1 : Below w0.heap.size w0 w1 := hw1 ▸ (Below.refl _ _).alloc (Nat.le_refl _) _
  have HB1 := Lib.hid (hb0.trans (hb1.mono hb0.size))
  have HX0 := Lib.hid (hX0.below hb1 hX0.lt)
  have HX1 := Lib.hid hX1
  have HSR := Lib.hid (show w.heap.size ≤ w.heap.size + 1 from Nat.le_succ _)
  clear hw0 hs0 hw1 hX0 hX1 hb0 hb1
  obtain ⟨p0, p1, p2⟩ := three_cellsR HX0.out
  generalize w.heap.size + 1 = Hr at *
  go_upto_region 7 with (go_at_call 14; refine (HK.out _ HB1.out).mono ?_; rintro r w2 ⟨rfl, rfl⟩)
  have hX4 := Box.new w1 56 #[.pointer none, .int .i64 0, .int .i64 1, .int .i64 0, .bool true]
  have hb4 : Below w1.heap.size w1 (w1.alloc (.cells #[.pointer none, .int .i64 0, .int .i64 1, .int .i64 0, .bool true] 56)) := (Below.refl _ _).alloc (Nat.le_refl _) _
  generalize hw4 : w1.alloc (.cells #[.pointer none, .int .i64 0, .int .i64 1, .int .i64 0, .bool true] 56) = w4 at *
  have HB4 := Lib.hid (HB1.out.trans (hb4.mono HB1.out.size))
  have HX04 := Lib.hid (HX0.out.below hb4 HX0.out.lt)
  have HX14 := Lib.hid (HX1.out.below hb4 HX1.out.lt)
  clear hw4 hb4 p0 p1 p2
  obtain ⟨p0, p1, p2⟩ := three_cellsR HX04.out
  obtain ⟨x0, x1, x2, x3, x4⟩ := five_cellsR hX4
  clear hX4
  generalize w1.heap.size = Hd at *
  go_upto_region 8 with (go_at_call 25; refine (HVA.out _ HB4.out).mono ?_; rintro r w5 ⟨rfl, hb5⟩; have HB5 := Lib.hid (HB4.out.trans (hb5.mono HB4.out.size)); have HX5 := Lib.hid (HX14.out.below hb5 HX14.out.lt); clear hb5)
  have hb6 : Below w5.heap.size w5 (w5.alloc (.cells #[.int .i64 1, .int .u64 0, .int .i64 0, .slice none 0 0, .string ⟨#[]⟩] 33)) := (Below.refl _ _).alloc (Nat.le_refl _) _
  generalize hw6 : w5.alloc (.cells #[.int .i64 1, .int .u64 0, .int .i64 0, .slice none 0 0, .string ⟨#[]⟩] 33) = w6 at *
  have HB6 := Lib.hid (HB5.out.trans (hb6.mono HB5.out.size))
  have HX6 := Lib.hid (HX5.out.below hb6 HX5.out.lt)
  clear hw6 hb6
  obtain ⟨z0, z1, z2, z3, z4⟩ := five_cellsR HX6.out
  obtain ⟨f0, f1, f2, f3, f4⟩ := five_freeR HX6.out
  generalize w5.heap.size = Hx at *
  go_wp2_with (go_at_call 12; refine (HER.out _).mono ?_; rintro r w7 ⟨rfl, rfl⟩)
  refine ret_one Tryd.underlying33 Tryd.results9 (five_boxR HX6.out rfl _ _ _ _ _) (by kernel_rfl) (by rfl) rfl ?_
  exact ⟨rfl, ((((HB6.out.setCell HSR.out _).setCell HSR.out _).setCell HSR.out _).setCell HSR.out _).setCell HSR.out _⟩

/-! ### The examples -/
theorem ex15_right : rightV ⟨15, 624485, 0, [], []⟩ false = true := by decide
theorem ex15_put : putV ⟨15, 624485, 0, [], []⟩ false = [229, 142, 38] := by decide
theorem ex10_right : rightV ⟨10, 0, 0, [1, 2], []⟩ true = true := by decide
theorem ex10_put : putV ⟨10, 0, 0, [1, 2], []⟩ true = [2, 1, 2] := by decide
theorem ex10_take : takeW [2, 1, 2] 10 0 false (0, 0) = (⟨10, 0, 0, [1, 2], []⟩, (3, 0)) := by rfl

end Go.Proofs.YtpmndmbhkfbljaaDoor

namespace Go.Proofs.YtpmndmbhkfbljaaDoor
open Go Go.RowKit

theorem inI_zero : InI 0 := ⟨by omega, by omega⟩

set_option maxRecDepth 10000 in
set_option maxHeartbeats 3200000 in
theorem works14_any {w : World} (hF : Ft w) (hS : Sz w) : Calls Tryd.prog 7 #[] w fun r w' => r = .returned (.bool true) ∧ Below w.heap.size w w' := by
  have P1 := Lib.hid (show Calls Tryd.prog 16 #[.slice none 0 0, .agg #[.int .i64 15, .int .u64 624485, .int .i64 0, .slice none 0 0, .string ⟨#[]⟩], .bool false] w fun r w' => ∃ A c, r = .returned (.tuple #[.slice A 3 c, .int .i64 0]) ∧ Own w' w.heap.size (.slice A 3 c) [229, 142, 38] ∧ Below w.heap.size w w' from
    (putW_any (own_nil0 w) (Nat.le_refl _) hF hS ⟨⟨15, 624485, 0, [], []⟩, none, 0⟩ (fun h => absurd h (by decide)) (by decide) inI_zero (by decide) false (by decide)).mono fun r w' ⟨v', e, h, _⟩ => by
      have hL := h ex15_right
      rw [ex15_put, List.nil_append] at hL
      have hl := hL.1
      obtain ⟨A, c, rfl, -, -, -⟩ := own_slice hl
      exact ⟨A, c, e, hl, laid_nilR hL (Nat.le_refl _)⟩)
  have HF := Lib.hid hF
  have HS := Lib.hid hS
  have P2 := Lib.hid (fun W (hW : Below w.heap.size w W) (hh0 : Nat) (_ : hh0 < W.heap.size) (hr : Rd W W.heap.size (some ⟨hh0, 0, none⟩) [1, 2]) => (show Calls Tryd.prog 16 #[.slice none 0 0, .agg #[.int .i64 10, .int .u64 0, .int .i64 0, .slice (some ⟨hh0, 0, none⟩) 2 2, .string ⟨#[]⟩], .bool true] W fun r w' => ∃ A c, r = .returned (.tuple #[.slice A 3 c, .int .i64 0]) ∧ Own w' W.heap.size (.slice A 3 c) [2, 1, 2] ∧ Below W.heap.size W w' from
    (putW_any (own_nil0 W) (Nat.le_refl _) (hF.up hW) (hS.below hW hS.pos) ⟨⟨10, 0, 0, [1, 2], []⟩, some ⟨hh0, 0, none⟩, 2⟩ hr (show 0 < two64 by decide) inI_zero (show 2 ≤ 9223372036854775807 by decide) true (by decide)).mono fun r w' ⟨v', e, h, _⟩ => by
      have hL := h ex10_right
      rw [ex10_put, List.nil_append] at hL
      rw [show putWE (WLay.x ⟨⟨10, 0, 0, [1, 2], []⟩, some ⟨hh0, 0, none⟩, 2⟩) true = 0 from if_pos ex10_right] at e
      have hl := hL.1
      obtain ⟨A, c, rfl, -, -, -⟩ := own_slice hl
      exact ⟨A, c, e, hl, laid_nilR hL (Nat.le_refl _)⟩))
  have TK := Lib.hid (fun W g v (hC : CT W g v [2, 1, 2] (0, 0)) => (show Calls Tryd.prog 9 #[.pointer (some ⟨g, 0, none⟩), .agg #[.int .i64 0, .int .i64 10, .int .i64 0], .bool false] W fun r w' => ∃ A c, r = .returned (.agg #[.int .i64 10, .int .u64 0, .int .i64 0, .slice A 2 c, .string ⟨#[]⟩]) ∧ Own w' W.heap.size (.slice A 2 c) [1, 2] ∧ W.grownBy w' (some g) from
    (takeW_st hC (by decide) 0 10 0 false).mono fun r w' ⟨h1, h2, h3⟩ => by
      rw [ex10_take] at h1
      obtain ⟨A, c, e, ho⟩ := h1
      exact ⟨A, c, e, ho, h3⟩))
  have TN := Lib.hid (fun W (hW : Below w.heap.size w W) => takeW_nil (hF.up hW) (hS.below hW hS.pos))
  have KD := Lib.hid (fun W (hW : Below w.heap.size w W) => (show Calls Tryd.prog 14 #[.int .i64 24] W fun r w' => r = .returned (.int .i64 10) ∧ W = w' from kind_any (hF.up hW) 24))
  obtain ⟨s1, hs1⟩ : ∃ s : ByteArray, s = ⟨([229, 142, 38] : List UInt8).toArray⟩ := ⟨_, rfl⟩
  obtain ⟨s2, hs2⟩ : ∃ s : ByteArray, s = ⟨([2, 1, 2] : List UInt8).toArray⟩ := ⟨_, rfl⟩
  obtain ⟨s3, hs3⟩ : ∃ s : ByteArray, s = ⟨([1, 2] : List UInt8).toArray⟩ := ⟨_, rfl⟩
  have E1 := Lib.hid hs1
  have E2 := Lib.hid hs2
  have E3 := Lib.hid hs3
  have q1 : (s1.toList == [229, 142, 38]) = true := by rw [hs1, Lib.toList_data]; rfl
  have q2 : (s2.toList == [2, 1, 2]) = true := by rw [hs2, Lib.toList_data]; rfl
  have q3 : (s3.toList == [1, 2]) = true := by rw [hs3, Lib.toList_data]; rfl
  clear hF hS hs1 hs2 hs3
  go_enter Tryd.func7, Tryd.ntmps7
  go_upto_region 2 with (go_at_call 16; refine P1.out.mono ?_; rintro r w1 ⟨A1, c1, rfl, hO1, hb1⟩; have HO1 := Lib.hid hO1; have HB1 := Lib.hid hb1; clear hO1 hb1)
  have hb2 : Below w1.heap.size w1 (w1.alloc (.cells #[.int .u8 1, .int .u8 2] 5)) := (Below.refl _ _).alloc (Nat.le_refl _) _
  have HR2 := Lib.hid (show Rd (w1.alloc (.cells #[.int .u8 1, .int .u8 2] 5)) (w1.heap.size + 1) (some ⟨w1.heap.size, 0, none⟩) ([1, 2] : List UInt8) from rd_lit w1 [1, 2])
  have HZ2 := Lib.hid (show (w1.alloc (.cells #[.int .u8 1, .int .u8 2] 5)).heap.size = w1.heap.size + 1 by simp)
  have HB2 := Lib.hid (HB1.out.trans (hb2.mono HB1.out.size))
  have HO1' := Lib.hid (own_below HO1.out hb2)
  clear hb2
  go_upto_region 3 with (go_at_call 16; refine (P2.out _ HB2.out _ (by rw [HZ2.out]; omega) (by rw [HZ2.out]; exact HR2.out)).mono ?_; rintro r w3 ⟨A3, c3, rfl, hO3, hb3⟩; have HO3 := Lib.hid hO3; have HB3 := Lib.hid (HB2.out.trans (hb3.mono HB2.out.size)); have HO13 := Lib.hid (own_below HO1'.out hb3); clear hO3 hb3)
  have HN := Lib.hid (by
    obtain ⟨A, c, e, h1, -, h2⟩ := own_slice HO3.out
    have h3 := new_any (w := w3) c3 (A := A3) (l := [2, 1, 2]) (by injection e with e1; rw [e1]; exact h2) (Nat.le_refl _) (by decide)
    exact h3 : Calls Tryd.prog 8 #[.slice A3 3 c3] w3 fun r w' => ∃ g v, r = .returned (.pointer (some ⟨g, 0, none⟩)) ∧ Made w3.heap.size w' g v [2, 1, 2] 0 ∧ Below w3.heap.size w3 w')
  go_upto_region 4 with (first
    | (go_at_call 8; refine HN.out.mono ?_; rintro r w4 ⟨g, v, rfl, hM, hb4⟩; have HB4 := Lib.hid (HB3.out.trans (hb4.mono HB3.out.size)); have HC4 := Lib.hid (show CT w4 g v [2, 1, 2] (0, 0) from ⟨hM.1, HF.out.up HB4.out, HS.out.below HB4.out HS.out.pos⟩); have HO14 := Lib.hid (own_below HO13.out hb4); have HO34 := Lib.hid (own_below HO3.out hb4); have HGM := Lib.hid hM.2.1; have HS34 := Lib.hid hb4.size; clear hM hb4)
    | (go_at_call 9; refine (TK.out _ _ _ HC4.out).mono ?_; rintro r w5 ⟨A5, c5, rfl, hO5, hG5⟩; have hb5 : Below w3.heap.size w4 w5 := below_of_only hG5 HS34.out (fun x hx => by cases hx; exact HGM.out); have HB5 := Lib.hid (HB4.out.trans (hb5.mono HB3.out.size)); have HO5 := Lib.hid hO5; have HO15 := Lib.hid (own_pastR HO14.out HC4.out.c.1 (by decide) hG5); have HO35 := Lib.hid (own_pastR HO34.out HC4.out.c.1 (by decide) hG5); clear hO5 hG5 hb5))
  have hX6 := Box.new w5 33 #[.int .i64 10, .int .u64 0, .int .i64 0, .slice A5 2 c5, .string ⟨#[]⟩]
  have hb6 : Below w5.heap.size w5 (w5.alloc (.cells #[.int .i64 10, .int .u64 0, .int .i64 0, .slice A5 2 c5, .string ⟨#[]⟩] 33)) := (Below.refl _ _).alloc (Nat.le_refl _) _
  generalize hw6 : w5.alloc (.cells #[.int .i64 10, .int .u64 0, .int .i64 0, .slice A5 2 c5, .string ⟨#[]⟩] 33) = w6 at *
  have HB6 := Lib.hid (HB5.out.trans (hb6.mono HB5.out.size))
  have cv1 := conv_as E1.out (conv_own (own_below HO15.out hb6))
  have cv2 := conv_as E2.out (conv_own (own_below HO35.out hb6))
  have cv3 := conv_as E3.out (conv_own (own_below HO5.out hb6))
  clear hw6 hb6
  obtain ⟨x0, x1, x2, x3, x4⟩ := five_cellsR hX6
  generalize w5.heap.size = Hx at *
  have hfd : ∀ W : World, (Instr.field 33 (.agg #[.int .i64 0, .int .u64 0, .int .i64 0, .slice none 0 0, .string ⟨#[]⟩]) 0).run Tryd.prog W = .ok (.int .i64 0) W := fun W => by rfl
  go_wp2_with (first
    | (go_at_call 14; refine (KD.out _ HB6.out).mono ?_; rintro r w7 ⟨rfl, rfl⟩)
    | (go_at_call 9; refine (TN.out _ HB6.out).mono ?_; rintro r w8 ⟨rfl, hb8⟩; have HB8 := Lib.hid (HB6.out.trans (hb8.mono HB6.out.size)); clear hb8))
  go_ret
  exact ⟨rfl, HB8.out⟩

end Go.Proofs.YtpmndmbhkfbljaaDoor

namespace Go.Proofs.YtpmndmbhkfbljaaDoor
open Go Go.RowKit

/-- What came in as a value: its bytes lie, its numbers are numbers. -/
structure WLay.In (w : World) (y : WLay) : Prop where
  rd : Rd w w.heap.size y.a y.x.b
  u : y.x.u < two64
  s : InI y.x.s
  b : y.x.b.length ≤ 9223372036854775807
theorem WLay.In.up {w w' : World} {y : WLay} (h : y.In w) (hb : Below w.heap.size w w') : y.In w' := ⟨(h.rd.below hb).more hb.size, h.u, h.s, h.b⟩

end Go.Proofs.YtpmndmbhkfbljaaDoor
