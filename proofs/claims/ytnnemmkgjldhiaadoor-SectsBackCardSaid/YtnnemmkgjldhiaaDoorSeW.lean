/-
  Package sects: Take.
-/

import Derived.Test.YtnnemmkgjldhiaaDoorSeV
import Derived.Test.YtnnemmkgjldhiaaDoorEhL
namespace Go.Proofs.YtnnemmkgjldhiaaDoor
open Go Go.RowKit

def offT (l : List UInt8) : Nat := numT (l.take 64) 40 8
def cntT (l : List UInt8) : Nat := numT (l.take 64) 60 2
def shsT (l : List UInt8) : Nat := numT (l.take 64) 62 2
/-- Why there are no sections. -/
def secE (l : List UInt8) : Int :=
  if 1048576 < l.length then 3 else if takeE l ≠ 0 then takeE l else if errUp l (offT l) (cntT l) ≠ 0 then errUp l (offT l) (cntT l) else tellE l (offT l) (cntT l) (shsT l)
/-- The header, and the sections. -/
def secH (l : List UInt8) : Value := if secE l = 0 then takeH l else hdV 0 0 0 0 0
def secL (l : List UInt8) : List Sect := if secE l = 0 then secsT l (offT l) (cntT l) (shsT l) else []

theorem take_facts {l : List UInt8} (h : takeE l = 0) : 1 ≤ cntT l ∧ cntT l ≤ 64 ∧ 1 ≤ shsT l ∧ shsT l < cntT l ∧ offT l + cntT l * 64 ≤ l.length ∧
    (numT (l.take 64) 16 2 = 1 ∨ numT (l.take 64) 16 2 = 2) ∧ (numT (l.take 64) 18 2 = 62 ∨ numT (l.take 64) 18 2 = 183) ∧ takeH l = hdV (numT (l.take 64) 16 2 : Int) (numT (l.take 64) 18 2 : Int) (offT l) (cntT l : Int) (shsT l : Int) := by
  have hH : takeH l = hdV (numT (l.take 64) 16 2 : Int) (numT (l.take 64) 18 2 : Int) (offT l) (cntT l : Int) (shsT l : Int) := by unfold takeH; rw [if_pos h]; rfl
  unfold takeE at h
  split at h
  · split at h
    · rename_i h2
      rw [Bool.and_eq_true] at h2
      have h3 := h2.2
      unfold rightOf at h3
      simp only [Bool.and_eq_true, decide_eq_true_eq] at h3
      have : (offT l : Int) = (numT (l.take 64) 40 8 : Int) := rfl
      obtain ⟨⟨⟨⟨g1, g2⟩, g3⟩, g4⟩, g5⟩ := h3
      refine ⟨?_, ?_, ?_, ?_, ?_, ?_, ?_, hH⟩ <;> unfold cntT at * <;> unfold shsT at * <;> unfold offT at * <;> omega
    · cases h
  · cases h
theorem secE_tell {l : List UInt8} (h1 : ¬ 1048576 < l.length) (h2 : takeE l = 0) (h3 : errUp l (offT l) (cntT l) = 0) : secE l = tellE l (offT l) (cntT l) (shsT l) := by
  unfold secE
  rw [if_neg h1, if_neg (by simp [h2]), if_neg (by simp [h3])]
theorem sec_bad {l : List UInt8} {e : Int} (h : secE l = e) (he : e ≠ 0) : secH l = hdV 0 0 0 0 0 ∧ secL l = [] := by
  unfold secH secL
  rw [if_neg (by rw [h]; exact he), if_neg (by rw [h]; exact he)]
  exact ⟨rfl, rfl⟩
theorem told_nil (w : World) (base : Nat) : Told w base (.slice none 0 0) [] := ⟨[], rfl, World.ownsRow_nil _ _ _ _, by simp⟩

def STake (l : List UInt8) (w : World) (r : Ending) (w' : World) : Prop := ∃ u, r = .returned (.tuple #[secH l, u, .int .i64 (secE l)]) ∧ Told w' w.heap.size u (secL l) ∧ Below w.heap.size w w'

set_option maxRecDepth 10000 in
set_option maxHeartbeats 3200000 in
theorem stake_any {w : World} {A : Option Addr} {l : List UInt8} (hr : Rd w w.heap.size A l) (c : Nat) (hlc : l.length ≤ c) (hl : l.length ≤ 140737488355328) (hM : Mg w) :
    Calls Tryd.prog 7 #[.slice A l.length c] w (STake l w) := by
  have HXR := Lib.hid (Box.new w 26 #[.int .i64 0, .int .i64 0, .int .u64 0, .int .i64 0, .int .i64 0])
  have hb0 : Below w.heap.size w (w.alloc (.cells #[.int .i64 0, .int .i64 0, .int .u64 0, .int .i64 0, .int .i64 0] 26)) := (Below.refl _ _).alloc (Nat.le_refl _) _
  by_cases hbig : 1048576 < l.length
  · have hE : secE l = 3 := by unfold secE; rw [if_pos hbig]
    obtain ⟨hH, hL⟩ := sec_bad hE (by decide)
    have HF := Lib.hid (And.intro hE (And.intro hH hL))
    have hd : decide ((1048576 : Int) < (l.length : Int)) = true := decide_eq_true (by omega)
    have HB0 := Lib.hid hb0
    clear hbig hE hH hL hr hb0
    unfold STake
    generalize secE l = se at *
    generalize secH l = sh at *
    generalize secL l = sl at *
    generalize l.length = n at *
    go_enter Tryd.func7, Tryd.ntmps7
    go_wp2_with fail
    refine ret_three Tryd.underlying26 Tryd.results7 HXR.out (by kernel_rfl) (by rfl) rfl ?_
    exact ⟨_, by rw [HF.out.1, HF.out.2.1]; rfl, by rw [HF.out.2.2]; exact told_nil _ _, HB0.out⟩
  · have hd : decide ((1048576 : Int) < (l.length : Int)) = false := decide_eq_false (by omega)
    have HTK := Lib.hid (take_any (hr.below hb0) hb0.size c hlc (hM.alloc _) hl)
    have HB0 := Lib.hid hb0
    by_cases hte : takeE l = 0
    · obtain ⟨hn1, hn, hs1, hsn, hin, _, _, hH⟩ := take_facts hte
      unfold TakeIs at HTK
      have hE1 : secE l = if errUp l (offT l) (cntT l) ≠ 0 then errUp l (offT l) (cntT l) else tellE l (offT l) (cntT l) (shsT l) := by unfold secE; rw [if_neg hbig, if_neg (by simp [hte])]
      have HRD := Lib.hid (fun W (hW : Below w.heap.size w W) => read_any ((hr.below hW).more hW.size) c hlc hl (numT (l.take 64) 16 2 : Int) (numT (l.take 64) 18 2 : Int) (shsT l : Int) (offT l) (cntT l) hn1 hn hin)
      have HTL := Lib.hid (fun W (hW : Below w.heap.size w W) (be : Nat) (v : Value) (hE : OwnE W be v (entsT l (offT l) (cntT l))) (h0 : errUp l (offT l) (cntT l) = 0) => tell_any ((hr.below hW).more hW.size) c hlc hl (numT (l.take 64) 16 2 : Int) (numT (l.take 64) 18 2 : Int) (offT l) (cntT l) (shsT l) hn hsn hin hE h0)
      rw [hH, hte] at HTK
      have HSH := Lib.hid (show secE l = 0 → secH l = hdV (numT (l.take 64) 16 2 : Int) (numT (l.take 64) 18 2 : Int) (offT l) (cntT l : Int) (shsT l : Int) from fun h => by unfold secH; rw [if_pos h, hH])
      have HSL := Lib.hid (show secE l = 0 → secL l = secsT l (offT l) (cntT l) (shsT l) from fun h => by unfold secL; rw [if_pos h])
      have HBAD := Lib.hid (fun e (h : secE l = e) (he : e ≠ 0) => sec_bad h he)
      have HE1 := Lib.hid hE1
      unfold STake
      clear hE1 hH hin hr hte hb0 hM hbig
      generalize secE l = se at *
      generalize secH l = sh at *
      generalize secL l = sl at *
      generalize numT (l.take 64) 16 2 = x0 at *
      generalize numT (l.take 64) 18 2 = x1 at *
      generalize offT l = x2 at *
      generalize cntT l = x3 at *
      generalize shsT l = x4 at *
      have HED := Lib.hid (show ∀ e1, errUp l x2 x3 = e1 → (e1 ≠ 0 → se = e1) ∧ (e1 = 0 → se = tellE l x2 x3 x4) from fun e1 h => by
        refine ⟨fun h1 => ?_, fun h1 => ?_⟩
        · rw [HE1.out, if_pos (by rw [h]; exact h1), h]
        · rw [HE1.out, if_neg (by simp [h, h1])])
      generalize hln : l.length = n at *
      go_enter Tryd.func7, Tryd.ntmps7
      go_wp2_with (go_at_call 17; refine HTK.out.mono ?_; rintro r w1 ⟨rfl, hb1⟩; have HB1 := Lib.hid (HB0.out.trans (hb1.mono HB0.out.size)); have HX1 := Lib.hid (HXR.out.below hb1 (by simp)); clear hb1 HTK)
      have hb2 : Below w1.heap.size w1 (w1.alloc (.cells #[.int .i64 (x0 : Int), .int .i64 (x1 : Int), .int .u64 (x2 : Int), .int .i64 (x3 : Int), .int .i64 (x4 : Int)] 26)) := (Below.refl _ _).alloc (Nat.le_refl _) _
      have hW2 := HB1.out.trans (hb2.mono HB1.out.size)
      have hX2 := HX1.out.below hb2 HX1.out.lt
      have hH2 := Box.new w1 26 #[.int .i64 (x0 : Int), .int .i64 (x1 : Int), .int .u64 (x2 : Int), .int .i64 (x3 : Int), .int .i64 (x4 : Int)]
      refine (HRD.out _ hW2).mono ?_
      rintro r w3 ⟨v3, rfl, hE3, hb3⟩
      have HW3 := Lib.hid (hW2.trans (hb3.mono hW2.size))
      have HX3 := Lib.hid (hX2.below hb3 hX2.lt)
      have hH3 := hH2.below hb3 hH2.lt
      have HH3 := Lib.hid hH3
      have k0 := hH3.cell 0
      have k1 := hH3.cell 1
      have k2 := hH3.cell 2
      have k3 := hH3.cell 3
      have k4 := hH3.cell 4
      simp at k0 k1 k2 k3 k4
      clear hb2 hX2 hH2 hH3 HX1 HRD HXR
      generalize hee : errUp l x2 x3 = e1 at *
      have hf := fun i => HX3.out.free i
      have r0 := HX3.out.cell 0
      have r1 := HX3.out.cell 1
      have r2 := HX3.out.cell 2
      have r3 := HX3.out.cell 3
      have r4 := HX3.out.cell 4
      simp at r0 r1 r2 r3 r4
      have f0 := hf 0
      have f1 := hf 1
      have f2 := hf 2
      have f3 := hf 3
      have f4 := hf 4
      by_cases he1 : e1 = 0
      · have q1 : (e1 != 0) = false := by simp [he1]
        have hE3' := hE3 he1
        have HT3 := Lib.hid (HTL.out w3 HW3.out w.heap.size v3 (row_base hE3' hW2.size) he1)
        have HED2 := Lib.hid ((HED.out e1 rfl).2 he1)
        clear hE3 hE3' hee he1 HED HTL hf HE1
        generalize tellE l x2 x3 x4 = e2 at *
        go_wp2_with fail
        refine HT3.out.mono ?_
        rintro r w4 ⟨u4, rfl, hT4, hb4⟩
        have HW4 := Lib.hid (HW3.out.trans (hb4.mono HW3.out.size))
        have HX4 := Lib.hid (HX3.out.below hb4 HX3.out.lt)
        have hH4 := HH3.out.below hb4 HH3.out.lt
        have j0 := hH4.cell 0
        have j1 := hH4.cell 1
        have j2 := hH4.cell 2
        have j3 := hH4.cell 3
        have j4 := hH4.cell 4
        simp at j0 j1 j2 j3 j4
        have s0 := HX4.out.cell 0
        have s1 := HX4.out.cell 1
        have s2 := HX4.out.cell 2
        have s3 := HX4.out.cell 3
        have s4 := HX4.out.cell 4
        simp at s0 s1 s2 s3 s4
        have g0 := HX4.out.free 0
        have g1 := HX4.out.free 1
        have g2 := HX4.out.free 2
        have g3 := HX4.out.free 3
        have g4 := HX4.out.free 4
        clear hb4 hH4 HX3 HH3 k0 k1 k2 k3 k4 r0 r1 r2 r3 r4 f0 f1 f2 f3 f4 HT3
        by_cases he2 : e2 = 0
        · have q2 : (e2 != 0) = false := by simp [he2]
          have hse : se = 0 := HED2.out.trans he2
          have HF := Lib.hid (And.intro hse (And.intro (HSH.out hse) (HSL.out hse)))
          have HT4 := Lib.hid (Told.base_ (hT4 he2) HW3.out.size)
          clear hT4 hse he2
          go_wp2_with fail
          refine ret_three Tryd.underlying26 Tryd.results7 (five_box HX4.out (.int .i64 (x0 : Int)) (.int .i64 (x1 : Int)) (.int .u64 (x2 : Int)) (.int .i64 (x3 : Int)) (.int .i64 (x4 : Int))) (by kernel_rfl) (by rfl) rfl ?_
          have hgr : w4.grownBy _ (some w.heap.size) := only_set (only_set (only_set (only_set (only_set (only_refl w4 (some w.heap.size)) 0 (.int .i64 (x0 : Int))) 1 (.int .i64 (x1 : Int))) 2 (.int .u64 (x2 : Int))) 3 (.int .i64 (x3 : Int))) 4 (.int .i64 (x4 : Int))
          refine ⟨_, by rw [HF.out.1, HF.out.2.1]; rfl, ?_, five_below HW4.out (Nat.le_refl _) _ _ _ _ _⟩
          rw [HF.out.2.2]
          obtain ⟨L, t1, t2, t3⟩ := HT4.out
          have hon : Only w.heap.size (CellsOf 26) w4 _ := Only.row hgr HX4.out rfl (Nat.le_refl _)
          exact ⟨L, t1, row_only t2 hon (fun cs f hh => absurd (show 36 = 26 from hh) (by decide)), fun x hx => row_only (t3 x hx) hon (fun cs f hh => absurd (show 5 = 26 from hh) (by decide))⟩
        · have q2 : (e2 != 0) = true := by simpa using he2
          obtain ⟨hb1, hb2⟩ := HBAD.out e2 HED2.out he2
          have HF := Lib.hid (And.intro HED2.out (And.intro hb1 hb2))
          clear hT4 he2 hb1 hb2
          go_wp2_with fail
          refine ret_three Tryd.underlying26 Tryd.results7 (five_box HX4.out (.int .i64 0) (.int .i64 0) (.int .u64 0) (.int .i64 0) (.int .i64 0)) (by kernel_rfl) (by rfl) rfl ?_
          exact ⟨_, by rw [HF.out.1, HF.out.2.1]; rfl, by rw [HF.out.2.2]; exact told_nil _ _, five_below HW4.out (Nat.le_refl _) _ _ _ _ _⟩
      · have q1 : (e1 != 0) = true := by simpa using he1
        have hse := (HED.out e1 rfl).1 he1
        obtain ⟨hb1, hb2⟩ := HBAD.out e1 hse he1
        have HF := Lib.hid (And.intro hse (And.intro hb1 hb2))
        clear hE3 hee he1 hse hb1 hb2 HED HTL hf HE1
        go_wp2_with fail
        refine ret_three Tryd.underlying26 Tryd.results7 (five_box HX3.out (.int .i64 0) (.int .i64 0) (.int .u64 0) (.int .i64 0) (.int .i64 0)) (by kernel_rfl) (by rfl) rfl ?_
        exact ⟨_, by rw [HF.out.1, HF.out.2.1]; rfl, by rw [HF.out.2.2]; exact told_nil _ _, five_below HW3.out (Nat.le_refl _) _ _ _ _ _⟩
    · have hE1 : secE l = takeE l := by unfold secE; rw [if_neg hbig, if_pos hte]
      obtain ⟨hH1, hL1⟩ := sec_bad hE1 hte
      have hTH : takeH l = hdV 0 0 0 0 0 := by unfold takeH; rw [if_neg hte]
      have HF := Lib.hid (And.intro hE1 (And.intro hH1 hL1))
      unfold TakeIs at HTK
      rw [hTH] at HTK
      have q1 : (takeE l != 0) = true := by simpa using hte
      unfold STake
      clear hE1 hH1 hL1 hTH hte hbig hr hb0 hM
      generalize secE l = se at *
      generalize secH l = sh at *
      generalize secL l = sl at *
      generalize takeE l = te at *
      generalize l.length = n at *
      go_enter Tryd.func7, Tryd.ntmps7
      go_wp2_with (go_at_call 17; refine HTK.out.mono ?_; rintro r w1 ⟨rfl, hb1⟩; have HB1 := Lib.hid (HB0.out.trans (hb1.mono HB0.out.size)); have hX1 := HXR.out.below hb1 (by simp); have HX1 := Lib.hid hX1; have r0 := hX1.cell 0; have r1 := hX1.cell 1; have r2 := hX1.cell 2; have r3 := hX1.cell 3; have r4 := hX1.cell 4; simp at r0 r1 r2 r3 r4; have f0 := hX1.free 0; have f1 := hX1.free 1; have f2 := hX1.free 2; have f3 := hX1.free 3; have f4 := hX1.free 4; have hlt1 := hX1.lt; clear hb1 HTK hX1)
      have hb6 := five_box HX1.out (.int .i64 0) (.int .i64 0) (.int .u64 0) (.int .i64 0) (.int .i64 0)
      have HZ6 := Lib.hid (hb6.below ((Below.refl _ _).alloc (Nat.le_refl _) (.cells #[.int .i64 0, .int .i64 0, .int .u64 0, .int .i64 0, .int .i64 0] 26)) hb6.lt)
      refine ret_three Tryd.underlying26 Tryd.results7 HZ6.out (by kernel_rfl) (by rfl) rfl ?_
      exact ⟨_, by rw [HF.out.1, HF.out.2.1]; rfl, by rw [HF.out.2.2]; exact told_nil _ _, (five_below HB1.out (Nat.le_refl _) _ _ _ _ _).alloc (Nat.le_of_lt hb6.lt) _⟩

end Go.Proofs.YtnnemmkgjldhiaaDoor
