/-
  The document's Take of sections: what goes along in its rounds.
-/
import Derived.Test.YtldmjnbmjfnfeaaGreatDoorSeV
import Derived.Test.YtldmjnbmjfnfeaaGreatDoorEhL
import Derived.Test.YtldmjnbmjfnfeaaGreatDoorSeR
import Derived.Test.YtldmjnbmjfnfeaaGreatDoorRefR
import Derived.Test.YtldmjnbmjfnfeaaGreatDoorPoX
import Derived.Test.YtldmjnbmjfnfeaaGreatDoorLawA
import Derived.Test.YtldmjnbmjfnfeaaGreatDoorCsS
namespace Go.Proofs.YtldmjnbmjfnfeaaGreatDoor
open Go Go.RowKit

def offT (l : List UInt8) : Nat := numT (l.take 64) 40 8
def cntT (l : List UInt8) : Nat := numT (l.take 64) 60 2
def shsT (l : List UInt8) : Nat := numT (l.take 64) 62 2
/-- Why there are no sections. -/
def secE (l : List UInt8) : Int :=
  if 1048576 < l.length then 3 else if takeE l ≠ 0 then takeE l else if errUp l (offT l) (cntT l) ≠ 0 then errUp l (offT l) (cntT l) else tellE l (offT l) (cntT l) (shsT l)
/-- The header, and the sections. -/
def secH (l : List UInt8) : Value := if secE l = 0 then takeH l else hdV 0 0 0 0 0
def secL (l : List UInt8) : List Sect := if secE l = 0 then secsT l (offT l) (cntT l) (shsT l) else []

theorem take_facts {l : List UInt8} (h : takeE l = 0) : 1 ≤ cntT l ∧ cntT l ≤ 64 ∧ 1 ≤ shsT l ∧ shsT l < cntT l ∧ offT l + cntT l * 64 ≤ l.length ∧
    (numT (l.take 64) 16 2 = 1 ∨ numT (l.take 64) 16 2 = 2) ∧ (numT (l.take 64) 18 2 = 62 ∨ numT (l.take 64) 18 2 = 183) ∧ takeH l = hdV (numT (l.take 64) 16 2 : Int) (numT (l.take 64) 18 2 : Int) (offT l) (cntT l : Int) (shsT l : Int) := by
  have hH : takeH l = hdV (numT (l.take 64) 16 2 : Int) (numT (l.take 64) 18 2 : Int) (offT l) (cntT l : Int) (shsT l : Int) := by unfold takeH; rw [if_pos h]; rfl
  unfold takeE at h
  split at h
  · split at h
    · rename_i h2
      rw [Bool.and_eq_true] at h2
      have h3 := h2.2
      unfold rightOf at h3
      simp only [Bool.and_eq_true, decide_eq_true_eq] at h3
      have : (offT l : Int) = (numT (l.take 64) 40 8 : Int) := rfl
      obtain ⟨⟨⟨⟨g1, g2⟩, g3⟩, g4⟩, g5⟩ := h3
      refine ⟨?_, ?_, ?_, ?_, ?_, ?_, ?_, hH⟩ <;> unfold cntT at * <;> unfold shsT at * <;> unfold offT at * <;> omega
    · cases h
  · cases h
theorem secE_tell {l : List UInt8} (h1 : ¬ 1048576 < l.length) (h2 : takeE l = 0) (h3 : errUp l (offT l) (cntT l) = 0) : secE l = tellE l (offT l) (cntT l) (shsT l) := by
  unfold secE
  rw [if_neg h1, if_neg (by simp [h2]), if_neg (by simp [h3])]
theorem sec_bad {l : List UInt8} {e : Int} (h : secE l = e) (he : e ≠ 0) : secH l = hdV 0 0 0 0 0 ∧ secL l = [] := by
  unfold secH secL
  rw [if_neg (by rw [h]; exact he), if_neg (by rw [h]; exact he)]
  exact ⟨rfl, rfl⟩
theorem told_nil (w : World) (base : Nat) : Told w base (.slice none 0 0) [] := ⟨[], rfl, World.ownsRow_nil _ _ _ _, by simp⟩

def STake (l : List UInt8) (w : World) (r : Ending) (w' : World) : Prop := ∃ u, r = .returned (.tuple #[secH l, u, .int .i64 (secE l)]) ∧ Told w' w.heap.size u (secL l) ∧ Below w.heap.size w w'

set_option maxRecDepth 10000 in
set_option maxHeartbeats 3200000 in
theorem stake_any {w : World} {A : Option Addr} {l : List UInt8} (hr : Rd w w.heap.size A l) (c : Nat) (hlc : l.length ≤ c) (hl : l.length ≤ 140737488355328) (hM : Mg w) :
    Calls Tryz.prog 19 #[.slice A l.length c] w (STake l w) := by
  have HXR := Lib.hid (Box.new w 55 #[.int .i64 0, .int .i64 0, .int .u64 0, .int .i64 0, .int .i64 0])
  have hb0 : Below w.heap.size w (w.alloc (.cells #[.int .i64 0, .int .i64 0, .int .u64 0, .int .i64 0, .int .i64 0] 55)) := (Below.refl _ _).alloc (Nat.le_refl _) _
  by_cases hbig : 1048576 < l.length
  · have hE : secE l = 3 := by unfold secE; rw [if_pos hbig]
    obtain ⟨hH, hL⟩ := sec_bad hE (by decide)
    have HF := Lib.hid (And.intro hE (And.intro hH hL))
    have hd : decide ((1048576 : Int) < (l.length : Int)) = true := decide_eq_true (by omega)
    have HB0 := Lib.hid hb0
    clear hbig hE hH hL hr hb0
    unfold STake
    generalize secE l = se at *
    generalize secH l = sh at *
    generalize secL l = sl at *
    generalize l.length = n at *
    go_enter Tryz.func19, Tryz.ntmps19
    go_wp2_with fail
    refine ret_three Tryz.underlying55 Tryz.results19 HXR.out (by kernel_rfl) (by rfl) rfl ?_
    exact ⟨_, by rw [HF.out.1, HF.out.2.1]; rfl, by rw [HF.out.2.2]; exact told_nil _ _, HB0.out⟩
  · have hd : decide ((1048576 : Int) < (l.length : Int)) = false := decide_eq_false (by omega)
    have HTK := Lib.hid (take_any (hr.below hb0) hb0.size c hlc (hM.alloc _) hl)
    have HB0 := Lib.hid hb0
    by_cases hte : takeE l = 0
    · obtain ⟨hn1, hn, hs1, hsn, hin, _, _, hH⟩ := take_facts hte
      unfold TakeIs at HTK
      have hE1 : secE l = if errUp l (offT l) (cntT l) ≠ 0 then errUp l (offT l) (cntT l) else tellE l (offT l) (cntT l) (shsT l) := by unfold secE; rw [if_neg hbig, if_neg (by simp [hte])]
      have HRD := Lib.hid (fun W (hW : Below w.heap.size w W) => read_any ((hr.below hW).more hW.size) c hlc hl (numT (l.take 64) 16 2 : Int) (numT (l.take 64) 18 2 : Int) (shsT l : Int) (offT l) (cntT l) hn1 hn hin)
      have HTL := Lib.hid (fun W (hW : Below w.heap.size w W) (be : Nat) (v : Value) (hE : OwnE W be v (entsT l (offT l) (cntT l))) (h0 : errUp l (offT l) (cntT l) = 0) => tell_any ((hr.below hW).more hW.size) c hlc hl (numT (l.take 64) 16 2 : Int) (numT (l.take 64) 18 2 : Int) (offT l) (cntT l) (shsT l) hn hsn hin hE h0)
      rw [hH, hte] at HTK
      have HSH := Lib.hid (show secE l = 0 → secH l = hdV (numT (l.take 64) 16 2 : Int) (numT (l.take 64) 18 2 : Int) (offT l) (cntT l : Int) (shsT l : Int) from fun h => by unfold secH; rw [if_pos h, hH])
      have HSL := Lib.hid (show secE l = 0 → secL l = secsT l (offT l) (cntT l) (shsT l) from fun h => by unfold secL; rw [if_pos h])
      have HBAD := Lib.hid (fun e (h : secE l = e) (he : e ≠ 0) => sec_bad h he)
      have HE1 := Lib.hid hE1
      unfold STake
      clear hE1 hH hin hr hte hb0 hM hbig
      generalize secE l = se at *
      generalize secH l = sh at *
      generalize secL l = sl at *
      generalize numT (l.take 64) 16 2 = x0 at *
      generalize numT (l.take 64) 18 2 = x1 at *
      generalize offT l = x2 at *
      generalize cntT l = x3 at *
      generalize shsT l = x4 at *
      have HED := Lib.hid (show ∀ e1, errUp l x2 x3 = e1 → (e1 ≠ 0 → se = e1) ∧ (e1 = 0 → se = tellE l x2 x3 x4) from fun e1 h => by
        refine ⟨fun h1 => ?_, fun h1 => ?_⟩
        · rw [HE1.out, if_pos (by rw [h]; exact h1), h]
        · rw [HE1.out, if_neg (by simp [h, h1])])
      generalize hln : l.length = n at *
      go_enter Tryz.func19, Tryz.ntmps19
      go_wp2_with (go_at_call 47; refine HTK.out.mono ?_; rintro r w1 ⟨rfl, hb1⟩; have HB1 := Lib.hid (HB0.out.trans (hb1.mono HB0.out.size)); have HX1 := Lib.hid (HXR.out.below hb1 (by simp)); clear hb1 HTK)
      have hb2 : Below w1.heap.size w1 (w1.alloc (.cells #[.int .i64 (x0 : Int), .int .i64 (x1 : Int), .int .u64 (x2 : Int), .int .i64 (x3 : Int), .int .i64 (x4 : Int)] 55)) := (Below.refl _ _).alloc (Nat.le_refl _) _
      have hW2 := HB1.out.trans (hb2.mono HB1.out.size)
      have hX2 := HX1.out.below hb2 HX1.out.lt
      have hH2 := Box.new w1 55 #[.int .i64 (x0 : Int), .int .i64 (x1 : Int), .int .u64 (x2 : Int), .int .i64 (x3 : Int), .int .i64 (x4 : Int)]
      refine (HRD.out _ hW2).mono ?_
      rintro r w3 ⟨v3, rfl, hE3, hb3⟩
      have HW3 := Lib.hid (hW2.trans (hb3.mono hW2.size))
      have HX3 := Lib.hid (hX2.below hb3 hX2.lt)
      have hH3 := hH2.below hb3 hH2.lt
      have HH3 := Lib.hid hH3
      have k0 := hH3.cell 0
      have k1 := hH3.cell 1
      have k2 := hH3.cell 2
      have k3 := hH3.cell 3
      have k4 := hH3.cell 4
      simp at k0 k1 k2 k3 k4
      clear hb2 hX2 hH2 hH3 HX1 HRD HXR
      generalize hee : errUp l x2 x3 = e1 at *
      have hf := fun i => HX3.out.free i
      have r0 := HX3.out.cell 0
      have r1 := HX3.out.cell 1
      have r2 := HX3.out.cell 2
      have r3 := HX3.out.cell 3
      have r4 := HX3.out.cell 4
      simp at r0 r1 r2 r3 r4
      have f0 := hf 0
      have f1 := hf 1
      have f2 := hf 2
      have f3 := hf 3
      have f4 := hf 4
      by_cases he1 : e1 = 0
      · have q1 : (e1 != 0) = false := by simp [he1]
        have hE3' := hE3 he1
        have HT3 := Lib.hid (HTL.out w3 HW3.out w.heap.size v3 (row_base hE3' hW2.size) he1)
        have HED2 := Lib.hid ((HED.out e1 rfl).2 he1)
        clear hE3 hE3' hee he1 HED HTL hf HE1
        generalize tellE l x2 x3 x4 = e2 at *
        go_wp2_with fail
        refine HT3.out.mono ?_
        rintro r w4 ⟨u4, rfl, hT4, hb4⟩
        have HW4 := Lib.hid (HW3.out.trans (hb4.mono HW3.out.size))
        have HX4 := Lib.hid (HX3.out.below hb4 HX3.out.lt)
        have hH4 := HH3.out.below hb4 HH3.out.lt
        have j0 := hH4.cell 0
        have j1 := hH4.cell 1
        have j2 := hH4.cell 2
        have j3 := hH4.cell 3
        have j4 := hH4.cell 4
        simp at j0 j1 j2 j3 j4
        have s0 := HX4.out.cell 0
        have s1 := HX4.out.cell 1
        have s2 := HX4.out.cell 2
        have s3 := HX4.out.cell 3
        have s4 := HX4.out.cell 4
        simp at s0 s1 s2 s3 s4
        have g0 := HX4.out.free 0
        have g1 := HX4.out.free 1
        have g2 := HX4.out.free 2
        have g3 := HX4.out.free 3
        have g4 := HX4.out.free 4
        clear hb4 hH4 HX3 HH3 k0 k1 k2 k3 k4 r0 r1 r2 r3 r4 f0 f1 f2 f3 f4 HT3
        by_cases he2 : e2 = 0
        · have q2 : (e2 != 0) = false := by simp [he2]
          have hse : se = 0 := HED2.out.trans he2
          have HF := Lib.hid (And.intro hse (And.intro (HSH.out hse) (HSL.out hse)))
          have HT4 := Lib.hid (Told.base_ (hT4 he2) HW3.out.size)
          clear hT4 hse he2
          go_wp2_with fail
          refine ret_three Tryz.underlying55 Tryz.results19 (five_box HX4.out (.int .i64 (x0 : Int)) (.int .i64 (x1 : Int)) (.int .u64 (x2 : Int)) (.int .i64 (x3 : Int)) (.int .i64 (x4 : Int))) (by kernel_rfl) (by rfl) rfl ?_
          have hgr : w4.grownBy _ (some w.heap.size) := only_set (only_set (only_set (only_set (only_set (only_refl w4 (some w.heap.size)) 0 (.int .i64 (x0 : Int))) 1 (.int .i64 (x1 : Int))) 2 (.int .u64 (x2 : Int))) 3 (.int .i64 (x3 : Int))) 4 (.int .i64 (x4 : Int))
          refine ⟨_, by rw [HF.out.1, HF.out.2.1]; rfl, ?_, five_below HW4.out (Nat.le_refl _) _ _ _ _ _⟩
          rw [HF.out.2.2]
          obtain ⟨L, t1, t2, t3⟩ := HT4.out
          have hon : Only w.heap.size (CellsOf 55) w4 _ := Only.row hgr HX4.out rfl (Nat.le_refl _)
          exact ⟨L, t1, row_only t2 hon (fun cs f hh => absurd (show 39 = 55 from hh) (by decide)), fun x hx => row_only (t3 x hx) hon (fun cs f hh => absurd (show 5 = 55 from hh) (by decide))⟩
        · have q2 : (e2 != 0) = true := by simpa using he2
          obtain ⟨hb1, hb2⟩ := HBAD.out e2 HED2.out he2
          have HF := Lib.hid (And.intro HED2.out (And.intro hb1 hb2))
          clear hT4 he2 hb1 hb2
          go_wp2_with fail
          refine ret_three Tryz.underlying55 Tryz.results19 (five_box HX4.out (.int .i64 0) (.int .i64 0) (.int .u64 0) (.int .i64 0) (.int .i64 0)) (by kernel_rfl) (by rfl) rfl ?_
          exact ⟨_, by rw [HF.out.1, HF.out.2.1]; rfl, by rw [HF.out.2.2]; exact told_nil _ _, five_below HW4.out (Nat.le_refl _) _ _ _ _ _⟩
      · have q1 : (e1 != 0) = true := by simpa using he1
        have hse := (HED.out e1 rfl).1 he1
        obtain ⟨hb1, hb2⟩ := HBAD.out e1 hse he1
        have HF := Lib.hid (And.intro hse (And.intro hb1 hb2))
        clear hE3 hee he1 hse hb1 hb2 HED HTL hf HE1
        go_wp2_with fail
        refine ret_three Tryz.underlying55 Tryz.results19 (five_box HX3.out (.int .i64 0) (.int .i64 0) (.int .u64 0) (.int .i64 0) (.int .i64 0)) (by kernel_rfl) (by rfl) rfl ?_
        exact ⟨_, by rw [HF.out.1, HF.out.2.1]; rfl, by rw [HF.out.2.2]; exact told_nil _ _, five_below HW3.out (Nat.le_refl _) _ _ _ _ _⟩
    · have hE1 : secE l = takeE l := by unfold secE; rw [if_neg hbig, if_pos hte]
      obtain ⟨hH1, hL1⟩ := sec_bad hE1 hte
      have hTH : takeH l = hdV 0 0 0 0 0 := by unfold takeH; rw [if_neg hte]
      have HF := Lib.hid (And.intro hE1 (And.intro hH1 hL1))
      unfold TakeIs at HTK
      rw [hTH] at HTK
      have q1 : (takeE l != 0) = true := by simpa using hte
      unfold STake
      clear hE1 hH1 hL1 hTH hte hbig hr hb0 hM
      generalize secE l = se at *
      generalize secH l = sh at *
      generalize secL l = sl at *
      generalize takeE l = te at *
      generalize l.length = n at *
      go_enter Tryz.func19, Tryz.ntmps19
      go_wp2_with (go_at_call 47; refine HTK.out.mono ?_; rintro r w1 ⟨rfl, hb1⟩; have HB1 := Lib.hid (HB0.out.trans (hb1.mono HB0.out.size)); have hX1 := HXR.out.below hb1 (by simp); have HX1 := Lib.hid hX1; have r0 := hX1.cell 0; have r1 := hX1.cell 1; have r2 := hX1.cell 2; have r3 := hX1.cell 3; have r4 := hX1.cell 4; simp at r0 r1 r2 r3 r4; have f0 := hX1.free 0; have f1 := hX1.free 1; have f2 := hX1.free 2; have f3 := hX1.free 3; have f4 := hX1.free 4; have hlt1 := hX1.lt; clear hb1 HTK hX1)
      have hb6 := five_box HX1.out (.int .i64 0) (.int .i64 0) (.int .u64 0) (.int .i64 0) (.int .i64 0)
      have HZ6 := Lib.hid (hb6.below ((Below.refl _ _).alloc (Nat.le_refl _) (.cells #[.int .i64 0, .int .i64 0, .int .u64 0, .int .i64 0, .int .i64 0] 55)) hb6.lt)
      refine ret_three Tryz.underlying55 Tryz.results19 HZ6.out (by kernel_rfl) (by rfl) rfl ?_
      exact ⟨_, by rw [HF.out.1, HF.out.2.1]; rfl, by rw [HF.out.2.2]; exact told_nil _ _, (five_below HB1.out (Nat.le_refl _) _ _ _ _ _).alloc (Nat.le_of_lt hb6.lt) _⟩

end Go.Proofs.YtldmjnbmjfnfeaaGreatDoor

namespace Go.Proofs.YtldmjnbmjfnfeaaGreatDoor
open Go Go.RowKit

theorem put_wrong {kind machine : Int} {l : List Sect} (h : rightS l = false) : putE kind machine l = 2 ∧ putR kind machine l = [] := by
  have : mayPut kind machine l = false := by unfold mayPut; rw [h, Bool.false_and]
  simp [putE, putR, this]
theorem right_len {l : List Sect} (h : rightS l = true) : 2 ≤ l.length ∧ l.length ≤ 64 := by
  by_cases h2 : 2 ≤ l.length ∧ l.length ≤ 64
  · exact h2
  · rw [rightS_len h2] at h; cases h
theorem tabled_length (l : List Sect) (t : List UInt8) : (tabled l t).length = l.length := by
  unfold tabled
  split <;> simp
theorem laid_count {l : List Sect} (h2 : 2 ≤ l.length) : (laidS l).2.length = l.length := by
  have := layK_count (tabled l (putsT (gat (l.map (·.name))).1)) (gat (l.map (·.name))).2 (l.length - 1) (by rw [tabled_length]; omega) (by rw [gat_count, List.length_map]; omega)
  show (layK _ _ _).2.length = _
  rw [this]
  omega
theorem laid_tens (l : List Sect) : ∀ e ∈ (laidS l).2, e.length = 10 := layK_tens _ _ _
theorem tabled_data {l : List Sect} {t : List UInt8} (hd : ∀ s ∈ l, s.data.length ≤ 100000) (ht : t.length ≤ 65536) : ∀ s ∈ tabled l t, s.data.length ≤ 100000 := by
  intro s hs
  unfold tabled at hs
  split at hs
  · rcases List.mem_or_eq_of_mem_set hs with hs | rfl
    · exact hd s hs
    · exact Nat.le_trans ht (by decide)
  · exact hd s hs
theorem laid_size {l : List Sect} (hd : ∀ s ∈ l, s.data.length ≤ 100000) : (laidS l).1.length ≤ 80 + l.length * 100007 := by
  have h1 := layK_size (tabled l (putsT (gat (l.map (·.name))).1)) (gat (l.map (·.name))).2 (tabled_data hd (gat_table _)) (l.length - 1)
  show (padB (layK _ _ _).1).length ≤ _
  rw [padB_length]
  have h2 := padN_lt (layK (tabled l (putsT (gat (l.map (·.name))).1)) (gat (l.map (·.name))).2 (l.length - 1)).1.length
  have h3 : (l.length - 1) * 100007 ≤ l.length * 100007 := Nat.mul_le_mul_right _ (by omega)
  omega
theorem layK_64 (ss : List Sect) (ps : List Nat) : ∀ k, 64 ≤ (layK ss ps k).1.length
  | 0 => by simp [layK]
  | k + 1 => by
    have ih := layK_64 ss ps k
    rcases hs : ss[k + 1]? with _ | s
    · rw [layK, hs]; exact ih
    · rcases hp : ps[k + 1]? with _ | p
      · rw [layK, hs, hp]; exact ih
      · rw [layK_next hs hp, List.length_append, padB_length]
        omega
theorem laid_64 (l : List Sect) : 64 ≤ (laidS l).1.length := by
  show 64 ≤ (padB (layK _ _ _).1).length
  rw [padB_length]
  exact Nat.le_trans (layK_64 _ _ _) (Nat.le_add_right _ _)

set_option maxRecDepth 10000 in
set_option maxHeartbeats 6400000 in
theorem sput_any (kind machine : Int) {w : World} {a : Option Addr} {L : List Lay} (h : Secs w w.heap.size a L) (hM : Mg w) (c : Nat) (hlc : L.length ≤ c) (hl : L.length ≤ 100000) :
    Calls Tryz.prog 33 #[.int .i64 kind, .int .i64 machine, .slice a L.length c] w fun r w' => ∃ v, r = .returned (.tuple #[v, .int .i64 (putE kind machine (secsOf L))]) ∧ Own w' w.heap.size v (putR kind machine (secsOf L)) ∧ Below w.heap.size w w' := by
  have HR := Lib.hid (sright_any h c hlc hl)
  cases hr : rightS (secsOf L) with
  | false =>
    rw [hr] at HR
    obtain ⟨h1, h2⟩ := put_wrong (kind := kind) (machine := machine) hr
    rw [h1, h2]
    clear h h1 h2 hr hM
    generalize L.length = n at *
    go_enter Tryz.func33, Tryz.ntmps33
    go_wp2_with (go_at_call 60; refine HR.out.mono ?_; rintro r w1 ⟨rfl, hb1⟩)
    go_ret2
    exact ⟨_, rfl, World.ownsRow_nil _ _ _ _, hb1⟩
  | true =>
    rw [hr] at HR
    have hr2 := right_len hr
    have hn : (secsOf L).length = L.length := by simp
    have HLay := Lib.hid (fun W (hW : Below w.heap.size w W) => lay_any ((h.below hW).more hW.size) c hlc (by omega) (by omega))
    rw [show namesL L = (secsOf L).map (·.name) by simp [namesL, secsOf]] at HLay
    have hdat : ∀ s ∈ secsOf L, s.data.length ≤ 100000 := fun s hs => by
      obtain ⟨x, hx, rfl⟩ := List.mem_map.1 hs
      exact (h.ok x hx).fits.data
    have hLS : ∀ (l : List Sect) (n : Nat), l.length = n → (padB (layK (tabled l (putsT (gat (l.map (·.name))).1)) (gat (l.map (·.name))).2 (n - 1)).1, (layK (tabled l (putsT (gat (l.map (·.name))).1)) (gat (l.map (·.name))).2 (n - 1)).2) = laidS l := fun l n e => by subst e; rfl
    have hls := hLS (secsOf L) L.length hn
    have hes1 := laid_count (l := secsOf L) (by omega)
    have hes2 := laid_tens (secsOf L)
    have hbs1 := laid_size hdat
    have hbs2 := laid_64 (secsOf L)
    have HMY := Lib.hid (show mayPut kind machine (secsOf L) = (decide (kind = 1 ∨ kind = 2) && decide (machine = 62 ∨ machine = 183)) by unfold mayPut; rw [hr, Bool.true_and])
    have HPE := Lib.hid (show putE kind machine (secsOf L) = if mayPut kind machine (secsOf L) = true then 0 else 2 from rfl)
    have HPR := Lib.hid (show putR kind machine (secsOf L) = if mayPut kind machine (secsOf L) = true then headB kind machine (laidS (secsOf L)).1.length (L.length : Int) ((L.length - 1 : Nat) : Int) ++ ((laidS (secsOf L)).1 ++ entsB (laidS (secsOf L)).2).drop 64 else [] by
      rw [putR, fileB, hn])
    obtain ⟨i0, hi, hz0, hz1, hz2⟩ := info_parts u8_info
    rw [hn] at hes1 hbs1 hr2
    generalize hba : laidS (secsOf L) = ba at *
    obtain ⟨bb, es⟩ := ba
    simp only [Prod.mk.injEq] at hls
    rw [hls.1, hls.2] at HLay
    simp only at hes1 hes2 hbs1 hbs2 HPR
    generalize mayPut kind machine (secsOf L) = may at *
    generalize putE kind machine (secsOf L) = pe at *
    generalize putR kind machine (secsOf L) = pr at *
    obtain ⟨m, hm⟩ : ∃ m, L.length = m + 1 := ⟨L.length - 1, by omega⟩
    rw [hm] at HR HLay hes1 hbs1 HPR hlc hr2 ⊢
    rw [Nat.add_sub_cancel] at HPR
    have hmb : m ≤ 63 := by omega
    have hm1 : 1 ≤ m := by omega
    clear hr hdat hLS hls hba hn hr2 h hl hlc
    have HT := Lib.hid hes2
    have HES := Lib.hid hes1
    have HMg := Lib.hid hM
    clear hes2 hM
    go_enter Tryz.func33, Tryz.ntmps33
    go_wp2_with (go_at_call 60; refine HR.out.mono ?_; rintro r w1 ⟨rfl, hb1⟩; have HB1 := Lib.hid hb1; clear hb1 HR)
    refine (HLay.out _ HB1.out).mono ?_
    rintro r w2 ⟨u2, v2, rfl, hu2, hv2, hb2⟩
    have HU2 := Lib.hid (own_up hu2 HB1.out.size)
    have HV2 := Lib.hid (row_base hv2 HB1.out.size)
    have HB2 := Lib.hid (HB1.out.trans (hb2.mono HB1.out.size))
    obtain ⟨A2, c2, rfl, _, _, _⟩ := own_slice hu2
    obtain ⟨ge, ce, rfl, hge, hgel, hce⟩ := owne_form hv2 (by omega)
    clear hu2 hv2 hb2 HLay HB1
    rw [hes1] at hce ⊢
    have hzl := IntWalk.u64_in (bb.length : Int) (by omega)
    go_wp2_with fail
    have hb3 : Below w2.heap.size w2 (w2.alloc (.cells #[.int .i64 kind, .int .i64 machine, .int .u64 (bb.length : Int), .int .i64 ((m : Int) + 1), .int .i64 (m : Int)] 55)) := (Below.refl _ _).alloc (Nat.le_refl _) _
    have HU3 := Lib.hid (own_below HU2.out hb3)
    have HV3 := Lib.hid (show OwnE _ w.heap.size _ es from row_below HV2.out hb3)
    have HX3 := Lib.hid (Box.new w2 55 #[.int .i64 kind, .int .i64 machine, .int .u64 (bb.length : Int), .int .i64 ((m : Int) + 1), .int .i64 (m : Int)])
    have HB3 := Lib.hid (HB2.out.trans (hb3.mono HB2.out.size))
    have hws : w.heap.size ≤ w2.heap.size := HB2.out.size
    clear HU2 HV2 HB2 hb3 hes1
    generalize hh : w2.heap.size = hd at *
    have hws3 : w.heap.size ≤ (w2.alloc (.cells #[.int .i64 kind, .int .i64 machine, .int .u64 (bb.length : Int), .int .i64 ((m : Int) + 1), .int .i64 (m : Int)] 55)).heap.size := by simp [hh]; omega
    clear hh
    generalize w2.alloc (.cells #[.int .i64 kind, .int .i64 machine, .int .u64 (bb.length : Int), .int .i64 ((m : Int) + 1), .int .i64 (m : Int)] 55) = w3 at *
    go_loopw [8, 36] (fun u i wr => ∃ k : Nat, k ≤ m + 1 ∧ i = .int .i64 k ∧ Own wr w.heap.size u (bb ++ entsB (es.take k)) ∧ Only w.heap.size (CellsOf 5) w3 wr) (fun _ i _ => m + 1 - (intOf i).toNat)
    case atStart => exact ⟨0, Nat.zero_le _, rfl, by rw [List.take_zero, show entsB [] = [] from rfl, List.append_nil]; exact HU3.out, Only.refl _ _ _⟩
    case round =>
      obtain ⟨k, hk, rfl, hO, hOn⟩ := hrel
      by_cases hlt : k < m + 1
      · obtain ⟨e, he⟩ : ∃ e, es[k]? = some e := ⟨es[k]'(by rw [HES.out]; exact hlt), List.getElem?_eq_getElem _⟩
        have hVr := row_only HV3.out hOn (fun cs f hh => absurd (show 120 = 5 from hh) (by decide))
        have hV' : OwnE wr w.heap.size (.slice (some ⟨ge, 0, none⟩) es.length ce) es := hVr
        obtain ⟨a0, a1, a2, a3, a4, a5, a6, a7, a8, a9, rfl, e0, e1, e2, e3, e4, e5, e6, e7, e8, e9⟩ := owne_at hV' HT.out he
        have HNX := Lib.hid (entsB_step he)
        have hel : (entsB (es.take k)).length ≤ 64 * 64 := by
          rw [entsB_length _ (fun e he => HT.out e (List.mem_of_mem_take he)), List.length_take]
          omega
        have hbs := hOn.1.size
        have hb0 : Below wr.heap.size wr (wr.alloc (.cells #[.int .u64 (a0 : Int), .int .u64 (a1 : Int), .int .u64 (a2 : Int), .int .u64 (a3 : Int), .int .u64 (a4 : Int), .int .u64 (a5 : Int), .int .u64 (a6 : Int), .int .u64 (a7 : Int), .int .u64 (a8 : Int), .int .u64 (a9 : Int)] 120)) := (Below.refl _ _).alloc (Nat.le_refl _) _
        have HXE := Lib.hid (Box.new wr 120 #[.int .u64 (a0 : Int), .int .u64 (a1 : Int), .int .u64 (a2 : Int), .int .u64 (a3 : Int), .int .u64 (a4 : Int), .int .u64 (a5 : Int), .int .u64 (a6 : Int), .int .u64 (a7 : Int), .int .u64 (a8 : Int), .int .u64 (a9 : Int)])
        have HN := Lib.hid (numbers_at wr.heap.size 0 (wr.alloc (.cells #[.int .u64 (a0 : Int), .int .u64 (a1 : Int), .int .u64 (a2 : Int), .int .u64 (a3 : Int), .int .u64 (a4 : Int), .int .u64 (a5 : Int), .int .u64 (a6 : Int), .int .u64 (a7 : Int), .int .u64 (a8 : Int), .int .u64 (a9 : Int)] 120)))
        have HO0 := Lib.hid (own_below hO hb0)
        have HOn0 := Lib.hid (hOn.trans (Only.below (bad := CellsOf 5) hb0 (Nat.le_trans hws3 hbs)))
        have hbs0 := hb0.size
        clear hO hOn hVr hV' he hb0
        go_wp2_with (go_at_call 62; refine HN.out.mono ?_; rintro r w4 ⟨rfl, hx4, hb4⟩; clear HN)
        have HX4 := Lib.hid hx4
        have HO4 := Lib.hid (own_below HO0.out hb4)
        have HOn4 := Lib.hid (HOn0.out.trans (Only.below (bad := CellsOf 5) hb4 (Nat.le_trans (Nat.le_trans hws3 hbs) hbs0)))
        have HXE4 := Lib.hid (HXE.out.below hb4 (by simp))
        have hbs4 := hb4.size
        clear hx4 hb4 HO0 HOn0 HXE e0 e1 e2 e3 e4 e5 e6 e7 e8 e9
        rw [show (wr.alloc (.cells #[.int .u64 (a0 : Int), .int .u64 (a1 : Int), .int .u64 (a2 : Int), .int .u64 (a3 : Int), .int .u64 (a4 : Int), .int .u64 (a5 : Int), .int .u64 (a6 : Int), .int .u64 (a7 : Int), .int .u64 (a8 : Int), .int .u64 (a9 : Int)] 120)).heap.size = wr.heap.size + 1 by simp] at HX4 hbs4 hbs0
        have hwb : w.heap.size ≤ wr.heap.size := Nat.le_trans hws3 hbs
        have HEN := Lib.hid (show [Value.int .u64 (a0 : Int), .int .u64 (a1 : Int), .int .u64 (a2 : Int), .int .u64 (a3 : Int), .int .u64 (a4 : Int), .int .u64 (a5 : Int), .int .u64 (a6 : Int), .int .u64 (a7 : Int), .int .u64 (a8 : Int), .int .u64 (a9 : Int)] = entCs [a0, a1, a2, a3, a4, a5, a6, a7, a8, a9] from rfl)
        have hll : ([a0, a1, a2, a3, a4, a5, a6, a7, a8, a9] : List Nat).length = 10 := rfl
        rw [HEN.out] at HXE4
        generalize [a0, a1, a2, a3, a4, a5, a6, a7, a8, a9] = ns at *
        have HLL := Lib.hid hll
        have HEB := Lib.hid (show entB ns = itsB (ns.zip sizesN) from rfl)
        have HZ8 := Lib.hid (show ∀ y ∈ ns.zip sizesN, y.2 ≤ 8 from fun y hy => by
          have : y.2 ∈ sizesN := (List.of_mem_zip hy).2
          have hall : ∀ s ∈ sizesN, s ≤ 8 := by decide
          exact hall _ this)
        have hzl10 : (ns.zip sizesN).length = 10 := by rw [List.length_zip, hll]; rfl
        have HZL := Lib.hid hzl10
        clear hll HEN hzl10
        generalize wr.heap.size = E at *
        generalize wr = wx at *
        go_loopw [8, 42] (fun u i wr => ∃ j : Nat, j ≤ 10 ∧ i = .int .i64 j ∧ Own wr w.heap.size u (bb ++ entsB (es.take k) ++ itsB ((ns.zip sizesN).take j)) ∧ Only w.heap.size (CellsOf 5) w4 wr) (fun _ i _ => 10 - (intOf i).toNat)
        case atStart => exact ⟨0, Nat.zero_le _, rfl, by rw [List.take_zero, show itsB [] = [] from rfl, List.append_nil]; exact HO4.out, Only.refl _ _ _⟩
        case round =>
          obtain ⟨j, hj, rfl, hO, hOn⟩ := hrel
          by_cases hjl : j < 10
          · obtain ⟨x, hx⟩ : ∃ x, ns[j]? = some x := ⟨ns[j]'(by rw [HLL.out]; exact hjl), List.getElem?_eq_getElem _⟩
            obtain ⟨q, hq⟩ : ∃ q, sizesN[j]? = some q := ⟨sizesN[j]'(by show j < 10; exact hjl), List.getElem?_eq_getElem _⟩
            have hxq : (ns.zip sizesN)[j]? = some (x, q) := by rw [List.getElem?_zip_eq_some]; exact ⟨hx, hq⟩
            have HS := Lib.hid (itsB_step _ j x q hxq)
            have hq8 : q ≤ 8 := HZ8.out _ (List.mem_of_getElem? hxq)
            have hil := itsB_le (ns.zip sizesN) j HZ8.out
            rw [HZL.out] at hil
            have hlen : (bb ++ entsB (es.take k) ++ itsB ((ns.zip sizesN).take j)).length ≤ 140737488355000 := by
              simp only [List.length_append]
              omega
            have hXn : Box wr (E + 1) 125 (numV E 0).toArray := hOn.2 _ _ HX4.out (fun hh => absurd (show 125 = 5 from hh) (by decide))
            have hXe : Box wr E 120 (entCs ns).toArray := hOn.2 _ _ HXE4.out (fun hh => absurd (show 120 = 5 from hh) (by decide))
            obtain ⟨n0, n1⟩ := numV_at E 0 j q hq
            rw [Nat.zero_add] at n0
            have d0 : wr.cell? ⟨E + 1, j * 2, none⟩ = some (.pointer (some ⟨E, j, none⟩)) := by rw [hXn.cell]; simpa using n0
            have d1 : wr.cell? ⟨E + 1, j * 2 + 1, none⟩ = some (.int .i64 (q : Int)) := by rw [hXn.cell]; simpa using n1
            have hb0 : Below wr.heap.size wr (wr.alloc (.cells #[.pointer (some ⟨E, j, none⟩), .int .i64 (q : Int)] 125)) := (Below.refl _ _).alloc (Nat.le_refl _) _
            have hX0 := Box.new wr 125 #[.pointer (some ⟨E, j, none⟩), .int .i64 (q : Int)]
            have hXe0 := hXe.below hb0 hXe.lt
            have hqs := hOn.1.size
            have hclamp : clampOf (q : Int) = q := by unfold clampOf; omega
            have HP := Lib.hid (fun W (hW : Own W w.heap.size u8 (bb ++ entsB (es.take k) ++ itsB ((ns.zip sizesN).take j))) (hs : w.heap.size ≤ W.heap.size) => put_any hW hs x q (by omega) hlen)
            rw [hclamp] at HP
            have HO := Lib.hid (own_below hO hb0)
            have HOn := Lib.hid (hOn.trans (Only.below (bad := CellsOf 5) hb0 (by omega)))
            have KS := Lib.hid (fun (W : World) (hW : Only w.heap.size (CellsOf 5) (wr.alloc (.cells #[.pointer (some ⟨E, j, none⟩), .int .i64 (q : Int)] 125)) W) => (by
              have h1 : Box W wr.heap.size 125 _ := hW.2 _ _ hX0 (fun hh => absurd (show 125 = 5 from hh) (by decide))
              have h2 : Box W E 120 _ := hW.2 _ _ hXe0 (fun hh => absurd (show 120 = 5 from hh) (by decide))
              exact ⟨h1.cell 0, h1.cell 1, by rw [h2.cell]; simp [entCs, hx]⟩ :
              W.cell? ⟨wr.heap.size, 0, none⟩ = some (.pointer (some ⟨E, j, none⟩)) ∧ W.cell? ⟨wr.heap.size, 1, none⟩ = some (.int .i64 (q : Int)) ∧ W.cell? ⟨E, j, none⟩ = some (.int .u64 (x : Int))))
            have hO6 : Only w.heap.size (CellsOf 5) (wr.alloc (.cells #[.pointer (some ⟨E, j, none⟩), .int .i64 (q : Int)] 125)) (wr.alloc (.cells #[.pointer (some ⟨E, j, none⟩), .int .i64 (q : Int)] 125)).drew := Only.drew (Only.refl _ _ _)
            have hss : w.heap.size ≤ wr.heap.size := by omega
            clear hx hq hxq hil hlen hXn hXe n0 n1 hX0 hXe0 hb0 hclamp hO hOn hq8
            go_wp2_with fail
            generalize hT : wr.heap.size = T at *
            generalize hw6 : wr.alloc (.cells #[.pointer (some ⟨E, j, none⟩), .int .i64 (q : Int)] 125) = w6 at *
            have hs6 : w.heap.size ≤ w6.heap.size := by rw [← hw6]; simp [hT]; omega
            clear hw6 hT d0 d1
            go_region_held_law (fun W => W.cell? ⟨T, 0, none⟩ = some (.pointer (some ⟨E, j, none⟩)) ∧ W.cell? ⟨T, 1, none⟩ = some (.int .i64 (q : Int)) ∧ W.cell? ⟨E, j, none⟩ = some (.int .u64 (x : Int)))
              ((refine KS.out _ ?_; (repeat' (first | with_reducible assumption | with_reducible refine Only.drewN ?_ _ | with_reducible refine Only.drew ?_))))
              (first
                | (go_at_call 63; refine (HP.out _ (by exact HO.out) (by exact hs6)).mono ?_; rintro r w9 ⟨v9, rfl, hl9⟩; have ho9 : Only w.heap.size (CellsOf 5) w6 w9 := Only.trans (by (repeat' (first | with_reducible assumption | with_reducible refine Only.drewN ?_ _ | with_reducible refine Only.drew ?_))) (row_turns (by exact HO.out) hl9.2.1 (by exact hs6)); clear hO6))
            have HL9 := Lib.hid hl9.1
            have HO9 := Lib.hid ho9
            clear hl9 ho9 KS HP HO
            go_wp2_with fail
            go_roundw
            case rel => exact ⟨j + 1, by omega, by go_num, by rw [HS.out, ← List.append_assoc]; exact HL9.out, HOn.out.trans HO9.out⟩
            case measure => simp [intOf]; omega
          · have hj10 : j = 10 := by omega
            have HOk := Lib.hid (show Own wr w.heap.size u8 (bb ++ entsB (es.take (k + 1))) by
              rw [HNX.out, HEB.out, ← List.append_assoc]
              rw [hj10] at hO
              rwa [show (ns.zip sizesN).take 10 = ns.zip sizesN from List.take_of_length_le (by rw [HZL.out]; exact Nat.le_refl _)] at hO)
            have HOnk := Lib.hid (HOn4.out.trans hOn)
            clear hO hOn
            go_wp2_with fail
            go_roundw
            case rel => exact ⟨k + 1, by omega, by go_num, HOk.out, HOnk.out⟩
            case measure => simp [intOf]; omega
      · have hkm : k = m + 1 := by omega
        have htk : es.take k = es := List.take_of_length_le (by rw [HES.out]; omega)
        rw [htk] at hO
        have hel : (entsB es).length = 64 * (m + 1) := by rw [entsB_length es HT.out, HES.out]
        have hXh : Box wr hd 55 _ := hOn.2 _ _ HX3.out (fun hh => absurd (show 55 = 5 from hh) (by decide))
        have htot : (bb ++ entsB es).length = bb.length + 64 * (m + 1) := by rw [List.length_append, hel]
        have hro : rightOf kind machine bb.length ((m : Int) + 1) (m : Int) ((bb ++ entsB es).length : Int) = may := by
          rw [HMY.out, htot]
          unfold rightOf
          rw [decide_eq_true (show 1 ≤ ((m : Int) + 1) ∧ ((m : Int) + 1) ≤ 64 by omega), decide_eq_true (show 1 ≤ (m : Int) ∧ (m : Int) < (m : Int) + 1 by omega), decide_eq_true (show (0 : Int) ≤ ((bb.length + 64 * (m + 1) : Nat) : Int) ∧ (bb.length : Int) + ((m : Int) + 1) * 64 ≤ ((bb.length + 64 * (m + 1) : Nat) : Int) by omega), Bool.and_true, Bool.and_true, Bool.and_true]
        have HER := Lib.hid (fun W => eright_any kind machine bb.length ((m : Int) + 1) (m : Int) ((bb ++ entsB es).length : Int) W (by unfold two64; omega) (by omega))
        rw [hro] at HER
        generalize hfb : bb ++ entsB es = fb at *
        clear hfb
        have HTOT := Lib.hid htot
        have HOF := Lib.hid hO
        have HBF := Lib.hid (HB3.out.trans hOn.1)
        have hsr := hOn.1.size
        obtain ⟨A8, c8, rfl, _, _, _⟩ := own_slice hO
        have h0 := hXh.cell 0
        have h1 := hXh.cell 1
        have h2 := hXh.cell 2
        have h3 := hXh.cell 3
        have h4 := hXh.cell 4
        simp at h0 h1 h2 h3 h4
        have HXH := Lib.hid hXh
        clear hO hOn hXh hro htk hlt htot hel
        have hMp := HMg.out.pos
        cases may with
        | false =>
          have HE := Lib.hid (show pe = 2 ∧ pr = [] by rw [HPE.out, HPR.out, if_neg (by decide), if_neg (by decide)]; exact ⟨rfl, rfl⟩)
          go_wp2_with (go_at_call 64; refine (HER.out _).mono ?_; rintro r w9 ⟨rfl, hb9⟩)
          go_ret2
          exact ⟨_, by rw [HE.out.1]; rfl, by rw [HE.out.2]; exact World.ownsRow_nil _ _ _ _, HBF.out.trans (hb9.mono HBF.out.size)⟩
        | true =>
          have HE := Lib.hid (show pe = 0 ∧ pr = headB kind machine bb.length ((m + 1 : Nat) : Int) (m : Int) ++ fb.drop 64 by rw [HPE.out, HPR.out, if_pos rfl, if_pos rfl]; exact ⟨rfl, rfl⟩)
          have HPU := Lib.hid (fun W (hW : Below w.heap.size w W) => puth_any kind machine bb.length ((m : Int) + 1) (m : Int) (HMg.out.below hW hMp))
          have hhl := headB_length kind machine bb.length ((m : Int) + 1) (m : Int)
          have hhp : 0 < (headB kind machine bb.length ((m : Int) + 1) (m : Int)).length := by rw [hhl]; decide
          have hhd : (headB kind machine bb.length ((m : Int) + 1) (m : Int)).length ≤ fb.length := by rw [hhl, HTOT.out]; omega
          go_wp2_with (go_at_call 64; refine (HER.out _).mono ?_; rintro r w9 ⟨rfl, hb9⟩; have HB9 := Lib.hid (HBF.out.trans (hb9.mono HBF.out.size)); have HO9 := Lib.hid (own_below HOF.out hb9); have hX9 := HXH.out.below hb9 HXH.out.lt; have k0 := hX9.cell 0; have k1 := hX9.cell 1; have k2 := hX9.cell 2; have k3 := hX9.cell 3; have k4 := hX9.cell 4; simp at k0 k1 k2 k3 k4; clear hX9 hb9 HER HOF h0 h1 h2 h3 h4)
          refine (HPU.out _ HB9.out).mono ?_
          rintro r w10 ⟨v10, rfl, hown10, hb10⟩
          have HE2 := Lib.hid (show headB kind machine bb.length ((m + 1 : Nat) : Int) (m : Int) = headB kind machine bb.length ((m : Int) + 1) (m : Int) from rfl)
          rw [HE2.out] at HE
          clear HE2 HPU
          generalize headB kind machine bb.length ((m : Int) + 1) (m : Int) = hbs at *
          obtain ⟨A10, c10, rfl, _, _, hrd⟩ := own_slice hown10
          obtain ⟨w11, hrun, hown11, hg11⟩ := run_copy_front (P := Tryz.prog) w10 22 3 w.heap.size i0 Tryz.underlying22 hi hz1 _ fb (own_below HO9.out hb10) A10 c10 _ hbs hrd hhp hhd
          have HO11 := Lib.hid hown11
          have ht11 := row_turns (own_below HO9.out hb10) hg11 (Nat.le_trans HB9.out.size hb10.size)
          have HB11 := Lib.hid ((HB9.out.trans (hb10.mono HB9.out.size)).trans ht11.1)
          rw [hhl] at HO11 hrun ⊢
          clear hown11 hg11 ht11 hown10 hrd
          go_wp2_with fail
          go_ret2
          exact ⟨_, by rw [HE.out.1]; rfl, by rw [HE.out.2]; exact HO11.out, HB11.out⟩

end Go.Proofs.YtldmjnbmjfnfeaaGreatDoor

namespace Go.Proofs.YtldmjnbmjfnfeaaGreatDoor
open Go Go.RowKit

/-! ### Sections that were told fit -/
theorem atT_small (l : List UInt8) (o : Nat) : (atT l o).1.length ≤ 200 := by
  unfold atT
  split
  · rcases readT_cases (l.drop o) with ⟨_, e⟩ | ⟨_, _, e⟩ | ⟨_, h, e⟩ <;> rw [e]
    · simp
    · simp
    · exact Nat.le_trans (List.length_take_le _ _) h
  · simp
theorem sectT_fits {l tbl : List UInt8} {o : Nat} (h : entE (entN l o) l.length = 0) : (sectT l tbl (entN l o)).Fits := by
  have hlt := entN_lt l o
  have hdl := dataT_len l _ (entN_length l o) h
  obtain ⟨b0, b1, b2, b3, b4, b5, b6, b7, b8, b9, h10⟩ : ∃ a0 a1 a2 a3 a4 a5 a6 a7 a8 a9 : Nat, entN l o = [a0, a1, a2, a3, a4, a5, a6, a7, a8, a9] := ⟨_, _, _, _, _, _, _, _, _, _, rfl⟩
  rw [h10] at h hlt hdl ⊢
  have hsm := entE_small h
  simp only [smallN, List.all_cons, List.all_nil, Bool.and_true, Bool.and_eq_true, decide_eq_true_eq] at hsm
  obtain ⟨h6, h7, h8, h9, h1⟩ := hsm
  have e : sectT l tbl [b0, b1, b2, b3, b4, b5, b6, b7, b8, b9] = ⟨(atT tbl b0).1, (b1 : Int), b2, b3, dataT l [b0, b1, b2, b3, b4, b5, b6, b7, b8, b9], (b6 : Int), (b7 : Int), (b8 : Int), (b9 : Int)⟩ := rfl
  rw [e]
  exact ⟨by unfold InI; simp only; omega, by unfold InI; simp only; omega, by unfold InI; simp only; omega, by unfold InI; simp only; omega, by unfold InI; simp only; omega, hlt b2 (by simp), hlt b3 (by simp), Nat.le_trans hdl (by decide), Nat.le_trans (atT_small tbl b0) (by decide)⟩
theorem secL_fits (l : List UInt8) : ∀ s ∈ secL l, s.Fits := by
  intro s hs
  by_cases h : secE l = 0
  · unfold secL at hs
    rw [if_pos h] at hs
    obtain ⟨i, hi, rfl⟩ := List.mem_map.1 hs
    have h2 : errUp l (offT l) (cntT l) = 0 := by
      unfold secE at h
      split at h
      · cases h
      · split at h
        · rename_i h1; exact absurd h h1
        · split at h
          · rename_i h1; exact absurd h h1
          · rename_i h1; simpa using h1
    exact sectT_fits (errUp_ok h2 i (by simpa using hi))
  · unfold secL at hs
    rw [if_neg h] at hs
    cases hs

end Go.Proofs.YtldmjnbmjfnfeaaGreatDoor

namespace Go.Proofs.YtldmjnbmjfnfeaaGreatDoor
open Go Go.RowKit

/-! ### Objects in memory -/
def RLay.cells1 (q : RLay) : List Value := [q.val]
theorem rlay_one (q : RLay) : q.cells1.length = 1 := rfl
theorem rlay_map (Q : List RLay) : cellsF RLay.cells1 Q = Q.map RLay.val := by
  induction Q with
  | nil => rfl
  | cons q Q ih => simp only [cellsF, List.flatMap_cons, List.map_cons] at ih ⊢; rw [ih]; rfl
/-- Rows of relocations that lie side by side. -/
structure Lists (w : World) (B : Nat) (a : Option Addr) (Q : List RLay) : Prop where
  row : Row 1 RLay.cells1 w B a Q
  rels : ∀ q ∈ Q, Rels w B q.a q.l
theorem Lists.below {w w' : World} {B : Nat} {a : Option Addr} {Q : List RLay} (h : Lists w B a Q) (hb : Below B w w') : Lists w' B a Q := ⟨h.row.below hb, fun q hq => (h.rels q hq).below hb⟩
theorem Lists.more {w : World} {B B' : Nat} {a : Option Addr} {Q : List RLay} (h : Lists w B a Q) (hB : B ≤ B') : Lists w B' a Q := ⟨h.row.more hB, fun q hq => (h.rels q hq).more hB⟩
/-- One of the rows: its value where it lies. -/
theorem Lists.at_ {w : World} {B : Nat} {a : Option Addr} {Q : List RLay} (h : Lists w B a Q) {i : Nat} {q : RLay} (hq : Q[i]? = some q) : ∃ b o, a = some ⟨b, o, none⟩ ∧ b < B ∧ w.cell? ⟨b, o + i, none⟩ = some (.slice q.a q.l.length q.c) := by
  have hl : 0 < Q.length := by have := (List.getElem?_eq_some_iff.1 hq).1; omega
  obtain ⟨b, o, e, hlt, hc⟩ := h.row hl
  have := hc i q hq 0 _ rfl
  rw [Nat.mul_one, Nat.add_zero] at this
  exact ⟨b, o, e, hlt, this⟩
/-- An object, with where its rows are. -/
structure ObjV where
  kind : Int
  machine : Int
  aS : Option Addr
  cS : Nat
  L : List Lay
  aY : Option Addr
  cY : Nat
  Y : List Sym
  aR : Option Addr
  cR : Nat
  Q : List RLay
def ObjV.cells (o : ObjV) : List Value := [.int .i64 o.kind, .int .i64 o.machine, .slice o.aS o.L.length o.cS, .slice o.aY o.Y.length o.cY, .slice o.aR o.Q.length o.cR]
def ObjV.val (o : ObjV) : Value := .agg o.cells.toArray
structure ObjV.Ok (w : World) (B : Nat) (o : ObjV) : Prop where
  secs : Secs w B o.aS o.L
  syms : Syms w B o.aY o.Y
  lists : Lists w B o.aR o.Q
  capS : o.L.length ≤ o.cS
  capR : o.Q.length ≤ o.cR
theorem ObjV.Ok.below {w w' : World} {B : Nat} {o : ObjV} (h : o.Ok w B) (hb : Below B w w') : o.Ok w' B := ⟨h.secs.below hb, Row.below h.syms hb, h.lists.below hb, h.capS, h.capR⟩
theorem ObjV.Ok.more {w : World} {B B' : Nat} {o : ObjV} (h : o.Ok w B) (hB : B ≤ B') : o.Ok w B' := ⟨h.secs.more hB, Row.more h.syms hB, h.lists.more hB, h.capS, h.capR⟩
def noneO : ObjV := ⟨0, 0, none, 0, [], none, 0, [], none, 0, []⟩
theorem noneO_ok (w : World) (B : Nat) : noneO.Ok w B := ⟨⟨fun h => absurd h (by decide), fun x hx => by cases hx⟩, fun h => absurd h (by decide), ⟨fun h => absurd h (by decide), fun q hq => by cases hq⟩, Nat.le_refl _, Nat.le_refl _⟩

/-! ### A struct of five cells -/
section
variable {W : World} {H : Nat} {T : TypeId}
theorem five_cells {c0 c1 c2 c3 c4 : Value} (h : Box W H T #[c0, c1, c2, c3, c4]) : W.cell? ⟨H, 0, none⟩ = some c0 ∧ W.cell? ⟨H, 1, none⟩ = some c1 ∧ W.cell? ⟨H, 2, none⟩ = some c2 ∧ W.cell? ⟨H, 3, none⟩ = some c3 ∧ W.cell? ⟨H, 4, none⟩ = some c4 := by
  refine ⟨?_, ?_, ?_, ?_, ?_⟩ <;> (rw [h.cell]; rfl)
theorem five_free {cs : Array Value} (h : Box W H T cs) : W.frozen? ⟨H, 0, none⟩ = false ∧ W.frozen? ⟨H, 1, none⟩ = false ∧ W.frozen? ⟨H, 2, none⟩ = false ∧ W.frozen? ⟨H, 3, none⟩ = false ∧ W.frozen? ⟨H, 4, none⟩ = false :=
  ⟨h.free 0, h.free 1, h.free 2, h.free 3, h.free 4⟩
theorem fiveO_box {cs : Array Value} (h : Box W H T cs) (hs : cs.size = 5) (v0 v1 v2 v3 v4 : Value) :
    Box (((((W.setCell ⟨H, 0, none⟩ v0).setCell ⟨H, 1, none⟩ v1).setCell ⟨H, 2, none⟩ v2).setCell ⟨H, 3, none⟩ v3).setCell ⟨H, 4, none⟩ v4) H T #[v0, v1, v2, v3, v4] := by
  obtain ⟨l⟩ := cs
  match l, hs with
  | [c0, c1, c2, c3, c4], _ => simpa using ((((h.set 0 v0).set 1 v1).set 2 v2).set 3 v3).set 4 v4
theorem five_only (W : World) (H : Nat) (v0 v1 v2 v3 v4 : Value) :
    W.grownBy (((((W.setCell ⟨H, 0, none⟩ v0).setCell ⟨H, 1, none⟩ v1).setCell ⟨H, 2, none⟩ v2).setCell ⟨H, 3, none⟩ v3).setCell ⟨H, 4, none⟩ v4) (some H) :=
  only_set (only_set (only_set (only_set (only_set (only_refl W (some H)) 0 v0) 1 v1) 2 v2) 3 v3) 4 v4
end

/-! ### What bytes tell -/
def kindT (l : List UInt8) : Int := (numT (l.take 64) 16 2 : Int)
def machT (l : List UInt8) : Int := (numT (l.take 64) 18 2 : Int)
def symX (S : List Sect) : Int := if placeS S < 0 then 0 else symsE S (placeS S).toNat
def symY (S : List Sect) : List Sym := if placeS S < 0 then [] else symsL S (placeS S).toNat
/-- Why sections are no object. -/
def objS (S : List Sect) : Int := if placeS S = -2 then 23 else if symX S ≠ 0 then symX S else relUp S (placeS S) (symY S).length S.length
/-- Why bytes are none. -/
def objE (l : List UInt8) : Int := if secE l ≠ 0 then secE l else objS (secL l)
theorem secL_is (l : List UInt8) : (secE l = 0 ∧ secL l = secsT l (offT l) (cntT l) (shsT l) ∧ entN l (offT l) = List.replicate 10 0 ∧ cntT l ≤ 64 ∧ secH l = hdV (kindT l) (machT l) (offT l) (cntT l : Int) (shsT l : Int)) ∨ (secE l ≠ 0 ∧ secL l = []) := by
  by_cases h : secE l = 0
  · left
    have h1 : secL l = secsT l (offT l) (cntT l) (shsT l) := by unfold secL; rw [if_pos h]
    have hh := h
    unfold secE at hh
    split at hh
    · cases hh
    · split at hh
      · rename_i hx; exact absurd hh hx
      · rename_i hx
        have ht : takeE l = 0 := by simpa using hx
        obtain ⟨_, hn, _, _, _, _, _, hH⟩ := take_facts ht
        split at hh
        · rename_i hy; exact absurd hh hy
        · unfold tellE at hh
          split at hh
          · rename_i hz
            exact ⟨h, h1, hz.1, hn, by unfold secH; rw [if_pos h]; exact hH⟩
          · cases hh
  · right
    exact ⟨h, by unfold secL; rw [if_neg h]⟩
theorem secL_nn (l : List UInt8) : ∀ s ∈ secL l, 0 ≤ s.link ∧ 0 ≤ s.inf := by
  intro s hs
  rcases secL_is l with ⟨_, h, _⟩ | ⟨_, h⟩
  · rw [h] at hs
    obtain ⟨i, hi, rfl⟩ := List.mem_map.1 hs
    unfold sectT
    simp only
    omega
  · rw [h] at hs; cases hs
theorem secL_first (l : List UInt8) : ∀ s, (secL l)[0]? = some s → s.kind ≠ 2 := by
  intro s hs
  rcases secL_is l with ⟨_, h, he, _⟩ | ⟨_, h⟩
  · rw [h] at hs
    unfold secsT at hs
    rw [List.getElem?_map] at hs
    rcases hr : (List.range (cntT l))[0]? with _ | i
    · rw [hr] at hs; cases hs
    · have hi0 : i = 0 := by
        have := List.getElem?_eq_some_iff.1 hr
        obtain ⟨h1, h2⟩ := this
        simpa using h2.symm
      subst hi0
      rw [hr] at hs
      injection hs with hs
      rw [← hs]
      show ((kindN (entN l (offT l + 64 * 0)) : Nat) : Int) ≠ 2
      rw [Nat.mul_zero, Nat.add_zero, he]
      decide
  · rw [h] at hs; cases hs
theorem secL_length (l : List UInt8) : (secL l).length ≤ 64 := by
  rcases secL_is l with ⟨_, h, _, hn, _⟩ | ⟨_, h⟩
  · rw [h]; unfold secsT; simpa using hn
  · rw [h]; simp
theorem placeIs (S : List Sect) (h : placeS S ≠ -2) (h0 : ∀ s, S[0]? = some s → s.kind ≠ 2) : ∃ t : Nat, tabI S = (t : Int) ∧ tabE S = 0 ∧ PlaceIs t (placeS S) ∧ ((t = 0 ∧ placeS S < 0) ∨ (0 < t ∧ placeS S = (t : Int) ∧ ∃ s, S[t]? = some s)) := by
  rcases placeK_at S S.length with h1 | h1 | ⟨j, s, hj, h1, hs, hk⟩
  · exact ⟨0, by unfold tabI placeS; rw [h1]; rfl, by unfold tabE; rw [if_neg h], .inl ⟨rfl, h1⟩, .inl ⟨rfl, by unfold placeS; omega⟩⟩
  · exact absurd h1 h
  · have hj0 : 0 < j := by
      rcases Nat.eq_zero_or_pos j with e | e
      · subst e; exact absurd hk (h0 s hs)
      · exact e
    have h2 : placeS S = (j : Int) := h1
    exact ⟨j, by unfold tabI; rw [h2, if_neg (by omega)], by unfold tabE; rw [if_neg h], .inr ⟨hj0, h1⟩, .inr ⟨hj0, h1, s, hs⟩⟩

/-- What takeSyms tells, table or none. -/
theorem tsyms_all {w : World} {a : Option Addr} {L : List Lay} (h : Secs w w.heap.size a L) (c t : Nat) (ht : (t = 0 ∧ placeS (secsOf L) < 0) ∨ (0 < t ∧ placeS (secsOf L) = (t : Int) ∧ ∃ s, (secsOf L)[t]? = some s)) (hn : ∀ s ∈ secsOf L, 0 ≤ s.link) :
    Calls Tryz.prog 21 #[.slice a L.length c, .int .i64 (t : Int)] w fun r w' => ∃ u, r = .returned (.tuple #[u, .int .i64 (symX (secsOf L))]) ∧ OwnY w' w.heap.size u (symY (secsOf L)) ∧ Below w.heap.size w w' := by
  rcases ht with ⟨rfl, h1⟩ | ⟨h0, h1, s, hs⟩
  · refine (tsyms_none a L.length c).mono fun r w' hh => ?_
    obtain ⟨rfl, rfl⟩ := hh
    refine ⟨.slice none 0 0, ?_, ?_, Below.refl _ _⟩
    · rw [symX, if_pos h1]
    · rw [symY, if_pos h1]; exact World.ownsRow_nil _ _ _ _
  · obtain ⟨x, hx, rfl⟩ := secsOf_get hs
    have e1 : symX (secsOf L) = symsE (secsOf L) t := by rw [symX, h1, if_neg (by omega)]; rfl
    have e2 : symY (secsOf L) = symsL (secsOf L) t := by rw [symY, h1, if_neg (by omega)]; rfl
    rw [e1, e2]
    exact tsyms_any h c t h0 hx (hn _ (List.mem_of_getElem? hs))

end Go.Proofs.YtldmjnbmjfnfeaaGreatDoor

namespace Go.Proofs.YtldmjnbmjfnfeaaGreatDoor
open Go Go.RowKit

theorem tab_fits : (⟨shstrN, 3, 0, 0, [], 0, 0, 0, 0⟩ : Sect).Fits := ⟨by unfold InI; simp only; omega, by unfold InI; simp only; omega, by unfold InI; simp only; omega, by unfold InI; simp only; omega, by unfold InI; simp only; omega, by decide, by decide, by decide, by decide⟩
/-- The section of names, as it is made. -/
def tabS : Sect := ⟨shstrN, 3, 0, 0, [], 0, 0, 0, 0⟩
theorem right_pair (s : Sect) : rightS [s, tabS] = sameS s zeroS := by
  have h1 : findS [s, tabS] shstrN = 1 := findS_some (k := 1) (s := tabS) rfl (by decide) rfl (fun j x hj hj0 _ => by omega)
  have h2 : okAll [tabS] = true := by decide
  unfold rightS
  rw [h1]
  simp [tabS] at h2 ⊢
  rw [h2]
  simp
/-- The first section and the section of names, side by side. -/
def pairL (x : Lay) : List Lay := [x, ⟨tabS, none, 0⟩]
theorem pair_secs {w : World} {x : Lay} (hx : x.Ok w w.heap.size) : Secs (w.alloc (.cells (cellsL (pairL x)).toArray 39)) (w.heap.size + 1) (some ⟨w.heap.size, 0, none⟩) (pairL x) :=
  ⟨fun _ => ⟨w.heap.size, 0, rfl, by omega, fun i y hy j v hv => by
    rw [(Box.new w 39 (cellsL (pairL x)).toArray).cell, Nat.zero_add]
    simpa using cellsL_at (pairL x) i y j v hy hv⟩, fun y hy => by
    simp only [pairL, List.mem_cons, List.not_mem_nil, or_false] at hy
    rcases hy with rfl | rfl
    · exact (hx.below ((Below.refl _ _).alloc (Nat.le_refl _) _)).more (by omega)
    · exact ⟨Rd.nil_, Nat.le_refl _, Nat.zero_le _, tab_fits⟩⟩

set_option maxRecDepth 10000 in
set_option maxHeartbeats 1600000 in
theorem zero_any {w : World} (x : Lay) (hx : x.Ok w w.heap.size) : Calls Tryz.prog 37 #[x.val] w fun r w' => r = .returned (.bool (sameS x.s zeroS)) ∧ Below w.heap.size w w' := by
  have hb0 : Below w.heap.size w (w.alloc (.cells x.cells.toArray 39)) := (Below.refl _ _).alloc (Nat.le_refl _) _
  have hP := pair_secs ((hx.below hb0).more hb0.size)
  have hb1 : Below w.heap.size w ((w.alloc (.cells x.cells.toArray 39)).alloc (.cells (cellsL (pairL x)).toArray 39)) := hb0.alloc (by simp) _
  have hR := sright_any (hP.more (B' := ((w.alloc (.cells x.cells.toArray 39)).alloc (.cells (cellsL (pairL x)).toArray 39)).heap.size) (by simp)) 2 (by simp [pairL]) (by simp [pairL])
  rw [show secsOf (pairL x) = [x.s, tabS] from rfl, right_pair, show (pairL x).length = 2 from rfl] at hR
  have hlit : (cellsL (pairL x)).toArray = #[.string ⟨x.s.name.toArray⟩, .int .i64 x.s.kind, .int .u64 (x.s.flags : Int), .int .u64 (x.s.addr : Int), .slice x.A x.s.data.length x.c, .int .i64 x.s.link, .int .i64 x.s.inf, .int .i64 x.s.algn, .int .i64 x.s.ent, .string ⟨#[46, 115, 104, 115, 116, 114, 116, 97, 98]⟩, .int .i64 3, .int .u64 0, .int .u64 0, .slice none 0 0, .int .i64 0, .int .i64 0, .int .i64 0, .int .i64 0] := rfl
  rw [hlit, show x.cells.toArray = #[.string ⟨x.s.name.toArray⟩, .int .i64 x.s.kind, .int .u64 (x.s.flags : Int), .int .u64 (x.s.addr : Int), .slice x.A x.s.data.length x.c, .int .i64 x.s.link, .int .i64 x.s.inf, .int .i64 x.s.algn, .int .i64 x.s.ent] from rfl] at hR hb1
  rw [show (w.alloc (.cells #[.string ⟨x.s.name.toArray⟩, .int .i64 x.s.kind, .int .u64 (x.s.flags : Int), .int .u64 (x.s.addr : Int), .slice x.A x.s.data.length x.c, .int .i64 x.s.link, .int .i64 x.s.inf, .int .i64 x.s.algn, .int .i64 x.s.ent] 39)).heap.size = w.heap.size + 1 by simp] at hR
  rw [lay_cells]
  have HR := Lib.hid hR
  have HB1 := Lib.hid hb1
  clear hb0 hP hb1 hlit hR hx
  generalize sameS x.s zeroS = sz at *
  generalize x.A = dA at *
  generalize x.s.data.length = dn at *
  generalize x.c = dc at *
  generalize ByteArray.mk x.s.name.toArray = sb at *
  generalize x.s.kind = i1 at *
  generalize x.s.link = i2 at *
  generalize x.s.inf = i3 at *
  generalize x.s.algn = i4 at *
  generalize x.s.ent = i5 at *
  generalize x.s.flags = n1 at *
  generalize x.s.addr = n2 at *
  go_enter Tryz.func37, Tryz.ntmps37
  go_wp2_with (go_at_call 60; refine HR.out.mono ?_; rintro r w1 ⟨rfl, hb2⟩)
  go_ret
  exact ⟨rfl, HB1.out.trans (hb2.mono HB1.out.size)⟩

end Go.Proofs.YtldmjnbmjfnfeaaGreatDoor

namespace Go.Proofs.YtldmjnbmjfnfeaaGreatDoor
open Go Go.RowKit

/-- Relocations that an object may not have, if it has n symbols. -/
def badL (n : Nat) (l : List Rel) : Bool := decide (400 < l.length) || !(fitR l n)
/-- Whether an object may be put. -/
def rightRest (n : Nat) (Y : List Sym) (R : List (List Rel)) : Bool := decide (R.length = 0) || (decide (R.length = n) && (decide ((R.headD []).length = 0) && !(R.any (badL Y.length))))
def rightO (S : List Sect) (Y : List Sym) (R : List (List Rel)) : Bool :=
  decide (0 < S.length) && ((S[0]?).any (fun s => sameS s zeroS) && (!(anyMade S) && (rightY Y && (placedY Y S.length && rightRest S.length Y R))))

set_option maxRecDepth 10000 in
set_option maxHeartbeats 1600000 in
theorem right1_any {w : World} {a : Option Addr} {l : List Rel} (h : Rels w w.heap.size a l) (c : Nat) (hl : l.length ≤ 100000) (g n cy : Nat) (aY : Option Addr) (hg : w.cell? ⟨g, 3, none⟩ = some (.slice aY n cy)) :
    Calls Tryz.prog 43 #[.slice a l.length c, .pointer (some ⟨g, 0, none⟩)] w fun r w' => r = .returned (.bool (badL n l)) ∧ Below w.heap.size w w' := by
  have HF := Lib.hid (fit_any h c hl n)
  have HM := Lib.hid (show badL n l = (decide (400 < l.length) || !(fitR l n)) from rfl)
  generalize badL n l = bl at *
  generalize fitR l n = ft at *
  generalize l.length = N at *
  clear h
  go_enter Tryz.func43, Tryz.ntmps43
  by_cases h4 : 400 < N
  · have hd : decide ((400 : Int) < (N : Int)) = true := decide_eq_true (by omega)
    rw [decide_eq_true h4, Bool.true_or] at HM
    clear h4
    go_wp2_with fail
    go_ret
    exact ⟨by rw [HM.out]; rfl, Below.refl _ _⟩
  · have hd : decide ((400 : Int) < (N : Int)) = false := decide_eq_false (by omega)
    rw [decide_eq_false h4, Bool.false_or] at HM
    clear h4
    go_wp2_with (go_at_call 44; refine HF.out.mono ?_; rintro r w1 ⟨rfl, hb1⟩)
    go_ret
    exact ⟨by rw [HM.out]; rfl, hb1⟩


set_option maxRecDepth 10000 in
set_option maxHeartbeats 1600000 in
theorem index_lists {w : World} {a : Option Addr} {Q : List RLay} (h : Lists w w.heap.size a Q) (c : Nat) (hl : Q.length ≤ 100000) (hq : ∀ q ∈ Q, q.l.length ≤ 100000) (g n cy : Nat) (aY : Option Addr) (hg : w.cell? ⟨g, 3, none⟩ = some (.slice aY n cy)) :
    Calls Tryz.prog 76 #[.slice a Q.length c, .func (.func 43) #[] #[.pointer (some ⟨g, 0, none⟩)]] w fun r w' => ∃ k : Int, r = .returned (.int .i64 k) ∧ (decide (0 ≤ k) = (Q.map (·.l)).any (badL n)) ∧ Below w.heap.size w w' := by
  obtain ⟨N, hN⟩ : ∃ N, Q.length = N := ⟨_, rfl⟩
  have HH := Lib.hid h
  have HN := Lib.hid hN
  have HQ := Lib.hid hq
  have hlt : g < w.heap.size := by have := World.block_lt_of_cell? w _ hg; simpa using this
  have HG := Lib.hid (fun (W : World) (hW : Below w.heap.size w W) => (show W.cell? ⟨g, 3, none⟩ = some (.slice aY n cy) by rw [hW.cell (p := ⟨g, 3, none⟩) hlt]; exact hg))
  rw [hN] at hl ⊢
  clear h hN hg hlt hq
  go_enter Tryz.func76, Tryz.ntmps76
  go_wp2_with fail
  go_loopw [8] (fun i wr => ∃ k : Nat, k ≤ N ∧ i = .int .i64 k ∧ Below w.heap.size w wr ∧ Hid (((Q.map (·.l)).take k).any (badL n) = false)) (fun i _ => N - (intOf i).toNat)
  case atStart => exact ⟨0, Nat.zero_le _, rfl, Below.refl _ _, Lib.hid rfl⟩
  case round =>
    obtain ⟨k, hk, rfl, hB, HY⟩ := hrel
    have HB := Lib.hid hB
    by_cases hlt : k < N
    · obtain ⟨q, hx⟩ : ∃ q, Q[k]? = some q := ⟨Q[k]'(by rw [HN.out]; exact hlt), List.getElem?_eq_getElem _⟩
      have hLw := HH.out.below hB
      obtain ⟨b, o, rfl, hb, c0⟩ := hLw.at_ hx
      have hm : (Q.map (·.l))[k]? = some q.l := by rw [List.getElem?_map, hx]; rfl
      have HW := Lib.hid (right1_any (Row.more (hLw.rels q (List.mem_of_getElem? hx)) hB.size) q.c (HQ.out q (List.mem_of_getElem? hx)) g n cy aY (HG.out wr hB))
      by_cases hst : badL n q.l = true
      · have HF := Lib.hid (all_false_not (badL n) _ k q.l hm hst)
        rw [hst] at HW
        clear hx hst hB hm hLw
        generalize q.l.length = qn at *
        go_wp2_with (go_at_call 43; refine HW.out.mono ?_; rintro r w1 ⟨rfl, hb1⟩)
        have HB1 := Lib.hid (HB.out.trans (hb1.mono HB.out.size))
        go_ret
        exact ⟨k, rfl, by rw [HF.out]; exact decide_eq_true (by omega), HB1.out⟩
      · have hst' : badL n q.l = false := by simpa using hst
        have HF := Lib.hid (any_take (badL n) _ k q.l hm HY.out hst')
        rw [hst'] at HW
        clear hx hst hB hst' hm hLw
        generalize q.l.length = qn at *
        go_wp2_with (go_at_call 43; refine HW.out.mono ?_; rintro r w1 ⟨rfl, hb1⟩)
        have HB1 := Lib.hid (HB.out.trans (hb1.mono HB.out.size))
        go_roundw
        case rel => exact ⟨k + 1, by omega, by go_num, HB1.out, HF⟩
        case measure => simp [intOf]; omega
    · have HF := Lib.hid (show (Q.map (·.l)).any (badL n) = false by
        have := HY.out
        rwa [List.take_of_length_le (by simp; rw [HN.out]; omega)] at this)
      clear hB
      go_wp2_with fail
      go_ret
      exact ⟨-1, rfl, by rw [HF.out]; rfl, HB.out⟩

set_option maxRecDepth 10000 in
theorem contains_lists {w : World} {a : Option Addr} {Q : List RLay} (h : Lists w w.heap.size a Q) (c : Nat) (hl : Q.length ≤ 100000) (hq : ∀ q ∈ Q, q.l.length ≤ 100000) (g n cy : Nat) (aY : Option Addr) (hg : w.cell? ⟨g, 3, none⟩ = some (.slice aY n cy)) :
    Calls Tryz.prog 42 #[.slice a Q.length c, .func (.func 43) #[] #[.pointer (some ⟨g, 0, none⟩)]] w fun r w' => r = .returned (.bool ((Q.map (·.l)).any (badL n))) ∧ Below w.heap.size w w' := by
  have HI := Lib.hid (index_lists h c hl hq g n cy aY hg)
  clear h hl hq hg
  generalize (Q.map (·.l)).any (badL n) = ok at *
  generalize Q.length = N at *
  go_enter Tryz.func42, Tryz.ntmps42
  go_wp2_with (go_at_call 76; refine HI.out.mono ?_; rintro r w1 ⟨k, rfl, hk, hb1⟩)
  go_ret
  exact ⟨by rw [← hk]; rfl, hb1⟩


set_option maxRecDepth 10000 in
set_option maxHeartbeats 6400000 in
theorem oright_any {w : World} (o : ObjV) (h : o.Ok w w.heap.size) (hS : o.L.length ≤ 100000) (hY : o.Y.length ≤ 100000) (hQ : o.Q.length ≤ 100000) (hq : ∀ q ∈ o.Q, q.l.length ≤ 100000) :
    Calls Tryz.prog 13 #[o.val] w fun r w' => r = .returned (.bool (rightO (secsOf o.L) o.Y (o.Q.map (·.l)))) ∧ Below w.heap.size w w' := by
  obtain ⟨kd, mc, aS, cS, L, aY, cY, Y, aR, cR, Q⟩ := o
  rw [show ObjV.val ⟨kd, mc, aS, cS, L, aY, cY, Y, aR, cR, Q⟩ = .agg #[.int .i64 kd, .int .i64 mc, .slice aS L.length cS, .slice aY Y.length cY, .slice aR Q.length cR] from rfl]
  obtain ⟨hs, hy, hl, hcS, hcR⟩ := h
  simp only at hs hy hl hcS hcR hS hY hQ hq ⊢
  have hmf := ob_func
  have hb0 : Below w.heap.size w (w.alloc (.cells #[.int .i64 kd, .int .i64 mc, .slice aS L.length cS, .slice aY Y.length cY, .slice aR Q.length cR] 28)) := (Below.refl _ _).alloc (Nat.le_refl _) _
  have hX0 := Box.new w 28 #[.int .i64 kd, .int .i64 mc, .slice aS L.length cS, .slice aY Y.length cY, .slice aR Q.length cR]
  have KX := Lib.hid (fun W (hW : Below (w.alloc (.cells #[.int .i64 kd, .int .i64 mc, .slice aS L.length cS, .slice aY Y.length cY, .slice aR Q.length cR] 28)).heap.size (w.alloc (.cells #[.int .i64 kd, .int .i64 mc, .slice aS L.length cS, .slice aY Y.length cY, .slice aR Q.length cR] 28)) W) => five_cells (hX0.below hW (by simp)))
  have hsl : (secsOf L).length = L.length := by simp
  have hw1 : ∀ W, Below (w.alloc (.cells #[.int .i64 kd, .int .i64 mc, .slice aS L.length cS, .slice aY Y.length cY, .slice aR Q.length cR] 28)).heap.size (w.alloc (.cells #[.int .i64 kd, .int .i64 mc, .slice aS L.length cS, .slice aY Y.length cY, .slice aR Q.length cR] 28)) W → Below w.heap.size w W := fun W hW => hb0.trans (hW.mono hb0.size)
  have HW1 := Lib.hid hw1
  have HMA := Lib.hid (fun W hW => contains_made ((hs.below (hw1 W hW)).more (hw1 W hW).size) cS hS)
  have HRY := Lib.hid (fun W hW => yright_any (Row.more (Row.below hy (hw1 W hW)) (hw1 W hW).size) cY hY)
  have HPL := Lib.hid (fun W hW => placed_any (Row.more (Row.below hy (hw1 W hW)) (hw1 W hW).size) cY hY L.length)
  have HCL := Lib.hid (fun W hW => contains_lists ((hl.below (hw1 W hW)).more (hw1 W hW).size) cR hQ hq w.heap.size Y.length cY aY (KX.out W hW).2.2.2.1)
  have HE := Lib.hid (show rightO (secsOf L) Y (Q.map (·.l)) = (decide (0 < (secsOf L).length) && (((secsOf L)[0]?).any (fun s => sameS s zeroS) && (!(anyMade (secsOf L)) && (rightY Y && (placedY Y (secsOf L).length && rightRest (secsOf L).length Y (Q.map (·.l))))))) from rfl)
  generalize rightO (secsOf L) Y (Q.map (·.l)) = res at *
  rw [hsl] at HE
  by_cases h0 : L.length = 0
  · have HF := Lib.hid (show res = false by rw [HE.out, h0]; rfl)
    have hd : ((L.length : Int) == 0) = true := by simp [h0]
    have HB0 := Lib.hid hb0
    clear HMA HRY HPL HCL HE hs hy hl hsl KX hX0 hb0 hw1 HW1 h0
    generalize L.length = n at *
    generalize Y.length = ny at *
    generalize Q.length = nr at *
    go_enter Tryz.func13, Tryz.ntmps13
    go_wp2_with fail
    go_ret
    exact ⟨by rw [HF.out]; rfl, HB0.out⟩
  · obtain ⟨x, hx⟩ : ∃ x, L[0]? = some x := ⟨L[0]'(by omega), List.getElem?_eq_getElem _⟩
    have hd : ((L.length : Int) == 0) = false := beq_eq_false_iff_ne.2 (by omega)
    have hpos : 0 < L.length := by omega
    have hposI : (0 : Int) < (L.length : Int) := by omega
    have hs1 := (hs.below hb0).more hb0.size
    have HZ := Lib.hid (zero_any x (hs1.get hx))
    rw [lay_cells] at HZ
    obtain ⟨b, oo, rfl, hb, c0, c1, c2, c3, c4, c5, c6, c7, c8⟩ := hs1.at_ hx
    rw [Nat.zero_mul, Nat.add_zero] at c0 c1 c2 c3 c4 c5 c6 c7 c8
    rw [decide_eq_true hpos, Bool.true_and, get_secsOf hx, Option.any_some] at HE
    have HB0 := Lib.hid (Below.refl (w.alloc (.cells #[.int .i64 kd, .int .i64 mc, .slice (some ⟨b, oo, none⟩) L.length cS, .slice aY Y.length cY, .slice aR Q.length cR] 28)).heap.size (w.alloc (.cells #[.int .i64 kd, .int .i64 mc, .slice (some ⟨b, oo, none⟩) L.length cS, .slice aY Y.length cY, .slice aR Q.length cR] 28)))
    obtain ⟨x0, x1, x2, x3, x4⟩ := KX.out _ HB0.out
    have HRR := Lib.hid (show rightRest L.length Y (Q.map (·.l)) = (decide (Q.length = 0) || (decide (Q.length = L.length) && (decide (((Q.map (·.l)).headD []).length = 0) && !((Q.map (·.l)).any (badL Y.length))))) by unfold rightRest; rw [List.length_map])
    have HL0 := Lib.hid (fun (W : World) (hW : Below (w.alloc (.cells #[.int .i64 kd, .int .i64 mc, .slice (some ⟨b, oo, none⟩) L.length cS, .slice aY Y.length cY, .slice aR Q.length cR] 28)).heap.size (w.alloc (.cells #[.int .i64 kd, .int .i64 mc, .slice (some ⟨b, oo, none⟩) L.length cS, .slice aY Y.length cY, .slice aR Q.length cR] 28)) W) (q : RLay) (hq0 : Q[0]? = some q) => (hl.below (HW1.out W hW)).at_ hq0)
    generalize rightRest L.length Y (Q.map (·.l)) = rr at *
    generalize sameS x.s zeroS = b1 at *
    generalize anyMade (secsOf L) = b2 at *
    generalize rightY Y = b3 at *
    generalize placedY Y L.length = b4 at *
    generalize (Q.map (·.l)).any (badL Y.length) = b5 at *
    clear hx hs1 hs hy hsl hb0 hX0 hw1
    generalize x.A = dA at *
    generalize x.s.data.length = dn at *
    generalize x.c = dc at *
    generalize ByteArray.mk x.s.name.toArray = sb at *
    generalize Y.length = ny at *
    generalize hnr : Q.length = nr at *
    have HNR := Lib.hid hnr
    clear hnr
    generalize L.length = n at *
    go_enter Tryz.func13, Tryz.ntmps13
    cases b1 with
    | false =>
      have HF := Lib.hid (show res = false by rw [HE.out]; rfl)
      clear HMA HRY HPL HCL HE hl HRR HL0
      go_wp2_with (go_at_call 37; refine HZ.out.mono ?_; rintro r w1 ⟨rfl, hb1⟩; have HB1 := Lib.hid (HB0.out.trans (hb1.mono HB0.out.size)); (obtain ⟨x0, x1, x2, x3, x4⟩ := KX.out _ HB1.out); clear hb1 HZ)
      go_ret
      exact ⟨by rw [HF.out]; rfl, HW1.out _ HB1.out⟩
    | true =>
      cases b2 with
      | true =>
        have HF := Lib.hid (show res = false by rw [HE.out]; rfl)
        clear HRY HPL HCL HE hl HRR HL0
        go_wp2_with (first
          | (go_at_call 37; refine HZ.out.mono ?_; rintro r w1 ⟨rfl, hb1⟩; have HB1 := Lib.hid (HB0.out.trans (hb1.mono HB0.out.size)); (obtain ⟨x0, x1, x2, x3, x4⟩ := KX.out _ HB1.out); clear hb1 HZ)
          | (go_at_call 38; refine (HMA.out _ HB1.out).mono ?_; rintro r w2 ⟨rfl, hb2⟩; have HB2 := Lib.hid (HB1.out.trans (hb2.mono HB1.out.size)); clear x0 x1 x2 x3 x4; (obtain ⟨x0, x1, x2, x3, x4⟩ := KX.out _ HB2.out); clear hb2 HMA))
        go_ret
        exact ⟨by rw [HF.out]; rfl, HW1.out _ HB2.out⟩
      | false =>
        cases b3 with
        | false =>
          have HF := Lib.hid (show res = false by rw [HE.out]; rfl)
          clear HPL HCL HE hl HRR HL0
          go_wp2_with (first
            | (go_at_call 37; refine HZ.out.mono ?_; rintro r w1 ⟨rfl, hb1⟩; have HB1 := Lib.hid (HB0.out.trans (hb1.mono HB0.out.size)); (obtain ⟨x0, x1, x2, x3, x4⟩ := KX.out _ HB1.out); clear hb1 HZ)
            | (go_at_call 38; refine (HMA.out _ HB1.out).mono ?_; rintro r w2 ⟨rfl, hb2⟩; have HB2 := Lib.hid (HB1.out.trans (hb2.mono HB1.out.size)); clear x0 x1 x2 x3 x4; (obtain ⟨x0, x1, x2, x3, x4⟩ := KX.out _ HB2.out); clear hb2 HMA)
            | (go_at_call 40; refine (HRY.out _ HB2.out).mono ?_; rintro r w3 ⟨rfl, hb3⟩; have HB3 := Lib.hid (HB2.out.trans (hb3.mono HB2.out.size)); clear x0 x1 x2 x3 x4; (obtain ⟨x0, x1, x2, x3, x4⟩ := KX.out _ HB3.out); clear hb3 HRY))
          go_ret
          exact ⟨by rw [HF.out]; rfl, HW1.out _ HB3.out⟩
        | true =>
          cases b4 with
          | false =>
            have HF := Lib.hid (show res = false by rw [HE.out]; rfl)
            clear HCL HE hl HRR HL0
            go_wp2_with (first
              | (go_at_call 37; refine HZ.out.mono ?_; rintro r w1 ⟨rfl, hb1⟩; have HB1 := Lib.hid (HB0.out.trans (hb1.mono HB0.out.size)); (obtain ⟨x0, x1, x2, x3, x4⟩ := KX.out _ HB1.out); clear hb1 HZ)
              | (go_at_call 38; refine (HMA.out _ HB1.out).mono ?_; rintro r w2 ⟨rfl, hb2⟩; have HB2 := Lib.hid (HB1.out.trans (hb2.mono HB1.out.size)); clear x0 x1 x2 x3 x4; (obtain ⟨x0, x1, x2, x3, x4⟩ := KX.out _ HB2.out); clear hb2 HMA)
              | (go_at_call 40; refine (HRY.out _ HB2.out).mono ?_; rintro r w3 ⟨rfl, hb3⟩; have HB3 := Lib.hid (HB2.out.trans (hb3.mono HB2.out.size)); clear x0 x1 x2 x3 x4; (obtain ⟨x0, x1, x2, x3, x4⟩ := KX.out _ HB3.out); clear hb3 HRY)
              | (go_at_call 41; refine (HPL.out _ HB3.out).mono ?_; rintro r w4 ⟨rfl, hb4⟩; have HB4 := Lib.hid (HB3.out.trans (hb4.mono HB3.out.size)); clear x0 x1 x2 x3 x4; (obtain ⟨x0, x1, x2, x3, x4⟩ := KX.out _ HB4.out); have HW4 := Lib.hid HB4.out; clear hb4 HPL))
            go_ret
            exact ⟨by rw [HF.out]; rfl, HW1.out _ HB4.out⟩
          | true =>
            have HE2 := Lib.hid (show res = rr by rw [HE.out]; rfl)
            clear HE
            by_cases hr0 : nr = 0
            · have e0 : ((nr : Int) == 0) = true := by simp [hr0]
              have HF := Lib.hid (show res = true by rw [HE2.out, HRR.out, decide_eq_true hr0]; rfl)
              clear hr0 HCL hl HRR HL0 HE2
              go_wp2_with (first
                | (go_at_call 37; refine HZ.out.mono ?_; rintro r w1 ⟨rfl, hb1⟩; have HB1 := Lib.hid (HB0.out.trans (hb1.mono HB0.out.size)); (obtain ⟨x0, x1, x2, x3, x4⟩ := KX.out _ HB1.out); clear hb1 HZ)
                | (go_at_call 38; refine (HMA.out _ HB1.out).mono ?_; rintro r w2 ⟨rfl, hb2⟩; have HB2 := Lib.hid (HB1.out.trans (hb2.mono HB1.out.size)); clear x0 x1 x2 x3 x4; (obtain ⟨x0, x1, x2, x3, x4⟩ := KX.out _ HB2.out); clear hb2 HMA)
                | (go_at_call 40; refine (HRY.out _ HB2.out).mono ?_; rintro r w3 ⟨rfl, hb3⟩; have HB3 := Lib.hid (HB2.out.trans (hb3.mono HB2.out.size)); clear x0 x1 x2 x3 x4; (obtain ⟨x0, x1, x2, x3, x4⟩ := KX.out _ HB3.out); clear hb3 HRY)
                | (go_at_call 41; refine (HPL.out _ HB3.out).mono ?_; rintro r w4 ⟨rfl, hb4⟩; have HB4 := Lib.hid (HB3.out.trans (hb4.mono HB3.out.size)); clear x0 x1 x2 x3 x4; (obtain ⟨x0, x1, x2, x3, x4⟩ := KX.out _ HB4.out); have HW4 := Lib.hid HB4.out; clear hb4 HPL))
              go_ret
              exact ⟨by rw [HF.out]; rfl, HW1.out _ HB4.out⟩
            · have e0 : ((nr : Int) == 0) = false := beq_eq_false_iff_ne.2 (by omega)
              by_cases hrn : nr = n
              · have e1 : ((nr : Int) == (n : Int)) = true := by simp [hrn]
                subst hrn
                obtain ⟨q, hq0⟩ : ∃ q, Q[0]? = some q := ⟨Q[0]'(by rw [HNR.out]; omega), List.getElem?_eq_getElem _⟩
                have hhd : (Q.map (·.l)).headD [] = q.l := by
                  match Q, hq0 with
                  | q' :: _, h => simp at h ⊢; rw [h]
                rw [hhd, decide_eq_false hr0, decide_eq_true rfl, Bool.false_or, Bool.true_and] at HRR
                have HL0q := Lib.hid (fun W hW => HL0.out W hW q hq0)
                clear hq0 hhd HL0 hl
                by_cases hq1 : q.l.length = 0
                · have e2 : ((q.l.length : Int) == 0) = true := by simp [hq1]
                  have HF := Lib.hid (show res = !b5 by rw [HE2.out, HRR.out, decide_eq_true hq1, Bool.true_and])
                  clear hq1 HRR HE2
                  generalize q.l.length = qn at *
                  go_wp2_with (first
                    | (go_at_call 37; refine HZ.out.mono ?_; rintro r w1 ⟨rfl, hb1⟩; have HB1 := Lib.hid (HB0.out.trans (hb1.mono HB0.out.size)); (obtain ⟨x0, x1, x2, x3, x4⟩ := KX.out _ HB1.out); clear hb1 HZ)
                    | (go_at_call 38; refine (HMA.out _ HB1.out).mono ?_; rintro r w2 ⟨rfl, hb2⟩; have HB2 := Lib.hid (HB1.out.trans (hb2.mono HB1.out.size)); clear x0 x1 x2 x3 x4; (obtain ⟨x0, x1, x2, x3, x4⟩ := KX.out _ HB2.out); clear hb2 HMA)
                    | (go_at_call 40; refine (HRY.out _ HB2.out).mono ?_; rintro r w3 ⟨rfl, hb3⟩; have HB3 := Lib.hid (HB2.out.trans (hb3.mono HB2.out.size)); clear x0 x1 x2 x3 x4; (obtain ⟨x0, x1, x2, x3, x4⟩ := KX.out _ HB3.out); clear hb3 HRY)
                    | (go_at_call 41; refine (HPL.out _ HB3.out).mono ?_; rintro r w4 ⟨rfl, hb4⟩; have HB4 := Lib.hid (HB3.out.trans (hb4.mono HB3.out.size)); clear x0 x1 x2 x3 x4; (obtain ⟨x0, x1, x2, x3, x4⟩ := KX.out _ HB4.out); have HW4 := Lib.hid HB4.out; (obtain ⟨b6, o6, rfl, hb6, k0⟩ := HL0q.out _ HB4.out); rw [Nat.add_zero] at k0; clear hb4 HPL HL0q)
                    | (go_at_call 42; refine (HCL.out _ HW4.out).mono ?_; rintro r w5 ⟨rfl, hb5⟩; have HB5 := Lib.hid (HB4.out.trans (hb5.mono HB4.out.size)); clear hb5 HCL))
                  go_ret
                  exact ⟨by rw [HF.out]; rfl, HW1.out _ HB5.out⟩
                · have e2 : ((q.l.length : Int) == 0) = false := beq_eq_false_iff_ne.2 (by omega)
                  have HF := Lib.hid (show res = false by rw [HE2.out, HRR.out, decide_eq_false hq1]; rfl)
                  clear hq1 HRR HE2 HCL
                  generalize q.l.length = qn at *
                  go_wp2_with (first
                    | (go_at_call 37; refine HZ.out.mono ?_; rintro r w1 ⟨rfl, hb1⟩; have HB1 := Lib.hid (HB0.out.trans (hb1.mono HB0.out.size)); (obtain ⟨x0, x1, x2, x3, x4⟩ := KX.out _ HB1.out); clear hb1 HZ)
                    | (go_at_call 38; refine (HMA.out _ HB1.out).mono ?_; rintro r w2 ⟨rfl, hb2⟩; have HB2 := Lib.hid (HB1.out.trans (hb2.mono HB1.out.size)); clear x0 x1 x2 x3 x4; (obtain ⟨x0, x1, x2, x3, x4⟩ := KX.out _ HB2.out); clear hb2 HMA)
                    | (go_at_call 40; refine (HRY.out _ HB2.out).mono ?_; rintro r w3 ⟨rfl, hb3⟩; have HB3 := Lib.hid (HB2.out.trans (hb3.mono HB2.out.size)); clear x0 x1 x2 x3 x4; (obtain ⟨x0, x1, x2, x3, x4⟩ := KX.out _ HB3.out); clear hb3 HRY)
                    | (go_at_call 41; refine (HPL.out _ HB3.out).mono ?_; rintro r w4 ⟨rfl, hb4⟩; have HB4 := Lib.hid (HB3.out.trans (hb4.mono HB3.out.size)); clear x0 x1 x2 x3 x4; (obtain ⟨x0, x1, x2, x3, x4⟩ := KX.out _ HB4.out); have HW4 := Lib.hid HB4.out; (obtain ⟨b6, o6, rfl, hb6, k0⟩ := HL0q.out _ HB4.out); rw [Nat.add_zero] at k0; clear hb4 HPL HL0q))
                  go_ret
                  exact ⟨by rw [HF.out]; rfl, HW1.out _ HB4.out⟩
              · have e1 : ((nr : Int) == (n : Int)) = false := beq_eq_false_iff_ne.2 (by omega)
                have HF := Lib.hid (show res = false by rw [HE2.out, HRR.out, decide_eq_false hr0, decide_eq_false hrn]; rfl)
                clear HCL hl HRR HL0 HE2
                go_wp2_with (first
                  | (go_at_call 37; refine HZ.out.mono ?_; rintro r w1 ⟨rfl, hb1⟩; have HB1 := Lib.hid (HB0.out.trans (hb1.mono HB0.out.size)); (obtain ⟨x0, x1, x2, x3, x4⟩ := KX.out _ HB1.out); clear hb1 HZ)
                  | (go_at_call 38; refine (HMA.out _ HB1.out).mono ?_; rintro r w2 ⟨rfl, hb2⟩; have HB2 := Lib.hid (HB1.out.trans (hb2.mono HB1.out.size)); clear x0 x1 x2 x3 x4; (obtain ⟨x0, x1, x2, x3, x4⟩ := KX.out _ HB2.out); clear hb2 HMA)
                  | (go_at_call 40; refine (HRY.out _ HB2.out).mono ?_; rintro r w3 ⟨rfl, hb3⟩; have HB3 := Lib.hid (HB2.out.trans (hb3.mono HB2.out.size)); clear x0 x1 x2 x3 x4; (obtain ⟨x0, x1, x2, x3, x4⟩ := KX.out _ HB3.out); clear hb3 HRY)
                  | (go_at_call 41; refine (HPL.out _ HB3.out).mono ?_; rintro r w4 ⟨rfl, hb4⟩; have HB4 := Lib.hid (HB3.out.trans (hb4.mono HB3.out.size)); clear x0 x1 x2 x3 x4; (obtain ⟨x0, x1, x2, x3, x4⟩ := KX.out _ HB4.out); have HW4 := Lib.hid HB4.out; clear hb4 HPL))
                go_ret
                exact ⟨by rw [HF.out]; rfl, HW1.out _ HB4.out⟩

end Go.Proofs.YtldmjnbmjfnfeaaGreatDoor

namespace Go.Proofs.YtldmjnbmjfnfeaaGreatDoor
open Go Go.RowKit

theorem ownu_block {w : World} {base : Nat} {u : Value} {l : List Nat} (h : OwnU w base u l) : ∀ x, u.ownBlock = some x → base ≤ x ∧ x < w.heap.size := by
  intro x hx
  rcases h.2 with ⟨rfl, _⟩ | ⟨g, cap, cur, rfl, hb, hg, _⟩
  · simp [Value.ownBlock] at hx
  · have e : g = x := by simpa [Value.ownBlock] using hx
    subst e
    refine ⟨hb, ?_⟩
    rcases Nat.lt_or_ge g w.heap.size with h1 | h1
    · exact h1
    · rw [Array.getElem?_eq_none h1] at hg; cases hg

theorem block_not {u : Value} {n g : Nat} (h : ∀ y, u.ownBlock = some y → n ≤ y) (hg : g < n) : u.ownBlock = none ∨ u.ownBlock ≠ some g := by
  rcases hu : u.ownBlock with _ | y
  · exact .inl rfl
  · refine .inr fun e => ?_
    have h1 := h y hu
    injection e with e
    omega

/-- What goes along in the rounds of entry. -/
structure EntSt (B : Nat) (w wr : World) (g : Nat) (v u : Value) (l : List UInt8) (a j : Nat) : Prop where
  own : OwnU wr w.heap.size u ((entN l a).take j)
  at_ : ∃ p, (j < 10 → offsN[j]? = some p) ∧ (j = 10 → p = 64) ∧ RR B wr g v l (a + p) 0
  grown : w.grownBy wr (some g)
  row : Box wr w.heap.size 3 (sizesN.map fun q : Nat => Value.int .i64 (q : Int)).toArray

set_option maxRecDepth 10000 in
set_option maxHeartbeats 1600000 in
theorem rentry_any {B : Nat} {w : World} {g : Nat} {v : Value} {l : List UInt8} {a : Nat} (h : RR B w g v l a 0) (hlen : l.length ≤ 140737488355328) (hin : a + 64 ≤ l.length) :
    Calls Tryz.prog 53 #[.pointer (some ⟨g, 0, none⟩)] w fun r w' => ∃ u, r = .returned u ∧ OwnU w' w.heap.size u (entN l a) ∧ RR B w' g v l (a + 64) 0 ∧ w.grownBy w' (some g) := by
  obtain ⟨i0, hi, hz0, hz1, hz2⟩ := info_parts u64_info
  have hg := h.1.lt
  have hBg := h.2.2.2
  have hb0 : Below w.heap.size w (w.alloc (.cells #[.int .i64 4, .int .i64 4, .int .i64 8, .int .i64 8, .int .i64 8, .int .i64 8, .int .i64 4, .int .i64 4, .int .i64 8, .int .i64 8] 3)) := (Below.refl _ _).alloc (Nat.le_refl _) _
  have HS := Lib.hid (show EntSt B w (w.alloc (.cells #[.int .i64 4, .int .i64 4, .int .i64 8, .int .i64 8, .int .i64 8, .int .i64 8, .int .i64 4, .int .i64 4, .int .i64 8, .int .i64 8] 3)) g v (.slice none 0 0) l a 0 from
    ⟨World.ownsRow_nil _ _ _ _, ⟨0, fun _ => rfl, (fun h => by cases h), h.below hb0⟩, only_below hb0 (some g), Box.new w 3 #[.int .i64 4, .int .i64 4, .int .i64 8, .int .i64 8, .int .i64 8, .int .i64 8, .int .i64 4, .int .i64 4, .int .i64 8, .int .i64 8]⟩)
  have HIN := Lib.hid hin
  have HLN := Lib.hid hlen
  clear h hb0 hin hlen
  go_enter Tryz.func53, Tryz.ntmps53
  go_wp2_with fail
  generalize w.alloc (.cells #[.int .i64 4, .int .i64 4, .int .i64 8, .int .i64 8, .int .i64 8, .int .i64 8, .int .i64 4, .int .i64 4, .int .i64 8, .int .i64 8] 3) = w1 at *
  go_loopw [4, 5] (fun u i wr => ∃ j : Nat, j ≤ 10 ∧ i = .int .i64 j ∧ EntSt B w wr g v u l a j) (fun _ i _ => 10 - (intOf i).toNat)
  case atStart => exact ⟨0, Nat.zero_le _, rfl, HS.out⟩
  case round =>
    obtain ⟨j, hj, rfl, hSt⟩ := hrel
    clear HS
    by_cases hlt : j < 10
    · obtain ⟨⟨p, hp, _, hR⟩, hG, hO, hX⟩ := (⟨hSt.at_, hSt.grown, hSt.own, hSt.row⟩ : _ ∧ _ ∧ _ ∧ _)
      obtain ⟨q, hq⟩ : ∃ q, sizesN[j]? = some q := ⟨sizesN[j]'hlt, List.getElem?_eq_getElem _⟩
      obtain ⟨n1, n2, n3, n4⟩ := offs_next (hp hlt) hq
      have hclamp : clampOf (q : Int) = q := by unfold clampOf; omega
      have HU := Lib.hid (quint_ok hR (q : Int) (by omega) HLN.out (by rw [hclamp]; have := HIN.out; omega))
      rw [hclamp] at HU
      have hent := entN_at l a j p q (hp hlt) hq
      have c0 : wr.cell? ⟨w.heap.size, j, none⟩ = some (.int .i64 (q : Int)) := by rw [hX.cell]; simp [hq]
      obtain ⟨x, hx⟩ : ∃ x, leNat ((l.drop (a + p)).take q) = x := ⟨_, rfl⟩
      rw [hx] at HU
      have hent' : (entN l a)[j]? = some x := by rw [hent, ← hx]; rfl
      have htk : (entN l a).take (j + 1) = (entN l a).take j ++ [x] := by rw [List.take_add_one, hent']; rfl
      have hul : ((entN l a).take j).length = j := by rw [List.length_take, entN_length]; omega
      have HTK := Lib.hid htk
      have HUL := Lib.hid hul
      have HG := Lib.hid hG
      have HO := Lib.hid (show OwnU wr w.heap.size u4 ((entN l a).take j) from hO)
      have HX := Lib.hid hX
      have HN := Lib.hid (show (j + 1 < 10 → offsN[j + 1]? = some (p + q)) ∧ (j + 1 = 10 → p + q = 64) from ⟨fun h => n1 (by omega), fun h => n2 (by omega)⟩)
      have H63 := Lib.hid (show j + 1 ≤ maxLen by unfold maxLen; omega)
      have HBY := Lib.hid (show (j + 1) * 8 ≤ 140737488355328 by omega)
      have HHS := Lib.hid hG.size
      clear hSt hp hR hG hO hX hq n1 n2 n3 n4 hclamp hent hx hent' htk hul
      generalize (entN l a).take j = us at *
      go_wp2_with (first
        | (go_at_call 56; refine HU.out.mono ?_; rintro r w2 ⟨rfl, hR2, hG2⟩; have HR2 := Lib.hid hR2; have HG2 := Lib.hid hG2; have HO2 := Lib.hid (World.ownsRow.kept (w := wr) HO.out hG2 (block_not (fun y hy => (ownu_block HO.out y hy).1) hg)); rw [HUL.out] at HO2; have HZ2 := Lib.hid hG2.size; clear hR2 hG2 HU)
        | (at_builtin; refine wpList_append_own_at _ (by rfl) (.tmp 11) (.tmp 18) _ (by rfl) w.heap.size 37 i0 (.int .u64 0) 1 8 Tryz.underlying106 hi hz0 hz1 hz2 rfl (by decide) u4 j (placeV us) (by rfl) (HO2.out.alloc _) ⟨w2.heap.size, 0, none⟩ 1 1 [.int .u64 (x : Int)] (by rfl) rfl (cell_one_new _ _ _) (by simp [Value.oneCell']) H63.out HBY.out (by have := HHS.out; have := HZ2.out; simp; omega) ?_; intro v4 w4 hown4 hg4 hn4 hat4; clear hn4))
      have HOW4 := Lib.hid (show OwnU w4 w.heap.size v4 (us ++ [x]) by rw [OwnU, placeV_append, List.length_append, HUL.out]; exact hown4)
      have hb3 : Below w2.heap.size w2 (w2.alloc (.cells #[.int .u64 (x : Int)] 37)) := (Below.refl _ _).alloc (Nat.le_refl _) _
      have hu4 : ∀ y, u4.ownBlock = some y → w.heap.size ≤ y := fun y hy => (ownu_block HO.out y hy).1
      have HR4 := Lib.hid ((HR2.out.below hb3).grown hg4 (fun e => by have := hu4 _ e.symm; omega) (fun y hy => by have := hu4 y hy; omega))
      have HG4 := Lib.hid (only_trans (only_trans (only_trans HG.out HG2.out (.inl rfl)) (only_below hb3 none) (.inr (fun y hy => by cases hy))) hg4 (.inr fun y hy => hu4 y hy))
      have hon4 := row_turns (HO2.out.alloc (.cells #[.int .u64 (x : Int)] 37)) hg4 (by have := HHS.out; have := HZ2.out; simp; omega)
      have HX2 := HX.out.grown HG2.out (fun e => by injection e with e; omega)
      have HX4 := Lib.hid (hon4.2 _ _ (HX2.below hb3 HX2.lt) (fun hh => absurd (show 3 = 37 from hh) (by decide)))
      clear hown4 hg4 hat4 hb3 hu4 hon4 HX2
      go_roundw
      case rel => exact ⟨j + 1, by omega, by go_num, ⟨by rw [HTK.out]; exact HOW4.out, ⟨p + q, HN.out.1, HN.out.2, by rw [← Nat.add_assoc]; exact HR4.out⟩, HG4.out, HX4.out⟩⟩
      case measure => simp [intOf]; omega
    · have hj10 : j = 10 := by omega
      subst hj10
      have HF := Lib.hid (show OwnU wr w.heap.size u4 (entN l a) ∧ RR B wr g v l (a + 64) 0 ∧ w.grownBy wr (some g) by
        obtain ⟨p, _, hp, hR⟩ := hSt.at_
        rw [hp rfl] at hR
        exact ⟨hSt.own, hR, hSt.grown⟩)
      clear hSt
      go_wp2_with fail
      go_ret
      exact ⟨_, rfl, HF.out.1, HF.out.2⟩

end Go.Proofs.YtldmjnbmjfnfeaaGreatDoor

namespace Go.Proofs.YtldmjnbmjfnfeaaGreatDoor
open Go Go.RowKit

/-- An entry's section, without its name. -/
def sectZ (l : List UInt8) (ns : List Nat) : Sect :=
  ⟨[], (kindN ns : Int), ns.getD 2 0, ns.getD 3 0, dataT l ns, (ns.getD 6 0 : Int), (ns.getD 7 0 : Int), (ns.getD 8 0 : Int), (ns.getD 9 0 : Int)⟩
/-- What the document's section tells. -/
def SecIs (B : Nat) (l : List UInt8) (ns : List Nat) (w : World) (r : Ending) (w' : World) : Prop :=
  ∃ y : Lay, r = .returned (.tuple #[y.val, .int .i64 (entE ns l.length)]) ∧ (entE ns l.length = 0 → y.s = sectZ l ns ∧ (Rd w B y.A y.s.data ∨ Own w' w.heap.size y.dv y.s.data) ∧ y.s.data.length ≤ y.c ∧ y.c ≤ maxLen) ∧ Below w.heap.size w w'

theorem nine_box {W : World} {H : Nat} {T : TypeId} {cs : Array Value} (h : Box W H T cs) (hs : cs.size = 9) (v0 v1 v2 v3 v4 v5 v6 v7 v8 : Value) :
    Box (((((((((W.setCell ⟨H, 0, none⟩ v0).setCell ⟨H, 1, none⟩ v1).setCell ⟨H, 2, none⟩ v2).setCell ⟨H, 3, none⟩ v3).setCell ⟨H, 4, none⟩ v4).setCell ⟨H, 5, none⟩ v5).setCell ⟨H, 6, none⟩ v6).setCell ⟨H, 7, none⟩ v7).setCell ⟨H, 8, none⟩ v8) H T #[v0, v1, v2, v3, v4, v5, v6, v7, v8] := by
  obtain ⟨l⟩ := cs
  match l, hs with
  | [c0, c1, c2, c3, c4, c5, c6, c7, c8], _ =>
    simpa using ((((((((h.set 0 v0).set 1 v1).set 2 v2).set 3 v3).set 4 v4).set 5 v5).set 6 v6).set 7 v7).set 8 v8
theorem nine_below {B : Nat} {W0 W : World} {H : Nat} (h : Below B W0 W) (hH : B ≤ H) (v0 v1 v2 v3 v4 v5 v6 v7 v8 : Value) :
    Below B W0 (((((((((W.setCell ⟨H, 0, none⟩ v0).setCell ⟨H, 1, none⟩ v1).setCell ⟨H, 2, none⟩ v2).setCell ⟨H, 3, none⟩ v3).setCell ⟨H, 4, none⟩ v4).setCell ⟨H, 5, none⟩ v5).setCell ⟨H, 6, none⟩ v6).setCell ⟨H, 7, none⟩ v7).setCell ⟨H, 8, none⟩ v8) :=
  ((((((((h.setCell hH _).setCell hH _).setCell hH _).setCell hH _).setCell hH _).setCell hH _).setCell hH _).setCell hH _).setCell hH _

theorem box_keep {w : World} {k : Nat} {t : TypeId} {cs : Array Value} (h : Box w k t cs) (o : Obj) : Box (w.alloc o) k t cs := h.below ((Below.refl w.heap.size w).alloc (Nat.le_refl _) o) h.lt
theorem nine_cells {W : World} {H : Nat} {T : TypeId} {c0 c1 c2 c3 c4 c5 c6 c7 c8 : Value} (h : Box W H T #[c0, c1, c2, c3, c4, c5, c6, c7, c8]) : W.cell? ⟨H, 0, none⟩ = some c0 ∧ W.cell? ⟨H, 1, none⟩ = some c1 ∧ W.cell? ⟨H, 2, none⟩ = some c2 ∧ W.cell? ⟨H, 3, none⟩ = some c3 ∧ W.cell? ⟨H, 4, none⟩ = some c4 ∧ W.cell? ⟨H, 5, none⟩ = some c5 ∧ W.cell? ⟨H, 6, none⟩ = some c6 ∧ W.cell? ⟨H, 7, none⟩ = some c7 ∧ W.cell? ⟨H, 8, none⟩ = some c8 := by
  refine ⟨?_, ?_, ?_, ?_, ?_, ?_, ?_, ?_, ?_⟩ <;> (rw [h.cell]; rfl)
theorem nine_free {W : World} {H : Nat} {T : TypeId} {cs : Array Value} (h : Box W H T cs) : W.frozen? ⟨H, 0, none⟩ = false ∧ W.frozen? ⟨H, 1, none⟩ = false ∧ W.frozen? ⟨H, 2, none⟩ = false ∧ W.frozen? ⟨H, 3, none⟩ = false ∧ W.frozen? ⟨H, 4, none⟩ = false ∧ W.frozen? ⟨H, 5, none⟩ = false ∧ W.frozen? ⟨H, 6, none⟩ = false ∧ W.frozen? ⟨H, 7, none⟩ = false ∧ W.frozen? ⟨H, 8, none⟩ = false :=
  ⟨h.free 0, h.free 1, h.free 2, h.free 3, h.free 4, h.free 5, h.free 6, h.free 7, h.free 8⟩
theorem nine_only {base : Nat} {W : World} {H : Nat} {T : TypeId} {cs : Array Value} (h : Box W H T cs) (hH : base ≤ H) (v0 v1 v2 v3 v4 v5 v6 v7 v8 : Value) :
    Only base (CellsOf T) W (((((((((W.setCell ⟨H, 0, none⟩ v0).setCell ⟨H, 1, none⟩ v1).setCell ⟨H, 2, none⟩ v2).setCell ⟨H, 3, none⟩ v3).setCell ⟨H, 4, none⟩ v4).setCell ⟨H, 5, none⟩ v5).setCell ⟨H, 6, none⟩ v6).setCell ⟨H, 7, none⟩ v7).setCell ⟨H, 8, none⟩ v8) :=
  Only.row (g := H) (only_set (only_set (only_set (only_set (only_set (only_set (only_set (only_set (only_set (only_refl W (some H)) 0 v0) 1 v1) 2 v2) 3 v3) 4 v4) 5 v5) 6 v6) 7 v7) 8 v8) h rfl hH
/-- What the document's section leaves: the bytes stored into the section, and it into the result. -/
theorem sect_done {base : Nat} {W : World} {H E : Nat} {ch ce : Array Value} (hz : Box W H 39 ch) (hs : ch.size = 9) (he : Box W E 39 ce) (hne : E ≠ H) (h1 : base ≤ H) (h2 : base ≤ E) (d v0 v1 v2 v3 v4 v5 v6 v7 v8 : Value) :
    Box ((((((((((W.setCell ⟨E, 4, none⟩ d).setCell ⟨H, 0, none⟩ v0).setCell ⟨H, 1, none⟩ v1).setCell ⟨H, 2, none⟩ v2).setCell ⟨H, 3, none⟩ v3).setCell ⟨H, 4, none⟩ v4).setCell ⟨H, 5, none⟩ v5).setCell ⟨H, 6, none⟩ v6).setCell ⟨H, 7, none⟩ v7).setCell ⟨H, 8, none⟩ v8) H 39 #[v0, v1, v2, v3, v4, v5, v6, v7, v8] ∧
    Only base (CellsOf 39) W ((((((((((W.setCell ⟨E, 4, none⟩ d).setCell ⟨H, 0, none⟩ v0).setCell ⟨H, 1, none⟩ v1).setCell ⟨H, 2, none⟩ v2).setCell ⟨H, 3, none⟩ v3).setCell ⟨H, 4, none⟩ v4).setCell ⟨H, 5, none⟩ v5).setCell ⟨H, 6, none⟩ v6).setCell ⟨H, 7, none⟩ v7).setCell ⟨H, 8, none⟩ v8) := by
  have hg := only_set (only_refl W (some E)) 4 d
  have hz5 : Box (W.setCell ⟨E, 4, none⟩ d) H 39 ch := hz.grown hg (fun e => by injection e with e; exact hne e.symm)
  exact ⟨nine_box hz5 hs v0 v1 v2 v3 v4 v5 v6 v7 v8, (Only.row (g := E) (bad := CellsOf 39) hg he rfl h2).trans (nine_only hz5 h1 v0 v1 v2 v3 v4 v5 v6 v7 v8)⟩

/-- A test that is no number's: the first that is too great. -/
theorem small_ways (kd lk inf al ec : Nat) : (smallN [lk, inf, al, ec, kd] = true ∧ kd ≤ 2147483647 ∧ lk ≤ 2147483647 ∧ inf ≤ 2147483647 ∧ al ≤ 2147483647 ∧ ec ≤ 2147483647) ∨
    (smallN [lk, inf, al, ec, kd] = false ∧ (2147483647 < kd ∨ (kd ≤ 2147483647 ∧ 2147483647 < lk) ∨ (kd ≤ 2147483647 ∧ lk ≤ 2147483647 ∧ 2147483647 < inf) ∨ (kd ≤ 2147483647 ∧ lk ≤ 2147483647 ∧ inf ≤ 2147483647 ∧ 2147483647 < al) ∨ (kd ≤ 2147483647 ∧ lk ≤ 2147483647 ∧ inf ≤ 2147483647 ∧ al ≤ 2147483647 ∧ 2147483647 < ec))) := by
  cases h : smallN [lk, inf, al, ec, kd] with
  | true =>
    simp only [smallN, List.all_cons, List.all_nil, Bool.and_true, Bool.and_eq_true, decide_eq_true_eq] at h
    exact .inl ⟨rfl, by omega⟩
  | false =>
    refine .inr ⟨rfl, ?_⟩
    have h' : ¬ (lk ≤ 2147483647 ∧ inf ≤ 2147483647 ∧ al ≤ 2147483647 ∧ ec ≤ 2147483647 ∧ kd ≤ 2147483647) := by
      intro hh
      have : smallN [lk, inf, al, ec, kd] = true := by
        simp only [smallN, List.all_cons, List.all_nil, Bool.and_true, Bool.and_eq_true, decide_eq_true_eq]
        exact hh
      rw [h] at this
      cases this
    omega
theorem gt_true {n : Nat} (h : 2147483647 < n) : decide ((2147483647 : Int) < (n : Int)) = true := decide_eq_true (by omega)
theorem gt_false {n : Nat} (h : n ≤ 2147483647) : decide ((2147483647 : Int) < (n : Int)) = false := decide_eq_false (by omega)

set_option maxRecDepth 10000 in
set_option maxHeartbeats 3200000 in
theorem rsection_great {w : World} {B : Nat} {A : Option Addr} {l : List UInt8} (c : Nat) {gx cx : Nat} (nm kd fl ad pl sz lk inf al ec : Nat) (hx : EntAt w gx 0 [nm, kd, fl, ad, pl, sz, lk, inf, al, ec])
    (hs : smallN [lk, inf, al, ec, kd] = false) (hw : 2147483647 < kd ∨ (kd ≤ 2147483647 ∧ 2147483647 < lk) ∨ (kd ≤ 2147483647 ∧ lk ≤ 2147483647 ∧ 2147483647 < inf) ∨ (kd ≤ 2147483647 ∧ lk ≤ 2147483647 ∧ inf ≤ 2147483647 ∧ 2147483647 < al) ∨ (kd ≤ 2147483647 ∧ lk ≤ 2147483647 ∧ inf ≤ 2147483647 ∧ al ≤ 2147483647 ∧ 2147483647 < ec)) :
    Calls Tryz.prog 54 #[.slice A l.length c, .slice (some ⟨gx, 0, none⟩) 10 cx] w (SecIs B l [nm, kd, fl, ad, pl, sz, lk, inf, al, ec] w) := by
  have hE : entE [nm, kd, fl, ad, pl, sz, lk, inf, al, ec] l.length = 22 := by
    show (if smallN [lk, inf, al, ec, kd] = true then _ else 22) = 22
    rw [hs]; rfl
  have hgx := hx.lt
  have c1 := hx.2 1 kd rfl
  have c6 := hx.2 6 lk rfl
  have c7 := hx.2 7 inf rfl
  have c8 := hx.2 8 al rfl
  have c9 := hx.2 9 ec rfl
  rw [Nat.zero_add] at c1 c6 c7 c8 c9
  have HW := Lib.hid hw
  have HE := Lib.hid hE
  unfold SecIs
  clear hx hs hw hE
  generalize entE [nm, kd, fl, ad, pl, sz, lk, inf, al, ec] l.length = e at *
  generalize l.length = n at *
  have hb0 : Below w.heap.size w (w.alloc (.cells #[.string ⟨#[]⟩, .int .i64 0, .int .u64 0, .int .u64 0, .slice none 0 0, .int .i64 0, .int .i64 0, .int .i64 0, .int .i64 0] 39)) := (Below.refl _ _).alloc (Nat.le_refl _) _
  have HB := Lib.hid (hb0.alloc (by simp) (.cells #[.string ⟨#[]⟩, .int .i64 0, .int .u64 0, .int .u64 0, .slice none 0 0, .int .i64 0, .int .i64 0, .int .i64 0, .int .i64 0] 39))
  have HZ := Lib.hid (box_keep (Box.new w 39 #[.string ⟨#[]⟩, .int .i64 0, .int .u64 0, .int .u64 0, .slice none 0 0, .int .i64 0, .int .i64 0, .int .i64 0, .int .i64 0]) (.cells #[.string ⟨#[]⟩, .int .i64 0, .int .u64 0, .int .u64 0, .slice none 0 0, .int .i64 0, .int .i64 0, .int .i64 0, .int .i64 0] 39))
  clear hb0
  go_enter Tryz.func54, Tryz.ntmps54
  rcases HW.out with h | ⟨h1, h⟩ | ⟨h1, h2, h⟩ | ⟨h1, h2, h3, h⟩ | ⟨h1, h2, h3, h4, h⟩
  · have d1 := gt_true h
    clear h
    go_wp2_with fail
    refine ret_two Tryz.underlying39 Tryz.results54 HZ.out (by kernel_rfl) (by rfl) rfl ?_
    exact ⟨⟨zeroS, none, 0⟩, by rw [HE.out]; rfl, fun h0 => absurd (HE.out.symm.trans h0) (by decide), HB.out⟩
  · have d1 := gt_false h1
    have d2 := gt_true h
    clear h h1
    go_wp2_with fail
    refine ret_two Tryz.underlying39 Tryz.results54 HZ.out (by kernel_rfl) (by rfl) rfl ?_
    exact ⟨⟨zeroS, none, 0⟩, by rw [HE.out]; rfl, fun h0 => absurd (HE.out.symm.trans h0) (by decide), HB.out⟩
  · have d1 := gt_false h1
    have d2 := gt_false h2
    have d3 := gt_true h
    clear h h1 h2
    go_wp2_with fail
    refine ret_two Tryz.underlying39 Tryz.results54 HZ.out (by kernel_rfl) (by rfl) rfl ?_
    exact ⟨⟨zeroS, none, 0⟩, by rw [HE.out]; rfl, fun h0 => absurd (HE.out.symm.trans h0) (by decide), HB.out⟩
  · have d1 := gt_false h1
    have d2 := gt_false h2
    have d3 := gt_false h3
    have d4 := gt_true h
    clear h h1 h2 h3
    go_wp2_with fail
    refine ret_two Tryz.underlying39 Tryz.results54 HZ.out (by kernel_rfl) (by rfl) rfl ?_
    exact ⟨⟨zeroS, none, 0⟩, by rw [HE.out]; rfl, fun h0 => absurd (HE.out.symm.trans h0) (by decide), HB.out⟩
  · have d1 := gt_false h1
    have d2 := gt_false h2
    have d3 := gt_false h3
    have d4 := gt_false h4
    have d5 := gt_true h
    clear h h1 h2 h3 h4
    go_wp2_with fail
    refine ret_two Tryz.underlying39 Tryz.results54 HZ.out (by kernel_rfl) (by rfl) rfl ?_
    exact ⟨⟨zeroS, none, 0⟩, by rw [HE.out]; rfl, fun h0 => absurd (HE.out.symm.trans h0) (by decide), HB.out⟩

set_option maxRecDepth 10000 in
set_option maxHeartbeats 6400000 in
theorem rsection_small {w : World} {B : Nat} {A : Option Addr} {l : List UInt8} (hr : Rd w B A l) (c : Nat) (hlc : l.length ≤ c) (hcm : c ≤ maxLen) (hl : l.length ≤ 140737488355328) {gx cx : Nat} (nm kd fl ad pl sz lk inf al ec : Nat) (hx : EntAt w gx 0 [nm, kd, fl, ad, pl, sz, lk, inf, al, ec])
    (hn : ∀ x ∈ [nm, kd, fl, ad, pl, sz, lk, inf, al, ec], x < two64) (hs : smallN [lk, inf, al, ec, kd] = true) (h1 : kd ≤ 2147483647) (h2 : lk ≤ 2147483647) (h3 : inf ≤ 2147483647) (h4 : al ≤ 2147483647) (h5 : ec ≤ 2147483647) :
    Calls Tryz.prog 54 #[.slice A l.length c, .slice (some ⟨gx, 0, none⟩) 10 cx] w (SecIs B l [nm, kd, fl, ad, pl, sz, lk, inf, al, ec] w) := by
  have hE : entE [nm, kd, fl, ad, pl, sz, lk, inf, al, ec] l.length = if kd = 0 then 0 else if kd ≠ 8 ∧ l.length < pl + sz then 22 else if 65536 < sz then 3 else 0 := by
    show (if smallN [lk, inf, al, ec, kd] = true then _ else 22) = _
    rw [hs]; rfl
  have hD : sectZ l [nm, kd, fl, ad, pl, sz, lk, inf, al, ec] = ⟨[], (kd : Int), fl, ad, (if kd = 0 then [] else if kd = 8 then List.replicate sz 0 else (l.drop pl).take sz), (lk : Int), (inf : Int), (al : Int), (ec : Int)⟩ := rfl
  have hgx := hx.lt
  have d1 := gt_false h1
  have d2 := gt_false h2
  have d3 := gt_false h3
  have d4 := gt_false h4
  have d5 := gt_false h5
  have e1 := IntWalk.i64_in (kd : Int) (by omega)
  have e2 := IntWalk.i64_in (lk : Int) (by omega)
  have e3 := IntWalk.i64_in (inf : Int) (by omega)
  have e4 := IntWalk.i64_in (al : Int) (by omega)
  have e5 := IntWalk.i64_in (ec : Int) (by omega)
  have hpl := hn pl (by simp)
  have hsz := hn sz (by simp)
  have HWI := Lib.hid (fun W => rwithin_any pl sz l.length W hpl hsz)
  rw [within_iff pl sz l.length (by unfold two64; omega)] at HWI
  have HX := Lib.hid (fun W (hW : Below w.heap.size w W) => (hx.below hW hgx))
  have HE := Lib.hid hE
  have HD := Lib.hid hD
  have hb0 : Below w.heap.size w (w.alloc (.cells #[.string ⟨#[]⟩, .int .i64 0, .int .u64 0, .int .u64 0, .slice none 0 0, .int .i64 0, .int .i64 0, .int .i64 0, .int .i64 0] 39)) := (Below.refl _ _).alloc (Nat.le_refl _) _
  have HB := Lib.hid (hb0.alloc (by simp) (.cells #[.string ⟨#[]⟩, .int .i64 0, .int .u64 0, .int .u64 0, .slice none 0 0, .int .i64 0, .int .i64 0, .int .i64 0, .int .i64 0] 39))
  have HZ := Lib.hid (box_keep (Box.new w 39 #[.string ⟨#[]⟩, .int .i64 0, .int .u64 0, .int .u64 0, .slice none 0 0, .int .i64 0, .int .i64 0, .int .i64 0, .int .i64 0]) (.cells #[.string ⟨#[]⟩, .int .i64 0, .int .u64 0, .int .u64 0, .slice none 0 0, .int .i64 0, .int .i64 0, .int .i64 0, .int .i64 0] 39))
  have HN := Lib.hid (show Box ((w.alloc (.cells #[.string ⟨#[]⟩, .int .i64 0, .int .u64 0, .int .u64 0, .slice none 0 0, .int .i64 0, .int .i64 0, .int .i64 0, .int .i64 0] 39)).alloc (.cells #[.string ⟨#[]⟩, .int .i64 0, .int .u64 0, .int .u64 0, .slice none 0 0, .int .i64 0, .int .i64 0, .int .i64 0, .int .i64 0] 39)) (w.heap.size + 1) 39 #[.string ⟨#[]⟩, .int .i64 0, .int .u64 0, .int .u64 0, .slice none 0 0, .int .i64 0, .int .i64 0, .int .i64 0, .int .i64 0] by simpa using Box.new (w.alloc (.cells #[.string ⟨#[]⟩, .int .i64 0, .int .u64 0, .int .u64 0, .slice none 0 0, .int .i64 0, .int .i64 0, .int .i64 0, .int .i64 0] 39)) 39 #[.string ⟨#[]⟩, .int .i64 0, .int .u64 0, .int .u64 0, .slice none 0 0, .int .i64 0, .int .i64 0, .int .i64 0, .int .i64 0])
  obtain ⟨i0, hi, hz0, hz1, hz2⟩ := info_parts u8_info
  have c1 := hx.2 1 kd rfl
  have c6 := hx.2 6 lk rfl
  have c7 := hx.2 7 inf rfl
  have c8 := hx.2 8 al rfl
  have c9 := hx.2 9 ec rfl
  rw [Nat.zero_add] at c1 c6 c7 c8 c9
  unfold SecIs
  clear hb0 hx hn hs h1 h2 h3 h4 h5 hE hD hpl hsz
  generalize entE [nm, kd, fl, ad, pl, sz, lk, inf, al, ec] l.length = e at *
  generalize sectZ l [nm, kd, fl, ad, pl, sz, lk, inf, al, ec] = yz at *
  go_enter Tryz.func54, Tryz.ntmps54
  go_wp2_with fail
  have hs2 : ((w.alloc (.cells #[.string ⟨#[]⟩, .int .i64 0, .int .u64 0, .int .u64 0, .slice none 0 0, .int .i64 0, .int .i64 0, .int .i64 0, .int .i64 0] 39)).alloc (.cells #[.string ⟨#[]⟩, .int .i64 0, .int .u64 0, .int .u64 0, .slice none 0 0, .int .i64 0, .int .i64 0, .int .i64 0, .int .i64 0] 39)).heap.size = w.heap.size + 2 := by simp
  generalize hw2 : (w.alloc (.cells #[.string ⟨#[]⟩, .int .i64 0, .int .u64 0, .int .u64 0, .slice none 0 0, .int .i64 0, .int .i64 0, .int .i64 0, .int .i64 0] 39)).alloc (.cells #[.string ⟨#[]⟩, .int .i64 0, .int .u64 0, .int .u64 0, .slice none 0 0, .int .i64 0, .int .i64 0, .int .i64 0, .int .i64 0] 39) = w2 at *
  clear hw2
  have KS := Lib.hid (fun W (hW : Below w2.heap.size w2 W) => (by
    have h := (HX.out W (HB.out.trans (hW.mono HB.out.size))).2
    have k1 := h 1 kd rfl
    have k2 := h 2 fl rfl
    have k3 := h 3 ad rfl
    have k4 := h 4 pl rfl
    have k5 := h 5 sz rfl
    have k6 := h 6 lk rfl
    have k7 := h 7 inf rfl
    have k8 := h 8 al rfl
    have k9 := h 9 ec rfl
    rw [Nat.zero_add] at k1 k2 k3 k4 k5 k6 k7 k8 k9
    exact ⟨k1, k2, k3, k4, k5, k6, k7, k8, k9⟩ :
    W.cell? ⟨gx, 1, none⟩ = some (.int .u64 (kd : Int)) ∧ W.cell? ⟨gx, 2, none⟩ = some (.int .u64 (fl : Int)) ∧ W.cell? ⟨gx, 3, none⟩ = some (.int .u64 (ad : Int)) ∧ W.cell? ⟨gx, 4, none⟩ = some (.int .u64 (pl : Int)) ∧ W.cell? ⟨gx, 5, none⟩ = some (.int .u64 (sz : Int)) ∧
      W.cell? ⟨gx, 6, none⟩ = some (.int .u64 (lk : Int)) ∧ W.cell? ⟨gx, 7, none⟩ = some (.int .u64 (inf : Int)) ∧ W.cell? ⟨gx, 8, none⟩ = some (.int .u64 (al : Int)) ∧ W.cell? ⟨gx, 9, none⟩ = some (.int .u64 (ec : Int))))
  have hb2 : Below w2.heap.size w2 w2.drew := (Below.refl _ _).drew
  clear c1 c6 c7 c8 c9
  go_region_held_law (fun W => W.cell? ⟨gx, 1, none⟩ = some (.int .u64 (kd : Int)) ∧ W.cell? ⟨gx, 2, none⟩ = some (.int .u64 (fl : Int)) ∧ W.cell? ⟨gx, 3, none⟩ = some (.int .u64 (ad : Int)) ∧ W.cell? ⟨gx, 4, none⟩ = some (.int .u64 (pl : Int)) ∧ W.cell? ⟨gx, 5, none⟩ = some (.int .u64 (sz : Int)) ∧
      W.cell? ⟨gx, 6, none⟩ = some (.int .u64 (lk : Int)) ∧ W.cell? ⟨gx, 7, none⟩ = some (.int .u64 (inf : Int)) ∧ W.cell? ⟨gx, 8, none⟩ = some (.int .u64 (al : Int)) ∧ W.cell? ⟨gx, 9, none⟩ = some (.int .u64 (ec : Int)))
    ((refine KS.out _ ?_; (repeat' (first | with_reducible assumption | with_reducible refine below_drewN ?_ _ | with_reducible refine Below.drew ?_ | (with_reducible refine Below.alloc ?_ ?_ _) | with_reducible exact Below.refl _ _ | with_reducible exact Nat.le_refl _ | (simp; done)))))
    (fail)
  have hs3 : w2.heap.size < (w2.alloc (.cells #[.string ⟨#[]⟩, .int .i64 (kd : Int), .int .u64 (fl : Int), .int .u64 (ad : Int), .slice none 0 0, .int .i64 (lk : Int), .int .i64 (inf : Int), .int .i64 (al : Int), .int .i64 (ec : Int)] 39)).drew.heap.size := by simp
  have hb3 : Below w2.heap.size w2 (w2.alloc (.cells #[.string ⟨#[]⟩, .int .i64 (kd : Int), .int .u64 (fl : Int), .int .u64 (ad : Int), .slice none 0 0, .int .i64 (lk : Int), .int .i64 (inf : Int), .int .i64 (al : Int), .int .i64 (ec : Int)] 39)).drew := ((Below.refl _ _).alloc (Nat.le_refl _) _).drew
  have hX3 : Box (w2.alloc (.cells #[.string ⟨#[]⟩, .int .i64 (kd : Int), .int .u64 (fl : Int), .int .u64 (ad : Int), .slice none 0 0, .int .i64 (lk : Int), .int .i64 (inf : Int), .int .i64 (al : Int), .int .i64 (ec : Int)] 39)).drew (w.heap.size + 2) 39 #[.string ⟨#[]⟩, .int .i64 (kd : Int), .int .u64 (fl : Int), .int .u64 (ad : Int), .slice none 0 0, .int .i64 (lk : Int), .int .i64 (inf : Int), .int .i64 (al : Int), .int .i64 (ec : Int)] := by rw [← hs2]; exact Box.new w2 _ _
  have hZ3 := HZ.out.below hb3 HZ.out.lt
  have hN3 := HN.out.below hb3 HN.out.lt
  have HB3 := Lib.hid (HB.out.trans (hb3.mono HB.out.size))
  have HK3 := Lib.hid (fun W (hW : Below (w2.alloc (.cells #[.string ⟨#[]⟩, .int .i64 (kd : Int), .int .u64 (fl : Int), .int .u64 (ad : Int), .slice none 0 0, .int .i64 (lk : Int), .int .i64 (inf : Int), .int .i64 (al : Int), .int .i64 (ec : Int)] 39)).drew.heap.size (w2.alloc (.cells #[.string ⟨#[]⟩, .int .i64 (kd : Int), .int .u64 (fl : Int), .int .u64 (ad : Int), .slice none 0 0, .int .i64 (lk : Int), .int .i64 (inf : Int), .int .i64 (al : Int), .int .i64 (ec : Int)] 39)).drew W) => KS.out W (hb3.trans (hW.mono (Nat.le_of_lt hs3))))
  clear hb3 hb2 KS HZ HN HB
  generalize (w2.alloc (.cells #[.string ⟨#[]⟩, .int .i64 (kd : Int), .int .u64 (fl : Int), .int .u64 (ad : Int), .slice none 0 0, .int .i64 (lk : Int), .int .i64 (inf : Int), .int .i64 (al : Int), .int .i64 (ec : Int)] 39)).drew = w3 at *
  rw [hs2] at hs3
  clear hs2
  obtain ⟨r0, r1, r2, r3, r4, r5, r6, r7, r8⟩ := nine_cells hZ3
  obtain ⟨n0, n1, n2, n3, n4, n5, n6, n7, n8⟩ := nine_cells hN3
  obtain ⟨x0, x1, x2, x3, x4, x5, x6, x7, x8⟩ := nine_cells hX3
  obtain ⟨f0, f1, f2, f3, f4, f5, f6, f7, f8⟩ := nine_free hZ3
  have g4 := hX3.free 4
  obtain ⟨-, -, -, k4, k5, -⟩ := HK3.out w3 (Below.refl _ _)
  have HZ3 := Lib.hid hZ3
  have HX3 := Lib.hid hX3
  clear hZ3 hN3 hX3
  by_cases hk0 : kd = 0
  · subst hk0
    have HF := Lib.hid (show e = 0 ∧ yz = ⟨[], 0, fl, ad, [], (lk : Int), (inf : Int), (al : Int), (ec : Int)⟩ by rw [HE.out, HD.out]; exact ⟨rfl, rfl⟩)
    clear HE HD HK3 k4 k5
    go_wp2_with fail
    refine ret_two Tryz.underlying39 Tryz.results54 (nine_box HZ3.out rfl _ _ _ _ _ _ _ _ _) (by kernel_rfl) (by rfl) rfl ?_
    exact ⟨⟨⟨[], 0, fl, ad, [], (lk : Int), (inf : Int), (al : Int), (ec : Int)⟩, none, 0⟩, by rw [HF.out.1]; rfl, fun _ => ⟨HF.out.2.symm, .inl Rd.nil_, Nat.le_refl _, Nat.zero_le _⟩, nine_below HB3.out (Nat.le_refl _) _ _ _ _ _ _ _ _ _⟩
  · by_cases hk8 : kd = 8
    · subst hk8
      by_cases hbig : 65536 < sz
      · have q : decide ((65536 : Int) < (sz : Int)) = true := decide_eq_true (by omega)
        have HF := Lib.hid (show e = 3 by rw [HE.out, if_neg (by decide), if_neg (by simp), if_pos hbig])
        clear HE HD HK3 hbig hk0
        go_wp2_with fail
        refine ret_two Tryz.underlying39 Tryz.results54 (nine_box HZ3.out rfl _ _ _ _ _ _ _ _ _) (by kernel_rfl) (by rfl) rfl ?_
        exact ⟨⟨zeroS, none, 0⟩, by rw [HF.out]; rfl, fun h0 => absurd (HF.out.symm.trans h0) (by decide), nine_below HB3.out (Nat.le_refl _) _ _ _ _ _ _ _ _ _⟩
      · have q : decide ((65536 : Int) < (sz : Int)) = false := decide_eq_false (by omega)
        have hsz : sz ≤ 65536 := by omega
        have e6 := IntWalk.i64_in (sz : Int) (by omega)
        have HF := Lib.hid (show e = 0 ∧ yz = ⟨[], 8, fl, ad, List.replicate sz 0, (lk : Int), (inf : Int), (al : Int), (ec : Int)⟩ by rw [HE.out, HD.out, if_neg (by decide), if_neg (by simp), if_neg hbig]; exact ⟨rfl, rfl⟩)
        have hn4 : sz ≤ 140737488355328 := by omega
        clear HE HD HK3 hbig hk0
        go_wp2_with (at_make; refine wpList_make_bytes rfl _ _ 22 rfl i0 Tryz.underlying22 hi hz0 hz1 hz2 sz hn4 rfl rfl w3.heap.size rfl ?_; intro w4 hr4 hb4; have HZ4 := Lib.hid (HZ3.out.below hb4 HZ3.out.lt); have HX4 := Lib.hid (HX3.out.below hb4 HX3.out.lt); have HB4 := Lib.hid (HB3.out.trans (hb4.mono HB3.out.size)); have HR4 := Lib.hid hr4; clear r0 r1 r2 r3 r4 r5 r6 r7 r8 n0 n1 n2 n3 n4 n5 n6 n7 n8 x0 x1 x2 x3 x4 x5 x6 x7 x8 f0 f1 f2 f3 f4 f5 f6 f7 f8 g4 k4 k5 hb4 hr4; obtain ⟨r0, r1, r2, r3, r4, r5, r6, r7, r8⟩ := nine_cells HZ4.out; obtain ⟨x0, x1, x2, x3, x4, x5, x6, x7, x8⟩ := nine_cells HX4.out; obtain ⟨f0, f1, f2, f3, f4, f5, f6, f7, f8⟩ := nine_free HZ4.out; have g4 := HX4.out.free 4)
        obtain ⟨hb9, ho9⟩ := sect_done (base := w.heap.size) HZ4.out rfl HX4.out (by omega) (Nat.le_refl _) (by omega) (.slice (some ⟨w3.heap.size, 0, none⟩) sz sz) (.string ⟨#[]⟩) (.int .i64 8) (.int .u64 (fl : Int)) (.int .u64 (ad : Int)) (.slice (some ⟨w3.heap.size, 0, none⟩) sz sz) (.int .i64 (lk : Int)) (.int .i64 (inf : Int)) (.int .i64 (al : Int)) (.int .i64 (ec : Int))
        refine ret_two Tryz.underlying39 Tryz.results54 hb9 (by kernel_rfl) (by rfl) rfl ?_
        have hrow : Own w4 w3.heap.size (.slice (some ⟨w3.heap.size, 0, none⟩) sz sz) (List.replicate sz 0) := by
          have := HR4.out.own (base := w3.heap.size) (Nat.le_refl _) (by rw [List.length_replicate]; unfold maxLen; omega)
          rwa [List.length_replicate] at this
        have hrow9 := row_only hrow ho9 (fun cs f hh => absurd (show 5 = 39 from hh) (by decide))
        have hown9 := own_up hrow9 HB3.out.size
        exact ⟨⟨⟨[], 8, fl, ad, List.replicate sz 0, (lk : Int), (inf : Int), (al : Int), (ec : Int)⟩, some ⟨w3.heap.size, 0, none⟩, sz⟩, by rw [HF.out.1]; simp [Lay.val, Lay.cells, Lay.dv, List.length_replicate], fun _ => ⟨HF.out.2.symm, .inr (by simp only [Lay.dv, List.length_replicate]; simpa using hown9), by simp, by unfold maxLen; simp only; omega⟩, HB4.out.trans ho9.1⟩
    · have q1 : ((kd : Int) == 8) = false := by simp; omega
      have q2 : ((kd : Int) != 0) = true := by simp; omega
      have q3 : ((kd : Int) != 8) = true := by simp; omega
      have HKD := Lib.hid (And.intro hk0 hk8)
      have wl := IntWalk.u64_in (l.length : Int) (by omega)
      obtain ⟨bw, hbw⟩ : ∃ bw, decide (pl + sz ≤ l.length) = bw := ⟨_, rfl⟩
      rw [hbw] at HWI
      have HBW := Lib.hid hbw
      clear hk0 hk8 hbw
      go_wp2_with fail
      go_quiet ((go_at_call 97; exact Calls.quiet_of_same ((HWI.out _).mono fun _ _ h => ⟨h.1, h.2.symm⟩)))
      have HB3q := Lib.hid (below_drewN HB3.out nq)
      have HZ3q := Lib.hid (HZ3.out.drewN nq)
      have HX3q := Lib.hid (HX3.out.drewN nq)
      cases bw with
      | false =>
        have hin : ¬ pl + sz ≤ l.length := of_decide_eq_false HBW.out
        have HF := Lib.hid (show e = 22 by rw [HE.out, if_neg HKD.out.1, if_pos ⟨HKD.out.2, by omega⟩])
        clear HE HD HK3 hin
        go_wp2_with fail
        refine ret_two Tryz.underlying39 Tryz.results54 (nine_box HZ3q.out rfl _ _ _ _ _ _ _ _ _) (by kernel_rfl) (by rfl) rfl ?_
        exact ⟨⟨zeroS, none, 0⟩, by rw [HF.out]; rfl, fun h0 => absurd (HF.out.symm.trans h0) (by decide), nine_below HB3q.out (Nat.le_refl _) _ _ _ _ _ _ _ _ _⟩

      | true =>
        have hin : pl + sz ≤ l.length := of_decide_eq_true HBW.out
        by_cases hbig : 65536 < sz
        · have q : decide ((65536 : Int) < (sz : Int)) = true := decide_eq_true (by omega)
          have HF := Lib.hid (show e = 3 by rw [HE.out, if_neg HKD.out.1, if_neg (by omega), if_pos hbig])
          clear HE HD HK3 hbig hin
          go_wp2_with fail
          refine ret_two Tryz.underlying39 Tryz.results54 (nine_box HZ3q.out rfl _ _ _ _ _ _ _ _ _) (by kernel_rfl) (by rfl) rfl ?_
          exact ⟨⟨zeroS, none, 0⟩, by rw [HF.out]; rfl, fun h0 => absurd (HF.out.symm.trans h0) (by decide), nine_below HB3q.out (Nat.le_refl _) _ _ _ _ _ _ _ _ _⟩
        · have q : decide ((65536 : Int) < (sz : Int)) = false := decide_eq_false (by omega)
          have hsz : sz ≤ 65536 := by omega
          have HF := Lib.hid (show e = 0 ∧ yz = ⟨[], (kd : Int), fl, ad, (l.drop pl).take sz, (lk : Int), (inf : Int), (al : Int), (ec : Int)⟩ by rw [HE.out, HD.out, if_neg HKD.out.1, if_neg (by omega), if_neg hbig, if_neg HKD.out.1, if_neg HKD.out.2]; exact ⟨rfl, rfl⟩)
          have e6 := IntWalk.i64_in (pl : Int) (by omega)
          have e7 := IntWalk.u64_in ((pl : Int) + (sz : Int)) (by omega)
          have e8 := IntWalk.i64_in ((pl : Int) + (sz : Int)) (by omega)
          have hpl : ((l.drop pl).take sz).length = sz := by simp; omega
          obtain ⟨A2, c2, hsl, hra⟩ : ∃ A2 c2, (∀ W : World, (Instr.slice 22 (.slice A l.length c) (some (.int .i64 (pl : Int))) (some (.int .i64 ((pl : Int) + (sz : Int)))) none).run Tryz.prog W = .ok (.slice A2 sz c2) W) ∧ Hid (Rd w B A2 ((l.drop pl).take sz) ∧ sz ≤ c2 ∧ c2 ≤ maxLen) := by
            have hnn : ((pl : Int) + (sz : Int)).toNat - pl = sz := by omega
            have hs1 : ∀ W : World, (sizeOf (Tryz.prog.elem 22)).run Tryz.prog W = .ok 1 W := fun W => by kernel_rfl
            refine ⟨if c = pl then A else Option.map (fun x => x.add pl) A, c - pl, fun W => ?_, ?_⟩
            · rw [run_slice_lh W _ _ _ _ Tryz.underlying22 _ _ _ _ (by omega) (by omega) (by omega), hs1]
              simp only [Result.andThen, sliced, hnn, Int.toNat_natCast, Nat.mul_one]
            · have hrest : sz ≤ c - pl ∧ c - pl ≤ maxLen := by omega
              by_cases hca : c = pl
              · have h0 : (l.drop pl).take sz = [] := List.eq_nil_of_length_eq_zero (by rw [hpl]; omega)
                rw [h0]
                exact Lib.hid ⟨Rd.nil_, hrest⟩
              · rw [if_neg hca]
                exact Lib.hid ⟨rd_cut hr pl sz, hrest⟩
          have HPL := Lib.hid hpl
          have KS := Lib.hid (fun W (hW : Below w.heap.size w W) => (by
            have h := (HX.out W hW).2
            have k4 := h 4 pl rfl
            have k5 := h 5 sz rfl
            rw [Nat.zero_add] at k4 k5
            exact ⟨k4, k5⟩ : W.cell? ⟨gx, 4, none⟩ = some (.int .u64 (pl : Int)) ∧ W.cell? ⟨gx, 5, none⟩ = some (.int .u64 (sz : Int))))
          have hb4 : Below w.heap.size w (w3.drewN nq) := HB3q.out
          have hge : w.heap.size ≤ w.heap.size + 2 := by omega
          clear HE HD HK3 hbig hin hpl hr
          go_wp2_with fail
          generalize w3.drewN nq = w5 at *
          clear r0 r1 r2 r3 r4 r5 r6 r7 r8 n0 n1 n2 n3 n4 n5 n6 n7 n8 x0 x1 x2 x3 x4 x5 x6 x7 x8 f0 f1 f2 f3 f4 f5 f6 f7 f8 g4 k4 k5
          have x4 := (nine_cells HX3q.out).2.2.2.2.1
          have g4 := HX3q.out.free 4
          go_region_held_law (fun W => W.cell? ⟨gx, 4, none⟩ = some (.int .u64 (pl : Int)) ∧ W.cell? ⟨gx, 5, none⟩ = some (.int .u64 (sz : Int)))
            ((refine KS.out _ ?_; (repeat' (first | with_reducible assumption | with_reducible refine below_drewN ?_ _ | with_reducible refine Below.drew ?_ | (with_reducible refine Below.setCell ?_ ?_ _)))))
            (fail)
          have hg7 := only_set (only_refl w5 (some (w.heap.size + 2))) 4 (.slice A2 sz c2)
          have hZ7 : Box (w5.setCell ⟨w.heap.size + 2, 4, none⟩ (.slice A2 sz c2)).drew w.heap.size 39 _ := (HZ3q.out.grown hg7 (fun e => by injection e with e; omega)).drew
          have hX7 : Box (w5.setCell ⟨w.heap.size + 2, 4, none⟩ (.slice A2 sz c2)).drew (w.heap.size + 2) 39 #[.string ⟨#[]⟩, .int .i64 (kd : Int), .int .u64 (fl : Int), .int .u64 (ad : Int), .slice A2 sz c2, .int .i64 (lk : Int), .int .i64 (inf : Int), .int .i64 (al : Int), .int .i64 (ec : Int)] := by simpa using (HX3q.out.set 4 (.slice A2 sz c2)).drew
          have hB7 : Below w.heap.size w (w5.setCell ⟨w.heap.size + 2, 4, none⟩ (.slice A2 sz c2)).drew := (HB3q.out.setCell hge _).drew
          have HZ7 := Lib.hid hZ7
          have HB7 := Lib.hid hB7
          obtain ⟨r0, r1, r2, r3, r4, r5, r6, r7, r8⟩ := nine_cells hZ7
          obtain ⟨x0, x1, x2, x3, y4, x5, x6, x7, x8⟩ := nine_cells hX7
          obtain ⟨f0, f1, f2, f3, f4, f5, f6, f7, f8⟩ := nine_free hZ7
          clear hg7 hZ7 hX7 hB7 x4 g4 KS hb4
          generalize (w5.setCell ⟨w.heap.size + 2, 4, none⟩ (.slice A2 sz c2)).drew = w7 at *
          go_wp2_with fail
          refine ret_two Tryz.underlying39 Tryz.results54 (nine_box HZ7.out rfl _ _ _ _ _ _ _ _ _) (by kernel_rfl) (by rfl) rfl ?_
          have hB9 := nine_below HB7.out (Nat.le_refl _) (.string ⟨#[]⟩) (.int .i64 (kd : Int)) (.int .u64 (fl : Int)) (.int .u64 (ad : Int)) (.slice A2 sz c2) (.int .i64 (lk : Int)) (.int .i64 (inf : Int)) (.int .i64 (al : Int)) (.int .i64 (ec : Int))
          exact ⟨⟨⟨[], (kd : Int), fl, ad, (l.drop pl).take sz, (lk : Int), (inf : Int), (al : Int), (ec : Int)⟩, A2, c2⟩, by rw [HF.out.1]; simp only [Lay.val, Lay.cells, Lay.dv, HPL.out]; rfl, fun _ => ⟨HF.out.2.symm, .inl hra.out.1, by rw [HPL.out]; exact hra.out.2.1, hra.out.2.2⟩, hB9⟩

theorem rsection_any {w : World} {B : Nat} {A : Option Addr} {l : List UInt8} (hr : Rd w B A l) (c : Nat) (hlc : l.length ≤ c) (hcm : c ≤ maxLen) (hl : l.length ≤ 140737488355328) {gx cx : Nat} {ns : List Nat} (hx : EntAt w gx 0 ns) (hn : ∀ x ∈ ns, x < two64) :
    Calls Tryz.prog 54 #[.slice A l.length c, .slice (some ⟨gx, 0, none⟩) 10 cx] w (SecIs B l ns w) := by
  match ns, hx.1 with
  | [nm, kd, fl, ad, pl, sz, lk, inf, al, ec], _ =>
    rcases small_ways kd lk inf al ec with ⟨hs, h1, h2, h3, h4, h5⟩ | ⟨hs, hw⟩
    · exact rsection_small hr c hlc hcm hl nm kd fl ad pl sz lk inf al ec hx hn hs h1 h2 h3 h4 h5
    · exact rsection_great c nm kd fl ad pl sz lk inf al ec hx hs hw

end Go.Proofs.YtldmjnbmjfnfeaaGreatDoor

namespace Go.Proofs.YtldmjnbmjfnfeaaGreatDoor
open Go Go.RowKit

/-- What the rounds of the document's Take may turn. -/
def TakeObj : Obj → Prop
  | .cells _ t _ => t = 105 ∨ t = 39 ∨ t = 37
  | _ => False
theorem Only.wide {base : Nat} {bad bad' : Obj → Prop} {a b : World} (h : Only base bad a b) (hs : ∀ o, bad o → bad' o) : Only base bad' a b := ⟨h.1, fun k o hk hn => h.2 k o hk (fun hb => hn (hs o hb))⟩
theorem take_sect {base : Nat} {a b : World} (h : Only base (CellsOf 39) a b) : Only base TakeObj a b := h.wide fun o ho => by
  cases o <;> first | exact Or.inr (Or.inl ho) | exact absurd ho id
theorem take_nums {base : Nat} {a b : World} (h : Only base (CellsOf 37) a b) : Only base TakeObj a b := h.wide fun o ho => by
  cases o <;> first | exact Or.inr (Or.inr ho) | exact absurd ho id
theorem RR.only {B : Nat} {w w' : World} {g : Nat} {v : Value} {l : List UInt8} {a : Nat} {e : Int} {bad : Obj → Prop} (h : RR B w g v l a e) (hb : Only B bad w w') (hC : ∀ cs f, ¬ bad (.cells cs 105 f)) : RR B w' g v l a e :=
  ⟨hb.2 _ _ h.1 (hC _ _), h.2.1.imp fun _ => Exists.imp fun _ k => ⟨k.1, k.2.1, k.2.2.1, k.2.2.2.below hb.1⟩, h.2.2.1, h.2.2.2⟩

/-- Sections' bytes: below a place, or rows of the call's own. -/
def KeepL (w : World) (B : Nat) (L : List Lay) : Prop := ∀ x ∈ L, (Rd w B x.A x.s.data ∨ Own w B x.dv x.s.data) ∧ x.s.data.length ≤ x.c ∧ x.c ≤ maxLen
theorem KeepL.only {w w' : World} {B : Nat} {L : List Lay} {bad : Obj → Prop} (h : KeepL w B L) (hb : Only B bad w w') (hn : ∀ cs f, ¬ bad (.cells cs 5 f)) : KeepL w' B L := fun x hx => by
  obtain ⟨h1, h2⟩ := h x hx
  exact ⟨h1.imp (fun h => h.below hb.1) (fun h => row_only h hb hn), h2⟩
theorem KeepL.rd {w : World} {B : Nat} {L : List Lay} (h : KeepL w B L) (hB : B ≤ w.heap.size) {x : Lay} (hx : x ∈ L) : Rd w w.heap.size x.A x.s.data ∧ x.s.data.length ≤ x.c ∧ x.c ≤ maxLen := by
  obtain ⟨h1, h2⟩ := h x hx
  refine ⟨?_, h2⟩
  rcases h1 with h1 | h1
  · exact h1.more hB
  · obtain ⟨A, c, e, _, _, hr⟩ := own_slice h1
    unfold Lay.dv at e
    injection e with e1 _ _
    rw [e1]
    exact hr

/-- Sections without their names, and where those stand, entry by entry. -/
def secsZ (l : List UInt8) (off k : Nat) : List Sect := (List.range k).map fun i => sectZ l (entN l (off + 64 * i))
def atsZ (l : List UInt8) (off k : Nat) : List Nat := (List.range k).map fun i => nameN (entN l (off + 64 * i))
theorem secsZ_next (l : List UInt8) (off k : Nat) : secsZ l off (k + 1) = secsZ l off k ++ [sectZ l (entN l (off + 64 * k))] := by simp [secsZ, List.range_succ]
theorem atsZ_next (l : List UInt8) (off k : Nat) : atsZ l off (k + 1) = atsZ l off k ++ [nameN (entN l (off + 64 * k))] := by simp [atsZ, List.range_succ]
theorem secsZ_length (l : List UInt8) (off k : Nat) : (secsZ l off k).length = k := by simp [secsZ]
theorem atsZ_length (l : List UInt8) (off k : Nat) : (atsZ l off k).length = k := by simp [atsZ]
theorem secsZ_get (l : List UInt8) (off k i : Nat) (h : i < k) : (secsZ l off k)[i]? = some (sectZ l (entN l (off + 64 * i))) := by simp [secsZ, h]
theorem atsZ_get (l : List UInt8) (off k i : Nat) (h : i < k) : (atsZ l off k)[i]? = some (nameN (entN l (off + 64 * i))) := by simp [atsZ, h]
/-- Whether the first entry is all zero, as far as it was looked at. -/
def firstZ (l : List UInt8) (off k : Nat) : Bool := if k = 0 then true else decide (entN l off = List.replicate 10 0)
theorem all_zero (ns : List Nat) (h : ns.length = 10) : (ns.all fun x => decide (x = 0)) = decide (ns = List.replicate 10 0) := by
  rw [Bool.eq_iff_iff, decide_eq_true_eq, List.all_eq_true]
  simp only [decide_eq_true_eq]
  rw [List.eq_replicate_iff]
  exact ⟨fun hh => ⟨h, hh⟩, fun hh => hh.2⟩

/-- What goes along in the rounds over the entries. -/
structure TkSt (w wr : World) (gc : Nat) (v u ua : Value) (L : List Lay) (l : List UInt8) (off k : Nat) : Prop where
  cur : RR w.heap.size wr gc v l (off + 64 * k) 0
  out : OwnL wr w.heap.size u L
  secs : secsOf L = secsZ l off k
  keep : KeepL wr w.heap.size L
  ats : OwnU wr w.heap.size ua (atsZ l off k)
theorem TkSt.len {w wr : World} {gc : Nat} {v u ua : Value} {L : List Lay} {l : List UInt8} {off k : Nat} (h : TkSt w wr gc v u ua L l off k) : L.length = k := by
  have := congrArg List.length h.secs
  rw [secsZ_length] at this
  simpa using this

/-- The first k of the sections with their names. -/
def nameL (tbl l : List UInt8) (off : Nat) (L : List Lay) (k : Nat) : List Lay := L.mapIdx fun i x => if i < k then ⟨{ x.s with name := (atT tbl (nameN (entN l (off + 64 * i)))).1 }, x.A, x.c⟩ else x
theorem nameL_zero (tbl l : List UInt8) (off : Nat) (L : List Lay) : nameL tbl l off L 0 = L := by
  apply List.ext_getElem?
  intro i
  simp [nameL, List.getElem?_mapIdx]
theorem nameL_length (tbl l : List UInt8) (off : Nat) (L : List Lay) (k : Nat) : (nameL tbl l off L k).length = L.length := by simp [nameL]
theorem nameL_get (tbl l : List UInt8) (off : Nat) (L : List Lay) (k i : Nat) (x : Lay) (h : L[i]? = some x) : (nameL tbl l off L k)[i]? = some (if i < k then ⟨{ x.s with name := (atT tbl (nameN (entN l (off + 64 * i)))).1 }, x.A, x.c⟩ else x) := by
  simp [nameL, List.getElem?_mapIdx, h]
theorem nameL_next (tbl l : List UInt8) (off : Nat) (L : List Lay) (k : Nat) (x : Lay) (h : L[k]? = some x) : nameL tbl l off L (k + 1) = (nameL tbl l off L k).set k ⟨{ x.s with name := (atT tbl (nameN (entN l (off + 64 * k)))).1 }, x.A, x.c⟩ := by
  apply List.ext_getElem?
  intro i
  by_cases hi : i = k
  · subst hi
    have hk := (List.getElem?_eq_some_iff.1 h).1
    rw [nameL_get _ _ _ _ _ _ _ h, if_pos (by omega), List.getElem?_set_self (by rw [nameL_length]; exact hk)]
  · rw [List.getElem?_set_ne (fun e => hi e.symm)]
    rcases hx : L[i]? with _ | y
    · simp [nameL, List.getElem?_mapIdx, hx]
    · rw [nameL_get _ _ _ _ _ _ _ hx, nameL_get _ _ _ _ _ _ _ hx]
      by_cases h1 : i < k
      · rw [if_pos h1, if_pos (by omega)]
      · rw [if_neg h1, if_neg (by omega)]
theorem nameL_keep {w : World} {B : Nat} {L : List Lay} (h : KeepL w B L) (tbl l : List UInt8) (off k : Nat) : KeepL w B (nameL tbl l off L k) := by
  intro x hx
  obtain ⟨i, hi, e⟩ := List.getElem_of_mem hx
  rw [nameL_length] at hi
  have hy : L[i]? = some (L[i]'hi) := List.getElem?_eq_getElem _
  have h1 := nameL_get tbl l off L k i _ hy
  have h2 : (nameL tbl l off L k)[i]? = some x := by rw [← e]; exact List.getElem?_eq_getElem _
  rw [h1] at h2
  injection h2 with h2
  have h3 := h _ (List.getElem_mem hi)
  rw [← h2]
  split <;> exact h3
theorem nameL_all {tbl l : List UInt8} {off n sh : Nat} {L : List Lay} (h : secsOf L = secsZ l off n) (ht : tbl = tblT l off sh) : secsOf (nameL tbl l off L n) = secsT l off n sh := by
  have hl : L.length = n := by
    have := congrArg List.length h
    rw [secsZ_length] at this
    simpa using this
  apply List.ext_getElem?
  intro i
  by_cases hi : i < n
  · have hy : L[i]? = some (L[i]'(by omega)) := List.getElem?_eq_getElem _
    have h1 := get_secsOf hy
    rw [h, secsZ_get _ _ _ _ hi] at h1
    injection h1 with h1
    rw [get_secsOf (nameL_get tbl l off L n i _ hy), if_pos hi, ← h1, ht]
    simp [secsT, hi, sectZ, sectT]
  · rw [List.getElem?_eq_none (by simp [nameL_length, hl]; omega), List.getElem?_eq_none (by simp [secsT]; omega)]

/-- A section's name stored into the row. -/
theorem ownl_name {w : World} {base g c : Nat} {L : List Lay} {i : Nat} {z : Lay} (h : OwnL w base (.slice (some ⟨g, 0, none⟩) L.length c) L) (hz : L[i]? = some z) (t : List UInt8) :
    OwnL (w.setCell ⟨g, i * 9, none⟩ (.string ⟨t.toArray⟩)) base (.slice (some ⟨g, 0, none⟩) L.length c) (L.set i ⟨{ z.s with name := t }, z.A, z.c⟩) ∧ w.grownBy (w.setCell ⟨g, i * 9, none⟩ (.string ⟨t.toArray⟩)) (some g) := by
  obtain ⟨h1, h2⟩ := World.ownsRow.stored h (i * 9) (.string ⟨t.toArray⟩)
  refine ⟨?_, h2⟩
  have hml := (List.getElem?_eq_some_iff.1 hz).1
  have e : cellsL (L.set i ⟨{ z.s with name := t }, z.A, z.c⟩) = (cellsL L).set (i * 9) (.string ⟨t.toArray⟩) := by
    apply List.ext_getElem?
    intro j
    by_cases hj : j < L.length * 9
    · have hq : L[j / 9]? = some (L[j / 9]'(by omega)) := List.getElem?_eq_getElem _
      have hr : (L[j / 9]'(by omega)).cells[j % 9]? = some ((L[j / 9]'(by omega)).cells[j % 9]'(by show j % 9 < 9; omega)) := List.getElem?_eq_getElem _
      have h0 := cellsL_at L _ _ _ _ hq hr
      rw [show j / 9 * 9 + j % 9 = j by omega] at h0
      by_cases hjm : j / 9 = i
      · subst hjm
        have hzz : L[j / 9]'(by omega) = z := by rw [hq] at hz; injection hz
        have hs : (L.set (j / 9) (⟨{ z.s with name := t }, z.A, z.c⟩ : Lay))[j / 9]? = some ⟨{ z.s with name := t }, z.A, z.c⟩ := List.getElem?_set_self (by omega)
        have hyc : (⟨{ z.s with name := t }, z.A, z.c⟩ : Lay).cells[j % 9]? = some ((⟨{ z.s with name := t }, z.A, z.c⟩ : Lay).cells[j % 9]'(by show j % 9 < 9; omega)) := List.getElem?_eq_getElem _
        have h3 := cellsL_at _ _ _ _ _ hs hyc
        rw [show j / 9 * 9 + j % 9 = j by omega] at h3
        have hy : (⟨{ z.s with name := t }, z.A, z.c⟩ : Lay).cells = z.cells.set 0 (.string ⟨t.toArray⟩) := rfl
        rw [h3, ← hyc, hy]
        by_cases h4 : j % 9 = 0
        · rw [h4, List.getElem?_set_self (by show 0 < 9; omega), show j = j / 9 * 9 by omega, show (j / 9 * 9) / 9 = j / 9 by omega, List.getElem?_set_self (by rw [cellsL_length]; omega)]
        · rw [List.getElem?_set_ne (by omega), List.getElem?_set_ne (by omega), h0, ← hr, hzz]
      · have hs : (L.set i (⟨{ z.s with name := t }, z.A, z.c⟩ : Lay))[j / 9]? = some (L[j / 9]'(by omega)) := by rw [List.getElem?_set_ne (by omega)]; exact hq
        have h3 := cellsL_at _ _ _ _ _ hs hr
        rw [show j / 9 * 9 + j % 9 = j by omega] at h3
        rw [h3, List.getElem?_set_ne (by omega), h0]
    · rw [List.getElem?_eq_none (by rw [cellsL_length, List.length_set]; omega), List.getElem?_eq_none (by rw [List.length_set, cellsL_length]; omega)]
  unfold OwnL
  rw [List.length_set, e]
  exact h1

/-- What the document's Take tells. -/
def RSTake (l : List UInt8) (w : World) (r : Ending) (w' : World) : Prop :=
  ∃ (A : Option Addr) (c : Nat) (L : List Lay), r = .returned (.tuple #[secH l, .slice A L.length c, .int .i64 (secE l)]) ∧ secsOf L = secL l ∧ Secs w' w'.heap.size A L ∧ L.length ≤ c ∧ Below w.heap.size w w'
theorem secs_nil (w : World) (B : Nat) : Secs w B none [] := ⟨fun h => absurd h (by simp), fun x hx => by cases hx⟩

end Go.Proofs.YtldmjnbmjfnfeaaGreatDoor
