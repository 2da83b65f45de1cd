/-
  Package object: whether an object may be put (Right).
-/
import Derived.Test.YtldmjnbmjfnfeaaGreatDoorSeV
import Derived.Test.YtldmjnbmjfnfeaaGreatDoorEhL
import Derived.Test.YtldmjnbmjfnfeaaGreatDoorSeR
namespace Go.Proofs.YtldmjnbmjfnfeaaGreatDoor
open Go Go.RowKit

def offT (l : List UInt8) : Nat := numT (l.take 64) 40 8
def cntT (l : List UInt8) : Nat := numT (l.take 64) 60 2
def shsT (l : List UInt8) : Nat := numT (l.take 64) 62 2
/-- Why there are no sections. -/
def secE (l : List UInt8) : Int :=
  if 1048576 < l.length then 3 else if takeE l ≠ 0 then takeE l else if errUp l (offT l) (cntT l) ≠ 0 then errUp l (offT l) (cntT l) else tellE l (offT l) (cntT l) (shsT l)
/-- The header, and the sections. -/
def secH (l : List UInt8) : Value := if secE l = 0 then takeH l else hdV 0 0 0 0 0
def secL (l : List UInt8) : List Sect := if secE l = 0 then secsT l (offT l) (cntT l) (shsT l) else []

theorem take_facts {l : List UInt8} (h : takeE l = 0) : 1 ≤ cntT l ∧ cntT l ≤ 64 ∧ 1 ≤ shsT l ∧ shsT l < cntT l ∧ offT l + cntT l * 64 ≤ l.length ∧
    (numT (l.take 64) 16 2 = 1 ∨ numT (l.take 64) 16 2 = 2) ∧ (numT (l.take 64) 18 2 = 62 ∨ numT (l.take 64) 18 2 = 183) ∧ takeH l = hdV (numT (l.take 64) 16 2 : Int) (numT (l.take 64) 18 2 : Int) (offT l) (cntT l : Int) (shsT l : Int) := by
  have hH : takeH l = hdV (numT (l.take 64) 16 2 : Int) (numT (l.take 64) 18 2 : Int) (offT l) (cntT l : Int) (shsT l : Int) := by unfold takeH; rw [if_pos h]; rfl
  unfold takeE at h
  split at h
  · split at h
    · rename_i h2
      rw [Bool.and_eq_true] at h2
      have h3 := h2.2
      unfold rightOf at h3
      simp only [Bool.and_eq_true, decide_eq_true_eq] at h3
      have : (offT l : Int) = (numT (l.take 64) 40 8 : Int) := rfl
      obtain ⟨⟨⟨⟨g1, g2⟩, g3⟩, g4⟩, g5⟩ := h3
      refine ⟨?_, ?_, ?_, ?_, ?_, ?_, ?_, hH⟩ <;> unfold cntT at * <;> unfold shsT at * <;> unfold offT at * <;> omega
    · cases h
  · cases h
theorem secE_tell {l : List UInt8} (h1 : ¬ 1048576 < l.length) (h2 : takeE l = 0) (h3 : errUp l (offT l) (cntT l) = 0) : secE l = tellE l (offT l) (cntT l) (shsT l) := by
  unfold secE
  rw [if_neg h1, if_neg (by simp [h2]), if_neg (by simp [h3])]
theorem sec_bad {l : List UInt8} {e : Int} (h : secE l = e) (he : e ≠ 0) : secH l = hdV 0 0 0 0 0 ∧ secL l = [] := by
  unfold secH secL
  rw [if_neg (by rw [h]; exact he), if_neg (by rw [h]; exact he)]
  exact ⟨rfl, rfl⟩
theorem told_nil (w : World) (base : Nat) : Told w base (.slice none 0 0) [] := ⟨[], rfl, World.ownsRow_nil _ _ _ _, by simp⟩

def STake (l : List UInt8) (w : World) (r : Ending) (w' : World) : Prop := ∃ u, r = .returned (.tuple #[secH l, u, .int .i64 (secE l)]) ∧ Told w' w.heap.size u (secL l) ∧ Below w.heap.size w w'

set_option maxRecDepth 10000 in
set_option maxHeartbeats 3200000 in
theorem stake_any {w : World} {A : Option Addr} {l : List UInt8} (hr : Rd w w.heap.size A l) (c : Nat) (hlc : l.length ≤ c) (hl : l.length ≤ 140737488355328) (hM : Mg w) :
    Calls Tryz.prog 19 #[.slice A l.length c] w (STake l w) := by
  have HXR := Lib.hid (Box.new w 55 #[.int .i64 0, .int .i64 0, .int .u64 0, .int .i64 0, .int .i64 0])
  have hb0 : Below w.heap.size w (w.alloc (.cells #[.int .i64 0, .int .i64 0, .int .u64 0, .int .i64 0, .int .i64 0] 55)) := (Below.refl _ _).alloc (Nat.le_refl _) _
  by_cases hbig : 1048576 < l.length
  · have hE : secE l = 3 := by unfold secE; rw [if_pos hbig]
    obtain ⟨hH, hL⟩ := sec_bad hE (by decide)
    have HF := Lib.hid (And.intro hE (And.intro hH hL))
    have hd : decide ((1048576 : Int) < (l.length : Int)) = true := decide_eq_true (by omega)
    have HB0 := Lib.hid hb0
    clear hbig hE hH hL hr hb0
    unfold STake
    generalize secE l = se at *
    generalize secH l = sh at *
    generalize secL l = sl at *
    generalize l.length = n at *
    go_enter Tryz.func19, Tryz.ntmps19
    go_wp2_with fail
    refine ret_three Tryz.underlying55 Tryz.results19 HXR.out (by kernel_rfl) (by rfl) rfl ?_
    exact ⟨_, by rw [HF.out.1, HF.out.2.1]; rfl, by rw [HF.out.2.2]; exact told_nil _ _, HB0.out⟩
  · have hd : decide ((1048576 : Int) < (l.length : Int)) = false := decide_eq_false (by omega)
    have HTK := Lib.hid (take_any (hr.below hb0) hb0.size c hlc (hM.alloc _) hl)
    have HB0 := Lib.hid hb0
    by_cases hte : takeE l = 0
    · obtain ⟨hn1, hn, hs1, hsn, hin, _, _, hH⟩ := take_facts hte
      unfold TakeIs at HTK
      have hE1 : secE l = if errUp l (offT l) (cntT l) ≠ 0 then errUp l (offT l) (cntT l) else tellE l (offT l) (cntT l) (shsT l) := by unfold secE; rw [if_neg hbig, if_neg (by simp [hte])]
      have HRD := Lib.hid (fun W (hW : Below w.heap.size w W) => read_any ((hr.below hW).more hW.size) c hlc hl (numT (l.take 64) 16 2 : Int) (numT (l.take 64) 18 2 : Int) (shsT l : Int) (offT l) (cntT l) hn1 hn hin)
      have HTL := Lib.hid (fun W (hW : Below w.heap.size w W) (be : Nat) (v : Value) (hE : OwnE W be v (entsT l (offT l) (cntT l))) (h0 : errUp l (offT l) (cntT l) = 0) => tell_any ((hr.below hW).more hW.size) c hlc hl (numT (l.take 64) 16 2 : Int) (numT (l.take 64) 18 2 : Int) (offT l) (cntT l) (shsT l) hn hsn hin hE h0)
      rw [hH, hte] at HTK
      have HSH := Lib.hid (show secE l = 0 → secH l = hdV (numT (l.take 64) 16 2 : Int) (numT (l.take 64) 18 2 : Int) (offT l) (cntT l : Int) (shsT l : Int) from fun h => by unfold secH; rw [if_pos h, hH])
      have HSL := Lib.hid (show secE l = 0 → secL l = secsT l (offT l) (cntT l) (shsT l) from fun h => by unfold secL; rw [if_pos h])
      have HBAD := Lib.hid (fun e (h : secE l = e) (he : e ≠ 0) => sec_bad h he)
      have HE1 := Lib.hid hE1
      unfold STake
      clear hE1 hH hin hr hte hb0 hM hbig
      generalize secE l = se at *
      generalize secH l = sh at *
      generalize secL l = sl at *
      generalize numT (l.take 64) 16 2 = x0 at *
      generalize numT (l.take 64) 18 2 = x1 at *
      generalize offT l = x2 at *
      generalize cntT l = x3 at *
      generalize shsT l = x4 at *
      have HED := Lib.hid (show ∀ e1, errUp l x2 x3 = e1 → (e1 ≠ 0 → se = e1) ∧ (e1 = 0 → se = tellE l x2 x3 x4) from fun e1 h => by
        refine ⟨fun h1 => ?_, fun h1 => ?_⟩
        · rw [HE1.out, if_pos (by rw [h]; exact h1), h]
        · rw [HE1.out, if_neg (by simp [h, h1])])
      generalize hln : l.length = n at *
      go_enter Tryz.func19, Tryz.ntmps19
      go_wp2_with (go_at_call 47; refine HTK.out.mono ?_; rintro r w1 ⟨rfl, hb1⟩; have HB1 := Lib.hid (HB0.out.trans (hb1.mono HB0.out.size)); have HX1 := Lib.hid (HXR.out.below hb1 (by simp)); clear hb1 HTK)
      have hb2 : Below w1.heap.size w1 (w1.alloc (.cells #[.int .i64 (x0 : Int), .int .i64 (x1 : Int), .int .u64 (x2 : Int), .int .i64 (x3 : Int), .int .i64 (x4 : Int)] 55)) := (Below.refl _ _).alloc (Nat.le_refl _) _
      have hW2 := HB1.out.trans (hb2.mono HB1.out.size)
      have hX2 := HX1.out.below hb2 HX1.out.lt
      have hH2 := Box.new w1 55 #[.int .i64 (x0 : Int), .int .i64 (x1 : Int), .int .u64 (x2 : Int), .int .i64 (x3 : Int), .int .i64 (x4 : Int)]
      refine (HRD.out _ hW2).mono ?_
      rintro r w3 ⟨v3, rfl, hE3, hb3⟩
      have HW3 := Lib.hid (hW2.trans (hb3.mono hW2.size))
      have HX3 := Lib.hid (hX2.below hb3 hX2.lt)
      have hH3 := hH2.below hb3 hH2.lt
      have HH3 := Lib.hid hH3
      have k0 := hH3.cell 0
      have k1 := hH3.cell 1
      have k2 := hH3.cell 2
      have k3 := hH3.cell 3
      have k4 := hH3.cell 4
      simp at k0 k1 k2 k3 k4
      clear hb2 hX2 hH2 hH3 HX1 HRD HXR
      generalize hee : errUp l x2 x3 = e1 at *
      have hf := fun i => HX3.out.free i
      have r0 := HX3.out.cell 0
      have r1 := HX3.out.cell 1
      have r2 := HX3.out.cell 2
      have r3 := HX3.out.cell 3
      have r4 := HX3.out.cell 4
      simp at r0 r1 r2 r3 r4
      have f0 := hf 0
      have f1 := hf 1
      have f2 := hf 2
      have f3 := hf 3
      have f4 := hf 4
      by_cases he1 : e1 = 0
      · have q1 : (e1 != 0) = false := by simp [he1]
        have hE3' := hE3 he1
        have HT3 := Lib.hid (HTL.out w3 HW3.out w.heap.size v3 (row_base hE3' hW2.size) he1)
        have HED2 := Lib.hid ((HED.out e1 rfl).2 he1)
        clear hE3 hE3' hee he1 HED HTL hf HE1
        generalize tellE l x2 x3 x4 = e2 at *
        go_wp2_with fail
        refine HT3.out.mono ?_
        rintro r w4 ⟨u4, rfl, hT4, hb4⟩
        have HW4 := Lib.hid (HW3.out.trans (hb4.mono HW3.out.size))
        have HX4 := Lib.hid (HX3.out.below hb4 HX3.out.lt)
        have hH4 := HH3.out.below hb4 HH3.out.lt
        have j0 := hH4.cell 0
        have j1 := hH4.cell 1
        have j2 := hH4.cell 2
        have j3 := hH4.cell 3
        have j4 := hH4.cell 4
        simp at j0 j1 j2 j3 j4
        have s0 := HX4.out.cell 0
        have s1 := HX4.out.cell 1
        have s2 := HX4.out.cell 2
        have s3 := HX4.out.cell 3
        have s4 := HX4.out.cell 4
        simp at s0 s1 s2 s3 s4
        have g0 := HX4.out.free 0
        have g1 := HX4.out.free 1
        have g2 := HX4.out.free 2
        have g3 := HX4.out.free 3
        have g4 := HX4.out.free 4
        clear hb4 hH4 HX3 HH3 k0 k1 k2 k3 k4 r0 r1 r2 r3 r4 f0 f1 f2 f3 f4 HT3
        by_cases he2 : e2 = 0
        · have q2 : (e2 != 0) = false := by simp [he2]
          have hse : se = 0 := HED2.out.trans he2
          have HF := Lib.hid (And.intro hse (And.intro (HSH.out hse) (HSL.out hse)))
          have HT4 := Lib.hid (Told.base_ (hT4 he2) HW3.out.size)
          clear hT4 hse he2
          go_wp2_with fail
          refine ret_three Tryz.underlying55 Tryz.results19 (five_box HX4.out (.int .i64 (x0 : Int)) (.int .i64 (x1 : Int)) (.int .u64 (x2 : Int)) (.int .i64 (x3 : Int)) (.int .i64 (x4 : Int))) (by kernel_rfl) (by rfl) rfl ?_
          have hgr : w4.grownBy _ (some w.heap.size) := only_set (only_set (only_set (only_set (only_set (only_refl w4 (some w.heap.size)) 0 (.int .i64 (x0 : Int))) 1 (.int .i64 (x1 : Int))) 2 (.int .u64 (x2 : Int))) 3 (.int .i64 (x3 : Int))) 4 (.int .i64 (x4 : Int))
          refine ⟨_, by rw [HF.out.1, HF.out.2.1]; rfl, ?_, five_below HW4.out (Nat.le_refl _) _ _ _ _ _⟩
          rw [HF.out.2.2]
          obtain ⟨L, t1, t2, t3⟩ := HT4.out
          have hon : Only w.heap.size (CellsOf 55) w4 _ := Only.row hgr HX4.out rfl (Nat.le_refl _)
          exact ⟨L, t1, row_only t2 hon (fun cs f hh => absurd (show 39 = 55 from hh) (by decide)), fun x hx => row_only (t3 x hx) hon (fun cs f hh => absurd (show 5 = 55 from hh) (by decide))⟩
        · have q2 : (e2 != 0) = true := by simpa using he2
          obtain ⟨hb1, hb2⟩ := HBAD.out e2 HED2.out he2
          have HF := Lib.hid (And.intro HED2.out (And.intro hb1 hb2))
          clear hT4 he2 hb1 hb2
          go_wp2_with fail
          refine ret_three Tryz.underlying55 Tryz.results19 (five_box HX4.out (.int .i64 0) (.int .i64 0) (.int .u64 0) (.int .i64 0) (.int .i64 0)) (by kernel_rfl) (by rfl) rfl ?_
          exact ⟨_, by rw [HF.out.1, HF.out.2.1]; rfl, by rw [HF.out.2.2]; exact told_nil _ _, five_below HW4.out (Nat.le_refl _) _ _ _ _ _⟩
      · have q1 : (e1 != 0) = true := by simpa using he1
        have hse := (HED.out e1 rfl).1 he1
        obtain ⟨hb1, hb2⟩ := HBAD.out e1 hse he1
        have HF := Lib.hid (And.intro hse (And.intro hb1 hb2))
        clear hE3 hee he1 hse hb1 hb2 HED HTL hf HE1
        go_wp2_with fail
        refine ret_three Tryz.underlying55 Tryz.results19 (five_box HX3.out (.int .i64 0) (.int .i64 0) (.int .u64 0) (.int .i64 0) (.int .i64 0)) (by kernel_rfl) (by rfl) rfl ?_
        exact ⟨_, by rw [HF.out.1, HF.out.2.1]; rfl, by rw [HF.out.2.2]; exact told_nil _ _, five_below HW3.out (Nat.le_refl _) _ _ _ _ _⟩
    · have hE1 : secE l = takeE l := by unfold secE; rw [if_neg hbig, if_pos hte]
      obtain ⟨hH1, hL1⟩ := sec_bad hE1 hte
      have hTH : takeH l = hdV 0 0 0 0 0 := by unfold takeH; rw [if_neg hte]
      have HF := Lib.hid (And.intro hE1 (And.intro hH1 hL1))
      unfold TakeIs at HTK
      rw [hTH] at HTK
      have q1 : (takeE l != 0) = true := by simpa using hte
      unfold STake
      clear hE1 hH1 hL1 hTH hte hbig hr hb0 hM
      generalize secE l = se at *
      generalize secH l = sh at *
      generalize secL l = sl at *
      generalize takeE l = te at *
      generalize l.length = n at *
      go_enter Tryz.func19, Tryz.ntmps19
      go_wp2_with (go_at_call 47; refine HTK.out.mono ?_; rintro r w1 ⟨rfl, hb1⟩; have HB1 := Lib.hid (HB0.out.trans (hb1.mono HB0.out.size)); have hX1 := HXR.out.below hb1 (by simp); have HX1 := Lib.hid hX1; have r0 := hX1.cell 0; have r1 := hX1.cell 1; have r2 := hX1.cell 2; have r3 := hX1.cell 3; have r4 := hX1.cell 4; simp at r0 r1 r2 r3 r4; have f0 := hX1.free 0; have f1 := hX1.free 1; have f2 := hX1.free 2; have f3 := hX1.free 3; have f4 := hX1.free 4; have hlt1 := hX1.lt; clear hb1 HTK hX1)
      have hb6 := five_box HX1.out (.int .i64 0) (.int .i64 0) (.int .u64 0) (.int .i64 0) (.int .i64 0)
      have HZ6 := Lib.hid (hb6.below ((Below.refl _ _).alloc (Nat.le_refl _) (.cells #[.int .i64 0, .int .i64 0, .int .u64 0, .int .i64 0, .int .i64 0] 55)) hb6.lt)
      refine ret_three Tryz.underlying55 Tryz.results19 HZ6.out (by kernel_rfl) (by rfl) rfl ?_
      exact ⟨_, by rw [HF.out.1, HF.out.2.1]; rfl, by rw [HF.out.2.2]; exact told_nil _ _, (five_below HB1.out (Nat.le_refl _) _ _ _ _ _).alloc (Nat.le_of_lt hb6.lt) _⟩

end Go.Proofs.YtldmjnbmjfnfeaaGreatDoor

namespace Go.Proofs.YtldmjnbmjfnfeaaGreatDoor
open Go Go.RowKit

theorem put_wrong {kind machine : Int} {l : List Sect} (h : rightS l = false) : putE kind machine l = 2 ∧ putR kind machine l = [] := by
  have : mayPut kind machine l = false := by unfold mayPut; rw [h, Bool.false_and]
  simp [putE, putR, this]
theorem right_len {l : List Sect} (h : rightS l = true) : 2 ≤ l.length ∧ l.length ≤ 64 := by
  by_cases h2 : 2 ≤ l.length ∧ l.length ≤ 64
  · exact h2
  · rw [rightS_len h2] at h; cases h
theorem tabled_length (l : List Sect) (t : List UInt8) : (tabled l t).length = l.length := by
  unfold tabled
  split <;> simp
theorem laid_count {l : List Sect} (h2 : 2 ≤ l.length) : (laidS l).2.length = l.length := by
  have := layK_count (tabled l (putsT (gat (l.map (·.name))).1)) (gat (l.map (·.name))).2 (l.length - 1) (by rw [tabled_length]; omega) (by rw [gat_count, List.length_map]; omega)
  show (layK _ _ _).2.length = _
  rw [this]
  omega
theorem laid_tens (l : List Sect) : ∀ e ∈ (laidS l).2, e.length = 10 := layK_tens _ _ _
theorem tabled_data {l : List Sect} {t : List UInt8} (hd : ∀ s ∈ l, s.data.length ≤ 100000) (ht : t.length ≤ 65536) : ∀ s ∈ tabled l t, s.data.length ≤ 100000 := by
  intro s hs
  unfold tabled at hs
  split at hs
  · rcases List.mem_or_eq_of_mem_set hs with hs | rfl
    · exact hd s hs
    · exact Nat.le_trans ht (by decide)
  · exact hd s hs
theorem laid_size {l : List Sect} (hd : ∀ s ∈ l, s.data.length ≤ 100000) : (laidS l).1.length ≤ 80 + l.length * 100007 := by
  have h1 := layK_size (tabled l (putsT (gat (l.map (·.name))).1)) (gat (l.map (·.name))).2 (tabled_data hd (gat_table _)) (l.length - 1)
  show (padB (layK _ _ _).1).length ≤ _
  rw [padB_length]
  have h2 := padN_lt (layK (tabled l (putsT (gat (l.map (·.name))).1)) (gat (l.map (·.name))).2 (l.length - 1)).1.length
  have h3 : (l.length - 1) * 100007 ≤ l.length * 100007 := Nat.mul_le_mul_right _ (by omega)
  omega
theorem layK_64 (ss : List Sect) (ps : List Nat) : ∀ k, 64 ≤ (layK ss ps k).1.length
  | 0 => by simp [layK]
  | k + 1 => by
    have ih := layK_64 ss ps k
    rcases hs : ss[k + 1]? with _ | s
    · rw [layK, hs]; exact ih
    · rcases hp : ps[k + 1]? with _ | p
      · rw [layK, hs, hp]; exact ih
      · rw [layK_next hs hp, List.length_append, padB_length]
        omega
theorem laid_64 (l : List Sect) : 64 ≤ (laidS l).1.length := by
  show 64 ≤ (padB (layK _ _ _).1).length
  rw [padB_length]
  exact Nat.le_trans (layK_64 _ _ _) (Nat.le_add_right _ _)

set_option maxRecDepth 10000 in
set_option maxHeartbeats 6400000 in
theorem sput_any (kind machine : Int) {w : World} {a : Option Addr} {L : List Lay} (h : Secs w w.heap.size a L) (hM : Mg w) (c : Nat) (hlc : L.length ≤ c) (hl : L.length ≤ 100000) :
    Calls Tryz.prog 33 #[.int .i64 kind, .int .i64 machine, .slice a L.length c] w fun r w' => ∃ v, r = .returned (.tuple #[v, .int .i64 (putE kind machine (secsOf L))]) ∧ Own w' w.heap.size v (putR kind machine (secsOf L)) ∧ Below w.heap.size w w' := by
  have HR := Lib.hid (sright_any h c hlc hl)
  cases hr : rightS (secsOf L) with
  | false =>
    rw [hr] at HR
    obtain ⟨h1, h2⟩ := put_wrong (kind := kind) (machine := machine) hr
    rw [h1, h2]
    clear h h1 h2 hr hM
    generalize L.length = n at *
    go_enter Tryz.func33, Tryz.ntmps33
    go_wp2_with (go_at_call 60; refine HR.out.mono ?_; rintro r w1 ⟨rfl, hb1⟩)
    go_ret2
    exact ⟨_, rfl, World.ownsRow_nil _ _ _ _, hb1⟩
  | true =>
    rw [hr] at HR
    have hr2 := right_len hr
    have hn : (secsOf L).length = L.length := by simp
    have HLay := Lib.hid (fun W (hW : Below w.heap.size w W) => lay_any ((h.below hW).more hW.size) c hlc (by omega) (by omega))
    rw [show namesL L = (secsOf L).map (·.name) by simp [namesL, secsOf]] at HLay
    have hdat : ∀ s ∈ secsOf L, s.data.length ≤ 100000 := fun s hs => by
      obtain ⟨x, hx, rfl⟩ := List.mem_map.1 hs
      exact (h.ok x hx).fits.data
    have hLS : ∀ (l : List Sect) (n : Nat), l.length = n → (padB (layK (tabled l (putsT (gat (l.map (·.name))).1)) (gat (l.map (·.name))).2 (n - 1)).1, (layK (tabled l (putsT (gat (l.map (·.name))).1)) (gat (l.map (·.name))).2 (n - 1)).2) = laidS l := fun l n e => by subst e; rfl
    have hls := hLS (secsOf L) L.length hn
    have hes1 := laid_count (l := secsOf L) (by omega)
    have hes2 := laid_tens (secsOf L)
    have hbs1 := laid_size hdat
    have hbs2 := laid_64 (secsOf L)
    have HMY := Lib.hid (show mayPut kind machine (secsOf L) = (decide (kind = 1 ∨ kind = 2) && decide (machine = 62 ∨ machine = 183)) by unfold mayPut; rw [hr, Bool.true_and])
    have HPE := Lib.hid (show putE kind machine (secsOf L) = if mayPut kind machine (secsOf L) = true then 0 else 2 from rfl)
    have HPR := Lib.hid (show putR kind machine (secsOf L) = if mayPut kind machine (secsOf L) = true then headB kind machine (laidS (secsOf L)).1.length (L.length : Int) ((L.length - 1 : Nat) : Int) ++ ((laidS (secsOf L)).1 ++ entsB (laidS (secsOf L)).2).drop 64 else [] by
      rw [putR, fileB, hn])
    obtain ⟨i0, hi, hz0, hz1, hz2⟩ := info_parts u8_info
    rw [hn] at hes1 hbs1 hr2
    generalize hba : laidS (secsOf L) = ba at *
    obtain ⟨bb, es⟩ := ba
    simp only [Prod.mk.injEq] at hls
    rw [hls.1, hls.2] at HLay
    simp only at hes1 hes2 hbs1 hbs2 HPR
    generalize mayPut kind machine (secsOf L) = may at *
    generalize putE kind machine (secsOf L) = pe at *
    generalize putR kind machine (secsOf L) = pr at *
    obtain ⟨m, hm⟩ : ∃ m, L.length = m + 1 := ⟨L.length - 1, by omega⟩
    rw [hm] at HR HLay hes1 hbs1 HPR hlc hr2 ⊢
    rw [Nat.add_sub_cancel] at HPR
    have hmb : m ≤ 63 := by omega
    have hm1 : 1 ≤ m := by omega
    clear hr hdat hLS hls hba hn hr2 h hl hlc
    have HT := Lib.hid hes2
    have HES := Lib.hid hes1
    have HMg := Lib.hid hM
    clear hes2 hM
    go_enter Tryz.func33, Tryz.ntmps33
    go_wp2_with (go_at_call 60; refine HR.out.mono ?_; rintro r w1 ⟨rfl, hb1⟩; have HB1 := Lib.hid hb1; clear hb1 HR)
    refine (HLay.out _ HB1.out).mono ?_
    rintro r w2 ⟨u2, v2, rfl, hu2, hv2, hb2⟩
    have HU2 := Lib.hid (own_up hu2 HB1.out.size)
    have HV2 := Lib.hid (row_base hv2 HB1.out.size)
    have HB2 := Lib.hid (HB1.out.trans (hb2.mono HB1.out.size))
    obtain ⟨A2, c2, rfl, _, _, _⟩ := own_slice hu2
    obtain ⟨ge, ce, rfl, hge, hgel, hce⟩ := owne_form hv2 (by omega)
    clear hu2 hv2 hb2 HLay HB1
    rw [hes1] at hce ⊢
    have hzl := IntWalk.u64_in (bb.length : Int) (by omega)
    go_wp2_with fail
    have hb3 : Below w2.heap.size w2 (w2.alloc (.cells #[.int .i64 kind, .int .i64 machine, .int .u64 (bb.length : Int), .int .i64 ((m : Int) + 1), .int .i64 (m : Int)] 55)) := (Below.refl _ _).alloc (Nat.le_refl _) _
    have HU3 := Lib.hid (own_below HU2.out hb3)
    have HV3 := Lib.hid (show OwnE _ w.heap.size _ es from row_below HV2.out hb3)
    have HX3 := Lib.hid (Box.new w2 55 #[.int .i64 kind, .int .i64 machine, .int .u64 (bb.length : Int), .int .i64 ((m : Int) + 1), .int .i64 (m : Int)])
    have HB3 := Lib.hid (HB2.out.trans (hb3.mono HB2.out.size))
    have hws : w.heap.size ≤ w2.heap.size := HB2.out.size
    clear HU2 HV2 HB2 hb3 hes1
    generalize hh : w2.heap.size = hd at *
    have hws3 : w.heap.size ≤ (w2.alloc (.cells #[.int .i64 kind, .int .i64 machine, .int .u64 (bb.length : Int), .int .i64 ((m : Int) + 1), .int .i64 (m : Int)] 55)).heap.size := by simp [hh]; omega
    clear hh
    generalize w2.alloc (.cells #[.int .i64 kind, .int .i64 machine, .int .u64 (bb.length : Int), .int .i64 ((m : Int) + 1), .int .i64 (m : Int)] 55) = w3 at *
    go_loopw [8, 36] (fun u i wr => ∃ k : Nat, k ≤ m + 1 ∧ i = .int .i64 k ∧ Own wr w.heap.size u (bb ++ entsB (es.take k)) ∧ Only w.heap.size (CellsOf 5) w3 wr) (fun _ i _ => m + 1 - (intOf i).toNat)
    case atStart => exact ⟨0, Nat.zero_le _, rfl, by rw [List.take_zero, show entsB [] = [] from rfl, List.append_nil]; exact HU3.out, Only.refl _ _ _⟩
    case round =>
      obtain ⟨k, hk, rfl, hO, hOn⟩ := hrel
      by_cases hlt : k < m + 1
      · obtain ⟨e, he⟩ : ∃ e, es[k]? = some e := ⟨es[k]'(by rw [HES.out]; exact hlt), List.getElem?_eq_getElem _⟩
        have hVr := row_only HV3.out hOn (fun cs f hh => absurd (show 120 = 5 from hh) (by decide))
        have hV' : OwnE wr w.heap.size (.slice (some ⟨ge, 0, none⟩) es.length ce) es := hVr
        obtain ⟨a0, a1, a2, a3, a4, a5, a6, a7, a8, a9, rfl, e0, e1, e2, e3, e4, e5, e6, e7, e8, e9⟩ := owne_at hV' HT.out he
        have HNX := Lib.hid (entsB_step he)
        have hel : (entsB (es.take k)).length ≤ 64 * 64 := by
          rw [entsB_length _ (fun e he => HT.out e (List.mem_of_mem_take he)), List.length_take]
          omega
        have hbs := hOn.1.size
        have hb0 : Below wr.heap.size wr (wr.alloc (.cells #[.int .u64 (a0 : Int), .int .u64 (a1 : Int), .int .u64 (a2 : Int), .int .u64 (a3 : Int), .int .u64 (a4 : Int), .int .u64 (a5 : Int), .int .u64 (a6 : Int), .int .u64 (a7 : Int), .int .u64 (a8 : Int), .int .u64 (a9 : Int)] 120)) := (Below.refl _ _).alloc (Nat.le_refl _) _
        have HXE := Lib.hid (Box.new wr 120 #[.int .u64 (a0 : Int), .int .u64 (a1 : Int), .int .u64 (a2 : Int), .int .u64 (a3 : Int), .int .u64 (a4 : Int), .int .u64 (a5 : Int), .int .u64 (a6 : Int), .int .u64 (a7 : Int), .int .u64 (a8 : Int), .int .u64 (a9 : Int)])
        have HN := Lib.hid (numbers_at wr.heap.size 0 (wr.alloc (.cells #[.int .u64 (a0 : Int), .int .u64 (a1 : Int), .int .u64 (a2 : Int), .int .u64 (a3 : Int), .int .u64 (a4 : Int), .int .u64 (a5 : Int), .int .u64 (a6 : Int), .int .u64 (a7 : Int), .int .u64 (a8 : Int), .int .u64 (a9 : Int)] 120)))
        have HO0 := Lib.hid (own_below hO hb0)
        have HOn0 := Lib.hid (hOn.trans (Only.below (bad := CellsOf 5) hb0 (Nat.le_trans hws3 hbs)))
        have hbs0 := hb0.size
        clear hO hOn hVr hV' he hb0
        go_wp2_with (go_at_call 62; refine HN.out.mono ?_; rintro r w4 ⟨rfl, hx4, hb4⟩; clear HN)
        have HX4 := Lib.hid hx4
        have HO4 := Lib.hid (own_below HO0.out hb4)
        have HOn4 := Lib.hid (HOn0.out.trans (Only.below (bad := CellsOf 5) hb4 (Nat.le_trans (Nat.le_trans hws3 hbs) hbs0)))
        have HXE4 := Lib.hid (HXE.out.below hb4 (by simp))
        have hbs4 := hb4.size
        clear hx4 hb4 HO0 HOn0 HXE e0 e1 e2 e3 e4 e5 e6 e7 e8 e9
        rw [show (wr.alloc (.cells #[.int .u64 (a0 : Int), .int .u64 (a1 : Int), .int .u64 (a2 : Int), .int .u64 (a3 : Int), .int .u64 (a4 : Int), .int .u64 (a5 : Int), .int .u64 (a6 : Int), .int .u64 (a7 : Int), .int .u64 (a8 : Int), .int .u64 (a9 : Int)] 120)).heap.size = wr.heap.size + 1 by simp] at HX4 hbs4 hbs0
        have hwb : w.heap.size ≤ wr.heap.size := Nat.le_trans hws3 hbs
        have HEN := Lib.hid (show [Value.int .u64 (a0 : Int), .int .u64 (a1 : Int), .int .u64 (a2 : Int), .int .u64 (a3 : Int), .int .u64 (a4 : Int), .int .u64 (a5 : Int), .int .u64 (a6 : Int), .int .u64 (a7 : Int), .int .u64 (a8 : Int), .int .u64 (a9 : Int)] = entCs [a0, a1, a2, a3, a4, a5, a6, a7, a8, a9] from rfl)
        have hll : ([a0, a1, a2, a3, a4, a5, a6, a7, a8, a9] : List Nat).length = 10 := rfl
        rw [HEN.out] at HXE4
        generalize [a0, a1, a2, a3, a4, a5, a6, a7, a8, a9] = ns at *
        have HLL := Lib.hid hll
        have HEB := Lib.hid (show entB ns = itsB (ns.zip sizesN) from rfl)
        have HZ8 := Lib.hid (show ∀ y ∈ ns.zip sizesN, y.2 ≤ 8 from fun y hy => by
          have : y.2 ∈ sizesN := (List.of_mem_zip hy).2
          have hall : ∀ s ∈ sizesN, s ≤ 8 := by decide
          exact hall _ this)
        have hzl10 : (ns.zip sizesN).length = 10 := by rw [List.length_zip, hll]; rfl
        have HZL := Lib.hid hzl10
        clear hll HEN hzl10
        generalize wr.heap.size = E at *
        generalize wr = wx at *
        go_loopw [8, 42] (fun u i wr => ∃ j : Nat, j ≤ 10 ∧ i = .int .i64 j ∧ Own wr w.heap.size u (bb ++ entsB (es.take k) ++ itsB ((ns.zip sizesN).take j)) ∧ Only w.heap.size (CellsOf 5) w4 wr) (fun _ i _ => 10 - (intOf i).toNat)
        case atStart => exact ⟨0, Nat.zero_le _, rfl, by rw [List.take_zero, show itsB [] = [] from rfl, List.append_nil]; exact HO4.out, Only.refl _ _ _⟩
        case round =>
          obtain ⟨j, hj, rfl, hO, hOn⟩ := hrel
          by_cases hjl : j < 10
          · obtain ⟨x, hx⟩ : ∃ x, ns[j]? = some x := ⟨ns[j]'(by rw [HLL.out]; exact hjl), List.getElem?_eq_getElem _⟩
            obtain ⟨q, hq⟩ : ∃ q, sizesN[j]? = some q := ⟨sizesN[j]'(by show j < 10; exact hjl), List.getElem?_eq_getElem _⟩
            have hxq : (ns.zip sizesN)[j]? = some (x, q) := by rw [List.getElem?_zip_eq_some]; exact ⟨hx, hq⟩
            have HS := Lib.hid (itsB_step _ j x q hxq)
            have hq8 : q ≤ 8 := HZ8.out _ (List.mem_of_getElem? hxq)
            have hil := itsB_le (ns.zip sizesN) j HZ8.out
            rw [HZL.out] at hil
            have hlen : (bb ++ entsB (es.take k) ++ itsB ((ns.zip sizesN).take j)).length ≤ 140737488355000 := by
              simp only [List.length_append]
              omega
            have hXn : Box wr (E + 1) 125 (numV E 0).toArray := hOn.2 _ _ HX4.out (fun hh => absurd (show 125 = 5 from hh) (by decide))
            have hXe : Box wr E 120 (entCs ns).toArray := hOn.2 _ _ HXE4.out (fun hh => absurd (show 120 = 5 from hh) (by decide))
            obtain ⟨n0, n1⟩ := numV_at E 0 j q hq
            rw [Nat.zero_add] at n0
            have d0 : wr.cell? ⟨E + 1, j * 2, none⟩ = some (.pointer (some ⟨E, j, none⟩)) := by rw [hXn.cell]; simpa using n0
            have d1 : wr.cell? ⟨E + 1, j * 2 + 1, none⟩ = some (.int .i64 (q : Int)) := by rw [hXn.cell]; simpa using n1
            have hb0 : Below wr.heap.size wr (wr.alloc (.cells #[.pointer (some ⟨E, j, none⟩), .int .i64 (q : Int)] 125)) := (Below.refl _ _).alloc (Nat.le_refl _) _
            have hX0 := Box.new wr 125 #[.pointer (some ⟨E, j, none⟩), .int .i64 (q : Int)]
            have hXe0 := hXe.below hb0 hXe.lt
            have hqs := hOn.1.size
            have hclamp : clampOf (q : Int) = q := by unfold clampOf; omega
            have HP := Lib.hid (fun W (hW : Own W w.heap.size u8 (bb ++ entsB (es.take k) ++ itsB ((ns.zip sizesN).take j))) (hs : w.heap.size ≤ W.heap.size) => put_any hW hs x q (by omega) hlen)
            rw [hclamp] at HP
            have HO := Lib.hid (own_below hO hb0)
            have HOn := Lib.hid (hOn.trans (Only.below (bad := CellsOf 5) hb0 (by omega)))
            have KS := Lib.hid (fun (W : World) (hW : Only w.heap.size (CellsOf 5) (wr.alloc (.cells #[.pointer (some ⟨E, j, none⟩), .int .i64 (q : Int)] 125)) W) => (by
              have h1 : Box W wr.heap.size 125 _ := hW.2 _ _ hX0 (fun hh => absurd (show 125 = 5 from hh) (by decide))
              have h2 : Box W E 120 _ := hW.2 _ _ hXe0 (fun hh => absurd (show 120 = 5 from hh) (by decide))
              exact ⟨h1.cell 0, h1.cell 1, by rw [h2.cell]; simp [entCs, hx]⟩ :
              W.cell? ⟨wr.heap.size, 0, none⟩ = some (.pointer (some ⟨E, j, none⟩)) ∧ W.cell? ⟨wr.heap.size, 1, none⟩ = some (.int .i64 (q : Int)) ∧ W.cell? ⟨E, j, none⟩ = some (.int .u64 (x : Int))))
            have hO6 : Only w.heap.size (CellsOf 5) (wr.alloc (.cells #[.pointer (some ⟨E, j, none⟩), .int .i64 (q : Int)] 125)) (wr.alloc (.cells #[.pointer (some ⟨E, j, none⟩), .int .i64 (q : Int)] 125)).drew := Only.drew (Only.refl _ _ _)
            have hss : w.heap.size ≤ wr.heap.size := by omega
            clear hx hq hxq hil hlen hXn hXe n0 n1 hX0 hXe0 hb0 hclamp hO hOn hq8
            go_wp2_with fail
            generalize hT : wr.heap.size = T at *
            generalize hw6 : wr.alloc (.cells #[.pointer (some ⟨E, j, none⟩), .int .i64 (q : Int)] 125) = w6 at *
            have hs6 : w.heap.size ≤ w6.heap.size := by rw [← hw6]; simp [hT]; omega
            clear hw6 hT d0 d1
            go_region_held_law (fun W => W.cell? ⟨T, 0, none⟩ = some (.pointer (some ⟨E, j, none⟩)) ∧ W.cell? ⟨T, 1, none⟩ = some (.int .i64 (q : Int)) ∧ W.cell? ⟨E, j, none⟩ = some (.int .u64 (x : Int)))
              ((refine KS.out _ ?_; (repeat' (first | with_reducible assumption | with_reducible refine Only.drewN ?_ _ | with_reducible refine Only.drew ?_))))
              (first
                | (go_at_call 63; refine (HP.out _ (by exact HO.out) (by exact hs6)).mono ?_; rintro r w9 ⟨v9, rfl, hl9⟩; have ho9 : Only w.heap.size (CellsOf 5) w6 w9 := Only.trans (by (repeat' (first | with_reducible assumption | with_reducible refine Only.drewN ?_ _ | with_reducible refine Only.drew ?_))) (row_turns (by exact HO.out) hl9.2.1 (by exact hs6)); clear hO6))
            have HL9 := Lib.hid hl9.1
            have HO9 := Lib.hid ho9
            clear hl9 ho9 KS HP HO
            go_wp2_with fail
            go_roundw
            case rel => exact ⟨j + 1, by omega, by go_num, by rw [HS.out, ← List.append_assoc]; exact HL9.out, HOn.out.trans HO9.out⟩
            case measure => simp [intOf]; omega
          · have hj10 : j = 10 := by omega
            have HOk := Lib.hid (show Own wr w.heap.size u8 (bb ++ entsB (es.take (k + 1))) by
              rw [HNX.out, HEB.out, ← List.append_assoc]
              rw [hj10] at hO
              rwa [show (ns.zip sizesN).take 10 = ns.zip sizesN from List.take_of_length_le (by rw [HZL.out]; exact Nat.le_refl _)] at hO)
            have HOnk := Lib.hid (HOn4.out.trans hOn)
            clear hO hOn
            go_wp2_with fail
            go_roundw
            case rel => exact ⟨k + 1, by omega, by go_num, HOk.out, HOnk.out⟩
            case measure => simp [intOf]; omega
      · have hkm : k = m + 1 := by omega
        have htk : es.take k = es := List.take_of_length_le (by rw [HES.out]; omega)
        rw [htk] at hO
        have hel : (entsB es).length = 64 * (m + 1) := by rw [entsB_length es HT.out, HES.out]
        have hXh : Box wr hd 55 _ := hOn.2 _ _ HX3.out (fun hh => absurd (show 55 = 5 from hh) (by decide))
        have htot : (bb ++ entsB es).length = bb.length + 64 * (m + 1) := by rw [List.length_append, hel]
        have hro : rightOf kind machine bb.length ((m : Int) + 1) (m : Int) ((bb ++ entsB es).length : Int) = may := by
          rw [HMY.out, htot]
          unfold rightOf
          rw [decide_eq_true (show 1 ≤ ((m : Int) + 1) ∧ ((m : Int) + 1) ≤ 64 by omega), decide_eq_true (show 1 ≤ (m : Int) ∧ (m : Int) < (m : Int) + 1 by omega), decide_eq_true (show (0 : Int) ≤ ((bb.length + 64 * (m + 1) : Nat) : Int) ∧ (bb.length : Int) + ((m : Int) + 1) * 64 ≤ ((bb.length + 64 * (m + 1) : Nat) : Int) by omega), Bool.and_true, Bool.and_true, Bool.and_true]
        have HER := Lib.hid (fun W => eright_any kind machine bb.length ((m : Int) + 1) (m : Int) ((bb ++ entsB es).length : Int) W (by unfold two64; omega) (by omega))
        rw [hro] at HER
        generalize hfb : bb ++ entsB es = fb at *
        clear hfb
        have HTOT := Lib.hid htot
        have HOF := Lib.hid hO
        have HBF := Lib.hid (HB3.out.trans hOn.1)
        have hsr := hOn.1.size
        obtain ⟨A8, c8, rfl, _, _, _⟩ := own_slice hO
        have h0 := hXh.cell 0
        have h1 := hXh.cell 1
        have h2 := hXh.cell 2
        have h3 := hXh.cell 3
        have h4 := hXh.cell 4
        simp at h0 h1 h2 h3 h4
        have HXH := Lib.hid hXh
        clear hO hOn hXh hro htk hlt htot hel
        have hMp := HMg.out.pos
        cases may with
        | false =>
          have HE := Lib.hid (show pe = 2 ∧ pr = [] by rw [HPE.out, HPR.out, if_neg (by decide), if_neg (by decide)]; exact ⟨rfl, rfl⟩)
          go_wp2_with (go_at_call 64; refine (HER.out _).mono ?_; rintro r w9 ⟨rfl, hb9⟩)
          go_ret2
          exact ⟨_, by rw [HE.out.1]; rfl, by rw [HE.out.2]; exact World.ownsRow_nil _ _ _ _, HBF.out.trans (hb9.mono HBF.out.size)⟩
        | true =>
          have HE := Lib.hid (show pe = 0 ∧ pr = headB kind machine bb.length ((m + 1 : Nat) : Int) (m : Int) ++ fb.drop 64 by rw [HPE.out, HPR.out, if_pos rfl, if_pos rfl]; exact ⟨rfl, rfl⟩)
          have HPU := Lib.hid (fun W (hW : Below w.heap.size w W) => puth_any kind machine bb.length ((m : Int) + 1) (m : Int) (HMg.out.below hW hMp))
          have hhl := headB_length kind machine bb.length ((m : Int) + 1) (m : Int)
          have hhp : 0 < (headB kind machine bb.length ((m : Int) + 1) (m : Int)).length := by rw [hhl]; decide
          have hhd : (headB kind machine bb.length ((m : Int) + 1) (m : Int)).length ≤ fb.length := by rw [hhl, HTOT.out]; omega
          go_wp2_with (go_at_call 64; refine (HER.out _).mono ?_; rintro r w9 ⟨rfl, hb9⟩; have HB9 := Lib.hid (HBF.out.trans (hb9.mono HBF.out.size)); have HO9 := Lib.hid (own_below HOF.out hb9); have hX9 := HXH.out.below hb9 HXH.out.lt; have k0 := hX9.cell 0; have k1 := hX9.cell 1; have k2 := hX9.cell 2; have k3 := hX9.cell 3; have k4 := hX9.cell 4; simp at k0 k1 k2 k3 k4; clear hX9 hb9 HER HOF h0 h1 h2 h3 h4)
          refine (HPU.out _ HB9.out).mono ?_
          rintro r w10 ⟨v10, rfl, hown10, hb10⟩
          have HE2 := Lib.hid (show headB kind machine bb.length ((m + 1 : Nat) : Int) (m : Int) = headB kind machine bb.length ((m : Int) + 1) (m : Int) from rfl)
          rw [HE2.out] at HE
          clear HE2 HPU
          generalize headB kind machine bb.length ((m : Int) + 1) (m : Int) = hbs at *
          obtain ⟨A10, c10, rfl, _, _, hrd⟩ := own_slice hown10
          obtain ⟨w11, hrun, hown11, hg11⟩ := run_copy_front (P := Tryz.prog) w10 22 3 w.heap.size i0 Tryz.underlying22 hi hz1 _ fb (own_below HO9.out hb10) A10 c10 _ hbs hrd hhp hhd
          have HO11 := Lib.hid hown11
          have ht11 := row_turns (own_below HO9.out hb10) hg11 (Nat.le_trans HB9.out.size hb10.size)
          have HB11 := Lib.hid ((HB9.out.trans (hb10.mono HB9.out.size)).trans ht11.1)
          rw [hhl] at HO11 hrun ⊢
          clear hown11 hg11 ht11 hown10 hrd
          go_wp2_with fail
          go_ret2
          exact ⟨_, by rw [HE.out.1]; rfl, by rw [HE.out.2]; exact HO11.out, HB11.out⟩

end Go.Proofs.YtldmjnbmjfnfeaaGreatDoor

namespace Go.Proofs.YtldmjnbmjfnfeaaGreatDoor
open Go Go.RowKit

/-! ### Sections that were told fit -/
theorem atT_small (l : List UInt8) (o : Nat) : (atT l o).1.length ≤ 200 := by
  unfold atT
  split
  · rcases readT_cases (l.drop o) with ⟨_, e⟩ | ⟨_, _, e⟩ | ⟨_, h, e⟩ <;> rw [e]
    · simp
    · simp
    · exact Nat.le_trans (List.length_take_le _ _) h
  · simp
theorem sectT_fits {l tbl : List UInt8} {o : Nat} (h : entE (entN l o) l.length = 0) : (sectT l tbl (entN l o)).Fits := by
  have hlt := entN_lt l o
  have hdl := dataT_len l _ (entN_length l o) h
  obtain ⟨b0, b1, b2, b3, b4, b5, b6, b7, b8, b9, h10⟩ : ∃ a0 a1 a2 a3 a4 a5 a6 a7 a8 a9 : Nat, entN l o = [a0, a1, a2, a3, a4, a5, a6, a7, a8, a9] := ⟨_, _, _, _, _, _, _, _, _, _, rfl⟩
  rw [h10] at h hlt hdl ⊢
  have hsm := entE_small h
  simp only [smallN, List.all_cons, List.all_nil, Bool.and_true, Bool.and_eq_true, decide_eq_true_eq] at hsm
  obtain ⟨h6, h7, h8, h9, h1⟩ := hsm
  have e : sectT l tbl [b0, b1, b2, b3, b4, b5, b6, b7, b8, b9] = ⟨(atT tbl b0).1, (b1 : Int), b2, b3, dataT l [b0, b1, b2, b3, b4, b5, b6, b7, b8, b9], (b6 : Int), (b7 : Int), (b8 : Int), (b9 : Int)⟩ := rfl
  rw [e]
  exact ⟨by unfold InI; simp only; omega, by unfold InI; simp only; omega, by unfold InI; simp only; omega, by unfold InI; simp only; omega, by unfold InI; simp only; omega, hlt b2 (by simp), hlt b3 (by simp), Nat.le_trans hdl (by decide), Nat.le_trans (atT_small tbl b0) (by decide)⟩
theorem secL_fits (l : List UInt8) : ∀ s ∈ secL l, s.Fits := by
  intro s hs
  by_cases h : secE l = 0
  · unfold secL at hs
    rw [if_pos h] at hs
    obtain ⟨i, hi, rfl⟩ := List.mem_map.1 hs
    have h2 : errUp l (offT l) (cntT l) = 0 := by
      unfold secE at h
      split at h
      · cases h
      · split at h
        · rename_i h1; exact absurd h h1
        · split at h
          · rename_i h1; exact absurd h h1
          · rename_i h1; simpa using h1
    exact sectT_fits (errUp_ok h2 i (by simpa using hi))
  · unfold secL at hs
    rw [if_neg h] at hs
    cases hs

end Go.Proofs.YtldmjnbmjfnfeaaGreatDoor

namespace Go.Proofs.YtldmjnbmjfnfeaaGreatDoor
open Go Go.RowKit

/-! ### Objects in memory -/
def RLay.cells1 (q : RLay) : List Value := [q.val]
theorem rlay_one (q : RLay) : q.cells1.length = 1 := rfl
theorem rlay_map (Q : List RLay) : cellsF RLay.cells1 Q = Q.map RLay.val := by
  induction Q with
  | nil => rfl
  | cons q Q ih => simp only [cellsF, List.flatMap_cons, List.map_cons] at ih ⊢; rw [ih]; rfl
/-- Rows of relocations that lie side by side. -/
structure Lists (w : World) (B : Nat) (a : Option Addr) (Q : List RLay) : Prop where
  row : Row 1 RLay.cells1 w B a Q
  rels : ∀ q ∈ Q, Rels w B q.a q.l
theorem Lists.below {w w' : World} {B : Nat} {a : Option Addr} {Q : List RLay} (h : Lists w B a Q) (hb : Below B w w') : Lists w' B a Q := ⟨h.row.below hb, fun q hq => (h.rels q hq).below hb⟩
theorem Lists.more {w : World} {B B' : Nat} {a : Option Addr} {Q : List RLay} (h : Lists w B a Q) (hB : B ≤ B') : Lists w B' a Q := ⟨h.row.more hB, fun q hq => (h.rels q hq).more hB⟩
/-- One of the rows: its value where it lies. -/
theorem Lists.at_ {w : World} {B : Nat} {a : Option Addr} {Q : List RLay} (h : Lists w B a Q) {i : Nat} {q : RLay} (hq : Q[i]? = some q) : ∃ b o, a = some ⟨b, o, none⟩ ∧ b < B ∧ w.cell? ⟨b, o + i, none⟩ = some (.slice q.a q.l.length q.c) := by
  have hl : 0 < Q.length := by have := (List.getElem?_eq_some_iff.1 hq).1; omega
  obtain ⟨b, o, e, hlt, hc⟩ := h.row hl
  have := hc i q hq 0 _ rfl
  rw [Nat.mul_one, Nat.add_zero] at this
  exact ⟨b, o, e, hlt, this⟩
/-- An object, with where its rows are. -/
structure ObjV where
  kind : Int
  machine : Int
  aS : Option Addr
  cS : Nat
  L : List Lay
  aY : Option Addr
  cY : Nat
  Y : List Sym
  aR : Option Addr
  cR : Nat
  Q : List RLay
def ObjV.cells (o : ObjV) : List Value := [.int .i64 o.kind, .int .i64 o.machine, .slice o.aS o.L.length o.cS, .slice o.aY o.Y.length o.cY, .slice o.aR o.Q.length o.cR]
def ObjV.val (o : ObjV) : Value := .agg o.cells.toArray
structure ObjV.Ok (w : World) (B : Nat) (o : ObjV) : Prop where
  secs : Secs w B o.aS o.L
  syms : Syms w B o.aY o.Y
  lists : Lists w B o.aR o.Q
  capS : o.L.length ≤ o.cS
  capR : o.Q.length ≤ o.cR
theorem ObjV.Ok.below {w w' : World} {B : Nat} {o : ObjV} (h : o.Ok w B) (hb : Below B w w') : o.Ok w' B := ⟨h.secs.below hb, Row.below h.syms hb, h.lists.below hb, h.capS, h.capR⟩
theorem ObjV.Ok.more {w : World} {B B' : Nat} {o : ObjV} (h : o.Ok w B) (hB : B ≤ B') : o.Ok w B' := ⟨h.secs.more hB, Row.more h.syms hB, h.lists.more hB, h.capS, h.capR⟩
def noneO : ObjV := ⟨0, 0, none, 0, [], none, 0, [], none, 0, []⟩
theorem noneO_ok (w : World) (B : Nat) : noneO.Ok w B := ⟨⟨fun h => absurd h (by decide), fun x hx => by cases hx⟩, fun h => absurd h (by decide), ⟨fun h => absurd h (by decide), fun q hq => by cases hq⟩, Nat.le_refl _, Nat.le_refl _⟩

/-! ### A struct of five cells -/
section
variable {W : World} {H : Nat} {T : TypeId}
theorem five_cells {c0 c1 c2 c3 c4 : Value} (h : Box W H T #[c0, c1, c2, c3, c4]) : W.cell? ⟨H, 0, none⟩ = some c0 ∧ W.cell? ⟨H, 1, none⟩ = some c1 ∧ W.cell? ⟨H, 2, none⟩ = some c2 ∧ W.cell? ⟨H, 3, none⟩ = some c3 ∧ W.cell? ⟨H, 4, none⟩ = some c4 := by
  refine ⟨?_, ?_, ?_, ?_, ?_⟩ <;> (rw [h.cell]; rfl)
theorem five_free {cs : Array Value} (h : Box W H T cs) : W.frozen? ⟨H, 0, none⟩ = false ∧ W.frozen? ⟨H, 1, none⟩ = false ∧ W.frozen? ⟨H, 2, none⟩ = false ∧ W.frozen? ⟨H, 3, none⟩ = false ∧ W.frozen? ⟨H, 4, none⟩ = false :=
  ⟨h.free 0, h.free 1, h.free 2, h.free 3, h.free 4⟩
theorem fiveO_box {cs : Array Value} (h : Box W H T cs) (hs : cs.size = 5) (v0 v1 v2 v3 v4 : Value) :
    Box (((((W.setCell ⟨H, 0, none⟩ v0).setCell ⟨H, 1, none⟩ v1).setCell ⟨H, 2, none⟩ v2).setCell ⟨H, 3, none⟩ v3).setCell ⟨H, 4, none⟩ v4) H T #[v0, v1, v2, v3, v4] := by
  obtain ⟨l⟩ := cs
  match l, hs with
  | [c0, c1, c2, c3, c4], _ => simpa using ((((h.set 0 v0).set 1 v1).set 2 v2).set 3 v3).set 4 v4
theorem five_only (W : World) (H : Nat) (v0 v1 v2 v3 v4 : Value) :
    W.grownBy (((((W.setCell ⟨H, 0, none⟩ v0).setCell ⟨H, 1, none⟩ v1).setCell ⟨H, 2, none⟩ v2).setCell ⟨H, 3, none⟩ v3).setCell ⟨H, 4, none⟩ v4) (some H) :=
  only_set (only_set (only_set (only_set (only_set (only_refl W (some H)) 0 v0) 1 v1) 2 v2) 3 v3) 4 v4
end

/-! ### What bytes tell -/
def kindT (l : List UInt8) : Int := (numT (l.take 64) 16 2 : Int)
def machT (l : List UInt8) : Int := (numT (l.take 64) 18 2 : Int)
def symX (S : List Sect) : Int := if placeS S < 0 then 0 else symsE S (placeS S).toNat
def symY (S : List Sect) : List Sym := if placeS S < 0 then [] else symsL S (placeS S).toNat
/-- Why sections are no object. -/
def objS (S : List Sect) : Int := if placeS S = -2 then 23 else if symX S ≠ 0 then symX S else relUp S (placeS S) (symY S).length S.length
/-- Why bytes are none. -/
def objE (l : List UInt8) : Int := if secE l ≠ 0 then secE l else objS (secL l)
theorem secL_is (l : List UInt8) : (secE l = 0 ∧ secL l = secsT l (offT l) (cntT l) (shsT l) ∧ entN l (offT l) = List.replicate 10 0 ∧ cntT l ≤ 64 ∧ secH l = hdV (kindT l) (machT l) (offT l) (cntT l : Int) (shsT l : Int)) ∨ (secE l ≠ 0 ∧ secL l = []) := by
  by_cases h : secE l = 0
  · left
    have h1 : secL l = secsT l (offT l) (cntT l) (shsT l) := by unfold secL; rw [if_pos h]
    have hh := h
    unfold secE at hh
    split at hh
    · cases hh
    · split at hh
      · rename_i hx; exact absurd hh hx
      · rename_i hx
        have ht : takeE l = 0 := by simpa using hx
        obtain ⟨_, hn, _, _, _, _, _, hH⟩ := take_facts ht
        split at hh
        · rename_i hy; exact absurd hh hy
        · unfold tellE at hh
          split at hh
          · rename_i hz
            exact ⟨h, h1, hz.1, hn, by unfold secH; rw [if_pos h]; exact hH⟩
          · cases hh
  · right
    exact ⟨h, by unfold secL; rw [if_neg h]⟩
theorem secL_nn (l : List UInt8) : ∀ s ∈ secL l, 0 ≤ s.link ∧ 0 ≤ s.inf := by
  intro s hs
  rcases secL_is l with ⟨_, h, _⟩ | ⟨_, h⟩
  · rw [h] at hs
    obtain ⟨i, hi, rfl⟩ := List.mem_map.1 hs
    unfold sectT
    simp only
    omega
  · rw [h] at hs; cases hs
theorem secL_first (l : List UInt8) : ∀ s, (secL l)[0]? = some s → s.kind ≠ 2 := by
  intro s hs
  rcases secL_is l with ⟨_, h, he, _⟩ | ⟨_, h⟩
  · rw [h] at hs
    unfold secsT at hs
    rw [List.getElem?_map] at hs
    rcases hr : (List.range (cntT l))[0]? with _ | i
    · rw [hr] at hs; cases hs
    · have hi0 : i = 0 := by
        have := List.getElem?_eq_some_iff.1 hr
        obtain ⟨h1, h2⟩ := this
        simpa using h2.symm
      subst hi0
      rw [hr] at hs
      injection hs with hs
      rw [← hs]
      show ((kindN (entN l (offT l + 64 * 0)) : Nat) : Int) ≠ 2
      rw [Nat.mul_zero, Nat.add_zero, he]
      decide
  · rw [h] at hs; cases hs
theorem secL_length (l : List UInt8) : (secL l).length ≤ 64 := by
  rcases secL_is l with ⟨_, h, _, hn, _⟩ | ⟨_, h⟩
  · rw [h]; unfold secsT; simpa using hn
  · rw [h]; simp
theorem placeIs (S : List Sect) (h : placeS S ≠ -2) (h0 : ∀ s, S[0]? = some s → s.kind ≠ 2) : ∃ t : Nat, tabI S = (t : Int) ∧ tabE S = 0 ∧ PlaceIs t (placeS S) ∧ ((t = 0 ∧ placeS S < 0) ∨ (0 < t ∧ placeS S = (t : Int) ∧ ∃ s, S[t]? = some s)) := by
  rcases placeK_at S S.length with h1 | h1 | ⟨j, s, hj, h1, hs, hk⟩
  · exact ⟨0, by unfold tabI placeS; rw [h1]; rfl, by unfold tabE; rw [if_neg h], .inl ⟨rfl, h1⟩, .inl ⟨rfl, by unfold placeS; omega⟩⟩
  · exact absurd h1 h
  · have hj0 : 0 < j := by
      rcases Nat.eq_zero_or_pos j with e | e
      · subst e; exact absurd hk (h0 s hs)
      · exact e
    have h2 : placeS S = (j : Int) := h1
    exact ⟨j, by unfold tabI; rw [h2, if_neg (by omega)], by unfold tabE; rw [if_neg h], .inr ⟨hj0, h1⟩, .inr ⟨hj0, h1, s, hs⟩⟩

/-- What takeSyms tells, table or none. -/
theorem tsyms_all {w : World} {a : Option Addr} {L : List Lay} (h : Secs w w.heap.size a L) (c t : Nat) (ht : (t = 0 ∧ placeS (secsOf L) < 0) ∨ (0 < t ∧ placeS (secsOf L) = (t : Int) ∧ ∃ s, (secsOf L)[t]? = some s)) (hn : ∀ s ∈ secsOf L, 0 ≤ s.link) :
    Calls Tryz.prog 21 #[.slice a L.length c, .int .i64 (t : Int)] w fun r w' => ∃ u, r = .returned (.tuple #[u, .int .i64 (symX (secsOf L))]) ∧ OwnY w' w.heap.size u (symY (secsOf L)) ∧ Below w.heap.size w w' := by
  rcases ht with ⟨rfl, h1⟩ | ⟨h0, h1, s, hs⟩
  · refine (tsyms_none a L.length c).mono fun r w' hh => ?_
    obtain ⟨rfl, rfl⟩ := hh
    refine ⟨.slice none 0 0, ?_, ?_, Below.refl _ _⟩
    · rw [symX, if_pos h1]
    · rw [symY, if_pos h1]; exact World.ownsRow_nil _ _ _ _
  · obtain ⟨x, hx, rfl⟩ := secsOf_get hs
    have e1 : symX (secsOf L) = symsE (secsOf L) t := by rw [symX, h1, if_neg (by omega)]; rfl
    have e2 : symY (secsOf L) = symsL (secsOf L) t := by rw [symY, h1, if_neg (by omega)]; rfl
    rw [e1, e2]
    exact tsyms_any h c t h0 hx (hn _ (List.mem_of_getElem? hs))

end Go.Proofs.YtldmjnbmjfnfeaaGreatDoor

namespace Go.Proofs.YtldmjnbmjfnfeaaGreatDoor
open Go Go.RowKit

theorem tab_fits : (⟨shstrN, 3, 0, 0, [], 0, 0, 0, 0⟩ : Sect).Fits := ⟨by unfold InI; simp only; omega, by unfold InI; simp only; omega, by unfold InI; simp only; omega, by unfold InI; simp only; omega, by unfold InI; simp only; omega, by decide, by decide, by decide, by decide⟩
/-- The section of names, as it is made. -/
def tabS : Sect := ⟨shstrN, 3, 0, 0, [], 0, 0, 0, 0⟩
theorem right_pair (s : Sect) : rightS [s, tabS] = sameS s zeroS := by
  have h1 : findS [s, tabS] shstrN = 1 := findS_some (k := 1) (s := tabS) rfl (by decide) rfl (fun j x hj hj0 _ => by omega)
  have h2 : okAll [tabS] = true := by decide
  unfold rightS
  rw [h1]
  simp [tabS] at h2 ⊢
  rw [h2]
  simp
/-- The first section and the section of names, side by side. -/
def pairL (x : Lay) : List Lay := [x, ⟨tabS, none, 0⟩]
theorem pair_secs {w : World} {x : Lay} (hx : x.Ok w w.heap.size) : Secs (w.alloc (.cells (cellsL (pairL x)).toArray 39)) (w.heap.size + 1) (some ⟨w.heap.size, 0, none⟩) (pairL x) :=
  ⟨fun _ => ⟨w.heap.size, 0, rfl, by omega, fun i y hy j v hv => by
    rw [(Box.new w 39 (cellsL (pairL x)).toArray).cell, Nat.zero_add]
    simpa using cellsL_at (pairL x) i y j v hy hv⟩, fun y hy => by
    simp only [pairL, List.mem_cons, List.not_mem_nil, or_false] at hy
    rcases hy with rfl | rfl
    · exact (hx.below ((Below.refl _ _).alloc (Nat.le_refl _) _)).more (by omega)
    · exact ⟨Rd.nil_, Nat.le_refl _, Nat.zero_le _, tab_fits⟩⟩

set_option maxRecDepth 10000 in
set_option maxHeartbeats 1600000 in
theorem zero_any {w : World} (x : Lay) (hx : x.Ok w w.heap.size) : Calls Tryz.prog 37 #[x.val] w fun r w' => r = .returned (.bool (sameS x.s zeroS)) ∧ Below w.heap.size w w' := by
  have hb0 : Below w.heap.size w (w.alloc (.cells x.cells.toArray 39)) := (Below.refl _ _).alloc (Nat.le_refl _) _
  have hP := pair_secs ((hx.below hb0).more hb0.size)
  have hb1 : Below w.heap.size w ((w.alloc (.cells x.cells.toArray 39)).alloc (.cells (cellsL (pairL x)).toArray 39)) := hb0.alloc (by simp) _
  have hR := sright_any (hP.more (B' := ((w.alloc (.cells x.cells.toArray 39)).alloc (.cells (cellsL (pairL x)).toArray 39)).heap.size) (by simp)) 2 (by simp [pairL]) (by simp [pairL])
  rw [show secsOf (pairL x) = [x.s, tabS] from rfl, right_pair, show (pairL x).length = 2 from rfl] at hR
  have hlit : (cellsL (pairL x)).toArray = #[.string ⟨x.s.name.toArray⟩, .int .i64 x.s.kind, .int .u64 (x.s.flags : Int), .int .u64 (x.s.addr : Int), .slice x.A x.s.data.length x.c, .int .i64 x.s.link, .int .i64 x.s.inf, .int .i64 x.s.algn, .int .i64 x.s.ent, .string ⟨#[46, 115, 104, 115, 116, 114, 116, 97, 98]⟩, .int .i64 3, .int .u64 0, .int .u64 0, .slice none 0 0, .int .i64 0, .int .i64 0, .int .i64 0, .int .i64 0] := rfl
  rw [hlit, show x.cells.toArray = #[.string ⟨x.s.name.toArray⟩, .int .i64 x.s.kind, .int .u64 (x.s.flags : Int), .int .u64 (x.s.addr : Int), .slice x.A x.s.data.length x.c, .int .i64 x.s.link, .int .i64 x.s.inf, .int .i64 x.s.algn, .int .i64 x.s.ent] from rfl] at hR hb1
  rw [show (w.alloc (.cells #[.string ⟨x.s.name.toArray⟩, .int .i64 x.s.kind, .int .u64 (x.s.flags : Int), .int .u64 (x.s.addr : Int), .slice x.A x.s.data.length x.c, .int .i64 x.s.link, .int .i64 x.s.inf, .int .i64 x.s.algn, .int .i64 x.s.ent] 39)).heap.size = w.heap.size + 1 by simp] at hR
  rw [lay_cells]
  have HR := Lib.hid hR
  have HB1 := Lib.hid hb1
  clear hb0 hP hb1 hlit hR hx
  generalize sameS x.s zeroS = sz at *
  generalize x.A = dA at *
  generalize x.s.data.length = dn at *
  generalize x.c = dc at *
  generalize ByteArray.mk x.s.name.toArray = sb at *
  generalize x.s.kind = i1 at *
  generalize x.s.link = i2 at *
  generalize x.s.inf = i3 at *
  generalize x.s.algn = i4 at *
  generalize x.s.ent = i5 at *
  generalize x.s.flags = n1 at *
  generalize x.s.addr = n2 at *
  go_enter Tryz.func37, Tryz.ntmps37
  go_wp2_with (go_at_call 60; refine HR.out.mono ?_; rintro r w1 ⟨rfl, hb2⟩)
  go_ret
  exact ⟨rfl, HB1.out.trans (hb2.mono HB1.out.size)⟩

end Go.Proofs.YtldmjnbmjfnfeaaGreatDoor

namespace Go.Proofs.YtldmjnbmjfnfeaaGreatDoor
open Go Go.RowKit

/-- Relocations that an object may not have, if it has n symbols. -/
def badL (n : Nat) (l : List Rel) : Bool := decide (400 < l.length) || !(fitR l n)
/-- Whether an object may be put. -/
def rightRest (n : Nat) (Y : List Sym) (R : List (List Rel)) : Bool := decide (R.length = 0) || (decide (R.length = n) && (decide ((R.headD []).length = 0) && !(R.any (badL Y.length))))
def rightO (S : List Sect) (Y : List Sym) (R : List (List Rel)) : Bool :=
  decide (0 < S.length) && ((S[0]?).any (fun s => sameS s zeroS) && (!(anyMade S) && (rightY Y && (placedY Y S.length && rightRest S.length Y R))))

set_option maxRecDepth 10000 in
set_option maxHeartbeats 1600000 in
theorem right1_any {w : World} {a : Option Addr} {l : List Rel} (h : Rels w w.heap.size a l) (c : Nat) (hl : l.length ≤ 100000) (g n cy : Nat) (aY : Option Addr) (hg : w.cell? ⟨g, 3, none⟩ = some (.slice aY n cy)) :
    Calls Tryz.prog 43 #[.slice a l.length c, .pointer (some ⟨g, 0, none⟩)] w fun r w' => r = .returned (.bool (badL n l)) ∧ Below w.heap.size w w' := by
  have HF := Lib.hid (fit_any h c hl n)
  have HM := Lib.hid (show badL n l = (decide (400 < l.length) || !(fitR l n)) from rfl)
  generalize badL n l = bl at *
  generalize fitR l n = ft at *
  generalize l.length = N at *
  clear h
  go_enter Tryz.func43, Tryz.ntmps43
  by_cases h4 : 400 < N
  · have hd : decide ((400 : Int) < (N : Int)) = true := decide_eq_true (by omega)
    rw [decide_eq_true h4, Bool.true_or] at HM
    clear h4
    go_wp2_with fail
    go_ret
    exact ⟨by rw [HM.out]; rfl, Below.refl _ _⟩
  · have hd : decide ((400 : Int) < (N : Int)) = false := decide_eq_false (by omega)
    rw [decide_eq_false h4, Bool.false_or] at HM
    clear h4
    go_wp2_with (go_at_call 44; refine HF.out.mono ?_; rintro r w1 ⟨rfl, hb1⟩)
    go_ret
    exact ⟨by rw [HM.out]; rfl, hb1⟩


set_option maxRecDepth 10000 in
set_option maxHeartbeats 1600000 in
theorem index_lists {w : World} {a : Option Addr} {Q : List RLay} (h : Lists w w.heap.size a Q) (c : Nat) (hl : Q.length ≤ 100000) (hq : ∀ q ∈ Q, q.l.length ≤ 100000) (g n cy : Nat) (aY : Option Addr) (hg : w.cell? ⟨g, 3, none⟩ = some (.slice aY n cy)) :
    Calls Tryz.prog 76 #[.slice a Q.length c, .func (.func 43) #[] #[.pointer (some ⟨g, 0, none⟩)]] w fun r w' => ∃ k : Int, r = .returned (.int .i64 k) ∧ (decide (0 ≤ k) = (Q.map (·.l)).any (badL n)) ∧ Below w.heap.size w w' := by
  obtain ⟨N, hN⟩ : ∃ N, Q.length = N := ⟨_, rfl⟩
  have HH := Lib.hid h
  have HN := Lib.hid hN
  have HQ := Lib.hid hq
  have hlt : g < w.heap.size := by have := World.block_lt_of_cell? w _ hg; simpa using this
  have HG := Lib.hid (fun (W : World) (hW : Below w.heap.size w W) => (show W.cell? ⟨g, 3, none⟩ = some (.slice aY n cy) by rw [hW.cell (p := ⟨g, 3, none⟩) hlt]; exact hg))
  rw [hN] at hl ⊢
  clear h hN hg hlt hq
  go_enter Tryz.func76, Tryz.ntmps76
  go_wp2_with fail
  go_loopw [8] (fun i wr => ∃ k : Nat, k ≤ N ∧ i = .int .i64 k ∧ Below w.heap.size w wr ∧ Hid (((Q.map (·.l)).take k).any (badL n) = false)) (fun i _ => N - (intOf i).toNat)
  case atStart => exact ⟨0, Nat.zero_le _, rfl, Below.refl _ _, Lib.hid rfl⟩
  case round =>
    obtain ⟨k, hk, rfl, hB, HY⟩ := hrel
    have HB := Lib.hid hB
    by_cases hlt : k < N
    · obtain ⟨q, hx⟩ : ∃ q, Q[k]? = some q := ⟨Q[k]'(by rw [HN.out]; exact hlt), List.getElem?_eq_getElem _⟩
      have hLw := HH.out.below hB
      obtain ⟨b, o, rfl, hb, c0⟩ := hLw.at_ hx
      have hm : (Q.map (·.l))[k]? = some q.l := by rw [List.getElem?_map, hx]; rfl
      have HW := Lib.hid (right1_any (Row.more (hLw.rels q (List.mem_of_getElem? hx)) hB.size) q.c (HQ.out q (List.mem_of_getElem? hx)) g n cy aY (HG.out wr hB))
      by_cases hst : badL n q.l = true
      · have HF := Lib.hid (all_false_not (badL n) _ k q.l hm hst)
        rw [hst] at HW
        clear hx hst hB hm hLw
        generalize q.l.length = qn at *
        go_wp2_with (go_at_call 43; refine HW.out.mono ?_; rintro r w1 ⟨rfl, hb1⟩)
        have HB1 := Lib.hid (HB.out.trans (hb1.mono HB.out.size))
        go_ret
        exact ⟨k, rfl, by rw [HF.out]; exact decide_eq_true (by omega), HB1.out⟩
      · have hst' : badL n q.l = false := by simpa using hst
        have HF := Lib.hid (any_take (badL n) _ k q.l hm HY.out hst')
        rw [hst'] at HW
        clear hx hst hB hst' hm hLw
        generalize q.l.length = qn at *
        go_wp2_with (go_at_call 43; refine HW.out.mono ?_; rintro r w1 ⟨rfl, hb1⟩)
        have HB1 := Lib.hid (HB.out.trans (hb1.mono HB.out.size))
        go_roundw
        case rel => exact ⟨k + 1, by omega, by go_num, HB1.out, HF⟩
        case measure => simp [intOf]; omega
    · have HF := Lib.hid (show (Q.map (·.l)).any (badL n) = false by
        have := HY.out
        rwa [List.take_of_length_le (by simp; rw [HN.out]; omega)] at this)
      clear hB
      go_wp2_with fail
      go_ret
      exact ⟨-1, rfl, by rw [HF.out]; rfl, HB.out⟩

set_option maxRecDepth 10000 in
theorem contains_lists {w : World} {a : Option Addr} {Q : List RLay} (h : Lists w w.heap.size a Q) (c : Nat) (hl : Q.length ≤ 100000) (hq : ∀ q ∈ Q, q.l.length ≤ 100000) (g n cy : Nat) (aY : Option Addr) (hg : w.cell? ⟨g, 3, none⟩ = some (.slice aY n cy)) :
    Calls Tryz.prog 42 #[.slice a Q.length c, .func (.func 43) #[] #[.pointer (some ⟨g, 0, none⟩)]] w fun r w' => r = .returned (.bool ((Q.map (·.l)).any (badL n))) ∧ Below w.heap.size w w' := by
  have HI := Lib.hid (index_lists h c hl hq g n cy aY hg)
  clear h hl hq hg
  generalize (Q.map (·.l)).any (badL n) = ok at *
  generalize Q.length = N at *
  go_enter Tryz.func42, Tryz.ntmps42
  go_wp2_with (go_at_call 76; refine HI.out.mono ?_; rintro r w1 ⟨k, rfl, hk, hb1⟩)
  go_ret
  exact ⟨by rw [← hk]; rfl, hb1⟩


set_option maxRecDepth 10000 in
set_option maxHeartbeats 6400000 in
theorem oright_any {w : World} (o : ObjV) (h : o.Ok w w.heap.size) (hS : o.L.length ≤ 100000) (hY : o.Y.length ≤ 100000) (hQ : o.Q.length ≤ 100000) (hq : ∀ q ∈ o.Q, q.l.length ≤ 100000) :
    Calls Tryz.prog 13 #[o.val] w fun r w' => r = .returned (.bool (rightO (secsOf o.L) o.Y (o.Q.map (·.l)))) ∧ Below w.heap.size w w' := by
  obtain ⟨kd, mc, aS, cS, L, aY, cY, Y, aR, cR, Q⟩ := o
  rw [show ObjV.val ⟨kd, mc, aS, cS, L, aY, cY, Y, aR, cR, Q⟩ = .agg #[.int .i64 kd, .int .i64 mc, .slice aS L.length cS, .slice aY Y.length cY, .slice aR Q.length cR] from rfl]
  obtain ⟨hs, hy, hl, hcS, hcR⟩ := h
  simp only at hs hy hl hcS hcR hS hY hQ hq ⊢
  have hmf := ob_func
  have hb0 : Below w.heap.size w (w.alloc (.cells #[.int .i64 kd, .int .i64 mc, .slice aS L.length cS, .slice aY Y.length cY, .slice aR Q.length cR] 28)) := (Below.refl _ _).alloc (Nat.le_refl _) _
  have hX0 := Box.new w 28 #[.int .i64 kd, .int .i64 mc, .slice aS L.length cS, .slice aY Y.length cY, .slice aR Q.length cR]
  have KX := Lib.hid (fun W (hW : Below (w.alloc (.cells #[.int .i64 kd, .int .i64 mc, .slice aS L.length cS, .slice aY Y.length cY, .slice aR Q.length cR] 28)).heap.size (w.alloc (.cells #[.int .i64 kd, .int .i64 mc, .slice aS L.length cS, .slice aY Y.length cY, .slice aR Q.length cR] 28)) W) => five_cells (hX0.below hW (by simp)))
  have hsl : (secsOf L).length = L.length := by simp
  have hw1 : ∀ W, Below (w.alloc (.cells #[.int .i64 kd, .int .i64 mc, .slice aS L.length cS, .slice aY Y.length cY, .slice aR Q.length cR] 28)).heap.size (w.alloc (.cells #[.int .i64 kd, .int .i64 mc, .slice aS L.length cS, .slice aY Y.length cY, .slice aR Q.length cR] 28)) W → Below w.heap.size w W := fun W hW => hb0.trans (hW.mono hb0.size)
  have HW1 := Lib.hid hw1
  have HMA := Lib.hid (fun W hW => contains_made ((hs.below (hw1 W hW)).more (hw1 W hW).size) cS hS)
  have HRY := Lib.hid (fun W hW => yright_any (Row.more (Row.below hy (hw1 W hW)) (hw1 W hW).size) cY hY)
  have HPL := Lib.hid (fun W hW => placed_any (Row.more (Row.below hy (hw1 W hW)) (hw1 W hW).size) cY hY L.length)
  have HCL := Lib.hid (fun W hW => contains_lists ((hl.below (hw1 W hW)).more (hw1 W hW).size) cR hQ hq w.heap.size Y.length cY aY (KX.out W hW).2.2.2.1)
  have HE := Lib.hid (show rightO (secsOf L) Y (Q.map (·.l)) = (decide (0 < (secsOf L).length) && (((secsOf L)[0]?).any (fun s => sameS s zeroS) && (!(anyMade (secsOf L)) && (rightY Y && (placedY Y (secsOf L).length && rightRest (secsOf L).length Y (Q.map (·.l))))))) from rfl)
  generalize rightO (secsOf L) Y (Q.map (·.l)) = res at *
  rw [hsl] at HE
  by_cases h0 : L.length = 0
  · have HF := Lib.hid (show res = false by rw [HE.out, h0]; rfl)
    have hd : ((L.length : Int) == 0) = true := by simp [h0]
    have HB0 := Lib.hid hb0
    clear HMA HRY HPL HCL HE hs hy hl hsl KX hX0 hb0 hw1 HW1 h0
    generalize L.length = n at *
    generalize Y.length = ny at *
    generalize Q.length = nr at *
    go_enter Tryz.func13, Tryz.ntmps13
    go_wp2_with fail
    go_ret
    exact ⟨by rw [HF.out]; rfl, HB0.out⟩
  · obtain ⟨x, hx⟩ : ∃ x, L[0]? = some x := ⟨L[0]'(by omega), List.getElem?_eq_getElem _⟩
    have hd : ((L.length : Int) == 0) = false := beq_eq_false_iff_ne.2 (by omega)
    have hpos : 0 < L.length := by omega
    have hposI : (0 : Int) < (L.length : Int) := by omega
    have hs1 := (hs.below hb0).more hb0.size
    have HZ := Lib.hid (zero_any x (hs1.get hx))
    rw [lay_cells] at HZ
    obtain ⟨b, oo, rfl, hb, c0, c1, c2, c3, c4, c5, c6, c7, c8⟩ := hs1.at_ hx
    rw [Nat.zero_mul, Nat.add_zero] at c0 c1 c2 c3 c4 c5 c6 c7 c8
    rw [decide_eq_true hpos, Bool.true_and, get_secsOf hx, Option.any_some] at HE
    have HB0 := Lib.hid (Below.refl (w.alloc (.cells #[.int .i64 kd, .int .i64 mc, .slice (some ⟨b, oo, none⟩) L.length cS, .slice aY Y.length cY, .slice aR Q.length cR] 28)).heap.size (w.alloc (.cells #[.int .i64 kd, .int .i64 mc, .slice (some ⟨b, oo, none⟩) L.length cS, .slice aY Y.length cY, .slice aR Q.length cR] 28)))
    obtain ⟨x0, x1, x2, x3, x4⟩ := KX.out _ HB0.out
    have HRR := Lib.hid (show rightRest L.length Y (Q.map (·.l)) = (decide (Q.length = 0) || (decide (Q.length = L.length) && (decide (((Q.map (·.l)).headD []).length = 0) && !((Q.map (·.l)).any (badL Y.length))))) by unfold rightRest; rw [List.length_map])
    have HL0 := Lib.hid (fun (W : World) (hW : Below (w.alloc (.cells #[.int .i64 kd, .int .i64 mc, .slice (some ⟨b, oo, none⟩) L.length cS, .slice aY Y.length cY, .slice aR Q.length cR] 28)).heap.size (w.alloc (.cells #[.int .i64 kd, .int .i64 mc, .slice (some ⟨b, oo, none⟩) L.length cS, .slice aY Y.length cY, .slice aR Q.length cR] 28)) W) (q : RLay) (hq0 : Q[0]? = some q) => (hl.below (HW1.out W hW)).at_ hq0)
    generalize rightRest L.length Y (Q.map (·.l)) = rr at *
    generalize sameS x.s zeroS = b1 at *
    generalize anyMade (secsOf L) = b2 at *
    generalize rightY Y = b3 at *
    generalize placedY Y L.length = b4 at *
    generalize (Q.map (·.l)).any (badL Y.length) = b5 at *
    clear hx hs1 hs hy hsl hb0 hX0 hw1
    generalize x.A = dA at *
    generalize x.s.data.length = dn at *
    generalize x.c = dc at *
    generalize ByteArray.mk x.s.name.toArray = sb at *
    generalize Y.length = ny at *
    generalize hnr : Q.length = nr at *
    have HNR := Lib.hid hnr
    clear hnr
    generalize L.length = n at *
    go_enter Tryz.func13, Tryz.ntmps13
    cases b1 with
    | false =>
      have HF := Lib.hid (show res = false by rw [HE.out]; rfl)
      clear HMA HRY HPL HCL HE hl HRR HL0
      go_wp2_with (go_at_call 37; refine HZ.out.mono ?_; rintro r w1 ⟨rfl, hb1⟩; have HB1 := Lib.hid (HB0.out.trans (hb1.mono HB0.out.size)); (obtain ⟨x0, x1, x2, x3, x4⟩ := KX.out _ HB1.out); clear hb1 HZ)
      go_ret
      exact ⟨by rw [HF.out]; rfl, HW1.out _ HB1.out⟩
    | true =>
      cases b2 with
      | true =>
        have HF := Lib.hid (show res = false by rw [HE.out]; rfl)
        clear HRY HPL HCL HE hl HRR HL0
        go_wp2_with (first
          | (go_at_call 37; refine HZ.out.mono ?_; rintro r w1 ⟨rfl, hb1⟩; have HB1 := Lib.hid (HB0.out.trans (hb1.mono HB0.out.size)); (obtain ⟨x0, x1, x2, x3, x4⟩ := KX.out _ HB1.out); clear hb1 HZ)
          | (go_at_call 38; refine (HMA.out _ HB1.out).mono ?_; rintro r w2 ⟨rfl, hb2⟩; have HB2 := Lib.hid (HB1.out.trans (hb2.mono HB1.out.size)); clear x0 x1 x2 x3 x4; (obtain ⟨x0, x1, x2, x3, x4⟩ := KX.out _ HB2.out); clear hb2 HMA))
        go_ret
        exact ⟨by rw [HF.out]; rfl, HW1.out _ HB2.out⟩
      | false =>
        cases b3 with
        | false =>
          have HF := Lib.hid (show res = false by rw [HE.out]; rfl)
          clear HPL HCL HE hl HRR HL0
          go_wp2_with (first
            | (go_at_call 37; refine HZ.out.mono ?_; rintro r w1 ⟨rfl, hb1⟩; have HB1 := Lib.hid (HB0.out.trans (hb1.mono HB0.out.size)); (obtain ⟨x0, x1, x2, x3, x4⟩ := KX.out _ HB1.out); clear hb1 HZ)
            | (go_at_call 38; refine (HMA.out _ HB1.out).mono ?_; rintro r w2 ⟨rfl, hb2⟩; have HB2 := Lib.hid (HB1.out.trans (hb2.mono HB1.out.size)); clear x0 x1 x2 x3 x4; (obtain ⟨x0, x1, x2, x3, x4⟩ := KX.out _ HB2.out); clear hb2 HMA)
            | (go_at_call 40; refine (HRY.out _ HB2.out).mono ?_; rintro r w3 ⟨rfl, hb3⟩; have HB3 := Lib.hid (HB2.out.trans (hb3.mono HB2.out.size)); clear x0 x1 x2 x3 x4; (obtain ⟨x0, x1, x2, x3, x4⟩ := KX.out _ HB3.out); clear hb3 HRY))
          go_ret
          exact ⟨by rw [HF.out]; rfl, HW1.out _ HB3.out⟩
        | true =>
          cases b4 with
          | false =>
            have HF := Lib.hid (show res = false by rw [HE.out]; rfl)
            clear HCL HE hl HRR HL0
            go_wp2_with (first
              | (go_at_call 37; refine HZ.out.mono ?_; rintro r w1 ⟨rfl, hb1⟩; have HB1 := Lib.hid (HB0.out.trans (hb1.mono HB0.out.size)); (obtain ⟨x0, x1, x2, x3, x4⟩ := KX.out _ HB1.out); clear hb1 HZ)
              | (go_at_call 38; refine (HMA.out _ HB1.out).mono ?_; rintro r w2 ⟨rfl, hb2⟩; have HB2 := Lib.hid (HB1.out.trans (hb2.mono HB1.out.size)); clear x0 x1 x2 x3 x4; (obtain ⟨x0, x1, x2, x3, x4⟩ := KX.out _ HB2.out); clear hb2 HMA)
              | (go_at_call 40; refine (HRY.out _ HB2.out).mono ?_; rintro r w3 ⟨rfl, hb3⟩; have HB3 := Lib.hid (HB2.out.trans (hb3.mono HB2.out.size)); clear x0 x1 x2 x3 x4; (obtain ⟨x0, x1, x2, x3, x4⟩ := KX.out _ HB3.out); clear hb3 HRY)
              | (go_at_call 41; refine (HPL.out _ HB3.out).mono ?_; rintro r w4 ⟨rfl, hb4⟩; have HB4 := Lib.hid (HB3.out.trans (hb4.mono HB3.out.size)); clear x0 x1 x2 x3 x4; (obtain ⟨x0, x1, x2, x3, x4⟩ := KX.out _ HB4.out); have HW4 := Lib.hid HB4.out; clear hb4 HPL))
            go_ret
            exact ⟨by rw [HF.out]; rfl, HW1.out _ HB4.out⟩
          | true =>
            have HE2 := Lib.hid (show res = rr by rw [HE.out]; rfl)
            clear HE
            by_cases hr0 : nr = 0
            · have e0 : ((nr : Int) == 0) = true := by simp [hr0]
              have HF := Lib.hid (show res = true by rw [HE2.out, HRR.out, decide_eq_true hr0]; rfl)
              clear hr0 HCL hl HRR HL0 HE2
              go_wp2_with (first
                | (go_at_call 37; refine HZ.out.mono ?_; rintro r w1 ⟨rfl, hb1⟩; have HB1 := Lib.hid (HB0.out.trans (hb1.mono HB0.out.size)); (obtain ⟨x0, x1, x2, x3, x4⟩ := KX.out _ HB1.out); clear hb1 HZ)
                | (go_at_call 38; refine (HMA.out _ HB1.out).mono ?_; rintro r w2 ⟨rfl, hb2⟩; have HB2 := Lib.hid (HB1.out.trans (hb2.mono HB1.out.size)); clear x0 x1 x2 x3 x4; (obtain ⟨x0, x1, x2, x3, x4⟩ := KX.out _ HB2.out); clear hb2 HMA)
                | (go_at_call 40; refine (HRY.out _ HB2.out).mono ?_; rintro r w3 ⟨rfl, hb3⟩; have HB3 := Lib.hid (HB2.out.trans (hb3.mono HB2.out.size)); clear x0 x1 x2 x3 x4; (obtain ⟨x0, x1, x2, x3, x4⟩ := KX.out _ HB3.out); clear hb3 HRY)
                | (go_at_call 41; refine (HPL.out _ HB3.out).mono ?_; rintro r w4 ⟨rfl, hb4⟩; have HB4 := Lib.hid (HB3.out.trans (hb4.mono HB3.out.size)); clear x0 x1 x2 x3 x4; (obtain ⟨x0, x1, x2, x3, x4⟩ := KX.out _ HB4.out); have HW4 := Lib.hid HB4.out; clear hb4 HPL))
              go_ret
              exact ⟨by rw [HF.out]; rfl, HW1.out _ HB4.out⟩
            · have e0 : ((nr : Int) == 0) = false := beq_eq_false_iff_ne.2 (by omega)
              by_cases hrn : nr = n
              · have e1 : ((nr : Int) == (n : Int)) = true := by simp [hrn]
                subst hrn
                obtain ⟨q, hq0⟩ : ∃ q, Q[0]? = some q := ⟨Q[0]'(by rw [HNR.out]; omega), List.getElem?_eq_getElem _⟩
                have hhd : (Q.map (·.l)).headD [] = q.l := by
                  match Q, hq0 with
                  | q' :: _, h => simp at h ⊢; rw [h]
                rw [hhd, decide_eq_false hr0, decide_eq_true rfl, Bool.false_or, Bool.true_and] at HRR
                have HL0q := Lib.hid (fun W hW => HL0.out W hW q hq0)
                clear hq0 hhd HL0 hl
                by_cases hq1 : q.l.length = 0
                · have e2 : ((q.l.length : Int) == 0) = true := by simp [hq1]
                  have HF := Lib.hid (show res = !b5 by rw [HE2.out, HRR.out, decide_eq_true hq1, Bool.true_and])
                  clear hq1 HRR HE2
                  generalize q.l.length = qn at *
                  go_wp2_with (first
                    | (go_at_call 37; refine HZ.out.mono ?_; rintro r w1 ⟨rfl, hb1⟩; have HB1 := Lib.hid (HB0.out.trans (hb1.mono HB0.out.size)); (obtain ⟨x0, x1, x2, x3, x4⟩ := KX.out _ HB1.out); clear hb1 HZ)
                    | (go_at_call 38; refine (HMA.out _ HB1.out).mono ?_; rintro r w2 ⟨rfl, hb2⟩; have HB2 := Lib.hid (HB1.out.trans (hb2.mono HB1.out.size)); clear x0 x1 x2 x3 x4; (obtain ⟨x0, x1, x2, x3, x4⟩ := KX.out _ HB2.out); clear hb2 HMA)
                    | (go_at_call 40; refine (HRY.out _ HB2.out).mono ?_; rintro r w3 ⟨rfl, hb3⟩; have HB3 := Lib.hid (HB2.out.trans (hb3.mono HB2.out.size)); clear x0 x1 x2 x3 x4; (obtain ⟨x0, x1, x2, x3, x4⟩ := KX.out _ HB3.out); clear hb3 HRY)
                    | (go_at_call 41; refine (HPL.out _ HB3.out).mono ?_; rintro r w4 ⟨rfl, hb4⟩; have HB4 := Lib.hid (HB3.out.trans (hb4.mono HB3.out.size)); clear x0 x1 x2 x3 x4; (obtain ⟨x0, x1, x2, x3, x4⟩ := KX.out _ HB4.out); have HW4 := Lib.hid HB4.out; (obtain ⟨b6, o6, rfl, hb6, k0⟩ := HL0q.out _ HB4.out); rw [Nat.add_zero] at k0; clear hb4 HPL HL0q)
                    | (go_at_call 42; refine (HCL.out _ HW4.out).mono ?_; rintro r w5 ⟨rfl, hb5⟩; have HB5 := Lib.hid (HB4.out.trans (hb5.mono HB4.out.size)); clear hb5 HCL))
                  go_ret
                  exact ⟨by rw [HF.out]; rfl, HW1.out _ HB5.out⟩
                · have e2 : ((q.l.length : Int) == 0) = false := beq_eq_false_iff_ne.2 (by omega)
                  have HF := Lib.hid (show res = false by rw [HE2.out, HRR.out, decide_eq_false hq1]; rfl)
                  clear hq1 HRR HE2 HCL
                  generalize q.l.length = qn at *
                  go_wp2_with (first
                    | (go_at_call 37; refine HZ.out.mono ?_; rintro r w1 ⟨rfl, hb1⟩; have HB1 := Lib.hid (HB0.out.trans (hb1.mono HB0.out.size)); (obtain ⟨x0, x1, x2, x3, x4⟩ := KX.out _ HB1.out); clear hb1 HZ)
                    | (go_at_call 38; refine (HMA.out _ HB1.out).mono ?_; rintro r w2 ⟨rfl, hb2⟩; have HB2 := Lib.hid (HB1.out.trans (hb2.mono HB1.out.size)); clear x0 x1 x2 x3 x4; (obtain ⟨x0, x1, x2, x3, x4⟩ := KX.out _ HB2.out); clear hb2 HMA)
                    | (go_at_call 40; refine (HRY.out _ HB2.out).mono ?_; rintro r w3 ⟨rfl, hb3⟩; have HB3 := Lib.hid (HB2.out.trans (hb3.mono HB2.out.size)); clear x0 x1 x2 x3 x4; (obtain ⟨x0, x1, x2, x3, x4⟩ := KX.out _ HB3.out); clear hb3 HRY)
                    | (go_at_call 41; refine (HPL.out _ HB3.out).mono ?_; rintro r w4 ⟨rfl, hb4⟩; have HB4 := Lib.hid (HB3.out.trans (hb4.mono HB3.out.size)); clear x0 x1 x2 x3 x4; (obtain ⟨x0, x1, x2, x3, x4⟩ := KX.out _ HB4.out); have HW4 := Lib.hid HB4.out; (obtain ⟨b6, o6, rfl, hb6, k0⟩ := HL0q.out _ HB4.out); rw [Nat.add_zero] at k0; clear hb4 HPL HL0q))
                  go_ret
                  exact ⟨by rw [HF.out]; rfl, HW1.out _ HB4.out⟩
              · have e1 : ((nr : Int) == (n : Int)) = false := beq_eq_false_iff_ne.2 (by omega)
                have HF := Lib.hid (show res = false by rw [HE2.out, HRR.out, decide_eq_false hr0, decide_eq_false hrn]; rfl)
                clear HCL hl HRR HL0 HE2
                go_wp2_with (first
                  | (go_at_call 37; refine HZ.out.mono ?_; rintro r w1 ⟨rfl, hb1⟩; have HB1 := Lib.hid (HB0.out.trans (hb1.mono HB0.out.size)); (obtain ⟨x0, x1, x2, x3, x4⟩ := KX.out _ HB1.out); clear hb1 HZ)
                  | (go_at_call 38; refine (HMA.out _ HB1.out).mono ?_; rintro r w2 ⟨rfl, hb2⟩; have HB2 := Lib.hid (HB1.out.trans (hb2.mono HB1.out.size)); clear x0 x1 x2 x3 x4; (obtain ⟨x0, x1, x2, x3, x4⟩ := KX.out _ HB2.out); clear hb2 HMA)
                  | (go_at_call 40; refine (HRY.out _ HB2.out).mono ?_; rintro r w3 ⟨rfl, hb3⟩; have HB3 := Lib.hid (HB2.out.trans (hb3.mono HB2.out.size)); clear x0 x1 x2 x3 x4; (obtain ⟨x0, x1, x2, x3, x4⟩ := KX.out _ HB3.out); clear hb3 HRY)
                  | (go_at_call 41; refine (HPL.out _ HB3.out).mono ?_; rintro r w4 ⟨rfl, hb4⟩; have HB4 := Lib.hid (HB3.out.trans (hb4.mono HB3.out.size)); clear x0 x1 x2 x3 x4; (obtain ⟨x0, x1, x2, x3, x4⟩ := KX.out _ HB4.out); have HW4 := Lib.hid HB4.out; clear hb4 HPL))
                go_ret
                exact ⟨by rw [HF.out]; rfl, HW1.out _ HB4.out⟩

end Go.Proofs.YtldmjnbmjfnfeaaGreatDoor
