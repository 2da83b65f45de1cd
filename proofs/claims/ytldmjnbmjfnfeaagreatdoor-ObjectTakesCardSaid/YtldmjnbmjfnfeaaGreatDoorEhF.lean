/-
  The document's Take: which header a file's bytes begin with, or why none.
-/
import Derived.Test.YtldmjnbmjfnfeaaGreatDoorEhE
import Derived.Test.YtldmjnbmjfnfeaaGreatDoorEhB
import Derived.Test.YtldmjnbmjfnfeaaGreatDoorCsL
namespace Go.Proofs.YtldmjnbmjfnfeaaGreatDoor
open Go Go.RowKit

theorem ret_rhead {fn : Func} {p u : Tmp} (hres : fn.results = #[.cell p 64, .tmp u]) {R : Ending → World → Prop} {a : Act} {W : World} {H : Nat} {cs : Array Value} (hB : Box W H 64 cs) (hcs : cs.size = 5)
    (hp : a.tmps.getD p undef = .pointer (some ⟨H, 0, none⟩)) (hd : a.defers = []) (h : R (.returned (.tuple #[.agg cs, a.tmps.getD u undef])) W) : bodyPost Tryz.prog fn R .ret a W := by
  refine bodyPost_ret (v := .tuple #[.agg cs, a.tmps.getD u undef]) ?_ hd h
  have hl := run_loadVar_row (P := Tryz.prog) W H 64 64 cs (0, 0) _ hB Tryz.underlying64 rfl (by rw [hcs]; kernel_rfl)
  rw [results_cell_tmp hres, hp]
  simp [asAddr, hl, Result.andThen]

theorem numT_take (l : List UInt8) (f n : Nat) (h : f + n ≤ 64) : numT (l.take 64) f n = numT l f n := by
  unfold numT cutT
  rw [List.drop_take, List.take_take, Nat.min_eq_left (by omega)]

theorem fast_not {f : Bool} {a b c d : Nat} (h : f = (decide (a = 1) && decide (b = 64) && decide (c = 0) && decide (d = 64))) :
    (f = true ∧ ((a : Int) != 1) = false ∧ ((b : Int) != 64) = false ∧ ((c : Int) != 0) = false ∧ ((d : Int) != 64) = false) ∨ (f = false ∧ ((a : Int) != 1) = true) ∨
    (f = false ∧ ((a : Int) != 1) = false ∧ ((b : Int) != 64) = true) ∨ (f = false ∧ ((a : Int) != 1) = false ∧ ((b : Int) != 64) = false ∧ ((c : Int) != 0) = true) ∨
    (f = false ∧ ((a : Int) != 1) = false ∧ ((b : Int) != 64) = false ∧ ((c : Int) != 0) = false ∧ ((d : Int) != 64) = true) := by
  have h := fast_ways h
  simp only [bne, Bool.not_eq_eq_eq_not, Bool.not_true, Bool.not_false]
  exact h

theorem head_str (xs : List UInt8) : ((ByteArray.mk xs.toArray).toList == [127, 69, 76, 70, 2, 1, 1]) = (xs == magB) := by
  rw [ByteArray.toList_eq]
  rfl

theorem rtake_short {w : World} {A : Option Addr} {l : List UInt8} (c : Nat) (h : l.length < 64) :
    Calls Tryz.prog 52 #[.slice A l.length c] w (TakeIs (takeH l) (takeE l) w) := by
  have HE := Lib.hid (show takeE l = 20 by unfold takeE; rw [if_neg (by omega)])
  have HH := Lib.hid (show takeH l = hdV 0 0 0 0 0 by unfold takeH; rw [HE.out]; rfl)
  have hd : decide ((l.length : Int) < 64) = true := by simp; omega
  generalize takeE l = e at *
  generalize takeH l = hv at *
  generalize l.length = n at *
  have HZ := Lib.hid (Box.new w 64 #[.int .i64 0, .int .i64 0, .int .u64 0, .int .i64 0, .int .i64 0])
  have HY := Lib.hid ((Below.refl w.heap.size w).alloc (Nat.le_refl _) (.cells #[.int .i64 0, .int .i64 0, .int .u64 0, .int .i64 0, .int .i64 0] 64))
  go_enter Tryz.func52, Tryz.ntmps52
  go_wp2
  refine ret_rhead Tryz.results52 HZ.out rfl (by rfl) rfl ?_
  refine ⟨?_, HY.out⟩
  rw [HH.out, HE.out]
  rfl

set_option maxHeartbeats 800000 in
theorem rtake_other {w : World} {B : Nat} {A : Option Addr} {l : List UInt8} (hr : Rd w B A l) (hB : B ≤ w.heap.size) (c : Nat) (hc : l.length ≤ c) (h : 64 ≤ l.length) (hne : l.take 7 ≠ magB) :
    Calls Tryz.prog 52 #[.slice A l.length c] w (TakeIs (takeH l) (takeE l) w) := by
  have HE := Lib.hid (show takeE l = 20 by unfold takeE; rw [if_neg (by simp [hne])])
  have HH := Lib.hid (show takeH l = hdV 0 0 0 0 0 by unfold takeH; rw [HE.out]; rfl)
  have hd : decide ((l.length : Int) < 64) = false := by simp; omega
  obtain ⟨b, o, rfl, hb, hcell⟩ := hr (by omega)
  have h7 : (l.take 7).length = 7 := by simp; omega
  have hrd : ∀ o1, Rd (w.alloc o1) w.heap.size (some ⟨b, o, none⟩) (l.take 7) := fun o1 _ =>
    ⟨b, o, rfl, by omega, fun j u hu => by
      have hj : j < 7 := by have := (List.getElem?_eq_some_iff.1 hu).1; omega
      rw [((Below.refl w.heap.size w).alloc (Nat.le_refl _) o1).cell (p := ⟨b, o + j, none⟩) (by show b < _; omega)]
      exact hcell j u (by rw [← hu, List.getElem?_take, if_pos hj])⟩
  obtain ⟨sX, hsX⟩ : ∃ s : ByteArray, s = ⟨(l.take 7).toArray⟩ := ⟨_, rfl⟩
  have hcv : ∀ o1, (convert 22 9 (.slice (some ⟨b, o, none⟩) 7 c)).run Tryz.prog (w.alloc o1) = .ok (.string sX) (w.alloc o1) := fun o1 => by
    have := conv_rd (hrd o1) c
    rwa [h7, ← hsX] at this
  have hq : (sX.toList == [127, 69, 76, 70, 2, 1, 1]) = false := by rw [hsX, head_str]; simp [hne]
  have hc7 : (7 : Nat) ≤ c := by omega
  clear hsX hrd hcell hr hne h7 hc
  generalize takeE l = e at *
  generalize takeH l = hv at *
  generalize l.length = n at *
  have HZ := Lib.hid (Box.new w 64 #[.int .i64 0, .int .i64 0, .int .u64 0, .int .i64 0, .int .i64 0])
  have HY := Lib.hid ((Below.refl w.heap.size w).alloc (Nat.le_refl _) (.cells #[.int .i64 0, .int .i64 0, .int .u64 0, .int .i64 0, .int .i64 0] 64))
  go_enter Tryz.func52, Tryz.ntmps52
  go_wp2
  refine ret_rhead Tryz.results52 HZ.out rfl (by rfl) rfl ?_
  refine ⟨?_, HY.out⟩
  rw [HH.out, HE.out]
  rfl


set_option maxHeartbeats 1600000 in
set_option maxRecDepth 10000 in
theorem rtake_head {w : World} {B : Nat} {A : Option Addr} {l : List UInt8} (hr : Rd w B A l) (hB : B ≤ w.heap.size) (c : Nat) (hc : l.length ≤ c) (h : 64 ≤ l.length) (hl : l.length ≤ 140737488355328) (hne : l.take 7 = magB) :
    Calls Tryz.prog 52 #[.slice A l.length c] w (TakeIs (takeH l) (takeE l) w) := by
  have hd : decide ((l.length : Int) < 64) = false := by simp; omega
  obtain ⟨b, o, rfl, hb, hcell⟩ := hr (by omega)
  have h7 : (l.take 7).length = 7 := by simp; omega
  have hrd : ∀ o1, Rd (w.alloc o1) w.heap.size (some ⟨b, o, none⟩) (l.take 7) := fun o1 _ =>
    ⟨b, o, rfl, by omega, fun j u hu => by
      have hj : j < 7 := by have := (List.getElem?_eq_some_iff.1 hu).1; omega
      rw [((Below.refl w.heap.size w).alloc (Nat.le_refl _) o1).cell (p := ⟨b, o + j, none⟩) (by show b < _; omega)]
      exact hcell j u (by rw [← hu, List.getElem?_take, if_pos hj])⟩
  obtain ⟨sX, hsX⟩ : ∃ s : ByteArray, s = ⟨(l.take 7).toArray⟩ := ⟨_, rfl⟩
  have hcv : ∀ o1, (convert 22 9 (.slice (some ⟨b, o, none⟩) 7 c)).run Tryz.prog (w.alloc o1) = .ok (.string sX) (w.alloc o1) := fun o1 => by
    have := conv_rd (hrd o1) c
    rwa [h7, ← hsX] at this
  have hq : (sX.toList == [127, 69, 76, 70, 2, 1, 1]) = true := by rw [hsX, head_str]; simp [hne]
  have hc7 : (7 : Nat) ≤ c := by omega
  have HA := fun W (hW : Below w.heap.size w W) f n (h1 : f + n ≤ l.length) (h2 : n ≤ 8) => eat_any ((hr.more hB).below hW) c f n h1 h2 hl
  have An0 := Lib.hid (show ∀ W, Below w.heap.size w W → Calls Tryz.prog 95 #[.slice (some ⟨b, o, none⟩) l.length c, .int .i64 16, .int .i64 2] W fun r w' => r = .returned (.int .u64 (numT l 16 2 : Int)) ∧ W = w' from fun W hW => HA W hW 16 2 (by omega) (by decide))
  have An1 := Lib.hid (show ∀ W, Below w.heap.size w W → Calls Tryz.prog 95 #[.slice (some ⟨b, o, none⟩) l.length c, .int .i64 18, .int .i64 2] W fun r w' => r = .returned (.int .u64 (numT l 18 2 : Int)) ∧ W = w' from fun W hW => HA W hW 18 2 (by omega) (by decide))
  have An2 := Lib.hid (show ∀ W, Below w.heap.size w W → Calls Tryz.prog 95 #[.slice (some ⟨b, o, none⟩) l.length c, .int .i64 40, .int .i64 8] W fun r w' => r = .returned (.int .u64 (numT l 40 8 : Int)) ∧ W = w' from fun W hW => HA W hW 40 8 (by omega) (by decide))
  have An3 := Lib.hid (show ∀ W, Below w.heap.size w W → Calls Tryz.prog 95 #[.slice (some ⟨b, o, none⟩) l.length c, .int .i64 60, .int .i64 2] W fun r w' => r = .returned (.int .u64 (numT l 60 2 : Int)) ∧ W = w' from fun W hW => HA W hW 60 2 (by omega) (by decide))
  have An4 := Lib.hid (show ∀ W, Below w.heap.size w W → Calls Tryz.prog 95 #[.slice (some ⟨b, o, none⟩) l.length c, .int .i64 62, .int .i64 2] W fun r w' => r = .returned (.int .u64 (numT l 62 2 : Int)) ∧ W = w' from fun W hW => HA W hW 62 2 (by omega) (by decide))
  have Am0 := Lib.hid (show ∀ W, Below w.heap.size w W → Calls Tryz.prog 95 #[.slice (some ⟨b, o, none⟩) l.length c, .int .i64 20, .int .i64 4] W fun r w' => r = .returned (.int .u64 (numT l 20 4 : Int)) ∧ W = w' from fun W hW => HA W hW 20 4 (by omega) (by decide))
  have Am1 := Lib.hid (show ∀ W, Below w.heap.size w W → Calls Tryz.prog 95 #[.slice (some ⟨b, o, none⟩) l.length c, .int .i64 52, .int .i64 2] W fun r w' => r = .returned (.int .u64 (numT l 52 2 : Int)) ∧ W = w' from fun W hW => HA W hW 52 2 (by omega) (by decide))
  have Am2 := Lib.hid (show ∀ W, Below w.heap.size w W → Calls Tryz.prog 95 #[.slice (some ⟨b, o, none⟩) l.length c, .int .i64 56, .int .i64 2] W fun r w' => r = .returned (.int .u64 (numT l 56 2 : Int)) ∧ W = w' from fun W hW => HA W hW 56 2 (by omega) (by decide))
  have Am3 := Lib.hid (show ∀ W, Below w.heap.size w W → Calls Tryz.prog 95 #[.slice (some ⟨b, o, none⟩) l.length c, .int .i64 58, .int .i64 2] W fun r w' => r = .returned (.int .u64 (numT l 58 2 : Int)) ∧ W = w' from fun W hW => HA W hW 58 2 (by omega) (by decide))
  have HE := Lib.hid (show takeE l = if (fastT (l.take 64) && rightOf (numT l 16 2 : Int) (numT l 18 2 : Int) (numT l 40 8) (numT l 60 2 : Int) (numT l 62 2 : Int) l.length) = true then 0 else 21 by
    unfold takeE
    rw [if_pos ⟨h, hne⟩, numT_take l 16 2 (by decide), numT_take l 18 2 (by decide), numT_take l 40 8 (by decide), numT_take l 60 2 (by decide), numT_take l 62 2 (by decide)])
  have HH := Lib.hid (show takeH l = if takeE l = 0 then hdV (numT l 16 2 : Int) (numT l 18 2 : Int) (numT l 40 8) (numT l 60 2 : Int) (numT l 62 2 : Int) else hdV 0 0 0 0 0 by
    unfold takeH hdrT
    rw [numT_take l 16 2 (by decide), numT_take l 18 2 (by decide), numT_take l 40 8 (by decide), numT_take l 60 2 (by decide), numT_take l 62 2 (by decide)])
  have HF := Lib.hid (fast_not (show fastT (l.take 64) = (decide (numT l 20 4 = 1) && decide (numT l 52 2 = 64) && decide (numT l 56 2 = 0) && decide (numT l 58 2 = 64)) by
    unfold fastT
    rw [numT_take l 20 4 (by decide), numT_take l 52 2 (by decide), numT_take l 56 2 (by decide), numT_take l 58 2 (by decide)]))
  have ho : numT l 40 8 < two64 := numT_lt8 _ _
  have HR := Lib.hid (fun W => erright_any (numT l 16 2 : Int) (numT l 18 2 : Int) (numT l 40 8) (numT l 60 2 : Int) (numT l 62 2 : Int) l.length W ho (by omega))
  have bn0 := numT_lt2 l 16
  have bn1 := numT_lt2 l 18
  have bn3 := numT_lt2 l 60
  have bn4 := numT_lt2 l 62
  clear HA hsX hrd hcell hr hne h7 hc ho hl
  generalize takeE l = e at *
  generalize takeH l = hv at *
  generalize fastT (l.take 64) = fast at *
  generalize numT l 16 2 = n0 at *
  generalize numT l 18 2 = n1 at *
  generalize numT l 40 8 = n2 at *
  generalize numT l 60 2 = n3 at *
  generalize numT l 62 2 = n4 at *
  generalize numT l 20 4 = m0 at *
  generalize numT l 52 2 = m1 at *
  generalize numT l 56 2 = m2 at *
  generalize numT l 58 2 = m3 at *
  generalize rightOf n0 n1 n2 n3 n4 l.length = rt at *
  generalize l.length = n at *
  have hb0 := (Below.refl w.heap.size w).alloc (Nat.le_refl _) (.cells #[.int .i64 0, .int .i64 0, .int .u64 0, .int .i64 0, .int .i64 0] 64)
  have hb1 := hb0.alloc hb0.size (.cells #[.int .i64 n0, .int .i64 n1, .int .u64 n2, .int .i64 n3, .int .i64 n4] 64)
  have HZ := Lib.hid (Box.new w 64 #[.int .i64 0, .int .i64 0, .int .u64 0, .int .i64 0, .int .i64 0])
  have HZ1 := Lib.hid ((Box.new w 64 #[.int .i64 0, .int .i64 0, .int .u64 0, .int .i64 0, .int .i64 0]).below ((Below.refl _ _).alloc (Nat.le_refl _) (.cells #[.int .i64 n0, .int .i64 n1, .int .u64 n2, .int .i64 n3, .int .i64 n4] 64)) (by simp))
  have HB0 := Lib.hid hb0
  have HB1 := Lib.hid hb1
  clear hb0 hb1
  go_enter Tryz.func52, Tryz.ntmps52
  go_wp2_with fail
  refine (An0.out _ HB0.out).mono ?_
  rintro r w1 ⟨rfl, rfl⟩
  clear An0
  go_wp2_with fail
  refine (An1.out _ HB0.out).mono ?_
  rintro r w1 ⟨rfl, rfl⟩
  clear An1
  go_wp2_with fail
  refine (An2.out _ HB0.out).mono ?_
  rintro r w1 ⟨rfl, rfl⟩
  clear An2
  go_wp2_with fail
  refine (An3.out _ HB0.out).mono ?_
  rintro r w1 ⟨rfl, rfl⟩
  clear An3
  go_wp2_with fail
  refine (An4.out _ HB0.out).mono ?_
  rintro r w1 ⟨rfl, rfl⟩
  clear An4
  rcases HF.out with ⟨rfl, b0, b1, b2, b3⟩ | ⟨rfl, b0⟩ | ⟨rfl, b0, b1⟩ | ⟨rfl, b0, b1, b2⟩ | ⟨rfl, b0, b1, b2, b3⟩
  · clear HF
    go_wp2_with fail
    refine (Am0.out _ HB1.out).mono ?_
    rintro r w1 ⟨rfl, rfl⟩
    clear Am0
    go_wp2_with fail
    refine (Am1.out _ HB1.out).mono ?_
    rintro r w1 ⟨rfl, rfl⟩
    clear Am1
    go_wp2_with fail
    refine (Am2.out _ HB1.out).mono ?_
    rintro r w1 ⟨rfl, rfl⟩
    clear Am2
    go_wp2_with fail
    refine (Am3.out _ HB1.out).mono ?_
    rintro r w1 ⟨rfl, rfl⟩
    clear Am3
    go_wp2_with fail
    refine (HR.out _).mono ?_
    rintro r w4 ⟨rfl, hB4⟩
    have HZ4 := Lib.hid (HZ1.out.below hB4 (by simp; omega))
    have HD4 := Lib.hid ((Box.new (w.alloc (.cells #[.int .i64 0, .int .i64 0, .int .u64 0, .int .i64 0, .int .i64 0] 64)) 64 #[.int .i64 n0, .int .i64 n1, .int .u64 n2, .int .i64 n3, .int .i64 n4]).below hB4 (by simp))
    have HY4 := Lib.hid (HB1.out.trans (hB4.mono (by simp; omega)))
    clear hB4
    have c0 := HZ4.out.cell 0
    have d0 := HD4.out.cell 0
    have f0 := HZ4.out.free 0
    have c1 := HZ4.out.cell 1
    have d1 := HD4.out.cell 1
    have f1 := HZ4.out.free 1
    have c2 := HZ4.out.cell 2
    have d2 := HD4.out.cell 2
    have f2 := HZ4.out.free 2
    have c3 := HZ4.out.cell 3
    have d3 := HD4.out.cell 3
    have f3 := HZ4.out.free 3
    have c4 := HZ4.out.cell 4
    have d4 := HD4.out.cell 4
    have f4 := HZ4.out.free 4
    simp at c0 c1 c2 c3 c4 d0 d1 d2 d3 d4
    cases rt
    · have HE' := Lib.hid (show e = 21 by rw [HE.out]; rfl)
      have HZ6 := Lib.hid (five_box HZ4.out (.int .i64 0) (.int .i64 0) (.int .u64 0) (.int .i64 0) (.int .i64 0))
      have HY6 := Lib.hid (five_below HY4.out (Nat.le_refl _) (.int .i64 0) (.int .i64 0) (.int .u64 0) (.int .i64 0) (.int .i64 0))
      go_wp2
      refine ret_rhead Tryz.results52 HZ6.out rfl (by rfl) rfl ?_
      refine ⟨?_, HY6.out⟩
      rw [HH.out, HE'.out]
      rfl
    · have HE' := Lib.hid (show e = 0 by rw [HE.out]; rfl)
      have HZ6 := Lib.hid (five_box HZ4.out (.int .i64 n0) (.int .i64 n1) (.int .u64 n2) (.int .i64 n3) (.int .i64 n4))
      have HY6 := Lib.hid (five_below HY4.out (Nat.le_refl _) (.int .i64 n0) (.int .i64 n1) (.int .u64 n2) (.int .i64 n3) (.int .i64 n4))
      go_wp2
      refine ret_rhead Tryz.results52 HZ6.out rfl (by rfl) rfl ?_
      refine ⟨?_, HY6.out⟩
      rw [HH.out, HE'.out]
      rfl
  · clear HF HR
    have HE' := Lib.hid (show e = 21 by rw [HE.out]; rfl)
    go_wp2_with fail
    refine (Am0.out _ HB1.out).mono ?_
    rintro r w1 ⟨rfl, rfl⟩
    clear Am0
    go_wp2
    refine ret_rhead Tryz.results52 HZ1.out rfl (by rfl) rfl ?_
    refine ⟨?_, HB1.out⟩
    rw [HH.out, HE'.out]
    rfl
  · clear HF HR
    have HE' := Lib.hid (show e = 21 by rw [HE.out]; rfl)
    go_wp2_with fail
    refine (Am0.out _ HB1.out).mono ?_
    rintro r w1 ⟨rfl, rfl⟩
    clear Am0
    go_wp2_with fail
    refine (Am1.out _ HB1.out).mono ?_
    rintro r w1 ⟨rfl, rfl⟩
    clear Am1
    go_wp2
    refine ret_rhead Tryz.results52 HZ1.out rfl (by rfl) rfl ?_
    refine ⟨?_, HB1.out⟩
    rw [HH.out, HE'.out]
    rfl
  · clear HF HR
    have HE' := Lib.hid (show e = 21 by rw [HE.out]; rfl)
    go_wp2_with fail
    refine (Am0.out _ HB1.out).mono ?_
    rintro r w1 ⟨rfl, rfl⟩
    clear Am0
    go_wp2_with fail
    refine (Am1.out _ HB1.out).mono ?_
    rintro r w1 ⟨rfl, rfl⟩
    clear Am1
    go_wp2_with fail
    refine (Am2.out _ HB1.out).mono ?_
    rintro r w1 ⟨rfl, rfl⟩
    clear Am2
    go_wp2
    refine ret_rhead Tryz.results52 HZ1.out rfl (by rfl) rfl ?_
    refine ⟨?_, HB1.out⟩
    rw [HH.out, HE'.out]
    rfl
  · clear HF HR
    have HE' := Lib.hid (show e = 21 by rw [HE.out]; rfl)
    go_wp2_with fail
    refine (Am0.out _ HB1.out).mono ?_
    rintro r w1 ⟨rfl, rfl⟩
    clear Am0
    go_wp2_with fail
    refine (Am1.out _ HB1.out).mono ?_
    rintro r w1 ⟨rfl, rfl⟩
    clear Am1
    go_wp2_with fail
    refine (Am2.out _ HB1.out).mono ?_
    rintro r w1 ⟨rfl, rfl⟩
    clear Am2
    go_wp2_with fail
    refine (Am3.out _ HB1.out).mono ?_
    rintro r w1 ⟨rfl, rfl⟩
    clear Am3
    go_wp2
    refine ret_rhead Tryz.results52 HZ1.out rfl (by rfl) rfl ?_
    refine ⟨?_, HB1.out⟩
    rw [HH.out, HE'.out]
    rfl

/-- The document's Take. -/
theorem rtake_any {w : World} {B : Nat} {A : Option Addr} {l : List UInt8} (hr : Rd w B A l) (hB : B ≤ w.heap.size) (c : Nat) (hc : l.length ≤ c) (hl : l.length ≤ 140737488355328) :
    Calls Tryz.prog 52 #[.slice A l.length c] w (TakeIs (takeH l) (takeE l) w) := by
  by_cases h : 64 ≤ l.length
  · by_cases h7 : l.take 7 = magB
    · exact rtake_head hr hB c hc h hl h7
    · exact rtake_other hr hB c hc h h7
  · exact rtake_short c (by omega)

end Go.Proofs.YtldmjnbmjfnfeaaGreatDoor
