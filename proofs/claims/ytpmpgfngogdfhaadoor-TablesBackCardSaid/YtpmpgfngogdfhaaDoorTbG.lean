/-
  Package tables: put, PutStrs, PutAddrs.
-/
import Derived.Test.YtpmpgfngogdfhaaDoorTbQ
import Derived.Test.YtpmpgfngogdfhaaDoorTbF
import Derived.Test.YtpmpgfngogdfhaaDoorLtB
namespace Go.Proofs.YtpmpgfngogdfhaaDoor
open Go Go.RowKit

/-- The bytes so far, the table of sizes. -/
structure PuT (w0 : World) (base : Nat) (W : World) (v : Value) (l : List UInt8) : Prop where
  o : Own W base v l
  z : Sz W
  b : Below base w0 W
section
variable {w0 W W' : World} {base : Nat} {v v' : Value} {l l' : List UInt8}
theorem PuT.laid (h : PuT w0 base W v l) (hz : 0 < base) (hB : base ≤ W.heap.size) (hL : Laid W W' base v v' l') : PuT w0 base W' v' l' :=
  ⟨hL.1, un_sz h.z h.o hz hL.2.1, h.b.grown hL.2.1 hB (fun y hy => (h.o.lt y hy).1)⟩
end
theorem fit_takeT {n : Nat} {l : List Nat} {k x : Nat} (h : fitTb n (l.take k) = true) (hx : l[k]? = some x) (hf : x < 256 ^ n) : fitTb n (l.take (k + 1)) = true := all_takeT _ l k x h hx (decide_eq_true hf)
theorem fit_notT {n : Nat} {l : List Nat} {k x : Nat} (hx : l[k]? = some x) (hf : ¬ x < 256 ^ n) : fitTb n l = false := by
  rw [Bool.eq_false_iff]
  intro h
  exact hf (fit_all h x (List.mem_of_getElem? hx))

def ptE (n : Nat) (l : List Nat) : Int := if fitTb n l = true then 0 else 2
def ptB (h : List UInt8) (n : Nat) (wide : Bool) (l : List Nat) : List UInt8 := if fitTb n l = true then lenB (h ++ putsN n l).length wide ++ (h ++ putsN n l) else []
set_option maxRecDepth 10000 in
set_option maxHeartbeats 3200000 in
theorem put_tb {w : World} {base : Nat} {v : Value} {A : Option Addr} {l : List Nat} {h : List UInt8} {B : Nat} (wide : Bool) (n : Nat) (hn : n = 4 ∨ n = 8) (hs : Sz w) (hz : 0 < base) (ho : Own w base v h) (hbase : base ≤ w.heap.size) (hh : h.length = 4) (hr : Row 1 numC w B A l) (hB : B ≤ base) (c : Nat) (hl : l.length ≤ 100000) (h64 : ∀ x ∈ l, x < two64) :
    Calls Tryd.prog 62 #[.bool wide, v, .slice A l.length c, .int .i64 (n : Int)] w fun r w' => ∃ u, r = .returned (.tuple #[u, .int .i64 (ptE n l)]) ∧ Own w' base u (ptB h n wide l) ∧ Below base w w' := by
  have HPE := Lib.hid (show ptE n l = if fitTb n l = true then 0 else 2 from rfl)
  have HPB := Lib.hid (show ptB h n wide l = if fitTb n l = true then lenB (h ++ putsN n l).length wide ++ (h ++ putsN n l) else [] from rfl)
  generalize ptE n l = PE at *
  generalize ptB h n wide l = PB at *
  have HR := Lib.hid hr
  have HZ := Lib.hid hz
  have HBB := Lib.hid hB
  have H64 := Lib.hid h64
  have HP0 := Lib.hid (show PuT w base w v (h ++ putsN n (l.take 0)) from ⟨by rw [List.take_zero]; show Own w base v (h ++ []); rw [List.append_nil]; exact ho, hs, Below.refl _ _⟩)
  have HBS := Lib.hid hbase
  have HHL := Lib.hid hh
  generalize hN : l.length = N at *
  have HN := Lib.hid hN
  have HN4 := Lib.hid hn
  clear hr hz hB h64 hs ho hbase hh hN
  obtain ⟨A0, c0, hv, -, -, -⟩ := own_slice HP0.out.o
  obtain ⟨n0, hn0⟩ : ∃ n0, (h ++ putsN n (l.take 0)).length = n0 := ⟨_, rfl⟩
  rw [hn0] at hv
  clear hn0
  subst hv
  rcases hn with rfl | rfl
  · go_enter Tryd.func62, Tryd.ntmps62
    go_wp2_with fail
    go_loopg [1, 14] N (fun gk u i wr => ∃ k : Nat, k ≤ N ∧ gk = N - k ∧ i = .int .i64 k ∧ Hid (fitTb 4 (l.take k) = true) ∧ Hid (PuT w base wr u (h ++ putsN 4 (l.take k))))
    case atStart => exact ⟨0, Nat.zero_le _, rfl, rfl, Lib.hid rfl, HP0⟩
    case round =>
      obtain ⟨k, hk, rfl, rfl, HF, HP⟩ := hrel
      clear HP0
      have HBW := Lib.hid (show base ≤ wr.heap.size from Nat.le_trans HBS.out HP.out.b.size)
      by_cases hlt : k < N
      · have HLT := Lib.hid hlt
        obtain ⟨x, hx⟩ : ∃ x, l[k]? = some x := ⟨l[k]'(by rw [HN.out]; exact hlt), List.getElem?_eq_getElem _⟩
        obtain ⟨bb, o, rfl, hbb, cx⟩ := num_atT (HR.out.below (HP.out.b.mono HBB.out)) hx
        have hx64 := H64.out x (List.mem_of_getElem? hx)
        have HPT := Lib.hid (show putsN 4 (l.take (k + 1)) = putsN 4 (l.take k) ++ leBytes x 4 by rw [List.take_add_one, hx]; exact putsN_snoc _ _ _)
        by_cases hf : x < 256 ^ 4
        · have HF2 := Lib.hid (fit_takeT HF.out hx hf)
          have q1 : ((x : Int) / 4294967296 != 0) = false := by
            have : (x : Int) / 4294967296 = 0 := by simp at hf; omega
            rw [this]; rfl
          have HPU := Lib.hid (show Calls Tryd.prog 91 #[u1, .int .u64 (x : Int), .int .i64 4] wr fun r w' => ∃ v', r = .returned v' ∧ PuT w base w' v' (h ++ putsN 4 (l.take (k + 1))) from
            (put_any HP.out.o HBW.out x 4 (by omega) (by rw [List.length_append, putsN_len, List.length_take, HHL.out]; omega)).mono fun r w' ⟨v', e, hL⟩ => ⟨v', e, by
              rw [HPT.out, ← List.append_assoc]
              exact HP.out.laid HZ.out HBW.out hL⟩)
          clear hx hf hx64
          obtain ⟨Au, cu, huu, -, -, -⟩ := own_slice HP.out.o
          generalize (h ++ putsN 4 (l.take k)).length = un at *
          subst huu
          go_wp2_with (go_at_call 91; refine HPU.out.mono ?_; rintro r w2 ⟨v2, rfl, hP⟩; have HP2 := Lib.hid hP; clear hP)
          go_roundg (N - (k + 1))
          case measure => have := HLT.out; omega
          case rel => exact ⟨k + 1, HLT.out, rfl, by go_num, HF2, HP2⟩
        · have HF2 := Lib.hid (fit_notT hx hf)
          have q1 : ((x : Int) / 4294967296 != 0) = true := by
            have : ¬ (x : Int) / 4294967296 = 0 := by simp at hf; omega
            simpa using this
          have HWB := Lib.hid HP.out.b
          clear hx hf hx64
          go_wp2_with fail
          (try rw [Exit.noGoto_ret])
          go_ret2
          exact ⟨_, by rw [HPE.out, HF2.out]; rfl, by rw [HPB.out, HF2.out]; exact World.ownsRow_nil _ _ _ _, HWB.out⟩
      · have hkN : k = N := by omega
        subst hkN
        have hfl : fitTb 4 l = true := by
          have := HF.out
          rwa [List.take_of_length_le (by rw [HN.out]; omega)] at this
        have HPZ := Lib.hid (by
          have := HP.out
          rwa [List.take_of_length_le (by rw [HN.out]; omega)] at this : PuT w base wr u1 (h ++ putsN 4 l))
        obtain ⟨Au, cu, huu, -, -, hru⟩ := own_slice HPZ.out.o
        have HW := Lib.hid (wrap_len HPZ.out.z wide hru (Nat.le_refl _) cu (by rw [List.length_append, putsN_len, HHL.out, HN.out]; omega))
        have HBZ := Lib.hid HPZ.out.b
        rw [hfl, if_pos rfl] at HPE HPB
        generalize h ++ putsN 4 l = body at *
        generalize hbn : body.length = un at *
        subst huu
        clear hru hfl HP HF hbn
        go_wp2_with (go_at_call 92; refine HW.out.mono ?_; rintro r w3 ⟨v3, rfl, ho, hb⟩; have HO3 := Lib.hid (row_base ho HBW.out); have HB3 := Lib.hid (HBZ.out.trans (hb.mono HBW.out)); clear ho hb)
        go_ret2
        exact ⟨_, by rw [HPE.out]; rfl, by rw [HPB.out]; exact HO3.out, HB3.out⟩
  · go_enter Tryd.func62, Tryd.ntmps62
    go_wp2_with fail
    go_loopg [1, 14] N (fun gk u i wr => ∃ k : Nat, k ≤ N ∧ gk = N - k ∧ i = .int .i64 k ∧ Hid (fitTb 8 (l.take k) = true) ∧ Hid (PuT w base wr u (h ++ putsN 8 (l.take k))))
    case atStart => exact ⟨0, Nat.zero_le _, rfl, rfl, Lib.hid rfl, HP0⟩
    case round =>
      obtain ⟨k, hk, rfl, rfl, HF, HP⟩ := hrel
      clear HP0
      have HBW := Lib.hid (show base ≤ wr.heap.size from Nat.le_trans HBS.out HP.out.b.size)
      by_cases hlt : k < N
      · have HLT := Lib.hid hlt
        obtain ⟨x, hx⟩ : ∃ x, l[k]? = some x := ⟨l[k]'(by rw [HN.out]; exact hlt), List.getElem?_eq_getElem _⟩
        obtain ⟨bb, o, rfl, hbb, cx⟩ := num_atT (HR.out.below (HP.out.b.mono HBB.out)) hx
        have hx64 := H64.out x (List.mem_of_getElem? hx)
        have HPT := Lib.hid (show putsN 8 (l.take (k + 1)) = putsN 8 (l.take k) ++ leBytes x 8 by rw [List.take_add_one, hx]; exact putsN_snoc _ _ _)
        by_cases hf : x < 256 ^ 8
        · have HF2 := Lib.hid (fit_takeT HF.out hx hf)
          have q1 : ((x : Int) / 18446744073709551616 != 0) = false := by
            have : (x : Int) / 18446744073709551616 = 0 := by simp at hf; omega
            rw [this]; rfl
          have HPU := Lib.hid (show Calls Tryd.prog 91 #[u1, .int .u64 (x : Int), .int .i64 8] wr fun r w' => ∃ v', r = .returned v' ∧ PuT w base w' v' (h ++ putsN 8 (l.take (k + 1))) from
            (put_any HP.out.o HBW.out x 8 (by omega) (by rw [List.length_append, putsN_len, List.length_take, HHL.out]; omega)).mono fun r w' ⟨v', e, hL⟩ => ⟨v', e, by
              rw [HPT.out, ← List.append_assoc]
              exact HP.out.laid HZ.out HBW.out hL⟩)
          clear hx hf hx64
          obtain ⟨Au, cu, huu, -, -, -⟩ := own_slice HP.out.o
          generalize (h ++ putsN 8 (l.take k)).length = un at *
          subst huu
          go_wp2_with (go_at_call 91; refine HPU.out.mono ?_; rintro r w2 ⟨v2, rfl, hP⟩; have HP2 := Lib.hid hP; clear hP)
          go_roundg (N - (k + 1))
          case measure => have := HLT.out; omega
          case rel => exact ⟨k + 1, HLT.out, rfl, by go_num, HF2, HP2⟩
        · have HF2 := Lib.hid (fit_notT hx hf)
          have q1 : ((x : Int) / 18446744073709551616 != 0) = true := by
            have : ¬ (x : Int) / 18446744073709551616 = 0 := by simp at hf; omega
            simpa using this
          have HWB := Lib.hid HP.out.b
          clear hx hf hx64
          go_wp2_with fail
          (try rw [Exit.noGoto_ret])
          go_ret2
          exact ⟨_, by rw [HPE.out, HF2.out]; rfl, by rw [HPB.out, HF2.out]; exact World.ownsRow_nil _ _ _ _, HWB.out⟩
      · have hkN : k = N := by omega
        subst hkN
        have hfl : fitTb 8 l = true := by
          have := HF.out
          rwa [List.take_of_length_le (by rw [HN.out]; omega)] at this
        have HPZ := Lib.hid (by
          have := HP.out
          rwa [List.take_of_length_le (by rw [HN.out]; omega)] at this : PuT w base wr u1 (h ++ putsN 8 l))
        obtain ⟨Au, cu, huu, -, -, hru⟩ := own_slice HPZ.out.o
        have HW := Lib.hid (wrap_len HPZ.out.z wide hru (Nat.le_refl _) cu (by rw [List.length_append, putsN_len, HHL.out, HN.out]; omega))
        have HBZ := Lib.hid HPZ.out.b
        rw [hfl, if_pos rfl] at HPE HPB
        generalize h ++ putsN 8 l = body at *
        generalize hbn : body.length = un at *
        subst huu
        clear hru hfl HP HF hbn
        go_wp2_with (go_at_call 92; refine HW.out.mono ?_; rintro r w3 ⟨v3, rfl, ho, hb⟩; have HO3 := Lib.hid (row_base ho HBW.out); have HB3 := Lib.hid (HBZ.out.trans (hb.mono HBW.out)); clear ho hb)
        go_ret2
        exact ⟨_, by rw [HPE.out]; rfl, by rw [HPB.out]; exact HO3.out, HB3.out⟩

/-- The bytes ahead of the items, as a row of the call's own. -/
theorem own_litT (w : World) (ad : Bool) : Own (w.alloc (.cells #[.int .u8 5, .int .u8 0, .int .u8 (if ad then 8 else 0), .int .u8 0] 5)) w.heap.size (.slice (some ⟨w.heap.size, 0, none⟩) 4 4) (hdB ad) := by
  refine ⟨by cases ad <;> rfl, .inr ⟨w.heap.size, 4, #[.int .u8 5, .int .u8 0, .int .u8 (if ad then 8 else 0), .int .u8 0], by cases ad <;> rfl, Nat.le_refl _, heap_alloc_new w _, ?_⟩⟩
  cases ad <;> (refine ⟨by decide, by decide, by rfl, by rfl⟩)

set_option maxRecDepth 10000 in
set_option maxHeartbeats 1600000 in
theorem puts_strs {w : World} {A : Option Addr} {l : List Nat} {B : Nat} (wide : Bool) (hs : Sz w) (hr : Row 1 numC w B A l) (hB : B ≤ w.heap.size) (c : Nat) (hl : l.length ≤ 100000) (h64 : ∀ x ∈ l, x < two64) :
    Calls Tryd.prog 33 #[.bool wide, .slice A l.length c] w fun r w' => ∃ u, r = .returned (.tuple #[u, .int .i64 (putTbE false wide l)]) ∧ Own w' w.heap.size u (putTbB false wide l) ∧ Below w.heap.size w w' := by
  have hb1 : Below w.heap.size w (w.alloc (.cells #[.int .u8 5, .int .u8 0, .int .u8 0, .int .u8 0] 5)) := (Below.refl _ _).alloc (Nat.le_refl _) _
  have HB1 := Lib.hid hb1
  have HE := Lib.hid (show putTbE false wide l = ptE (offN wide) l from rfl)
  have HBT := Lib.hid (show putTbB false wide l = ptB (hdB false) (offN wide) wide l from rfl)
  have HP := Lib.hid (put_tb (w := w.alloc (.cells #[.int .u8 5, .int .u8 0, .int .u8 0, .int .u8 0] 5)) (base := w.heap.size) wide (offN wide) (by cases wide <;> simp [offN]) (hs.below hb1 hs.pos) hs.pos (own_litT w false) hb1.size (hdB_len false) (hr.below (hb1.mono hB)) hB c hl h64)
  have HO := Lib.hid (by
    have := off_len wide (hs.below hb1 hs.pos)
    rwa [show lenO wide = (offN wide : Int) by cases wide <;> rfl] at this : Calls Tryd.prog 53 #[.bool wide] (w.alloc (.cells #[.int .u8 5, .int .u8 0, .int .u8 0, .int .u8 0] 5)) fun r w' => r = .returned (.int .i64 (offN wide : Int)) ∧ (w.alloc (.cells #[.int .u8 5, .int .u8 0, .int .u8 0, .int .u8 0] 5)) = w')
  clear hs hr hl h64 hb1
  generalize putTbE false wide l = E at *
  generalize putTbB false wide l = PB at *
  generalize l.length = N at *
  generalize offN wide = n at *
  go_enter Tryd.func33, Tryd.ntmps33
  go_wp2_with (first
    | (go_at_call 53; refine HO.out.mono ?_; rintro r w1 ⟨rfl, rfl⟩; clear HO)
    | (go_at_call 62; refine HP.out.mono ?_; rintro r w2 ⟨u, rfl, ho, hb⟩; have HO2 := Lib.hid ho; have HB2 := Lib.hid (HB1.out.trans hb); clear ho hb))
  go_ret2
  exact ⟨_, by rw [HE.out]; rfl, by rw [HBT.out]; exact HO2.out, HB2.out⟩

set_option maxRecDepth 10000 in
set_option maxHeartbeats 1600000 in
theorem puts_addrs {w : World} {A : Option Addr} {l : List Nat} {B : Nat} (wide : Bool) (hs : Sz w) (hr : Row 1 numC w B A l) (hB : B ≤ w.heap.size) (c : Nat) (hl : l.length ≤ 100000) (h64 : ∀ x ∈ l, x < two64) :
    Calls Tryd.prog 35 #[.bool wide, .slice A l.length c] w fun r w' => ∃ u, r = .returned (.tuple #[u, .int .i64 (putTbE true wide l)]) ∧ Own w' w.heap.size u (putTbB true wide l) ∧ Below w.heap.size w w' := by
  have hb1 : Below w.heap.size w (w.alloc (.cells #[.int .u8 5, .int .u8 0, .int .u8 8, .int .u8 0] 5)) := (Below.refl _ _).alloc (Nat.le_refl _) _
  have HB1 := Lib.hid hb1
  have HE := Lib.hid (show putTbE true wide l = ptE 8 l from rfl)
  have HBT := Lib.hid (show putTbB true wide l = ptB (hdB true) 8 wide l from rfl)
  have HP := Lib.hid (put_tb (w := w.alloc (.cells #[.int .u8 5, .int .u8 0, .int .u8 8, .int .u8 0] 5)) (base := w.heap.size) wide 8 (.inr rfl) (hs.below hb1 hs.pos) hs.pos (own_litT w true) hb1.size (hdB_len true) (hr.below (hb1.mono hB)) hB c hl h64)
  clear hs hr hl h64 hb1
  generalize putTbE true wide l = E at *
  generalize putTbB true wide l = PB at *
  generalize l.length = N at *
  go_enter Tryd.func35, Tryd.ntmps35
  go_wp2_with (go_at_call 62; refine HP.out.mono ?_; rintro r w2 ⟨u, rfl, ho, hb⟩; have HO2 := Lib.hid ho; have HB2 := Lib.hid (HB1.out.trans hb); clear ho hb)
  go_ret2
  exact ⟨_, by rw [HE.out]; rfl, by rw [HBT.out]; exact HO2.out, HB2.out⟩

end Go.Proofs.YtpmpgfngogdfhaaDoor
