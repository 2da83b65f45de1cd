/-
  The document's Put of a table.
-/
import Derived.Test.YtpmpgfngogdfhaaDoorTbG
import Derived.Test.YtpmpgfngogdfhaaDoorPutR
namespace Go.Proofs.YtpmpgfngogdfhaaDoor
open Go Go.RowKit

/-- The bytes so far. -/
structure DpT (w0 : World) (base : Nat) (W : World) (v : Value) (l : List UInt8) : Prop where
  o : Own W base v l
  b : Below base w0 W
section
variable {w0 W W' : World} {base : Nat} {v v' : Value} {l l' : List UInt8}
theorem DpT.below (h : DpT w0 base W v l) (hB : base ≤ W.heap.size) (hb : Below W.heap.size W W') : DpT w0 base W' v l := ⟨own_below h.o hb, h.b.trans (hb.mono hB)⟩
theorem DpT.put (h : DpT w0 base W v l) (hB : base ≤ W.heap.size) (ho : Own W' base v' l') (hG : W.grownBy W' v.ownBlock) : DpT w0 base W' v' l' := ⟨ho, h.b.grown hG hB (fun y hy => (h.o.lt y hy).1)⟩
end

set_option maxRecDepth 10000 in
set_option maxHeartbeats 3200000 in
theorem rput_tb {w : World} {A : Option Addr} {l : List Nat} {B : Nat} (wide ad : Bool) (hr : Row 1 numC w B A l) (hB : B ≤ w.heap.size) (c : Nat) (hl : l.length ≤ 100000) (h64 : ∀ x ∈ l, x < two64) :
    Calls Tryd.prog 34 #[.bool wide, .slice A l.length c, .bool ad] w fun r w' => ∃ u, r = .returned (.tuple #[u, .int .i64 (putTbE ad wide l)]) ∧ Own w' w.heap.size u (putTbB ad wide l) ∧ Below w.heap.size w w' := by
  obtain ⟨i0, hi0, hz0, hz1, hz2⟩ := info_parts u8_info
  have HR := Lib.hid hr
  have HBB := Lib.hid hB
  have H64 := Lib.hid h64
  have HPE := Lib.hid (show putTbE ad wide l = if fitTb (szT ad wide) l = true then 0 else 2 from rfl)
  have HPB := Lib.hid (show putTbB ad wide l = if fitTb (szT ad wide) l = true then lenB (hdB ad ++ putsN (szT ad wide) l).length wide ++ (hdB ad ++ putsN (szT ad wide) l) else [] from rfl)
  have HLB := Lib.hid (show (hdB ad ++ putsN (szT ad wide) l).length ≤ 800004 from bodyTb_le ad wide hl)
  have hn : szT ad wide = 4 ∨ szT ad wide = 8 := by cases ad <;> cases wide <;> simp [szT, offN]
  have HO := Lib.hid (fun W => by
    have := roff_len wide W
    rwa [show lenO wide = (offN wide : Int) by cases wide <;> rfl] at this : ∀ W, Calls Tryd.prog 56 #[.bool wide] W fun r w' => r = .returned (.int .i64 (offN wide : Int)) ∧ W = w')
  have HSF := Lib.hid (show ad = false → offN wide = szT ad wide by rintro rfl; rfl)
  have HST := Lib.hid (show ad = true → (8 : Int) = (szT ad wide : Int) by rintro rfl; rfl)
  have hbt : Below w.heap.size w (w.alloc (.cells #[.int .u8 5, .int .u8 0, .int .u8 8, .int .u8 0] 5)) := (Below.refl _ _).alloc (Nat.le_refl _) _
  have hbf : Below w.heap.size w (w.alloc (.cells #[.int .u8 5, .int .u8 0, .int .u8 0, .int .u8 0] 5)) := (Below.refl _ _).alloc (Nat.le_refl _) _
  have HLT := Lib.hid (show ad = true → DpT w w.heap.size (w.alloc (.cells #[.int .u8 5, .int .u8 0, .int .u8 8, .int .u8 0] 5)) (.slice (some ⟨w.heap.size, 0, none⟩) 4 4) (hdB ad) by rintro rfl; exact ⟨own_litT w true, hbt⟩)
  have HLF := Lib.hid (show ad = false → DpT w w.heap.size (w.alloc (.cells #[.int .u8 5, .int .u8 0, .int .u8 0, .int .u8 0] 5)) (.slice (some ⟨w.heap.size, 0, none⟩) 4 4) (hdB ad) by rintro rfl; exact ⟨own_litT w false, hbf⟩)
  have HHL := Lib.hid (hdB_len ad)
  clear hr hB h64 hbt hbf
  generalize putTbE ad wide l = PE at *
  generalize putTbB ad wide l = PB at *
  generalize hN : l.length = N at *
  have HN := Lib.hid hN
  clear hN
  generalize hdB ad = hd at *
  generalize szT ad wide = n at *
  have hcl : clampOf (n : Int) = n := by rcases hn with rfl | rfl <;> rfl
  have hn64 : -9223372036854775808 ≤ (n : Int) ∧ (n : Int) ≤ 9223372036854775807 := by omega
  have hn8 : n ≤ 8 := by omega
  go_enter Tryd.func34, Tryd.ntmps34
  go_upto_if 16 with (go_at_call 56; refine (HO.out _).mono ?_; rintro r w2 ⟨rfl, rfl⟩)
  go_cut [8, 9] (fun u8 u9 wx => u9 = .int .i64 (n : Int) ∧ Hid (DpT w w.heap.size wx u8 hd))
  case first =>
    cases ad with
    | true =>
      go_wp2_with fail
      go_meet
      exact ⟨by first | rw [← HST.out trivial] | rw [← HST.out rfl], Lib.hid (by first | exact HLT.out trivial | exact HLT.out rfl)⟩
    | false =>
      go_wp2_with fail
      go_meet
      exact ⟨by first | rw [HSF.out trivial] | rw [HSF.out rfl], Lib.hid (by first | exact HLF.out trivial | exact HLF.out rfl)⟩
  case rest =>
  obtain ⟨rfl, HD0⟩ := hcut
  clear HO HSF HST HLT HLF
  obtain ⟨b4, hb4⟩ : ∃ b, decide (n = 4) = b := ⟨_, rfl⟩
  have q4 : ((n : Int) == 4) = b4 := by rw [← hb4, Bool.eq_iff_iff]; simp; omega
  have HB4 := Lib.hid hb4
  clear hb4
  have HD1 := Lib.hid (show DpT w w.heap.size wc u8 (hd ++ putsN n (l.take 0)) by rw [List.take_zero]; show DpT w w.heap.size wc u8 (hd ++ []); rw [List.append_nil]; exact HD0.out)
  clear HD0
  go_upto_region 7 with fail
  go_loopg [8, 10] N (fun gk u i wr => ∃ k : Nat, k ≤ N ∧ gk = N - k ∧ i = .int .i64 k ∧ Hid (fitTb n (l.take k) = true) ∧ Hid (DpT w w.heap.size wr u (hd ++ putsN n (l.take k))))
  case atStart => exact ⟨0, Nat.zero_le _, rfl, rfl, Lib.hid rfl, HD1⟩
  case round =>
    obtain ⟨k, hk, rfl, rfl, HF, HP⟩ := hrel
    clear HD1
    have HBW := Lib.hid (show w.heap.size ≤ wr.heap.size from HP.out.b.size)
    by_cases hlt : k < N
    · have HLT := Lib.hid hlt
      obtain ⟨x, hx⟩ : ∃ x, l[k]? = some x := ⟨l[k]'(by rw [HN.out]; exact hlt), List.getElem?_eq_getElem _⟩
      obtain ⟨bb, o, rfl, hbb, cx⟩ := num_atT (HR.out.below (HP.out.b.mono HBB.out)) hx
      have hx64 := H64.out x (List.mem_of_getElem? hx)
      have HPT := Lib.hid (show putsN n (l.take (k + 1)) = putsN n (l.take k) ++ leBytes x n by rw [List.take_add_one, hx]; exact putsN_snoc _ _ _)
      have HUL := Lib.hid (show (hd ++ putsN n (l.take k)).length + n ≤ 800012 by
        have h1 : k * n ≤ 100000 * 8 := Nat.mul_le_mul (by omega) hn8
        rw [List.length_append, putsN_len, List.length_take, HHL.out, HN.out, Nat.min_eq_left hk]
        omega)
      by_cases hf : x < 256 ^ n
      · have HF2 := Lib.hid (fit_takeT HF.out hx hf)
        have q1 : b4 = true → decide ((4294967295 : Int) < (x : Int)) = false := fun hb => by
          have h4 : n = 4 := by have := HB4.out; rw [hb] at this; simpa using this
          subst h4
          simp at hf ⊢
          omega
        have HPU := Lib.hid (rput_any wr x hx64 (n : Int) hn64)
        rw [hcl] at HPU
        obtain ⟨Au, cu, huu, -, -, -⟩ := own_slice HP.out.o
        have HU := Lib.hid (show Hid (DpT w w.heap.size wr u8 (hd ++ putsN n (l.take k))) from HP)
        generalize hul : (hd ++ putsN n (l.take k)).length = un at *
        have HUN := Lib.hid hul
        have cx' : ∀ W, Below wr.heap.size wr W → W.cell? ⟨bb, o + k, none⟩ = some (.int .u64 (x : Int)) := fun W hW => (hW.cell (p := ⟨bb, o + k, none⟩) (World.block_lt_of_cell? wr _ cx)).trans cx
        clear hx hf hx64 hul HU
        subst huu
        cases b4 with
        | true =>
          have q2 := q1 rfl
          have q3 : decide (4294967295 < x) = false := by simp at q2 ⊢; omega
          clear q1
          go_wp2_with (first
            | (go_at_call 63; refine HPU.out.mono ?_; rintro r w4 ⟨v4, rfl, ho, hb⟩; have HD4 := Lib.hid (HP.out.below HBW.out hb); (obtain ⟨A4, c4, hv4, -, -, hr4⟩ := own_slice ho); rw [leBytes_length] at hv4; subst hv4; have HR4 := Lib.hid hr4; have HS4 := Lib.hid (Nat.le_trans HBW.out hb.size); clear ho hb hr4)
            | (at_builtin; refine wpList_append_bytes (by rfl) (.tmp 34) (.tmp 40) _ (by rfl) w.heap.size i0 Tryd.underlying65 hi0 hz0 hz1 hz2 (.slice Au un cu) (hd ++ putsN n (l.take k)) (by rfl) HD4.out.o w4.heap.size A4 n c4 (leBytes x n) (leBytes_length _ _) (by rfl) HR4.out (by have := HUL.out; have := HUN.out; rw [leBytes_length]; omega) HS4.out ?_; intro v5 w5 hown hg hat; have HD5 := Lib.hid (show DpT w w.heap.size w5 v5 (hd ++ putsN n (l.take (k + 1))) from HD4.out.put HS4.out (by rw [HPT.out, ← List.append_assoc]; exact hown) hg); clear hown hg hat))
          go_roundg (N - (k + 1))
          case measure => have := HLT.out; omega
          case rel => exact ⟨k + 1, HLT.out, rfl, by go_num, HF2, HD5⟩
        | false =>
          clear q1
          go_wp2_with (first
            | (go_at_call 63; refine HPU.out.mono ?_; rintro r w4 ⟨v4, rfl, ho, hb⟩; have HD4 := Lib.hid (HP.out.below HBW.out hb); (obtain ⟨A4, c4, hv4, -, -, hr4⟩ := own_slice ho); rw [leBytes_length] at hv4; subst hv4; have HR4 := Lib.hid hr4; have HS4 := Lib.hid (Nat.le_trans HBW.out hb.size); clear ho hb hr4)
            | (at_builtin; refine wpList_append_bytes (by rfl) (.tmp 34) (.tmp 40) _ (by rfl) w.heap.size i0 Tryd.underlying65 hi0 hz0 hz1 hz2 (.slice Au un cu) (hd ++ putsN n (l.take k)) (by rfl) HD4.out.o w4.heap.size A4 n c4 (leBytes x n) (leBytes_length _ _) (by rfl) HR4.out (by have := HUL.out; have := HUN.out; rw [leBytes_length]; omega) HS4.out ?_; intro v5 w5 hown hg hat; have HD5 := Lib.hid (show DpT w w.heap.size w5 v5 (hd ++ putsN n (l.take (k + 1))) from HD4.out.put HS4.out (by rw [HPT.out, ← List.append_assoc]; exact hown) hg); clear hown hg hat))
          go_roundg (N - (k + 1))
          case measure => have := HLT.out; omega
          case rel => exact ⟨k + 1, HLT.out, rfl, by go_num, HF2, HD5⟩
      · have HF2 := Lib.hid (fit_notT hx hf)
        have h4 : n = 4 := by
          rcases hn with h | h
          · exact h
          · rw [h] at hf; exact absurd hx64 (by simpa [two64] using hf)
        have hb : b4 = true := by rw [← HB4.out, h4]; rfl
        have q2 : decide ((4294967295 : Int) < (x : Int)) = true := by rw [h4] at hf; simp at hf ⊢; omega
        have q3 : decide (4294967295 < x) = true := by simp at q2 ⊢; omega
        have HWB := Lib.hid HP.out.b
        rw [HF2.out, if_neg (by decide)] at HPE HPB
        clear hx hf hx64 h4
        subst hb
        go_wp2_with fail
        (try rw [Exit.noGoto_ret])
        go_ret2
        exact ⟨_, by rw [HPE.out]; rfl, by rw [HPB.out]; exact World.ownsRow_nil _ _ _ _, HWB.out⟩
    · have hkN : k = N := by omega
      subst hkN
      have hfl : fitTb n l = true := by
        have := HF.out
        rwa [List.take_of_length_le (by rw [HN.out]; omega)] at this
      have HPZ := Lib.hid (by
        have := HP.out
        rwa [List.take_of_length_le (by rw [HN.out]; omega)] at this : DpT w w.heap.size wr u8 (hd ++ putsN n l))
      rw [hfl, if_pos rfl] at HPE HPB
      obtain ⟨Au, cu, huu, -, -, hru⟩ := own_slice HPZ.out.o
      have HRU := Lib.hid hru
      generalize hd ++ putsN n l = body at *
      obtain ⟨un, hun⟩ : ∃ un, body.length = un := ⟨_, rfl⟩
      have HNN := Lib.hid hun
      rw [hun] at huu HPB
      have hul : un ≤ 800004 := by rw [← hun]; exact HLB.out
      have s3 : IntKind.u64.wrap (un : Int) = (un : Int) := by rw [IntWalk.u64_in _ (by omega)]
      have HLE := Lib.hid (fun W => (by
        have := rput_len W un (by unfold two64; omega) wide
        rw [lenE_small un wide (by omega)] at this
        exact this : Calls Tryd.prog 64 #[.int .u64 (un : Int), .bool wide] W fun r w' => ∃ v', r = .returned (.tuple #[v', .int .i64 0]) ∧ Own w' W.heap.size v' (lenB un wide) ∧ Below W.heap.size W w'))
      have HL12 := Lib.hid (lenB_le un wide)
      generalize lenB un wide = lb at *
      subst huu
      clear hru hfl HP HF hun q4
      go_upto_region 13 with (go_at_call 64; refine (HLE.out _).mono ?_; rintro r w12 ⟨v12, rfl, ho, hb⟩; have HO12 := Lib.hid ho; have HB12 := Lib.hid hb; clear ho hb)
      have HR12 := Lib.hid (HRU.out.below HB12.out)
      have HB13 := Lib.hid (HPZ.out.b.trans (HB12.out.mono HBW.out))
      have HOB := Lib.hid (row_base HO12.out HBW.out)
      go_wp2_with (at_builtin; refine wpList_append_bytes (by rfl) (.tmp 50) (.tmp 51) _ (by rfl) w.heap.size i0 Tryd.underlying65 hi0 hz0 hz1 hz2 v12 lb (by rfl) HOB.out wr.heap.size Au un cu body HNN.out (by rfl) HR12.out (by have := HL12.out; have := HNN.out; omega) HB13.out.size ?_; intro v14 w14 hown hg hat; have HO14 := Lib.hid hown; have HB14 := Lib.hid (HB13.out.grown hg HB13.out.size (fun y hy => (HOB.out.lt y hy).1)); clear hown hg hat)
      go_ret2
      exact ⟨_, by rw [HPE.out]; rfl, by rw [HPB.out]; exact HO14.out, HB14.out⟩

end Go.Proofs.YtpmpgfngogdfhaaDoor
