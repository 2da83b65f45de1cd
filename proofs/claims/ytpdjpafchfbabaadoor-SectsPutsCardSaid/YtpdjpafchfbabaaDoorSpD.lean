/-
  SectsPuts.
-/

import Derived.Test.YtpdjpafchfbabaaDoorSpC
import Derived.Test.YtpdjpafchfbabaaDoorSeBe
namespace Go.Proofs.YtpdjpafchfbabaaDoor
open Go Go.RowKit

theorem rsput_any (kind machine : Int) {w : World} {a : Option Addr} {L : List Lay} (h : Secs w w.heap.size a L) (c : Nat) (hlc : L.length ≤ c) (hl : L.length ≤ 100000) :
    Calls Tryd.prog 12 #[.int .i64 kind, .int .i64 machine, .slice a L.length c] w fun r w' => ∃ v, r = .returned (.tuple #[v, .int .i64 (putE kind machine (secsOf L))]) ∧ Own w' w.heap.size v (putR kind machine (secsOf L)) ∧ Below w.heap.size w w' := by
  cases hmay : mayPut kind machine (secsOf L) with
  | false =>
    refine (rsput_no kind machine h c hlc hl hmay).mono fun r w' hh => ⟨.slice none 0 0, ?_, ?_, hh.2⟩
    · rw [hh.1]; simp [putE, hmay]
    · have : putR kind machine (secsOf L) = [] := by simp [putR, hmay]
      rw [this]
      exact World.ownsRow_nil _ _ _ _
  | true =>
    refine (rsput_yes kind machine h c hlc hl hmay).mono fun r w' hh => ?_
    obtain ⟨v, h1, h2, h3⟩ := hh
    refine ⟨v, ?_, ?_, h3⟩
    · rw [h1]; simp [putE, hmay]
    · have : putR kind machine (secsOf L) = fileB kind machine (secsOf L) := by simp [putR, hmay]
      rw [this]
      exact h2

set_option maxRecDepth 10000 in
set_option maxHeartbeats 6400000 in
theorem sputs_walk (kind machine : Int) (a : Option Addr) (c : Nat) (L : List Lay) (nm : ByteArray) (w : World) (hS : SecsIn w w.heap.size a L) (hlc : L.length ≤ c) (hM : Mg w) :
    Calls Tryd.prog 4 #[.int .i64 kind, .int .i64 machine, .slice a L.length c, .string nm] w fun e w' => e = .returned (.bool true) ∧ Below w.heap.size w w' := by
  obtain ⟨t, ht⟩ : ∃ t : List UInt8, (⟨t.toArray⟩ : ByteArray) = nm := ⟨nm.data.toList, by simp⟩
  have HNM := Lib.hid ht
  have hMp := hM.pos
  have HW := Lib.hid (fun W (hW : Below w.heap.size w W) => sworks_any (hM.below hW hMp))
  have HM := Lib.hid hM
  have HS := Lib.hid hS
  have HBK := Lib.hid (bulk_any hS c)
  obtain ⟨n, hn⟩ : ∃ n, L.length = n := ⟨_, rfl⟩
  have HNL := Lib.hid hn
  rw [hn] at hlc HBK ⊢
  clear hM hS hn ht
  go_enter Tryd.func4, Tryd.ntmps4
  go_wp2_with fail
  refine HBK.out.mono ?_
  rintro r w2 ⟨k, rfl, hk, q, rfl⟩
  have HB2 := Lib.hid (below_drewN (Below.refl w.heap.size w) q)
  clear HBK
  by_cases hbig : 8000 < k
  · have hd : decide ((8000 : Int) < k) = true := decide_eq_true hbig
    clear hk hbig
    go_wp2_with fail
    refine (HW.out _ HB2.out).mono ?_
    rintro r w3 ⟨rfl, hb3⟩
    have HB3 := Lib.hid (HB2.out.trans (hb3.mono HB2.out.size))
    clear hb3
    go_wp2_with fail
    go_ret
    exact ⟨rfl, HB3.out⟩
  · have hd : decide ((8000 : Int) < k) = false := decide_eq_false hbig
    obtain ⟨hn8, hall⟩ := hk (by omega)
    have HSW := Lib.hid (fun W (hW : Below w.heap.size w W) => ((((HS.out.below hW).secs hall).more hW.size) : Secs W W.heap.size a L))
    have HPU := Lib.hid (fun W (hW : Below w.heap.size w W) => sput_any kind machine (HSW.out W hW) (HM.out.below hW hMp) c (by rw [HNL.out]; exact hlc) (by rw [HNL.out]; omega))
    have HRP := Lib.hid (fun W (hW : Below w.heap.size w W) => rsput_any kind machine (HSW.out W hW) c (by rw [HNL.out]; exact hlc) (by rw [HNL.out]; omega))
    have HRT := Lib.hid (fun W (hW : Below w.heap.size w W) => sright_any (HSW.out W hW) c (by rw [HNL.out]; exact hlc) (by rw [HNL.out]; omega))
    have HRR := Lib.hid (fun W (hW : Below w.heap.size w W) => srright_any (HSW.out W hW) c (by rw [HNL.out]; exact hlc) (by rw [HNL.out]; omega))
    have HFI := Lib.hid (fun W (hW : Below w.heap.size w W) => find_any (HSW.out W hW) c (by rw [HNL.out]; omega) t)
    have HRF := Lib.hid (fun W (hW : Below w.heap.size w W) => rfind_any (HSW.out W hW) c (by rw [HNL.out]; omega) t)
    rw [HNL.out] at HPU HRP HRT HRR HFI HRF
    rw [HNM.out] at HFI HRF
    clear hk hbig hall HSW HS
    generalize putE kind machine (secsOf L) = pe at *
    generalize putR kind machine (secsOf L) = pr at *
    generalize rightS (secsOf L) = rs at *
    generalize findS (secsOf L) t = fs at *
    go_wp2_with fail
    refine (HPU.out _ HB2.out).mono ?_
    rintro r w3 ⟨v3, rfl, ho3, hb3⟩
    obtain ⟨A3, c3, rfl, _, _, _⟩ := own_slice ho3
    have HO3 := Lib.hid ho3
    have HB3 := Lib.hid (HB2.out.trans (hb3.mono HB2.out.size))
    clear ho3 hb3 HPU
    go_wp2_with fail
    refine (HRP.out _ HB3.out).mono ?_
    rintro r w4 ⟨v4, rfl, ho4, hb4⟩
    obtain ⟨A4, c4, rfl, _, _, _⟩ := own_slice ho4
    have HO4 := Lib.hid ho4
    have HO34 := Lib.hid (own_below HO3.out hb4)
    have HB4 := Lib.hid (HB3.out.trans (hb4.mono HB3.out.size))
    clear ho4 hb4 HRP HO3
    go_wp2_with fail
    refine (HRT.out _ HB4.out).mono ?_
    rintro r w5 ⟨rfl, hb5⟩
    have HO5 := Lib.hid (own_below HO4.out hb5)
    have HO35 := Lib.hid (own_below HO34.out hb5)
    have HB5 := Lib.hid (HB4.out.trans (hb5.mono HB4.out.size))
    clear hb5 HO4 HO34 HRT
    go_wp2_with fail
    refine (HRR.out _ HB5.out).mono ?_
    rintro r w6 ⟨rfl, hb6⟩
    have hc6 := conv_own (own_below HO5.out hb6)
    have hc36 := conv_own (own_below HO35.out hb6)
    have HB6 := Lib.hid (HB5.out.trans (hb6.mono HB5.out.size))
    clear hb6 HO5 HO35 HRR
    generalize ByteArray.mk pr.toArray = sb at *
    have hq : (sb.toList == sb.toList) = true := by simp
    have hq2 : (rs == rs) = true := by simp
    have hq3 : (pe == pe) = true := by simp
    have hq4 : (fs == fs) = true := by simp
    go_wp2_with fail
    refine (HFI.out _ HB6.out).mono ?_
    rintro r w7 ⟨rfl, hb7⟩
    have HB7 := Lib.hid (HB6.out.trans (hb7.mono HB6.out.size))
    clear hb7 HFI hc6 hc36
    go_wp2_with fail
    refine (HRF.out _ HB7.out).mono ?_
    rintro r w8 ⟨rfl, rfl⟩
    clear HRF
    go_wp2_with fail
    refine (HW.out _ HB7.out).mono ?_
    rintro r w9 ⟨rfl, hb9⟩
    have HB9 := Lib.hid (HB7.out.trans (hb9.mono HB7.out.size))
    clear hb9 HW
    go_wp2_with fail
    go_ret
    exact ⟨rfl, HB9.out⟩

theorem sputs_card (kind machine : Int) (a : Option Addr) (c : Nat) (L : List Lay) (nm : ByteArray) (w : World) (hM : Mg w) (_ : (Lit.int .i64 kind).wf = true) (_ : (Lit.int .i64 machine).wf = true) (hS : SecsIn w w.heap.size a L) (hlc : L.length ≤ c) :
    Calls Tryd.prog 4 #[.int .i64 kind, .int .i64 machine, .slice a L.length c, .string nm] w fun e w' => e = .returned (.bool true) ∧ Below w.heap.size w w' := sputs_walk kind machine a c L nm w hS hlc hM

end Go.Proofs.YtpdjpafchfbabaaDoor
