/-
  Package tables: the readers of a table's numbers (Strs$1, Addrs$1).
-/
import Derived.Test.YtpmpgfngogdfhaaDoorTbA
import Derived.Test.YtpmpgfngogdfhaaDoorCurE
import Derived.Test.YtpmpgfngogdfhaaDoorRefC
import Derived.Deep.DeepCutAuto
import Derived.Deep.LoopGhost
namespace Go.Proofs.YtpmpgfngogdfhaaDoor
open Go Go.RowKit

set_option maxRecDepth 10000 in
set_option maxHeartbeats 1600000 in
theorem strs_head {w : World} {g : Nat} {v : Value} {G : List UInt8} {be : Int} (hs : Sz w) (h : Cur w g v G 0 be) (wide : Bool) (hlen : G.length ≤ 140737488355328) :
    Calls Tryd.prog 51 #[.pointer (some ⟨g, 0, none⟩), .bool wide] w fun r w' => r = .returned (.tuple #[.bool (hrTb G be false), .int .i64 (lenO wide)]) ∧ Cur w' g v G (hsTb G be false).1 (hsTb G be false).2 ∧ w.grownBy w' (some g) := by
  have C1 := Lib.hid (u16_cur h hlen)
  have C2 := Lib.hid (fun (W : World) (hC : Cur W g v G (nU G (0, be) 2).1 (nU G (0, be) 2).2) => u16_cur hC hlen)
  have HO := Lib.hid (fun (W : World) (hG : w.grownBy W (some g)) => off_len wide (hs.grown hG (hs.cur h)))
  have HR := Lib.hid (show hrTb G be false = (vU G (0, be) 2 == 5 && vU G (nU G (0, be) 2) 2 == 0) from rfl)
  have HS := Lib.hid (show hsTb G be false = nU G (nU G (0, be) 2) 2 from rfl)
  rw [show leNat (nextGot G 0 be 2) = vU G (0, be) 2 from rfl] at C1
  clear h hlen hs
  generalize hsTb G be false = s at *
  generalize hrTb G be false = q at *
  obtain ⟨x1, hx1⟩ : ∃ n, vU G (0, be) 2 = n := ⟨_, rfl⟩
  obtain ⟨x2, hx2⟩ : ∃ n, vU G (nU G (0, be) 2) 2 = n := ⟨_, rfl⟩
  have H2 := Lib.hid hx2
  rw [hx1] at C1 HR
  rw [hx2] at HR
  clear hx1 hx2
  by_cases h5 : x1 = 5
  · have q1 : ((x1 : Int) == 5) = true := by simp; omega
    have q1' : (x1 == 5) = true := by simpa using h5
    obtain ⟨b, hb⟩ : ∃ b, (x2 == 0) = b := ⟨_, rfl⟩
    have q2 : ((x2 : Int) == 0) = b := by rw [← hb, Bool.eq_iff_iff]; simp
    have HQ := Lib.hid (show q = b by rw [HR.out, q1', hb]; rfl)
    clear h5 hb q1' HR
    go_enter Tryd.func51, Tryd.ntmps51
    go_wp2_with (first
      | (go_at_call 52; refine C1.out.mono ?_; rintro r w1 ⟨rfl, hC, hG⟩; have HC := Lib.hid hC; have HG := Lib.hid hG; clear hC hG C1)
      | (go_at_call 52; refine (C2.out _ HC.out).mono ?_; rintro r w2 ⟨rfl, hC, hG⟩; have HC2 := Lib.hid hC; have HG2 := Lib.hid (only_twice HG.out hG); clear hC hG; rw [show leNat (nextGot G (nU G (0, be) 2).1 (nU G (0, be) 2).2 2) = x2 from H2.out])
      | (go_at_call 53; refine (HO.out _ HG2.out).mono ?_; rintro r w3 ⟨rfl, rfl⟩))
    go_ret2
    exact ⟨by rw [HQ.out]; rfl, by rw [HS.out]; exact HC2.out, HG2.out⟩
  · have q1 : ((x1 : Int) == 5) = false := by simp; omega
    have q1' : (x1 == 5) = false := by simpa using h5
    have HQ := Lib.hid (show q = false by rw [HR.out, q1']; rfl)
    clear h5 q1' HR
    go_enter Tryd.func51, Tryd.ntmps51
    go_wp2_with (first
      | (go_at_call 52; refine C1.out.mono ?_; rintro r w1 ⟨rfl, hC, hG⟩; have HC := Lib.hid hC; have HG := Lib.hid hG; clear hC hG C1)
      | (go_at_call 52; refine (C2.out _ HC.out).mono ?_; rintro r w2 ⟨rfl, hC, hG⟩; have HC2 := Lib.hid hC; have HG2 := Lib.hid (only_twice HG.out hG); clear hC hG)
      | (go_at_call 53; refine (HO.out _ HG2.out).mono ?_; rintro r w3 ⟨rfl, rfl⟩))
    go_ret2
    exact ⟨by rw [HQ.out]; rfl, by rw [HS.out]; exact HC2.out, HG2.out⟩

set_option maxRecDepth 10000 in
set_option maxHeartbeats 1600000 in
theorem addrs_head {w : World} {g : Nat} {v : Value} {G : List UInt8} {be : Int} (h : Cur w g v G 0 be) (wide : Bool) (hlen : G.length ≤ 140737488355328) :
    Calls Tryd.prog 58 #[.pointer (some ⟨g, 0, none⟩), .bool wide] w fun r w' => r = .returned (.tuple #[.bool (hrTb G be true), .int .i64 8]) ∧ Cur w' g v G (hsTb G be true).1 (hsTb G be true).2 ∧ w.grownBy w' (some g) := by
  have C1 := Lib.hid (u16_cur h hlen)
  have C2 := Lib.hid (fun (W : World) (hC : Cur W g v G (nU G (0, be) 2).1 (nU G (0, be) 2).2) => u8_cur hC hlen)
  have C3 := Lib.hid (fun (W : World) (hC : Cur W g v G (nU G (nU G (0, be) 2) 1).1 (nU G (nU G (0, be) 2) 1).2) => u8_cur hC hlen)
  have HR := Lib.hid (show hrTb G be true = (vU G (0, be) 2 == 5 && (vU G (nU G (0, be) 2) 1 == 8 && vU G (nU G (nU G (0, be) 2) 1) 1 == 0)) from rfl)
  have HS := Lib.hid (show hsTb G be true = nU G (nU G (nU G (0, be) 2) 1) 1 from rfl)
  rw [show leNat (nextGot G 0 be 2) = vU G (0, be) 2 from rfl] at C1
  clear h hlen
  generalize hsTb G be true = s at *
  generalize hrTb G be true = q at *
  obtain ⟨x1, hx1⟩ : ∃ n, vU G (0, be) 2 = n := ⟨_, rfl⟩
  obtain ⟨x2, hx2⟩ : ∃ n, vU G (nU G (0, be) 2) 1 = n := ⟨_, rfl⟩
  obtain ⟨x3, hx3⟩ : ∃ n, vU G (nU G (nU G (0, be) 2) 1) 1 = n := ⟨_, rfl⟩
  have H2 := Lib.hid (show leNat (nextGot G (nU G (0, be) 2).1 (nU G (0, be) 2).2 1) = x2 from hx2)
  have H3 := Lib.hid (show leNat (nextGot G (nU G (nU G (0, be) 2) 1).1 (nU G (nU G (0, be) 2) 1).2 1) = x3 from hx3)
  rw [hx1] at C1 HR
  rw [hx2, hx3] at HR
  clear hx1 hx2 hx3
  obtain ⟨b1, hb1⟩ : ∃ b, (x1 == 5) = b := ⟨_, rfl⟩
  obtain ⟨b2, hb2⟩ : ∃ b, (x2 == 8) = b := ⟨_, rfl⟩
  obtain ⟨b3, hb3⟩ : ∃ b, (x3 == 0) = b := ⟨_, rfl⟩
  have q1 : ((x1 : Int) == 5) = b1 := by rw [← hb1, Bool.eq_iff_iff]; simp; omega
  have q2 : ((x2 : Int) == 8) = b2 := by rw [← hb2, Bool.eq_iff_iff]; simp; omega
  have q3 : ((x3 : Int) == 0) = b3 := by rw [← hb3, Bool.eq_iff_iff]; simp
  rw [hb1, hb2, hb3] at HR
  clear hb1 hb2 hb3
  cases b1 <;> cases b2
  all_goals
    go_enter Tryd.func58, Tryd.ntmps58
    go_wp2_with (first
      | (go_at_call 52; refine C1.out.mono ?_; rintro r w1 ⟨rfl, hC, hG⟩; have HC := Lib.hid hC; have HG := Lib.hid hG; clear hC hG C1)
      | (go_at_call 59; refine (C2.out _ HC.out).mono ?_; rintro r w2 ⟨rfl, hC, hG⟩; have HC2 := Lib.hid hC; have HG2 := Lib.hid (only_twice HG.out hG); clear hC hG C2; rw [H2.out])
      | (go_at_call 59; refine (C3.out _ HC2.out).mono ?_; rintro r w3 ⟨rfl, hC, hG⟩; have HC3 := Lib.hid hC; have HG3 := Lib.hid (only_twice HG2.out hG); clear hC hG; rw [H3.out]))
    go_ret2
    exact ⟨by rw [HR.out]; rfl, by rw [HS.out]; exact HC3.out, HG3.out⟩

end Go.Proofs.YtpmpgfngogdfhaaDoor
