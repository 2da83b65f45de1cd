/-
  Package length: Take and Body over a cursor, and over none.
-/
import Derived.Test.YtpmpgfngogdfhaaDoorLtA
import Derived.Test.YtpmpgfngogdfhaaDoorCurN
namespace Go.Proofs.YtpmpgfngogdfhaaDoor
open Go Go.RowKit

/-- What Take makes of the cursor's bytes: the length, its form, where the cursor stands then, and the refusal. -/
def tkN (l : List UInt8) (a : Nat) (e : Int) : Nat :=
  if leNat (nextGot l a e 4) < 4294967280 then leNat (nextGot l a e 4) else if leNat (nextGot l a e 4) = 4294967295 then leNat (nextGot l (nextAt l a e 4) (nextErr l a e 4) 8) else 0
def tkW (l : List UInt8) (a : Nat) (e : Int) : Bool :=
  if leNat (nextGot l a e 4) < 4294967280 then false else if leNat (nextGot l a e 4) = 4294967295 then nextErr l (nextAt l a e 4) (nextErr l a e 4) 8 == 0 else false
def tkA (l : List UInt8) (a : Nat) (e : Int) : Nat :=
  if leNat (nextGot l a e 4) < 4294967280 then nextAt l a e 4 else if leNat (nextGot l a e 4) = 4294967295 then nextAt l (nextAt l a e 4) (nextErr l a e 4) 8 else nextAt l a e 4
def tkE (l : List UInt8) (a : Nat) (e : Int) : Int :=
  if leNat (nextGot l a e 4) < 4294967280 then nextErr l a e 4 else if leNat (nextGot l a e 4) = 4294967295 then nextErr l (nextAt l a e 4) (nextErr l a e 4) 8 else failOf (nextErr l a e 4) 13

/-- The three ways, as one fact each. -/
theorem tk_low {l : List UInt8} {a : Nat} {e : Int} (h : leNat (nextGot l a e 4) < 4294967280) : tkN l a e = leNat (nextGot l a e 4) ∧ tkW l a e = false ∧ tkA l a e = nextAt l a e 4 ∧ tkE l a e = nextErr l a e 4 := by
  exact ⟨if_pos h, if_pos h, if_pos h, if_pos h⟩
theorem tk_mid {l : List UInt8} {a : Nat} {e : Int} (h : ¬ leNat (nextGot l a e 4) < 4294967280) (h2 : ¬ leNat (nextGot l a e 4) = 4294967295) : tkN l a e = 0 ∧ tkW l a e = false ∧ tkA l a e = nextAt l a e 4 ∧ tkE l a e = failOf (nextErr l a e 4) 13 := by
  exact ⟨(if_neg h).trans (if_neg h2), (if_neg h).trans (if_neg h2), (if_neg h).trans (if_neg h2), (if_neg h).trans (if_neg h2)⟩
theorem tk_wide {l : List UInt8} {a : Nat} {e : Int} (h2 : leNat (nextGot l a e 4) = 4294967295) : tkN l a e = leNat (nextGot l (nextAt l a e 4) (nextErr l a e 4) 8) ∧ tkW l a e = (nextErr l (nextAt l a e 4) (nextErr l a e 4) 8 == 0) ∧ tkA l a e = nextAt l (nextAt l a e 4) (nextErr l a e 4) 8 ∧ tkE l a e = nextErr l (nextAt l a e 4) (nextErr l a e 4) 8 := by
  have h : ¬ leNat (nextGot l a e 4) < 4294967280 := by rw [h2]; omega
  exact ⟨(if_neg h).trans (if_pos h2), (if_neg h).trans (if_pos h2), (if_neg h).trans (if_pos h2), (if_neg h).trans (if_pos h2)⟩

/-- Uint of 4 and of 8 bytes. -/
theorem uint_4 {w : World} {g : Nat} {v : Value} {l : List UInt8} {a : Nat} {e : Int} (h : Cur w g v l a e) (hlen : l.length ≤ 140737488355328) :
    Calls Tryd.prog 38 #[.pointer (some ⟨g, 0, none⟩), .int .i64 4] w fun r w' => r = .returned (.int .u64 (leNat (nextGot l a e 4) : Int)) ∧ Cur w' g v l (nextAt l a e 4) (nextErr l a e 4) ∧ w.grownBy w' (some g) :=
  uint_cur h 4 (by omega) hlen
theorem uint_8 {w : World} {g : Nat} {v : Value} {l : List UInt8} {a : Nat} {e : Int} (h : Cur w g v l a e) (hlen : l.length ≤ 140737488355328) :
    Calls Tryd.prog 38 #[.pointer (some ⟨g, 0, none⟩), .int .i64 8] w fun r w' => r = .returned (.int .u64 (leNat (nextGot l a e 8) : Int)) ∧ Cur w' g v l (nextAt l a e 8) (nextErr l a e 8) ∧ w.grownBy w' (some g) :=
  uint_cur h 8 (by omega) hlen

theorem only_twice {a b c : World} {r : Option Nat} (h : a.grownBy b r) (k : b.grownBy c r) : a.grownBy c r := only_trans h k (.inl rfl)

set_option maxRecDepth 10000 in
theorem take_len {w : World} {g : Nat} {v : Value} {l : List UInt8} {a : Nat} {e : Int} (hs : Sz w) (h : Cur w g v l a e) (hlen : l.length ≤ 140737488355328) :
    Calls Tryd.prog 114 #[.pointer (some ⟨g, 0, none⟩)] w fun r w' => r = .returned (.tuple #[.int .u64 (tkN l a e : Int), .bool (tkW l a e)]) ∧ Cur w' g v l (tkA l a e) (tkE l a e) ∧ w.grownBy w' (some g) := by
  have hU := fun W (hW : W = w) => uint_4 (w := W) (hW ▸ h) hlen
  have HG0 := Lib.hid (hs.cur h)
  have h0 := hs.1
  have HS := Lib.hid (fun (W : World) (hG : w.grownBy W (some g)) => hs.grown hG (hs.cur h))
  by_cases hlow : leNat (nextGot l a e 4) < 4294967280
  · have H := Lib.hid (tk_low hlow)
    have hd : decide (((leNat (nextGot l a e 4) : Nat) : Int) < 4294967280) = true := by simp; omega
    clear hlow h hlen hs
    generalize leNat (nextGot l a e 4) = n at *
    go_enter Tryd.func114, Tryd.ntmps114
    go_wp2_with (go_at_call 38; refine (hU _ rfl).mono ?_; rintro r w1 ⟨rfl, hC, hG⟩; clear hU; have HC := Lib.hid hC; have HG := Lib.hid hG; clear hC hG)
    go_ret2
    exact ⟨by rw [H.out.1, H.out.2.1]; rfl, by rw [H.out.2.2.1, H.out.2.2.2]; exact HC.out, HG.out⟩
  · by_cases hw : leNat (nextGot l a e 4) = 4294967295
    · have H := Lib.hid (tk_wide hw)
      rw [hw] at hU
      have hV := Lib.hid (fun (W : World) (hK : Cur W g v l (nextAt l a e 4) (nextErr l a e 4)) => uint_8 hK hlen)
      have hE := Lib.hid (fun (W : World) (hK : Cur W g v l (nextAt l (nextAt l a e 4) (nextErr l a e 4) 8) (nextErr l (nextAt l a e 4) (nextErr l a e 4) 8)) => err_cur hK)
      clear hlow hw h hlen hs
      go_enter Tryd.func114, Tryd.ntmps114
      go_wp2_with (go_at_call 38; refine (hU _ rfl).mono ?_; rintro r w1 ⟨rfl, hC, hG⟩; clear hU h0; have h1 := (HS.out _ hG).2; have HC := Lib.hid hC; have HG := Lib.hid hG; clear hC hG)
      go_wp2_with (go_at_call 38; refine (hV.out _ HC.out).mono ?_; rintro r w2 ⟨rfl, hC, hG⟩; clear hV; have HC2 := Lib.hid hC; have HG2 := Lib.hid (only_twice HG.out hG); clear hC hG h1)
      go_wp2_with (go_at_call 66; refine (hE.out _ HC2.out).mono ?_; rintro r w3 ⟨rfl, rfl⟩)
      go_ret2
      exact ⟨by rw [H.out.1, H.out.2.1]; rfl, by rw [H.out.2.2.1, H.out.2.2.2]; exact HC2.out, HG2.out⟩
    · have H := Lib.hid (tk_mid hlow hw)
      have hd : decide (((leNat (nextGot l a e 4) : Nat) : Int) < 4294967280) = false := by simp; omega
      have hq : (((leNat (nextGot l a e 4) : Nat) : Int) != 4294967295) = true := by simp; omega
      have hF := Lib.hid (fun (W : World) (hK : Cur W g v l (nextAt l a e 4) (nextErr l a e 4)) => fail_cur hK 13)
      clear hlow hw h hlen hs
      generalize leNat (nextGot l a e 4) = n at *
      go_enter Tryd.func114, Tryd.ntmps114
      go_wp2_with (go_at_call 38; refine (hU _ rfl).mono ?_; rintro r w1 ⟨rfl, hC, hG⟩; clear hU; have HC := Lib.hid hC; have HG := Lib.hid hG; clear hC hG)
      go_wp2_with (go_at_call 68; refine (hF.out _ HC.out).mono ?_; rintro r w2 ⟨rfl, hC, hG⟩; clear hF; have HC2 := Lib.hid hC; have HG2 := Lib.hid (only_twice HG.out hG); clear hC hG)
      go_ret2
      exact ⟨by rw [H.out.1, H.out.2.1]; rfl, by rw [H.out.2.2.1, H.out.2.2.2]; exact HC2.out, HG2.out⟩

/-- What Body makes of it: the part's bytes, its refusal, where the cursor stands then, the form. -/
def bdG (l : List UInt8) (a : Nat) (e : Int) : List UInt8 := nextGot l (tkA l a e) (tkE l a e) (tkN l a e)
def bdE (l : List UInt8) (a : Nat) (e : Int) : Int := nextErr l (tkA l a e) (tkE l a e) (tkN l a e)
def bdA (l : List UInt8) (a : Nat) (e : Int) : Nat := nextAt l (tkA l a e) (tkE l a e) (tkN l a e)
def bdW (l : List UInt8) (a : Nat) (e : Int) : Bool := tkW l a e && bdE l a e == 0

theorem body_len {w : World} {g : Nat} {v : Value} {l : List UInt8} {a : Nat} {e : Int} (hs : Sz w) (h : Cur w g v l a e) (hlen : l.length ≤ 140737488355328) :
    Calls Tryd.prog 100 #[.pointer (some ⟨g, 0, none⟩)] w fun r w' =>
      ∃ g2 v2, r = .returned (.tuple #[.pointer (some ⟨g2, 0, none⟩), .bool (bdW l a e)]) ∧ Made w.heap.size w' g2 v2 (bdG l a e) (bdE l a e) ∧ Cur w' g v l (bdA l a e) (bdE l a e) ∧ w.grownBy w' (some g) := by
  have hT := fun W (hW : W = w) => take_len (w := W) (hW ▸ hs) (hW ▸ h) hlen
  have hS := Lib.hid (fun (W : World) (hK : Cur W g v l (tkA l a e) (tkE l a e)) => show Calls Tryd.prog 115 #[.pointer (some ⟨g, 0, none⟩), .int .u64 (tkN l a e : Int)] W fun r w' =>
      ∃ g2 v2, r = .returned (.pointer (some ⟨g2, 0, none⟩)) ∧ Made W.heap.size w' g2 v2 (bdG l a e) (bdE l a e) ∧ Cur w' g v l (bdA l a e) (bdE l a e) ∧ W.grownBy w' (some g) from sub_cur hK (tkN l a e) hlen)
  have HW := Lib.hid (show bdW l a e = (tkW l a e && bdE l a e == 0) from rfl)
  clear h hs hlen
  generalize bdW l a e = bw at *
  generalize tkW l a e = tw at *
  generalize tkN l a e = n at *
  generalize bdE l a e = be at *
  cases tw
  all_goals
    go_enter Tryd.func100, Tryd.ntmps100
    go_wp2_with (first
      | (go_at_call 114; refine (hT _ rfl).mono ?_; rintro r w1 ⟨rfl, hC, hG⟩; clear hT; have HC := Lib.hid hC; have HG := Lib.hid hG; clear hC hG)
      | (go_at_call 115; refine (hS.out _ HC.out).mono ?_; rintro r w2 ⟨g2, v2, rfl, hM, hC, hG⟩; clear hS; have HM := Lib.hid (made_up HG.out.size hM); have HC2 := Lib.hid hC; have HG2 := Lib.hid (only_twice HG.out hG); clear hM hC hG)
      | (go_at_call 66; refine (err_cur HM.out.1).mono ?_; rintro r w3 ⟨rfl, rfl⟩))
    go_ret2
    exact ⟨_, _, by rw [HW.out]; rfl, HM.out, HC2.out, HG2.out⟩

end Go.Proofs.YtpmpgfngogdfhaaDoor
