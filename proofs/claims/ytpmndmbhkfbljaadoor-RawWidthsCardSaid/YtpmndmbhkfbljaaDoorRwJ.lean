/-
  Package raw: fits, Right.
-/
import Derived.Test.YtpmndmbhkfbljaaDoorAbD
import Derived.Test.YtpmndmbhkfbljaaDoorSeR
import Derived.Test.YtpmndmbhkfbljaaDoorRefU
import Derived.Test.YtpmndmbhkfbljaaDoorRwA
import Derived.Test.YtpmndmbhkfbljaaDoorCsL
import Derived.Test.YtpmndmbhkfbljaaDoorSyA
import Derived.Deep.DeepCutAuto
import Derived.Deep.LoopGhost
import Derived.Test.YtpmndmbhkfbljaaDoorPoO
import Derived.Test.YtpmndmbhkfbljaaDoorCsP
namespace Go.Proofs.YtpmndmbhkfbljaaDoor
open Go Go.RowKit Go.Maps

theorem tU_lt (l : List UInt8) (s : CSt) : tU l s < two64 := by
  unfold tU uOf
  split
  · unfold readU
    split
    · show (0 : Nat) < _; unfold two64; omega
    · split
      · split
        · rename_i h; exact h
        · show (0 : Nat) < _; unfold two64; omega
      · show (0 : Nat) < _; unfold two64; omega
  · show (0 : Nat) < _; unfold two64; omega

section
variable {w : World} {g : Nat} {v : Value} {l : List UInt8}
theorem u_st {s : CSt} (h : Cur w g v l s.1 s.2) (hlen : l.length ≤ 140737488355328) :
    Calls Tryd.prog 49 #[.pointer (some ⟨g, 0, none⟩)] w fun x w' => x = .returned (.int .u64 (tU l s : Int)) ∧ Cur w' g v l (sU l s).1 (sU l s).2 ∧ w.grownBy w' (some g) := u_cur h hlen
theorem s_st {s : CSt} (h : Cur w g v l s.1 s.2) (hlen : l.length ≤ 140737488355328) :
    Calls Tryd.prog 51 #[.pointer (some ⟨g, 0, none⟩)] w fun x w' => x = .returned (.int .i64 (tS l s)) ∧ Cur w' g v l (sS l s).1 (sS l s).2 ∧ w.grownBy w' (some g) := s_cur h hlen
theorem f_st {s : CSt} (h : Cur w g v l s.1 s.2) (f : Int) :
    Calls Tryd.prog 24 #[.pointer (some ⟨g, 0, none⟩), .int .i64 f] w fun x w' => x = .returned (.tuple #[]) ∧ Cur w' g v l (sF s f).1 (sF s f).2 ∧ w.grownBy w' (some g) := fail_cur h f

end

end Go.Proofs.YtpmndmbhkfbljaaDoor

namespace Go.Proofs.YtpmndmbhkfbljaaDoor
open Go Go.RowKit

/-- A value as its form has it. -/
structure RV where
  form : Int
  u : Nat
  s : Int
  b : List UInt8
  t : List UInt8
def zeroV : RV := ⟨0, 0, 0, [], []⟩
/-- A number of so many bytes, of U for -1. -/
def tN (l : List UInt8) (z : Int) (s : CSt) : Nat := if z = -1 then tU l s else leNat (nextGot l s.1 s.2 (clampOf z))
def sN (l : List UInt8) (z : Int) (s : CSt) : CSt := if z = -1 then sU l s else (nextAt l s.1 s.2 (clampOf z), nextErr l s.1 s.2 (clampOf z))
def numW (l : List UInt8) (f : Int) (wide : Bool) (s : CSt) : Nat × CSt := if f = 25 then (1, s) else (tN l (widF f wide) s, sN l (widF f wide) s)
def sgnW (l : List UInt8) (f imp : Int) (s : CSt) : Int × CSt := if f = 33 then (imp, s) else (tS l s, sS l s)
/-- How many bytes, and where they begin. -/
def lenW (l : List UInt8) (f : Int) (wide : Bool) (s : CSt) : Nat × CSt := if f = 30 then (16, s) else numW l f wide s
def capW (n : Nat) (s : CSt) : CSt := if 65536 < n then sF s 3 else s
def gotW (l : List UInt8) (n : Nat) (s : CSt) : List UInt8 × CSt := (nextGot l s.1 s.2 n, (nextAt l s.1 s.2 n, nextErr l s.1 s.2 n))
def blkW (l : List UInt8) (f : Int) (wide : Bool) (s : CSt) : List UInt8 × CSt := gotW l (lenW l f wide s).1 (capW (lenW l f wide s).1 (lenW l f wide s).2)
def txtW (l : List UInt8) (s : CSt) : List UInt8 × CSt := ((takeT (l.drop s.1) s.2).1, (s.1 + (takeT (l.drop s.1) s.2).2.1, (takeT (l.drop s.1) s.2).2.2))
theorem tN_lt (l : List UInt8) (z : Int) (s : CSt) : tN l z s < two64 := by
  unfold tN
  split
  · exact tU_lt l s
  · refine leNat_64 _ ?_
    have h8 := clampOf_le z
    unfold nextGot
    split
    · simp; omega
    · simp
theorem numW_lt (l : List UInt8) (f : Int) (wide : Bool) (s : CSt) : (numW l f wide s).1 < two64 := by
  unfold numW
  split
  · show 1 < two64; unfold two64; omega
  · exact tN_lt _ _ _
theorem widF_in (n : Nat) (hn : n < 45) (wide : Bool) : -9223372036854775808 ≤ widF (n : Int) wide ∧ widF (n : Int) wide ≤ 9223372036854775807 := by
  have h : ∀ m : Fin 45, ∀ b : Bool, -9223372036854775808 ≤ widF ((m : Nat) : Int) b ∧ widF ((m : Nat) : Int) b ≤ 9223372036854775807 := by decide
  exact h ⟨n, hn⟩ wide

/-- A reader, as a value. -/
abbrev rdV (g : Nat) (at_ f imp : Int) (wide : Bool) : Value := .agg #[.pointer (some ⟨g, 0, none⟩), .int .i64 at_, .int .i64 f, .int .i64 imp, .bool wide]
/-- What is asked of the memory: a cursor, and the two tables. -/
structure CT (w : World) (g : Nat) (v : Value) (l : List UInt8) (s : CSt) : Prop where
  c : Cur w g v l s.1 s.2
  f : Ft w
  z : Sz w
section
variable {w w' : World} {g : Nat} {v : Value} {l : List UInt8} {s s' : CSt}
theorem Ft.cur {a : Nat} {e : Int} (h : Ft w) (hC : Cur w g v l a e) : some g ≠ some 0 := by
  rintro hg
  injection hg with hg
  subst hg
  obtain ⟨A, c, rfl, _⟩ := own_slice hC.2.1
  have h0 := hC.1.cell 0
  rw [(h 0 (0, 0) rfl).1] at h0
  simp at h0
theorem CT.below (h : CT w g v l s) (hb : Below w.heap.size w w') : CT w' g v l s := ⟨h.c.below hb, h.f.up hb, h.z.below hb h.z.pos⟩
theorem CT.step (h : CT w g v l s) (hC : Cur w' g v l s'.1 s'.2) (hG : w.grownBy w' (some g)) : CT w' g v l s' := ⟨hC, h.f.grown hG (h.f.cur h.c), h.z.grown hG (h.z.cur h.c)⟩
end

set_option maxRecDepth 10000 in
set_option maxHeartbeats 1600000 in
theorem number_st {w : World} {g : Nat} {v : Value} {l : List UInt8} {s : CSt} (h : CT w g v l s) (hlen : l.length ≤ 140737488355328) {n : Nat} (hn : n < 45) (at_ imp : Int) (wide : Bool) :
    Calls Tryd.prog 26 #[rdV g at_ (n : Int) imp wide] w fun r w' => r = .returned (.int .u64 ((numW l (n : Int) wide s).1 : Int)) ∧ CT w' g v l (numW l (n : Int) wide s).2 ∧ w.grownBy w' (some g) := by
  have HW := Lib.hid (fun W (hW : CT W g v l s) => width_any hW.f hW.z hn wide)
  have HU := Lib.hid (fun W (hW : CT W g v l s) => u_st (s := s) hW.c hlen)
  have HN := Lib.hid (fun W (hW : CT W g v l s) => uint_cur hW.c (widF (n : Int) wide) (widF_in n hn wide) hlen)
  have HE := Lib.hid (show numW l (n : Int) wide s = if (n : Int) = 25 then (1, s) else if widF (n : Int) wide = -1 then (tU l s, sU l s) else (leNat (nextGot l s.1 s.2 (clampOf (widF (n : Int) wide))), (nextAt l s.1 s.2 (clampOf (widF (n : Int) wide)), nextErr l s.1 s.2 (clampOf (widF (n : Int) wide)))) by
    unfold numW tN sN
    split
    · rfl
    · split <;> rfl)
  have hA := (Below.refl w.heap.size w).alloc (Nat.le_refl _) (.cells #[.pointer (some ⟨g, 0, none⟩), .int .i64 at_, .int .i64 (n : Int), .int .i64 imp, .bool wide] 56)
  have HA := Lib.hid hA
  have HC := Lib.hid (h.below hA)
  generalize numW l (n : Int) wide s = R at *
  generalize widF (n : Int) wide = z at *
  clear hA h
  go_enter Tryd.func26, Tryd.ntmps26
  go_upto_region 2 with (go_at_call 37; refine (HW.out _ HC.out).mono ?_; rintro r w1 ⟨rfl, rfl⟩)
  by_cases h25 : (n : Int) = 25
  · have q : ((n : Int) == 25) = true := by simpa using h25
    rw [if_pos h25] at HE
    clear h25
    go_wp2_with fail
    go_ret
    exact ⟨by rw [HE.out]; rfl, by rw [HE.out]; exact HC.out, only_below HA.out _⟩
  · have q : ((n : Int) == 25) = false := by simpa using h25
    rw [if_neg h25] at HE
    clear h25
    by_cases hz : z = -1
    · have q2 : (z == (-1 : Int)) = true := by simpa using hz
      rw [if_pos hz] at HE
      clear hz
      go_wp2_with (go_at_call 49; refine (HU.out _ HC.out).mono ?_; rintro r w2 ⟨rfl, hC2, hG2⟩; have HC2 := Lib.hid (HC.out.step hC2 hG2); have HG2 := Lib.hid hG2; clear hC2 hG2)
      go_ret
      exact ⟨by rw [HE.out]; rfl, by rw [HE.out]; exact HC2.out, (only_below HA.out _).trans HG2.out⟩
    · have q2 : (z == (-1 : Int)) = false := by simpa using hz
      rw [if_neg hz] at HE
      clear hz
      go_wp2_with (go_at_call 50; refine (HN.out _ HC.out).mono ?_; rintro r w2 ⟨rfl, hC2, hG2⟩; have HC2 := Lib.hid (HC.out.step (s' := (_, _)) hC2 hG2); have HG2 := Lib.hid hG2; clear hC2 hG2)
      go_ret
      exact ⟨by rw [HE.out]; rfl, by rw [HE.out]; exact HC2.out, (only_below HA.out _).trans HG2.out⟩

set_option maxRecDepth 10000 in
set_option maxHeartbeats 1600000 in
theorem signed_st {w : World} {g : Nat} {v : Value} {l : List UInt8} {s : CSt} (h : CT w g v l s) (hlen : l.length ≤ 140737488355328) (at_ f imp : Int) (wide : Bool) :
    Calls Tryd.prog 27 #[rdV g at_ f imp wide] w fun r w' => r = .returned (.int .i64 (sgnW l f imp s).1) ∧ CT w' g v l (sgnW l f imp s).2 ∧ w.grownBy w' (some g) := by
  have HU := Lib.hid (fun W (hW : CT W g v l s) => s_st (s := s) hW.c hlen)
  have HE := Lib.hid (show sgnW l f imp s = if f = 33 then (imp, s) else (tS l s, sS l s) from rfl)
  have hA := (Below.refl w.heap.size w).alloc (Nat.le_refl _) (.cells #[.pointer (some ⟨g, 0, none⟩), .int .i64 at_, .int .i64 f, .int .i64 imp, .bool wide] 56)
  have HA := Lib.hid hA
  have HC := Lib.hid (h.below hA)
  generalize sgnW l f imp s = R at *
  clear hA h
  by_cases h33 : f = 33
  · have q : (f == 33) = true := by simpa using h33
    rw [if_pos h33] at HE
    clear h33
    go_enter Tryd.func27, Tryd.ntmps27
    go_wp2_with fail
    go_ret
    exact ⟨by rw [HE.out]; rfl, by rw [HE.out]; exact HC.out, only_below HA.out _⟩
  · have q : (f == 33) = false := by simpa using h33
    rw [if_neg h33] at HE
    clear h33
    go_enter Tryd.func27, Tryd.ntmps27
    go_wp2_with (go_at_call 51; refine (HU.out _ HC.out).mono ?_; rintro r w2 ⟨rfl, hC2, hG2⟩; have HC2 := Lib.hid (HC.out.step hC2 hG2); have HG2 := Lib.hid hG2; clear hC2 hG2)
    go_ret
    exact ⟨by rw [HE.out]; rfl, by rw [HE.out]; exact HC2.out, (only_below HA.out _).trans HG2.out⟩

set_option maxRecDepth 10000 in
set_option maxHeartbeats 1600000 in
theorem text_st {w : World} {g : Nat} {v : Value} {l : List UInt8} {s : CSt} (h : CT w g v l s) (hlen : l.length ≤ 140737488355328) (at_ f imp : Int) (wide : Bool) :
    Calls Tryd.prog 29 #[rdV g at_ f imp wide] w fun r w' => r = .returned (.string ⟨(txtW l s).1.toArray⟩) ∧ CT w' g v l (txtW l s).2 ∧ w.grownBy w' (some g) := by
  have HU := Lib.hid (fun W (hW : CT W g v l s) => take_cur hW.c hlen)
  have hA := (Below.refl w.heap.size w).alloc (Nat.le_refl _) (.cells #[.pointer (some ⟨g, 0, none⟩), .int .i64 at_, .int .i64 f, .int .i64 imp, .bool wide] 56)
  have HA := Lib.hid hA
  have HC := Lib.hid (h.below hA)
  have HE := Lib.hid (show txtW l s = ((takeT (l.drop s.1) s.2).1, (s.1 + (takeT (l.drop s.1) s.2).2.1, (takeT (l.drop s.1) s.2).2.2)) from rfl)
  generalize takeT (l.drop s.1) s.2 = T at *
  generalize txtW l s = R at *
  clear hA h
  go_enter Tryd.func29, Tryd.ntmps29
  go_wp2_with (go_at_call 53; refine (HU.out _ HC.out).mono ?_; rintro r w2 ⟨rfl, hC2, hG2⟩; have HC2 := Lib.hid (HC.out.step (s' := (_, _)) hC2 hG2); have HG2 := Lib.hid hG2; clear hC2 hG2)
  go_ret
  exact ⟨by rw [HE.out]; rfl, by rw [HE.out]; exact HC2.out, (only_below HA.out _).trans HG2.out⟩

set_option maxRecDepth 10000 in
set_option maxHeartbeats 1600000 in
theorem block_st {w : World} {g : Nat} {v : Value} {l : List UInt8} {s : CSt} (h : CT w g v l s) (hlen : l.length ≤ 140737488355328) {n : Nat} (hn : n < 45) (at_ imp : Int) (wide : Bool) :
    Calls Tryd.prog 28 #[rdV g at_ (n : Int) imp wide] w fun r w' => ∃ u, r = .returned u ∧ Own w' w.heap.size u (blkW l (n : Int) wide s).1 ∧ CT w' g v l (blkW l (n : Int) wide s).2 ∧ w.grownBy w' (some g) := by
  have hA := (Below.refl w.heap.size w).alloc (Nat.le_refl _) (.cells #[.pointer (some ⟨g, 0, none⟩), .int .i64 at_, .int .i64 (n : Int), .int .i64 imp, .bool wide] 56)
  have HA := Lib.hid hA
  have HC := Lib.hid (h.below hA)
  have HGW := Lib.hid (show g < w.heap.size from h.c.1.lt)
  have HX := Lib.hid (Box.new w 56 #[.pointer (some ⟨g, 0, none⟩), .int .i64 at_, .int .i64 (n : Int), .int .i64 imp, .bool wide])
  have HNM := Lib.hid (fun W (hW : CT W g v l s) => number_st hW hlen hn at_ imp wide)
  have HEL := Lib.hid (show lenW l (n : Int) wide s = if (n : Int) = 30 then (16, s) else numW l (n : Int) wide s from rfl)
  have HLT := Lib.hid (show (lenW l (n : Int) wide s).1 < two64 by
    unfold lenW
    split
    · show 16 < two64; unfold two64; omega
    · exact numW_lt _ _ _ _)
  have HEB := Lib.hid (show blkW l (n : Int) wide s = gotW l (lenW l (n : Int) wide s).1 (capW (lenW l (n : Int) wide s).1 (lenW l (n : Int) wide s).2) from rfl)
  generalize blkW l (n : Int) wide s = R at *
  generalize numW l (n : Int) wide s = N at *
  obtain ⟨M, s1, hM⟩ : ∃ M s1, lenW l (n : Int) wide s = (M, s1) := ⟨_, _, rfl⟩
  rw [hM] at HEL HLT HEB
  have HF := Lib.hid (fun W (hW : CT W g v l s1) => f_st (s := s1) hW.c 3)
  have HBY := Lib.hid (fun W s2 (hW : CT W g v l s2) => bytes_cur hW.c M hlen)
  simp only at HLT HEB
  clear hA h hM
  by_cases h30 : (n : Int) = 30
  · have q : ((n : Int) != 30) = false := by simpa using h30
    have hel := HEL.out
    rw [if_pos h30] at hel
    obtain ⟨rfl, rfl⟩ := Prod.mk.inj hel
    have HB16 := Lib.hid (fun W (hW : CT W g v l s1) => (HBY.out W s1 hW : Calls Tryd.prog 52 #[.pointer (some ⟨g, 0, none⟩), .int .u64 16] W fun r w' =>
      ∃ u, r = .returned u ∧ Own w' W.heap.size u (nextGot l s1.1 s1.2 16) ∧ Cur w' g v l (nextAt l s1.1 s1.2 16) (nextErr l s1.1 s1.2 16) ∧ W.grownBy w' (some g)))
    have HEC := Lib.hid (show R = (nextGot l s1.1 s1.2 16, (nextAt l s1.1 s1.2 16, nextErr l s1.1 s1.2 16)) from HEB.out)
    clear h30 hel HEL HBY HEB HNM HF
    go_enter Tryd.func28, Tryd.ntmps28
    go_wp2_with (go_at_call 52; refine (HB16.out _ HC.out).mono ?_; rintro r w2 ⟨u, rfl, hO2, hC2, hG2⟩; have HO2 := Lib.hid hO2; have HC2 := Lib.hid (HC.out.step (s' := (_, _)) hC2 hG2); have HG2 := Lib.hid hG2; clear hO2 hC2 hG2)
    go_ret
    exact ⟨_, rfl, by rw [HEC.out]; exact own_base HO2.out HA.out.size, by rw [HEC.out]; exact HC2.out, (only_below HA.out _).trans HG2.out⟩
  have q : ((n : Int) != 30) = true := by simpa using h30
  have hel := HEL.out
  rw [if_neg h30] at hel
  subst hel
  simp only at HNM
  clear h30 HEL
  go_enter Tryd.func28, Tryd.ntmps28
  go_upto_region 4 with (go_at_call 26; refine (HNM.out _ HC.out).mono ?_; rintro r w2 ⟨rfl, hC2, hG2⟩; have HC2 := Lib.hid hC2; have HG2 := Lib.hid hG2; have HX2 := Lib.hid (HX.out.grown hG2 (by have := HGW.out; simp; omega)); clear hC2 hG2)
  have HG02 := Lib.hid ((only_below HA.out (some g)).trans HG2.out)
  have p0 := HX2.out.cell 0
  simp at p0
  by_cases hbig : 65536 < M
  · have d : decide ((65536 : Int) < (M : Int)) = true := by simp; omega
    have HEC := Lib.hid (show R = gotW l M (sF s1 3) by rw [HEB.out]; unfold capW; rw [if_pos hbig])
    clear hbig HEB
    go_upto_region 6 with (go_at_call 24; refine (HF.out _ HC2.out).mono ?_; rintro r w3 ⟨rfl, hC3, hG3⟩; have HC3 := Lib.hid (HC2.out.step hC3 hG3); have HG3 := Lib.hid hG3; have HX3 := Lib.hid (HX2.out.grown hG3 (by have := HGW.out; simp; omega)); clear hC3 hG3)
    clear p0
    have p0 := HX3.out.cell 0
    simp at p0
    go_wp2_with (go_at_call 52; refine (HBY.out _ _ HC3.out).mono ?_; rintro r w4 ⟨u, rfl, hO4, hC4, hG4⟩; have HO4 := Lib.hid hO4; have HC4 := Lib.hid (HC3.out.step (s' := (_, _)) hC4 hG4); have HG4 := Lib.hid hG4; clear hO4 hC4 hG4)
    go_ret
    exact ⟨_, rfl, by rw [HEC.out]; exact own_base HO4.out (HG02.out.trans HG3.out).size, by rw [HEC.out]; exact HC4.out, (HG02.out.trans HG3.out).trans HG4.out⟩
  · have d : decide ((65536 : Int) < (M : Int)) = false := by simp; omega
    have HEC := Lib.hid (show R = gotW l M s1 by rw [HEB.out]; unfold capW; rw [if_neg hbig])
    clear hbig HEB
    go_wp2_with (go_at_call 52; refine (HBY.out _ _ HC2.out).mono ?_; rintro r w4 ⟨u, rfl, hO4, hC4, hG4⟩; have HO4 := Lib.hid hO4; have HC4 := Lib.hid (HC2.out.step (s' := (_, _)) hC4 hG4); have HG4 := Lib.hid hG4; clear hO4 hC4 hG4)
    go_ret
    exact ⟨_, rfl, by rw [HEC.out]; exact own_base HO4.out HG02.out.size, by rw [HEC.out]; exact HC4.out, HG02.out.trans HG4.out⟩

/-! ### The form ahead -/
def aheadW (l : List UInt8) (s : CSt) : Nat := if 45 ≤ tU l s ∨ tU l s = 33 then 0 else tU l s
set_option maxRecDepth 10000 in
set_option maxHeartbeats 1600000 in
theorem ahead_st {w : World} {g : Nat} {v : Value} {l : List UInt8} {s : CSt} (h : CT w g v l s) (hlen : l.length ≤ 140737488355328) :
    Calls Tryd.prog 23 #[.pointer (some ⟨g, 0, none⟩)] w fun r w' => r = .returned (.int .i64 (aheadW l s : Int)) ∧ CT w' g v l (sU l s) ∧ w.grownBy w' (some g) := by
  have HU := Lib.hid (u_st (s := s) h.c hlen)
  have HE := Lib.hid (show aheadW l s = if 45 ≤ tU l s ∨ tU l s = 33 then 0 else tU l s from rfl)
  have HC := Lib.hid h
  generalize aheadW l s = R at *
  generalize tU l s = n at *
  generalize sU l s = s1 at *
  clear h
  by_cases h45 : 45 ≤ n
  · have d : decide ((45 : Int) ≤ (n : Int)) = true := by simp; omega
    have HR := Lib.hid (show R = 0 by rw [HE.out, if_pos (.inl h45)])
    clear h45 HE
    go_enter Tryd.func23, Tryd.ntmps23
    go_wp2_with (go_at_call 49; refine HU.out.mono ?_; rintro r w2 ⟨rfl, hC2, hG2⟩; have HC2 := Lib.hid (HC.out.step hC2 hG2); have HG2 := Lib.hid hG2; clear hC2 hG2)
    go_ret
    exact ⟨by rw [HR.out]; rfl, HC2.out, HG2.out⟩
  have d : decide ((45 : Int) ≤ (n : Int)) = false := by simp; omega
  by_cases h33 : n = 33
  · have d2 : ((n : Int) == 33) = true := by simp; omega
    have HR := Lib.hid (show R = 0 by rw [HE.out, if_pos (.inr h33)])
    clear h45 h33 HE
    go_enter Tryd.func23, Tryd.ntmps23
    go_wp2_with (go_at_call 49; refine HU.out.mono ?_; rintro r w2 ⟨rfl, hC2, hG2⟩; have HC2 := Lib.hid (HC.out.step hC2 hG2); have HG2 := Lib.hid hG2; clear hC2 hG2)
    go_ret
    exact ⟨by rw [HR.out]; rfl, HC2.out, HG2.out⟩
  · have d2 : ((n : Int) == 33) = false := by simp; omega
    have HR := Lib.hid (show R = n by rw [HE.out, if_neg (by omega)])
    have hwn : IntKind.i64.wrap (n : Int) = (n : Int) := IntWalk.i64_in _ (by omega)
    clear h45 h33 HE
    go_enter Tryd.func23, Tryd.ntmps23
    go_wp2_with (go_at_call 49; refine HU.out.mono ?_; rintro r w2 ⟨rfl, hC2, hG2⟩; have HC2 := Lib.hid (HC.out.step hC2 hG2); have HG2 := Lib.hid hG2; clear hC2 hG2)
    go_ret
    exact ⟨by rw [HR.out]; rfl, HC2.out, HG2.out⟩

end Go.Proofs.YtpmndmbhkfbljaaDoor

namespace Go.Proofs.YtpmndmbhkfbljaaDoor
open Go Go.RowKit

/-- What is read of a form that has a kind. -/
def readW (l : List UInt8) (f imp : Int) (wide : Bool) (s : CSt) : RV × CSt :=
  if kindF f = 5 then (⟨f, 0, 0, [], (txtW l s).1⟩, (txtW l s).2)
  else if kindF f = 9 ∨ kindF f = 10 then (⟨f, 0, 0, (blkW l f wide s).1, []⟩, (blkW l f wide s).2)
  else if kindF f = 3 then (⟨f, 0, (sgnW l f imp s).1, [], []⟩, (sgnW l f imp s).2)
  else (⟨f, (numW l f wide s).1, 0, [], []⟩, (numW l f wide s).2)
/-- A value in memory: with where its bytes are. -/
structure WLay where
  x : RV
  a : Option Addr
  c : Nat
def WLay.cells (y : WLay) : List Value := [.int .i64 y.x.form, .int .u64 (y.x.u : Int), .int .i64 y.x.s, .slice y.a y.x.b.length y.c, .string ⟨y.x.t.toArray⟩]
def WLay.val (y : WLay) : Value := .agg y.cells.toArray
/-- A value that was told, its bytes of the call's own. -/
def RawIs (B : Nat) (w' : World) (x : RV) (r : Ending) : Prop := ∃ A c, r = .returned (.agg #[.int .i64 x.form, .int .u64 (x.u : Int), .int .i64 x.s, .slice A x.b.length c, .string ⟨x.t.toArray⟩]) ∧ Own w' B (.slice A x.b.length c) x.b

section
variable {W : World} {H : Nat} {T : TypeId}
theorem five_cellsR {c0 c1 c2 c3 c4 : Value} (h : Box W H T #[c0, c1, c2, c3, c4]) : W.cell? ⟨H, 0, none⟩ = some c0 ∧ W.cell? ⟨H, 1, none⟩ = some c1 ∧ W.cell? ⟨H, 2, none⟩ = some c2 ∧ W.cell? ⟨H, 3, none⟩ = some c3 ∧ W.cell? ⟨H, 4, none⟩ = some c4 := by
  refine ⟨?_, ?_, ?_, ?_, ?_⟩ <;> (rw [h.cell]; rfl)
theorem five_freeR {cs : Array Value} (h : Box W H T cs) : W.frozen? ⟨H, 0, none⟩ = false ∧ W.frozen? ⟨H, 1, none⟩ = false ∧ W.frozen? ⟨H, 2, none⟩ = false ∧ W.frozen? ⟨H, 3, none⟩ = false ∧ W.frozen? ⟨H, 4, none⟩ = false :=
  ⟨h.free 0, h.free 1, h.free 2, h.free 3, h.free 4⟩
theorem five_boxR {cs : Array Value} (h : Box W H T cs) (hs : cs.size = 5) (v0 v1 v2 v3 v4 : Value) :
    Box (((((W.setCell ⟨H, 0, none⟩ v0).setCell ⟨H, 1, none⟩ v1).setCell ⟨H, 2, none⟩ v2).setCell ⟨H, 3, none⟩ v3).setCell ⟨H, 4, none⟩ v4) H T #[v0, v1, v2, v3, v4] := by
  obtain ⟨l⟩ := cs
  match l, hs with
  | [c0, c1, c2, c3, c4], _ => simpa using ((((h.set 0 v0).set 1 v1).set 2 v2).set 3 v3).set 4 v4
theorem five_onlyR (W : World) (H : Nat) (v0 v1 v2 v3 v4 : Value) :
    W.grownBy (((((W.setCell ⟨H, 0, none⟩ v0).setCell ⟨H, 1, none⟩ v1).setCell ⟨H, 2, none⟩ v2).setCell ⟨H, 3, none⟩ v3).setCell ⟨H, 4, none⟩ v4) (some H) :=
  only_set (only_set (only_set (only_set (only_set (only_refl W (some H)) 0 v0) 1 v1) 2 v2) 3 v3) 4 v4
end

/-! ### A cursor, the tables, a value that is made, and the result's cell -/
section
variable {W W' : World} {H B : Nat} {T : TypeId} {g : Nat} {v : Value} {l : List UInt8} {s : CSt} {cs : Array Value}
theorem CT.past (h : CT W g v l s) (hX : Box W H T cs) (hT : 5 ≠ T) (hb : W.grownBy W' (some H)) (hg : g < H) (hf : 0 < H) (hz : 1 < H) : CT W' g v l s :=
  ⟨h.c.grown hb (fun e => by injection e with e; have := hg; omega) (.inr (own_other h.c.2.1 hX hT)), h.f.grown hb (fun e => by injection e with e; have := hf; omega), h.z.grown hb (fun e => by injection e with e; have := hz; omega)⟩
theorem own_pastR {b : Value} {bl : List UInt8} (h : Own W B b bl) (hX : Box W H T cs) (hT : 5 ≠ T) (hb : W.grownBy W' (some H)) : Own W' B b bl :=
  World.ownsRow.kept h hb (.inr (own_other h hX hT))
end
theorem own_nilR (w : World) (B : Nat) : Own w B (.slice none 0 0) [] := World.ownsRow_nil _ _ _ _
/-- Where things are: the cursor's block and the tables ahead of the two structs' blocks. -/
structure Apt (w : World) (g H0 H1 : Nat) : Prop where
  g : g < w.heap.size
  f : 0 < w.heap.size
  z : 1 < w.heap.size
  h0 : w.heap.size ≤ H0
  h1 : w.heap.size ≤ H1
  ne : H0 ≠ H1
structure VSt (w wx : World) (g : Nat) (v : Value) (l : List UInt8) (s : CSt) (H0 H1 : Nat) (cs : Array Value) (b : Value) (bl : List UInt8) : Prop where
  ct : CT wx g v l s
  x : Box wx H1 33 cs
  r : Box wx H0 33 #[.int .i64 0, .int .u64 0, .int .i64 0, .slice none 0 0, .string ⟨#[]⟩]
  row : Own wx w.heap.size b bl
  gr : w.grownBy wx (some g)
section
variable {w wx wy : World} {g : Nat} {v : Value} {l : List UInt8} {s s' : CSt} {H0 H1 : Nat} {cs : Array Value} {b b' : Value} {bl bl' : List UInt8}
theorem VSt.call (h : VSt w wx g v l s H0 H1 cs b bl) (ha : Apt w g H0 H1) (hC : CT wy g v l s') (hG : wx.grownBy wy (some g)) (hO : Own wy w.heap.size b' bl') : VSt w wy g v l s' H0 H1 cs b' bl' :=
  ⟨hC, h.x.grown hG (fun e => by injection e with e; have := ha.g; have := ha.h1; omega), h.r.grown hG (fun e => by injection e with e; have := ha.g; have := ha.h0; omega), hO, h.gr.trans hG⟩
theorem VSt.set (h : VSt w wx g v l s H0 H1 cs b bl) (ha : Apt w g H0 H1) (i : Nat) (u : Value) : VSt w (wx.setCell ⟨H1, i, none⟩ u) g v l s H0 H1 (cs.setIfInBounds i u) b bl := by
  have G : wx.grownBy (wx.setCell ⟨H1, i, none⟩ u) (some H1) := only_set (only_refl wx (some H1)) i u
  exact ⟨h.ct.past h.x (by decide) G (by have := ha.g; have := ha.h1; omega) (by have := ha.f; have := ha.h1; omega) (by have := ha.z; have := ha.h1; omega), h.x.set i u,
    h.r.grown G (fun e => by injection e with e; exact ha.ne e), own_pastR h.row h.x (by decide) G, only_trans h.gr G (.inr fun x hx => by injection hx with hx; have := ha.h1; omega)⟩
/-- The result's cell written. -/
theorem VSt.told (h : VSt w wx g v l s H0 H1 cs b bl) (ha : Apt w g H0 H1) (v0 v1 v2 v3 v4 : Value) :
    Box (((((wx.setCell ⟨H0, 0, none⟩ v0).setCell ⟨H0, 1, none⟩ v1).setCell ⟨H0, 2, none⟩ v2).setCell ⟨H0, 3, none⟩ v3).setCell ⟨H0, 4, none⟩ v4) H0 33 #[v0, v1, v2, v3, v4] ∧
    CT (((((wx.setCell ⟨H0, 0, none⟩ v0).setCell ⟨H0, 1, none⟩ v1).setCell ⟨H0, 2, none⟩ v2).setCell ⟨H0, 3, none⟩ v3).setCell ⟨H0, 4, none⟩ v4) g v l s ∧
    Own (((((wx.setCell ⟨H0, 0, none⟩ v0).setCell ⟨H0, 1, none⟩ v1).setCell ⟨H0, 2, none⟩ v2).setCell ⟨H0, 3, none⟩ v3).setCell ⟨H0, 4, none⟩ v4) w.heap.size b bl ∧
    w.grownBy (((((wx.setCell ⟨H0, 0, none⟩ v0).setCell ⟨H0, 1, none⟩ v1).setCell ⟨H0, 2, none⟩ v2).setCell ⟨H0, 3, none⟩ v3).setCell ⟨H0, 4, none⟩ v4) (some g) := by
  have G := five_onlyR wx H0 v0 v1 v2 v3 v4
  exact ⟨five_boxR h.r rfl _ _ _ _ _, h.ct.past h.r (by decide) G (by have := ha.g; have := ha.h0; omega) (by have := ha.f; have := ha.h0; omega) (by have := ha.z; have := ha.h0; omega), own_pastR h.row h.r (by decide) G, only_trans h.gr G (.inr fun x hx => by injection hx with hx; have := ha.h0; omega)⟩
theorem VSt.cells {c0 c1 c2 c3 c4 : Value} (h : VSt w wx g v l s H0 H1 #[c0, c1, c2, c3, c4] b bl) : wx.cell? ⟨H1, 0, none⟩ = some c0 ∧ wx.cell? ⟨H1, 1, none⟩ = some c1 ∧ wx.cell? ⟨H1, 2, none⟩ = some c2 ∧ wx.cell? ⟨H1, 3, none⟩ = some c3 ∧ wx.cell? ⟨H1, 4, none⟩ = some c4 := five_cellsR h.x
end

set_option maxRecDepth 10000 in
set_option maxHeartbeats 3200000 in
theorem value_st {w : World} {g : Nat} {v : Value} {l : List UInt8} {s : CSt} (h : CT w g v l s) (hlen : l.length ≤ 140737488355328) {n : Nat} (hn : n < 45) (at_ imp : Int) (wide : Bool) :
    Calls Tryd.prog 25 #[.int .i64 (n : Int), .func (.func 26) #[rdV g at_ (n : Int) imp wide] #[], .func (.func 27) #[rdV g at_ (n : Int) imp wide] #[], .func (.func 28) #[rdV g at_ (n : Int) imp wide] #[], .func (.func 29) #[rdV g at_ (n : Int) imp wide] #[]] w fun r w' =>
      RawIs w.heap.size w' (readW l (n : Int) imp wide s).1 r ∧ CT w' g v l (readW l (n : Int) imp wide s).2 ∧ w.grownBy w' (some g) := by
  have HGW := Lib.hid (show g < w.heap.size from h.c.1.lt)
  have HK := Lib.hid (fun W (hW : CT W g v l s) => kind_any hW.f (n : Int))
  have HNU := Lib.hid (fun W (hW : CT W g v l s) => number_st hW hlen hn at_ imp wide)
  have HSG := Lib.hid (fun W (hW : CT W g v l s) => signed_st hW hlen at_ (n : Int) imp wide)
  have HBL := Lib.hid (fun W (hW : CT W g v l s) => block_st hW hlen hn at_ imp wide)
  have HTX := Lib.hid (fun W (hW : CT W g v l s) => text_st hW hlen at_ (n : Int) imp wide)
  have HE := Lib.hid (show readW l (n : Int) imp wide s = if kindF (n : Int) = 5 then (⟨(n : Int), 0, 0, [], (txtW l s).1⟩, (txtW l s).2)
    else if kindF (n : Int) = 9 ∨ kindF (n : Int) = 10 then (⟨(n : Int), 0, 0, (blkW l (n : Int) wide s).1, []⟩, (blkW l (n : Int) wide s).2)
    else if kindF (n : Int) = 3 then (⟨(n : Int), 0, (sgnW l (n : Int) imp s).1, [], []⟩, (sgnW l (n : Int) imp s).2)
    else (⟨(n : Int), (numW l (n : Int) wide s).1, 0, [], []⟩, (numW l (n : Int) wide s).2) from rfl)
  generalize readW l (n : Int) imp wide s = R at *
  generalize kindF (n : Int) = k at *
  generalize numW l (n : Int) wide s = NU at *
  generalize sgnW l (n : Int) imp s = SG at *
  generalize blkW l (n : Int) wide s = BL at *
  generalize txtW l s = TX at *
  have HC := Lib.hid h
  clear h hlen hn
  go_enter Tryd.func25, Tryd.ntmps25
  go_upto_region 2 with fail
  have HA := Lib.hid (show Apt w g w.heap.size (w.heap.size + 1) from ⟨HGW.out, HC.out.f.pos, HC.out.z.pos, Nat.le_refl _, Nat.le_succ _, by omega⟩)
  generalize hw0 : w.alloc (.cells #[.int .i64 0, .int .u64 0, .int .i64 0, .slice none 0 0, .string ⟨#[]⟩] 33) = w0
  have hs0 : w0.heap.size = w.heap.size + 1 := by rw [← hw0]; simp
  generalize hw1 : w0.alloc (.cells #[.int .i64 (n : Int), .int .u64 0, .int .i64 0, .slice none 0 0, .string ⟨#[]⟩] 33) = w1
  have hX0 := Box.new w 33 #[.int .i64 0, .int .u64 0, .int .i64 0, .slice none 0 0, .string ⟨#[]⟩]
  rw [hw0] at hX0
  have hX1 := Box.new w0 33 #[.int .i64 (n : Int), .int .u64 0, .int .i64 0, .slice none 0 0, .string ⟨#[]⟩]
  rw [hw1, hs0] at hX1
  have hb0 : Below w.heap.size w w0 := hw0 ▸ (Below.refl _ _).alloc (Nat.le_refl _) _
  have hb1 : Below w0.heap.size w0 w1 := hw1 ▸ (Below.refl _ _).alloc (Nat.le_refl _) _
  have hb01 := hb0.trans (hb1.mono hb0.size)
  have HV := Lib.hid (show VSt w w1 g v l s w.heap.size (w.heap.size + 1) #[.int .i64 (n : Int), .int .u64 0, .int .i64 0, .slice none 0 0, .string ⟨#[]⟩] (.slice none 0 0) [] from
    ⟨HC.out.below hb01, hX1, hX0.below hb1 hX0.lt, World.ownsRow_nil _ _ _ _, only_below hb01 _⟩)
  have HS1 := Lib.hid (show w.heap.size ≤ w1.heap.size from hb01.size)
  clear hw0 hs0 hw1 hX0 hX1 hb0 hb1 hb01 HGW HC
  generalize hH1 : w.heap.size + 1 = H1 at *
  generalize hH0 : w.heap.size = H0 at HA HV ⊢
  clear hH1
  go_upto_region 4 with (go_at_call 14; refine (HK.out _ HV.out.ct).mono ?_; rintro r w2 ⟨rfl, rfl⟩)
  by_cases h5 : k = 5
  · have q5 : (k == 5) = true := by simpa using h5
    rw [if_pos h5] at HE
    clear h5
    go_wp2_with (go_at_call 29; refine (HTX.out _ HV.out.ct).mono ?_; rintro r w2 ⟨rfl, hC2, hG2⟩; have HV2 := Lib.hid (HV.out.call HA.out hC2 hG2 (own_nilR _ _)); clear hC2 hG2; have HV3 := Lib.hid (HV2.out.set HA.out 4 (.string ⟨TX.1.toArray⟩)); (obtain ⟨p0, p1, p2, p3, p4⟩ := HV2.out.cells); (obtain ⟨z0, z1, z2, z3, z4⟩ := five_cellsR HV2.out.r); (obtain ⟨f0, f1, f2, f3, f4⟩ := five_freeR HV2.out.r); have hne01 := HA.out.ne; have hne10 := HA.out.ne.symm; (obtain ⟨e0, e1, e2, e3, e4⟩ := five_freeR HV2.out.x))
    refine ret_one Tryd.underlying33 Tryd.results25 (HV3.out.told HA.out _ _ _ _ _).1 (by kernel_rfl) (by rfl) rfl ?_
    obtain ⟨-, t1, t2, t3⟩ := HV3.out.told HA.out (.int .i64 (n : Int)) (.int .u64 0) (.int .i64 0) (.slice none 0 0) (.string ⟨TX.1.toArray⟩)
    exact ⟨⟨none, 0, by rw [HE.out]; rfl, by rw [HE.out]; exact t2⟩, by rw [HE.out]; exact t1, t3⟩
  have q5 : (k == 5) = false := by simpa using h5
  rw [if_neg h5] at HE
  clear h5
  by_cases h9 : k = 9 ∨ k = 10
  · have q9 : (k == 9) = true ∨ (k == 9) = false ∧ (k == 10) = true := by
      rcases h9 with rfl | rfl
      · exact .inl rfl
      · exact .inr ⟨rfl, rfl⟩
    rw [if_pos h9] at HE
    clear h9
    obtain ⟨bn, hbn⟩ : ∃ bn, BL.1.length = bn := ⟨_, rfl⟩
    have HBN := Lib.hid hbn
    clear hbn
    rcases q9 with q9 | ⟨q9, q10⟩
    all_goals
      go_wp2_with (go_at_call 28; refine (HBL.out _ HV.out.ct).mono ?_; rintro r w2 ⟨u, rfl, hO2, hC2, hG2⟩; (obtain ⟨A2, c2, rfl, -, -, -⟩ := own_slice hO2); have HV2 := Lib.hid (HV.out.call HA.out hC2 hG2 (own_base hO2 HS1.out)); rw [HBN.out] at HV2; rw [HBN.out]; clear hO2 hC2 hG2; have HV3 := Lib.hid (HV2.out.set HA.out 3 (.slice A2 bn c2)); (obtain ⟨p0, p1, p2, p3, p4⟩ := HV2.out.cells); (obtain ⟨z0, z1, z2, z3, z4⟩ := five_cellsR HV2.out.r); (obtain ⟨f0, f1, f2, f3, f4⟩ := five_freeR HV2.out.r); have hne01 := HA.out.ne; have hne10 := HA.out.ne.symm; (obtain ⟨e0, e1, e2, e3, e4⟩ := five_freeR HV2.out.x))
      refine ret_one Tryd.underlying33 Tryd.results25 (HV3.out.told HA.out _ _ _ _ _).1 (by kernel_rfl) (by rfl) rfl ?_
      obtain ⟨-, t1, t2, t3⟩ := HV3.out.told HA.out (.int .i64 (n : Int)) (.int .u64 0) (.int .i64 0) (.slice A2 bn c2) (.string ⟨#[]⟩)
      refine ⟨⟨A2, c2, ?_, ?_⟩, by rw [HE.out]; exact t1, t3⟩
      · rw [HE.out]; simp only [HBN.out]; rfl
      · rw [HE.out]; simp only [HBN.out]; exact t2
  have q9 : (k == 9) = false := by simp; omega
  have q10 : (k == 10) = false := by simp; omega
  rw [if_neg h9] at HE
  clear h9
  by_cases h3 : k = 3
  · have q3 : (k == 3) = true := by simpa using h3
    rw [if_pos h3] at HE
    clear h3
    go_wp2_with (go_at_call 27; refine (HSG.out _ HV.out.ct).mono ?_; rintro r w2 ⟨rfl, hC2, hG2⟩; have HV2 := Lib.hid (HV.out.call HA.out hC2 hG2 (own_nilR _ _)); clear hC2 hG2; have HV3 := Lib.hid (HV2.out.set HA.out 2 (.int .i64 SG.1)); (obtain ⟨p0, p1, p2, p3, p4⟩ := HV2.out.cells); (obtain ⟨z0, z1, z2, z3, z4⟩ := five_cellsR HV2.out.r); (obtain ⟨f0, f1, f2, f3, f4⟩ := five_freeR HV2.out.r); have hne01 := HA.out.ne; have hne10 := HA.out.ne.symm; (obtain ⟨e0, e1, e2, e3, e4⟩ := five_freeR HV2.out.x))
    refine ret_one Tryd.underlying33 Tryd.results25 (HV3.out.told HA.out _ _ _ _ _).1 (by kernel_rfl) (by rfl) rfl ?_
    obtain ⟨-, t1, t2, t3⟩ := HV3.out.told HA.out (.int .i64 (n : Int)) (.int .u64 0) (.int .i64 SG.1) (.slice none 0 0) (.string ⟨#[]⟩)
    exact ⟨⟨none, 0, by rw [HE.out]; rfl, by rw [HE.out]; exact t2⟩, by rw [HE.out]; exact t1, t3⟩
  · have q3 : (k == 3) = false := by simpa using h3
    rw [if_neg h3] at HE
    clear h3
    go_wp2_with (go_at_call 26; refine (HNU.out _ HV.out.ct).mono ?_; rintro r w2 ⟨rfl, hC2, hG2⟩; have HV2 := Lib.hid (HV.out.call HA.out hC2 hG2 (own_nilR _ _)); clear hC2 hG2; have HV3 := Lib.hid (HV2.out.set HA.out 1 (.int .u64 (NU.1 : Int))); (obtain ⟨p0, p1, p2, p3, p4⟩ := HV2.out.cells); (obtain ⟨z0, z1, z2, z3, z4⟩ := five_cellsR HV2.out.r); (obtain ⟨f0, f1, f2, f3, f4⟩ := five_freeR HV2.out.r); have hne01 := HA.out.ne; have hne10 := HA.out.ne.symm; (obtain ⟨e0, e1, e2, e3, e4⟩ := five_freeR HV2.out.x))
    refine ret_one Tryd.underlying33 Tryd.results25 (HV3.out.told HA.out _ _ _ _ _).1 (by kernel_rfl) (by rfl) rfl ?_
    obtain ⟨-, t1, t2, t3⟩ := HV3.out.told HA.out (.int .i64 (n : Int)) (.int .u64 (NU.1 : Int)) (.int .i64 0) (.slice none 0 0) (.string ⟨#[]⟩)
    exact ⟨⟨none, 0, by rw [HE.out]; rfl, by rw [HE.out]; exact t2⟩, by rw [HE.out]; exact t1, t3⟩

end Go.Proofs.YtpmndmbhkfbljaaDoor

namespace Go.Proofs.YtpmndmbhkfbljaaDoor
open Go Go.RowKit

theorem int_beqR (a b : Int) : (a == b) = decide (a = b) := by rw [Bool.eq_iff_iff, beq_iff_eq, decide_eq_true_eq]
theorem nat_beqR (a b : Nat) : ((a : Int) == (b : Int)) = decide (a = b) := by rw [int_beqR]; exact decide_eq_decide.2 (by omega)
/-- Are two values alike? -/
def sameV (x y : RV) : Bool := decide (x.form = y.form) && (decide (x.u = y.u) && (decide (x.s = y.s) && (decide (x.b = y.b) && decide (x.t = y.t))))
theorem sameV_self (x : RV) : sameV x x = true := by simp [sameV]
theorem sameV_iff (x y : RV) : sameV x y = true ↔ x = y := by
  obtain ⟨a, b, c, d, e⟩ := x
  obtain ⟨a', b', c', d', e'⟩ := y
  simp [sameV]

theorem bytes_equal {w : World} {B B' : Nat} {A A' : Option Addr} {l m : List UInt8} (h : Rd w B A l) (h' : Rd w B' A' m) (c c' : Nat) :
    Calls Tryd.prog 48 #[.slice A l.length c, .slice A' m.length c'] w fun r w' => r = .returned (.bool (decide (l = m))) ∧ w = w' := by
  have e := str_eq l m
  obtain ⟨sb, hsb⟩ : ∃ s : ByteArray, s = ⟨l.toArray⟩ := ⟨_, rfl⟩
  obtain ⟨sc, hsc⟩ : ∃ s : ByteArray, s = ⟨m.toArray⟩ := ⟨_, rfl⟩
  have cv1 := conv_as hsb (conv_rd h c)
  have cv2 := conv_as hsc (conv_rd h' c')
  rw [← hsb, ← hsc] at e
  generalize decide (l = m) = d at *
  generalize l.length = n at *
  generalize m.length = n' at *
  clear h h' hsb hsc
  go_enter Tryd.func48, Tryd.ntmps48
  go_wp2
  go_ret
  exact ⟨by rw [← e]; rfl, rfl⟩

set_option maxRecDepth 10000 in
set_option maxHeartbeats 3200000 in
theorem sameV_any {w : World} (y z : WLay) (hy : Rd w w.heap.size y.a y.x.b) (hz : Rd w w.heap.size z.a z.x.b) :
    Calls Tryd.prog 20 #[.agg #[.int .i64 y.x.form, .int .u64 (y.x.u : Int), .int .i64 y.x.s, .slice y.a y.x.b.length y.c, .string ⟨y.x.t.toArray⟩], .agg #[.int .i64 z.x.form, .int .u64 (z.x.u : Int), .int .i64 z.x.s, .slice z.a z.x.b.length z.c, .string ⟨z.x.t.toArray⟩]] w fun r w' => r = .returned (.bool (sameV y.x z.x)) ∧ Below w.heap.size w w' := by
  have HS := Lib.hid (show sameV y.x z.x = (decide (y.x.form = z.x.form) && (decide (y.x.u = z.x.u) && (decide (y.x.s = z.x.s) && (decide (y.x.b = z.x.b) && decide (y.x.t = z.x.t))))) from rfl)
  have e0 := int_beqR y.x.form z.x.form
  have e1 := nat_beqR y.x.u z.x.u
  have e2 := int_beqR y.x.s z.x.s
  have e4 := str_eq y.x.t z.x.t
  have HEQ := Lib.hid (fun W (hW : Below w.heap.size w W) => bytes_equal (w := W) (hy.below hW) (hz.below hW) y.c z.c)
  have hA1 := (Below.refl w.heap.size w).alloc (Nat.le_refl _) (.cells #[.int .i64 y.x.form, .int .u64 (y.x.u : Int), .int .i64 y.x.s, .slice y.a y.x.b.length y.c, .string ⟨y.x.t.toArray⟩] 33)
  have hA2 := hA1.alloc hA1.size (.cells #[.int .i64 z.x.form, .int .u64 (z.x.u : Int), .int .i64 z.x.s, .slice z.a z.x.b.length z.c, .string ⟨z.x.t.toArray⟩] 33)
  have HA2 := Lib.hid hA2
  clear hA1 hA2 hy hz
  generalize (sameV y.x z.x) = R at *
  generalize y.x.b.length = yn at *
  generalize z.x.b.length = zn at *
  generalize decide (y.x.form = z.x.form) = d0 at *
  generalize decide (y.x.u = z.x.u) = d1 at *
  generalize decide (y.x.s = z.x.s) = d2 at *
  generalize decide (y.x.b = z.x.b) = d3 at *
  generalize decide (y.x.t = z.x.t) = d4 at *
  generalize y.x.form = y0 at *
  generalize y.x.u = y1 at *
  generalize y.x.s = y2 at *
  generalize (ByteArray.mk y.x.t.toArray) = y4 at *
  generalize z.x.form = z0 at *
  generalize z.x.u = z1 at *
  generalize z.x.s = z2 at *
  generalize (ByteArray.mk z.x.t.toArray) = z4 at *
  generalize y.a = ya at *
  generalize y.c = yc at *
  generalize z.a = za at *
  generalize z.c = zc at *
  cases d0 with
  | false =>
    clear e1 e2 e4 HEQ
    go_enter Tryd.func20, Tryd.ntmps20
    go_wp2_with fail
    go_ret
    exact ⟨by rw [HS.out]; rfl, HA2.out⟩
  | true =>
  cases d1 with
  | false =>
    clear e2 e4 HEQ
    go_enter Tryd.func20, Tryd.ntmps20
    go_wp2_with fail
    go_ret
    exact ⟨by rw [HS.out]; rfl, HA2.out⟩
  | true =>
  cases d2 with
  | false =>
    clear e4 HEQ
    go_enter Tryd.func20, Tryd.ntmps20
    go_wp2_with fail
    go_ret
    exact ⟨by rw [HS.out]; rfl, HA2.out⟩
  | true =>
  cases d3 with
  | false =>
    clear e4
    go_enter Tryd.func20, Tryd.ntmps20
    go_wp2_with (go_at_call 48; refine (HEQ.out _ HA2.out).mono ?_; rintro r w3 ⟨rfl, rfl⟩)
    go_ret
    exact ⟨by rw [HS.out]; rfl, HA2.out⟩
  | true =>
    go_enter Tryd.func20, Tryd.ntmps20
    go_wp2_with (go_at_call 48; refine (HEQ.out _ HA2.out).mono ?_; rintro r w3 ⟨rfl, rfl⟩)
    go_ret
    exact ⟨by rw [HS.out]; rfl, HA2.out⟩

end Go.Proofs.YtpmndmbhkfbljaaDoor

namespace Go.Proofs.YtpmndmbhkfbljaaDoor
open Go Go.RowKit

/-- What a value of its form has, and nothing else. -/
def aloneV (x : RV) : RV :=
  if kindF x.form = 5 then ⟨x.form, 0, 0, [], x.t⟩
  else if kindF x.form = 9 ∨ kindF x.form = 10 then ⟨x.form, 0, 0, x.b, []⟩
  else if kindF x.form = 3 then ⟨x.form, 0, x.s, [], []⟩
  else ⟨x.form, x.u, 0, [], []⟩
/-- Whether a number can be put in so many bytes. -/
def holdsV (z : Int) (n : Nat) : Bool := decide (z = -1) || decide (n / 256 ^ z.toNat = 0)
def fitsV (x : RV) (wide : Bool) : Bool :=
  if kindF x.form = 5 then rightT x.t
  else if kindF x.form = 9 ∨ kindF x.form = 10 then (if x.form = 30 then decide (x.b.length = 16) else decide (x.b.length ≤ 65536) && holdsV (widF x.form wide) x.b.length)
  else if kindF x.form = 3 then true
  else if x.form = 25 then decide (x.u = 1) else holdsV (widF x.form wide) x.u
def rightV (x : RV) (wide : Bool) : Bool := !decide (kindF x.form = 0) && (sameV x (aloneV x) && fitsV x wide)

theorem hnumber_any (w : World) (f : Int) (u : Nat) (s : Int) (a : Option Addr) (n c : Nat) (t : ByteArray) :
    Calls Tryd.prog 41 #[.agg #[.int .i64 f, .int .u64 (u : Int), .int .i64 s, .slice a n c, .string t]] w fun r w' => r = .returned (.int .u64 (u : Int)) ∧ Below w.heap.size w w' := by
  have HA := Lib.hid ((Below.refl w.heap.size w).alloc (Nat.le_refl _) (.cells #[.int .i64 f, .int .u64 (u : Int), .int .i64 s, .slice a n c, .string t] 76))
  go_enter Tryd.func41, Tryd.ntmps41
  go_wp2
  go_ret
  exact ⟨rfl, HA.out⟩
theorem hsigned_any (w : World) (f : Int) (u : Nat) (s : Int) (a : Option Addr) (n c : Nat) (t : ByteArray) :
    Calls Tryd.prog 42 #[.agg #[.int .i64 f, .int .u64 (u : Int), .int .i64 s, .slice a n c, .string t]] w fun r w' => r = .returned (.int .i64 s) ∧ Below w.heap.size w w' := by
  have HA := Lib.hid ((Below.refl w.heap.size w).alloc (Nat.le_refl _) (.cells #[.int .i64 f, .int .u64 (u : Int), .int .i64 s, .slice a n c, .string t] 76))
  go_enter Tryd.func42, Tryd.ntmps42
  go_wp2
  go_ret
  exact ⟨rfl, HA.out⟩
theorem hblock_any (w : World) (f : Int) (u : Nat) (s : Int) (a : Option Addr) (n c : Nat) (t : ByteArray) :
    Calls Tryd.prog 43 #[.agg #[.int .i64 f, .int .u64 (u : Int), .int .i64 s, .slice a n c, .string t]] w fun r w' => r = .returned (.slice a n c) ∧ Below w.heap.size w w' := by
  have HA := Lib.hid ((Below.refl w.heap.size w).alloc (Nat.le_refl _) (.cells #[.int .i64 f, .int .u64 (u : Int), .int .i64 s, .slice a n c, .string t] 76))
  go_enter Tryd.func43, Tryd.ntmps43
  go_wp2
  go_ret
  exact ⟨rfl, HA.out⟩
theorem htext_any (w : World) (f : Int) (u : Nat) (s : Int) (a : Option Addr) (n c : Nat) (t : ByteArray) :
    Calls Tryd.prog 44 #[.agg #[.int .i64 f, .int .u64 (u : Int), .int .i64 s, .slice a n c, .string t]] w fun r w' => r = .returned (.string t) ∧ Below w.heap.size w w' := by
  have HA := Lib.hid ((Below.refl w.heap.size w).alloc (Nat.le_refl _) (.cells #[.int .i64 f, .int .u64 (u : Int), .int .i64 s, .slice a n c, .string t] 76))
  go_enter Tryd.func44, Tryd.ntmps44
  go_wp2
  go_ret
  exact ⟨rfl, HA.out⟩

/-! ### A value that is made, and the result's cell, without a cursor -/
structure HSt (w wx : World) (H0 H1 : Nat) (cs : Array Value) : Prop where
  x : Box wx H1 33 cs
  r : Box wx H0 33 #[.int .i64 0, .int .u64 0, .int .i64 0, .slice none 0 0, .string ⟨#[]⟩]
  b : Below w.heap.size w wx
  h0 : w.heap.size ≤ H0
  h1 : w.heap.size ≤ H1
  ne : H0 ≠ H1
section
variable {w wx wy : World} {H0 H1 : Nat} {cs : Array Value}
theorem HSt.later (h : HSt w wx H0 H1 cs) (hb : Below wx.heap.size wx wy) : HSt w wy H0 H1 cs := ⟨h.x.below hb h.x.lt, h.r.below hb h.r.lt, h.b.trans (hb.mono h.b.size), h.h0, h.h1, h.ne⟩
theorem HSt.set (h : HSt w wx H0 H1 cs) (i : Nat) (u : Value) : HSt w (wx.setCell ⟨H1, i, none⟩ u) H0 H1 (cs.setIfInBounds i u) :=
  ⟨h.x.set i u, h.r.grown (only_set (only_refl wx (some H1)) i u) (fun e => by injection e with e; exact h.ne e), h.b.setCell h.h1 _, h.h0, h.h1, h.ne⟩
theorem HSt.told (h : HSt w wx H0 H1 cs) (v0 v1 v2 v3 v4 : Value) :
    Box (((((wx.setCell ⟨H0, 0, none⟩ v0).setCell ⟨H0, 1, none⟩ v1).setCell ⟨H0, 2, none⟩ v2).setCell ⟨H0, 3, none⟩ v3).setCell ⟨H0, 4, none⟩ v4) H0 33 #[v0, v1, v2, v3, v4] ∧
    Below w.heap.size w (((((wx.setCell ⟨H0, 0, none⟩ v0).setCell ⟨H0, 1, none⟩ v1).setCell ⟨H0, 2, none⟩ v2).setCell ⟨H0, 3, none⟩ v3).setCell ⟨H0, 4, none⟩ v4) :=
  ⟨five_boxR h.r rfl _ _ _ _ _, ((((h.b.setCell h.h0 _).setCell h.h0 _).setCell h.h0 _).setCell h.h0 _).setCell h.h0 _⟩
end

/-- A value of one's own parts: where its bytes are. -/
def AloneIs (y : WLay) (r : Ending) : Prop := ∃ A c, r = .returned (.agg #[.int .i64 (aloneV y.x).form, .int .u64 ((aloneV y.x).u : Int), .int .i64 (aloneV y.x).s, .slice A (aloneV y.x).b.length c, .string ⟨(aloneV y.x).t.toArray⟩]) ∧ (((aloneV y.x).b = [] ∧ A = none ∧ c = 0) ∨ ((aloneV y.x).b = y.x.b ∧ A = y.a ∧ c = y.c))

theorem alone_mk {y : WLay} {R : RV} (hR : aloneV y.x = R) {A : Option Addr} {c : Nat} (h : (R.b = [] ∧ A = none ∧ c = 0) ∨ (R.b = y.x.b ∧ A = y.a ∧ c = y.c)) :
    AloneIs y (.returned (.agg #[.int .i64 R.form, .int .u64 (R.u : Int), .int .i64 R.s, .slice A R.b.length c, .string ⟨R.t.toArray⟩])) := ⟨A, c, by rw [hR], by rw [hR]; exact h⟩

set_option maxRecDepth 10000 in
set_option maxHeartbeats 800000 in
theorem value_h {w : World} (hF : Ft w) (y : WLay) :
    Calls Tryd.prog 25 #[.int .i64 y.x.form, .func (.func 41) #[.agg #[.int .i64 y.x.form, .int .u64 (y.x.u : Int), .int .i64 y.x.s, .slice y.a y.x.b.length y.c, .string ⟨y.x.t.toArray⟩]] #[], .func (.func 42) #[.agg #[.int .i64 y.x.form, .int .u64 (y.x.u : Int), .int .i64 y.x.s, .slice y.a y.x.b.length y.c, .string ⟨y.x.t.toArray⟩]] #[], .func (.func 43) #[.agg #[.int .i64 y.x.form, .int .u64 (y.x.u : Int), .int .i64 y.x.s, .slice y.a y.x.b.length y.c, .string ⟨y.x.t.toArray⟩]] #[], .func (.func 44) #[.agg #[.int .i64 y.x.form, .int .u64 (y.x.u : Int), .int .i64 y.x.s, .slice y.a y.x.b.length y.c, .string ⟨y.x.t.toArray⟩]] #[]] w fun r w' =>
      AloneIs y r ∧ Below w.heap.size w w' := by
  have HK := Lib.hid (fun W (hW : Below w.heap.size w W) => kind_any (hF.up hW) y.x.form)
  have HE := Lib.hid (show aloneV y.x = if kindF y.x.form = 5 then ⟨y.x.form, 0, 0, [], y.x.t⟩ else if kindF y.x.form = 9 ∨ kindF y.x.form = 10 then ⟨y.x.form, 0, 0, y.x.b, []⟩ else if kindF y.x.form = 3 then ⟨y.x.form, 0, y.x.s, [], []⟩ else ⟨y.x.form, y.x.u, 0, [], []⟩ from rfl)
  generalize kindF y.x.form = k at *
  obtain ⟨bn, hbn⟩ : ∃ bn, y.x.b.length = bn := ⟨_, rfl⟩
  have HBN := Lib.hid hbn
  rw [hbn]
  obtain ⟨ts, hts⟩ : ∃ ts : ByteArray, ts = ⟨y.x.t.toArray⟩ := ⟨_, rfl⟩
  have HTS := Lib.hid hts
  rw [← hts]
  clear hbn hts hF
  generalize y.x.form = f at *
  generalize y.x.u = u at *
  generalize y.x.s = s at *
  obtain ⟨ya, hya⟩ : ∃ ya, y.a = ya := ⟨_, rfl⟩
  obtain ⟨yc, hyc⟩ : ∃ yc, y.c = yc := ⟨_, rfl⟩
  have HYA := Lib.hid hya
  have HYC := Lib.hid hyc
  rw [hya, hyc]
  clear hya hyc
  have HNU := Lib.hid (fun W => hnumber_any W f u s ya bn yc ts)
  have HSG := Lib.hid (fun W => hsigned_any W f u s ya bn yc ts)
  have HBL := Lib.hid (fun W => hblock_any W f u s ya bn yc ts)
  have HTX := Lib.hid (fun W => htext_any W f u s ya bn yc ts)
  go_enter Tryd.func25, Tryd.ntmps25
  go_upto_region 2 with fail
  generalize hw0 : w.alloc (.cells #[.int .i64 0, .int .u64 0, .int .i64 0, .slice none 0 0, .string ⟨#[]⟩] 33) = w0
  have hs0 : w0.heap.size = w.heap.size + 1 := by rw [← hw0]; simp
  generalize hw1 : w0.alloc (.cells #[.int .i64 f, .int .u64 0, .int .i64 0, .slice none 0 0, .string ⟨#[]⟩] 33) = w1
  have hX0 := Box.new w 33 #[.int .i64 0, .int .u64 0, .int .i64 0, .slice none 0 0, .string ⟨#[]⟩]
  rw [hw0] at hX0
  have hX1 := Box.new w0 33 #[.int .i64 f, .int .u64 0, .int .i64 0, .slice none 0 0, .string ⟨#[]⟩]
  rw [hw1, hs0] at hX1
  have hb0 : Below w.heap.size w w0 := hw0 ▸ (Below.refl _ _).alloc (Nat.le_refl _) _
  have hb1 : Below w0.heap.size w0 w1 := hw1 ▸ (Below.refl _ _).alloc (Nat.le_refl _) _
  have HV := Lib.hid (show HSt w w1 w.heap.size (w.heap.size + 1) #[.int .i64 f, .int .u64 0, .int .i64 0, .slice none 0 0, .string ⟨#[]⟩] from ⟨hX1, hX0.below hb1 hX0.lt, hb0.trans (hb1.mono hb0.size), Nat.le_refl _, Nat.le_succ _, by omega⟩)
  clear hw0 hs0 hw1 hX0 hX1 hb0 hb1
  generalize hH1 : w.heap.size + 1 = H1 at *
  generalize hH0 : w.heap.size = H0 at HV ⊢
  clear hH1 hH0
  go_upto_region 4 with (go_at_call 14; refine (HK.out _ HV.out.b).mono ?_; rintro r w2 ⟨rfl, rfl⟩)
  by_cases h5 : k = 5
  · have q5 : (k == 5) = true := by simpa using h5
    rw [if_pos h5] at HE
    clear h5
    go_wp2_with (go_at_call 44; refine (HTX.out _).mono ?_; rintro r w2 ⟨rfl, hb2⟩; have HV2 := Lib.hid (HV.out.later hb2); have HV3 := Lib.hid (HV2.out.set 4 (.string ts)); (obtain ⟨p0, p1, p2, p3, p4⟩ := five_cellsR HV2.out.x); (obtain ⟨e0, e1, e2, e3, e4⟩ := five_freeR HV2.out.x); (obtain ⟨z0, z1, z2, z3, z4⟩ := five_cellsR HV2.out.r); (obtain ⟨f0, f1, f2, f3, f4⟩ := five_freeR HV2.out.r); have hne01 := HV2.out.ne; have hne10 := HV2.out.ne.symm; clear hb2)
    refine ret_one Tryd.underlying33 Tryd.results25 (HV3.out.told _ _ _ _ _).1 (by kernel_rfl) (by rfl) rfl ?_
    obtain ⟨-, t2⟩ := HV3.out.told (.int .i64 f) (.int .u64 0) (.int .i64 0) (.slice none 0 0) (.string ts)
    exact ⟨by rw [HTS.out]; exact alone_mk HE.out (A := none) (c := 0) (.inl ⟨rfl, rfl, rfl⟩), t2⟩
  have q5 : (k == 5) = false := by simpa using h5
  rw [if_neg h5] at HE
  clear h5
  by_cases h9 : k = 9 ∨ k = 10
  · have q9 : (k == 9) = true ∨ (k == 9) = false ∧ (k == 10) = true := by
      rcases h9 with rfl | rfl
      · exact .inl rfl
      · exact .inr ⟨rfl, rfl⟩
    rw [if_pos h9] at HE
    clear h9
    rcases q9 with q9 | ⟨q9, q10⟩
    all_goals
      go_wp2_with (go_at_call 43; refine (HBL.out _).mono ?_; rintro r w2 ⟨rfl, hb2⟩; have HV2 := Lib.hid (HV.out.later hb2); have HV3 := Lib.hid (HV2.out.set 3 (.slice ya bn yc)); (obtain ⟨p0, p1, p2, p3, p4⟩ := five_cellsR HV2.out.x); (obtain ⟨e0, e1, e2, e3, e4⟩ := five_freeR HV2.out.x); (obtain ⟨z0, z1, z2, z3, z4⟩ := five_cellsR HV2.out.r); (obtain ⟨f0, f1, f2, f3, f4⟩ := five_freeR HV2.out.r); have hne01 := HV2.out.ne; have hne10 := HV2.out.ne.symm; clear hb2)
      refine ret_one Tryd.underlying33 Tryd.results25 (HV3.out.told _ _ _ _ _).1 (by kernel_rfl) (by rfl) rfl ?_
      obtain ⟨-, t2⟩ := HV3.out.told (.int .i64 f) (.int .u64 0) (.int .i64 0) (.slice ya bn yc) (.string ⟨#[]⟩)
      exact ⟨by rw [← HBN.out]; exact alone_mk HE.out (A := ya) (c := yc) (.inr ⟨rfl, HYA.out.symm, HYC.out.symm⟩), t2⟩
  have q9 : (k == 9) = false := by simp; omega
  have q10 : (k == 10) = false := by simp; omega
  rw [if_neg h9] at HE
  clear h9
  by_cases h3 : k = 3
  · have q3 : (k == 3) = true := by simpa using h3
    rw [if_pos h3] at HE
    clear h3
    go_wp2_with (go_at_call 42; refine (HSG.out _).mono ?_; rintro r w2 ⟨rfl, hb2⟩; have HV2 := Lib.hid (HV.out.later hb2); have HV3 := Lib.hid (HV2.out.set 2 (.int .i64 s)); (obtain ⟨p0, p1, p2, p3, p4⟩ := five_cellsR HV2.out.x); (obtain ⟨e0, e1, e2, e3, e4⟩ := five_freeR HV2.out.x); (obtain ⟨z0, z1, z2, z3, z4⟩ := five_cellsR HV2.out.r); (obtain ⟨f0, f1, f2, f3, f4⟩ := five_freeR HV2.out.r); have hne01 := HV2.out.ne; have hne10 := HV2.out.ne.symm; clear hb2)
    refine ret_one Tryd.underlying33 Tryd.results25 (HV3.out.told _ _ _ _ _).1 (by kernel_rfl) (by rfl) rfl ?_
    obtain ⟨-, t2⟩ := HV3.out.told (.int .i64 f) (.int .u64 0) (.int .i64 s) (.slice none 0 0) (.string ⟨#[]⟩)
    exact ⟨alone_mk HE.out (A := none) (c := 0) (.inl ⟨rfl, rfl, rfl⟩), t2⟩
  · have q3 : (k == 3) = false := by simpa using h3
    rw [if_neg h3] at HE
    clear h3
    go_wp2_with (go_at_call 41; refine (HNU.out _).mono ?_; rintro r w2 ⟨rfl, hb2⟩; have HV2 := Lib.hid (HV.out.later hb2); have HV3 := Lib.hid (HV2.out.set 1 (.int .u64 (u : Int))); (obtain ⟨p0, p1, p2, p3, p4⟩ := five_cellsR HV2.out.x); (obtain ⟨e0, e1, e2, e3, e4⟩ := five_freeR HV2.out.x); (obtain ⟨z0, z1, z2, z3, z4⟩ := five_cellsR HV2.out.r); (obtain ⟨f0, f1, f2, f3, f4⟩ := five_freeR HV2.out.r); have hne01 := HV2.out.ne; have hne10 := HV2.out.ne.symm; clear hb2)
    refine ret_one Tryd.underlying33 Tryd.results25 (HV3.out.told _ _ _ _ _).1 (by kernel_rfl) (by rfl) rfl ?_
    obtain ⟨-, t2⟩ := HV3.out.told (.int .i64 f) (.int .u64 (u : Int)) (.int .i64 0) (.slice none 0 0) (.string ⟨#[]⟩)
    exact ⟨alone_mk HE.out (A := none) (c := 0) (.inl ⟨rfl, rfl, rfl⟩), t2⟩


theorem holds_div {n : Nat} (z k : Nat) (hk : 256 ^ z = k) : (((n : Int) / (k : Int)) == 0) = holdsV (z : Int) n := by
  subst hk
  have h1 : ((n : Int) / ((256 ^ z : Nat) : Int)) = ((n / 256 ^ z : Nat) : Int) := by simp
  have h2 : (((n / 256 ^ z : Nat) : Int) == ((0 : Nat) : Int)) = decide (n / 256 ^ z = 0) := nat_beqR _ _
  unfold holdsV
  rw [decide_eq_false (by omega), Bool.false_or, Int.toNat_natCast, h1]
  exact h2

set_option maxRecDepth 10000 in
theorem holds_any (w : World) (z : Int) (hz : z = -1 ∨ z = 0 ∨ z = 1 ∨ z = 2 ∨ z = 3 ∨ z = 4 ∨ z = 8) (n : Nat) (_ : n < two64) :
    Calls Tryd.prog 65 #[.int .i64 z, .int .u64 (n : Int)] w fun r w' => r = .returned (.bool (holdsV z n)) ∧ w = w' := by
  have e0 := holds_div (n := n) 0 1 (by decide)
  have e1 := holds_div (n := n) 1 256 (by decide)
  have e2 := holds_div (n := n) 2 65536 (by decide)
  have e3 := holds_div (n := n) 3 16777216 (by decide)
  have e4 := holds_div (n := n) 4 4294967296 (by decide)
  have e8 := holds_div (n := n) 8 18446744073709551616 (by decide)
  have E0 := Lib.hid (show ((n : Int) == 0) = holdsV 0 n by simpa using e0)
  have E1 := Lib.hid (show ((n : Int) / 256 == 0) = holdsV 1 n from e1)
  have E2 := Lib.hid (show ((n : Int) / 65536 == 0) = holdsV 2 n from e2)
  have E3 := Lib.hid (show ((n : Int) / 16777216 == 0) = holdsV 3 n from e3)
  have E4 := Lib.hid (show ((n : Int) / 4294967296 == 0) = holdsV 4 n from e4)
  have E8 := Lib.hid (show ((n : Int) / 18446744073709551616 == 0) = holdsV 8 n from e8)
  clear e0 e1 e2 e3 e4 e8
  rcases hz with rfl | rfl | rfl | rfl | rfl | rfl | rfl
  all_goals
    go_enter Tryd.func65, Tryd.ntmps65
    go_wp2
    go_ret
  · exact ⟨rfl, rfl⟩
  · exact ⟨by rw [← E0.out]; rfl, rfl⟩
  · exact ⟨by rw [← E1.out]; rfl, rfl⟩
  · exact ⟨by rw [← E2.out]; rfl, rfl⟩
  · exact ⟨by rw [← E3.out]; rfl, rfl⟩
  · exact ⟨by rw [← E4.out]; rfl, rfl⟩
  · exact ⟨by rw [← E8.out]; rfl, rfl⟩

end Go.Proofs.YtpmndmbhkfbljaaDoor

namespace Go.Proofs.YtpmndmbhkfbljaaDoor
open Go Go.RowKit

theorem right_free (s : List UInt8) (w : World) :
    Calls Tryd.prog 64 #[.string ⟨s.toArray⟩] w fun r w' => r = .returned (.bool (rightT s)) ∧ w = w' := by
  by_cases h1 : s.length ≤ 200
  · exact right_any s w (by omega)
  · have hsz : (ByteArray.mk s.toArray).size = s.length := rfl
    have hd : decide ((s.length : Int) ≤ 200) = false := by simp; omega
    have HR := Lib.hid (show rightT s = false by unfold rightT; simp [h1])
    clear h1
    generalize ByteArray.mk s.toArray = b at *
    generalize s.length = n at *
    subst hsz
    go_enter Tryd.func64, Tryd.ntmps64
    go_wp2_with fail
    go_ret
    exact ⟨by rw [HR.out]; rfl, rfl⟩
theorem widF_ways {n : Nat} (hn : n < 45) (wide : Bool) : widF (n : Int) wide = -1 ∨ widF (n : Int) wide = 0 ∨ widF (n : Int) wide = 1 ∨ widF (n : Int) wide = 2 ∨ widF (n : Int) wide = 3 ∨ widF (n : Int) wide = 4 ∨ widF (n : Int) wide = 8 := by
  have h : ∀ m : Fin 45, ([-1, 0, 1, 2, 3, 4, 8].contains (widF ((m : Nat) : Int) wide)) = true := by cases wide <;> decide
  have := h ⟨n, hn⟩
  simpa using this

set_option maxRecDepth 10000 in
set_option maxHeartbeats 1600000 in
theorem fits_any {w : World} (hF : Ft w) (hS : Sz w) (y : WLay) (hk0 : kindF y.x.form ≠ 0) (hu : y.x.u < two64) (hb : y.x.b.length ≤ 9223372036854775807) (wide : Bool) :
    Calls Tryd.prog 45 #[.agg #[.int .i64 y.x.form, .int .u64 (y.x.u : Int), .int .i64 y.x.s, .slice y.a y.x.b.length y.c, .string ⟨y.x.t.toArray⟩], .bool wide] w fun r w' => r = .returned (.bool (fitsV y.x wide)) ∧ Below w.heap.size w w' := by
  obtain ⟨n, hfn, hn⟩ := kindF_in hk0
  have hA := (Below.refl w.heap.size w).alloc (Nat.le_refl _) (.cells #[.int .i64 y.x.form, .int .u64 (y.x.u : Int), .int .i64 y.x.s, .slice y.a y.x.b.length y.c, .string ⟨y.x.t.toArray⟩] 33)
  have HA := Lib.hid hA
  have HK := Lib.hid (fun W (hW : Below w.heap.size w W) => kind_any (hF.up hW) y.x.form)
  have HW := Lib.hid (fun W (hW : Below w.heap.size w W) => (by have := width_any (hF.up hW) (hS.below hW hS.pos) hn wide; rwa [← hfn] at this : Calls Tryd.prog 37 #[.int .i64 y.x.form, .bool wide] W fun r w' => r = .returned (.int .i64 (widF y.x.form wide)) ∧ W = w'))
  have HT := Lib.hid (fun W => right_free y.x.t W)
  have hww := widF_ways hn wide
  rw [← hfn] at hww
  have HH := Lib.hid (fun W (m : Nat) (hm : m < two64) => holds_any W _ hww m hm)
  have HE := Lib.hid (show fitsV y.x wide = if kindF y.x.form = 5 then rightT y.x.t
    else if kindF y.x.form = 9 ∨ kindF y.x.form = 10 then (if y.x.form = 30 then decide (y.x.b.length = 16) else decide (y.x.b.length ≤ 65536) && holdsV (widF y.x.form wide) y.x.b.length)
    else if kindF y.x.form = 3 then true
    else if y.x.form = 25 then decide (y.x.u = 1) else holdsV (widF y.x.form wide) y.x.u from rfl)
  have e16 := nat_beqR y.x.b.length 16
  have eu1 := nat_beqR y.x.u 1
  have HU := Lib.hid hu
  have hwb : IntKind.u64.wrap (y.x.b.length : Int) = (y.x.b.length : Int) := by rw [IntWalk.u64_in _ (by omega)]
  have HB2 := Lib.hid (show y.x.b.length < two64 by unfold two64; omega)
  have hle : decide ((y.x.b.length : Int) ≤ 65536) = decide (y.x.b.length ≤ 65536) := decide_eq_decide.2 (by omega)
  clear hA hk0 hfn hn hww hF hS hu
  generalize fitsV y.x wide = R at *
  generalize kindF y.x.form = k at *
  generalize widF y.x.form wide = z at *
  generalize rightT y.x.t = rt at *
  generalize y.x.b.length = bn at *
  generalize (ByteArray.mk y.x.t.toArray) = ts at *
  generalize y.x.form = f at *
  generalize y.x.u = u at *
  generalize y.x.s = s at *
  generalize y.a = ya at *
  generalize y.c = yc at *
  go_enter Tryd.func45, Tryd.ntmps45
  go_upto_region 3 with (first
    | (go_at_call 37; refine (HW.out _ HA.out).mono ?_; rintro r w1 ⟨rfl, rfl⟩)
    | (go_at_call 14; refine (HK.out _ HA.out).mono ?_; rintro r w1 ⟨rfl, rfl⟩))
  by_cases h5 : k = 5
  · have q5 : (k == 5) = true := by simpa using h5
    rw [if_pos h5] at HE
    clear h5
    go_wp2_with (go_at_call 64; refine (HT.out _).mono ?_; rintro r w1 ⟨rfl, rfl⟩)
    go_ret
    exact ⟨by rw [HE.out]; rfl, HA.out⟩
  have q5 : (k == 5) = false := by simpa using h5
  rw [if_neg h5] at HE
  clear h5
  by_cases h9 : k = 9 ∨ k = 10
  · have q9 : (k == 9) = true ∨ (k == 9) = false ∧ (k == 10) = true := by
      rcases h9 with rfl | rfl
      · exact .inl rfl
      · exact .inr ⟨rfl, rfl⟩
    rw [if_pos h9] at HE
    clear h9
    by_cases h30 : f = 30
    · have q30 : (f == 30) = true := by simpa using h30
      rw [if_pos h30] at HE
      clear h30
      have e16' : ((bn : Int) == 16) = decide (bn = 16) := e16
      rcases q9 with q9 | ⟨q9, q10⟩
      all_goals
        go_wp2_with fail
        go_ret
        exact ⟨by rw [HE.out, ← e16']; rfl, HA.out⟩
    · have q30 : (f == 30) = false := by simpa using h30
      rw [if_neg h30] at HE
      clear h30
      by_cases h65 : bn ≤ 65536
      · rw [decide_eq_true h65] at hle HE
        clear h65
        rcases q9 with q9 | ⟨q9, q10⟩
        all_goals
          go_wp2_with (go_at_call 65; refine (HH.out _ bn HB2.out).mono ?_; rintro r w1 ⟨rfl, rfl⟩)
          go_ret
          exact ⟨by rw [HE.out]; rfl, HA.out⟩
      · rw [decide_eq_false h65] at hle HE
        clear h65
        rcases q9 with q9 | ⟨q9, q10⟩
        all_goals
          go_wp2_with fail
          go_ret
          exact ⟨by rw [HE.out]; rfl, HA.out⟩
  have q9 : (k == 9) = false := by simp; omega
  have q10 : (k == 10) = false := by simp; omega
  rw [if_neg h9] at HE
  clear h9
  by_cases h3 : k = 3
  · have q3 : (k == 3) = true := by simpa using h3
    rw [if_pos h3] at HE
    clear h3
    go_wp2_with fail
    go_ret
    exact ⟨by rw [HE.out]; rfl, HA.out⟩
  have q3 : (k == 3) = false := by simpa using h3
  rw [if_neg h3] at HE
  clear h3
  by_cases h25 : f = 25
  · have q25 : (f == 25) = true := by simpa using h25
    rw [if_pos h25] at HE
    clear h25
    have eu1' : ((u : Int) == 1) = decide (u = 1) := eu1
    go_wp2_with fail
    go_ret
    exact ⟨by rw [HE.out, ← eu1']; rfl, HA.out⟩
  · have q25 : (f == 25) = false := by simpa using h25
    rw [if_neg h25] at HE
    clear h25
    go_wp2_with (go_at_call 65; refine (HH.out _ u HU.out).mono ?_; rintro r w1 ⟨rfl, rfl⟩)
    go_ret
    exact ⟨by rw [HE.out]; rfl, HA.out⟩

set_option maxRecDepth 10000 in
set_option maxHeartbeats 1600000 in
theorem rightV_any {w : World} (hF : Ft w) (hS : Sz w) (y : WLay) (hy : Rd w w.heap.size y.a y.x.b) (hu : y.x.u < two64) (hb : y.x.b.length ≤ 9223372036854775807) (wide : Bool) :
    Calls Tryd.prog 18 #[.agg #[.int .i64 y.x.form, .int .u64 (y.x.u : Int), .int .i64 y.x.s, .slice y.a y.x.b.length y.c, .string ⟨y.x.t.toArray⟩], .bool wide] w fun r w' => r = .returned (.bool (rightV y.x wide)) ∧ Below w.heap.size w w' := by
  have HE := Lib.hid (show rightV y.x wide = (!decide (kindF y.x.form = 0) && (sameV y.x (aloneV y.x) && fitsV y.x wide)) from rfl)
  have hmf : ∀ (fn : Fn) (first cap : Array Value) (W : World), (Instr.makeFunc fn first cap).run Tryd.prog W = .ok (.func fn first cap) W := fun _ _ _ _ => rfl
  have hA := (Below.refl w.heap.size w).alloc (Nat.le_refl _) (.cells #[.int .i64 y.x.form, .int .u64 (y.x.u : Int), .int .i64 y.x.s, .slice y.a y.x.b.length y.c, .string ⟨y.x.t.toArray⟩] 33)
  have HA := Lib.hid hA
  have hXA := Box.new w 33 #[.int .i64 y.x.form, .int .u64 (y.x.u : Int), .int .i64 y.x.s, .slice y.a y.x.b.length y.c, .string ⟨y.x.t.toArray⟩]
  have HK := Lib.hid (fun W (hW : Below w.heap.size w W) => kind_any (hF.up hW) y.x.form)
  have HV := Lib.hid (fun W (hW : Below w.heap.size w W) => value_h (hF.up hW) y)
  by_cases h0 : kindF y.x.form = 0
  · have HR := Lib.hid (show rightV y.x wide = false by rw [HE.out, decide_eq_true h0]; rfl)
    have HK0 := Lib.hid (fun W (hW : Below w.heap.size w W) => (by have := HK.out W hW; rwa [h0] at this : Calls Tryd.prog 14 #[.int .i64 y.x.form] W fun r w' => r = .returned (.int .i64 0) ∧ W = w'))
    clear hA hXA HK HV hF hS hy hu hb h0 HE
    generalize y.x.b.length = bn at *
    go_enter Tryd.func18, Tryd.ntmps18
    go_wp2_with (go_at_call 14; refine (HK0.out _ HA.out).mono ?_; rintro r w1 ⟨rfl, rfl⟩)
    go_ret
    exact ⟨by rw [HR.out]; rfl, HA.out⟩
  · have HF := Lib.hid (fun W (hW : Below w.heap.size w W) => fits_any (hF.up hW) (hS.below hW hS.pos) y h0 hu hb wide)
    have HR := Lib.hid (show rightV y.x wide = (sameV y.x (aloneV y.x) && fitsV y.x wide) by rw [HE.out, decide_eq_false h0]; rfl)
    have q0 : (kindF y.x.form == 0) = false := by simpa using h0
    have HSM := Lib.hid (fun W (hW : Below w.heap.size w W) (A : Option Addr) (c : Nat) (h : ((aloneV y.x).b = [] ∧ A = none ∧ c = 0) ∨ ((aloneV y.x).b = y.x.b ∧ A = y.a ∧ c = y.c)) =>
      sameV_any (w := W) y ⟨aloneV y.x, A, c⟩ ((hy.below hW).more hW.size) (by
        rcases h with ⟨h1, h2, h3⟩ | ⟨h1, h2, h3⟩
        · rw [h1]; exact fun h => absurd h (by decide)
        · rw [h1, h2]; exact (hy.below hW).more hW.size))
    clear hA hF hS hy hu hb h0 HE
    obtain ⟨bn, hbn⟩ : ∃ bn, y.x.b.length = bn := ⟨_, rfl⟩
    have HBN := Lib.hid hbn
    rw [hbn] at HA HF HV HSM hXA ⊢
    obtain ⟨ts, hts⟩ : ∃ ts : ByteArray, ts = ⟨y.x.t.toArray⟩ := ⟨_, rfl⟩
    rw [← hts] at HA HF HV HSM hXA ⊢
    clear hbn hts
    go_enter Tryd.func18, Tryd.ntmps18
    go_upto_region 3 with (go_at_call 14; refine (HK.out _ HA.out).mono ?_; rintro r w1 ⟨rfl, rfl⟩)
    generalize hw1 : w.alloc (.cells #[.int .i64 y.x.form, .int .u64 (y.x.u : Int), .int .i64 y.x.s, .slice y.a bn y.c, .string ts] 33) = w1 at *
    obtain ⟨x0, x1, x2, x3, x4⟩ := five_cellsR hXA
    have hA2 := (Below.refl w1.heap.size w1).alloc (Nat.le_refl _) (.cells #[.int .i64 y.x.form, .int .u64 (y.x.u : Int), .int .i64 y.x.s, .slice y.a bn y.c, .string ts] 76)
    have hX2 := Box.new w1 76 #[.int .i64 y.x.form, .int .u64 (y.x.u : Int), .int .i64 y.x.s, .slice y.a bn y.c, .string ts]
    have hXA2 := hXA.below hA2 hXA.lt
    clear hw1
    go_upto_region 4 with fail
    generalize hw2 : w1.alloc (.cells #[.int .i64 y.x.form, .int .u64 (y.x.u : Int), .int .i64 y.x.s, .slice y.a bn y.c, .string ts] 76) = w2 at *
    have HB2 := Lib.hid (HA.out.trans (hA2.mono HA.out.size))
    have HXA2 := Lib.hid hXA2
    clear hw2 x0 x1 x2 x3 x4 hXA
    obtain ⟨x0, x1, x2, x3, x4⟩ := five_cellsR hXA2
    obtain ⟨y0, y1, y2, y3, y4⟩ := five_cellsR hX2
    clear hA2 hX2 hXA2
    generalize w1.heap.size = H2 at *
    go_upto_region 5 with (go_at_call 25; refine (HV.out _ HB2.out).mono ?_; rintro r w3 ⟨⟨A3, c3, rfl, hor⟩, hb3⟩; have HOR := Lib.hid hor; have HB3 := Lib.hid (HB2.out.trans (hb3.mono HB2.out.size)); have HXA3 := Lib.hid (HXA2.out.below hb3 HXA2.out.lt); clear hb3 hor)
    have hA4 := (Below.refl w3.heap.size w3).alloc (Nat.le_refl _) (.cells #[.int .i64 (aloneV y.x).form, .int .u64 ((aloneV y.x).u : Int), .int .i64 (aloneV y.x).s, .slice A3 (aloneV y.x).b.length c3, .string ⟨(aloneV y.x).t.toArray⟩] 33)
    have hX4 := Box.new w3 33 #[.int .i64 (aloneV y.x).form, .int .u64 ((aloneV y.x).u : Int), .int .i64 (aloneV y.x).s, .slice A3 (aloneV y.x).b.length c3, .string ⟨(aloneV y.x).t.toArray⟩]
    generalize hw4 : w3.alloc (.cells #[.int .i64 (aloneV y.x).form, .int .u64 ((aloneV y.x).u : Int), .int .i64 (aloneV y.x).s, .slice A3 (aloneV y.x).b.length c3, .string ⟨(aloneV y.x).t.toArray⟩] 33) = w4 at *
    have HB4 := Lib.hid (HB3.out.trans (hA4.mono HB3.out.size))
    have hXA4 := HXA3.out.below hA4 HXA3.out.lt
    have HXA4 := Lib.hid hXA4
    have HS5 := Lib.hid (HSM.out _ HB4.out A3 c3 HOR.out)
    clear hw4 x0 x1 x2 x3 x4 y0 y1 y2 y3 y4 HSM HOR HXA2 HXA3
    obtain ⟨x0, x1, x2, x3, x4⟩ := five_cellsR hXA4
    obtain ⟨y0, y1, y2, y3, y4⟩ := five_cellsR hX4
    clear hA4 hX4 hXA4
    generalize w3.heap.size = H4 at *
    generalize sameV y.x (aloneV y.x) = sv at *
    generalize (aloneV y.x).b.length = an at *
    generalize (ByteArray.mk (aloneV y.x).t.toArray) = at_ at *
    generalize (aloneV y.x).form = af at *
    generalize (aloneV y.x).u = au at *
    generalize (aloneV y.x).s = as_ at *
    cases sv with
    | false =>
      go_wp2_with (go_at_call 20; refine HS5.out.mono ?_; rintro r w5 ⟨rfl, hb5⟩; have HB5 := Lib.hid (HB4.out.trans (hb5.mono HB4.out.size)); clear hb5)
      go_ret
      exact ⟨by rw [HR.out]; rfl, HB5.out⟩
    | true =>
      go_wp2_with (first
        | (go_at_call 20; refine HS5.out.mono ?_; rintro r w5 ⟨rfl, hb5⟩; have HB5 := Lib.hid (HB4.out.trans (hb5.mono HB4.out.size)); (obtain ⟨z0, z1, z2, z3, z4⟩ := five_cellsR (HXA4.out.below hb5 HXA4.out.lt)); clear hb5)
        | (go_at_call 45; refine (HF.out _ HB5.out).mono ?_; rintro r w6 ⟨rfl, hb6⟩; have HB6 := Lib.hid (HB5.out.trans (hb6.mono HB5.out.size)); clear hb6))
      go_ret
      exact ⟨by rw [HR.out]; rfl, HB6.out⟩

end Go.Proofs.YtpmndmbhkfbljaaDoor
