/-
  Package raw: Take.
-/
import Derived.Test.YtejicboemkpeoaaGreatDoorRwB
import Derived.Test.YtejicboemkpeoaaGreatDoorAbK
import Derived.Test.YtejicboemkpeoaaGreatDoorCsL
import Derived.Test.YtejicboemkpeoaaGreatDoorSeR
import Derived.Test.YtejicboemkpeoaaGreatDoorSyA
import Derived.Deep.DeepCutAuto
import Derived.Deep.LoopGhost
namespace Go.Proofs.YtejicboemkpeoaaGreatDoor
open Go Go.RowKit

/-- A value as its form has it. -/
structure RV where
  form : Int
  u : Nat
  s : Int
  b : List UInt8
  t : List UInt8
def zeroV : RV := ⟨0, 0, 0, [], []⟩
/-- A number of so many bytes, of U for -1. -/
def tN (l : List UInt8) (z : Int) (s : CSt) : Nat := if z = -1 then tU l s else leNat (nextGot l s.1 s.2 (clampOf z))
def sN (l : List UInt8) (z : Int) (s : CSt) : CSt := if z = -1 then sU l s else (nextAt l s.1 s.2 (clampOf z), nextErr l s.1 s.2 (clampOf z))
def numW (l : List UInt8) (f : Int) (wide : Bool) (s : CSt) : Nat × CSt := if f = 25 then (1, s) else (tN l (widF f wide) s, sN l (widF f wide) s)
def sgnW (l : List UInt8) (f imp : Int) (s : CSt) : Int × CSt := if f = 33 then (imp, s) else (tS l s, sS l s)
/-- How many bytes, and where they begin. -/
def lenW (l : List UInt8) (f : Int) (wide : Bool) (s : CSt) : Nat × CSt := if f = 30 then (16, s) else numW l f wide s
def capW (n : Nat) (s : CSt) : CSt := if 65536 < n then sF s 3 else s
def gotW (l : List UInt8) (n : Nat) (s : CSt) : List UInt8 × CSt := (nextGot l s.1 s.2 n, (nextAt l s.1 s.2 n, nextErr l s.1 s.2 n))
def blkW (l : List UInt8) (f : Int) (wide : Bool) (s : CSt) : List UInt8 × CSt := gotW l (lenW l f wide s).1 (capW (lenW l f wide s).1 (lenW l f wide s).2)
def txtW (l : List UInt8) (s : CSt) : List UInt8 × CSt := ((takeT (l.drop s.1) s.2).1, (s.1 + (takeT (l.drop s.1) s.2).2.1, (takeT (l.drop s.1) s.2).2.2))
theorem tN_lt (l : List UInt8) (z : Int) (s : CSt) : tN l z s < two64 := by
  unfold tN
  split
  · exact tU_lt l s
  · refine leNat_64 _ ?_
    have h8 := clampOf_le z
    unfold nextGot
    split
    · simp; omega
    · simp
theorem numW_lt (l : List UInt8) (f : Int) (wide : Bool) (s : CSt) : (numW l f wide s).1 < two64 := by
  unfold numW
  split
  · show 1 < two64; unfold two64; omega
  · exact tN_lt _ _ _
theorem widF_in (n : Nat) (hn : n < 45) (wide : Bool) : -9223372036854775808 ≤ widF (n : Int) wide ∧ widF (n : Int) wide ≤ 9223372036854775807 := by
  have h : ∀ m : Fin 45, ∀ b : Bool, -9223372036854775808 ≤ widF ((m : Nat) : Int) b ∧ widF ((m : Nat) : Int) b ≤ 9223372036854775807 := by decide
  exact h ⟨n, hn⟩ wide

/-- A reader, as a value. -/
abbrev rdV (g : Nat) (at_ f imp : Int) (wide : Bool) : Value := .agg #[.pointer (some ⟨g, 0, none⟩), .int .i64 at_, .int .i64 f, .int .i64 imp, .bool wide]
/-- What is asked of the memory: a cursor, and the two tables. -/
structure CT (w : World) (g : Nat) (v : Value) (l : List UInt8) (s : CSt) : Prop where
  c : Cur w g v l s.1 s.2
  f : Ft w
  z : Sz w
section
variable {w w' : World} {g : Nat} {v : Value} {l : List UInt8} {s s' : CSt}
theorem Ft.cur {a : Nat} {e : Int} (h : Ft w) (hC : Cur w g v l a e) : some g ≠ some 2 := by
  rintro hg
  injection hg with hg
  subst hg
  obtain ⟨A, c, rfl, _⟩ := own_slice hC.2.1
  have h0 := hC.1.cell 0
  rw [(h 0 (0, 0) rfl).1] at h0
  simp at h0
theorem CT.below (h : CT w g v l s) (hb : Below w.heap.size w w') : CT w' g v l s := ⟨h.c.below hb, h.f.up hb, h.z.below hb h.z.pos⟩
theorem CT.step (h : CT w g v l s) (hC : Cur w' g v l s'.1 s'.2) (hG : w.grownBy w' (some g)) : CT w' g v l s' := ⟨hC, h.f.grown hG (h.f.cur h.c), h.z.grown hG (h.z.cur h.c)⟩
end

set_option maxRecDepth 10000 in
set_option maxHeartbeats 1600000 in
theorem number_st {w : World} {g : Nat} {v : Value} {l : List UInt8} {s : CSt} (h : CT w g v l s) (hlen : l.length ≤ 140737488355328) {n : Nat} (hn : n < 45) (at_ imp : Int) (wide : Bool) :
    Calls Tryz.prog 168 #[rdV g at_ (n : Int) imp wide] w fun r w' => r = .returned (.int .u64 ((numW l (n : Int) wide s).1 : Int)) ∧ CT w' g v l (numW l (n : Int) wide s).2 ∧ w.grownBy w' (some g) := by
  have HW := Lib.hid (fun W (hW : CT W g v l s) => width_any hW.f hW.z hn wide)
  have HU := Lib.hid (fun W (hW : CT W g v l s) => u_st (s := s) hW.c hlen)
  have HN := Lib.hid (fun W (hW : CT W g v l s) => uint_cur hW.c (widF (n : Int) wide) (widF_in n hn wide) hlen)
  have HE := Lib.hid (show numW l (n : Int) wide s = if (n : Int) = 25 then (1, s) else if widF (n : Int) wide = -1 then (tU l s, sU l s) else (leNat (nextGot l s.1 s.2 (clampOf (widF (n : Int) wide))), (nextAt l s.1 s.2 (clampOf (widF (n : Int) wide)), nextErr l s.1 s.2 (clampOf (widF (n : Int) wide)))) by
    unfold numW tN sN
    split
    · rfl
    · split <;> rfl)
  have hA := (Below.refl w.heap.size w).alloc (Nat.le_refl _) (.cells #[.pointer (some ⟨g, 0, none⟩), .int .i64 at_, .int .i64 (n : Int), .int .i64 imp, .bool wide] 261)
  have HA := Lib.hid hA
  have HC := Lib.hid (h.below hA)
  generalize numW l (n : Int) wide s = R at *
  generalize widF (n : Int) wide = z at *
  clear hA h
  go_enter Tryz.func168, Tryz.ntmps168
  go_upto_region 2 with (go_at_call 146; refine (HW.out _ HC.out).mono ?_; rintro r w1 ⟨rfl, rfl⟩)
  by_cases h25 : (n : Int) = 25
  · have q : ((n : Int) == 25) = true := by simpa using h25
    rw [if_pos h25] at HE
    clear h25
    go_wp2_with fail
    go_ret
    exact ⟨by rw [HE.out]; rfl, by rw [HE.out]; exact HC.out, only_below HA.out _⟩
  · have q : ((n : Int) == 25) = false := by simpa using h25
    rw [if_neg h25] at HE
    clear h25
    by_cases hz : z = -1
    · have q2 : (z == (-1 : Int)) = true := by simpa using hz
      rw [if_pos hz] at HE
      clear hz
      go_wp2_with (go_at_call 90; refine (HU.out _ HC.out).mono ?_; rintro r w2 ⟨rfl, hC2, hG2⟩; have HC2 := Lib.hid (HC.out.step hC2 hG2); have HG2 := Lib.hid hG2; clear hC2 hG2)
      go_ret
      exact ⟨by rw [HE.out]; rfl, by rw [HE.out]; exact HC2.out, (only_below HA.out _).trans HG2.out⟩
    · have q2 : (z == (-1 : Int)) = false := by simpa using hz
      rw [if_neg hz] at HE
      clear hz
      go_wp2_with (go_at_call 135; refine (HN.out _ HC.out).mono ?_; rintro r w2 ⟨rfl, hC2, hG2⟩; have HC2 := Lib.hid (HC.out.step (s' := (_, _)) hC2 hG2); have HG2 := Lib.hid hG2; clear hC2 hG2)
      go_ret
      exact ⟨by rw [HE.out]; rfl, by rw [HE.out]; exact HC2.out, (only_below HA.out _).trans HG2.out⟩

set_option maxRecDepth 10000 in
set_option maxHeartbeats 1600000 in
theorem signed_st {w : World} {g : Nat} {v : Value} {l : List UInt8} {s : CSt} (h : CT w g v l s) (hlen : l.length ≤ 140737488355328) (at_ f imp : Int) (wide : Bool) :
    Calls Tryz.prog 169 #[rdV g at_ f imp wide] w fun r w' => r = .returned (.int .i64 (sgnW l f imp s).1) ∧ CT w' g v l (sgnW l f imp s).2 ∧ w.grownBy w' (some g) := by
  have HU := Lib.hid (fun W (hW : CT W g v l s) => s_st (s := s) hW.c hlen)
  have HE := Lib.hid (show sgnW l f imp s = if f = 33 then (imp, s) else (tS l s, sS l s) from rfl)
  have hA := (Below.refl w.heap.size w).alloc (Nat.le_refl _) (.cells #[.pointer (some ⟨g, 0, none⟩), .int .i64 at_, .int .i64 f, .int .i64 imp, .bool wide] 261)
  have HA := Lib.hid hA
  have HC := Lib.hid (h.below hA)
  generalize sgnW l f imp s = R at *
  clear hA h
  by_cases h33 : f = 33
  · have q : (f == 33) = true := by simpa using h33
    rw [if_pos h33] at HE
    clear h33
    go_enter Tryz.func169, Tryz.ntmps169
    go_wp2_with fail
    go_ret
    exact ⟨by rw [HE.out]; rfl, by rw [HE.out]; exact HC.out, only_below HA.out _⟩
  · have q : (f == 33) = false := by simpa using h33
    rw [if_neg h33] at HE
    clear h33
    go_enter Tryz.func169, Tryz.ntmps169
    go_wp2_with (go_at_call 200; refine (HU.out _ HC.out).mono ?_; rintro r w2 ⟨rfl, hC2, hG2⟩; have HC2 := Lib.hid (HC.out.step hC2 hG2); have HG2 := Lib.hid hG2; clear hC2 hG2)
    go_ret
    exact ⟨by rw [HE.out]; rfl, by rw [HE.out]; exact HC2.out, (only_below HA.out _).trans HG2.out⟩

set_option maxRecDepth 10000 in
set_option maxHeartbeats 1600000 in
theorem text_st {w : World} {g : Nat} {v : Value} {l : List UInt8} {s : CSt} (h : CT w g v l s) (hlen : l.length ≤ 140737488355328) (at_ f imp : Int) (wide : Bool) :
    Calls Tryz.prog 171 #[rdV g at_ f imp wide] w fun r w' => r = .returned (.string ⟨(txtW l s).1.toArray⟩) ∧ CT w' g v l (txtW l s).2 ∧ w.grownBy w' (some g) := by
  have HU := Lib.hid (fun W (hW : CT W g v l s) => take_cur hW.c hlen)
  have hA := (Below.refl w.heap.size w).alloc (Nat.le_refl _) (.cells #[.pointer (some ⟨g, 0, none⟩), .int .i64 at_, .int .i64 f, .int .i64 imp, .bool wide] 261)
  have HA := Lib.hid hA
  have HC := Lib.hid (h.below hA)
  have HE := Lib.hid (show txtW l s = ((takeT (l.drop s.1) s.2).1, (s.1 + (takeT (l.drop s.1) s.2).2.1, (takeT (l.drop s.1) s.2).2.2)) from rfl)
  generalize takeT (l.drop s.1) s.2 = T at *
  generalize txtW l s = R at *
  clear hA h
  go_enter Tryz.func171, Tryz.ntmps171
  go_wp2_with (go_at_call 202; refine (HU.out _ HC.out).mono ?_; rintro r w2 ⟨rfl, hC2, hG2⟩; have HC2 := Lib.hid (HC.out.step (s' := (_, _)) hC2 hG2); have HG2 := Lib.hid hG2; clear hC2 hG2)
  go_ret
  exact ⟨by rw [HE.out]; rfl, by rw [HE.out]; exact HC2.out, (only_below HA.out _).trans HG2.out⟩

set_option maxRecDepth 10000 in
set_option maxHeartbeats 1600000 in
theorem block_st {w : World} {g : Nat} {v : Value} {l : List UInt8} {s : CSt} (h : CT w g v l s) (hlen : l.length ≤ 140737488355328) {n : Nat} (hn : n < 45) (at_ imp : Int) (wide : Bool) :
    Calls Tryz.prog 170 #[rdV g at_ (n : Int) imp wide] w fun r w' => ∃ u, r = .returned u ∧ Own w' w.heap.size u (blkW l (n : Int) wide s).1 ∧ CT w' g v l (blkW l (n : Int) wide s).2 ∧ w.grownBy w' (some g) := by
  have hA := (Below.refl w.heap.size w).alloc (Nat.le_refl _) (.cells #[.pointer (some ⟨g, 0, none⟩), .int .i64 at_, .int .i64 (n : Int), .int .i64 imp, .bool wide] 261)
  have HA := Lib.hid hA
  have HC := Lib.hid (h.below hA)
  have HGW := Lib.hid (show g < w.heap.size from h.c.1.lt)
  have HX := Lib.hid (Box.new w 261 #[.pointer (some ⟨g, 0, none⟩), .int .i64 at_, .int .i64 (n : Int), .int .i64 imp, .bool wide])
  have HNM := Lib.hid (fun W (hW : CT W g v l s) => number_st hW hlen hn at_ imp wide)
  have HEL := Lib.hid (show lenW l (n : Int) wide s = if (n : Int) = 30 then (16, s) else numW l (n : Int) wide s from rfl)
  have HLT := Lib.hid (show (lenW l (n : Int) wide s).1 < two64 by
    unfold lenW
    split
    · show 16 < two64; unfold two64; omega
    · exact numW_lt _ _ _ _)
  have HEB := Lib.hid (show blkW l (n : Int) wide s = gotW l (lenW l (n : Int) wide s).1 (capW (lenW l (n : Int) wide s).1 (lenW l (n : Int) wide s).2) from rfl)
  generalize blkW l (n : Int) wide s = R at *
  generalize numW l (n : Int) wide s = N at *
  obtain ⟨M, s1, hM⟩ : ∃ M s1, lenW l (n : Int) wide s = (M, s1) := ⟨_, _, rfl⟩
  rw [hM] at HEL HLT HEB
  have HF := Lib.hid (fun W (hW : CT W g v l s1) => f_st (s := s1) hW.c 3)
  have HBY := Lib.hid (fun W s2 (hW : CT W g v l s2) => bytes_cur hW.c M hlen)
  simp only at HLT HEB
  clear hA h hM
  by_cases h30 : (n : Int) = 30
  · have q : ((n : Int) != 30) = false := by simpa using h30
    have hel := HEL.out
    rw [if_pos h30] at hel
    obtain ⟨rfl, rfl⟩ := Prod.mk.inj hel
    have HB16 := Lib.hid (fun W (hW : CT W g v l s1) => (HBY.out W s1 hW : Calls Tryz.prog 201 #[.pointer (some ⟨g, 0, none⟩), .int .u64 16] W fun r w' =>
      ∃ u, r = .returned u ∧ Own w' W.heap.size u (nextGot l s1.1 s1.2 16) ∧ Cur w' g v l (nextAt l s1.1 s1.2 16) (nextErr l s1.1 s1.2 16) ∧ W.grownBy w' (some g)))
    have HEC := Lib.hid (show R = (nextGot l s1.1 s1.2 16, (nextAt l s1.1 s1.2 16, nextErr l s1.1 s1.2 16)) from HEB.out)
    clear h30 hel HEL HBY HEB HNM HF
    go_enter Tryz.func170, Tryz.ntmps170
    go_wp2_with (go_at_call 201; refine (HB16.out _ HC.out).mono ?_; rintro r w2 ⟨u, rfl, hO2, hC2, hG2⟩; have HO2 := Lib.hid hO2; have HC2 := Lib.hid (HC.out.step (s' := (_, _)) hC2 hG2); have HG2 := Lib.hid hG2; clear hO2 hC2 hG2)
    go_ret
    exact ⟨_, rfl, by rw [HEC.out]; exact own_base HO2.out HA.out.size, by rw [HEC.out]; exact HC2.out, (only_below HA.out _).trans HG2.out⟩
  have q : ((n : Int) != 30) = true := by simpa using h30
  have hel := HEL.out
  rw [if_neg h30] at hel
  subst hel
  simp only at HNM
  clear h30 HEL
  go_enter Tryz.func170, Tryz.ntmps170
  go_upto_region 4 with (go_at_call 168; refine (HNM.out _ HC.out).mono ?_; rintro r w2 ⟨rfl, hC2, hG2⟩; have HC2 := Lib.hid hC2; have HG2 := Lib.hid hG2; have HX2 := Lib.hid (HX.out.grown hG2 (by have := HGW.out; simp; omega)); clear hC2 hG2)
  have HG02 := Lib.hid ((only_below HA.out (some g)).trans HG2.out)
  have p0 := HX2.out.cell 0
  simp at p0
  by_cases hbig : 65536 < M
  · have d : decide ((65536 : Int) < (M : Int)) = true := by simp; omega
    have HEC := Lib.hid (show R = gotW l M (sF s1 3) by rw [HEB.out]; unfold capW; rw [if_pos hbig])
    clear hbig HEB
    go_upto_region 6 with (go_at_call 54; refine (HF.out _ HC2.out).mono ?_; rintro r w3 ⟨rfl, hC3, hG3⟩; have HC3 := Lib.hid (HC2.out.step hC3 hG3); have HG3 := Lib.hid hG3; have HX3 := Lib.hid (HX2.out.grown hG3 (by have := HGW.out; simp; omega)); clear hC3 hG3)
    clear p0
    have p0 := HX3.out.cell 0
    simp at p0
    go_wp2_with (go_at_call 201; refine (HBY.out _ _ HC3.out).mono ?_; rintro r w4 ⟨u, rfl, hO4, hC4, hG4⟩; have HO4 := Lib.hid hO4; have HC4 := Lib.hid (HC3.out.step (s' := (_, _)) hC4 hG4); have HG4 := Lib.hid hG4; clear hO4 hC4 hG4)
    go_ret
    exact ⟨_, rfl, by rw [HEC.out]; exact own_base HO4.out (HG02.out.trans HG3.out).size, by rw [HEC.out]; exact HC4.out, (HG02.out.trans HG3.out).trans HG4.out⟩
  · have d : decide ((65536 : Int) < (M : Int)) = false := by simp; omega
    have HEC := Lib.hid (show R = gotW l M s1 by rw [HEB.out]; unfold capW; rw [if_neg hbig])
    clear hbig HEB
    go_wp2_with (go_at_call 201; refine (HBY.out _ _ HC2.out).mono ?_; rintro r w4 ⟨u, rfl, hO4, hC4, hG4⟩; have HO4 := Lib.hid hO4; have HC4 := Lib.hid (HC2.out.step (s' := (_, _)) hC4 hG4); have HG4 := Lib.hid hG4; clear hO4 hC4 hG4)
    go_ret
    exact ⟨_, rfl, by rw [HEC.out]; exact own_base HO4.out HG02.out.size, by rw [HEC.out]; exact HC4.out, HG02.out.trans HG4.out⟩

/-! ### The form ahead -/
def aheadW (l : List UInt8) (s : CSt) : Nat := if 45 ≤ tU l s ∨ tU l s = 33 then 0 else tU l s
set_option maxRecDepth 10000 in
set_option maxHeartbeats 1600000 in
theorem ahead_st {w : World} {g : Nat} {v : Value} {l : List UInt8} {s : CSt} (h : CT w g v l s) (hlen : l.length ≤ 140737488355328) :
    Calls Tryz.prog 165 #[.pointer (some ⟨g, 0, none⟩)] w fun r w' => r = .returned (.int .i64 (aheadW l s : Int)) ∧ CT w' g v l (sU l s) ∧ w.grownBy w' (some g) := by
  have HU := Lib.hid (u_st (s := s) h.c hlen)
  have HE := Lib.hid (show aheadW l s = if 45 ≤ tU l s ∨ tU l s = 33 then 0 else tU l s from rfl)
  have HC := Lib.hid h
  generalize aheadW l s = R at *
  generalize tU l s = n at *
  generalize sU l s = s1 at *
  clear h
  by_cases h45 : 45 ≤ n
  · have d : decide ((45 : Int) ≤ (n : Int)) = true := by simp; omega
    have HR := Lib.hid (show R = 0 by rw [HE.out, if_pos (.inl h45)])
    clear h45 HE
    go_enter Tryz.func165, Tryz.ntmps165
    go_wp2_with (go_at_call 90; refine HU.out.mono ?_; rintro r w2 ⟨rfl, hC2, hG2⟩; have HC2 := Lib.hid (HC.out.step hC2 hG2); have HG2 := Lib.hid hG2; clear hC2 hG2)
    go_ret
    exact ⟨by rw [HR.out]; rfl, HC2.out, HG2.out⟩
  have d : decide ((45 : Int) ≤ (n : Int)) = false := by simp; omega
  by_cases h33 : n = 33
  · have d2 : ((n : Int) == 33) = true := by simp; omega
    have HR := Lib.hid (show R = 0 by rw [HE.out, if_pos (.inr h33)])
    clear h45 h33 HE
    go_enter Tryz.func165, Tryz.ntmps165
    go_wp2_with (go_at_call 90; refine HU.out.mono ?_; rintro r w2 ⟨rfl, hC2, hG2⟩; have HC2 := Lib.hid (HC.out.step hC2 hG2); have HG2 := Lib.hid hG2; clear hC2 hG2)
    go_ret
    exact ⟨by rw [HR.out]; rfl, HC2.out, HG2.out⟩
  · have d2 : ((n : Int) == 33) = false := by simp; omega
    have HR := Lib.hid (show R = n by rw [HE.out, if_neg (by omega)])
    have hwn : IntKind.i64.wrap (n : Int) = (n : Int) := IntWalk.i64_in _ (by omega)
    clear h45 h33 HE
    go_enter Tryz.func165, Tryz.ntmps165
    go_wp2_with (go_at_call 90; refine HU.out.mono ?_; rintro r w2 ⟨rfl, hC2, hG2⟩; have HC2 := Lib.hid (HC.out.step hC2 hG2); have HG2 := Lib.hid hG2; clear hC2 hG2)
    go_ret
    exact ⟨by rw [HR.out]; rfl, HC2.out, HG2.out⟩

end Go.Proofs.YtejicboemkpeoaaGreatDoor

namespace Go.Proofs.YtejicboemkpeoaaGreatDoor
open Go Go.RowKit

/-- What is read of a form that has a kind. -/
def readW (l : List UInt8) (f imp : Int) (wide : Bool) (s : CSt) : RV × CSt :=
  if kindF f = 5 then (⟨f, 0, 0, [], (txtW l s).1⟩, (txtW l s).2)
  else if kindF f = 9 ∨ kindF f = 10 then (⟨f, 0, 0, (blkW l f wide s).1, []⟩, (blkW l f wide s).2)
  else if kindF f = 3 then (⟨f, 0, (sgnW l f imp s).1, [], []⟩, (sgnW l f imp s).2)
  else (⟨f, (numW l f wide s).1, 0, [], []⟩, (numW l f wide s).2)
/-- A value in memory: with where its bytes are. -/
structure WLay where
  x : RV
  a : Option Addr
  c : Nat
def WLay.cells (y : WLay) : List Value := [.int .i64 y.x.form, .int .u64 (y.x.u : Int), .int .i64 y.x.s, .slice y.a y.x.b.length y.c, .string ⟨y.x.t.toArray⟩]
def WLay.val (y : WLay) : Value := .agg y.cells.toArray
/-- A value that was told, its bytes of the call's own. -/
def RawIs (B : Nat) (w' : World) (x : RV) (r : Ending) : Prop := ∃ A c, r = .returned (.agg #[.int .i64 x.form, .int .u64 (x.u : Int), .int .i64 x.s, .slice A x.b.length c, .string ⟨x.t.toArray⟩]) ∧ Own w' B (.slice A x.b.length c) x.b

section
variable {W : World} {H : Nat} {T : TypeId}
theorem five_cellsR {c0 c1 c2 c3 c4 : Value} (h : Box W H T #[c0, c1, c2, c3, c4]) : W.cell? ⟨H, 0, none⟩ = some c0 ∧ W.cell? ⟨H, 1, none⟩ = some c1 ∧ W.cell? ⟨H, 2, none⟩ = some c2 ∧ W.cell? ⟨H, 3, none⟩ = some c3 ∧ W.cell? ⟨H, 4, none⟩ = some c4 := by
  refine ⟨?_, ?_, ?_, ?_, ?_⟩ <;> (rw [h.cell]; rfl)
theorem five_freeR {cs : Array Value} (h : Box W H T cs) : W.frozen? ⟨H, 0, none⟩ = false ∧ W.frozen? ⟨H, 1, none⟩ = false ∧ W.frozen? ⟨H, 2, none⟩ = false ∧ W.frozen? ⟨H, 3, none⟩ = false ∧ W.frozen? ⟨H, 4, none⟩ = false :=
  ⟨h.free 0, h.free 1, h.free 2, h.free 3, h.free 4⟩
theorem five_boxR {cs : Array Value} (h : Box W H T cs) (hs : cs.size = 5) (v0 v1 v2 v3 v4 : Value) :
    Box (((((W.setCell ⟨H, 0, none⟩ v0).setCell ⟨H, 1, none⟩ v1).setCell ⟨H, 2, none⟩ v2).setCell ⟨H, 3, none⟩ v3).setCell ⟨H, 4, none⟩ v4) H T #[v0, v1, v2, v3, v4] := by
  obtain ⟨l⟩ := cs
  match l, hs with
  | [c0, c1, c2, c3, c4], _ => simpa using ((((h.set 0 v0).set 1 v1).set 2 v2).set 3 v3).set 4 v4
theorem five_onlyR (W : World) (H : Nat) (v0 v1 v2 v3 v4 : Value) :
    W.grownBy (((((W.setCell ⟨H, 0, none⟩ v0).setCell ⟨H, 1, none⟩ v1).setCell ⟨H, 2, none⟩ v2).setCell ⟨H, 3, none⟩ v3).setCell ⟨H, 4, none⟩ v4) (some H) :=
  only_set (only_set (only_set (only_set (only_set (only_refl W (some H)) 0 v0) 1 v1) 2 v2) 3 v3) 4 v4
end

/-! ### A cursor, the tables, a value that is made, and the result's cell -/
section
variable {W W' : World} {H B : Nat} {T : TypeId} {g : Nat} {v : Value} {l : List UInt8} {s : CSt} {cs : Array Value}
theorem CT.past (h : CT W g v l s) (hX : Box W H T cs) (hT : 5 ≠ T) (hb : W.grownBy W' (some H)) (hg : g < H) (hf : 2 < H) (hz : 3 < H) : CT W' g v l s :=
  ⟨h.c.grown hb (fun e => by injection e with e; have := hg; omega) (.inr (own_other h.c.2.1 hX hT)), h.f.grown hb (fun e => by injection e with e; have := hf; omega), h.z.grown hb (fun e => by injection e with e; have := hz; omega)⟩
theorem own_pastR {b : Value} {bl : List UInt8} (h : Own W B b bl) (hX : Box W H T cs) (hT : 5 ≠ T) (hb : W.grownBy W' (some H)) : Own W' B b bl :=
  World.ownsRow.kept h hb (.inr (own_other h hX hT))
end
theorem own_nilR (w : World) (B : Nat) : Own w B (.slice none 0 0) [] := World.ownsRow_nil _ _ _ _
/-- Where things are: the cursor's block and the tables ahead of the two structs' blocks. -/
structure Apt (w : World) (g H0 H1 : Nat) : Prop where
  g : g < w.heap.size
  f : 2 < w.heap.size
  z : 3 < w.heap.size
  h0 : w.heap.size ≤ H0
  h1 : w.heap.size ≤ H1
  ne : H0 ≠ H1
structure VSt (w wx : World) (g : Nat) (v : Value) (l : List UInt8) (s : CSt) (H0 H1 : Nat) (cs : Array Value) (b : Value) (bl : List UInt8) : Prop where
  ct : CT wx g v l s
  x : Box wx H1 63 cs
  r : Box wx H0 63 #[.int .i64 0, .int .u64 0, .int .i64 0, .slice none 0 0, .string ⟨#[]⟩]
  row : Own wx w.heap.size b bl
  gr : w.grownBy wx (some g)
section
variable {w wx wy : World} {g : Nat} {v : Value} {l : List UInt8} {s s' : CSt} {H0 H1 : Nat} {cs : Array Value} {b b' : Value} {bl bl' : List UInt8}
theorem VSt.call (h : VSt w wx g v l s H0 H1 cs b bl) (ha : Apt w g H0 H1) (hC : CT wy g v l s') (hG : wx.grownBy wy (some g)) (hO : Own wy w.heap.size b' bl') : VSt w wy g v l s' H0 H1 cs b' bl' :=
  ⟨hC, h.x.grown hG (fun e => by injection e with e; have := ha.g; have := ha.h1; omega), h.r.grown hG (fun e => by injection e with e; have := ha.g; have := ha.h0; omega), hO, h.gr.trans hG⟩
theorem VSt.set (h : VSt w wx g v l s H0 H1 cs b bl) (ha : Apt w g H0 H1) (i : Nat) (u : Value) : VSt w (wx.setCell ⟨H1, i, none⟩ u) g v l s H0 H1 (cs.setIfInBounds i u) b bl := by
  have G : wx.grownBy (wx.setCell ⟨H1, i, none⟩ u) (some H1) := only_set (only_refl wx (some H1)) i u
  exact ⟨h.ct.past h.x (by decide) G (by have := ha.g; have := ha.h1; omega) (by have := ha.f; have := ha.h1; omega) (by have := ha.z; have := ha.h1; omega), h.x.set i u,
    h.r.grown G (fun e => by injection e with e; exact ha.ne e), own_pastR h.row h.x (by decide) G, only_trans h.gr G (.inr fun x hx => by injection hx with hx; have := ha.h1; omega)⟩
/-- The result's cell written. -/
theorem VSt.told (h : VSt w wx g v l s H0 H1 cs b bl) (ha : Apt w g H0 H1) (v0 v1 v2 v3 v4 : Value) :
    Box (((((wx.setCell ⟨H0, 0, none⟩ v0).setCell ⟨H0, 1, none⟩ v1).setCell ⟨H0, 2, none⟩ v2).setCell ⟨H0, 3, none⟩ v3).setCell ⟨H0, 4, none⟩ v4) H0 63 #[v0, v1, v2, v3, v4] ∧
    CT (((((wx.setCell ⟨H0, 0, none⟩ v0).setCell ⟨H0, 1, none⟩ v1).setCell ⟨H0, 2, none⟩ v2).setCell ⟨H0, 3, none⟩ v3).setCell ⟨H0, 4, none⟩ v4) g v l s ∧
    Own (((((wx.setCell ⟨H0, 0, none⟩ v0).setCell ⟨H0, 1, none⟩ v1).setCell ⟨H0, 2, none⟩ v2).setCell ⟨H0, 3, none⟩ v3).setCell ⟨H0, 4, none⟩ v4) w.heap.size b bl ∧
    w.grownBy (((((wx.setCell ⟨H0, 0, none⟩ v0).setCell ⟨H0, 1, none⟩ v1).setCell ⟨H0, 2, none⟩ v2).setCell ⟨H0, 3, none⟩ v3).setCell ⟨H0, 4, none⟩ v4) (some g) := by
  have G := five_onlyR wx H0 v0 v1 v2 v3 v4
  exact ⟨five_boxR h.r rfl _ _ _ _ _, h.ct.past h.r (by decide) G (by have := ha.g; have := ha.h0; omega) (by have := ha.f; have := ha.h0; omega) (by have := ha.z; have := ha.h0; omega), own_pastR h.row h.r (by decide) G, only_trans h.gr G (.inr fun x hx => by injection hx with hx; have := ha.h0; omega)⟩
theorem VSt.cells {c0 c1 c2 c3 c4 : Value} (h : VSt w wx g v l s H0 H1 #[c0, c1, c2, c3, c4] b bl) : wx.cell? ⟨H1, 0, none⟩ = some c0 ∧ wx.cell? ⟨H1, 1, none⟩ = some c1 ∧ wx.cell? ⟨H1, 2, none⟩ = some c2 ∧ wx.cell? ⟨H1, 3, none⟩ = some c3 ∧ wx.cell? ⟨H1, 4, none⟩ = some c4 := five_cellsR h.x
end

set_option maxRecDepth 10000 in
set_option maxHeartbeats 3200000 in
theorem value_st {w : World} {g : Nat} {v : Value} {l : List UInt8} {s : CSt} (h : CT w g v l s) (hlen : l.length ≤ 140737488355328) {n : Nat} (hn : n < 45) (at_ imp : Int) (wide : Bool) :
    Calls Tryz.prog 167 #[.int .i64 (n : Int), .func (.func 168) #[rdV g at_ (n : Int) imp wide] #[], .func (.func 169) #[rdV g at_ (n : Int) imp wide] #[], .func (.func 170) #[rdV g at_ (n : Int) imp wide] #[], .func (.func 171) #[rdV g at_ (n : Int) imp wide] #[]] w fun r w' =>
      RawIs w.heap.size w' (readW l (n : Int) imp wide s).1 r ∧ CT w' g v l (readW l (n : Int) imp wide s).2 ∧ w.grownBy w' (some g) := by
  have HGW := Lib.hid (show g < w.heap.size from h.c.1.lt)
  have HK := Lib.hid (fun W (hW : CT W g v l s) => kind_any hW.f (n : Int))
  have HNU := Lib.hid (fun W (hW : CT W g v l s) => number_st hW hlen hn at_ imp wide)
  have HSG := Lib.hid (fun W (hW : CT W g v l s) => signed_st hW hlen at_ (n : Int) imp wide)
  have HBL := Lib.hid (fun W (hW : CT W g v l s) => block_st hW hlen hn at_ imp wide)
  have HTX := Lib.hid (fun W (hW : CT W g v l s) => text_st hW hlen at_ (n : Int) imp wide)
  have HE := Lib.hid (show readW l (n : Int) imp wide s = if kindF (n : Int) = 5 then (⟨(n : Int), 0, 0, [], (txtW l s).1⟩, (txtW l s).2)
    else if kindF (n : Int) = 9 ∨ kindF (n : Int) = 10 then (⟨(n : Int), 0, 0, (blkW l (n : Int) wide s).1, []⟩, (blkW l (n : Int) wide s).2)
    else if kindF (n : Int) = 3 then (⟨(n : Int), 0, (sgnW l (n : Int) imp s).1, [], []⟩, (sgnW l (n : Int) imp s).2)
    else (⟨(n : Int), (numW l (n : Int) wide s).1, 0, [], []⟩, (numW l (n : Int) wide s).2) from rfl)
  generalize readW l (n : Int) imp wide s = R at *
  generalize kindF (n : Int) = k at *
  generalize numW l (n : Int) wide s = NU at *
  generalize sgnW l (n : Int) imp s = SG at *
  generalize blkW l (n : Int) wide s = BL at *
  generalize txtW l s = TX at *
  have HC := Lib.hid h
  clear h hlen hn
  go_enter Tryz.func167, Tryz.ntmps167
  go_upto_region 2 with fail
  have HA := Lib.hid (show Apt w g w.heap.size (w.heap.size + 1) from ⟨HGW.out, HC.out.f.pos, HC.out.z.pos, Nat.le_refl _, Nat.le_succ _, by omega⟩)
  generalize hw0 : w.alloc (.cells #[.int .i64 0, .int .u64 0, .int .i64 0, .slice none 0 0, .string ⟨#[]⟩] 63) = w0
  have hs0 : w0.heap.size = w.heap.size + 1 := by rw [← hw0]; simp
  generalize hw1 : w0.alloc (.cells #[.int .i64 (n : Int), .int .u64 0, .int .i64 0, .slice none 0 0, .string ⟨#[]⟩] 63) = w1
  have hX0 := Box.new w 63 #[.int .i64 0, .int .u64 0, .int .i64 0, .slice none 0 0, .string ⟨#[]⟩]
  rw [hw0] at hX0
  have hX1 := Box.new w0 63 #[.int .i64 (n : Int), .int .u64 0, .int .i64 0, .slice none 0 0, .string ⟨#[]⟩]
  rw [hw1, hs0] at hX1
  have hb0 : Below w.heap.size w w0 := hw0 ▸ (Below.refl _ _).alloc (Nat.le_refl _) _
  have hb1 : Below w0.heap.size w0 w1 := hw1 ▸ (Below.refl _ _).alloc (Nat.le_refl _) _
  have hb01 := hb0.trans (hb1.mono hb0.size)
  have HV := Lib.hid (show VSt w w1 g v l s w.heap.size (w.heap.size + 1) #[.int .i64 (n : Int), .int .u64 0, .int .i64 0, .slice none 0 0, .string ⟨#[]⟩] (.slice none 0 0) [] from
    ⟨HC.out.below hb01, hX1, hX0.below hb1 hX0.lt, World.ownsRow_nil _ _ _ _, only_below hb01 _⟩)
  have HS1 := Lib.hid (show w.heap.size ≤ w1.heap.size from hb01.size)
  clear hw0 hs0 hw1 hX0 hX1 hb0 hb1 hb01 HGW HC
  generalize hH1 : w.heap.size + 1 = H1 at *
  generalize hH0 : w.heap.size = H0 at HA HV ⊢
  clear hH1
  go_upto_region 4 with (go_at_call 166; refine (HK.out _ HV.out.ct).mono ?_; rintro r w2 ⟨rfl, rfl⟩)
  by_cases h5 : k = 5
  · have q5 : (k == 5) = true := by simpa using h5
    rw [if_pos h5] at HE
    clear h5
    go_wp2_with (go_at_call 171; refine (HTX.out _ HV.out.ct).mono ?_; rintro r w2 ⟨rfl, hC2, hG2⟩; have HV2 := Lib.hid (HV.out.call HA.out hC2 hG2 (own_nilR _ _)); clear hC2 hG2; have HV3 := Lib.hid (HV2.out.set HA.out 4 (.string ⟨TX.1.toArray⟩)); (obtain ⟨p0, p1, p2, p3, p4⟩ := HV2.out.cells); (obtain ⟨z0, z1, z2, z3, z4⟩ := five_cellsR HV2.out.r); (obtain ⟨f0, f1, f2, f3, f4⟩ := five_freeR HV2.out.r); have hne01 := HA.out.ne; have hne10 := HA.out.ne.symm; (obtain ⟨e0, e1, e2, e3, e4⟩ := five_freeR HV2.out.x))
    refine ret_one Tryz.underlying63 Tryz.results167 (HV3.out.told HA.out _ _ _ _ _).1 (by kernel_rfl) (by rfl) rfl ?_
    obtain ⟨-, t1, t2, t3⟩ := HV3.out.told HA.out (.int .i64 (n : Int)) (.int .u64 0) (.int .i64 0) (.slice none 0 0) (.string ⟨TX.1.toArray⟩)
    exact ⟨⟨none, 0, by rw [HE.out]; rfl, by rw [HE.out]; exact t2⟩, by rw [HE.out]; exact t1, t3⟩
  have q5 : (k == 5) = false := by simpa using h5
  rw [if_neg h5] at HE
  clear h5
  by_cases h9 : k = 9 ∨ k = 10
  · have q9 : (k == 9) = true ∨ (k == 9) = false ∧ (k == 10) = true := by
      rcases h9 with rfl | rfl
      · exact .inl rfl
      · exact .inr ⟨rfl, rfl⟩
    rw [if_pos h9] at HE
    clear h9
    obtain ⟨bn, hbn⟩ : ∃ bn, BL.1.length = bn := ⟨_, rfl⟩
    have HBN := Lib.hid hbn
    clear hbn
    rcases q9 with q9 | ⟨q9, q10⟩
    all_goals
      go_wp2_with (go_at_call 170; refine (HBL.out _ HV.out.ct).mono ?_; rintro r w2 ⟨u, rfl, hO2, hC2, hG2⟩; (obtain ⟨A2, c2, rfl, -, -, -⟩ := own_slice hO2); have HV2 := Lib.hid (HV.out.call HA.out hC2 hG2 (own_base hO2 HS1.out)); rw [HBN.out] at HV2; rw [HBN.out]; clear hO2 hC2 hG2; have HV3 := Lib.hid (HV2.out.set HA.out 3 (.slice A2 bn c2)); (obtain ⟨p0, p1, p2, p3, p4⟩ := HV2.out.cells); (obtain ⟨z0, z1, z2, z3, z4⟩ := five_cellsR HV2.out.r); (obtain ⟨f0, f1, f2, f3, f4⟩ := five_freeR HV2.out.r); have hne01 := HA.out.ne; have hne10 := HA.out.ne.symm; (obtain ⟨e0, e1, e2, e3, e4⟩ := five_freeR HV2.out.x))
      refine ret_one Tryz.underlying63 Tryz.results167 (HV3.out.told HA.out _ _ _ _ _).1 (by kernel_rfl) (by rfl) rfl ?_
      obtain ⟨-, t1, t2, t3⟩ := HV3.out.told HA.out (.int .i64 (n : Int)) (.int .u64 0) (.int .i64 0) (.slice A2 bn c2) (.string ⟨#[]⟩)
      refine ⟨⟨A2, c2, ?_, ?_⟩, by rw [HE.out]; exact t1, t3⟩
      · rw [HE.out]; simp only [HBN.out]; rfl
      · rw [HE.out]; simp only [HBN.out]; exact t2
  have q9 : (k == 9) = false := by simp; omega
  have q10 : (k == 10) = false := by simp; omega
  rw [if_neg h9] at HE
  clear h9
  by_cases h3 : k = 3
  · have q3 : (k == 3) = true := by simpa using h3
    rw [if_pos h3] at HE
    clear h3
    go_wp2_with (go_at_call 169; refine (HSG.out _ HV.out.ct).mono ?_; rintro r w2 ⟨rfl, hC2, hG2⟩; have HV2 := Lib.hid (HV.out.call HA.out hC2 hG2 (own_nilR _ _)); clear hC2 hG2; have HV3 := Lib.hid (HV2.out.set HA.out 2 (.int .i64 SG.1)); (obtain ⟨p0, p1, p2, p3, p4⟩ := HV2.out.cells); (obtain ⟨z0, z1, z2, z3, z4⟩ := five_cellsR HV2.out.r); (obtain ⟨f0, f1, f2, f3, f4⟩ := five_freeR HV2.out.r); have hne01 := HA.out.ne; have hne10 := HA.out.ne.symm; (obtain ⟨e0, e1, e2, e3, e4⟩ := five_freeR HV2.out.x))
    refine ret_one Tryz.underlying63 Tryz.results167 (HV3.out.told HA.out _ _ _ _ _).1 (by kernel_rfl) (by rfl) rfl ?_
    obtain ⟨-, t1, t2, t3⟩ := HV3.out.told HA.out (.int .i64 (n : Int)) (.int .u64 0) (.int .i64 SG.1) (.slice none 0 0) (.string ⟨#[]⟩)
    exact ⟨⟨none, 0, by rw [HE.out]; rfl, by rw [HE.out]; exact t2⟩, by rw [HE.out]; exact t1, t3⟩
  · have q3 : (k == 3) = false := by simpa using h3
    rw [if_neg h3] at HE
    clear h3
    go_wp2_with (go_at_call 168; refine (HNU.out _ HV.out.ct).mono ?_; rintro r w2 ⟨rfl, hC2, hG2⟩; have HV2 := Lib.hid (HV.out.call HA.out hC2 hG2 (own_nilR _ _)); clear hC2 hG2; have HV3 := Lib.hid (HV2.out.set HA.out 1 (.int .u64 (NU.1 : Int))); (obtain ⟨p0, p1, p2, p3, p4⟩ := HV2.out.cells); (obtain ⟨z0, z1, z2, z3, z4⟩ := five_cellsR HV2.out.r); (obtain ⟨f0, f1, f2, f3, f4⟩ := five_freeR HV2.out.r); have hne01 := HA.out.ne; have hne10 := HA.out.ne.symm; (obtain ⟨e0, e1, e2, e3, e4⟩ := five_freeR HV2.out.x))
    refine ret_one Tryz.underlying63 Tryz.results167 (HV3.out.told HA.out _ _ _ _ _).1 (by kernel_rfl) (by rfl) rfl ?_
    obtain ⟨-, t1, t2, t3⟩ := HV3.out.told HA.out (.int .i64 (n : Int)) (.int .u64 (NU.1 : Int)) (.int .i64 0) (.slice none 0 0) (.string ⟨#[]⟩)
    exact ⟨⟨none, 0, by rw [HE.out]; rfl, by rw [HE.out]; exact t2⟩, by rw [HE.out]; exact t1, t3⟩

end Go.Proofs.YtejicboemkpeoaaGreatDoor

namespace Go.Proofs.YtejicboemkpeoaaGreatDoor
open Go Go.RowKit

/-- The form of a value, and the cursor behind it. -/
def formW (l : List UInt8) (f : Int) (s : CSt) : Int × CSt := if f = 22 then ((aheadW l s : Int), sU l s) else (f, s)
/-- What Take tells. -/
def takeW (l : List UInt8) (f imp : Int) (wide : Bool) (s : CSt) : RV × CSt :=
  if kindF (formW l f s).1 = 0 then (zeroV, sF (formW l f s).2 41)
  else if (readW l (formW l f s).1 imp wide (formW l f s).2).2.2 = 0 then readW l (formW l f s).1 imp wide (formW l f s).2
  else (zeroV, (readW l (formW l f s).1 imp wide (formW l f s).2).2)
theorem failOf_ne {e f : Int} (hf : f ≠ 0) : failOf e f ≠ 0 := by
  unfold failOf
  split
  · exact hf
  · assumption

/-- The pair, the result's cell, the cursor and the tables. -/
structure ESt (w wx : World) (g : Nat) (v : Value) (l : List UInt8) (s : CSt) (Hs Hr : Nat) (at_ f imp : Int) : Prop where
  ct : CT wx g v l s
  p : Box wx Hs 125 #[.int .i64 at_, .int .i64 f, .int .i64 imp]
  r : Box wx Hr 63 #[.int .i64 0, .int .u64 0, .int .i64 0, .slice none 0 0, .string ⟨#[]⟩]
  gr : w.grownBy wx (some g)
section
variable {w wx wy : World} {g : Nat} {v : Value} {l : List UInt8} {s s' : CSt} {Hs Hr : Nat} {at_ f f' imp : Int}
theorem ESt.call (h : ESt w wx g v l s Hs Hr at_ f imp) (ha : Apt w g Hs Hr) (hC : CT wy g v l s') (hG : wx.grownBy wy (some g)) : ESt w wy g v l s' Hs Hr at_ f imp :=
  ⟨hC, h.p.grown hG (fun e => by injection e with e; have := ha.g; have := ha.h0; omega), h.r.grown hG (fun e => by injection e with e; have := ha.g; have := ha.h1; omega), h.gr.trans hG⟩
theorem ESt.later (h : ESt w wx g v l s Hs Hr at_ f imp) (hb : Below wx.heap.size wx wy) : ESt w wy g v l s Hs Hr at_ f imp :=
  ⟨h.ct.below hb, h.p.below hb h.p.lt, h.r.below hb h.r.lt, h.gr.trans (only_below hb _)⟩
theorem ESt.set (h : ESt w wx g v l s Hs Hr at_ f imp) (ha : Apt w g Hs Hr) (f' : Int) : ESt w (wx.setCell ⟨Hs, 1, none⟩ (.int .i64 f')) g v l s Hs Hr at_ f' imp := by
  have G : wx.grownBy (wx.setCell ⟨Hs, 1, none⟩ (.int .i64 f')) (some Hs) := only_set (only_refl wx (some Hs)) 1 _
  exact ⟨h.ct.past h.p (by decide) G (by have := ha.g; have := ha.h0; omega) (by have := ha.f; have := ha.h0; omega) (by have := ha.z; have := ha.h0; omega), by simpa using h.p.set 1 (.int .i64 f'),
    h.r.grown G (fun e => by injection e with e; exact ha.ne e.symm), only_trans h.gr G (.inr fun x hx => by injection hx with hx; have := ha.h0; omega)⟩
theorem ESt.told (h : ESt w wx g v l s Hs Hr at_ f imp) (ha : Apt w g Hs Hr) (v0 v1 v2 v3 v4 : Value) :
    Box (((((wx.setCell ⟨Hr, 0, none⟩ v0).setCell ⟨Hr, 1, none⟩ v1).setCell ⟨Hr, 2, none⟩ v2).setCell ⟨Hr, 3, none⟩ v3).setCell ⟨Hr, 4, none⟩ v4) Hr 63 #[v0, v1, v2, v3, v4] ∧
    CT (((((wx.setCell ⟨Hr, 0, none⟩ v0).setCell ⟨Hr, 1, none⟩ v1).setCell ⟨Hr, 2, none⟩ v2).setCell ⟨Hr, 3, none⟩ v3).setCell ⟨Hr, 4, none⟩ v4) g v l s ∧
    (∀ b bl, Own wx w.heap.size b bl → Own (((((wx.setCell ⟨Hr, 0, none⟩ v0).setCell ⟨Hr, 1, none⟩ v1).setCell ⟨Hr, 2, none⟩ v2).setCell ⟨Hr, 3, none⟩ v3).setCell ⟨Hr, 4, none⟩ v4) w.heap.size b bl) ∧
    w.grownBy (((((wx.setCell ⟨Hr, 0, none⟩ v0).setCell ⟨Hr, 1, none⟩ v1).setCell ⟨Hr, 2, none⟩ v2).setCell ⟨Hr, 3, none⟩ v3).setCell ⟨Hr, 4, none⟩ v4) (some g) := by
  have G := five_onlyR wx Hr v0 v1 v2 v3 v4
  exact ⟨five_boxR h.r rfl _ _ _ _ _, h.ct.past h.r (by decide) G (by have := ha.g; have := ha.h1; omega) (by have := ha.f; have := ha.h1; omega) (by have := ha.z; have := ha.h1; omega), fun b bl ho => own_pastR ho h.r (by decide) G, only_trans h.gr G (.inr fun x hx => by injection hx with hx; have := ha.h1; omega)⟩
end
theorem three_cellsR {W : World} {H : Nat} {T : TypeId} {c0 c1 c2 : Value} (h : Box W H T #[c0, c1, c2]) : W.cell? ⟨H, 0, none⟩ = some c0 ∧ W.cell? ⟨H, 1, none⟩ = some c1 ∧ W.cell? ⟨H, 2, none⟩ = some c2 := by
  refine ⟨?_, ?_, ?_⟩ <;> (rw [h.cell]; rfl)

set_option maxRecDepth 10000 in
set_option maxHeartbeats 3200000 in
theorem takeW_st {w : World} {g : Nat} {v : Value} {l : List UInt8} {s : CSt} (h : CT w g v l s) (hlen : l.length ≤ 140737488355328) (at_ f imp : Int) (wide : Bool) :
    Calls Tryz.prog 134 #[.pointer (some ⟨g, 0, none⟩), .agg #[.int .i64 at_, .int .i64 f, .int .i64 imp], .bool wide] w fun r w' =>
      RawIs w.heap.size w' (takeW l f imp wide s).1 r ∧ CT w' g v l (takeW l f imp wide s).2 ∧ w.grownBy w' (some g) := by
  have HGW := Lib.hid (show g < w.heap.size from h.c.1.lt)
  have hmf : ∀ (fn : Fn) (first cap : Array Value) (W : World), (Instr.makeFunc fn first cap).run Tryz.prog W = .ok (.func fn first cap) W := fun _ _ _ _ => rfl
  have HAH := Lib.hid (fun W (hW : CT W g v l s) => ahead_st hW hlen)
  have HK := Lib.hid (fun W s' (hW : CT W g v l s') f' => kind_any hW.f f')
  have HFL := Lib.hid (fun W s' (hW : CT W g v l s') => f_st (s := s') hW.c 41)
  have HVA := Lib.hid (fun W s' (hW : CT W g v l s') (n : Nat) (hn : n < 45) => value_st hW hlen hn at_ imp wide)
  have HER := Lib.hid (fun W s' (hW : CT W g v l s') => err_cur hW.c)
  have HFW := Lib.hid (show formW l f s = if f = 22 then ((aheadW l s : Int), sU l s) else (f, s) from rfl)
  have HTW := Lib.hid (show takeW l f imp wide s = if kindF (formW l f s).1 = 0 then (zeroV, sF (formW l f s).2 41)
    else if (readW l (formW l f s).1 imp wide (formW l f s).2).2.2 = 0 then readW l (formW l f s).1 imp wide (formW l f s).2
    else (zeroV, (readW l (formW l f s).1 imp wide (formW l f s).2).2) from rfl)
  obtain ⟨f', s', hfs⟩ : ∃ f' s', formW l f s = (f', s') := ⟨_, _, rfl⟩
  rw [hfs] at HFW HTW
  simp only at HTW
  generalize takeW l f imp wide s = R at *
  have HC := Lib.hid h
  clear h hfs
  go_enter Tryz.func134, Tryz.ntmps134
  go_upto_region 1 with fail
  have HA := Lib.hid (show Apt w g w.heap.size (w.heap.size + 1) from ⟨HGW.out, HC.out.f.pos, HC.out.z.pos, Nat.le_refl _, Nat.le_succ _, by omega⟩)
  generalize hw0 : w.alloc (.cells #[.int .i64 at_, .int .i64 f, .int .i64 imp] 125) = w0
  have hs0 : w0.heap.size = w.heap.size + 1 := by rw [← hw0]; simp
  generalize hw1 : w0.alloc (.cells #[.int .i64 0, .int .u64 0, .int .i64 0, .slice none 0 0, .string ⟨#[]⟩] 63) = w1
  have hX0 := Box.new w 125 #[.int .i64 at_, .int .i64 f, .int .i64 imp]
  rw [hw0] at hX0
  have hX1 := Box.new w0 63 #[.int .i64 0, .int .u64 0, .int .i64 0, .slice none 0 0, .string ⟨#[]⟩]
  rw [hw1, hs0] at hX1
  have hb0 : Below w.heap.size w w0 := hw0 ▸ (Below.refl _ _).alloc (Nat.le_refl _) _
  have hb1 : Below w0.heap.size w0 w1 := hw1 ▸ (Below.refl _ _).alloc (Nat.le_refl _) _
  have hb01 := hb0.trans (hb1.mono hb0.size)
  have HE := Lib.hid (show ESt w w1 g v l s w.heap.size (w.heap.size + 1) at_ f imp from ⟨HC.out.below hb01, hX0.below hb1 hX0.lt, hX1, only_below hb01 _⟩)
  clear hw0 hs0 hw1 hX0 hX1 hb0 hb1 hb01 HGW HC
  generalize hHr : w.heap.size + 1 = Hr at *
  generalize hHs : w.heap.size = Hs at HA HE ⊢
  have HHS := Lib.hid hHs
  clear hHr hHs
  obtain ⟨p0, p1, p2⟩ := three_cellsR HE.out.p
  have q1 := HE.out.p.free 1
  go_upto_if 11 with fail
  go_cut [] (fun wx => ESt w wx g v l s' Hs Hr at_ f' imp)
  case first =>
    by_cases h22 : f = 22
    · have q : (f == 22) = true := by simpa using h22
      have he := HFW.out
      rw [if_pos h22] at he
      obtain ⟨rfl, rfl⟩ := Prod.mk.inj he
      clear he h22
      go_upto_region 2 with fail
      go_wp2_with (go_at_call 165; refine (HAH.out _ HE.out.ct).mono ?_; rintro r w2 ⟨rfl, hC2, hG2⟩; have HE2 := Lib.hid (HE.out.call HA.out hC2 hG2); (obtain ⟨y0, y1, y2⟩ := three_cellsR HE2.out.p); have y3 := HE2.out.p.free 1; clear hC2 hG2)
      go_meet
      case rel => exact HE2.out.set HA.out _
    · have q : (f == 22) = false := by simpa using h22
      have he := HFW.out
      rw [if_neg h22] at he
      obtain ⟨rfl, rfl⟩ := Prod.mk.inj he
      clear he h22
      go_wp2_with fail
      go_meet
      case rel => exact HE.out
  case rest =>
    have HE3 := Lib.hid hcut
    clear hcut p0 p1 p2 q1 HE HFW HAH
    obtain ⟨p0, p1, p2⟩ := three_cellsR HE3.out.p
    obtain ⟨k, hk⟩ : ∃ k, kindF f' = k := ⟨_, rfl⟩
    have HKK := Lib.hid hk
    rw [hk] at HTW
    by_cases h0 : k = 0
    · have q : (k == 0) = true := by simpa using h0
      rw [if_pos h0] at HTW
      clear h0 hk
      go_upto_region 5 with (first
        | (go_at_call 166; refine (HK.out _ _ HE3.out.ct f').mono ?_; rw [HKK.out]; rintro r w2 ⟨rfl, rfl⟩)
        | (go_at_call 54; refine (HFL.out _ _ HE3.out.ct).mono ?_; rintro r w4 ⟨rfl, hC4, hG4⟩; have HE4 := Lib.hid (HE3.out.call HA.out (HE3.out.ct.step hC4 hG4) hG4); clear hC4 hG4))
      obtain ⟨z0, z1, z2, z3, z4⟩ := five_cellsR HE4.out.r
      obtain ⟨f0, f1, f2, f3, f4⟩ := five_freeR HE4.out.r
      go_wp2_with fail
      refine ret_one Tryz.underlying63 Tryz.results134 (HE4.out.told HA.out _ _ _ _ _).1 (by kernel_rfl) (by rfl) rfl ?_
      obtain ⟨-, t1, t2, t3⟩ := HE4.out.told HA.out (.int .i64 0) (.int .u64 0) (.int .i64 0) (.slice none 0 0) (.string ⟨#[]⟩)
      exact ⟨⟨none, 0, by rw [HTW.out]; rfl, by rw [HTW.out]; exact own_nilR _ _⟩, by rw [HTW.out]; exact t1, t3⟩
    · have q : (k == 0) = false := by simpa using h0
      obtain ⟨n, hfn, hn⟩ := kindF_in (f := f') (by rw [hk]; exact h0)
      rw [if_neg h0] at HTW
      clear h0 hk
      subst hfn
      go_upto_region 6 with (go_at_call 166; refine (HK.out _ _ HE3.out.ct (n : Int)).mono ?_; rw [HKK.out]; rintro r w2 ⟨rfl, rfl⟩)
      go_upto_region 7 with fail
      have hX4 := Box.new wc 261 #[.pointer (some ⟨g, 0, none⟩), .int .i64 at_, .int .i64 (n : Int), .int .i64 imp, .bool wide]
      have hb4 : Below wc.heap.size wc (wc.alloc (.cells #[.pointer (some ⟨g, 0, none⟩), .int .i64 at_, .int .i64 (n : Int), .int .i64 imp, .bool wide] 261)) := (Below.refl _ _).alloc (Nat.le_refl _) _
      generalize hw4 : wc.alloc (.cells #[.pointer (some ⟨g, 0, none⟩), .int .i64 at_, .int .i64 (n : Int), .int .i64 imp, .bool wide] 261) = w4 at *
      have HE4 := Lib.hid (HE3.out.later hb4)
      clear hw4 hb4 p0 p1 p2
      obtain ⟨p0, p1, p2⟩ := three_cellsR HE4.out.p
      obtain ⟨x0, x1, x2, x3, x4⟩ := five_cellsR hX4
      have HRE := Lib.hid (show R = if (readW l (n : Int) imp wide s').2.2 = 0 then readW l (n : Int) imp wide s' else (zeroV, (readW l (n : Int) imp wide s').2) from HTW.out)
      have HV := Lib.hid (HVA.out w4 s' HE4.out.ct n hn)
      clear HTW hX4 HVA hn
      obtain ⟨X, s5, hX⟩ : ∃ X s5, readW l (n : Int) imp wide s' = (X, s5) := ⟨_, _, rfl⟩
      rw [hX] at HRE HV
      simp only at HRE HV
      clear hX
      obtain ⟨bn, hbn⟩ : ∃ bn, X.b.length = bn := ⟨_, rfl⟩
      have HBN := Lib.hid hbn
      clear hbn
      generalize wc.heap.size = Hd at *
      have HHS4 := Lib.hid (show Hs ≤ w4.heap.size from by rw [← HHS.out]; exact HE4.out.gr.size)
      go_upto_region 8 with (go_at_call 167; refine HV.out.mono ?_; rintro r w5 ⟨⟨A5, c5, rfl, hO5⟩, hC5, hG5⟩; have HE5 := Lib.hid (HE4.out.call HA.out hC5 hG5); have HO5 := Lib.hid (own_base hO5 HHS4.out); rw [HBN.out] at HO5; rw [HBN.out]; clear hO5 hC5 hG5)
      have hX6 := Box.new w5 63 #[.int .i64 X.form, .int .u64 (X.u : Int), .int .i64 X.s, .slice A5 bn c5, .string ⟨X.t.toArray⟩]
      have hb6 : Below w5.heap.size w5 (w5.alloc (.cells #[.int .i64 X.form, .int .u64 (X.u : Int), .int .i64 X.s, .slice A5 bn c5, .string ⟨X.t.toArray⟩] 63)) := (Below.refl _ _).alloc (Nat.le_refl _) _
      generalize hw6 : w5.alloc (.cells #[.int .i64 X.form, .int .u64 (X.u : Int), .int .i64 X.s, .slice A5 bn c5, .string ⟨X.t.toArray⟩] 63) = w6 at *
      have HE6 := Lib.hid (HE5.out.later hb6)
      have HO6 := Lib.hid (own_below HO5.out hb6)
      have HHR := Lib.hid (show Hr ≠ w5.heap.size from Nat.ne_of_lt HE5.out.r.lt)
      clear hw6 hb6
      obtain ⟨x0, x1, x2, x3, x4⟩ := five_cellsR hX6
      obtain ⟨z0, z1, z2, z3, z4⟩ := five_cellsR HE6.out.r
      obtain ⟨f0, f1, f2, f3, f4⟩ := five_freeR HE6.out.r
      generalize w5.heap.size = Hx at *
      by_cases he : s5.2 = 0
      · have q : (s5.2 != 0) = false := by rw [he]; rfl
        rw [if_pos he] at HRE
        clear he hX6
        have hne := HHR.out
        have hne2 := HHR.out.symm
        go_wp2_with (go_at_call 56; refine (HER.out _ _ HE6.out.ct).mono ?_; rintro r w7 ⟨rfl, rfl⟩)
        refine ret_one Tryz.underlying63 Tryz.results134 (HE6.out.told HA.out _ _ _ _ _).1 (by kernel_rfl) (by rfl) rfl ?_
        obtain ⟨-, t1, t2, t3⟩ := HE6.out.told HA.out (.int .i64 X.form) (.int .u64 (X.u : Int)) (.int .i64 X.s) (.slice A5 bn c5) (.string ⟨X.t.toArray⟩)
        refine ⟨⟨A5, c5, ?_, ?_⟩, by rw [HRE.out]; exact t1, t3⟩
        · rw [HRE.out]; simp only [HBN.out]
        · rw [HRE.out]; simp only [HBN.out]; exact t2 _ _ (by rw [HHS.out]; exact HO6.out)
      · have q : (s5.2 != 0) = true := by simpa using he
        rw [if_neg he] at HRE
        clear he hX6
        go_wp2_with (go_at_call 56; refine (HER.out _ _ HE6.out.ct).mono ?_; rintro r w7 ⟨rfl, rfl⟩)
        refine ret_one Tryz.underlying63 Tryz.results134 (HE6.out.told HA.out _ _ _ _ _).1 (by kernel_rfl) (by rfl) rfl ?_
        obtain ⟨-, t1, t2, t3⟩ := HE6.out.told HA.out (.int .i64 0) (.int .u64 0) (.int .i64 0) (.slice none 0 0) (.string ⟨#[]⟩)
        exact ⟨⟨none, 0, by rw [HRE.out]; rfl, by rw [HRE.out]; exact own_nilR _ _⟩, by rw [HRE.out]; exact t1, t3⟩

end Go.Proofs.YtejicboemkpeoaaGreatDoor
