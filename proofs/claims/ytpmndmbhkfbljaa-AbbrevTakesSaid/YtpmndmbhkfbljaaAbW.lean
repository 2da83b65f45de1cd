/-
  AbbrevTakes' walk.
-/
import Derived.Test.YtpmndmbhkfbljaaAbQ
import Derived.Test.YtpmndmbhkfbljaaLawA
import Derived.Test.YtpmndmbhkfbljaaSyF
import Derived.Test.YtpmndmbhkfbljaaPoA
import Derived.Test.YtpmndmbhkfbljaaPoK
import Derived.Deep.RegionHeldLaw
import Derived.Test.YtpmndmbhkfbljaaLmA
import Derived.Test.YtpmndmbhkfbljaaPoM
import Derived.Test.YtpmndmbhkfbljaaPut
import Derived.Lib.BytesEntry
import Derived.Lib.AppendStr
import Derived.Laws.Externs
import Derived.Deep.Slices
import Derived.Test.YtpmndmbhkfbljaaPutR
import Derived.Test.YtpmndmbhkfbljaaSyA
import Derived.Test.YtpmndmbhkfbljaaSyDa
import Derived.Test.YtpmndmbhkfbljaaSeV
import Derived.Test.YtpmndmbhkfbljaaEhC
import Derived.Test.YtpmndmbhkfbljaaKeep
import Derived.Lib.AppendZerosOnto
import Derived.Test.YtpmndmbhkfbljaaParts
import Derived.Test.YtpmndmbhkfbljaaCsA
import Derived.Test.YtpmndmbhkfbljaaRefR
import Derived.Test.YtpmndmbhkfbljaaCsL
import Derived.Lib.SlBytesConst
import Derived.ProofKit
import Derived.OpenShut
import Derived.Test.YtpmndmbhkfbljaaAbN
import Derived.Test.YtpmndmbhkfbljaaPair
import Derived.Test.YtpmndmbhkfbljaaRoundRegion
namespace Go.Proofs.Ytpmndmbhkfbljaa
open Go Go.RowKit

set_option maxRecDepth 10000 in
set_option maxHeartbeats 1600000 in
theorem ratA_any {w : World} {B : Nat} {A : Option Addr} {l : List UInt8} (h : Rd w B A l) (hB : B ≤ w.heap.size) (c : Nat) (hlc : l.length ≤ c) (hcm : c ≤ maxLen) (hlen : l.length ≤ 140737488355328) (off : Nat) :
    Calls Try.prog 13 #[.slice A l.length c, .int .u64 (off : Int)] w fun r w' => ∃ u L, r = .returned (.tuple #[u, .int .i64 (atAE l off)]) ∧ OwnA w' w.heap.size u L ∧ L.map ALay.x = atAL l off ∧ (∀ y ∈ L, y.x.In) ∧ L.length ≤ 300 ∧ Below w.heap.size w w' := by
  have s1 : IntKind.u64.wrap (l.length : Int) = (l.length : Int) := by rw [IntWalk.u64_in _ (by omega)]
  by_cases hlt : off < l.length
  · have d : decide ((l.length : Int) ≤ (off : Int)) = false := decide_eq_false (by omega)
    have s2 : IntKind.i64.wrap (off : Int) = (off : Int) := IntWalk.i64_in _ (by omega)
    have s3 : wrap64 (off : Int) = (off : Int) := (i64_wrap_eq _).symm.trans s2
    have hae : atAE l off = takeAE (l.drop off) (0, 0) := if_pos hlt
    have hal : atAL l off = takeAL (l.drop off) (0, 0) := if_pos hlt
    obtain ⟨r, hr⟩ : ∃ r, r = l.drop off := ⟨_, rfl⟩
    have hrl : r.length = l.length - off := by rw [hr]; simp
    rw [hae, hal, ← hr]
    have b1 : (0 : Int) ≤ (off : Int) := by omega
    have b2 : (off : Int) ≤ (l.length : Int) := by omega
    obtain ⟨A2, c2, hsl, hra⟩ : ∃ A2 c2, (∀ W : World, (Instr.slice 22 (.slice A l.length c) (some (.int .i64 (off : Int))) none none).run Try.prog W = .ok (.slice A2 r.length c2) W) ∧ Hid (Rd w B A2 r ∧ r.length ≤ c2 ∧ c2 ≤ maxLen) := by
      refine ⟨if c = off then A else Option.map (fun x => x.add off) A, c - off, fun W => ?_, ?_⟩
      · rw [run_slice_l W _ _ _ _ Try.underlying22 _ _ b1 b2, size_u8, hrl]
        simp only [Result.andThen, sliced, Nat.mul_one, Int.toNat_natCast]
      · rw [if_neg (by omega)]
        have := rd_cut h off r.length
        rw [← hr, List.take_length] at this
        exact Lib.hid ⟨this, by omega, by omega⟩
    have hRR : RR B (w.alloc (.cells #[.slice A2 r.length c2, .int .i64 0, .int .i64 0] 29)) w.heap.size (.slice A2 r.length c2) r 0 0 :=
      ⟨by simpa using Box.new w 29 #[.slice A2 r.length c2, .int .i64 0, .int .i64 0], ⟨A2, c2, rfl, hra.out.2.1, hra.out.2.2, hra.out.1.below (((Below.refl w.heap.size w).alloc (Nat.le_refl _) _).mono hB)⟩, Nat.zero_le _, hB⟩
    have hT := Lib.hid (rtakeA_st (s := (0, 0)) hRR (by omega))
    clear hRR
    clear h hB hlc hcm hlen hae hal hrl hr hra b1 b2
    generalize takeAE r (0, 0) = E at *
    generalize takeAL r (0, 0) = R at *
    generalize takeAP r (0, 0) = P at *
    generalize r.length = k at *
    generalize l.length = n at *
    have hb1 : Below w.heap.size w (w.alloc (.cells #[.slice A2 k c2, .int .i64 0, .int .i64 0] 29)) := (Below.refl _ _).alloc (Nat.le_refl _) _
    have HB1 := Lib.hid hb1
    clear hb1
    go_enter Try.func13, Try.ntmps13
    go_wp2_with (go_at_call 8; refine hT.out.mono ?_; rintro r' w2 ⟨u, L, rfl, hO, hm, hi, h3, -, hG2⟩; have HO := Lib.hid hO; have HMM := Lib.hid hm; have HI := Lib.hid hi; have H3 := Lib.hid h3; have HB := Lib.hid (HB1.out.trans (below_of_only (B := w.heap.size) hG2 HB1.out.size (fun x hx => by cases hx; exact Nat.le_refl _))); clear hO hm hi h3 hG2)
    go_ret2
    exact ⟨_, L, rfl, ⟨own_lower HO.out.row HB1.out.size, fun y hy => own_lower (HO.out.spcs y hy) HB1.out.size⟩, HMM.out, HI.out, H3.out, HB.out⟩
  · have d : decide ((l.length : Int) ≤ (off : Int)) = true := decide_eq_true (by omega)
    have d2 : decide (l.length ≤ off) = true := decide_eq_true (by omega)
    have d3 : l.length ≤ off := by omega
    have hae : atAE l off = 10 := if_neg hlt
    have hal : atAL l off = [] := if_neg hlt
    rw [hae, hal]
    clear h hB hlc hcm hlen hae hal
    generalize l.length = n at *
    go_enter Try.func13, Try.ntmps13
    go_wp2_with fail
    go_ret2
    exact ⟨_, [], rfl, OwnA.nil _ _, rfl, (fun y hy => by cases hy), Nat.zero_le _, Below.refl _ _⟩

end Go.Proofs.Ytpmndmbhkfbljaa

namespace Go.Proofs.Ytpmndmbhkfbljaa
open Go Go.RowKit

/-! ### Which errors Take tells -/
def codesA (e : Int) : Prop := e = 0 ∨ e = 3 ∨ e = 10 ∨ e = 11 ∨ e = 40
theorem cA_u (l : List UInt8) (s : CSt) (h : codesA s.2) : codesA (sU l s).2 := by
  show codesA (uOf (l.drop s.1) s.2).2.2
  unfold uOf
  split
  · unfold readU
    split
    · exact .inr (.inr (.inr (.inl rfl)))
    · split
      · split
        · exact .inl rfl
        · exact .inr (.inr (.inr (.inl rfl)))
      · exact .inr (.inr (.inl rfl))
  · exact h
theorem cA_s (l : List UInt8) (s : CSt) (h : codesA s.2) : codesA (sS l s).2 := by
  show codesA (sOf (l.drop s.1) s.2).2.2
  unfold sOf
  split
  · unfold readS
    split
    · exact .inr (.inr (.inr (.inl rfl)))
    · split
      · split
        · exact .inl rfl
        · exact .inr (.inr (.inr (.inl rfl)))
      · exact .inr (.inr (.inl rfl))
  · exact h
theorem cA_b (l : List UInt8) (s : CSt) (h : codesA s.2) : codesA (sB l s).2 := by
  show codesA (nextErr l s.1 s.2 1)
  unfold nextErr
  split
  · split
    · exact .inl rfl
    · exact .inr (.inr (.inl rfl))
  · exact h
theorem cA_f {s : CSt} (h : codesA s.2) {f : Int} (hf : codesA f) : codesA (sF s f).2 := by
  show codesA (failOf s.2 f)
  unfold failOf
  split
  · exact hf
  · exact h
theorem cA_three : codesA 3 := .inr (.inl rfl)
theorem cA_forty : codesA 40 := .inr (.inr (.inr (.inr rfl)))
theorem cA_specs (l : List UInt8) : ∀ (n : Nat) (s : CSt), codesA s.2 → codesA (specsF l n s).2.2
  | 0, _, h => h
  | n + 1, s, h => by
    have h1 := cA_u l s h
    have h2 := cA_u l _ h1
    rw [specsF]
    split
    · exact h2
    · split
      · exact cA_f h2 cA_forty
      · split
        · exact cA_f h2 cA_three
        · split
          · exact cA_specs l n _ (cA_s l _ h2)
          · exact cA_specs l n _ h2
theorem cA_tag (l : List UInt8) (s : CSt) (h : codesA s.2) : codesA (tagS l s).2 := by
  unfold tagS
  split
  · exact cA_f (cA_u l s h) cA_forty
  · exact cA_u l s h
theorem cA_kid (l : List UInt8) (s : CSt) (h : codesA s.2) : codesA (kidS l s).2 := by
  unfold kidS
  split
  · exact cA_f (cA_b l s h) cA_forty
  · exact cA_b l s h
theorem cA_tab (l : List UInt8) : ∀ (n : Nat) (s : CSt), codesA s.2 → codesA (tabF l n s).2.2
  | 0, _, h => h
  | n + 1, s, h => by
    have h1 := cA_u l s h
    rw [tabF]
    split
    · exact h1
    · split
      · exact cA_f h1 cA_three
      · exact cA_tab l n _ (cA_specs l 41 _ (cA_kid l _ (cA_tag l _ h1)))
theorem cA_take (l : List UInt8) (s : CSt) (h : codesA s.2) : codesA (takeAE l s) := by
  unfold takeAE
  split
  · split
    · exact .inl rfl
    · exact cA_forty
  · exact cA_tab l 301 s h

set_option maxRecDepth 10000 in
set_option maxHeartbeats 3200000 in
theorem atakes_walk (a0 : Option Addr) (len0 cap0 : Nat) (z0 : List Int) (off : Nat) (w : World) (w0 : IsRow .u8 w a0 len0 cap0 z0) (hoff : off < two64) :
    Calls Try.prog 3 #[.slice a0 len0 cap0, .int .u64 (off : Int)] w fun e w' => e = .returned (.bool true) ∧ Below w.heap.size w w' := by
  obtain ⟨l, hlen, hrd, hlc, hcm⟩ := row_bytes w0
  clear w0
  have hW := Lib.hid (fun (W : World) => works13_any W)
  by_cases hbig : 3000 < len0
  · have hd : decide ((3000 : Int) < (len0 : Int)) = true := by simp; omega
    clear hlen hrd hlc hcm hoff
    go_enter Try.func3, Try.ntmps3
    go_wp2_with (go_at_call 5; refine (hW.out _).mono ?_; rintro r w1 ⟨rfl, hb1⟩)
    go_ret
    exact ⟨rfl, hb1⟩
  · have hd : decide ((3000 : Int) < (len0 : Int)) = false := by simp; omega
    have hl : l.length ≤ 140737488355328 := by omega
    have HN := Lib.hid (by
      have h := new_any cap0 hrd (Nat.le_refl _) hl
      rw [hlen] at h
      exact h : Calls Try.prog 6 #[.slice a0 len0 cap0] w fun r w' => ∃ g v, r = .returned (.pointer (some ⟨g, 0, none⟩)) ∧ Made w.heap.size w' g v l 0 ∧ Below w.heap.size w w')
    have HM := Lib.hid (fun (w1 : World) (g : Nat) (v : Value) (hb : Below w.heap.size w w1) (hM : Made w.heap.size w1 g v l 0) => (by have := Pair.make hb hM hrd (by omega : l.length ≤ cap0) hcm; rwa [hlen] at this : Pair w.heap.size w (w1.alloc (.cells #[.slice a0 len0 cap0, .int .i64 0, .int .i64 0] 29)) g v w1.heap.size (.slice a0 len0 cap0) l 0 0 0 0))
    have HT := Lib.hid (fun (W : World) (g : Nat) (v : Value) (gr : Nat) (P : Pair w.heap.size w W g v gr (.slice a0 len0 cap0) l 0 0 0 0) => (show Calls Try.prog 7 #[.pointer (some ⟨g, 0, none⟩)] W fun r w' => ∃ u L, r = .returned (.tuple #[u, .int .i64 (takeAE l (0, 0))]) ∧ (OwnA w' W.heap.size u L ∧ gr < W.heap.size) ∧ L.map ALay.x = takeAL l (0, 0) ∧ (∀ y ∈ L, y.x.In) ∧ L.length ≤ 300 ∧ Pair w.heap.size w w' g v gr (.slice a0 len0 cap0) l (takeAP l (0, 0)) (takeAE l (0, 0)) 0 0 from
      (takeA_st (s := (0, 0)) P.c hl).mono fun r w' ⟨u, L, h1, h2, h3, h4, h5, h6, h7⟩ => ⟨u, L, h1, ⟨h2, P.r.1.lt⟩, h3, h4, h5, P.stepC h6 h7⟩))
    have QT := Lib.hid (fun (W : World) (g : Nat) (v : Value) (gr : Nat) (P : Pair w.heap.size w W g v gr (.slice a0 len0 cap0) l (takeAP l (0, 0)) (takeAE l (0, 0)) 0 0) => (show Calls Try.prog 8 #[.pointer (some ⟨gr, 0, none⟩)] W fun r w' => ∃ u L, r = .returned (.tuple #[u, .int .i64 (takeAE l (0, 0))]) ∧ OwnA w' W.heap.size u L ∧ L.map ALay.x = takeAL l (0, 0) ∧ (∀ y ∈ L, y.x.In) ∧ L.length ≤ 300 ∧ Pair w.heap.size w w' g v gr (.slice a0 len0 cap0) l (takeAP l (0, 0)) (takeAE l (0, 0)) (takeAP l (0, 0)) (takeAE l (0, 0)) ∧ W.grownBy w' (some gr) from
      (rtakeA_st (s := (0, 0)) P.r hl).mono fun r w' ⟨u, L, h1, h2, h3, h4, h5, h6, h7⟩ => ⟨u, L, h1, h2, h3, h4, h5, P.stepR h6 h7, h7⟩))
    have AT := Lib.hid (fun (W : World) (hb : Below w.heap.size w W) => (by
      have := atA_any (hrd.below hb) hb.size cap0 (by omega) hl off hoff
      rwa [hlen] at this : Calls Try.prog 12 #[.slice a0 len0 cap0, .int .u64 (off : Int)] W fun r w' => ∃ u L, r = .returned (.tuple #[u, .int .i64 (atAE l off)]) ∧ OwnA w' W.heap.size u L ∧ L.map ALay.x = atAL l off ∧ (∀ y ∈ L, y.x.In) ∧ L.length ≤ 300 ∧ Below W.heap.size W w'))
    have RT := Lib.hid (fun (W : World) (hb : Below w.heap.size w W) => (by
      have := ratA_any (hrd.below hb) hb.size cap0 (by omega) hcm hl off
      rwa [hlen] at this : Calls Try.prog 13 #[.slice a0 len0 cap0, .int .u64 (off : Int)] W fun r w' => ∃ u L, r = .returned (.tuple #[u, .int .i64 (atAE l off)]) ∧ OwnA w' W.heap.size u L ∧ L.map ALay.x = atAL l off ∧ (∀ y ∈ L, y.x.In) ∧ L.length ≤ 300 ∧ Below W.heap.size W w'))
    clear hlen hrd hlc hcm hbig hl hoff
    have hEc : codesA (takeAE l (0, 0)) := cA_take l (0, 0) (.inl rfl)
    generalize takeAE l (0, 0) = E at *
    generalize takeAL l (0, 0) = R at *
    generalize takeAP l (0, 0) = A at *
    generalize atAE l off = E2 at *
    generalize atAL l off = R2 at *
    have hq : ∀ b : Bool, (b != b) = false := fun b => by cases b <;> rfl
    have hqi : ∀ i : Int, (i != i) = false := fun i => by simp
    have hqe : ∀ i : Int, (i == i) = true := fun i => by simp
    go_enter Try.func3, Try.ntmps3
    go_upto_region 6 with (first
      | (go_at_call 6; refine HN.out.mono ?_; rintro r w1 ⟨g, v, rfl, hM, hb1⟩; have T0 := Lib.hid (HM.out w1 g v hb1 hM); clear hM hb1)
      | (go_at_call 7; refine (HT.out _ _ _ _ T0.out).mono ?_; rintro r w2 ⟨u2, L2, rfl, hO, hm, hi, h3, hP⟩; have O2 := Lib.hid hO; have M2 := Lib.hid hm; have I2 := Lib.hid hi; have N2 := Lib.hid h3; have T1 := Lib.hid hP; clear hO hm hi h3 hP)
      | (go_at_call 8; refine (QT.out _ _ _ _ T1.out).mono ?_; rintro r w3 ⟨u3, L3, rfl, hO, hm, hi, h3, hP, hG⟩; have O3 := Lib.hid hO; have M3 := Lib.hid hm; have I3 := Lib.hid hi; have N3 := Lib.hid h3; have T2 := Lib.hid hP; have O2' := Lib.hid (O2.out.1.past hG O2.out.2); clear hO hm hi h3 hP hG))
    clear HN HM HT QT O2 T0 T1
    obtain ⟨A2, c2, rfl, -, -, hl2⟩ := O2'.out.lies
    obtain ⟨A3, c3, rfl, -, -, hl3⟩ := O3.out.lies
    have HSM := Lib.hid (fun W (hW : Below w3.heap.size w3 W) => (by
      have := sameA_any (w := W) (hl2.up hW) (hl3.up hW) c2 c3 (by have := N2.out; omega) (fun y hy => (I2.out y hy).len) (fun y hy => (I3.out y hy).len)
      rwa [show alikeL oneL L2 L3 = true from (alikeA_iff _ _).2 (M2.out.trans M3.out.symm)] at this : Calls Try.prog 9 #[.slice A2 L2.length c2, .slice A3 L3.length c3] W fun r w' => r = .returned (.bool true) ∧ Below W.heap.size W w'))
    have HER := Lib.hid (fun W (hW : Below w3.heap.size w3 W) => err_cur (T2.out.c.below hW))
    have HAT := Lib.hid (fun W (hW : Below w3.heap.size w3 W) => at_cur (T2.out.c.below hW))
    have KS := Lib.hid (fun X (hX : Below w3.heap.size w3 X) => (⟨hX, cell_at (T2.out.r.below hX), cell_e (T2.out.r.below hX)⟩ : Below w3.heap.size w3 X ∧ X.cell? ⟨w1.heap.size, 1, none⟩ = some (.int .i64 (A : Int)) ∧ X.cell? ⟨w1.heap.size, 2, none⟩ = some (.int .i64 E)))
    have HBW := Lib.hid T2.out.below
    clear hl2 hl3 O2' O3 T2
    generalize L2.length = n2 at *
    generalize L3.length = n3 at *
    have hrf := Below.refl w3.heap.size w3
    rcases hEc with rfl | rfl | rfl | rfl | rfl
    · go_region_held_law (fun X => Below w3.heap.size w3 X ∧ X.cell? ⟨w1.heap.size, 1, none⟩ = some (.int .i64 (A : Int)) ∧ X.cell? ⟨w1.heap.size, 2, none⟩ = some (.int .i64 0))
        ((refine KS.out _ ?_; repeat' (first | (with_reducible assumption) | (with_reducible refine below_drewN ?_ _) | (with_reducible refine Below.drew ?_))))
        (first
          | (go_at_call 9; refine (HSM.out _ (by repeat' (first | (with_reducible assumption) | (with_reducible refine below_drewN ?_ _) | (with_reducible refine Below.drew ?_)))).mono ?_; rintro r w5 ⟨rfl, hb5⟩; have hx5 : Below w3.heap.size w3 w5 := (show Below w3.heap.size w3 _ from (by repeat' (first | (with_reducible assumption) | (with_reducible refine below_drewN ?_ _) | (with_reducible refine Below.drew ?_)))).trans hb5; have HX5 := Lib.hid hx5; clear hb5)
          | (go_at_call 11; refine (HAT.out _ (by repeat' (first | (with_reducible assumption) | (with_reducible refine below_drewN ?_ _) | (with_reducible refine Below.drew ?_)))).mono ?_; rintro r w6 ⟨rfl, rfl⟩)
          | (go_at_call 10; refine (HER.out _ (by repeat' (first | (with_reducible assumption) | (with_reducible refine below_drewN ?_ _) | (with_reducible refine Below.drew ?_)))).mono ?_; rintro r w6 ⟨rfl, rfl⟩))
      all_goals
        have HB5 := Lib.hid (HBW.out.trans (HX5.out.mono HBW.out.size))
        clear HSM HER HAT KS
        go_upto_region 10 with (first
          | (go_at_call 12; refine (AT.out _ (by repeat' (first | exact HB5.out | (with_reducible refine below_drewN ?_ _) | (with_reducible refine Below.drew ?_)))).mono ?_; rintro r w7 ⟨u7, L7, rfl, hO, hm, hi, h3, hb⟩; have O7 := Lib.hid hO; have M7 := Lib.hid hm; have I7 := Lib.hid hi; have N7 := Lib.hid h3; have HB7 := Lib.hid (show Below w.heap.size w w7 from (show Below w.heap.size w _ from by repeat' (first | exact HB5.out | (with_reducible refine below_drewN ?_ _) | (with_reducible refine Below.drew ?_))).trans (hb.mono (by have := HB5.out.size; simpa using this))); clear hO hm hi h3 hb)
          | (go_at_call 13; refine (RT.out _ HB7.out).mono ?_; rintro r w8 ⟨u8, L8, rfl, hO, hm, hi, h3, hb⟩; have O8 := Lib.hid hO; have M8 := Lib.hid hm; have I8 := Lib.hid hi; have N8 := Lib.hid h3; have HB78 := Lib.hid hb; clear hO hm hi h3 hb))
        have O7' := Lib.hid (O7.out.below HB78.out)
        have HB8 := Lib.hid (HB7.out.trans (HB78.out.mono HB7.out.size))
        obtain ⟨A7, c7, rfl, -, -, hl7⟩ := O7'.out.lies
        obtain ⟨A8, c8, rfl, -, -, hl8⟩ := O8.out.lies
        have HSM := Lib.hid (by
          have := sameA_any hl7 hl8 c7 c8 (by have := N7.out; omega) (fun y hy => (I7.out y hy).len) (fun y hy => (I8.out y hy).len)
          rwa [show alikeL oneL L7 L8 = true from (alikeA_iff _ _).2 (M7.out.trans M8.out.symm)] at this : Calls Try.prog 9 #[.slice A7 L7.length c7, .slice A8 L8.length c8] w8 fun r w' => r = .returned (.bool true) ∧ Below w8.heap.size w8 w')
        clear hl7 hl8 O7' O7 O8 AT RT
        generalize L7.length = n7 at *
        generalize L8.length = n8 at *
        go_wp2_with (first
          | (go_at_call 9; refine HSM.out.mono ?_; rintro r w9 ⟨rfl, hb9⟩; have HB9 := Lib.hid (HB8.out.trans (hb9.mono HB8.out.size)); clear hb9)
          | (go_at_call 5; refine (hW.out _).mono ?_; rintro r w10 ⟨rfl, hb10⟩; have HB10 := Lib.hid (HB9.out.trans (hb10.mono HB9.out.size)); clear hb10))
        go_ret
        exact ⟨rfl, HB10.out⟩
    · refine wp_region_held_drew (S := (fun X => Below w3.heap.size w3 X ∧ X.cell? ⟨w1.heap.size, 1, none⟩ = some (.int .i64 (A : Int)) ∧ X.cell? ⟨w1.heap.size, 2, none⟩ = some (.int .i64 3))) (by kernel_rfl) (by (refine KS.out _ ?_; repeat' (first | (with_reducible assumption) | (with_reducible refine below_drewN ?_ _) | (with_reducible refine Below.drew ?_)))) (fun hHeld => ?_)
      refine take_r (i := 0) (v := ?_) rfl (by kernel_rfl) (by kernel_rfl) (by kernel_rfl) (fun _ _ _ h => h) (Or.inl ⟨by rfl, ?_⟩) hHeld ?_
      rotate_left
      · (intro wS hSw; (try dsimp only at hSw); go_simp; (try with_reducible rfl))
      try simp only [Act.put, List.setIfInBounds_toArray, List.set_cons_zero, List.set_cons_succ]
      refine take_r (i := 1) (v := ?_) rfl (by kernel_rfl) (by kernel_rfl) (by kernel_rfl) (fun _ _ _ h => h) (Or.inl ⟨by rfl, ?_⟩) hHeld ?_
      rotate_left
      · (intro wS hSw; (try dsimp only at hSw); go_simp; (try with_reducible rfl))
      try simp only [Act.put, List.setIfInBounds_toArray, List.set_cons_zero, List.set_cons_succ]
      refine wpAnyH_ready (rs := [2]) (by kernel_rfl) (by simp) ?_
      refine ready_r rfl (fun K hK => ?_)
      go_simp
      go_wp2_with ((go_at_call 9; refine (HSM.out _ hHeld.1).mono ?_; rintro r w5 ⟨rfl, hb5⟩; have hx5 : Below w3.heap.size w3 w5 := hHeld.1.trans (hb5.mono hHeld.1.size); have HX5 := Lib.hid hx5; clear hb5))
      refine hK.out _ _ ?_ (fun hNew => ?_)
      · (refine KS.out _ ?_; repeat' (first | (with_reducible assumption) | (with_reducible refine below_drewN ?_ _) | (with_reducible refine Below.drew ?_)))
      clear hHeld hK K
      have hHeld := hNew
      clear hNew
      refine take_r (i := 3) (v := ?_) rfl (by kernel_rfl) (by kernel_rfl) (by kernel_rfl) (fun _ _ _ h => h) (Or.inl ⟨by rfl, ?_⟩) hHeld ?_
      rotate_left
      · (intro wS hSw; (try dsimp only at hSw); go_simp; (try with_reducible rfl))
      try simp only [Act.put, List.setIfInBounds_toArray, List.set_cons_zero, List.set_cons_succ]
      refine take_r (i := 4) (v := ?_) rfl (by kernel_rfl) (by kernel_rfl) (by kernel_rfl) (fun _ _ _ h => h) (Or.inl ⟨by rfl, ?_⟩) hHeld ?_
      rotate_left
      · (intro wS hSw; (try dsimp only at hSw); go_simp; (try with_reducible rfl))
      try simp only [Act.put, List.setIfInBounds_toArray, List.set_cons_zero, List.set_cons_succ]
      refine take_r (i := 5) (v := ?_) rfl (by kernel_rfl) (by kernel_rfl) (by kernel_rfl) (fun _ _ _ h => h) (Or.inl ⟨by rfl, ?_⟩) hHeld ?_
      rotate_left
      · (intro wS hSw; (try dsimp only at hSw); go_simp; (try with_reducible rfl))
      try simp only [Act.put, List.setIfInBounds_toArray, List.set_cons_zero, List.set_cons_succ]
      refine take_r (i := 6) (v := ?_) rfl (by kernel_rfl) (by kernel_rfl) (by kernel_rfl) (fun _ _ _ h => h) (Or.inl ⟨by rfl, ?_⟩) hHeld ?_
      rotate_left
      · (intro wS hSw; (try dsimp only at hSw); go_simp; (try with_reducible rfl))
      try simp only [Act.put, List.setIfInBounds_toArray, List.set_cons_zero, List.set_cons_succ]
      refine take_r (i := 7) (v := ?_) rfl (by kernel_rfl) (by kernel_rfl) (by kernel_rfl) (fun _ _ _ h => h) (Or.inl ⟨by rfl, ?_⟩) hHeld ?_
      rotate_left
      · (intro wS hSw; (try dsimp only at hSw); go_simp; (try with_reducible rfl))
      try simp only [Act.put, List.setIfInBounds_toArray, List.set_cons_zero, List.set_cons_succ]
      refine take_r (i := 8) (v := ?_) rfl (by kernel_rfl) (by kernel_rfl) (by kernel_rfl) (fun _ _ _ h => h) (Or.inl ⟨by rfl, ?_⟩) hHeld ?_
      rotate_left
      · (intro wS hSw; (try dsimp only at hSw); go_simp; (try with_reducible rfl))
      try simp only [Act.put, List.setIfInBounds_toArray, List.set_cons_zero, List.set_cons_succ]
      refine take_r (i := 9) (v := ?_) rfl (by kernel_rfl) (by kernel_rfl) (by kernel_rfl) (fun _ _ _ h => h) (Or.inl ⟨by rfl, ?_⟩) hHeld ?_
      rotate_left
      · (intro wS hSw; (try dsimp only at hSw); go_simp; (try with_reducible rfl))
      try simp only [Act.put, List.setIfInBounds_toArray, List.set_cons_zero, List.set_cons_succ]
      refine take_r (i := 10) (v := ?_) rfl (by kernel_rfl) (by kernel_rfl) (by kernel_rfl) (fun _ _ _ h => h) (Or.inl ⟨by rfl, ?_⟩) hHeld ?_
      rotate_left
      · (intro wS hSw; (try dsimp only at hSw); go_simp; (try with_reducible rfl))
      try simp only [Act.put, List.setIfInBounds_toArray, List.set_cons_zero, List.set_cons_succ]
      refine take_r (i := 12) (v := ?_) rfl (by kernel_rfl) (by kernel_rfl) (by kernel_rfl) (fun _ _ _ h => h) (Or.inl ⟨by rfl, ?_⟩) hHeld ?_
      rotate_left
      · (intro wS hSw; (try dsimp only at hSw); go_simp; (try with_reducible rfl))
      try simp only [Act.put, List.setIfInBounds_toArray, List.set_cons_zero, List.set_cons_succ]
      refine take_r (i := 13) (v := ?_) rfl (by kernel_rfl) (by kernel_rfl) (by kernel_rfl) (fun _ _ _ h => h) (Or.inl ⟨by rfl, ?_⟩) hHeld ?_
      rotate_left
      · (intro wS hSw; (try dsimp only at hSw); go_simp; (try with_reducible rfl))
      try simp only [Act.put, List.setIfInBounds_toArray, List.set_cons_zero, List.set_cons_succ]
      refine take_r (i := 14) (v := ?_) rfl (by kernel_rfl) (by kernel_rfl) (by kernel_rfl) (fun _ _ _ h => h) (Or.inl ⟨by rfl, ?_⟩) hHeld ?_
      rotate_left
      · (intro wS hSw; (try dsimp only at hSw); go_simp; (try with_reducible rfl))
      try simp only [Act.put, List.setIfInBounds_toArray, List.set_cons_zero, List.set_cons_succ]
      refine take_r (i := 15) (v := ?_) rfl (by kernel_rfl) (by kernel_rfl) (by kernel_rfl) (fun _ _ _ h => h) (Or.inl ⟨by rfl, ?_⟩) hHeld ?_
      rotate_left
      · (intro wS hSw; (try dsimp only at hSw); go_simp; (try with_reducible rfl))
      try simp only [Act.put, List.setIfInBounds_toArray, List.set_cons_zero, List.set_cons_succ]
      refine wpAnyH_ready (rs := [11]) (by kernel_rfl) (by simp) ?_
      refine ready_r rfl (fun K hK => ?_)
      go_simp
      go_wp2_with ((go_at_call 10; refine (HER.out _ hHeld.1).mono ?_; rintro r w6 ⟨rfl, rfl⟩))
      refine hK.out _ _ ?_ (fun hNew => ?_)
      · exact hHeld
      clear hHeld hK K
      have hHeld := hNew
      clear hNew
      refine take_r (i := 16) (v := ?_) rfl (by kernel_rfl) (by kernel_rfl) (by kernel_rfl) (fun _ _ _ h => h) (Or.inl ⟨by rfl, ?_⟩) hHeld ?_
      rotate_left
      · (intro wS hSw; (try dsimp only at hSw); go_simp; (try with_reducible rfl))
      try simp only [Act.put, List.setIfInBounds_toArray, List.set_cons_zero, List.set_cons_succ]
      refine take_r (i := 17) (v := ?_) rfl (by kernel_rfl) (by kernel_rfl) (by kernel_rfl) (fun _ _ _ h => h) (Or.inl ⟨by rfl, ?_⟩) hHeld ?_
      rotate_left
      · (intro wS hSw; (try dsimp only at hSw); go_simp; (try with_reducible rfl))
      try simp only [Act.put, List.setIfInBounds_toArray, List.set_cons_zero, List.set_cons_succ]
      refine take_r (i := 18) (v := ?_) rfl (by kernel_rfl) (by kernel_rfl) (by kernel_rfl) (fun _ _ _ h => h) (Or.inl ⟨by rfl, ?_⟩) hHeld ?_
      rotate_left
      · (intro wS hSw; (try dsimp only at hSw); go_simp; (try with_reducible rfl))
      try simp only [Act.put, List.setIfInBounds_toArray, List.set_cons_zero, List.set_cons_succ]
      refine take_r (i := 19) (v := ?_) rfl (by kernel_rfl) (by kernel_rfl) (by kernel_rfl) (fun _ _ _ h => h) (Or.inl ⟨by rfl, ?_⟩) hHeld ?_
      rotate_left
      · (intro wS hSw; (try dsimp only at hSw); go_simp; (try with_reducible rfl))
      try simp only [Act.put, List.setIfInBounds_toArray, List.set_cons_zero, List.set_cons_succ]
      refine take_r (i := 20) (v := ?_) rfl (by kernel_rfl) (by kernel_rfl) (by kernel_rfl) (fun _ _ _ h => h) (Or.inl ⟨by rfl, ?_⟩) hHeld ?_
      rotate_left
      · (intro wS hSw; (try dsimp only at hSw); go_simp; (try with_reducible rfl))
      try simp only [Act.put, List.setIfInBounds_toArray, List.set_cons_zero, List.set_cons_succ]
      refine take_r (i := 21) (v := ?_) rfl (by kernel_rfl) (by kernel_rfl) (by kernel_rfl) (fun _ _ _ h => h) (Or.inl ⟨by rfl, ?_⟩) hHeld ?_
      rotate_left
      · (intro wS hSw; (try dsimp only at hSw); go_simp; (try with_reducible rfl))
      try simp only [Act.put, List.setIfInBounds_toArray, List.set_cons_zero, List.set_cons_succ]
      refine take_r (i := 22) (v := undef) rfl (by kernel_rfl) (by kernel_rfl) (by kernel_rfl) (fun _ _ _ h => h) (Or.inr ⟨by rfl, rfl⟩) hHeld ?_; try simp only [Act.put, List.setIfInBounds_toArray, List.set_cons_zero, List.set_cons_succ]
      refine take_r (i := 23) (v := undef) rfl (by kernel_rfl) (by kernel_rfl) (by kernel_rfl) (fun _ _ _ h => h) (Or.inr ⟨by rfl, rfl⟩) hHeld ?_; try simp only [Act.put, List.setIfInBounds_toArray, List.set_cons_zero, List.set_cons_succ]
      refine take_r (i := 24) (v := undef) rfl (by kernel_rfl) (by kernel_rfl) (by kernel_rfl) (fun _ _ _ h => h) (Or.inr ⟨by rfl, rfl⟩) hHeld ?_; try simp only [Act.put, List.setIfInBounds_toArray, List.set_cons_zero, List.set_cons_succ]
      refine take_r (i := 25) (v := undef) rfl (by kernel_rfl) (by kernel_rfl) (by kernel_rfl) (fun _ _ _ h => h) (Or.inr ⟨by rfl, rfl⟩) hHeld ?_; try simp only [Act.put, List.setIfInBounds_toArray, List.set_cons_zero, List.set_cons_succ]
      refine take_r (i := 26) (v := undef) rfl (by kernel_rfl) (by kernel_rfl) (by kernel_rfl) (fun _ _ _ h => h) (Or.inr ⟨by rfl, rfl⟩) hHeld ?_; try simp only [Act.put, List.setIfInBounds_toArray, List.set_cons_zero, List.set_cons_succ]
      refine take_r (i := 27) (v := undef) rfl (by kernel_rfl) (by kernel_rfl) (by kernel_rfl) (fun _ _ _ h => h) (Or.inr ⟨by rfl, rfl⟩) hHeld ?_; try simp only [Act.put, List.setIfInBounds_toArray, List.set_cons_zero, List.set_cons_succ]
      refine take_r (i := 28) (v := undef) rfl (by kernel_rfl) (by kernel_rfl) (by kernel_rfl) (fun _ _ _ h => h) (Or.inr ⟨by rfl, rfl⟩) hHeld ?_; try simp only [Act.put, List.setIfInBounds_toArray, List.set_cons_zero, List.set_cons_succ]
      refine take_r (i := 29) (v := ?_) rfl (by kernel_rfl) (by kernel_rfl) (by kernel_rfl) (fun _ _ _ h => h) (Or.inl ⟨by rfl, ?_⟩) hHeld ?_
      rotate_left
      · (intro wS hSw; (try dsimp only at hSw); go_simp; (try with_reducible rfl))
      try simp only [Act.put, List.setIfInBounds_toArray, List.set_cons_zero, List.set_cons_succ]
      refine take_r (i := 30) (v := ?_) rfl (by kernel_rfl) (by kernel_rfl) (by kernel_rfl) (fun _ _ _ h => h) (Or.inl ⟨by rfl, ?_⟩) hHeld ?_
      rotate_left
      · (intro wS hSw; (try dsimp only at hSw); go_simp; (try with_reducible rfl))
      try simp only [Act.put, List.setIfInBounds_toArray, List.set_cons_zero, List.set_cons_succ]
      refine wpAnyH_done (by kernel_rfl) ?_ _
      all_goals
        have HB5 := Lib.hid (HBW.out.trans (HX5.out.mono HBW.out.size))
        clear HSM HER HAT KS
        go_upto_region 10 with (first
          | (go_at_call 12; refine (AT.out _ (by repeat' (first | exact HB5.out | (with_reducible refine below_drewN ?_ _) | (with_reducible refine Below.drew ?_)))).mono ?_; rintro r w7 ⟨u7, L7, rfl, hO, hm, hi, h3, hb⟩; have O7 := Lib.hid hO; have M7 := Lib.hid hm; have I7 := Lib.hid hi; have N7 := Lib.hid h3; have HB7 := Lib.hid (show Below w.heap.size w w7 from (show Below w.heap.size w _ from by repeat' (first | exact HB5.out | (with_reducible refine below_drewN ?_ _) | (with_reducible refine Below.drew ?_))).trans (hb.mono (by have := HB5.out.size; simpa using this))); clear hO hm hi h3 hb)
          | (go_at_call 13; refine (RT.out _ HB7.out).mono ?_; rintro r w8 ⟨u8, L8, rfl, hO, hm, hi, h3, hb⟩; have O8 := Lib.hid hO; have M8 := Lib.hid hm; have I8 := Lib.hid hi; have N8 := Lib.hid h3; have HB78 := Lib.hid hb; clear hO hm hi h3 hb))
        have O7' := Lib.hid (O7.out.below HB78.out)
        have HB8 := Lib.hid (HB7.out.trans (HB78.out.mono HB7.out.size))
        obtain ⟨A7, c7, rfl, -, -, hl7⟩ := O7'.out.lies
        obtain ⟨A8, c8, rfl, -, -, hl8⟩ := O8.out.lies
        have HSM := Lib.hid (by
          have := sameA_any hl7 hl8 c7 c8 (by have := N7.out; omega) (fun y hy => (I7.out y hy).len) (fun y hy => (I8.out y hy).len)
          rwa [show alikeL oneL L7 L8 = true from (alikeA_iff _ _).2 (M7.out.trans M8.out.symm)] at this : Calls Try.prog 9 #[.slice A7 L7.length c7, .slice A8 L8.length c8] w8 fun r w' => r = .returned (.bool true) ∧ Below w8.heap.size w8 w')
        clear hl7 hl8 O7' O7 O8 AT RT
        generalize L7.length = n7 at *
        generalize L8.length = n8 at *
        go_wp2_with (first
          | (go_at_call 9; refine HSM.out.mono ?_; rintro r w9 ⟨rfl, hb9⟩; have HB9 := Lib.hid (HB8.out.trans (hb9.mono HB8.out.size)); clear hb9)
          | (go_at_call 5; refine (hW.out _).mono ?_; rintro r w10 ⟨rfl, hb10⟩; have HB10 := Lib.hid (HB9.out.trans (hb10.mono HB9.out.size)); clear hb10))
        go_ret
        exact ⟨rfl, HB10.out⟩
    · refine wp_region_held_drew (S := (fun X => Below w3.heap.size w3 X ∧ X.cell? ⟨w1.heap.size, 1, none⟩ = some (.int .i64 (A : Int)) ∧ X.cell? ⟨w1.heap.size, 2, none⟩ = some (.int .i64 10))) (by kernel_rfl) (by (refine KS.out _ ?_; repeat' (first | (with_reducible assumption) | (with_reducible refine below_drewN ?_ _) | (with_reducible refine Below.drew ?_)))) (fun hHeld => ?_)
      refine take_r (i := 0) (v := ?_) rfl (by kernel_rfl) (by kernel_rfl) (by kernel_rfl) (fun _ _ _ h => h) (Or.inl ⟨by rfl, ?_⟩) hHeld ?_
      rotate_left
      · (intro wS hSw; (try dsimp only at hSw); go_simp; (try with_reducible rfl))
      try simp only [Act.put, List.setIfInBounds_toArray, List.set_cons_zero, List.set_cons_succ]
      refine take_r (i := 1) (v := ?_) rfl (by kernel_rfl) (by kernel_rfl) (by kernel_rfl) (fun _ _ _ h => h) (Or.inl ⟨by rfl, ?_⟩) hHeld ?_
      rotate_left
      · (intro wS hSw; (try dsimp only at hSw); go_simp; (try with_reducible rfl))
      try simp only [Act.put, List.setIfInBounds_toArray, List.set_cons_zero, List.set_cons_succ]
      refine wpAnyH_ready (rs := [2]) (by kernel_rfl) (by simp) ?_
      refine ready_r rfl (fun K hK => ?_)
      go_simp
      go_wp2_with ((go_at_call 9; refine (HSM.out _ hHeld.1).mono ?_; rintro r w5 ⟨rfl, hb5⟩; have hx5 : Below w3.heap.size w3 w5 := hHeld.1.trans (hb5.mono hHeld.1.size); have HX5 := Lib.hid hx5; clear hb5))
      refine hK.out _ _ ?_ (fun hNew => ?_)
      · (refine KS.out _ ?_; repeat' (first | (with_reducible assumption) | (with_reducible refine below_drewN ?_ _) | (with_reducible refine Below.drew ?_)))
      clear hHeld hK K
      have hHeld := hNew
      clear hNew
      refine take_r (i := 3) (v := ?_) rfl (by kernel_rfl) (by kernel_rfl) (by kernel_rfl) (fun _ _ _ h => h) (Or.inl ⟨by rfl, ?_⟩) hHeld ?_
      rotate_left
      · (intro wS hSw; (try dsimp only at hSw); go_simp; (try with_reducible rfl))
      try simp only [Act.put, List.setIfInBounds_toArray, List.set_cons_zero, List.set_cons_succ]
      refine take_r (i := 4) (v := ?_) rfl (by kernel_rfl) (by kernel_rfl) (by kernel_rfl) (fun _ _ _ h => h) (Or.inl ⟨by rfl, ?_⟩) hHeld ?_
      rotate_left
      · (intro wS hSw; (try dsimp only at hSw); go_simp; (try with_reducible rfl))
      try simp only [Act.put, List.setIfInBounds_toArray, List.set_cons_zero, List.set_cons_succ]
      refine take_r (i := 5) (v := ?_) rfl (by kernel_rfl) (by kernel_rfl) (by kernel_rfl) (fun _ _ _ h => h) (Or.inl ⟨by rfl, ?_⟩) hHeld ?_
      rotate_left
      · (intro wS hSw; (try dsimp only at hSw); go_simp; (try with_reducible rfl))
      try simp only [Act.put, List.setIfInBounds_toArray, List.set_cons_zero, List.set_cons_succ]
      refine take_r (i := 6) (v := ?_) rfl (by kernel_rfl) (by kernel_rfl) (by kernel_rfl) (fun _ _ _ h => h) (Or.inl ⟨by rfl, ?_⟩) hHeld ?_
      rotate_left
      · (intro wS hSw; (try dsimp only at hSw); go_simp; (try with_reducible rfl))
      try simp only [Act.put, List.setIfInBounds_toArray, List.set_cons_zero, List.set_cons_succ]
      refine take_r (i := 7) (v := ?_) rfl (by kernel_rfl) (by kernel_rfl) (by kernel_rfl) (fun _ _ _ h => h) (Or.inl ⟨by rfl, ?_⟩) hHeld ?_
      rotate_left
      · (intro wS hSw; (try dsimp only at hSw); go_simp; (try with_reducible rfl))
      try simp only [Act.put, List.setIfInBounds_toArray, List.set_cons_zero, List.set_cons_succ]
      refine take_r (i := 8) (v := ?_) rfl (by kernel_rfl) (by kernel_rfl) (by kernel_rfl) (fun _ _ _ h => h) (Or.inl ⟨by rfl, ?_⟩) hHeld ?_
      rotate_left
      · (intro wS hSw; (try dsimp only at hSw); go_simp; (try with_reducible rfl))
      try simp only [Act.put, List.setIfInBounds_toArray, List.set_cons_zero, List.set_cons_succ]
      refine take_r (i := 9) (v := ?_) rfl (by kernel_rfl) (by kernel_rfl) (by kernel_rfl) (fun _ _ _ h => h) (Or.inl ⟨by rfl, ?_⟩) hHeld ?_
      rotate_left
      · (intro wS hSw; (try dsimp only at hSw); go_simp; (try with_reducible rfl))
      try simp only [Act.put, List.setIfInBounds_toArray, List.set_cons_zero, List.set_cons_succ]
      refine take_r (i := 10) (v := ?_) rfl (by kernel_rfl) (by kernel_rfl) (by kernel_rfl) (fun _ _ _ h => h) (Or.inl ⟨by rfl, ?_⟩) hHeld ?_
      rotate_left
      · (intro wS hSw; (try dsimp only at hSw); go_simp; (try with_reducible rfl))
      try simp only [Act.put, List.setIfInBounds_toArray, List.set_cons_zero, List.set_cons_succ]
      refine take_r (i := 12) (v := ?_) rfl (by kernel_rfl) (by kernel_rfl) (by kernel_rfl) (fun _ _ _ h => h) (Or.inl ⟨by rfl, ?_⟩) hHeld ?_
      rotate_left
      · (intro wS hSw; (try dsimp only at hSw); go_simp; (try with_reducible rfl))
      try simp only [Act.put, List.setIfInBounds_toArray, List.set_cons_zero, List.set_cons_succ]
      refine take_r (i := 13) (v := ?_) rfl (by kernel_rfl) (by kernel_rfl) (by kernel_rfl) (fun _ _ _ h => h) (Or.inl ⟨by rfl, ?_⟩) hHeld ?_
      rotate_left
      · (intro wS hSw; (try dsimp only at hSw); go_simp; (try with_reducible rfl))
      try simp only [Act.put, List.setIfInBounds_toArray, List.set_cons_zero, List.set_cons_succ]
      refine take_r (i := 14) (v := ?_) rfl (by kernel_rfl) (by kernel_rfl) (by kernel_rfl) (fun _ _ _ h => h) (Or.inl ⟨by rfl, ?_⟩) hHeld ?_
      rotate_left
      · (intro wS hSw; (try dsimp only at hSw); go_simp; (try with_reducible rfl))
      try simp only [Act.put, List.setIfInBounds_toArray, List.set_cons_zero, List.set_cons_succ]
      refine take_r (i := 15) (v := ?_) rfl (by kernel_rfl) (by kernel_rfl) (by kernel_rfl) (fun _ _ _ h => h) (Or.inl ⟨by rfl, ?_⟩) hHeld ?_
      rotate_left
      · (intro wS hSw; (try dsimp only at hSw); go_simp; (try with_reducible rfl))
      try simp only [Act.put, List.setIfInBounds_toArray, List.set_cons_zero, List.set_cons_succ]
      refine wpAnyH_ready (rs := [11]) (by kernel_rfl) (by simp) ?_
      refine ready_r rfl (fun K hK => ?_)
      go_simp
      go_wp2_with ((go_at_call 10; refine (HER.out _ hHeld.1).mono ?_; rintro r w6 ⟨rfl, rfl⟩))
      refine hK.out _ _ ?_ (fun hNew => ?_)
      · exact hHeld
      clear hHeld hK K
      have hHeld := hNew
      clear hNew
      refine take_r (i := 16) (v := ?_) rfl (by kernel_rfl) (by kernel_rfl) (by kernel_rfl) (fun _ _ _ h => h) (Or.inl ⟨by rfl, ?_⟩) hHeld ?_
      rotate_left
      · (intro wS hSw; (try dsimp only at hSw); go_simp; (try with_reducible rfl))
      try simp only [Act.put, List.setIfInBounds_toArray, List.set_cons_zero, List.set_cons_succ]
      refine take_r (i := 17) (v := ?_) rfl (by kernel_rfl) (by kernel_rfl) (by kernel_rfl) (fun _ _ _ h => h) (Or.inl ⟨by rfl, ?_⟩) hHeld ?_
      rotate_left
      · (intro wS hSw; (try dsimp only at hSw); go_simp; (try with_reducible rfl))
      try simp only [Act.put, List.setIfInBounds_toArray, List.set_cons_zero, List.set_cons_succ]
      refine take_r (i := 18) (v := ?_) rfl (by kernel_rfl) (by kernel_rfl) (by kernel_rfl) (fun _ _ _ h => h) (Or.inl ⟨by rfl, ?_⟩) hHeld ?_
      rotate_left
      · (intro wS hSw; (try dsimp only at hSw); go_simp; (try with_reducible rfl))
      try simp only [Act.put, List.setIfInBounds_toArray, List.set_cons_zero, List.set_cons_succ]
      refine take_r (i := 19) (v := ?_) rfl (by kernel_rfl) (by kernel_rfl) (by kernel_rfl) (fun _ _ _ h => h) (Or.inl ⟨by rfl, ?_⟩) hHeld ?_
      rotate_left
      · (intro wS hSw; (try dsimp only at hSw); go_simp; (try with_reducible rfl))
      try simp only [Act.put, List.setIfInBounds_toArray, List.set_cons_zero, List.set_cons_succ]
      refine take_r (i := 20) (v := ?_) rfl (by kernel_rfl) (by kernel_rfl) (by kernel_rfl) (fun _ _ _ h => h) (Or.inl ⟨by rfl, ?_⟩) hHeld ?_
      rotate_left
      · (intro wS hSw; (try dsimp only at hSw); go_simp; (try with_reducible rfl))
      try simp only [Act.put, List.setIfInBounds_toArray, List.set_cons_zero, List.set_cons_succ]
      refine take_r (i := 21) (v := ?_) rfl (by kernel_rfl) (by kernel_rfl) (by kernel_rfl) (fun _ _ _ h => h) (Or.inl ⟨by rfl, ?_⟩) hHeld ?_
      rotate_left
      · (intro wS hSw; (try dsimp only at hSw); go_simp; (try with_reducible rfl))
      try simp only [Act.put, List.setIfInBounds_toArray, List.set_cons_zero, List.set_cons_succ]
      refine take_r (i := 22) (v := undef) rfl (by kernel_rfl) (by kernel_rfl) (by kernel_rfl) (fun _ _ _ h => h) (Or.inr ⟨by rfl, rfl⟩) hHeld ?_; try simp only [Act.put, List.setIfInBounds_toArray, List.set_cons_zero, List.set_cons_succ]
      refine take_r (i := 23) (v := undef) rfl (by kernel_rfl) (by kernel_rfl) (by kernel_rfl) (fun _ _ _ h => h) (Or.inr ⟨by rfl, rfl⟩) hHeld ?_; try simp only [Act.put, List.setIfInBounds_toArray, List.set_cons_zero, List.set_cons_succ]
      refine take_r (i := 24) (v := undef) rfl (by kernel_rfl) (by kernel_rfl) (by kernel_rfl) (fun _ _ _ h => h) (Or.inr ⟨by rfl, rfl⟩) hHeld ?_; try simp only [Act.put, List.setIfInBounds_toArray, List.set_cons_zero, List.set_cons_succ]
      refine take_r (i := 25) (v := undef) rfl (by kernel_rfl) (by kernel_rfl) (by kernel_rfl) (fun _ _ _ h => h) (Or.inr ⟨by rfl, rfl⟩) hHeld ?_; try simp only [Act.put, List.setIfInBounds_toArray, List.set_cons_zero, List.set_cons_succ]
      refine take_r (i := 26) (v := undef) rfl (by kernel_rfl) (by kernel_rfl) (by kernel_rfl) (fun _ _ _ h => h) (Or.inr ⟨by rfl, rfl⟩) hHeld ?_; try simp only [Act.put, List.setIfInBounds_toArray, List.set_cons_zero, List.set_cons_succ]
      refine take_r (i := 27) (v := undef) rfl (by kernel_rfl) (by kernel_rfl) (by kernel_rfl) (fun _ _ _ h => h) (Or.inr ⟨by rfl, rfl⟩) hHeld ?_; try simp only [Act.put, List.setIfInBounds_toArray, List.set_cons_zero, List.set_cons_succ]
      refine take_r (i := 28) (v := undef) rfl (by kernel_rfl) (by kernel_rfl) (by kernel_rfl) (fun _ _ _ h => h) (Or.inr ⟨by rfl, rfl⟩) hHeld ?_; try simp only [Act.put, List.setIfInBounds_toArray, List.set_cons_zero, List.set_cons_succ]
      refine take_r (i := 29) (v := ?_) rfl (by kernel_rfl) (by kernel_rfl) (by kernel_rfl) (fun _ _ _ h => h) (Or.inl ⟨by rfl, ?_⟩) hHeld ?_
      rotate_left
      · (intro wS hSw; (try dsimp only at hSw); go_simp; (try with_reducible rfl))
      try simp only [Act.put, List.setIfInBounds_toArray, List.set_cons_zero, List.set_cons_succ]
      refine take_r (i := 30) (v := ?_) rfl (by kernel_rfl) (by kernel_rfl) (by kernel_rfl) (fun _ _ _ h => h) (Or.inl ⟨by rfl, ?_⟩) hHeld ?_
      rotate_left
      · (intro wS hSw; (try dsimp only at hSw); go_simp; (try with_reducible rfl))
      try simp only [Act.put, List.setIfInBounds_toArray, List.set_cons_zero, List.set_cons_succ]
      refine wpAnyH_done (by kernel_rfl) ?_ _
      all_goals
        have HB5 := Lib.hid (HBW.out.trans (HX5.out.mono HBW.out.size))
        clear HSM HER HAT KS
        go_upto_region 10 with (first
          | (go_at_call 12; refine (AT.out _ (by repeat' (first | exact HB5.out | (with_reducible refine below_drewN ?_ _) | (with_reducible refine Below.drew ?_)))).mono ?_; rintro r w7 ⟨u7, L7, rfl, hO, hm, hi, h3, hb⟩; have O7 := Lib.hid hO; have M7 := Lib.hid hm; have I7 := Lib.hid hi; have N7 := Lib.hid h3; have HB7 := Lib.hid (show Below w.heap.size w w7 from (show Below w.heap.size w _ from by repeat' (first | exact HB5.out | (with_reducible refine below_drewN ?_ _) | (with_reducible refine Below.drew ?_))).trans (hb.mono (by have := HB5.out.size; simpa using this))); clear hO hm hi h3 hb)
          | (go_at_call 13; refine (RT.out _ HB7.out).mono ?_; rintro r w8 ⟨u8, L8, rfl, hO, hm, hi, h3, hb⟩; have O8 := Lib.hid hO; have M8 := Lib.hid hm; have I8 := Lib.hid hi; have N8 := Lib.hid h3; have HB78 := Lib.hid hb; clear hO hm hi h3 hb))
        have O7' := Lib.hid (O7.out.below HB78.out)
        have HB8 := Lib.hid (HB7.out.trans (HB78.out.mono HB7.out.size))
        obtain ⟨A7, c7, rfl, -, -, hl7⟩ := O7'.out.lies
        obtain ⟨A8, c8, rfl, -, -, hl8⟩ := O8.out.lies
        have HSM := Lib.hid (by
          have := sameA_any hl7 hl8 c7 c8 (by have := N7.out; omega) (fun y hy => (I7.out y hy).len) (fun y hy => (I8.out y hy).len)
          rwa [show alikeL oneL L7 L8 = true from (alikeA_iff _ _).2 (M7.out.trans M8.out.symm)] at this : Calls Try.prog 9 #[.slice A7 L7.length c7, .slice A8 L8.length c8] w8 fun r w' => r = .returned (.bool true) ∧ Below w8.heap.size w8 w')
        clear hl7 hl8 O7' O7 O8 AT RT
        generalize L7.length = n7 at *
        generalize L8.length = n8 at *
        go_wp2_with (first
          | (go_at_call 9; refine HSM.out.mono ?_; rintro r w9 ⟨rfl, hb9⟩; have HB9 := Lib.hid (HB8.out.trans (hb9.mono HB8.out.size)); clear hb9)
          | (go_at_call 5; refine (hW.out _).mono ?_; rintro r w10 ⟨rfl, hb10⟩; have HB10 := Lib.hid (HB9.out.trans (hb10.mono HB9.out.size)); clear hb10))
        go_ret
        exact ⟨rfl, HB10.out⟩
    · refine wp_region_held_drew (S := (fun X => Below w3.heap.size w3 X ∧ X.cell? ⟨w1.heap.size, 1, none⟩ = some (.int .i64 (A : Int)) ∧ X.cell? ⟨w1.heap.size, 2, none⟩ = some (.int .i64 11))) (by kernel_rfl) (by (refine KS.out _ ?_; repeat' (first | (with_reducible assumption) | (with_reducible refine below_drewN ?_ _) | (with_reducible refine Below.drew ?_)))) (fun hHeld => ?_)
      refine take_r (i := 0) (v := ?_) rfl (by kernel_rfl) (by kernel_rfl) (by kernel_rfl) (fun _ _ _ h => h) (Or.inl ⟨by rfl, ?_⟩) hHeld ?_
      rotate_left
      · (intro wS hSw; (try dsimp only at hSw); go_simp; (try with_reducible rfl))
      try simp only [Act.put, List.setIfInBounds_toArray, List.set_cons_zero, List.set_cons_succ]
      refine take_r (i := 1) (v := ?_) rfl (by kernel_rfl) (by kernel_rfl) (by kernel_rfl) (fun _ _ _ h => h) (Or.inl ⟨by rfl, ?_⟩) hHeld ?_
      rotate_left
      · (intro wS hSw; (try dsimp only at hSw); go_simp; (try with_reducible rfl))
      try simp only [Act.put, List.setIfInBounds_toArray, List.set_cons_zero, List.set_cons_succ]
      refine wpAnyH_ready (rs := [2]) (by kernel_rfl) (by simp) ?_
      refine ready_r rfl (fun K hK => ?_)
      go_simp
      go_wp2_with ((go_at_call 9; refine (HSM.out _ hHeld.1).mono ?_; rintro r w5 ⟨rfl, hb5⟩; have hx5 : Below w3.heap.size w3 w5 := hHeld.1.trans (hb5.mono hHeld.1.size); have HX5 := Lib.hid hx5; clear hb5))
      refine hK.out _ _ ?_ (fun hNew => ?_)
      · (refine KS.out _ ?_; repeat' (first | (with_reducible assumption) | (with_reducible refine below_drewN ?_ _) | (with_reducible refine Below.drew ?_)))
      clear hHeld hK K
      have hHeld := hNew
      clear hNew
      refine take_r (i := 3) (v := ?_) rfl (by kernel_rfl) (by kernel_rfl) (by kernel_rfl) (fun _ _ _ h => h) (Or.inl ⟨by rfl, ?_⟩) hHeld ?_
      rotate_left
      · (intro wS hSw; (try dsimp only at hSw); go_simp; (try with_reducible rfl))
      try simp only [Act.put, List.setIfInBounds_toArray, List.set_cons_zero, List.set_cons_succ]
      refine take_r (i := 4) (v := ?_) rfl (by kernel_rfl) (by kernel_rfl) (by kernel_rfl) (fun _ _ _ h => h) (Or.inl ⟨by rfl, ?_⟩) hHeld ?_
      rotate_left
      · (intro wS hSw; (try dsimp only at hSw); go_simp; (try with_reducible rfl))
      try simp only [Act.put, List.setIfInBounds_toArray, List.set_cons_zero, List.set_cons_succ]
      refine take_r (i := 5) (v := ?_) rfl (by kernel_rfl) (by kernel_rfl) (by kernel_rfl) (fun _ _ _ h => h) (Or.inl ⟨by rfl, ?_⟩) hHeld ?_
      rotate_left
      · (intro wS hSw; (try dsimp only at hSw); go_simp; (try with_reducible rfl))
      try simp only [Act.put, List.setIfInBounds_toArray, List.set_cons_zero, List.set_cons_succ]
      refine take_r (i := 6) (v := ?_) rfl (by kernel_rfl) (by kernel_rfl) (by kernel_rfl) (fun _ _ _ h => h) (Or.inl ⟨by rfl, ?_⟩) hHeld ?_
      rotate_left
      · (intro wS hSw; (try dsimp only at hSw); go_simp; (try with_reducible rfl))
      try simp only [Act.put, List.setIfInBounds_toArray, List.set_cons_zero, List.set_cons_succ]
      refine take_r (i := 7) (v := ?_) rfl (by kernel_rfl) (by kernel_rfl) (by kernel_rfl) (fun _ _ _ h => h) (Or.inl ⟨by rfl, ?_⟩) hHeld ?_
      rotate_left
      · (intro wS hSw; (try dsimp only at hSw); go_simp; (try with_reducible rfl))
      try simp only [Act.put, List.setIfInBounds_toArray, List.set_cons_zero, List.set_cons_succ]
      refine take_r (i := 8) (v := ?_) rfl (by kernel_rfl) (by kernel_rfl) (by kernel_rfl) (fun _ _ _ h => h) (Or.inl ⟨by rfl, ?_⟩) hHeld ?_
      rotate_left
      · (intro wS hSw; (try dsimp only at hSw); go_simp; (try with_reducible rfl))
      try simp only [Act.put, List.setIfInBounds_toArray, List.set_cons_zero, List.set_cons_succ]
      refine take_r (i := 9) (v := ?_) rfl (by kernel_rfl) (by kernel_rfl) (by kernel_rfl) (fun _ _ _ h => h) (Or.inl ⟨by rfl, ?_⟩) hHeld ?_
      rotate_left
      · (intro wS hSw; (try dsimp only at hSw); go_simp; (try with_reducible rfl))
      try simp only [Act.put, List.setIfInBounds_toArray, List.set_cons_zero, List.set_cons_succ]
      refine take_r (i := 10) (v := ?_) rfl (by kernel_rfl) (by kernel_rfl) (by kernel_rfl) (fun _ _ _ h => h) (Or.inl ⟨by rfl, ?_⟩) hHeld ?_
      rotate_left
      · (intro wS hSw; (try dsimp only at hSw); go_simp; (try with_reducible rfl))
      try simp only [Act.put, List.setIfInBounds_toArray, List.set_cons_zero, List.set_cons_succ]
      refine take_r (i := 12) (v := ?_) rfl (by kernel_rfl) (by kernel_rfl) (by kernel_rfl) (fun _ _ _ h => h) (Or.inl ⟨by rfl, ?_⟩) hHeld ?_
      rotate_left
      · (intro wS hSw; (try dsimp only at hSw); go_simp; (try with_reducible rfl))
      try simp only [Act.put, List.setIfInBounds_toArray, List.set_cons_zero, List.set_cons_succ]
      refine take_r (i := 13) (v := ?_) rfl (by kernel_rfl) (by kernel_rfl) (by kernel_rfl) (fun _ _ _ h => h) (Or.inl ⟨by rfl, ?_⟩) hHeld ?_
      rotate_left
      · (intro wS hSw; (try dsimp only at hSw); go_simp; (try with_reducible rfl))
      try simp only [Act.put, List.setIfInBounds_toArray, List.set_cons_zero, List.set_cons_succ]
      refine take_r (i := 14) (v := ?_) rfl (by kernel_rfl) (by kernel_rfl) (by kernel_rfl) (fun _ _ _ h => h) (Or.inl ⟨by rfl, ?_⟩) hHeld ?_
      rotate_left
      · (intro wS hSw; (try dsimp only at hSw); go_simp; (try with_reducible rfl))
      try simp only [Act.put, List.setIfInBounds_toArray, List.set_cons_zero, List.set_cons_succ]
      refine take_r (i := 15) (v := ?_) rfl (by kernel_rfl) (by kernel_rfl) (by kernel_rfl) (fun _ _ _ h => h) (Or.inl ⟨by rfl, ?_⟩) hHeld ?_
      rotate_left
      · (intro wS hSw; (try dsimp only at hSw); go_simp; (try with_reducible rfl))
      try simp only [Act.put, List.setIfInBounds_toArray, List.set_cons_zero, List.set_cons_succ]
      refine wpAnyH_ready (rs := [11]) (by kernel_rfl) (by simp) ?_
      refine ready_r rfl (fun K hK => ?_)
      go_simp
      go_wp2_with ((go_at_call 10; refine (HER.out _ hHeld.1).mono ?_; rintro r w6 ⟨rfl, rfl⟩))
      refine hK.out _ _ ?_ (fun hNew => ?_)
      · exact hHeld
      clear hHeld hK K
      have hHeld := hNew
      clear hNew
      refine take_r (i := 16) (v := ?_) rfl (by kernel_rfl) (by kernel_rfl) (by kernel_rfl) (fun _ _ _ h => h) (Or.inl ⟨by rfl, ?_⟩) hHeld ?_
      rotate_left
      · (intro wS hSw; (try dsimp only at hSw); go_simp; (try with_reducible rfl))
      try simp only [Act.put, List.setIfInBounds_toArray, List.set_cons_zero, List.set_cons_succ]
      refine take_r (i := 17) (v := ?_) rfl (by kernel_rfl) (by kernel_rfl) (by kernel_rfl) (fun _ _ _ h => h) (Or.inl ⟨by rfl, ?_⟩) hHeld ?_
      rotate_left
      · (intro wS hSw; (try dsimp only at hSw); go_simp; (try with_reducible rfl))
      try simp only [Act.put, List.setIfInBounds_toArray, List.set_cons_zero, List.set_cons_succ]
      refine take_r (i := 18) (v := ?_) rfl (by kernel_rfl) (by kernel_rfl) (by kernel_rfl) (fun _ _ _ h => h) (Or.inl ⟨by rfl, ?_⟩) hHeld ?_
      rotate_left
      · (intro wS hSw; (try dsimp only at hSw); go_simp; (try with_reducible rfl))
      try simp only [Act.put, List.setIfInBounds_toArray, List.set_cons_zero, List.set_cons_succ]
      refine take_r (i := 19) (v := ?_) rfl (by kernel_rfl) (by kernel_rfl) (by kernel_rfl) (fun _ _ _ h => h) (Or.inl ⟨by rfl, ?_⟩) hHeld ?_
      rotate_left
      · (intro wS hSw; (try dsimp only at hSw); go_simp; (try with_reducible rfl))
      try simp only [Act.put, List.setIfInBounds_toArray, List.set_cons_zero, List.set_cons_succ]
      refine take_r (i := 20) (v := ?_) rfl (by kernel_rfl) (by kernel_rfl) (by kernel_rfl) (fun _ _ _ h => h) (Or.inl ⟨by rfl, ?_⟩) hHeld ?_
      rotate_left
      · (intro wS hSw; (try dsimp only at hSw); go_simp; (try with_reducible rfl))
      try simp only [Act.put, List.setIfInBounds_toArray, List.set_cons_zero, List.set_cons_succ]
      refine take_r (i := 21) (v := ?_) rfl (by kernel_rfl) (by kernel_rfl) (by kernel_rfl) (fun _ _ _ h => h) (Or.inl ⟨by rfl, ?_⟩) hHeld ?_
      rotate_left
      · (intro wS hSw; (try dsimp only at hSw); go_simp; (try with_reducible rfl))
      try simp only [Act.put, List.setIfInBounds_toArray, List.set_cons_zero, List.set_cons_succ]
      refine take_r (i := 22) (v := undef) rfl (by kernel_rfl) (by kernel_rfl) (by kernel_rfl) (fun _ _ _ h => h) (Or.inr ⟨by rfl, rfl⟩) hHeld ?_; try simp only [Act.put, List.setIfInBounds_toArray, List.set_cons_zero, List.set_cons_succ]
      refine take_r (i := 23) (v := undef) rfl (by kernel_rfl) (by kernel_rfl) (by kernel_rfl) (fun _ _ _ h => h) (Or.inr ⟨by rfl, rfl⟩) hHeld ?_; try simp only [Act.put, List.setIfInBounds_toArray, List.set_cons_zero, List.set_cons_succ]
      refine take_r (i := 24) (v := undef) rfl (by kernel_rfl) (by kernel_rfl) (by kernel_rfl) (fun _ _ _ h => h) (Or.inr ⟨by rfl, rfl⟩) hHeld ?_; try simp only [Act.put, List.setIfInBounds_toArray, List.set_cons_zero, List.set_cons_succ]
      refine take_r (i := 25) (v := undef) rfl (by kernel_rfl) (by kernel_rfl) (by kernel_rfl) (fun _ _ _ h => h) (Or.inr ⟨by rfl, rfl⟩) hHeld ?_; try simp only [Act.put, List.setIfInBounds_toArray, List.set_cons_zero, List.set_cons_succ]
      refine take_r (i := 26) (v := undef) rfl (by kernel_rfl) (by kernel_rfl) (by kernel_rfl) (fun _ _ _ h => h) (Or.inr ⟨by rfl, rfl⟩) hHeld ?_; try simp only [Act.put, List.setIfInBounds_toArray, List.set_cons_zero, List.set_cons_succ]
      refine take_r (i := 27) (v := undef) rfl (by kernel_rfl) (by kernel_rfl) (by kernel_rfl) (fun _ _ _ h => h) (Or.inr ⟨by rfl, rfl⟩) hHeld ?_; try simp only [Act.put, List.setIfInBounds_toArray, List.set_cons_zero, List.set_cons_succ]
      refine take_r (i := 28) (v := undef) rfl (by kernel_rfl) (by kernel_rfl) (by kernel_rfl) (fun _ _ _ h => h) (Or.inr ⟨by rfl, rfl⟩) hHeld ?_; try simp only [Act.put, List.setIfInBounds_toArray, List.set_cons_zero, List.set_cons_succ]
      refine take_r (i := 29) (v := ?_) rfl (by kernel_rfl) (by kernel_rfl) (by kernel_rfl) (fun _ _ _ h => h) (Or.inl ⟨by rfl, ?_⟩) hHeld ?_
      rotate_left
      · (intro wS hSw; (try dsimp only at hSw); go_simp; (try with_reducible rfl))
      try simp only [Act.put, List.setIfInBounds_toArray, List.set_cons_zero, List.set_cons_succ]
      refine take_r (i := 30) (v := ?_) rfl (by kernel_rfl) (by kernel_rfl) (by kernel_rfl) (fun _ _ _ h => h) (Or.inl ⟨by rfl, ?_⟩) hHeld ?_
      rotate_left
      · (intro wS hSw; (try dsimp only at hSw); go_simp; (try with_reducible rfl))
      try simp only [Act.put, List.setIfInBounds_toArray, List.set_cons_zero, List.set_cons_succ]
      refine wpAnyH_done (by kernel_rfl) ?_ _
      all_goals
        have HB5 := Lib.hid (HBW.out.trans (HX5.out.mono HBW.out.size))
        clear HSM HER HAT KS
        go_upto_region 10 with (first
          | (go_at_call 12; refine (AT.out _ (by repeat' (first | exact HB5.out | (with_reducible refine below_drewN ?_ _) | (with_reducible refine Below.drew ?_)))).mono ?_; rintro r w7 ⟨u7, L7, rfl, hO, hm, hi, h3, hb⟩; have O7 := Lib.hid hO; have M7 := Lib.hid hm; have I7 := Lib.hid hi; have N7 := Lib.hid h3; have HB7 := Lib.hid (show Below w.heap.size w w7 from (show Below w.heap.size w _ from by repeat' (first | exact HB5.out | (with_reducible refine below_drewN ?_ _) | (with_reducible refine Below.drew ?_))).trans (hb.mono (by have := HB5.out.size; simpa using this))); clear hO hm hi h3 hb)
          | (go_at_call 13; refine (RT.out _ HB7.out).mono ?_; rintro r w8 ⟨u8, L8, rfl, hO, hm, hi, h3, hb⟩; have O8 := Lib.hid hO; have M8 := Lib.hid hm; have I8 := Lib.hid hi; have N8 := Lib.hid h3; have HB78 := Lib.hid hb; clear hO hm hi h3 hb))
        have O7' := Lib.hid (O7.out.below HB78.out)
        have HB8 := Lib.hid (HB7.out.trans (HB78.out.mono HB7.out.size))
        obtain ⟨A7, c7, rfl, -, -, hl7⟩ := O7'.out.lies
        obtain ⟨A8, c8, rfl, -, -, hl8⟩ := O8.out.lies
        have HSM := Lib.hid (by
          have := sameA_any hl7 hl8 c7 c8 (by have := N7.out; omega) (fun y hy => (I7.out y hy).len) (fun y hy => (I8.out y hy).len)
          rwa [show alikeL oneL L7 L8 = true from (alikeA_iff _ _).2 (M7.out.trans M8.out.symm)] at this : Calls Try.prog 9 #[.slice A7 L7.length c7, .slice A8 L8.length c8] w8 fun r w' => r = .returned (.bool true) ∧ Below w8.heap.size w8 w')
        clear hl7 hl8 O7' O7 O8 AT RT
        generalize L7.length = n7 at *
        generalize L8.length = n8 at *
        go_wp2_with (first
          | (go_at_call 9; refine HSM.out.mono ?_; rintro r w9 ⟨rfl, hb9⟩; have HB9 := Lib.hid (HB8.out.trans (hb9.mono HB8.out.size)); clear hb9)
          | (go_at_call 5; refine (hW.out _).mono ?_; rintro r w10 ⟨rfl, hb10⟩; have HB10 := Lib.hid (HB9.out.trans (hb10.mono HB9.out.size)); clear hb10))
        go_ret
        exact ⟨rfl, HB10.out⟩
    · refine wp_region_held_drew (S := (fun X => Below w3.heap.size w3 X ∧ X.cell? ⟨w1.heap.size, 1, none⟩ = some (.int .i64 (A : Int)) ∧ X.cell? ⟨w1.heap.size, 2, none⟩ = some (.int .i64 40))) (by kernel_rfl) (by (refine KS.out _ ?_; repeat' (first | (with_reducible assumption) | (with_reducible refine below_drewN ?_ _) | (with_reducible refine Below.drew ?_)))) (fun hHeld => ?_)
      refine take_r (i := 0) (v := ?_) rfl (by kernel_rfl) (by kernel_rfl) (by kernel_rfl) (fun _ _ _ h => h) (Or.inl ⟨by rfl, ?_⟩) hHeld ?_
      rotate_left
      · (intro wS hSw; (try dsimp only at hSw); go_simp; (try with_reducible rfl))
      try simp only [Act.put, List.setIfInBounds_toArray, List.set_cons_zero, List.set_cons_succ]
      refine take_r (i := 1) (v := ?_) rfl (by kernel_rfl) (by kernel_rfl) (by kernel_rfl) (fun _ _ _ h => h) (Or.inl ⟨by rfl, ?_⟩) hHeld ?_
      rotate_left
      · (intro wS hSw; (try dsimp only at hSw); go_simp; (try with_reducible rfl))
      try simp only [Act.put, List.setIfInBounds_toArray, List.set_cons_zero, List.set_cons_succ]
      refine wpAnyH_ready (rs := [2]) (by kernel_rfl) (by simp) ?_
      refine ready_r rfl (fun K hK => ?_)
      go_simp
      go_wp2_with ((go_at_call 9; refine (HSM.out _ hHeld.1).mono ?_; rintro r w5 ⟨rfl, hb5⟩; have hx5 : Below w3.heap.size w3 w5 := hHeld.1.trans (hb5.mono hHeld.1.size); have HX5 := Lib.hid hx5; clear hb5))
      refine hK.out _ _ ?_ (fun hNew => ?_)
      · (refine KS.out _ ?_; repeat' (first | (with_reducible assumption) | (with_reducible refine below_drewN ?_ _) | (with_reducible refine Below.drew ?_)))
      clear hHeld hK K
      have hHeld := hNew
      clear hNew
      refine take_r (i := 3) (v := ?_) rfl (by kernel_rfl) (by kernel_rfl) (by kernel_rfl) (fun _ _ _ h => h) (Or.inl ⟨by rfl, ?_⟩) hHeld ?_
      rotate_left
      · (intro wS hSw; (try dsimp only at hSw); go_simp; (try with_reducible rfl))
      try simp only [Act.put, List.setIfInBounds_toArray, List.set_cons_zero, List.set_cons_succ]
      refine take_r (i := 4) (v := ?_) rfl (by kernel_rfl) (by kernel_rfl) (by kernel_rfl) (fun _ _ _ h => h) (Or.inl ⟨by rfl, ?_⟩) hHeld ?_
      rotate_left
      · (intro wS hSw; (try dsimp only at hSw); go_simp; (try with_reducible rfl))
      try simp only [Act.put, List.setIfInBounds_toArray, List.set_cons_zero, List.set_cons_succ]
      refine take_r (i := 5) (v := ?_) rfl (by kernel_rfl) (by kernel_rfl) (by kernel_rfl) (fun _ _ _ h => h) (Or.inl ⟨by rfl, ?_⟩) hHeld ?_
      rotate_left
      · (intro wS hSw; (try dsimp only at hSw); go_simp; (try with_reducible rfl))
      try simp only [Act.put, List.setIfInBounds_toArray, List.set_cons_zero, List.set_cons_succ]
      refine take_r (i := 6) (v := ?_) rfl (by kernel_rfl) (by kernel_rfl) (by kernel_rfl) (fun _ _ _ h => h) (Or.inl ⟨by rfl, ?_⟩) hHeld ?_
      rotate_left
      · (intro wS hSw; (try dsimp only at hSw); go_simp; (try with_reducible rfl))
      try simp only [Act.put, List.setIfInBounds_toArray, List.set_cons_zero, List.set_cons_succ]
      refine take_r (i := 7) (v := ?_) rfl (by kernel_rfl) (by kernel_rfl) (by kernel_rfl) (fun _ _ _ h => h) (Or.inl ⟨by rfl, ?_⟩) hHeld ?_
      rotate_left
      · (intro wS hSw; (try dsimp only at hSw); go_simp; (try with_reducible rfl))
      try simp only [Act.put, List.setIfInBounds_toArray, List.set_cons_zero, List.set_cons_succ]
      refine take_r (i := 8) (v := ?_) rfl (by kernel_rfl) (by kernel_rfl) (by kernel_rfl) (fun _ _ _ h => h) (Or.inl ⟨by rfl, ?_⟩) hHeld ?_
      rotate_left
      · (intro wS hSw; (try dsimp only at hSw); go_simp; (try with_reducible rfl))
      try simp only [Act.put, List.setIfInBounds_toArray, List.set_cons_zero, List.set_cons_succ]
      refine take_r (i := 9) (v := ?_) rfl (by kernel_rfl) (by kernel_rfl) (by kernel_rfl) (fun _ _ _ h => h) (Or.inl ⟨by rfl, ?_⟩) hHeld ?_
      rotate_left
      · (intro wS hSw; (try dsimp only at hSw); go_simp; (try with_reducible rfl))
      try simp only [Act.put, List.setIfInBounds_toArray, List.set_cons_zero, List.set_cons_succ]
      refine take_r (i := 10) (v := ?_) rfl (by kernel_rfl) (by kernel_rfl) (by kernel_rfl) (fun _ _ _ h => h) (Or.inl ⟨by rfl, ?_⟩) hHeld ?_
      rotate_left
      · (intro wS hSw; (try dsimp only at hSw); go_simp; (try with_reducible rfl))
      try simp only [Act.put, List.setIfInBounds_toArray, List.set_cons_zero, List.set_cons_succ]
      refine take_r (i := 12) (v := ?_) rfl (by kernel_rfl) (by kernel_rfl) (by kernel_rfl) (fun _ _ _ h => h) (Or.inl ⟨by rfl, ?_⟩) hHeld ?_
      rotate_left
      · (intro wS hSw; (try dsimp only at hSw); go_simp; (try with_reducible rfl))
      try simp only [Act.put, List.setIfInBounds_toArray, List.set_cons_zero, List.set_cons_succ]
      refine take_r (i := 13) (v := ?_) rfl (by kernel_rfl) (by kernel_rfl) (by kernel_rfl) (fun _ _ _ h => h) (Or.inl ⟨by rfl, ?_⟩) hHeld ?_
      rotate_left
      · (intro wS hSw; (try dsimp only at hSw); go_simp; (try with_reducible rfl))
      try simp only [Act.put, List.setIfInBounds_toArray, List.set_cons_zero, List.set_cons_succ]
      refine take_r (i := 14) (v := ?_) rfl (by kernel_rfl) (by kernel_rfl) (by kernel_rfl) (fun _ _ _ h => h) (Or.inl ⟨by rfl, ?_⟩) hHeld ?_
      rotate_left
      · (intro wS hSw; (try dsimp only at hSw); go_simp; (try with_reducible rfl))
      try simp only [Act.put, List.setIfInBounds_toArray, List.set_cons_zero, List.set_cons_succ]
      refine take_r (i := 15) (v := ?_) rfl (by kernel_rfl) (by kernel_rfl) (by kernel_rfl) (fun _ _ _ h => h) (Or.inl ⟨by rfl, ?_⟩) hHeld ?_
      rotate_left
      · (intro wS hSw; (try dsimp only at hSw); go_simp; (try with_reducible rfl))
      try simp only [Act.put, List.setIfInBounds_toArray, List.set_cons_zero, List.set_cons_succ]
      refine wpAnyH_ready (rs := [11]) (by kernel_rfl) (by simp) ?_
      refine ready_r rfl (fun K hK => ?_)
      go_simp
      go_wp2_with ((go_at_call 10; refine (HER.out _ hHeld.1).mono ?_; rintro r w6 ⟨rfl, rfl⟩))
      refine hK.out _ _ ?_ (fun hNew => ?_)
      · exact hHeld
      clear hHeld hK K
      have hHeld := hNew
      clear hNew
      refine take_r (i := 16) (v := ?_) rfl (by kernel_rfl) (by kernel_rfl) (by kernel_rfl) (fun _ _ _ h => h) (Or.inl ⟨by rfl, ?_⟩) hHeld ?_
      rotate_left
      · (intro wS hSw; (try dsimp only at hSw); go_simp; (try with_reducible rfl))
      try simp only [Act.put, List.setIfInBounds_toArray, List.set_cons_zero, List.set_cons_succ]
      refine take_r (i := 17) (v := ?_) rfl (by kernel_rfl) (by kernel_rfl) (by kernel_rfl) (fun _ _ _ h => h) (Or.inl ⟨by rfl, ?_⟩) hHeld ?_
      rotate_left
      · (intro wS hSw; (try dsimp only at hSw); go_simp; (try with_reducible rfl))
      try simp only [Act.put, List.setIfInBounds_toArray, List.set_cons_zero, List.set_cons_succ]
      refine take_r (i := 18) (v := ?_) rfl (by kernel_rfl) (by kernel_rfl) (by kernel_rfl) (fun _ _ _ h => h) (Or.inl ⟨by rfl, ?_⟩) hHeld ?_
      rotate_left
      · (intro wS hSw; (try dsimp only at hSw); go_simp; (try with_reducible rfl))
      try simp only [Act.put, List.setIfInBounds_toArray, List.set_cons_zero, List.set_cons_succ]
      refine take_r (i := 19) (v := ?_) rfl (by kernel_rfl) (by kernel_rfl) (by kernel_rfl) (fun _ _ _ h => h) (Or.inl ⟨by rfl, ?_⟩) hHeld ?_
      rotate_left
      · (intro wS hSw; (try dsimp only at hSw); go_simp; (try with_reducible rfl))
      try simp only [Act.put, List.setIfInBounds_toArray, List.set_cons_zero, List.set_cons_succ]
      refine take_r (i := 20) (v := ?_) rfl (by kernel_rfl) (by kernel_rfl) (by kernel_rfl) (fun _ _ _ h => h) (Or.inl ⟨by rfl, ?_⟩) hHeld ?_
      rotate_left
      · (intro wS hSw; (try dsimp only at hSw); go_simp; (try with_reducible rfl))
      try simp only [Act.put, List.setIfInBounds_toArray, List.set_cons_zero, List.set_cons_succ]
      refine take_r (i := 21) (v := ?_) rfl (by kernel_rfl) (by kernel_rfl) (by kernel_rfl) (fun _ _ _ h => h) (Or.inl ⟨by rfl, ?_⟩) hHeld ?_
      rotate_left
      · (intro wS hSw; (try dsimp only at hSw); go_simp; (try with_reducible rfl))
      try simp only [Act.put, List.setIfInBounds_toArray, List.set_cons_zero, List.set_cons_succ]
      refine take_r (i := 22) (v := undef) rfl (by kernel_rfl) (by kernel_rfl) (by kernel_rfl) (fun _ _ _ h => h) (Or.inr ⟨by rfl, rfl⟩) hHeld ?_; try simp only [Act.put, List.setIfInBounds_toArray, List.set_cons_zero, List.set_cons_succ]
      refine take_r (i := 23) (v := undef) rfl (by kernel_rfl) (by kernel_rfl) (by kernel_rfl) (fun _ _ _ h => h) (Or.inr ⟨by rfl, rfl⟩) hHeld ?_; try simp only [Act.put, List.setIfInBounds_toArray, List.set_cons_zero, List.set_cons_succ]
      refine take_r (i := 24) (v := undef) rfl (by kernel_rfl) (by kernel_rfl) (by kernel_rfl) (fun _ _ _ h => h) (Or.inr ⟨by rfl, rfl⟩) hHeld ?_; try simp only [Act.put, List.setIfInBounds_toArray, List.set_cons_zero, List.set_cons_succ]
      refine take_r (i := 25) (v := undef) rfl (by kernel_rfl) (by kernel_rfl) (by kernel_rfl) (fun _ _ _ h => h) (Or.inr ⟨by rfl, rfl⟩) hHeld ?_; try simp only [Act.put, List.setIfInBounds_toArray, List.set_cons_zero, List.set_cons_succ]
      refine take_r (i := 26) (v := undef) rfl (by kernel_rfl) (by kernel_rfl) (by kernel_rfl) (fun _ _ _ h => h) (Or.inr ⟨by rfl, rfl⟩) hHeld ?_; try simp only [Act.put, List.setIfInBounds_toArray, List.set_cons_zero, List.set_cons_succ]
      refine take_r (i := 27) (v := undef) rfl (by kernel_rfl) (by kernel_rfl) (by kernel_rfl) (fun _ _ _ h => h) (Or.inr ⟨by rfl, rfl⟩) hHeld ?_; try simp only [Act.put, List.setIfInBounds_toArray, List.set_cons_zero, List.set_cons_succ]
      refine take_r (i := 28) (v := undef) rfl (by kernel_rfl) (by kernel_rfl) (by kernel_rfl) (fun _ _ _ h => h) (Or.inr ⟨by rfl, rfl⟩) hHeld ?_; try simp only [Act.put, List.setIfInBounds_toArray, List.set_cons_zero, List.set_cons_succ]
      refine take_r (i := 29) (v := ?_) rfl (by kernel_rfl) (by kernel_rfl) (by kernel_rfl) (fun _ _ _ h => h) (Or.inl ⟨by rfl, ?_⟩) hHeld ?_
      rotate_left
      · (intro wS hSw; (try dsimp only at hSw); go_simp; (try with_reducible rfl))
      try simp only [Act.put, List.setIfInBounds_toArray, List.set_cons_zero, List.set_cons_succ]
      refine take_r (i := 30) (v := ?_) rfl (by kernel_rfl) (by kernel_rfl) (by kernel_rfl) (fun _ _ _ h => h) (Or.inl ⟨by rfl, ?_⟩) hHeld ?_
      rotate_left
      · (intro wS hSw; (try dsimp only at hSw); go_simp; (try with_reducible rfl))
      try simp only [Act.put, List.setIfInBounds_toArray, List.set_cons_zero, List.set_cons_succ]
      refine wpAnyH_done (by kernel_rfl) ?_ _
      all_goals
        have HB5 := Lib.hid (HBW.out.trans (HX5.out.mono HBW.out.size))
        clear HSM HER HAT KS
        go_upto_region 10 with (first
          | (go_at_call 12; refine (AT.out _ (by repeat' (first | exact HB5.out | (with_reducible refine below_drewN ?_ _) | (with_reducible refine Below.drew ?_)))).mono ?_; rintro r w7 ⟨u7, L7, rfl, hO, hm, hi, h3, hb⟩; have O7 := Lib.hid hO; have M7 := Lib.hid hm; have I7 := Lib.hid hi; have N7 := Lib.hid h3; have HB7 := Lib.hid (show Below w.heap.size w w7 from (show Below w.heap.size w _ from by repeat' (first | exact HB5.out | (with_reducible refine below_drewN ?_ _) | (with_reducible refine Below.drew ?_))).trans (hb.mono (by have := HB5.out.size; simpa using this))); clear hO hm hi h3 hb)
          | (go_at_call 13; refine (RT.out _ HB7.out).mono ?_; rintro r w8 ⟨u8, L8, rfl, hO, hm, hi, h3, hb⟩; have O8 := Lib.hid hO; have M8 := Lib.hid hm; have I8 := Lib.hid hi; have N8 := Lib.hid h3; have HB78 := Lib.hid hb; clear hO hm hi h3 hb))
        have O7' := Lib.hid (O7.out.below HB78.out)
        have HB8 := Lib.hid (HB7.out.trans (HB78.out.mono HB7.out.size))
        obtain ⟨A7, c7, rfl, -, -, hl7⟩ := O7'.out.lies
        obtain ⟨A8, c8, rfl, -, -, hl8⟩ := O8.out.lies
        have HSM := Lib.hid (by
          have := sameA_any hl7 hl8 c7 c8 (by have := N7.out; omega) (fun y hy => (I7.out y hy).len) (fun y hy => (I8.out y hy).len)
          rwa [show alikeL oneL L7 L8 = true from (alikeA_iff _ _).2 (M7.out.trans M8.out.symm)] at this : Calls Try.prog 9 #[.slice A7 L7.length c7, .slice A8 L8.length c8] w8 fun r w' => r = .returned (.bool true) ∧ Below w8.heap.size w8 w')
        clear hl7 hl8 O7' O7 O8 AT RT
        generalize L7.length = n7 at *
        generalize L8.length = n8 at *
        go_wp2_with (first
          | (go_at_call 9; refine HSM.out.mono ?_; rintro r w9 ⟨rfl, hb9⟩; have HB9 := Lib.hid (HB8.out.trans (hb9.mono HB8.out.size)); clear hb9)
          | (go_at_call 5; refine (hW.out _).mono ?_; rintro r w10 ⟨rfl, hb10⟩; have HB10 := Lib.hid (HB9.out.trans (hb10.mono HB9.out.size)); clear hb10))
        go_ret
        exact ⟨rfl, HB10.out⟩

theorem atakes_card (a0 : Option Addr) (len0 cap0 : Nat) (z0 : List Int) (n1 : Int) (w : World) (w0 : IsRow .u8 w a0 len0 cap0 z0) (w1 : (Lit.int .u64 n1).wf = true) :
    Calls Try.prog 3 #[.slice a0 len0 cap0, .int .u64 n1] w fun e w' => e = .returned (.bool true) ∧ Below w.heap.size w w' := by
  obtain ⟨n, rfl, hn⟩ := nat_of_u64 w1
  exact atakes_walk a0 len0 cap0 z0 n w w0 hn

end Go.Proofs.Ytpmndmbhkfbljaa
