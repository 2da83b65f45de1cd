/-
  The document's own S of layer 2.
-/
import Derived.Test.YtejicboemkpeoaaGreatDoorRefU
namespace Go.Proofs.YtejicboemkpeoaaGreatDoor
open Go Go.RowKit

theorem lebVal_drop (q : List UInt8) (k : Nat) (h : k < q.length) : lebVal (q.drop k) = q[k].toNat % 128 + 128 * lebVal (q.drop (k + 1)) := by
  rw [List.drop_eq_getElem_cons h]
  rfl

theorem lebVal_split (q : List UInt8) (k : Nat) (h : k ≤ q.length) : lebVal q = lebVal (q.take k) + 128 ^ k * lebVal (q.drop k) := by
  have h1 := lebVal_append (q.take k) (q.drop k)
  rw [List.take_append_drop] at h1
  rw [h1, List.length_take, Nat.min_eq_left h]

theorem lebVal_big (q : List UInt8) (k : Nat) (h : k + 1 ≤ q.length) (hb : 144115188075855872 ≤ lebVal (q.drop (k + 1))) : 18446744073709551616 ≤ lebVal q := by
  rw [lebVal_split q (k + 1) h]
  have h1 : 128 ^ 1 ≤ 128 ^ (k + 1) := Nat.pow_le_pow_right (by decide) (by omega)
  have h2 : 128 ^ 1 * lebVal (q.drop (k + 1)) ≤ 128 ^ (k + 1) * lebVal (q.drop (k + 1)) := Nat.mul_le_mul_right _ h1
  omega

/-- The cells of the parts that were told. -/
theorem dig_at {w : World} {base : Nat} {u : Value} {q : List UInt8} {N : Nat} (h : w.ownsRow base 38 1 u N (digs q)) (hN : N = q.length) (h0 : 0 < N) :
    ∃ gu cap, u = .slice (some ⟨gu, 0, none⟩) N cap ∧ N ≤ cap ∧ cap ≤ maxLen ∧ ∀ j (hj : j < q.length), w.cell? ⟨gu, j, none⟩ = some (.int .u64 ((q[j].toNat % 128 : Nat) : Int)) := by
  rcases h.2 with ⟨rfl, h1⟩ | ⟨gu, cap, cur, rfl, hb, hg, hnc, hcm, hcs, htake⟩
  · omega
  · refine ⟨gu, cap, rfl, hnc, hcm, fun j hj => ?_⟩
    have h1 := World.ownsRow.cellAt (g := gu) (cap := cap) h j (by omega)
    rw [h1]
    simp [digs, hj]

set_option maxRecDepth 100000 in
set_option maxHeartbeats 2000000 in
theorem rU_ok {B : Nat} {w : World} {g : Nat} {v : Value} {l : List UInt8} {a : Nat} (h : RR B w g v l a 0) (hlen : l.length ≤ 140737488355328) :
    Calls Tryz.prog 94 #[.pointer (some ⟨g, 0, none⟩)] w fun x w' => x = .returned (.int .u64 ((uOf (l.drop a) 0).1 : Int)) ∧ RR B w' g v l (a + (uOf (l.drop a) 0).2.1) (uOf (l.drop a) 0).2.2 ∧ w.grownBy w' (some g) := by
  have hP := rparts_ok h hlen
  unfold PartsEnd at hP
  clear h
  obtain ⟨r, hr⟩ : ∃ r, r = l.drop a := ⟨_, rfl⟩
  rw [← hr] at hP ⊢
  clear hr
  have hu : uOf r 0 = readU r := by unfold uOf; rw [if_pos rfl]
  rw [hu]
  clear hu
  go_enter Tryz.func94, Tryz.ntmps94
  go_wp2_with fail
  refine hP.mono ?_
  rintro x w1 ⟨u, rfl, hend, hG⟩
  rcases hend with ⟨hrun, rfl, hC⟩ | ⟨hlt, hll, rfl, hC⟩ | ⟨hlt, hll, hrow, hC⟩
  · have HR := Lib.hid (show readU r = (0, 10, 11) by unfold readU; rw [if_pos hrun])
    have HC := Lib.hid hC
    have HG := Lib.hid hG
    clear hrun hC hG hP hlen
    go_wp2_with fail
    go_loopw [4, 5] (fun n i wr => i = .int .i64 (-1) ∧ n = .int .u64 0 ∧ wr = w1) (fun _ _ _ => 0)
    case atStart => exact ⟨rfl, rfl, rfl⟩
    case round =>
      obtain ⟨rfl, rfl, rfl⟩ := hrel
      go_wp2_with fail
      go_ret
      exact ⟨by rw [HR.out]; rfl, by rw [HR.out]; exact HC.out, HG.out⟩
  · have HR := Lib.hid (show readU r = (0, r.length, 10) by unfold readU; rw [if_neg (by omega), if_neg (by omega), hll])
    have HC := Lib.hid hC
    have HG := Lib.hid hG
    clear hlt hll hC hG hP hlen
    go_wp2_with fail
    go_loopw [4, 5] (fun n i wr => i = .int .i64 (-1) ∧ n = .int .u64 0 ∧ wr = w1) (fun _ _ _ => 0)
    case atStart => exact ⟨rfl, rfl, rfl⟩
    case round =>
      obtain ⟨rfl, rfl, rfl⟩ := hrel
      go_wp2_with fail
      go_ret
      exact ⟨by rw [HR.out]; rfl, by rw [HR.out]; exact HC.out, HG.out⟩
  · obtain ⟨q, hq⟩ : ∃ q, q = r.take (lebRun 10 r + 1) := ⟨_, rfl⟩
    obtain ⟨N, hN⟩ : ∃ N, N = lebRun 10 r + 1 := ⟨_, rfl⟩
    have hql : q.length = N := by rw [hq, hN]; simp; omega
    have HR := Lib.hid (show readU r = (if lebVal q < 18446744073709551616 then (lebVal q, N, 0) else (0, N, 11)) by unfold readU; rw [if_neg (by omega), if_pos hll, hq, hN])
    rw [← hq, ← hN] at hrow
    rw [← hN] at hC
    have hN10 : N ≤ 10 := by omega
    obtain ⟨gu, cap, rfl, hnc, hcm, hcell⟩ := dig_at hrow hql.symm (by omega)
    have HC := Lib.hid hC
    have HG := Lib.hid hG
    have HCELL := Lib.hid hcell
    have hF := qfail hC 11
    have HQ := Lib.hid hql
    have h1N : 1 ≤ N := by omega
    clear hlt hll hC hG hP hlen hrow hq hN hcell hnc hcm hql
    go_wp2_with fail
    go_loopw [4, 5] (fun n i wr => ∃ m : Nat, m ≤ N ∧ i = .int .i64 ((m : Int) - 1) ∧ n = .int .u64 (lebVal (q.drop m) : Int) ∧ Hid (lebVal (q.drop m) < 18446744073709551616) ∧ wr = w1) (fun _ i _ => (intOf i + 1).toNat)
    case atStart => exact ⟨N, Nat.le_refl _, rfl, by rw [List.drop_of_length_le (by rw [HQ.out]; exact Nat.le_refl _)]; rfl, Lib.hid (by rw [List.drop_of_length_le (by rw [HQ.out]; exact Nat.le_refl _)]; decide), rfl⟩
    case round =>
      obtain ⟨m, hm, hi, hn, hlt64, rfl⟩ := hrel
      rcases m with _ | k
      · have hi' : u5 = .int .i64 (-1) := hi
        subst hi' hn
        clear hi
        have HV := Lib.hid (show readU r = (lebVal q, N, 0) by rw [HR.out, if_pos (by have := hlt64.out; rwa [List.drop_zero] at this)])
        rw [List.drop_zero]
        go_wp2_with fail
        go_ret
        exact ⟨by rw [HV.out]; rfl, by rw [HV.out]; exact HC.out, HG.out⟩
      · have hi' : u5 = .int .i64 (k : Int) := by rw [hi]; congr 1; omega
        subst hi' hn
        clear hi
        have hkq : k < q.length := by rw [HQ.out]; omega
        have hck := HCELL.out k hkq
        have hdrop := lebVal_drop q k hkq
        have hbg := lebVal_big q k (by omega)
        have h64 := hlt64.out
        have hd : q[k].toNat % 128 < 128 := Nat.mod_lt _ (by decide)
        generalize q[k].toNat % 128 = d at *
        have HV := Lib.hid (show lebVal (q.drop k) = d + 128 * lebVal (q.drop (k + 1)) from hdrop)
        generalize lebVal (q.drop (k + 1)) = V at *
        clear hdrop hkq hlt64
        by_cases hbig : 144115188075855872 ≤ V
        · have HR2 := Lib.hid (show readU r = (0, N, 11) by rw [HR.out, if_neg (by have := hbg hbig; omega)])
          have c1 : decide ((144115188075855872 : Int) ≤ (V : Int)) = true := by simp; omega
          clear hbg h64 hd hbig
          go_wp2_with (go_at_call 137; refine hF.mono ?_; rintro r1 w2 ⟨rfl, hC1, hG1⟩)
          go_ret
          exact ⟨by rw [HR2.out]; rfl, by rw [HR2.out]; exact hC1, HG.out.trans hG1⟩
        · have c1 : decide ((144115188075855872 : Int) ≤ (V : Int)) = false := by simp; omega
          have s1 : IntKind.u64.wrap ((V : Int) * 128) = (V : Int) * 128 := by rw [IntWalk.u64_in _ (by omega)]
          have s2 : IntKind.u64.wrap ((V : Int) * 128 + (d : Int)) = (V : Int) * 128 + (d : Int) := by rw [IntWalk.u64_in _ (by omega)]
          have HLT := Lib.hid (show lebVal (q.drop k) < 18446744073709551616 by rw [HV.out]; omega)
          have HE := Lib.hid (show (V : Int) * 128 + (d : Int) = ((lebVal (q.drop k) : Nat) : Int) by rw [HV.out]; omega)
          have b2 : (k : Int) < (N : Int) := by omega
          clear hbg h64 hd hbig
          go_wp2_with fail
          exact ⟨⟨k, by omega, rfl, by rw [HE.out], HLT, trivial⟩, by simp [intOf]⟩

end Go.Proofs.YtejicboemkpeoaaGreatDoor

namespace Go.Proofs.YtejicboemkpeoaaGreatDoor
open Go Go.RowKit

theorem lebInt_drop (q : List UInt8) (k : Nat) (h : k + 1 < q.length) : lebInt (q.drop k) = ((q[k].toNat % 128 : Nat) : Int) + 128 * lebInt (q.drop (k + 1)) := by
  have h1 := lebVal_drop q k (by omega)
  have l1 : (q.drop k).length = (q.drop (k + 1)).length + 1 := by simp; omega
  have l2 : 1 ≤ (q.drop (k + 1)).length := by simp; omega
  unfold lebInt
  rw [h1, l1, Nat.add_sub_cancel]
  obtain ⟨m, hm⟩ : ∃ m, (q.drop (k + 1)).length = m + 1 := ⟨(q.drop (k + 1)).length - 1, by omega⟩
  rw [hm, Nat.add_sub_cancel]
  have hd : q[k].toNat % 128 < 128 := Nat.mod_lt _ (by decide)
  generalize q[k].toNat % 128 = d at *
  generalize lebVal (q.drop (k + 1)) = V at *
  have e1 : (128 : Nat) ^ (m + 1) = 128 ^ m * 128 := Nat.pow_succ ..
  have e2 : (128 : Int) ^ (m + 1) = ((128 ^ m : Nat) : Int) * 128 := by rw [Int.pow_succ]; simp
  have e3 : (128 : Int) ^ (m + 1 + 1) = ((128 ^ m : Nat) : Int) * 128 * 128 := by rw [Int.pow_succ, e2]
  rw [e1, e2, e3]
  generalize 128 ^ m = P at *
  by_cases hc : 64 * P ≤ V
  · rw [if_pos (by omega), if_pos hc]; omega
  · rw [if_neg (by omega), if_neg hc]; omega

theorem lebInt_last (q : List UInt8) (K : Nat) (h : q.length = K + 1) : lebInt (q.drop K) = sdig (q[K]'(by omega)) := by
  have h1 : q.drop K = [q[K]'(by omega)] := by
    rw [List.drop_eq_getElem_cons (by omega), List.drop_of_length_le (by omega)]
  rw [h1]
  unfold lebInt sdig
  simp only [lebVal, List.length_singleton, Nat.mul_zero, Nat.add_zero, Nat.sub_self, Nat.pow_zero, Nat.mul_one, Int.pow_succ, Int.pow_zero, Int.one_mul]
  generalize (q[K]'(by omega)).toNat % 128 = d
  by_cases hd : d < 64
  · rw [if_neg (by omega), if_pos hd]
  · rw [if_pos (by omega), if_neg hd]

theorem lebInt_split (q : List UInt8) (k : Nat) (h : k + 1 ≤ q.length) : lebInt q = (lebVal (q.take k) : Int) + ((128 ^ k : Nat) : Int) * lebInt (q.drop k) := by
  induction k with
  | zero => simp [lebVal]
  | succ k ih =>
    rw [ih (by omega), lebInt_drop q k (by omega), lebVal_take_succ q k (by omega)]
    rw [show ((128 ^ (k + 1) : Nat) : Int) = ((128 ^ k : Nat) : Int) * 128 by rw [Nat.pow_succ]; simp]
    simp only [Int.natCast_add, Int.natCast_mul, Int.mul_add, Int.mul_assoc]
    omega

theorem lebInt_out (q : List UInt8) (k : Nat) (h : k + 2 ≤ q.length) (hb : lebInt (q.drop (k + 1)) < -72057594037927936 ∨ 72057594037927935 < lebInt (q.drop (k + 1))) : ¬ (-9223372036854775808 ≤ lebInt q ∧ lebInt q ≤ 9223372036854775807) := by
  rw [lebInt_split q (k + 1) (by omega)]
  have hv := lebVal_take_lt q (k + 1)
  generalize lebVal (q.take (k + 1)) = V at *
  generalize lebInt (q.drop (k + 1)) = X at *
  have h1 : 128 ^ 1 ≤ 128 ^ (k + 1) := Nat.pow_le_pow_right (by decide) (by omega)
  generalize 128 ^ (k + 1) = P at *
  rcases hb with hb | hb
  · have h2 : (P : Int) * X ≤ (P : Int) * (-72057594037927937) := Int.mul_le_mul_of_nonneg_left (by omega) (by omega)
    omega
  · have h2 : (P : Int) * 72057594037927936 ≤ (P : Int) * X := Int.mul_le_mul_of_nonneg_left (by omega) (by omega)
    omega

theorem step_in {X : Int} {dd : Nat} (h : ¬ (X < -72057594037927936 ∨ 72057594037927935 < X)) (hd : dd < 128) :
    IntKind.i64.wrap (X * 128) = X * 128 ∧ wrap64 (X * 128) = X * 128 ∧ IntKind.i64.wrap (X * 128 + (dd : Int)) = X * 128 + (dd : Int) ∧ wrap64 (X * 128 + (dd : Int)) = X * 128 + (dd : Int) ∧ IntKind.i64.wrap (dd : Int) = (dd : Int) ∧ wrap64 (dd : Int) = (dd : Int) :=
  ⟨by rw [IntWalk.i64_in _ (by omega)], wrap64_in (by omega), by rw [IntWalk.i64_in _ (by omega)], wrap64_in (by omega), by rw [IntWalk.i64_in _ (by omega)], wrap64_in (by omega)⟩

theorem step_range {X : Int} {dd : Nat} (h : ¬ (X < -72057594037927936 ∨ 72057594037927935 < X)) (hd : dd < 128) : -9223372036854775808 ≤ (dd : Int) + 128 * X ∧ (dd : Int) + 128 * X ≤ 9223372036854775807 := by omega

set_option maxRecDepth 100000 in
set_option maxHeartbeats 2000000 in
theorem rS_ok {B : Nat} {w : World} {g : Nat} {v : Value} {l : List UInt8} {a : Nat} (h : RR B w g v l a 0) (hlen : l.length ≤ 140737488355328) :
    Calls Tryz.prog 138 #[.pointer (some ⟨g, 0, none⟩)] w fun x w' => x = .returned (.int .i64 (sOf (l.drop a) 0).1) ∧ RR B w' g v l (a + (sOf (l.drop a) 0).2.1) (sOf (l.drop a) 0).2.2 ∧ w.grownBy w' (some g) := by
  have hP := rparts_ok h hlen
  unfold PartsEnd at hP
  clear h
  obtain ⟨r, hr⟩ : ∃ r, r = l.drop a := ⟨_, rfl⟩
  rw [← hr] at hP ⊢
  clear hr
  have hu : sOf r 0 = readS r := by unfold sOf; rw [if_pos rfl]
  rw [hu]
  clear hu
  go_enter Tryz.func138, Tryz.ntmps138
  go_wp2_with fail
  refine hP.mono ?_
  rintro x w1 ⟨u, rfl, hend, hG⟩
  rcases hend with ⟨hrun, rfl, hC⟩ | ⟨hlt, hll, rfl, hC⟩ | ⟨hlt, hll, hrow, hC⟩
  · have HR := Lib.hid (show readS r = (0, 10, 11) by unfold readS; rw [if_pos hrun])
    have HC := Lib.hid hC
    have HG := Lib.hid hG
    clear hrun hC hG hP hlen
    go_wp2_with fail
    go_ret
    exact ⟨by rw [HR.out]; rfl, by rw [HR.out]; exact HC.out, HG.out⟩
  · have HR := Lib.hid (show readS r = (0, r.length, 10) by unfold readS; rw [if_neg (by omega), if_neg (by omega), hll])
    have HC := Lib.hid hC
    have HG := Lib.hid hG
    clear hlt hll hC hG hP hlen
    go_wp2_with fail
    go_ret
    exact ⟨by rw [HR.out]; rfl, by rw [HR.out]; exact HC.out, HG.out⟩
  · obtain ⟨q, hq⟩ : ∃ q, q = r.take (lebRun 10 r + 1) := ⟨_, rfl⟩
    obtain ⟨N, hN⟩ : ∃ N, N = lebRun 10 r + 1 := ⟨_, rfl⟩
    have hql : q.length = N := by rw [hq, hN]; simp; omega
    have HR := Lib.hid (show readS r = (if -9223372036854775808 ≤ lebInt q ∧ lebInt q ≤ 9223372036854775807 then (lebInt q, N, 0) else (0, N, 11)) by unfold readS; rw [if_neg (by omega), if_pos hll, hq, hN])
    rw [← hq, ← hN] at hrow
    rw [← hN] at hC
    have hN10 : N ≤ 10 := by omega
    obtain ⟨gu, cap, rfl, hnc, hcm, hcell⟩ := dig_at hrow hql.symm (by omega)
    have HC := Lib.hid hC
    have HG := Lib.hid hG
    have HCELL := Lib.hid hcell
    have hF := qfail hC 11
    have HQ := Lib.hid hql
    obtain ⟨K, hK⟩ : ∃ K, N = K + 1 := ⟨N - 1, by omega⟩
    have hKq : K < q.length := by omega
    have hck := hcell K hKq
    have hlast := lebInt_last q K (by omega)
    have hsr := sdig_range q[K]
    have hsd : sdig q[K] = (if q[K].toNat % 128 < 64 then ((q[K].toNat % 128 : Nat) : Int) else ((q[K].toNat % 128 : Nat) : Int) - 128) := rfl
    have hNK : (N : Int) - 1 = (K : Int) := by omega
    have hNK2 : (N : Int) - 2 = (K : Int) - 1 := by omega
    have hKN : (K : Int) < (N : Int) := by omega
    have hN0 : ((N : Int) == 0) = false := by simp; omega
    have hKb : (K : Int) ≤ 9 := by omega
    have hd : q[K].toNat % 128 < 128 := Nat.mod_lt _ (by decide)
    generalize q[K].toNat % 128 = d at *
    generalize sdig q[K] = sd at *
    have HK := Lib.hid hK
    have HLAST := Lib.hid hlast
    have HSD := Lib.hid hsd
    have HD := Lib.hid hd
    have HSR := Lib.hid hsr
    have HN10 := Lib.hid hN10
    clear hlt hll hC hG hP hlen hrow hq hN hcell hnc hcm hql hK hKq hlast hsd hd hsr hN10
    have hKN1 : K + 1 = N := HK.out.symm
    by_cases h64 : d < 64
    · have c1 : decide ((64 : Int) ≤ (d : Int)) = false := by simp; omega
      have hw : wrap64 (d : Int) = (d : Int) := wrap64_in (by omega)
      have HSD := Lib.hid (show sd = (d : Int) by rw [HSD.out, if_pos h64])
      clear h64
      go_wp2_with fail
      go_loopw [4, 5] (fun n i wr => ∃ m : Nat, m ≤ K ∧ i = .int .i64 ((m : Int) - 1) ∧ n = .int .i64 (lebInt (q.drop m)) ∧ Hid (-9223372036854775808 ≤ lebInt (q.drop m) ∧ lebInt (q.drop m) ≤ 9223372036854775807) ∧ wr = w1) (fun _ i _ => (intOf i + 1).toNat)
      case atStart => exact ⟨K, Nat.le_refl _, rfl, by rw [HLAST.out, HSD.out]; first | rfl | rw [hw] | rw [hw2], Lib.hid (by rw [HLAST.out]; have := HSR.out; omega), rfl⟩
      case round =>
        obtain ⟨m, hm, hi, hn, hlt64, rfl⟩ := hrel
        rcases m with _ | k
        · have hi' : u5 = .int .i64 (-1) := hi
          subst hi' hn
          clear hi
          have HV := Lib.hid (show readS r = (lebInt q, N, 0) by rw [HR.out, if_pos (by have := hlt64.out; rwa [List.drop_zero] at this)])
          rw [List.drop_zero]
          go_wp2_with fail
          go_ret
          exact ⟨by rw [HV.out]; rfl, by rw [HV.out]; exact HC.out, HG.out⟩
        · have hi' : u5 = .int .i64 (k : Int) := by rw [hi]; congr 1; omega
          subst hi' hn
          clear hi
          have hkq : k < q.length := by rw [HQ.out]; omega
          have hck := HCELL.out k hkq
          have hdrop := lebInt_drop q k (by rw [HQ.out]; omega)
          have hbg := lebInt_out q k (by rw [HQ.out]; omega)
          have h64 := hlt64.out
          have hdd : q[k].toNat % 128 < 128 := Nat.mod_lt _ (by decide)
          generalize q[k].toNat % 128 = dd at *
          have HV := Lib.hid hdrop
          generalize lebInt (q.drop (k + 1)) = X at *
          clear hdrop hkq hlt64
          have b2 : (k : Int) < (N : Int) := by omega
          by_cases hbig : X < -72057594037927936 ∨ 72057594037927935 < X
          · have HR2 := Lib.hid (show readS r = (0, N, 11) by rw [HR.out, if_neg (hbg hbig)])
            by_cases hlow : X < -72057594037927936
            · have c1 : decide (X < -72057594037927936) = true := decide_eq_true hlow
              clear hbg h64 hdd hbig hlow
              go_wp2_with (go_at_call 137; refine hF.mono ?_; rintro r1 w2 ⟨rfl, hC1, hG1⟩)
              go_ret
              exact ⟨by rw [HR2.out]; rfl, by rw [HR2.out]; exact hC1, HG.out.trans hG1⟩
            · have c1 : decide (X < -72057594037927936) = false := decide_eq_false hlow
              have c2 : decide (72057594037927935 < X) = true := decide_eq_true (hbig.resolve_left hlow)
              clear hbg h64 hdd hbig hlow
              go_wp2_with (go_at_call 137; refine hF.mono ?_; rintro r1 w2 ⟨rfl, hC1, hG1⟩)
              go_ret
              exact ⟨by rw [HR2.out]; rfl, by rw [HR2.out]; exact hC1, HG.out.trans hG1⟩
          · have c1 : decide (X < -72057594037927936) = false := decide_eq_false (fun h => hbig (.inl h))
            have c2 : decide (72057594037927935 < X) = false := decide_eq_false (fun h => hbig (.inr h))
            obtain ⟨s1, s1', s2, s2', s3, s3'⟩ := step_in hbig hdd
            have HLT := Lib.hid (show -9223372036854775808 ≤ lebInt (q.drop k) ∧ lebInt (q.drop k) ≤ 9223372036854775807 by rw [HV.out]; exact step_range hbig hdd)
            have HE := Lib.hid (show X * 128 + (dd : Int) = lebInt (q.drop k) by rw [HV.out, Int.add_comm, Int.mul_comm])
            clear hbg h64 hdd hbig
            go_wp2_with fail
            exact ⟨⟨k, by omega, rfl, by rw [HE.out], HLT, trivial⟩, by simp [intOf]⟩
    · have c1 : decide ((64 : Int) ≤ (d : Int)) = true := by simp; omega
      have hd128 := HD.out
      have hw : wrap64 (d : Int) = (d : Int) := wrap64_in (by omega)
      have hw2 : wrap64 ((d : Int) - 128) = (d : Int) - 128 := wrap64_in (by omega)
      have HSD := Lib.hid (show sd = (d : Int) - 128 by rw [HSD.out, if_neg h64])
      clear h64 hd128
      go_wp2_with fail
      go_loopw [4, 5] (fun n i wr => ∃ m : Nat, m ≤ K ∧ i = .int .i64 ((m : Int) - 1) ∧ n = .int .i64 (lebInt (q.drop m)) ∧ Hid (-9223372036854775808 ≤ lebInt (q.drop m) ∧ lebInt (q.drop m) ≤ 9223372036854775807) ∧ wr = w1) (fun _ i _ => (intOf i + 1).toNat)
      case atStart => exact ⟨K, Nat.le_refl _, rfl, by rw [HLAST.out, HSD.out]; first | rfl | rw [hw] | rw [hw2], Lib.hid (by rw [HLAST.out]; have := HSR.out; omega), rfl⟩
      case round =>
        obtain ⟨m, hm, hi, hn, hlt64, rfl⟩ := hrel
        rcases m with _ | k
        · have hi' : u5 = .int .i64 (-1) := hi
          subst hi' hn
          clear hi
          have HV := Lib.hid (show readS r = (lebInt q, N, 0) by rw [HR.out, if_pos (by have := hlt64.out; rwa [List.drop_zero] at this)])
          rw [List.drop_zero]
          go_wp2_with fail
          go_ret
          exact ⟨by rw [HV.out]; rfl, by rw [HV.out]; exact HC.out, HG.out⟩
        · have hi' : u5 = .int .i64 (k : Int) := by rw [hi]; congr 1; omega
          subst hi' hn
          clear hi
          have hkq : k < q.length := by rw [HQ.out]; omega
          have hck := HCELL.out k hkq
          have hdrop := lebInt_drop q k (by rw [HQ.out]; omega)
          have hbg := lebInt_out q k (by rw [HQ.out]; omega)
          have h64 := hlt64.out
          have hdd : q[k].toNat % 128 < 128 := Nat.mod_lt _ (by decide)
          generalize q[k].toNat % 128 = dd at *
          have HV := Lib.hid hdrop
          generalize lebInt (q.drop (k + 1)) = X at *
          clear hdrop hkq hlt64
          have b2 : (k : Int) < (N : Int) := by omega
          by_cases hbig : X < -72057594037927936 ∨ 72057594037927935 < X
          · have HR2 := Lib.hid (show readS r = (0, N, 11) by rw [HR.out, if_neg (hbg hbig)])
            by_cases hlow : X < -72057594037927936
            · have c1 : decide (X < -72057594037927936) = true := decide_eq_true hlow
              clear hbg h64 hdd hbig hlow
              go_wp2_with (go_at_call 137; refine hF.mono ?_; rintro r1 w2 ⟨rfl, hC1, hG1⟩)
              go_ret
              exact ⟨by rw [HR2.out]; rfl, by rw [HR2.out]; exact hC1, HG.out.trans hG1⟩
            · have c1 : decide (X < -72057594037927936) = false := decide_eq_false hlow
              have c2 : decide (72057594037927935 < X) = true := decide_eq_true (hbig.resolve_left hlow)
              clear hbg h64 hdd hbig hlow
              go_wp2_with (go_at_call 137; refine hF.mono ?_; rintro r1 w2 ⟨rfl, hC1, hG1⟩)
              go_ret
              exact ⟨by rw [HR2.out]; rfl, by rw [HR2.out]; exact hC1, HG.out.trans hG1⟩
          · have c1 : decide (X < -72057594037927936) = false := decide_eq_false (fun h => hbig (.inl h))
            have c2 : decide (72057594037927935 < X) = false := decide_eq_false (fun h => hbig (.inr h))
            obtain ⟨s1, s1', s2, s2', s3, s3'⟩ := step_in hbig hdd
            have HLT := Lib.hid (show -9223372036854775808 ≤ lebInt (q.drop k) ∧ lebInt (q.drop k) ≤ 9223372036854775807 by rw [HV.out]; exact step_range hbig hdd)
            have HE := Lib.hid (show X * 128 + (dd : Int) = lebInt (q.drop k) by rw [HV.out, Int.add_comm, Int.mul_comm])
            clear hbg h64 hdd hbig
            go_wp2_with fail
            exact ⟨⟨k, by omega, rfl, by rw [HE.out], HLT, trivial⟩, by simp [intOf]⟩

end Go.Proofs.YtejicboemkpeoaaGreatDoor
