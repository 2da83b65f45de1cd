/-
  The document's own U of layer 2.
-/
import Derived.Test.YtkabefjppdklgaaRefU
namespace Go.Proofs.Ytkabefjppdklgaa
open Go Go.RowKit

theorem lebVal_drop (q : List UInt8) (k : Nat) (h : k < q.length) : lebVal (q.drop k) = q[k].toNat % 128 + 128 * lebVal (q.drop (k + 1)) := by
  rw [List.drop_eq_getElem_cons h]
  rfl

theorem lebVal_split (q : List UInt8) (k : Nat) (h : k ≤ q.length) : lebVal q = lebVal (q.take k) + 128 ^ k * lebVal (q.drop k) := by
  have h1 := lebVal_append (q.take k) (q.drop k)
  rw [List.take_append_drop] at h1
  rw [h1, List.length_take, Nat.min_eq_left h]

theorem lebVal_big (q : List UInt8) (k : Nat) (h : k + 1 ≤ q.length) (hb : 144115188075855872 ≤ lebVal (q.drop (k + 1))) : 18446744073709551616 ≤ lebVal q := by
  rw [lebVal_split q (k + 1) h]
  have h1 : 128 ^ 1 ≤ 128 ^ (k + 1) := Nat.pow_le_pow_right (by decide) (by omega)
  have h2 : 128 ^ 1 * lebVal (q.drop (k + 1)) ≤ 128 ^ (k + 1) * lebVal (q.drop (k + 1)) := Nat.mul_le_mul_right _ h1
  omega

/-- The cells of the parts that were told. -/
theorem dig_at {w : World} {base : Nat} {u : Value} {q : List UInt8} {N : Nat} (h : w.ownsRow base 31 1 u N (digs q)) (hN : N = q.length) (h0 : 0 < N) :
    ∃ gu cap, u = .slice (some ⟨gu, 0, none⟩) N cap ∧ N ≤ cap ∧ cap ≤ maxLen ∧ ∀ j (hj : j < q.length), w.cell? ⟨gu, j, none⟩ = some (.int .u64 ((q[j].toNat % 128 : Nat) : Int)) := by
  rcases h.2 with ⟨rfl, h1⟩ | ⟨gu, cap, cur, rfl, hb, hg, hnc, hcm, hcs, htake⟩
  · omega
  · refine ⟨gu, cap, rfl, hnc, hcm, fun j hj => ?_⟩
    have h1 := World.ownsRow.cellAt (g := gu) (cap := cap) h j (by omega)
    rw [h1]
    simp [digs, hj]

set_option maxRecDepth 100000 in
set_option maxHeartbeats 2000000 in
theorem rU_ok {B : Nat} {w : World} {g : Nat} {v : Value} {l : List UInt8} {a : Nat} (h : RR B w g v l a 0) (hlen : l.length ≤ 140737488355328) :
    Calls Try.prog 39 #[.pointer (some ⟨g, 0, none⟩)] w fun x w' => x = .returned (.int .u64 ((uOf (l.drop a) 0).1 : Int)) ∧ RR B w' g v l (a + (uOf (l.drop a) 0).2.1) (uOf (l.drop a) 0).2.2 ∧ w.grownBy w' (some g) := by
  have hP := rparts_ok h hlen
  unfold PartsEnd at hP
  clear h
  obtain ⟨r, hr⟩ : ∃ r, r = l.drop a := ⟨_, rfl⟩
  rw [← hr] at hP ⊢
  clear hr
  have hu : uOf r 0 = readU r := by unfold uOf; rw [if_pos rfl]
  rw [hu]
  clear hu
  go_enter Try.func39, Try.ntmps39
  go_wp2_with fail
  refine hP.mono ?_
  rintro x w1 ⟨u, rfl, hend, hG⟩
  rcases hend with ⟨hrun, rfl, hC⟩ | ⟨hlt, hll, rfl, hC⟩ | ⟨hlt, hll, hrow, hC⟩
  · have HR := Lib.hid (show readU r = (0, 10, 11) by unfold readU; rw [if_pos hrun])
    have HC := Lib.hid hC
    have HG := Lib.hid hG
    clear hrun hC hG hP hlen
    go_wp2_with fail
    go_loopw [4, 5] (fun n i wr => i = .int .i64 (-1) ∧ n = .int .u64 0 ∧ wr = w1) (fun _ _ _ => 0)
    case atStart => exact ⟨rfl, rfl, rfl⟩
    case round =>
      obtain ⟨rfl, rfl, rfl⟩ := hrel
      go_wp2_with fail
      go_ret
      exact ⟨by rw [HR.out]; rfl, by rw [HR.out]; exact HC.out, HG.out⟩
  · have HR := Lib.hid (show readU r = (0, r.length, 10) by unfold readU; rw [if_neg (by omega), if_neg (by omega), hll])
    have HC := Lib.hid hC
    have HG := Lib.hid hG
    clear hlt hll hC hG hP hlen
    go_wp2_with fail
    go_loopw [4, 5] (fun n i wr => i = .int .i64 (-1) ∧ n = .int .u64 0 ∧ wr = w1) (fun _ _ _ => 0)
    case atStart => exact ⟨rfl, rfl, rfl⟩
    case round =>
      obtain ⟨rfl, rfl, rfl⟩ := hrel
      go_wp2_with fail
      go_ret
      exact ⟨by rw [HR.out]; rfl, by rw [HR.out]; exact HC.out, HG.out⟩
  · obtain ⟨q, hq⟩ : ∃ q, q = r.take (lebRun 10 r + 1) := ⟨_, rfl⟩
    obtain ⟨N, hN⟩ : ∃ N, N = lebRun 10 r + 1 := ⟨_, rfl⟩
    have hql : q.length = N := by rw [hq, hN]; simp; omega
    have HR := Lib.hid (show readU r = (if lebVal q < 18446744073709551616 then (lebVal q, N, 0) else (0, N, 11)) by unfold readU; rw [if_neg (by omega), if_pos hll, hq, hN])
    rw [← hq, ← hN] at hrow
    rw [← hN] at hC
    have hN10 : N ≤ 10 := by omega
    obtain ⟨gu, cap, rfl, hnc, hcm, hcell⟩ := dig_at hrow hql.symm (by omega)
    have HC := Lib.hid hC
    have HG := Lib.hid hG
    have HCELL := Lib.hid hcell
    have hF := qfail hC 11
    have HQ := Lib.hid hql
    have h1N : 1 ≤ N := by omega
    clear hlt hll hC hG hP hlen hrow hq hN hcell hnc hcm hql
    go_wp2_with fail
    go_loopw [4, 5] (fun n i wr => ∃ m : Nat, m ≤ N ∧ i = .int .i64 ((m : Int) - 1) ∧ n = .int .u64 (lebVal (q.drop m) : Int) ∧ Hid (lebVal (q.drop m) < 18446744073709551616) ∧ wr = w1) (fun _ i _ => (intOf i + 1).toNat)
    case atStart => exact ⟨N, Nat.le_refl _, rfl, by rw [List.drop_of_length_le (by rw [HQ.out]; exact Nat.le_refl _)]; rfl, Lib.hid (by rw [List.drop_of_length_le (by rw [HQ.out]; exact Nat.le_refl _)]; decide), rfl⟩
    case round =>
      obtain ⟨m, hm, hi, hn, hlt64, rfl⟩ := hrel
      rcases m with _ | k
      · have hi' : u5 = .int .i64 (-1) := hi
        subst hi' hn
        clear hi
        have HV := Lib.hid (show readU r = (lebVal q, N, 0) by rw [HR.out, if_pos (by have := hlt64.out; rwa [List.drop_zero] at this)])
        rw [List.drop_zero]
        go_wp2_with fail
        go_ret
        exact ⟨by rw [HV.out]; rfl, by rw [HV.out]; exact HC.out, HG.out⟩
      · have hi' : u5 = .int .i64 (k : Int) := by rw [hi]; congr 1; omega
        subst hi' hn
        clear hi
        have hkq : k < q.length := by rw [HQ.out]; omega
        have hck := HCELL.out k hkq
        have hdrop := lebVal_drop q k hkq
        have hbg := lebVal_big q k (by omega)
        have h64 := hlt64.out
        have hd : q[k].toNat % 128 < 128 := Nat.mod_lt _ (by decide)
        generalize q[k].toNat % 128 = d at *
        have HV := Lib.hid (show lebVal (q.drop k) = d + 128 * lebVal (q.drop (k + 1)) from hdrop)
        generalize lebVal (q.drop (k + 1)) = V at *
        clear hdrop hkq hlt64
        by_cases hbig : 144115188075855872 ≤ V
        · have HR2 := Lib.hid (show readU r = (0, N, 11) by rw [HR.out, if_neg (by have := hbg hbig; omega)])
          have c1 : decide ((144115188075855872 : Int) ≤ (V : Int)) = true := by simp; omega
          clear hbg h64 hd hbig
          go_wp2_with (go_at_call 56; refine hF.mono ?_; rintro r1 w2 ⟨rfl, hC1, hG1⟩)
          go_ret
          exact ⟨by rw [HR2.out]; rfl, by rw [HR2.out]; exact hC1, HG.out.trans hG1⟩
        · have c1 : decide ((144115188075855872 : Int) ≤ (V : Int)) = false := by simp; omega
          have s1 : IntKind.u64.wrap ((V : Int) * 128) = (V : Int) * 128 := by rw [IntWalk.u64_in _ (by omega)]
          have s2 : IntKind.u64.wrap ((V : Int) * 128 + (d : Int)) = (V : Int) * 128 + (d : Int) := by rw [IntWalk.u64_in _ (by omega)]
          have HLT := Lib.hid (show lebVal (q.drop k) < 18446744073709551616 by rw [HV.out]; omega)
          have HE := Lib.hid (show (V : Int) * 128 + (d : Int) = ((lebVal (q.drop k) : Nat) : Int) by rw [HV.out]; omega)
          have b2 : (k : Int) < (N : Int) := by omega
          clear hbg h64 hd hbig
          go_wp2_with fail
          exact ⟨⟨k, by omega, rfl, by rw [HE.out], HLT, trivial⟩, by simp [intOf]⟩

end Go.Proofs.Ytkabefjppdklgaa
