/-
  Package linkmap: whether two images that rise have an address in common (clash).
-/
import Derived.Test.YtejicboemkpeoaaDoorLnL
namespace Go.Proofs.YtejicboemkpeoaaDoor
open Go Go.RowKit
theorem q_load {W : World} {g : Nat} {v : Value} (h : W.cell? ⟨g, 0, none⟩ = some v) : (loadVar 79 ⟨g, 0, none⟩).run Tryd.prog W = .ok v W := by
  simp [loadVar, h]
theorem q_nilchk (W : World) (ts : Array TypeId) (t : TypeId) (a : Addr) (s n : String) : (Builtin.ssaWrapNilChk_ ts t #[.pointer (some a), strVal s, strVal n]).run Tryd.prog W = .ok (.pointer (some a)) W := rfl
/-- A method of a queue's value, asked for at its pointer. -/
theorem q_method {W : World} {g : Nat} {v : Value} (h : W.cell? ⟨g, 0, none⟩ = some v) (n : Nat) (nm : String) (f : FuncId) (hi : (Tryd.prog.info? 87).map (fun i => (i.methods.find? (fun m => m.name == nm)).map (fun m => (m.path, m.func))) = some (some (#[], some (f, false)))) :
    (method (n + 1) 87 (.pointer (some ⟨g, 0, none⟩)) nm).run Tryd.prog W = .ok (f, v) W := by
  have h2 := q_load h
  have hu := Tryd.underlying87
  obtain ⟨i, hi, hm⟩ := Option.map_eq_some_iff.1 hi
  obtain ⟨m, hm, he⟩ := Option.map_eq_some_iff.1 hm
  obtain ⟨m1, m2, m3, m4⟩ := m
  simp only [Prod.mk.injEq] at he
  obtain ⟨rfl, rfl⟩ := he
  have hn := fun W s t => q_nilchk W #[87] 87 ⟨g, 0, none⟩ s t
  unfold method
  simp [typeInfo, hi, hm, follow, receiverAt, Place.get, hn, asAddr, h2]
theorem q_less {W : World} {g : Nat} {v : Value} (h : W.cell? ⟨g, 0, none⟩ = some v) (n : Nat) (hn : 0 < n) : (method n 87 (.pointer (some ⟨g, 0, none⟩)) "Less").run Tryd.prog W = .ok (93, v) W :=
  by obtain ⟨k, rfl⟩ : ∃ k, n = k + 1 := ⟨n - 1, by omega⟩
     exact q_method h k _ _ (by kernel_rfl)
theorem q_swap {W : World} {g : Nat} {v : Value} (h : W.cell? ⟨g, 0, none⟩ = some v) (n : Nat) (hn : 0 < n) : (method n 87 (.pointer (some ⟨g, 0, none⟩)) "Swap").run Tryd.prog W = .ok (94, v) W :=
  by obtain ⟨k, rfl⟩ : ∃ k, n = k + 1 := ⟨n - 1, by omega⟩
     exact q_method h k _ _ (by kernel_rfl)
theorem q_len {W : World} {g : Nat} {v : Value} (h : W.cell? ⟨g, 0, none⟩ = some v) (n : Nat) (hn : 0 < n) : (method n 87 (.pointer (some ⟨g, 0, none⟩)) "Len").run Tryd.prog W = .ok (44, v) W :=
  by obtain ⟨k, rfl⟩ : ∃ k, n = k + 1 := ⟨n - 1, by omega⟩
     exact q_method h k _ _ (by kernel_rfl)
end Go.Proofs.YtejicboemkpeoaaDoor

namespace Go.Proofs.YtejicboemkpeoaaDoor
open Go Go.RowKit

theorem QAt.same {w w' : World} {base g : Nat} {v : Value} {L M : List Img} (h : QAt w base g v L) (ho : OwnI w' base v M) (hg : w.grownBy w' v.ownBlock) : QAt w' base g v M :=
  ⟨h.ge, h.box.grown hg h.apart, ho⟩

set_option maxRecDepth 10000 in
set_option maxHeartbeats 1600000 in
theorem up_any {w : World} {base g j : Nat} {v : Value} {L : List Img} (h : QAt w base g v L) (hl : L.length ≤ 100000) (hj : j < L.length) (hU : UpK (kl L) L.length j) :
    Calls Tryd.prog 41 #[ifQ g, .int .i64 (j : Int)] w fun r w' => r = .returned (.tuple #[]) ∧ (∃ M, M.Perm L ∧ HeapK (kl M) M.length ∧ QAt w' base g v M) ∧ But (Qb g v) w w' := by
  obtain ⟨N, hN⟩ : ∃ N, L.length = N := ⟨_, rfl⟩
  obtain ⟨A, c, hv, _, _, _⟩ := owni_row h.own
  rw [hN] at hv hl hj
  subst hv
  have HU := Lib.hid (hN ▸ hU)
  have H := Lib.hid h
  have HLE := Lib.hid h.le
  have HN := Lib.hid hN
  clear h hU hN
  go_enter Tryd.func41, Tryd.ntmps41
  go_wp2_with fail
  go_loopg [1] j (fun gk i wr => ∃ (k : Nat) (M : List Img), k < N ∧ gk = k ∧ i = .int .i64 k ∧ Hid (M.Perm L) ∧ Hid (UpK (kl M) N k) ∧ Hid (QAt wr base g (.slice A N c) M) ∧ Hid (But (Qb g (.slice A N c)) w wr))
  case atStart => exact ⟨j, L, hj, rfl, rfl, Lib.hid (List.Perm.refl _), HU, H, Lib.hid (But.refl _ _)⟩
  case round =>
    obtain ⟨k, M, hk, rfl, rfl, HP, HK, HQ, HO⟩ := hrel
    clear HU H
    have HMN := Lib.hid (show M.length = N by rw [HP.out.length_eq, HN.out])
    obtain rfl | ⟨m, rfl⟩ : gk = 0 ∨ ∃ m, gk = m + 1 := by
      rcases Nat.eq_zero_or_pos gk with h | h
      · exact .inl h
      · exact .inr ⟨gk - 1, by omega⟩
    · have HH := Lib.hid (up_done HK.out (.inl rfl))
      go_wp2_with fail
      first | go_end0 | (refine bodyPost_ret (results_none rfl _ _ _) rfl ?_)
      exact ⟨rfl, ⟨M, HP.out, by rw [HMN.out]; exact HH.out, HQ.out⟩, HO.out⟩
    · obtain ⟨p, hp⟩ : ∃ p, m / 2 = p := ⟨_, rfl⟩
      have hpN : p < N := by omega
      obtain ⟨x, hx⟩ : ∃ x, M[m + 1]? = some x := ⟨_, List.getElem?_eq_getElem (by rw [HMN.out]; omega)⟩
      obtain ⟨y, hy⟩ : ∃ y, M[p]? = some y := ⟨_, List.getElem?_eq_getElem (by rw [HMN.out]; omega)⟩
      have hq0 : ((m + 1 : Nat) : Int) - 1 = (m : Int) := by omega
      have hq1 : Int.tdiv (m : Int) 2 = (p : Int) := by rw [← hp]; rfl
      have hq2 : (m : Int) / 2 = (p : Int) := by omega
      have hqn : ((p : Int) == (m : Int) + 1) = false := by simp; omega
      have c0 := HQ.out.box.cell 0
      simp at c0
      have hm1 := q_less c0
      have hm2 := fun q => q_swap (W := wr.drewN q) c0
      have HL := Lib.hid (show Calls Tryd.prog 93 #[.slice A N c, .int .i64 ((m : Int) + 1), .int .i64 (p : Int)] wr fun r w' => r = .returned (.bool (decide (x.lo < y.lo))) ∧ ∃ n, w' = wr.drewN n from by
        have h1 := qless_any (c := c) (show Row 4 Img.cells wr wr.heap.size A M from by
          obtain ⟨A', c', e, _, _, hr⟩ := owni_row HQ.out.own
          injection e with e1 e2 e3
          rw [e1]; exact hr) hx hy
        rw [HMN.out] at h1
        exact h1)
      have HS := Lib.hid (fun n => (show Calls Tryd.prog 94 #[.slice A N c, .int .i64 (p : Int), .int .i64 ((m : Int) + 1)] (wr.drewN n) fun r w' => r = .returned (.tuple #[]) ∧ OwnI w' base (.slice A N c) (swp M p (m + 1)) ∧ (wr.drewN n).grownBy w' (Value.slice A N c).ownBlock from
        qswap_any (HQ.out.drewN n).own (by rw [HMN.out]; exact Nat.le_trans hl (by omega)) (by rw [HMN.out]; exact hpN) (by rw [HMN.out]; exact hk)))
      by_cases hxy : x.lo < y.lo
      · have HST := Lib.hid (up_step (K' := kl (swp M p (m + 1))) HK.out hk (by omega) (by rw [show (m + 1 - 1) / 2 = p by omega, kl_of hx, kl_of hy]; exact hxy) (fun k => by rw [swp_kl (by rw [HMN.out]; exact hpN) (by rw [HMN.out]; exact hk), show (m + 1 - 1) / 2 = p by omega]))
        rw [show (m + 1 - 1) / 2 = p by omega] at HST
        have hpm : p < m + 1 := by omega
        rw [decide_eq_true hxy] at HL
        clear hx hy hp hxy
        go_wp2_with (first
          | (go_at_call 93; refine HL.out.mono ?_; rintro r w1 ⟨rfl, nn, rfl⟩)
          | (go_at_call 94; refine (HS.out _).mono ?_; rintro r w2 ⟨rfl, ho2, hg2⟩; have HO2 := Lib.hid ho2; have HG2 := Lib.hid hg2; clear ho2 hg2))
        have hQ2 := QAt.same (HQ.out.drewN nn) HO2.out HG2.out
        have hO2 := (HO.out.drewN nn).grown HG2.out (fun x e => .inl (.inr e))
        go_roundg p
        case measure => omega
        case rel => exact ⟨p, swp M p (m + 1), hpN, rfl, rfl, Lib.hid ((swp_perm _ _ _).trans HP.out), HST, Lib.hid hQ2, Lib.hid hO2⟩
      · have HH := Lib.hid (up_done HK.out (.inr (by rw [show (m + 1 - 1) / 2 = p by omega, kl_of hx, kl_of hy]; omega)))
        rw [decide_eq_false hxy] at HL
        clear hx hy hp hxy
        go_wp2_with (go_at_call 93; refine HL.out.mono ?_; rintro r w1 ⟨rfl, nn, rfl⟩)
        first | go_end0 | (refine bodyPost_ret (results_none rfl _ _ _) rfl ?_)
        exact ⟨rfl, ⟨M, HP.out, by rw [HMN.out]; exact HH.out, HQ.out.drewN nn⟩, HO.out.drewN nn⟩

end Go.Proofs.YtejicboemkpeoaaDoor

namespace Go.Proofs.YtejicboemkpeoaaDoor
open Go Go.RowKit

theorem swp_front {M : List Img} {z : Img} {i j : Nat} (hi : i < M.length) (hj : j < M.length) : swp (M ++ [z]) i j = swp M i j ++ [z] := by
  obtain ⟨x, hx⟩ : ∃ x, M[i]? = some x := ⟨_, List.getElem?_eq_getElem hi⟩
  obtain ⟨y, hy⟩ : ∃ y, M[j]? = some y := ⟨_, List.getElem?_eq_getElem hj⟩
  rw [swp_of hx hy, swp_of (x := x) (y := y) (by rw [List.getElem?_append_left hi]; exact hx) (by rw [List.getElem?_append_left hj]; exact hy)]
  rw [List.set_append_left _ _ hi, List.set_append_left _ _ (by simpa using hj)]
theorem down_same {K K' : Nat → Nat} {n j : Nat} (h : DownK K n j) (hs : ∀ k, k < n → K' k = K k) : DownK K' n j := by
  refine ⟨fun i h0 h1 h2 => ?_, fun i h0 h1 h2 h3 => ?_⟩
  · rw [hs i h1, hs _ (by omega)]
    exact h.1 i h0 h1 h2
  · rw [hs i h1, hs _ (by omega)]
    exact h.2 i h0 h1 h2 h3

set_option maxRecDepth 10000 in
set_option maxHeartbeats 1600000 in
theorem down_any {w : World} {base g N : Nat} {A : Option Addr} {c : Nat} {L : List Img} {z : Img} (hN : L.length = N) (h : QAt w base g (.slice A (N + 1) c) (L ++ [z])) (hl : N ≤ 100000) (hD : DownK (kl L) N 0) :
    Calls Tryd.prog 53 #[ifQ g, .int .i64 0, .int .i64 (N : Int)] w fun r w' => (∃ b, r = .returned (.bool b)) ∧ (∃ M, M.Perm L ∧ HeapK (kl M) N ∧ QAt w' base g (.slice A (N + 1) c) (M ++ [z])) ∧ But (Qb g (.slice A (N + 1) c)) w w' := by
  have HD := Lib.hid hD
  have H := Lib.hid h
  have HN := Lib.hid hN
  clear h hD hN
  go_enter Tryd.func53, Tryd.ntmps53
  go_wp2_with fail
  go_loopg [7] N (fun gk i wr => ∃ (k : Nat) (M : List Img), gk = N - k ∧ i = .int .i64 k ∧ Hid (k = 0 ∨ k < N) ∧ Hid (M.Perm L) ∧ Hid (DownK (kl M) N k) ∧ Hid (QAt wr base g (.slice A (N + 1) c) (M ++ [z])) ∧ Hid (But (Qb g (.slice A (N + 1) c)) w wr))
  case atStart => exact ⟨0, L, rfl, rfl, Lib.hid (.inl rfl), Lib.hid (List.Perm.refl _), HD, H, Lib.hid (But.refl _ _)⟩
  case round =>
    obtain ⟨k, M, rfl, rfl, HKN, HP, HK, HQ, HO⟩ := hrel
    clear HD H
    have HMN := Lib.hid (show M.length = N by rw [HP.out.length_eq, HN.out])
    have hk2 : k ≤ 100000 := by rcases HKN.out with e | e <;> omega
    have s1 : IntKind.i64.wrap (2 * (k : Int)) = 2 * (k : Int) := by rw [IntWalk.i64_in _ (by omega)]
    have s2 : IntKind.i64.wrap (2 * (k : Int) + 1) = 2 * (k : Int) + 1 := by rw [IntWalk.i64_in _ (by omega)]
    have s3 : IntKind.i64.wrap (2 * (k : Int) + 1 + 1) = 2 * (k : Int) + 1 + 1 := by rw [IntWalk.i64_in _ (by omega)]
    by_cases h1 : N ≤ 2 * k + 1
    · have HH := Lib.hid (down_done HK.out (fun i h0 hi e => by omega))
      have d1 : decide ((N : Int) ≤ 2 * (k : Int) + 1) = true := decide_eq_true (by omega)
      go_wp2_with fail
      go_ret
      exact ⟨⟨_, rfl⟩, ⟨M, HP.out, HH.out, HQ.out⟩, HO.out⟩
    · have HKN2 := Lib.hid (show k < N by omega)
      have d1 : decide ((N : Int) ≤ 2 * (k : Int) + 1) = false := decide_eq_false (by omega)
      have d2 : decide (2 * (k : Int) + 1 < 0) = false := decide_eq_false (by omega)
      obtain ⟨j1, hj1⟩ : ∃ j1, 2 * k + 1 = j1 := ⟨_, rfl⟩
      have e1 : 2 * (k : Int) + 1 = (j1 : Int) := by omega
      rw [e1] at s2 s3 d1 d2
      have HJ1 := Lib.hid hj1
      have hj1N : j1 < N := by omega
      have hkN : k < N := HKN2.out
      obtain ⟨xk, hxk⟩ : ∃ x, M[k]? = some x := ⟨_, List.getElem?_eq_getElem (by rw [HMN.out]; omega)⟩
      obtain ⟨x1, hx1⟩ : ∃ x, M[j1]? = some x := ⟨_, List.getElem?_eq_getElem (by rw [HMN.out]; omega)⟩
      have c0 := HQ.out.box.cell 0
      simp at c0
      have hm1 := fun q => q_less (W := wr.drewN q) c0
      have hm2 := fun q => q_swap (W := wr.drewN q) c0
      have hm0 := q_less (W := wr) c0
      have hm9 := q_swap (W := wr) c0
      have HL := Lib.hid (fun (W : World) (hW : ∃ q, W = wr.drewN q) (i j : Nat) (x y : Img) (hx : M[i]? = some x) (hy : M[j]? = some y) => (show Calls Tryd.prog 93 #[.slice A (N + 1) c, .int .i64 (i : Int), .int .i64 (j : Int)] W fun r w' => r = .returned (.bool (decide (x.lo < y.lo))) ∧ ∃ n, w' = wr.drewN n from by
        obtain ⟨q, rfl⟩ := hW
        have hz := qless_any (w := wr.drewN q) (c := c) (show Row 4 Img.cells (wr.drewN q) wr.heap.size A (M ++ [z]) from by
          obtain ⟨A', c', e, _, _, hr⟩ := owni_row HQ.out.own
          injection e with e1 e2 e3
          rw [e1]; exact hr.drewN q) (i := i) (j := j) (x := x) (y := y) (by rw [List.getElem?_append_left (List.getElem?_eq_some_iff.1 hx).1]; exact hx) (by rw [List.getElem?_append_left (List.getElem?_eq_some_iff.1 hy).1]; exact hy)
        rw [show (M ++ [z]).length = N + 1 by simp [HMN.out]] at hz
        refine hz.mono ?_
        rintro r w' ⟨e, n, rfl⟩
        exact ⟨e, q + n, by simp [World.drewN, Nat.add_assoc]⟩))
      have HS := Lib.hid (fun (q j : Nat) (hj : j < N) => (show Calls Tryd.prog 94 #[.slice A (N + 1) c, .int .i64 (k : Int), .int .i64 (j : Int)] (wr.drewN q) fun r w' => r = .returned (.tuple #[]) ∧ OwnI w' base (.slice A (N + 1) c) (swp M k j ++ [z]) ∧ (wr.drewN q).grownBy w' (Value.slice A (N + 1) c).ownBlock from by
        have hz := qswap_any (HQ.out.drewN q).own (i := k) (j := j) (by simp [HMN.out]; omega) (by simp [HMN.out]; omega) (by simp [HMN.out]; omega)
        rw [swp_front (by rw [HMN.out]; omega) (by rw [HMN.out]; omega)] at hz
        exact hz))
      have hn3 : IntKind.i64.wrap ((j1 : Int) + 1) = (j1 : Int) + 1 := by rw [IntWalk.i64_in _ (by omega)]
      by_cases h2 : j1 + 1 < N
      · have d3 : decide ((j1 : Int) + 1 < (N : Int)) = true := decide_eq_true (by omega)
        obtain ⟨x2, hx2⟩ : ∃ x, M[j1 + 1]? = some x := ⟨_, List.getElem?_eq_getElem (by rw [HMN.out]; omega)⟩
        have HLB := Lib.hid (fun W hW => HL.out W hW (j1 + 1) j1 x2 x1 hx2 hx1)
        by_cases h21 : x2.lo < x1.lo
        · rw [decide_eq_true h21] at HLB
          have HMIN := Lib.hid (show ∀ i, 0 < i → i < N → (i - 1) / 2 = k → kl M (j1 + 1) ≤ kl M i from fun i h0 hi e => by
            have hi2 : i = j1 ∨ i = j1 + 1 := by omega
            rcases hi2 with rfl | rfl
            · rw [kl_of hx2, kl_of hx1]; omega
            · exact Nat.le_refl _)
          by_cases hlt : x2.lo < xk.lo
          · have HST := Lib.hid (down_step (K' := kl (swp M k (j1 + 1))) HK.out (c := j1 + 1) (by omega) (by omega) (by omega) HMIN.out (by rw [kl_of hx2, kl_of hxk]; exact hlt) (fun q => by rw [swp_kl (by rw [HMN.out]; omega) (by rw [HMN.out]; omega)]))
            have HLA := Lib.hid (fun W hW => HL.out W hW (j1 + 1) k x2 xk hx2 hxk)
            rw [decide_eq_true hlt] at HLA
            have HSW := Lib.hid (fun q => HS.out q (j1 + 1) (by omega))
            have HCN := Lib.hid (show j1 + 1 < N ∧ k < j1 + 1 by omega)
            clear hxk hx1 hlt HL HS HMIN hj1 hx2
            go_wp2_with (first
              | (go_at_call 93; refine (HLB.out _ (by first | exact ⟨0, rfl⟩ | exact ⟨_, rfl⟩)).mono ?_; clear HLB; rintro r w0 ⟨rfl, n0, rfl⟩)
              | (go_at_call 93; refine (HLA.out _ (by first | exact ⟨0, rfl⟩ | exact ⟨_, rfl⟩)).mono ?_; rintro r w1 ⟨rfl, nn, rfl⟩)
              | (go_at_call 94; refine (HSW.out _).mono ?_; rintro r w2 ⟨rfl, ho2, hg2⟩; have HO2 := Lib.hid ho2; have HG2 := Lib.hid hg2; clear ho2 hg2))
            have hQ2 := QAt.same (HQ.out.drewN nn) HO2.out HG2.out
            have hO2 := (HO.out.drewN nn).grown HG2.out (fun x e => .inl (.inr e))
            go_roundg (N - (j1 + 1))
            case measure => have := HCN.out; omega
            case rel => exact ⟨j1 + 1, swp M k (j1 + 1), rfl, by first | rfl | (simp; done), Lib.hid (.inr HCN.out.1), Lib.hid ((swp_perm _ _ _).trans HP.out), HST, Lib.hid hQ2, Lib.hid hO2⟩
          · have HH := Lib.hid (down_done HK.out (fun i h0 hi e => by
              have := HMIN.out i h0 hi e
              rw [kl_of hx2] at this
              rw [kl_of hxk]
              omega))
            have HLA := Lib.hid (fun W hW => HL.out W hW (j1 + 1) k x2 xk hx2 hxk)
            rw [decide_eq_false hlt] at HLA
            clear hxk hx1 hlt HL HS HMIN hj1 hx2
            go_wp2_with (first
              | (go_at_call 93; refine (HLB.out _ (by first | exact ⟨0, rfl⟩ | exact ⟨_, rfl⟩)).mono ?_; clear HLB; rintro r w0 ⟨rfl, n0, rfl⟩)
              | (go_at_call 93; refine (HLA.out _ (by first | exact ⟨0, rfl⟩ | exact ⟨_, rfl⟩)).mono ?_; rintro r w1 ⟨rfl, nn, rfl⟩))
            go_ret
            exact ⟨⟨_, rfl⟩, ⟨M, HP.out, HH.out, HQ.out.drewN nn⟩, HO.out.drewN nn⟩
        · rw [decide_eq_false h21] at HLB
          have HMIN := Lib.hid (show ∀ i, 0 < i → i < N → (i - 1) / 2 = k → kl M (j1) ≤ kl M i from fun i h0 hi e => by
            have hi2 : i = j1 ∨ i = j1 + 1 := by omega
            rcases hi2 with rfl | rfl
            · exact Nat.le_refl _
            · rw [kl_of hx2, kl_of hx1]; omega)
          by_cases hlt : x1.lo < xk.lo
          · have HST := Lib.hid (down_step (K' := kl (swp M k (j1))) HK.out (c := j1) (by omega) (by omega) (by omega) HMIN.out (by rw [kl_of hx1, kl_of hxk]; exact hlt) (fun q => by rw [swp_kl (by rw [HMN.out]; omega) (by rw [HMN.out]; omega)]))
            have HLA := Lib.hid (fun W hW => HL.out W hW (j1) k x1 xk hx1 hxk)
            rw [decide_eq_true hlt] at HLA
            have HSW := Lib.hid (fun q => HS.out q (j1) (by omega))
            have HCN := Lib.hid (show j1 < N ∧ k < j1 by omega)
            clear hxk hx1 hlt HL HS HMIN hj1 hx2
            go_wp2_with (first
              | (go_at_call 93; refine (HLB.out _ (by first | exact ⟨0, rfl⟩ | exact ⟨_, rfl⟩)).mono ?_; clear HLB; rintro r w0 ⟨rfl, n0, rfl⟩)
              | (go_at_call 93; refine (HLA.out _ (by first | exact ⟨0, rfl⟩ | exact ⟨_, rfl⟩)).mono ?_; rintro r w1 ⟨rfl, nn, rfl⟩)
              | (go_at_call 94; refine (HSW.out _).mono ?_; rintro r w2 ⟨rfl, ho2, hg2⟩; have HO2 := Lib.hid ho2; have HG2 := Lib.hid hg2; clear ho2 hg2))
            have hQ2 := QAt.same (HQ.out.drewN nn) HO2.out HG2.out
            have hO2 := (HO.out.drewN nn).grown HG2.out (fun x e => .inl (.inr e))
            go_roundg (N - (j1))
            case measure => have := HCN.out; omega
            case rel => exact ⟨j1, swp M k (j1), rfl, by first | rfl | (simp; done), Lib.hid (.inr HCN.out.1), Lib.hid ((swp_perm _ _ _).trans HP.out), HST, Lib.hid hQ2, Lib.hid hO2⟩
          · have HH := Lib.hid (down_done HK.out (fun i h0 hi e => by
              have := HMIN.out i h0 hi e
              rw [kl_of hx1] at this
              rw [kl_of hxk]
              omega))
            have HLA := Lib.hid (fun W hW => HL.out W hW (j1) k x1 xk hx1 hxk)
            rw [decide_eq_false hlt] at HLA
            clear hxk hx1 hlt HL HS HMIN hj1 hx2
            go_wp2_with (first
              | (go_at_call 93; refine (HLB.out _ (by first | exact ⟨0, rfl⟩ | exact ⟨_, rfl⟩)).mono ?_; clear HLB; rintro r w0 ⟨rfl, n0, rfl⟩)
              | (go_at_call 93; refine (HLA.out _ (by first | exact ⟨0, rfl⟩ | exact ⟨_, rfl⟩)).mono ?_; rintro r w1 ⟨rfl, nn, rfl⟩))
            go_ret
            exact ⟨⟨_, rfl⟩, ⟨M, HP.out, HH.out, HQ.out.drewN nn⟩, HO.out.drewN nn⟩
      · have d3 : decide ((j1 : Int) + 1 < (N : Int)) = false := decide_eq_false (by omega)
        have HMIN := Lib.hid (show ∀ i, 0 < i → i < N → (i - 1) / 2 = k → kl M (j1) ≤ kl M i from fun i h0 hi e => by
          have hi2 : i = j1 ∨ i = j1 + 1 := by omega
          rcases hi2 with rfl | rfl
          · exact Nat.le_refl _
          · omega)
        by_cases hlt : x1.lo < xk.lo
        · have HST := Lib.hid (down_step (K' := kl (swp M k (j1))) HK.out (c := j1) (by omega) (by omega) (by omega) HMIN.out (by rw [kl_of hx1, kl_of hxk]; exact hlt) (fun q => by rw [swp_kl (by rw [HMN.out]; omega) (by rw [HMN.out]; omega)]))
          have HLA := Lib.hid (fun W hW => HL.out W hW (j1) k x1 xk hx1 hxk)
          rw [decide_eq_true hlt] at HLA
          have HSW := Lib.hid (fun q => HS.out q (j1) (by omega))
          have HCN := Lib.hid (show j1 < N ∧ k < j1 by omega)
          clear hxk hx1 hlt HL HS HMIN hj1 
          go_wp2_with (first
            | (go_at_call 93; refine (HLA.out _ (by first | exact ⟨0, rfl⟩ | exact ⟨_, rfl⟩)).mono ?_; rintro r w1 ⟨rfl, nn, rfl⟩)
            | (go_at_call 94; refine (HSW.out _).mono ?_; rintro r w2 ⟨rfl, ho2, hg2⟩; have HO2 := Lib.hid ho2; have HG2 := Lib.hid hg2; clear ho2 hg2))
          have hQ2 := QAt.same (HQ.out.drewN nn) HO2.out HG2.out
          have hO2 := (HO.out.drewN nn).grown HG2.out (fun x e => .inl (.inr e))
          go_roundg (N - (j1))
          case measure => have := HCN.out; omega
          case rel => exact ⟨j1, swp M k (j1), rfl, by first | rfl | (simp; done), Lib.hid (.inr HCN.out.1), Lib.hid ((swp_perm _ _ _).trans HP.out), HST, Lib.hid hQ2, Lib.hid hO2⟩
        · have HH := Lib.hid (down_done HK.out (fun i h0 hi e => by
            have := HMIN.out i h0 hi e
            rw [kl_of hx1] at this
            rw [kl_of hxk]
            omega))
          have HLA := Lib.hid (fun W hW => HL.out W hW (j1) k x1 xk hx1 hxk)
          rw [decide_eq_false hlt] at HLA
          clear hxk hx1 hlt HL HS HMIN hj1 
          go_wp2_with (first
            | (go_at_call 93; refine (HLA.out _ (by first | exact ⟨0, rfl⟩ | exact ⟨_, rfl⟩)).mono ?_; rintro r w1 ⟨rfl, nn, rfl⟩))
          go_ret
          exact ⟨⟨_, rfl⟩, ⟨M, HP.out, HH.out, HQ.out.drewN nn⟩, HO.out.drewN nn⟩

end Go.Proofs.YtejicboemkpeoaaDoor

namespace Go.Proofs.YtejicboemkpeoaaDoor
open Go Go.RowKit

set_option maxRecDepth 10000 in
set_option maxHeartbeats 1600000 in
theorem hpush_any {w : World} {base g : Nat} {v : Value} {L : List Img} (h : QAt w base g v L) (hH : HeapK (kl L) L.length) (x : Img) (hl : L.length ≤ 90000) :
    Calls Tryd.prog 26 #[ifQ g, ifI x] w fun r w' => r = .returned (.tuple #[]) ∧ (∃ v' M, M.Perm (x :: L) ∧ HeapK (kl M) M.length ∧ QAt w' base g v' M) ∧ Only base QObj w w' := by
  have HP := Lib.hid (qpush_any h x (by omega))
  have hlen : (L ++ [x]).length = L.length + 1 := by simp
  have HU := Lib.hid (show UpK (kl (L ++ [x])) (L ++ [x]).length L.length from by
    rw [hlen]
    refine heap_up fun i h0 hi => ?_
    have := hH i h0 hi
    unfold kl at *
    rw [List.getElem?_append_left (by omega), List.getElem?_append_left (by omega)]
    exact this)
  have hn1 : IntKind.i64.wrap ((L.length : Int) + 1 - 1) = (L.length : Int) := by rw [IntWalk.i64_in _ (by omega)]; omega
  have hn2 : (L.length : Int) + 1 - 1 = (L.length : Int) := by omega
  have HLE := Lib.hid hlen
  clear h hH hlen
  go_enter Tryd.func26, Tryd.ntmps26
  go_wp2_with (first
    | (go_at_call 96; refine HP.out.mono ?_; rintro r w1 ⟨rfl, ⟨v1, hq1⟩, ho1⟩; have HQ1 := Lib.hid hq1; have HO1 := Lib.hid ho1; (obtain ⟨A1, c1, rfl, _, _, _⟩ := owni_row hq1.own); have c0 := hq1.box.cell 0; simp only [List.getElem?_toArray, List.getElem?_cons_zero] at c0; rw [HLE.out] at c0; have hm0 := q_len c0; clear c0 hq1 ho1; have HX := Lib.hid (up_any HQ1.out (by rw [HLE.out]; omega) (j := L.length) (by rw [HLE.out]; omega) HU.out))
    | (go_at_call 44; refine (qlen_any).mono ?_; rintro r w2 ⟨rfl, rfl⟩)
    | (go_at_call 41; refine HX.out.mono ?_; rintro r w3 ⟨rfl, ⟨M, hp, hh, hq⟩, ho3⟩))
  first | go_end0 | (refine bodyPost_ret (results_none rfl _ _ _) rfl ?_)
  exact ⟨rfl, ⟨_, M, hp.trans (List.perm_append_comm (l₁ := L) (l₂ := [x])), hh, hq⟩, HO1.out.trans (HQ1.out.only ho3)⟩

/-- A list with one more at its end. -/
theorem last_of {L : List Img} {n : Nat} (h : L.length = n + 1) : ∃ M z, L = M ++ [z] ∧ M.length = n := by
  refine ⟨L.dropLast, L.getLast (by intro e; simp [e] at h), (List.dropLast_concat_getLast _).symm, by simp; omega⟩

set_option maxRecDepth 10000 in
set_option maxHeartbeats 1600000 in
theorem hpop_any {w : World} {base g n : Nat} {v : Value} {L : List Img} (h : QAt w base g v L) (hH : HeapK (kl L) L.length) (hn : L.length = n + 1) (hl : n ≤ 90000) :
    Calls Tryd.prog 45 #[ifQ g] w fun r w' => ∃ x v' M, r = .returned (ifI x) ∧ (x :: M).Perm L ∧ (∀ y ∈ L, x.lo ≤ y.lo) ∧ HeapK (kl M) M.length ∧ v'.ownBlock = v.ownBlock ∧ QAt w' base g v' M ∧ But (Qb g v) w w' := by
  obtain ⟨A, c, rfl, _, _, _⟩ := owni_row h.own
  rw [hn] at h hH ⊢
  have hsl : (swp L 0 n).length = n + 1 := by rw [swp_length, hn]
  obtain ⟨M, z, hMz, hMn⟩ := last_of hsl
  have hz : kl L 0 = z.lo := by
    have h1 := swp_kl (L := L) (i := 0) (j := n) (by omega) (by omega) n
    rw [if_pos rfl, hMz] at h1
    rw [← h1]
    exact kl_of (by rw [List.getElem?_append_right (by omega), hMn]; simp)
  have hK : ∀ k, k < n → kl M k = kl (swp L 0 n) k := fun k hk => by
    rw [hMz]
    unfold kl
    rw [List.getElem?_append_left (by omega)]
  have HD := Lib.hid (show DownK (kl M) n 0 from down_same (heap_down hH (fun k => swp_kl (by omega) (by omega) k)) hK)
  have HMIN := Lib.hid (show ∀ y ∈ L, z.lo ≤ y.lo from fun y hy => by
    obtain ⟨i, hi⟩ := List.getElem?_of_mem hy
    have := heap_min hH i (by have := (List.getElem?_eq_some_iff.1 hi).1; omega)
    rw [hz, kl_of hi] at this
    exact this)
  have HPM := Lib.hid (show (z :: M).Perm L from by
    have h1 := swp_perm L 0 n
    rw [hMz] at h1
    exact (List.perm_append_comm (l₁ := [z]) (l₂ := M) : (z :: M).Perm (M ++ [z])).trans h1)
  have c0 := h.box.cell 0
  have c0' : w.cell? ⟨g, 0, none⟩ = some (.slice A (n + 1) c) := by simpa using c0
  have hm0 := q_len c0'
  have hm1 := q_swap c0'
  have hn1 : IntKind.i64.wrap ((n : Int) + 1 - 1) = (n : Int) := by rw [IntWalk.i64_in _ (by omega)]; omega
  have hn2 : (n : Int) + 1 - 1 = (n : Int) := by omega
  have HS := Lib.hid (qswap_any h.own (i := 0) (j := n) (by omega) (by omega) (by omega))
  have H := Lib.hid h
  have HMZ := Lib.hid hMz
  have HMN := Lib.hid hMn
  clear hH hsl hMz hMn hz hK c0 c0' h hn
  go_enter Tryd.func45, Tryd.ntmps45
  go_wp2_with (first
    | (go_at_call 44; refine (qlen_any (w := w)).mono ?_; rintro r w2 ⟨rfl, rfl⟩)
    | (go_at_call 94; refine HS.out.mono ?_; rintro r w1 ⟨rfl, ho1, hg1⟩; have HO1 := Lib.hid ho1; have HG1 := Lib.hid hg1; clear ho1 hg1; have HQ1 := Lib.hid (QAt.same H.out (HMZ.out ▸ HO1.out) HG1.out); have HT1 := Lib.hid ((But.refl (Qb g (.slice A (n + 1) c)) w).grown HG1.out (fun x e => .inl (.inr e))); have HDW := Lib.hid (down_any HMN.out HQ1.out (by omega) HD.out))
    | (go_at_call 53; refine HDW.out.mono ?_; rintro r w3 ⟨⟨bb, rfl⟩, ⟨M3, hp3, hh3, hq3⟩, ho3⟩; have HP3 := Lib.hid hp3; have HH3 := Lib.hid hh3; have HO3 := Lib.hid ho3; have HPP := Lib.hid (qpop_any hq3 (by rw [hp3.length_eq, HMN.out]; omega)); clear hp3 hh3 hq3 ho3)
    | (go_at_call 95; refine HPP.out.mono ?_; rintro r w4 ⟨rfl, ⟨v4, hv4, hq4⟩, ho4⟩; have HV4 := Lib.hid hv4; clear hv4; have HQ4 := Lib.hid hq4; have HO4 := Lib.hid ho4; clear hq4 ho4))
  go_ret
  exact ⟨z, v4, M3, rfl, (HP3.out.cons z).trans HPM.out, HMIN.out, by rw [HP3.out.length_eq, HMN.out]; exact HH3.out, HV4.out, HQ4.out, (HT1.out.trans HO3.out).trans HO4.out⟩

end Go.Proofs.YtejicboemkpeoaaDoor

namespace Go.Proofs.YtejicboemkpeoaaDoor
open Go Go.RowKit

theorem cells_new2 {w : World} {n : Nat} {cs : List Value} (hn : w.heap.size = n) (t : TypeId) : ∀ j u, cs[j]? = some u → (w.alloc (.cells cs.toArray t)).cell? ((⟨n, 0, none⟩ : Addr).add j) = some u := fun j u h => by
  subst hn
  exact cells_new w cs t j u h
theorem QAt.keep {w w' : World} {base g : Nat} {v : Value} {L : List Img} (h : QAt w base g v L) {row : Option Nat} (hg : w.grownBy w' row) (h1 : some g ≠ row) (h2 : ∀ k, v.ownBlock = some k → row ≠ some k) : QAt w' base g v L :=
  ⟨h.ge, h.box.grown hg h1, World.ownsRow.kept h.own hg (by
    cases e : v.ownBlock with
    | none => exact .inl rfl
    | some k => exact .inr (fun hh => h2 k e hh.symm))⟩
/-- What was taken out so far is no memory of the queue. -/
theorem row_pop {w wr w3 : World} {g : Nat} {v vq u : Value} {R : List Img} (h : OwnI wr w.heap.size u R) (hb : But (Qb g vq) wr w3) (hv : vq.ownBlock = v.ownBlock) (hg : g < w.heap.size) (hl : ∀ k, v.ownBlock = some k → k < w.heap.size) : OwnI w3 w.heap.size u R :=
  hb.row h (fun k hk hq => by
    have := (h.lt k hk).1
    rcases hq with rfl | hq
    · omega
    · rw [hv] at hq
      have := hl k hq
      omega)

set_option maxRecDepth 10000 in
set_option maxHeartbeats 1600000 in
theorem rising_any {w : World} {base g : Nat} {v : Value} {L : List Img} (h : QAt w base g v L) (hH : HeapK (kl L) L.length) (hl : L.length ≤ 1000) :
    Calls Tryd.prog 28 #[.pointer (some ⟨g, 0, none⟩)] w fun r w' => ∃ u R, r = .returned u ∧ R.Perm L ∧ RiseI R ∧ OwnI w' w.heap.size u R ∧ But (Qb g v) w w' := by
  obtain ⟨i1, hj, hy0, hy1, hy2⟩ := info_parts img_info
  have HH := Lib.hid hH
  have H := Lib.hid h
  have HLL := Lib.hid hl
  have HGL := Lib.hid h.box.lt
  have HVL := Lib.hid (fun k (e : v.ownBlock = some k) => (h.own.lt k e).2)
  clear h hH
  obtain ⟨N, hN⟩ : ∃ N, L.length = N := ⟨_, rfl⟩
  have HN := Lib.hid hN
  rw [hN] at hl
  go_enter Tryd.func28, Tryd.ntmps28
  go_wp2_with fail
  go_loopg [3] L.length (fun gk u wr => ∃ (M R : List Img) (vq : Value), gk = M.length ∧ Hid ((R ++ M).Perm L) ∧ Hid (RiseI R ∧ ∀ x ∈ R, ∀ y ∈ M, x.lo ≤ y.lo) ∧ Hid (HeapK (kl M) M.length) ∧ Hid (vq.ownBlock = v.ownBlock) ∧ Hid (QAt wr base g vq M) ∧ Hid (OwnI wr w.heap.size u R) ∧ Hid (But (Qb g v) w wr))
  case atStart => exact ⟨L, [], v, rfl, Lib.hid (by simp), Lib.hid ⟨List.Pairwise.nil, fun _ h => by cases h⟩, HH, Lib.hid rfl, H, Lib.hid (World.ownsRow_nil _ _ _ _), Lib.hid (But.refl _ _)⟩
  case round =>
    obtain ⟨M, R, vq, rfl, HP, HR, HK, HV, HQ, HO, HB⟩ := hrel
    clear H HH
    obtain ⟨A, c, rfl, _, _, _⟩ := owni_row HQ.out.own
    have c0 := HQ.out.box.cell 0
    have c0' : wr.cell? ⟨g, 0, none⟩ = some (.slice A M.length c) := by simpa using c0
    clear c0
    have hml : (R ++ M).length = N := by rw [HP.out.length_eq, HN.out]
    rw [List.length_append] at hml
    have HQL := Lib.hid (fun W => qlen_any (w := W) (A := A) (n := M.length) (c := c))
    by_cases h0 : M.length = 0
    · have hM : M = [] := List.eq_nil_of_length_eq_zero h0
      subst hM
      clear h0
      go_wp2_with (go_at_call 44; refine (HQL.out _).mono ?_; rintro r w2 ⟨rfl, rfl⟩)
      go_ret
      exact ⟨_, R, rfl, by simpa using HP.out, HR.out.1, HO.out, HB.out⟩
    · obtain ⟨n, hn⟩ : ∃ n, M.length = n + 1 := ⟨M.length - 1, by omega⟩
      have HM := Lib.hid hn
      have HPOP := Lib.hid (hpop_any HQ.out HK.out hn (by omega))
      have h63 : R.length + 1 ≤ maxLen := by unfold maxLen; omega
      have hby : (R.length + 1) * 32 ≤ 140737488355328 := by omega
      rw [hn] at c0' HQL HQ
      have hdm : decide ((0 : Int) < (n : Int) + 1) = true := decide_eq_true (by omega)
      have hdm' : decide (0 < n + 1) = true := by simp
      have hbs := HB.out.1.size
      clear hn h0 hml
      go_wp2_with (first
        | (go_at_call 44; refine (HQL.out _).mono ?_; rintro r w2 ⟨rfl, rfl⟩)
        | (go_at_call 45; refine HPOP.out.mono ?_; rintro r w3 ⟨x, v3, M3, rfl, hp3, hmn3, hk3, hv3, hq3, hb3⟩; have hta := fun W => assert_img W x; have HP3 := Lib.hid hp3; have HMN3 := Lib.hid hmn3; have HK3 := Lib.hid hk3; have HV3 := Lib.hid hv3; have HQ3 := Lib.hid hq3; have HB3 := Lib.hid hb3; have HA3 := Lib.hid (show Below w3.heap.size w3 ((w3.alloc (.cells (Img.cells x).toArray 83)).alloc (.cells (Img.cells x).toArray 83)) from ((Below.refl _ _).alloc (Nat.le_refl _) _).alloc (by simp) _); have HOW := Lib.hid (row_below (row_pop HO.out hb3 HV.out HGL.out HVL.out) HA3.out); have hs3 := hb3.1.size; clear hp3 hmn3 hk3 hv3 hq3 hb3)
        | (at_builtin; refine wpList_append_own_at _ (by rfl) (.tmp 19) (.tmp 21) _ (by rfl) w.heap.size 83 i1 _ 4 32 Tryd.underlying74 hj hy0 hy1 hy2 rfl (by decide) _ R.length (cellsF Img.cells R) (by rfl) (HOW.out) ⟨w3.heap.size + 1, 0, none⟩ 1 1 (Img.cells x) (by rfl) rfl (fun j u h => cells_new2 (by simp) _ j u h) (Img.one _) h63 hby (by simp; omega) ?_; intro v4 w4 hown4 hg4 hn4 hat4; clear hn4 hat4; have HO4 := Lib.hid hown4; have HG4 := Lib.hid hg4; clear hown4 hg4))
      have hBQ : But (Qb g v) wr w3 := HB3.out.mono (fun k _ hk => by rcases hk with h | h; exact .inl h; exact .inr (HV.out ▸ h))
      have HBN := Lib.hid (((HB.out.trans hBQ).then_ HA3.out).grown HG4.out (fun k e => .inr (HO.out.lt k e).1))
      have HLN := Lib.hid HP3.out.length_eq
      go_roundg M3.length
      case measure => have := HLN.out; simp at this; omega
      case rel =>
        refine ⟨M3, R ++ [x], v3, rfl, Lib.hid ?_, Lib.hid ⟨rise_snoc HR.out.1 (fun y hy => HR.out.2 y hy x (HP3.out.mem_iff.1 (by simp))), fun y hy z hz => ?_⟩, HK3, Lib.hid (HV3.out.trans HV.out), Lib.hid ?_, Lib.hid ?_, HBN⟩
        · rw [List.append_assoc]
          exact (HP3.out.append_left R).trans HP.out
        · rcases List.mem_append.1 hy with hy | hy
          · exact HR.out.2 y hy z (HP3.out.mem_iff.1 (by simp [hz]))
          · rw [List.mem_singleton.1 hy]
            exact HMN3.out z (HP3.out.mem_iff.1 (by simp [hz]))
        · refine (HQ3.out.below HA3.out).keep HG4.out (fun e => ?_) (fun k hk e => ?_)
          · have := (HO.out.lt g e.symm).1
            have := HGL.out
            omega
          · have h1 := (HO.out.lt k e).1
            have h2 := HVL.out k (by rw [← HV.out, ← HV3.out]; exact hk)
            omega
        · show World.ownsRow _ _ _ _ _ (R ++ [x]).length _
          rw [List.length_append, cellsF_append, cellsF_one]
          exact HO4.out

end Go.Proofs.YtejicboemkpeoaaDoor

namespace Go.Proofs.YtejicboemkpeoaaDoor
open Go Go.RowKit

/-- Images, each ahead of where the next one begins. -/
def PartI (R : List Img) : Prop := R.Pairwise fun x y => x.hi ≤ y.lo
/-- Does an image begin ahead of where the one before it ends, up to a place? -/
def clashTo (R : List Img) (k : Nat) : Bool := (List.range k).any fun i => match R[i]?, R[i + 1]? with | some x, some y => decide (y.lo < x.hi) | _, _ => false
theorem clashTo_next {R : List Img} {k : Nat} {x y : Img} (hx : R[k]? = some x) (hy : R[k + 1]? = some y) : clashTo R (k + 1) = (clashTo R k || decide (y.lo < x.hi)) := by
  simp [clashTo, List.range_succ, hx, hy]
theorem clashTo_more {R : List Img} {k n : Nat} (hk : k ≤ n) (h : clashTo R k = true) : clashTo R n = true := by
  unfold clashTo at *
  rw [List.any_eq_true] at *
  obtain ⟨i, hi, h⟩ := h
  exact ⟨i, List.mem_range.2 (Nat.lt_of_lt_of_le (List.mem_range.1 hi) hk), h⟩
theorem part_of : ∀ {R : List Img}, (∀ x ∈ R, x.lo ≤ x.hi) → (∀ i x y, R[i]? = some x → R[i + 1]? = some y → x.hi ≤ y.lo) → PartI R
  | [], _, _ => List.Pairwise.nil
  | [x], _, _ => by simp [PartI]
  | x :: y :: l, hb, h => by
    have ih : PartI (y :: l) := part_of (fun z hz => hb z (by simp [hz])) (fun i a b ha hb => h (i + 1) a b (by simpa using ha) (by simpa using hb))
    have h0 := h 0 x y rfl rfl
    refine List.pairwise_cons.2 ⟨fun z hz => ?_, ih⟩
    rcases List.mem_cons.1 hz with rfl | hz
    · exact h0
    · have h1 := (List.pairwise_cons.1 ih).1 z hz
      have h2 := hb y (by simp)
      omega
theorem clash_part {R : List Img} (hb : ∀ x ∈ R, x.lo ≤ x.hi) : clashTo R (R.length - 1) = false ↔ PartI R := by
  constructor
  · intro h
    refine part_of hb fun i x y hx hy => ?_
    have hi := (List.getElem?_eq_some_iff.1 hy).1
    unfold clashTo at h
    rw [List.any_eq_false] at h
    have := h i (List.mem_range.2 (by omega))
    rw [hx, hy] at this
    simpa using this
  · intro h
    unfold clashTo
    rw [List.any_eq_false]
    intro i hi
    have hi := List.mem_range.1 hi
    obtain ⟨x, hx⟩ : ∃ x, R[i]? = some x := ⟨_, List.getElem?_eq_getElem (by omega)⟩
    obtain ⟨y, hy⟩ : ∃ y, R[i + 1]? = some y := ⟨_, List.getElem?_eq_getElem (by omega)⟩
    rw [hx, hy]
    have := List.pairwise_iff_getElem.1 h i (i + 1) (by omega) (by omega) (by omega)
    rw [(List.getElem?_eq_some_iff.1 hx).2, (List.getElem?_eq_some_iff.1 hy).2] at this
    simpa using this

set_option maxRecDepth 10000 in
set_option maxHeartbeats 1600000 in
theorem clash_any {w : World} {B : Nat} {A : Option Addr} {R : List Img} (h : Row 4 Img.cells w B A R) (c : Nat) (hl : R.length ≤ 1000) :
    Calls Tryd.prog 29 #[.slice A R.length c] w fun r w' => r = .returned (.bool (clashTo R (R.length - 1))) ∧ ∃ n, w' = w.drewN n := by
  obtain ⟨N, hN⟩ : ∃ N, R.length = N := ⟨_, rfl⟩
  have HN := Lib.hid hN
  have HR := Lib.hid h
  rw [hN] at hl ⊢
  clear h hN
  go_enter Tryd.func29, Tryd.ntmps29
  go_wp2_with fail
  go_loopg [3] N (fun gk i wr => ∃ k : Nat, gk = N - k ∧ i = .int .i64 ((k + 1 : Nat) : Int) ∧ k ≤ N ∧ (k = 0 ∨ k < N) ∧ Hid (clashTo R k = false) ∧ ∃ q, Hid (wr = w.drewN q))
  case atStart => exact ⟨0, rfl, rfl, Nat.zero_le _, .inl rfl, Lib.hid rfl, 0, Lib.hid rfl⟩
  case round =>
    obtain ⟨k, rfl, rfl, hk, hk1, HC, q, HW⟩ := hrel
    have hs1 : ((k + 1 : Nat) : Int) - 1 = (k : Int) := by omega
    have hs2 : IntKind.i64.wrap ((k + 1 : Nat) : Int) = ((k + 1 : Nat) : Int) := by rw [IntWalk.i64_in _ (by omega)]
    by_cases hlt : k + 1 < N
    · obtain ⟨x, hx⟩ : ∃ x, R[k]? = some x := ⟨_, List.getElem?_eq_getElem (by rw [HN.out]; omega)⟩
      obtain ⟨y, hy⟩ : ∃ y, R[k + 1]? = some y := ⟨_, List.getElem?_eq_getElem (by rw [HN.out]; omega)⟩
      have HNX := Lib.hid (clashTo_next hx hy)
      obtain ⟨b, o, rfl, hb, c0, c1, c2, c3⟩ := img_at (HW.out ▸ HR.out.drewN q) hx
      obtain ⟨b', o', e, hb', d0, d1, d2, d3⟩ := img_at (HW.out ▸ HR.out.drewN q) hy
      injection e with e
      injection e with e1 e2
      subst e1 e2
      have hkN : k < N := by omega
      have HLT := Lib.hid hlt
      clear hx hy c0 c2 c3 d1 d2 d3 hk1
      generalize x.hi = xh at *
      generalize y.lo = yl at *
      by_cases hxy : yl < xh
      · have hdy : decide (yl < xh) = true := decide_eq_true hxy
        rw [hdy, Bool.or_true] at HNX
        have HF := Lib.hid (clashTo_more (n := N - 1) (by omega) HNX.out)
        clear HNX
        go_wp2_with fail
        go_quiet (fail)
        go_wp2_with fail
        go_ret
        exact ⟨by rw [HF.out]; rfl, q + nq, by rw [HW.out]; simp [World.drewN, Nat.add_assoc]⟩
      · have hdy : decide (yl < xh) = false := decide_eq_false hxy
        rw [hdy, Bool.or_false] at HNX
        go_wp2_with fail
        go_quiet (fail)
        go_wp2_with fail
        go_roundg (N - (k + 1))
        case measure => omega
        case rel => exact ⟨k + 1, rfl, by go_num, by omega, .inr HLT.out, Lib.hid (by rw [HNX.out, HC.out]), q + nq, Lib.hid (by rw [HW.out]; simp [World.drewN, Nat.add_assoc])⟩
    · have hd : decide (((k + 1 : Nat) : Int) < (N : Int)) = false := decide_eq_false (by omega)
      have HF := Lib.hid (show clashTo R (N - 1) = false from by
        by_cases h0 : k = 0
        · subst h0
          rw [show N - 1 = 0 by omega]
          exact HC.out
        · rw [show N - 1 = k by omega]
          exact HC.out)
      go_wp2_with fail
      go_ret
      exact ⟨by rw [HF.out]; rfl, q, HW.out⟩

end Go.Proofs.YtejicboemkpeoaaDoor
