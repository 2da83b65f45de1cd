/-
  The document's own Once: each text held against those ahead of it.
-/
import Derived.Test.YtbggajojhopaaaaPoO
namespace Go.Proofs.Ytbggajojhopaaaa
open Go Go.RowKit

theorem nodup_next {ls : List (List UInt8)} {k : Nat} {t : List UInt8} (h : ls[k]? = some t) (hn : (ls.take k).Nodup) (ht : t ∉ ls.take k) : (ls.take (k + 1)).Nodup := by
  obtain ⟨hk, rfl⟩ := List.getElem?_eq_some_iff.1 h
  rw [List.take_succ_eq_append_getElem hk, List.nodup_append]
  exact ⟨hn, by simp, fun a ha b hb e => by rw [List.mem_singleton.1 hb] at e; exact ht (e ▸ ha)⟩

theorem nodup_not {ls : List (List UInt8)} {i k : Nat} {t : List UInt8} (hi : ls[i]? = some t) (hk : ls[k]? = some t) (h : k < i) : ¬ ls.Nodup := by
  intro hn
  obtain ⟨h1, e1⟩ := List.getElem?_eq_some_iff.1 hi
  obtain ⟨h2, e2⟩ := List.getElem?_eq_some_iff.1 hk
  have := (List.nodup_iff_pairwise_ne.1 hn)
  rw [List.pairwise_iff_getElem] at this
  exact this k i h2 h1 h (e2.trans e1.symm)

theorem notin_next {ls : List (List UInt8)} {k : Nat} {s t : List UInt8} (h : ls[k]? = some s) (ht : t ∉ ls.take k) (hne : ¬ t = s) : t ∉ ls.take (k + 1) := by
  obtain ⟨hk, rfl⟩ := List.getElem?_eq_some_iff.1 h
  rw [List.take_succ_eq_append_getElem hk]
  intro hm
  rcases List.mem_append.1 hm with h1 | h1
  · exact ht h1
  · exact hne (List.mem_singleton.1 h1)

set_option maxRecDepth 10000 in
set_option maxHeartbeats 3200000 in
theorem ronce_any {w : World} {A : Option Addr} {l : List UInt8} (h : Rd w w.heap.size A l) (c : Nat) (hlc : l.length ≤ c) (hcm : c ≤ maxLen) (hlen : l.length ≤ 1000000) :
    Calls Try.prog 62 #[.slice A l.length c] w fun r w' => r = .returned (.tuple #[.bool (onceT l), .int .i64 (allT l).2]) ∧ Below w.heap.size w w' := by
  have hA := rall_any h c hlc hcm hlen
  by_cases he : (allT l).2 = 0
  · have HR := Lib.hid (onceT_ok he)
    rw [he] at hA
    rw [he]
    have hrl := res_length l
    clear h he hlc hcm
    generalize resT l = ls at *
    obtain ⟨N, hN⟩ : ∃ N, ls.length = N := ⟨_, rfl⟩
    have HN := Lib.hid hN
    have hN6 : N ≤ 1000001 := by omega
    generalize l.length = n at *
    clear hN hrl hlen
    go_enter Try.func62, Try.ntmps62
    go_wp2_with (go_at_call 46; refine hA.mono ?_; rintro r w1 ⟨u, rfl, hO, hb⟩; (obtain ⟨A1, d1, rfl, _, hx⟩ := owns_at hO); rw [HN.out] at hx ⊢; have HX := Lib.hid hx; have HB := Lib.hid hb; clear hO hb hx hA)
    go_loopw [6] (fun i wr => ∃ k q : Nat, i = .int .i64 k ∧ k ≤ N ∧ Hid ((ls.take k).Nodup) ∧ wr = w1.drewN q) (fun i _ => N - (intOf i).toNat)
    case atStart => exact ⟨0, 0, rfl, Nat.zero_le _, Lib.hid (by simp), rfl⟩
    case round =>
      obtain ⟨i, q, rfl, hi, HD, rfl⟩ := hrel
      by_cases hlt : i < N
      · obtain ⟨gb, rfl, hgb, hxx⟩ := HX.out (by omega)
        obtain ⟨t, hti⟩ : ∃ t, ls[i]? = some t := ⟨ls[i]'(by rw [HN.out]; exact hlt), List.getElem?_eq_getElem _⟩
        have x1 := hxx i t hti
        have HTI := Lib.hid hti
        have HXX := Lib.hid hxx
        clear hti hxx
        obtain ⟨tb, htb⟩ : ∃ tb : ByteArray, tb = ⟨t.toArray⟩ := ⟨_, rfl⟩
        have HTB := Lib.hid htb
        rw [← htb] at x1
        clear htb
        go_wp2_with fail
        go_loopw [7] (fun j wr => ∃ k p : Nat, j = .int .i64 k ∧ k ≤ i ∧ Hid (t ∉ ls.take k) ∧ wr = w1.drewN p) (fun j _ => i - (intOf j).toNat)
        case atStart => exact ⟨0, q, rfl, Nat.zero_le _, Lib.hid (by simp), rfl⟩
        case round =>
          obtain ⟨k, p, rfl, hk, HT, rfl⟩ := hrel
          by_cases hki : k < i
          · obtain ⟨s, hsk⟩ : ∃ s, ls[k]? = some s := ⟨ls[k]'(by rw [HN.out]; omega), List.getElem?_eq_getElem _⟩
            have x2 := HXX.out k s hsk
            have hq := str_eq t s
            rw [← HTB.out] at hq
            have b1 : (i : Int) < (N : Int) := by omega
            have b2 : (k : Int) < (N : Int) := by omega
            by_cases hts : t = s
            · have HF := Lib.hid (nodup_not HTI.out (hts ▸ hsk) hki)
              rw [decide_eq_true hts] at hq
              clear hsk hts
              generalize ByteArray.mk s.toArray = sb at *
              go_wp2_with fail
              go_quiet (fail)
              go_wp2
              go_ret2
              exact ⟨by rw [HR.out, decide_eq_false HF.out]; rfl, below_drewN (below_drewN HB.out _) _⟩
            · have HT1 := Lib.hid (notin_next hsk HT.out hts)
              rw [decide_eq_false hts] at hq
              clear hsk hts
              generalize ByteArray.mk s.toArray = sb at *
              go_wp2_with fail
              go_quiet (fail)
              go_wp2
              exact ⟨⟨k + 1, _, by go_num, by omega, HT1, rfl⟩, by simp [intOf]; omega⟩
          · have hkn : k = i := by omega
            subst hkn
            have HD1 := Lib.hid (nodup_next HTI.out HD.out HT.out)
            go_wp2_with fail
            exact ⟨⟨k + 1, _, by go_num, by omega, HD1, rfl⟩, by simp [intOf]; omega⟩
      · have hkn : i = N := by omega
        subst hkn
        have HF := Lib.hid (show ls.Nodup by have := HD.out; rwa [← HN.out, List.take_length] at this)
        go_wp2_with fail
        go_ret2
        exact ⟨by rw [HR.out, decide_eq_true HF.out]; rfl, below_drewN HB.out _⟩
  · have HR := Lib.hid (onceT_bad he)
    have hne : ((allT l).2 != 0) = true := by simp [he]
    clear h he hlc hcm
    generalize (allT l).2 = e at *
    generalize l.length = n at *
    go_enter Try.func62, Try.ntmps62
    go_wp2_with (go_at_call 46; refine hA.mono ?_; rintro r w1 ⟨u, rfl, hO, hb⟩; (obtain ⟨A1, d1, rfl, _, hx⟩ := owns_at hO); clear hO hx)
    go_ret2
    exact ⟨by rw [HR.out]; rfl, hb⟩

end Go.Proofs.Ytbggajojhopaaaa
