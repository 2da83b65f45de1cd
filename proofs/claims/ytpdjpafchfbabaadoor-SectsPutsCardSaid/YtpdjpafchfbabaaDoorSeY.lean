/-
  The document's Bulk: how many bytes sections have, as far as a bound; sections that came in.
-/

import Derived.Test.YtpdjpafchfbabaaDoorSeA
namespace Go.Proofs.YtpdjpafchfbabaaDoor
open Go Go.RowKit

/-- A section's numbers are what their types may be. -/
structure Sect.Nums (s : Sect) : Prop where
  kind : InI s.kind
  link : InI s.link
  inf : InI s.inf
  algn : InI s.algn
  ent : InI s.ent
  flags : s.flags < two64
  addr : s.addr < two64
theorem Sect.Nums.fits {s : Sect} (h : s.Nums) (hd : s.data.length ≤ 8000) (hn : s.name.length ≤ 8000) : s.Fits :=
  ⟨h.kind, h.link, h.inf, h.algn, h.ent, h.flags, h.addr, Nat.le_trans hd (by decide), Nat.le_trans hn (by decide)⟩

/-- Sections that came in: nothing is said of how many bytes they have. -/
structure SecsIn (w : World) (B : Nat) (a : Option Addr) (L : List Lay) : Prop where
  row : 0 < L.length → ∃ b o, a = some ⟨b, o, none⟩ ∧ b < B ∧ ∀ (i : Nat) (x : Lay), L[i]? = some x → ∀ (j : Nat) (v : Value), x.cells[j]? = some v → w.cell? ⟨b, o + i * 9 + j, none⟩ = some v
  rd : ∀ x ∈ L, Rd w B x.A x.s.data ∧ x.s.data.length ≤ x.c ∧ x.c ≤ maxLen ∧ x.s.Nums
theorem SecsIn.secs {w : World} {B : Nat} {a : Option Addr} {L : List Lay} (h : SecsIn w B a L) (hb : ∀ x ∈ L, x.s.data.length ≤ 8000 ∧ x.s.name.length ≤ 8000) : Secs w B a L :=
  ⟨h.row, fun x hx => ⟨(h.rd x hx).1, (h.rd x hx).2.1, (h.rd x hx).2.2.1, (h.rd x hx).2.2.2.fits (hb x hx).1 (hb x hx).2⟩⟩

def Bulky (L : List Lay) (k : Nat) : Prop := ∀ (j : Nat) (x : Lay), j < k → L[j]? = some x → x.s.data.length ≤ 8000 ∧ x.s.name.length ≤ 8000
theorem Bulky.next {L : List Lay} {k : Nat} {x : Lay} (h : Bulky L k) (hx : L[k]? = some x) (h1 : x.s.data.length ≤ 8000) (h2 : x.s.name.length ≤ 8000) : Bulky L (k + 1) := fun j y hj hy => by
  rcases Nat.lt_or_ge j k with h3 | h3
  · exact h j y h3 hy
  · rw [show j = k by omega, hx] at hy
    injection hy with hy
    exact hy ▸ ⟨h1, h2⟩
theorem Bulky.all {L : List Lay} (h : Bulky L L.length) : ∀ x ∈ L, x.s.data.length ≤ 8000 ∧ x.s.name.length ≤ 8000 := fun x hx => by
  obtain ⟨i, hi, e⟩ := List.getElem_of_mem hx
  exact h i x hi (by rw [← e]; exact List.getElem?_eq_getElem hi)

set_option maxRecDepth 10000 in
set_option maxHeartbeats 1600000 in
theorem bulk_any {w : World} {B : Nat} {a : Option Addr} {L : List Lay} (h : SecsIn w B a L) (c : Nat) :
    Calls Tryd.prog 10 #[.slice a L.length c, .int .i64 8000] w fun r w' => ∃ n : Int, r = .returned (.int .i64 n) ∧ (n ≤ 8000 → L.length ≤ 8000 ∧ ∀ x ∈ L, x.s.data.length ≤ 8000 ∧ x.s.name.length ≤ 8000) ∧ ∃ q, w' = w.drewN q := by
  have HH := Lib.hid h
  generalize hN : L.length = N at *
  have HN := Lib.hid hN
  clear h hN
  go_enter Tryd.func10, Tryd.ntmps10
  by_cases hbig : 8000 < N
  · have hd : decide ((8000 : Int) < (N : Int)) = true := decide_eq_true (by omega)
    clear hbig
    go_wp2_with fail
    go_ret
    exact ⟨8001, rfl, fun h => absurd h (by decide), 0, rfl⟩
  · have hd : decide ((8000 : Int) < (N : Int)) = false := decide_eq_false (by omega)
    have HNB := Lib.hid hbig
    have hNb : N ≤ 8000 := by omega
    clear hbig
    go_wp2_with fail
    clear hd
    go_loopw [5, 6] (fun n i wr => ∃ k q z : Nat, k ≤ N ∧ q ≤ 24000 ∧ n = .int .i64 q ∧ i = .int .i64 k ∧ wr = w.drewN z ∧ Hid (Bulky L k)) (fun _ i _ => N - (intOf i).toNat)
    case atStart => exact ⟨0, N, 0, Nat.zero_le _, by omega, rfl, rfl, rfl, Lib.hid (fun _ _ hj => by omega)⟩
    case round =>
      obtain ⟨k, q, z, hk, hq, rfl, rfl, rfl, HBk⟩ := hrel
      by_cases hlt : k < N
      · obtain ⟨x, hx⟩ : ∃ x, L[k]? = some x := ⟨L[k]'(by rw [HN.out]; exact hlt), List.getElem?_eq_getElem _⟩
        obtain ⟨b, o, rfl, _, hc⟩ := HH.out.row (by rw [HN.out]; omega)
        have c0 := hc k x hx 0 _ rfl
        have c4 := hc k x hx 4 _ rfl
        rw [show x.dv = .slice x.A x.s.data.length x.c from rfl] at c4
        rw [Nat.add_zero] at c0
        have hsz : (ByteArray.mk x.s.name.toArray).size = x.s.name.length := rfl
        by_cases h1 : 8000 < q
        · have d1 : decide ((8000 : Int) < (q : Int)) = true := decide_eq_true (by omega)
          clear h1 hc hx
          go_wp2_with fail
          go_ret
          exact ⟨8001, rfl, fun h => absurd h (by decide), z, rfl⟩
        · have d1 : decide ((8000 : Int) < (q : Int)) = false := decide_eq_false (by omega)
          have hq8 : q ≤ 8000 := by omega
          by_cases h2 : 8000 < x.s.data.length
          · have d2 : decide ((8000 : Int) < (x.s.data.length : Int)) = true := decide_eq_true (by omega)
            clear h1 h2 hc hx hq8
            generalize ByteArray.mk x.s.name.toArray = sb at *
            go_wp2_with fail
            go_ret
            exact ⟨8001, rfl, fun h => absurd h (by decide), z, rfl⟩
          · have d2 : decide ((8000 : Int) < (x.s.data.length : Int)) = false := decide_eq_false (by omega)
            by_cases h3 : 8000 < x.s.name.length
            · have d3 : decide ((8000 : Int) < (x.s.name.length : Int)) = true := decide_eq_true (by omega)
              clear h1 h2 h3 hc hx hq8
              generalize ByteArray.mk x.s.name.toArray = sb at *
              go_wp2_with fail
              go_ret
              exact ⟨8001, rfl, fun h => absurd h (by decide), z, rfl⟩
            · have d3 : decide ((8000 : Int) < (x.s.name.length : Int)) = false := decide_eq_false (by omega)
              have HB1 := Lib.hid (HBk.out.next hx (by omega) (by omega))
              have hdl : x.s.data.length ≤ 8000 := by omega
              have hnl : x.s.name.length ≤ 8000 := by omega
              clear h1 h2 h3 hc hx hq
              generalize ByteArray.mk x.s.name.toArray = sb at *
              generalize x.s.data.length = dl at *
              generalize x.s.name.length = nl at *
              go_wp2_with fail
              go_quiet (fail)
              go_wp2_with fail
              go_roundw
              case rel => exact ⟨k + 1, q + dl + nl, _, by omega, by omega, by go_num, by go_num, by first | rfl | (simp; rfl), HB1⟩
              case measure => simp [intOf]; omega
      · have hkN : k = N := by omega
        subst hkN
        have HA := Lib.hid (show ∀ x ∈ L, x.s.data.length ≤ 8000 ∧ x.s.name.length ≤ 8000 from by have := HBk.out; rw [← HN.out] at this; exact this.all)
        go_wp2_with fail
        go_ret
        exact ⟨q, rfl, fun _ => ⟨hNb, HA.out⟩, z, rfl⟩

end Go.Proofs.YtpdjpafchfbabaaDoor
