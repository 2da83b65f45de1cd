/-
  Package object: where the section of symbols stands (symbolTable), and the document's (place).
-/
import Derived.Test.YtldmjnbmjfnfeaaGreatDoorSeA
namespace Go.Proofs.YtldmjnbmjfnfeaaGreatDoor
open Go Go.RowKit

/-- Where the section of Type 2 stands among the first k: -1: nowhere, -2: there are several. -/
def placeK (S : List Sect) : Nat → Int
  | 0 => -1
  | k + 1 => match S[k]? with
    | none => placeK S k
    | some s => if s.kind = 2 then (if placeK S k = -1 then (k : Int) else -2) else placeK S k
def placeS (S : List Sect) : Int := placeK S S.length
variable {S : List Sect} {k : Nat} {s : Sect}
theorem placeK_other (h : S[k]? = some s) (hk : s.kind ≠ 2) : placeK S (k + 1) = placeK S k := by simp [placeK, h, hk]
theorem placeK_first (h : S[k]? = some s) (hk : s.kind = 2) (hp : placeK S k = -1) : placeK S (k + 1) = (k : Int) := by simp [placeK, h, hk, hp]
theorem placeK_two (h : S[k]? = some s) (hk : s.kind = 2) (hp : placeK S k ≠ -1) : placeK S (k + 1) = -2 := by simp [placeK, h, hk, hp]
theorem placeK_stays (hp : placeK S k = -2) : ∀ n, k ≤ n → placeK S n = -2
  | 0, h => by
    obtain rfl : k = 0 := by omega
    exact hp
  | n + 1, h => by
    rcases Nat.lt_or_ge n k with h1 | h1
    · obtain rfl : k = n + 1 := by omega
      exact hp
    · have ih := placeK_stays hp n h1
      rcases hx : S[n]? with _ | x
      · simp [placeK, hx, ih]
      · by_cases h2 : x.kind = 2
        · exact placeK_two hx h2 (by rw [ih]; decide)
        · rw [placeK_other hx h2, ih]
theorem placeK_at (S : List Sect) : ∀ k, placeK S k = -1 ∨ placeK S k = -2 ∨ ∃ (j : Nat) (s : Sect), j < k ∧ placeK S k = (j : Int) ∧ S[j]? = some s ∧ s.kind = 2
  | 0 => .inl rfl
  | k + 1 => by
    rcases hx : S[k]? with _ | x
    · have : placeK S (k + 1) = placeK S k := by simp [placeK, hx]
      rw [this]
      rcases placeK_at S k with h | h | ⟨j, s, h1, h2⟩
      · exact .inl h
      · exact .inr (.inl h)
      · exact .inr (.inr ⟨j, s, by omega, h2⟩)
    · by_cases h2 : x.kind = 2
      · by_cases hp : placeK S k = -1
        · exact .inr (.inr ⟨k, x, by omega, placeK_first hx h2 hp, hx, h2⟩)
        · exact .inr (.inl (placeK_two hx h2 hp))
      · rw [placeK_other hx h2]
        rcases placeK_at S k with h | h | ⟨j, s, h1, h3⟩
        · exact .inl h
        · exact .inr (.inl h)
        · exact .inr (.inr ⟨j, s, by omega, h3⟩)

/-- What the program tells of it: 0 is nowhere. -/
def tabI (S : List Sect) : Int := if placeS S < 0 then 0 else placeS S
def tabE (S : List Sect) : Int := if placeS S = -2 then 23 else 0
def TabAt (S : List Sect) (k t : Nat) : Prop := (t = 0 ∧ placeK S k = -1) ∨ (0 < t ∧ placeK S k = (t : Int))
theorem TabAt.end_ {t : Nat} (h : TabAt S S.length t) : tabI S = (t : Int) ∧ tabE S = 0 := by
  rcases h with ⟨rfl, h⟩ | ⟨h0, h⟩
  · unfold tabI tabE placeS; rw [h]; decide
  · unfold tabI tabE placeS; rw [h]
    exact ⟨if_neg (by omega), if_neg (by omega)⟩
theorem tab_two (hp : placeK S (k + 1) = -2) (hk : k < S.length) : tabI S = 0 ∧ tabE S = 23 := by
  have : placeS S = -2 := placeK_stays hp _ (by omega)
  unfold tabI tabE
  rw [this]
  decide

set_option maxRecDepth 10000 in
set_option maxHeartbeats 1600000 in
theorem symtab_any {w : World} {a : Option Addr} {L : List Lay} (h : Secs w w.heap.size a L) (c : Nat) (hl : L.length ≤ 100000) (h0 : ∀ x, L[0]? = some x → x.s.kind ≠ 2) :
    Calls Tryz.prog 20 #[.slice a L.length c] w fun r w' => r = .returned (.tuple #[.int .i64 (tabI (secsOf L)), .int .i64 (tabE (secsOf L))]) ∧ Below w.heap.size w w' := by
  obtain ⟨N, hN⟩ : ∃ N, L.length = N := ⟨_, rfl⟩
  have HH := Lib.hid h
  have HN := Lib.hid hN
  have HZ := Lib.hid h0
  rw [hN] at hl ⊢
  clear h hN h0
  go_enter Tryz.func20, Tryz.ntmps20
  go_wp2_with fail
  go_loopw [4, 9] (fun tv i wr => ∃ k t : Nat, k ≤ N ∧ t ≤ N ∧ tv = .int .i64 t ∧ i = .int .i64 k ∧ Below w.heap.size w wr ∧ Hid (TabAt (secsOf L) k t)) (fun _ i _ => N - (intOf i).toNat)
  case atStart => exact ⟨0, 0, Nat.zero_le _, Nat.zero_le _, rfl, rfl, Below.refl _ _, Lib.hid (.inl ⟨rfl, rfl⟩)⟩
  case round =>
    obtain ⟨k, t, hk, htN, rfl, rfl, hB, HY⟩ := hrel
    have HB := Lib.hid hB
    by_cases hlt : k < N
    · obtain ⟨x, hx⟩ : ∃ x, L[k]? = some x := ⟨L[k]'(by rw [HN.out]; exact hlt), List.getElem?_eq_getElem _⟩
      obtain ⟨b, o, rfl, hb, c0, c1, c2, c3, c4, c5, c6, c7, c8⟩ := (HH.out.below hB).at_ hx
      have hgs := get_secsOf hx
      by_cases hk2 : x.s.kind = 2
      · have q2 : (x.s.kind != 2) = false := by simp [hk2]
        have hk0 : 0 < k := by
          rcases Nat.eq_zero_or_pos k with e | e
          · subst e; exact absurd hk2 (HZ.out x hx)
          · exact e
        by_cases ht : t = 0
        · have qt : (((t : Nat) : Int) != 0) = false := by simp [ht]
          have HF := Lib.hid (show TabAt (secsOf L) (k + 1) k from .inr ⟨hk0, placeK_first hgs hk2 (by
            rcases HY.out with ⟨_, h⟩ | ⟨h, _⟩
            · exact h
            · omega)⟩)
          clear hx hgs hk2 hB hk0
          generalize x.A = dA at *
          generalize x.s.data.length = dn at *
          generalize x.c = dc at *
          generalize ByteArray.mk x.s.name.toArray = sb at *
          generalize x.s.kind = i1 at *
          go_wp2_with fail
          go_roundw
          case rel => exact ⟨k + 1, k, by omega, by omega, rfl, by go_num, below_alloc_any HB.out _, HF⟩
          case measure => simp [intOf]; omega
        · have qt : (((t : Nat) : Int) != 0) = true := by simp [ht]
          have HF := Lib.hid (tab_two (S := secsOf L) (k := k) (placeK_two hgs hk2 (by
            rcases HY.out with ⟨h, _⟩ | ⟨_, h⟩
            · exact absurd h ht
            · rw [h]; omega)) (by simp; rw [HN.out]; exact hlt))
          clear hx hgs hk2 hB hk0 ht
          generalize x.A = dA at *
          generalize x.s.data.length = dn at *
          generalize x.c = dc at *
          generalize ByteArray.mk x.s.name.toArray = sb at *
          generalize x.s.kind = i1 at *
          go_wp2_with fail
          go_ret2
          exact ⟨by rw [HF.out.1, HF.out.2]; rfl, below_alloc_any HB.out _⟩
      · have q2 : (x.s.kind != 2) = true := by simp [hk2]
        have HF := Lib.hid (show TabAt (secsOf L) (k + 1) t by unfold TabAt; rw [placeK_other hgs hk2]; exact HY.out)
        clear hx hgs hk2 hB
        generalize x.A = dA at *
        generalize x.s.data.length = dn at *
        generalize x.c = dc at *
        generalize ByteArray.mk x.s.name.toArray = sb at *
        generalize x.s.kind = i1 at *
        go_wp2_with fail
        go_roundw
        case rel => exact ⟨k + 1, t, by omega, htN, rfl, by go_num, below_alloc_any HB.out _, HF⟩
        case measure => simp [intOf]; omega
    · have HF := Lib.hid (show tabI (secsOf L) = (t : Int) ∧ tabE (secsOf L) = 0 by
        have hkn : k = (secsOf L).length := by simp; rw [HN.out]; omega
        exact TabAt.end_ (by have := HY.out; rwa [hkn] at this))
      clear hB
      go_wp2_with fail
      go_ret2
      exact ⟨by rw [HF.out.1, HF.out.2]; rfl, HB.out⟩

set_option maxRecDepth 10000 in
set_option maxHeartbeats 1600000 in
theorem place_any {w : World} {B : Nat} {a : Option Addr} {L : List Lay} (h : Secs w B a L) (c : Nat) (hl : L.length ≤ 100000) :
    Calls Tryz.prog 24 #[.slice a L.length c] w fun r w' => r = .returned (.int .i64 (placeS (secsOf L))) ∧ w = w' := by
  obtain ⟨N, hN⟩ : ∃ N, L.length = N := ⟨_, rfl⟩
  have HH := Lib.hid h
  have HN := Lib.hid hN
  rw [hN] at hl ⊢
  clear h hN
  go_enter Tryz.func24, Tryz.ntmps24
  go_wp2_with fail
  go_loop [3, 4] (fun p i => ∃ (k : Nat) (z : Int), k ≤ N ∧ p = .int .i64 z ∧ i = .int .i64 k ∧ z ≠ -2 ∧ -2 < z ∧ Hid (placeK (secsOf L) k = z)) (fun _ i => N - (intOf i).toNat)
  case atStart => exact ⟨0, -1, Nat.zero_le _, rfl, rfl, by decide, by decide, Lib.hid rfl⟩
  case round =>
    obtain ⟨k, z, hk, rfl, rfl, hz, hz2, HY⟩ := hrel
    by_cases hlt : k < N
    · obtain ⟨x, hx⟩ : ∃ x, L[k]? = some x := ⟨L[k]'(by rw [HN.out]; exact hlt), List.getElem?_eq_getElem _⟩
      obtain ⟨b, o, rfl, hb, c0, c1, -⟩ := HH.out.at_ hx
      have hgs := get_secsOf hx
      by_cases hk2 : x.s.kind = 2
      · have q2 : (x.s.kind == 2) = true := by simp [hk2]
        by_cases ht : z = -1
        · have qt : decide ((0 : Int) ≤ z) = false := decide_eq_false (by omega)
          have HF := Lib.hid (show placeK (secsOf L) (k + 1) = (k : Int) from placeK_first hgs hk2 (by rw [HY.out, ht]))
          clear hx hgs hk2 ht hz hz2
          generalize x.s.kind = i1 at *
          go_wp2_with fail
          exact ⟨⟨k + 1, k, by omega, rfl, by go_num, by omega, by omega, HF⟩, by simp [intOf]; omega⟩
        · have qt : decide ((0 : Int) ≤ z) = true := decide_eq_true (by omega)
          have HF := Lib.hid (show placeS (secsOf L) = -2 from placeK_stays (placeK_two hgs hk2 (by rw [HY.out]; exact ht)) _ (by simp; rw [HN.out]; omega))
          clear hx hgs hk2 ht hz hz2
          generalize x.s.kind = i1 at *
          go_wp2_with fail
          go_ret
          exact ⟨by rw [HF.out]; rfl, rfl⟩
      · have q2 : (x.s.kind == 2) = false := by simp [hk2]
        have HF := Lib.hid (show placeK (secsOf L) (k + 1) = z by rw [placeK_other hgs hk2]; exact HY.out)
        clear hx hgs hk2
        generalize x.s.kind = i1 at *
        go_wp2_with fail
        exact ⟨⟨k + 1, z, by omega, rfl, by go_num, hz, hz2, HF⟩, by simp [intOf]; omega⟩
    · have HF := Lib.hid (show placeS (secsOf L) = z by
        have hkn : k = (secsOf L).length := by simp; rw [HN.out]; omega
        have := HY.out
        rwa [hkn] at this)
      clear hz hz2
      go_wp2_with fail
      go_ret
      exact ⟨by rw [HF.out]; rfl, rfl⟩

end Go.Proofs.YtldmjnbmjfnfeaaGreatDoor
