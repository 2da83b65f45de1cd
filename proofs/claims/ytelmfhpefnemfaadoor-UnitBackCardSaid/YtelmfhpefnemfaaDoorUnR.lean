/-
  Units that are put are taken: plain facts on bytes.
-/
import Derived.Test.YtelmfhpefnemfaaDoorUnL
import Derived.Test.YtelmfhpefnemfaaDoorUnI
import Derived.Test.YtelmfhpefnemfaaDoorLtK
namespace Go.Proofs.YtelmfhpefnemfaaDoor
open Go Go.RowKit

theorem read_at (l p q r : List UInt8) (n : Nat) (hn : q.length = n) (h : l = p ++ (q ++ r)) (k : Nat) (hk : p.length = k) : vU l (k, 0) n = leNat q ∧ nU l (k, 0) n = (k + n, 0) := by
  subst h hn hk
  obtain ⟨h1, h2, h3⟩ := next_mid p q r
  exact ⟨by unfold vU; rw [h1], by unfold nU; rw [h2, h3]⟩
theorem fits_off {h : UHd} {n : Nat} (hf : fitsO h.wide n = true) (h64 : n < two64) : n % 256 ^ offN h.wide = n := by
  refine Nat.mod_eq_of_lt ?_
  unfold fitsO at hf
  unfold offN
  cases hw : h.wide with
  | true => exact h64
  | false =>
    rw [hw] at hf
    simp at hf
    exact hf
theorem kindB_nat {h : UHd} (hr : rightU h = true) : ((kindB h).toNat : Int) = h.kind ∧ kindOk h.kind = true := by
  have hk := right_kind hr
  have : h.kind = 1 ∨ h.kind = 2 ∨ h.kind = 3 := by omega
  unfold kindB kindOk
  rcases this with e | e | e <;> (rw [e]; exact ⟨rfl, rfl⟩)
theorem right_parts {h : UHd} (hr : rightU h = true) : fitsO h.wide h.ab = true ∧ (h.kind = 2 → fitsO h.wide h.ty = true) ∧ (h.kind ≠ 2 → h.sig = 0 ∧ h.ty = 0) := by
  unfold rightU at hr
  simp only [Bool.and_eq_true] at hr
  refine ⟨hr.2.1, fun h2 => ?_, fun h2 => ?_⟩
  · have := hr.2.2
    rwa [if_pos h2] at this
  · have := hr.2.2
    rw [if_neg h2] at this
    simpa using this

/-- A unit's numbers, read. -/
theorem num_unit {h : UHd} (hr : rightU h = true) (hi : h.In) (b : List UInt8) :
    numU (unitB h b) 0 h.wide = ⟨h.kind, false, h.ab, h.sig, h.ty, 0, 0, 0⟩ ∧ qzU (unitB h b) 0 h.wide = ((headU h).length + (sigU h).length, 0) := by
  obtain ⟨kn, ko⟩ := kindB_nat hr
  obtain ⟨fa, ft, f0⟩ := right_parts hr
  obtain ⟨v1, n1⟩ := read_at (unitB h b) [] (leBytes 5 2) ([kindB h] ++ ([8] ++ (leBytes h.ab (offN h.wide) ++ (sigU h ++ b)))) 2 (leBytes_length _ _) (by simp [unitB, headU]) 0 rfl
  obtain ⟨v2, n2⟩ := read_at (unitB h b) (leBytes 5 2) [kindB h] ([8] ++ (leBytes h.ab (offN h.wide) ++ (sigU h ++ b))) 1 rfl (by simp [unitB, headU]) 2 (leBytes_length _ _)
  obtain ⟨v3, n3⟩ := read_at (unitB h b) (leBytes 5 2 ++ [kindB h]) [8] (leBytes h.ab (offN h.wide) ++ (sigU h ++ b)) 1 rfl (by simp [unitB, headU]) 3 (by simp [leBytes_length])
  obtain ⟨v4, n4⟩ := read_at (unitB h b) (leBytes 5 2 ++ [kindB h, 8]) (leBytes h.ab (offN h.wide)) (sigU h ++ b) (offN h.wide) (leBytes_length _ _) (by simp [unitB, headU]) 4 (by simp [leBytes_length])
  have e1 : q1U (unitB h b) 0 = (2, 0) := by
    rw [q1U, v1, n1, leNat_leBytes]
    rfl
  have ek : (kdU (unitB h b) 0 : Int) = h.kind := by
    rw [kdU, e1, v2, ← kn]
    simp [leNat]
  have e2 : q2U (unitB h b) 0 = (3, 0) := by
    rw [q2U, e1, n2, ek, ko]
    rfl
  have e3 : q3U (unitB h b) 0 = (4, 0) := by
    rw [q3U, e2, v3, n3]
    rfl
  have e4 : q4U (unitB h b) 0 h.wide = (4 + offN h.wide, 0) := by rw [q4U, e3, n4]
  have ea : abU (unitB h b) 0 h.wide = h.ab := by rw [abU, e3, v4, leNat_leBytes, fits_off fa hi.ab]
  have hh := headU_len h
  by_cases h2 : h.kind = 2
  · have hk2 : kdU (unitB h b) 0 = 2 := by omega
    have hs : sigU h = leBytes h.sig 8 ++ leBytes h.ty (offN h.wide) := by rw [sigU, if_pos h2]
    obtain ⟨v5, n5⟩ := read_at (unitB h b) (headU h) (leBytes h.sig 8) (leBytes h.ty (offN h.wide) ++ b) 8 (leBytes_length _ _) (by simp [unitB, hs]) (4 + offN h.wide) hh
    obtain ⟨v6, n6⟩ := read_at (unitB h b) (headU h ++ leBytes h.sig 8) (leBytes h.ty (offN h.wide)) b (offN h.wide) (leBytes_length _ _) (by simp [unitB, hs]) (4 + offN h.wide + 8) (by simp [hh, leBytes_length])
    have e5 : q5U (unitB h b) 0 h.wide = (4 + offN h.wide + 8, 0) := by rw [q5U, e4, n5]
    have e6 : q6U (unitB h b) 0 h.wide = (4 + offN h.wide + 8 + offN h.wide, 0) := by rw [q6U, e5, n6]
    constructor
    · rw [numU, ek, ea, sgU, tyU, if_pos hk2, if_pos hk2, e4, e5, v5, v6, leNat_leBytes, leNat_leBytes, fits_off (ft h2) hi.ty, Nat.mod_eq_of_lt (show h.sig < 256 ^ 8 from hi.sig)]
    · rw [qzU, if_pos hk2, e6, hh, hs, List.length_append, leBytes_length, leBytes_length]
      simp only [Prod.mk.injEq, and_true]
      omega
  · have hk2 : ¬ kdU (unitB h b) 0 = 2 := by omega
    obtain ⟨z1, z2⟩ := f0 h2
    constructor
    · rw [numU, ek, ea, sgU, tyU, if_neg hk2, if_neg hk2, z1, z2]
    · rw [qzU, if_neg hk2, e4, hh, sigU, if_neg h2]
      rfl

/-- A length, and what it is of, behind any bytes. -/
theorem tk_mid15 (P : List UInt8) (n : Nat) (wide : Bool) (r : List UInt8) (hn : n ≤ 1000000) : tkN (P ++ (lenB n wide ++ r)) P.length 0 = n ∧ tkW (P ++ (lenB n wide ++ r)) P.length 0 = wide ∧ tkA (P ++ (lenB n wide ++ r)) P.length 0 = P.length + (lenB n wide).length ∧ tkE (P ++ (lenB n wide ++ r)) P.length 0 = 0 := by
  cases wide with
  | false =>
    have e : lenB n false = leBytes n 4 := by
      unfold lenB
      rw [if_neg (by decide), if_pos (by omega)]
    rw [e]
    obtain ⟨h1, h2, h3⟩ := next_mid P (leBytes n 4) r
    rw [leBytes_length] at h1 h2 h3
    have e2 : leNat (nextGot (P ++ (leBytes n 4 ++ r)) P.length 0 4) = n := by
      rw [h1, leNat_leBytes]
      exact Nat.mod_eq_of_lt (Nat.lt_of_le_of_lt hn (by decide))
    have h := tk_low (l := P ++ (leBytes n 4 ++ r)) (a := P.length) (e := 0) (by rw [e2]; omega)
    rw [e2, h2, h3] at h
    rw [leBytes_length]
    exact h
  | true =>
    have e : lenB n true = leBytes 4294967295 4 ++ leBytes n 8 := by simp [lenB]
    rw [e, List.append_assoc]
    obtain ⟨h1, h2, h3⟩ := next_mid P (leBytes 4294967295 4) (leBytes n 8 ++ r)
    obtain ⟨k1, k2, k3⟩ := next_mid (P ++ leBytes 4294967295 4) (leBytes n 8) r
    rw [List.append_assoc, List.length_append] at k1 k2 k3
    rw [leBytes_length] at h1 h2 h3
    rw [leBytes_length, leBytes_length] at k1 k2 k3
    have e2 : leNat (nextGot (P ++ (leBytes 4294967295 4 ++ (leBytes n 8 ++ r))) P.length 0 4) = 4294967295 := by
      rw [h1, leNat_leBytes]
    have h := tk_wide (l := P ++ (leBytes 4294967295 4 ++ (leBytes n 8 ++ r))) (a := P.length) (e := 0) e2
    rw [h2, h3, k1, k2, k3, leNat_leBytes, Nat.mod_eq_of_lt (show n < 256 ^ 8 from Nat.lt_of_le_of_lt hn (by decide))] at h
    rw [List.length_append, leBytes_length, leBytes_length]
    exact ⟨h.1, h.2.1, by rw [h.2.2.1], h.2.2.2⟩
theorem bd_mid15 (P body r : List UInt8) (wide : Bool) (hn : body.length ≤ 1000000) :
    bdG (P ++ (lenB body.length wide ++ (body ++ r))) P.length 0 = body ∧ bdE (P ++ (lenB body.length wide ++ (body ++ r))) P.length 0 = 0 ∧ bdA (P ++ (lenB body.length wide ++ (body ++ r))) P.length 0 = P.length + (lenB body.length wide).length + body.length ∧ bdW (P ++ (lenB body.length wide ++ (body ++ r))) P.length 0 = wide := by
  obtain ⟨h1, h2, h3, h4⟩ := tk_mid15 P body.length wide (body ++ r) hn
  obtain ⟨k1, k2, k3⟩ := next_mid (P ++ lenB body.length wide) body r
  rw [List.append_assoc, List.length_append] at k1 k2 k3
  have e : bdE (P ++ (lenB body.length wide ++ (body ++ r))) P.length 0 = 0 := by unfold bdE; rw [h1, h3, h4, k3]
  refine ⟨?_, e, ?_, ?_⟩
  · unfold bdG; rw [h1, h3, h4, k1]
  · unfold bdA; rw [h1, h3, h4, k2]
  · unfold bdW; rw [e, h2]; simp

/-- How many bytes stand ahead of a unit's entries, as a number. -/
def sizN (h : UHd) : Nat := (lenB ((headU h).length + (sigU h).length) h.wide).length + (headU h).length + (sigU h).length
theorem lenB_len {n m : Nat} (wide : Bool) (hn : n ≤ 1000000) (hm : m ≤ 1000000) : (lenB n wide).length = (lenB m wide).length := by
  cases wide with
  | true => simp [lenB, leBytes_length]
  | false =>
    have key : ∀ k : Nat, k ≤ 1000000 → (lenB k false).length = 4 := fun k hk => by
      unfold lenB
      rw [if_neg (by decide), if_pos (by omega), leBytes_length]
    rw [key n hn, key m hm]
theorem sig_le (h : UHd) : (headU h).length + (sigU h).length ≤ 28 := by
  have := unitB_len h []
  simp only [unitB, List.append_nil, List.length_append, List.length_nil] at this
  omega
theorem putUB_len {h : UHd} (hr : rightU h = true) (b : List UInt8) (hb : b.length ≤ 900000) : (putUB h b).length = sizN h + b.length := by
  have h1 := unitB_len h b
  have h2 := sig_le h
  unfold putUB sizN
  rw [if_pos hr, List.length_append, lenB_len h.wide (m := (headU h).length + (sigU h).length) (by omega) (by omega)]
  simp only [unitB, List.length_append]
  omega
theorem sizN_eq {h : UHd} (hr : rightU h = true) : (sizN h : Int) = sizU h.kind h.wide := by
  obtain ⟨-, ko⟩ := kindB_nat hr
  have h1 := headU_len h
  have h2 := sigU_len h
  have h3 := sig_le h
  unfold sizN sizU
  rw [ko]
  simp only
  have hl : (lenB ((headU h).length + (sigU h).length) h.wide).length = if h.wide then 12 else 4 := by
    unfold lenB
    cases hw : h.wide with
    | true => simp [leBytes_length]
    | false =>
      rw [if_neg (by decide), if_pos (by omega)]
      simp [leBytes_length]
  rw [hl, h1, h2]
  cases hw : h.wide <;> (by_cases h2 : h.kind = 2 <;> simp [h2, offN, lenO])
/-- The head that is told of a unit that stands at a place. -/
def headAt (a : Nat) (y : UHd) (n : Nat) : UHd := ⟨y.kind, y.wide, y.ab, y.sig, y.ty, a, a + sizN y, a + sizN y + n⟩
theorem take_unit {h : UHd} (hr : rightU h = true) (hi : h.In) (P b r : List UInt8) (hb : b.length ≤ 900000) :
    tkX (P ++ (putUB h b ++ r)) P.length = 0 ∧ tkH (P ++ (putUB h b ++ r)) P.length = headAt P.length h b.length ∧ bdA (P ++ (putUB h b ++ r)) P.length 0 = P.length + (putUB h b).length := by
  have h1 := unitB_len h b
  have hlen := putUB_len hr b hb
  have e : putUB h b = lenB (unitB h b).length h.wide ++ unitB h b := by unfold putUB; rw [if_pos hr]
  obtain ⟨g1, g2, g3, g4⟩ := bd_mid15 P (unitB h b) r h.wide (by omega)
  rw [← List.append_assoc (lenB (unitB h b).length h.wide), ← e] at g1 g2 g3 g4
  have g3' : bdA (P ++ (putUB h b ++ r)) P.length 0 = P.length + (putUB h b).length := by
    rw [g3, e, List.length_append]; omega
  obtain ⟨n1, n2⟩ := num_unit hr hi b
  have hs : tkS (P ++ (putUB h b ++ r)) P.length = ((headU h).length + (sigU h).length, 0) := by rw [tkS, g1, g2, g4, n2]
  have hx : tkX (P ++ (putUB h b ++ r)) P.length = 0 := by rw [tkX, hs]
  have hl : tkL (P ++ (putUB h b ++ r)) P.length = b.length := by
    rw [tkL, g1, hs]
    simp only [leftOf, if_pos]
    simp only [unitB, List.length_append]
    omega
  refine ⟨hx, ?_, g3'⟩
  rw [tkH, g1, g2, g4, n1, hl, g3', hlen]
  simp only [headAt, UHd.mk.injEq, true_and]
  omega

/-- Units one behind the other; what is told of them. -/
def secB (L : List (UHd × List UInt8)) : List UInt8 := L.flatMap fun y => putUB y.1 y.2
def headsAt : Nat → List (UHd × List UInt8) → List UHd
  | _, [] => []
  | a, y :: L => headAt a y.1 y.2.length :: headsAt (a + (putUB y.1 y.2).length) L
structure UFit (y : UHd × List UInt8) : Prop where
  r : rightU y.1 = true
  i : y.1.In
  b : y.2.length ≤ 900000
theorem headsAt_len : ∀ (a : Nat) (L : List (UHd × List UInt8)), (headsAt a L).length = L.length
  | _, [] => rfl
  | a, y :: L => by rw [headsAt, List.length_cons, headsAt_len, List.length_cons]
theorem run_units (sec : List UInt8) : ∀ (L : List (UHd × List UInt8)) (n : Nat) (P : List UInt8) (M : List UHd), (∀ y ∈ L, UFit y) → L.length ≤ n → M.length + L.length ≤ 60 → sec = P ++ secB L →
    runU sec n ⟨P.length, 0, M⟩ = ⟨sec.length, 0, M ++ headsAt P.length L⟩
  | [], n, P, M, _, _, _, hs => by
    have e : sec.length = P.length := by rw [hs]; simp [secB]
    rw [runU_end (by simp [leftOf, e]), e, headsAt, List.append_nil]
  | y :: L, 0, P, M, _, hn, _, _ => by simp at hn
  | y :: L, n + 1, P, M, hf, hn, hm, hs => by
    have hy := hf y (List.mem_cons_self ..)
    have e : secB (y :: L) = putUB y.1 y.2 ++ secB L := rfl
    rw [e] at hs
    obtain ⟨t1, t2, t3⟩ := take_unit hy.r hy.i P y.2 (secB L) hy.b
    rw [← hs] at t1 t2 t3
    have hl := putUB_len hy.r y.2 hy.b
    have hz : 0 < sizN y.1 := by
      have := headU_len y.1
      unfold sizN
      omega
    have hlen : sec.length = P.length + (putUB y.1 y.2).length + (secB L).length := by rw [hs, List.length_append, List.length_append]; omega
    simp only [List.length_cons] at hn hm
    rw [runU, if_pos (by simp only [leftOf, if_pos]; omega)]
    have hst : stepU sec ⟨P.length, 0, M⟩ = ⟨(P ++ putUB y.1 y.2).length, 0, M ++ [headAt P.length y.1 y.2.length]⟩ := by
      rw [stepU, if_neg (by simp only; omega), t1, t2, t3, List.length_append]
    rw [hst, run_units sec L n (P ++ putUB y.1 y.2) (M ++ [headAt P.length y.1 y.2.length]) (fun z hz => hf z (List.mem_cons_of_mem _ hz)) (by omega) (by rw [List.length_append, List.length_singleton]; omega) (by rw [List.append_assoc]; exact hs)]
    rw [headsAt, List.length_append, List.append_assoc]
    rfl
/-- Units that are put one behind the other are all that there is. -/
theorem all_units {L : List (UHd × List UInt8)} (hf : ∀ y ∈ L, UFit y) (hl : L.length ≤ 60) : allE (secB L) = 0 ∧ allL (secB L) = headsAt 0 L := by
  have h := run_units (secB L) L 61 [] [] hf (by omega) (by simpa using hl) rfl
  simp only [List.length_nil, List.nil_append] at h
  have he : allE (secB L) = 0 := by rw [allE, finU, h]
  exact ⟨he, by rw [allL, if_pos he, finU, h]⟩

end Go.Proofs.YtelmfhpefnemfaaDoor
