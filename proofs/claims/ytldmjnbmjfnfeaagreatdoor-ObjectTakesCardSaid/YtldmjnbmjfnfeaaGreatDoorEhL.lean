/-
  A header's bytes, with others behind them, and with whatever where nothing is looked at: which header Take tells. No program is named here but what the chapters' words are in plain functions.
-/
import Derived.Test.YtldmjnbmjfnfeaaGreatDoorEhE
import Derived.Test.YtldmjnbmjfnfeaaGreatDoorEhG
import Derived.Test.YtldmjnbmjfnfeaaGreatDoorEhF
namespace Go.Proofs.YtldmjnbmjfnfeaaGreatDoor
open Go Go.RowKit

/-- A place of a header that is looked at. -/
def Looked (i : Nat) : Prop := ¬ (7 ≤ i ∧ i < 16) ∧ ¬ (24 ≤ i ∧ i < 40) ∧ ¬ (48 ≤ i ∧ i < 52) ∧ ¬ (54 ≤ i ∧ i < 56)
/-- The same bytes, wherever one is looked at. -/
def Alike (l l' : List UInt8) : Prop := l'.length = l.length ∧ ∀ i, Looked i → l'[i]? = l[i]?
theorem Alike.refl (l : List UInt8) : Alike l l := ⟨rfl, fun _ _ => rfl⟩
theorem Alike.set {l l' : List UInt8} (h : Alike l l') (i : Nat) (hi : ¬ Looked i) (b : UInt8) : Alike l (l'.set i b) :=
  ⟨by rw [List.length_set]; exact h.1, fun j hj => by
    rw [List.getElem?_set_ne (by rintro rfl; exact hi hj)]
    exact h.2 j hj⟩

theorem cutT_alike {l l' : List UInt8} (h : Alike l l') (f n : Nat) (hl : ∀ k, k < n → Looked (f + k)) : cutT l' f n = cutT l f n := by
  apply List.ext_getElem?
  intro k
  by_cases hk : k < n
  · rw [cutT_get _ _ _ _ hk, cutT_get _ _ _ _ hk]
    exact h.2 _ (hl k hk)
  · unfold cutT
    rw [List.getElem?_take, List.getElem?_take, if_neg hk, if_neg hk]

theorem headB_cuts (x0 x1 x2 x3 x4 : Nat) (r : List UInt8) :
    (magB ++ List.replicate 9 0 ++ itsB (itsT x0 x1 x2 x3 x4) ++ r).take 7 = magB ∧
    cutT (magB ++ List.replicate 9 0 ++ itsB (itsT x0 x1 x2 x3 x4) ++ r) 16 2 = leBytes x0 2 ∧ cutT (magB ++ List.replicate 9 0 ++ itsB (itsT x0 x1 x2 x3 x4) ++ r) 18 2 = leBytes x1 2 ∧
    cutT (magB ++ List.replicate 9 0 ++ itsB (itsT x0 x1 x2 x3 x4) ++ r) 20 4 = leBytes 1 4 ∧ cutT (magB ++ List.replicate 9 0 ++ itsB (itsT x0 x1 x2 x3 x4) ++ r) 40 8 = leBytes x2 8 ∧
    cutT (magB ++ List.replicate 9 0 ++ itsB (itsT x0 x1 x2 x3 x4) ++ r) 52 2 = leBytes 64 2 ∧ cutT (magB ++ List.replicate 9 0 ++ itsB (itsT x0 x1 x2 x3 x4) ++ r) 56 2 = leBytes 0 2 ∧
    cutT (magB ++ List.replicate 9 0 ++ itsB (itsT x0 x1 x2 x3 x4) ++ r) 58 2 = leBytes 64 2 ∧ cutT (magB ++ List.replicate 9 0 ++ itsB (itsT x0 x1 x2 x3 x4) ++ r) 60 2 = leBytes x3 2 ∧
    cutT (magB ++ List.replicate 9 0 ++ itsB (itsT x0 x1 x2 x3 x4) ++ r) 62 2 = leBytes x4 2 ∧
    (magB ++ List.replicate 9 0 ++ itsB (itsT x0 x1 x2 x3 x4) ++ r).length = 64 + r.length := by
  have h0 : ∃ a b, leBytes x0 2 = [a, b] := ⟨_, _, rfl⟩
  have h1 : ∃ a b, leBytes x1 2 = [a, b] := ⟨_, _, rfl⟩
  have h2 : ∃ a b c d e f g h, leBytes x2 8 = [a, b, c, d, e, f, g, h] := ⟨_, _, _, _, _, _, _, _, rfl⟩
  have h3 : ∃ a b, leBytes x3 2 = [a, b] := ⟨_, _, rfl⟩
  have h4 : ∃ a b, leBytes x4 2 = [a, b] := ⟨_, _, rfl⟩
  obtain ⟨a0, b0, h0⟩ := h0
  obtain ⟨a1, b1, h1⟩ := h1
  obtain ⟨a2, b2, c2, d2, e2, f2, g2, k2, h2⟩ := h2
  obtain ⟨a3, b3, h3⟩ := h3
  obtain ⟨a4, b4, h4⟩ := h4
  have e : itsB (itsT x0 x1 x2 x3 x4) = [a0, b0, a1, b1, 1, 0, 0, 0, 0, 0, 0, 0, 0, 0, 0, 0, 0, 0, 0, 0, 0, 0, 0, 0, a2, b2, c2, d2, e2, f2, g2, k2, 0, 0, 0, 0, 64, 0, 0, 0, 0, 0, 64, 0, a3, b3, a4, b4] := by
    simp only [itsB, itsT, List.flatMap_cons, List.flatMap_nil, h0, h1, h2, h3, h4]
    rfl
  rw [e, h0, h1, h2, h3, h4]
  refine ⟨rfl, rfl, rfl, rfl, rfl, rfl, rfl, rfl, rfl, rfl, ?_⟩
  simp [magB]
  omega

theorem wrapN_of {x : Int} {k : Nat} (h : x = (k : Int)) (hk : k < 65536) : wrapN x = k := by
  subst h
  unfold wrapN
  rw [IntKind.wrap_u64]
  omega

/-- What Take tells of a header that may be, whatever stands behind it, and where nothing is looked at. -/
theorem take_back {t m : Int} {o : Nat} {n s : Int} {r l' : List UInt8} (ho : o < two64) (hR : rightOf t m o n s (64 + r.length : Nat) = true) (h : Alike (headB t m o n s ++ r) l') :
    takeE l' = 0 ∧ takeH l' = hdV t m o n s ∧ l'.length = 64 + r.length := by
  obtain ⟨kt, ht, htk⟩ : ∃ k : Nat, t = (k : Int) ∧ k < 65536 := by
    have : t = 1 ∨ t = 2 := by simp [rightOf] at hR; omega
    exact ⟨t.toNat, by omega, by omega⟩
  obtain ⟨km, hm, hmk⟩ : ∃ k : Nat, m = (k : Int) ∧ k < 65536 := by
    have : m = 62 ∨ m = 183 := by simp [rightOf] at hR; omega
    exact ⟨m.toNat, by omega, by omega⟩
  obtain ⟨kn, hn, hnk⟩ : ∃ k : Nat, n = (k : Int) ∧ k < 65536 := by
    have : 1 ≤ n ∧ n ≤ 64 := by simp [rightOf] at hR; omega
    exact ⟨n.toNat, by omega, by omega⟩
  obtain ⟨ks, hs, hsk⟩ : ∃ k : Nat, s = (k : Int) ∧ k < 65536 := by
    have : 1 ≤ s ∧ s < 64 := by simp [rightOf] at hR; omega
    exact ⟨s.toNat, by omega, by omega⟩
  have e0 := wrapN_of ht htk
  have e1 := wrapN_of hm hmk
  have e3 := wrapN_of hn hnk
  have e4 := wrapN_of hs hsk
  unfold headB at h
  rw [e0, e1, e3, e4] at h
  obtain ⟨c7, c0, c1, c20, c2, c52, c56, c58, c3, c4, cl⟩ := headB_cuts kt km o kn ks r
  have hlen : l'.length = 64 + r.length := h.1.trans cl
  have lk : ∀ f k, (f = 16 ∧ k < 8 ∨ f = 40 ∧ k < 8 ∨ f = 52 ∧ k < 2 ∨ f = 56 ∧ k < 8) → Looked (f + k) := fun f k hk => by unfold Looked; omega
  have lk' : ∀ f k, (f = 18 ∧ k < 2 ∨ f = 20 ∧ k < 4 ∨ f = 58 ∧ k < 2 ∨ f = 60 ∧ k < 2 ∨ f = 62 ∧ k < 2) → Looked (f + k) := fun f k hk => by unfold Looked; omega
  have two : ∀ k : Nat, k < 65536 → leNat (leBytes k 2) = k := fun k hk => by
    rw [leNat_leBytes]
    have : (256 : Nat) ^ 2 = 65536 := rfl
    omega
  have n0 : numT l' 16 2 = kt := by unfold numT; rw [cutT_alike h 16 2 (fun k hk => lk 16 k (by omega)), c0, two _ htk]
  have n1 : numT l' 18 2 = km := by unfold numT; rw [cutT_alike h 18 2 (fun k hk => lk' 18 k (by omega)), c1, two _ hmk]
  have n20 : numT l' 20 4 = 1 := by unfold numT; rw [cutT_alike h 20 4 (fun k hk => lk' 20 k (by omega)), c20]; rfl
  have n2 : numT l' 40 8 = o := by
    unfold numT
    rw [cutT_alike h 40 8 (fun k hk => lk 40 k (by omega)), c2, leNat_leBytes]
    have : (256 : Nat) ^ 8 = two64 := rfl
    rw [this]
    exact Nat.mod_eq_of_lt ho
  have n52 : numT l' 52 2 = 64 := by unfold numT; rw [cutT_alike h 52 2 (fun k hk => lk 52 k (by omega)), c52]; rfl
  have n56 : numT l' 56 2 = 0 := by unfold numT; rw [cutT_alike h 56 2 (fun k hk => lk 56 k (by omega)), c56]; rfl
  have n58 : numT l' 58 2 = 64 := by unfold numT; rw [cutT_alike h 58 2 (fun k hk => lk' 58 k (by omega)), c58]; rfl
  have n3 : numT l' 60 2 = kn := by unfold numT; rw [cutT_alike h 60 2 (fun k hk => lk' 60 k (by omega)), c3, two _ hnk]
  have n4 : numT l' 62 2 = ks := by unfold numT; rw [cutT_alike h 62 2 (fun k hk => lk' 62 k (by omega)), c4, two _ hsk]
  have m7 : l'.take 7 = magB := by
    rw [← c7]
    have := cutT_alike h 0 7 (fun k hk => by unfold Looked; omega)
    simpa [cutT] using this
  have hf : fastT (l'.take 64) = true := by
    unfold fastT
    rw [numT_take l' 20 4 (by decide), numT_take l' 52 2 (by decide), numT_take l' 56 2 (by decide), numT_take l' 58 2 (by decide), n20, n52, n56, n58]
    rfl
  have hE : takeE l' = 0 := by
    unfold takeE
    rw [if_pos ⟨by omega, m7⟩, hf, numT_take l' 16 2 (by decide), numT_take l' 18 2 (by decide), numT_take l' 40 8 (by decide), numT_take l' 60 2 (by decide), numT_take l' 62 2 (by decide), n0, n1, n2, n3, n4, hlen, ← ht, ← hm, ← hn, ← hs, hR]
    rfl
  refine ⟨hE, ?_, hlen⟩
  unfold takeH hdrT
  rw [if_pos hE, numT_take l' 16 2 (by decide), numT_take l' 18 2 (by decide), numT_take l' 40 8 (by decide), numT_take l' 60 2 (by decide), numT_take l' 62 2 (by decide), n0, n1, n2, n3, n4, ← ht, ← hm, ← hn, ← hs]

end Go.Proofs.YtldmjnbmjfnfeaaGreatDoor
