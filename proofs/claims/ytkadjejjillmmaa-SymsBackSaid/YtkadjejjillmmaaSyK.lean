/-
  Symbols and relocations that are put are taken as they were: plain facts.
-/

import Derived.Test.YtkadjejjillmmaaSyQ
import Derived.Test.YtkadjejjillmmaaSyD
import Derived.Test.YtkadjejjillmmaaSyT
import Derived.Test.YtkadjejjillmmaaSyX
namespace Go.Proofs.Ytkadjejjillmmaa
open Go Go.RowKit

theorem num_at {A C : List UInt8} {x w f : Nat} (hf : A.length = f) : numT (A ++ (leBytes x w ++ C)) f w = x % 256 ^ w := by
  unfold numT cutT
  subst hf
  rw [List.drop_left]
  have : (leBytes x w ++ C).take w = leBytes x w := by
    conv => lhs; rw [show w = (leBytes x w).length from (leBytes_length x w).symm]
    rw [leBytes_length]
    exact List.take_left' (leBytes_length x w)
  rw [this, leNat_leBytes]

/-! ### The table -/
section
variable {L : List Sym} {k : Nat} {x : Sym}
theorem tabK_len : ∀ (k : Nat), k ≤ L.length → (tabK L k).length = 24 * k
  | 0, _ => rfl
  | k + 1, hk => by
    have hx : L[k]? = some (L[k]'(by omega)) := List.getElem?_eq_getElem _
    rw [tabK_next hx, List.length_append, tabK_len k (by omega)]
    simp [itsY, itsB]
    omega
theorem tabK_split (hx : L[k]? = some x) : ∀ (n : Nat), k < n → ∃ R, tabK L n = tabK L k ++ (itsB (itsY (addT (texK L k) x.name).2.1 x) ++ R)
  | 0, h => by omega
  | n + 1, h => by
    rcases Nat.lt_or_ge k n with h1 | h1
    · obtain ⟨R, hR⟩ := tabK_split hx n h1
      obtain ⟨Z, hZ⟩ : ∃ Z, tabK L (n + 1) = tabK L n ++ Z := ⟨_, rfl⟩
      rw [hZ, hR]
      exact ⟨R ++ Z, by simp only [List.append_assoc]⟩
    · obtain rfl : k = n := by omega
      rw [tabK_next hx]
      exact ⟨[], by rw [List.append_nil]⟩
theorem texK_find (hx : L[k]? = some x) (hr : rightT x.name = true) (hs : spanT (texK L k) ≤ 60000) : ∀ (n : Nat), k < n → n ≤ L.length → findT (texK L n) x.name = some (addT (texK L k) x.name).2.1
  | 0, h, _ => by omega
  | n + 1, h, hn => by
    rcases Nat.lt_or_ge k n with h1 | h1
    · have ih := texK_find hx hr hs n h1 (by omega)
      have hy : L[n]? = some (L[n]'(by omega)) := List.getElem?_eq_getElem _
      rw [texK_next hy]
      exact findT_keep ih _
    · obtain rfl : k = n := by omega
      rw [texK_next hx]
      exact (addT_ok hr hs).2.1
end
theorem atT_more {ps : List (List UInt8)} {t tail : List UInt8} {p : Nat} (hg : ∀ s ∈ ps, rightT s = true) (hf : findT ps t = some p) : atT (putsT ps ++ tail) p = (t, 0) := by
  have key : ∀ (l : List (List UInt8)) (q : Nat), (∀ s ∈ l, rightT s = true) → findT l t = some q → q < (putsT l ++ tail).length ∧ readT ((putsT l ++ tail).drop q) = (t, t.length + 1, 0) := by
    intro l
    induction l with
    | nil => intro q _ h; simp [findT] at h
    | cons s l ih =>
      intro q hr h
      have hs := hr s (by simp)
      have hps := (rightT_spec hs).2.2
      have hl : (putT s).length = s.length + 1 := by rw [hps]; simp
      have e0 : putsT (s :: l) ++ tail = putT s ++ (putsT l ++ tail) := by simp [putsT]
      rw [e0]
      unfold findT at h
      split at h
      · rename_i e
        injection h with h
        subst h e
        refine ⟨by rw [List.length_append, hl]; omega, ?_⟩
        rw [List.drop_zero]
        exact readT_put hs _
      · obtain ⟨q', hq, rfl⟩ := Option.map_eq_some_iff.1 h
        obtain ⟨h1, h2⟩ := ih q' (fun x hx => hr x (by simp [hx])) hq
        refine ⟨by rw [List.length_append, hl]; omega, ?_⟩
        have e : (putT s ++ (putsT l ++ tail)).drop (q' + (s.length + 1)) = (putsT l ++ tail).drop q' := by
          rw [← hl, Nat.add_comm, ← List.drop_drop, List.drop_left]
        rw [e]
        exact h2
  obtain ⟨h1, h2⟩ := key ps p hg hf
  unfold atT
  rw [if_pos h1, h2]

theorem wrapN_nat {t : Int} {n : Nat} (h : t = (n : Int)) (hn : n < two64) : wrapN t = n := by
  subst h
  unfold wrapN
  unfold two64 at hn
  rw [IntKind.wrap_u64]
  omega

theorem sym_back {L : List Sym} {tail : List UInt8} (hr : rightY L = true) (hs : sumN L ≤ 50000) (hn : ∀ x ∈ L, x.Nums) {k : Nat} {x : Sym} (hx : L[k]? = some x) :
    symK (tabK L L.length) (putsT (texK L L.length) ++ tail) k = x ∧ okK (tabK L L.length) (putsT (texK L L.length) ++ tail) k = true := by
  obtain ⟨hl4, hok⟩ := rightY_all hr
  have hk : k < L.length := (List.getElem?_eq_some_iff.1 hx).1
  have hm := List.mem_of_getElem? hx
  obtain ⟨hrt, ⟨hb0, hb1⟩, ⟨hk0, hk1⟩, hs0, hs1⟩ := okY_facts (hok x hm)
  obtain ⟨R, hR⟩ := tabK_split hx L.length hk
  have hspan : spanT (texK L k) ≤ 60000 := by
    have h1 := texK_span L k (by omega)
    have h2 := sumN_take L k
    omega
  have hfind := texK_find hx hrt hspan L.length hk (Nat.le_refl _)
  have hat := atT_more (tail := tail) (gat_good ((namesY L).take (L.length + 1))).1 hfind
  have hat' : atT (putsT (texK L L.length) ++ tail) (addT (texK L k) x.name).2.1 = (x.name, 0) := hat
  have hp := addT_at (gat_good ((namesY L).take (k + 1))) x.name
  have hp' : (addT (texK L k) x.name).2.1 < 65536 := hp
  have hA := tabK_len (L := L) k (by omega)
  have hNm := hn x hm
  have hval := hNm.value
  have hsiz := hNm.size
  unfold two64 at hval hsiz
  clear hat hp hfind hspan hNm
  generalize (addT (texK L k) x.name).2.1 = p at *
  obtain ⟨bi, hbi⟩ : ∃ n : Nat, x.bind = (n : Int) := ⟨x.bind.toNat, by omega⟩
  obtain ⟨ki, hki⟩ : ∃ n : Nat, x.kind = (n : Int) := ⟨x.kind.toNat, by omega⟩
  obtain ⟨se, hse⟩ : ∃ n : Nat, x.sect = (n : Int) := ⟨x.sect.toNat, by omega⟩
  have e1 : wrapN (x.bind * 16 + x.kind) = bi * 16 + ki := wrapN_nat (by omega) (by unfold two64; omega)
  have e2 : wrapN x.sect = se := wrapN_nat hse (by unfold two64; omega)
  have hI : itsB (itsY p x) ++ R = leBytes p 4 ++ (leBytes (bi * 16 + ki) 1 ++ (leBytes 0 1 ++ (leBytes se 2 ++ (leBytes x.value 8 ++ (leBytes x.size 8 ++ R))))) := by
    unfold itsY
    rw [e1, e2]
    simp only [itsB, List.flatMap_cons, List.flatMap_nil, List.append_nil, List.append_assoc]
  rw [hI] at hR
  have n0 : numT (tabK L L.length) (24 * k) 4 = p := by
    rw [hR, num_at hA]
    omega
  have n1 : numT (tabK L L.length) (24 * k + 4) 1 = bi * 16 + ki := by
    rw [hR, ← List.append_assoc, num_at (by rw [List.length_append, hA, leBytes_length])]
    omega
  have n3 : numT (tabK L L.length) (24 * k + 6) 2 = se := by
    rw [hR, ← List.append_assoc, ← List.append_assoc, ← List.append_assoc, num_at (by simp only [List.length_append, hA, leBytes_length])]
    omega
  have n4 : numT (tabK L L.length) (24 * k + 8) 8 = x.value := by
    rw [hR, ← List.append_assoc, ← List.append_assoc, ← List.append_assoc, ← List.append_assoc, num_at (by simp only [List.length_append, hA, leBytes_length])]
    omega
  have n5 : numT (tabK L L.length) (24 * k + 16) 8 = x.size := by
    rw [hR, ← List.append_assoc, ← List.append_assoc, ← List.append_assoc, ← List.append_assoc, ← List.append_assoc, num_at (by simp only [List.length_append, hA, leBytes_length])]
    omega
  constructor
  · unfold symK nameAt
    rw [n0, n1, n3, n4, n5, hat']
    rcases x with ⟨nm, b, kd, sc, va, sz⟩
    simp only at *
    subst hbi hki hse
    congr 1
    · omega
    · omega
  · unfold okK nameAt
    rw [n0, n3, hat']
    simp
    omega

theorem okTo_all {ok : Nat → Bool} {n : Nat} (h : ∀ k, k < n → ok k = true) : okTo ok n = true := by
  rw [okTo, List.all_eq_true]
  intro k hk
  exact h k (by simpa using hk)
theorem listTo_eq {α : Type} {f : Nat → α} {L : List α} (h : ∀ k x, L[k]? = some x → f k = x) : listTo f L.length = L := by
  apply List.ext_getElem?
  intro k
  unfold listTo
  rcases Nat.lt_or_ge k L.length with hk | hk
  · have hx : L[k]? = some (L[k]'hk) := List.getElem?_eq_getElem hk
    rw [hx, List.getElem?_map, List.getElem?_range hk]
    simp [h k _ hx]
  · rw [List.getElem?_eq_none hk, List.getElem?_eq_none (by simpa using hk)]

/-- Symbols that may be, put and taken. -/
theorem syms_back {L : List Sym} {tail : List UInt8} (hr : rightY L = true) (hs : sumN L ≤ 50000) (hn : ∀ x ∈ L, x.Nums) :
    takeEY (tabY L).length (okK (tabY L) (txtY L ++ tail)) 23 = 0 ∧ takeLY (tabY L).length (okK (tabY L) (txtY L ++ tail)) (symK (tabY L) (txtY L ++ tail)) = L := by
  obtain ⟨hl4, _⟩ := rightY_all hr
  unfold tabY txtY
  rw [hr]
  simp only
  have hlen := tabK_len (L := L) L.length (Nat.le_refl _)
  have hok : okTo (okK (tabK L L.length) (putsT (texK L L.length) ++ tail)) L.length = true := okTo_all fun k hk => (sym_back hr hs hn (List.getElem?_eq_getElem hk)).2
  exact ⟨takeEY_ok hlen hl4 hok, by rw [takeLY_ok hlen hl4 hok]; exact listTo_eq fun k x hx => (sym_back hr hs hn hx).1⟩

/-! ### Relocations -/
def goodR (x : Rel) : Bool := inTo x.sym 2147483647 && inTo x.kind 2147483647
section
variable {M : List Rel} {k : Nat} {x : Rel}
theorem relB_len : ∀ (k : Nat), k ≤ M.length → (relB M k).length = 24 * k
  | 0, _ => by simp [relB]
  | k + 1, hk => by
    have hx : M[k]? = some (M[k]'(by omega)) := List.getElem?_eq_getElem _
    rw [relB_next hx]
    simp only [List.length_append, leBytes_length, relB_len k (by omega)]
    omega
theorem relB_split (hx : M[k]? = some x) : ∀ (n : Nat), k < n → n ≤ M.length → ∃ R, relB M n = relB M k ++ (leBytes x.off 8 ++ (leBytes (wrapN x.kind) 4 ++ (leBytes (wrapN x.sym) 4 ++ (leBytes (wrapN x.add) 8 ++ R))))
  | 0, h, _ => by omega
  | n + 1, h, hn => by
    rcases Nat.lt_or_ge k n with h1 | h1
    · obtain ⟨R, hR⟩ := relB_split hx n h1 (by omega)
      have hy : M[n]? = some (M[n]'(by omega)) := List.getElem?_eq_getElem _
      rw [relB_next hy, hR]
      exact ⟨R ++ (leBytes (M[n]'(by omega)).off 8 ++ (leBytes (wrapN (M[n]'(by omega)).kind) 4 ++ (leBytes (wrapN (M[n]'(by omega)).sym) 4 ++ leBytes (wrapN (M[n]'(by omega)).add) 8))), by simp only [List.append_assoc]⟩
    · obtain rfl : k = n := by omega
      rw [relB_next hx]
      exact ⟨[], by simp only [List.append_assoc, List.append_nil]⟩
end
theorem rel_back {M : List Rel} (hg : ∀ x ∈ M, goodR x = true) (hn : ∀ x ∈ M, x.Nums) {k : Nat} {x : Rel} (hx : M[k]? = some x) : relK (relB M M.length) k = x ∧ okR (relB M M.length) k = true := by
  have hk : k < M.length := (List.getElem?_eq_some_iff.1 hx).1
  have hm := List.mem_of_getElem? hx
  have hgx := hg x hm
  unfold goodR inTo at hgx
  simp only [Bool.and_eq_true, decide_eq_true_eq] at hgx
  obtain ⟨⟨hs0, hs1⟩, hk0, hk1⟩ := hgx
  obtain ⟨R, hR⟩ := relB_split hx M.length hk (Nat.le_refl _)
  have hA := relB_len (M := M) k (by omega)
  have hNm := hn x hm
  have hof := hNm.off
  obtain ⟨ha0, ha1⟩ := hNm.add
  unfold two64 at hof
  obtain ⟨sy, hsy⟩ : ∃ n : Nat, x.sym = (n : Int) := ⟨x.sym.toNat, by omega⟩
  obtain ⟨ki, hki⟩ : ∃ n : Nat, x.kind = (n : Int) := ⟨x.kind.toNat, by omega⟩
  have e1 : wrapN x.kind = ki := wrapN_nat hki (by unfold two64; omega)
  have e2 : wrapN x.sym = sy := wrapN_nat hsy (by unfold two64; omega)
  rw [e1, e2] at hR
  have n0 : numT (relB M M.length) (24 * k) 8 = x.off := by
    rw [hR, num_at hA]
    omega
  have n1 : numT (relB M M.length) (24 * k + 8) 4 = ki := by
    rw [hR, ← List.append_assoc, num_at (by rw [List.length_append, hA, leBytes_length])]
    omega
  have n2 : numT (relB M M.length) (24 * k + 12) 4 = sy := by
    rw [hR, ← List.append_assoc, ← List.append_assoc, num_at (by simp only [List.length_append, hA, leBytes_length])]
    omega
  have n3 : numT (relB M M.length) (24 * k + 16) 8 = wrapN x.add := by
    rw [hR, ← List.append_assoc, ← List.append_assoc, ← List.append_assoc, num_at (by simp only [List.length_append, hA, leBytes_length])]
    have := wrapN_lt x.add; unfold two64 at this
    omega
  have e3 : IntKind.i64.wrap (wrapN x.add : Int) = x.add := by
    rw [← wrapN_eq, IntKind.wrap_u64, IntKind.wrap_i64]
    omega
  constructor
  · unfold relK
    rw [n0, n1, n2, n3, e3]
    rcases x with ⟨of, sm, kd, ad⟩
    simp only at *
    subst hsy hki
    rfl
  · unfold okR
    rw [n1, n2]
    simp
    omega

/-- Relocations whose numbers may be, put and taken. -/
theorem rels_back {M : List Rel} (hl : M.length ≤ 400) (hg : ∀ x ∈ M, goodR x = true) (hn : ∀ x ∈ M, x.Nums) :
    takeEY (relB M M.length).length (okR (relB M M.length)) 24 = 0 ∧ takeLY (relB M M.length).length (okR (relB M M.length)) (relK (relB M M.length)) = M := by
  have hlen := relB_len (M := M) M.length (Nat.le_refl _)
  have hok : okTo (okR (relB M M.length)) M.length = true := okTo_all fun k hk => (rel_back hg hn (List.getElem?_eq_getElem hk)).2
  exact ⟨takeEY_ok hlen hl hok, by rw [takeLY_ok hlen hl hok]; exact listTo_eq fun k x hx => (rel_back hg hn hx).1⟩

end Go.Proofs.Ytkadjejjillmmaa
