/-
  Objects that are put are taken as they were (plain facts): the file.
-/
import Derived.Test.YtldmjnbmjfnfeaaGreatDoorSyF
import Derived.Test.YtldmjnbmjfnfeaaGreatDoorSeR
import Derived.Test.YtldmjnbmjfnfeaaGreatDoorObB
import Derived.Deep.RegionHeldLaw
import Derived.Test.YtldmjnbmjfnfeaaGreatDoorSyP
import Derived.Test.YtldmjnbmjfnfeaaGreatDoorSeBd
import Derived.Test.YtldmjnbmjfnfeaaGreatDoorObV
namespace Go.Proofs.YtldmjnbmjfnfeaaGreatDoor
open Go Go.RowKit

/-- A symbol's, a relocation's numbers are what their types may be. -/
structure Sym.Nums (s : Sym) : Prop where
  bind : InI s.bind
  kind : InI s.kind
  sect : InI s.sect
  value : s.value < two64
  size : s.size < two64
structure Rel.Nums (s : Rel) : Prop where
  off : s.off < two64
  sym : InI s.sym
  kind : InI s.kind
  add : InI s.add
theorem name_sum {L : List Sym} {x : Sym} (h : x ∈ L) : x.name.length ≤ sumN L := by
  obtain ⟨i, hi, e⟩ := List.getElem_of_mem h
  have h1 := sumN_next (L := L) (k := i) (x := x) (by rw [← e]; exact List.getElem?_eq_getElem hi)
  have h2 := sumN_take L (i + 1)
  omega

end Go.Proofs.YtldmjnbmjfnfeaaGreatDoor

namespace Go.Proofs.YtldmjnbmjfnfeaaGreatDoor
open Go Go.RowKit

theorem num_at {A C : List UInt8} {x w f : Nat} (hf : A.length = f) : numT (A ++ (leBytes x w ++ C)) f w = x % 256 ^ w := by
  unfold numT cutT
  subst hf
  rw [List.drop_left]
  have : (leBytes x w ++ C).take w = leBytes x w := by
    conv => lhs; rw [show w = (leBytes x w).length from (leBytes_length x w).symm]
    rw [leBytes_length]
    exact List.take_left' (leBytes_length x w)
  rw [this, leNat_leBytes]

/-! ### The table -/
section
variable {L : List Sym} {k : Nat} {x : Sym}
theorem tabK_len : ∀ (k : Nat), k ≤ L.length → (tabK L k).length = 24 * k
  | 0, _ => rfl
  | k + 1, hk => by
    have hx : L[k]? = some (L[k]'(by omega)) := List.getElem?_eq_getElem _
    rw [tabK_next hx, List.length_append, tabK_len k (by omega)]
    simp [itsY, itsB]
    omega
theorem tabK_split (hx : L[k]? = some x) : ∀ (n : Nat), k < n → ∃ R, tabK L n = tabK L k ++ (itsB (itsY (addT (texK L k) x.name).2.1 x) ++ R)
  | 0, h => by omega
  | n + 1, h => by
    rcases Nat.lt_or_ge k n with h1 | h1
    · obtain ⟨R, hR⟩ := tabK_split hx n h1
      obtain ⟨Z, hZ⟩ : ∃ Z, tabK L (n + 1) = tabK L n ++ Z := ⟨_, rfl⟩
      rw [hZ, hR]
      exact ⟨R ++ Z, by simp only [List.append_assoc]⟩
    · obtain rfl : k = n := by omega
      rw [tabK_next hx]
      exact ⟨[], by rw [List.append_nil]⟩
theorem texK_find (hx : L[k]? = some x) (hr : rightT x.name = true) (hs : spanT (texK L k) ≤ 60000) : ∀ (n : Nat), k < n → n ≤ L.length → findT (texK L n) x.name = some (addT (texK L k) x.name).2.1
  | 0, h, _ => by omega
  | n + 1, h, hn => by
    rcases Nat.lt_or_ge k n with h1 | h1
    · have ih := texK_find hx hr hs n h1 (by omega)
      have hy : L[n]? = some (L[n]'(by omega)) := List.getElem?_eq_getElem _
      rw [texK_next hy]
      exact findT_keep ih _
    · obtain rfl : k = n := by omega
      rw [texK_next hx]
      exact (addT_ok hr hs).2.1
end
theorem atT_more {ps : List (List UInt8)} {t tail : List UInt8} {p : Nat} (hg : ∀ s ∈ ps, rightT s = true) (hf : findT ps t = some p) : atT (putsT ps ++ tail) p = (t, 0) := by
  have key : ∀ (l : List (List UInt8)) (q : Nat), (∀ s ∈ l, rightT s = true) → findT l t = some q → q < (putsT l ++ tail).length ∧ readT ((putsT l ++ tail).drop q) = (t, t.length + 1, 0) := by
    intro l
    induction l with
    | nil => intro q _ h; simp [findT] at h
    | cons s l ih =>
      intro q hr h
      have hs := hr s (by simp)
      have hps := (rightT_spec hs).2.2
      have hl : (putT s).length = s.length + 1 := by rw [hps]; simp
      have e0 : putsT (s :: l) ++ tail = putT s ++ (putsT l ++ tail) := by simp [putsT]
      rw [e0]
      unfold findT at h
      split at h
      · rename_i e
        injection h with h
        subst h e
        refine ⟨by rw [List.length_append, hl]; omega, ?_⟩
        rw [List.drop_zero]
        exact readT_put hs _
      · obtain ⟨q', hq, rfl⟩ := Option.map_eq_some_iff.1 h
        obtain ⟨h1, h2⟩ := ih q' (fun x hx => hr x (by simp [hx])) hq
        refine ⟨by rw [List.length_append, hl]; omega, ?_⟩
        have e : (putT s ++ (putsT l ++ tail)).drop (q' + (s.length + 1)) = (putsT l ++ tail).drop q' := by
          rw [← hl, Nat.add_comm, ← List.drop_drop, List.drop_left]
        rw [e]
        exact h2
  obtain ⟨h1, h2⟩ := key ps p hg hf
  unfold atT
  rw [if_pos h1, h2]

theorem wrapN_nat {t : Int} {n : Nat} (h : t = (n : Int)) (hn : n < two64) : wrapN t = n := by
  subst h
  unfold wrapN
  unfold two64 at hn
  rw [IntKind.wrap_u64]
  omega

theorem sym_back {L : List Sym} {tail : List UInt8} (hr : rightY L = true) (hs : sumN L ≤ 50000) (hn : ∀ x ∈ L, x.Nums) {k : Nat} {x : Sym} (hx : L[k]? = some x) :
    symK (tabK L L.length) (putsT (texK L L.length) ++ tail) k = x ∧ okK (tabK L L.length) (putsT (texK L L.length) ++ tail) k = true := by
  obtain ⟨hl4, hok⟩ := rightY_all hr
  have hk : k < L.length := (List.getElem?_eq_some_iff.1 hx).1
  have hm := List.mem_of_getElem? hx
  obtain ⟨hrt, ⟨hb0, hb1⟩, ⟨hk0, hk1⟩, hs0, hs1⟩ := okY_facts (hok x hm)
  obtain ⟨R, hR⟩ := tabK_split hx L.length hk
  have hspan : spanT (texK L k) ≤ 60000 := by
    have h1 := texK_span L k (by omega)
    have h2 := sumN_take L k
    omega
  have hfind := texK_find hx hrt hspan L.length hk (Nat.le_refl _)
  have hat := atT_more (tail := tail) (gat_good ((namesY L).take (L.length + 1))).1 hfind
  have hat' : atT (putsT (texK L L.length) ++ tail) (addT (texK L k) x.name).2.1 = (x.name, 0) := hat
  have hp := addT_at (gat_good ((namesY L).take (k + 1))) x.name
  have hp' : (addT (texK L k) x.name).2.1 < 65536 := hp
  have hA := tabK_len (L := L) k (by omega)
  have hNm := hn x hm
  have hval := hNm.value
  have hsiz := hNm.size
  unfold two64 at hval hsiz
  clear hat hp hfind hspan hNm
  generalize (addT (texK L k) x.name).2.1 = p at *
  obtain ⟨bi, hbi⟩ : ∃ n : Nat, x.bind = (n : Int) := ⟨x.bind.toNat, by omega⟩
  obtain ⟨ki, hki⟩ : ∃ n : Nat, x.kind = (n : Int) := ⟨x.kind.toNat, by omega⟩
  obtain ⟨se, hse⟩ : ∃ n : Nat, x.sect = (n : Int) := ⟨x.sect.toNat, by omega⟩
  have e1 : wrapN (x.bind * 16 + x.kind) = bi * 16 + ki := wrapN_nat (by omega) (by unfold two64; omega)
  have e2 : wrapN x.sect = se := wrapN_nat hse (by unfold two64; omega)
  have hI : itsB (itsY p x) ++ R = leBytes p 4 ++ (leBytes (bi * 16 + ki) 1 ++ (leBytes 0 1 ++ (leBytes se 2 ++ (leBytes x.value 8 ++ (leBytes x.size 8 ++ R))))) := by
    unfold itsY
    rw [e1, e2]
    simp only [itsB, List.flatMap_cons, List.flatMap_nil, List.append_nil, List.append_assoc]
  rw [hI] at hR
  have n0 : numT (tabK L L.length) (24 * k) 4 = p := by
    rw [hR, num_at hA]
    omega
  have n1 : numT (tabK L L.length) (24 * k + 4) 1 = bi * 16 + ki := by
    rw [hR, ← List.append_assoc, num_at (by rw [List.length_append, hA, leBytes_length])]
    omega
  have n3 : numT (tabK L L.length) (24 * k + 6) 2 = se := by
    rw [hR, ← List.append_assoc, ← List.append_assoc, ← List.append_assoc, num_at (by simp only [List.length_append, hA, leBytes_length])]
    omega
  have n4 : numT (tabK L L.length) (24 * k + 8) 8 = x.value := by
    rw [hR, ← List.append_assoc, ← List.append_assoc, ← List.append_assoc, ← List.append_assoc, num_at (by simp only [List.length_append, hA, leBytes_length])]
    omega
  have n5 : numT (tabK L L.length) (24 * k + 16) 8 = x.size := by
    rw [hR, ← List.append_assoc, ← List.append_assoc, ← List.append_assoc, ← List.append_assoc, ← List.append_assoc, num_at (by simp only [List.length_append, hA, leBytes_length])]
    omega
  constructor
  · unfold symK nameAt
    rw [n0, n1, n3, n4, n5, hat']
    rcases x with ⟨nm, b, kd, sc, va, sz⟩
    simp only at *
    subst hbi hki hse
    congr 1
    · omega
    · omega
  · unfold okK nameAt
    rw [n0, n3, hat']
    simp
    omega

theorem okTo_all {ok : Nat → Bool} {n : Nat} (h : ∀ k, k < n → ok k = true) : okTo ok n = true := by
  rw [okTo, List.all_eq_true]
  intro k hk
  exact h k (by simpa using hk)
theorem listTo_eq {α : Type} {f : Nat → α} {L : List α} (h : ∀ k x, L[k]? = some x → f k = x) : listTo f L.length = L := by
  apply List.ext_getElem?
  intro k
  unfold listTo
  rcases Nat.lt_or_ge k L.length with hk | hk
  · have hx : L[k]? = some (L[k]'hk) := List.getElem?_eq_getElem hk
    rw [hx, List.getElem?_map, List.getElem?_range hk]
    simp [h k _ hx]
  · rw [List.getElem?_eq_none hk, List.getElem?_eq_none (by simpa using hk)]

/-- Symbols that may be, put and taken. -/
theorem syms_back {L : List Sym} {tail : List UInt8} (hr : rightY L = true) (hs : sumN L ≤ 50000) (hn : ∀ x ∈ L, x.Nums) :
    takeEY (tabY L).length (okK (tabY L) (txtY L ++ tail)) 23 = 0 ∧ takeLY (tabY L).length (okK (tabY L) (txtY L ++ tail)) (symK (tabY L) (txtY L ++ tail)) = L := by
  obtain ⟨hl4, _⟩ := rightY_all hr
  unfold tabY txtY
  rw [hr]
  simp only
  have hlen := tabK_len (L := L) L.length (Nat.le_refl _)
  have hok : okTo (okK (tabK L L.length) (putsT (texK L L.length) ++ tail)) L.length = true := okTo_all fun k hk => (sym_back hr hs hn (List.getElem?_eq_getElem hk)).2
  exact ⟨takeEY_ok hlen hl4 hok, by rw [takeLY_ok hlen hl4 hok]; exact listTo_eq fun k x hx => (sym_back hr hs hn hx).1⟩

/-! ### Relocations -/
def goodR (x : Rel) : Bool := inTo x.sym 2147483647 && inTo x.kind 2147483647
section
variable {M : List Rel} {k : Nat} {x : Rel}
theorem relB_len : ∀ (k : Nat), k ≤ M.length → (relB M k).length = 24 * k
  | 0, _ => by simp [relB]
  | k + 1, hk => by
    have hx : M[k]? = some (M[k]'(by omega)) := List.getElem?_eq_getElem _
    rw [relB_next hx]
    simp only [List.length_append, leBytes_length, relB_len k (by omega)]
    omega
theorem relB_split (hx : M[k]? = some x) : ∀ (n : Nat), k < n → n ≤ M.length → ∃ R, relB M n = relB M k ++ (leBytes x.off 8 ++ (leBytes (wrapN x.kind) 4 ++ (leBytes (wrapN x.sym) 4 ++ (leBytes (wrapN x.add) 8 ++ R))))
  | 0, h, _ => by omega
  | n + 1, h, hn => by
    rcases Nat.lt_or_ge k n with h1 | h1
    · obtain ⟨R, hR⟩ := relB_split hx n h1 (by omega)
      have hy : M[n]? = some (M[n]'(by omega)) := List.getElem?_eq_getElem _
      rw [relB_next hy, hR]
      exact ⟨R ++ (leBytes (M[n]'(by omega)).off 8 ++ (leBytes (wrapN (M[n]'(by omega)).kind) 4 ++ (leBytes (wrapN (M[n]'(by omega)).sym) 4 ++ leBytes (wrapN (M[n]'(by omega)).add) 8))), by simp only [List.append_assoc]⟩
    · obtain rfl : k = n := by omega
      rw [relB_next hx]
      exact ⟨[], by simp only [List.append_assoc, List.append_nil]⟩
end
theorem rel_back {M : List Rel} (hg : ∀ x ∈ M, goodR x = true) (hn : ∀ x ∈ M, x.Nums) {k : Nat} {x : Rel} (hx : M[k]? = some x) : relK (relB M M.length) k = x ∧ okR (relB M M.length) k = true := by
  have hk : k < M.length := (List.getElem?_eq_some_iff.1 hx).1
  have hm := List.mem_of_getElem? hx
  have hgx := hg x hm
  unfold goodR inTo at hgx
  simp only [Bool.and_eq_true, decide_eq_true_eq] at hgx
  obtain ⟨⟨hs0, hs1⟩, hk0, hk1⟩ := hgx
  obtain ⟨R, hR⟩ := relB_split hx M.length hk (Nat.le_refl _)
  have hA := relB_len (M := M) k (by omega)
  have hNm := hn x hm
  have hof := hNm.off
  obtain ⟨ha0, ha1⟩ := hNm.add
  unfold two64 at hof
  obtain ⟨sy, hsy⟩ : ∃ n : Nat, x.sym = (n : Int) := ⟨x.sym.toNat, by omega⟩
  obtain ⟨ki, hki⟩ : ∃ n : Nat, x.kind = (n : Int) := ⟨x.kind.toNat, by omega⟩
  have e1 : wrapN x.kind = ki := wrapN_nat hki (by unfold two64; omega)
  have e2 : wrapN x.sym = sy := wrapN_nat hsy (by unfold two64; omega)
  rw [e1, e2] at hR
  have n0 : numT (relB M M.length) (24 * k) 8 = x.off := by
    rw [hR, num_at hA]
    omega
  have n1 : numT (relB M M.length) (24 * k + 8) 4 = ki := by
    rw [hR, ← List.append_assoc, num_at (by rw [List.length_append, hA, leBytes_length])]
    omega
  have n2 : numT (relB M M.length) (24 * k + 12) 4 = sy := by
    rw [hR, ← List.append_assoc, ← List.append_assoc, num_at (by simp only [List.length_append, hA, leBytes_length])]
    omega
  have n3 : numT (relB M M.length) (24 * k + 16) 8 = wrapN x.add := by
    rw [hR, ← List.append_assoc, ← List.append_assoc, ← List.append_assoc, num_at (by simp only [List.length_append, hA, leBytes_length])]
    have := wrapN_lt x.add; unfold two64 at this
    omega
  have e3 : IntKind.i64.wrap (wrapN x.add : Int) = x.add := by
    rw [← wrapN_eq, IntKind.wrap_u64, IntKind.wrap_i64]
    omega
  constructor
  · unfold relK
    rw [n0, n1, n2, n3, e3]
    rcases x with ⟨of, sm, kd, ad⟩
    simp only at *
    subst hsy hki
    rfl
  · unfold okR
    rw [n1, n2]
    simp
    omega

/-- Relocations whose numbers may be, put and taken. -/
theorem rels_back {M : List Rel} (hl : M.length ≤ 400) (hg : ∀ x ∈ M, goodR x = true) (hn : ∀ x ∈ M, x.Nums) :
    takeEY (relB M M.length).length (okR (relB M M.length)) 24 = 0 ∧ takeLY (relB M M.length).length (okR (relB M M.length)) (relK (relB M M.length)) = M := by
  have hlen := relB_len (M := M) M.length (Nat.le_refl _)
  have hok : okTo (okR (relB M M.length)) M.length = true := okTo_all fun k hk => (rel_back hg hn (List.getElem?_eq_getElem hk)).2
  exact ⟨takeEY_ok hlen hl hok, by rw [takeLY_ok hlen hl hok]; exact listTo_eq fun k x hx => (rel_back hg hn hx).1⟩

end Go.Proofs.YtldmjnbmjfnfeaaGreatDoor

namespace Go.Proofs.YtldmjnbmjfnfeaaGreatDoor
open Go Go.RowKit

theorem tabled_end (l : List Sect) (z : Sect) (t : List UInt8) : tabled (l ++ [z]) t = l ++ [{ z with data := t }] := by
  unfold tabled
  have h1 : (l ++ [z]).length - 1 = l.length := by simp
  have h2 : (l ++ [z])[l.length]? = some z := by simp
  rw [h1, h2]
  simp only
  apply List.ext_getElem?
  intro i
  by_cases hi : i < l.length
  · rw [List.getElem?_append_left hi, List.getElem?_set_ne (by omega), List.getElem?_append_left hi]
  · by_cases h3 : i = l.length
    · subst h3; simp
    · rw [List.getElem?_set_ne (by omega), List.getElem?_eq_none (by simp; omega), List.getElem?_eq_none (by simp; omega)]

/-! ### Runs of sections that are none of these -/
theorem place_run {S : List Sect} {a : Nat} : ∀ (b : Nat), a ≤ b → (∀ i s, a ≤ i → i < b → S[i]? = some s → s.kind ≠ 2) → placeK S b = placeK S a
  | 0, h, _ => by rw [show a = 0 by omega]
  | b + 1, h, hk => by
    rcases Nat.lt_or_ge b a with h1 | h1
    · rw [show a = b + 1 by omega]
    · have ih := place_run b h1 (fun i s h2 h3 => hk i s h2 (by omega))
      rcases hx : S[b]? with _ | x
      · simp [placeK, hx, ih]
      · rw [placeK_other hx (hk b x h1 (by omega) hx), ih]
theorem rel_run {S : List Sect} {p : Int} {n : Nat} : ∀ (b : Nat), b ≤ S.length → (∀ i s, i < b → S[i]? = some s → s.kind ≠ 9 ∧ s.kind ≠ 4) → relUp S p n b = 0 ∧ hadK S b = List.replicate S.length false ∧ relaK S b = List.replicate S.length []
  | 0, _, _ => ⟨rfl, rfl, rfl⟩
  | b + 1, hb, hk => by
    obtain ⟨h1, h2, h3⟩ := rel_run (S := S) (p := p) (n := n) b (by omega) (fun i s hi => hk i s (by omega))
    have hx : S[b]? = some (S[b]'(by omega)) := List.getElem?_eq_getElem _
    obtain ⟨k9, k4⟩ := hk b _ (by omega) hx
    obtain ⟨g1, g2, g3⟩ := rel_other hx h1 k9 k4
    exact ⟨g1, by rw [g2, h2], by rw [g3, h3]⟩

/-! ### The file's sections -/
section
variable {S : List Sect} {Y : List Sym} {R : List (List Rel)} {z : Sect}
theorem relF_mem {x : Sect} : ∀ k, x ∈ relF S R k → ∃ i s l, i < k ∧ S[i]? = some s ∧ R[i]? = some l ∧ l.length ≠ 0 ∧ x = relaS S.length i s.name l
  | 0, h => by cases h
  | k + 1, h => by
    rw [relF, List.mem_append] at h
    rcases h with h | h
    · obtain ⟨i, s, l, h1, h2⟩ := relF_mem k h
      exact ⟨i, s, l, by omega, h2⟩
    · rcases hs : S[k]? with _ | s
      · rw [hs] at h; cases h
      · rcases hl : R[k]? with _ | l
        · rw [hs, hl] at h; cases h
        · rw [hs, hl] at h
          simp only at h
          by_cases h0 : l.length = 0
          · rw [if_pos h0] at h; cases h
          · rw [if_neg h0] at h
            simp only [List.mem_cons, List.not_mem_nil, or_false] at h
            exact ⟨k, s, l, by omega, hs, hl, h0, h⟩
theorem relF_grows (k : Nat) : ∀ m, k ≤ m → relF S R k <+: relF S R m
  | 0, h => by rw [show k = 0 by omega]; exact List.prefix_refl _
  | m + 1, h => by
    rcases Nat.lt_or_ge m k with h1 | h1
    · rw [show k = m + 1 by omega]; exact List.prefix_refl _
    · exact (relF_grows k m h1).trans (List.prefix_append _ _)
/-- The sections of the file, with the section of names behind. -/
def backF (S : List Sect) (Y : List Sym) (R : List (List Rel)) (z : Sect) : List Sect := headF S Y ++ (relF S R R.length ++ [z])
theorem headF_none (h : Y.length = 0) : headF S Y = S := by unfold headF; rw [if_pos h, List.append_nil]
theorem headF_some (h : Y.length ≠ 0) : headF S Y = S ++ [symtabS S.length (tabY Y), strtabS (txtY Y)] := by unfold headF; rw [if_neg h]
theorem made_kinds (h : anyMade S = false) {i : Nat} {s : Sect} (hs : S[i]? = some s) : s.kind ≠ 2 ∧ s.kind ≠ 4 ∧ s.kind ≠ 9 := by
  unfold anyMade at h
  rw [List.any_eq_false] at h
  have := h s (List.mem_of_getElem? hs)
  unfold madeS at this
  simp only [Bool.or_eq_true, decide_eq_true_eq, not_or] at this
  exact ⟨this.1, this.2.1, this.2.2.1⟩
theorem back_low {i : Nat} (hi : i < S.length) : (backF S Y R z)[i]? = S[i]? := by
  unfold backF headF
  rw [List.getElem?_append_left (by rw [List.length_append]; omega), List.getElem?_append_left hi]
theorem back_high {i : Nat} : (backF S Y R z)[(headF S Y).length + i]? = (relF S R R.length ++ [z])[i]? := by
  unfold backF
  rw [List.getElem?_append_right (by omega), Nat.add_sub_cancel_left]
theorem back_sym (h : Y.length ≠ 0) : (backF S Y R z)[S.length]? = some (symtabS S.length (tabY Y)) ∧ (backF S Y R z)[S.length + 1]? = some (strtabS (txtY Y)) := by
  unfold backF
  rw [headF_some h]
  constructor
  · simp
  · simp
theorem back_length : (backF S Y R z).length = (headF S Y).length + (relF S R R.length).length + 1 := by
  unfold backF; simp; omega
/-- What stands behind the sections that were there. -/
theorem back_kind (hz : z.kind = 3) {i : Nat} {s : Sect} (hi : (headF S Y).length ≤ i) (hs : (backF S Y R z)[i]? = some s) : s.kind = 4 ∨ s.kind = 3 := by
  obtain ⟨j, rfl⟩ : ∃ j, i = (headF S Y).length + j := ⟨i - (headF S Y).length, by omega⟩
  rw [back_high] at hs
  have hm := List.mem_of_getElem? hs
  rw [List.mem_append] at hm
  rcases hm with hm | hm
  · obtain ⟨i, s', l, _, _, _, _, rfl⟩ := relF_mem _ hm
    exact .inl rfl
  · simp only [List.mem_cons, List.not_mem_nil, or_false] at hm
    subst hm
    exact .inr hz
/-- Where the symbols are. -/
theorem back_place (hI : anyMade S = false) (hz : z.kind = 3) : placeS (backF S Y R z) = if Y.length = 0 then -1 else (S.length : Int) := by
  have hlen := back_length (S := S) (Y := Y) (R := R) (z := z)
  have hlow : placeK (backF S Y R z) S.length = -1 := by
    rw [place_run (a := 0) S.length (by omega) (fun i s _ hi hs => by rw [back_low hi] at hs; exact (made_kinds hI hs).1)]
    rfl
  unfold placeS
  by_cases h : Y.length = 0
  · rw [if_pos h]
    have hh : (headF S Y).length = S.length := by rw [headF_none h]
    rw [place_run (a := S.length) _ (by omega) (fun i s h1 _ hs => by have := back_kind hz (by omega) hs; omega)]
    exact hlow
  · rw [if_neg h]
    obtain ⟨g1, g2⟩ := back_sym (S := S) (R := R) (z := z) h
    have hh : (headF S Y).length = S.length + 2 := by rw [headF_some h]; simp
    rw [place_run (a := S.length + 1) _ (by omega) (fun i s h1 _ hs => by
      by_cases h2 : i = S.length + 1
      · subst h2
        rw [g2] at hs
        injection hs with hs
        subst hs
        exact (by decide : (3 : Int) ≠ 2)
      · have := back_kind hz (by omega) hs; omega)]
    exact placeK_first g1 rfl hlow
theorem placedY_more {n m : Nat} (h : placedY Y n = true) (hm : n ≤ m) : placedY Y m = true := by
  unfold placedY at h ⊢
  simp only [Bool.not_eq_true'] at h ⊢
  rw [List.any_eq_false] at h ⊢
  intro x hx
  have := h x hx
  unfold farY at this ⊢
  simp only [Bool.and_eq_true, decide_eq_true_eq] at this ⊢
  omega
/-- The symbols. -/
theorem back_syms (hI : RightOb S Y R) (hz : z.kind = 3) (hs : sumN Y ≤ 50000) (hn : ∀ x ∈ Y, x.Nums) : symX (backF S Y R z) = 0 ∧ symY (backF S Y R z) = Y := by
  have hp := back_place (S := S) (Y := Y) (R := R) hI.made hz
  unfold symX symY
  rw [hp]
  by_cases h : Y.length = 0
  · rw [if_pos h, if_pos (by decide), if_pos (by decide)]
    exact ⟨rfl, (List.length_eq_zero_iff.1 h).symm⟩
  · rw [if_neg h, if_neg (by omega), if_neg (by omega), Int.toNat_natCast]
    obtain ⟨g1, g2⟩ := back_sym (S := S) (R := R) (z := z) h
    have g3 : (backF S Y R z)[(symtabS S.length (tabY Y)).link.toNat]? = some (strtabS (txtY Y)) := by
      rw [show (symtabS S.length (tabY Y)).link = ((S.length + 1 : Nat) : Int) from rfl, Int.toNat_natCast]
      exact g2
    obtain ⟨e1, e2⟩ := syms_there g1 g3 rfl
    obtain ⟨b1, b2⟩ := syms_back (tail := []) hI.syms hs hn
    rw [List.append_nil] at b1 b2
    have hpl : placedY Y (backF S Y R z).length = true := placedY_more hI.placed (by
      have := back_length (S := S) (Y := Y) (R := R) (z := z)
      rw [headF_some h] at this
      simp at this
      omega)
    obtain ⟨c1, c2⟩ := sym_in (n := (backF S Y R z).length) (d := tabY Y) (t := txtY Y) b1 (by rw [b2]; exact hpl)
    rw [e1, e2]
    exact ⟨c1, by rw [show (symtabS S.length (tabY Y)).data = tabY Y from rfl, show (strtabS (txtY Y)).data = txtY Y from rfl, c2, b2]⟩

/-! ### The relocations -/
def metL (R : List (List Rel)) (M k : Nat) : List Bool := (List.range M).map fun i => decide (i < k) && decide ((R[i]?.getD []).length ≠ 0)
def gotL (R : List (List Rel)) (M k : Nat) : List (List Rel) := (List.range M).map fun i => if i < k then R[i]?.getD [] else []
theorem metL_zero (M : Nat) : metL R M 0 = List.replicate M false := by
  apply List.ext_getElem
  · simp [metL]
  · intro i h1 h2
    simp [metL]
theorem gotL_zero (M : Nat) : gotL R M 0 = List.replicate M [] := by
  apply List.ext_getElem
  · simp [gotL]
  · intro i h1 h2
    simp [gotL]
theorem metL_none {M k : Nat} (h : (R[k]?.getD []).length = 0) : metL R M (k + 1) = metL R M k := by
  unfold metL
  apply List.map_congr_left
  intro i _
  by_cases hi : i = k
  · subst hi; simp [h]
  · rw [decide_eq_decide.2 (show i < k + 1 ↔ i < k by omega)]
theorem gotL_none {M k : Nat} (h : (R[k]?.getD []).length = 0) : gotL R M (k + 1) = gotL R M k := by
  unfold gotL
  apply List.map_congr_left
  intro i _
  by_cases hi : i = k
  · subst hi
    rw [if_pos (by omega), if_neg (by omega)]
    exact List.length_eq_zero_iff.1 h
  · by_cases h2 : i < k
    · rw [if_pos h2, if_pos (by omega)]
    · rw [if_neg h2, if_neg (by omega)]
theorem metL_get {M k i : Nat} (h : i < M) : (metL R M k)[i]? = some (decide (i < k) && decide ((R[i]?.getD []).length ≠ 0)) := by
  unfold metL
  rw [List.getElem?_map, List.getElem?_range h]
  rfl
theorem gotL_get {M k i : Nat} (h : i < M) : (gotL R M k)[i]? = some (if i < k then R[i]?.getD [] else []) := by
  unfold gotL
  rw [List.getElem?_map, List.getElem?_range h]
  rfl
theorem metL_length {M k : Nat} : (metL R M k).length = M := by simp [metL]
theorem gotL_length {M k : Nat} : (gotL R M k).length = M := by simp [gotL]
theorem metL_some {M k : Nat} (hk : k < M) (h : (R[k]?.getD []).length ≠ 0) : (metL R M k).set k true = metL R M (k + 1) := by
  apply List.ext_getElem?
  intro i
  rcases Nat.lt_or_ge i M with hi | hi
  · by_cases e : k = i
    · subst e
      rw [List.getElem?_set_self (by rw [metL_length]; exact hk), metL_get hi, decide_eq_true (show k < k + 1 by omega), decide_eq_true h]
      rfl
    · rw [List.getElem?_set_ne e, metL_get hi, metL_get hi, decide_eq_decide.2 (show i < k + 1 ↔ i < k by omega)]
  · rw [List.getElem?_eq_none (by rw [List.length_set, metL_length]; exact hi), List.getElem?_eq_none (by rw [metL_length]; exact hi)]
theorem gotL_some {M k : Nat} (hk : k < M) : (gotL R M k).set k (R[k]?.getD []) = gotL R M (k + 1) := by
  apply List.ext_getElem?
  intro i
  rcases Nat.lt_or_ge i M with hi | hi
  · by_cases e : k = i
    · subst e
      rw [List.getElem?_set_self (by rw [gotL_length]; exact hk), gotL_get hi, if_pos (by omega)]
    · rw [List.getElem?_set_ne e, gotL_get hi, gotL_get hi]
      by_cases h2 : i < k
      · rw [if_pos h2, if_pos (by omega)]
      · rw [if_neg h2, if_neg (by omega)]
  · rw [List.getElem?_eq_none (by rw [List.length_set, gotL_length]; exact hi), List.getElem?_eq_none (by rw [gotL_length]; exact hi)]
theorem metL_at {M k : Nat} (hk : k < M) : (metL R M k)[k]? = some false := by
  unfold metL
  rw [List.getElem?_map, List.getElem?_range hk]
  simp
theorem fit_rel {l : List Rel} {n : Nat} (h : fitR l n = true) : ∀ x ∈ l, 0 ≤ x.sym ∧ x.sym < (n : Int) ∧ 0 ≤ x.kind ∧ x.kind ≤ 2147483647 := by
  intro x hx
  unfold fitR at h
  simp only [Bool.not_eq_true'] at h
  rw [List.any_eq_false] at h
  have := h x hx
  unfold badF at this
  simp only [Bool.or_eq_true, decide_eq_true_eq, not_or] at this
  omega
theorem relsE_back {l : List Rel} {n : Nat} (hl : l.length ≤ 400) (hf : fitR l n = true) (hn400 : n ≤ 400) (hn : ∀ x ∈ l, x.Nums) : relsE n (relB l l.length) = 0 ∧ relsL (relB l l.length) = l := by
  obtain ⟨h1, h2⟩ := rels_back hl (fun x hx => by
    obtain ⟨a1, a2, a3, a4⟩ := fit_rel hf x hx
    unfold goodR inTo
    simp only [Bool.and_eq_true, decide_eq_true_eq]
    omega) hn
  exact ⟨by rw [relsE_fit h1, h2, hf]; rfl, h2⟩

theorem back_rels (hI : RightOb S Y R) (hz : z.kind = 3) (hn : ∀ l ∈ R, ∀ x ∈ l, x.Nums) (k : Nat) (hk : k ≤ R.length) :
    relUp (backF S Y R z) (placeS (backF S Y R z)) Y.length ((headF S Y).length + (relF S R k).length) = 0 ∧
    hadK (backF S Y R z) ((headF S Y).length + (relF S R k).length) = metL R (backF S Y R z).length k ∧
    relaK (backF S Y R z) ((headF S Y).length + (relF S R k).length) = gotL R (backF S Y R z).length k := by
  have hlen := back_length (S := S) (Y := Y) (R := R) (z := z)
  have hhl : S.length ≤ (headF S Y).length := by unfold headF; simp
  induction k with
  | zero =>
    rw [metL_zero, gotL_zero]
    refine rel_run _ (by rw [hlen]; simp [relF]; omega) (fun i s hi hs => ?_)
    simp only [relF, List.length_nil, Nat.add_zero] at hi
    by_cases h1 : i < S.length
    · rw [back_low h1] at hs
      have := made_kinds hI.made hs
      exact ⟨this.2.2, this.2.1⟩
    · by_cases h : Y.length = 0
      · rw [headF_none h] at hi; omega
      · have hh : (headF S Y).length = S.length + 2 := by rw [headF_some h]; simp
        obtain ⟨g1, g2⟩ := back_sym (S := S) (R := R) (z := z) h
        rcases Nat.lt_or_ge S.length i with h2 | h2
        · rw [show i = S.length + 1 by omega, g2] at hs
          injection hs with hs
          subst hs
          exact ⟨(by decide : (3 : Int) ≠ 9), (by decide : (3 : Int) ≠ 4)⟩
        · rw [show i = S.length by omega, g1] at hs
          injection hs with hs
          subst hs
          exact ⟨(by decide : (2 : Int) ≠ 9), (by decide : (2 : Int) ≠ 4)⟩
  | succ k ih =>
    obtain ⟨h1, h2, h3⟩ := ih (by omega)
    obtain ⟨l, hl⟩ : ∃ l, R[k]? = some l := ⟨R[k]'(by omega), List.getElem?_eq_getElem _⟩
    have hRn : R.length = S.length := by
      rcases hI.len with h | h
      · omega
      · exact h
    obtain ⟨s, hs⟩ : ∃ s, S[k]? = some s := ⟨S[k]'(by omega), List.getElem?_eq_getElem _⟩
    have hgd : R[k]?.getD [] = l := by rw [hl]; rfl
    by_cases h0 : l.length = 0
    · rw [relF_none hs hl h0, metL_none (by rw [hgd]; exact h0), gotL_none (by rw [hgd]; exact h0)]
      exact ⟨h1, h2, h3⟩
    · rw [relF_some hs hl h0, List.length_append, show ([relaS S.length k s.name l] : List Sect).length = 1 from rfl, ← Nat.add_assoc]
      have hpre : relF S R k ++ [relaS S.length k s.name l] <+: relF S R R.length := by
        rw [← relF_some hs hl h0]; exact relF_grows (k + 1) R.length (by omega)
      have hat : (backF S Y R z)[(headF S Y).length + (relF S R k).length]? = some (relaS S.length k s.name l) := by
        rw [back_high]
        obtain ⟨t, ht⟩ := hpre
        rw [← ht]
        simp
      have hkM : k < (backF S Y R z).length := by omega
      have hk0 : k ≠ 0 := fun e => by
        subst e
        have := hI.none_ (by omega)
        have h5 : R.headD [] = l := by
          cases R with
          | nil => cases hl
          | cons a t => simpa using hl
        rw [h5] at this
        exact h0 this
      obtain ⟨hf1, hf2⟩ := hI.fit (List.mem_of_getElem? hl)
      have hY : Y.length ≠ 0 := fun e => by
        rw [e] at hf2
        obtain ⟨x, hx⟩ : ∃ x, x ∈ l := ⟨l[0]'(by omega), List.getElem_mem _⟩
        have := fit_rel hf2 x hx
        omega
      have hp := back_place (S := S) (Y := Y) (R := R) hI.made hz
      rw [if_neg hY] at hp
      have hY4 := (rightY_all hI.syms).1
      obtain ⟨e1, e2⟩ := relsE_back hf1 hf2 hY4 (hn l (List.mem_of_getElem? hl))
      have hE : relE (backF S Y R z).length (placeS (backF S Y R z)) Y.length (hadK (backF S Y R z) ((headF S Y).length + (relF S R k).length)) (relaS S.length k s.name l) = 0 := by
        rw [relE_in rfl]
        · exact e1
        · rw [hp, h2, show (relaS S.length k s.name l).link = (S.length : Int) from rfl, show (relaS S.length k s.name l).inf = (k : Int) from rfl, Int.toNat_natCast, metL_at hkM]
          rintro (h | h | h | h | h)
          · omega
          · exact h rfl
          · omega
          · omega
          · cases h
      obtain ⟨g1, g2, g3⟩ := rel_four_next hat h1 rfl hE
      refine ⟨g1, ?_, ?_⟩
      · rw [g2, h2, show (relaS S.length k s.name l).inf = (k : Int) from rfl, Int.toNat_natCast, metL_some hkM (by rw [hgd]; exact h0)]
      · rw [g3, h3, show (relaS S.length k s.name l).inf = (k : Int) from rfl, Int.toNat_natCast, show (relaS S.length k s.name l).data = relB l l.length from rfl, e2, ← hgd, gotL_some hkM]

/-- What is taken of it. -/
theorem obj_back (hI : RightOb S Y R) (hz : z.kind = 3) (hs : sumN Y ≤ 50000) (hnY : ∀ x ∈ Y, x.Nums) (hnR : ∀ l ∈ R, ∀ x ∈ l, x.Nums) :
    objS (backF S Y R z) = 0 ∧ symY (backF S Y R z) = Y ∧ relaK (backF S Y R z) (backF S Y R z).length = (List.range (backF S Y R z).length).map fun i => R[i]?.getD [] := by
  obtain ⟨y1, y2⟩ := back_syms hI hz hs hnY
  obtain ⟨r1, r2, r3⟩ := back_rels hI hz hnR R.length (Nat.le_refl _)
  have hlen := back_length (S := S) (Y := Y) (R := R) (z := z)
  have hlast : (backF S Y R z)[(headF S Y).length + (relF S R R.length).length]? = some z := by
    rw [back_high]; simp
  obtain ⟨g1, g2, g3⟩ := rel_other hlast r1 (by omega) (by omega)
  rw [← hlen] at g1 g3
  have hp : placeS (backF S Y R z) ≠ -2 := by
    rw [back_place hI.made hz]
    split <;> omega
  refine ⟨?_, y2, ?_⟩
  · unfold objS
    rw [if_neg hp, y1, if_neg (by simp), y2]
    exact g1
  · rw [g3, r3]
    unfold gotL
    apply List.map_congr_left
    intro i _
    by_cases h : i < R.length
    · rw [if_pos h]
    · rw [if_neg h, List.getElem?_eq_none (by omega)]; rfl
end

end Go.Proofs.YtldmjnbmjfnfeaaGreatDoor

namespace Go.Proofs.YtldmjnbmjfnfeaaGreatDoor
open Go Go.RowKit

set_option maxRecDepth 4000 in
theorem put_take2 {kind machine : Int} {l : List Sect} {m : Nat} {z : Sect} (h : RightIs7 l m z) (hkm : (kind = 1 ∨ kind = 2) ∧ (machine = 62 ∨ machine = 183)) (hN : ∀ s ∈ l, s.flags < two64 ∧ s.addr < two64 ∧ s.data.length ≤ 12864) :
    secE (fileB kind machine l) = 0 ∧ (∃ o : Nat, secH (fileB kind machine l) = hdV kind machine o ((m + 1 : Nat) : Int) (m : Int)) ∧ secL (fileB kind machine l) = tabled l (putsT (gat (l.map (·.name))).1) ∧ (fileB kind machine l).length ≤ 1000000 := by
  obtain ⟨T, hT⟩ : ∃ T, putsT (gat (l.map (·.name))).1 = T := ⟨_, rfl⟩
  obtain ⟨ps, hps⟩ : ∃ ps, (gat (l.map (·.name))).2 = ps := ⟨_, rfl⟩
  have hnl : (l.map (·.name)).length = m + 1 := by rw [List.length_map, h.len]
  have hm1 := h.one
  have hm63 := h.most
  have hrn := right_names h
  have hTl : T.length ≤ 12864 := by
    have h1 := (gat_knows _ hrn (by omega)).2
    rw [← hT, spanT_puts (gat_good _).1]
    omega
  have hR := tabled_right h (t := T) (by omega)
  obtain ⟨ss, hss⟩ : ∃ ss, tabled l T = ss := ⟨_, rfl⟩
  rw [hss] at hR
  have hpl : ps.length = m + 1 := by rw [← hps, gat_count, hnl]
  have hnm : ss.map (·.name) = l.map (·.name) := by rw [← hss]; exact tabled_names T h.len h.last
  have hsd : ∀ s ∈ ss, s.data.length ≤ 12864 ∧ s.flags < two64 ∧ s.addr < two64 := by
    intro s hs
    obtain ⟨i, hi, e⟩ := List.getElem_of_mem hs
    have hs' : ss[i]? = some s := by rw [← e]; exact List.getElem?_eq_getElem hi
    rw [← hss, tabled_get h.len h.last] at hs'
    by_cases him : i = m
    · rw [if_pos him] at hs'
      injection hs' with hs'
      subst hs'
      have := hN z (List.mem_of_getElem? h.last)
      exact ⟨hTl, this.1, this.2.1⟩
    · rw [if_neg him] at hs'
      have := hN s (List.mem_of_getElem? hs')
      exact ⟨by omega, this.1, this.2.1⟩
  -- what is laid
  obtain ⟨Y, hY⟩ : ∃ Y, (layK ss ps m).1 = Y := ⟨_, rfl⟩
  obtain ⟨es, hes⟩ : ∃ es, (layK ss ps m).2 = es := ⟨_, rfl⟩
  have hYl : Y.length ≤ 64 + m * 12871 := by rw [← hY]; exact layK_size2 ss ps 12864 (fun s hs => (hsd s hs).1) m
  have hY64 : 64 ≤ Y.length := by rw [← hY]; exact layK_64 _ _ _
  have hel : es.length = m + 1 := by rw [← hes]; exact layK_all (by rw [hR.len]; omega) (by omega)
  have het : ∀ e ∈ es, e.length = 10 := by rw [← hes]; exact layK_tens _ _ _
  have hlaid : laidS l = (padB Y, es) := by
    unfold laidS
    simp only
    rw [hT, hps, hss, h.len, Nat.add_sub_cancel, hY, hes]
  obtain ⟨bb, hbb⟩ : ∃ bb, padB Y = bb := ⟨_, rfl⟩
  have hbbl : bb.length = Y.length + padN Y.length := by rw [← hbb, padB_length]
  have hpad := padN_lt Y.length
  have hebl : (entsB es).length = 64 * (m + 1) := by rw [entsB_length es het, hel]
  obtain ⟨X, hX⟩ : ∃ X, bb ++ entsB es = X := ⟨_, rfl⟩
  have hXl : X.length = bb.length + 64 * (m + 1) := by rw [← hX, List.length_append, hebl]
  obtain ⟨B, hB⟩ : ∃ B, headB kind machine bb.length ((m + 1 : Nat) : Int) (m : Int) ++ X.drop 64 = B := ⟨_, rfl⟩
  have hfile : fileB kind machine l = B := by
    unfold fileB
    rw [hlaid]
    simp only
    rw [hbb, hX, h.len, Nat.add_sub_cancel, hB]
  have hBX : ∀ q, 64 ≤ q → B.drop q = X.drop q := fun q hq => by rw [← hB]; exact file_drop _ _ (headB_length _ _ _ _ _) q hq
  have hYX : X = Y ++ (List.replicate (padN Y.length) 0 ++ entsB es) := by rw [← hX, ← hbb]; unfold padB; rw [List.append_assoc]
  -- the header
  have hr : (X.drop 64).length = X.length - 64 := List.length_drop
  have hto : (64 + (X.drop 64).length : Nat) = X.length := by omega
  have hRO : rightOf kind machine bb.length ((m + 1 : Nat) : Int) (m : Int) (64 + (X.drop 64).length : Nat) = true := by
    rw [hto, hXl]
    unfold rightOf
    rw [decide_eq_true hkm.1, decide_eq_true hkm.2, decide_eq_true (show 1 ≤ ((m + 1 : Nat) : Int) ∧ ((m + 1 : Nat) : Int) ≤ 64 by omega), decide_eq_true (show 1 ≤ (m : Int) ∧ (m : Int) < ((m + 1 : Nat) : Int) by omega), decide_eq_true (show (0 : Int) ≤ ((bb.length + 64 * (m + 1) : Nat) : Int) ∧ (bb.length : Int) + ((m + 1 : Nat) : Int) * 64 ≤ ((bb.length + 64 * (m + 1) : Nat) : Int) by omega)]
    rfl
  obtain ⟨hTE, hTH, hBl⟩ := take_back (t := kind) (m := machine) (o := bb.length) (n := ((m + 1 : Nat) : Int)) (s := (m : Int)) (r := X.drop 64) (l' := B) (by unfold two64; omega) hRO (by rw [hB]; exact Alike.refl _)
  rw [hto] at hBl
  obtain ⟨_, _, _, _, _, _, _, hTF⟩ := take_facts hTE
  rw [hTH] at hTF
  have hinj : bb.length = offT B ∧ m + 1 = cntT B ∧ m = shsT B := by
    have h1 : [Value.int .i64 kind, .int .i64 machine, .int .u64 (bb.length : Int), .int .i64 ((m + 1 : Nat) : Int), .int .i64 (m : Int)] = [Value.int .i64 (numT (B.take 64) 16 2 : Int), .int .i64 (numT (B.take 64) 18 2 : Int), .int .u64 (offT B : Int), .int .i64 (cntT B : Int), .int .i64 (shsT B : Int)] := by
      have := Value.agg.inj hTF
      exact congrArg Array.toList this
    simp only [List.cons.injEq, Value.int.injEq, true_and, and_true] at h1
    omega
  obtain ⟨hof, hcn, hsh⟩ := hinj
  have hbig : ¬ 1048576 < B.length := by rw [hBl, hXl, hbbl]; omega
  rw [hfile]
  -- entry by entry
  have hcut : ∀ (i : Nat) (e : List Nat), es[i]? = some e → (B.drop (bb.length + 64 * i)).take 64 = entB e := fun i e he => by
    rw [hBX _ (by omega), ← hX, List.drop_append, List.drop_eq_nil_of_le (by omega), List.nil_append, Nat.add_sub_cancel_left]
    exact entsB_cut het he
  have key : ∀ (i : Nat) (s : Sect), ss[i + 1]? = some s → ∃ e, es[i + 1]? = some e ∧ entN B (bb.length + 64 * (i + 1)) = e ∧ entE e B.length = 0 ∧ dataT B e = s.data ∧ kindN e = wrapN s.kind ∧ (atT T (nameN e)).2 = 0 ∧ sectT B T e = s := fun i s hs => by
    have him : i + 1 ≤ m := by have := (List.getElem?_eq_some_iff.1 hs).1; rw [hR.len] at this; omega
    have hn : (l.map (·.name))[i + 1]? = some s.name := by rw [← hnm, List.getElem?_map, hs]; rfl
    obtain ⟨p, hp, hat, hpb⟩ := gat_names _ hrn (by omega) hn
    rw [hps] at hp
    rw [hT] at hat
    obtain ⟨h1, h2⟩ := layK_at hs hp him (by rw [hR.len]; omega) (by omega)
    rw [hes] at h1
    rw [hY] at h2
    have hq64 : 64 ≤ (padB (layK ss ps i).1).length := by rw [padB_length]; have := layK_64 ss ps i; omega
    have hqY : (padB (layK ss ps i).1).length ≤ Y.length := by
      have := h2.length_le
      rw [List.length_append] at this
      omega
    obtain ⟨hd1, hd2, hd3⟩ := hsd s (List.mem_of_getElem? hs)
    have hin : s.kind ≠ 8 → (padB (layK ss ps i).1).length + s.data.length ≤ B.length ∧ (B.drop (padB (layK ss ps i).1).length).take s.data.length = s.data := fun h8 => by
      rw [if_neg h8] at h2
      have hc := cut_prefix h2 (List.replicate (padN Y.length) 0 ++ entsB es)
      rw [← hYX] at hc
      rw [hBX _ hq64]
      exact ⟨by rw [hBl, hXl, hbbl]; omega, hc.1⟩
    obtain ⟨f1, f2, f3, f4, f5⟩ := ent_facts (hR.ok (i + 1) s (by omega) hs) hd2 hd3 (p := p) (q := (padB (layK ss ps i).1).length) (by omega) (by unfold two64; omega) hin
    exact ⟨_, h1, entN_of (hcut _ _ h1) f1, f2, f3, f4, by show (atT T p).2 = 0; rw [hat], f5 T hat⟩
  have h0 : entN B bb.length = List.replicate 10 0 := by
    have h1 := layK_first ss ps m
    rw [hes] at h1
    have := entN_of (hcut 0 _ h1) zeros_enc
    rwa [Nat.mul_zero, Nat.add_zero] at this
  have hent : ∀ k, k < m + 1 → entE (entN B (bb.length + 64 * k)) B.length = 0 := fun k hk => by
    rcases k with _ | k
    · rw [Nat.mul_zero, Nat.add_zero, h0]; rfl
    · obtain ⟨e, _, g1, g2, _⟩ := key k _ (List.getElem?_eq_getElem (show k + 1 < ss.length by rw [hR.len]; omega))
      rw [g1]; exact g2
  have hERR : errUp B (offT B) (cntT B) = 0 := by rw [← hof, ← hcn]; exact errUp_zero hent
  obtain ⟨m', rfl⟩ : ∃ m', m = m' + 1 := ⟨m - 1, by omega⟩
  obtain ⟨el, _, gl1, gl2, gl3, gl4, _, _⟩ := key m' _ hR.last
  have hTB : tblT B bb.length (m' + 1) = T := by unfold tblT; rw [gl1]; exact gl3
  have hgz := gat_zero (ns := l.map (·.name)) (by rw [List.getElem?_map, h.first]; rfl) hrn (by omega)
  rw [hT] at hgz
  have hTL : tellE B (offT B) (cntT B) (shsT B) = 0 := by
    rw [← hof, ← hcn, ← hsh]
    unfold tellE
    rw [hTB, if_pos]
    refine ⟨h0, by rw [gl1, gl4]; show wrapN z.kind = 3; rw [h.kind]; rfl, fun i hi => ?_⟩
    rcases i with _ | i
    · rw [Nat.mul_zero, Nat.add_zero, h0]
      show (atT T 0).2 = 0
      rw [hgz.2]
    · obtain ⟨e, _, g1, _, _, _, g5, _⟩ := key i _ (List.getElem?_eq_getElem (show i + 1 < ss.length by rw [hR.len]; omega))
      rw [g1]; exact g5
  have hSE : secE B = 0 := by rw [secE_tell hbig hTE hERR]; exact hTL
  refine ⟨hSE, ⟨bb.length, by unfold secH; rw [if_pos hSE]; exact hTH⟩, ?_, by rw [hBl, hXl, hbbl]; omega⟩
  unfold secL
  rw [if_pos hSE, ← hof, ← hcn, ← hsh, hT, hss]
  apply List.ext_getElem?
  intro i
  by_cases hi : i < m' + 1 + 1
  · have e : (secsT B bb.length (m' + 1 + 1) (m' + 1))[i]? = some (sectT B T (entN B (bb.length + 64 * i))) := by
      unfold secsT
      rw [hTB]
      simp [hi]
    rw [e]
    rcases i with _ | i
    · rw [Nat.mul_zero, Nat.add_zero, h0, hR.first]
      have : sectT B T (List.replicate 10 0) = ⟨(atT T 0).1, 0, 0, 0, [], 0, 0, 0, 0⟩ := rfl
      rw [this, hgz.2]
      rfl
    · have hs : ss[i + 1]? = some (ss[i + 1]'(by rw [hR.len]; omega)) := List.getElem?_eq_getElem _
      obtain ⟨e, _, g1, _, _, _, _, g6⟩ := key i _ hs
      rw [g1, g6, hs]
  · rw [List.getElem?_eq_none (by simp [secsT]; omega), List.getElem?_eq_none (by rw [hR.len]; omega)]

theorem txtY_small {Y : List Sym} (h : rightY Y = true) (hs : sumN Y ≤ 6000) : (txtY Y).length ≤ 12000 := by
  have h1 := texK_span Y Y.length (Nat.le_refl _)
  have h2 := (rightY_all h).1
  have h3 := sumN_take Y Y.length
  unfold txtY
  rw [h]
  show (putsT (texK Y Y.length)).length ≤ _
  rw [(show (putsT (texK Y Y.length)).length = spanT (texK Y Y.length) from spanT_puts (texK_good Y Y.length).1)]
  omega
section
variable {S : List Sect} {Y : List Sym} {R : List (List Rel)} {kd mc : Int}
theorem file_small (hI : RightOb S Y R) (hs : sumN Y ≤ 6000) (hS : ∀ s ∈ S, s.flags < two64 ∧ s.addr < two64 ∧ s.data.length ≤ 6000) : ∀ s ∈ fileO S Y R, s.flags < two64 ∧ s.addr < two64 ∧ s.data.length ≤ 12864 := by
  have h0 : (0 : Nat) < two64 := by decide
  intro s hm
  unfold fileO at hm
  rw [List.mem_append, List.mem_append] at hm
  rcases hm with hm | hm | hm
  · unfold headF at hm
    rw [List.mem_append] at hm
    rcases hm with hm | hm
    · obtain ⟨h1, h2, h3⟩ := hS s hm
      exact ⟨h1, h2, by omega⟩
    · by_cases h : Y.length = 0
      · rw [if_pos h] at hm; cases hm
      · rw [if_neg h] at hm
        simp only [List.mem_cons, List.not_mem_nil, or_false] at hm
        rcases hm with rfl | rfl
        · exact ⟨h0, h0, by have := tabY_size hI.syms; show (tabY Y).length ≤ _; omega⟩
        · exact ⟨h0, h0, by have := txtY_small hI.syms hs; show (txtY Y).length ≤ _; omega⟩
  · obtain ⟨i, s', l, _, _, hl, _, rfl⟩ := relF_mem _ hm
    have h1 := (hI.fit (List.mem_of_getElem? hl)).1
    exact ⟨h0, h0, by have := relB_length l l.length; show (relB l l.length).length ≤ _; omega⟩
  · simp only [List.mem_cons, List.not_mem_nil, or_false] at hm
    subst hm
    exact ⟨h0, h0, by decide⟩
/-- The file of an object that may be put, taken. -/
theorem file_back (hr : rightO S Y R = true) (hm : mayPut kd mc (fileO S Y R) = true) (hs : sumN Y ≤ 6000) (hS : ∀ s ∈ S, s.flags < two64 ∧ s.addr < two64 ∧ s.data.length ≤ 6000) (hnY : ∀ x ∈ Y, x.Nums) (hnR : ∀ l ∈ R, ∀ x ∈ l, x.Nums) :
    ∃ z : Sect, z.kind = 3 ∧ objE (fileB kd mc (fileO S Y R)) = 0 ∧ kindT (fileB kd mc (fileO S Y R)) = kd ∧ machT (fileB kd mc (fileO S Y R)) = mc ∧ secL (fileB kd mc (fileO S Y R)) = backF S Y R z ∧
      symY (backF S Y R z) = Y ∧ relaK (backF S Y R z) (backF S Y R z).length = ((List.range (backF S Y R z).length).map fun i => R[i]?.getD []) ∧ (fileB kd mc (fileO S Y R)).length ≤ 1000000 := by
  have hI := right_iso hr
  have hm2 := hm
  unfold mayPut at hm2
  simp only [Bool.and_eq_true, decide_eq_true_eq] at hm2
  obtain ⟨m, z0, h7⟩ := right_is hm2.1
  obtain ⟨t1, ⟨o, t2⟩, t3, t4⟩ := put_take2 h7 hm2.2 (file_small hI hs hS)
  obtain ⟨T, hT⟩ : ∃ T, putsT (gat ((fileO S Y R).map (·.name))).1 = T := ⟨_, rfl⟩
  rw [hT] at t3
  have hF : fileO S Y R = (headF S Y ++ relF S R R.length) ++ [tabS] := by unfold fileO; rw [List.append_assoc]
  rw [show tabled (fileO S Y R) T = backF S Y R { tabS with data := T } from by rw [hF, tabled_end]; unfold backF; rw [List.append_assoc]] at t3
  generalize fileB kd mc (fileO S Y R) = b at *
  obtain ⟨b1, b2, b3⟩ := obj_back (z := { tabS with data := T }) hI rfl (Nat.le_trans hs (by decide)) hnY hnR
  have hk : kindT b = kd ∧ machT b = mc := by
    rcases secL_is b with ⟨_, _, _, _, hh⟩ | ⟨h, _⟩
    · rw [t2] at hh
      have h1 : [Value.int .i64 kd, Value.int .i64 mc, Value.int .u64 (o : Int), Value.int .i64 ((m + 1 : Nat) : Int), Value.int .i64 (m : Int)] = [Value.int .i64 (kindT b), Value.int .i64 (machT b), Value.int .u64 (offT b : Int), Value.int .i64 (cntT b : Int), Value.int .i64 (shsT b : Int)] := by
        have := Value.agg.inj hh
        exact congrArg Array.toList this
      simp only [List.cons.injEq, Value.int.injEq, true_and, and_true] at h1
      exact ⟨h1.1.symm, h1.2.1.symm⟩
    · exact absurd t1 h
  exact ⟨_, rfl, by unfold objE; rw [if_neg (by simp [t1]), t3]; exact b1, hk.1, hk.2, t3, b2, b3, t4⟩
end

end Go.Proofs.YtldmjnbmjfnfeaaGreatDoor
