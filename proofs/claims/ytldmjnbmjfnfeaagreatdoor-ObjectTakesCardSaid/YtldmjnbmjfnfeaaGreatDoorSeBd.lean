/-
  Sections that are put are taken as they were (plain facts): the theorem.
-/
import Derived.Test.YtldmjnbmjfnfeaaGreatDoorStC
namespace Go.Proofs.YtldmjnbmjfnfeaaGreatDoor
open Go Go.RowKit

/-! ### An entry's bytes, read -/
theorem itsB_split (its : List (Nat × Nat)) (j x s : Nat) (h : its[j]? = some (x, s)) : itsB its = itsB (its.take j) ++ (leBytes x s ++ itsB (its.drop (j + 1))) := by
  have e : its = its.take j ++ ((x, s) :: its.drop (j + 1)) := by
    obtain ⟨hj, e⟩ := List.getElem?_eq_some_iff.1 h
    rw [← e, List.getElem_cons_drop, List.take_append_drop]
  conv => lhs; rw [e]
  simp [itsB]
theorem entB_num (ns : List Nat) (hl : ns.length = 10) (j x f s : Nat) (hx : ns[j]? = some x) (hf : offsN[j]? = some f) (hs : sizesN[j]? = some s) (hb : x < 256 ^ s) : numT (entB ns) f s = x := by
  have hz : (ns.zip sizesN)[j]? = some (x, s) := by rw [List.getElem?_zip_eq_some]; exact ⟨hx, hs⟩
  have h1 := itsB_split _ _ _ _ hz
  have h2 : (itsB ((ns.zip sizesN).take j)).length = f := by
    have hj : j < 10 := (List.getElem?_eq_some_iff.1 hf).1
    match ns, hl with
    | [a0, a1, a2, a3, a4, a5, a6, a7, a8, a9], _ =>
      have h10 : j = 0 ∨ j = 1 ∨ j = 2 ∨ j = 3 ∨ j = 4 ∨ j = 5 ∨ j = 6 ∨ j = 7 ∨ j = 8 ∨ j = 9 := by omega
      rcases h10 with rfl | rfl | rfl | rfl | rfl | rfl | rfl | rfl | rfl | rfl <;> (injection hf)
  unfold numT cutT entB
  rw [h1, ← h2, List.drop_left, List.take_left' (leBytes_length x s), leNat_leBytes, Nat.mod_eq_of_lt hb]

def Enc (ns : List Nat) : Prop := ns.length = 10 ∧ ∀ (j x s : Nat), ns[j]? = some x → sizesN[j]? = some s → x < 256 ^ s
theorem entN_of {l : List UInt8} {o : Nat} {ns : List Nat} (h : (l.drop o).take 64 = entB ns) (hE : Enc ns) : entN l o = ns := by
  apply List.ext_getElem?
  intro j
  by_cases hj : j < 10
  · have hf : offsN[j]? = some (offsN[j]'(by show j < 10; exact hj)) := List.getElem?_eq_getElem _
    have hs : sizesN[j]? = some (sizesN[j]'(by show j < 10; exact hj)) := List.getElem?_eq_getElem _
    have hx : ns[j]? = some (ns[j]'(by rw [hE.1]; exact hj)) := List.getElem?_eq_getElem _
    rw [entN_at l o j _ _ hf hs, hx]
    have h1 := entB_num ns hE.1 j _ _ _ hx hf hs (hE.2 j _ _ hx hs)
    rw [← h, numT_cut _ _ _ _ _ (offs_next hf hs).2.2.1] at h1
    rw [h1]
  · rw [List.getElem?_eq_none (by rw [entN_length]; omega), List.getElem?_eq_none (by rw [hE.1]; omega)]

/-! ### What is laid, and where -/
theorem layK_step (ss : List Sect) (ps : List Nat) (k : Nat) : (layK ss ps k).1 <+: (layK ss ps (k + 1)).1 ∧ (layK ss ps k).2 <+: (layK ss ps (k + 1)).2 := by
  rcases hs : ss[k + 1]? with _ | s
  · rw [layK, hs]; exact ⟨List.prefix_refl _, List.prefix_refl _⟩
  · rcases hp : ps[k + 1]? with _ | p
    · rw [layK, hs, hp]; exact ⟨List.prefix_refl _, List.prefix_refl _⟩
    · rw [layK_next hs hp]
      exact ⟨by unfold padB; rw [List.append_assoc]; exact List.prefix_append _ _, List.prefix_append _ _⟩
theorem layK_prefix (ss : List Sect) (ps : List Nat) (k : Nat) : ∀ n, k ≤ n → (layK ss ps k).1 <+: (layK ss ps n).1 ∧ (layK ss ps k).2 <+: (layK ss ps n).2 := by
  intro n hn
  induction n with
  | zero => rw [show k = 0 by omega]; exact ⟨List.prefix_refl _, List.prefix_refl _⟩
  | succ n ih =>
    rcases Nat.eq_or_lt_of_le hn with rfl | h
    · exact ⟨List.prefix_refl _, List.prefix_refl _⟩
    · have h1 := ih (by omega)
      have h2 := layK_step ss ps n
      exact ⟨h1.1.trans h2.1, h1.2.trans h2.2⟩
theorem layK_first (ss : List Sect) (ps : List Nat) (n : Nat) : (layK ss ps n).2[0]? = some (List.replicate 10 0) := by
  obtain ⟨r, h⟩ := (layK_prefix ss ps 0 n (Nat.zero_le _)).2
  rw [← h]
  rfl
/-- One of the sections: its entry, and its bytes in all of them. -/
theorem layK_at {ss : List Sect} {ps : List Nat} {n i p : Nat} {s : Sect} (hs : ss[i + 1]? = some s) (hp : ps[i + 1]? = some p) (hi : i + 1 ≤ n) (hl : n < ss.length) (hl' : n < ps.length) :
    (layK ss ps n).2[i + 1]? = some (entNs s p (padB (layK ss ps i).1).length) ∧ padB (layK ss ps i).1 ++ (if s.kind = 8 then [] else s.data) <+: (layK ss ps n).1 := by
  have h := layK_prefix ss ps (i + 1) n hi
  have hc := layK_count ss ps i (by omega) (by omega)
  rw [layK_next hs hp] at h
  refine ⟨?_, h.1⟩
  obtain ⟨r, e⟩ := h.2
  rw [← e, List.append_assoc, List.getElem?_append_right (by omega), hc, Nat.sub_self]
  rfl

/-- A cut of what is laid in front. -/
theorem cut_prefix {X d Y : List UInt8} (h : X ++ d <+: Y) (r : List UInt8) : ((Y ++ r).drop X.length).take d.length = d ∧ X.length + d.length ≤ Y.length := by
  obtain ⟨z, rfl⟩ := h
  refine ⟨?_, by simp⟩
  rw [List.append_assoc, List.append_assoc, List.drop_left, List.take_left]

theorem entsB_cut {es : List (List Nat)} (ht : ∀ e ∈ es, e.length = 10) {i : Nat} {e : List Nat} (h : es[i]? = some e) : ((entsB es).drop (64 * i)).take 64 = entB e := by
  have hil := (List.getElem?_eq_some_iff.1 h).1
  have e1 : es = es.take i ++ (e :: es.drop (i + 1)) := by
    obtain ⟨hj, e'⟩ := List.getElem?_eq_some_iff.1 h
    rw [← e', List.getElem_cons_drop, List.take_append_drop]
  have e2 : entsB es = entsB (es.take i) ++ (entB e ++ entsB (es.drop (i + 1))) := by
    conv => lhs; rw [e1]
    simp [entsB]
  have h1 : (entsB (es.take i)).length = 64 * i := by
    rw [entsB_length _ (fun x hx => ht x (List.mem_of_mem_take hx)), List.length_take, Nat.min_eq_left (by omega)]
  rw [e2, ← h1, List.drop_left, List.take_left' (entB_length e (ht e (List.mem_of_getElem? h)))]

/-- Behind the header all is as it was laid. -/
theorem file_drop (H X : List UInt8) (hH : H.length = 64) (q : Nat) (hq : 64 ≤ q) : (H ++ X.drop 64).drop q = X.drop q := by
  rw [List.drop_append, hH, List.drop_eq_nil_of_le (by omega), List.nil_append, List.drop_drop]
  congr 1
  omega

end Go.Proofs.YtldmjnbmjfnfeaaGreatDoor

namespace Go.Proofs.YtldmjnbmjfnfeaaGreatDoor
open Go Go.RowKit

theorem inM_nat {x : Int} (h : inM x = true) : ∃ k : Nat, x = (k : Int) ∧ k ≤ 2147483647 ∧ wrapN x = k := by
  unfold inM at h
  rw [decide_eq_true_eq] at h
  refine ⟨x.toNat, by omega, by omega, ?_⟩
  unfold wrapN
  rw [IntKind.wrap_u64]
  omega
theorem okS_parts {s : Sect} (h : okS s = true) : 1 ≤ s.kind ∧ inM s.kind = true ∧ inM s.link = true ∧ inM s.inf = true ∧ inM s.algn = true ∧ inM s.ent = true ∧ rightT s.name = true ∧ s.data.length ≤ 65536 ∧ (s.kind = 8 → s.data = List.replicate s.data.length 0) := by
  unfold okS at h
  simp only [Bool.and_eq_true, decide_eq_true_eq, Bool.or_eq_true, smallI, List.all_cons, List.all_nil, Bool.and_true] at h
  obtain ⟨h1, ⟨h2, h3, h4, h5, h6⟩, h7, h8, h9⟩ := h
  refine ⟨h1, h2, h3, h4, h5, h6, h7, h8, fun hk => ?_⟩
  rcases h9 with h9 | h9
  · exact absurd hk h9
  · have := List.count_eq_length.1 h9
    exact List.eq_replicate_of_mem fun b hb => (this b hb).symm

/-- What is true of the entry of a section that may be. -/
theorem ent_facts {s : Sect} (hok : okS s = true) (hfl : s.flags < two64) (had : s.addr < two64) {p q : Nat} (hp : p < 4294967296) (hq : q < two64) {B : List UInt8}
    (hin : s.kind ≠ 8 → q + s.data.length ≤ B.length ∧ (B.drop q).take s.data.length = s.data) :
    Enc (entNs s p q) ∧ entE (entNs s p q) B.length = 0 ∧ dataT B (entNs s p q) = s.data ∧ kindN (entNs s p q) = wrapN s.kind ∧
      ∀ tbl, atT tbl p = (s.name, 0) → sectT B tbl (entNs s p q) = s := by
  obtain ⟨h1, h2, h3, h4, h5, h6, h7, h8, h9⟩ := okS_parts hok
  obtain ⟨k1, e1, b1, w1⟩ := inM_nat h2
  obtain ⟨k2, e2, b2, w2⟩ := inM_nat h3
  obtain ⟨k3, e3, b3, w3⟩ := inM_nat h4
  obtain ⟨k4, e4, b4, w4⟩ := inM_nat h5
  obtain ⟨k5, e5, b5, w5⟩ := inM_nat h6
  have hns : entNs s p q = [p, k1, s.flags, s.addr, q, s.data.length, k2, k3, k4, k5] := by unfold entNs; rw [w1, w2, w3, w4, w5]
  have hk8 : s.kind = 8 ↔ k1 = 8 := by omega
  have hk0 : k1 ≠ 0 := by omega
  have hD : dataT B [p, k1, s.flags, s.addr, q, s.data.length, k2, k3, k4, k5] = s.data := by
    show (if k1 = 0 then [] else if k1 = 8 then List.replicate s.data.length 0 else (B.drop q).take s.data.length) = s.data
    rw [if_neg hk0]
    by_cases hk : k1 = 8
    · rw [if_pos hk]; exact (h9 (hk8.2 hk)).symm
    · rw [if_neg hk]; exact (hin (fun h => hk (hk8.1 h))).2
  unfold two64 at *
  rw [hns]
  refine ⟨⟨rfl, fun j x z hx hz => ?_⟩, ?_, hD, by rw [w1]; rfl, fun tbl ht => ?_⟩
  · have hj : j < 10 := (List.getElem?_eq_some_iff.1 hx).1
    have h10 : j = 0 ∨ j = 1 ∨ j = 2 ∨ j = 3 ∨ j = 4 ∨ j = 5 ∨ j = 6 ∨ j = 7 ∨ j = 8 ∨ j = 9 := by omega
    have p4 : (256 : Nat) ^ 4 = 4294967296 := rfl
    have p8 : (256 : Nat) ^ 8 = 18446744073709551616 := rfl
    rcases h10 with rfl | rfl | rfl | rfl | rfl | rfl | rfl | rfl | rfl | rfl <;> (injection hx with hx; injection hz with hz; subst hx hz; first | (rw [p4]; omega) | (rw [p8]; omega))
  · show (if smallN [k2, k3, k4, k5, k1] = true then (if k1 = 0 then (0 : Int) else if k1 ≠ 8 ∧ B.length < q + s.data.length then 22 else if 65536 < s.data.length then 3 else 0) else 22) = 0
    rw [if_pos (by simp [smallN]; omega), if_neg hk0, if_neg (fun h => by have := (hin (fun h' => h.1 (hk8.1 h'))).1; omega), if_neg (by omega)]
  · have e : sectT B tbl [p, k1, s.flags, s.addr, q, s.data.length, k2, k3, k4, k5] = ⟨(atT tbl p).1, (k1 : Int), s.flags, s.addr, dataT B [p, k1, s.flags, s.addr, q, s.data.length, k2, k3, k4, k5], (k2 : Int), (k3 : Int), (k4 : Int), (k5 : Int)⟩ := rfl
    rw [e, ht, hD, ← e1, ← e2, ← e3, ← e4, ← e5]

/-! ### The names -/
theorem gat_knows (ns : List (List UInt8)) (hr : ∀ t ∈ ns, rightT t = true) (hn : ns.length ≤ 64) : Knows (gat ns).1 (gat ns).2 ns ∧ spanT (gat ns).1 ≤ 201 * ns.length := by
  have key : ∀ k, k ≤ ns.length → Knows (gat (ns.take k)).1 (gat (ns.take k)).2 (ns.take k) ∧ spanT (gat (ns.take k)).1 ≤ 201 * k := by
    intro k
    induction k with
    | zero => intro _; exact ⟨knows_nil, by simp [gat, spanT]⟩
    | succ k ih =>
      intro hk
      obtain ⟨h1, h2⟩ := ih (by omega)
      have h : ns[k]? = some (ns[k]'(by omega)) := List.getElem?_eq_getElem _
      have hrt := hr _ (List.mem_of_getElem? h)
      rw [gat_take h, show ns.take (k + 1) = ns.take k ++ [ns[k]'(by omega)] by rw [List.take_add_one, h]; rfl]
      exact ⟨knows_next h1 hrt (by omega), by have := (addT_ok hrt (l := (gat (ns.take k)).1) (by omega)).2.2; simp only; omega⟩
  have := key ns.length (Nat.le_refl _)
  rwa [List.take_length] at this
theorem gat_names (ns : List (List UInt8)) (hr : ∀ t ∈ ns, rightT t = true) (hn : ns.length ≤ 64) {i : Nat} {t : List UInt8} (h : ns[i]? = some t) : ∃ p, (gat ns).2[i]? = some p ∧ atT (putsT (gat ns).1) p = (t, 0) ∧ p < 65536 := by
  obtain ⟨h1, h2⟩ := gat_knows ns hr hn
  obtain ⟨h3, p, h4, h5⟩ := h1.2 i t h
  refine ⟨p, h4, atT_find (gat_good ns).1 h5, ?_⟩
  have := findT_lt h5
  omega
theorem gat_zero {ns : List (List UInt8)} (h : ns[0]? = some []) (hr : ∀ t ∈ ns, rightT t = true) (hn : ns.length ≤ 64) : (gat ns).2[0]? = some 0 ∧ atT (putsT (gat ns).1) 0 = ([], 0) := by
  have h1 : (gat ns).2[0]? = some 0 := by
    have key : ∀ k, 1 ≤ k → k ≤ ns.length → (gat (ns.take k)).2[0]? = some 0 := by
      intro k
      induction k with
      | zero => intro h; omega
      | succ k ih =>
        intro _ hk
        have hk' : ns[k]? = some (ns[k]'(by omega)) := List.getElem?_eq_getElem _
        rw [gat_take hk']
        rcases Nat.eq_zero_or_pos k with rfl | hp
        · rw [h] at hk'
          injection hk' with hk'
          rw [← hk']
          rfl
        · have := ih hp (by omega)
          rw [List.getElem?_append_left (by rw [gat_length ns k (by omega)]; omega)]
          exact this
    have hl : 0 < ns.length := (List.getElem?_eq_some_iff.1 h).1
    have := key ns.length hl (Nat.le_refl _)
    rwa [List.take_length] at this
  obtain ⟨p, h2, h3, _⟩ := gat_names ns hr hn h
  rw [h1] at h2
  injection h2 with h2
  subst h2
  exact ⟨h1, h3⟩

end Go.Proofs.YtldmjnbmjfnfeaaGreatDoor

namespace Go.Proofs.YtldmjnbmjfnfeaaGreatDoor
open Go Go.RowKit

theorem findS_names {l l' : List Sect} (h : l.map (·.name) = l'.map (·.name)) (t : List UInt8) : findS l t = findS l' t := by
  have key : ∀ m : List Sect, (m.drop 1).findIdx? (fun s => decide (s.name = t)) = ((m.map (·.name)).drop 1).findIdx? (fun n => decide (n = t)) := fun m => by
    rw [← List.map_drop, List.findIdx?_map]
    rfl
  unfold findS
  rw [key l, key l', h]
theorem tabled_get {l : List Sect} {t : List UInt8} {m : Nat} (hm : l.length = m + 1) {z : Sect} (hz : l[m]? = some z) (i : Nat) : (tabled l t)[i]? = if i = m then some { z with data := t } else l[i]? := by
  unfold tabled
  rw [show l.length - 1 = m by omega, hz]
  simp only
  by_cases h : i = m
  · subst h
    rw [if_pos rfl, List.getElem?_set_self (by omega)]
  · rw [if_neg h, List.getElem?_set_ne (fun e => h e.symm)]
theorem tabled_names {l : List Sect} (t : List UInt8) {m : Nat} (hm : l.length = m + 1) {z : Sect} (hz : l[m]? = some z) : (tabled l t).map (·.name) = l.map (·.name) := by
  apply List.ext_getElem?
  intro i
  rw [List.getElem?_map, List.getElem?_map, tabled_get hm hz]
  by_cases h : i = m
  · rw [if_pos h, h, hz]; rfl
  · rw [if_neg h]
theorem layK_size2 (ss : List Sect) (ps : List Nat) (D : Nat) (hd : ∀ s ∈ ss, s.data.length ≤ D) : ∀ k, (layK ss ps k).1.length ≤ 64 + k * (D + 7)
  | 0 => by simp [layK]
  | k + 1 => by
    have ih := layK_size2 ss ps D hd k
    have e : (k + 1) * (D + 7) = k * (D + 7) + (D + 7) := Nat.succ_mul _ _
    rcases hs : ss[k + 1]? with _ | s
    · rw [layK, hs]; exact Nat.le_trans ih (by omega)
    · rcases hp : ps[k + 1]? with _ | p
      · rw [layK, hs, hp]; exact Nat.le_trans ih (by omega)
      · rw [layK_next hs hp]
        have h1 := hd s (List.mem_of_getElem? hs)
        have h2 := padN_lt (layK ss ps k).1.length
        simp only [List.length_append, padB_length]
        split
        · simp only [List.length_nil]; omega
        · omega
theorem errUp_zero {l : List UInt8} {off : Nat} : ∀ {n : Nat}, (∀ k, k < n → entE (entN l (off + 64 * k)) l.length = 0) → errUp l off n = 0
  | 0, _ => rfl
  | n + 1, h => by
    rw [errUp, if_neg (by simp [errUp_zero (n := n) fun k hk => h k (by omega)])]
    exact h n (by omega)

/-- What sections that may be are. -/
structure RightIs7 (l : List Sect) (m : Nat) (z : Sect) : Prop where
  len : l.length = m + 1
  one : 1 ≤ m
  most : m ≤ 63
  first : l[0]? = some zeroS
  last : l[m]? = some z
  kind : z.kind = 3
  find : findS l shstrN = (m : Int)
  ok : ∀ (i : Nat) (s : Sect), 1 ≤ i → l[i]? = some s → okS s = true
theorem right_is {l : List Sect} (h : rightS l = true) : ∃ m z, RightIs7 l m z := by
  obtain ⟨h2, h64⟩ := right_len h
  unfold rightS at h
  simp only [Bool.and_eq_true, decide_eq_true_eq] at h
  obtain ⟨_, h1, h3, h4, h5⟩ := h
  obtain ⟨m, hm⟩ : ∃ m, l.length = m + 1 := ⟨l.length - 1, by omega⟩
  rw [show l.length - 1 = m by omega] at h3 h4
  have hx : l[0]? = some (l[0]'(by omega)) := List.getElem?_eq_getElem _
  have hz : l[m]? = some (l[m]'(by omega)) := List.getElem?_eq_getElem _
  rw [hx, Option.any_some] at h1
  rw [hz, Option.any_some, decide_eq_true_eq] at h3
  refine ⟨m, _, hm, by omega, by omega, by rw [hx, sameS_eq h1], hz, h3, h4, fun i s hi hs => ?_⟩
  have hmem : s ∈ l.drop 1 := by
    have : (l.drop 1)[i - 1]? = some s := by rw [List.getElem?_drop, show 1 + (i - 1) = i by omega]; exact hs
    exact List.mem_of_getElem? this
  exact (List.all_eq_true.1 h5) s hmem
theorem tabled_right {l : List Sect} {m : Nat} {z : Sect} (h : RightIs7 l m z) {t : List UInt8} (ht : t.length ≤ 65536) : RightIs7 (tabled l t) m { z with data := t } := by
  have hz := h.ok m z h.one h.last
  refine ⟨by rw [tabled_length]; exact h.len, h.one, h.most, ?_, ?_, h.kind, ?_, fun i s hi hs => ?_⟩
  · rw [tabled_get h.len h.last, if_neg (by have := h.one; omega)]; exact h.first
  · rw [tabled_get h.len h.last, if_pos rfl]
  · rw [findS_names (tabled_names t h.len h.last)]; exact h.find
  · rw [tabled_get h.len h.last] at hs
    by_cases him : i = m
    · rw [if_pos him] at hs
      injection hs with hs
      subst hs
      obtain ⟨g1, g2, g3, g4, g5, g6, g7, _, _⟩ := okS_parts hz
      unfold okS
      simp only [smallI, List.all_cons, List.all_nil, Bool.and_true]
      rw [g2, g3, g4, g5, g6, g7, decide_eq_true g1, decide_eq_true ht, decide_eq_true (show z.kind ≠ 8 by rw [h.kind]; decide)]
      rfl
    · rw [if_neg him] at hs
      exact h.ok i s hi hs
theorem right_names {l : List Sect} {m : Nat} {z : Sect} (h : RightIs7 l m z) : ∀ t ∈ l.map (·.name), rightT t = true := by
  intro t ht
  obtain ⟨s, hs, rfl⟩ := List.mem_map.1 ht
  obtain ⟨i, hi, e⟩ := List.getElem_of_mem hs
  have hs' : l[i]? = some s := by rw [← e]; exact List.getElem?_eq_getElem hi
  rcases Nat.eq_zero_or_pos i with rfl | hp
  · rw [h.first] at hs'
    injection hs' with hs'
    subst hs'
    rfl
  · exact (okS_parts (h.ok i s hp hs')).2.2.2.2.2.2.1

end Go.Proofs.YtldmjnbmjfnfeaaGreatDoor

namespace Go.Proofs.YtldmjnbmjfnfeaaGreatDoor
open Go Go.RowKit

theorem zeros_enc : Enc (List.replicate 10 0) := ⟨rfl, fun j x s hx hs => by
  have h0 : x = 0 := by
    have := List.mem_of_getElem? hx
    simpa using this
  subst h0
  exact Nat.pos_of_ne_zero (by simp)⟩
theorem layK_all {ss : List Sect} {ps : List Nat} {n : Nat} (hl : n < ss.length) (hl' : n < ps.length) : (layK ss ps n).2.length = n + 1 := layK_count ss ps n hl hl'

end Go.Proofs.YtldmjnbmjfnfeaaGreatDoor
