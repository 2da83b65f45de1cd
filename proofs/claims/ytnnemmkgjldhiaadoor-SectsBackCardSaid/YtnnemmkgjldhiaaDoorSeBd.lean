/-
  Sections that are put are taken as they were (plain facts): the theorem.
-/

import Derived.Test.YtnnemmkgjldhiaaDoorSeBb
import Derived.Test.YtnnemmkgjldhiaaDoorSeQ
namespace Go.Proofs.YtnnemmkgjldhiaaDoor
open Go Go.RowKit

theorem findS_names {l l' : List Sect} (h : l.map (·.name) = l'.map (·.name)) (t : List UInt8) : findS l t = findS l' t := by
  have key : ∀ m : List Sect, (m.drop 1).findIdx? (fun s => decide (s.name = t)) = ((m.map (·.name)).drop 1).findIdx? (fun n => decide (n = t)) := fun m => by
    rw [← List.map_drop, List.findIdx?_map]
    rfl
  unfold findS
  rw [key l, key l', h]
theorem tabled_get {l : List Sect} {t : List UInt8} {m : Nat} (hm : l.length = m + 1) {z : Sect} (hz : l[m]? = some z) (i : Nat) : (tabled l t)[i]? = if i = m then some { z with data := t } else l[i]? := by
  unfold tabled
  rw [show l.length - 1 = m by omega, hz]
  simp only
  by_cases h : i = m
  · subst h
    rw [if_pos rfl, List.getElem?_set_self (by omega)]
  · rw [if_neg h, List.getElem?_set_ne (fun e => h e.symm)]
theorem tabled_names {l : List Sect} (t : List UInt8) {m : Nat} (hm : l.length = m + 1) {z : Sect} (hz : l[m]? = some z) : (tabled l t).map (·.name) = l.map (·.name) := by
  apply List.ext_getElem?
  intro i
  rw [List.getElem?_map, List.getElem?_map, tabled_get hm hz]
  by_cases h : i = m
  · rw [if_pos h, h, hz]; rfl
  · rw [if_neg h]
theorem tabled_twice {l : List Sect} (t : List UInt8) {m : Nat} (hm : l.length = m + 1) {z : Sect} (hz : l[m]? = some z) : tabled (tabled l t) t = tabled l t := by
  apply List.ext_getElem?
  intro i
  have hm' : (tabled l t).length = m + 1 := by rw [tabled_length]; exact hm
  have hz' : (tabled l t)[m]? = some { z with data := t } := by rw [tabled_get hm hz, if_pos rfl]
  rw [tabled_get hm' hz']
  by_cases h : i = m
  · rw [if_pos h, h, hz']
  · rw [if_neg h]

theorem layK_size2 (ss : List Sect) (ps : List Nat) (D : Nat) (hd : ∀ s ∈ ss, s.data.length ≤ D) : ∀ k, (layK ss ps k).1.length ≤ 64 + k * (D + 7)
  | 0 => by simp [layK]
  | k + 1 => by
    have ih := layK_size2 ss ps D hd k
    have e : (k + 1) * (D + 7) = k * (D + 7) + (D + 7) := Nat.succ_mul _ _
    rcases hs : ss[k + 1]? with _ | s
    · rw [layK, hs]; exact Nat.le_trans ih (by omega)
    · rcases hp : ps[k + 1]? with _ | p
      · rw [layK, hs, hp]; exact Nat.le_trans ih (by omega)
      · rw [layK_next hs hp]
        have h1 := hd s (List.mem_of_getElem? hs)
        have h2 := padN_lt (layK ss ps k).1.length
        simp only [List.length_append, padB_length]
        split
        · simp only [List.length_nil]; omega
        · omega
theorem errUp_zero {l : List UInt8} {off : Nat} : ∀ {n : Nat}, (∀ k, k < n → entE (entN l (off + 64 * k)) l.length = 0) → errUp l off n = 0
  | 0, _ => rfl
  | n + 1, h => by
    rw [errUp, if_neg (by simp [errUp_zero (n := n) fun k hk => h k (by omega)])]
    exact h n (by omega)

/-- What sections that may be are. -/
structure RightIs7 (l : List Sect) (m : Nat) (z : Sect) : Prop where
  len : l.length = m + 1
  one : 1 ≤ m
  most : m ≤ 63
  first : l[0]? = some zeroS
  last : l[m]? = some z
  kind : z.kind = 3
  find : findS l shstrN = (m : Int)
  ok : ∀ (i : Nat) (s : Sect), 1 ≤ i → l[i]? = some s → okS s = true
theorem right_is {l : List Sect} (h : rightS l = true) : ∃ m z, RightIs7 l m z := by
  obtain ⟨h2, h64⟩ := right_len h
  unfold rightS at h
  simp only [Bool.and_eq_true, decide_eq_true_eq] at h
  obtain ⟨_, h1, h3, h4, h5⟩ := h
  obtain ⟨m, hm⟩ : ∃ m, l.length = m + 1 := ⟨l.length - 1, by omega⟩
  rw [show l.length - 1 = m by omega] at h3 h4
  have hx : l[0]? = some (l[0]'(by omega)) := List.getElem?_eq_getElem _
  have hz : l[m]? = some (l[m]'(by omega)) := List.getElem?_eq_getElem _
  rw [hx, Option.any_some] at h1
  rw [hz, Option.any_some, decide_eq_true_eq] at h3
  refine ⟨m, _, hm, by omega, by omega, by rw [hx, sameS_eq h1], hz, h3, h4, fun i s hi hs => ?_⟩
  have hmem : s ∈ l.drop 1 := by
    have : (l.drop 1)[i - 1]? = some s := by rw [List.getElem?_drop, show 1 + (i - 1) = i by omega]; exact hs
    exact List.mem_of_getElem? this
  exact (List.all_eq_true.1 h5) s hmem
theorem is_right {l : List Sect} {m : Nat} {z : Sect} (h : RightIs7 l m z) : rightS l = true := by
  unfold rightS
  rw [h.len, Nat.add_sub_cancel, h.first, h.last, Option.any_some, Option.any_some, h.find]
  have h1 := h.one
  have h2 := h.most
  have h3 : okAll (l.drop 1) = true := by
    unfold okAll
    rw [List.all_eq_true]
    intro s hs
    obtain ⟨i, hi, e⟩ := List.getElem_of_mem hs
    refine h.ok (i + 1) s (by omega) ?_
    have : (l.drop 1)[i]? = some s := by rw [← e]; exact List.getElem?_eq_getElem hi
    rw [List.getElem?_drop, Nat.add_comm] at this
    exact this
  rw [h3, sameS_refl, decide_eq_true (show 2 ≤ m + 1 ∧ m + 1 ≤ 64 by omega), decide_eq_true h.kind]
  simp
theorem tabled_right {l : List Sect} {m : Nat} {z : Sect} (h : RightIs7 l m z) {t : List UInt8} (ht : t.length ≤ 65536) : RightIs7 (tabled l t) m { z with data := t } := by
  have hz := h.ok m z h.one h.last
  refine ⟨by rw [tabled_length]; exact h.len, h.one, h.most, ?_, ?_, h.kind, ?_, fun i s hi hs => ?_⟩
  · rw [tabled_get h.len h.last, if_neg (by have := h.one; omega)]; exact h.first
  · rw [tabled_get h.len h.last, if_pos rfl]
  · rw [findS_names (tabled_names t h.len h.last)]; exact h.find
  · rw [tabled_get h.len h.last] at hs
    by_cases him : i = m
    · rw [if_pos him] at hs
      injection hs with hs
      subst hs
      obtain ⟨g1, g2, g3, g4, g5, g6, g7, _, _⟩ := okS_parts hz
      unfold okS
      simp only [smallI, List.all_cons, List.all_nil, Bool.and_true]
      rw [g2, g3, g4, g5, g6, g7, decide_eq_true g1, decide_eq_true ht, decide_eq_true (show z.kind ≠ 8 by rw [h.kind]; decide)]
      rfl
    · rw [if_neg him] at hs
      exact h.ok i s hi hs
theorem right_names {l : List Sect} {m : Nat} {z : Sect} (h : RightIs7 l m z) : ∀ t ∈ l.map (·.name), rightT t = true := by
  intro t ht
  obtain ⟨s, hs, rfl⟩ := List.mem_map.1 ht
  obtain ⟨i, hi, e⟩ := List.getElem_of_mem hs
  have hs' : l[i]? = some s := by rw [← e]; exact List.getElem?_eq_getElem hi
  rcases Nat.eq_zero_or_pos i with rfl | hp
  · rw [h.first] at hs'
    injection hs' with hs'
    subst hs'
    rfl
  · exact (okS_parts (h.ok i s hp hs')).2.2.2.2.2.2.1

end Go.Proofs.YtnnemmkgjldhiaaDoor

namespace Go.Proofs.YtnnemmkgjldhiaaDoor
open Go Go.RowKit

theorem zeros_enc : Enc (List.replicate 10 0) := ⟨rfl, fun j x s hx hs => by
  have h0 : x = 0 := by
    have := List.mem_of_getElem? hx
    simpa using this
  subst h0
  exact Nat.pos_of_ne_zero (by simp)⟩
theorem layK_all {ss : List Sect} {ps : List Nat} {n : Nat} (hl : n < ss.length) (hl' : n < ps.length) : (layK ss ps n).2.length = n + 1 := layK_count ss ps n hl hl'

set_option maxRecDepth 4000 in
theorem put_take {kind machine : Int} {l : List Sect} {m : Nat} {z : Sect} (h : RightIs7 l m z) (hkm : (kind = 1 ∨ kind = 2) ∧ (machine = 62 ∨ machine = 183)) (hN : ∀ s ∈ l, s.flags < two64 ∧ s.addr < two64 ∧ s.data.length ≤ 8000) :
    secE (fileB kind machine l) = 0 ∧ (∃ o : Nat, secH (fileB kind machine l) = hdV kind machine o ((m + 1 : Nat) : Int) (m : Int)) ∧ secL (fileB kind machine l) = tabled l (putsT (gat (l.map (·.name))).1) ∧ (fileB kind machine l).length ≤ 1000000 := by
  obtain ⟨T, hT⟩ : ∃ T, putsT (gat (l.map (·.name))).1 = T := ⟨_, rfl⟩
  obtain ⟨ps, hps⟩ : ∃ ps, (gat (l.map (·.name))).2 = ps := ⟨_, rfl⟩
  have hnl : (l.map (·.name)).length = m + 1 := by rw [List.length_map, h.len]
  have hm1 := h.one
  have hm63 := h.most
  have hrn := right_names h
  have hTl : T.length ≤ 12864 := by
    have h1 := (gat_knows _ hrn (by omega)).2
    rw [← hT, spanT_puts (gat_good _).1]
    omega
  have hR := tabled_right h (t := T) (by omega)
  obtain ⟨ss, hss⟩ : ∃ ss, tabled l T = ss := ⟨_, rfl⟩
  rw [hss] at hR
  have hpl : ps.length = m + 1 := by rw [← hps, gat_count, hnl]
  have hnm : ss.map (·.name) = l.map (·.name) := by rw [← hss]; exact tabled_names T h.len h.last
  have hsd : ∀ s ∈ ss, s.data.length ≤ 12864 ∧ s.flags < two64 ∧ s.addr < two64 := by
    intro s hs
    obtain ⟨i, hi, e⟩ := List.getElem_of_mem hs
    have hs' : ss[i]? = some s := by rw [← e]; exact List.getElem?_eq_getElem hi
    rw [← hss, tabled_get h.len h.last] at hs'
    by_cases him : i = m
    · rw [if_pos him] at hs'
      injection hs' with hs'
      subst hs'
      have := hN z (List.mem_of_getElem? h.last)
      exact ⟨hTl, this.1, this.2.1⟩
    · rw [if_neg him] at hs'
      have := hN s (List.mem_of_getElem? hs')
      exact ⟨by omega, this.1, this.2.1⟩
  -- what is laid
  obtain ⟨Y, hY⟩ : ∃ Y, (layK ss ps m).1 = Y := ⟨_, rfl⟩
  obtain ⟨es, hes⟩ : ∃ es, (layK ss ps m).2 = es := ⟨_, rfl⟩
  have hYl : Y.length ≤ 64 + m * 12871 := by rw [← hY]; exact layK_size2 ss ps 12864 (fun s hs => (hsd s hs).1) m
  have hY64 : 64 ≤ Y.length := by rw [← hY]; exact layK_64 _ _ _
  have hel : es.length = m + 1 := by rw [← hes]; exact layK_all (by rw [hR.len]; omega) (by omega)
  have het : ∀ e ∈ es, e.length = 10 := by rw [← hes]; exact layK_tens _ _ _
  have hlaid : laidS l = (padB Y, es) := by
    unfold laidS
    simp only
    rw [hT, hps, hss, h.len, Nat.add_sub_cancel, hY, hes]
  obtain ⟨bb, hbb⟩ : ∃ bb, padB Y = bb := ⟨_, rfl⟩
  have hbbl : bb.length = Y.length + padN Y.length := by rw [← hbb, padB_length]
  have hpad := padN_lt Y.length
  have hebl : (entsB es).length = 64 * (m + 1) := by rw [entsB_length es het, hel]
  obtain ⟨X, hX⟩ : ∃ X, bb ++ entsB es = X := ⟨_, rfl⟩
  have hXl : X.length = bb.length + 64 * (m + 1) := by rw [← hX, List.length_append, hebl]
  obtain ⟨B, hB⟩ : ∃ B, headB kind machine bb.length ((m + 1 : Nat) : Int) (m : Int) ++ X.drop 64 = B := ⟨_, rfl⟩
  have hfile : fileB kind machine l = B := by
    unfold fileB
    rw [hlaid]
    simp only
    rw [hbb, hX, h.len, Nat.add_sub_cancel, hB]
  have hBX : ∀ q, 64 ≤ q → B.drop q = X.drop q := fun q hq => by rw [← hB]; exact file_drop _ _ (headB_length _ _ _ _ _) q hq
  have hYX : X = Y ++ (List.replicate (padN Y.length) 0 ++ entsB es) := by rw [← hX, ← hbb]; unfold padB; rw [List.append_assoc]
  -- the header
  have hr : (X.drop 64).length = X.length - 64 := List.length_drop
  have hto : (64 + (X.drop 64).length : Nat) = X.length := by omega
  have hRO : rightOf kind machine bb.length ((m + 1 : Nat) : Int) (m : Int) (64 + (X.drop 64).length : Nat) = true := by
    rw [hto, hXl]
    unfold rightOf
    rw [decide_eq_true hkm.1, decide_eq_true hkm.2, decide_eq_true (show 1 ≤ ((m + 1 : Nat) : Int) ∧ ((m + 1 : Nat) : Int) ≤ 64 by omega), decide_eq_true (show 1 ≤ (m : Int) ∧ (m : Int) < ((m + 1 : Nat) : Int) by omega), decide_eq_true (show (0 : Int) ≤ ((bb.length + 64 * (m + 1) : Nat) : Int) ∧ (bb.length : Int) + ((m + 1 : Nat) : Int) * 64 ≤ ((bb.length + 64 * (m + 1) : Nat) : Int) by omega)]
    rfl
  obtain ⟨hTE, hTH, hBl⟩ := take_back (t := kind) (m := machine) (o := bb.length) (n := ((m + 1 : Nat) : Int)) (s := (m : Int)) (r := X.drop 64) (l' := B) (by unfold two64; omega) hRO (by rw [hB]; exact Alike.refl _)
  rw [hto] at hBl
  obtain ⟨_, _, _, _, _, _, _, hTF⟩ := take_facts hTE
  rw [hTH] at hTF
  have hinj : bb.length = offT B ∧ m + 1 = cntT B ∧ m = shsT B := by
    have h1 : [Value.int .i64 kind, .int .i64 machine, .int .u64 (bb.length : Int), .int .i64 ((m + 1 : Nat) : Int), .int .i64 (m : Int)] = [Value.int .i64 (numT (B.take 64) 16 2 : Int), .int .i64 (numT (B.take 64) 18 2 : Int), .int .u64 (offT B : Int), .int .i64 (cntT B : Int), .int .i64 (shsT B : Int)] := by
      have := Value.agg.inj hTF
      exact congrArg Array.toList this
    simp only [List.cons.injEq, Value.int.injEq, true_and, and_true] at h1
    omega
  obtain ⟨hof, hcn, hsh⟩ := hinj
  have hbig : ¬ 1048576 < B.length := by rw [hBl, hXl, hbbl]; omega
  rw [hfile]
  -- entry by entry
  have hcut : ∀ (i : Nat) (e : List Nat), es[i]? = some e → (B.drop (bb.length + 64 * i)).take 64 = entB e := fun i e he => by
    rw [hBX _ (by omega), ← hX, List.drop_append, List.drop_eq_nil_of_le (by omega), List.nil_append, Nat.add_sub_cancel_left]
    exact entsB_cut het he
  have key : ∀ (i : Nat) (s : Sect), ss[i + 1]? = some s → ∃ e, es[i + 1]? = some e ∧ entN B (bb.length + 64 * (i + 1)) = e ∧ entE e B.length = 0 ∧ dataT B e = s.data ∧ kindN e = wrapN s.kind ∧ (atT T (nameN e)).2 = 0 ∧ sectT B T e = s := fun i s hs => by
    have him : i + 1 ≤ m := by have := (List.getElem?_eq_some_iff.1 hs).1; rw [hR.len] at this; omega
    have hn : (l.map (·.name))[i + 1]? = some s.name := by rw [← hnm, List.getElem?_map, hs]; rfl
    obtain ⟨p, hp, hat, hpb⟩ := gat_names _ hrn (by omega) hn
    rw [hps] at hp
    rw [hT] at hat
    obtain ⟨h1, h2⟩ := layK_at hs hp him (by rw [hR.len]; omega) (by omega)
    rw [hes] at h1
    rw [hY] at h2
    have hq64 : 64 ≤ (padB (layK ss ps i).1).length := by rw [padB_length]; have := layK_64 ss ps i; omega
    have hqY : (padB (layK ss ps i).1).length ≤ Y.length := by
      have := h2.length_le
      rw [List.length_append] at this
      omega
    obtain ⟨hd1, hd2, hd3⟩ := hsd s (List.mem_of_getElem? hs)
    have hin : s.kind ≠ 8 → (padB (layK ss ps i).1).length + s.data.length ≤ B.length ∧ (B.drop (padB (layK ss ps i).1).length).take s.data.length = s.data := fun h8 => by
      rw [if_neg h8] at h2
      have hc := cut_prefix h2 (List.replicate (padN Y.length) 0 ++ entsB es)
      rw [← hYX] at hc
      rw [hBX _ hq64]
      exact ⟨by rw [hBl, hXl, hbbl]; omega, hc.1⟩
    obtain ⟨f1, f2, f3, f4, f5⟩ := ent_facts (hR.ok (i + 1) s (by omega) hs) hd2 hd3 (p := p) (q := (padB (layK ss ps i).1).length) (by omega) (by unfold two64; omega) hin
    exact ⟨_, h1, entN_of (hcut _ _ h1) f1, f2, f3, f4, by show (atT T p).2 = 0; rw [hat], f5 T hat⟩
  have h0 : entN B bb.length = List.replicate 10 0 := by
    have h1 := layK_first ss ps m
    rw [hes] at h1
    have := entN_of (hcut 0 _ h1) zeros_enc
    rwa [Nat.mul_zero, Nat.add_zero] at this
  have hent : ∀ k, k < m + 1 → entE (entN B (bb.length + 64 * k)) B.length = 0 := fun k hk => by
    rcases k with _ | k
    · rw [Nat.mul_zero, Nat.add_zero, h0]; rfl
    · obtain ⟨e, _, g1, g2, _⟩ := key k _ (List.getElem?_eq_getElem (show k + 1 < ss.length by rw [hR.len]; omega))
      rw [g1]; exact g2
  have hERR : errUp B (offT B) (cntT B) = 0 := by rw [← hof, ← hcn]; exact errUp_zero hent
  obtain ⟨m', rfl⟩ : ∃ m', m = m' + 1 := ⟨m - 1, by omega⟩
  obtain ⟨el, _, gl1, gl2, gl3, gl4, _, _⟩ := key m' _ hR.last
  have hTB : tblT B bb.length (m' + 1) = T := by unfold tblT; rw [gl1]; exact gl3
  have hgz := gat_zero (ns := l.map (·.name)) (by rw [List.getElem?_map, h.first]; rfl) hrn (by omega)
  rw [hT] at hgz
  have hTL : tellE B (offT B) (cntT B) (shsT B) = 0 := by
    rw [← hof, ← hcn, ← hsh]
    unfold tellE
    rw [hTB, if_pos]
    refine ⟨h0, by rw [gl1, gl4]; show wrapN z.kind = 3; rw [h.kind]; rfl, fun i hi => ?_⟩
    rcases i with _ | i
    · rw [Nat.mul_zero, Nat.add_zero, h0]
      show (atT T 0).2 = 0
      rw [hgz.2]
    · obtain ⟨e, _, g1, _, _, _, g5, _⟩ := key i _ (List.getElem?_eq_getElem (show i + 1 < ss.length by rw [hR.len]; omega))
      rw [g1]; exact g5
  have hSE : secE B = 0 := by rw [secE_tell hbig hTE hERR]; exact hTL
  refine ⟨hSE, ⟨bb.length, by unfold secH; rw [if_pos hSE]; exact hTH⟩, ?_, by rw [hBl, hXl, hbbl]; omega⟩
  unfold secL
  rw [if_pos hSE, ← hof, ← hcn, ← hsh, hT, hss]
  apply List.ext_getElem?
  intro i
  by_cases hi : i < m' + 1 + 1
  · have e : (secsT B bb.length (m' + 1 + 1) (m' + 1))[i]? = some (sectT B T (entN B (bb.length + 64 * i))) := by
      unfold secsT
      rw [hTB]
      simp [hi]
    rw [e]
    rcases i with _ | i
    · rw [Nat.mul_zero, Nat.add_zero, h0, hR.first]
      have : sectT B T (List.replicate 10 0) = ⟨(atT T 0).1, 0, 0, 0, [], 0, 0, 0, 0⟩ := rfl
      rw [this, hgz.2]
      rfl
    · have hs : ss[i + 1]? = some (ss[i + 1]'(by rw [hR.len]; omega)) := List.getElem?_eq_getElem _
      obtain ⟨e, _, g1, _, _, _, _, g6⟩ := key i _ hs
      rw [g1, g6, hs]
  · rw [List.getElem?_eq_none (by simp [secsT]; omega), List.getElem?_eq_none (by rw [hR.len]; omega)]

/-- .. and put again they are the same file. -/
theorem put_again {kind machine : Int} {l : List Sect} {m : Nat} {z : Sect} (h : RightIs7 l m z) : fileB kind machine (tabled l (putsT (gat (l.map (·.name))).1)) = fileB kind machine l ∧ rightS (tabled l (putsT (gat (l.map (·.name))).1)) = true := by
  have hR := tabled_right h (t := putsT (gat (l.map (·.name))).1) (gat_table _)
  refine ⟨?_, is_right hR⟩
  have hnm := tabled_names (putsT (gat (l.map (·.name))).1) h.len h.last
  have hlen := tabled_length l (putsT (gat (l.map (·.name))).1)
  have hla : laidS (tabled l (putsT (gat (l.map (·.name))).1)) = laidS l := by
    unfold laidS
    simp only
    rw [hnm, hlen, tabled_twice _ h.len h.last]
  unfold fileB
  rw [hla, hlen]

end Go.Proofs.YtnnemmkgjldhiaaDoor
