/-
  The document's own pool of layer 4: Find, Bytes, Add.
-/
import Derived.Test.YtldmjnbmjfnfeaaGreatDoorPoA
import Derived.Test.YtldmjnbmjfnfeaaGreatDoorCsV
import Derived.Test.YtldmjnbmjfnfeaaGreatDoorCsQ
namespace Go.Proofs.YtldmjnbmjfnfeaaGreatDoor
open Go Go.RowKit

/-- What the document's Add may turn. -/
def RefObj : Obj → Prop
  | .cells _ t _ => t = 132 ∨ t = 9
  | _ => False

/-- The document's pool in memory: its block, the value of its list, its texts. -/
def RefAt (w : World) (base g : Nat) (u : Value) (ls : List (List UInt8)) : Prop := Box w g 132 #[u] ∧ base ≤ g ∧ OwnS w base u ls

section
variable {w w' : World} {base g : Nat} {u : Value} {ls : List (List UInt8)}
theorem RefAt.kept (h : RefAt w base g u ls) {b : Nat} {bad : Obj → Prop} (hb : Only b bad w w') (h1 : ∀ cs f, ¬ bad (.cells cs 132 f)) (h2 : ∀ cs f, ¬ bad (.cells cs 9 f)) : RefAt w' base g u ls := by
  obtain ⟨p1, p2, p3⟩ := h
  refine ⟨hb.2 _ _ p1 (h1 _ _), p2, p3.1, ?_⟩
  rcases p3.2 with e | ⟨x, cap, cur, e, hx, hg, r⟩
  · exact .inl e
  · exact .inr ⟨x, cap, cur, e, hx, hb.2 _ _ hg (h2 _ _), r⟩
theorem RefAt.below (h : RefAt w base g u ls) (hb : Below w.heap.size w w') : RefAt w' base g u ls :=
  h.kept (Only.below (base := 0) (bad := fun _ => False) hb (Nat.zero_le _)) (fun _ _ x => x) (fun _ _ x => x)
theorem RefAt.drewN (h : RefAt w base g u ls) (n : Nat) : RefAt (w.drewN n) base g u ls := h
theorem RefAt.pool {base' : Nat} (h : RefAt w base g u ls) (hb : Only base' PoolObj w w') : RefAt w' base g u ls :=
  h.kept hb (fun _ _ x => by rcases x with x | x <;> revert x <;> decide) (fun _ _ x => by rcases x with x | x <;> revert x <;> decide)
end

theorem str_eq (s t : List UInt8) : ((ByteArray.mk s.toArray).toList == (ByteArray.mk t.toArray).toList) = decide (s = t) := by
  rw [Lib.toList_data, Lib.toList_data]
  by_cases h : s = t
  · subst h; simp
  · simp [h]

theorem owns_at {w : World} {base : Nat} {u : Value} {ts : List (List UInt8)} (h : OwnS w base u ts) : ∃ A cap, u = .slice A ts.length cap ∧ ts.length ≤ cap ∧ (0 < ts.length → ∃ g, A = some ⟨g, 0, none⟩ ∧ g < w.heap.size ∧ ∀ (j : Nat) (t : List UInt8), ts[j]? = some t → w.cell? ⟨g, j, none⟩ = some (.string ⟨t.toArray⟩)) := by
  rcases Nat.eq_zero_or_pos ts.length with h0 | h0
  · rcases h.2 with ⟨rfl, _⟩ | ⟨g, cap, cur, rfl, _, _, hc, _⟩
    · exact ⟨none, 0, by rw [h0], by omega, fun h => by omega⟩
    · exact ⟨_, cap, rfl, hc, fun h => by omega⟩
  · obtain ⟨g, cap, rfl, hc, _, hx⟩ := owns_cell h h0
    exact ⟨_, cap, rfl, hc, fun _ => ⟨g, rfl, owns_lt h g (by simp [Value.ownBlock]), hx⟩⟩

theorem spanT_take (ls : List (List UInt8)) (k : Nat) : spanT (ls.take k) ≤ spanT ls := by
  have h := spanT_append (ls.take k) (ls.drop k)
  rw [List.take_append_drop] at h
  omega

theorem spanT_next {ls : List (List UInt8)} {k : Nat} {t : List UInt8} (h : ls[k]? = some t) : spanT (ls.take (k + 1)) = spanT (ls.take k) + t.length + 1 := by
  obtain ⟨hk, rfl⟩ := List.getElem?_eq_some_iff.1 h
  rw [List.take_succ_eq_append_getElem hk, spanT_append]
  simp [spanT]; omega

set_option maxRecDepth 10000 in
set_option maxHeartbeats 1600000 in
theorem rfind_at {w : World} {base g : Nat} {u : Value} {ls : List (List UInt8)} (h : RefAt w base g u ls) (hs : spanT ls ≤ 1000000) (t : List UInt8) :
    Calls Tryz.prog 70 #[.pointer (some ⟨g, 0, none⟩), .string ⟨t.toArray⟩] w fun r w' => r = .returned (.tuple #[.int .u64 (((findT ls t).getD 0 : Nat) : Int), .bool (findT ls t).isSome]) ∧ w = w' := by
  obtain ⟨A, c, rfl, hnc, hcell⟩ := owns_at h.2.2
  have c0 := h.1.cell 0
  simp at c0
  have hll : ls.length ≤ 1000000 := by
    have : ∀ m : List (List UInt8), m.length ≤ spanT m := by
      intro m
      induction m with
      | nil => simp
      | cons s m ih => simp only [List.length_cons, spanT]; omega
    exact Nat.le_trans (this ls) hs
  obtain ⟨N, hN⟩ : ∃ N, ls.length = N := ⟨_, rfl⟩
  have HN := Lib.hid hN
  have HX := Lib.hid hcell
  have HS := Lib.hid hs
  rw [hN] at c0 hnc hll
  clear h hcell hN hs
  go_enter Tryz.func70, Tryz.ntmps70
  go_wp2_with fail
  go_loop [6, 7] (fun a i => ∃ k : Nat, i = .int .i64 k ∧ k ≤ N ∧ a = .int .u64 ((spanT (ls.take k) : Nat) : Int) ∧ Hid (t ∉ ls.take k)) (fun _ i => N - (intOf i).toNat)
  case atStart => exact ⟨0, rfl, Nat.zero_le _, rfl, Lib.hid (by simp)⟩
  case round =>
    obtain ⟨k, rfl, hk, rfl, HT⟩ := hrel
    by_cases hlt : k < N
    · obtain ⟨gb, rfl, _, hx⟩ := HX.out (by rw [HN.out]; omega)
      obtain ⟨s, hsk⟩ : ∃ s, ls[k]? = some s := ⟨ls[k]'(by rw [HN.out]; exact hlt), List.getElem?_eq_getElem _⟩
      have x1 := hx k s hsk
      have hq := str_eq s t
      have hnx := spanT_next hsk
      have hle := spanT_take ls (k + 1)
      have hle2 := HS.out
      have hsz : (ByteArray.mk s.toArray).size = s.length := rfl
      by_cases hst : s = t
      · have HF := Lib.hid (findT_at (hst ▸ hsk) HT.out)
        rw [decide_eq_true hst] at hq
        clear hx hsk hst hnx hle hle2
        generalize ByteArray.mk s.toArray = sb at *
        generalize ByteArray.mk t.toArray = tb at *
        go_wp2_with fail
        go_ret2
        exact ⟨by rw [HF.out]; rfl, rfl⟩
      · have HT1 := Lib.hid (show t ∉ ls.take (k + 1) by
          obtain ⟨hk', e⟩ := List.getElem?_eq_some_iff.1 hsk
          rw [List.take_succ_eq_append_getElem hk', e]
          intro hm
          rcases List.mem_append.1 hm with h1 | h1
          · exact HT.out h1
          · exact hst (List.mem_singleton.1 h1).symm)
        have HNX := Lib.hid hnx
        rw [decide_eq_false hst] at hq
        have s1 : IntKind.u64.wrap (s.length : Int) = (s.length : Int) := by rw [IntWalk.u64_in _ (by omega)]
        have s2 : IntKind.u64.wrap ((spanT (ls.take k) : Int) + (s.length : Int)) = (spanT (ls.take k) : Int) + (s.length : Int) := by rw [IntWalk.u64_in _ (by omega)]
        have s3 : IntKind.u64.wrap ((spanT (ls.take k) : Int) + (s.length : Int) + 1) = (spanT (ls.take k) : Int) + (s.length : Int) + 1 := by rw [IntWalk.u64_in _ (by omega)]
        have hb : spanT (ls.take k) + s.length + 1 ≤ 1000000 := by omega
        clear hx hsk hst hnx hle hle2
        generalize ByteArray.mk s.toArray = sb at *
        generalize ByteArray.mk t.toArray = tb at *
        generalize s.length = m at *
        subst hsz
        generalize hsp : spanT (ls.take k) = q at *
        clear hsp
        go_wp2_with fail
        exact ⟨⟨k + 1, by go_num, by omega, by rw [HNX.out]; simp, HT1⟩, by simp [intOf]; omega⟩
    · have hkn : k = N := by omega
      subst hkn
      have HF := Lib.hid (show findT ls t = none from findT_none.2 (by have := HT.out; rwa [← HN.out, List.take_length] at this))
      go_wp2_with fail
      go_ret2
      exact ⟨by rw [HF.out]; rfl, rfl⟩

theorem span_length (m : List (List UInt8)) : m.length ≤ spanT m := by
  induction m with
  | nil => simp
  | cons s m ih => simp only [List.length_cons, spanT]; omega

theorem puts_span (m : List (List UInt8)) : (putsT m).length ≤ spanT m := by
  induction m with
  | nil => simp [putsT, spanT]
  | cons s m ih =>
    have := tlen_le s
    simp only [putsT, spanT, List.length_append, putT_length]; omega

theorem puts_next {ls : List (List UInt8)} {k : Nat} {t : List UInt8} (h : ls[k]? = some t) : putsT (ls.take (k + 1)) = putsT (ls.take k) ++ putT t := by
  obtain ⟨hk, rfl⟩ := List.getElem?_eq_some_iff.1 h
  rw [List.take_succ_eq_append_getElem hk, putsT_append]
  simp [putsT]

theorem own_up {w : World} {base base' : Nat} {v : Value} {l : List UInt8} (h : Own w base v l) (hb : base' ≤ base) : Own w base' v l :=
  ⟨h.1, h.2.imp id fun ⟨g, cap, cur, p, q, r⟩ => ⟨g, cap, cur, p, Nat.le_trans hb q, r⟩⟩

set_option maxRecDepth 10000 in
set_option maxHeartbeats 1600000 in
theorem rbytes_at {w : World} {base g : Nat} {u : Value} {ls : List (List UInt8)} (h : RefAt w base g u ls) (hs : spanT ls ≤ 1000000) :
    Calls Tryz.prog 68 #[.pointer (some ⟨g, 0, none⟩)] w fun r w' => ∃ v, r = .returned v ∧ Own w' w.heap.size v (putsT ls) ∧ Below w.heap.size w w' := by
  obtain ⟨i0, hi, hz0, hz1, hz2⟩ := info_parts u8_info
  obtain ⟨A, c, rfl, hnc, hcell⟩ := owns_at h.2.2
  have c0 := h.1.cell 0
  simp at c0
  have hg := h.1.lt
  have hll : ls.length ≤ 1000000 := Nat.le_trans (span_length ls) hs
  obtain ⟨N, hN⟩ : ∃ N, ls.length = N := ⟨_, rfl⟩
  have HN := Lib.hid hN
  have HX := Lib.hid hcell
  have HS := Lib.hid hs
  have HC0 := Lib.hid c0
  rw [hN] at hnc hll HC0
  clear h hcell hN hs c0
  go_enter Tryz.func68, Tryz.ntmps68
  go_wp2_with fail
  go_loopw [3, 4] (fun b i wr => ∃ k : Nat, i = .int .i64 k ∧ k ≤ N ∧ Hid (Own wr w.heap.size b (putsT (ls.take k))) ∧ Hid (Below w.heap.size w wr)) (fun _ i _ => N - (intOf i).toNat)
  case atStart => exact ⟨0, rfl, Nat.zero_le _, Lib.hid (World.ownsRow_nil _ _ _ _), Lib.hid (Below.refl _ _)⟩
  case round =>
    obtain ⟨k, rfl, hk, HO, HB⟩ := hrel
    have cw := (HB.out.cell (p := ⟨g, 0, none⟩) hg).trans HC0.out
    by_cases hlt : k < N
    · obtain ⟨gb, rfl, hgb, hx⟩ := HX.out (by rw [HN.out]; omega)
      obtain ⟨s, hsk⟩ : ∃ s, ls[k]? = some s := ⟨ls[k]'(by rw [HN.out]; exact hlt), List.getElem?_eq_getElem _⟩
      have x1 := (HB.out.cell (p := ⟨gb, k, none⟩) hgb).trans (hx k s hsk)
      have hle := spanT_take ls (k + 1)
      have hnx := spanT_next hsk
      have hle2 := HS.out
      have hpu := puts_span (ls.take k)
      have hP := rputt_any s wr (by omega)
      have HNX := Lib.hid (puts_next hsk)
      have hsum : (putsT (ls.take k)).length + (putT s).length ≤ 140737488355328 := by rw [putT_length]; have := tlen_le s; omega
      clear hx hsk hnx hle hle2 hpu
      generalize ByteArray.mk s.toArray = sb at *
      go_wp2_with (first
        | (go_at_call 111; refine hP.mono ?_; rintro r w2 ⟨v2, rfl, ho2, hb2⟩; have HO2 := Lib.hid ho2; have HB2 := Lib.hid hb2; (obtain ⟨A2, d2, rfl, _, _, hr2⟩ := own_slice ho2); clear ho2 hb2; have hkeep := World.ownsRow.kept (w := wr) HO.out (only_below HB2.out none) (Classical.em _))
        | (at_builtin; refine wpList_append_bytes (by rfl) (.tmp 14) (.tmp 22) _ (by rfl) w.heap.size i0 Tryz.underlying22 hi hz0 hz1 hz2 u3 (putsT (ls.take k)) (by rfl) hkeep w2.heap.size A2 (putT s).length d2 (putT s) rfl (by rfl) hr2 hsum (by have := HB.out.size; have := HB2.out.size; omega) ?_; intro v3 w3 hown3 hg3 hat3))
      have HO3 := Lib.hid (show Own w3 w.heap.size v3 (putsT (ls.take (k + 1))) by rw [HNX.out]; exact hown3)
      have HB3 := Lib.hid (show Below w.heap.size w w3 from (HB.out.trans (HB2.out.mono HB.out.size)).grown hg3 (by have := HB.out.size; have := HB2.out.size; omega) (fun x hx => (own_ge hkeep x hx).1))
      clear hown3 hg3 hat3 hkeep
      go_roundw
      case rel => exact ⟨k + 1, by go_num, by omega, HO3, HB3⟩
      case measure => simp [intOf]; omega
    · have hkn : k = N := by omega
      subst hkn
      have HF := Lib.hid (show ls.take k = ls by rw [← HN.out, List.take_length])
      go_wp2_with fail
      go_ret
      exact ⟨_, rfl, by have := HO.out; rwa [HF.out] at this, HB.out⟩

theorem owns_other {w : World} {base g : Nat} {u : Value} {ts : List (List UInt8)} {T : TypeId} {cs : Array Value} (h : OwnS w base u ts) (hb : Box w g T cs) (hne : 9 ≠ T) : u.ownBlock ≠ some g := by
  rcases h.2 with ⟨rfl, _⟩ | ⟨g', cap, cur, rfl, _, hh, _⟩
  · simp [Value.ownBlock]
  · intro e
    have e' : g' = g := by simpa [Value.ownBlock] using e
    subst e'
    exact Box.other (t := 9) hh hb hne rfl

/-- The document's list with one text more, ahead of its store and behind it. -/
theorem ref_append {w w4 : World} {base g : Nat} {u v4 : Value} {ls : List (List UInt8)} {t : List UInt8} {o : Obj} (h : RefAt w base g u ls) (hg : (w.alloc o).grownBy w4 u.ownBlock) (ho : w4.ownsRow base 9 1 v4 (ls.length + 1) (strV ls ++ [.string ⟨t.toArray⟩])) :
    w4.cell? ⟨g, 0, none⟩ = some u ∧ w4.frozen? ⟨g, 0, none⟩ = false ∧ RefAt (w4.setCell ⟨g, 0, none⟩ v4) base g v4 (ls ++ [t]) ∧ Only base RefObj w (w4.setCell ⟨g, 0, none⟩ v4) := by
  have hbase : base ≤ w.heap.size := Nat.le_trans h.2.1 (Nat.le_of_lt h.1.lt)
  have hb0 : Below w.heap.size w (w.alloc o) := (Below.refl _ _).alloc (Nat.le_refl _) _
  have h1 := h.below hb0
  have hb4 : Box w4 g 132 #[u] := h1.1.grown hg (owns_other h1.2.2 h1.1 (by decide)).symm
  have hO4 : OwnS w4 base v4 (ls ++ [t]) := by rw [OwnS, strV_append, List.length_append]; exact ho
  have hset := only_set (only_refl w4 (some g)) 0 v4
  have hon : Only base RefObj (w.alloc o) w4 := by
    rcases h1.2.2.2 with ⟨rfl, _⟩ | ⟨g', cap, cur, rfl, hgb, hh, _⟩
    · exact Only.below (below_of_only hg (Nat.le_refl _) (by simp [Value.ownBlock])) (Nat.le_trans hbase hb0.size)
    · exact Only.row (g := g') hg hh (.inr rfl) hgb
  refine ⟨hb4.cell 0, hb4.free 0, ⟨by simpa using hb4.set 0 v4, h.2.1, World.ownsRow.kept (w := w4) hO4 hset (.inr (owns_other hO4 hb4 (by decide)))⟩, ?_⟩
  exact (Only.below hb0 hbase).trans (hon.trans (Only.row (g := g) hset hb4 (.inl rfl) h.2.1))

set_option maxRecDepth 10000 in
set_option maxHeartbeats 1600000 in
theorem radd_at {w : World} {base g : Nat} {u : Value} {ls : List (List UInt8)} (h : RefAt w base g u ls) (hgd : GoodT ls) (t : List UInt8) (ht : t.length ≤ 140737488355328) :
    Calls Tryz.prog 66 #[.pointer (some ⟨g, 0, none⟩), .string ⟨t.toArray⟩] w fun r w' =>
      r = .returned (.tuple #[.int .u64 (((addT ls t).2.1 : Nat) : Int), .int .i64 (addT ls t).2.2]) ∧ (∃ u', RefAt w' base g u' (addT ls t).1) ∧ Only base RefObj w w' := by
  have hR := fun W => rright_any t W ht
  have hsp := hgd.2.1
  have hF := rfind_at h (by omega) t
  have HH := Lib.hid h
  by_cases hr : rightT t = true
  · rw [hr] at hR
    have hrs := (rightT_spec hr).1
    rcases hf : findT ls t with _ | p
    · rw [hf] at hF
      have hB := rbytes_at h (by omega)
      have hpl : (putsT ls).length = spanT ls := spanT_puts hgd.1
      have hsz : (ByteArray.mk t.toArray).size = t.length := rfl
      have HPL := Lib.hid hpl
      by_cases hb : 65536 < spanT ls + t.length + 1
      · rw [addT_big hr hf hb]
        have hd : (65536 : Int) < ((putsT ls).length : Int) + (t.length : Int) + 1 := by omega
        have hn : (putsT ls).length ≤ 65536 := by omega
        have s1 : IntKind.i64.wrap (((putsT ls).length : Int) + (t.length : Int)) = ((putsT ls).length : Int) + (t.length : Int) := by rw [IntWalk.i64_in _ (by omega)]
        have s2 : IntKind.i64.wrap (((putsT ls).length : Int) + (t.length : Int) + 1) = ((putsT ls).length : Int) + (t.length : Int) + 1 := by rw [IntWalk.i64_in _ (by omega)]
        clear hrs hpl hr hf hb h hsp
        generalize ByteArray.mk t.toArray = tb at *
        generalize t.length = m at *
        subst hsz
        go_enter Tryz.func66, Tryz.ntmps66
        go_wp2_with (first
          | (go_at_call 79; refine (hR _).mono ?_; rintro r w1 ⟨rfl, rfl⟩)
          | (go_at_call 70; refine hF.mono ?_; rintro r w1 ⟨rfl, rfl⟩)
          | (go_at_call 68; refine hB.mono ?_; rintro r w1 ⟨v1, rfl, ho1, hb1⟩; have HB1 := Lib.hid hb1; (obtain ⟨A1, d1, rfl, _, _, _⟩ := own_slice ho1); clear ho1 hb1; generalize (putsT ls).length = n at *))
        go_ret2
        exact ⟨rfl, ⟨u, HH.out.below HB1.out⟩, Only.below HB1.out (Nat.le_trans HH.out.2.1 (Nat.le_of_lt HH.out.1.lt))⟩
      · rw [addT_new hr hf hb]
        obtain ⟨i0, hi, hz0, hz1, hz2⟩ := info_parts str_info
        have hd : decide ((65536 : Int) < ((putsT ls).length : Int) + (t.length : Int) + 1) = false := decide_eq_false (by omega)
        have hn : (putsT ls).length ≤ 65536 := by omega
        have s1 : IntKind.i64.wrap (((putsT ls).length : Int) + (t.length : Int)) = ((putsT ls).length : Int) + (t.length : Int) := by rw [IntWalk.i64_in _ (by omega)]
        have s2 : IntKind.i64.wrap (((putsT ls).length : Int) + (t.length : Int) + 1) = ((putsT ls).length : Int) + (t.length : Int) + 1 := by rw [IntWalk.i64_in _ (by omega)]
        have hll := goodT_length hgd
        have h63 : ls.length + 1 ≤ maxLen := by unfold maxLen; omega
        have hby : (ls.length + 1) * 16 ≤ 140737488355328 := by omega
        clear hrs hpl hr hf hb h hsp hgd
        have HA := Lib.hid (fun (W W4 : World) (v4 : Value) (o : Obj) (h1 : RefAt W base g u ls) h2 h3 => ref_append (w := W) (w4 := W4) (v4 := v4) (t := t) (o := o) h1 h2 h3)
        generalize ByteArray.mk t.toArray = tb at *
        generalize t.length = m at *
        subst hsz
        go_enter Tryz.func66, Tryz.ntmps66
        go_wp2_with (first
          | (go_at_call 79; refine (hR _).mono ?_; rintro r w1 ⟨rfl, rfl⟩)
          | (go_at_call 70; refine hF.mono ?_; rintro r w1 ⟨rfl, rfl⟩)
          | (go_at_call 68; refine hB.mono ?_; rintro r w1 ⟨v1, rfl, ho1, hb1⟩; have HB1 := Lib.hid hb1; (obtain ⟨A1, d1, rfl, _, _, _⟩ := own_slice ho1); clear ho1 hb1; have HR1 := Lib.hid (HH.out.below HB1.out); have c10 := HR1.out.1.cell 0; simp at c10; have HOB := Lib.hid (Only.below (bad := RefObj) HB1.out (Nat.le_trans HH.out.2.1 (Nat.le_of_lt HH.out.1.lt))); generalize (putsT ls).length = n at *)
          | (at_builtin; refine wpList_append_own_at _ (by rfl) (.tmp 33) (.tmp 35) _ (by rfl) base 9 i0 (.string ⟨#[]⟩) 1 16 Tryz.underlying130 hi hz0 hz1 hz2 rfl (by decide) u ls.length (strV ls) (by rfl) (HR1.out.2.2.alloc _) ⟨w1.heap.size, 0, none⟩ 1 1 [.string tb] (by rfl) rfl (cell_one_new _ _ _) (by simp [Value.oneCell']) h63 hby (by have := HOB.out.1.size; have := HR1.out.1.lt; have := HR1.out.2.1; simp; omega) ?_; intro v4 w4 hown4 hg4 hn4 hat4; (obtain ⟨d0, f0, hr5, ho5⟩ := HA.out _ _ _ _ HR1.out hg4 hown4); (obtain ⟨A4, d4, rfl⟩ := owns_slice hr5.2.2); have HR5 := Lib.hid hr5; have HO5 := Lib.hid ho5; clear hr5 ho5 hown4 hg4 hn4 hat4; generalize (ls ++ [t]).length = n4 at *))
        go_ret2
        exact ⟨by rw [← HPL.out]; rfl, ⟨_, HR5.out⟩, HOB.out.trans HO5.out⟩
    · rw [addT_there hr hf]
      rw [hf] at hF
      clear h hr hf hsp hrs
      generalize ByteArray.mk t.toArray = tb at *
      go_enter Tryz.func66, Tryz.ntmps66
      go_wp2_with (first
        | (go_at_call 79; refine (hR _).mono ?_; rintro r w1 ⟨rfl, rfl⟩)
        | (go_at_call 70; refine hF.mono ?_; rintro r w1 ⟨rfl, rfl⟩))
      go_ret2
      exact ⟨rfl, ⟨u, HH.out⟩, Only.refl _ _ _⟩
  · have hr' : rightT t = false := by simpa using hr
    rw [addT_wrong hr']
    rw [hr'] at hR
    clear h hr hr' hsp
    generalize ByteArray.mk t.toArray = tb at *
    go_enter Tryz.func66, Tryz.ntmps66
    go_wp2_with (go_at_call 79; refine (hR _).mono ?_; rintro r w1 ⟨rfl, rfl⟩)
    go_ret2
    exact ⟨rfl, ⟨u, HH.out⟩, Only.refl _ _ _⟩

end Go.Proofs.YtldmjnbmjfnfeaaGreatDoor
