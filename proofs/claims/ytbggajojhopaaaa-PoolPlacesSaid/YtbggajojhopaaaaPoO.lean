/-
  Once: the program's, by a set of texts; and the document's, text by text.
-/
import Derived.Test.YtbggajojhopaaaaPoA
import Derived.Test.YtbggajojhopaaaaCsS
import Derived.Test.YtbggajojhopaaaaPoR
namespace Go.Proofs.Ytbggajojhopaaaa
open Go Go.RowKit Go.Maps

/-- What Once tells. -/
def onceT (l : List UInt8) : Bool := decide ((allT l).2 = 0) && decide (resT l).Nodup

theorem onceT_bad {l : List UInt8} (h : (allT l).2 ≠ 0) : onceT l = false := by unfold onceT; rw [decide_eq_false h]; rfl
theorem onceT_ok {l : List UInt8} (h : (allT l).2 = 0) : onceT l = decide (resT l).Nodup := by unfold onceT; rw [decide_eq_true h]; rfl

/-- The set of the texts. -/
def setT (ls : List (List UInt8)) : DataW Unit := setOf (.agg []) (ls.map keyT)

theorem setT_nil : setT [] = .map [] := rfl
theorem setT_snoc (ls : List (List UInt8)) (t : List UInt8) : setT (ls ++ [t]) = (setT ls).put (keyT t) (.agg []) := by
  unfold setT; rw [List.map_append, List.map_singleton, setOf_snoc]

theorem keys_lit (ls : List (List UInt8)) : ∀ x ∈ ls.map keyT, WideAt.IsKeyLit x := by
  intro x hx
  obtain ⟨t, _, rfl⟩ := List.mem_map.1 hx
  exact keyT_lit t

theorem setT_has (ls : List (List UInt8)) (t : List UInt8) : Maps.has (setT ls) (keyT t) = decide (t ∈ ls) := by
  unfold setT
  rw [has_setOf _ _ _ (keys_lit ls), List.any_map]
  by_cases h : t ∈ ls
  · rw [decide_eq_true h, List.any_eq_true]
    exact ⟨t, h, WideAt.sameKey_self (keyT_lit t)⟩
  · rw [decide_eq_false h, List.any_eq_false]
    intro s hs e
    have e2 := WideAt.sameKey_eq (show (keyT s).sameKey (keyT t) = true from e)
    injection e2 with e3
    exact h (e3 ▸ hs)

/-- How many it has: as many as there are texts, if none stands twice, else fewer. -/
theorem setT_size (ls : List (List UInt8)) : Maps.size (setT ls) ≤ ls.length ∧ (Maps.size (setT ls) = ls.length ↔ ls.Nodup) := by
  induction hn : ls.length generalizing ls with
  | zero =>
    have : ls = [] := List.eq_nil_of_length_eq_zero hn
    subst this
    exact ⟨by simp [setT_nil, Maps.size], by simp [setT_nil, Maps.size]⟩
  | succ n ih =>
    have hne : ls ≠ [] := by rintro rfl; simp at hn
    obtain ⟨m, t, rfl⟩ : ∃ m t, ls = m ++ [t] := ⟨ls.dropLast, ls.getLast hne, (List.dropLast_concat_getLast hne).symm⟩
    have hm : m.length = n := by simp at hn; omega
    obtain ⟨h1, h2⟩ := ih m hm
    have ht : Tidy (setT m) := tidy_setOf _ _ (keys_lit m)
    rw [setT_snoc, size_put ht, setT_has]
    have hnd : (m ++ [t]).Nodup ↔ m.Nodup ∧ t ∉ m := by
      rw [List.nodup_append]
      constructor
      · rintro ⟨a, _, c⟩
        exact ⟨a, fun h => c t h t (by simp) rfl⟩
      · rintro ⟨a, b⟩
        exact ⟨a, by simp, fun x hx y hy e => by rw [List.mem_singleton.1 hy] at e; exact b (e ▸ hx)⟩
    rw [hnd, ← h2]
    by_cases h : t ∈ m
    · simp only [h, decide_true, if_true, not_true_eq_false, and_false, iff_false]
      omega
    · simp only [h, decide_false, Bool.false_eq_true, if_false, not_false_eq_true, and_true]
      omega

theorem set_made (n : Int) (w : World) : (Instr.makeMap 109 (some (.int .i64 n))).run Try.prog w = .ok (.map (some w.heap.size)) (w.alloc (.map #[] 0)) := by
  simp [Instr.makeMap, run_underlying Try.underlying109, asInt, asIntOf, Result.andThen]

theorem res_small (l : List UInt8) : ∀ t ∈ resT l, t.length ≤ 200 := by
  unfold resT
  split
  · exact allT_small l
  · simp

theorem all_length (l : List UInt8) : (allT l).1.length ≤ l.length + 1 := by
  induction hn : l.length using Nat.strongRecOn generalizing l with
  | _ n ih =>
    by_cases h0 : l = []
    · subst h0; rw [allT_nil]; simp
    · by_cases h : (readT l).2.2 = 0
      · rw [allT_ok h0 h]
        have hm := readT_move l h
        have hp : 0 < l.length := List.length_pos_iff.2 h0
        have := ih _ (by simp only [List.length_drop]; omega) (l.drop (readT l).2.1) rfl
        simp only [List.length_drop] at this
        simp only [List.length_cons]
        omega
      · rw [allT_bad h0 h]; simp

theorem res_length (l : List UInt8) : (resT l).length ≤ l.length + 1 := by
  unfold resT
  split
  · exact all_length l
  · simp

set_option maxRecDepth 10000 in
set_option maxHeartbeats 1600000 in
theorem once_any {w : World} {B : Nat} {A : Option Addr} {l : List UInt8} (h : Rd w B A l) (hB : B ≤ w.heap.size) (c : Nat) (hlen : l.length ≤ 1000000) :
    Calls Try.prog 61 #[.slice A l.length c] w fun r w' => r = .returned (.tuple #[.bool (onceT l), .int .i64 (allT l).2]) ∧ Below w.heap.size w w' := by
  have hA := all_any h hB c hlen
  by_cases he : (allT l).2 = 0
  · have HR := Lib.hid (onceT_ok he)
    have HZ := Lib.hid he
    rw [he] at hA
    rw [he]
    have hrl := res_length l
    have hsm := Lib.hid (res_small l)
    clear h hB he
    generalize resT l = ls at *
    obtain ⟨N, hN⟩ : ∃ N, ls.length = N := ⟨_, rfl⟩
    have HN := Lib.hid hN
    have hN6 : N ≤ 1000001 := by omega
    generalize l.length = n at *
    clear hN hrl hlen
    go_enter Try.func61, Try.ntmps61
    go_wp2_with (go_at_call 45; refine hA.mono ?_; rintro r w1 ⟨u, rfl, hO, hb⟩; (obtain ⟨A1, d1, rfl, _, hx⟩ := owns_at hO); rw [HN.out] at hx ⊢; have hmm := set_made (N : Int) w1; have HX := Lib.hid hx; have HB := Lib.hid hb; clear hO hb hx hA)
    have hs2 : w1.heap.size < (w1.alloc (.map #[] 0)).heap.size := by simp
    have HM0 := Lib.hid (show (w1.alloc (.map #[] 0)).ownsMap Try.prog 9 (unitElem (H := Unit)) w1.heap.size 0 (setT []) from World.ownsMap_made w1 _ _ _)
    have HB0 := Lib.hid (show Below w1.heap.size w1 (w1.alloc (.map #[] 0)) from (Below.refl _ _).alloc (Nat.le_refl _) _)
    go_loopw [22] (fun i wr => ∃ k : Nat, i = .int .i64 k ∧ k ≤ N ∧ Hid (wr.ownsMap Try.prog 9 (unitElem (H := Unit)) w1.heap.size k (setT (ls.take k))) ∧ Hid (Below w1.heap.size w1 wr)) (fun i _ => N - (intOf i).toNat)
    case atStart => exact ⟨0, rfl, Nat.zero_le _, HM0, HB0⟩
    case round =>
      obtain ⟨k, rfl, hk, HM, HBW⟩ := hrel
      by_cases hlt : k < N
      · obtain ⟨gb, rfl, hgb, hxx⟩ := HX.out (by omega)
        obtain ⟨s, hsk⟩ : ∃ s, ls[k]? = some s := ⟨ls[k]'(by rw [HN.out]; exact hlt), List.getElem?_eq_getElem _⟩
        have x1 := (HBW.out.cell (p := ⟨gb, k, none⟩) hgb).trans (hxx k s hsk)
        have h200 := hsm.out s (List.mem_of_getElem? hsk)
        have hkey := key_text s (by unfold maxLen; omega)
        have HT := Lib.hid (show setT (ls.take (k + 1)) = (setT (ls.take k)).put (keyT s) (.agg []) by
          obtain ⟨hk', e⟩ := List.getElem?_eq_some_iff.1 hsk
          rw [List.take_succ_eq_append_getElem hk', setT_snoc, e])
        clear hxx hsk h200
        generalize ByteArray.mk s.toArray = sb at *
        go_wp2_with (at_mapUpdate; refine wpList_mapUpdate_own _ (by rfl) _ _ _ 109 (by rfl) 9 110 string_law Try.underlying109 (unitElem (H := Unit)) w1.heap.size k _ (by rfl) HM.out (by unfold maxLen; omega) _ _ _ (by rfl) (by rfl) hkey _ [] unitElem_mk ?_; intro w2 hown2 hg2)
        have HM2 := Lib.hid (show w2.ownsMap Try.prog 9 (unitElem (H := Unit)) w1.heap.size (k + 1) (setT (ls.take (k + 1))) by rw [HT.out]; exact hown2)
        have HB2 := Lib.hid (show Below w1.heap.size w1 w2 from HBW.out.grown hg2 HBW.out.size (fun x hx => by cases hx; exact Nat.le_refl _))
        clear hown2 hg2
        go_roundw
        case rel => exact ⟨k + 1, by go_num, by omega, HM2, HB2⟩
        case measure => simp [intOf]; omega
      · have hkn : k = N := by omega
        subst hkn
        have hset := setT_size ls
        have HM1 := Lib.hid (show wr.ownsMap Try.prog 9 (unitElem (H := Unit)) w1.heap.size k (setT ls) by have := HM.out; rwa [← HN.out, List.take_length, HN.out] at this)
        have HD := Lib.hid (show ((Maps.size (setT ls) : Int) == (k : Int)) = decide ls.Nodup by
          rw [← HN.out]
          by_cases h : ls.Nodup
          · rw [decide_eq_true h]; simp [hset.2.2 h]
          · have : Maps.size (setT ls) ≠ ls.length := fun e => h (hset.2.1 e)
            rw [decide_eq_false h]; simp; omega)
        have HBE := Lib.hid (HB.out.trans (HBW.out.mono HB.out.size))
        clear hset hlt
        go_wp2_with (at_len; refine wpList_len_own _ (by rfl) _ 109 (by rfl) 9 110 Try.underlying109 _ w1.heap.size k (setT ls) (by rfl) HM1.out ?_)
        go_ret2
        exact ⟨by rw [HR.out, ← HD.out]; rfl, HBE.out⟩
  · have HR := Lib.hid (onceT_bad he)
    have hne : ((allT l).2 != 0) = true := by simp [he]
    clear h hB he
    generalize (allT l).2 = e at *
    generalize l.length = n at *
    go_enter Try.func61, Try.ntmps61
    go_wp2_with (go_at_call 45; refine hA.mono ?_; rintro r w1 ⟨u, rfl, hO, hb⟩; (obtain ⟨A1, d1, rfl, _, hx⟩ := owns_at hO); clear hO hx)
    go_ret2
    exact ⟨by rw [HR.out]; rfl, hb⟩

end Go.Proofs.Ytbggajojhopaaaa
