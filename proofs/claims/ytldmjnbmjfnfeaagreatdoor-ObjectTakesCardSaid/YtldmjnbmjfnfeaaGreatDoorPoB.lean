/-
  The contracts of layer 4's put and Add.
-/
import Derived.Test.YtldmjnbmjfnfeaaGreatDoorPoA
import Derived.Test.YtldmjnbmjfnfeaaGreatDoorPoK
import Derived.Deep.RegionHeldLaw
namespace Go.Proofs.YtldmjnbmjfnfeaaGreatDoor
open Go Go.RowKit Go.Maps

section
variable {w w1 : World} {base g mb n : Nat} {v : Value} {l : List UInt8}
theorem box_past_row {t : TypeId} {cs : Array Value} (hb : Box w g t cs) (hown : Own w base v l) (ht : 5 ≠ t) (hg : w.grownBy w1 v.ownBlock) : Box w1 g t cs := hb.grown hg (own_other hown hb ht).symm

theorem own_no_map {D : DataW Unit} (hown : Own w base v l) (hm : w.ownsMap Tryz.prog 9 (plainElem Tryz.prog 37) mb n D) : some mb ≠ v.ownBlock := by
  obtain ⟨es, c, h1, _⟩ := hm
  rcases hown.2 with ⟨rfl, _⟩ | ⟨g', cap, cur, rfl, _, hh, _⟩
  · simp [Value.ownBlock]
  · intro e
    have e' : mb = g' := by simpa [Value.ownBlock] using e
    subst e'
    rw [h1] at hh
    cases hh

theorem box_no_map {D : DataW Unit} {t : TypeId} {cs : Array Value} (hb : Box w g t cs) (hm : w.ownsMap Tryz.prog 9 (plainElem Tryz.prog 37) mb n D) : g ≠ mb := by
  obtain ⟨es, c, h1, _⟩ := hm
  rintro rfl
  unfold Box at hb
  rw [h1] at hb
  cases hb

theorem own_turns (hown : Own w base v l) (hg : w.grownBy w1 v.ownBlock) (hb : base ≤ w.heap.size) : Only base PoolObj w w1 := by
  rcases hown.2 with ⟨rfl, _⟩ | ⟨g', cap, cur, rfl, hgb, hh, _⟩
  · exact Only.below (below_of_only hg (Nat.le_refl _) (by simp [Value.ownBlock])) hb
  · exact Only.row (g := g') hg hh (.inl rfl) hgb

theorem pool_onto {v1 : Value} {ls : List (List UInt8)} {m : List UInt8} (h : PoolAt w base g mb v ls) (ho : Onto w w1 base v v1 (putsT ls) m) : PoolAt w1 base g mb v ls := by
  obtain ⟨p1, p2, p3, ⟨D, p4, p5⟩, p6, p7⟩ := h
  exact ⟨box_past_row p1 p6 (by decide) ho.1.2.1, p2, p3, ⟨D, p4.kept ho.1.2.1 (own_no_map p6 p4), p5⟩, ho.2.1, p7⟩
end

set_option maxRecDepth 10000 in
set_option maxHeartbeats 1600000 in
theorem pput_at {w : World} {base g mb : Nat} {v : Value} {ls : List (List UInt8)} (h : PoolAt w base g mb v ls) (t : List UInt8) (hr : rightT t = true) (hf : findT ls t = none) :
    Calls Tryz.prog 127 #[.pointer (some ⟨g, 0, none⟩), .string ⟨t.toArray⟩] w fun r w' =>
      r = .returned (.tuple #[.int .u64 (((addT ls t).2.1 : Nat) : Int), .int .i64 (addT ls t).2.2]) ∧ (∃ v', PoolAt w' base g mb v' (addT ls t).1) ∧ Only base PoolObj w w' := by
  have hrs := rightT_spec hr
  have hgb : base ≤ w.heap.size := Nat.le_trans h.2.1 (Nat.le_of_lt h.1.lt)
  have hlen := pool_len h
  have hgood := h.2.2.2.2.2
  have hP := putt_onto h.2.2.2.2.1 hgb t (by have := hgood.2.1; omega)
  have hml : (putsT ls ++ putT t).length = spanT ls + t.length + 1 := by rw [List.length_append, hlen, hrs.2.2]; simp; omega
  have c1 := h.1.cell 1
  simp at c1
  obtain ⟨A, c, hv, _, _, _⟩ := own_slice h.2.2.2.2.1
  by_cases hb : 65536 < spanT ls + t.length + 1
  · rw [addT_big hr hf hb]
    have hd : (65536 : Int) < ((putsT ls ++ putT t).length : Int) := by omega
    have HH := Lib.hid h
    clear hrs hgood hml hlen hr hf hb h hv
    go_enter Tryz.func127, Tryz.ntmps127
    go_wp2_with (go_at_call 137; refine hP.mono ?_; rintro r w1 ⟨v1, rfl, ho⟩; have HO := Lib.hid ho; (obtain ⟨A1, d1, rfl, _, _, _⟩ := own_slice ho.1.1); clear ho; generalize (putsT ls ++ putT t).length = m at *)
    go_ret2
    exact ⟨rfl, ⟨v, pool_onto HH.out HO.out⟩, own_turns HH.out.2.2.2.2.1 HO.out.1.2.1 hgb⟩
  · rw [addT_new hr hf hb]
    have hd : ¬ (65536 : Int) < ((putsT ls ++ putT t).length : Int) := by omega
    have HH := Lib.hid h
    have HT := Lib.hid (show GoodT (ls ++ [t]) from goodT_snoc hgood hr hf hb)
    have HF := Lib.hid hf
    have HLN := Lib.hid hlen
    have HKEY := Lib.hid (key_text t (by unfold maxLen; omega))
    have hCl := fun W => sclone_str t W (by omega)
    have HPT := Lib.hid (show putsT (ls ++ [t]) = putsT ls ++ putT t by rw [putsT_append]; simp [putsT])
    have hn48 : (putsT ls).length ≤ 65536 := by have := hgood.2.1; omega
    subst hv
    clear hrs hgood hml hr hf hb h hlen
    go_enter Tryz.func127, Tryz.ntmps127
    have HST := Lib.hid (fun (W2 : World) (v1 : Value) (hp : PoolAt W2 base g mb (.slice A (putsT ls).length c) ls) (ho : Own W2 base v1 (putsT ls ++ putT t)) => (by
      obtain ⟨p1, p2, p3, ⟨D, p4, p5⟩, p6, p7⟩ := hp
      obtain ⟨W3, hrun, hown, hturn⟩ := p4.store string_law Tryz.underlying197 (by have := goodT_length p7; unfold maxLen; omega) HKEY.out (plainElem_int (H := Unit) (P := Tryz.prog) Tryz.underlying37 (q := .u64) (a := (((putsT ls).length : Nat) : Int)) (WalkArith.wf_u64 (by omega)))
      have hg3 := hturn.grown
      have hb3 : Box W3 g 199 #[.map (some mb), .slice A (putsT ls).length c] := p1.grown hg3 (by have := box_no_map p1 p4; simpa using this)
      have ho3 : Own W3 base v1 (putsT ls ++ putT t) := World.ownsRow.kept (w := W2) ho hg3 (.inr (own_no_map ho p4).symm)
      have hset := only_set (only_refl W3 (some g)) 1 v1
      refine ⟨W3, hrun, hb3.cell 0, hb3.cell 1, hb3.free 1, ⟨by simpa using hb3.set 1 v1, p2, p3, ⟨_, ?_, tells_snoc p5 HF.out⟩, ?_, HT.out⟩, ?_⟩
      · rw [← HLN.out]
        simpa using hown.kept hset (by have := box_no_map p1 p4; simpa using fun e : mb = g => this e.symm)
      · rw [HPT.out]
        exact World.ownsRow.kept (w := W3) ho3 hset (.inr (own_other ho3 hb3 (by decide)))
      · have hm := p4
        obtain ⟨es, cl, hm1, _⟩ := hm
        exact (Only.row (g := mb) hg3 hm1 trivial p3).trans (Only.row (g := g) hset hb3 (.inr rfl) p2) : ∃ W3, (Instr.mapUpdate 197 (.map (some mb)) (.string ⟨t.toArray⟩) (.int .u64 (((putsT ls).length : Nat) : Int))).run Tryz.prog W2 = .ok () W3 ∧ W3.cell? ⟨g, 0, none⟩ = some (.map (some mb)) ∧ W3.cell? ⟨g, 1, none⟩ = some (.slice A (putsT ls).length c) ∧ W3.frozen? ⟨g, 1, none⟩ = false ∧
        PoolAt (W3.setCell ⟨g, 1, none⟩ v1) base g mb v1 (ls ++ [t]) ∧ Only base PoolObj W2 (W3.setCell ⟨g, 1, none⟩ v1)))
    go_wp2_with (go_at_call 137; refine hP.mono ?_; rintro r w1 ⟨v1, rfl, ho⟩; have HO := Lib.hid ho; (have c11 := (pool_onto HH.out ho).1.cell 1); (have c10 := (pool_onto HH.out ho).1.cell 0); simp at c10 c11; have HS1 := HST.out; (obtain ⟨A1, d1, rfl, _, _, _⟩ := own_slice ho.1.1); clear ho; generalize (putsT ls ++ putT t).length = m at *)
    go_region_held_law (fun W => W.cell? ⟨g, 0, none⟩ = some (.map (some mb))) (assumption) (first
      | (go_at_call 138; refine (hCl _).mono ?_; rintro r w2 ⟨rfl, hb2⟩; have HB2 := Lib.hid (show Below w1.heap.size w1 w2 from ((Below.refl w1.heap.size w1).drew).trans hb2); (obtain ⟨w3, hrun3, e0, e1, f1, hp3, ho3⟩ := HS1 w2 _ ((pool_onto HH.out HO.out).below HB2.out) (World.ownsRow.kept (w := w1) HO.out.1.1 (only_below HB2.out none) (Classical.em _))); have HP3 := Lib.hid hp3; have HO3 := Lib.hid ho3; have c20 := ((pool_onto HH.out HO.out).below HB2.out).1.cell 0; simp at c20 e0; clear hp3 ho3 hb2))
    go_wp2
    go_ret2
    exact ⟨by rw [← HLN.out]; rfl, ⟨_, HP3.out⟩, (own_turns HH.out.2.2.2.2.1 HO.out.1.2.1 hgb).trans ((Only.below HB2.out (Nat.le_trans hgb HO.out.1.2.1.size)).trans HO3.out)⟩

set_option maxRecDepth 10000 in
set_option maxHeartbeats 1600000 in
theorem add_at {w : World} {base g mb : Nat} {v : Value} {ls : List (List UInt8)} (h : PoolAt w base g mb v ls) (t : List UInt8) (ht : t.length ≤ 140737488355328) :
    Calls Tryz.prog 102 #[.pointer (some ⟨g, 0, none⟩), .string ⟨t.toArray⟩] w fun r w' =>
      r = .returned (.tuple #[.int .u64 (((addT ls t).2.1 : Nat) : Int), .int .i64 (addT ls t).2.2]) ∧ (∃ v', PoolAt w' base g mb v' (addT ls t).1) ∧ Only base PoolObj w w' := by
  have hM := made_at h
  have hR := fun W => right_any t W ht
  have c0 := h.1.cell 0
  simp at c0
  have HH := Lib.hid h
  by_cases hr : rightT t = true
  · rw [hr] at hR
    obtain ⟨D, hown, _, _, hh, hat⟩ := h.2.2.2.1
    have hkey := key_text t (by have := (rightT_spec hr).1; unfold maxLen; omega)
    have hh1 := hh t
    rcases hf : findT ls t with _ | p
    · have hP := pput_at h t hr hf
      rw [hf] at hh1
      simp only [Option.isSome_none] at hh1
      clear hat hh h ht hf hr
      generalize addT ls t = q at *
      generalize ByteArray.mk t.toArray = b at *
      go_enter Tryz.func102, Tryz.ntmps102
      go_wp2_with (first
        | (go_at_call 126; refine hM.mono ?_; rintro r w' ⟨rfl, rfl⟩)
        | (go_at_call 115; refine (hR _).mono ?_; rintro r w' ⟨rfl, rfl⟩)
        | (go_at_call 127; refine hP.mono ?_; rintro r w' ⟨rfl, hv, ho⟩)
        | (at_lookup; refine wpList_lookup_own_ok_int _ (by rfl) _ _ 197 (by rfl) 9 37 .u64 string_law Tryz.underlying197 Tryz.underlying37 (zero_u64 _) mb ls.length D (by rfl) hown _ _ (by rfl) hkey ?_; intro c hatc hwc; rw [hh1]; clear hatc hwc))
      go_ret2
      exact ⟨rfl, hv, ho⟩
    · rw [addT_there hr hf]
      have HAT := Lib.hid (hat t)
      rw [hf] at hh1 HAT
      simp only [Option.isSome_some] at hh1
      clear hat hh h ht hf hr
      generalize ByteArray.mk t.toArray = b at *
      go_enter Tryz.func102, Tryz.ntmps102
      go_wp2_with (first
        | (go_at_call 126; refine hM.mono ?_; rintro r w' ⟨rfl, rfl⟩)
        | (go_at_call 115; refine (hR _).mono ?_; rintro r w' ⟨rfl, rfl⟩)
        | (at_lookup; refine wpList_lookup_own_ok_int _ (by rfl) _ _ 197 (by rfl) 9 37 .u64 string_law Tryz.underlying197 Tryz.underlying37 (zero_u64 _) mb ls.length D (by rfl) hown _ _ (by rfl) hkey ?_; intro c hatc hwc; rw [hh1]; have e : c = (p : Int) := (by have := HAT.out; rw [hatc] at this; injection this with this; injection this); subst e; clear hatc hwc))
      go_ret2
      exact ⟨rfl, ⟨v, HH.out⟩, Only.refl _ _ _⟩
  · have hr' : rightT t = false := by simpa using hr
    rw [addT_wrong hr']
    rw [hr'] at hR
    clear h ht hr hr'
    generalize ByteArray.mk t.toArray = b at *
    go_enter Tryz.func102, Tryz.ntmps102
    go_wp2_with (first
      | (go_at_call 126; refine hM.mono ?_; rintro r w' ⟨rfl, rfl⟩)
      | (go_at_call 115; refine (hR _).mono ?_; rintro r w' ⟨rfl, rfl⟩))
    go_ret2
    exact ⟨rfl, ⟨v, HH.out⟩, Only.refl _ _ _⟩

end Go.Proofs.YtldmjnbmjfnfeaaGreatDoor
