/-
  A region that draws its order: region_ex, where the condition on the world, too, may hang on how far the region has come.
-/
import Derived.OrdersHeld
import Derived.RegionTactic
import Derived.WalkKit
namespace Go.Proofs.YtejicboemkpeoaaDoor
open Go Go.RowKit

section
variable {P : Program} {md : Region.Mode} {ops : Array Oper} {Q : Exit → Act → World → Prop}

theorem filter_set_lt {l : Array Bool} {i : Nat} (hi : i < l.size) (h : l.getD i true = false) : ((l.setIfInBounds i true).toList.filter (fun b => !b)).length < (l.toList.filter (fun b => !b)).length := by
  obtain ⟨l⟩ := l
  simp only [List.setIfInBounds_toArray, List.size_toArray] at hi ⊢
  have h' : l[i] = false := by simpa [Array.getD, hi] using h
  clear h
  induction l generalizing i with
  | nil => simp at hi
  | cons b l ih =>
    cases i with
    | zero =>
      simp at h'
      subst h'
      simp
    | succ i =>
      have := ih (by simpa using hi) (by simpa using h')
      cases b <;> simp at this ⊢ <;> omega

/-- By an invariant of what has come up, the frame and the world. -/
theorem wpAny_inv {Inv : Array Bool → Act → World → Prop}
    (hstep : ∀ listed a w, listed.size = ops.size → Inv listed a w → ∀ i, i ∈ Region.ready md ops listed → wpOp P ops Q i (Inv (listed.setIfInBounds i true)) a w)
    (hend : ∀ listed a w, listed.size = ops.size → Inv listed a w → Region.ready md ops listed = [] → Q .normal a w) :
    ∀ (fuel : Nat) (listed : Array Bool) (a : Act) (w : World), listed.size = ops.size → (listed.toList.filter (fun b => !b)).length ≤ fuel → Inv listed a w → wpAny P md ops Q fuel listed a w
  | 0, listed, a, w, hs, hf, h => by
    have hr : Region.ready md ops listed = [] := by
      rw [List.eq_nil_iff_forall_not_mem]
      intro j hj
      obtain ⟨hu, o, ho, _⟩ := mem_ready.1 hj
      obtain ⟨hjs, _⟩ := Array.getElem?_eq_some_iff.1 ho
      have := filter_set_lt (by omega) hu
      omega
    exact ⟨hr, hend listed a w hs h hr⟩
  | fuel + 1, listed, a, w, hs, hf, h => by
    refine ⟨hend listed a w hs h, fun i hi => wpOp_mono (fun a' w' h' => ?_) (hstep listed a w hs h i hi)⟩
    obtain ⟨hu, o, ho, _⟩ := mem_ready.1 hi
    obtain ⟨hjs, _⟩ := Array.getElem?_eq_some_iff.1 ho
    have := filter_set_lt (l := listed) (i := i) (by omega) hu
    exact wpAny_inv hstep hend fuel _ a' w' (by simpa using hs) (by omega) h'
end

section
variable {P : Program} {l : List Oper} {Q : Exit → Act → World → Prop}
/-- Where an operation lays its value. -/
def dstOf (l : List Oper) (i : Nat) : Option Tmp := (l[i]?).bind (·.dst)
def slotOf (l : List Oper) (a : Act) (i : Nat) : Value := match dstOf l i with | some t => a.tmps.getD t undef | none => undef
/-- No slot is written twice, and each is one of the frame's; no operation is guarded. -/
def dstsOk (l : List Oper) (N : Nat) : Bool :=
  ((List.range l.length).all fun i => (List.range l.length).all fun j => i == j || dstOf l i == none || !(dstOf l i == dstOf l j)) && l.all fun o => o.guard.isNone && match o.dst with | some t => decide (t < N) | none => true
/-- Each operation waits for some ahead of it alone. -/
def aheadOk (l : List Oper) : Bool := (List.range l.length).all fun i => match l[i]? with | some o => o.after.all fun e => !(Region.binds .any e) || decide (e.on < i) | none => true
/-- All slots but those that the region writes are as they were. -/
def KeptBut (l : List Oper) (a0 a : Act) : Prop := ∀ t, (∀ i, i < l.length → dstOf l i ≠ some t) → a.tmps.getD t undef = a0.tmps.getD t undef

theorem slot_some {a : Act} {N t : Nat} {v : Value} (hN : a.tmps.size = N) (ht : t < N) (h : a.tmps.getD t undef = v) : a.tmps[t]? = some v := by
  have h' : t < a.tmps.size := by omega
  rw [Array.getElem?_eq_getElem h', ← h]
  simp [Array.getD, h']
theorem all_up {listed : Array Bool} (ha : aheadOk l = true) (hs : listed.size = l.length) (hr : Region.ready .any l.toArray listed = []) : ∀ i, i < l.length → listed.getD i false = true := by
  intro i
  induction i using Nat.strongRecOn with
  | _ i ih =>
    intro hi
    have hib : i < listed.size := by rw [hs]; exact hi
    cases hu : listed.getD i false with
    | true => rfl
    | false =>
      exfalso
      obtain ⟨o, ho⟩ : ∃ o, l[i]? = some o := ⟨_, List.getElem?_eq_getElem hi⟩
      have hao := List.all_eq_true.1 ha i (by simpa using hi)
      rw [ho] at hao
      have hmem : i ∈ Region.ready .any l.toArray listed := by
        refine mem_ready.2 ⟨?_, o, by simpa using ho, fun e he hb => ?_⟩
        · simpa [Array.getD, hib] using hu
        · obtain ⟨k, hk, rfl⟩ := Array.mem_iff_getElem.1 he
          have := Array.all_eq_true.1 hao k hk
          rw [hb] at this
          exact ih _ (by simpa using this) (by have : (o.after[k]).on < i := by simpa using this
                                               omega)
      rw [hr] at hmem
      cases hmem

/-- A slot that the region does not write. -/
def noDst (l : List Oper) (t : Tmp) : Bool := (List.range l.length).all fun i => !(dstOf l i == some t)
theorem kept_at {a0 a : Act} {t : Tmp} (hk : KeptBut l a0 a) (h : noDst l t = true) : a.tmps.getD t undef = a0.tmps.getD t undef :=
  hk t fun i hi e => by
    have := List.all_eq_true.1 h i (List.mem_range.2 hi)
    rw [e] at this
    simp at this

/-- Slots laid over others. -/
def laySlots (F : Tmp → Value) : List Tmp → Array Value → Array Value
  | [], t => t
  | d :: ds, t => laySlots F ds (t.setIfInBounds d (F d))
theorem laySlots_size (F : Tmp → Value) : ∀ (ds : List Tmp) (t : Array Value), (laySlots F ds t).size = t.size
  | [], _ => rfl
  | d :: ds, t => by rw [laySlots, laySlots_size F ds]; simp
theorem laySlots_get (F : Tmp → Value) (k : Nat) : ∀ (ds : List Tmp) (t : Array Value), k < t.size → (laySlots F ds t).getD k undef = if k ∈ ds then F k else t.getD k undef
  | [], _, _ => by simp [laySlots]
  | d :: ds, t, hk => by
    rw [laySlots, laySlots_get F k ds _ (by simpa using hk)]
    by_cases h1 : k ∈ ds
    · rw [if_pos h1, if_pos (List.mem_cons_of_mem _ h1)]
    · rw [if_neg h1]
      by_cases h2 : k = d
      · subst h2
        rw [if_pos List.mem_cons_self]
        simp [Array.getD_eq_getD_getElem?, hk]
      · rw [if_neg (by simp [h1, h2])]
        have hne : d ≠ k := fun e => h2 e.symm
        simp [Array.getD_eq_getD_getElem?, hne]
theorem getD_lt (t : Array Value) (k : Nat) (h : k < t.size) : t[k] = t.getD k undef := by simp [Array.getD, h]
/-- The frame behind a region: the old one, and the slots that it wrote. -/
theorem act_eq {a0 a : Act} {N : Nat} (ds : List Tmp) (hN : a.tmps.size = N) (h0 : a0.tmps.size = N) (hdf : a.defers = a0.defers) (hk : KeptBut l a0 a) (hds : ((List.range l.length).all fun i => match dstOf l i with | some t => ds.contains t | none => true) = true) :
    a = ⟨laySlots (fun t => a.tmps.getD t undef) ds a0.tmps, a0.defers⟩ := by
  obtain ⟨ts, df⟩ := a
  simp only at hdf hN
  subst hdf
  congr 1
  apply Array.ext
  · rw [laySlots_size, hN, h0]
  · intro k h1 h2
    have h3 := laySlots_get (fun t => ts.getD t undef) k ds a0.tmps (by omega)
    rw [getD_lt ts k h1, getD_lt _ k h2]
    refine Eq.trans ?_ h3.symm
    by_cases hnk : k ∈ ds
    · rw [if_pos hnk]
    · rw [if_neg hnk]
      refine hk k fun i hi e => hnk ?_
      have := List.all_eq_true.1 hds i (List.mem_range.2 hi)
      rw [e] at this
      simpa using this

theorem region_inv {id : Nat} {a0 : Act} {w0 : World} (N : Nat) (S : Nat → Value → World → Prop) (Good : World → Prop) (hm : P.follows .mixedOrders = true) (hN : a0.tmps.size = N) (hd : dstsOk l N = true) (ha : aheadOk l = true) (hg : Good w0.drew)
    (hstep : ∀ i o, l[i]? = some o → ∀ a w, a.tmps.size = N → KeptBut l a0 a → Good w → (∀ e ∈ o.after, Region.binds .any e = true → S e.on (slotOf l a e.on) w) →
      ∀ K : Act → World → Prop, (∀ v w', Good w' → S i (if o.dst.isSome then v else undef) w' → (∀ j u, S j u w → S j u w') → K (a.put o.dst v) w') → Oper.wp P o a w K Q)
    (hend : ∀ a w, a.tmps.size = N → a.defers = a0.defers → KeptBut l a0 a → Good w → (∀ i, i < l.length → S i (slotOf l a i) w) → Q .normal a w) :
    (Code.region id l.toArray true).wp P Q a0 w0 := by
  simp only [dstsOk, Bool.and_eq_true, List.all_eq_true, List.mem_range, Bool.or_eq_true, Bool.not_eq_true', beq_iff_eq] at hd
  obtain ⟨hd1, hd2⟩ := hd
  have hdi : ∀ i o, l[i]? = some o → dstOf l i = o.dst := fun i o ho => by simp [dstOf, ho]
  refine wp_region_any hm (wpAny_inv (Inv := fun listed a w => a.tmps.size = N ∧ a.defers = a0.defers ∧ KeptBut l a0 a ∧ Good w ∧ ∀ i, listed.getD i false = true → S i (slotOf l a i) w) ?_ ?_ _ _ _ _ (by simp) (by simp) ⟨hN, rfl, fun _ _ => rfl, hg, fun i hi => ?_⟩)
  · rintro listed a w hs ⟨h1, h2, h3, h4, h5⟩ i hi
    obtain ⟨hu, o, ho, hall⟩ := mem_ready.1 hi
    have hol : l[i]? = some o := by simpa using ho
    have hil : i < l.length := (List.getElem?_eq_some_iff.1 hol).1
    have hom := List.mem_of_getElem? hol
    obtain ⟨hgd, hdt⟩ := hd2 o hom
    refine wpOp_step ho fun K' hK => ?_
    rw [if_pos (by simp only [Region.wanted]; cases hgu : o.guard with | none => rfl | some x => rw [hgu] at hgd; cases hgd)]
    refine hstep i o hol a w h1 h3 h4 (fun e he hb => h5 _ (hall e he hb)) K' fun v w' g1 g2 g3 => hK _ _ ⟨?_, ?_, ?_, g1, ?_⟩
    · cases hod : o.dst with
      | none => exact h1
      | some t => simpa [Act.put] using h1
    · cases hod : o.dst with
      | none => exact h2
      | some t => exact h2
    · intro t ht
      rw [← h3 t ht]
      have := ht i hil
      rw [hdi i o hol] at this
      cases hod : o.dst with
      | none => rfl
      | some t' =>
        rw [hod] at this
        have hne : t' ≠ t := fun e => this (by rw [e])
        simp [Act.put, Array.getD_eq_getD_getElem?, hne]
    · intro j hj
      by_cases hji : j = i
      · subst hji
        have : slotOf l (a.put o.dst v) j = if o.dst.isSome then v else undef := by
          unfold slotOf
          rw [hdi j o hol]
          cases hod : o.dst with
          | none => rfl
          | some t =>
            rw [hod] at hdt
            have ht : t < N := by simpa using hdt
            simp [Act.put, Array.getD_eq_getD_getElem?, h1, ht]
        rw [this]; exact g2
      · have hj' : listed.getD j false = true := by
          have hne : i ≠ j := fun e => hji e.symm
          simpa [Array.getD_eq_getD_getElem?, Array.getElem?_setIfInBounds, hne] using hj
        have : slotOf l (a.put o.dst v) j = slotOf l a j := by
          unfold slotOf
          cases hdj : dstOf l j with
          | none => rfl
          | some t =>
            have hjl : j < l.length := by
              rcases Nat.lt_or_ge j l.length with h | h
              · exact h
              · rw [dstOf, List.getElem?_eq_none h] at hdj; cases hdj
            cases hod : o.dst with
            | none => rfl
            | some t' =>
              have := hd1 i hil j hjl
              rw [hdi i o hol, hdj, hod] at this
              have hne : t' ≠ t := by
                rcases this with (h | h) | h
                · exact absurd h.symm hji
                · cases h
                · intro e; subst e; simp at h
              simp [Act.put, Array.getD_eq_getD_getElem?, hne]
        rw [this]
        exact g3 _ _ (h5 j hj')
  · rintro listed a w hs ⟨h1, h2, h3, h4, h5⟩ hr
    have hall := all_up ha (by simpa using hs) hr
    exact hend a w h1 h2 h3 h4 fun i hi => h5 i (hall i hi)
  · exfalso
    rw [Array.getD_eq_getD_getElem?, Array.getElem?_replicate] at hi
    split at hi <;> simp at hi

/-! ### Guards, and what is only known once some operation has come up -/
/-- As dstsOk, guards or no guards. -/
def dstsG (l : List Oper) (N : Nat) : Bool :=
  ((List.range l.length).all fun i => (List.range l.length).all fun j => i == j || dstOf l i == none || !(dstOf l i == dstOf l j)) && l.all fun o => match o.dst with | some t => decide (t < N) | none => true
/-- Does the operation j wait for i, be it through others? -/
def waitsF (l : List Oper) (i : Nat) : Nat → Nat → Bool
  | 0, _ => false
  | f + 1, j => match l[j]? with
    | some o => o.after.any fun e => Region.binds .any e && (e.on == i || waitsF l i f e.on)
    | none => false
theorem waits_up {i : Nat} {listed : Array Bool} (hclo : ∀ k o, l[k]? = some o → listed.getD k false = true → ∀ e ∈ o.after, Region.binds .any e = true → listed.getD e.on false = true) : ∀ (f j : Nat), waitsF l i f j = true → listed.getD j false = true → listed.getD i false = true
  | 0, _, h, _ => by cases h
  | f + 1, j, h, hj => by
    unfold waitsF at h
    split at h
    · rename_i o ho
      obtain ⟨m, hm, he⟩ := Array.any_eq_true.1 h
      simp only [Bool.and_eq_true, Bool.or_eq_true, beq_iff_eq] at he
      have hl := hclo j o ho hj _ (Array.getElem_mem hm) he.1
      rcases he.2 with e | e
      · rwa [e] at hl
      · exact waits_up hclo f _ e hl
    · cases h

/-- As region_inv, where guards are, and where what holds hangs on a value that some operation tells (a call's answer): behind that operation it may be another, for all that can have come up ahead of it. R: what is so of an operation as long as it has not come up. -/
theorem region_ex {β : Type} {id : Nat} {a0 : Act} {w0 : World} (N : Nat) (S : β → Nat → Value → World → Prop) (Good : World → Prop) (R : β → Nat → Prop) (b0 : β) (hR : ∀ i, R b0 i) (hm : P.follows .mixedOrders = true) (hN : a0.tmps.size = N) (hd : dstsG l N = true) (ha : aheadOk l = true) (hg : Good w0.drew)
    (hstep : ∀ i o, l[i]? = some o → ∀ b a w, a.tmps.size = N → KeptBut l a0 a → Good w → R b i → (∀ e ∈ o.after, Region.binds .any e = true → S b e.on (slotOf l a e.on) w) →
      ∀ K : Act → World → Prop, (∀ v w' b', Good w' → S b' i (if o.dst.isSome then v else undef) w' → (∀ j u, j ≠ i → waitsF l i l.length j = false → S b j u w → S b' j u w') → (∀ j, j ≠ i → R b j → R b' j) → K (a.put o.dst v) w') → if Region.wanted o (yielded l.toArray a.tmps) = true then Oper.wp P o a w K Q else K (a.put o.dst undef) w)
    (hend : ∀ b a w, a.tmps.size = N → a.defers = a0.defers → KeptBut l a0 a → Good w → (∀ i, i < l.length → S b i (slotOf l a i) w) → Q .normal a w) :
    (Code.region id l.toArray true).wp P Q a0 w0 := by
  simp only [dstsG, Bool.and_eq_true, List.all_eq_true, List.mem_range, Bool.or_eq_true, Bool.not_eq_true', beq_iff_eq] at hd
  obtain ⟨hd1, hd2⟩ := hd
  have hdi : ∀ i o, l[i]? = some o → dstOf l i = o.dst := fun i o ho => by simp [dstOf, ho]
  refine wp_region_any hm (wpAny_inv (Inv := fun listed a w => a.tmps.size = N ∧ a.defers = a0.defers ∧ KeptBut l a0 a ∧ Good w ∧ (∃ b, (∀ i, listed.getD i false = true → S b i (slotOf l a i) w) ∧ ∀ i, listed.getD i false = false → R b i) ∧ ∀ i o, l[i]? = some o → listed.getD i false = true → ∀ e ∈ o.after, Region.binds .any e = true → listed.getD e.on false = true) ?_ ?_ _ _ _ _ (by simp) (by simp) ?_)
  · rintro listed a w hs ⟨h1, h2, h3, h4, ⟨b, h5, h6⟩, hclo⟩ i hi
    obtain ⟨hu, o, ho, hall⟩ := mem_ready.1 hi
    have hol : l[i]? = some o := by simpa using ho
    have hil : i < l.length := (List.getElem?_eq_some_iff.1 hol).1
    have hib : i < listed.size := by rw [hs]; simpa using hil
    have huf : listed.getD i false = false := by simpa [Array.getD, hib] using hu
    have hom := List.mem_of_getElem? hol
    have hdt := hd2 o hom
    have hset : ∀ j, (listed.setIfInBounds i true).getD j false = if j = i then true else listed.getD j false := fun j => by
      by_cases hji : j = i
      · subst hji; simp [Array.getD_eq_getD_getElem?, hib]
      · have hne : i ≠ j := fun e => hji e.symm
        rw [if_neg hji]
        simp [Array.getD_eq_getD_getElem?, hne]
    refine wpOp_step ho fun K' hK => hstep i o hol b a w h1 h3 h4 (h6 i huf) (fun e he hb => h5 _ (hall e he hb)) K' fun v w' b' g1 g2 g3 g4 => hK _ _ ⟨?_, ?_, ?_, g1, ⟨b', ?_, fun j hj => ?_⟩, ?_⟩
    · cases hod : o.dst with
      | none => exact h1
      | some t => simpa [Act.put] using h1
    · cases hod : o.dst with
      | none => exact h2
      | some t => exact h2
    · intro t ht
      rw [← h3 t ht]
      have := ht i hil
      rw [hdi i o hol] at this
      cases hod : o.dst with
      | none => rfl
      | some t' =>
        rw [hod] at this
        have hne : t' ≠ t := fun e => this (by rw [e])
        simp [Act.put, Array.getD_eq_getD_getElem?, hne]
    · intro j hj
      by_cases hji : j = i
      · subst hji
        have : slotOf l (a.put o.dst v) j = if o.dst.isSome then v else undef := by
          unfold slotOf
          rw [hdi j o hol]
          cases hod : o.dst with
          | none => rfl
          | some t =>
            rw [hod] at hdt
            have ht : t < N := by simpa using hdt
            simp [Act.put, Array.getD_eq_getD_getElem?, h1, ht]
        rw [this]; exact g2
      · have hj' : listed.getD j false = true := by rw [hset, if_neg hji] at hj; exact hj
        have hwf : waitsF l i l.length j = false := by
          cases hw : waitsF l i l.length j with
          | false => rfl
          | true =>
            have := waits_up hclo _ _ hw hj'
            rw [huf] at this; cases this
        have : slotOf l (a.put o.dst v) j = slotOf l a j := by
          unfold slotOf
          cases hdj : dstOf l j with
          | none => rfl
          | some t =>
            have hjl : j < l.length := by
              rcases Nat.lt_or_ge j l.length with h | h
              · exact h
              · rw [dstOf, List.getElem?_eq_none h] at hdj; cases hdj
            cases hod : o.dst with
            | none => rfl
            | some t' =>
              have := hd1 i hil j hjl
              rw [hdi i o hol, hdj, hod] at this
              have hne : t' ≠ t := by
                rcases this with (h | h) | h
                · exact absurd h.symm hji
                · cases h
                · intro e; subst e; simp at h
              simp [Act.put, Array.getD_eq_getD_getElem?, hne]
        rw [this]
        exact g3 _ _ hji hwf (h5 j hj')
    · rw [hset] at hj
      by_cases hji : j = i
      · rw [if_pos hji] at hj; cases hj
      · rw [if_neg hji] at hj
        exact g4 j hji (h6 j hj)
    · intro k o' hk hlk e he hb
      rw [hset] at hlk ⊢
      split
      · rfl
      · by_cases hki : k = i
        · subst hki
          rw [hol] at hk
          injection hk with hk
          subst hk
          exact hall e he hb
        · rw [if_neg hki] at hlk
          exact hclo k o' hk hlk e he hb
  · rintro listed a w hs ⟨h1, h2, h3, h4, ⟨b, h5, h6⟩, hclo⟩ hr
    have hall := all_up ha (by simpa using hs) hr
    exact hend b a w h1 h2 h3 h4 fun i hi => h5 i (hall i hi)
  · have hno : ∀ i, (Array.replicate l.toArray.size false).getD i false = false := fun i => by
      rw [Array.getD_eq_getD_getElem?, Array.getElem?_replicate]
      split <;> rfl
    exact ⟨hN, rfl, fun _ _ => rfl, hg, ⟨b0, fun i hi => (by rw [hno] at hi; cases hi), fun i _ => hR i⟩, fun i o ho h => (by rw [hno] at h; cases h)⟩

end
end Go.Proofs.YtejicboemkpeoaaDoor

namespace Go.Proofs.YtejicboemkpeoaaDoor
open Go Go.RowKit

section
variable {P : Program} {md : Region.Mode} {ops : Array Oper} {Q : Exit → Act → World → Prop} {l : List Oper}

/-- As region_ex, where what is so of the world hangs on how far the region has come, too. What holds hangs on a value that some operation tells (a call's answer): behind that operation it may be another, for all that can have come up ahead of it. R: what is so of an operation as long as it has not come up. -/
theorem region_ey {β : Type} {id : Nat} {a0 : Act} {w0 : World} (N : Nat) (S : β → Nat → Value → World → Prop) (Good : β → World → Prop) (R : β → Nat → Prop) (b0 : β) (hR : ∀ i, R b0 i) (hm : P.follows .mixedOrders = true) (hN : a0.tmps.size = N) (hd : dstsG l N = true) (ha : aheadOk l = true) (hg : Good b0 w0.drew)
    (hstep : ∀ i o, l[i]? = some o → ∀ b a w, a.tmps.size = N → KeptBut l a0 a → Good b w → R b i → (∀ e ∈ o.after, Region.binds .any e = true → S b e.on (slotOf l a e.on) w) →
      ∀ K : Act → World → Prop, (∀ v w' b', Good b' w' → S b' i (if o.dst.isSome then v else undef) w' → (∀ j u, j ≠ i → waitsF l i l.length j = false → S b j u w → S b' j u w') → (∀ j, j ≠ i → R b j → R b' j) → K (a.put o.dst v) w') → if Region.wanted o (yielded l.toArray a.tmps) = true then Oper.wp P o a w K Q else K (a.put o.dst undef) w)
    (hend : ∀ b a w, a.tmps.size = N → a.defers = a0.defers → KeptBut l a0 a → Good b w → (∀ i, i < l.length → S b i (slotOf l a i) w) → Q .normal a w) :
    (Code.region id l.toArray true).wp P Q a0 w0 := by
  simp only [dstsG, Bool.and_eq_true, List.all_eq_true, List.mem_range, Bool.or_eq_true, Bool.not_eq_true', beq_iff_eq] at hd
  obtain ⟨hd1, hd2⟩ := hd
  have hdi : ∀ i o, l[i]? = some o → dstOf l i = o.dst := fun i o ho => by simp [dstOf, ho]
  refine wp_region_any hm (wpAny_inv (Inv := fun listed a w => a.tmps.size = N ∧ a.defers = a0.defers ∧ KeptBut l a0 a ∧ (∃ b, Good b w ∧ (∀ i, listed.getD i false = true → S b i (slotOf l a i) w) ∧ ∀ i, listed.getD i false = false → R b i) ∧ ∀ i o, l[i]? = some o → listed.getD i false = true → ∀ e ∈ o.after, Region.binds .any e = true → listed.getD e.on false = true) ?_ ?_ _ _ _ _ (by simp) (by simp) ?_)
  · rintro listed a w hs ⟨h1, h2, h3, ⟨b, h4, h5, h6⟩, hclo⟩ i hi
    obtain ⟨hu, o, ho, hall⟩ := mem_ready.1 hi
    have hol : l[i]? = some o := by simpa using ho
    have hil : i < l.length := (List.getElem?_eq_some_iff.1 hol).1
    have hib : i < listed.size := by rw [hs]; simpa using hil
    have huf : listed.getD i false = false := by simpa [Array.getD, hib] using hu
    have hom := List.mem_of_getElem? hol
    have hdt := hd2 o hom
    have hset : ∀ j, (listed.setIfInBounds i true).getD j false = if j = i then true else listed.getD j false := fun j => by
      by_cases hji : j = i
      · subst hji; simp [Array.getD_eq_getD_getElem?, hib]
      · have hne : i ≠ j := fun e => hji e.symm
        rw [if_neg hji]
        simp [Array.getD_eq_getD_getElem?, hne]
    refine wpOp_step ho fun K' hK => hstep i o hol b a w h1 h3 h4 (h6 i huf) (fun e he hb => h5 _ (hall e he hb)) K' fun v w' b' g1 g2 g3 g4 => hK _ _ ⟨?_, ?_, ?_, ⟨b', g1, ?_, fun j hj => ?_⟩, ?_⟩
    · cases hod : o.dst with
      | none => exact h1
      | some t => simpa [Act.put] using h1
    · cases hod : o.dst with
      | none => exact h2
      | some t => exact h2
    · intro t ht
      rw [← h3 t ht]
      have := ht i hil
      rw [hdi i o hol] at this
      cases hod : o.dst with
      | none => rfl
      | some t' =>
        rw [hod] at this
        have hne : t' ≠ t := fun e => this (by rw [e])
        simp [Act.put, Array.getD_eq_getD_getElem?, hne]
    · intro j hj
      by_cases hji : j = i
      · subst hji
        have : slotOf l (a.put o.dst v) j = if o.dst.isSome then v else undef := by
          unfold slotOf
          rw [hdi j o hol]
          cases hod : o.dst with
          | none => rfl
          | some t =>
            rw [hod] at hdt
            have ht : t < N := by simpa using hdt
            simp [Act.put, Array.getD_eq_getD_getElem?, h1, ht]
        rw [this]; exact g2
      · have hj' : listed.getD j false = true := by rw [hset, if_neg hji] at hj; exact hj
        have hwf : waitsF l i l.length j = false := by
          cases hw : waitsF l i l.length j with
          | false => rfl
          | true =>
            have := waits_up hclo _ _ hw hj'
            rw [huf] at this; cases this
        have : slotOf l (a.put o.dst v) j = slotOf l a j := by
          unfold slotOf
          cases hdj : dstOf l j with
          | none => rfl
          | some t =>
            have hjl : j < l.length := by
              rcases Nat.lt_or_ge j l.length with h | h
              · exact h
              · rw [dstOf, List.getElem?_eq_none h] at hdj; cases hdj
            cases hod : o.dst with
            | none => rfl
            | some t' =>
              have := hd1 i hil j hjl
              rw [hdi i o hol, hdj, hod] at this
              have hne : t' ≠ t := by
                rcases this with (h | h) | h
                · exact absurd h.symm hji
                · cases h
                · intro e; subst e; simp at h
              simp [Act.put, Array.getD_eq_getD_getElem?, hne]
        rw [this]
        exact g3 _ _ hji hwf (h5 j hj')
    · rw [hset] at hj
      by_cases hji : j = i
      · rw [if_pos hji] at hj; cases hj
      · rw [if_neg hji] at hj
        exact g4 j hji (h6 j hj)
    · intro k o' hk hlk e he hb
      rw [hset] at hlk ⊢
      split
      · rfl
      · by_cases hki : k = i
        · subst hki
          rw [hol] at hk
          injection hk with hk
          subst hk
          exact hall e he hb
        · rw [if_neg hki] at hlk
          exact hclo k o' hk hlk e he hb
  · rintro listed a w hs ⟨h1, h2, h3, ⟨b, h4, h5, h6⟩, hclo⟩ hr
    have hall := all_up ha (by simpa using hs) hr
    exact hend b a w h1 h2 h3 h4 fun i hi => h5 i (hall i hi)
  · have hno : ∀ i, (Array.replicate l.toArray.size false).getD i false = false := fun i => by
      rw [Array.getD_eq_getD_getElem?, Array.getElem?_replicate]
      split <;> rfl
    exact ⟨hN, rfl, fun _ _ => rfl, ⟨b0, hg, fun i hi => (by rw [hno] at hi; cases hi), fun i _ => hR i⟩, fun i o ho h => (by rw [hno] at h; cases h)⟩

end
end Go.Proofs.YtejicboemkpeoaaDoor
