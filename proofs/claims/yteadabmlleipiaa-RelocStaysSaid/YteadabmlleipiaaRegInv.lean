/-
  A region that draws its order, walked by what holds of each operation's value once it has come up, whatever has come up beside it: one step for each operation, however many orders there are. No program is named here.
-/
import Derived.OrdersHeld
import Derived.RegionTactic
import Derived.WalkKit
namespace Go.Proofs.Yteadabmlleipiaa
open Go Go.RowKit

section
variable {P : Program} {md : Region.Mode} {ops : Array Oper} {Q : Exit → Act → World → Prop}

theorem filter_set_lt {l : Array Bool} {i : Nat} (hi : i < l.size) (h : l.getD i true = false) : ((l.setIfInBounds i true).toList.filter (fun b => !b)).length < (l.toList.filter (fun b => !b)).length := by
  obtain ⟨l⟩ := l
  simp only [List.setIfInBounds_toArray, List.size_toArray] at hi ⊢
  have h' : l[i] = false := by simpa [Array.getD, hi] using h
  clear h
  induction l generalizing i with
  | nil => simp at hi
  | cons b l ih =>
    cases i with
    | zero =>
      simp at h'
      subst h'
      simp
    | succ i =>
      have := ih (by simpa using hi) (by simpa using h')
      cases b <;> simp at this ⊢ <;> omega

/-- By an invariant of what has come up, the frame and the world. -/
theorem wpAny_inv {Inv : Array Bool → Act → World → Prop}
    (hstep : ∀ listed a w, listed.size = ops.size → Inv listed a w → ∀ i, i ∈ Region.ready md ops listed → wpOp P ops Q i (Inv (listed.setIfInBounds i true)) a w)
    (hend : ∀ listed a w, listed.size = ops.size → Inv listed a w → Region.ready md ops listed = [] → Q .normal a w) :
    ∀ (fuel : Nat) (listed : Array Bool) (a : Act) (w : World), listed.size = ops.size → (listed.toList.filter (fun b => !b)).length ≤ fuel → Inv listed a w → wpAny P md ops Q fuel listed a w
  | 0, listed, a, w, hs, hf, h => by
    have hr : Region.ready md ops listed = [] := by
      rw [List.eq_nil_iff_forall_not_mem]
      intro j hj
      obtain ⟨hu, o, ho, _⟩ := mem_ready.1 hj
      obtain ⟨hjs, _⟩ := Array.getElem?_eq_some_iff.1 ho
      have := filter_set_lt (by omega) hu
      omega
    exact ⟨hr, hend listed a w hs h hr⟩
  | fuel + 1, listed, a, w, hs, hf, h => by
    refine ⟨hend listed a w hs h, fun i hi => wpOp_mono (fun a' w' h' => ?_) (hstep listed a w hs h i hi)⟩
    obtain ⟨hu, o, ho, _⟩ := mem_ready.1 hi
    obtain ⟨hjs, _⟩ := Array.getElem?_eq_some_iff.1 ho
    have := filter_set_lt (l := listed) (i := i) (by omega) hu
    exact wpAny_inv hstep hend fuel _ a' w' (by simpa using hs) (by omega) h'
end

section
variable {P : Program} {l : List Oper} {Q : Exit → Act → World → Prop}
/-- Where an operation lays its value. -/
def dstOf (l : List Oper) (i : Nat) : Option Tmp := (l[i]?).bind (·.dst)
def slotOf (l : List Oper) (a : Act) (i : Nat) : Value := match dstOf l i with | some t => a.tmps.getD t undef | none => undef
/-- No slot is written twice, and each is one of the frame's; no operation is guarded. -/
def dstsOk (l : List Oper) (N : Nat) : Bool :=
  ((List.range l.length).all fun i => (List.range l.length).all fun j => i == j || dstOf l i == none || !(dstOf l i == dstOf l j)) && l.all fun o => o.guard.isNone && match o.dst with | some t => decide (t < N) | none => true
/-- Each operation waits for some ahead of it alone. -/
def aheadOk (l : List Oper) : Bool := (List.range l.length).all fun i => match l[i]? with | some o => o.after.all fun e => !(Region.binds .any e) || decide (e.on < i) | none => true
/-- All slots but those that the region writes are as they were. -/
def KeptBut (l : List Oper) (a0 a : Act) : Prop := ∀ t, (∀ i, i < l.length → dstOf l i ≠ some t) → a.tmps.getD t undef = a0.tmps.getD t undef

theorem slot_some {a : Act} {N t : Nat} {v : Value} (hN : a.tmps.size = N) (ht : t < N) (h : a.tmps.getD t undef = v) : a.tmps[t]? = some v := by
  have h' : t < a.tmps.size := by omega
  rw [Array.getElem?_eq_getElem h', ← h]
  simp [Array.getD, h']
theorem all_up {listed : Array Bool} (ha : aheadOk l = true) (hs : listed.size = l.length) (hr : Region.ready .any l.toArray listed = []) : ∀ i, i < l.length → listed.getD i false = true := by
  intro i
  induction i using Nat.strongRecOn with
  | _ i ih =>
    intro hi
    have hib : i < listed.size := by rw [hs]; exact hi
    cases hu : listed.getD i false with
    | true => rfl
    | false =>
      exfalso
      obtain ⟨o, ho⟩ : ∃ o, l[i]? = some o := ⟨_, List.getElem?_eq_getElem hi⟩
      have hao := List.all_eq_true.1 ha i (by simpa using hi)
      rw [ho] at hao
      have hmem : i ∈ Region.ready .any l.toArray listed := by
        refine mem_ready.2 ⟨?_, o, by simpa using ho, fun e he hb => ?_⟩
        · simpa [Array.getD, hib] using hu
        · obtain ⟨k, hk, rfl⟩ := Array.mem_iff_getElem.1 he
          have := Array.all_eq_true.1 hao k hk
          rw [hb] at this
          exact ih _ (by simpa using this) (by have : (o.after[k]).on < i := by simpa using this
                                               omega)
      rw [hr] at hmem
      cases hmem

/-- Each operation but the last is waited for by one behind it: so the last comes up last. -/
def awaitedOk (l : List Oper) (n : Nat) : Bool := (List.range n).all fun j => (List.range (n + 1)).any fun k => decide (j < k) && match l[k]? with | some o => o.after.any fun e => Region.binds .any e && e.on == j | none => false

/-- The same where the last operation waits for all others: a store, say, behind which nothing is left to hold. -/
theorem region_inv_last {id : Nat} {a0 : Act} {w0 : World} (N n : Nat) (S : Nat → Value → World → Prop) (Good : World → Prop) (hm : P.follows .mixedOrders = true) (hN : a0.tmps.size = N) (hl : l.length = n + 1) (hd : dstsOk l N = true) (ha : aheadOk l = true) (hw : awaitedOk l n = true) (hg : Good w0.drew)
    (hstep : ∀ i o, l[i]? = some o → i < n → ∀ a w, a.tmps.size = N → KeptBut l a0 a → Good w → (∀ e ∈ o.after, Region.binds .any e = true → S e.on (slotOf l a e.on) w) →
      ∀ K : Act → World → Prop, (∀ v w', Good w' → S i (if o.dst.isSome then v else undef) w' → (∀ j u, S j u w → S j u w') → K (a.put o.dst v) w') → Oper.wp P o a w K Q)
    (hlast : ∀ o, l[n]? = some o → ∀ a w, a.tmps.size = N → a.defers = a0.defers → KeptBut l a0 a → Good w → (∀ i, i < n → S i (slotOf l a i) w) → Oper.wp P o a w (Q .normal) Q) :
    (Code.region id l.toArray true).wp P Q a0 w0 := by
  simp only [dstsOk, Bool.and_eq_true, List.all_eq_true, List.mem_range, Bool.or_eq_true, Bool.not_eq_true', beq_iff_eq] at hd
  obtain ⟨hd1, hd2⟩ := hd
  have hdi : ∀ i o, l[i]? = some o → dstOf l i = o.dst := fun i o ho => by simp [dstOf, ho]
  have hgo : ∀ (o : Oper), o ∈ l → ∀ (y : Nat → Option Bool), Region.wanted o y = true := fun o ho y => by
    have := (hd2 o ho).1
    simp only [Region.wanted]
    cases hgu : o.guard with
    | none => rfl
    | some x => rw [hgu] at this; cases this
  refine wp_region_any hm (wpAny_inv (Inv := fun listed a w => (listed.getD n false = true → Q .normal a w) ∧ (listed.getD n false = false → a.tmps.size = N ∧ a.defers = a0.defers ∧ KeptBut l a0 a ∧ Good w ∧ (∀ i, listed.getD i false = true → S i (slotOf l a i) w)) ∧ (listed.getD n false = true → ∀ i, i < n → listed.getD i false = true) ∧ ∀ i o, l[i]? = some o → listed.getD i false = true → ∀ e ∈ o.after, Region.binds .any e = true → listed.getD e.on false = true) ?_ ?_ _ _ _ _ (by simp) (by simp) ?_)
  · rintro listed a w hs ⟨hq, hinv, hdone, hclo⟩ i hi
    obtain ⟨hu, o, ho, hall⟩ := mem_ready.1 hi
    have hol : l[i]? = some o := by simpa using ho
    have hil : i < l.length := (List.getElem?_eq_some_iff.1 hol).1
    have hib : i < listed.size := by rw [hs]; simpa using hil
    have hom := List.mem_of_getElem? hol
    have hdt := (hd2 o hom).2
    have hset : ∀ j, (listed.setIfInBounds i true).getD j false = if j = i then true else listed.getD j false := fun j => by
      by_cases hji : j = i
      · subst hji; simp [Array.getD_eq_getD_getElem?, hib]
      · have hne : i ≠ j := fun e => hji e.symm
        rw [if_neg hji]
        simp [Array.getD_eq_getD_getElem?, hne]
    have huf : listed.getD i false = false := by simpa [Array.getD, hib] using hu
    have hclo' : ∀ k o, l[k]? = some o → (listed.setIfInBounds i true).getD k false = true → ∀ e ∈ o.after, Region.binds .any e = true → (listed.setIfInBounds i true).getD e.on false = true := by
      intro k o' hk hlk e he hb
      rw [hset] at hlk ⊢
      split
      · rfl
      · by_cases hki : k = i
        · subst hki
          rw [hol] at hk
          injection hk with hk
          subst hk
          exact hall e he hb
        · rw [if_neg hki] at hlk
          exact hclo k o' hk hlk e he hb
    refine wpOp_step ho fun K' hK => ?_
    rw [if_pos (hgo o hom _)]
    by_cases hin : i = n
    · subst hin
      obtain ⟨h1, h2, h3, h4, h5⟩ := hinv huf
      have hoth : ∀ d j, i - j = d → j < i → listed.getD j false = true := by
        intro d
        induction d using Nat.strongRecOn with
        | _ d ih =>
          intro j hjd hji
          have := List.all_eq_true.1 hw j (by simpa using hji)
          obtain ⟨k, hk, hjk⟩ := List.any_eq_true.1 this
          simp only [Bool.and_eq_true, decide_eq_true_eq] at hjk
          obtain ⟨hjk, hex⟩ := hjk
          have hki : k < i + 1 := by simpa using hk
          cases hlk : l[k]? with
          | none => rw [hlk] at hex; cases hex
          | some ok =>
            rw [hlk] at hex
            obtain ⟨m, hm', he⟩ := Array.any_eq_true.1 hex
            simp only [Bool.and_eq_true, beq_iff_eq] at he
            have hmem : ok.after[m] ∈ ok.after := Array.getElem_mem _
            by_cases hke : k = i
            · subst hke
              rw [hol] at hlk
              injection hlk with hlk
              subst hlk
              have := hall _ hmem he.1
              rwa [he.2] at this
            · have := hclo k ok hlk (ih (i - k) (by omega) k rfl (by omega)) _ hmem he.1
              rwa [he.2] at this
      have hp := hlast o hol a w h1 h2 h3 h4 (fun j hj => h5 j (hoth _ j rfl hj))
      have hmono : ∀ a' w', Q .normal a' w' → K' a' w' := fun a' w' hh => hK _ _ ⟨fun _ => hh, fun h => (by rw [hset, if_pos rfl] at h; cases h), fun _ j hj => by rw [hset]; split; rfl; exact hoth _ j rfl hj, hclo'⟩
      exact Oper.wp_mono hmono hp
    · obtain ⟨h1, h2, h3, h4, h5⟩ := hinv (by
        cases hln : listed.getD n false with
        | false => rfl
        | true =>
          have := hdone hln i (by omega)
          rw [huf] at this; cases this)
      have hnn : ∀ b : Bool, (listed.setIfInBounds i true).getD n b = listed.getD n b := fun b => by
        have hne : i ≠ n := hin
        simp [Array.getD_eq_getD_getElem?, hne]
      refine hstep i o hol (by omega) a w h1 h3 h4 (fun e he hb => h5 _ (hall e he hb)) K' fun v w' g1 g2 g3 => hK _ _ ⟨fun h => ?_, fun _ => ⟨?_, ?_, ?_, g1, ?_⟩, fun h => ?_, hclo'⟩
      · rw [hnn] at h
        have := hdone h i (by omega)
        rw [huf] at this; cases this
      · cases hod : o.dst with
        | none => exact h1
        | some t => simpa [Act.put] using h1
      · cases hod : o.dst with
        | none => exact h2
        | some t => exact h2
      · intro t ht
        rw [← h3 t ht]
        have := ht i hil
        rw [hdi i o hol] at this
        cases hod : o.dst with
        | none => rfl
        | some t' =>
          rw [hod] at this
          have hne : t' ≠ t := fun e => this (by rw [e])
          simp [Act.put, Array.getD_eq_getD_getElem?, hne]
      · intro j hj
        by_cases hji : j = i
        · subst hji
          have : slotOf l (a.put o.dst v) j = if o.dst.isSome then v else undef := by
            unfold slotOf
            rw [hdi j o hol]
            cases hod : o.dst with
            | none => rfl
            | some t =>
              rw [hod] at hdt
              have ht : t < N := by simpa using hdt
              simp [Act.put, Array.getD_eq_getD_getElem?, h1, ht]
          rw [this]; exact g2
        · have hj' : listed.getD j false = true := by rw [hset, if_neg hji] at hj; exact hj
          have : slotOf l (a.put o.dst v) j = slotOf l a j := by
            unfold slotOf
            cases hdj : dstOf l j with
            | none => rfl
            | some t =>
              have hjl : j < l.length := by
                rcases Nat.lt_or_ge j l.length with h | h
                · exact h
                · rw [dstOf, List.getElem?_eq_none h] at hdj; cases hdj
              cases hod : o.dst with
              | none => rfl
              | some t' =>
                have := hd1 i hil j hjl
                rw [hdi i o hol, hdj, hod] at this
                have hne : t' ≠ t := by
                  rcases this with (h | h) | h
                  · exact absurd h.symm hji
                  · cases h
                  · intro e; subst e; simp at h
                simp [Act.put, Array.getD_eq_getD_getElem?, hne]
          rw [this]
          exact g3 _ _ (h5 j hj')
      · rw [hnn] at h
        have := hdone h i (by omega)
        rw [huf] at this; cases this
  · rintro listed a w hs ⟨hq, hinv, hdone, hclo⟩ hr
    refine hq ?_
    cases hln : listed.getD n false with
    | true => rfl
    | false =>
      have := all_up ha (by simpa using hs) hr n (by omega)
      rw [hln] at this; cases this
  · have hno : ∀ i, (Array.replicate l.toArray.size false).getD i false = false := fun i => by
      rw [Array.getD_eq_getD_getElem?, Array.getElem?_replicate]
      split <;> rfl
    exact ⟨fun h => (by rw [hno] at h; cases h), fun _ => ⟨hN, rfl, fun _ _ => rfl, hg, fun i hi => (by rw [hno] at hi; cases hi)⟩, fun h => (by rw [hno] at h; cases h), fun i o ho h => (by rw [hno] at h; cases h)⟩

end
end Go.Proofs.Yteadabmlleipiaa
