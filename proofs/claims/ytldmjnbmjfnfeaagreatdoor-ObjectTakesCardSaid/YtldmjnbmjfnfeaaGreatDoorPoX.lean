/-
  Places that a pool told: plain facts; rows of numbers and of texts, with one item more.
-/
import Derived.Test.YtldmjnbmjfnfeaaGreatDoorPoR
import Derived.Test.YtldmjnbmjfnfeaaGreatDoorPoA
import Derived.Test.YtldmjnbmjfnfeaaGreatDoorCsS
import Derived.Test.YtldmjnbmjfnfeaaGreatDoorPoB
import Derived.Test.YtldmjnbmjfnfeaaGreatDoorCsA
import Derived.Test.YtldmjnbmjfnfeaaGreatDoorCsB
import Derived.Deep.AppendLies
namespace Go.Proofs.YtldmjnbmjfnfeaaGreatDoor
open Go Go.RowKit

theorem findT_keep {l : List (List UInt8)} {t : List UInt8} {p : Nat} (h : findT l t = some p) (s : List UInt8) : findT (addT l s).1 t = some p := by
  rcases addT_cases l s with ⟨_, e⟩ | ⟨q, _, _, e⟩ | ⟨_, _, _, e⟩ | ⟨_, hf, hb, e⟩ <;> rw [e] <;> try exact h
  simp only
  rw [findT_append, h]

/-- Of texts that are not too many none is refused but one that may not be. -/
theorem addT_ok {l : List (List UInt8)} {t : List UInt8} (h : rightT t = true) (hs : spanT l ≤ 60000) : (addT l t).2.2 = 0 ∧ findT (addT l t).1 t = some (addT l t).2.1 ∧ spanT (addT l t).1 ≤ spanT l + 201 := by
  have h2 := (rightT_spec h).1
  rcases addT_cases l t with ⟨h1, _⟩ | ⟨q, _, hf, e⟩ | ⟨_, _, hb, _⟩ | ⟨_, hf, hb, e⟩
  · rw [h] at h1; cases h1
  · rw [e]; exact ⟨rfl, hf, by simp⟩
  · omega
  · rw [e]
    refine ⟨rfl, by simp only; rw [findT_append, hf]; simp, ?_⟩
    simp only [spanT_append, spanT]
    omega

/-- Each place is its text's. -/
def Knows (ps : List (List UInt8)) (ats : List Nat) (als : List (List UInt8)) : Prop := ats.length = als.length ∧ ∀ (j : Nat) (t : List UInt8), als[j]? = some t → rightT t = true ∧ ∃ p, ats[j]? = some p ∧ findT ps t = some p

theorem knows_nil : Knows [] [] [] := ⟨rfl, fun j t h => by simp at h⟩

theorem knows_add {ps als : List (List UInt8)} {ats : List Nat} (h : Knows ps ats als) (t : List UInt8) : Knows (addT ps t).1 ats als :=
  ⟨h.1, fun j s hj => by obtain ⟨h1, p, h2, h3⟩ := h.2 j s hj; exact ⟨h1, p, h2, findT_keep h3 t⟩⟩

theorem knows_next {ps als : List (List UInt8)} {ats : List Nat} (h : Knows ps ats als) {t : List UInt8} (hr : rightT t = true) (hs : spanT ps ≤ 60000) : Knows (addT ps t).1 (ats ++ [(addT ps t).2.1]) (als ++ [t]) := by
  have h2 := (addT_ok hr hs).2.1
  refine ⟨by simp [h.1], fun j s hj => ?_⟩
  by_cases hlt : j < als.length
  · rw [List.getElem?_append_left hlt] at hj
    rw [List.getElem?_append_left (by rw [h.1]; exact hlt)]
    exact (knows_add h t).2 j s hj
  · rw [List.getElem?_append_right (by omega)] at hj
    rw [List.getElem?_append_right (by rw [h.1]; omega), h.1]
    rcases hk : j - als.length with _ | k
    · rw [hk] at hj
      have e : t = s := by simpa using hj
      subst e
      exact ⟨hr, _, rfl, h2⟩
    · rw [hk] at hj; simp at hj

theorem atT_find {ps : List (List UInt8)} {t : List UInt8} {p : Nat} (hg : ∀ s ∈ ps, rightT s = true) (hf : findT ps t = some p) : atT (putsT ps) p = (t, 0) := by
  have key : ∀ (l : List (List UInt8)) (q : Nat), (∀ s ∈ l, rightT s = true) → findT l t = some q → q < (putsT l).length ∧ readT ((putsT l).drop q) = (t, t.length + 1, 0) := by
    intro l
    induction l with
    | nil => intro q _ h; simp [findT] at h
    | cons s l ih =>
      intro q hr h
      have hs := hr s (by simp)
      have hps := (rightT_spec hs).2.2
      unfold findT at h
      split at h
      · rename_i e
        injection h with h
        subst h e
        refine ⟨by simp only [putsT, List.length_append, putT_length]; omega, ?_⟩
        rw [List.drop_zero]
        exact readT_put hs _
      · obtain ⟨q', hq, rfl⟩ := Option.map_eq_some_iff.1 h
        obtain ⟨h1, h2⟩ := ih q' (fun x hx => hr x (by simp [hx])) hq
        have hl : (putT s).length = s.length + 1 := by rw [hps]; simp
        refine ⟨by simp only [putsT, List.length_append, hl]; omega, ?_⟩
        have e : (putsT (s :: l)).drop (q' + (s.length + 1)) = (putsT l).drop q' := by
          show (putT s ++ putsT l).drop (q' + (s.length + 1)) = _
          rw [← hl, Nat.add_comm, ← List.drop_drop, List.drop_left]
        rw [e]
        exact h2
  obtain ⟨h1, h2⟩ := key ps p hg hf
  unfold atT
  rw [if_pos h1, h2]

/-! Rows of the call's own. -/
/-- Cells of one kind. -/
def CellsOf (e : TypeId) : Obj → Prop
  | .cells _ t _ => t = e
  | _ => False

theorem row_only {w w' : World} {base base' : Nat} {bad : Obj → Prop} {e : TypeId} {size n : Nat} {v : Value} {xs : List Value} (h : w.ownsRow base e size v n xs) (hb : Only base' bad w w') (hn : ∀ cs f, ¬ bad (.cells cs e f)) : w'.ownsRow base e size v n xs :=
  ⟨h.1, h.2.imp id fun ⟨g, cap, cur, p, q, hg, r⟩ => ⟨g, cap, cur, p, q, hb.2 _ _ hg (hn _ _), r⟩⟩

theorem row_turns {w w' : World} {base : Nat} {e : TypeId} {size n : Nat} {v : Value} {xs : List Value} (h : w.ownsRow base e size v n xs) (hg : w.grownBy w' v.ownBlock) (hb : base ≤ w.heap.size) : Only base (CellsOf e) w w' := by
  rcases h.2 with ⟨rfl, _⟩ | ⟨g', cap, cur, rfl, hgb, hh, _⟩
  · exact Only.below (below_of_only hg (Nat.le_refl _) (by simp [Value.ownBlock])) hb
  · exact Only.row (g := g') hg hh rfl hgb

/-- Numbers as the cells that hold them; a row of them. -/
def placeV (l : List Nat) : List Value := l.map fun (p : Nat) => Value.int .u64 (p : Int)
abbrev OwnU (w : World) (base : Nat) (u : Value) (l : List Nat) : Prop := w.ownsRow base 37 1 u l.length (placeV l)
theorem placeV_append (l m : List Nat) : placeV (l ++ m) = placeV l ++ placeV m := by simp [placeV]
theorem u64_info : (Tryz.prog.info? 37).map (fun i => (i.zero, i.size, i.bytes)) = some (some (.int .u64 0), 1, 8) := by kernel_rfl

theorem ownu_at {w : World} {base : Nat} {u : Value} {l : List Nat} (h : OwnU w base u l) : ∃ A cap, u = .slice A l.length cap ∧ (0 < l.length → ∃ g, A = some ⟨g, 0, none⟩ ∧ g < w.heap.size ∧ ∀ (j : Nat) (p : Nat), l[j]? = some p → w.cell? ⟨g, j, none⟩ = some (.int .u64 (p : Int))) := by
  rcases h.2 with ⟨rfl, h1⟩ | ⟨g, cap, cur, rfl, hb, hg, hnc, hcm, hcs, htake⟩
  · rw [h1]; exact ⟨_, _, rfl, fun h => by omega⟩
  · refine ⟨_, cap, rfl, fun _ => ⟨g, rfl, ?_, fun j p hj => ?_⟩⟩
    · rcases Nat.lt_or_ge g w.heap.size with h1 | h1
      · exact h1
      · rw [Array.getElem?_eq_none h1] at hg; cases hg
    · have hjl : j < l.length := (List.getElem?_eq_some_iff.1 hj).1
      have h1 := World.ownsRow.cellAt (g := g) (cap := cap) h j (by omega)
      rw [h1]
      simp [placeV, hj]

theorem PoolAt.base_le {w : World} {base base' g mb : Nat} {v : Value} {ls : List (List UInt8)} (h : PoolAt w base g mb v ls) (hb : base' ≤ base) : PoolAt w base' g mb v ls := by
  obtain ⟨p1, p2, p3, p4, p6, p7⟩ := h
  exact ⟨p1, Nat.le_trans hb p2, Nat.le_trans hb p3, p4, own_up p6 hb, p7⟩

/-- A pool, behind a step of rows of numbers or of texts. -/
theorem PoolAt.rows {w w' : World} {base base' g mb : Nat} {v : Value} {ls : List (List UInt8)} {e : TypeId} (h : PoolAt w base g mb v ls) (hb : Only base' (CellsOf e) w w') (h1 : e ≠ 5) (h2 : e ≠ 199) : PoolAt w' base g mb v ls :=
  h.kept hb (fun _ _ x => h1 x.symm) (fun _ _ x => h2 x.symm) (fun _ _ x => x)

end Go.Proofs.YtldmjnbmjfnfeaaGreatDoor
