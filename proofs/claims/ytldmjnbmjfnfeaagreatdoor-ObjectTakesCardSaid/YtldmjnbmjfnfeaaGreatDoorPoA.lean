/-
  A pool in memory, and the contracts of layer 4's New, made, Find, Count and Bytes.
-/
import Derived.Test.YtldmjnbmjfnfeaaGreatDoorPoM
import Derived.Test.YtldmjnbmjfnfeaaGreatDoorPoC
import Derived.Test.YtldmjnbmjfnfeaaGreatDoorCsL
namespace Go.Proofs.YtldmjnbmjfnfeaaGreatDoor
open Go Go.RowKit Go.Maps

/-- Nothing below 'base' has turned, and no block but of the kinds told. -/
def Only (base : Nat) (bad : Obj → Prop) (w w' : World) : Prop := Below base w w' ∧ ∀ (k : Nat) (o : Obj), w.heap[k]? = some o → ¬ bad o → w'.heap[k]? = some o

theorem Only.refl (base : Nat) (bad : Obj → Prop) (w : World) : Only base bad w w := ⟨Below.refl _ _, fun _ _ h _ => h⟩
theorem Only.trans {base : Nat} {bad : Obj → Prop} {a b c : World} (h : Only base bad a b) (k : Only base bad b c) : Only base bad a c := ⟨h.1.trans k.1, fun j o hj hb => k.2 j o (h.2 j o hj hb) hb⟩
theorem Only.below {base : Nat} {bad : Obj → Prop} {a b : World} (h : Below a.heap.size a b) (hb : base ≤ a.heap.size) : Only base bad a b :=
  ⟨h.mono hb, fun j _ hj _ => (h.block j (Array.getElem?_eq_some_iff.1 hj).1).trans hj⟩
theorem Only.then_ {base : Nat} {bad : Obj → Prop} {a b c : World} (h : Only base bad a b) (k : Below b.heap.size b c) (hb : base ≤ a.heap.size) : Only base bad a c := h.trans (Only.below k (Nat.le_trans hb h.1.size))
theorem Only.row {base g : Nat} {bad : Obj → Prop} {a b : World} {o : Obj} (h : a.grownBy b (some g)) (hg : a.heap[g]? = some o) (ho : bad o) (hb : base ≤ g) : Only base bad a b := by
  refine ⟨below_of_only h (by have := (Array.getElem?_eq_some_iff.1 hg).1; omega) (fun k hk => by injection hk with hk; omega), fun j p hj hp => ?_⟩
  by_cases e : j = g
  · subst e
    rw [hg] at hj
    injection hj with hj
    subst hj
    exact absurd ho hp
  · exact (h.block j (Array.getElem?_eq_some_iff.1 hj).1 (by simpa using e)).trans hj
theorem Only.drewN {base : Nat} {bad : Obj → Prop} {a b : World} (h : Only base bad a b) (n : Nat) : Only base bad a (b.drewN n) := ⟨below_drewN h.1 n, h.2⟩

/-- What a pool's calls may turn. -/
def PoolObj : Obj → Prop
  | .cells _ t _ => t = 5 ∨ t = 199
  | .map _ _ => True
  | _ => False

/-- A pool in memory: its block g, its map's mb, the value v of its table; its texts. -/
def PoolAt (w : World) (base g mb : Nat) (v : Value) (ls : List (List UInt8)) : Prop :=
  Box w g 199 #[.map (some mb), v] ∧ base ≤ g ∧ base ≤ mb ∧ (∃ D : DataW Unit, w.ownsMap Tryz.prog 9 (plainElem Tryz.prog 37) mb ls.length D ∧ Tells D ls) ∧ Own w base v (putsT ls) ∧ GoodT ls

section
variable {w w' : World} {base g mb : Nat} {v : Value} {ls : List (List UInt8)}

theorem PoolAt.kept (h : PoolAt w base g mb v ls) {b : Nat} {bad : Obj → Prop} (hb : Only b bad w w') (h1 : ∀ cs f, ¬ bad (.cells cs 5 f)) (h2 : ∀ cs f, ¬ bad (.cells cs 199 f)) (h3 : ∀ es c, ¬ bad (.map es c)) : PoolAt w' base g mb v ls := by
  obtain ⟨p1, p2, p3, ⟨D, ⟨es, c, q1, q2⟩, p5⟩, p6, p7⟩ := h
  refine ⟨hb.2 _ _ p1 (h2 _ _), p2, p3, ⟨D, ⟨es, c, hb.2 _ _ q1 (h3 _ _), q2⟩, p5⟩, ⟨p6.1, ?_⟩, p7⟩
  rcases p6.2 with e | ⟨x, cap, cur, e, hx, hg, r⟩
  · exact .inl e
  · exact .inr ⟨x, cap, cur, e, hx, hb.2 _ _ hg (h1 _ _), r⟩

theorem PoolAt.below (h : PoolAt w base g mb v ls) (hb : Below w.heap.size w w') : PoolAt w' base g mb v ls :=
  h.kept (Only.below (base := 0) (bad := fun _ => False) hb (Nat.zero_le _)) (fun _ _ x => x) (fun _ _ x => x) (fun _ _ x => x)

theorem PoolAt.drewN (h : PoolAt w base g mb v ls) (n : Nat) : PoolAt (w.drewN n) base g mb v ls := h

theorem pool_len (h : PoolAt w base g mb v ls) : (putsT ls).length = spanT ls := spanT_puts h.2.2.2.2.2.1
end

theorem string_law : Keyed Tryz.prog 9 := string_keyed Tryz.underlying9
theorem zero_u64 (w : World) : (zeroValue 37).run Tryz.prog w = .ok (.int .u64 0) w := by kernel_rfl
theorem map_nil (w : World) (m : Option Nat) : (binOp .neq 197 (.map m) (.map none)).run Tryz.prog w = .ok (.bool (!m.isNone)) w := run_neq_map_nil w _ _ _ m Tryz.underlying197
theorem key_text (t : List UInt8) (h : t.length ≤ maxLen) : keyOf Tryz.prog 9 (.string ⟨t.toArray⟩) = some (keyT t) := Go.WideMaps.keyOf_string_mk Tryz.underlying9 h

set_option maxRecDepth 10000 in
theorem made_at {w : World} {base g mb : Nat} {v : Value} {ls : List (List UInt8)} (h : PoolAt w base g mb v ls) :
    Calls Tryz.prog 126 #[.pointer (some ⟨g, 0, none⟩)] w fun r w' => r = .returned (.bool true) ∧ w = w' := by
  have c0 := h.1.cell 0
  simp at c0
  clear h
  have hq := fun W => map_nil W (some mb)
  go_enter Tryz.func126, Tryz.ntmps126
  go_wp2
  go_ret
  exact ⟨rfl, rfl⟩

set_option maxRecDepth 10000 in
theorem pnew_any (w : World) :
    Calls Tryz.prog 101 #[] w fun r w' => ∃ g mb, r = .returned (.pointer (some ⟨g, 0, none⟩)) ∧ PoolAt w' w.heap.size g mb (.slice none 0 0) [] ∧ Below w.heap.size w w' := by
  have hmm := @run_makeMap Tryz.prog
  have HP := Lib.hid (show PoolAt ((w.alloc (.map #[] 0)).alloc (.cells #[.map (some w.heap.size), .slice none 0 0] 199)) w.heap.size (w.heap.size + 1) w.heap.size (.slice none 0 0) [] from
    ⟨by have := Box.new (w.alloc (.map #[] 0)) 199 #[.map (some w.heap.size), .slice none 0 0]; simpa using this, by omega, Nat.le_refl _, ⟨_, (World.ownsMap_made w _ _ _).alloc _, tells_nil⟩, World.ownsRow_nil _ _ _ _, goodT_nil⟩)
  have HB := Lib.hid (show Below w.heap.size w ((w.alloc (.map #[] 0)).alloc (.cells #[.map (some w.heap.size), .slice none 0 0] 199)) from ((Below.refl _ _).alloc (Nat.le_refl _) _).alloc (by simp) _)
  go_enter Tryz.func101, Tryz.ntmps101
  go_wp2
  go_ret
  exact ⟨_, _, rfl, by simpa using HP.out, HB.out⟩

set_option maxRecDepth 10000 in
theorem bytes_at {w : World} {base g mb : Nat} {v : Value} {ls : List (List UInt8)} (h : PoolAt w base g mb v ls) :
    Calls Tryz.prog 103 #[.pointer (some ⟨g, 0, none⟩)] w fun r w' => ∃ u, r = .returned u ∧ Own w' w.heap.size u (putsT ls) ∧ Below w.heap.size w w' := by
  have hM := made_at h
  have c1 := h.1.cell 1
  simp at c1
  have hlen := pool_len h
  have hgood := h.2.2.2.2.2.2.1
  obtain ⟨A, c, rfl, hlc, hcm, hrd⟩ := own_slice h.2.2.2.2.1
  have hC := clone_any c hrd (Nat.le_refl _) (by omega)
  clear h hrd hlen hgood hlc hcm
  generalize (putsT ls).length = n at *
  go_enter Tryz.func103, Tryz.ntmps103
  go_wp2_with (first
    | (go_at_call 126; refine hM.mono ?_; rintro r w' ⟨rfl, rfl⟩)
    | (go_at_call 118; refine hC.mono ?_; rintro r w' ⟨u, rfl, hown, hb⟩))
  go_ret
  exact ⟨u, rfl, hown, hb⟩

end Go.Proofs.YtldmjnbmjfnfeaaGreatDoor
