/-
  The document's own At, All and Same of layer 3.
-/
import Derived.Test.YtbggajojhopaaaaCsR
import Derived.Test.YtbggajojhopaaaaCsL
namespace Go.Proofs.Ytbggajojhopaaaa
open Go Go.RowKit

theorem rr_cell_e {B : Nat} {w : World} {g : Nat} {v : Value} {l : List UInt8} {a : Nat} {e : Int} (h : RR B w g v l a e) : w.cell? ⟨g, 2, none⟩ = some (.int .i64 e) := by
  have := h.1.cell 2
  simpa using this
theorem rr_cell_at {B : Nat} {w : World} {g : Nat} {v : Value} {l : List UInt8} {a : Nat} {e : Int} (h : RR B w g v l a e) : w.cell? ⟨g, 1, none⟩ = some (.int .i64 (a : Int)) := by
  have := h.1.cell 1
  simpa using this

set_option maxHeartbeats 800000 in
theorem rat_any {w : World} {A : Option Addr} {l : List UInt8} (h : Rd w w.heap.size A l) (c : Nat) (hlc : l.length ≤ c) (hcm : c ≤ maxLen) (hlen : l.length ≤ 1000000) (off : Nat) (hoff : off < two64) :
    Calls Try.prog 44 #[.slice A l.length c, .int .u64 (off : Int)] w fun r w' => r = .returned (.tuple #[.string ⟨(atT l off).1.toArray⟩, .int .i64 (atT l off).2]) ∧ Below w.heap.size w w' := by
  have s1 : IntKind.u64.wrap (l.length : Int) = (l.length : Int) := by rw [IntWalk.u64_in _ (by omega)]
  unfold two64 at hoff
  by_cases hlt : off < l.length
  · have ha : atT l off = ((readT (l.drop off)).1, (readT (l.drop off)).2.2) := if_pos hlt
    rw [ha]
    have hnot : ¬ (l.length : Int) ≤ (off : Int) := by omega
    have s2 : IntKind.i64.wrap (off : Int) = (off : Int) := by rw [IntWalk.i64_in _ (by omega)]
    have hb0 : Below w.heap.size w (w.alloc (.cells #[.slice A l.length c, .int .i64 (off : Int), .int .i64 0] 29)) := (Below.refl _ _).alloc (Nat.le_refl _) _
    have hR0 : RR w.heap.size (w.alloc (.cells #[.slice A l.length c, .int .i64 (off : Int), .int .i64 0] 29)) w.heap.size (.slice A l.length c) l off 0 :=
      ⟨Box.new _ _ _, ⟨A, c, rfl, hlc, hcm, h.below hb0⟩, by omega, Nat.le_refl _⟩
    have hT := rtake_ok hR0 (by omega)
    have HB := Lib.hid hb0
    clear h hlc hcm ha hlt hb0 hR0
    obtain ⟨r, hr⟩ : ∃ r, r = l.drop off := ⟨_, rfl⟩
    rw [← hr] at hT ⊢
    clear hr
    generalize hN : l.length = N at *
    clear hN
    go_enter Try.func44, Try.ntmps44
    go_wp2_with (go_at_call 42; refine hT.mono ?_; rintro r1 w1 ⟨rfl, hC1, hG1⟩; have c2 := rr_cell_e hC1)
    go_quiet (fail)
    go_wp2
    go_ret2
    exact ⟨rfl, below_drewN (HB.out.trans (below_of_only hG1 HB.out.size (fun x hx => by cases hx; exact Nat.le_refl _))) _⟩
  · have ha : atT l off = ([], 10) := if_neg hlt
    rw [ha]
    have hge : (l.length : Int) ≤ (off : Int) := by omega
    clear h hlc hcm ha hlt
    generalize l.length = N at *
    go_enter Try.func44, Try.ntmps44
    go_wp2_with fail
    go_ret2
    exact ⟨rfl, Below.refl _ _⟩

/-- The document's cursor, behind an append to a row of texts that lies behind it. -/
theorem rr_appends {B B1 : Nat} {w1 w2 : World} {g : Nat} {v u : Value} {l : List UInt8} {a : Nat} {e : Int} {o : Obj} {ts : List (List UInt8)} (h : RR B w1 g v l a e) (hrow : OwnS w1 B1 u ts) (h2 : (w1.alloc o).grownBy w2 u.ownBlock) (hlt : g < B1) : RR B w2 g v l a e := by
  have hge := owns_ge hrow
  have hBg := h.2.2.2
  exact (h.below ((Below.refl _ _).alloc (Nat.le_refl _) o)).grown h2 (fun e => by have := hge g e.symm; omega) (fun x hx => by have := hge x hx; omega)

set_option maxRecDepth 20000 in
set_option maxHeartbeats 1600000 in
theorem rall_any {w : World} {A : Option Addr} {l : List UInt8} (h : Rd w w.heap.size A l) (c : Nat) (hlc : l.length ≤ c) (hcm : c ≤ maxLen) (hlen : l.length ≤ 1000000) :
    Calls Try.prog 46 #[.slice A l.length c] w fun r w' => ∃ u, r = .returned (.tuple #[u, .int .i64 (allT l).2]) ∧ OwnS w' w.heap.size u (resT l) ∧ Below w.heap.size w w' := by
  obtain ⟨i0, hi, hz0, hz1, hz2⟩ := info_parts str_info
  have hlen47 : l.length ≤ 140737488355000 := by omega
  have hb0 : Below w.heap.size w (w.alloc (.cells #[.slice A l.length c, .int .i64 0, .int .i64 0] 29)) := (Below.refl _ _).alloc (Nat.le_refl _) _
  have hR0 : RR w.heap.size (w.alloc (.cells #[.slice A l.length c, .int .i64 0, .int .i64 0] 29)) w.heap.size (.slice A l.length c) l 0 0 :=
    ⟨Box.new _ _ _, ⟨A, c, rfl, hlc, hcm, h.below hb0⟩, by omega, Nat.le_refl _⟩
  obtain ⟨w1, hw1⟩ : ∃ w1, w.alloc (.cells #[.slice A l.length c, .int .i64 0, .int .i64 0] 29) = w1 := ⟨_, rfl⟩
  have hg1 : w.heap.size < w1.heap.size := by rw [← hw1]; simp
  rw [hw1] at hb0 hR0
  have HW := Lib.hid hw1
  have HB0 := Lib.hid hb0
  have HR0 := Lib.hid hR0
  have HN0 := Lib.hid (World.ownsRow_nil w1 w1.heap.size 9 1)
  clear h hlc hcm hb0 hR0 hw1
  go_enter Try.func46, Try.ntmps46
  go_wp2_with fail
  rw [HW.out]
  go_loopw [5] (fun u wr => ∃ (ts : List (List UInt8)) (a : Nat), OwnS wr w1.heap.size u ts ∧ RR w.heap.size wr w.heap.size (.slice A l.length c) l a 0 ∧ Below w.heap.size w wr ∧ w1.heap.size ≤ wr.heap.size ∧ Hid (SoFar l ts a 0)) (fun u _ => l.length + 2 - lenV u)
  case atStart => exact ⟨[], 0, by simpa [OwnS, strV] using HN0.out, HR0.out, HB0.out, Nat.le_refl _, Lib.hid (sofar_start l)⟩
  case round =>
    obtain ⟨ts, a, hrow, hC, hb, hsz, hsf⟩ := hrel
    have hal := hC.2.2.1
    have cAt := rr_cell_at hC
    have HOWN := Lib.hid hrow
    have HLEN := Lib.hid (owns_len hrow)
    have HB := Lib.hid hb
    have HSF := hsf
    clear hb hsf
    by_cases hlt : a < l.length
    · have hT := rtake_ok hC hlen47
      have hK : (a : Int) < (l.length : Int) := by omega
      obtain ⟨r, hr⟩ : ∃ r, r = l.drop a := ⟨_, rfl⟩
      rw [← hr] at hT
      have HNX := Lib.hid (by have := sofar_next HSF.out hlt; rwa [← hr] at this : SoFar l (ts ++ [(readT r).1]) (a + (readT r).2.1) (readT r).2.2)
      have hn := sofar_length HSF.out hal
      have h63 : ts.length + 1 ≤ maxLen := by unfold maxLen; omega
      have hby : (ts.length + 1) * 16 ≤ 140737488355328 := by omega
      have H63 := Lib.hid h63
      have HBY := Lib.hid hby
      have HN := Lib.hid hn
      clear hr hal hrow h63 hby hn
      generalize (readT r).1 = t at *
      generalize (readT r).2.1 = m at *
      generalize (readT r).2.2 = f at *
      by_cases hf : f = 0
      · subst hf
        go_wp2_with (first
          | (go_at_call 42; refine hT.mono ?_; rintro r1 w3 ⟨rfl, hC3, hG3⟩; have hrow3 := owns_past HOWN.out hG3 hg1; have cE := rr_cell_e hC3)
          | (at_builtin; refine wpList_append_own_at _ (by rfl) (.tmp 28) (.tmp 30) _ (by rfl) w1.heap.size 9 i0 (.string ⟨#[]⟩) 1 16 Try.underlying63 hi hz0 hz1 hz2 rfl (by decide) u5 ts.length (strV ts) (by rfl) (hrow3.alloc _) ⟨w3.heap.size, 0, none⟩ 1 1 [.string ⟨t.toArray⟩] (by rfl) rfl (cell_one_new _ _ _) (by simp [Value.oneCell']) H63.out HBY.out (by have := hG3.size; simp; omega) ?_; intro v4 w4 hown4 hg4 hn4 hat4; have hC4 := rr_appends hC3 hrow3 hg4 hg1; clear hn4 hat4))
        have HOW4 := Lib.hid (show OwnS w4 w1.heap.size v4 (ts ++ [t]) by rw [OwnS, strV_append, List.length_append]; exact hown4)
        have HB4 := Lib.hid (show Below w.heap.size w w4 from ((HB.out.trans (below_of_only hG3 (by have := HB.out.size; omega) (fun x hx => by cases hx; exact Nat.le_refl _))).trans ((Below.refl _ _).alloc (by have := HB.out.size; have := hG3.size; omega) _)).grown hg4 (by have := HB.out.size; have := hG3.size; simp; omega) (fun k hk => by have := owns_ge hrow3 k hk; have := HB0.out.size; omega))
        have HS4 := Lib.hid (show w1.heap.size ≤ w4.heap.size by have := hg4.size; have := hG3.size; simp at *; omega)
        clear hown4 hg4
        have HL4 := Lib.hid (owns_len HOW4.out)
        go_roundw
        case rel => exact ⟨ts ++ [t], _, HOW4.out, hC4, HB4.out, HS4.out, HNX⟩
        case measure =>
          have h1 := HLEN.out
          have h2 := HL4.out
          have h3 := HN.out
          simp at h2
          simp [h1, h2]
          omega
      · have hne : (f != 0) = true := by simp [hf]
        have HR := Lib.hid (show (allT l).2 = f ∧ resT l = [] by
          rcases HNX.out with ⟨h0, _⟩ | ⟨_, _, h2⟩
          · exact absurd h0 hf
          · exact ⟨h2, by rw [resT, if_neg (by rw [h2]; exact hf)]⟩)
        clear hf
        go_wp2_with (go_at_call 42; refine hT.mono ?_; rintro r1 w3 ⟨rfl, hC3, hG3⟩; have cE := rr_cell_e hC3)
        go_quiet (fail)
        go_wp2
        go_ret2
        exact ⟨_, by rw [HR.out.1]; rfl, by rw [HR.out.2]; exact World.ownsRow_nil _ _ _ _, below_drewN (HB.out.trans (below_of_only hG3 (by have := HB.out.size; omega) (fun x hx => by cases hx; exact Nat.le_refl _))) _⟩
    · have hal2 : a = l.length := by omega
      subst hal2
      have HA := Lib.hid (sofar_end HSF.out)
      have HR := Lib.hid (show (allT l).2 = 0 ∧ resT l = ts by rw [resT, HA.out]; exact ⟨rfl, rfl⟩)
      clear hlt hal hrow
      go_wp2_with fail
      go_ret2
      exact ⟨_, by rw [HR.out.1]; rfl, by rw [HR.out.2]; exact owns_base HOWN.out HB0.out.size, HB.out⟩

end Go.Proofs.Ytbggajojhopaaaa
