/-
  The contract of layer 3's All: the texts of a table in a row of the call's own.
-/
import Derived.Test.YtbggajojhopaaaaCsU
import Derived.Maps.AppendAt
namespace Go.Proofs.Ytbggajojhopaaaa
open Go Go.RowKit

/-- Texts as the cells that hold them. -/
def strV (ts : List (List UInt8)) : List Value := ts.map fun t => Value.string ⟨t.toArray⟩
@[simp] theorem strV_length (ts : List (List UInt8)) : (strV ts).length = ts.length := by simp [strV]
theorem strV_append (ts us : List (List UInt8)) : strV (ts ++ us) = strV ts ++ strV us := by simp [strV]

theorem str_info : (Try.prog.info? 9).map (fun i => (i.zero, i.size, i.bytes)) = some (some (.string ⟨#[]⟩), 1, 16) := by kernel_rfl

/-- A row of texts of the call's own. -/
abbrev OwnS (w : World) (base : Nat) (u : Value) (ts : List (List UInt8)) : Prop := w.ownsRow base 9 1 u ts.length (strV ts)

theorem owns_ge {w : World} {base : Nat} {u : Value} {ts : List (List UInt8)} (h : OwnS w base u ts) : ∀ k, u.ownBlock = some k → base ≤ k := by
  intro k hk
  rcases h.2 with ⟨rfl, _⟩ | ⟨g', cap, cur, rfl, hb, _⟩
  · simp [Value.ownBlock] at hk
  · have e : g' = k := by simpa [Value.ownBlock] using hk
    omega

theorem owns_lt {w : World} {base : Nat} {u : Value} {ts : List (List UInt8)} (h : OwnS w base u ts) : ∀ k, u.ownBlock = some k → k < w.heap.size := by
  intro k hk
  rcases h.2 with ⟨rfl, _⟩ | ⟨g', cap, cur, rfl, hb, hg, _⟩
  · simp [Value.ownBlock] at hk
  · have e : g' = k := by simpa [Value.ownBlock] using hk
    subst e
    rcases Nat.lt_or_ge g' w.heap.size with h1 | h1
    · exact h1
    · rw [Array.getElem?_eq_none h1] at hg; cases hg

/-- A row of texts, behind a step of a block that lay there. -/
theorem owns_past {w w' : World} {base g : Nat} {u : Value} {ts : List (List UInt8)} (h : OwnS w base u ts) (hg : w.grownBy w' (some g)) (hlt : g < base) : OwnS w' base u ts := by
  refine World.ownsRow.kept (w := w) h hg ?_
  rcases hv : u.ownBlock with _ | q
  · exact .inl rfl
  · refine .inr fun e => ?_
    have := owns_ge h q hv
    injection e with e
    omega

theorem owns_below {w w' : World} {base : Nat} {u : Value} {ts : List (List UInt8)} (h : OwnS w base u ts) (hb : Below w.heap.size w w') : OwnS w' base u ts :=
  World.ownsRow.kept (w := w) h (only_below hb none) (by rcases u.ownBlock with _ | k <;> simp)

theorem owns_base {w : World} {base base' : Nat} {u : Value} {ts : List (List UInt8)} (h : OwnS w base u ts) (hb : base' ≤ base) : OwnS w base' u ts :=
  ⟨h.1, h.2.imp id fun ⟨g, cap, cur, p, q, r⟩ => ⟨g, cap, cur, p, Nat.le_trans hb q, r⟩⟩

/-- The cursor behind an append to a row of texts that lies behind it. -/
theorem cur_append {w1 w2 : World} {g B : Nat} {v u : Value} {l : List UInt8} {a : Nat} {e : Int} {o : Obj} {ts : List (List UInt8)} (h : Cur w1 g v l a e) (hrow : OwnS w1 B u ts) (h2 : (w1.alloc o).grownBy w2 u.ownBlock) (hg : g < B) (hv : ∀ k, v.ownBlock = some k → k < B) : Cur w2 g v l a e := by
  have hge := owns_ge hrow
  refine (h.below ((Below.refl _ _).alloc (Nat.le_refl _) o)).grown h2 (fun e => by have := hge g e.symm; omega) ?_
  rcases hv' : v.ownBlock with _ | q
  · exact .inl rfl
  · refine .inr fun e => ?_
    have h3 := hge q e.symm
    have h4 := hv q hv'
    omega

/-- How the texts so far stand to all. -/
def SoFar (l : List UInt8) (ts : List (List UInt8)) (a : Nat) (e : Int) : Prop :=
  (e = 0 ∧ ts.length ≤ a ∧ (allT l).1 = ts ++ (allT (l.drop a)).1 ∧ (allT l).2 = (allT (l.drop a)).2) ∨ (e ≠ 0 ∧ ts.length ≤ l.length + 1 ∧ (allT l).2 = e)

theorem sofar_start (l : List UInt8) : SoFar l [] 0 0 := .inl ⟨rfl, Nat.le_refl _, by simp, by simp⟩

theorem sofar_next {l : List UInt8} {ts : List (List UInt8)} {a : Nat} (h : SoFar l ts a 0) (ha : a < l.length) : SoFar l (ts ++ [(readT (l.drop a)).1]) (a + (readT (l.drop a)).2.1) (readT (l.drop a)).2.2 := by
  rcases h with ⟨_, h1, h2, h3⟩ | ⟨h0, _⟩
  · have hne : l.drop a ≠ [] := by
      intro e
      have := congrArg List.length e
      simp at this
      omega
    by_cases hz : (readT (l.drop a)).2.2 = 0
    · refine .inl ⟨hz, ?_, ?_, ?_⟩
      · have := (readT_move _ hz).1
        simp; omega
      · rw [h2, allT_ok hne hz, List.drop_drop]
        simp
      · rw [h3, allT_ok hne hz, List.drop_drop]
    · refine .inr ⟨hz, by simp; omega, ?_⟩
      rw [h3, allT_bad hne hz]
  · exact absurd rfl h0

theorem sofar_length {l : List UInt8} {ts : List (List UInt8)} {a : Nat} {e : Int} (h : SoFar l ts a e) (ha : a ≤ l.length) : ts.length ≤ l.length + 1 := by
  rcases h with ⟨_, h1, _⟩ | ⟨_, h1, _⟩ <;> omega

theorem sofar_end {l : List UInt8} {ts : List (List UInt8)} (h : SoFar l ts l.length 0) : allT l = (ts, 0) := by
  rcases h with ⟨_, h1, h2, h3⟩ | ⟨h0, _⟩
  · rw [List.drop_length, allT_nil] at h2 h3
    exact Prod.ext (by simpa using h2) h3
  · exact absurd rfl h0

/-- The length of a slice. -/
def lenV : Value → Nat
  | .slice _ n _ => n
  | _ => 0

theorem owns_len {w : World} {base : Nat} {u : Value} {ts : List (List UInt8)} (h : OwnS w base u ts) : lenV u = ts.length := by
  rcases h.2 with ⟨rfl, h0⟩ | ⟨g, cap, cur, rfl, _⟩
  · exact h0.symm
  · rfl

/-- What All tells: the texts, or none where it refuses. -/
def resT (l : List UInt8) : List (List UInt8) := if (allT l).2 = 0 then (allT l).1 else []

set_option maxRecDepth 20000 in
set_option maxHeartbeats 1600000 in
theorem all_any {w : World} {B : Nat} {A : Option Addr} {l : List UInt8} (h : Rd w B A l) (hB : B ≤ w.heap.size) (c : Nat) (hlen : l.length ≤ 1000000) :
    Calls Try.prog 45 #[.slice A l.length c] w fun r w' => ∃ u, r = .returned (.tuple #[u, .int .i64 (allT l).2]) ∧ OwnS w' w.heap.size u (resT l) ∧ Below w.heap.size w w' := by
  obtain ⟨i0, hi, hz0, hz1, hz2⟩ := info_parts str_info
  have hN := new_any c h hB (by omega)
  have hlen47 : l.length ≤ 140737488355328 := by omega
  clear h hB
  go_enter Try.func45, Try.ntmps45
  go_wp2_with (go_at_call 17; refine hN.mono ?_; rintro r w1 ⟨g, v, rfl, hM, hb1⟩)
  have hg1 : g < w1.heap.size := hM.1.1.lt
  have hv1 : ∀ k, v.ownBlock = some k → k < w1.heap.size := fun k hk => (own_ge hM.1.2.1 k hk).2
  have HN0 := Lib.hid (World.ownsRow_nil w1 w1.heap.size 9 1)
  have HC0 := Lib.hid hM.1
  have HB0 := Lib.hid hb1
  have hge0 := hM.2.1
  clear hM hb1 hN
  go_loopw [4] (fun u wr => ∃ (ts : List (List UInt8)) (a : Nat) (e : Int), OwnS wr w1.heap.size u ts ∧ Cur wr g v l a e ∧ Below w.heap.size w wr ∧ w1.heap.size ≤ wr.heap.size ∧ Hid (SoFar l ts a e)) (fun u _ => l.length + 2 - lenV u)
  case atStart => exact ⟨[], 0, 0, by simpa [OwnS, strV] using HN0.out, HC0.out, HB0.out, Nat.le_refl _, Lib.hid (sofar_start l)⟩
  case round =>
    obtain ⟨ts, a, e, hrow, hC, hb, hsz, hsf⟩ := hrel
    have hal := hC.2.2
    have hL := left_cur hC
    have HOWN := Lib.hid hrow
    have HLEN := Lib.hid (owns_len hrow)
    have HB := Lib.hid hb
    have HSF := hsf
    clear hb hsf
    by_cases he : e = 0
    · subst he
      rw [left_zero] at hL
      by_cases hlt : a < l.length
      · have hT := fun n => take_cur (hC.drewN n) hlen47
        have hK : 0 < l.length - a := by omega
        obtain ⟨r, hr⟩ : ∃ r, r = l.drop a := ⟨_, rfl⟩
        rw [← hr, takeT_zero] at hT
        have HNX := Lib.hid (by have := sofar_next HSF.out hlt; rwa [← hr] at this : SoFar l (ts ++ [(readT r).1]) (a + (readT r).2.1) (readT r).2.2)
        have hn := sofar_length HSF.out hal
        have h63 : ts.length + 1 ≤ maxLen := by unfold maxLen; omega
        have hby : (ts.length + 1) * 16 ≤ 140737488355328 := by omega
        have H63 := Lib.hid h63
        have HBY := Lib.hid hby
        have HN := Lib.hid hn
        clear hr hal hrow h63 hby hn
        generalize (readT r).1 = t at *
        generalize (readT r).2.1 = m at *
        generalize (readT r).2.2 = f at *
        generalize hnn : l.length - a = K at *
        clear hnn
        go_wp2_with (first
          | (go_at_call 20; refine hL.mono ?_; rintro r1 w2 ⟨rfl, n, rfl⟩)
          | (go_at_call 41; refine (hT _).mono ?_; rintro r1 w3 ⟨rfl, hC3, hG3⟩; have hG3' := only_drewN_left hG3; have hrow3 := owns_past HOWN.out hG3' hg1)
          | (at_builtin; refine wpList_append_own_at _ (by rfl) (.tmp 12) (.tmp 15) _ (by rfl) w1.heap.size 9 i0 (.string ⟨#[]⟩) 1 16 Try.underlying63 hi hz0 hz1 hz2 rfl (by decide) u4 ts.length (strV ts) (by rfl) (hrow3.alloc _) ⟨w3.heap.size, 0, none⟩ 1 1 [.string ⟨t.toArray⟩] (by rfl) rfl (cell_one_new _ _ _) (by simp [Value.oneCell']) H63.out HBY.out (by have := hG3'.size; simp; omega) ?_; intro v4 w4 hown4 hg4 hn4 hat4; have hC4 := cur_append hC3 hrow3 hg4 hg1 hv1; clear hn4 hat4))
        have HOW4 := Lib.hid (show OwnS w4 w1.heap.size v4 (ts ++ [t]) by rw [OwnS, strV_append, List.length_append]; exact hown4)
        have HB4 := Lib.hid (show Below w.heap.size w w4 from ((HB.out.trans (below_of_only hG3' (by have := HB.out.size; omega) (fun x hx => by cases hx; exact hge0))).trans ((Below.refl _ _).alloc (by have := HB.out.size; have := hG3'.size; omega) _)).grown hg4 (by have := HB.out.size; have := hG3'.size; simp; omega) (fun k hk => by have := owns_ge hrow3 k hk; have := HB0.out.size; omega))
        have HS4 := Lib.hid (show w1.heap.size ≤ w4.heap.size by have := hg4.size; have := hG3'.size; simp at *; omega)
        clear hown4 hg4
        have HL4 := Lib.hid (owns_len HOW4.out)
        go_roundw
        case rel => exact ⟨ts ++ [t], _, _, HOW4.out, hC4, HB4.out, HS4.out, HNX⟩
        case measure =>
          have h1 := HLEN.out
          have h2 := HL4.out
          have h3 := HN.out
          simp at h2
          simp [h1, h2]
          omega
      · have hal2 : a = l.length := by omega
        subst hal2
        have HA := Lib.hid (sofar_end HSF.out)
        rw [Nat.sub_self] at hL
        have hE := fun n => err_cur (hC.drewN n)
        have HR := Lib.hid (show (allT l).2 = 0 ∧ resT l = ts by rw [resT, HA.out]; exact ⟨rfl, rfl⟩)
        clear hlt hal hrow
        go_wp2_with (first
          | (go_at_call 20; refine hL.mono ?_; rintro r1 w2 ⟨rfl, n, rfl⟩)
          | (go_at_call 22; refine (hE _).mono ?_; rintro r1 w2 ⟨rfl, rfl⟩))
        go_ret2
        exact ⟨_, by rw [HR.out.1]; rfl, by rw [HR.out.2]; exact owns_base HOWN.out HB0.out.size, below_drewN HB.out n⟩
    · rw [show leftOf l a e = 0 by unfold leftOf; rw [if_neg he]] at hL
      have hE := fun n => err_cur (hC.drewN n)
      have hne : (e != 0) = true := by simp [he]
      have HR := Lib.hid (show (allT l).2 = e ∧ resT l = [] by
        rcases HSF.out with ⟨h0, _⟩ | ⟨_, _, h2⟩
        · exact absurd h0 he
        · exact ⟨h2, by rw [resT, if_neg (by rw [h2]; exact he)]⟩)
      clear hal hrow he
      go_wp2_with (first
        | (go_at_call 20; refine hL.mono ?_; rintro r1 w2 ⟨rfl, n, rfl⟩)
        | (go_at_call 22; refine (hE _).mono ?_; rintro r1 w2 ⟨rfl, rfl⟩))
      go_ret2
      exact ⟨_, by rw [HR.out.1]; rfl, by rw [HR.out.2]; exact World.ownsRow_nil _ _ _ _, below_drewN HB.out n⟩

end Go.Proofs.Ytbggajojhopaaaa
