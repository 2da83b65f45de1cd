/-
  The document's own parts, U and S of layer 2.
-/
import Derived.Test.YtejicboemkpeoaaGreatDoorRefR
import Derived.Test.YtejicboemkpeoaaGreatDoorLebT
import Derived.Test.YtejicboemkpeoaaGreatDoorLebU
import Derived.Test.YtejicboemkpeoaaGreatDoorLebC
namespace Go.Proofs.YtejicboemkpeoaaGreatDoor
open Go Go.RowKit

/-- The seven-bit parts as the cells that hold them. -/
def digs (l : List UInt8) : List Value := l.map fun b => Value.int .u64 ((b.toNat % 128 : Nat) : Int)
@[simp] theorem digs_length (l : List UInt8) : (digs l).length = l.length := by simp [digs]

theorem u64_info : (Tryz.prog.info? 38).map (fun i => (i.zero, i.size, i.bytes)) = some (some (.int .u64 0), 1, 8) := by kernel_rfl

/-- What parts tells, and leaves: where it refuses, no parts. -/
def PartsEnd (w : World) (B g : Nat) (v : Value) (l : List UInt8) (a : Nat) (u : Value) (w' : World) : Prop :=
  (lebRun 10 (l.drop a) = 10 ∧ u = .slice none 0 0 ∧ RR B w' g v l (a + 10) 11) ∨
  (lebRun 10 (l.drop a) < 10 ∧ lebRun 10 (l.drop a) = (l.drop a).length ∧ u = .slice none 0 0 ∧ RR B w' g v l (a + (l.drop a).length) 10) ∨
  (lebRun 10 (l.drop a) < 10 ∧ lebRun 10 (l.drop a) < (l.drop a).length ∧ w'.ownsRow w.heap.size 38 1 u (lebRun 10 (l.drop a) + 1) (digs ((l.drop a).take (lebRun 10 (l.drop a) + 1))) ∧ RR B w' g v l (a + (lebRun 10 (l.drop a) + 1)) 0)

theorem rowblock_ge {w : World} {base : Nat} {t : TypeId} {v : Value} {n : Nat} {xs : List Value} (h : w.ownsRow base t 1 v n xs) : ∀ k, v.ownBlock = some k → base ≤ k := by
  intro k hk
  rcases h.2 with ⟨rfl, _⟩ | ⟨g', cap, cur, rfl, hb, _⟩
  · simp [Value.ownBlock] at hk
  · have e : g' = k := by simpa [Value.ownBlock] using hk
    omega

/-- A row of the call's own, behind a step of a block that lay there. -/
theorem row_past {w w' : World} {base g : Nat} {t : TypeId} {v : Value} {n : Nat} {xs : List Value} (h : w.ownsRow base t 1 v n xs) (hg : w.grownBy w' (some g)) (hlt : g < base) : w'.ownsRow base t 1 v n xs := by
  refine h.kept hg ?_
  rcases hv : v.ownBlock with _ | q
  · exact .inl rfl
  · refine .inr fun e => ?_
    have := rowblock_ge h q hv
    injection e with e
    omega

/-- The cursor, and all that lay there, behind an append to a row of the call's own. -/
theorem rr_append {B : Nat} {w w1 w2 : World} {g : Nat} {v u : Value} {l : List UInt8} {a : Nat} {e : Int} {o : Obj} {n : Nat} {xs : List Value} {t : TypeId} (h : RR B w1 g v l a e) (hg : w.grownBy w1 (some g)) (hrow : w1.ownsRow w.heap.size t 1 u n xs) (h2 : (w1.alloc o).grownBy w2 u.ownBlock) (hlt : g < w.heap.size) :
    RR B w2 g v l a e ∧ w.grownBy w2 (some g) := by
  have hge := rowblock_ge hrow
  have hBg := h.2.2.2
  have h3 : RR B (w1.alloc o) g v l a e := h.below ((Below.refl _ _).alloc (Nat.le_refl _) o)
  refine ⟨h3.grown h2 (fun e => by have := hge g e.symm; omega) (fun x hx => by have := hge x hx; omega), ?_⟩
  exact only_trans (only_then_below hg ((Below.refl _ _).alloc (Nat.le_refl _) o)) h2 (.inr hge)

theorem q_one {B : Nat} {w : World} {g : Nat} {v : Value} {l : List UInt8} {a : Nat} (h : RR B w g v l a 0) (hlen : l.length ≤ 140737488355328) (hlt : a < l.length) :
    Calls Tryz.prog 58 #[.pointer (some ⟨g, 0, none⟩), .int .i64 1] w fun r w' => r = .returned (.int .u64 (l[a].toNat : Int)) ∧ RR B w' g v l (a + 1) 0 ∧ w.grownBy w' (some g) := by
  have h1 := quint_cur h 1 (by omega) hlen
  have hc : clampOf 1 = 1 := rfl
  have e1 : nextGot l a 0 1 = [l[a]] := by
    unfold nextGot
    rw [if_pos ⟨rfl, by omega⟩, List.drop_eq_getElem_cons hlt]
    rfl
  have e2 : nextAt l a 0 1 = a + 1 := by unfold nextAt; rw [if_pos ⟨rfl, by omega⟩]
  have e3 : nextErr l a 0 1 = 0 := by unfold nextErr; rw [if_pos rfl, if_pos (by omega)]
  rw [hc, e1, e2, e3, show leNat [l[a]] = l[a].toNat by simp [leNat]] at h1
  exact h1

theorem q_short {B : Nat} {w : World} {g : Nat} {v : Value} {l : List UInt8} {a : Nat} (h : RR B w g v l a 0) (hlen : l.length ≤ 140737488355328) (ha : a = l.length) :
    Calls Tryz.prog 58 #[.pointer (some ⟨g, 0, none⟩), .int .i64 1] w fun r w' => r = .returned (.int .u64 0) ∧ RR B w' g v l a 10 ∧ w.grownBy w' (some g) := by
  have h1 := quint_cur h 1 (by omega) hlen
  have hc : clampOf 1 = 1 := rfl
  have e1 : nextGot l a 0 1 = [] := by unfold nextGot; rw [if_neg (by omega)]
  have e2 : nextAt l a 0 1 = a := by unfold nextAt; rw [if_neg (by omega)]
  have e3 : nextErr l a 0 1 = 10 := by unfold nextErr; rw [if_pos rfl, if_neg (by omega)]
  rw [hc, e1, e2, e3] at h1
  exact h1

theorem cell_e {B : Nat} {w : World} {g : Nat} {v : Value} {l : List UInt8} {a : Nat} {e : Int} (h : RR B w g v l a e) : w.cell? ⟨g, 2, none⟩ = some (.int .i64 e) := by
  have := h.1.cell 2
  simpa using this
set_option maxRecDepth 100000 in
set_option maxHeartbeats 2000000 in
theorem rparts_ok {B : Nat} {w : World} {g : Nat} {v : Value} {l : List UInt8} {a : Nat} (h : RR B w g v l a 0) (hlen : l.length ≤ 140737488355328) :
    Calls Tryz.prog 136 #[.pointer (some ⟨g, 0, none⟩)] w fun r w' => ∃ u, r = .returned u ∧ PartsEnd w B g v l a u w' ∧ w.grownBy w' (some g) := by
  obtain ⟨i0, hi, hz0, hz1, hz2⟩ := info_parts u64_info
  have hgl := h.1.lt
  have hBg := h.2.2.2
  have HO := Lib.hid h
  obtain ⟨r, hr⟩ : ∃ r, r = l.drop a := ⟨_, rfl⟩
  have hal := h.2.2.1
  have hrl : r.length = l.length - a := by rw [hr]; simp
  unfold PartsEnd
  rw [← hr]
  have HN := Lib.hid (World.ownsRow_nil w w.heap.size 38 1)
  clear h
  go_enter Tryz.func136, Tryz.ntmps136
  go_wp2_with fail
  go_loopw [3, 4] (fun u i wr => ∃ y : Nat, i = .int .i64 y ∧ y ≤ 10 ∧ y ≤ r.length ∧ (∀ j (hj : j < r.length), j < y → 128 ≤ r[j].toNat) ∧ RR B wr g v l (a + y) 0 ∧ wr.ownsRow w.heap.size 38 1 u y (digs (r.take y)) ∧ w.grownBy wr (some g)) (fun _ i _ => 10 - (intOf i).toNat)
  case atStart => exact ⟨0, rfl, by omega, by omega, fun j hj h0 => by omega, HO.out, by simpa [digs] using HN.out, only_refl _ _⟩
  case round =>
    obtain ⟨y, rfl, hy10, hyr, hup, hC, hrow, hG⟩ := hrel
    by_cases hy : y = 10
    · subst hy
      have hF := qfail hC 11
      have HG := Lib.hid hG
      have hrun : lebRun 10 r = 10 := lebRun_eq 10 r 10 (Nat.le_refl _) hyr hup (.inl rfl)
      have HR := Lib.hid hrun
      clear hrun hG hrow hup
      go_wp2_with (go_at_call 137; refine hF.mono ?_; rintro r1 w1 ⟨rfl, hC1, hG1⟩)
      go_ret
      exact ⟨_, rfl, .inl ⟨HR.out, rfl, by simpa [failOf] using hC1⟩, HG.out.trans hG1⟩
    · have hy9 : y < 10 := by omega
      have hck : clampOf 1 = 1 := rfl
      by_cases hlt : y < r.length
      · have hay : a + y < l.length := by omega
        have hget : r[y] = l[a + y] := by simp only [hr, List.getElem_drop]
        have hU := q_one hC hlen hay
        have hds : digs (r.take (y + 1)) = digs (r.take y) ++ [.int .u64 ((l[a + y].toNat % 128 : Nat) : Int)] := by
          rw [List.take_succ_eq_append_getElem hlt, hget]
          simp [digs]
        have hb8 := l[a + y].toNat_lt
        have hgn : r[y].toNat = l[a + y].toNat := by rw [hget]
        clear hget
        generalize hb : l[a + y].toNat = b at *
        have HB := Lib.hid hb
        have HD := Lib.hid hds
        have HGT := Lib.hid hgn
        have HG := Lib.hid hG
        have hlen1 : (digs (r.take y)).length = y * 1 := by simp; omega
        have hcast : ((b % 128 : Nat) : Int) = (b : Int) % 128 := by omega
        have HT := Lib.hid hcast
        have HUP := Lib.hid hup
        have h63 : y + 1 ≤ maxLen := by unfold maxLen; omega
        have hbytes : (y + 1) * 8 ≤ 140737488355328 := by omega
        have HLE := Lib.hid hlen
        have H63 := Lib.hid h63
        have HBY := Lib.hid hbytes
        have HB8 := Lib.hid hb8
        clear hds hgn hup hG hlen1 hcast hb hlen h63 hbytes hb8
        by_cases hb1 : b < 128
        · have HRUN := Lib.hid (show lebRun 10 r = y from lebRun_eq 10 r y (by omega) hyr HUP.out (.inr (.inr ⟨hlt, by rw [HGT.out]; exact hb1⟩)))
          go_wp2_with (first
            | (go_at_call 58; refine hU.mono ?_; rintro r1 w1 ⟨rfl, hC1, hG1⟩; have c2 := cell_e hC1; have hrow1 := row_past hrow hG1 hgl)
            | (at_builtin; refine wpList_append_own_at _ (by rfl) (.tmp 17) (.tmp 20) _ (by rfl) w.heap.size 38 i0 (.int .u64 0) 1 8 Tryz.underlying232 hi hz0 hz1 hz2 rfl (by decide) u3 y (digs (r.take y)) (by rfl) (hrow1.alloc _) ⟨w1.heap.size, 0, none⟩ 1 1 [.int .u64 ((b : Int) % 128)] (by rfl) rfl (cell_one_new _ _ _) (by simp [Value.oneCell']) H63.out HBY.out (by have := HG.out.size; have := hG1.size; simp; omega) ?_; intro v2 w2 hown2 hg2 hn2 hat2; obtain ⟨hC2, hG2⟩ := rr_append hC1 (HG.out.trans hG1) hrow1 hg2 hgl; clear hn2 hat2 hg2))
          go_ret
          refine ⟨v2, rfl, .inr (.inr ⟨by rw [HRUN.out]; exact hy9, by rw [HRUN.out]; exact hlt, ?_, ?_⟩), hG2⟩
          · rw [HRUN.out, HD.out, HT.out]; exact hown2
          · rw [HRUN.out]; exact hC2
        · have hb2 : 128 ≤ b := by omega
          go_wp2_with (first
            | (go_at_call 58; refine hU.mono ?_; rintro r1 w1 ⟨rfl, hC1, hG1⟩; have c2 := cell_e hC1; have hrow1 := row_past hrow hG1 hgl)
            | (at_builtin; refine wpList_append_own_at _ (by rfl) (.tmp 17) (.tmp 20) _ (by rfl) w.heap.size 38 i0 (.int .u64 0) 1 8 Tryz.underlying232 hi hz0 hz1 hz2 rfl (by decide) u3 y (digs (r.take y)) (by rfl) (hrow1.alloc _) ⟨w1.heap.size, 0, none⟩ 1 1 [.int .u64 ((b : Int) % 128)] (by rfl) rfl (cell_one_new _ _ _) (by simp [Value.oneCell']) H63.out HBY.out (by have := HG.out.size; have := hG1.size; simp; omega) ?_; intro v2 w2 hown2 hg2 hn2 hat2; obtain ⟨hC2, hG2⟩ := rr_append hC1 (HG.out.trans hG1) hrow1 hg2 hgl; clear hn2 hat2 hg2))
          go_roundw
          case rel =>
            refine ⟨y + 1, by go_num, by omega, by omega, fun j hj hjy => ?_, hC2, by rw [HD.out, HT.out]; exact hown2, hG2⟩
            by_cases hjy' : j = y
            · subst hjy'; rw [HGT.out]; exact hb2
            · exact HUP.out j hj (by omega)
          case measure => simp [intOf]; omega
      · have hyl : y = r.length := by omega
        have hU := q_short hC hlen (by omega)
        have HG := Lib.hid hG
        have HRUN := Lib.hid (show lebRun 10 r = y from lebRun_eq 10 r y (by omega) hyr hup (.inr (.inl hyl)))
        have HYL := Lib.hid hyl
        clear hup hG hyl hlen
        go_wp2_with (go_at_call 58; refine hU.mono ?_; rintro r1 w1 ⟨rfl, hC1, hG1⟩; have c2 := cell_e hC1)
        go_ret
        exact ⟨_, rfl, .inr (.inl ⟨by rw [HRUN.out]; exact hy9, by rw [HRUN.out]; exact HYL.out, rfl, by rw [← HYL.out]; exact hC1⟩), HG.out.trans hG1⟩

end Go.Proofs.YtejicboemkpeoaaGreatDoor
