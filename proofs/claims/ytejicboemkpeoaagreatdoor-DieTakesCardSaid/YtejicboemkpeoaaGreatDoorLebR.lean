/-
  The bytes of a number, told one by one: what the function that is ranged over does with a cursor, whatever the loop's body does with each.
-/
import Derived.Test.YtejicboemkpeoaaGreatDoorCurN
import Derived.Test.YtejicboemkpeoaaGreatDoorLebN
import Derived.Test.YtejicboemkpeoaaGreatDoorRange
import Derived.LoopIn
import Derived.LoopNIn
import Derived.OwnWalkIn
import Derived.TacticsInMore
namespace Go.Proofs.YtejicboemkpeoaaGreatDoor
open Go Go.RowKit

attribute [local go_sem] Oper.semAt_some

/-- A cursor, or nobody, as readers of single bytes see it: r is what lies before it, k how many of these it went on, e its refusal. -/
structure CurLike (B : Nat) (p : Value) (r : List UInt8) (row : Option Nat) (CS : Nat → Int → World → Prop) : Prop where
  u8 : ∀ W k (h : k < r.length), CS k 0 W → Calls Tryz.prog 93 #[p] W fun e W' => e = .returned (.int .u64 (r[k].toNat : Int)) ∧ CS (k + 1) 0 W' ∧ W.grownBy W' row
  short : ∀ W, CS r.length 0 W → Calls Tryz.prog 93 #[p] W fun e W' => e = .returned (.int .u64 0) ∧ CS r.length 10 W' ∧ W.grownBy W' row
  stop : ∀ W k e, e ≠ 0 → CS k e W → Calls Tryz.prog 93 #[p] W fun x W' => x = .returned (.int .u64 0) ∧ CS k e W' ∧ W.grownBy W' row
  err : ∀ W k e, CS k e W → Calls Tryz.prog 56 #[p] W fun x W' => x = .returned (.int .i64 e) ∧ W = W'
  fail : ∀ W k e f, CS k e W → Calls Tryz.prog 54 #[p, .int .i64 f] W fun x W' => x = .returned (.tuple #[]) ∧ CS k (failOf e f) W' ∧ W.grownBy W' row
  keep : ∀ W W' k e q, CS k e W → W.grownBy W' q → (∀ x, q = some x → B ≤ x) → CS k e W'
  row_lt : ∀ x, row = some x → x < B
  row_cells : ∀ W k e x (o : Obj), CS k e W → row = some x → W.heap[x]? = some o → o.isCells = true

/-- The state of a loop over a number's bytes: how many were yielded, how many the cursor went on, its refusal; what the loop's own cells hold. -/
def LebI (CS : Nat → Int → World → Prop) (w0 : World) (row : Option Nat) (p : Value) (bc bn bp : Nat) (acc : Nat → Value) (s : Nat × Nat × Int) (W : World) : Prop :=
  CS s.2.1 s.2.2 W ∧ (W.cell? ⟨bn, 0, none⟩ = some (acc s.1) ∧ W.frozen? ⟨bn, 0, none⟩ = false ∧ W.cell? ⟨bc, 0, none⟩ = some p ∧ W.cell? ⟨bp, 0, none⟩ = some p) ∧ w0.grownBy W row

/-- One yield. -/
def LebY (r : List UInt8) (bad : Nat → UInt8 → Bool) (s : Nat × Nat × Int) (x : Nat × UInt8) (s' : Nat × Nat × Int) : Prop :=
  s.1 < 10 ∧ s.2 = (s.1 + 1, 0) ∧ r[s.1]? = some x.2 ∧ x.1 = s.1 ∧ s' = (s.1 + 1, s.1 + 1, if bad s.1 x.2 then 11 else 0)

/-- The end, of a cursor that had not refused. -/
def LebD (r : List UInt8) (bad : Nat → UInt8 → Bool) (s : Nat × Nat × Int) : Prop :=
  (lebRun 10 r = 10 ∧ s = (10, 10, 11)) ∨ (lebRun 10 r < 10 ∧ lebRun 10 r = r.length ∧ s = (r.length, r.length, 10)) ∨
    (lebRun 10 r < 10 ∧ ∃ h : lebRun 10 r < r.length, s = (lebRun 10 r + 1, lebRun 10 r + 1, if bad (lebRun 10 r) r[lebRun 10 r] then 11 else 0))

theorem cell_step {A C : World} {row : Option Nat} {b : Nat} {v : Value} {B : Nat} (h : A.cell? ⟨b, 0, none⟩ = some v) (hg : A.grownBy C row) (hr : ∀ x, row = some x → x < B) (hb : B ≤ b) : C.cell? ⟨b, 0, none⟩ = some v := by
  have hlt := World.block_lt_of_cell? A _ h
  exact (World.cell?_of_block (hg.block b hlt (fun e => by have := hr b e.symm; omega))).trans h
theorem frozen_step {A C : World} {row : Option Nat} {b : Nat} {v : Value} {B : Nat} (h : A.cell? ⟨b, 0, none⟩ = some v) (hf : A.frozen? ⟨b, 0, none⟩ = false) (hg : A.grownBy C row) (hr : ∀ x, row = some x → x < B) (hb : B ≤ b) : C.frozen? ⟨b, 0, none⟩ = false := by
  have hlt := World.block_lt_of_cell? A _ h
  exact (World.frozen?_of_block (hg.block b hlt (fun e => by have := hr b e.symm; omega))).trans hf

section
variable {B : Nat} {p : Value} {r : List UInt8} {row : Option Nat} {CS : Nat → Int → World → Prop} {w0 : World} {bc bn bp : Nat} {acc : Nat → Value}

/-- A step of the cursor's. -/
theorem LebI.step (CL : CurLike B p r row CS) (hc : B ≤ bc) (hn : B ≤ bn) (hp : B ≤ bp) {y k k' : Nat} {e e' : Int} {A C : World} (h : LebI CS w0 row p bc bn bp acc (y, k, e) A) (hg : A.grownBy C row) (hC : CS k' e' C) : LebI CS w0 row p bc bn bp acc (y, k', e') C :=
  ⟨hC, ⟨cell_step h.2.1.1 hg CL.row_lt hn, frozen_step h.2.1.1 h.2.1.2.1 hg CL.row_lt hn, cell_step h.2.1.2.2.1 hg CL.row_lt hc, cell_step h.2.1.2.2.2 hg CL.row_lt hp⟩, only_trans' h.2.2 hg⟩
where
  only_trans' {a b c : World} {q : Option Nat} (h : a.grownBy b q) (k : b.grownBy c q) : a.grownBy c q := h.trans k

theorem LebI.keeps (CL : CurLike B p r row CS) {s : Nat × Nat × Int} {A C : World} (h : LebI CS w0 row p bc bn bp acc s A) (hg : A.grownBy C row) : KeepsOthers A C :=
  .of_grownBy hg fun j o hj ho => CL.row_cells _ _ _ j o h.1 hj ho

set_option maxRecDepth 100000 in
set_option maxHeartbeats 1000000 in
theorem parts_iter (CL : CurLike B p r row CS) (hc : B ≤ bc) (hn : B ≤ bn) (hp : B ≤ bp) (n : Nat) (hn2 : 2 ≤ n) (bad : Nat → UInt8 → Bool) (hbad : ∀ y b, bad y b = true → y = 9) :
    StatesIter Fence.wide n Tryz.prog 164 #[.pointer (some ⟨bp, 0, none⟩)] (fun x : Nat × UInt8 => #[.int .i64 (7 * (x.1 : Int)), .int .u8 (x.2.toNat : Int)])
      (LebI CS w0 row p bc bn bp acc) (LebY r bad) (0, 0, 0) (LebD r bad) := by
  intro l J W hJI hJ hY h0
  have hn1 : 1 ≤ n := by omega
  refine callsIn_of_wp Tryz.func164 rfl trivial ?_ rfl
  simp only [Tryz.ntmps164, List.size_toArray, List.length_cons, List.length_nil, Nat.reduceAdd, Nat.reduceSub, Array.replicate_succ, Array.replicate_zero, List.push_toArray, List.append_toArray, List.nil_append, List.cons_append]
  gi_wp2
  gi_loopw [5] (fun i wr => ∃ (y : Nat) (e : Int), i = .int .i64 y ∧ y ≤ 10 ∧ (y < 10 → e = 0) ∧ (e = 0 ∨ e = 11) ∧ y ≤ r.length ∧ (∀ j (h : j < r.length), j < y → 128 ≤ r[j].toNat) ∧ J (y, y, e) wr) (fun i _ => 10 - (intOf i).toNat)
  case atStart => exact ⟨0, 0, rfl, by omega, fun _ => rfl, .inl rfl, by omega, fun j h hj => by omega, h0⟩
  case round =>
    obtain ⟨y, e, rfl, hy10, he0, he11, hyl, hup, hJy⟩ := hrel
    have hI := hJI _ _ hJy
    have hBp := hI.2.1.2.2.2
    by_cases hy : y = 10
    · subst hy
      have hF := CL.fail wr 10 e 11 hI.1
      gi_wp2_with (first | (gi_at_call 54; refine (callsIn_wide.2 hF).mono ?_; rintro r1 W1 ⟨rfl, hC1, hG1⟩) | (refine ⟨trivial, ?_⟩; gi_at_call 54; refine (callsIn_wide.2 hF).mono ?_; rintro r1 W1 ⟨rfl, hC1, hG1⟩))
      go_end0
      have hrun : lebRun 10 r = 10 := lebRun_eq 10 r 10 (Nat.le_refl _) hyl hup (.inl rfl)
      have hf : failOf e 11 = 11 := by rcases he11 with rfl | rfl <;> rfl
      exact ⟨⟨_, rfl⟩, (10, 10, 11), .inl ⟨hrun, rfl⟩, hJ _ _ _ _ hJy (hI.step CL hc hn hp hG1 (by rw [← hf]; exact hC1)) (hI.keeps CL hG1)⟩
    · have hy9 : y < 10 := by omega
      obtain rfl := he0 hy9
      have hE := fun W k e (h : CS k e W) => callsIn_wide (n := n - 1) |>.2 (CL.err W k e h)
      by_cases hlt : y < r.length
      · have hU := callsIn_wide (n := n - 1) |>.2 (CL.u8 wr y hlt hI.1)
        have hget : r[y]? = some r[y] := List.getElem?_eq_getElem hlt
        generalize hb : r[y] = b at *
        have hb8 : (b.toNat : Int) < 256 := by have := b.toNat_lt; omega
        have hYY := fun A (h : J (y, y + 1, 0) A) => hY _ (y, b) _ A h ⟨hy9, rfl, hget, rfl, rfl⟩
        by_cases hb1 : b.toNat < 128
        · have hrun : lebRun 10 r = y := lebRun_eq 10 r y (by omega) hyl hup (.inr (.inr ⟨hlt, by rw [hb]; exact hb1⟩))
          gi_wp2_with (refine ⟨trivial, ?_⟩; first
            | (gi_at_call 93; refine hU.mono ?_; rintro r1 W1 ⟨rfl, hC1, hG1⟩; have hI1 := hI.step CL hc hn hp hG1 hC1; have hJ1 := hJ _ _ _ _ hJy hI1 (hI.keeps CL hG1); have hBp1 := hI1.2.1.2.2.2; obtain ⟨fn, tmps, assign, body, hy1, hR⟩ := hYY _ hJ1)
            | (gi_at_call 56; refine (hE _ _ _ hC1).mono ?_; rintro r2 W2 ⟨rfl, rfl⟩))
          refine hR.mono ?_
          rintro e3 W3 ⟨rfl, hJ3⟩
          gi_wp2
          refine bodyPost_ret (results_none rfl _ _ _) rfl ?_
          exact ⟨⟨_, rfl⟩, _, .inr (.inr ⟨by omega, by rw [hrun]; exact hlt, by rw [← hb]; simp only [hrun]⟩), hJ3⟩
        · have hnb : 128 ≤ b.toNat := by omega
          gi_wp2_with (refine ⟨trivial, ?_⟩; first
            | (gi_at_call 93; refine hU.mono ?_; rintro r1 W1 ⟨rfl, hC1, hG1⟩; have hI1 := hI.step CL hc hn hp hG1 hC1; have hJ1 := hJ _ _ _ _ hJy hI1 (hI.keeps CL hG1); have hBp1 := hI1.2.1.2.2.2; obtain ⟨fn, tmps, assign, body, hy1, hR⟩ := hYY _ hJ1)
            | (gi_at_call 56; refine (hE _ _ _ hC1).mono ?_; rintro r2 W2 ⟨rfl, rfl⟩))
          refine hR.mono ?_
          rintro e3 W3 ⟨rfl, hJ3⟩
          gi_wp2
          go_roundw
          case rel =>
            refine ⟨y + 1, _, by go_num, by omega, fun h => ?_, ?_, by omega, fun j hj hjy => ?_, hJ3⟩
            · have : bad y b = false := by
                rcases hbb : bad y b with _ | _
                · rfl
                · have := hbad _ _ hbb; omega
              rw [this]; rfl
            · by_cases hbb : bad y b = true
              · rw [if_pos hbb]; exact .inr rfl
              · rw [if_neg hbb]; exact .inl rfl
            · by_cases hjy' : j = y
              · subst hjy'; rw [hb]; exact hnb
              · exact hup j hj (by omega)
          case measure => simp [intOf]; omega
      · have hyr : y = r.length := by omega
        have hU := callsIn_wide (n := n - 1) |>.2 (CL.short wr (by rw [← hyr]; exact hI.1))
        have hrun : lebRun 10 r = y := lebRun_eq 10 r y (by omega) hyl hup (.inr (.inl hyr))
        gi_wp2_with (refine ⟨trivial, ?_⟩; first
            | (gi_at_call 93; refine hU.mono ?_; rintro r1 W1 ⟨rfl, hC1, hG1⟩; have hI1 := hI.step CL hc hn hp hG1 hC1; have hJ1 := hJ _ _ _ _ hJy hI1 (hI.keeps CL hG1); have hBp1 := hI1.2.1.2.2.2)
            | (gi_at_call 56; refine (hE _ _ _ hC1).mono ?_; rintro r2 W2 ⟨rfl, rfl⟩))
        refine ⟨fun _ h => (by cases h), ?_⟩
        gi_wp2
        refine bodyPost_ret (results_none rfl _ _ _) rfl ?_
        exact ⟨⟨_, rfl⟩, _, .inr (.inl ⟨by omega, by omega, rfl⟩), by have h := hJ1; rw [hyr] at h; exact h⟩

theorem parts_none (CL : CurLike B p r row CS) (hc : B ≤ bc) (hn : B ≤ bn) (hp : B ≤ bp) (n : Nat) (hn2 : 2 ≤ n) (e : Int) (he : e ≠ 0) :
    StatesIter Fence.wide n Tryz.prog 164 #[.pointer (some ⟨bp, 0, none⟩)] (fun x : Nat × UInt8 => #[.int .i64 (7 * (x.1 : Int)), .int .u8 (x.2.toNat : Int)])
      (LebI CS w0 row p bc bn bp acc) (fun _ _ _ => False) (0, 0, e) (fun s => s = (0, 0, e)) := by
  intro l J W hJI hJ hY h0
  have hn1 : 1 ≤ n := by omega
  have hz : (e != 0) = true := by simp [he]
  have hI := hJI _ _ h0
  have hBp := hI.2.1.2.2.2
  have hU := callsIn_wide (n := n - 1) |>.2 (CL.stop W 0 e he hI.1)
  have hE := fun W k e (h : CS k e W) => callsIn_wide (n := n - 1) |>.2 (CL.err W k e h)
  refine callsIn_of_wp Tryz.func164 rfl trivial ?_ rfl
  simp only [Tryz.ntmps164, List.size_toArray, List.length_cons, List.length_nil, Nat.reduceAdd, Nat.reduceSub, Array.replicate_succ, Array.replicate_zero, List.push_toArray, List.append_toArray, List.nil_append, List.cons_append]
  gi_wp2
  gi_loopw [5] (fun i wr => i = .int .i64 0 ∧ wr = W) (fun i _ => 0)
  case atStart => exact ⟨rfl, rfl⟩
  case round =>
    obtain ⟨rfl, rfl⟩ := hrel
    gi_wp2_with (refine ⟨trivial, ?_⟩; first
            | (gi_at_call 93; refine hU.mono ?_; rintro r1 W1 ⟨rfl, hC1, hG1⟩; have hI1 := hI.step CL hc hn hp hG1 hC1; have hJ1 := hJ _ _ _ _ h0 hI1 (hI.keeps CL hG1); have hBp1 := hI1.2.1.2.2.2)
            | (gi_at_call 56; refine (hE _ _ _ hC1).mono ?_; rintro r2 W2 ⟨rfl, rfl⟩))
    refine ⟨fun _ h => (by cases h), ?_⟩
    gi_wp2
    refine bodyPost_ret (results_none rfl _ _ _) rfl ?_
    exact ⟨⟨_, rfl⟩, _, rfl, hJ1⟩
end

end Go.Proofs.YtejicboemkpeoaaGreatDoor
