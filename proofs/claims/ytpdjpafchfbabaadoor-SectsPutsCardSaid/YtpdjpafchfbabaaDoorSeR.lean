/-
  Package sects: what an entry is refused with (refusal), and its bytes (data).
-/

import Derived.Test.YtpdjpafchfbabaaDoorSeE
import Derived.Test.YtpdjpafchfbabaaDoorEhA
namespace Go.Proofs.YtpdjpafchfbabaaDoor
open Go Go.RowKit

/-! ### An entry's numbers, read -/
/-- What an entry of a file of some size is refused with. -/
def entE (ns : List Nat) (size : Nat) : Int :=
  match ns with
  | [_, kd, _, _, pl, sz, lk, inf, al, ec] => if smallN [lk, inf, al, ec, kd] = true then (if kd = 0 then 0 else if kd ≠ 8 ∧ size < pl + sz then 22 else if 65536 < sz then 3 else 0) else 22
  | _ => 0
/-- An entry's bytes in a file. -/
def dataT (l : List UInt8) (ns : List Nat) : List UInt8 :=
  match ns with
  | [_, kd, _, _, pl, sz, _, _, _, _] => if kd = 0 then [] else if kd = 8 then List.replicate sz 0 else (l.drop pl).take sz
  | _ => []

/-- An entry in memory. -/
def EntAt (w : World) (g o : Nat) (ns : List Nat) : Prop := ns.length = 10 ∧ ∀ (j x : Nat), ns[j]? = some x → w.cell? ⟨g, o + j, none⟩ = some (.int .u64 (x : Int))
theorem EntAt.below {w w' : World} {g o B : Nat} {ns : List Nat} (h : EntAt w g o ns) (hb : Below B w w') (hg : g < B) : EntAt w' g o ns :=
  ⟨h.1, fun j x hx => by rw [hb.cell (p := ⟨g, o + j, none⟩) hg]; exact h.2 j x hx⟩
theorem EntAt.lt {w : World} {g o : Nat} {ns : List Nat} (h : EntAt w g o ns) : g < w.heap.size := by
  have h0 : ns[0]? = some (ns[0]'(by rw [h.1]; decide)) := List.getElem?_eq_getElem _
  exact World.block_lt_of_cell? w _ (h.2 0 _ h0)

theorem wrap_len (n : Nat) (h : n ≤ 140737488355328) : IntKind.u64.wrap (n : Int) = (n : Int) := by rw [IntWalk.u64_in _ (by omega)]

theorem small5b (a b c d e : Nat) (w : World) (g : Nat) (hB : Box w g 24 #[.int .u64 (a : Int), .int .u64 (b : Int), .int .u64 (c : Int), .int .u64 (d : Int), .int .u64 (e : Int)]) : Calls Tryd.prog 70 #[.slice (some ⟨g, 0, none⟩) 5 5] w fun r w' => r = .returned (.bool (smallN [a, b, c, d, e])) ∧ w = w' :=
  small_nat [a, b, c, d, e] _ _ 5 (fun i n hi => by
    rw [hB.cell i]
    have : (#[Value.int .u64 (a : Int), .int .u64 (b : Int), .int .u64 (c : Int), .int .u64 (d : Int), .int .u64 (e : Int)])[i]? = ([a, b, c, d, e][i]?).map (fun n => Value.int .u64 ((n : Nat) : Int)) := by
      rw [← List.getElem?_map]; simp
    rw [this, hi]
    rfl) (by simp)

set_option maxRecDepth 10000 in
set_option maxHeartbeats 1600000 in
theorem refusal_at {w : World} {g o : Nat} {ns : List Nat} (h : EntAt w g o ns) (hn : ∀ x ∈ ns, x < two64) (size : Nat) (hs : size ≤ 140737488355328) :
    Calls Tryd.prog 47 #[.pointer (some ⟨g, o, none⟩), .int .i64 (size : Int)] w fun r w' => r = .returned (.int .i64 (entE ns size)) ∧ Below w.heap.size w w' := by
  have hg := h.lt
  obtain ⟨hl, hc⟩ := h
  match ns, hl with
  | [nm, kd, fl, ad, pl, sz, lk, inf, al, ec], _ =>
  have c1 := hc 1 kd rfl
  have c4 := hc 4 pl rfl
  have c5 := hc 5 sz rfl
  have c6 := hc 6 lk rfl
  have c7 := hc 7 inf rfl
  have c8 := hc 8 al rfl
  have c9 := hc 9 ec rfl
  have HE := Lib.hid (show entE [nm, kd, fl, ad, pl, sz, lk, inf, al, ec] size = if smallN [lk, inf, al, ec, kd] = true then (if kd = 0 then 0 else if kd ≠ 8 ∧ size < pl + sz then 22 else if 65536 < sz then 3 else 0) else 22 from rfl)
  have HS := Lib.hid (fun W q hq => small5b lk inf al ec kd W q hq)
  have hpl : pl < two64 := hn pl (by simp)
  have hsz : sz < two64 := hn sz (by simp)
  have HW := Lib.hid (fun W => within_any pl sz size W hpl hsz)
  rw [within_iff pl sz size (by unfold two64; omega)] at HW
  have hwr := wrap_len size hs
  have KS := Lib.hid (fun (W : World) (hW : Below w.heap.size w W) => (⟨by rw [hW.cell (p := ⟨g, o + 6, none⟩) hg]; exact c6, by rw [hW.cell (p := ⟨g, o + 7, none⟩) hg]; exact c7, by rw [hW.cell (p := ⟨g, o + 8, none⟩) hg]; exact c8, by rw [hW.cell (p := ⟨g, o + 9, none⟩) hg]; exact c9, by rw [hW.cell (p := ⟨g, o + 1, none⟩) hg]; exact c1, by rw [hW.cell (p := ⟨g, o + 4, none⟩) hg]; exact c4, by rw [hW.cell (p := ⟨g, o + 5, none⟩) hg]; exact c5⟩ :
    W.cell? ⟨g, o + 6, none⟩ = some (.int .u64 (lk : Int)) ∧ W.cell? ⟨g, o + 7, none⟩ = some (.int .u64 (inf : Int)) ∧ W.cell? ⟨g, o + 8, none⟩ = some (.int .u64 (al : Int)) ∧ W.cell? ⟨g, o + 9, none⟩ = some (.int .u64 (ec : Int)) ∧ W.cell? ⟨g, o + 1, none⟩ = some (.int .u64 (kd : Int)) ∧ W.cell? ⟨g, o + 4, none⟩ = some (.int .u64 (pl : Int)) ∧ W.cell? ⟨g, o + 5, none⟩ = some (.int .u64 (sz : Int))))
  clear hc hn hpl hsz hs
  generalize entE [nm, kd, fl, ad, pl, sz, lk, inf, al, ec] size = ev at *
  generalize hsm : smallN [lk, inf, al, ec, kd] = sm at *
  clear hsm
  have hb0 : Below w.heap.size w w.drew := (Below.refl _ _).drew
  go_enter Tryd.func47, Tryd.ntmps47
  go_wp2_with fail
  cases sm with
  | false =>
    go_region_held_law (fun W => W.cell? ⟨g, o + 6, none⟩ = some (.int .u64 (lk : Int)) ∧ W.cell? ⟨g, o + 7, none⟩ = some (.int .u64 (inf : Int)) ∧ W.cell? ⟨g, o + 8, none⟩ = some (.int .u64 (al : Int)) ∧ W.cell? ⟨g, o + 9, none⟩ = some (.int .u64 (ec : Int)) ∧ W.cell? ⟨g, o + 1, none⟩ = some (.int .u64 (kd : Int)) ∧ W.cell? ⟨g, o + 4, none⟩ = some (.int .u64 (pl : Int)) ∧ W.cell? ⟨g, o + 5, none⟩ = some (.int .u64 (sz : Int)))
      ((refine KS.out _ ?_; go_grown))
      (first | (go_at_call 70; refine (HS.out _ _ (by exact Box.new w _ _)).mono ?_; rintro r w1 ⟨rfl, hw1⟩; subst hw1))
    have HF := Lib.hid (show ev = 22 by rw [HE.out]; rfl)
    all_goals go_wp2_with fail
    all_goals go_ret
    all_goals exact ⟨by rw [HF.out]; rfl, by go_grown⟩
  | true =>
    rw [if_pos (show (true : Bool) = true from rfl)] at HE
    go_region_held_law (fun W => W.cell? ⟨g, o + 6, none⟩ = some (.int .u64 (lk : Int)) ∧ W.cell? ⟨g, o + 7, none⟩ = some (.int .u64 (inf : Int)) ∧ W.cell? ⟨g, o + 8, none⟩ = some (.int .u64 (al : Int)) ∧ W.cell? ⟨g, o + 9, none⟩ = some (.int .u64 (ec : Int)) ∧ W.cell? ⟨g, o + 1, none⟩ = some (.int .u64 (kd : Int)) ∧ W.cell? ⟨g, o + 4, none⟩ = some (.int .u64 (pl : Int)) ∧ W.cell? ⟨g, o + 5, none⟩ = some (.int .u64 (sz : Int)))
      ((refine KS.out _ ?_; go_grown))
      (first | (go_at_call 70; refine (HS.out _ _ (by exact Box.new w _ _)).mono ?_; rintro r w1 ⟨rfl, hw1⟩; subst hw1))
    rename_i hHeld
    obtain ⟨-, -, -, -, k1, k4, k5⟩ := hHeld
    have hHB : Below w.heap.size w (w.alloc (.cells #[.int .u64 (lk : Int), .int .u64 (inf : Int), .int .u64 (al : Int), .int .u64 (ec : Int), .int .u64 (kd : Int)] 24)).drew := by go_grown
    generalize (w.alloc (.cells #[.int .u64 (lk : Int), .int .u64 (inf : Int), .int .u64 (al : Int), .int .u64 (ec : Int), .int .u64 (kd : Int)] 24)).drew = w1 at *
    have HB := Lib.hid hHB
    clear KS HS hHB hb0 c1 c4 c5 c6 c7 c8 c9
    by_cases h0 : kd = 0
    · have HF := Lib.hid (show ev = 0 by rw [HE.out, if_pos h0])
      have q0 : ((kd : Int) == 0) = true := by simp [h0]
      clear h0 HE
      go_wp2_with fail
      go_ret
      exact ⟨by rw [HF.out]; rfl, HB.out⟩
    · have q0 : ((kd : Int) == 0) = false := by simpa using h0
      rw [if_neg h0] at HE
      clear h0
      by_cases h8 : kd = 8
      · have q8 : ((kd : Int) != 8) = false := by simp [h8]
        have q9 : ((kd : Int) == 8) = true := by simp [h8]
        rw [if_neg (show ¬ (kd ≠ 8 ∧ size < pl + sz) by simp [h8])] at HE
        clear h8 HW
        by_cases hz : 65536 < sz
        · have HF := Lib.hid (show ev = 3 by rw [HE.out, if_pos hz])
          have hd : decide ((65536 : Int) < (sz : Int)) = true := decide_eq_true (by omega)
          clear hz HE
          go_wp2_with fail
          go_quiet (fail)
          go_wp2_with fail
          go_ret
          exact ⟨by rw [HF.out]; rfl, below_drewN HB.out _⟩
        · have HF := Lib.hid (show ev = 0 by rw [HE.out, if_neg hz])
          have hd : decide ((65536 : Int) < (sz : Int)) = false := decide_eq_false (by omega)
          clear hz HE
          go_wp2_with fail
          go_quiet (fail)
          go_wp2_with fail
          go_ret
          exact ⟨by rw [HF.out]; rfl, below_drewN HB.out _⟩
      · have q8 : ((kd : Int) != 8) = true := by simp; omega
        have q9 : ((kd : Int) == 8) = false := by simp; omega
        have hW1 := HW.out w1.drew
        by_cases hin : pl + sz ≤ size
        · rw [decide_eq_true hin] at HW
          rw [if_neg (show ¬ (kd ≠ 8 ∧ size < pl + sz) by omega)] at HE
          clear h8 hin hW1
          have kk : (fun W => W.cell? ⟨g, o + 1, none⟩ = some (.int .u64 (kd : Int)) ∧ W.cell? ⟨g, o + 4, none⟩ = some (.int .u64 (pl : Int)) ∧ W.cell? ⟨g, o + 5, none⟩ = some (.int .u64 (sz : Int))) w1 := ⟨k1, k4, k5⟩
          by_cases hz : 65536 < sz
          · have HF := Lib.hid (show ev = 3 by rw [HE.out, if_pos hz])
            have hd : decide ((65536 : Int) < (sz : Int)) = true := decide_eq_true (by omega)
            clear hz HE
            go_wp2_with fail
            go_region_held_law (fun W => W.cell? ⟨g, o + 1, none⟩ = some (.int .u64 (kd : Int)) ∧ W.cell? ⟨g, o + 4, none⟩ = some (.int .u64 (pl : Int)) ∧ W.cell? ⟨g, o + 5, none⟩ = some (.int .u64 (sz : Int))) (exact kk)
              (first | (go_at_call 59; refine (HW.out _).mono ?_; rintro r w2 ⟨rfl, hw2⟩; subst hw2))
            all_goals go_wp2_with fail
            all_goals go_ret
            all_goals exact ⟨by rw [HF.out]; rfl, by have := HB.out; go_grown⟩
          · have HF := Lib.hid (show ev = 0 by rw [HE.out, if_neg hz])
            have hd : decide ((65536 : Int) < (sz : Int)) = false := decide_eq_false (by omega)
            clear hz HE
            go_wp2_with fail
            go_region_held_law (fun W => W.cell? ⟨g, o + 1, none⟩ = some (.int .u64 (kd : Int)) ∧ W.cell? ⟨g, o + 4, none⟩ = some (.int .u64 (pl : Int)) ∧ W.cell? ⟨g, o + 5, none⟩ = some (.int .u64 (sz : Int))) (exact kk)
              (first | (go_at_call 59; refine (HW.out _).mono ?_; rintro r w2 ⟨rfl, hw2⟩; subst hw2))
            all_goals go_wp2_with fail
            all_goals go_ret
            all_goals exact ⟨by rw [HF.out]; rfl, by have := HB.out; go_grown⟩
        · have HF := Lib.hid (show ev = 22 by rw [HE.out, if_pos ⟨h8, by omega⟩])
          rw [decide_eq_false hin] at HW
          clear h8 hin hW1 HE
          have kk : (fun W => W.cell? ⟨g, o + 1, none⟩ = some (.int .u64 (kd : Int)) ∧ W.cell? ⟨g, o + 4, none⟩ = some (.int .u64 (pl : Int)) ∧ W.cell? ⟨g, o + 5, none⟩ = some (.int .u64 (sz : Int))) w1 := ⟨k1, k4, k5⟩
          go_wp2_with fail
          go_region_held_law (fun W => W.cell? ⟨g, o + 1, none⟩ = some (.int .u64 (kd : Int)) ∧ W.cell? ⟨g, o + 4, none⟩ = some (.int .u64 (pl : Int)) ∧ W.cell? ⟨g, o + 5, none⟩ = some (.int .u64 (sz : Int))) (exact kk)
            (first | (go_at_call 59; refine (HW.out _).mono ?_; rintro r w2 ⟨rfl, hw2⟩; subst hw2))
          all_goals go_wp2_with fail
          all_goals go_ret
          all_goals exact ⟨by rw [HF.out]; rfl, by have := HB.out; go_grown⟩

end Go.Proofs.YtpdjpafchfbabaaDoor
