/-
  Package sects: an entry's bytes (data).
-/

import Derived.Test.YtpdjpafchfbabaaDoorSeR
import Derived.Test.YtpdjpafchfbabaaDoorEhH
namespace Go.Proofs.YtpdjpafchfbabaaDoor
open Go Go.RowKit

theorem entE_zero {nm kd fl ad pl sz lk inf al ec size : Nat} (h : entE [nm, kd, fl, ad, pl, sz, lk, inf, al, ec] size = 0) : kd = 0 ∨ (kd = 8 ∧ sz ≤ 65536) ∨ (kd ≠ 0 ∧ kd ≠ 8 ∧ pl + sz ≤ size ∧ sz ≤ 65536) := by
  unfold entE at h
  simp only at h
  split at h
  · split at h
    · exact .inl (by assumption)
    · split at h
      · omega
      · split at h
        · omega
        · rename_i _ h0 h1 h2
          omega
  · omega
theorem entE_small {nm kd fl ad pl sz lk inf al ec size : Nat} (h : entE [nm, kd, fl, ad, pl, sz, lk, inf, al, ec] size = 0) : smallN [lk, inf, al, ec, kd] = true := by
  unfold entE at h
  simp only at h
  split at h
  · assumption
  · omega

set_option maxRecDepth 10000 in
set_option maxHeartbeats 1600000 in
theorem data_at {w : World} {g o B : Nat} {ns : List Nat} (h : EntAt w g o ns) {A : Option Addr} {l : List UInt8} (hr : Rd w B A l) (hB : B ≤ w.heap.size) (c : Nat) (hlc : l.length ≤ c) (hl : l.length ≤ 140737488355328) (h0 : entE ns l.length = 0) (h1 : 0 < l.length) :
    Calls Tryd.prog 48 #[.pointer (some ⟨g, o, none⟩), .slice A l.length c] w fun r w' => ∃ v, r = .returned v ∧ Own w' w.heap.size v (dataT l ns) ∧ Below w.heap.size w w' := by
  obtain ⟨i0, hi, hz0, hz1, hz2⟩ := info_parts u8_info
  have hg := h.lt
  obtain ⟨hll, hc⟩ := h
  match ns, hll with
  | [nm, kd, fl, ad, pl, sz, lk, inf, al, ec], _ =>
  have c1 := hc 1 kd rfl
  have c4 := hc 4 pl rfl
  have c5 := hc 5 sz rfl
  have HD := Lib.hid (show dataT l [nm, kd, fl, ad, pl, sz, lk, inf, al, ec] = if kd = 0 then [] else if kd = 8 then List.replicate sz 0 else (l.drop pl).take sz from rfl)
  generalize dataT l [nm, kd, fl, ad, pl, sz, lk, inf, al, ec] = dt at *
  rcases entE_zero h0 with hk | ⟨hk, hsz⟩ | ⟨hk0, hk8, hin, hsz⟩
  · have q0 : ((kd : Int) == 0) = true := by simp [hk]
    rw [if_pos hk] at HD
    clear hk hc h0 hr
    generalize l.length = n at *
    go_enter Tryd.func48, Tryd.ntmps48
    go_wp2_with fail
    go_ret
    exact ⟨_, rfl, by rw [HD.out]; exact World.ownsRow_nil _ _ _ _, Below.refl _ _⟩
  · have q0 : ((kd : Int) == 0) = false := by simp; omega
    have q8 : ((kd : Int) == 8) = true := by simp [hk]
    rw [if_neg (by omega), if_pos hk] at HD
    clear hk hc h0 hr
    generalize l.length = n at *
    go_enter Tryd.func48, Tryd.ntmps48
    go_wp2_with (at_make; refine wpList_make_full _ rfl _ _ 22 rfl w.heap.size 5 i0 (.int .u8 0) 1 Tryd.underlying22 hi hz0 hz1 .u64 .u64 (sz : Int) (sz : Int) sz rfl rfl rfl rfl (by rw [hz2]; omega) (by unfold maxLen; omega) (Nat.le_refl _) ?_; intro w1 hown1 hg1)
    go_ret
    refine ⟨_, rfl, ?_, below_of_only hg1 (Nat.le_refl _) (by simp)⟩
    rw [HD.out, Own, List.length_replicate]
    have e : (madeCells (Value.int .u8 0).cells (sz * 1)).toList = u8s (List.replicate sz 0) := by
      apply List.ext_getElem
      · simp [madeCells, u8s]
      · intro i h1 h2
        simp [madeCells, u8s, Value.cells, Nat.mod_one]
    rw [e] at hown1
    exact hown1
  · have q0 : ((kd : Int) == 0) = false := by simp; omega
    have q8 : ((kd : Int) == 8) = false := by simp; omega
    rw [if_neg hk0, if_neg hk8] at HD
    obtain ⟨b, q, rfl, hb, _⟩ := hr h1
    have hcut := rd_cut hr pl sz
    rw [Option.map_some, addr_add] at hcut
    have hcl : ((l.drop pl).take sz).length = sz := by simp; omega
    have HC := Lib.hid (fun (cc : Nat) => bclone_any (w := w.drew) (hcut.below ((Below.refl B w).drew)) hB cc (by rw [hcl]; omega))
    rw [hcl] at HC
    have hbw : Below w.heap.size w w.drew := (Below.refl _ _).drew
    have hpc : pl ≤ c := by omega
    have hpn : pl ≤ l.length := by omega
    have hszc : sz ≤ c - pl := by omega
    have hp48 : pl ≤ 140737488355328 := by omega
    have hcl2 := hcl
    clear hk0 hk8 hc h0 hr hcut hcl hin
    have hdl : ((l.drop pl).take sz).length = sz := hcl2
    clear hcl2
    generalize (l.drop pl).take sz = dl at *
    generalize l.length = n at *
    go_enter Tryd.func48, Tryd.ntmps48
    go_wp2_with fail
    have KS := Lib.hid (fun (W : World) (hW : Below w.heap.size w W) => (⟨by rw [hW.cell (p := ⟨g, o + 4, none⟩) hg]; exact c4, by rw [hW.cell (p := ⟨g, o + 5, none⟩) hg]; exact c5⟩ : W.cell? ⟨g, o + 4, none⟩ = some (.int .u64 (pl : Int)) ∧ W.cell? ⟨g, o + 5, none⟩ = some (.int .u64 (sz : Int))))
    clear c4 c5
    by_cases hpe : pl = c
    · have hs0 : sz = 0 := by omega
      have hd0 : dl = [] := List.eq_nil_of_length_eq_zero (by rw [hdl]; exact hs0)
      have HC0 := Lib.hid (fun W (A' : Option Addr) (cc : Nat) => bclone_any (w := W) (B := 0) (A := A') (l := []) Rd.nil_ (Nat.zero_le _) cc (by simp))
      rw [hd0] at HD
      subst hs0 hpe
      clear HC hd0 hdl
      go_region_held_law (fun W => W.cell? ⟨g, o + 4, none⟩ = some (.int .u64 (pl : Int)) ∧ W.cell? ⟨g, o + 5, none⟩ = some (.int .u64 ((0 : Nat) : Int))) ((refine KS.out _ ?_; first | exact hbw | exact hB1))
        (first | (go_at_call 66; refine (HC0.out _ _ _).mono ?_; rintro r w1 ⟨v1, rfl, hown1, hb1⟩; have hB1 : Below w.heap.size w w1 := hbw.trans (hb1.mono (by simp))))
      all_goals go_wp2
      all_goals go_ret
      all_goals exact ⟨_, rfl, by rw [HD.out]; exact own_up hown1 (by simp), hB1⟩
    · have hpc2 : pl < c := by omega
      have hpe2 : ¬ c = pl := by omega
      go_region_held_law (fun W => W.cell? ⟨g, o + 4, none⟩ = some (.int .u64 (pl : Int)) ∧ W.cell? ⟨g, o + 5, none⟩ = some (.int .u64 (sz : Int))) ((refine KS.out _ ?_; first | exact hbw | exact hB1))
        (first | (go_at_call 66; refine (HC.out _).mono ?_; rintro r w1 ⟨v1, rfl, hown1, hb1⟩; have hB1 : Below w.heap.size w w1 := hbw.trans (hb1.mono (by simp))))
      all_goals go_wp2
      all_goals go_ret
      all_goals exact ⟨_, rfl, by rw [HD.out]; exact own_up hown1 (by simp), hB1⟩

end Go.Proofs.YtpdjpafchfbabaaDoor
