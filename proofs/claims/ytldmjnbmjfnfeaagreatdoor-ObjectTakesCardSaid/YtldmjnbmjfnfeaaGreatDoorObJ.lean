/-
  The document's object: its Take, of whatever bytes.
-/
import Derived.Test.YtldmjnbmjfnfeaaGreatDoorObI
import Derived.Deep.OwnRows
import Derived.Deep.DeepCutAuto
import Derived.Deep.LoopGhost
import Derived.Deep.RegionHeldLaw
import Derived.Deep.QuietTactic
import Derived.BigQuiet
import Derived.Test.YtldmjnbmjfnfeaaGreatDoorStE
namespace Go.Proofs.YtldmjnbmjfnfeaaGreatDoor
open Go Go.RowKit

theorem make_lists (N : Nat) (hN : N ≤ 100000) (W : World) : (Instr.makeSlice 26 (.int .i64 (N : Int)) (.int .i64 (N : Int))).run Tryz.prog W = .ok (.slice (some ⟨W.heap.size, 0, none⟩) N N) (W.alloc (.cells (madeCells #[.slice none 0 0] N) 49)) :=
  run_make_row' _ _ (.slice none 0 0) 24 Tryz.underlying26 list_info1 rfl _ _ N (by omega) (by omega) W
theorem lists_made (W : World) (N base : Nat) (hN : N ≤ 100000) (hb : base ≤ W.heap.size) : RowQ (W.alloc (.cells (madeCells #[.slice none 0 0] N) 49)) base W.heap.size N (List.replicate N ⟨none, 0, []⟩) := by
  have hz : (madeCells #[Value.slice none 0 0] N).toList = List.replicate N (.slice none 0 0) := by have := made_one (.slice none 0 0) N; rwa [Nat.mul_one] at this
  refine ⟨by simp, .inr ⟨W.heap.size, N, _, rfl, hb, heap_alloc_new W _, Nat.le_refl _, by unfold maxLen; omega, ?_, ?_⟩⟩
  · rw [size_madeCells, Nat.mul_one]
  · rw [Nat.mul_one, hz, List.map_replicate]
    exact List.take_of_length_le (by simp)
theorem doc_one (w2 : World) (N : Nat) (hN : N ≤ 100000) (kt mt : Int) (A : Option Addr) (c : Nat) : DocO w2 (((w2.alloc (.cells (madeCells #[.slice none 0 0] N) 49)).alloc (.cells #[.int .i64 kt, .int .i64 mt, .slice A N c, .slice none 0 0, .slice (some ⟨w2.heap.size, 0, none⟩) N N] 32)).drew) (w2.heap.size + 1) w2.heap.size N kt mt A c (.slice none 0 0) (List.replicate N ⟨none, 0, []⟩) := by
  have hb1 : Below w2.heap.size w2 (w2.alloc (.cells (madeCells #[.slice none 0 0] N) 49)) := (Below.refl _ _).alloc (Nat.le_refl _) _
  have hr := lists_made w2 N w2.heap.size hN (Nat.le_refl _)
  have hx := Box.new (w2.alloc (.cells (madeCells #[.slice none 0 0] N) 49)) 32 #[.int .i64 kt, .int .i64 mt, .slice A N c, .slice none 0 0, .slice (some ⟨w2.heap.size, 0, none⟩) N N]
  rw [show (w2.alloc (.cells (madeCells #[.slice none 0 0] N) 49)).heap.size = w2.heap.size + 1 by simp] at hx
  generalize w2.alloc (.cells (madeCells #[.slice none 0 0] N) 49) = w3 at *
  have hb2 : Below w3.heap.size w3 (w3.alloc (.cells #[.int .i64 kt, .int .i64 mt, .slice A N c, .slice none 0 0, .slice (some ⟨w2.heap.size, 0, none⟩) N N] 32)) := (Below.refl _ _).alloc (Nat.le_refl _) _
  exact DocO.later ⟨hx, row_below hr hb2, fun q hq => by rw [(List.mem_replicate.1 hq).2]; exact World.ownsRow_nil _ _ _ _, hb1.trans (hb2.mono hb1.size), by omega⟩ (Below.refl _ _).drew
theorem doc_two (w2 : World) (N : Nat) (hN : N ≤ 100000) (kt mt : Int) (A : Option Addr) (c : Nat) : DocO w2 (((w2.alloc (.cells #[.int .i64 kt, .int .i64 mt, .slice A N c, .slice none 0 0, .slice (some ⟨w2.heap.size + 1, 0, none⟩) N N] 32)).alloc (.cells (madeCells #[.slice none 0 0] N) 49)).drew) w2.heap.size (w2.heap.size + 1) N kt mt A c (.slice none 0 0) (List.replicate N ⟨none, 0, []⟩) := by
  have hb1 : Below w2.heap.size w2 (w2.alloc (.cells #[.int .i64 kt, .int .i64 mt, .slice A N c, .slice none 0 0, .slice (some ⟨w2.heap.size + 1, 0, none⟩) N N] 32)) := (Below.refl _ _).alloc (Nat.le_refl _) _
  have hx := Box.new w2 32 #[.int .i64 kt, .int .i64 mt, .slice A N c, .slice none 0 0, .slice (some ⟨w2.heap.size + 1, 0, none⟩) N N]
  have hr := lists_made (w2.alloc (.cells #[.int .i64 kt, .int .i64 mt, .slice A N c, .slice none 0 0, .slice (some ⟨w2.heap.size + 1, 0, none⟩) N N] 32)) N w2.heap.size hN (by simp)
  rw [show (w2.alloc (.cells #[.int .i64 kt, .int .i64 mt, .slice A N c, .slice none 0 0, .slice (some ⟨w2.heap.size + 1, 0, none⟩) N N] 32)).heap.size = w2.heap.size + 1 by simp] at hr
  generalize w2.alloc (.cells #[.int .i64 kt, .int .i64 mt, .slice A N c, .slice none 0 0, .slice (some ⟨w2.heap.size + 1, 0, none⟩) N N] 32) = w3 at *
  have hb2 : Below w3.heap.size w3 (w3.alloc (.cells (madeCells #[.slice none 0 0] N) 49)) := (Below.refl _ _).alloc (Nat.le_refl _) _
  exact DocO.later ⟨hx.below hb2 hx.lt, hr, fun q hq => by rw [(List.mem_replicate.1 hq).2]; exact World.ownsRow_nil _ _ _ _, hb1.trans (hb2.mono hb1.size), Nat.le_refl _⟩ (Below.refl _ _).drew


theorem plain_zero : Plain5 (#[Value.int .i64 0, .int .i64 0, .slice none 0 0, .slice none 0 0, .slice none 0 0] : Array Value).toList := by
  intro v hv
  simp only [List.mem_cons, List.not_mem_nil, or_false] at hv
  rcases hv with rfl | rfl | rfl | rfl | rfl
  all_goals exact ⟨(fun s h => by cases h), (fun z h => by cases h)⟩
section
variable {w w' : World} {base b' : Nat} {A : Option Addr} {c : Nat}
theorem syms_lieR {Y : List Sym} (h : OwnY w base (.slice A Y.length c) Y) (ho : Only b' (CellsOf 32) w w') : Syms w' w'.heap.size A Y := by
  have h1 : OwnY w' base (.slice A Y.length c) Y := row_only h ho (fun cs f hh => absurd (show 51 = 32 from hh) (by decide))
  obtain ⟨A', c', e, _, _, hS⟩ := own_row sym_six h1
  injection e with e1 e2 e3
  rw [e1]
  exact hS
theorem lists_lieR {Q : List RLay} (h : w.ownsRow base 49 1 (.slice A Q.length c) Q.length (Q.map RLay.val)) (hq : ∀ q ∈ Q, OwnR w base q.val q.l) (ho : Only b' (CellsOf 32) w w') : Lists w' w'.heap.size A Q := by
  have h1 : w'.ownsRow base 49 1 (.slice A Q.length c) Q.length (Q.map RLay.val) := row_only h ho (fun cs f hh => absurd (show 49 = 32 from hh) (by decide))
  rw [← rlay_map] at h1
  obtain ⟨A', c', e, _, _, hS⟩ := own_row rlay_one h1
  injection e with e1 e2 e3
  rw [e1]
  refine ⟨hS, fun q hm => ?_⟩
  have h2 : OwnR w' base q.val q.l := row_only (hq q hm) ho (fun cs f hh => absurd (show 53 = 32 from hh) (by decide))
  obtain ⟨A', c', e', _, _, hr'⟩ := own_row rel_four h2
  unfold RLay.val at e'
  injection e' with e1 e2 e3
  rw [e1]
  exact hr'
end
set_option maxRecDepth 10000 in
set_option maxHeartbeats 6400000 in
theorem rotake_bad {w : World} {A : Option Addr} {l : List UInt8} (hr : Rd w w.heap.size A l) (c : Nat) (hlc : l.length ≤ c) (hcm : c ≤ maxLen) (hl : l.length ≤ 140737488355328) (hse : secE l ≠ 0) :
    Calls Tryz.prog 8 #[.slice A l.length c] w (OTake l w) := by
  have hb0 : Below w.heap.size w (w.alloc (.cells #[.int .i64 0, .int .i64 0, .slice none 0 0, .slice none 0 0, .slice none 0 0] 32)) := (Below.refl _ _).alloc (Nat.le_refl _) _
  have hT := rstake_any ((hr.below hb0).more hb0.size) c hlc hcm hl
  have hX0 := Box.new w 32 #[.int .i64 0, .int .i64 0, .slice none 0 0, .slice none 0 0, .slice none 0 0]
  unfold RSTake at hT
  have hH := (sec_bad rfl hse).1
  rw [hH] at hT
  have HE := Lib.hid (objE_bad hse)
  have HT := Lib.hid hT
  have HX0 := Lib.hid hX0
  have HB0 := Lib.hid hb0
  have q0 : (secE l != 0) = true := by simpa using hse
  have HBAD := Lib.hid (fun w' (hB : Below w.heap.size w w') => otake_bad (objE_bad hse) hse hB)
  clear hT hX0 hb0 hse hH hr hlc hl
  generalize secE l = se at *
  generalize l.length = n at *
  go_enter Tryz.func8, Tryz.ntmps8
  go_wp2_with (go_at_call 23; refine HT.out.mono ?_; rintro r w1 ⟨A1, c1, L, rfl, hL1, hS1, hc1, hb1⟩; have HB1 := Lib.hid (HB0.out.trans (hb1.mono HB0.out.size)); have hb2 := (Below.refl w1.heap.size w1).alloc (Nat.le_refl _) (.cells #[.int .i64 0, .int .i64 0, .int .u64 0, .int .i64 0, .int .i64 0] 64); have hX2 := (HX0.out.below hb1 (by simp)).below hb2 (HX0.out.below hb1 (by simp)).lt; (obtain ⟨r0, r1, r2, r3, r4⟩ := five_cells hX2); (obtain ⟨f0, f1, f2, f3, f4⟩ := five_free hX2); have HX2 := Lib.hid hX2; have HB2 := Lib.hid (HB1.out.trans (hb2.mono HB1.out.size)); clear hb1 hb2 hX2 HT)
  refine ret_two Tryz.underlying32 Tryz.results8 (fiveO_box HX2.out rfl _ _ _ _ _) (by kernel_rfl) (by rfl) rfl ?_
  exact HBAD.out _ (five_below HB2.out (Nat.le_refl _) _ _ _ _ _)

set_option maxRecDepth 10000 in
set_option maxHeartbeats 6400000 in
theorem rotake_two {w : World} {A : Option Addr} {l : List UInt8} (hr : Rd w w.heap.size A l) (c : Nat) (hlc : l.length ≤ c) (hcm : c ≤ maxLen) (hl : l.length ≤ 140737488355328) (hse : secE l = 0) (hz : placeS (secL l) = -2) :
    Calls Tryz.prog 8 #[.slice A l.length c] w (OTake l w) := by
  have hb0 : Below w.heap.size w (w.alloc (.cells #[.int .i64 0, .int .i64 0, .slice none 0 0, .slice none 0 0, .slice none 0 0] 32)) := (Below.refl _ _).alloc (Nat.le_refl _) _
  have hT := rstake_any ((hr.below hb0).more hb0.size) c hlc hcm hl
  have hX0 := Box.new w 32 #[.int .i64 0, .int .i64 0, .slice none 0 0, .slice none 0 0, .slice none 0 0]
  unfold RSTake at hT
  rcases secL_is l with ⟨_, _, _, _, hH⟩ | ⟨hn, _⟩
  · rw [hH, hse] at hT
    have HE := Lib.hid (objE_in hse)
    have HZ := Lib.hid hz
    have HT := Lib.hid hT
    have HX0 := Lib.hid hX0
    have HB0 := Lib.hid hb0
    have HNN := Lib.hid (secL_nn l)
    have HFS := Lib.hid (secL_first l)
    have HLN := Lib.hid (secL_length l)
    clear hT hX0 hb0 hse hH hr hlc hl hz
    unfold OTake
    generalize kindT l = kt at *
    generalize machT l = mt at *
    generalize offT l = ot at *
    generalize cntT l = ct at *
    generalize shsT l = st at *
    generalize secL l = S at *
    generalize objE l = oe at *
    generalize l.length = n at *
    go_enter Tryz.func8, Tryz.ntmps8
    go_wp2_with (go_at_call 23; refine HT.out.mono ?_; rintro r w1 ⟨A1, c1, L, rfl, hL1, hS1, hc1, hb1⟩; subst hL1; have HB1 := Lib.hid (HB0.out.trans (hb1.mono HB0.out.size)); have HX1 := Lib.hid (HX0.out.below hb1 (by simp)); have HS1 := Lib.hid hS1; clear hb1 hS1 HT)
    have hb2 : Below w1.heap.size w1 (w1.alloc (.cells #[.int .i64 kt, .int .i64 mt, .int .u64 (ot : Int), .int .i64 (ct : Int), .int .i64 (st : Int)] 64)) := (Below.refl _ _).alloc (Nat.le_refl _) _
    have hX2 := HX1.out.below hb2 HX1.out.lt
    have hH2 := Box.new w1 64 #[.int .i64 kt, .int .i64 mt, .int .u64 (ot : Int), .int .i64 (ct : Int), .int .i64 (st : Int)]
    have hS2 := (HS1.out.below hb2).more hb2.size
    have hB2 := HB1.out.trans (hb2.mono HB1.out.size)
    clear HX1 HS1 HB1 hb2
    generalize w1.alloc (.cells #[.int .i64 kt, .int .i64 mt, .int .u64 (ot : Int), .int .i64 (ct : Int), .int .i64 (st : Int)] 64) = w2 at *
    have KS := Lib.hid (fun W (hW : Below w2.heap.size w2 W) => (⟨hX2.below hW hX2.lt, (hS2.below hW).more hW.size, hB2.trans (hW.mono hB2.size)⟩ :
      Box W w.heap.size 32 #[.int .i64 0, .int .i64 0, .slice none 0 0, .slice none 0 0, .slice none 0 0] ∧ Secs W W.heap.size A1 L ∧ Below w.heap.size w W))
    have HSB := Lib.hid (fun W (hW : Below w2.heap.size w2 W) => (hS2.below hW : Secs W w2.heap.size A1 L))
    have HLN2 := Lib.hid (show L.length ≤ 64 by have := HLN.out; simpa using this)
    obtain ⟨N, hN⟩ : ∃ N, L.length = N := ⟨_, rfl⟩
    have HN := Lib.hid hN
    have hNb : N ≤ 64 := by rw [← hN]; exact HLN2.out
    rw [hN] at hc1 ⊢
    have hmk := make_lists N (by omega)
    have h30 : w2.cell? ⟨w1.heap.size, 0, none⟩ = some (.int .i64 kt) := hH2.cell 0
    have h32 : w2.cell? ⟨w1.heap.size, 1, none⟩ = some (.int .i64 mt) := hH2.cell 1
    have hH2l := hH2.lt
    clear hN hX2 hH2 hS2
    go_upto_region 4 with fail
    go_cut [7] (fun g wx => ∃ G gr, g = .pointer (some ⟨G, 0, none⟩) ∧ DocO w2 wx G gr N kt mt A1 c1 (.slice none 0 0) (List.replicate N ⟨none, 0, []⟩))
    case first =>
      go_region_held_law (fun W => W.cell? ⟨w1.heap.size, 0, none⟩ = some (.int .i64 kt) ∧ W.cell? ⟨w1.heap.size, 1, none⟩ = some (.int .i64 mt)) (go_keep) (fail)
      all_goals go_wp2_with fail
      all_goals go_meet
      all_goals first
        | exact ⟨_, _, rfl, doc_one w2 N (by omega) kt mt A1 c1⟩
        | exact ⟨_, _, rfl, doc_two w2 N (by omega) kt mt A1 c1⟩
    case rest =>
      obtain ⟨G, gr, rfl, hD⟩ := hcut
      have HD := Lib.hid hD
      clear hD h30 h32 hmk
      have HPLC := Lib.hid (place_any (KS.out _ HD.out.below).2.1 c1 (by have := HLN2.out; omega))
      rw [HN.out] at HPLC
      rw [HZ.out] at HPLC
      have q2 : ((-2 : Int) == -2) = true := rfl
      have HF := Lib.hid (show oe = 23 by rw [HE.out, objS_two HZ.out])
      go_wp2_with (go_at_call 24; refine HPLC.out.mono ?_; rintro r w4 ⟨rfl, rfl⟩; (obtain ⟨hX, -, hBw⟩ := KS.out _ HD.out.below); (obtain ⟨r0, r1, r2, r3, r4⟩ := five_cells hX); (obtain ⟨f0, f1, f2, f3, f4⟩ := five_free hX); have HXk := Lib.hid hX; have HBk := Lib.hid hBw; clear hX hBw)
      refine ret_two Tryz.underlying32 Tryz.results8 (fiveO_box HXk.out rfl _ _ _ _ _) (by kernel_rfl) (by rfl) rfl ?_
      exact ⟨noneO, by rw [HF.out]; rfl, noneO_ok _ _, five_below HBk.out (Nat.le_refl _) _ _ _ _ _, fun h0 => absurd (HF.out.symm.trans h0) (by decide), fun _ => rfl⟩
  · exact absurd hse hn

end Go.Proofs.YtldmjnbmjfnfeaaGreatDoor
