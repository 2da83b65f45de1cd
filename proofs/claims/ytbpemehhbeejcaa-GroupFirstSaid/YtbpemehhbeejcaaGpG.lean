/-
  Package group: a group's bytes read (read).
-/
import Derived.Test.YtbpemehhbeejcaaGpF
import Derived.Test.YtbpemehhbeejcaaGpB
import Derived.Deep.DeepCutAuto
import Derived.Deep.LoopGhost
namespace Go.Proofs.Ytbpemehhbeejcaa
open Go Go.RowKit

/-- What a group's bytes make of the sections that were met. -/
def readG (n i : Nat) (d : List UInt8) (M : List Bool) : Option (List Bool) := if d.length % 4 = 0 ∧ 8 ≤ d.length ∧ numT d 0 4 ≤ 1 then metG n i d M (cntG d) else none
theorem readG_not {n i : Nat} {d : List UInt8} {M : List Bool} (h : ¬ (d.length % 4 = 0 ∧ 8 ≤ d.length ∧ numT d 0 4 ≤ 1)) : readG n i d M = none := by unfold readG; rw [if_neg h]
theorem readG_is {n i q : Nat} {d : List UInt8} {M : List Bool} (h : d.length = 4 * (q + 1)) (hq : 1 ≤ q) (h1 : numT d 0 4 ≤ 1) : readG n i d M = metG n i d M q := by
  unfold readG
  rw [if_pos ⟨by omega, by omega, h1⟩, show cntG d = q by unfold cntG; omega]
theorem four_div (n : Nat) : ((n : Int).tdiv 4) = ((n / 4 : Nat) : Int) := by rw [Int.tdiv_eq_ediv_of_nonneg (by omega)]; omega
theorem four_mod (n : Nat) : ((n : Int).tmod 4) = ((n % 4 : Nat) : Int) := by rw [Int.tmod_eq_emod_of_nonneg (by omega)]; omega

/-- The blocks that read turns. -/
abbrev ReadP (g mb : Nat) : Nat → Prop := fun k => k = g ∨ k = mb
/-- How things stand behind k members. -/
structure ReadSt (w0 w : World) (g gc base mb n i : Nat) (sb : ByteArray) (one : Bool) (vc v : Value) (d : List UInt8) (M b : List Bool) (k : Nat) : Prop where
  met : metG n i d M k = some b
  box : Box w g 45 #[.int .i64 (i : Int), .bool one, .string sb, v]
  mem : OwnM w w0.heap.size v (memsG d k)
  row : Met w base mb n b
  cur : Cur w gc vc d (4 * (k + 1)) 0
  but : But (ReadP g mb) w0 w
section
variable {w0 w w' : World} {g gc base mb n i : Nat} {sb : ByteArray} {one : Bool} {vc v : Value} {d : List UInt8} {M b : List Bool} {k : Nat}
/-- A number more is read. -/
theorem ReadSt.read (h : ReadSt w0 w g gc base mb n i sb one vc v d M b k) (hg : g < w0.heap.size) (hmb : mb < w0.heap.size) (hgc : w0.heap.size ≤ gc) (hG : w.grownBy w' (some gc)) :
    metG n i d M k = some b ∧ Box w' g 45 #[.int .i64 (i : Int), .bool one, .string sb, v] ∧ OwnM w' w0.heap.size v (memsG d k) ∧ Met w' base mb n b ∧ But (ReadP g mb) w0 w' :=
  ⟨h.met, h.box.grown hG (by simp; omega), World.ownsRow.kept (w := w) h.mem hG (.inr (fun e => row_other h.mem h.cur.1 (by decide) _ e rfl)), h.row.grown hG (by simp; omega), h.but.grown hG (fun x hx => by injection hx with hx; right; omega)⟩
/-- A member is marked as met. -/
theorem read_mark (hX : Box w g 45 #[.int .i64 (i : Int), .bool one, .string sb, v]) (hM : OwnM w w0.heap.size v (memsG d k)) (hR : Met w base mb n b) (hB : But (ReadP g mb) w0 w) {a : Nat} (hC : Cur w gc vc d a 0) (m : Nat) (hgm : g ≠ mb) :
    Box (w.setCell ⟨mb, m, none⟩ (.bool true)) g 45 #[.int .i64 (i : Int), .bool one, .string sb, v] ∧ OwnM (w.setCell ⟨mb, m, none⟩ (.bool true)) w0.heap.size v (memsG d k) ∧ Met (w.setCell ⟨mb, m, none⟩ (.bool true)) base mb n (b.set m true) ∧ Cur (w.setCell ⟨mb, m, none⟩ (.bool true)) gc vc d a 0 ∧ But (ReadP g mb) w0 (w.setCell ⟨mb, m, none⟩ (.bool true)) := by
  have G : w.grownBy (w.setCell ⟨mb, m, none⟩ (.bool true)) (some mb) := only_set (only_refl w (some mb)) m (.bool true)
  obtain ⟨cs, f, hb⟩ := hR.box
  exact ⟨hX.grown G (by simpa using hgm), World.ownsRow.kept (w := w) hM G (.inr (fun e => row_other hM hb (by decide) _ e rfl)), hR.store m true, hC.grown G (by
    intro e
    injection e with e
    have := hC.1
    unfold Box at this
    rw [e, hb] at this
    injection this with this
    injection this with _ ht
    exact absurd ht (by decide)) (.inr (fun e => row_other hC.2.1 hb (by decide) _ e rfl)), hB.grown G (fun x hx => by injection hx with hx; left; right; exact hx.symm)⟩
end

set_option maxRecDepth 10000 in
set_option maxHeartbeats 3200000 in
theorem read_any {w : World} {B base g mb n i : Nat} {A : Option Addr} {d : List UInt8} {sb : ByteArray} {M : List Bool} (hX : Box w g 45 #[.int .i64 (i : Int), .bool false, .string sb, .slice none 0 0])
    (hM : Met w base mb n M) (hr : Rd w B A d) (hB : B ≤ w.heap.size) (c : Nat) (hd : d.length ≤ 100000) :
    Calls Try.prog 21 #[.pointer (some ⟨g, 0, none⟩), .slice A d.length c, .slice (some ⟨mb, 0, none⟩) n n] w fun r w' =>
      r = .returned (.bool (readG n i d M).isSome) ∧ But (ReadP g mb) w w' ∧ ∀ b, readG n i d M = some b → ∃ v, Box w' g 45 #[.int .i64 (i : Int), .bool (numT d 0 4 == 1), .string sb, v] ∧ OwnM w' w.heap.size v (memsG d (cntG d)) ∧ Met w' base mb n b := by
  obtain ⟨i1, hj, hy0, hy1, hy2⟩ := info_parts int_info
  have hgl := hX.lt
  have hml := hM.lt.2
  have hgm : g ≠ mb := by
    obtain ⟨cs, f, hb⟩ := hM.box
    rintro rfl
    unfold Box at hX
    rw [hb] at hX
    injection hX with hX
    injection hX with _ ht
    exact absurd ht (by decide)
  have hmod := four_mod d.length
  have hdiv := four_div d.length
  have hR1 := Lib.hid (fun h => readG_not (n := n) (i := i) (d := d) (M := M) h)
  by_cases h4 : d.length % 4 = 0
  · have hz : (((d.length % 4 : Nat) : Int) != 0) = false := by rw [h4]; rfl
    by_cases h8 : d.length < 8
    · have hF := hR1.out (fun h => by omega)
      rw [hF]
      have d8 : decide ((d.length : Int) < 8) = true := decide_eq_true (by omega)
      generalize d.length % 4 = dm at *
      generalize d.length / 4 = dq at *
      generalize d.length = dl at *
      clear h4 h8 hX hM hr hR1
      go_enter Try.func21, Try.ntmps21
      go_wp2_with fail
      go_ret
      exact ⟨rfl, But.refl _ _, fun b h => by cases h⟩
    · obtain ⟨q, hq⟩ : ∃ q, d.length = 4 * (q + 1) := ⟨d.length / 4 - 1, by omega⟩
      have hq1 : 1 ≤ q := by omega
      have d8 : decide ((d.length : Int) < 8) = false := decide_eq_false (by omega)
      have hN := Lib.hid (new_any c hr hB (by omega))
      have hqd : d.length / 4 = q + 1 := by omega
      have hq5 : q ≤ 100000 := by omega
      rw [hqd] at hdiv
      have HQ := Lib.hid hq
      have HQ1 := Lib.hid hq1
      have HR2 := Lib.hid (fun h1 => readG_is (n := n) (i := i) (M := M) hq hq1 h1)
      have HU := Lib.hid (fun (W : World) (gc : Nat) (vc : Value) (hC : Cur W gc vc d 0 0) => (by
        obtain ⟨e1, e2, e3⟩ := got_inY (l := d) (a := 0) (n := 4) (by omega)
        have := u32_cur hC (by omega)
        rw [e1, e2, e3] at this
        exact this : Calls Try.prog 30 #[.pointer (some ⟨gc, 0, none⟩)] W fun r w' => r = .returned (.int .u64 (numT d 0 4 : Int)) ∧ Cur w' gc vc d (0 + 4) 0 ∧ W.grownBy w' (some gc)))
      have HU2 := Lib.hid (fun (W : World) (gc : Nat) (vc : Value) (k : Nat) (hk : k < q) (hC : Cur W gc vc d (4 * (k + 1)) 0) => (by
        obtain ⟨e1, e2, e3⟩ := got_inY (l := d) (a := 4 * (k + 1)) (n := 4) (by omega)
        have := u32_cur hC (by omega)
        rw [e1, e2, e3, show 4 * (k + 1) + 4 = 4 * (k + 1 + 1) by omega] at this
        exact this : Calls Try.prog 30 #[.pointer (some ⟨gc, 0, none⟩)] W fun r w' => r = .returned (.int .u64 (memG d k : Int)) ∧ Cur w' gc vc d (4 * (k + 1 + 1)) 0 ∧ W.grownBy w' (some gc)))
      have HCG := Lib.hid (show cntG d = q by unfold cntG; omega)
      have HX := Lib.hid hX
      have HM := Lib.hid hM
      have hmb : mb < w.heap.size := hml
      have HD := Lib.hid hd
      generalize hdm : d.length % 4 = dm at *
      clear hdm
      generalize hdl : d.length = dl at *
      clear hq h8 h4 hX hM hr hqd hq1 hml hdl
      have ST0 := Lib.hid (fun (w1 w2 : World) (gc : Nat) (vc : Value) (hM1 : Made w.heap.size w1 gc vc d 0) (hb1 : Below w.heap.size w w1) (hC2 : Cur w2 gc vc d (0 + 4) 0) (hG2 : w1.grownBy w2 (some gc)) => (by
        have h1 := hM1.2.1
        have h2 := HX.out.lt
        exact ⟨rfl, (HX.out.below hb1 h2).grown hG2 (by simp; omega), World.ownsRow_nil _ _ _ _, (HM.out.below hb1).grown hG2 (by simp; omega), hC2, (But.of_below hb1).grown hG2 (fun x hx => by injection hx with hx; right; omega)⟩ : ReadSt w w2 g gc base mb n i sb false vc (.slice none 0 0) d M M 0))
      have ST1 := Lib.hid (fun (w2 : World) (gc : Nat) (vc : Value) (h : ReadSt w w2 g gc base mb n i sb false vc (.slice none 0 0) d M M 0) => (by
        have hs : w2.grownBy (w2.setCell ⟨g, 1, none⟩ (.bool true)) (some g) := only_set (only_refl w2 (some g)) 1 (.bool true)
        exact ⟨rfl, by simpa using h.box.set 1 (.bool true), World.ownsRow_nil _ _ _ _, h.row.grown hs (by simpa using fun e : mb = g => hgm e.symm), h.cur.grown hs (by
          intro e
          injection e with e
          exact absurd e (Box.other h.cur.1 h.box (by decide))) (.inr (own_other h.cur.2.1 h.box (by decide))), h.but.grown hs (fun x hx => by injection hx with hx; left; left; exact hx.symm)⟩ : ReadSt w (w2.setCell ⟨g, 1, none⟩ (.bool true)) g gc base mb n i sb true vc (.slice none 0 0) d M M 0))
      by_cases hF2 : 2 ≤ numT d 0 4
      · have hF := hR1.out (fun h => by omega)
        rw [hF]
        generalize numT d 0 4 = F at *
        have q0 : ((F : Int) == 0) = false := by simp; omega
        have q1 : ((F : Int) == 1) = false := by simp; omega
        clear hF2
        go_enter Try.func21, Try.ntmps21
        go_wp2_with (first
          | (go_at_call 29; refine hN.out.mono ?_; rintro r w1 ⟨gc, vc, rfl, hM1, hb1⟩; have HM1 := Lib.hid hM1; have HB1 := Lib.hid hb1; have HU1 := Lib.hid (HU.out _ _ _ hM1.1); clear hM1 hb1)
          | (go_at_call 30; refine HU1.out.mono ?_; rintro r w2 ⟨rfl, hC2, hG2⟩; have HS := Lib.hid (ST0.out _ _ _ _ HM1.out HB1.out hC2 hG2); clear hC2 hG2))
        go_ret
        exact ⟨rfl, HS.out.but, fun b h => by cases h⟩
      · have hRG := HR2.out (by omega)
        rw [hRG]
        have h01 : numT d 0 4 = 0 ∨ numT d 0 4 = 1 := by omega
        rw [HCG.out]
        clear hRG hF2 HR2 hR1
        have HGB := Lib.hid (show ∀ k m b, metG n i d M k = some b → badM n i b (memG d k) = true → k < m → metG n i d M m = none from fun k m b h1 h2 h3 => metG_bad h1 h2 h3)
        generalize hN0 : numT d 0 4 = F at *
        generalize hone : (F == 1) = one at *
        have s1 : wrap64 (((q + 1 : Nat) : Int) - 1) = (q : Int) := by unfold wrap64; omega
        rcases h01 with rfl | rfl
        all_goals
          go_enter Try.func21, Try.ntmps21
          go_wp2_with (first
            | (go_at_call 29; refine hN.out.mono ?_; rintro r w1 ⟨gc, vc, rfl, hM1, hb1⟩; have HM1 := Lib.hid hM1; have HB1 := Lib.hid hb1; have HU1 := Lib.hid (HU.out _ _ _ hM1.1); have hgc := hM1.2.1; clear hM1 hb1)
            | (go_at_call 30; refine HU1.out.mono ?_; rintro r w2 ⟨rfl, hC2, hG2⟩; have HS := Lib.hid (ST0.out _ _ _ _ HM1.out HB1.out hC2 hG2); have c1 := HS.out.box.cell 1; have f1 := HS.out.box.free 1; simp at c1; clear hC2 hG2))
        have HS1 := Lib.hid (show ReadSt w w2 g gc base mb n i sb one vc (.slice none 0 0) d M M 0 by rw [← hone]; exact HS.out)
        rotate_left
        have HS1 := Lib.hid (show ReadSt w (w2.setCell ⟨g, 1, none⟩ (.bool true)) g gc base mb n i sb one vc (.slice none 0 0) d M M 0 by rw [← hone]; exact ST1.out _ _ _ HS.out)
        all_goals
          clear hN HM1 HB1 HU HU1 HS ST0 ST1 c1 f1 hN0 HX HM HCG hone
          go_loopw [33] (fun i' wr => ∃ (k : Nat) (b : List Bool) (v : Value), k ≤ q ∧ i' = .int .i64 k ∧ Hid (ReadSt w wr g gc base mb n i sb one vc v d M b k)) (fun i' _ => q - (intOf i').toNat)
          case atStart => exact ⟨0, M, _, Nat.zero_le _, rfl, HS1⟩
          case round =>
            obtain ⟨k, b, v, hk, rfl, HR⟩ := hrel
            clear HS1
            by_cases hlt : k < q
            · have HLT := Lib.hid hlt
              have HU3 := Lib.hid (HU2.out _ _ _ _ hlt HR.out.cur)
              have hm4 := num4 d (4 * (k + 1))
              rw [show numT d (4 * (k + 1)) 4 = memG d k from rfl] at hm4
              have HG3 := Lib.hid (HGB.out k q b HR.out.met)
              have HNX := Lib.hid (fun h => metG_next (k := k) HR.out.met h)
              have HMS := Lib.hid (memsG_succ d k)
              have hbl : b.length = n := HR.out.row.1
              generalize memG d k = m at *
              have hcv : IntKind.i64.wrap (m : Int) = (m : Int) := by rw [IntWalk.i64_in _ (by omega)]
              by_cases hmn : m < n
              · obtain ⟨bv, hbv⟩ : ∃ bv, b[m]? = some bv := ⟨b[m]'(by omega), List.getElem?_eq_getElem _⟩
                have hbadv : badM n i b m = (((m : Int) == 0) || (((m : Int) == (i : Int)) || bv)) := by
                  rw [Bool.eq_iff_iff]
                  unfold badM
                  rw [hbv]
                  simp [show ¬ n ≤ m by omega]
                  rw [show (m = i) = ((m : Int) = (i : Int)) from propext (by omega)]
                have HBV := Lib.hid hbv
                have d1 : decide ((n : Int) ≤ (m : Int)) = false := decide_eq_false (by omega)
                have hmn' : (m : Int) < (n : Int) := by omega
                have hm0 : (0 : Int) ≤ (m : Int) := by omega
                generalize he0 : ((m : Int) == 0) = e0 at *
                generalize he2 : ((m : Int) == (i : Int)) = e2 at *
                clear hbv hbl
                by_cases hbb : (e0 || (e2 || bv)) = true
                · have HNO := Lib.hid (HG3.out (hbadv.trans hbb) hlt)
                  clear HG3 HNX hbadv HGB
                  cases e0 <;> cases e2 <;> cases bv
                  all_goals first
                    | exact absurd hbb (by decide)
                    | (clear hbb
                       go_wp2_with (go_at_call 30; refine HU3.out.mono ?_; rintro r w3 ⟨rfl, hC3, hG3⟩; (obtain ⟨r1, r2, r3, r4, r5⟩ := HR.out.read hgl hmb hgc hG3); have HR5 := Lib.hid r5; have x0 := r2.cell 0; simp at x0; have x1 := r4.cell HBV.out; clear hC3 hG3 r1 r2 r3 r4 r5)
                       go_ret
                       rw [HNO.out]
                       exact ⟨rfl, HR5.out, fun b' h => by cases h⟩)
                · have hbb' : (e0 || (e2 || bv)) = false := by simpa using hbb
                  have HMT := Lib.hid (HNX.out (hbadv.trans hbb'))
                  obtain ⟨rfl, hbb2⟩ := Bool.or_eq_false_iff.1 hbb'
                  obtain ⟨rfl, rfl⟩ := Bool.or_eq_false_iff.1 hbb2
                  obtain ⟨Av, cv, rfl, -, -, -⟩ := own_row mem_one HR.out.mem
                  have h63 : k + 1 ≤ maxLen := by unfold maxLen; omega
                  have hby : (k + 1) * 8 ≤ 140737488355328 := by omega
                  rw [memsG_length] at HR
                  clear HG3 HNX hbadv HGB hbb hbb' hbb2
                  go_upto_region 15 with (go_at_call 30; refine HU3.out.mono ?_; rintro r w3 ⟨rfl, hC3, hG3⟩; (obtain ⟨r1, r2, r3, r4, r5⟩ := HR.out.read hgl hmb hgc hG3); have HR2 := Lib.hid r2; have HR3 := Lib.hid r3; have HR4 := Lib.hid r4; have HR5 := Lib.hid r5; have HC3 := Lib.hid hC3; have x0 := r2.cell 0; simp at x0; have x1 := r4.cell HBV.out; have x2 := r4.free m; clear hC3 hG3 r1 r2 r3 r4 r5)
                  obtain ⟨t1, t2, t3, t4, t5⟩ := read_mark HR2.out HR3.out HR4.out HR5.out HC3.out m hgm
                  generalize w3.setCell ⟨mb, m, none⟩ (.bool true) = w4 at *
                  have y3 := t1.cell 3
                  simp at y3
                  have HT1 := Lib.hid t1
                  have HT2 := Lib.hid t2
                  have HT3 := Lib.hid t3
                  have HT4 := Lib.hid t4
                  have HT5 := Lib.hid t5
                  have hb4 : w.heap.size ≤ w4.heap.size := t5.1.size
                  clear t1 t2 t3 t4 t5 x0 x1 x2 HR2 HR3 HR4 HR5 HC3
                  have FB := Lib.hid (fun (g5 cap5 : Nat) (w5 : World) (hown5 : w5.ownsRow w.heap.size 3 1 (.slice (some ⟨g5, 0, none⟩) (k + 1) cap5) (k + 1) (cellsF memC (memsG d k) ++ memC m)) (hg5 : (w4.alloc (.cells #[.int .i64 (m : Int)] 3)).grownBy w5 (Value.slice Av k cv).ownBlock) => (by
                    have G4 : Below w4.heap.size w4 (w4.alloc (.cells #[.int .i64 (m : Int)] 3)) := (Below.refl _ _).alloc (Nat.le_refl _) _
                    have hne : ∀ x, (Value.slice Av k cv).ownBlock = some x → x ≠ g ∧ x ≠ mb ∧ x ≠ gc ∧ vc.ownBlock ≠ some x ∧ w.heap.size ≤ x := fun x hx => by
                      obtain ⟨cs, f, hb⟩ := HT3.out.box
                      have hl := World.ownsRow.lt HT2.out x hx
                      refine ⟨row_other HT2.out HT1.out (by decide) x hx, row_other HT2.out hb (by decide) x hx, row_other HT2.out HT4.out.1 (by decide) x hx, fun e => ?_, hl.1⟩
                      obtain ⟨cs2, f2, hb2⟩ := row_heap HT2.out hx
                      exact row_other HT4.out.2.1 hb2 (by decide) x e rfl
                    have hX5 : Box w5 g 45 #[.int .i64 (i : Int), .bool one, .string sb, .slice Av k cv] := (HT1.out.below G4 HT1.out.lt).grown hg5 (fun e => (hne g e.symm).1 rfl)
                    have hM5 : Met w5 base mb n (b.set m true) := (HT3.out.below G4).grown hg5 (fun e => (hne mb e.symm).2.1 rfl)
                    have hC5 : Cur w5 gc vc d (4 * (k + 1 + 1)) 0 := (HT4.out.below G4).grown hg5 (fun e => (hne gc e.symm).2.2.1 rfl) (by
                      cases hv : vc.ownBlock with
                      | none => exact .inl rfl
                      | some x => exact .inr (fun e => (hne x e.symm).2.2.2.1 hv))
                    have hB5 : But (ReadP g mb) w w5 := (HT5.out.then_ G4).grown hg5 (fun x hx => .inr (hne x hx).2.2.2.2)
                    have hs : w5.grownBy (w5.setCell ⟨g, 3, none⟩ (.slice (some ⟨g5, 0, none⟩) (k + 1) cap5)) (some g) := only_set (only_refl w5 (some g)) 3 _
                    obtain ⟨cs, f, hb⟩ := hM5.box
                    refine ⟨hX5.cell 3, hX5.free 3, HMT.out, by simpa using hX5.set 3 (.slice (some ⟨g5, 0, none⟩) (k + 1) cap5), ?_, hM5.grown hs (by simpa using fun e : mb = g => hgm e.symm), hC5.grown hs (by
                      intro e
                      injection e with e
                      exact Box.other hC5.1 hX5 (by decide) e) (.inr (own_other hC5.2.1 hX5 (by decide))), hB5.grown hs (fun x hx => by injection hx with hx; left; left; exact hx.symm)⟩
                    rw [OwnM, HMS.out, cellsF_append, cellsF_one, List.length_append, memsG_length]
                    exact World.ownsRow.kept (w := w5) hown5 hs (.inr (fun e => row_other hown5 hX5 (by decide) _ e rfl)) :
                    w5.cell? ⟨g, 3, none⟩ = some (.slice Av k cv) ∧ w5.frozen? ⟨g, 3, none⟩ = false ∧ ReadSt w (w5.setCell ⟨g, 3, none⟩ (.slice (some ⟨g5, 0, none⟩) (k + 1) cap5)) g gc base mb n i sb one vc (.slice (some ⟨g5, 0, none⟩) (k + 1) cap5) d M (b.set m true) (k + 1)))
                  have hown4 : w4.ownsRow w.heap.size 3 1 (.slice Av k cv) k (cellsF memC (memsG d k)) := by have := HT2.out; rw [OwnM, memsG_length] at this; exact this
                  go_wp2_with (at_builtin; refine wpList_append_lies _ (by rfl) (.tmp 67) (.tmp 69) _ (by rfl) w.heap.size 3 i1 _ 1 8 Try.underlying27 hj hy0 hy1 hy2 (by rfl) (by decide) (.slice Av k cv) k (cellsF memC (memsG d k)) (by rfl) (by exact hown4.alloc _) ⟨w4.heap.size, 0, none⟩ 1 1 (memC m) (by rfl) rfl (mem_lit w4 m) (mem_cell m) (by decide) h63 hby (by simp; omega) _ rfl ?_; intro g5 cap5 w5 hown5 hg5 hat5 hlt5; (obtain ⟨z0, z1, hz2⟩ := FB.out g5 cap5 w5 hown5 hg5); have HZ2 := Lib.hid hz2; clear hown5 hg5 hat5 hlt5 hz2)
                  go_roundw
                  case rel => exact ⟨k + 1, _, _, HLT.out, by go_num, HZ2⟩
                  case measure => have h1 := HLT.out; simp [intOf]; omega
              · have d1 : decide (n ≤ m) = true := decide_eq_true (by omega)
                have HNO := Lib.hid (HG3.out (by unfold badM; exact decide_eq_true (.inr (.inl (by omega)))) hlt)
                generalize he0 : ((m : Int) == 0) = e0 at *
                clear HG3 HNX HGB hmn hbl
                cases e0
                all_goals
                  go_wp2_with (go_at_call 30; refine HU3.out.mono ?_; rintro r w3 ⟨rfl, hC3, hG3⟩; (obtain ⟨r1, r2, r3, r4, r5⟩ := HR.out.read hgl hmb hgc hG3); have HR5 := Lib.hid r5; clear hC3 hG3 r1 r2 r3 r4 r5)
                  go_ret
                  rw [HNO.out]
                  exact ⟨rfl, HR5.out, fun b' h => by cases h⟩
            · have hkq : k = q := by omega
              subst hkq
              go_wp2_with fail
              go_ret
              rw [HR.out.met]
              exact ⟨rfl, HR.out.but, fun b' h => by
                injection h with h
                subst h
                exact ⟨v, HR.out.box, HR.out.mem, HR.out.row⟩⟩
  · have hF := hR1.out (fun h => by omega)
    rw [hF]
    have hz : (((d.length % 4 : Nat) : Int) != 0) = true := by simp; omega
    generalize d.length % 4 = dm at *
    generalize d.length / 4 = dq at *
    generalize d.length = dl at *
    clear h4 hX hM hr hR1
    go_enter Try.func21, Try.ntmps21
    go_wp2_with fail
    go_ret
    exact ⟨rfl, But.refl _ _, fun b h => by cases h⟩

end Go.Proofs.Ytbpemehhbeejcaa
