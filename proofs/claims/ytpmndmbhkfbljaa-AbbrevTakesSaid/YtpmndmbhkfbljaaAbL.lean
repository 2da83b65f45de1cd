/-
  The document's Right of tables.
-/
import Derived.Test.YtpmndmbhkfbljaaAbK
import Derived.Test.YtpmndmbhkfbljaaAbH
namespace Go.Proofs.Ytpmndmbhkfbljaa
open Go Go.RowKit Go.Maps

theorem once_of {α β : Type} [DecidableEq β] {f : α → β} {l : List α} (h : ∀ (i k : Nat) (x y : α), k < i → l[i]? = some x → l[k]? = some y → f y ≠ f x) : onceB (l.map f) = true := by
  unfold onceB
  rw [decide_eq_true_eq]
  unfold List.Nodup
  rw [List.pairwise_map, List.pairwise_iff_getElem]
  exact fun k i hk hi hki => h i k _ _ hki (List.getElem?_eq_getElem hi) (List.getElem?_eq_getElem hk)
theorem once_no {α β : Type} [DecidableEq β] {f : α → β} {l : List α} {i k : Nat} {x y : α} (hki : k < i) (hx : l[i]? = some x) (hy : l[k]? = some y) (he : f y = f x) : onceB (l.map f) = false := by
  unfold onceB
  rw [decide_eq_false_iff_not]
  unfold List.Nodup
  rw [List.pairwise_map, List.pairwise_iff_getElem]
  intro h
  obtain ⟨hi, e1⟩ := List.getElem?_eq_some_iff.1 hx
  obtain ⟨hk, e2⟩ := List.getElem?_eq_some_iff.1 hy
  have := h k i hk hi hki
  rw [e1, e2] at this
  exact this he
theorem all_of {α : Type} {p : α → Bool} {l : List α} (h : ∀ (i : Nat) (x : α), l[i]? = some x → p x = true) : l.all p = true := by
  rw [List.all_eq_true]
  intro x hx
  obtain ⟨i, hi⟩ := List.getElem?_of_mem hx
  exact h i x hi
theorem all_no {α : Type} {p : α → Bool} {l : List α} {i : Nat} {x : α} (hx : l[i]? = some x) (h : p x = false) : l.all p = false := by
  rw [List.all_eq_false]
  exact ⟨x, List.mem_of_getElem? hx, by rw [h]; simp⟩
section
variable {L : List ALay} {y : ALay}
theorem rightA_no {i : Nat} (hy : L[i]? = some y) (h : okA y.x = false) : rightA (absOf L) = false := by
  rw [rightA_lays, all_no (p := fun y : ALay => okA y.x) hy h]
  simp
theorem rightA_no2 {i k : Nat} {z : ALay} (hki : k < i) (hy : L[i]? = some y) (hz : L[k]? = some z) (he : z.x.code = y.x.code) : rightA (absOf L) = false := by
  rw [rightA_lays, once_no (f := codeL) hki hy hz he]
  simp
theorem rightA_yes (h3 : L.length ≤ 300) (h : ∀ (i : Nat) (y : ALay), L[i]? = some y → okA y.x = true) (h2 : ∀ (i k : Nat) (y z : ALay), k < i → L[i]? = some y → L[k]? = some z → z.x.code ≠ y.x.code) : rightA (absOf L) = true := by
  rw [rightA_lays, decide_eq_true h3, all_of (p := fun y : ALay => okA y.x) h, once_of (f := codeL) h2]
  rfl
theorem okA_yes {x : Abb} (h0 : x.code ≠ 0) (h1 : numbK x.tag = true) (h2 : x.l.length ≤ 40) (h3 : ∀ (i : Nat) (s : Spc), x.l[i]? = some s → okP s = true) (h4 : ∀ (i k : Nat) (s t : Spc), k < i → x.l[i]? = some s → x.l[k]? = some t → t.at_ ≠ s.at_) : okA x = true := by
  unfold okA
  rw [decide_eq_false h0, h1, decide_eq_true h2, all_of h3, once_of h4]
  rfl
theorem okA_no {x : Abb} {i : Nat} {s : Spc} (hs : x.l[i]? = some s) (h : okP s = false) : okA x = false := by
  unfold okA
  rw [all_no hs h]
  simp
theorem okA_no2 {x : Abb} {i k : Nat} {s t : Spc} (hki : k < i) (hs : x.l[i]? = some s) (ht : x.l[k]? = some t) (he : t.at_ = s.at_) : okA x = false := by
  unfold okA
  rw [once_no hki hs ht he]
  simp
end
theorem numbK_bits (n : Int) : numbK n = (!decide (n < 1) && !decide (65535 < n)) := by
  unfold numbK
  rw [Bool.eq_iff_iff]
  simp
theorem okP_bits (s : Spc) : okP s = (!decide (s.at_ < 1) && (!decide (65535 < s.at_) && (!decide (s.form < 1) && (!decide (65535 < s.form) && !((s.form != 33) && (s.imp != 0)))))) := by
  unfold okP
  rw [numbK_bits, numbK_bits, Bool.eq_iff_iff]
  simp
  constructor
  · rintro ⟨⟨h1, h2⟩, ⟨h3, h4⟩, h5⟩
    exact ⟨h1, h2, h3, h4, h5⟩
  · rintro ⟨h1, h2, h3, h4, h5⟩
    exact ⟨⟨h1, h2⟩, ⟨h3, h4⟩, h5⟩

set_option maxRecDepth 10000 in
set_option maxHeartbeats 6400000 in
theorem rrightA_any {w : World} {a : Option Addr} {L : List ALay} (h : Abbs w w.heap.size a L) (c : Nat) (hl : L.length ≤ 100000) (hin : ∀ y ∈ L, y.In) :
    Calls Try.prog 18 #[.slice a L.length c] w fun r w' => r = .returned (.bool (rightA (absOf L))) ∧ Below w.heap.size w w' := by
  obtain ⟨N, hN⟩ : ∃ N, L.length = N := ⟨_, rfl⟩
  have HH := Lib.hid h
  have HN := Lib.hid hN
  have HIN := Lib.hid hin
  rw [hN] at hl ⊢
  clear h hN hin
  obtain ⟨ra, hra⟩ : ∃ ra, rightA (absOf L) = ra := ⟨_, rfl⟩
  have HRA := Lib.hid hra
  rw [hra]
  clear hra
  by_cases hbig : 300 < N
  · have d : decide ((300 : Int) < (N : Int)) = true := decide_eq_true (by omega)
    have HF := Lib.hid (show ra = false by
      rw [← HRA.out, rightA_lays, HN.out, decide_eq_false (by omega)]; rfl)
    clear hbig
    go_enter Try.func18, Try.ntmps18
    go_wp2_with fail
    go_ret
    exact ⟨by rw [HF.out]; rfl, Below.refl _ _⟩
  have d : decide ((300 : Int) < (N : Int)) = false := decide_eq_false (by omega)
  have HN3 := Lib.hid (show N ≤ 300 by omega)
  clear hbig
  go_enter Try.func18, Try.ntmps18
  go_wp2_with fail
  clear d
  have hN3 := HN3.out
  go_loopg [3] N (fun gk z wr => ∃ i : Nat, i ≤ N ∧ gk = N - i ∧ z = .int .i64 i ∧ Hid (Below w.heap.size w wr) ∧ Hid (∀ j y, j < i → L[j]? = some y → okA y.x = true) ∧ Hid (∀ (j k : Nat) (y z : ALay), j < i → k < j → L[j]? = some y → L[k]? = some z → z.x.code ≠ y.x.code))
  case atStart => exact ⟨0, Nat.zero_le _, rfl, rfl, Lib.hid (Below.refl _ _), Lib.hid (fun j y hj => by omega), Lib.hid (fun j k y z hj => by omega)⟩
  case round =>
    obtain ⟨i, hi, rfl, rfl, HB, HOK, HDI⟩ := hrel
    by_cases hlt : i < N
    · have HLT := Lib.hid hlt
      obtain ⟨y, hy⟩ : ∃ y, L[i]? = some y := ⟨_, List.getElem?_eq_getElem (by rw [HN.out]; exact hlt)⟩
      have hym := List.mem_of_getElem? hy
      obtain ⟨b, o, rfl, hb, c0, c1, c2, c3⟩ := abb_at (HH.out.below HB.out) hy
      have HYL := Lib.hid (HIN.out y hym).len
      have HSP := Lib.hid (fun W (hW : Below w.heap.size w W) => (HH.out.below hW).spcs y hym)
      have HYY := Lib.hid hy
      have HCZ := Lib.hid (show (okA y.x = false → ra = false) from fun h => by rw [← HRA.out]; exact rightA_no hy h)
      have HCT := Lib.hid (fun (k : Nat) (z : ALay) (hk : k < i) (hz : L[k]? = some z) (he : z.x.code = y.x.code) => (by rw [← HRA.out]; exact rightA_no2 hk hy hz he : ra = false))
      have HOX := Lib.hid (show okA y.x = (!decide (y.x.code = 0) && (numbK y.x.tag && (decide (y.x.l.length ≤ 40) && (y.x.l.all okP && onceB (y.x.l.map Spc.at_))))) from rfl)
      have hyl := HYL.out
      have n0 : ((y.x.code : Int) == 0) = decide (y.x.code = 0) := by rw [Bool.eq_iff_iff]; simp
      have n3 : decide ((40 : Int) < (y.x.l.length : Int)) = !decide (y.x.l.length ≤ 40) := by rw [Bool.eq_iff_iff]; simp; omega
      rw [numbK_bits] at HOX
      clear hy hym
      have HYE := Lib.hid (show y = ⟨⟨y.x.code, y.x.tag, y.x.kids, y.x.l⟩, y.a, y.c⟩ from rfl)
      obtain ⟨ln, hln⟩ : ∃ n, y.x.l.length = n := ⟨_, rfl⟩
      have HLN := Lib.hid hln
      rw [hln] at c3 hyl HOX n3
      clear hln
      obtain ⟨cd, hcd⟩ : ∃ n, y.x.code = n := ⟨_, rfl⟩
      have HCD := Lib.hid hcd
      rw [hcd] at c0 n0 HOX HCT
      obtain ⟨tg, htg⟩ : ∃ n, y.x.tag = n := ⟨_, rfl⟩
      have HTG := Lib.hid htg
      rw [htg] at c1 HOX
      clear hcd htg
      generalize y.x.kids = kd at *
      generalize y.a = ya at *
      generalize y.c = yc at *
      have hA := (Below.refl wr.heap.size wr).alloc (Nat.le_refl _) (.cells #[.int .u64 (cd : Int), .int .i64 tg, .bool kd, .slice ya ln yc] 50)
      have hX := Box.new wr 50 #[.int .u64 (cd : Int), .int .i64 tg, .bool kd, .slice ya ln yc]
      go_upto_region 7 with fail
      generalize hwa : wr.alloc (.cells #[.int .u64 (cd : Int), .int .i64 tg, .bool kd, .slice ya ln yc] 50) = wa at *
      have KX := Lib.hid (fun W (hW : Below wa.heap.size wa W) => hX.below hW hX.lt)
      have HBA := Lib.hid (HB.out.trans (hA.mono HB.out.size))
      obtain ⟨p0, p1, p2, p3⟩ := four_cells hX
      clear hwa c0 c1 c2 c3 hA hX hb
      generalize hH1 : wr.heap.size = H1 at *
      clear hH1
      obtain ⟨q0, hq0⟩ : ∃ b, decide (cd = 0) = b := ⟨_, rfl⟩
      obtain ⟨q1, hq1⟩ : ∃ b, decide (tg < 1) = b := ⟨_, rfl⟩
      obtain ⟨q2, hq2⟩ : ∃ b, decide (65535 < tg) = b := ⟨_, rfl⟩
      obtain ⟨q3, hq3⟩ : ∃ b, decide (ln ≤ 40) = b := ⟨_, rfl⟩
      rw [hq0] at HOX n0
      rw [hq1, hq2] at HOX
      rw [hq3] at HOX n3
      have H40 := Lib.hid (show q3 = true → ln ≤ 40 from fun h => of_decide_eq_true (hq3.trans h))
      have HC0 := Lib.hid (show q0 = false → cd ≠ 0 from fun h => of_decide_eq_false (hq0.trans h))
      have hways : (q0 = true ∨ (q0 = false ∧ q1 = true) ∨ (q0 = false ∧ q1 = false ∧ q2 = true) ∨ (q0 = false ∧ q1 = false ∧ q2 = false ∧ q3 = false)) ∨ (q0 = false ∧ q1 = false ∧ q2 = false ∧ q3 = true) := by
        cases q0 <;> cases q1 <;> cases q2 <;> cases q3 <;> simp
      clear hq0 hq3
      rcases hways with hbad | ⟨rfl, rfl, rfl, rfl⟩
      · have HF := Lib.hid (show ra = false from HCZ.out (by
          rw [HOX.out]
          rcases hbad with rfl | ⟨rfl, rfl⟩ | ⟨rfl, rfl, rfl⟩ | ⟨rfl, rfl, rfl, rfl⟩ <;> simp))
        clear HOX H40 HC0 HCT HCZ
        rcases hbad with rfl | ⟨rfl, rfl⟩ | ⟨rfl, rfl, rfl⟩ | ⟨rfl, rfl, rfl, rfl⟩
        all_goals
          go_wp2_with fail
          go_ret
          exact ⟨by rw [HF.out]; rfl, HBA.out⟩
      · simp only [Bool.not_true] at n3
        have hc0 := HC0.out rfl
        have h40 := H40.out rfl
        have HTK := Lib.hid (show numbK tg = true by rw [numbK_bits, hq1, hq2]; rfl)
        have HC0' := Lib.hid hc0
        simp only [Bool.not_false, Bool.true_and] at HOX
        clear HC0 H40 hc0
        go_upto_region 9 with fail
        clear p0 p1 p2 p3 n0 n3 hq1 hq2
        generalize wr = wj at *
        go_wp2_with fail
        go_loopg [5] i (fun gk z wr => ∃ k : Nat, k ≤ i ∧ gk = i - k ∧ z = .int .i64 k ∧ Hid (Below wa.heap.size wa wr) ∧ Hid (∀ m z, m < k → L[m]? = some z → z.x.code ≠ cd))
        case atStart => exact ⟨0, Nat.zero_le _, rfl, rfl, Lib.hid (Below.refl _ _), Lib.hid (fun m z hm => by omega)⟩
        case round =>
          obtain ⟨k, hk, rfl, rfl, HB1, HD1⟩ := hrel
          obtain ⟨p0, p1, p2, p3⟩ := four_cells (KX.out _ HB1.out)
          have HBW := Lib.hid (HBA.out.trans (HB1.out.mono HBA.out.size))
          by_cases hlt1 : k < i
          · have HLT1 := Lib.hid hlt1
            obtain ⟨z, hz⟩ : ∃ z, L[k]? = some z := ⟨_, List.getElem?_eq_getElem (by rw [HN.out]; omega)⟩
            obtain ⟨b', o', e', hb', c0, c1, c2, c3⟩ := abb_at (HH.out.below HBW.out) hz
            injection e' with e'
            injection e' with e1 e2
            subst e1 e2
            have hkN : k < N := by omega
            have HCK := Lib.hid (fun h => HCT.out k z HLT1.out hz h)
            have HDK := Lib.hid (fun h => (show ∀ m z', m < k + 1 → L[m]? = some z' → z'.x.code ≠ cd from fun m z' hm hz' => by
              rcases Nat.lt_or_ge m k with h1 | h1
              · exact HD1.out m z' h1 hz'
              · obtain rfl : m = k := by omega
                rw [hz] at hz'
                injection hz' with hz'
                subst hz'
                exact h))
            clear hz hb'
            by_cases hce : z.x.code = cd
            · have n1 : ((z.x.code : Int) == (cd : Int)) = true := by simp [hce]
              have HF := Lib.hid (HCK.out hce)
              clear hce
              generalize z.x.code = zc at *
              go_upto_region 12 with fail
              go_quiet (fail)
              go_wp2_with fail
              go_ret
              exact ⟨by rw [HF.out]; rfl, below_drewN HBW.out nq⟩
            · have n1 : ((z.x.code : Int) == (cd : Int)) = false := by simp; omega
              have HF := Lib.hid (HDK.out hce)
              clear hce
              generalize z.x.code = zc at *
              go_upto_region 12 with fail
              go_quiet (fail)
              have HB9 := Lib.hid (below_drewN HB1.out nq)
              go_wp2_with fail
              go_roundg (i - (k + 1))
              case measure => have := HLT1.out; omega
              case rel => exact ⟨k + 1, HLT1.out, rfl, by go_num, HB9, HF⟩
          · obtain rfl : k = i := by omega
            clear hlt1
            have HKI := Lib.hid HD1.out
            clear p0 p1 p2 p3 HCT HOX
            have HSS := Lib.hid (fun W (hW : Below wa.heap.size wa W) => HSP.out W (HBA.out.trans (hW.mono HBA.out.size)))
            have HNX := Lib.hid (fun (j : Nat) (x : Spc) (hx : y.x.l[j]? = some x) (h : okP x = false) => HCZ.out (okA_no hx h))
            have HNX2 := Lib.hid (fun (j n : Nat) (x t : Spc) (hn : n < j) (hx : y.x.l[j]? = some x) (ht : y.x.l[n]? = some t) (h : t.at_ = x.at_) => HCZ.out (okA_no2 hn hx ht h))
            clear HCZ
            go_upto_region 14 with fail
            generalize wr = wb at *
            go_wp2_with fail
            have hb1 := HB1.out
            have HBB := Lib.hid hb1
            clear hb1
            obtain ⟨p0, p1, p2, p3⟩ := four_cells (KX.out _ HBB.out)
            go_loopg [6] ln (fun gk z wr => ∃ j : Nat, j ≤ ln ∧ gk = ln - j ∧ z = .int .i64 j ∧ Hid (Below wa.heap.size wa wr) ∧ Hid (∀ m s, m < j → y.x.l[m]? = some s → okP s = true) ∧ Hid (∀ (m n : Nat) (s t : Spc), m < j → n < m → y.x.l[m]? = some s → y.x.l[n]? = some t → t.at_ ≠ s.at_))
            case atStart => exact ⟨0, Nat.zero_le _, rfl, rfl, HBB, Lib.hid (fun m s hm => by omega), Lib.hid (fun m n s t hm => by omega)⟩
            case round =>
              obtain ⟨j, hj, rfl, rfl, HB2, HPJ, HQJ⟩ := hrel
              clear p0 p1 p2 p3
              obtain ⟨p0, p1, p2, p3⟩ := four_cells (KX.out _ HB2.out)
              have HBW2 := Lib.hid (HBA.out.trans (HB2.out.mono HBA.out.size))
              by_cases hlt2 : j < ln
              · have HLT2 := Lib.hid hlt2
                obtain ⟨x, hx⟩ : ∃ x, y.x.l[j]? = some x := ⟨_, List.getElem?_eq_getElem (by rw [HLN.out]; exact hlt2)⟩
                obtain ⟨bs, os, rfl, hbs, t0, t1, t2⟩ := spc_at (HSS.out _ HB2.out) hx
                have HXJ := Lib.hid hx
                have HOB := Lib.hid (okP_bits x)
                have HNZ := Lib.hid (HNX.out j x hx)
                obtain ⟨r1, hr1⟩ : ∃ r, decide (x.at_ < 1) = r := ⟨_, rfl⟩
                obtain ⟨r2, hr2⟩ : ∃ r, decide (65535 < x.at_) = r := ⟨_, rfl⟩
                obtain ⟨r3, hr3⟩ : ∃ r, decide (x.form < 1) = r := ⟨_, rfl⟩
                obtain ⟨r4, hr4⟩ : ∃ r, decide (65535 < x.form) = r := ⟨_, rfl⟩
                obtain ⟨r5, hr5⟩ : ∃ r, (x.form != 33) = r := ⟨_, rfl⟩
                obtain ⟨r6, hr6⟩ : ∃ r, (x.imp != 0) = r := ⟨_, rfl⟩
                rw [hr1, hr2, hr3, hr4, hr5, hr6] at HOB
                have HN2X := Lib.hid (fun (n : Nat) (t : Spc) (hn : n < j) (ht : y.x.l[n]? = some t) (h : t.at_ = x.at_) => HNX2.out j n x t hn HXJ.out ht h)
                clear hx
                obtain ⟨xa, hxa⟩ : ∃ v, x.at_ = v := ⟨_, rfl⟩
                obtain ⟨xf, hxf⟩ : ∃ v, x.form = v := ⟨_, rfl⟩
                obtain ⟨xi, hxi⟩ : ∃ v, x.imp = v := ⟨_, rfl⟩
                have HXA := Lib.hid hxa
                rw [hxa] at t0 hr1 hr2 HN2X
                rw [hxf] at t1 hr3 hr4 hr5
                rw [hxi] at t2 hr6
                clear hxa hxf hxi
                have hX2 := Box.new wr 56 #[.int .i64 xa, .int .i64 xf, .int .i64 xi]
                have hA2 := (Below.refl wr.heap.size wr).alloc (Nat.le_refl _) (.cells #[.int .i64 xa, .int .i64 xf, .int .i64 xi] 56)
                have y4 : (wr.alloc (.cells #[.int .i64 xa, .int .i64 xf, .int .i64 xi] 56)).cell? ⟨H1, 3, none⟩ = some (.slice (some ⟨bs, os, none⟩) ln yc) := by
                  rw [hA2.cell (p := ⟨H1, 3, none⟩) (World.block_lt_of_cell? wr ⟨H1, 3, none⟩ p3)]; exact p3
                go_upto_region 18 with fail
                generalize hwc : wr.alloc (.cells #[.int .i64 xa, .int .i64 xf, .int .i64 xi] 56) = wc at *
                have HBC := Lib.hid (HB2.out.trans (hA2.mono HB2.out.size))
                have KX2 := Lib.hid (fun W (hW : Below wc.heap.size wc W) => hX2.below hW hX2.lt)
                have s0 := hX2.cell 0
                have s1 := hX2.cell 1
                have s2 := hX2.cell 2
                simp at s0 s1 s2
                generalize hH2 : wr.heap.size = H2 at *
                clear hwc hA2 hX2 hH2 t0 t1 t2 p0 p1 p2 p3 y4 hbs
                have hways : (r1 = true ∨ (r1 = false ∧ r2 = true) ∨ (r1 = false ∧ r2 = false ∧ r3 = true) ∨ (r1 = false ∧ r2 = false ∧ r3 = false ∧ r4 = true) ∨ (r1 = false ∧ r2 = false ∧ r3 = false ∧ r4 = false ∧ r5 = true ∧ r6 = true)) ∨ (r1 = false ∧ r2 = false ∧ r3 = false ∧ r4 = false ∧ r5 = false) ∨ (r1 = false ∧ r2 = false ∧ r3 = false ∧ r4 = false ∧ r5 = true ∧ r6 = false) := by
                  cases r1 <;> cases r2 <;> cases r3 <;> cases r4 <;> cases r5 <;> cases r6 <;> simp
                rcases hways with hbad | hgood
                · have HF := Lib.hid (show ra = false from HNZ.out (by
                    rw [HOB.out]
                    rcases hbad with rfl | ⟨rfl, rfl⟩ | ⟨rfl, rfl, rfl⟩ | ⟨rfl, rfl, rfl, rfl⟩ | ⟨rfl, rfl, rfl, rfl, rfl, rfl⟩ <;> simp))
                  have HBE := Lib.hid (HBA.out.trans (HBC.out.mono HBA.out.size))
                  clear HNZ HOB HN2X
                  rcases hbad with rfl | ⟨rfl, rfl⟩ | ⟨rfl, rfl, rfl⟩ | ⟨rfl, rfl, rfl, rfl⟩ | ⟨rfl, rfl, rfl, rfl, rfl, rfl⟩
                  all_goals
                    go_wp2_with fail
                    go_ret
                    exact ⟨by rw [HF.out]; rfl, HBE.out⟩
                · have HOKX := Lib.hid (show okP x = true by
                    rw [HOB.out]
                    rcases hgood with ⟨rfl, rfl, rfl, rfl, rfl⟩ | ⟨rfl, rfl, rfl, rfl, rfl, rfl⟩ <;> simp)
                  clear HNZ HOB
                  rcases hgood with ⟨rfl, rfl, rfl, rfl, rfl⟩ | ⟨rfl, rfl, rfl, rfl, rfl, rfl⟩
                  all_goals
                    go_upto_region 20 with fail
                    generalize wr = wd at *
                    go_wp2_with fail
                    go_loopg [8] j (fun gk z wr => ∃ n : Nat, n ≤ j ∧ gk = j - n ∧ z = .int .i64 n ∧ Hid (Below wc.heap.size wc wr) ∧ Hid (∀ m t, m < n → y.x.l[m]? = some t → t.at_ ≠ xa))
                    case atStart => exact ⟨0, Nat.zero_le _, rfl, rfl, Lib.hid (Below.refl _ _), Lib.hid (fun m t hm => by omega)⟩
                    case round =>
                      obtain ⟨n, hn, rfl, rfl, HB3, HD3⟩ := hrel
                      have HB3A := Lib.hid (HBC.out.trans (HB3.out.mono HBC.out.size))
                      have HBW3 := Lib.hid (HBA.out.trans (HB3A.out.mono HBA.out.size))
                      clear s0 s1 s2
                      obtain ⟨p0, p1, p2, p3⟩ := four_cells (KX.out _ HB3A.out)
                      have s0 := (KX2.out _ HB3.out).cell 0
                      simp at s0
                      by_cases hlt3 : n < j
                      · have HLT3 := Lib.hid hlt3
                        obtain ⟨t, ht⟩ : ∃ t, y.x.l[n]? = some t := ⟨_, List.getElem?_eq_getElem (by rw [HLN.out]; omega)⟩
                        obtain ⟨b', o', e', hb', t0, t1, t2⟩ := spc_at (HSS.out _ HB3A.out) ht
                        injection e' with e'
                        injection e' with e1 e2
                        subst e1 e2
                        have hnl : n < ln := by omega
                        have HCK := Lib.hid (fun h => HN2X.out n t HLT3.out ht h)
                        have HDK := Lib.hid (fun h => (show ∀ m z', m < n + 1 → y.x.l[m]? = some z' → z'.at_ ≠ xa from fun m z' hm hz' => by
                          rcases Nat.lt_or_ge m n with h1 | h1
                          · exact HD3.out m z' h1 hz'
                          · obtain rfl : m = n := by omega
                            rw [ht] at hz'
                            injection hz' with hz'
                            subst hz'
                            exact h))
                        clear ht hb'
                        by_cases hce : t.at_ = xa
                        · have n1 : (t.at_ == xa) = true := by simp [hce]
                          have HF := Lib.hid (HCK.out hce)
                          clear hce
                          generalize t.at_ = ta at *
                          go_upto_region 23 with fail
                          go_quiet (fail)
                          go_wp2_with fail
                          go_ret
                          exact ⟨by rw [HF.out]; rfl, below_drewN HBW3.out nq⟩
                        · have n1 : (t.at_ == xa) = false := by simp [hce]
                          have HF := Lib.hid (HDK.out hce)
                          clear hce
                          generalize t.at_ = ta at *
                          go_upto_region 23 with fail
                          go_quiet (fail)
                          have HB9 := Lib.hid (below_drewN HB3.out nq)
                          go_wp2_with fail
                          go_roundg (j - (n + 1))
                          case measure => have := HLT3.out; omega
                          case rel => exact ⟨n + 1, HLT3.out, rfl, by go_num, HB9, HF⟩
                      · obtain rfl : n = j := by omega
                        have HPJ2 := Lib.hid (show ∀ m s, m < n + 1 → y.x.l[m]? = some s → okP s = true from fun m s hm hs => by
                          rcases Nat.lt_or_ge m n with h1 | h1
                          · exact HPJ.out m s h1 hs
                          · obtain rfl : m = n := by omega
                            rw [HXJ.out] at hs
                            injection hs with hs
                            subst hs
                            exact HOKX.out)
                        have HQJ2 := Lib.hid (show ∀ (m k : Nat) (s t : Spc), m < n + 1 → k < m → y.x.l[m]? = some s → y.x.l[k]? = some t → t.at_ ≠ s.at_ from fun m k s t hm hk hs ht => by
                          rcases Nat.lt_or_ge m n with h1 | h1
                          · exact HQJ.out m k s t h1 hk hs ht
                          · obtain rfl : m = n := by omega
                            rw [HXJ.out] at hs
                            injection hs with hs
                            subst hs
                            rw [HXA.out]
                            exact HD3.out k t hk ht)
                        go_wp2_with fail
                        go_roundg (ln - (n + 1))
                        case measure => have := HLT2.out; omega
                        case rel => exact ⟨n + 1, HLT2.out, rfl, by go_num, HB3A, HPJ2, HQJ2⟩
              · obtain rfl : j = ln := by omega
                have HOY := Lib.hid (show okA y.x = true from okA_yes (by rw [HCD.out]; exact HC0'.out) (by rw [HTG.out]; exact HTK.out) (by rw [HLN.out]; exact h40) (fun m s hs => HPJ.out m s (by have := (List.getElem?_eq_some_iff.1 hs).1; rw [HLN.out] at this; exact this) hs)
                  (fun m n s t hn hs ht => HQJ.out m n s t (by have := (List.getElem?_eq_some_iff.1 hs).1; rw [HLN.out] at this; exact this) hn hs ht))
                have HOK2 := Lib.hid (show ∀ m z, m < k + 1 → L[m]? = some z → okA z.x = true from fun m z hm hz => by
                  rcases Nat.lt_or_ge m k with h1 | h1
                  · exact HOK.out m z h1 hz
                  · obtain rfl : m = k := by omega
                    rw [HYY.out] at hz
                    injection hz with hz
                    subst hz
                    exact HOY.out)
                have HDI2 := Lib.hid (show ∀ (m n : Nat) (u z : ALay), m < k + 1 → n < m → L[m]? = some u → L[n]? = some z → z.x.code ≠ u.x.code from fun m n u z hm hn hu hz => by
                  rcases Nat.lt_or_ge m k with h1 | h1
                  · exact HDI.out m n u z h1 hn hu hz
                  · obtain rfl : m = k := by omega
                    rw [HYY.out] at hu
                    injection hu with hu
                    subst hu
                    rw [HCD.out]
                    exact HKI.out n z hn hz)
                go_wp2_with fail
                go_roundg (N - (k + 1))
                case measure => have := HLT.out; omega
                case rel => exact ⟨k + 1, HLT.out, rfl, by go_num, HBW2, HOK2, HDI2⟩
    · have HT := Lib.hid (show ra = true by
        rw [← HRA.out]
        exact rightA_yes (by rw [HN.out]; exact HN3.out) (fun j y hj => HOK.out j y (by have := (List.getElem?_eq_some_iff.1 hj).1; rw [HN.out] at this; omega) hj)
          (fun j k y z hk hj hz => HDI.out j k y z (by have := (List.getElem?_eq_some_iff.1 hj).1; rw [HN.out] at this; omega) hk hj hz))
      go_wp2_with fail
      go_ret
      exact ⟨by rw [HT.out]; rfl, HB.out⟩

end Go.Proofs.Ytpmndmbhkfbljaa
