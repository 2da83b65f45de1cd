/-
  UnitBack's walk, its first loop's round: a unit put, and its head wanted.
-/
import Derived.Test.YtelmfhpefnemfaaDoorUnS
import Derived.Test.YtelmfhpefnemfaaDoorUnN
import Derived.Test.YtelmfhpefnemfaaDoorUnQ
import Derived.Test.YtelmfhpefnemfaaDoorUnJ
import Derived.Test.YtelmfhpefnemfaaDoorRoundRegion
namespace Go.Proofs.YtelmfhpefnemfaaDoor
open Go Go.RowKit

def asU (y : UBody) : UHd × List UInt8 := (y.h, y.b)
theorem secB_snoc (L : List (UHd × List UInt8)) (y : UHd × List UInt8) : secB (L ++ [y]) = secB L ++ putUB y.1 y.2 := by simp [secB]
theorem headsAt_snoc : ∀ (L : List (UHd × List UInt8)) (a : Nat) (y : UHd × List UInt8), headsAt a (L ++ [y]) = headsAt a L ++ [headAt (a + (secB L).length) y.1 y.2.length]
  | [], a, y => by simp [headsAt, secB]
  | z :: L, a, y => by
    rw [List.cons_append, headsAt, headsAt_snoc, headsAt, List.cons_append]
    simp [secB, Nat.add_assoc]
theorem sizN_le (h : UHd) : sizN h ≤ 40 := by
  have h1 := sig_le h
  have h2 := lenB_le ((headU h).length + (sigU h).length) h.wide
  unfold sizN
  omega
theorem secB_le : ∀ (L : List (UHd × List UInt8)), (∀ y ∈ L, UFit y) → (∀ y ∈ L, y.2.length ≤ 3000) → (secB L).length ≤ L.length * 3040
  | [], _, _ => by simp [secB]
  | y :: L, hf, hb => by
    have hy := hf y (List.mem_cons_self ..)
    have h3 := hb y (List.mem_cons_self ..)
    have hl := putUB_len hy.r y.2 hy.b
    have hz := sizN_le y.1
    have ih := secB_le L (fun z hz => hf z (List.mem_cons_of_mem _ hz)) (fun z hz => hb z (List.mem_cons_of_mem _ hz))
    have e : (secB (y :: L)).length = (putUB y.1 y.2).length + (secB L).length := by simp [secB]
    rw [e, List.length_cons]
    omega
theorem ubody_at {w : World} {B : Nat} {a : Option Addr} {L : List UBody} (h : Row 9 UBody.cells w B a L) {i : Nat} {x : UBody} (hx : L[i]? = some x) : ∃ b o, a = some ⟨b, o, none⟩ ∧ b < B ∧
    w.cell? ⟨b, o + i * 9, none⟩ = some (.int .i64 x.h.kind) ∧ w.cell? ⟨b, o + i * 9 + 1, none⟩ = some (.bool x.h.wide) ∧ w.cell? ⟨b, o + i * 9 + 2, none⟩ = some (.int .u64 (x.h.ab : Int)) ∧ w.cell? ⟨b, o + i * 9 + 3, none⟩ = some (.int .u64 (x.h.sig : Int)) ∧
    w.cell? ⟨b, o + i * 9 + 4, none⟩ = some (.int .u64 (x.h.ty : Int)) ∧ w.cell? ⟨b, o + i * 9 + 5, none⟩ = some (.int .u64 (x.h.off : Int)) ∧ w.cell? ⟨b, o + i * 9 + 6, none⟩ = some (.int .u64 (x.h.first : Int)) ∧ w.cell? ⟨b, o + i * 9 + 7, none⟩ = some (.int .u64 (x.h.stop : Int)) ∧ w.cell? ⟨b, o + i * 9 + 8, none⟩ = some (.slice x.a x.b.length x.c) := by
  have hl : 0 < L.length := by have := (List.getElem?_eq_some_iff.1 hx).1; omega
  obtain ⟨b, o, e, hlt, hc⟩ := h hl
  have h' := hc i x hx
  exact ⟨b, o, e, hlt, h' 0 _ rfl, h' 1 _ rfl, h' 2 _ rfl, h' 3 _ rfl, h' 4 _ rfl, h' 5 _ rfl, h' 6 _ rfl, h' 7 _ rfl, h' 8 _ rfl⟩
theorem nine_cellsU {W : World} {H : Nat} {T : TypeId} {c0 c1 c2 c3 c4 c5 c6 c7 c8 : Value} (h : Box W H T #[c0, c1, c2, c3, c4, c5, c6, c7, c8]) : W.cell? ⟨H, 0, none⟩ = some c0 ∧ W.cell? ⟨H, 1, none⟩ = some c1 ∧ W.cell? ⟨H, 2, none⟩ = some c2 ∧ W.cell? ⟨H, 3, none⟩ = some c3 ∧ W.cell? ⟨H, 4, none⟩ = some c4 ∧ W.cell? ⟨H, 5, none⟩ = some c5 ∧ W.cell? ⟨H, 6, none⟩ = some c6 ∧ W.cell? ⟨H, 7, none⟩ = some c7 ∧ W.cell? ⟨H, 8, none⟩ = some c8 := by
  refine ⟨?_, ?_, ?_, ?_, ?_, ?_, ?_, ?_, ?_⟩ <;> (rw [h.cell]; rfl)

/-- The section and the heads wanted so far. -/
structure BkS (w0 W : World) (sv wv : Value) (S : List UInt8) (M : List UHd) : Prop where
  s : Own W w0.heap.size sv S
  t : OwnH 79 W w0.heap.size wv M
  b : Below w0.heap.size w0 W
section
variable {w0 W W' : World} {sv wv : Value} {S : List UInt8} {M : List UHd}
theorem BkS.below (h : BkS w0 W sv wv S M) (hb : Below W.heap.size W W') : BkS w0 W' sv wv S M := ⟨own_below h.s hb, row_below h.t hb, h.b.trans (hb.mono h.b.size)⟩
theorem BkS.set (h : BkS w0 W sv wv S M) {X : Nat} {cs : Array Value} (hX : Box W X 79 cs) (hw : w0.heap.size ≤ X) (hne : ∀ k, wv.ownBlock = some k → k < X) (i : Nat) (u : Value) : BkS w0 (W.setCell ⟨X, i, none⟩ u) sv wv S M := by
  have G : W.grownBy (W.setCell ⟨X, i, none⟩ u) (some X) := only_set (only_refl W (some X)) i u
  exact ⟨un_far h.s G hX (by decide), h.t.kept G (by
    rcases hb : wv.ownBlock with _ | k
    · exact .inl rfl
    · exact .inr fun e => by injection e with e; have := hne k hb; omega), h.b.grown G h.b.size (fun y hy => by injection hy with hy; omega)⟩
end

set_option maxRecDepth 20000 in
set_option maxHeartbeats 3200000 in
theorem uback15_walk (a0 : Option Addr) (cap0 : Nat) (L : List UBody) (w : World) (hs : Sz w) (hi : Row 9 UBody.cells w w.heap.size a0 L ∧ ∀ y ∈ L, y.In w) :
    Calls Tryd.prog 7 #[.slice a0 L.length cap0] w fun e w' => e = .returned (.bool true) ∧ Below w.heap.size w w' := by
  obtain ⟨i0, hi0, hz0, hz1, hz2⟩ := info_parts u8_info
  obtain ⟨i1, hj1, hy0, hy1, hy2⟩ := info_parts rhd_info
  have HWK := Lib.hid (works15_any hs)
  have HR := Lib.hid hi.1
  have HIN := Lib.hid hi.2
  have HSZ := Lib.hid (fun (W : World) (hb : Below w.heap.size w W) => hs.below hb hs.pos)
  generalize hN : L.length = N at *
  have HN := Lib.hid hN
  clear hs hi hN
  go_enter Tryd.func7, Tryd.ntmps7
  go_upto_region 3 with (go_at_call 26; refine HWK.out.mono ?_; rintro r w1 ⟨rfl, hb⟩; have HB1 := Lib.hid hb; clear hb)
  by_cases h60 : 60 < N
  · have d : decide ((60 : Int) < (N : Int)) = true := by simp; omega
    have d' : decide (60 < N) = true := by simpa using h60
    clear h60
    go_wp2_with fail
    go_ret
    exact ⟨rfl, HB1.out⟩
  have d : decide ((60 : Int) < (N : Int)) = false := by simp; omega
  have d' : decide (60 < N) = false := by simpa using h60
  have hN60 : N ≤ 60 := by omega
  clear h60
  go_upto_region 8 with fail
  clear d d'
  go_loopg [3, 4, 21] N (fun gk sv wv i wr => ∃ (k : Nat) (M : List (UHd × List UInt8)), k ≤ N ∧ gk = N - k ∧ i = .int .i64 k ∧ Hid (M = (L.take k).map asU) ∧ Hid (M.length = k) ∧ Hid (∀ y ∈ M, UFit y) ∧ Hid (∀ y ∈ M, y.2.length ≤ 3000) ∧ Hid (BkS w wr sv wv (secB M) (headsAt 0 M)))
  case atStart => exact ⟨0, [], Nat.zero_le _, rfl, rfl, Lib.hid rfl, Lib.hid rfl, Lib.hid (by intro y hy; cases hy), Lib.hid (by intro y hy; cases hy), Lib.hid ⟨World.ownsRow_nil _ _ _ _, World.ownsRow_nil _ _ _ _, HB1.out⟩⟩
  case round =>
    obtain ⟨k, M, hk, rfl, rfl, HM, HML, HUF, HUB, HK⟩ := hrel
    clear HB1 HWK
    by_cases hlt : k < N
    · have HLT := Lib.hid hlt
      obtain ⟨x, hx⟩ : ∃ x, L[k]? = some x := ⟨L[k]'(by rw [HN.out]; exact hlt), List.getElem?_eq_getElem _⟩
      have HXI := Lib.hid (HIN.out x (List.mem_of_getElem? hx))
      have HMN := Lib.hid (show (L.take (k + 1)).map asU = M ++ [asU x] by rw [List.take_add_one, hx, HM.out]; simp)
      obtain ⟨b, o, rfl, hb, c0, c1, c2, c3, c4, c5, c6, c7, c8⟩ := ubody_at (HR.out.below HK.out.b) hx
      obtain ⟨bn, hbn⟩ : ∃ bn, x.b.length = bn := ⟨_, rfl⟩
      have HBN := Lib.hid hbn
      rw [hbn] at c8
      clear hx hb hbn
      have hX2 := Box.new wr 89 #[.int .i64 x.h.kind, .bool x.h.wide, .int .u64 (x.h.ab : Int), .int .u64 (x.h.sig : Int), .int .u64 (x.h.ty : Int), .int .u64 (x.h.off : Int), .int .u64 (x.h.first : Int), .int .u64 (x.h.stop : Int), .slice x.a bn x.c]
      have hb2 : Below wr.heap.size wr (wr.alloc (.cells #[.int .i64 x.h.kind, .bool x.h.wide, .int .u64 (x.h.ab : Int), .int .u64 (x.h.sig : Int), .int .u64 (x.h.ty : Int), .int .u64 (x.h.off : Int), .int .u64 (x.h.first : Int), .int .u64 (x.h.stop : Int), .slice x.a bn x.c] 89)) := (Below.refl _ _).alloc (Nat.le_refl _) _
      go_upto_region 10 with fail
      generalize wr.alloc (.cells #[.int .i64 x.h.kind, .bool x.h.wide, .int .u64 (x.h.ab : Int), .int .u64 (x.h.sig : Int), .int .u64 (x.h.ty : Int), .int .u64 (x.h.off : Int), .int .u64 (x.h.first : Int), .int .u64 (x.h.stop : Int), .slice x.a bn x.c] 89) = w2 at *
      have HK2 := Lib.hid (HK.out.below hb2)
      have HY2 := Lib.hid hX2
      clear hX2 hb2 c0 c1 c2 c3 c4 c5 c6 c7 c8 HK
      generalize wr.heap.size = Y at *
      obtain ⟨c0, c1, c2, c3, c4, c5, c6, c7, c8⟩ := nine_cellsU HY2.out
      by_cases h3 : 3000 < bn
      · have d : decide ((3000 : Int) < (bn : Int)) = true := by simp; omega
        have d' : decide (3000 < bn) = true := by simpa using h3
        clear h3
        go_wp2_with fail
        (try rw [Exit.noGoto_ret])
        go_ret
        exact ⟨rfl, HK2.out.b⟩
      have d : decide ((3000 : Int) < (bn : Int)) = false := by simp; omega
      have d' : decide (3000 < bn) = false := by simpa using h3
      have HP := Lib.hid (by
        have := uput_any (HSZ.out _ HK2.out.b) x.h HXI.out.h (HXI.out.r.below HK2.out.b) HK2.out.b.size x.c (by rw [HBN.out]; omega)
        rw [HBN.out] at this
        exact this : Calls Tryd.prog 33 #[.agg #[.int .i64 x.h.kind, .bool x.h.wide, .int .u64 (x.h.ab : Int), .int .u64 (x.h.sig : Int), .int .u64 (x.h.ty : Int), .int .u64 (x.h.off : Int), .int .u64 (x.h.first : Int), .int .u64 (x.h.stop : Int)], .slice x.a bn x.c] w2 fun r w' => ∃ u, r = .returned (.tuple #[u, .int .i64 (putUE x.h)]) ∧ Own w' w2.heap.size u (putUB x.h x.b) ∧ Below w2.heap.size w2 w')
      have hb3 : bn ≤ 3000 := by omega
      clear h3
      cases hrt : rightU x.h with
      | false =>
        have e1 : putUE x.h = 2 := by unfold putUE; rw [hrt]; rfl
        have e2 : putUB x.h x.b = [] := by unfold putUB; rw [hrt]; rfl
        rw [e1, e2] at HP
        clear e1 e2 hrt
        go_wp2_with (go_at_call 33; refine HP.out.mono ?_; rintro r w3 ⟨u3, rfl, ho, hb⟩; have HB3 := Lib.hid (HK2.out.b.trans (hb.mono HK2.out.b.size)); (obtain ⟨A3, c3, rfl, -, -, -⟩ := own_slice ho); clear ho hb)
        (try rw [Exit.noGoto_ret])
        go_ret
        exact ⟨rfl, HB3.out⟩
      | true =>
        have e1 : putUE x.h = 0 := by unfold putUE; rw [hrt]; rfl
        rw [e1] at HP
        have HFX := Lib.hid (show UFit (asU x) from ⟨hrt, HXI.out.h, show x.b.length ≤ 900000 by rw [HBN.out]; omega⟩)
        have HPL := Lib.hid (putUB_len hrt x.b (by rw [HBN.out]; omega))
        have HSU := Lib.hid (sizN_eq hrt)
        have HZL := Lib.hid (sizN_le x.h)
        have HZC := Lib.hid (fun (W : World) (hb : Below w.heap.size w W) => usize_any (HSZ.out W hb) x.h.kind HXI.out.h.k x.h.wide)
        have HSE := Lib.hid (secB_le M HUF.out HUB.out)
        have HSS := Lib.hid (secB_snoc M (asU x))
        have HHS := Lib.hid (headsAt_snoc M 0 (asU x))
        have HHA := Lib.hid (show headAt (0 + (secB M).length) (asU x).1 (asU x).2.length = ⟨x.h.kind, x.h.wide, x.h.ab, x.h.sig, x.h.ty, (secB M).length, (secB M).length + sizN x.h, (secB M).length + sizN x.h + x.b.length⟩ by rw [Nat.zero_add]; rfl)
        have HHL := Lib.hid (headsAt_len 0 M)
        rw [show putUB (asU x).1 (asU x).2 = putUB x.h x.b from rfl] at HSS
        rw [HML.out] at HHL
        rw [HHA.out] at HHS
        rw [HML.out] at HSE
        rw [HBN.out] at HPL HHS
        clear e1 hrt HHA
        obtain ⟨sn, hsn⟩ : ∃ n, (secB M).length = n := ⟨_, rfl⟩
        obtain ⟨pn, hpn⟩ : ∃ n, (putUB x.h x.b).length = n := ⟨_, rfl⟩
        rw [hsn] at HSE HHS
        rw [hpn] at HPL
        have HSN := Lib.hid hsn
        have HPN := Lib.hid hpn
        generalize putUB x.h x.b = pb at *
        generalize sizN x.h = zn at *
        generalize sizU x.h.kind x.h.wide = zi at *
        have hzz := HSU.out
        subst hzz
        obtain ⟨fn, hfn⟩ : ∃ n, n = sn + zn := ⟨_, rfl⟩
        have HFN := Lib.hid hfn
        obtain ⟨Av, cv, hwv⟩ := un_slc HK2.out.t
        rw [HHL.out] at hwv
        subst hwv
        clear hsn hpn hfn HSU
        go_upto_region 13 with (go_at_call 33; refine HP.out.mono ?_; rintro r w3 ⟨u3, rfl, ho, hb⟩; have HK3 := Lib.hid (HK2.out.below hb); have HY3 := Lib.hid (HY2.out.below hb HY2.out.lt); have HO3 := Lib.hid (row_base ho HK2.out.b.size); clear ho hb)
        obtain ⟨A3, p3, hu3, -, -, hr3⟩ := own_slice HO3.out
        rw [HPN.out] at hu3
        subst hu3
        have HR3 := Lib.hid hr3
        clear c0 c1 c2 c3 c4 c5 c6 c7 c8 hr3 HY2 HK2 HP
        obtain ⟨c0, c1, c2, c3, c4, c5, c6, c7, c8⟩ := nine_cellsU HY3.out
        obtain ⟨As, cs, hsv, -, -, -⟩ := own_slice HK3.out.s
        rw [HSN.out] at hsv
        subst hsv
        go_upto_region 16 with fail
        have hX4 := Box.new w3 79 #[.int .i64 x.h.kind, .bool x.h.wide, .int .u64 (x.h.ab : Int), .int .u64 (x.h.sig : Int), .int .u64 (x.h.ty : Int), .int .u64 (x.h.off : Int), .int .u64 (x.h.first : Int), .int .u64 (x.h.stop : Int)]
        have hb4 : Below w3.heap.size w3 (w3.alloc (.cells #[.int .i64 x.h.kind, .bool x.h.wide, .int .u64 (x.h.ab : Int), .int .u64 (x.h.sig : Int), .int .u64 (x.h.ty : Int), .int .u64 (x.h.off : Int), .int .u64 (x.h.first : Int), .int .u64 (x.h.stop : Int)] 79)) := (Below.refl _ _).alloc (Nat.le_refl _) _
        generalize w3.alloc (.cells #[.int .i64 x.h.kind, .bool x.h.wide, .int .u64 (x.h.ab : Int), .int .u64 (x.h.sig : Int), .int .u64 (x.h.ty : Int), .int .u64 (x.h.off : Int), .int .u64 (x.h.first : Int), .int .u64 (x.h.stop : Int)] 79) = w4 at *
        have HK4 := Lib.hid (HK3.out.below hb4)
        have HR4 := Lib.hid (HR3.out.below hb4)
        have HXW := Lib.hid (show w.heap.size ≤ w3.heap.size from HK3.out.b.size)
        have HXT := Lib.hid (show ∀ k', (Value.slice Av k cv).ownBlock = some k' → k' < w3.heap.size from fun k' hk => (HK3.out.t.lt k' hk).2)
        have HX4 := Lib.hid hX4
        clear hX4 hb4 c0 c1 c2 c3 c4 c5 c6 c7 c8 HY3 HK3 HR3 HO3
        generalize w3.heap.size = X at *
        obtain ⟨y0, y1, y2, y3, y4, y5, y6, y7⟩ := eight_cells HX4.out
        have f5 := HX4.out.free 5
        have s1 : IntKind.u64.wrap (sn : Int) = (sn : Int) := by have := HSE.out; rw [IntWalk.u64_in _ (by omega)]
        go_upto_region 17 with fail
        have HK5 := Lib.hid (HK4.out.set HX4.out HXW.out HXT.out 5 (.int .u64 (sn : Int)))
        have HX5 := Lib.hid (HX4.out.set 5 (.int .u64 (sn : Int)))
        have HR5 := Lib.hid (HR4.out.below (below_of_only (B := X) (only_set (only_refl w4 (some X)) 5 (.int .u64 (sn : Int))) (Nat.le_of_lt HX4.out.lt) (fun y hy => by injection hy with hy; omega)))
        clear y0 y1 y2 y3 y4 y5 y6 y7 f5 HK4 HX4 HR4
        generalize w4.setCell ⟨X, 5, none⟩ (.int .u64 (sn : Int)) = w5 at *
        obtain ⟨y0, y1, y2, y3, y4, y5, y6, y7⟩ := eight_cells HX5.out
        have f6 := HX5.out.free 6
        have s2 : IntKind.u64.wrap (zn : Int) = (zn : Int) := by have := HZL.out; rw [IntWalk.u64_in _ (by omega)]
        have s3 : IntKind.u64.wrap ((sn : Int) + (zn : Int)) = (fn : Int) := by have := HZL.out; have := HSE.out; have := HFN.out; rw [IntWalk.u64_in _ (by omega)]; omega
        have KS := Lib.hid (fun (W : World) (hb : Below w5.heap.size w5 W) => (by
          obtain ⟨y0, y1, y2, y3, y4, y5, y6, y7⟩ := eight_cells (HX5.out.below hb HX5.out.lt)
          exact ⟨y5, y0, y1⟩ : W.cell? ⟨X, 5, none⟩ = some (.int .u64 (sn : Int)) ∧ W.cell? ⟨X, 0, none⟩ = some (.int .i64 x.h.kind) ∧ W.cell? ⟨X, 1, none⟩ = some (.bool x.h.wide)))
        have KZ := Lib.hid (fun (W : World) (u : Value) (hW : W.cell? ⟨X, 5, none⟩ = some (.int .u64 (sn : Int)) ∧ W.cell? ⟨X, 0, none⟩ = some (.int .i64 x.h.kind) ∧ W.cell? ⟨X, 1, none⟩ = some (.bool x.h.wide)) => (by
          refine ⟨?_, ?_, ?_⟩
          · rw [World.cell?_setCell_other _ _ _ _ (by intro e; injection e with _ e; exact absurd e (by decide))]; exact hW.1
          · rw [World.cell?_setCell_other _ _ _ _ (by intro e; injection e with _ e; exact absurd e (by decide))]; exact hW.2.1
          · rw [World.cell?_setCell_other _ _ _ _ (by intro e; injection e with _ e; exact absurd e (by decide))]; exact hW.2.2 : (W.setCell ⟨X, 6, none⟩ u).cell? ⟨X, 5, none⟩ = some (.int .u64 (sn : Int)) ∧ (W.setCell ⟨X, 6, none⟩ u).cell? ⟨X, 0, none⟩ = some (.int .i64 x.h.kind) ∧ (W.setCell ⟨X, 6, none⟩ u).cell? ⟨X, 1, none⟩ = some (.bool x.h.wide)))
        go_region_held_law (fun W => W.cell? ⟨X, 5, none⟩ = some (.int .u64 (sn : Int)) ∧ W.cell? ⟨X, 0, none⟩ = some (.int .i64 x.h.kind) ∧ W.cell? ⟨X, 1, none⟩ = some (.bool x.h.wide)) ((first | exact KZ.out _ _ hs6 | (refine KS.out _ ?_; (repeat' (first | (with_reducible exact Below.refl _ _) | (with_reducible assumption) | (with_reducible refine below_drewN ?_ _) | (with_reducible refine Below.drew ?_)))))) (first
          | (go_at_call 35; refine (HZC.out _ (HK5.out.b.trans (Below.mono (show Below w5.heap.size w5 _ by (repeat' (first | (with_reducible exact Below.refl _ _) | (with_reducible assumption) | (with_reducible refine below_drewN ?_ _) | (with_reducible refine Below.drew ?_)))) HK5.out.b.size))).mono ?_; rintro r w6 ⟨rfl, hb⟩; have hb6 := (show Below w5.heap.size w5 _ by (repeat' (first | (with_reducible exact Below.refl _ _) | (with_reducible assumption) | (with_reducible refine below_drewN ?_ _) | (with_reducible refine Below.drew ?_)))).trans (hb.mono (by simp)); have hs6 := KS.out _ hb6; have hx6 := HX5.out.below hb6 HX5.out.lt; have y6' := (eight_cells hx6).2.2.2.2.2.2.1; have f6' := hx6.free 6; clear hb))
        go_upto_region 18 with fail
        have HX7 := Lib.hid (hx6.set 6 (.int .u64 (fn : Int)))
        have HK7 := Lib.hid ((HK5.out.below hb6).set hx6 HXW.out HXT.out 6 (.int .u64 (fn : Int)))
        have HR7 := Lib.hid ((HR5.out.below (hb6.mono (Nat.le_of_lt HX5.out.lt))).below (below_of_only (B := X) (only_set (only_refl w6 (some X)) 6 (.int .u64 (fn : Int))) (Nat.le_of_lt hx6.lt) (fun y hy => by injection hy with hy; omega)))
        clear y0 y1 y2 y3 y4 y5 y6 y7 f6 y6' f6' hs6 hx6 hb6 KS KZ HK5 HX5 HR5 HZC
        generalize w6.setCell ⟨X, 6, none⟩ (.int .u64 (fn : Int)) = w7 at *
        go_upto_region 19 with (at_builtin; refine wpList_append_bytes (by rfl) (.tmp 58) (.tmp 59) _ (by rfl) w.heap.size i0 Tryd.underlying66 hi0 hz0 hz1 hz2 (.slice As sn cs) (secB M) (by rfl) HK7.out.s X A3 pn p3 pb HPN.out (by rfl) HR7.out (by have := HSE.out; have := HSN.out; have := HPN.out; have := HPL.out; have := HZL.out; omega) HK7.out.b.size ?_; intro v8 w8 hown hg hat; have HX8 := Lib.hid (un_box HX7.out HK7.out.s (by decide) hg); have HK8 := Lib.hid (show BkS w w8 v8 (.slice Av k cv) (secB (M ++ [asU x])) (headsAt 0 M) from ⟨by rw [HSS.out]; exact hown, un_apart HK7.out.t HK7.out.s (by decide) hg, HK7.out.b.grown hg HK7.out.b.size (fun y hy => (HK7.out.s.lt y hy).1)⟩); clear hown hg hat)
        have HTN := Lib.hid (show (secB (M ++ [asU x])).length = sn + pn by rw [HSS.out, List.length_append, HSN.out, HPN.out])
        obtain ⟨tn, htn⟩ : ∃ n, n = sn + pn := ⟨_, rfl⟩
        rw [← htn] at HTN
        have HTT := Lib.hid htn
        obtain ⟨A8, c8, hv8, -, -, -⟩ := own_slice HK8.out.s
        rw [HTN.out] at hv8
        subst hv8
        clear htn HX7 HK7 HR7
        obtain ⟨y0, y1, y2, y3, y4, y5, y6, y7⟩ := eight_cells HX8.out
        have f7 := HX8.out.free 7
        have s4 : IntKind.u64.wrap (tn : Int) = (tn : Int) := by have := HTT.out; have := HPL.out; have := HZL.out; have := HSE.out; rw [IntWalk.u64_in _ (by omega)]
        go_upto_region 20 with fail
        have HX9 := Lib.hid (HX8.out.set 7 (.int .u64 (tn : Int)))
        have HK9 := Lib.hid (HK8.out.set HX8.out HXW.out HXT.out 7 (.int .u64 (tn : Int)))
        clear y0 y1 y2 y3 y4 y5 y6 y7 f7 HX8 HK8
        generalize w8.setCell ⟨X, 7, none⟩ (.int .u64 (tn : Int)) = w9 at *
        obtain ⟨y0, y1, y2, y3, y4, y5, y6, y7⟩ := eight_cells HX9.out
        have hA : Below w9.heap.size w9 (w9.alloc (.cells #[.int .i64 x.h.kind, .bool x.h.wide, .int .u64 (x.h.ab : Int), .int .u64 (x.h.sig : Int), .int .u64 (x.h.ty : Int), .int .u64 (sn : Int), .int .u64 (fn : Int), .int .u64 (tn : Int)] 79)) := (Below.refl _ _).alloc (Nat.le_refl _) _
        have HK10 := Lib.hid (HK9.out.below hA)
        have HO10 := Lib.hid (show (w9.alloc (.cells #[.int .i64 x.h.kind, .bool x.h.wide, .int .u64 (x.h.ab : Int), .int .u64 (x.h.sig : Int), .int .u64 (x.h.ty : Int), .int .u64 (sn : Int), .int .u64 (fn : Int), .int .u64 (tn : Int)] 79)).ownsRow w.heap.size 79 8 (.slice Av k cv) k (cellsF UHd.cells (headsAt 0 M)) from by have := HK10.out.t; rw [OwnH, HHL.out] at this; exact this)
        have hmx : k + 1 ≤ maxLen := by unfold maxLen; omega
        have hby : (k + 1) * 64 ≤ 140737488355328 := by omega
        have hsz : w.heap.size ≤ w9.heap.size + 1 := by have := HK9.out.b.size; omega
        have HHT := Lib.hid (show headsAt 0 (M ++ [asU x]) = headsAt 0 M ++ [⟨x.h.kind, x.h.wide, x.h.ab, x.h.sig, x.h.ty, sn, fn, tn⟩] by rw [HHS.out, ← HFN.out, show fn + bn = tn by have := HTT.out; have := HPL.out; have := HFN.out; omega])
        clear hA HK9 HX9
        go_wp2_with (at_builtin; refine wpList_append_own_at _ (by rfl) (.tmp 65) (.tmp 67) _ (by rfl) w.heap.size 79 i1 _ 8 64 Tryd.underlying70 hj1 hy0 hy1 hy2 rfl (by decide) _ k (cellsF UHd.cells (headsAt 0 M)) (by rfl) HO10.out ⟨w9.heap.size, 0, none⟩ 1 1 (UHd.cells ⟨x.h.kind, x.h.wide, x.h.ab, x.h.sig, x.h.ty, sn, fn, tn⟩) (by rfl) rfl (fun j u h => cells_newU w9 (UHd.cells ⟨x.h.kind, x.h.wide, x.h.ab, x.h.sig, x.h.ty, sn, fn, tn⟩) _ j u h) (uhd_one _) hmx hby (by simpa using hsz) ?_; intro v11 w11 hown hg hn6 hat; have HK11 := Lib.hid (show BkS w w11 (.slice A8 tn c8) v11 (secB (M ++ [asU x])) (headsAt 0 (M ++ [asU x])) from ⟨un_apart HK10.out.s HO10.out (by decide) hg, by rw [HHT.out, OwnH, List.length_append, HHL.out, cellsF_append, cellsF_one]; exact hown, HK10.out.b.grown hg HK10.out.b.size (fun y hy => (HO10.out.lt y hy).1)⟩); clear hown hg hat hn6)
        go_roundg (N - (k + 1))
        case measure => have := HLT.out; omega
        case rel => exact ⟨k + 1, M ++ [asU x], HLT.out, rfl, by go_num, Lib.hid HMN.out.symm, Lib.hid (by rw [List.length_append, HML.out]; rfl), Lib.hid (fun y hy => by
          rcases List.mem_append.1 hy with hy | hy
          · exact HUF.out y hy
          · rw [List.mem_singleton.1 hy]; exact HFX.out), Lib.hid (fun y hy => by
          rcases List.mem_append.1 hy with hy | hy
          · exact HUB.out y hy
          · rw [List.mem_singleton.1 hy]; show x.b.length ≤ 3000; rw [HBN.out]; exact hb3), HK11⟩
    · have hkN : k = N := by omega
      subst hkN
      have HM2 := Lib.hid (show M = L.map asU by rw [HM.out, List.take_of_length_le (by rw [HN.out]; omega)])
      clear HM
      obtain ⟨hae, hal⟩ := all_units HUF.out (by rw [HML.out]; exact hN60)
      have HBE := Lib.hid (back_end HUF.out)
      have HSE := Lib.hid (secB_le M HUF.out HUB.out)
      have HHL := Lib.hid (headsAt_len 0 M)
      rw [HML.out] at HHL HSE
      obtain ⟨As, cs, hsv, -, -, hrs⟩ := own_slice HK.out.s
      have HA := Lib.hid (by
        have := uall_any (HSZ.out _ HK.out.b) cs hrs (Nat.le_refl _) (by have := HSE.out; omega)
        rw [hae, hal] at this
        exact this : Calls Tryd.prog 27 #[.slice As (secB M).length cs] wr fun r w' => ∃ u, r = .returned (.tuple #[u, .int .i64 0]) ∧ OwnH 82 w' wr.heap.size u (headsAt 0 M) ∧ Below wr.heap.size wr w')
      have HAS := Lib.hid (fun (j : Nat) (y : UBody) (z : UHd) (hy : L[j]? = some y) (hz : (headsAt 0 M)[j]? = some z) => back_asks HUF.out (i := j) (y := asU y) (by rw [HM2.out, List.getElem?_map, hy]; rfl) hz)
      obtain ⟨Aw, cw, hwv, -, -, hrw⟩ := own_row uhd_eight HK.out.t
      rw [HHL.out] at hwv
      have HRW := Lib.hid hrw
      have HB := Lib.hid HK.out.b
      subst hsv hwv
      clear hae hal hrs hrw HK HUF HUB
      generalize (secB M).length = sn at *
      generalize headsAt 0 M = R at *
      have HAL := Lib.hid (show alikeL sameU R R = true from alikeU.2 rfl)
      go_upto_region 23 with (go_at_call 27; refine HA.out.mono ?_; rintro r w2 ⟨u2, rfl, ho, hb⟩; have HB2 := Lib.hid (HB.out.trans (hb.mono HB.out.size)); (obtain ⟨A2, c2, hu2, -, -, hr2⟩ := own_row uhd_eight ho); rw [HHL.out] at hu2; subst hu2; have HR2 := Lib.hid hr2; have HRW2 := Lib.hid (HRW.out.up hb); clear ho hb hr2)
      have HT := Lib.hid (by
        have := told_unit HR2.out (Nat.le_refl _) c2 (by rw [HHL.out]; omega)
        rw [HHL.out] at this
        exact this : Calls Tryd.prog 30 #[.slice A2 k c2] w2 fun r w' => ∃ u, r = .returned u ∧ OwnH 79 w' w2.heap.size u R ∧ Below w2.heap.size w2 w')
      have HSM := Lib.hid (fun (W : World) (A A' : Option Addr) (c c' : Nat) (h : Row 8 UHd.cells W W.heap.size A R) (h' : Row 8 UHd.cells W W.heap.size A' R) => (by
        have := rsame_unit h h' (Nat.le_refl _) c c' (by rw [HHL.out]; omega)
        rw [HHL.out, HAL.out] at this
        exact this : Calls Tryd.prog 29 #[.slice A k c, .slice A' k c'] W fun r w' => r = .returned (.bool true) ∧ Below W.heap.size W w'))
      clear HA HB HRW HAL
      go_upto_region 26 with (first
        | (go_at_call 30; refine HT.out.mono ?_; rintro r w3 ⟨u3', rfl, ho, hb⟩; have HB3 := Lib.hid (HB2.out.trans (hb.mono HB2.out.size)); (obtain ⟨A3, c3, hu3, -, -, hr3⟩ := own_row uhd_eight ho); rw [HHL.out] at hu3; subst hu3; have HR3 := Lib.hid hr3; have HR23 := Lib.hid (HR2.out.up hb); have HRW3 := Lib.hid (HRW2.out.up hb); clear ho hb hr3)
        | (go_at_call 29; refine (HSM.out _ _ _ _ _ HR3.out HRW3.out).mono ?_; rintro r w4 ⟨rfl, hb⟩; have HB4 := Lib.hid (HB3.out.trans (hb.mono HB3.out.size)); have HR4 := Lib.hid (HR23.out.up hb); clear hb))
      clear HT HSM HB2 HB3 HR2 HR3 HR23 HRW2 HRW3
      have HOF := Lib.hid (fun (W : World) (off : Nat) (hb : Below w4.heap.size w4 W) => (by
        have := of_unit (HR4.out.below hb) hb.size c2 off (by rw [HHL.out]; omega)
        rw [HHL.out] at this
        exact this : Calls Tryd.prog 31 #[.slice A2 k c2, .int .u64 (off : Int)] W fun r w' => r = .returned (.int .i64 (findU R off 0)) ∧ Below W.heap.size W w'))
      have sq : IntKind.u64.wrap (sn : Int) = (sn : Int) := by have := HSE.out; rw [IntWalk.u64_in _ (by omega)]
      generalize wr = wq at *
      go_loopg [86] k (fun gk i wx => ∃ j : Nat, j ≤ k ∧ gk = k - j ∧ i = .int .i64 j ∧ Hid (Below w4.heap.size w4 wx))
      case atStart => exact ⟨0, Nat.zero_le _, rfl, rfl, Lib.hid (Below.refl _ _)⟩
      case round =>
        obtain ⟨j, hj, rfl, rfl, HBJ⟩ := hrel
        by_cases hjk : j < k
        · have HJK := Lib.hid hjk
          obtain ⟨y, hy⟩ : ∃ y, L[j]? = some y := ⟨L[j]'(by rw [HN.out]; exact hjk), List.getElem?_eq_getElem _⟩
          obtain ⟨z, hz⟩ : ∃ z, R[j]? = some z := ⟨R[j]'(by rw [HHL.out]; exact hjk), List.getElem?_eq_getElem _⟩
          obtain ⟨q1, q2, q3, q4, q5⟩ := HAS.out j y z hy hz
          obtain ⟨b, o, hbo, hb, -, -, -, -, -, -, -, -, m8⟩ := ubody_at (HR.out.below (HB4.out.trans (HBJ.out.mono HB4.out.size))) hy
          subst hbo
          obtain ⟨g, og, hgo, hg, c0, c1, c2', c3, c4, c5, c6, c7⟩ := uhd_at (HR4.out.below HBJ.out) hz
          subst hgo
          rw [show (asU y).2 = y.b from rfl] at q1
          have hbb := Nat.lt_of_lt_of_le hb HB4.out.size
          generalize y.b.length = bn at *
          generalize y.a = yb at *
          generalize y.c = yc at *
          have Q1 := Lib.hid q1
          clear hy hz q1
          have hX5 := Box.new wr 82 #[.int .i64 z.kind, .bool z.wide, .int .u64 (z.ab : Int), .int .u64 (z.sig : Int), .int .u64 (z.ty : Int), .int .u64 (z.off : Int), .int .u64 (z.first : Int), .int .u64 (z.stop : Int)]
          have hb5 : Below wr.heap.size wr (wr.alloc (.cells #[.int .i64 z.kind, .bool z.wide, .int .u64 (z.ab : Int), .int .u64 (z.sig : Int), .int .u64 (z.ty : Int), .int .u64 (z.off : Int), .int .u64 (z.first : Int), .int .u64 (z.stop : Int)] 82)) := (Below.refl _ _).alloc (Nat.le_refl _) _
          go_upto_region 28 with fail
          generalize wr.alloc (.cells #[.int .i64 z.kind, .bool z.wide, .int .u64 (z.ab : Int), .int .u64 (z.sig : Int), .int .u64 (z.ty : Int), .int .u64 (z.off : Int), .int .u64 (z.first : Int), .int .u64 (z.stop : Int)] 82) = w5 at *
          have HB5 := Lib.hid (HBJ.out.trans (hb5.mono HBJ.out.size))
          have HM8 := Lib.hid (fun (W : World) (hW : Below w5.heap.size w5 W) => ((hb5.trans (hW.mono hb5.size)).cell (p := ⟨b, o + j * 9 + 8, none⟩) (Nat.lt_of_lt_of_le hbb HBJ.out.size)).trans m8)
          have HZ5 := Lib.hid hX5
          clear c0 c1 c2' c3 c4 c5 c6 c7 hX5 hb5 hg hb m8 hbb
          generalize wr.heap.size = Z at *
          generalize hfs : z.first = fs at *
          generalize hss : z.stop = ss at *
          clear hfs hss
          have KS := Lib.hid (fun (W : World) (hW : Below w5.heap.size w5 W) => (by
            obtain ⟨y0, y1, y2, y3, y4, y5, y6, y7⟩ := eight_cells (HZ5.out.below hW HZ5.out.lt)
            exact ⟨y6, y7, HM8.out W hW⟩ : W.cell? ⟨Z, 6, none⟩ = some (.int .u64 (fs : Int)) ∧ W.cell? ⟨Z, 7, none⟩ = some (.int .u64 (ss : Int)) ∧ W.cell? ⟨b, o + j * 9 + 8, none⟩ = some (.slice yb bn yc)))
          have hse : (ss : Nat) ≤ 200000 := by have := HSE.out; omega
          have q1 := Q1.out
          have t1 : IntKind.u64.wrap ((ss : Int) - (fs : Int)) = (bn : Int) := by rw [IntWalk.u64_in _ (by omega)]; omega
          have t2 : IntKind.u64.wrap (bn : Int) = (bn : Int) := by rw [IntWalk.u64_in _ (by omega)]
          have t3 : ((bn : Int) != (bn : Int)) = false := by simp
          obtain ⟨f1, hf1⟩ : ∃ n, n = fs - 1 := ⟨_, rfl⟩
          obtain ⟨p1, hp1⟩ : ∃ n, n = ss - 1 := ⟨_, rfl⟩
          have t4 : IntKind.u64.wrap ((fs : Int) - 1) = (f1 : Int) := by rw [IntWalk.u64_in _ (by omega)]; omega
          have t6 : ((j : Int) != (j : Int)) = false := by simp
          rw [← hf1] at q5
          rw [← hp1] at q4
          have HO3 := Lib.hid (fun (W : World) (hW : Below w5.heap.size w5 W) => HOF.out W f1 (HB5.out.trans (hW.mono HB5.out.size)))
          obtain ⟨fi, hfi⟩ : ∃ n, findU R f1 0 = n := ⟨_, rfl⟩
          rw [hfi] at HO3 q5
          have t7 : (fi == (j : Int)) = false := by simpa using q5
          clear hfi q5 hf1 q2 q3
          by_cases hlt : fs < ss
          · have d : decide ((fs : Int) < (ss : Int)) = true := by simp; omega
            have d' : decide (fs < ss) = true := by simpa using hlt
            have t5 : IntKind.u64.wrap ((ss : Int) - 1) = (p1 : Int) := by rw [IntWalk.u64_in _ (by omega)]; omega
            have HO1 := Lib.hid (fun (W : World) (hW : Below w5.heap.size w5 W) => (by
              have := HOF.out W fs (HB5.out.trans (hW.mono HB5.out.size))
              rw [(q4 hlt).1] at this
              exact this : Calls Tryd.prog 31 #[.slice (some ⟨g, og, none⟩) k c2, .int .u64 (fs : Int)] W fun r w' => r = .returned (.int .i64 (j : Int)) ∧ Below W.heap.size W w'))
            have HO2 := Lib.hid (fun (W : World) (hW : Below w5.heap.size w5 W) => (by
              have := HOF.out W p1 (HB5.out.trans (hW.mono HB5.out.size))
              rw [(q4 hlt).2] at this
              exact this : Calls Tryd.prog 31 #[.slice (some ⟨g, og, none⟩) k c2, .int .u64 (p1 : Int)] W fun r w' => r = .returned (.int .i64 (j : Int)) ∧ Below W.heap.size W w'))
            clear hlt q4 hp1 q1 hse
            go_region_held_law (fun W => W.cell? ⟨Z, 6, none⟩ = some (.int .u64 (fs : Int)) ∧ W.cell? ⟨Z, 7, none⟩ = some (.int .u64 (ss : Int)) ∧ W.cell? ⟨b, o + j * 9 + 8, none⟩ = some (.slice yb bn yc)) ((refine KS.out _ ?_; (repeat' (first | (with_reducible exact Below.refl _ _) | (with_reducible assumption) | (with_reducible refine below_drewN ?_ _) | (with_reducible refine Below.drew ?_))))) (first
              | (go_at_call 31; refine (HO1.out _ (show Below w5.heap.size w5 _ by (repeat' (first | (with_reducible exact Below.refl _ _) | (with_reducible assumption) | (with_reducible refine below_drewN ?_ _) | (with_reducible refine Below.drew ?_))))).mono ?_; rintro r w6 ⟨rfl, hb⟩; have hb6 := (show Below w5.heap.size w5 _ by (repeat' (first | (with_reducible exact Below.refl _ _) | (with_reducible assumption) | (with_reducible refine below_drewN ?_ _) | (with_reducible refine Below.drew ?_)))).trans (hb.mono (by simp)); clear hb HO1)
              | (go_at_call 31; refine (HO2.out _ (show Below w5.heap.size w5 _ by (repeat' (first | (with_reducible exact Below.refl _ _) | (with_reducible assumption) | (with_reducible refine below_drewN ?_ _) | (with_reducible refine Below.drew ?_))))).mono ?_; rintro r w7 ⟨rfl, hb⟩; have hb7 := (show Below w5.heap.size w5 _ by (repeat' (first | (with_reducible exact Below.refl _ _) | (with_reducible assumption) | (with_reducible refine below_drewN ?_ _) | (with_reducible refine Below.drew ?_)))).trans (hb.mono (by have := hb6.size; omega)); clear hb HO2)
              | (go_at_call 31; refine (HO3.out _ (show Below w5.heap.size w5 _ by (repeat' (first | (with_reducible exact Below.refl _ _) | (with_reducible assumption) | (with_reducible refine below_drewN ?_ _) | (with_reducible refine Below.drew ?_))))).mono ?_; rintro r w8 ⟨rfl, hb⟩; have hb8 := (show Below w5.heap.size w5 _ by (repeat' (first | (with_reducible exact Below.refl _ _) | (with_reducible assumption) | (with_reducible refine below_drewN ?_ _) | (with_reducible refine Below.drew ?_)))).trans (hb.mono (by have := hb7.size; omega)); clear hb HO3))
            go_wp2_with fail
            go_roundg (k - (j + 1))
            case measure => have := HJK.out; omega
            case rel => exact ⟨j + 1, HJK.out, rfl, by go_num, Lib.hid (HB5.out.trans (hb8.mono HB5.out.size))⟩
          · obtain rfl : ss = fs := by omega
            obtain rfl : bn = 0 := by omega
            clear hlt q4 hp1 q1 hse t1 t2 t3
            refine wp_region_held_drew (S := fun W => W.cell? ⟨Z, 6, none⟩ = some (.int .u64 (ss : Int)) ∧ W.cell? ⟨Z, 7, none⟩ = some (.int .u64 (ss : Int)) ∧ W.cell? ⟨b, o + j * 9 + 8, none⟩ = some (.slice yb 0 yc)) (by kernel_rfl) ?_ (fun hHeld => ?_)
            · exact KS.out _ (by (repeat' (first | (with_reducible exact Below.refl _ _) | (with_reducible assumption) | (with_reducible refine below_drewN ?_ _) | (with_reducible refine Below.drew ?_))))
            refine take_r (i := 0) (v := ?_) rfl (by kernel_rfl) (by kernel_rfl) (by kernel_rfl) (fun _ _ _ h => h) (Or.inl ⟨by rfl, ?_⟩) hHeld ?_
            rotate_left
            · (intro wS hSw; (try dsimp only at hSw); go_simp; (try with_reducible rfl))
            try simp only [Act.put, List.setIfInBounds_toArray, List.set_cons_zero, List.set_cons_succ]
            refine take_r (i := 1) (v := ?_) rfl (by kernel_rfl) (by kernel_rfl) (by kernel_rfl) (fun _ _ _ h => h) (Or.inl ⟨by rfl, ?_⟩) hHeld ?_
            rotate_left
            · (intro wS hSw; (try dsimp only at hSw); go_simp; (try with_reducible rfl))
            try simp only [Act.put, List.setIfInBounds_toArray, List.set_cons_zero, List.set_cons_succ]
            refine take_r (i := 2) (v := ?_) rfl (by kernel_rfl) (by kernel_rfl) (by kernel_rfl) (fun _ _ _ h => h) (Or.inl ⟨by rfl, ?_⟩) hHeld ?_
            rotate_left
            · (intro wS hSw; (try dsimp only at hSw); go_simp; (try with_reducible rfl))
            try simp only [Act.put, List.setIfInBounds_toArray, List.set_cons_zero, List.set_cons_succ]
            refine take_r (i := 3) (v := ?_) rfl (by kernel_rfl) (by kernel_rfl) (by kernel_rfl) (fun _ _ _ h => h) (Or.inl ⟨by rfl, ?_⟩) hHeld ?_
            rotate_left
            · (intro wS hSw; (try dsimp only at hSw); go_simp; (try with_reducible rfl))
            try simp only [Act.put, List.setIfInBounds_toArray, List.set_cons_zero, List.set_cons_succ]
            refine take_r (i := 4) (v := ?_) rfl (by kernel_rfl) (by kernel_rfl) (by kernel_rfl) (fun _ _ _ h => h) (Or.inl ⟨by rfl, ?_⟩) hHeld ?_
            rotate_left
            · (intro wS hSw; (try dsimp only at hSw); go_simp; (try with_reducible rfl))
            try simp only [Act.put, List.setIfInBounds_toArray, List.set_cons_zero, List.set_cons_succ]
            refine take_r (i := 5) (v := ?_) rfl (by kernel_rfl) (by kernel_rfl) (by kernel_rfl) (fun _ _ _ h => h) (Or.inl ⟨by rfl, ?_⟩) hHeld ?_
            rotate_left
            · (intro wS hSw; (try dsimp only at hSw); go_simp; (try with_reducible rfl))
            try simp only [Act.put, List.setIfInBounds_toArray, List.set_cons_zero, List.set_cons_succ]
            refine take_r (i := 6) (v := ?_) rfl (by kernel_rfl) (by kernel_rfl) (by kernel_rfl) (fun _ _ _ h => h) (Or.inl ⟨by rfl, ?_⟩) hHeld ?_
            rotate_left
            · (intro wS hSw; (try dsimp only at hSw); go_simp; (try with_reducible rfl))
            try simp only [Act.put, List.setIfInBounds_toArray, List.set_cons_zero, List.set_cons_succ]
            refine take_r (i := 7) (v := ?_) rfl (by kernel_rfl) (by kernel_rfl) (by kernel_rfl) (fun _ _ _ h => h) (Or.inl ⟨by rfl, ?_⟩) hHeld ?_
            rotate_left
            · (intro wS hSw; (try dsimp only at hSw); go_simp; (try with_reducible rfl))
            try simp only [Act.put, List.setIfInBounds_toArray, List.set_cons_zero, List.set_cons_succ]
            refine take_r (i := 8) (v := ?_) rfl (by kernel_rfl) (by kernel_rfl) (by kernel_rfl) (fun _ _ _ h => h) (Or.inl ⟨by rfl, ?_⟩) hHeld ?_
            rotate_left
            · (intro wS hSw; (try dsimp only at hSw); go_simp; (try with_reducible rfl))
            try simp only [Act.put, List.setIfInBounds_toArray, List.set_cons_zero, List.set_cons_succ]
            refine take_r (i := 9) (v := ?_) rfl (by kernel_rfl) (by kernel_rfl) (by kernel_rfl) (fun _ _ _ h => h) (Or.inl ⟨by rfl, ?_⟩) hHeld ?_
            rotate_left
            · (intro wS hSw; (try dsimp only at hSw); go_simp; (try with_reducible rfl))
            try simp only [Act.put, List.setIfInBounds_toArray, List.set_cons_zero, List.set_cons_succ]
            refine take_r (i := 10) (v := ?_) rfl (by kernel_rfl) (by kernel_rfl) (by kernel_rfl) (fun _ _ _ h => h) (Or.inl ⟨by rfl, ?_⟩) hHeld ?_
            rotate_left
            · (intro wS hSw; (try dsimp only at hSw); go_simp; (try with_reducible rfl))
            try simp only [Act.put, List.setIfInBounds_toArray, List.set_cons_zero, List.set_cons_succ]
            refine take_r (i := 11) (v := ?_) rfl (by kernel_rfl) (by kernel_rfl) (by kernel_rfl) (fun _ _ _ h => h) (Or.inl ⟨by rfl, ?_⟩) hHeld ?_
            rotate_left
            · (intro wS hSw; (try dsimp only at hSw); go_simp; (try with_reducible rfl))
            try simp only [Act.put, List.setIfInBounds_toArray, List.set_cons_zero, List.set_cons_succ]
            refine take_r (i := 12) (v := ?_) rfl (by kernel_rfl) (by kernel_rfl) (by kernel_rfl) (fun _ _ _ h => h) (Or.inl ⟨by rfl, ?_⟩) hHeld ?_
            rotate_left
            · (intro wS hSw; (try dsimp only at hSw); go_simp; (try with_reducible rfl))
            try simp only [Act.put, List.setIfInBounds_toArray, List.set_cons_zero, List.set_cons_succ]
            refine take_r (i := 13) (v := ?_) rfl (by kernel_rfl) (by kernel_rfl) (by kernel_rfl) (fun _ _ _ h => h) (Or.inl ⟨by rfl, ?_⟩) hHeld ?_
            rotate_left
            · (intro wS hSw; (try dsimp only at hSw); go_simp; (try with_reducible rfl))
            try simp only [Act.put, List.setIfInBounds_toArray, List.set_cons_zero, List.set_cons_succ]
            refine take_r (i := 14) (v := ?_) rfl (by kernel_rfl) (by kernel_rfl) (by kernel_rfl) (fun _ _ _ h => h) (Or.inl ⟨by rfl, ?_⟩) hHeld ?_
            rotate_left
            · (intro wS hSw; (try dsimp only at hSw); go_simp; (try with_reducible rfl))
            try simp only [Act.put, List.setIfInBounds_toArray, List.set_cons_zero, List.set_cons_succ]
            refine take_r (i := 15) (v := ?_) rfl (by kernel_rfl) (by kernel_rfl) (by kernel_rfl) (fun _ _ _ h => h) (Or.inl ⟨by rfl, ?_⟩) hHeld ?_
            rotate_left
            · (intro wS hSw; (try dsimp only at hSw); go_simp; (try with_reducible rfl))
            try simp only [Act.put, List.setIfInBounds_toArray, List.set_cons_zero, List.set_cons_succ]
            refine take_r (i := 16) (v := ?_) rfl (by kernel_rfl) (by kernel_rfl) (by kernel_rfl) (fun _ _ _ h => h) (Or.inl ⟨by rfl, ?_⟩) hHeld ?_
            rotate_left
            · (intro wS hSw; (try dsimp only at hSw); go_simp; (try with_reducible rfl))
            try simp only [Act.put, List.setIfInBounds_toArray, List.set_cons_zero, List.set_cons_succ]
            refine take_r (i := 17) (v := ?_) rfl (by kernel_rfl) (by kernel_rfl) (by kernel_rfl) (fun _ _ _ h => h) (Or.inl ⟨by rfl, ?_⟩) hHeld ?_
            rotate_left
            · (intro wS hSw; (try dsimp only at hSw); go_simp; (try with_reducible rfl))
            try simp only [Act.put, List.setIfInBounds_toArray, List.set_cons_zero, List.set_cons_succ]
            refine take_r (i := 18) (v := ?_) rfl (by kernel_rfl) (by kernel_rfl) (by kernel_rfl) (fun _ _ _ h => h) (Or.inl ⟨by rfl, ?_⟩) hHeld ?_
            rotate_left
            · (intro wS hSw; (try dsimp only at hSw); go_simp; (try with_reducible rfl))
            try simp only [Act.put, List.setIfInBounds_toArray, List.set_cons_zero, List.set_cons_succ]
            refine take_r (i := 19) (v := ?_) rfl (by kernel_rfl) (by kernel_rfl) (by kernel_rfl) (fun _ _ _ h => h) (Or.inl ⟨by rfl, ?_⟩) hHeld ?_
            rotate_left
            · (intro wS hSw; (try dsimp only at hSw); go_simp; (try with_reducible rfl))
            try simp only [Act.put, List.setIfInBounds_toArray, List.set_cons_zero, List.set_cons_succ]
            refine take_r (i := 20) (v := undef) rfl (by kernel_rfl) (by kernel_rfl) (by kernel_rfl) (fun _ _ _ h => h) (Or.inr ⟨by rfl, rfl⟩) hHeld ?_; try simp only [Act.put, List.setIfInBounds_toArray, List.set_cons_zero, List.set_cons_succ]
            refine take_r (i := 21) (v := undef) rfl (by kernel_rfl) (by kernel_rfl) (by kernel_rfl) (fun _ _ _ h => h) (Or.inr ⟨by rfl, rfl⟩) hHeld ?_; try simp only [Act.put, List.setIfInBounds_toArray, List.set_cons_zero, List.set_cons_succ]
            refine take_r (i := 22) (v := undef) rfl (by kernel_rfl) (by kernel_rfl) (by kernel_rfl) (fun _ _ _ h => h) (Or.inr ⟨by rfl, rfl⟩) hHeld ?_; try simp only [Act.put, List.setIfInBounds_toArray, List.set_cons_zero, List.set_cons_succ]
            refine take_r (i := 23) (v := undef) rfl (by kernel_rfl) (by kernel_rfl) (by kernel_rfl) (fun _ _ _ h => h) (Or.inr ⟨by rfl, rfl⟩) hHeld ?_; try simp only [Act.put, List.setIfInBounds_toArray, List.set_cons_zero, List.set_cons_succ]
            refine take_r (i := 24) (v := undef) rfl (by kernel_rfl) (by kernel_rfl) (by kernel_rfl) (fun _ _ _ h => h) (Or.inr ⟨by rfl, rfl⟩) hHeld ?_; try simp only [Act.put, List.setIfInBounds_toArray, List.set_cons_zero, List.set_cons_succ]
            refine take_r (i := 25) (v := undef) rfl (by kernel_rfl) (by kernel_rfl) (by kernel_rfl) (fun _ _ _ h => h) (Or.inr ⟨by rfl, rfl⟩) hHeld ?_; try simp only [Act.put, List.setIfInBounds_toArray, List.set_cons_zero, List.set_cons_succ]
            refine take_r (i := 26) (v := undef) rfl (by kernel_rfl) (by kernel_rfl) (by kernel_rfl) (fun _ _ _ h => h) (Or.inr ⟨by rfl, rfl⟩) hHeld ?_; try simp only [Act.put, List.setIfInBounds_toArray, List.set_cons_zero, List.set_cons_succ]
            refine take_r (i := 27) (v := undef) rfl (by kernel_rfl) (by kernel_rfl) (by kernel_rfl) (fun _ _ _ h => h) (Or.inr ⟨by rfl, rfl⟩) hHeld ?_; try simp only [Act.put, List.setIfInBounds_toArray, List.set_cons_zero, List.set_cons_succ]
            refine take_r (i := 28) (v := undef) rfl (by kernel_rfl) (by kernel_rfl) (by kernel_rfl) (fun _ _ _ h => h) (Or.inr ⟨by rfl, rfl⟩) hHeld ?_; try simp only [Act.put, List.setIfInBounds_toArray, List.set_cons_zero, List.set_cons_succ]
            refine take_r (i := 29) (v := undef) rfl (by kernel_rfl) (by kernel_rfl) (by kernel_rfl) (fun _ _ _ h => h) (Or.inr ⟨by rfl, rfl⟩) hHeld ?_; try simp only [Act.put, List.setIfInBounds_toArray, List.set_cons_zero, List.set_cons_succ]
            refine take_r (i := 30) (v := undef) rfl (by kernel_rfl) (by kernel_rfl) (by kernel_rfl) (fun _ _ _ h => h) (Or.inr ⟨by rfl, rfl⟩) hHeld ?_; try simp only [Act.put, List.setIfInBounds_toArray, List.set_cons_zero, List.set_cons_succ]
            refine take_r (i := 31) (v := undef) rfl (by kernel_rfl) (by kernel_rfl) (by kernel_rfl) (fun _ _ _ h => h) (Or.inr ⟨by rfl, rfl⟩) hHeld ?_; try simp only [Act.put, List.setIfInBounds_toArray, List.set_cons_zero, List.set_cons_succ]
            refine take_r (i := 32) (v := undef) rfl (by kernel_rfl) (by kernel_rfl) (by kernel_rfl) (fun _ _ _ h => h) (Or.inr ⟨by rfl, rfl⟩) hHeld ?_; try simp only [Act.put, List.setIfInBounds_toArray, List.set_cons_zero, List.set_cons_succ]
            refine take_r (i := 33) (v := undef) rfl (by kernel_rfl) (by kernel_rfl) (by kernel_rfl) (fun _ _ _ h => h) (Or.inr ⟨by rfl, rfl⟩) hHeld ?_; try simp only [Act.put, List.setIfInBounds_toArray, List.set_cons_zero, List.set_cons_succ]
            refine take_r (i := 34) (v := undef) rfl (by kernel_rfl) (by kernel_rfl) (by kernel_rfl) (fun _ _ _ h => h) (Or.inr ⟨by rfl, rfl⟩) hHeld ?_; try simp only [Act.put, List.setIfInBounds_toArray, List.set_cons_zero, List.set_cons_succ]
            refine take_r (i := 35) (v := ?_) rfl (by kernel_rfl) (by kernel_rfl) (by kernel_rfl) (fun _ _ _ h => h) (Or.inl ⟨by rfl, ?_⟩) hHeld ?_
            rotate_left
            · (intro wS hSw; (try dsimp only at hSw); go_simp; (try with_reducible rfl))
            try simp only [Act.put, List.setIfInBounds_toArray, List.set_cons_zero, List.set_cons_succ]
            refine take_r (i := 36) (v := ?_) rfl (by kernel_rfl) (by kernel_rfl) (by kernel_rfl) (fun _ _ _ h => h) (Or.inl ⟨by rfl, ?_⟩) hHeld ?_
            rotate_left
            · (intro wS hSw; (try dsimp only at hSw); go_simp; (try with_reducible rfl))
            try simp only [Act.put, List.setIfInBounds_toArray, List.set_cons_zero, List.set_cons_succ]
            refine take_r (i := 37) (v := ?_) rfl (by kernel_rfl) (by kernel_rfl) (by kernel_rfl) (fun _ _ _ h => h) (Or.inl ⟨by rfl, ?_⟩) hHeld ?_
            rotate_left
            · (intro wS hSw; (try dsimp only at hSw); go_simp; (try with_reducible rfl))
            try simp only [Act.put, List.setIfInBounds_toArray, List.set_cons_zero, List.set_cons_succ]
            refine take_r (i := 38) (v := ?_) rfl (by kernel_rfl) (by kernel_rfl) (by kernel_rfl) (fun _ _ _ h => h) (Or.inl ⟨by rfl, ?_⟩) hHeld ?_
            rotate_left
            · (intro wS hSw; (try dsimp only at hSw); go_simp; (try with_reducible rfl))
            try simp only [Act.put, List.setIfInBounds_toArray, List.set_cons_zero, List.set_cons_succ]
            refine take_r (i := 39) (v := ?_) rfl (by kernel_rfl) (by kernel_rfl) (by kernel_rfl) (fun _ _ _ h => h) (Or.inl ⟨by rfl, ?_⟩) hHeld ?_
            rotate_left
            · (intro wS hSw; (try dsimp only at hSw); go_simp; (try with_reducible rfl))
            try simp only [Act.put, List.setIfInBounds_toArray, List.set_cons_zero, List.set_cons_succ]
            refine take_r (i := 40) (v := ?_) rfl (by kernel_rfl) (by kernel_rfl) (by kernel_rfl) (fun _ _ _ h => h) (Or.inl ⟨by rfl, ?_⟩) hHeld ?_
            rotate_left
            · (intro wS hSw; (try dsimp only at hSw); go_simp; (try with_reducible rfl))
            try simp only [Act.put, List.setIfInBounds_toArray, List.set_cons_zero, List.set_cons_succ]
            refine take_r (i := 41) (v := ?_) rfl (by kernel_rfl) (by kernel_rfl) (by kernel_rfl) (fun _ _ _ h => h) (Or.inl ⟨by rfl, ?_⟩) hHeld ?_
            rotate_left
            · (intro wS hSw; (try dsimp only at hSw); go_simp; (try with_reducible rfl))
            try simp only [Act.put, List.setIfInBounds_toArray, List.set_cons_zero, List.set_cons_succ]
            refine take_r (i := 43) (v := ?_) rfl (by kernel_rfl) (by kernel_rfl) (by kernel_rfl) (fun _ _ _ h => h) (Or.inl ⟨by rfl, ?_⟩) hHeld ?_
            rotate_left
            · (intro wS hSw; (try dsimp only at hSw); go_simp; (try with_reducible rfl))
            try simp only [Act.put, List.setIfInBounds_toArray, List.set_cons_zero, List.set_cons_succ]
            refine wpAnyH_ready (rs := [42]) (by kernel_rfl) (by simp) ?_
            refine ready_r rfl (fun K hK => ?_)
            go_simp
            go_wp2_with (go_at_call 31; refine (HO3.out _ (show Below w5.heap.size w5 _ by (repeat' (first | (with_reducible exact Below.refl _ _) | (with_reducible assumption) | (with_reducible refine below_drewN ?_ _) | (with_reducible refine Below.drew ?_))))).mono ?_; rintro r w8 ⟨rfl, hb⟩; have hb8 := (show Below w5.heap.size w5 _ by (repeat' (first | (with_reducible exact Below.refl _ _) | (with_reducible assumption) | (with_reducible refine below_drewN ?_ _) | (with_reducible refine Below.drew ?_)))).trans (hb.mono (by simp)); clear hb)
            refine hK.out _ _ ?_ (fun hNew => ?_)
            · exact KS.out _ hb8
            clear hHeld hK K
            have hHeld := hNew
            clear hNew
            refine take_r (i := 44) (v := ?_) rfl (by kernel_rfl) (by kernel_rfl) (by kernel_rfl) (fun _ _ _ h => h) (Or.inl ⟨by rfl, ?_⟩) hHeld ?_
            rotate_left
            · (intro wS hSw; (try dsimp only at hSw); go_simp; (try with_reducible rfl))
            try simp only [Act.put, List.setIfInBounds_toArray, List.set_cons_zero, List.set_cons_succ]
            refine take_r (i := 45) (v := ?_) rfl (by kernel_rfl) (by kernel_rfl) (by kernel_rfl) (fun _ _ _ h => h) (Or.inl ⟨by rfl, ?_⟩) hHeld ?_
            rotate_left
            · (intro wS hSw; (try dsimp only at hSw); go_simp; (try with_reducible rfl))
            try simp only [Act.put, List.setIfInBounds_toArray, List.set_cons_zero, List.set_cons_succ]
            refine wpAnyH_done (by kernel_rfl) ?_ _
            go_wp2_with fail
            go_roundg (k - (j + 1))
            case measure => have := HJK.out; omega
            case rel => exact ⟨j + 1, HJK.out, rfl, by go_num, Lib.hid (HB5.out.trans (hb8.mono HB5.out.size))⟩
        · have HOE := Lib.hid (by
            have := HOF.out wr sn HBJ.out
            rw [HBE.out] at this
            exact this : Calls Tryd.prog 31 #[.slice A2 k c2, .int .u64 (sn : Int)] wr fun r w' => r = .returned (.int .i64 (-1)) ∧ Below wr.heap.size wr w')
          go_wp2_with (go_at_call 31; refine HOE.out.mono ?_; rintro r w9 ⟨rfl, hb⟩; have HB9 := Lib.hid (HB4.out.trans ((HBJ.out.trans (hb.mono HBJ.out.size)).mono HB4.out.size)); clear hb)
          go_ret
          exact ⟨rfl, HB9.out⟩

end Go.Proofs.YtelmfhpefnemfaaDoor
