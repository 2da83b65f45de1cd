/-
  Package linkmap: Text.
-/
import Derived.Test.YtncnngkianhifaaDoorLnP
import Derived.Test.YtncnngkianhifaaDoorCsP
import Derived.Test.YtncnngkianhifaaDoorLmK
import Derived.Test.YtncnngkianhifaaDoorShelf
import Derived.Lib.LaidTab
import Derived.Lib.AppendIntMem
namespace Go.Proofs.YtncnngkianhifaaDoor
open Go Go.RowKit

/-- The tables of digits as they lie in the variables. -/
structure Tabs (w : World) : Prop where
  pow : Lib.TabIs Tryd.prog w "internal/strconv.uint64pow10" .u64 Lib.pow10Tab
  bit : w.cell? ⟨3, 15, none⟩ = some (.int .u8 4)
  powLt : 0 < w.heap.size
  bitLt : 3 < w.heap.size
theorem pow_named : Tryd.prog.globalNamed "internal/strconv.uint64pow10" = some 0 := by kernel_rfl
theorem Tabs.below {w w' : World} (h : Tabs w) (hb : Below w.heap.size w w') : Tabs w' := by
  obtain ⟨h1, h2, h3, h4⟩ := h
  refine ⟨?_, (hb.cell (p := ⟨3, 15, none⟩) h4).trans h2, Nat.lt_of_lt_of_le h3 hb.size, Nat.lt_of_lt_of_le h4 hb.size⟩
  unfold Lib.TabIs World.var? at *
  rw [pow_named] at *
  simp only [Option.bind_some] at *
  rw [hb.block _ h3]
  exact h1

theorem dec10 : ∀ u : Nat, Lib.decDigits u = digB 10 u := by
  intro u
  induction u using Nat.strongRecOn with
  | ind u ih =>
    unfold Lib.decDigits
    by_cases h : u < 10
    · rw [dif_pos h, digB_low h]
      unfold digC
      rw [if_pos h]
    · rw [dif_neg h, digB_next (by omega) (by decide), ih _ (by omega)]
      unfold digC
      rw [if_pos (by omega)]
theorem itoa_dec (z : Int) : Lib.itoa z = decB z := by
  unfold Lib.itoa decB
  split <;> rw [dec10]
theorem itoa_any {w : World} (h : Tabs w) (z : Int) (hz : InI z) : Calls Tryd.prog 38 #[.int .i64 z] w fun r w' => r = .returned (.string ⟨(decB z).toArray⟩) ∧ Below w.heap.size w w' :=
  (Tryd.strconv_Itoa z hz.1 hz.2 w h.pow).mono fun r w' ⟨h1, k, os, h2⟩ => ⟨by rw [h1, itoa_dec], h2 ▸ Lib.below_grow _ w (Nat.le_refl _) k os⟩

theorem laid_then {w w0 w1 : World} {base : Nat} {v v1 : Value} {l1 : List UInt8} (hb : Below w.heap.size w w0) (h1 : Own w1 base v1 l1) (hg : w0.grownBy w1 v.ownBlock) (ha : v1.ownBlock = v.ownBlock ∨ ∀ x, v1.ownBlock = some x → w0.heap.size ≤ x) : Laid w w1 base v v1 l1 :=
  ⟨h1, (only_below hb v.ownBlock).trans hg, ha.imp id (fun h x hx => Nat.le_trans hb.size (h x hx))⟩
/-- Words with a space between them. -/
def joinT (xs : List (List UInt8)) : List UInt8 := Lib.join xs [32]
theorem join_any {w : World} {bk o c : Nat} {xs : List (List UInt8)} (hc : ∀ (j : Nat) x, xs[j]? = some x → w.cell? ⟨bk, o + j, none⟩ = some (.string ⟨x.toArray⟩)) (hb : bk < w.heap.size) (hN : xs.length ≤ 1000) (hcap : xs.length ≤ c) (hl : (joinT xs).length ≤ 140737488355328) :
    Calls Tryd.prog 50 #[.slice (some ⟨bk, o, none⟩) xs.length c, .string ⟨#[32]⟩] w fun r w' => r = .returned (.string ⟨(joinT xs).toArray⟩) ∧ Below w.heap.size w w' := by
  have e : (xs.map fun x => ByteArray.mk x.toArray).map (·.data.toList) = xs := by rw [List.map_map]; simp [Function.comp_def]
  have h := Tryd.strings_Join bk o c (xs.map fun x => ByteArray.mk x.toArray) ⟨#[32]⟩ w (fun j x hx => by
    rw [List.getElem?_map] at hx
    obtain ⟨y, hy, rfl⟩ := Option.map_eq_some_iff.1 hx
    exact hc j y hy) hb (by simp; omega) (by simpa using hcap) (by rw [e]; exact hl)
  rw [e, List.length_map] at h
  exact h

set_option maxRecDepth 10000 in
set_option maxHeartbeats 800000 in
theorem putline_any {w : World} {base bk o c : Nat} {v : Value} {l : List UInt8} {xs : List (List UInt8)} (hown : Own w base v l) (hbase : base ≤ w.heap.size) (hc : ∀ (j : Nat) x, xs[j]? = some x → w.cell? ⟨bk, o + j, none⟩ = some (.string ⟨x.toArray⟩)) (hb : bk < w.heap.size) (hN : xs.length ≤ 1000) (hcap : xs.length ≤ c) (hl : l.length + (joinT xs).length ≤ 140737488355000) :
    Calls Tryd.prog 37 #[v, .slice (some ⟨bk, o, none⟩) xs.length c] w fun r w' => ∃ v', r = .returned v' ∧ Laid w w' base v v' (l ++ (joinT xs ++ [10])) := by
  obtain ⟨i0, hi, hz0, hz1, hz2⟩ := info_parts u8_info
  have HJ := Lib.hid (join_any hc hb hN hcap (by omega))
  have hsum : l.length + (joinT xs).length ≤ 140737488355328 := by omega
  have hsum2 : (l ++ joinT xs).length + [(10 : UInt8)].length ≤ 140737488355328 := by simp; omega
  have HO := Lib.hid hown
  have HR := Lib.hid (fun W => rd_one W 10 10 rfl)
  clear hown hc hb hN hcap hl
  generalize joinT xs = t at *
  generalize xs.length = n at *
  go_enter Tryd.func37, Tryd.ntmps37
  go_wp2_with (first
    | (go_at_call 50; refine HJ.out.mono ?_; rintro r w1 ⟨rfl, hb1⟩; have HB1 := Lib.hid hb1; have hs1 := hb1.size; clear hb1)
    | (at_builtin; refine wpList_append_str (by rfl) (.tmp 5) (.tmp 7) _ _ (by rfl) base i0 Tryd.underlying65 Tryd.underlying9 hi hz0 hz1 hz2 v l (by rfl) (own_below HO.out HB1.out) t (by rfl) hsum (by omega) ?_; intro v1 w2 hown1 hg1 hat1; have HL1 := Lib.hid (laid_then HB1.out hown1 hg1 hat1); clear hown1 hg1 hat1)
    | (at_builtin; refine wpList_append_bytes (by rfl) (.tmp 9) (.tmp 10) _ (by rfl) base i0 Tryd.underlying65 hi hz0 hz1 hz2 v1 (l ++ t) (by rfl) (HL1.out.1.alloc _) (w2.heap.size + 1) (some ⟨w2.heap.size, 0, none⟩) 1 1 [10] rfl (by rfl) (HR.out _) hsum2 (by have := HL1.out.2.1.size; simp; omega) ?_; intro v2 w3 hown2 hg2 hat2))
  go_ret
  exact ⟨_, rfl, by rw [← List.append_assoc]; exact HL1.out.trans (Laid.of_append ((Below.refl w2.heap.size w2).alloc (Nat.le_refl _) _) hown2 hg2 hat2)⟩

end Go.Proofs.YtncnngkianhifaaDoor

namespace Go.Proofs.YtncnngkianhifaaDoor
open Go Go.RowKit

theorem join_place (p : Place) : joinT [[112, 108, 97, 99, 101], decB p.obj, decB p.sect, digB 16 p.addr] = placeT p := by
  simp [joinT, Lib.join, placeT, List.intercalate, List.intersperse]
theorem join_named (y : Named) : joinT [[115, 121, 109], y.name, digB 16 y.addr] = namedT y := by
  simp [joinT, Lib.join, namedT, List.intercalate, List.intersperse]
theorem words_cells (W : World) (T : TypeId) (xs : List (List UInt8)) : ∀ (j : Nat) x, xs[j]? = some x → (W.alloc (.cells (xs.map fun x => (Value.string ⟨x.toArray⟩)).toArray T)).cell? ⟨W.heap.size, 0 + j, none⟩ = some (.string ⟨x.toArray⟩) := fun j x hx => by
  rw [(Box.new W T _).cell, Nat.zero_add]
  simp [hx]

theorem put_step {W0 Wr W : World} {base g n : Nat} {v : Value} {l l' : List UInt8} {T : TypeId} {cs A : Array Value} (xs : List (List UInt8)) (hown : Own Wr base v l) (hb : Below base W0 Wr) (hbase : base ≤ W0.heap.size) (hW : Below Wr.heap.size Wr W) (hg : Wr.heap.size ≤ g) (hx : Box W g T cs) (hA : (xs.map fun x => (Value.string ⟨x.toArray⟩)).toArray = A) (hn : xs.length = n) (hn1 : n ≤ 1000) (hl : l ++ (joinT xs ++ [10]) = l') (hl1 : l'.length ≤ 1000000000) :
    Calls Tryd.prog 37 #[v, .slice (some ⟨W.heap.size, 0, none⟩) n n] (W.alloc (.cells A 9)) fun r w6 => ∃ v6, r = .returned v6 ∧ Hid (Own w6 base v6 l') ∧ Hid (Below base W0 w6) ∧ Hid (Box w6 g T cs) := by
  subst hA hn hl
  have ha := (Below.refl W.heap.size W).alloc (Nat.le_refl _) (.cells (xs.map fun x => (Value.string ⟨x.toArray⟩)).toArray 9)
  have hs := hb.size
  have hs2 := hW.size
  have hbz : Below base W0 W := hb.trans (hW.mono (by omega))
  have hown2 := own_below (own_below hown hW) ha
  have h3 := putline_any (bk := W.heap.size) (o := 0) (c := xs.length) (xs := xs) hown2 (by simp; omega) (words_cells W 9 _) (by simp) hn1 (Nat.le_refl _) (by simp at hl1; omega)
  refine h3.mono ?_
  rintro r w6 ⟨v6, rfl, hL6⟩
  exact ⟨v6, rfl, Lib.hid hL6.1, Lib.hid (below_laid (hbz.alloc (by omega) _) hown2 hL6 hbase), Lib.hid ((hx.below ha hx.lt).grown hL6.2.1 (fun e => by have := (own_ge hown _ e.symm).2; omega))⟩

set_option maxRecDepth 10000 in
set_option maxHeartbeats 1600000 in
theorem text_any {w : World} {B : Nat} {aP aY : Option Addr} {P : List Place} {Y : List Named} (cP cY : Nat) (hT : Tabs w) (hP : Row 3 Place.cells w B aP P) (hY : Row 2 Named.cells w B aY Y) (hB : B ≤ w.heap.size) (hp : ∀ p ∈ P, p.Nums) (hy : ∀ s ∈ Y, s.Nums) (h1 : P.length ≤ 100000) (h2 : Y.length ≤ 100000) (hl : (textM P Y).length ≤ 1000000000) :
    Calls Tryd.prog 25 #[.agg #[.slice aP P.length cP, .slice aY Y.length cY]] w fun r w' => ∃ v, r = .returned v ∧ Own w' w.heap.size v (textM P Y) ∧ Below w.heap.size w w' := by
  obtain ⟨N, hN⟩ : ∃ N, P.length = N := ⟨_, rfl⟩
  obtain ⟨M, hM⟩ : ∃ M, Y.length = M := ⟨_, rfl⟩
  have HN := Lib.hid hN
  have HM := Lib.hid hM
  have HL := Lib.hid hl
  generalize hw0 : w.alloc (.cells #[.slice aP P.length cP, .slice aY Y.length cY] 25) = w0 at *
  have hX := Box.new w 25 #[.slice aP P.length cP, .slice aY Y.length cY]
  have hb0 : Below w.heap.size w w0 := hw0 ▸ (Below.refl _ _).alloc (Nat.le_refl _) _
  have hs0 : w.heap.size < w0.heap.size := by rw [← hw0]; simp
  rw [hw0] at hX
  have x0 := hX.cell 0
  simp only [List.getElem?_toArray, List.getElem?_cons_zero] at x0
  rw [hN] at x0
  have HX := Lib.hid (fun W (hW : Below w0.heap.size w0 W) => hX.below hW hs0)
  have HB0 := Lib.hid hb0
  have HPR := Lib.hid (fun W (hW : Below w.heap.size w W) => (⟨(hP.below (hW.mono hB)), (hY.below (hW.mono hB)), hT.below hW⟩ : Row 3 Place.cells W B aP P ∧ Row 2 Named.cells W B aY Y ∧ Tabs W))
  have HPN := Lib.hid (And.intro hp hy)
  rw [hN] at h1
  rw [hM] at h2
  clear hT hP hY hB hp hy hl hX hb0 hN hM
  go_enter Tryd.func25, Tryd.ntmps25
  go_upto_region 1 with fail
  try rw [hw0]
  clear hw0
  go_wp2_with fail
  clear x0
  go_loopg [3, 11] N (fun gk v i wr => ∃ k : Nat, k ≤ N ∧ gk = N - k ∧ i = .int .i64 k ∧ Hid (Own wr w0.heap.size v (textP P k)) ∧ Hid (Below w0.heap.size w0 wr))
  case atStart => exact ⟨0, Nat.zero_le _, rfl, rfl, Lib.hid (World.ownsRow_nil _ _ _ _), Lib.hid (Below.refl _ _)⟩
  case round =>
    obtain ⟨k, hk, rfl, rfl, HO, HB⟩ := hrel
    have hbw : Below w.heap.size w wr := HB0.out.trans (HB.out.mono HB0.out.size)
    by_cases hlt : k < N
    · obtain ⟨p, hpk⟩ : ∃ p, P[k]? = some p := ⟨_, List.getElem?_eq_getElem (by rw [HN.out]; exact hlt)⟩
      obtain ⟨b, o, rfl, hb, c0, c1, c2⟩ := place_at (HPR.out _ hbw).1 hpk
      obtain ⟨hn1, hn2, hn3⟩ := HPN.out.1 p (List.mem_of_getElem? hpk)
      have HNX := Lib.hid (textP_next hpk)
      have HLT := Lib.hid hlt
      have hle := Nat.le_trans (textP_le P Y (k + 1)) HL.out
      rw [HNX.out, List.length_append, List.length_append] at hle
      generalize hw2 : wr.alloc (.cells #[.int .i64 p.obj, .int .i64 p.sect, .int .u64 (p.addr : Int)] 43) = w2 at *
      have hb2 : Below wr.heap.size wr w2 := hw2 ▸ (Below.refl _ _).alloc (Nat.le_refl _) _
      have hx2 := Box.new wr 43 #[.int .i64 p.obj, .int .i64 p.sect, .int .u64 (p.addr : Int)]
      rw [hw2] at hx2
      have hs2 : wr.heap.size < w2.heap.size := by rw [← hw2]; simp
      have HB2 := Lib.hid (hbw.trans (hb2.mono hbw.size))
      have HBZ := Lib.hid (HB.out.trans (hb2.mono HB.out.size))
      have KS := Lib.hid (fun W (hW : Below w2.heap.size w2 W) => (by
        have h3 := hx2.below hW hs2
        exact ⟨by rw [h3.cell]; rfl, by rw [h3.cell]; rfl, by rw [h3.cell]; rfl⟩ : W.cell? ⟨wr.heap.size, 0, none⟩ = some (.int .i64 p.obj) ∧ W.cell? ⟨wr.heap.size, 1, none⟩ = some (.int .i64 p.sect) ∧ W.cell? ⟨wr.heap.size, 2, none⟩ = some (.int .u64 (p.addr : Int))))
      have KT := Lib.hid (fun W (hW : Below w2.heap.size w2 W) => (HPR.out _ (HB2.out.trans (hW.mono HB2.out.size))).2.2)
      have HI1 := Lib.hid (fun W hW => itoa_any (KT.out W hW) p.obj hn1)
      have HI2 := Lib.hid (fun W hW => itoa_any (KT.out W hW) p.sect hn2)
      have HF := Lib.hid (fun W hW => fmt16_any (w := W) p.addr hn3 (KT.out W hW).bit (KT.out W hW).bitLt)
      have HPL := Lib.hid (fun W (hW : Below w2.heap.size w2 W) => put_step (base := w0.heap.size) (l' := textP P (k + 1)) [[112, 108, 97, 99, 101], decB p.obj, decB p.sect, digB 16 p.addr] HO.out HB.out (Nat.le_refl _) (hb2.trans (hW.mono (Nat.le_of_lt hs2))) (Nat.le_refl _) (hx2.below hW hs2) (A := #[.string ⟨#[112, 108, 97, 99, 101]⟩, .string ⟨(decB p.obj).toArray⟩, .string ⟨(decB p.sect).toArray⟩, .string ⟨(digB 16 p.addr).toArray⟩]) (by simp) rfl (by simp) (by rw [join_place]; exact HNX.out.symm) (by rw [HNX.out, List.length_append, List.length_append]; exact hle))
      have HX6 := Lib.hid (fun W (h : Box W wr.heap.size 43 #[.int .i64 p.obj, .int .i64 p.sect, .int .u64 (p.addr : Int)]) => (⟨by rw [h.cell]; rfl, by rw [h.cell]; rfl, by rw [h.cell]; rfl⟩ : W.cell? ⟨wr.heap.size, 0, none⟩ = some (.int .i64 p.obj) ∧ W.cell? ⟨wr.heap.size, 1, none⟩ = some (.int .i64 p.sect) ∧ W.cell? ⟨wr.heap.size, 2, none⟩ = some (.int .u64 (p.addr : Int))))
      obtain ⟨q0, q1, q2⟩ := KS.out _ (Below.refl _ _)
      have hA2 := (Below.refl w2.heap.size w2)
      have HW2 := Lib.hid hw2
      clear hw2 hb2 hx2 hbw hpk hlt hn1 hn2 hn3 hle
      go_upto_region 5 with fail
      try rw [HW2.out]
      go_region_held_law (fun W => W.cell? ⟨wr.heap.size, 0, none⟩ = some (.int .i64 p.obj) ∧ W.cell? ⟨wr.heap.size, 1, none⟩ = some (.int .i64 p.sect) ∧ W.cell? ⟨wr.heap.size, 2, none⟩ = some (.int .u64 (p.addr : Int)))
        (first | exact hS6 | (refine KS.out _ ?_; first | assumption | exact hA2.drew | exact hA5 _ | exact (hA5 _).drew))
        (first
          | (go_at_call 38; refine (HI1.out _ (by exact hA2.drew)).mono ?_; clear HI1; rintro r w3 ⟨rfl, hb3⟩; have hA3 := hA2.drew.trans (hb3.mono (Nat.le_refl _)); clear hb3)
          | (go_at_call 38; refine (HI2.out _ (by exact hA3)).mono ?_; rintro r w4 ⟨rfl, hb4⟩; have hA4 := hA3.trans (hb4.mono hA3.size); clear hb4)
          | (go_at_call 39; refine (HF.out _ (by exact hA4)).mono ?_; rintro r w5 ⟨rfl, hb5⟩; have hA5 := fun o => (hA4.trans (hb5.mono hA4.size)).alloc (hA4.trans (hb5.mono hA4.size)).size o; have hA6 := hA4.trans (hb5.mono hA4.size); clear hb5)
          | (go_at_call 37; refine (HPL.out _ hA6).mono ?_; rintro r w6 ⟨v6, rfl, HO6, HB6, HS6⟩; have hS6 := HX6.out _ HS6.out))
      go_wp2_with fail
      go_roundg (N - (k + 1))
      case measure => have := HLT.out; omega
      case rel => exact ⟨k + 1, HLT.out, rfl, by go_num, HO6, HB6⟩
    · have hkN : k = N := by omega
      subst hkN
      have HT0 := Lib.hid (show textY P Y 0 = textP P k by rw [textY_zero, HN.out])
      rw [← HT0.out] at HO
      clear HT0 hlt
      have HYR := Lib.hid (fun W hW => (HPR.out W hW).2)
      have x1 := (HX.out _ HB.out).cell 1
      simp only [List.getElem?_toArray, List.getElem?_cons_succ, List.getElem?_cons_zero] at x1
      rw [HM.out] at x1
      have HO := Lib.hid HO.out
      clear HPR
      go_wp2_with fail
      clear x1
      go_loopg [3, 31] M (fun gk v i wr => ∃ q : Nat, q ≤ M ∧ gk = M - q ∧ i = .int .i64 q ∧ Hid (Own wr w0.heap.size v (textY P Y q)) ∧ Hid (Below w0.heap.size w0 wr))
      case atStart => exact ⟨0, Nat.zero_le _, rfl, rfl, HO, HB⟩
      case round =>
        clear HO HB
        obtain ⟨q, hq, rfl, rfl, HO, HB⟩ := hrel
        have hbw : Below w.heap.size w wr := HB0.out.trans (HB.out.mono HB0.out.size)
        by_cases hlt : q < M
        · obtain ⟨p, hpk⟩ : ∃ p, Y[q]? = some p := ⟨_, List.getElem?_eq_getElem (by rw [HM.out]; exact hlt)⟩
          obtain ⟨b, o, rfl, hb, c0, c1⟩ := named_at (HYR.out _ hbw).1 hpk
          have hn3 : p.addr < two64 := HPN.out.2 p (List.mem_of_getElem? hpk)
          have HNX := Lib.hid (textY_next (P := P) hpk)
          have HLT := Lib.hid hlt
          have hle := Nat.le_trans (textY_le P Y (q + 1)) HL.out
          generalize hw2 : wr.alloc (.cells #[.string ⟨p.name.toArray⟩, .int .u64 (p.addr : Int)] 72) = w2 at *
          have hb2 : Below wr.heap.size wr w2 := hw2 ▸ (Below.refl _ _).alloc (Nat.le_refl _) _
          have hx2 := Box.new wr 72 #[.string ⟨p.name.toArray⟩, .int .u64 (p.addr : Int)]
          rw [hw2] at hx2
          have hs2 : wr.heap.size < w2.heap.size := by rw [← hw2]; simp
          have HB2 := Lib.hid (hbw.trans (hb2.mono hbw.size))
          have HBZ := Lib.hid (HB.out.trans (hb2.mono HB.out.size))
          have HX6 := Lib.hid (fun W (h : Box W wr.heap.size 72 #[.string ⟨p.name.toArray⟩, .int .u64 (p.addr : Int)]) => (⟨by rw [h.cell]; rfl, by rw [h.cell]; rfl⟩ : W.cell? ⟨wr.heap.size, 0, none⟩ = some (.string ⟨p.name.toArray⟩) ∧ W.cell? ⟨wr.heap.size, 1, none⟩ = some (.int .u64 (p.addr : Int))))
          have KS := Lib.hid (fun W (hW : Below w2.heap.size w2 W) => HX6.out W (hx2.below hW hs2))
          have KT := Lib.hid (fun W (hW : Below w2.heap.size w2 W) => (HYR.out _ (HB2.out.trans (hW.mono HB2.out.size))).2)
          have HF := Lib.hid (fun W hW => fmt16_any (w := W) p.addr hn3 (KT.out W hW).bit (KT.out W hW).bitLt)
          have HPL := Lib.hid (fun W (hW : Below w2.heap.size w2 W) => put_step (base := w0.heap.size) (l' := textY P Y (q + 1)) [[115, 121, 109], p.name, digB 16 p.addr] HO.out HB.out (Nat.le_refl _) (hb2.trans (hW.mono (Nat.le_of_lt hs2))) (Nat.le_refl _) (hx2.below hW hs2) (A := #[.string ⟨#[115, 121, 109]⟩, .string ⟨p.name.toArray⟩, .string ⟨(digB 16 p.addr).toArray⟩]) (by simp) rfl (by simp) (by rw [join_named]; exact HNX.out.symm) hle)
          obtain ⟨q0, q1⟩ := KS.out _ (Below.refl _ _)
          have hA2 := (Below.refl w2.heap.size w2)
          have HW2 := Lib.hid hw2
          clear hw2 hb2 hx2 hbw hpk hlt hn3 hle
          go_upto_region 10 with fail
          try rw [HW2.out]
          go_region_held_law (fun W => W.cell? ⟨wr.heap.size, 0, none⟩ = some (.string ⟨p.name.toArray⟩) ∧ W.cell? ⟨wr.heap.size, 1, none⟩ = some (.int .u64 (p.addr : Int)))
            (first | exact hS6 | (refine KS.out _ ?_; first | assumption | exact hA2.drew | exact hA5 _ | exact (hA5 _).drew))
            (first
              | (go_at_call 39; refine (HF.out _ (by exact hA2.drew)).mono ?_; rintro r w5 ⟨rfl, hb5⟩; have hA6 := hA2.drew.trans (hb5.mono (Nat.le_refl _)); have hA5 := fun o => hA6.alloc hA6.size o; clear hb5)
              | (go_at_call 37; refine (HPL.out _ hA6).mono ?_; rintro r w6 ⟨v6, rfl, HO6, HB6, HS6⟩; have hS6 := HX6.out _ HS6.out))
          go_wp2_with fail
          go_roundg (M - (q + 1))
          case measure => have := HLT.out; omega
          case rel => exact ⟨q + 1, HLT.out, rfl, by go_num, HO6, HB6⟩
        · have hqM : q = M := by omega
          subst hqM
          have HT := Lib.hid (show textY P Y q = textM P Y by rw [← textY_all, HM.out])
          rw [HT.out] at HO
          have HO := Lib.hid HO.out
          go_wp2_with fail
          go_ret
          exact ⟨_, rfl, row_base HO.out HB0.out.size, HB0.out.trans (HB.out.mono HB0.out.size)⟩

end Go.Proofs.YtncnngkianhifaaDoor
