/-
  The document's Put of symbols.
-/

import Derived.Test.YtkadjejjillmmaaSyT
import Derived.Test.YtkadjejjillmmaaSyR
import Derived.Test.YtkadjejjillmmaaPoR
import Derived.Test.YtkadjejjillmmaaParts
namespace Go.Proofs.Ytkadjejjillmmaa
open Go Go.RowKit

theorem ref_rows {w w' : World} {base b g : Nat} {t : Value} {T : List (List UInt8)} (h : RefAt w base g t T) (hb : Only b (CellsOf 5) w w') : RefAt w' base g t T :=
  h.kept hb (fun cs f hh => absurd (show 81 = 5 from hh) (by decide)) (fun cs f hh => absurd (show 9 = 5 from hh) (by decide))
/-- A row of bytes of the call's own, and the document's pool. -/
structure DocSt (w wr : World) (g : Nat) (u : Value) (T : List UInt8) (ls : List (List UInt8)) : Prop where
  st : RelSt w wr u T
  pool : ∃ t, RefAt wr w.heap.size g t ls
section
variable {w wr w' w2 w3 : World} {g : Nat} {u u' : Value} {T T' : List UInt8} {ls ls' : List (List UInt8)}
theorem DocSt.more (h : DocSt w wr g u T ls) (hb : Below wr.heap.size wr w2) (ho : Own w3 w.heap.size u' T') (hg : w2.grownBy w3 u.ownBlock) : DocSt w w3 g u' T' ls := by
  refine ⟨h.st.more hb ho hg, ?_⟩
  obtain ⟨t, ht⟩ := h.pool
  exact ⟨t, ref_rows (ht.below hb) (row_turns (own_below h.st.row hb) hg (Nat.le_trans h.st.below.size hb.size))⟩
theorem DocSt.added (h : DocSt w wr g u T ls) (hp : ∃ t, RefAt w' w.heap.size g t ls') (ho : Only w.heap.size RefObj wr w') : DocSt w w' g u T ls' :=
  ⟨⟨row_only h.st.row ho (fun cs f hh => by rcases hh with hh | hh <;> revert hh <;> decide), h.st.below.trans ho.1⟩, hp⟩
end
theorem sym_cells {w wr : World} {b o : Nat} {L : List Sym} (h : Syms w w.heap.size (some ⟨b, o, none⟩) L) (hb : Below w.heap.size w wr) {i : Nat} {x : Sym} (hx : L[i]? = some x) :
    wr.cell? ⟨b, o + i * 6, none⟩ = some (.string ⟨x.name.toArray⟩) ∧ wr.cell? ⟨b, o + i * 6 + 1, none⟩ = some (.int .i64 x.bind) ∧ wr.cell? ⟨b, o + i * 6 + 2, none⟩ = some (.int .i64 x.kind) ∧
    wr.cell? ⟨b, o + i * 6 + 3, none⟩ = some (.int .i64 x.sect) ∧ wr.cell? ⟨b, o + i * 6 + 4, none⟩ = some (.int .u64 (x.value : Int)) ∧ wr.cell? ⟨b, o + i * 6 + 5, none⟩ = some (.int .u64 (x.size : Int)) := by
  obtain ⟨b', o', e, _, k⟩ := sym_at (h.below hb) hx
  cases e
  exact k
theorem texK_one (L : List Sym) : texK L 0 = [[]] := by rw [texK_zero]; rfl
theorem texK_good (L : List Sym) (k : Nat) : GoodT (texK L k) := gat_good _
theorem ref_one (w : World) : RefAt ((w.alloc (.cells #[.string ⟨#[]⟩] 9)).alloc (.cells #[.slice (some ⟨w.heap.size, 0, none⟩) 1 1] 81)) w.heap.size (w.heap.size + 1) (.slice (some ⟨w.heap.size, 0, none⟩) 1 1) [[]] :=
  ⟨by have := Box.new (w.alloc (.cells #[.string ⟨#[]⟩] 9)) 81 #[.slice (some ⟨w.heap.size, 0, none⟩) 1 1]; simpa using this, by omega, (World.ownsRow_lit (e := 9) (size := 1) w #[.string ⟨#[]⟩] 1 (Nat.le_refl _) (by unfold maxLen; decide) rfl).alloc _⟩

theorem ryput_wrong {w : World} {a : Option Addr} {L : List Sym} (h : Syms w w.heap.size a L) (c : Nat) (hl : L.length ≤ 100000) (hn : ∀ x ∈ L, x.name.length ≤ 100000) (hr : rightY L = false) :
    Calls Try.prog 15 #[.slice a L.length c] w fun r w' => r = .returned (.tuple #[.slice none 0 0, .slice none 0 0, .int .i64 2]) ∧ Below w.heap.size w w' := by
  have HR := Lib.hid (ryright_any h c hl hn)
  rw [hr] at HR
  clear h hl hr hn
  generalize L.length = n at *
  go_enter Try.func15, Try.ntmps15
  go_wp2_with (go_at_call 17; refine HR.out.mono ?_; rintro r w1 ⟨rfl, hb1⟩)
  go_ret3
  exact ⟨rfl, hb1⟩

set_option maxRecDepth 10000 in
set_option maxHeartbeats 3200000 in
theorem ryput_right {w : World} {a : Option Addr} {L : List Sym} (h : Syms w w.heap.size a L) (c : Nat) (hn : ∀ x ∈ L, x.name.length ≤ 100000 ∧ x.value < two64 ∧ x.size < two64) (hr : rightY L = true) (hs : sumN L ≤ 50000) :
    Calls Try.prog 15 #[.slice a L.length c] w fun r w' => ∃ u v, r = .returned (.tuple #[u, v, .int .i64 0]) ∧ Own w' w.heap.size u (tabK L L.length) ∧ Own w' w.heap.size v (putsT (texK L L.length)) ∧ Below w.heap.size w w' := by
  obtain ⟨i0, hi, hz0, hz1, hz2⟩ := info_parts u8_info
  obtain ⟨hl4, hok⟩ := rightY_all hr
  have HR := Lib.hid (ryright_any h c (by omega) (fun x hx => (hn x hx).1))
  rw [hr] at HR
  have HH := Lib.hid h
  have HOK := Lib.hid hok
  have HSU := Lib.hid hs
  have HL4 := Lib.hid hl4
  have HNM := Lib.hid hn
  generalize hN : L.length = N at *
  have HN := Lib.hid hN
  clear h hl4 hok hr hs hN hn
  go_enter Try.func15, Try.ntmps15
  go_wp2_with (go_at_call 17; refine HR.out.mono ?_; rintro r w1 ⟨rfl, hb1⟩; have HB1 := Lib.hid hb1; clear hb1)
  have hA := ((Below.refl w1.heap.size w1).alloc (Nat.le_refl _) (.cells #[.string ⟨#[]⟩] 9)).alloc (by simp) (.cells #[.slice (some ⟨w1.heap.size, 0, none⟩) 1 1] 81)
  have HD := Lib.hid (show DocSt w ((w1.alloc (.cells #[.string ⟨#[]⟩] 9)).alloc (.cells #[.slice (some ⟨w1.heap.size, 0, none⟩) 1 1] 81)) (w1.heap.size + 1) (.slice none 0 0) (tabK L 0) (texK L 0) from
    ⟨⟨World.ownsRow_nil _ _ _ _, HB1.out.trans (hA.mono HB1.out.size)⟩, _, by
      have := ref_one w1
      rw [texK_one]
      exact ⟨this.1, Nat.le_trans HB1.out.size this.2.1, row_base this.2.2 HB1.out.size⟩⟩)
  clear hA HR
  generalize hg : w1.heap.size + 1 = g at *
  go_loopw [6, 7] (fun u i wr => ∃ k : Nat, k ≤ N ∧ i = .int .i64 k ∧ DocSt w wr g u (tabK L k) (texK L k)) (fun _ i _ => N - (intOf i).toNat)
  case atStart => exact ⟨0, Nat.zero_le _, rfl, HD.out⟩
  case round =>
    obtain ⟨k, hk, rfl, hT⟩ := hrel
    clear HD
    by_cases hlt : k < N
    · have HLT := Lib.hid hlt
      obtain ⟨x, hx⟩ : ∃ x, L[k]? = some x := ⟨L[k]'(by rw [HN.out]; exact hlt), List.getElem?_eq_getElem _⟩
      obtain ⟨b, o, rfl, hb, c0, c1, c2, c3, c4, c5⟩ := sym_at (HH.out.below hT.st.below) hx
      obtain ⟨hrt, ⟨hb0, hb1⟩, ⟨hk0, hk1⟩, hs0, hs1⟩ := okY_facts (HOK.out x (List.mem_of_getElem? hx))
      obtain ⟨hnl, hv4, hv5⟩ := HNM.out x (List.mem_of_getElem? hx)
      have hspan : spanT (texK L k) ≤ 60000 := by
        have h1 := texK_span L k (by rw [HN.out]; omega)
        have h2 := sumN_take L k
        have h3 := HSU.out
        have h4 := HL4.out
        omega
      have HC := Lib.hid (fun W (hW : Below w.heap.size w W) => sym_cells HH.out hW hx)
      have HADD := Lib.hid (addT_ok hrt hspan).1
      have HTX := Lib.hid (texK_next hx)
      have HTB := Lib.hid (tabK_next hx)
      have HTL := Lib.hid (tabK_length L k)
      obtain ⟨tv, htv⟩ := hT.pool
      have HA := Lib.hid (radd_at htv (texK_good L k) x.name (by omega))
      have HAT := addT_at (texK_good L k) x.name
      obtain ⟨bi, hbi⟩ : ∃ n : Nat, x.bind = (n : Int) := ⟨x.bind.toNat, by omega⟩
      obtain ⟨ki, hki⟩ : ∃ n : Nat, x.kind = (n : Int) := ⟨x.kind.toNat, by omega⟩
      obtain ⟨se, hse⟩ : ∃ n : Nat, x.sect = (n : Int) := ⟨x.sect.toNat, by omega⟩
      obtain ⟨bm, hbm⟩ : ∃ m, bi * 16 = m := ⟨_, rfl⟩
      obtain ⟨bo, hbo⟩ : ∃ m, bm + ki = m := ⟨_, rfl⟩
      have HIT := Lib.hid (show itsB (itsY (addT (texK L k) x.name).2.1 x) = leBytes (addT (texK L k) x.name).2.1 4 ++ ([UInt8.ofNat bo] ++ ([0] ++ (leBytes se 2 ++ (leBytes x.value 8 ++ leBytes x.size 8)))) by
        unfold itsY
        rw [hbi, hki, hse, show ((bi : Int) * 16 + (ki : Int)) = (bo : Int) by omega]
        have e1 : wrapN (bo : Int) = bo := by unfold wrapN; rw [IntKind.wrap_u64]; omega
        have e2 : wrapN (se : Int) = se := by unfold wrapN; rw [IntKind.wrap_u64]; omega
        rw [e1, e2]
        have e3 : leBytes bo 1 = [UInt8.ofNat bo] := by
          have : bo < 256 := by omega
          simp [leBytes, Nat.mod_eq_of_lt this]
        have e4 : leBytes 0 1 = [0] := rfl
        simp only [itsB, List.flatMap_cons, List.flatMap_nil, e3, e4, List.append_nil])
      rw [hbi] at c1 HC
      rw [hki] at c2 HC
      rw [hse] at c3 HC
      have hbi5 : bi ≤ 15 := by omega
      have hki5 : ki ≤ 15 := by omega
      have hse5 : se ≤ 65534 := by omega
      have e1 : (bi : Int) * 16 = (bm : Int) := by omega
      have e6 : (bm : Int) + (ki : Int) = (bo : Int) := by omega
      have hbm2 : bm ≤ 240 := by omega
      have hbo2 : bo ≤ 255 := by omega
      have e2 : IntKind.i64.wrap (bm : Int) = (bm : Int) := by rw [IntWalk.i64_in _ (by omega)]
      have e5 : IntKind.i64.wrap (bo : Int) = (bo : Int) := by rw [IntWalk.i64_in _ (by omega)]
      have e3 : IntKind.u8.wrap (bo : Int) = (bo : Int) := by rw [IntKind.wrap_u8]; omega
      have e4 : IntKind.u64.wrap (se : Int) = (se : Int) := by rw [IntWalk.u64_in _ (by omega)]
      have HT := Lib.hid hT
      clear hT hx hb hrt hb0 hb1 hk0 hk1 hs0 hs1 hspan hbi hki hse hbm hbo hnl htv
      rw [HADD.out] at HA
      generalize (addT (texK L k) x.name).2.1 = p at *
      generalize (addT (texK L k) x.name).1 = tx at *
      generalize itsY p x = its at *
      generalize x.value = x4 at *
      generalize x.size = x5 at *
      generalize ByteArray.mk x.name.toArray = sb at *
      have P0 := Lib.hid (fun W => rput_num W p 4 (by unfold two64; omega) (by decide))
      have P3 := Lib.hid (fun W => rput_num W se 2 (by unfold two64; omega) (by decide))
      have P4 := Lib.hid (fun W => rput_num W x4 8 hv4 (by decide))
      have P5 := Lib.hid (fun W => rput_num W x5 8 hv5 (by decide))
      clear hv4 hv5 HAT
      go_wp2_with (go_at_call 35; refine HA.out.mono ?_; rintro r w2 ⟨rfl, hp2, ho2⟩; have HS0 := Lib.hid (HT.out.added hp2 ho2); (obtain ⟨d0, d1, d2, d3, d4, d5⟩ := HC.out _ HS0.out.st.below); clear hp2 ho2 HA HT c0 c1 c2 c3 c4 c5)
      refine (P0.out _).mono ?_
      rintro r w3 ⟨A3, b3, rfl, hr3, hb3⟩
      have ho3 := own_below HS0.out.st.row hb3
      have hz3 : w.heap.size ≤ w3.heap.size := Nat.le_trans HS0.out.st.below.size hb3.size
      have hTl : (tabK L k).length ≤ 9600 := by have h1 := HTL.out; have h2 := HLT.out; have h3 := HL4.out; omega
      generalize hT : tabK L k = T at *
      have s0 : T.length + (leBytes p 4).length ≤ 140737488355328 := by rw [leBytes_length]; omega
      have s1 : (T ++ leBytes p 4).length + [UInt8.ofNat bo].length ≤ 140737488355328 := by simp only [List.length_append, leBytes_length, List.length_singleton]; omega
      have s2 : (T ++ leBytes p 4 ++ [UInt8.ofNat bo]).length + [(0 : UInt8)].length ≤ 140737488355328 := by simp only [List.length_append, leBytes_length, List.length_singleton]; omega
      have s3 : (T ++ leBytes p 4 ++ [UInt8.ofNat bo] ++ [0]).length + (leBytes se 2).length ≤ 140737488355328 := by simp only [List.length_append, leBytes_length, List.length_singleton]; omega
      have s4 : (T ++ leBytes p 4 ++ [UInt8.ofNat bo] ++ [0] ++ leBytes se 2).length + (leBytes x4 8).length ≤ 140737488355328 := by simp only [List.length_append, leBytes_length, List.length_singleton]; omega
      have s5 : (T ++ leBytes p 4 ++ [UInt8.ofNat bo] ++ [0] ++ leBytes se 2 ++ leBytes x4 8).length + (leBytes x5 8).length ≤ 140737488355328 := by simp only [List.length_append, leBytes_length, List.length_singleton]; omega
      have S0 := Lib.hid s0
      have S1 := Lib.hid s1
      have S2 := Lib.hid s2
      have S3 := Lib.hid s3
      have S4 := Lib.hid s4
      have S5 := Lib.hid s5
      have HBT := Lib.hid (show (bo : Int) = ((UInt8.ofNat bo).toNat : Int) by simp; omega)
      clear s0 s1 s2 s3 s4 s5 hTl hT
      go_wp2_with (at_builtin; refine wpList_append_bytes (by rfl) (.tmp 34) (.tmp 36) _ (by rfl) w.heap.size i0 Try.underlying22 hi hz0 hz1 hz2 u6 T (by rfl) ho3 w3.heap.size A3 4 b3 (leBytes p 4) (leBytes_length _ _) (by rfl) hr3 S0.out hz3 ?_; intro v4 w4 hown4 hg4 hat4; have HS1 := Lib.hid (HS0.out.more hb3 hown4 hg4); (obtain ⟨f0, f1, f2, f3, f4, f5⟩ := HC.out _ HS1.out.st.below); clear hown4 hg4 hat4 hr3 hb3 ho3 hz3 d0 d1 d2 d3 d4 d5 HS0)
      have HRO := Lib.hid (rd_one w4 (bo : Int) _ HBT.out)
      have HBA := Lib.hid (((Below.refl w4.heap.size w4).alloc (Nat.le_refl _) (.cells #[.int .u8 (bo : Int)] 5)).drew)
      have hz4 : w.heap.size ≤ (w4.alloc (.cells #[.int .u8 (bo : Int)] 5)).heap.size := by have := HS1.out.st.below.size; simp; omega
      obtain ⟨-, g1, g2, -⟩ := HC.out _ (HS1.out.st.below.trans (HBA.out.mono HS1.out.st.below.size))
      go_region_held_law (fun W => W.cell? ⟨b, o + k * 6 + 1, none⟩ = some (.int .i64 (bi : Int)) ∧ W.cell? ⟨b, o + k * 6 + 2, none⟩ = some (.int .i64 (ki : Int))) (first | exact ⟨f1, f2⟩ | exact ⟨g1, g2⟩ | (refine ⟨?_, ?_⟩ <;> assumption))
        (first
          | (refine step_append_bytes (by rfl) (.tmp 38) (.tmp 52) _ (by rfl) w.heap.size i0 Try.underlying22 hi hz0 hz1 hz2 v4 (T ++ leBytes p 4) (by rfl) (by exact (HS1.out.st.row.alloc _)) (w4.heap.size + 1) (some ⟨w4.heap.size, 0, none⟩) 1 1 [UInt8.ofNat bo] rfl (by rfl) (by exact HRO.out) S1.out (by exact hz4) ?_; intro v5 w5 hown5 hg5 hat5; have HS2 := Lib.hid (HS1.out.more HBA.out hown5 hg5); (obtain ⟨m0, m1, m2, m3, m4, m5⟩ := HC.out _ HS2.out.st.below)))
      clear hown5 hg5 hat5 hz4 HRO HBA g1 g2 f0 f1 f2 f3 f4 f5 HS1
      have HR0 := Lib.hid (rd_one w5 0 (0 : UInt8) rfl)
      have hz5 : w.heap.size ≤ (w5.alloc (.cells #[.int .u8 0] 5)).heap.size := by have := HS2.out.st.below.size; simp; omega
      have ho5 := HS2.out.st.row.alloc (.cells #[.int .u8 0] 5)
      have HBA := Lib.hid ((Below.refl w5.heap.size w5).alloc (Nat.le_refl _) (.cells #[.int .u8 0] 5))
      go_wp2_with (at_builtin; refine wpList_append_bytes (by rfl) (.tmp 54) (.tmp 55) _ (by rfl) w.heap.size i0 Try.underlying22 hi hz0 hz1 hz2 v5 (T ++ leBytes p 4 ++ [UInt8.ofNat bo]) (by rfl) ho5 (w5.heap.size + 1) (some ⟨w5.heap.size, 0, none⟩) 1 1 [0] rfl (by rfl) HR0.out S2.out hz5 ?_; intro v6 w6 hown6 hg6 hat6; have HS3 := Lib.hid (HS2.out.more HBA.out hown6 hg6); (obtain ⟨n0, n1, n2, n3, n4, n5⟩ := HC.out _ HS3.out.st.below); clear hown6 hg6 hat6 ho5 hz5 m0 m1 m2 m3 m4 m5 HS2)
      refine (P3.out _).mono ?_
      rintro r w7 ⟨A7, b7, rfl, hr7, hb7⟩
      have ho7 := own_below HS3.out.st.row hb7
      have hz7 : w.heap.size ≤ w7.heap.size := Nat.le_trans HS3.out.st.below.size hb7.size
      go_wp2_with (at_builtin; refine wpList_append_bytes (by rfl) (.tmp 57) (.tmp 64) _ (by rfl) w.heap.size i0 Try.underlying22 hi hz0 hz1 hz2 v6 (T ++ leBytes p 4 ++ [UInt8.ofNat bo] ++ [0]) (by rfl) ho7 w7.heap.size A7 2 b7 (leBytes se 2) (leBytes_length _ _) (by rfl) hr7 S3.out hz7 ?_; intro v8 w8 hown8 hg8 hat8; have HS4 := Lib.hid (HS3.out.more hb7 hown8 hg8); (obtain ⟨m0, m1, m2, m3, m4, m5⟩ := HC.out _ HS4.out.st.below); clear hown8 hg8 hat8 hr7 hb7 ho7 hz7 n0 n1 n2 n3 n4 n5 HS3)
      refine (P4.out _).mono ?_
      rintro r w9 ⟨A9, b9, rfl, hr9, hb9⟩
      have ho9 := own_below HS4.out.st.row hb9
      have hz9 : w.heap.size ≤ w9.heap.size := Nat.le_trans HS4.out.st.below.size hb9.size
      go_wp2_with (at_builtin; refine wpList_append_bytes (by rfl) (.tmp 66) (.tmp 72) _ (by rfl) w.heap.size i0 Try.underlying22 hi hz0 hz1 hz2 v8 (T ++ leBytes p 4 ++ [UInt8.ofNat bo] ++ [0] ++ leBytes se 2) (by rfl) ho9 w9.heap.size A9 8 b9 (leBytes x4 8) (leBytes_length _ _) (by rfl) hr9 S4.out hz9 ?_; intro v10 w10 hown10 hg10 hat10; have HS5 := Lib.hid (HS4.out.more hb9 hown10 hg10); (obtain ⟨n0, n1, n2, n3, n4, n5⟩ := HC.out _ HS5.out.st.below); clear hown10 hg10 hat10 hr9 hb9 ho9 hz9 m0 m1 m2 m3 m4 m5 HS4)
      refine (P5.out _).mono ?_
      rintro r w11 ⟨A11, b11, rfl, hr11, hb11⟩
      have ho11 := own_below HS5.out.st.row hb11
      have hz11 : w.heap.size ≤ w11.heap.size := Nat.le_trans HS5.out.st.below.size hb11.size
      go_wp2_with (at_builtin; refine wpList_append_bytes (by rfl) (.tmp 74) (.tmp 80) _ (by rfl) w.heap.size i0 Try.underlying22 hi hz0 hz1 hz2 v10 (T ++ leBytes p 4 ++ [UInt8.ofNat bo] ++ [0] ++ leBytes se 2 ++ leBytes x4 8) (by rfl) ho11 w11.heap.size A11 8 b11 (leBytes x5 8) (leBytes_length _ _) (by rfl) hr11 S5.out hz11 ?_; intro v12 w12 hown12 hg12 hat12; have HS6 := Lib.hid (HS5.out.more hb11 hown12 hg12); clear hown12 hg12 hat12 hr11 hb11 ho11 hz11 n0 n1 n2 n3 n4 n5 HS5)
      have HEND := Lib.hid (show DocSt w w12 g v12 (tabK L (k + 1)) (texK L (k + 1)) by
        rw [HTB.out, HTX.out, HIT.out]
        have := HS6.out
        simp only [List.append_assoc] at this
        exact this)
      first
        | exact ⟨⟨k + 1, HLT.out, rfl, HEND.out⟩, step_less HLT.out⟩
        | (have h3 := wrap_next (k := k) (Nat.le_trans (Nat.le_of_lt HLT.out) (Nat.le_trans HL4.out (by decide)))
           rw [h3]
           exact ⟨⟨k + 1, HLT.out, rfl, HEND.out⟩, step_less HLT.out⟩)
    · have hkN : k = N := by omega
      subst hkN
      have HT := Lib.hid hT
      obtain ⟨tv, htv⟩ := hT.pool
      have HY := Lib.hid (rbytes_at htv (Nat.le_trans (texK_good L k).2.1 (by decide)))
      clear hT htv
      go_wp2_with (go_at_call 37; refine HY.out.mono ?_; rintro r w9 ⟨v9, rfl, ho9, hb9⟩)
      go_ret3
      exact ⟨_, _, rfl, own_below HT.out.st.row hb9, own_up ho9 HT.out.st.below.size, HT.out.st.below.trans (hb9.mono HT.out.st.below.size)⟩

/-- The document's Put, of whatever symbols. -/
theorem ryput_any {w : World} {a : Option Addr} {L : List Sym} (h : Syms w w.heap.size a L) (c : Nat) (hl : L.length ≤ 100000) (hn : ∀ x ∈ L, x.name.length ≤ 100000 ∧ x.value < two64 ∧ x.size < two64) (hs : sumN L ≤ 50000) :
    Calls Try.prog 15 #[.slice a L.length c] w fun r w' => ∃ u v, r = .returned (.tuple #[u, v, .int .i64 (errOf (rightY L) 2)]) ∧ Own w' w.heap.size u (tabY L) ∧ Own w' w.heap.size v (txtY L) ∧ Below w.heap.size w w' := by
  unfold tabY txtY
  cases hr : rightY L with
  | true => exact ryput_right h c hn hr hs
  | false => exact (ryput_wrong h c hl (fun x hx => (hn x hx).1) hr).mono fun r w' ⟨e, hb⟩ => ⟨_, _, e, World.ownsRow_nil _ _ _ _, World.ownsRow_nil _ _ _ _, hb⟩

end Go.Proofs.Ytkadjejjillmmaa
