/-
  The walk of CstrTables: the text at any place of any table, all its texts, whether any text may be and what it is put as, is as the document has it.
-/
import Derived.Test.YtjhbbclmhnkfhaaCsV
import Derived.Test.YtjhbbclmhnkfhaaLawC
namespace Go.Proofs.Ytjhbbclmhnkfhaa
open Go Go.RowKit

theorem allT_length (r : List UInt8) : (allT r).1.length ≤ r.length := by
  induction hn : r.length using Nat.strongRecOn generalizing r with
  | _ n ih =>
    by_cases h0 : r = []
    · subst h0; rw [allT_nil]; simp
    · by_cases h : (readT r).2.2 = 0
      · rw [allT_ok h0 h]
        have hm := (readT_move r h).1
        have hp : 0 < r.length := List.length_pos_iff.2 h0
        have hle := readT_le r
        have := ih (r.drop (readT r).2.1).length (by simp only [List.length_drop]; omega) _ rfl
        simp only [List.length_drop, List.length_cons] at this ⊢
        omega
      · rw [allT_bad h0 h]; simp

theorem resT_length (r : List UInt8) : (resT r).length ≤ r.length := by
  unfold resT
  split
  · exact allT_length r
  · simp

set_option maxRecDepth 20000 in
set_option maxHeartbeats 8000000 in
theorem ctables_walk (a0 : Option Addr) (len0 cap0 : Nat) (z0 : List Int) (a1 : Int) (a2 : ByteArray) (w : World) (w0 : IsRow .u8 w a0 len0 cap0 z0) (w1 : (Lit.int .u64 a1).wf = true) (_w2 : a2.size ≤ maxLen) :
    Calls Try.prog 10 #[.slice a0 len0 cap0, .int .u64 a1, .string a2] w fun e w' => e = .returned (.bool true) ∧ Below w.heap.size w w' := by
  obtain ⟨l, hlen, hrd, hlc, hcm⟩ := row_bytes w0
  obtain ⟨x, rfl, hx⟩ := nat_of_u64 w1
  obtain ⟨s, rfl⟩ : ∃ s : List UInt8, a2 = ⟨s.toArray⟩ := ⟨a2.data.toList, by simp⟩
  have hsz : (ByteArray.mk s.toArray).size = s.length := rfl
  clear w0 w1 _w2
  obtain ⟨i0, hi, hz0, hz1, hz2⟩ := info_parts u8_info
  have hW0 := works3_any w
  by_cases hbig : 3000 < len0
  · have hd : decide ((3000 : Int) < (len0 : Int)) = true := by simp; omega
    generalize ByteArray.mk s.toArray = b at *
    go_enter Try.func10, Try.ntmps10
    go_wp2_with (go_at_call 35; refine hW0.mono ?_; rintro r w1 ⟨rfl, hb1⟩)
    go_ret
    exact ⟨rfl, hb1⟩
  · have hd : decide ((3000 : Int) < (len0 : Int)) = false := by simp; omega
    by_cases hbig2 : 3000 < s.length
    · have hd2 : decide ((3000 : Int) < (s.length : Int)) = true := by simp; omega
      generalize ByteArray.mk s.toArray = b at *
      generalize s.length = n at *
      subst hsz
      go_enter Try.func10, Try.ntmps10
      go_wp2_with (go_at_call 35; refine hW0.mono ?_; rintro r w1 ⟨rfl, hb1⟩)
      go_ret
      exact ⟨rfl, hb1⟩
    · have hd2 : decide ((3000 : Int) < (s.length : Int)) = false := by simp; omega
      obtain ⟨sA, hsA⟩ : ∃ t : ByteArray, t = ⟨l.toArray⟩ := ⟨_, rfl⟩
      obtain ⟨sM, hsM⟩ : ∃ t : ByteArray, t = ⟨(putT s).toArray⟩ := ⟨_, rfl⟩
      obtain ⟨sP, hsP⟩ : ∃ t : ByteArray, t = ⟨([] ++ l ++ putT s).toArray⟩ := ⟨_, rfl⟩
      have hno : ¬ (9223372036854775807 < sA.size + sM.size) := by
        have h1 := putT_length s
        have h2 := tlen_le s
        subst hsA hsM
        simp [ByteArray.size, h1]; omega
      have heq : (sP.toList == (sA ++ sM).toList) = true := by
        subst hsA hsM hsP
        simp [ByteArray.mk_append_mk]
      have hAt := (by have := at_any hrd (Nat.le_refl _) cap0 (by omega) (by omega) x hx; rwa [hlen] at this : Calls Try.prog 39 #[.slice a0 len0 cap0, .int .u64 (x : Int)] w fun r w' => r = .returned (.tuple #[.string ⟨(atT l x).1.toArray⟩, .int .i64 (atT l x).2]) ∧ Below w.heap.size w w')
      have hRat := Lib.hid (fun (W : World) (hW : Below w.heap.size w W) => (by have := rat_any (w := W) ((hrd.below hW).more hW.size) cap0 (by omega) hcm (by omega) x hx; rwa [hlen] at this : Calls Try.prog 40 #[.slice a0 len0 cap0, .int .u64 (x : Int)] W fun r w' => r = .returned (.tuple #[.string ⟨(atT l x).1.toArray⟩, .int .i64 (atT l x).2]) ∧ Below W.heap.size W w'))
      have hAll := Lib.hid (fun (W : World) (hW : Below w.heap.size w W) => (by have := all_any (w := W) (hrd.below hW) hW.size cap0 (by omega); rwa [hlen] at this : Calls Try.prog 41 #[.slice a0 len0 cap0] W fun r w' => ∃ u, r = .returned (.tuple #[u, .int .i64 (allT l).2]) ∧ OwnS w' W.heap.size u (resT l) ∧ Below W.heap.size W w'))
      have hRall := Lib.hid (fun (W : World) (hW : Below w.heap.size w W) => (by have := rall_any (w := W) ((hrd.below hW).more hW.size) cap0 (by omega) hcm (by omega); rwa [hlen] at this : Calls Try.prog 42 #[.slice a0 len0 cap0] W fun r w' => ∃ u, r = .returned (.tuple #[u, .int .i64 (allT l).2]) ∧ OwnS w' W.heap.size u (resT l) ∧ Below W.heap.size W w'))
      have hres : (resT l).length ≤ 2000000 := by have := resT_length l; omega
      have hSame := Lib.hid (fun (W : World) (b1 b2 : Nat) (u v : Value) (h1 : OwnS W b1 u (resT l)) (h2 : OwnS W b2 v (resT l)) => same_any h1 h2 hres)
      have hRi := Lib.hid (fun W => right_any s W (by omega))
      have hRri := Lib.hid (fun W => rright_any s W (by omega))
      have KS := Lib.hid (fun (W : World) (hW : Below w.heap.size w W) => (⟨hW, by rw [← hlen, hsA]; exact conv_rd (hrd.below hW) cap0⟩ : Below w.heap.size w W ∧ (convert 22 9 (.slice a0 len0 cap0)).run Try.prog W = .ok (.string sA) W))
      have EM := Lib.hid hsM
      have EP := Lib.hid hsP
      have HR := Lib.hid (fun (W : World) (hW : Below w.heap.size w W) => hrd.below hW)
      have hsum : ([] : List UInt8).length + l.length ≤ 140737488355328 := by simp; omega
      have HL := Lib.hid hlen
      have hl5 : ([] ++ l).length + s.length ≤ 140737488355000 := by simp; omega
      have hP := Lib.hid (fun (W : World) (B : Nat) (v : Value) (hv : Own W B v ([] ++ l)) (hW : B ≤ W.heap.size) => putt_any (w := W) hv hW s hl5)
      have hQ := Lib.hid (fun (W : World) => rputt_any s W (by omega))
      have hW := Lib.hid works3_any
      clear hlen hrd hx hsA hsM hsP hres hW0 hcm hlc hbig hbig2
      generalize (atT l x).1.toArray = ta at *
      generalize (atT l x).2 = te at *
      generalize ByteArray.mk ta = tb at *
      generalize (allT l).2 = ae at *
      generalize resT l = rs at *
      generalize rightT s = ri at *
      generalize ByteArray.mk s.toArray = b at *
      generalize s.length = n at *
      subst hsz
      go_enter Try.func10, Try.ntmps10
      go_wp2_with (first
        | (go_at_call 39; refine hAt.mono ?_; rintro r w1 ⟨rfl, hb1⟩)
        | (go_at_call 40; refine (hRat.out _ hb1).mono ?_; rintro r w2 ⟨rfl, hb2'⟩; have hb2 := hb1.trans (hb2'.mono hb1.size); clear hb2')
        | (go_at_call 41; refine (hAll.out _ hb2).mono ?_; rintro r w3 ⟨u3, rfl, hO3, hb3'⟩; have hb3 := hb2.trans (hb3'.mono hb2.size); clear hb3')
        | (go_at_call 42; refine (hRall.out _ hb3).mono ?_; rintro r w4 ⟨u4, rfl, hO4, hb4'⟩; have hb4 := hb3.trans (hb4'.mono hb3.size); have hS4 := hSame.out _ _ _ _ _ (owns_below hO3 hb4') hO4; clear hb4' hO3 hO4)
        | (go_at_call 43; refine hS4.mono ?_; rintro r w5 ⟨rfl, q, rfl⟩))
      have hb5 := below_drewN hb4 q
      generalize w4.drewN q = w5 at *
      clear hb1 hb2 hb3 hb4 hS4
      go_region_held_law (fun W => Below w.heap.size w W ∧ (convert 22 9 (.slice a0 len0 cap0)).run Try.prog W = .ok (.string sA) W) ((refine KS.out _ ?_; repeat' (first | (with_reducible assumption) | (with_reducible refine below_drewN ?_ _) | (with_reducible refine Below.drew ?_) | (with_reducible refine Below.alloc ?_ ?_ _) | (exact hb5.size) | go_size))) (first
        | (go_at_call 44; refine (hRi.out _).mono ?_; rintro r w6 ⟨rfl, rfl⟩)
        | (go_at_call 45; refine (hRri.out _).mono ?_; rintro r w6 ⟨rfl, rfl⟩)
        | (refine step_append_bytes (by rfl) (.tmp 71) (.tmp 72) _ (by rfl) w5.heap.size i0 Try.underlying22 hi hz0 hz1 hz2 (.slice (some ⟨w5.heap.size, 0, none⟩) 0 0) [] (by rfl) (by exact own_new w5) w.heap.size a0 len0 cap0 l HL.out (by rfl) (HR.out _ (by (repeat' (first | (with_reducible assumption) | (with_reducible refine below_drewN ?_ _) | (with_reducible refine Below.drew ?_) | (with_reducible refine Below.alloc ?_ ?_ _) | (exact hb5.size) | go_size)))) hsum (by simp) ?_; intro v7 w7 hown7 hg7 hat7; have hb7 := below_new hg7; have hbb7 := hb5.trans (hb7.mono hb5.size); clear hg7 hat7)
        | (go_at_call 46; refine (hP.out _ _ _ hown7 hb7.size).mono ?_; rintro r w8 ⟨v8, rfl, hL8⟩; have hb8 := below_laid hb7 hown7 hL8; have hbb8 := hb5.trans (hb8.mono hb5.size); have hc8 := conv_as EP.out (conv_own hL8.1))
        | (go_at_call 47; refine (hQ.out _).mono ?_; rintro r w9 ⟨v9, rfl, hown9, hb9⟩; have hbb9 := hbb8.trans (hb9.mono hbb8.size); have hc9 := conv_as EM.out (conv_own hown9); have hc10 := conv_as EP.out (conv_own (own_below hL8.1 hb9)))
        | (go_at_call 35; refine (hW.out _).mono ?_; rintro r w11 ⟨rfl, hb11⟩; have hbb11 := hbb9.trans (hb11.mono hbb9.size)))
      all_goals go_wp2
      all_goals go_ret
      all_goals exact ⟨rfl, hbb11⟩

end Go.Proofs.Ytjhbbclmhnkfhaa
