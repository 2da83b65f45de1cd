/-
  The document's Right of sections: in, noughts, Right (written by wip/tools/gen_spa.py).
-/
import Derived.Test.YtldmjnbmjfnfeaaGreatDoorObB
import Derived.Test.YtldmjnbmjfnfeaaGreatDoorSeR
namespace Go.Proofs.YtldmjnbmjfnfeaaGreatDoor
open Go Go.RowKit

def sameAll (l m : List Sect) : Bool := decide (l.length = m.length) && (l.zip m).all fun p => sameS p.1 p.2
theorem zip_take {l m : List Sect} {k : Nat} {x y : Sect} (hx : l[k]? = some x) (hy : m[k]? = some y) : (l.zip m)[k]? = some (x, y) := by rw [List.getElem?_zip_eq_some]; exact ⟨hx, hy⟩
theorem below_two {w wr : World} {B : Nat} (h : Below B w wr) (hB : B ≤ wr.heap.size) (o1 o2 : Obj) : Below B w ((wr.alloc o1).alloc o2) := (h.alloc hB o1).alloc (by simp; omega) o2
theorem bne_of {α : Type} [BEq α] {a b : α} {c : Bool} (h : (a == b) = c) : (a != b) = !c := by rw [← h]; rfl
theorem int_beq (a b : Int) : (a == b) = decide (a = b) := by rw [Bool.eq_iff_iff, beq_iff_eq, decide_eq_true_eq]
theorem nat_beq (a b : Nat) : ((a : Int) == (b : Int)) = decide (a = b) := by rw [int_beq]; exact decide_eq_decide.2 (by omega)

set_option maxRecDepth 10000 in
set_option maxHeartbeats 6400000 in
theorem rsame_any {w : World} {B : Nat} {a a' : Option Addr} {L M : List Lay} (h : Secs w B a L) (h' : Secs w B a' M) (hB : B ≤ w.heap.size) (c c' : Nat) (hl : L.length ≤ 100000) :
    Calls Tryz.prog 27 #[.slice a L.length c, .slice a' M.length c'] w fun r w' => r = .returned (.bool (sameAll (secsOf L) (secsOf M))) ∧ Below w.heap.size w w' := by
  by_cases hlen : L.length = M.length
  · have HS := Lib.hid (show sameAll (secsOf L) (secsOf M) = ((secsOf L).zip (secsOf M)).all (fun p => sameS p.1 p.2) by unfold sameAll; rw [decide_eq_true (by simp [hlen]), Bool.true_and])
    have HH := Lib.hid h
    have HM := Lib.hid h'
    rw [← hlen]
    generalize hN : L.length = N at *
    have HN := Lib.hid hN
    have HN' := Lib.hid hlen
    generalize sameAll (secsOf L) (secsOf M) = sa at *
    have q : ((N : Int) != (N : Int)) = false := by simp
    clear h h' hN hlen
    go_enter Tryz.func27, Tryz.ntmps27
    go_wp2_with fail
    clear q
    go_loopw [5] (fun i wr => ∃ k : Nat, k ≤ N ∧ i = .int .i64 k ∧ Below w.heap.size w wr ∧ Hid ((((secsOf L).zip (secsOf M)).take k).all (fun p => sameS p.1 p.2) = true)) (fun i _ => N - (intOf i).toNat)
    case atStart => exact ⟨0, Nat.zero_le _, rfl, Below.refl _ _, Lib.hid rfl⟩
    case round =>
      obtain ⟨k, hk, rfl, hBl, HA⟩ := hrel
      by_cases hlt : k < N
      · obtain ⟨x, hx⟩ : ∃ x, L[k]? = some x := ⟨L[k]'(by rw [HN.out]; exact hlt), List.getElem?_eq_getElem _⟩
        obtain ⟨y, hy⟩ : ∃ y, M[k]? = some y := ⟨M[k]'(by rw [← HN'.out]; exact hlt), List.getElem?_eq_getElem _⟩
        have hx1 := (HH.out.below (hBl.mono hB))
        have hy1 := (HM.out.below (hBl.mono hB))
        obtain ⟨b, o, rfl, hb, c0, c1, c2, c3, c4, c5, c6, c7, c8⟩ := hx1.at_ hx
        obtain ⟨b', o', rfl, hb', e0, e1, e2, e3, e4, e5, e6, e7, e8⟩ := hy1.at_ hy
        have hz := zip_take (get_secsOf hx) (get_secsOf hy)
        have HT := Lib.hid (fun (e : sameS x.s y.s = true) => all_take (fun p : Sect × Sect => sameS p.1 p.2) _ k _ hz HA.out e)
        have HF := Lib.hid (fun (e : sameS x.s y.s = false) => all_not (fun p : Sect × Sect => sameS p.1 p.2) _ k _ hz e)
        have HQ := Lib.hid (show sameS x.s y.s = (decide (x.s.name = y.s.name) && (decide (x.s.kind = y.s.kind) && (decide (x.s.flags = y.s.flags) && (decide (x.s.addr = y.s.addr) && (decide (x.s.data = y.s.data) && (decide (x.s.link = y.s.link) && (decide (x.s.inf = y.s.inf) && (decide (x.s.algn = y.s.algn) && decide (x.s.ent = y.s.ent))))))))) from rfl)
        have HBl := Lib.hid hBl
        have hrx := fun o1 o2 => conv_rd ((hx1.get hx).rd.below (below_two (Below.refl B wr) (Nat.le_trans hB hBl.size) o1 o2)) x.c
        have hry := fun o1 o2 => conv_rd ((hy1.get hy).rd.below (below_two (Below.refl B wr) (Nat.le_trans hB hBl.size) o1 o2)) y.c
        have hbs := hBl.size
        have hbw : b < wr.heap.size := by omega
        have hbw' : b' < wr.heap.size := by omega
        have s0 := str_eq x.s.name y.s.name
        have s1 := int_beq x.s.kind y.s.kind
        have s2 := nat_beq x.s.flags y.s.flags
        have s3 := nat_beq x.s.addr y.s.addr
        have s4 := str_eq x.s.data y.s.data
        have s5 := int_beq x.s.link y.s.link
        have s6 := int_beq x.s.inf y.s.inf
        have s7 := int_beq x.s.algn y.s.algn
        have s8 := int_beq x.s.ent y.s.ent
        clear hx hy hx1 hy1 hz hBl HA
        generalize sameS x.s y.s = ss at *
        generalize decide (x.s.name = y.s.name) = t0 at *
        generalize decide (x.s.kind = y.s.kind) = t1 at *
        generalize decide (x.s.flags = y.s.flags) = t2 at *
        generalize decide (x.s.addr = y.s.addr) = t3 at *
        generalize decide (x.s.data = y.s.data) = t4 at *
        generalize decide (x.s.link = y.s.link) = t5 at *
        generalize decide (x.s.inf = y.s.inf) = t6 at *
        generalize decide (x.s.algn = y.s.algn) = t7 at *
        generalize decide (x.s.ent = y.s.ent) = t8 at *
        generalize ByteArray.mk x.s.name.toArray = xn at *
        generalize ByteArray.mk y.s.name.toArray = yn at *
        generalize ByteArray.mk x.s.data.toArray = xb at *
        generalize ByteArray.mk y.s.data.toArray = yb at *
        generalize x.A = xA at *
        generalize y.A = yA at *
        generalize x.c = xc at *
        generalize y.c = yc at *
        generalize x.s.data.length = xl at *
        generalize y.s.data.length = yl at *
        have u0 := bne_of s0
        have u1 := bne_of s1
        have u2 := bne_of s2
        have u3 := bne_of s3
        have u4 := bne_of s4
        have u5 := bne_of s5
        have u6 := bne_of s6
        have u7 := bne_of s7
        have u8 := bne_of s8
        cases t0 with
        | false =>
          have HZ := Lib.hid (HF.out (by rw [HQ.out]; rfl))
          go_wp2_with fail
          go_ret
          exact ⟨by rw [HS.out, HZ.out]; rfl, below_two HBl.out hbs _ _⟩
        | true =>
          cases t1 with
          | false =>
            have HZ := Lib.hid (HF.out (by rw [HQ.out]; rfl))
            go_wp2_with fail
            go_ret
            exact ⟨by rw [HS.out, HZ.out]; rfl, below_two HBl.out hbs _ _⟩
          | true =>
            cases t2 with
            | false =>
              have HZ := Lib.hid (HF.out (by rw [HQ.out]; rfl))
              go_wp2_with fail
              go_ret
              exact ⟨by rw [HS.out, HZ.out]; rfl, below_two HBl.out hbs _ _⟩
            | true =>
              cases t3 with
              | false =>
                have HZ := Lib.hid (HF.out (by rw [HQ.out]; rfl))
                go_wp2_with fail
                go_ret
                exact ⟨by rw [HS.out, HZ.out]; rfl, below_two HBl.out hbs _ _⟩
              | true =>
                cases t4 with
                | false =>
                  have HZ := Lib.hid (HF.out (by rw [HQ.out]; rfl))
                  go_wp2_with fail
                  go_ret
                  exact ⟨by rw [HS.out, HZ.out]; rfl, below_two HBl.out hbs _ _⟩
                | true =>
                  cases t5 with
                  | false =>
                    have HZ := Lib.hid (HF.out (by rw [HQ.out]; rfl))
                    go_wp2_with fail
                    go_ret
                    exact ⟨by rw [HS.out, HZ.out]; rfl, below_two HBl.out hbs _ _⟩
                  | true =>
                    cases t6 with
                    | false =>
                      have HZ := Lib.hid (HF.out (by rw [HQ.out]; rfl))
                      go_wp2_with fail
                      go_ret
                      exact ⟨by rw [HS.out, HZ.out]; rfl, below_two HBl.out hbs _ _⟩
                    | true =>
                      cases t7 with
                      | false =>
                        have HZ := Lib.hid (HF.out (by rw [HQ.out]; rfl))
                        go_wp2_with fail
                        go_ret
                        exact ⟨by rw [HS.out, HZ.out]; rfl, below_two HBl.out hbs _ _⟩
                      | true =>
                        cases t8 with
                        | false =>
                          have HZ := Lib.hid (HF.out (by rw [HQ.out]; rfl))
                          go_wp2_with fail
                          go_ret
                          exact ⟨by rw [HS.out, HZ.out]; rfl, below_two HBl.out hbs _ _⟩
                        | true =>
                          have HZ := Lib.hid (HT.out (by rw [HQ.out]; rfl))
                          go_wp2_with fail
                          go_roundw
                          case rel => exact ⟨k + 1, by omega, by go_num, below_two HBl.out hbs _ _, HZ⟩
                          case measure => simp [intOf]; omega
      · have hkN : k = N := by omega
        have HZ := Lib.hid (show sa = true by
          rw [HS.out]
          have := HA.out
          rw [List.take_of_length_le (by rw [List.length_zip]; simp [HN.out]; omega)] at this
          exact this)
        have HBl := Lib.hid hBl
        clear hBl HA
        go_wp2_with fail
        go_ret
        exact ⟨by rw [HZ.out]; rfl, HBl.out⟩
  · have HF := Lib.hid (show sameAll (secsOf L) (secsOf M) = false by unfold sameAll; rw [decide_eq_false (by simp [hlen]), Bool.false_and])
    have q : ((L.length : Int) != (M.length : Int)) = true := by simp; omega
    clear h h'
    generalize sameAll (secsOf L) (secsOf M) = sa at *
    generalize L.length = n at *
    generalize M.length = m at *
    go_enter Tryz.func27, Tryz.ntmps27
    go_wp2_with fail
    go_ret
    exact ⟨by rw [HF.out]; rfl, Below.refl _ _⟩

end Go.Proofs.YtldmjnbmjfnfeaaGreatDoor

namespace Go.Proofs.YtldmjnbmjfnfeaaGreatDoor
open Go Go.RowKit

set_option maxRecDepth 10000 in
theorem in_any (n : Int) (w : World) : Calls Tryz.prog 112 #[.int .i64 n] w fun r w' => r = .returned (.bool (inM n)) ∧ w = w' := by
  by_cases h0 : 0 ≤ n
  · have d0 : decide (0 ≤ n) = true := decide_eq_true h0
    by_cases h1 : n ≤ 2147483647
    · have d1 : decide (n ≤ 2147483647) = true := decide_eq_true h1
      have HF := Lib.hid (show inM n = true by unfold inM; exact decide_eq_true ⟨h0, h1⟩)
      clear h0 h1
      go_enter Tryz.func112, Tryz.ntmps112
      go_wp2_with fail
      go_ret
      exact ⟨by rw [HF.out]; rfl, rfl⟩
    · have d1 : decide (n ≤ 2147483647) = false := decide_eq_false h1
      have HF := Lib.hid (show inM n = false by unfold inM; exact decide_eq_false (by omega))
      clear h0 h1
      go_enter Tryz.func112, Tryz.ntmps112
      go_wp2_with fail
      go_ret
      exact ⟨by rw [HF.out]; rfl, rfl⟩
  · have d0 : decide (0 ≤ n) = false := decide_eq_false h0
    have HF := Lib.hid (show inM n = false by unfold inM; exact decide_eq_false (by omega))
    clear h0
    go_enter Tryz.func112, Tryz.ntmps112
    go_wp2_with fail
    go_ret
    exact ⟨by rw [HF.out]; rfl, rfl⟩

def zeroT (l : List UInt8) : Bool := l.all fun b => decide (b = 0)
theorem zeroT_count (l : List UInt8) : zeroT l = decide (l.count 0 = l.length) := by
  rw [Bool.eq_iff_iff, decide_eq_true_eq, List.count_eq_length]
  simp only [zeroT, List.all_eq_true, decide_eq_true_eq]
  exact ⟨fun h b hb => (h b hb).symm, fun h b hb => (h b hb).symm⟩
theorem u8_zero (x : UInt8) : (((x.toNat : Nat) : Int) != 0) = !decide (x = 0) := by
  by_cases h : x = 0
  · subst h; rfl
  · have h2 : ¬ x.toNat = 0 := fun e => h (UInt8.toNat_inj.1 e)
    rw [decide_eq_false h]
    simpa using h2

set_option maxRecDepth 10000 in
theorem noughts_any {w : World} {B : Nat} {A : Option Addr} {l : List UInt8} (h : Rd w B A l) (c : Nat) (hl : l.length ≤ 140737488355328) :
    Calls Tryz.prog 113 #[.slice A l.length c] w fun r w' => r = .returned (.bool (zeroT l)) ∧ w = w' := by
  obtain ⟨N, hN⟩ : ∃ N, l.length = N := ⟨_, rfl⟩
  have HN := Lib.hid hN
  have HH := Lib.hid h
  rw [hN] at hl ⊢
  clear hN h
  go_enter Tryz.func113, Tryz.ntmps113
  go_wp2_with fail
  go_loop [3] (fun i => ∃ k : Nat, k ≤ N ∧ i = .int .i64 k ∧ Hid ((l.take k).all (fun b => decide (b = 0)) = true)) (fun i => N - (intOf i).toNat)
  case atStart => exact ⟨0, Nat.zero_le _, rfl, Lib.hid rfl⟩
  case round =>
    obtain ⟨k, hk, rfl, HA⟩ := hrel
    by_cases hlt : k < N
    · obtain ⟨x, hx⟩ : ∃ x, l[k]? = some x := ⟨l[k]'(by rw [HN.out]; exact hlt), List.getElem?_eq_getElem _⟩
      obtain ⟨b, o, rfl, _, hc⟩ := HH.out (by rw [HN.out]; omega)
      have c0 := hc k x hx
      have q := u8_zero x
      by_cases hz : x = 0
      · have HT := Lib.hid (all_take (fun b => decide (b = 0)) l k x hx HA.out (decide_eq_true hz))
        rw [decide_eq_true hz] at q
        clear hx hc hz HH
        go_wp2_with fail
        exact ⟨⟨k + 1, by omega, by go_num, HT⟩, by simp [intOf]; omega⟩
      · have HF := Lib.hid (show zeroT l = false from all_not (fun b => decide (b = 0)) l k x hx (decide_eq_false hz))
        rw [decide_eq_false hz] at q
        clear hx hc hz HH
        go_wp2_with fail
        go_ret
        exact ⟨by rw [HF.out]; rfl, rfl⟩
    · have HF := Lib.hid (show zeroT l = true by
        have := HA.out
        rw [List.take_of_length_le (by rw [HN.out]; omega)] at this
        exact this)
      go_wp2_with fail
      go_ret
      exact ⟨by rw [HF.out]; rfl, rfl⟩

/-! ### Right, in the document's order -/
/-- All is right from 1 on, ahead of a place. -/
def OkTo (l : List Sect) (m k : Nat) : Prop := ∀ (j : Nat) (s : Sect), 1 ≤ j → j < k → l[j]? = some s → okS s = true ∧ (s.name = shstrN ↔ j = m)
theorem OkTo.next {l : List Sect} {m k : Nat} {s : Sect} (h : OkTo l m k) (hk : l[k]? = some s) (h1 : okS s = true) (h2 : s.name = shstrN ↔ k = m) : OkTo l m (k + 1) := fun j x hj hjk hx => by
  rcases Nat.lt_or_ge j k with h3 | h3
  · exact h j x hj h3 hx
  · have : j = k := by omega
    subst this
    rw [hk] at hx
    injection hx with hx
    exact hx ▸ ⟨h1, h2⟩
theorem right_form {l : List Sect} {m : Nat} {x z : Sect} (hm : l.length = m + 1) (h1 : 1 ≤ m) (h2 : m ≤ 63) (hx : l[0]? = some x) (hz : l[m]? = some z) :
    rightS l = (sameS x zeroS && (decide (z.kind = 3) && (decide (findS l shstrN = (m : Int)) && okAll (l.drop 1)))) := by
  unfold rightS
  rw [decide_eq_true (show 2 ≤ l.length ∧ l.length ≤ 64 by omega), Bool.true_and, hx, show l.length - 1 = m by omega, hz]
  rfl
theorem okAll_not {l : List Sect} {k : Nat} {s : Sect} (hk : l[k]? = some s) (h1 : 1 ≤ k) (h : okS s = false) : okAll (l.drop 1) = false :=
  all_not okS (l.drop 1) (k - 1) s (by rw [List.getElem?_drop, show 1 + (k - 1) = k by omega]; exact hk) h
theorem right_not {l : List Sect} {k : Nat} {s : Sect} (hk : l[k]? = some s) (h1 : 1 ≤ k) (h : okS s = false) : rightS l = false := by
  unfold rightS
  rw [okAll_not hk h1 h]
  simp
theorem right_name {l : List Sect} {m k : Nat} {s : Sect} (hm : l.length = m + 1) (hO : OkTo l m k) (hk : l[k]? = some s) (h1 : 1 ≤ k) (h : ¬ (s.name = shstrN ↔ k = m)) : rightS l = false := by
  have hkl := (List.getElem?_eq_some_iff.1 hk).1
  have hf : findS l shstrN ≠ (m : Int) := by
    by_cases hn : s.name = shstrN
    · have hkm : k ≠ m := fun e => h ⟨fun _ => e, fun _ => hn⟩
      rw [findS_some hk (by omega) hn (fun j x hj hj0 hx e => by
        have := (hO j x hj0 hj hx).2.1 e
        omega)]
      omega
    · have hkm : k = m := by
        rcases Nat.lt_or_ge k m with h3 | h3
        · exact absurd ⟨fun e => absurd e hn, fun e => by omega⟩ h
        · omega
      rw [findS_none (fun j x hj0 hx e => by
        have hjl := (List.getElem?_eq_some_iff.1 hx).1
        rcases Nat.lt_or_ge j k with h3 | h3
        · have := (hO j x hj0 h3 hx).2.1 e
          omega
        · have : j = k := by omega
          subst this
          rw [hk] at hx
          injection hx with hx
          exact hn (hx ▸ e))]
      omega
  unfold rightS
  rw [show l.length - 1 = m by omega, decide_eq_false hf]
  simp
theorem right_yes {l : List Sect} {m : Nat} {x z : Sect} (hm : l.length = m + 1) (h1 : 1 ≤ m) (h2 : m ≤ 63) (hx : l[0]? = some x) (hz : l[m]? = some z) (h0 : sameS x zeroS = true) (hO : OkTo l m (m + 1)) : rightS l = (z.kind == 3) := by
  rw [right_form hm h1 h2 hx hz, h0, Bool.true_and]
  rw [findS_some hz (by omega) ((hO m z h1 (by omega) hz).2.2 rfl) (fun j y hj hj0 hy e => by
    have := (hO j y hj0 (by omega) hy).2.1 e
    omega)]
  rw [show okAll (l.drop 1) = true by
    unfold okAll
    rw [List.all_eq_true]
    intro y hy
    obtain ⟨j, hj, e⟩ := List.getElem_of_mem hy
    have hy' : l[1 + j]? = some y := by rw [← List.getElem?_drop, ← e]; exact List.getElem?_eq_getElem hj
    have hjl := (List.getElem?_eq_some_iff.1 hy').1
    exact (hO (1 + j) y (by omega) (by omega) hy').1]
  simp [int_beq]
theorem right_zero {l : List Sect} {x : Sect} (hx : l[0]? = some x) (h0 : sameS x zeroS = false) : rightS l = false := by
  unfold rightS
  rw [hx, Option.any_some, h0]
  simp
def oneZ : List Lay := [⟨zeroS, none, 0⟩]
theorem oneZ_secs (w : World) : Secs (w.alloc (.cells (cellsL oneZ).toArray 39)) (w.heap.size + 1) (some ⟨w.heap.size, 0, none⟩) oneZ :=
  ⟨fun _ => ⟨w.heap.size, 0, rfl, by omega, fun i x hx j v hv => by
    rw [(Box.new w 39 (cellsL oneZ).toArray).cell, Nat.zero_add]
    simpa using cellsL_at oneZ i x j v hx hv⟩, fun x hx => by
    have hz : (zeroS).Fits := ⟨by unfold InI zeroS; simp only; omega, by unfold InI zeroS; simp only; omega, by unfold InI zeroS; simp only; omega, by unfold InI zeroS; simp only; omega, by unfold InI zeroS; simp only; omega, by decide, by decide, by decide, by decide⟩
    simp only [oneZ, List.mem_cons, List.not_mem_nil, or_false] at hx
    subst hx
    exact ⟨Rd.nil_, Nat.le_refl _, Nat.zero_le _, hz⟩⟩

set_option maxRecDepth 10000 in
set_option maxHeartbeats 6400000 in
theorem srright_any {w : World} {a : Option Addr} {L : List Lay} (h : Secs w w.heap.size a L) (c : Nat) (hlc : L.length ≤ c) (hl : L.length ≤ 100000) :
    Calls Tryz.prog 69 #[.slice a L.length c] w fun r w' => r = .returned (.bool (rightS (secsOf L))) ∧ Below w.heap.size w w' := by
  by_cases h2 : L.length < 2
  · have HF := Lib.hid (show rightS (secsOf L) = false from rightS_len (by simp; omega))
    clear h
    generalize rightS (secsOf L) = rs at *
    generalize L.length = n at *
    have hd : decide ((n : Int) < 2) = true := decide_eq_true (by omega)
    go_enter Tryz.func69, Tryz.ntmps69
    go_wp2_with fail
    go_ret
    exact ⟨by rw [HF.out]; rfl, Below.refl _ _⟩
  · by_cases h64 : 64 < L.length
    · have HF := Lib.hid (show rightS (secsOf L) = false from rightS_len (by simp; omega))
      clear h
      generalize rightS (secsOf L) = rs at *
      generalize L.length = n at *
      have hd : decide ((n : Int) < 2) = false := decide_eq_false (by omega)
      have hd2 : decide ((64 : Int) < (n : Int)) = true := decide_eq_true (by omega)
      go_enter Tryz.func69, Tryz.ntmps69
      go_wp2_with fail
      go_ret
      exact ⟨by rw [HF.out]; rfl, Below.refl _ _⟩
    · obtain ⟨m, hm⟩ : ∃ m, L.length = m + 1 := ⟨L.length - 1, by omega⟩
      obtain ⟨x, hx⟩ : ∃ x, L[0]? = some x := ⟨L[0]'(by omega), List.getElem?_eq_getElem _⟩
      obtain ⟨z, hz⟩ : ∃ x, L[m]? = some x := ⟨L[m]'(by omega), List.getElem?_eq_getElem _⟩
      have hml : (secsOf L).length = m + 1 := by simp [hm]
      have hm1 : 1 ≤ m := by omega
      have hm63 : m ≤ 63 := by omega
      have hb0 : Below w.heap.size w (w.alloc (.cells (cellsL oneZ).toArray 39)) := (Below.refl _ _).alloc (Nat.le_refl _) _
      have HS0 := Lib.hid (rsame_any (L := L.take 1) (M := oneZ) (((h.take 1).below hb0).more (B' := w.heap.size + 1) (by omega)) (oneZ_secs w) (by simp) c 1 (by simp; omega))
      have hzero : sameAll (secsOf (L.take 1)) (secsOf oneZ) = sameS x.s zeroS := by
        obtain ⟨y, L', rfl⟩ : ∃ y L', L = y :: L' := by
          match L, hm with
          | y :: L', _ => exact ⟨y, L', rfl⟩
        simp at hx
        subst hx
        simp [sameAll, secsOf, oneZ]
      rw [hzero, show (L.take 1).length = 1 by rw [List.length_take]; omega, show oneZ.length = 1 from rfl] at HS0
      have hlit : (cellsL oneZ).toArray = #[.string ⟨#[]⟩, .int .i64 0, .int .u64 0, .int .u64 0, .slice none 0 0, .int .i64 0, .int .i64 0, .int .i64 0, .int .i64 0] := rfl
      have HB0 := Lib.hid hb0
      rw [hlit] at HS0 HB0
      have HH := Lib.hid h
      have HX := Lib.hid hx
      have HZ := Lib.hid hz
      have HML := Lib.hid hml
      have HNL := Lib.hid hm
      have hd : decide ((m : Int) + 1 < 2) = false := decide_eq_false (by omega)
      have hd2 : decide ((64 : Int) < (m : Int) + 1) = false := decide_eq_false (by omega)
      have hc1 : 1 ≤ c := by omega
      rw [hm] at hlc ⊢
      clear h hx hz hml hb0 hzero hlit h2 h64 hl hm
      go_enter Tryz.func69, Tryz.ntmps69
      cases h0 : sameS x.s zeroS with
      | false =>
        have HF := Lib.hid (right_zero (get_secsOf HX.out) h0)
        rw [h0] at HS0
        clear h0
        go_wp2_with (go_at_call 27; refine HS0.out.mono ?_; rintro r w1 ⟨rfl, hb1⟩)
        go_ret
        exact ⟨by rw [HF.out]; rfl, HB0.out.trans (hb1.mono HB0.out.size)⟩
      | true =>
        have H0 := Lib.hid h0
        rw [h0] at HS0
        clear h0
        go_wp2_with (go_at_call 27; refine HS0.out.mono ?_; rintro r w1 ⟨rfl, hb1⟩)
        have HB1 := Lib.hid (HB0.out.trans (hb1.mono HB0.out.size))
        clear HS0 HB0 hb1 hd hd2
        go_loopw [3] (fun i wr => ∃ k : Nat, 1 ≤ k ∧ k ≤ m + 1 ∧ i = .int .i64 k ∧ Below w.heap.size w wr ∧ Hid (OkTo (secsOf L) m k)) (fun i _ => m + 1 - (intOf i).toNat)
        case atStart => exact ⟨1, Nat.le_refl _, by omega, rfl, HB1.out, Lib.hid (fun j s h1 h2 => by omega)⟩
        case round =>
          obtain ⟨k, hk1, hk, rfl, hB, HO⟩ := hrel
          clear HB1
          by_cases hlt : k < m + 1
          · obtain ⟨y, hy⟩ : ∃ y, L[k]? = some y := ⟨L[k]'(by rw [HNL.out]; exact hlt), List.getElem?_eq_getElem _⟩
            obtain ⟨b, o, rfl, hb, c0, c1, c2, c3, c4, c5, c6, c7, c8⟩ := (HH.out.below hB).at_ hy
            have hok := (HH.out.below hB).get hy
            have hbs := hB.size
            have HNO := Lib.hid (fun (e : okS y.s = false) => right_not (get_secsOf hy) hk1 e)
            have HNN := Lib.hid (fun (e : ¬ (y.s.name = shstrN ↔ k = m)) => right_name HML.out HO.out (get_secsOf hy) hk1 e)
            have HYE := Lib.hid (fun (e : okS y.s = true) (e2 : y.s.name = shstrN ↔ k = m) => HO.out.next (get_secsOf hy) e e2)
            have HQ := Lib.hid (show okS y.s = (decide (1 ≤ y.s.kind) && ((inM y.s.kind && (inM y.s.link && (inM y.s.inf && (inM y.s.algn && (inM y.s.ent && true))))) && (rightT y.s.name && (decide (y.s.data.length ≤ 65536) && (decide (y.s.kind ≠ 8) || zeroT y.s.data))))) by rw [zeroT_count]; rfl)
            have HI := Lib.hid (fun n W => in_any n W)
            have HR := Lib.hid (fun W => rright_any y.s.name W (Nat.le_trans hok.fits.name (by decide)))
            have hb0 : Below w.heap.size wr (wr.alloc (.cells #[.string ⟨y.s.name.toArray⟩, .int .i64 y.s.kind, .int .u64 (y.s.flags : Int), .int .u64 (y.s.addr : Int), .slice y.A y.s.data.length y.c, .int .i64 y.s.link, .int .i64 y.s.inf, .int .i64 y.s.algn, .int .i64 y.s.ent] 39)) := (Below.refl _ _).alloc hbs _
            have HNT := Lib.hid (noughts_any (hok.rd.below hb0) y.c (Nat.le_trans hok.fits.data (by decide)))
            have HBl := Lib.hid (hB.trans hb0)
            have HN8 := Lib.hid (int_beq y.s.kind 8)
            have q9 := str_eq y.s.name shstrN
            rw [show (ByteArray.mk shstrN.toArray).toList = [46, 115, 104, 115, 116, 114, 116, 97, 98] by rw [Lib.toList_data]; rfl] at q9
            have hkN : ∀ n : Int, (decide (n < 1) = !decide (1 ≤ n)) := fun n => by
              by_cases e : 1 ≤ n
              · rw [decide_eq_true e, decide_eq_false (by omega)]; rfl
              · rw [decide_eq_false e, decide_eq_true (by omega)]; rfl
            have e0 := hkN y.s.kind
            have e7 : decide ((65536 : Int) < (y.s.data.length : Int)) = !decide (y.s.data.length ≤ 65536) := by
              by_cases e : y.s.data.length ≤ 65536
              · rw [decide_eq_true e, decide_eq_false (by omega)]; rfl
              · rw [decide_eq_false e, decide_eq_true (by omega)]; rfl
            have e8 : (y.s.kind == 8) = !decide (y.s.kind ≠ 8) := by
              rw [HN8.out]
              by_cases e : y.s.kind = 8
              · simp [e]
              · simp [e]
            have HNM := Lib.hid (show decide (y.s.name = shstrN) = true ↔ y.s.name = shstrN from decide_eq_true_iff)
            clear hkN hy hok hb0 hB HN8 HH HO HX
            generalize okS y.s = oky at *
            generalize ht0 : decide (1 ≤ y.s.kind) = t0 at *
            generalize ht7 : decide (y.s.data.length ≤ 65536) = t7 at *
            generalize ht8 : decide (y.s.kind ≠ 8) = t8 at *
            generalize ht9 : decide (y.s.name = shstrN) = t9 at *
            generalize ht6 : rightT y.s.name = t6 at *
            generalize ht10 : zeroT y.s.data = t10 at *
            clear ht0 ht7 ht8 ht9 ht6 ht10
            generalize hnm : y.s.name = nm at *
            clear hnm
            generalize ByteArray.mk nm.toArray = sb at *
            generalize y.A = dA at *
            generalize y.c = dc at *
            generalize y.s.data.length = dl at *
            generalize y.s.kind = i1 at *
            generalize y.s.link = i2 at *
            generalize y.s.inf = i3 at *
            generalize y.s.algn = i4 at *
            generalize y.s.ent = i5 at *
            generalize y.s.flags = n1 at *
            generalize y.s.addr = n2 at *
            cases t0 with
            | false =>
              have HZ' := Lib.hid (HNO.out (by rw [HQ.out]; rfl))
              go_wp2_with (first
                | (go_at_call 112; refine (HI.out _ _).mono ?_; rintro r w2 ⟨rfl, rfl⟩)
                | (go_at_call 79; refine (HR.out _).mono ?_; rintro r w2 ⟨rfl, rfl⟩)
                | (go_at_call 113; refine HNT.out.mono ?_; rintro r w2 ⟨rfl, rfl⟩))
              go_ret
              exact ⟨by rw [HZ'.out]; rfl, HBl.out⟩
            | true =>
              cases q1 : inM i1 with
              | false =>
                rw [q1] at HQ
                have HZ' := Lib.hid (HNO.out (by rw [HQ.out]; rfl))
                go_wp2_with (first
                  | (go_at_call 112; refine (HI.out _ _).mono ?_; rintro r w2 ⟨rfl, rfl⟩)
                  | (go_at_call 79; refine (HR.out _).mono ?_; rintro r w2 ⟨rfl, rfl⟩)
                  | (go_at_call 113; refine HNT.out.mono ?_; rintro r w2 ⟨rfl, rfl⟩))
                go_ret
                exact ⟨by rw [HZ'.out]; rfl, HBl.out⟩
              | true =>
                rw [q1] at HQ
                cases q2 : inM i2 with
                | false =>
                  rw [q2] at HQ
                  have HZ' := Lib.hid (HNO.out (by rw [HQ.out]; rfl))
                  go_wp2_with (first
                    | (go_at_call 112; refine (HI.out _ _).mono ?_; rintro r w2 ⟨rfl, rfl⟩)
                    | (go_at_call 79; refine (HR.out _).mono ?_; rintro r w2 ⟨rfl, rfl⟩)
                    | (go_at_call 113; refine HNT.out.mono ?_; rintro r w2 ⟨rfl, rfl⟩))
                  go_ret
                  exact ⟨by rw [HZ'.out]; rfl, HBl.out⟩
                | true =>
                  rw [q2] at HQ
                  cases q3 : inM i3 with
                  | false =>
                    rw [q3] at HQ
                    have HZ' := Lib.hid (HNO.out (by rw [HQ.out]; rfl))
                    go_wp2_with (first
                      | (go_at_call 112; refine (HI.out _ _).mono ?_; rintro r w2 ⟨rfl, rfl⟩)
                      | (go_at_call 79; refine (HR.out _).mono ?_; rintro r w2 ⟨rfl, rfl⟩)
                      | (go_at_call 113; refine HNT.out.mono ?_; rintro r w2 ⟨rfl, rfl⟩))
                    go_ret
                    exact ⟨by rw [HZ'.out]; rfl, HBl.out⟩
                  | true =>
                    rw [q3] at HQ
                    cases q4 : inM i4 with
                    | false =>
                      rw [q4] at HQ
                      have HZ' := Lib.hid (HNO.out (by rw [HQ.out]; rfl))
                      go_wp2_with (first
                        | (go_at_call 112; refine (HI.out _ _).mono ?_; rintro r w2 ⟨rfl, rfl⟩)
                        | (go_at_call 79; refine (HR.out _).mono ?_; rintro r w2 ⟨rfl, rfl⟩)
                        | (go_at_call 113; refine HNT.out.mono ?_; rintro r w2 ⟨rfl, rfl⟩))
                      go_ret
                      exact ⟨by rw [HZ'.out]; rfl, HBl.out⟩
                    | true =>
                      rw [q4] at HQ
                      cases q5 : inM i5 with
                      | false =>
                        rw [q5] at HQ
                        have HZ' := Lib.hid (HNO.out (by rw [HQ.out]; rfl))
                        go_wp2_with (first
                          | (go_at_call 112; refine (HI.out _ _).mono ?_; rintro r w2 ⟨rfl, rfl⟩)
                          | (go_at_call 79; refine (HR.out _).mono ?_; rintro r w2 ⟨rfl, rfl⟩)
                          | (go_at_call 113; refine HNT.out.mono ?_; rintro r w2 ⟨rfl, rfl⟩))
                        go_ret
                        exact ⟨by rw [HZ'.out]; rfl, HBl.out⟩
                      | true =>
                        rw [q5] at HQ
                        cases t6 with
                        | false =>
                          have HZ' := Lib.hid (HNO.out (by rw [HQ.out]; rfl))
                          go_wp2_with (first
                            | (go_at_call 112; refine (HI.out _ _).mono ?_; rintro r w2 ⟨rfl, rfl⟩)
                            | (go_at_call 79; refine (HR.out _).mono ?_; rintro r w2 ⟨rfl, rfl⟩)
                            | (go_at_call 113; refine HNT.out.mono ?_; rintro r w2 ⟨rfl, rfl⟩))
                          go_ret
                          exact ⟨by rw [HZ'.out]; rfl, HBl.out⟩
                        | true =>
                          cases t7 with
                          | false =>
                            have HZ' := Lib.hid (HNO.out (by rw [HQ.out]; rfl))
                            go_wp2_with (first
                              | (go_at_call 112; refine (HI.out _ _).mono ?_; rintro r w2 ⟨rfl, rfl⟩)
                              | (go_at_call 79; refine (HR.out _).mono ?_; rintro r w2 ⟨rfl, rfl⟩)
                              | (go_at_call 113; refine HNT.out.mono ?_; rintro r w2 ⟨rfl, rfl⟩))
                            go_ret
                            exact ⟨by rw [HZ'.out]; rfl, HBl.out⟩
                          | true =>
                            cases t8 with
                            | true =>
                              have HYE' := Lib.hid (HYE.out (by rw [HQ.out]; rfl))
                              cases t9 with
                              | false =>
                                by_cases hkm : k = m
                                · have q : ((k : Int) == (m : Int)) = true := by simp [hkm]
                                  have HZ' := Lib.hid (HNN.out (fun e => absurd (HNM.out.2 (e.2 hkm)) (by decide)))
                                  clear hkm
                                  go_wp2_with (first
                                    | (go_at_call 112; refine (HI.out _ _).mono ?_; rintro r w2 ⟨rfl, rfl⟩)
                                    | (go_at_call 79; refine (HR.out _).mono ?_; rintro r w2 ⟨rfl, rfl⟩)
                                    | (go_at_call 113; refine HNT.out.mono ?_; rintro r w2 ⟨rfl, rfl⟩))
                                  go_ret
                                  exact ⟨by rw [HZ'.out]; rfl, HBl.out⟩
                                · have q : ((k : Int) == (m : Int)) = false := by simp; omega
                                  have HZ' := Lib.hid (HYE'.out ⟨fun e => absurd (HNM.out.2 e) (by decide), fun e => absurd e hkm⟩)
                                  clear hkm
                                  go_wp2_with (first
                                    | (go_at_call 112; refine (HI.out _ _).mono ?_; rintro r w2 ⟨rfl, rfl⟩)
                                    | (go_at_call 79; refine (HR.out _).mono ?_; rintro r w2 ⟨rfl, rfl⟩)
                                    | (go_at_call 113; refine HNT.out.mono ?_; rintro r w2 ⟨rfl, rfl⟩))
                                  go_roundw
                                  case rel => exact ⟨k + 1, by omega, by omega, by go_num, HBl.out, HZ'⟩
                                  case measure => simp [intOf]; omega
                              | true =>
                                by_cases hkm : k = m
                                · have q : ((k : Int) == (m : Int)) = true := by simp [hkm]
                                  have HZ' := Lib.hid (HYE'.out ⟨fun _ => hkm, fun _ => HNM.out.1 rfl⟩)
                                  clear hkm
                                  go_wp2_with (first
                                    | (go_at_call 112; refine (HI.out _ _).mono ?_; rintro r w2 ⟨rfl, rfl⟩)
                                    | (go_at_call 79; refine (HR.out _).mono ?_; rintro r w2 ⟨rfl, rfl⟩)
                                    | (go_at_call 113; refine HNT.out.mono ?_; rintro r w2 ⟨rfl, rfl⟩))
                                  go_roundw
                                  case rel => exact ⟨k + 1, by omega, by omega, by go_num, HBl.out, HZ'⟩
                                  case measure => simp [intOf]; omega
                                · have q : ((k : Int) == (m : Int)) = false := by simp; omega
                                  have HZ' := Lib.hid (HNN.out (fun e => hkm (e.1 (HNM.out.1 rfl))))
                                  clear hkm
                                  go_wp2_with (first
                                    | (go_at_call 112; refine (HI.out _ _).mono ?_; rintro r w2 ⟨rfl, rfl⟩)
                                    | (go_at_call 79; refine (HR.out _).mono ?_; rintro r w2 ⟨rfl, rfl⟩)
                                    | (go_at_call 113; refine HNT.out.mono ?_; rintro r w2 ⟨rfl, rfl⟩))
                                  go_ret
                                  exact ⟨by rw [HZ'.out]; rfl, HBl.out⟩
                            | false =>
                              cases t10 with
                              | false =>
                                have HZ' := Lib.hid (HNO.out (by rw [HQ.out]; rfl))
                                go_wp2_with (first
                                  | (go_at_call 112; refine (HI.out _ _).mono ?_; rintro r w2 ⟨rfl, rfl⟩)
                                  | (go_at_call 79; refine (HR.out _).mono ?_; rintro r w2 ⟨rfl, rfl⟩)
                                  | (go_at_call 113; refine HNT.out.mono ?_; rintro r w2 ⟨rfl, rfl⟩))
                                go_ret
                                exact ⟨by rw [HZ'.out]; rfl, HBl.out⟩
                              | true =>
                                have HYE' := Lib.hid (HYE.out (by rw [HQ.out]; rfl))
                                cases t9 with
                                | false =>
                                  by_cases hkm : k = m
                                  · have q : ((k : Int) == (m : Int)) = true := by simp [hkm]
                                    have HZ' := Lib.hid (HNN.out (fun e => absurd (HNM.out.2 (e.2 hkm)) (by decide)))
                                    clear hkm
                                    go_wp2_with (first
                                      | (go_at_call 112; refine (HI.out _ _).mono ?_; rintro r w2 ⟨rfl, rfl⟩)
                                      | (go_at_call 79; refine (HR.out _).mono ?_; rintro r w2 ⟨rfl, rfl⟩)
                                      | (go_at_call 113; refine HNT.out.mono ?_; rintro r w2 ⟨rfl, rfl⟩))
                                    go_ret
                                    exact ⟨by rw [HZ'.out]; rfl, HBl.out⟩
                                  · have q : ((k : Int) == (m : Int)) = false := by simp; omega
                                    have HZ' := Lib.hid (HYE'.out ⟨fun e => absurd (HNM.out.2 e) (by decide), fun e => absurd e hkm⟩)
                                    clear hkm
                                    go_wp2_with (first
                                      | (go_at_call 112; refine (HI.out _ _).mono ?_; rintro r w2 ⟨rfl, rfl⟩)
                                      | (go_at_call 79; refine (HR.out _).mono ?_; rintro r w2 ⟨rfl, rfl⟩)
                                      | (go_at_call 113; refine HNT.out.mono ?_; rintro r w2 ⟨rfl, rfl⟩))
                                    go_roundw
                                    case rel => exact ⟨k + 1, by omega, by omega, by go_num, HBl.out, HZ'⟩
                                    case measure => simp [intOf]; omega
                                | true =>
                                  by_cases hkm : k = m
                                  · have q : ((k : Int) == (m : Int)) = true := by simp [hkm]
                                    have HZ' := Lib.hid (HYE'.out ⟨fun _ => hkm, fun _ => HNM.out.1 rfl⟩)
                                    clear hkm
                                    go_wp2_with (first
                                      | (go_at_call 112; refine (HI.out _ _).mono ?_; rintro r w2 ⟨rfl, rfl⟩)
                                      | (go_at_call 79; refine (HR.out _).mono ?_; rintro r w2 ⟨rfl, rfl⟩)
                                      | (go_at_call 113; refine HNT.out.mono ?_; rintro r w2 ⟨rfl, rfl⟩))
                                    go_roundw
                                    case rel => exact ⟨k + 1, by omega, by omega, by go_num, HBl.out, HZ'⟩
                                    case measure => simp [intOf]; omega
                                  · have q : ((k : Int) == (m : Int)) = false := by simp; omega
                                    have HZ' := Lib.hid (HNN.out (fun e => hkm (e.1 (HNM.out.1 rfl))))
                                    clear hkm
                                    go_wp2_with (first
                                      | (go_at_call 112; refine (HI.out _ _).mono ?_; rintro r w2 ⟨rfl, rfl⟩)
                                      | (go_at_call 79; refine (HR.out _).mono ?_; rintro r w2 ⟨rfl, rfl⟩)
                                      | (go_at_call 113; refine HNT.out.mono ?_; rintro r w2 ⟨rfl, rfl⟩))
                                    go_ret
                                    exact ⟨by rw [HZ'.out]; rfl, HBl.out⟩
          · have hkm : k = m + 1 := by omega
            obtain ⟨b, o, rfl, hb, c0, c1, -⟩ := (HH.out.below hB).at_ HZ.out
            have HF := Lib.hid (right_yes HML.out hm1 hm63 (get_secsOf HX.out) (get_secsOf HZ.out) H0.out (by rw [← hkm]; exact HO.out))
            have HBl := Lib.hid hB
            clear hB HH HO
            go_wp2_with fail
            go_ret
            exact ⟨by rw [HF.out]; rfl, HBl.out⟩

end Go.Proofs.YtldmjnbmjfnfeaaGreatDoor
