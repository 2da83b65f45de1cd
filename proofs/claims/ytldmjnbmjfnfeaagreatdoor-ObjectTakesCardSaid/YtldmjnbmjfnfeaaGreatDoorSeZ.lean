/-
  The document's Same: the same sections? (written by wip/tools/gen_sez.py)
-/
import Derived.Test.YtldmjnbmjfnfeaaGreatDoorObB
namespace Go.Proofs.YtldmjnbmjfnfeaaGreatDoor
open Go Go.RowKit

def sameAll (l m : List Sect) : Bool := decide (l.length = m.length) && (l.zip m).all fun p => sameS p.1 p.2
theorem sameAll_refl (l : List Sect) : sameAll l l = true := by
  unfold sameAll
  rw [Bool.and_eq_true, decide_eq_true_eq, List.all_eq_true]
  refine ⟨rfl, fun p hp => ?_⟩
  have : p.1 = p.2 := by
    obtain ⟨i, hi, e⟩ := List.getElem_of_mem hp
    rw [← e, List.getElem_zip]
  rw [this]
  exact sameS_refl _
theorem zip_take {l m : List Sect} {k : Nat} {x y : Sect} (hx : l[k]? = some x) (hy : m[k]? = some y) : (l.zip m)[k]? = some (x, y) := by rw [List.getElem?_zip_eq_some]; exact ⟨hx, hy⟩
theorem below_two {w wr : World} {B : Nat} (h : Below B w wr) (hB : B ≤ wr.heap.size) (o1 o2 : Obj) : Below B w ((wr.alloc o1).alloc o2) := (h.alloc hB o1).alloc (by simp; omega) o2
theorem bne_of {α : Type} [BEq α] {a b : α} {c : Bool} (h : (a == b) = c) : (a != b) = !c := by rw [← h]; rfl
theorem int_beq (a b : Int) : (a == b) = decide (a = b) := by rw [Bool.eq_iff_iff, beq_iff_eq, decide_eq_true_eq]
theorem nat_beq (a b : Nat) : ((a : Int) == (b : Int)) = decide (a = b) := by rw [int_beq]; exact decide_eq_decide.2 (by omega)

set_option maxRecDepth 10000 in
set_option maxHeartbeats 6400000 in
theorem rsame_any {w : World} {B : Nat} {a a' : Option Addr} {L M : List Lay} (h : Secs w B a L) (h' : Secs w B a' M) (hB : B ≤ w.heap.size) (c c' : Nat) (hl : L.length ≤ 100000) :
    Calls Tryz.prog 27 #[.slice a L.length c, .slice a' M.length c'] w fun r w' => r = .returned (.bool (sameAll (secsOf L) (secsOf M))) ∧ Below w.heap.size w w' := by
  by_cases hlen : L.length = M.length
  · have HS := Lib.hid (show sameAll (secsOf L) (secsOf M) = ((secsOf L).zip (secsOf M)).all (fun p => sameS p.1 p.2) by unfold sameAll; rw [decide_eq_true (by simp [hlen]), Bool.true_and])
    have HH := Lib.hid h
    have HM := Lib.hid h'
    rw [← hlen]
    generalize hN : L.length = N at *
    have HN := Lib.hid hN
    have HN' := Lib.hid hlen
    generalize sameAll (secsOf L) (secsOf M) = sa at *
    have q : ((N : Int) != (N : Int)) = false := by simp
    clear h h' hN hlen
    go_enter Tryz.func27, Tryz.ntmps27
    go_wp2_with fail
    clear q
    go_loopw [5] (fun i wr => ∃ k : Nat, k ≤ N ∧ i = .int .i64 k ∧ Below w.heap.size w wr ∧ Hid ((((secsOf L).zip (secsOf M)).take k).all (fun p => sameS p.1 p.2) = true)) (fun i _ => N - (intOf i).toNat)
    case atStart => exact ⟨0, Nat.zero_le _, rfl, Below.refl _ _, Lib.hid rfl⟩
    case round =>
      obtain ⟨k, hk, rfl, hBl, HA⟩ := hrel
      by_cases hlt : k < N
      · obtain ⟨x, hx⟩ : ∃ x, L[k]? = some x := ⟨L[k]'(by rw [HN.out]; exact hlt), List.getElem?_eq_getElem _⟩
        obtain ⟨y, hy⟩ : ∃ y, M[k]? = some y := ⟨M[k]'(by rw [← HN'.out]; exact hlt), List.getElem?_eq_getElem _⟩
        have hx1 := (HH.out.below (hBl.mono hB))
        have hy1 := (HM.out.below (hBl.mono hB))
        obtain ⟨b, o, rfl, hb, c0, c1, c2, c3, c4, c5, c6, c7, c8⟩ := hx1.at_ hx
        obtain ⟨b', o', rfl, hb', e0, e1, e2, e3, e4, e5, e6, e7, e8⟩ := hy1.at_ hy
        have hz := zip_take (get_secsOf hx) (get_secsOf hy)
        have HT := Lib.hid (fun (e : sameS x.s y.s = true) => all_take (fun p : Sect × Sect => sameS p.1 p.2) _ k _ hz HA.out e)
        have HF := Lib.hid (fun (e : sameS x.s y.s = false) => all_not (fun p : Sect × Sect => sameS p.1 p.2) _ k _ hz e)
        have HQ := Lib.hid (show sameS x.s y.s = (decide (x.s.name = y.s.name) && (decide (x.s.kind = y.s.kind) && (decide (x.s.flags = y.s.flags) && (decide (x.s.addr = y.s.addr) && (decide (x.s.data = y.s.data) && (decide (x.s.link = y.s.link) && (decide (x.s.inf = y.s.inf) && (decide (x.s.algn = y.s.algn) && decide (x.s.ent = y.s.ent))))))))) from rfl)
        have HBl := Lib.hid hBl
        have hrx := fun o1 o2 => conv_rd ((hx1.get hx).rd.below (below_two (Below.refl B wr) (Nat.le_trans hB hBl.size) o1 o2)) x.c
        have hry := fun o1 o2 => conv_rd ((hy1.get hy).rd.below (below_two (Below.refl B wr) (Nat.le_trans hB hBl.size) o1 o2)) y.c
        have hbs := hBl.size
        have hbw : b < wr.heap.size := by omega
        have hbw' : b' < wr.heap.size := by omega
        have s0 := str_eq x.s.name y.s.name
        have s1 := int_beq x.s.kind y.s.kind
        have s2 := nat_beq x.s.flags y.s.flags
        have s3 := nat_beq x.s.addr y.s.addr
        have s4 := str_eq x.s.data y.s.data
        have s5 := int_beq x.s.link y.s.link
        have s6 := int_beq x.s.inf y.s.inf
        have s7 := int_beq x.s.algn y.s.algn
        have s8 := int_beq x.s.ent y.s.ent
        clear hx hy hx1 hy1 hz hBl HA
        generalize sameS x.s y.s = ss at *
        generalize decide (x.s.name = y.s.name) = t0 at *
        generalize decide (x.s.kind = y.s.kind) = t1 at *
        generalize decide (x.s.flags = y.s.flags) = t2 at *
        generalize decide (x.s.addr = y.s.addr) = t3 at *
        generalize decide (x.s.data = y.s.data) = t4 at *
        generalize decide (x.s.link = y.s.link) = t5 at *
        generalize decide (x.s.inf = y.s.inf) = t6 at *
        generalize decide (x.s.algn = y.s.algn) = t7 at *
        generalize decide (x.s.ent = y.s.ent) = t8 at *
        generalize ByteArray.mk x.s.name.toArray = xn at *
        generalize ByteArray.mk y.s.name.toArray = yn at *
        generalize ByteArray.mk x.s.data.toArray = xb at *
        generalize ByteArray.mk y.s.data.toArray = yb at *
        generalize x.A = xA at *
        generalize y.A = yA at *
        generalize x.c = xc at *
        generalize y.c = yc at *
        generalize x.s.data.length = xl at *
        generalize y.s.data.length = yl at *
        have u0 := bne_of s0
        have u1 := bne_of s1
        have u2 := bne_of s2
        have u3 := bne_of s3
        have u4 := bne_of s4
        have u5 := bne_of s5
        have u6 := bne_of s6
        have u7 := bne_of s7
        have u8 := bne_of s8
        cases t0 with
        | false =>
          have HZ := Lib.hid (HF.out (by rw [HQ.out]; rfl))
          go_wp2_with fail
          go_ret
          exact ⟨by rw [HS.out, HZ.out]; rfl, below_two HBl.out hbs _ _⟩
        | true =>
          cases t1 with
          | false =>
            have HZ := Lib.hid (HF.out (by rw [HQ.out]; rfl))
            go_wp2_with fail
            go_ret
            exact ⟨by rw [HS.out, HZ.out]; rfl, below_two HBl.out hbs _ _⟩
          | true =>
            cases t2 with
            | false =>
              have HZ := Lib.hid (HF.out (by rw [HQ.out]; rfl))
              go_wp2_with fail
              go_ret
              exact ⟨by rw [HS.out, HZ.out]; rfl, below_two HBl.out hbs _ _⟩
            | true =>
              cases t3 with
              | false =>
                have HZ := Lib.hid (HF.out (by rw [HQ.out]; rfl))
                go_wp2_with fail
                go_ret
                exact ⟨by rw [HS.out, HZ.out]; rfl, below_two HBl.out hbs _ _⟩
              | true =>
                cases t4 with
                | false =>
                  have HZ := Lib.hid (HF.out (by rw [HQ.out]; rfl))
                  go_wp2_with fail
                  go_ret
                  exact ⟨by rw [HS.out, HZ.out]; rfl, below_two HBl.out hbs _ _⟩
                | true =>
                  cases t5 with
                  | false =>
                    have HZ := Lib.hid (HF.out (by rw [HQ.out]; rfl))
                    go_wp2_with fail
                    go_ret
                    exact ⟨by rw [HS.out, HZ.out]; rfl, below_two HBl.out hbs _ _⟩
                  | true =>
                    cases t6 with
                    | false =>
                      have HZ := Lib.hid (HF.out (by rw [HQ.out]; rfl))
                      go_wp2_with fail
                      go_ret
                      exact ⟨by rw [HS.out, HZ.out]; rfl, below_two HBl.out hbs _ _⟩
                    | true =>
                      cases t7 with
                      | false =>
                        have HZ := Lib.hid (HF.out (by rw [HQ.out]; rfl))
                        go_wp2_with fail
                        go_ret
                        exact ⟨by rw [HS.out, HZ.out]; rfl, below_two HBl.out hbs _ _⟩
                      | true =>
                        cases t8 with
                        | false =>
                          have HZ := Lib.hid (HF.out (by rw [HQ.out]; rfl))
                          go_wp2_with fail
                          go_ret
                          exact ⟨by rw [HS.out, HZ.out]; rfl, below_two HBl.out hbs _ _⟩
                        | true =>
                          have HZ := Lib.hid (HT.out (by rw [HQ.out]; rfl))
                          go_wp2_with fail
                          go_roundw
                          case rel => exact ⟨k + 1, by omega, by go_num, below_two HBl.out hbs _ _, HZ⟩
                          case measure => simp [intOf]; omega
      · have hkN : k = N := by omega
        have HZ := Lib.hid (show sa = true by
          rw [HS.out]
          have := HA.out
          rw [List.take_of_length_le (by rw [List.length_zip]; simp [HN.out]; omega)] at this
          exact this)
        have HBl := Lib.hid hBl
        clear hBl HA
        go_wp2_with fail
        go_ret
        exact ⟨by rw [HZ.out]; rfl, HBl.out⟩
  · have HF := Lib.hid (show sameAll (secsOf L) (secsOf M) = false by unfold sameAll; rw [decide_eq_false (by simp [hlen]), Bool.false_and])
    have q : ((L.length : Int) != (M.length : Int)) = true := by simp; omega
    clear h h'
    generalize sameAll (secsOf L) (secsOf M) = sa at *
    generalize L.length = n at *
    generalize M.length = m at *
    go_enter Tryz.func27, Tryz.ntmps27
    go_wp2_with fail
    go_ret
    exact ⟨by rw [HF.out]; rfl, Below.refl _ _⟩

end Go.Proofs.YtldmjnbmjfnfeaaGreatDoor
