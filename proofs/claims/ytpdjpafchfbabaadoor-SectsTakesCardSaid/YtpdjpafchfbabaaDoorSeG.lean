/-
  Package sects: the table of names, and where each section's stands in it (gather).
-/

import Derived.Test.YtpdjpafchfbabaaDoorSeR
namespace Go.Proofs.YtpdjpafchfbabaaDoor
open Go Go.RowKit

/-- The texts of the table and the places, name by name. -/
def gat (ns : List (List UInt8)) : List (List UInt8) × List Nat := ns.foldl (fun p t => ((addT p.1 t).1, p.2 ++ [(addT p.1 t).2.1])) ([], [])
theorem gat_next (ns : List (List UInt8)) (t : List UInt8) : gat (ns ++ [t]) = ((addT (gat ns).1 t).1, (gat ns).2 ++ [(addT (gat ns).1 t).2.1]) := by
  unfold gat
  rw [List.foldl_append]
  rfl
theorem gat_take {ns : List (List UInt8)} {k : Nat} {t : List UInt8} (h : ns[k]? = some t) : gat (ns.take (k + 1)) = ((addT (gat (ns.take k)).1 t).1, (gat (ns.take k)).2 ++ [(addT (gat (ns.take k)).1 t).2.1]) := by
  rw [List.take_add_one, h]
  exact gat_next _ _
theorem gat_length (ns : List (List UInt8)) (k : Nat) (hk : k ≤ ns.length) : (gat (ns.take k)).2.length = k := by
  induction k with
  | zero => rfl
  | succ k ih =>
    have h : ns[k]? = some (ns[k]'(by omega)) := List.getElem?_eq_getElem _
    rw [gat_take h]
    simp [ih (by omega)]

/-- The names of sections. -/
def namesL (L : List Lay) : List (List UInt8) := L.map fun x => x.s.name
theorem namesL_get {L : List Lay} {k : Nat} {x : Lay} (h : L[k]? = some x) : (namesL L)[k]? = some x.s.name := by simp [namesL, h]

theorem row_below {w w' : World} {base : Nat} {e : TypeId} {size n : Nat} {v : Value} {xs : List Value} (h : w.ownsRow base e size v n xs) (hb : Below w.heap.size w w') : w'.ownsRow base e size v n xs :=
  row_only h (Only.below (base := 0) (bad := fun _ => False) hb (Nat.zero_le _)) (fun _ _ x => x)
theorem row_base {w : World} {base base' : Nat} {e : TypeId} {size n : Nat} {v : Value} {xs : List Value} (h : w.ownsRow base e size v n xs) (hb : base' ≤ base) : w.ownsRow base' e size v n xs :=
  ⟨h.1, h.2.imp id fun ⟨g, cap, cur, p, q, r⟩ => ⟨g, cap, cur, p, Nat.le_trans hb q, r⟩⟩

set_option maxRecDepth 10000 in
set_option maxHeartbeats 1600000 in
theorem gather_any {w : World} {a : Option Addr} {L : List Lay} (h : Secs w w.heap.size a L) (c : Nat) (hl : L.length ≤ 100000) :
    Calls Tryd.prog 55 #[.slice a L.length c] w fun r w' => ∃ u v, r = .returned (.tuple #[u, v]) ∧ OwnU w' w.heap.size u (gat (namesL L)).2 ∧ Own w' w.heap.size v (putsT (gat (namesL L)).1) ∧ Below w.heap.size w w' := by
  obtain ⟨i0, hi, hz0, hz1, hz2⟩ := info_parts u64_info
  have HH := Lib.hid h
  generalize hN : L.length = N at *
  have HN := Lib.hid hN
  clear h hN
  have HNW := Lib.hid (fun W => pnew_any W)
  go_enter Tryd.func55, Tryd.ntmps55
  go_wp2_with (go_at_call 75; refine (HNW.out _).mono ?_; rintro r w1 ⟨g, mb, rfl, hp1, hb1⟩)
  have HP1 := Lib.hid hp1
  have HB1 := Lib.hid hb1
  clear hp1 hb1 HNW
  go_loopw [2, 12] (fun u i wr => ∃ k : Nat, k ≤ N ∧ i = .int .i64 k ∧ OwnU wr w.heap.size u (gat ((namesL L).take k)).2 ∧ (∃ v, PoolAt wr w.heap.size g mb v (gat ((namesL L).take k)).1) ∧ Below w.heap.size w wr) (fun _ i _ => N - (intOf i).toNat)
  case atStart => exact ⟨0, Nat.zero_le _, rfl, World.ownsRow_nil _ _ _ _, ⟨_, HP1.out⟩, HB1.out⟩
  case round =>
    obtain ⟨k, hk, rfl, hO, ⟨v, hP⟩, hB⟩ := hrel
    by_cases hlt : k < N
    · obtain ⟨x, hx⟩ : ∃ x, L[k]? = some x := ⟨L[k]'(by rw [HN.out]; exact hlt), List.getElem?_eq_getElem _⟩
      obtain ⟨b, o, rfl, hb, c0, c1, c2, c3, c4, c5, c6, c7, c8⟩ := (HH.out.below hB).at_ hx
      have hnl := ((HH.out.below hB).get hx).fits.name
      have HNX := Lib.hid (gat_take (namesL_get hx))
      have hgl := gat_length (namesL L) k (by rw [namesL, List.length_map, HN.out]; omega)
      generalize hnk1 : gat ((namesL L).take (k + 1)) = nk1 at *
      generalize (namesL L).take k = nk at *
      generalize hls : (gat nk).1 = ls at *
      generalize hats : (gat nk).2 = ats at *
      have HK1 := Lib.hid hnk1
      have HG1 := Lib.hid (show nk1.1 = (addT ls x.s.name).1 by rw [HNX.out])
      have HG2 := Lib.hid (show nk1.2 = ats ++ [(addT ls x.s.name).2.1] by rw [HNX.out])
      have hb0 : Below wr.heap.size wr (wr.alloc (.cells #[.string ⟨x.s.name.toArray⟩, .int .i64 x.s.kind, .int .u64 (x.s.flags : Int), .int .u64 (x.s.addr : Int), .slice x.A x.s.data.length x.c, .int .i64 x.s.link, .int .i64 x.s.inf, .int .i64 x.s.algn, .int .i64 x.s.ent] 36)) := (Below.refl _ _).alloc (Nat.le_refl _) _
      have HA := Lib.hid (add_at (hP.below hb0) x.s.name (by omega))
      have HO0 := Lib.hid (row_below hO hb0)
      have HB0 := Lib.hid (hB.trans (hb0.mono hB.size))
      have hww := hB.size
      rw [hgl] at HO0
      have h63 : k + 1 ≤ maxLen := by unfold maxLen; omega
      have hby : (k + 1) * 8 ≤ 140737488355328 := by omega
      have H63 := Lib.hid h63
      have HBY := Lib.hid hby
      have HGL := Lib.hid hgl
      clear hx hO hP hB hb0 HNX hnk1 hls hats hnl h63 hby hgl
      generalize (addT ls x.s.name).1 = ls1 at *
      generalize (addT ls x.s.name).2.1 = p at *
      generalize (addT ls x.s.name).2.2 = e at *
      generalize x.A = dA at *
      generalize x.s.data.length = dn at *
      generalize x.c = dc at *
      generalize ByteArray.mk x.s.name.toArray = sb at *
      generalize x.s.kind = i1 at *
      generalize x.s.link = i2 at *
      generalize x.s.inf = i3 at *
      generalize x.s.algn = i4 at *
      generalize x.s.ent = i5 at *
      generalize x.s.flags = n1 at *
      generalize x.s.addr = n2 at *
      go_wp2_with (first
        | (go_at_call 76; refine HA.out.mono ?_; rintro r w2 ⟨rfl, hp2, ho2⟩; have HP2 := Lib.hid hp2; have HO2 := Lib.hid ho2; have HR2 := Lib.hid (row_only HO0.out ho2 (by intro cs f hh; rcases hh with hh | hh <;> revert hh <;> decide)); have hs2 := ho2.1.size; clear hp2 ho2 HA)
        | (at_builtin; refine wpList_append_own_at _ (by rfl) (.tmp 23) (.tmp 25) _ (by rfl) w.heap.size 24 i0 (.int .u64 0) 1 8 Tryd.underlying59 hi hz0 hz1 hz2 rfl (by decide) u2 k (placeV ats) (by rfl) (HR2.out.alloc _) ⟨w2.heap.size, 0, none⟩ 1 1 [.int .u64 (p : Int)] (by rfl) rfl (cell_one_new _ _ _) (by simp [Value.oneCell']) H63.out HBY.out (by have := HO2.out.1.size; simp at *; omega) ?_; intro v4 w4 hown4 hg4 hn4 hat4; clear hn4 hat4))
      have ho4 := row_turns (HR2.out.alloc (.cells #[.int .u64 (p : Int)] 24)) hg4 (by have := HO2.out.1.size; simp at *; omega)
      have HB2 := Lib.hid (HB0.out.trans HO2.out.1)
      have HL := Lib.hid (show Only w.heap.size (CellsOf 24) w2 w4 from (Only.below ((Below.refl _ _).alloc (Nat.le_refl _) _) HB2.out.size).trans ho4)
      have HOW4 := Lib.hid (show OwnU w4 w.heap.size v4 (ats ++ [p]) by rw [OwnU, placeV_append, List.length_append, HGL.out]; exact hown4)
      clear hown4 hg4 ho4
      go_roundw
      case rel =>
        refine ⟨k + 1, by omega, by go_num, by rw [HK1.out, HG2.out]; exact HOW4.out, ?_, HB2.out.trans HL.out.1⟩
        rw [HK1.out, HG1.out]
        obtain ⟨v', hv'⟩ := HP2.out
        exact ⟨v', hv'.rows HL.out (by decide) (by decide)⟩
      case measure => simp [intOf]; omega
    · have hkn : (namesL L).take k = namesL L := by rw [List.take_of_length_le]; simp [namesL, HN.out]; omega
      rw [hkn] at hO hP
      have HY := Lib.hid (bytes_at hP)
      have HO := Lib.hid hO
      have HB := Lib.hid hB
      have hgl := gat_length (namesL L) N (by rw [namesL, List.length_map, HN.out]; omega)
      obtain ⟨A, cap, rfl, _⟩ := ownu_at hO
      clear hO hP hB hkn hgl
      generalize (gat (namesL L)).2.length = q at *
      go_wp2_with (go_at_call 77; refine HY.out.mono ?_; rintro r w2 ⟨v2, rfl, hown2, hb2⟩)
      go_ret2
      exact ⟨_, _, rfl, row_below HO.out hb2, own_up hown2 HB.out.size, HB.out.trans (hb2.mono HB.out.size)⟩

end Go.Proofs.YtpdjpafchfbabaaDoor
