/-
  The document's own cursor over bytes that it was handed, wherever they lie: Left, Uint, Fail.
-/
import Derived.Test.YtejicboemkpeoaaGreatDoorCsL
namespace Go.Proofs.YtejicboemkpeoaaGreatDoor
open Go Go.RowKit

/-- The document's cursor in memory: its block, the value of its bytes, the bytes, where it stands, the refusal. -/
def RC (w : World) (g : Nat) (v : Value) (l : List UInt8) (a : Nat) (e : Int) : Prop :=
  Box w g 140 #[v, .int .i64 (a : Int), .int .i64 e] ∧ Own w 0 v l ∧ a ≤ l.length

section
variable {w w' : World} {g g' : Nat} {v : Value} {l : List UInt8} {a : Nat} {e : Int}
theorem RC.drewN (h : RC w g v l a e) (n : Nat) : RC (w.drewN n) g v l a e := h
theorem RC.grown {row : Option Nat} (h : RC w g v l a e) (hb : w.grownBy w' row) (h1 : some g ≠ row) (h2 : v.ownBlock = none ∨ v.ownBlock ≠ row) : RC w' g v l a e :=
  ⟨h.1.grown hb h1, h.2.1.kept hb h2, h.2.2⟩
theorem RC.below (h : RC w g v l a e) (hb : Below w.heap.size w w') : RC w' g v l a e :=
  h.grown (only_below hb none) (by simp) (by rcases v.ownBlock with _ | k <;> simp)
theorem RC.own_ne (h : RC w g v l a e) : v.ownBlock ≠ some g := own_other h.2.1 h.1 (by decide)
theorem RC.moved (h : RC w g v l a e) (b : Nat) (hb : b ≤ l.length) : RC (w.setCell ⟨g, 1, none⟩ (.int .i64 (b : Int))) g v l b e :=
  ⟨by simpa using h.1.set 1 (.int .i64 (b : Int)), h.2.1.kept (only_set (a := w) (only_refl w (some g)) 1 _) (.inr h.own_ne), hb⟩
theorem RC.failed (h : RC w g v l a e) (f : Int) : RC (w.setCell ⟨g, 2, none⟩ (.int .i64 f)) g v l a f :=
  ⟨by simpa using h.1.set 2 (.int .i64 f), h.2.1.kept (only_set (a := w) (only_refl w (some g)) 2 _) (.inr h.own_ne), h.2.2⟩
/-- Behind a step of the other kind of cursor, and the other way round. -/
theorem RC.behind {cs : Array Value} (h : RC w g v l a e) (hb' : Box w g' 177 cs) (hb : w.grownBy w' (some g')) : RC w' g v l a e :=
  h.grown hb (by have := h.1.other hb' (by decide); simpa using this) (.inr (own_other h.2.1 hb' (by decide)))
theorem Cur.behind {cs : Array Value} (h : Cur w g v l a e) (hb' : Box w g' 140 cs) (hb : w.grownBy w' (some g')) : Cur w' g v l a e :=
  h.grown hb (by have := h.1.other hb' (by decide); simpa using this) (.inr (own_other h.2.1 hb' (by decide)))
end

end Go.Proofs.YtejicboemkpeoaaGreatDoor

namespace Go.Proofs.YtejicboemkpeoaaGreatDoor
open Go Go.RowKit

theorem leNat_drop (l : List UInt8) (m : Nat) (h : m < l.length) : leNat (l.drop m) = l[m].toNat + 256 * leNat (l.drop (m + 1)) := by
  rw [List.drop_eq_getElem_cons h, leNat]
theorem leNat_drop_lt (l : List UInt8) (m : Nat) (h : l.length ≤ 8) : leNat (l.drop m) < 18446744073709551616 := leNat_64 _ (by simp; omega)
theorem rc_left (l : List UInt8) (a : Nat) : leftOf l a 0 = l.length - a := by simp [leftOf]

end Go.Proofs.YtejicboemkpeoaaGreatDoor

namespace Go.Proofs.YtejicboemkpeoaaGreatDoor
open Go Go.RowKit

/-- The document's cursor in memory, over bytes that lie in blocks below B, itself at B or above. -/
def RR (B : Nat) (w : World) (g : Nat) (v : Value) (l : List UInt8) (a : Nat) (e : Int) : Prop :=
  Box w g 140 #[v, .int .i64 (a : Int), .int .i64 e] ∧ (∃ A c, v = .slice A l.length c ∧ l.length ≤ c ∧ c ≤ maxLen ∧ Rd w B A l) ∧ a ≤ l.length ∧ B ≤ g

section
variable {B : Nat} {w w' : World} {g : Nat} {v : Value} {l : List UInt8} {a : Nat} {e : Int}
theorem RR.drewN (h : RR B w g v l a e) (n : Nat) : RR B (w.drewN n) g v l a e := h
theorem RR.data {A : Option Addr} (h : Rd w B A l) (hb : w.grownBy w' (some g)) (hg : B ≤ g) : Rd w' B A l := by
  intro hl
  obtain ⟨b, o, e, hb', hc⟩ := h hl
  refine ⟨b, o, e, hb', fun j u hu => ?_⟩
  have h1 := hc j u hu
  have hlt := World.block_lt_of_cell? w _ h1
  exact (World.cell?_of_block (hb.block b hlt (fun e => by injection e with e; omega))).trans h1
theorem RR.moved (h : RR B w g v l a e) (b : Nat) (hb : b ≤ l.length) : RR B (w.setCell ⟨g, 1, none⟩ (.int .i64 (b : Int))) g v l b e :=
  ⟨by simpa using h.1.set 1 (.int .i64 (b : Int)), h.2.1.imp fun A => Exists.imp fun c k => ⟨k.1, k.2.1, k.2.2.1, RR.data k.2.2.2 (only_set (only_refl w (some g)) 1 _) h.2.2.2⟩, hb, h.2.2.2⟩
theorem RR.failed (h : RR B w g v l a e) (f : Int) : RR B (w.setCell ⟨g, 2, none⟩ (.int .i64 f)) g v l a f :=
  ⟨by simpa using h.1.set 2 (.int .i64 f), h.2.1.imp fun A => Exists.imp fun c k => ⟨k.1, k.2.1, k.2.2.1, RR.data k.2.2.2 (only_set (only_refl w (some g)) 2 _) h.2.2.2⟩, h.2.2.1, h.2.2.2⟩
theorem RR.grown {row : Option Nat} (h : RR B w g v l a e) (hb : w.grownBy w' row) (h1 : some g ≠ row) (h2 : ∀ x, row = some x → B ≤ x) : RR B w' g v l a e := by
  refine ⟨h.1.grown hb h1, h.2.1.imp fun A => Exists.imp fun c k => ⟨k.1, k.2.1, k.2.2.1, fun hl => ?_⟩, h.2.2.1, h.2.2.2⟩
  obtain ⟨b, o, e, hb', hc⟩ := k.2.2.2 hl
  refine ⟨b, o, e, hb', fun j u hu => ?_⟩
  have h3 := hc j u hu
  have hlt := World.block_lt_of_cell? w _ h3
  exact (World.cell?_of_block (hb.block b hlt (fun e => by have := h2 _ e.symm; omega))).trans h3
theorem RR.below (h : RR B w g v l a e) (hb : Below w.heap.size w w') : RR B w' g v l a e := h.grown (only_below hb none) (by simp) (by simp)
end

theorem qleft {B : Nat} {w : World} {g : Nat} {v : Value} {l : List UInt8} {a : Nat} {e : Int} (h : RR B w g v l a e) :
    Calls Tryz.prog 96 #[.pointer (some ⟨g, 0, none⟩)] w fun r w' => r = .returned (.int .i64 (leftOf l a e : Int)) ∧ ∃ n, w' = w.drewN n := by
  obtain ⟨A, c, hv, hlc, hcm, _⟩ := h.2.1
  subst hv
  have hal := h.2.2.1
  have h0 := h.1.cell 0
  have h1 := h.1.cell 1
  have h2 := h.1.cell 2
  simp at h0 h1 h2
  unfold maxLen at hcm
  by_cases he : e = 0
  · have H := Lib.hid (show (leftOf l a e : Int) = (l.length : Int) - (a : Int) by simp only [leftOf, if_pos he]; omega)
    have hz : (e != 0) = false := by simp [he]
    clear he h
    generalize l.length = n at *
    go_enter Tryz.func96, Tryz.ntmps96
    go_wp2
    go_quiet (fail)
    go_wp2
    go_ret
    exact ⟨by rw [H.out]; rfl, _, rfl⟩
  · have H := Lib.hid (show (leftOf l a e : Int) = 0 by simp only [leftOf, if_neg he]; rfl)
    have hz : (e != 0) = true := by simp [he]
    clear he h
    go_enter Tryz.func96, Tryz.ntmps96
    go_wp2
    go_ret
    exact ⟨by rw [H.out]; rfl, 0, rfl⟩

theorem qfail {B : Nat} {w : World} {g : Nat} {v : Value} {l : List UInt8} {a : Nat} {e : Int} (h : RR B w g v l a e) (f : Int) :
    Calls Tryz.prog 137 #[.pointer (some ⟨g, 0, none⟩), .int .i64 f] w fun r w' => r = .returned (.tuple #[]) ∧ RR B w' g v l a (failOf e f) ∧ w.grownBy w' (some g) := by
  have h2 := h.1.cell 2
  have hf := h.1.free 2
  simp at h2
  by_cases he : e = 0
  · have H := Lib.hid (show RR B (w.setCell ⟨g, 2, none⟩ (.int .i64 f)) g v l a (failOf e f) by rw [failOf, if_pos he]; exact h.failed f)
    have hz : (e == 0) = true := by simp [he]
    have G := Lib.hid (only_set (only_refl w (some g)) 2 (.int .i64 f))
    clear he h
    go_enter Tryz.func137, Tryz.ntmps137
    go_wp2
    go_end0
    exact ⟨rfl, H.out, G.out⟩
  · have H := Lib.hid (show RR B w g v l a (failOf e f) by rw [failOf, if_neg he]; exact h)
    have hz : (e == 0) = false := by simp [he]
    have G := Lib.hid (only_refl w (some g))
    clear he h
    go_enter Tryz.func137, Tryz.ntmps137
    go_wp2
    go_end0
    exact ⟨rfl, H.out, G.out⟩

set_option maxHeartbeats 800000 in
theorem quint_ok {B : Nat} {w : World} {g : Nat} {v : Value} {l : List UInt8} {a : Nat} (h : RR B w g v l a 0) (s : Int) (hs : -9223372036854775808 ≤ s ∧ s ≤ 9223372036854775807) (hlen : l.length ≤ 140737488355328) (hn : clampOf s ≤ l.length - a) :
    Calls Tryz.prog 58 #[.pointer (some ⟨g, 0, none⟩), .int .i64 s] w fun r w' =>
      r = .returned (.int .u64 (leNat ((l.drop a).take (clampOf s)) : Int)) ∧ RR B w' g v l (a + clampOf s) 0 ∧ w.grownBy w' (some g) := by
  obtain ⟨A, c, hv, hlc, hcm, hrd⟩ := h.2.1
  subst hv
  have hc8 := clampOf_le s
  have hc := fun W => size_any s W hs
  have hL := fun W (hW : W = w) => qleft (w := W) (hW ▸ h)
  have h0 := h.1.cell 0
  have h1 := h.1.cell 1
  have h2 := h.1.cell 2
  have f1 := h.1.free 1
  simp at h0 h1 h2
  have hal := h.2.2.1
  clear hs
  unfold maxLen at hcm
  generalize clampOf s = n at *
  rw [rc_left] at hL
  have hgl : ((l.drop a).take n).length = n := by simp; omega
  have hgc : ∀ m, m < n → ∃ b o, A = some ⟨b, o, none⟩ ∧ ∃ x : UInt8, w.cell? ⟨b, o + (a + m), none⟩ = some (.int .u8 (x.toNat : Int)) ∧ leNat (((l.drop a).take n).drop m) = x.toNat + 256 * leNat (((l.drop a).take n).drop (m + 1)) := by
    intro m hm
    obtain ⟨b, o, hA, _, hcell⟩ := hrd (by omega)
    have hlt : a + m < l.length := by omega
    refine ⟨b, o, hA, l[a + m], hcell _ _ (List.getElem?_eq_getElem hlt), ?_⟩
    rw [leNat_drop _ m (by omega)]
    simp
  have hgb : ∀ m, leNat (((l.drop a).take n).drop m) < 18446744073709551616 := fun m => leNat_drop_lt _ _ (by omega)
  obtain ⟨got, hgot⟩ : ∃ t, t = (l.drop a).take n := ⟨_, rfl⟩
  rw [← hgot] at hgl hgc hgb
  have HR := Lib.hid (show leNat (got.drop 0) = leNat ((l.drop a).take n) by rw [List.drop_zero, hgot])
  have HZ := Lib.hid (show leNat (got.drop n) = 0 by rw [List.drop_of_length_le (by omega)]; rfl)
  have HGC := Lib.hid hgc
  have HGB := Lib.hid hgb
  have HC := Lib.hid (fun k => (show RR B ((w.drewN k).setCell ⟨g, 1, none⟩ (.int .i64 ((a : Int) + (n : Int)))) g (.slice A l.length c) l (a + n) 0 from by
    have := (h.drewN k).moved (a + n) (by omega)
    rwa [Int.natCast_add] at this))
  have HO := Lib.hid (fun k u => only_set (only_drewN (only_refl w (some g)) k) 1 u)
  have hq : decide (l.length - a < n) = false := by simp; omega
  have hK0 : ((l.length - a : Nat) : Int) ≤ 140737488355328 := by omega
  have han : (a : Int) + (n : Int) ≤ (l.length : Int) := by omega
  have hl47 : (l.length : Int) ≤ 140737488355328 := by omega
  have hlc' : (l.length : Int) ≤ (c : Int) := by omega
  clear hgc hgb hgl hgot h hrd hal hlen
  generalize l.length - a = K at *
  generalize hN : l.length = N at *
  have HN := Lib.hid hN
  clear hN
  go_enter Tryz.func58, Tryz.ntmps58
  go_wp2_with (first | (go_at_call 97; refine (hc _).mono ?_; rintro r w' ⟨rfl, rfl⟩) | (go_at_call 96; refine (hL _ rfl).mono ?_; rintro r w' ⟨rfl, k, rfl⟩))
  go_loopw [5, 6] (fun x i wr => ∃ j : Nat, j ≤ n ∧ i = .int .i64 ((j : Int) - 1) ∧ x = .int .u64 (leNat (got.drop j) : Int) ∧ ∃ q, wr = w.drewN q) (fun _ i _ => (intOf i + 1).toNat)
  case atStart => exact ⟨n, Nat.le_refl _, rfl, by rw [HZ.out]; rfl, _, rfl⟩
  case round =>
    obtain ⟨j, hj, hi, hx, q, rfl⟩ := hrel
    rcases j with _ | m
    · have hi' : u6 = .int .i64 (-1) := hi
      subst hi' hx
      clear hi
      go_wp2
      go_ret
      exact ⟨by rw [HR.out]; rfl, HC.out _, HO.out _ _⟩
    · have hi' : u6 = .int .i64 (m : Int) := by rw [hi]; congr 1; omega
      subst hi' hx
      clear hi
      obtain ⟨b, o, hA, xb, hcell, hstep⟩ := HGC.out m (by omega)
      subst hA
      have hb := HGB.out m
      have hxb := xb.toNat_lt
      rw [hstep] at hb
      have HS := Lib.hid hstep
      clear hstep
      generalize hy : leNat (got.drop (m + 1)) = y at *
      have HY := Lib.hid hy
      clear hy
      have s1 : IntKind.i64.wrap ((a : Int) + (m : Int)) = (a : Int) + (m : Int) := by rw [IntWalk.i64_in _ (by omega)]
      have s2 : IntKind.u64.wrap ((y : Int) * 256) = (y : Int) * 256 := by rw [IntWalk.u64_in _ (by omega)]
      have s3 : IntKind.u64.wrap (xb.toNat : Int) = (xb.toNat : Int) := by rw [IntWalk.u64_in _ (by omega)]
      have s4 : IntKind.u64.wrap ((y : Int) * 256 + (xb.toNat : Int)) = (y : Int) * 256 + (xb.toNat : Int) := by rw [IntWalk.u64_in _ (by omega)]
      have b1 : (0 : Int) ≤ (a : Int) + (m : Int) := by omega
      have b2 : (a : Int) + (m : Int) < (N : Int) := by omega
      have b3 : ((a : Int) + (m : Int)).toNat = a + m := by omega
      go_wp2
      go_quiet (fail)
      go_wp2
      go_roundw
      case rel => exact ⟨m, by omega, rfl, by rw [HS.out]; go_num, _, rfl⟩
      case measure => simp [intOf]

theorem quint_short {B : Nat} {w : World} {g : Nat} {v : Value} {l : List UInt8} {a : Nat} (h : RR B w g v l a 0) (s : Int) (hs : -9223372036854775808 ≤ s ∧ s ≤ 9223372036854775807) (hn : l.length - a < clampOf s) :
    Calls Tryz.prog 58 #[.pointer (some ⟨g, 0, none⟩), .int .i64 s] w fun r w' => r = .returned (.int .u64 0) ∧ RR B w' g v l a 10 ∧ w.grownBy w' (some g) := by
  have hc8 := clampOf_le s
  have hc := fun W => size_any s W hs
  have hL := fun W (hW : W = w) => qleft (w := W) (hW ▸ h)
  have h2 := h.1.cell 2
  have f2 := h.1.free 2
  simp at h2
  clear hs
  generalize clampOf s = n at *
  rw [rc_left] at hL
  have HC := Lib.hid (fun k => (h.drewN k).failed 10)
  have HO := Lib.hid (fun k u => only_set (only_drewN (only_refl w (some g)) k) 2 u)
  have hq : decide (l.length - a < n) = true := by simp; omega
  clear h
  generalize l.length - a = K at *
  have hfr : ∀ k, ((w.drewN k).setCell ⟨g, 2, none⟩ (.int .i64 10)).cell? ⟨g, 2, none⟩ = some (.int .i64 10) := fun k => by
    rw [World.cell?_setCell_same _ _ _ (by simpa using h2)]
  go_enter Tryz.func58, Tryz.ntmps58
  go_wp2_with (first | (go_at_call 97; refine (hc _).mono ?_; rintro r w' ⟨rfl, rfl⟩) | (go_at_call 96; refine (hL _ rfl).mono ?_; rintro r w' ⟨rfl, k, rfl⟩))
  go_ret
  exact ⟨rfl, HC.out _, HO.out _ _⟩

theorem quint_ref {B : Nat} {w : World} {g : Nat} {v : Value} {l : List UInt8} {a : Nat} {e : Int} (h : RR B w g v l a e) (he : e ≠ 0) (s : Int) (hs : -9223372036854775808 ≤ s ∧ s ≤ 9223372036854775807) :
    Calls Tryz.prog 58 #[.pointer (some ⟨g, 0, none⟩), .int .i64 s] w fun r w' => r = .returned (.int .u64 0) ∧ w = w' := by
  have hc := fun W => size_any s W hs
  have h2 := h.1.cell 2
  simp at h2
  have hz : (e == 0) = false := by simp [he]
  have hz2 : (e != 0) = true := by simp [he]
  clear hs h he
  generalize clampOf s = n at *
  go_enter Tryz.func58, Tryz.ntmps58
  go_wp2_with (go_at_call 97; refine (hc _).mono ?_; rintro r w' ⟨rfl, rfl⟩)
  go_ret
  exact ⟨rfl, rfl⟩

theorem quint_cur {B : Nat} {w : World} {g : Nat} {v : Value} {l : List UInt8} {a : Nat} {e : Int} (h : RR B w g v l a e) (s : Int) (hs : -9223372036854775808 ≤ s ∧ s ≤ 9223372036854775807) (hlen : l.length ≤ 140737488355328) :
    Calls Tryz.prog 58 #[.pointer (some ⟨g, 0, none⟩), .int .i64 s] w fun r w' =>
      r = .returned (.int .u64 (leNat (nextGot l a e (clampOf s)) : Int)) ∧ RR B w' g v l (nextAt l a e (clampOf s)) (nextErr l a e (clampOf s)) ∧ w.grownBy w' (some g) := by
  by_cases he : e = 0
  · subst he
    by_cases hn : clampOf s ≤ l.length - a
    · have hf := next_fits l a (clampOf s) hn
      rw [hf.1, hf.2.1, hf.2.2]
      exact quint_ok h s hs hlen hn
    · refine (quint_short h s hs (by omega)).mono fun r w' ⟨h1, h3, h4⟩ => ⟨?_, ?_, h4⟩
      · simpa [nextGot, hn, leNat] using h1
      · simpa [nextAt, nextErr, hn] using h3
  · refine (quint_ref h he s hs).mono fun r w' ⟨h1, h2⟩ => ⟨?_, ?_, ?_⟩
    · simpa [nextGot, he, leNat] using h1
    · subst h2; simpa [nextAt, nextErr, he] using h
    · subst h2; exact only_refl _ _

end Go.Proofs.YtejicboemkpeoaaGreatDoor
