/-
  The document's Take of symbols.
-/

import Derived.Test.YtkadjejjillmmaaSyDa
import Derived.Test.YtkadjejjillmmaaRefR
import Derived.Test.YtkadjejjillmmaaCsS
import Derived.Test.YtkadjejjillmmaaStA
namespace Go.Proofs.Ytkadjejjillmmaa
open Go Go.RowKit

/-- The document's cursor, a struct in memory beside it, and what has not turned since w0. -/
def StQ (T : TypeId) (B : Nat) (w0 w : World) (g : Nat) (v : Value) (l : List UInt8) (a : Nat) (H : Nat) (cs : Array Value) : Prop :=
  RR B w g v l a 0 ∧ Box w H T cs ∧ w0.grownBy w (some g)
theorem clamp_small (s : Nat) (h : s ≤ 8) : clampOf (s : Int) = s := by unfold clampOf; omega
theorem q_num {B : Nat} {w : World} {g : Nat} {v : Value} {l : List UInt8} {a : Nat} (h : RR B w g v l a 0) (s : Nat) (hs : s ≤ 8) (hlen : l.length ≤ 140737488355328) (hin : a + s ≤ l.length) :
    Calls Try.prog 29 #[.pointer (some ⟨g, 0, none⟩), .int .i64 (s : Int)] w fun r w' => r = .returned (.int .u64 (numT l a s : Int)) ∧ RR B w' g v l (a + s) 0 ∧ w.grownBy w' (some g) := by
  have hc := clamp_small s hs
  have := quint_ok h (s : Int) (by omega) hlen (by rw [hc]; omega)
  rw [hc] at this
  exact this
section
variable {T : TypeId} {B : Nat} {w0 w w' : World} {g : Nat} {v : Value} {l : List UInt8} {a b H : Nat} {cs : Array Value}
theorem StQ.call (h : StQ T B w0 w g v l a H cs) (hne : g ≠ H) (hC : RR B w' g v l b 0) (hG : w.grownBy w' (some g)) : StQ T B w0 w' g v l b H cs :=
  ⟨hC, h.2.1.grown hG (by simpa using fun e => hne e.symm), h.2.2.trans hG⟩
theorem StQ.set (h : StQ T B w0 w g v l a H cs) (hne : g ≠ H) (hB : B ≤ H) (hH : w0.heap.size ≤ H) (i : Nat) (u : Value) : StQ T B w0 (w.setCell ⟨H, i, none⟩ u) g v l a H (cs.setIfInBounds i u) :=
  have G : w.grownBy (w.setCell ⟨H, i, none⟩ u) (some H) := only_set (only_refl w (some H)) i u
  ⟨h.1.grown G (by simpa using hne) (fun x hx => by injection hx with hx; omega), h.2.1.set i u, only_trans h.2.2 G (.inr fun x hx => by injection hx with hx; omega)⟩
theorem StQ.num (h : StQ T B w0 w g v l a H cs) (hne : g ≠ H) (s : Nat) (hs : s ≤ 8) (hlen : l.length ≤ 140737488355328) (hin : a + s ≤ l.length) :
    Calls Try.prog 29 #[.pointer (some ⟨g, 0, none⟩), .int .i64 (s : Int)] w fun r w' => r = .returned (.int .u64 (numT l a s : Int)) ∧ StQ T B w0 w' g v l (a + s) H cs :=
  (q_num h.1 s hs hlen hin).mono fun _ _ ⟨h1, h2, h3⟩ => ⟨h1, h.call hne h2 h3⟩
end

theorem rytake_odd {w : World} (A A' : Option Addr) (n n' c c' : Nat) (h : n % 24 ≠ 0) :
    Calls Try.prog 8 #[.slice A n c, .slice A' n' c'] w fun r w' => r = .returned (.tuple #[.slice none 0 0, .int .i64 23]) ∧ w = w' := by
  have hm := modI n
  have hm' : (n : Int) % 24 = ((n % 24 : Nat) : Int) := by omega
  have hz : decide (0 < n % 24) = true := decide_eq_true (by omega)
  generalize n % 24 = m at *
  clear h
  go_enter Try.func8, Try.ntmps8
  go_wp2_with fail
  go_ret2
  exact ⟨rfl, rfl⟩
theorem rytake_big {w : World} (A A' : Option Addr) (n n' c c' : Nat) (hl : n ≤ 1000000) (h : ¬ n % 24 ≠ 0) (h2 : 400 < n / 24) :
    Calls Try.prog 8 #[.slice A n c, .slice A' n' c'] w fun r w' => r = .returned (.tuple #[.slice none 0 0, .int .i64 3]) ∧ w = w' := by
  have hm := modI n
  have hd := divI n
  have hm' : (n : Int) % 24 = ((n % 24 : Nat) : Int) := by omega
  have hd' : (n : Int) / 24 = ((n / 24 : Nat) : Int) := by omega
  have hz : decide (0 < n % 24) = false := decide_eq_false (by omega)
  have hqb : n / 24 ≤ 1000000 := by omega
  have hq : decide ((400 : Int) < ((n / 24 : Nat) : Int)) = true := decide_eq_true (by omega)
  generalize n % 24 = m at *
  generalize n / 24 = q at *
  clear h h2
  go_enter Try.func8, Try.ntmps8
  go_wp2_with fail
  go_ret2
  exact ⟨rfl, rfl⟩

/-- An item that was just laid. -/
theorem cells_new (w : World) (cs : List Value) (t : TypeId) : ∀ j u, cs[j]? = some u → (w.alloc (.cells cs.toArray t)).cell? ((⟨w.heap.size, 0, none⟩ : Addr).add j) = some u := by
  intro j u hj
  rw [addr_add, Nat.zero_add, (Box.new w t cs.toArray).cell]
  simpa using hj
def lenW : Value → Nat
  | .slice _ n _ => n
  | _ => 0
theorem row_len {T : TypeId} {size n base : Nat} {w : World} {v : Value} {X : List Value} (h : w.ownsRow base T size v n X) : lenW v = n := by
  rcases h.2 with ⟨rfl, h0⟩ | ⟨g, cap, cur, rfl, _⟩
  · rw [h0]; rfl
  · rfl
theorem row_ge {T : TypeId} {size n base : Nat} {w : World} {v : Value} {X : List Value} (h : w.ownsRow base T size v n X) : ∀ x, v.ownBlock = some x → base ≤ x ∧ x < w.heap.size := fun x hx => h.lt x hx

set_option maxRecDepth 10000 in
set_option maxHeartbeats 1600000 in
theorem rytake_even {w : World} {A A' : Option Addr} {t ns : List UInt8} {n q : Nat} (hn : t.length = n) (hlq : n = 24 * q) (hq4 : q ≤ 400) (hr : Rd w w.heap.size A t) (hr' : Rd w w.heap.size A' ns) (c c' : Nat) (hlc : n ≤ c) (hcm : c ≤ maxLen) (hlc' : ns.length ≤ c') (hcm' : c' ≤ maxLen) (hl' : ns.length ≤ 1000000) :
    Calls Try.prog 8 #[.slice A n c, .slice A' ns.length c'] w fun r w' => ∃ u, r = .returned (.tuple #[u, .int .i64 (errOf (okTo (okK t ns) q) 23)]) ∧ (okTo (okK t ns) q = true → OwnY w' w.heap.size u (listTo (symK t ns) q)) ∧ (okTo (okK t ns) q = false → u = .slice none 0 0) ∧ Below w.heap.size w w' := by
  have hq : decide ((400 : Int) < (q : Int)) = false := decide_eq_false (by omega)
  have hlc0 : t.length ≤ c := by omega
  have HLQ := Lib.hid (show t.length = 24 * q by omega)
  have HNQ := Lib.hid (show n = 24 * q by omega)
  have HQ4 := Lib.hid hq4
  have hm := modI n
  have hd := divI n
  rw [show n % 24 = 0 by omega] at hm
  rw [show n / 24 = q by omega] at hd
  have hm' : (n : Int) % 24 = 0 := by omega
  have hd' : (n : Int) / 24 = (q : Int) := by omega
  have hqw : wrap64 (q : Int) = (q : Int) := by unfold wrap64; omega
  obtain ⟨i1, hj, hy0, hy1, hy2⟩ := info_parts sym_info
  have HA := Lib.hid (fun (W : World) (hW : Below w.heap.size w W) (off : Nat) (ho : off < two64) => rat_any ((hr'.below hW).more hW.size) c' hlc' hcm' hl' off ho)
  have hb0 : Below w.heap.size w (w.alloc (.cells #[.slice A n c, .int .i64 0, .int .i64 0] 63)) := (Below.refl _ _).alloc (Nat.le_refl _) _
  have hR0 : RR w.heap.size (w.alloc (.cells #[.slice A n c, .int .i64 0, .int .i64 0] 63)) w.heap.size (.slice A n c) t 0 0 :=
    ⟨Box.new _ _ _, ⟨A, c, by rw [hn], hlc0, hcm, hr.below hb0⟩, Nat.zero_le _, Nat.le_refl _⟩
  obtain ⟨w1, hw1⟩ : ∃ w1, w.alloc (.cells #[.slice A n c, .int .i64 0, .int .i64 0] 63) = w1 := ⟨_, rfl⟩
  have hg1 : w.heap.size < w1.heap.size := by rw [← hw1]; simp
  rw [hw1] at hb0 hR0
  have HW := Lib.hid hw1
  have HB0 := Lib.hid hb0
  have HR0 := Lib.hid hR0
  clear hr hr' hl' hlc' hcm' hn hlq hq4 hlc hlc0 hcm hb0 hR0 hw1
  generalize hn' : ns.length = n' at *
  clear hn'
  go_enter Try.func8, Try.ntmps8
  go_wp2_with fail
  rw [HW.out]
  clear hm hd hq hm' hd' hqw
  go_loopw [7] (fun u wr => ∃ k a : Nat, k ≤ q ∧ Hid (a = 24 * k) ∧ Hid (okTo (okK t ns) k = true) ∧ OwnY wr w1.heap.size u (listTo (symK t ns) k) ∧ RR w.heap.size wr w.heap.size (.slice A n c) t a 0 ∧ Below w.heap.size w wr ∧ w1.heap.size ≤ wr.heap.size) (fun u _ => q - lenW u)
  case atStart => exact ⟨0, 0, Nat.zero_le _, Lib.hid rfl, Lib.hid rfl, World.ownsRow_nil _ _ _ _, HR0.out, HB0.out, Nat.le_refl _⟩
  case round =>
    obtain ⟨k, a, hk, HAK, HOK, hO, hR, hB, hS⟩ := hrel
    have c1 := rr_cell_at hR
    by_cases hlt : k < q
    · have HLT := Lib.hid hlt
      have hltn : a < n := by have := HAK.out; have := HNQ.out; omega
      have hlen : t.length ≤ 140737488355328 := by rw [HLQ.out]; have := HQ4.out; omega
      have hin : a + 24 ≤ t.length := by rw [HLQ.out, HAK.out]; omega
      have HU := Lib.hid (q_num hR 4 (by decide) hlen (by omega))
      have HK := Lib.hid (show symK t ns k = ⟨(atT ns (numT t a 4)).1, ((numT t (a + 4) 1 / 16 : Nat) : Int), ((numT t (a + 4) 1 % 16 : Nat) : Int), (numT t (a + 6) 2 : Int), numT t (a + 8) 8, numT t (a + 16) 8⟩ by rw [HAK.out]; rfl)
      have HO := Lib.hid (show okK t ns k = (decide ((atT ns (numT t a 4)).2 = 0) && decide (numT t (a + 6) 2 ≤ 65534)) by rw [HAK.out]; rfl)
      have hn4 := num4 t a
      have hn1 := num1 t (a + 4)
      have hn2 := num2 t (a + 6)
      generalize numT t a 4 = m0 at *
      obtain ⟨nm, hnm⟩ : ∃ x, (atT ns m0).1 = x := ⟨_, rfl⟩
      obtain ⟨ev, hev⟩ : ∃ x, (atT ns m0).2 = x := ⟨_, rfl⟩
      have HAm := Lib.hid (fun (W : World) (hW : Below w.heap.size w W) => HA.out W hW m0 (by unfold two64; omega))
      rw [hnm, hev] at HAm
      rw [hnm] at HK
      rw [hev] at HO
      clear hnm hev HA
      have HX := Lib.hid hO
      have HB := Lib.hid hB
      have HRR := Lib.hid hR
      have FB := Lib.hid (fun (w2 : World) (hR2 : RR w.heap.size w2 w.heap.size (.slice A n c) t (a + 4) 0) (hG2 : wr.grownBy w2 (some w.heap.size)) => (by
        have hB2 : Below w.heap.size w w2 := below_only HB.out (Nat.le_refl _) hG2 (Nat.le_refl _)
        refine ⟨hB2, fun w3 hb3 => ?_⟩
        have hA3 : Below w3.heap.size w3 (w3.alloc (.cells #[.string ⟨nm.toArray⟩, .int .i64 0, .int .i64 0, .int .i64 0, .int .u64 0, .int .u64 0] 51)) := (Below.refl _ _).alloc (Nat.le_refl _) _
        have hb23 : Below w2.heap.size w2 (w3.alloc (.cells #[.string ⟨nm.toArray⟩, .int .i64 0, .int .i64 0, .int .i64 0, .int .u64 0, .int .u64 0] 51)) := hb3.trans (hA3.mono hb3.size)
        exact ⟨hR2.below hb23, Box.new _ _ _, only_trans hG2 (only_below hb23 (some w.heap.size)) (.inl rfl)⟩ :
        Below w.heap.size w w2 ∧ ∀ w3, Below w2.heap.size w2 w3 → StQ 51 w.heap.size wr (w3.alloc (.cells #[.string ⟨nm.toArray⟩, .int .i64 0, .int .i64 0, .int .i64 0, .int .u64 0, .int .u64 0] 51)) w.heap.size (.slice A n c) t (a + 4) w3.heap.size #[.string ⟨nm.toArray⟩, .int .i64 0, .int .i64 0, .int .i64 0, .int .u64 0, .int .u64 0]))
      clear hO hB hR
      go_wp2_with (first
        | (go_at_call 29; refine HU.out.mono ?_; rintro r w2 ⟨rfl, hR2, hG2⟩; (obtain ⟨hB2, hF2⟩ := FB.out _ hR2 hG2); have hS2 := hG2.size; clear hR2 hG2 HU FB)
        | (go_at_call 28; refine (HAm.out _ hB2).mono ?_; rintro r w3 ⟨rfl, hb3⟩; have HS3 := Lib.hid (hF2 _ hb3); have hS3 := hb3.size; clear hb3 hF2 hB2 HAm))
      have hne : w.heap.size ≠ w3.heap.size := by omega
      have hBH : w.heap.size ≤ w3.heap.size := by omega
      have hwH : wr.heap.size ≤ w3.heap.size := by omega
      have hlen : t.length ≤ 140737488355328 := by rw [HLQ.out]; have := HQ4.out; omega
      have hin : a + 24 ≤ t.length := by rw [HLQ.out, HAK.out]; have := HLT.out; omega
      generalize w3.heap.size = H at *
      have C1 := Lib.hid (fun W cs (hS : StQ 51 w.heap.size wr W w.heap.size (.slice A n c) t (a + 4) H cs) => hS.num hne 1 (by decide) hlen (by omega))
      have C2 := Lib.hid (fun W cs (hS : StQ 51 w.heap.size wr W w.heap.size (.slice A n c) t (a + 4 + 1) H cs) => hS.num hne 1 (by decide) hlen (by omega))
      have C3 := Lib.hid (fun W cs (hS : StQ 51 w.heap.size wr W w.heap.size (.slice A n c) t (a + 6) H cs) => hS.num hne 2 (by decide) hlen (by omega))
      have C4 := Lib.hid (fun W cs (hS : StQ 51 w.heap.size wr W w.heap.size (.slice A n c) t (a + 8) H cs) => hS.num hne 8 (by decide) hlen (by omega))
      have C5 := Lib.hid (fun W cs (hS : StQ 51 w.heap.size wr W w.heap.size (.slice A n c) t (a + 16) H cs) => hS.num hne 8 (by decide) hlen (by omega))
      clear hlen hin hS2 hS3
      generalize numT t (a + 4) 1 = m1 at *
      generalize numT t (a + 4 + 1) 1 = m9 at *
      generalize numT t (a + 6) 2 = m3 at *
      generalize numT t (a + 8) 8 = m4 at *
      generalize numT t (a + 16) 8 = m5 at *
      have e1 : (m1 : Int) / 16 = ((m1 / 16 : Nat) : Int) := by omega
      have e2 : (m1 : Int) % 16 = ((m1 % 16 : Nat) : Int) := by omega
      have e3 : IntKind.i64.wrap ((m1 / 16 : Nat) : Int) = ((m1 / 16 : Nat) : Int) := by rw [IntWalk.i64_in _ (by omega)]
      have e4 : IntKind.i64.wrap ((m1 % 16 : Nat) : Int) = ((m1 % 16 : Nat) : Int) := by rw [IntWalk.i64_in _ (by omega)]
      have e5 : IntKind.i64.wrap (m3 : Int) = (m3 : Int) := by rw [IntWalk.i64_in _ (by omega)]
      generalize m1 / 16 = p1 at *
      generalize m1 % 16 = p2 at *
      refine (C1.out _ _ HS3.out).mono ?_
      rintro r w4 ⟨rfl, h⟩
      have HS4 := Lib.hid (show StQ 51 w.heap.size wr w4 w.heap.size (.slice A n c) t (a + 4 + 1) H _ from h)
      clear h C1 HS3
      go_wp2_with fail
      refine (C2.out _ _ HS4.out).mono ?_
      rintro r w5 ⟨rfl, h⟩
      have c0 := h.2.1.cell 1
      have fr0 := h.2.1.free 1
      have c1 := h.2.1.cell 2
      have fr1 := h.2.1.free 2
      simp at c0 c1
      have HS5 := Lib.hid (show StQ 51 w.heap.size wr _ w.heap.size (.slice A n c) t (a + 6) H #[.string ⟨nm.toArray⟩, .int .i64 (p1 : Int), .int .i64 (p2 : Int), .int .i64 0, .int .u64 0, .int .u64 0] from (h.set hne hBH hwH 1 (.int .i64 (p1 : Int))).set hne hBH hwH 2 (.int .i64 (p2 : Int)))
      clear h C2 HS4
      go_wp2_with fail
      refine (C3.out _ _ HS5.out).mono ?_
      rintro r w6 ⟨rfl, h⟩
      clear c0 c1 fr0 fr1
      have c0 := h.2.1.cell 3
      have fr0 := h.2.1.free 3
      simp at c0
      have HS6 := Lib.hid (show StQ 51 w.heap.size wr _ w.heap.size (.slice A n c) t (a + 8) H #[.string ⟨nm.toArray⟩, .int .i64 (p1 : Int), .int .i64 (p2 : Int), .int .i64 (m3 : Int), .int .u64 0, .int .u64 0] from h.set hne hBH hwH 3 (.int .i64 (m3 : Int)))
      clear h C3 HS5
      go_wp2_with fail
      refine (C4.out _ _ HS6.out).mono ?_
      rintro r w7 ⟨rfl, h⟩
      clear c0 fr0
      have c0 := h.2.1.cell 4
      have fr0 := h.2.1.free 4
      simp at c0
      have HS7 := Lib.hid (show StQ 51 w.heap.size wr _ w.heap.size (.slice A n c) t (a + 16) H #[.string ⟨nm.toArray⟩, .int .i64 (p1 : Int), .int .i64 (p2 : Int), .int .i64 (m3 : Int), .int .u64 (m4 : Int), .int .u64 0] from h.set hne hBH hwH 4 (.int .u64 (m4 : Int)))
      clear h C4 HS6
      go_wp2_with fail
      refine (C5.out _ _ HS7.out).mono ?_
      rintro r w8 ⟨rfl, h⟩
      clear c0 fr0
      obtain ⟨k0, k1, k2, k3, k4, k5⟩ := six_cells h.2.1
      have fr0 := h.2.1.free 5
      have HS8 := Lib.hid (show StQ 51 w.heap.size wr _ w.heap.size (.slice A n c) t (a + 24) H #[.string ⟨nm.toArray⟩, .int .i64 (p1 : Int), .int .i64 (p2 : Int), .int .i64 (m3 : Int), .int .u64 (m4 : Int), .int .u64 (m5 : Int)] from h.set hne hBH hwH 5 (.int .u64 (m5 : Int)))
      clear h C5 HS7
      by_cases he : ev = 0
      · have q0 : (ev != 0) = false := by simp [he]
        rw [decide_eq_true he, Bool.true_and] at HO
        clear he
        by_cases h5 : m3 ≤ 65534
        · have q1 : ((m3 : Int) == 65535) = false := by simp; omega
          rw [decide_eq_true h5] at HO
          clear h5
          have hRow := World.ownsRow.kept (w := wr) HX.out HS8.out.2.2 (block_not (fun y hy => (row_ge HX.out y hy).1) hg1)
          have hlt7 : (listTo (symK t ns) k).length = k := listTo_length _ _
          rw [hlt7] at hRow
          have HRW := Lib.hid hRow
          have h63 : k + 1 ≤ maxLen := by have := HLT.out; have := HQ4.out; unfold maxLen; omega
          have hby : (k + 1) * 56 ≤ 140737488355328 := by have := HLT.out; have := HQ4.out; omega
          have H63 := Lib.hid h63
          have HBY := Lib.hid hby
          have HS := Lib.hid hS
          have HG9 := Lib.hid HS8.out.2.2
          clear hRow hlt7 h63 hby
          have HCN := Lib.hid (show ∀ j u, (Sym.cells ⟨nm, p1, p2, m3, m4, m5⟩)[j]? = some u → ((w8.setCell ⟨H, 5, none⟩ (.int .u64 (m5 : Int))).alloc (.cells (Sym.cells ⟨nm, p1, p2, m3, m4, m5⟩).toArray 51)).cell? ((⟨w8.heap.size, 0, none⟩ : Addr).add j) = some u from fun j u hj => by
            have := cells_new (w8.setCell ⟨H, 5, none⟩ (.int .u64 (m5 : Int))) _ 51 j u hj
            rwa [heap_size_set] at this)
          have hbs : w1.heap.size ≤ ((w8.setCell ⟨H, 5, none⟩ (.int .u64 (m5 : Int))).alloc (.cells (Sym.cells ⟨nm, p1, p2, m3, m4, m5⟩).toArray 51)).heap.size := by have := HS.out; have := HG9.out.size; simp at *; omega
          go_wp2_with (at_builtin; (refine wpList_append_own_at _ (by rfl) (.tmp 68) (.tmp 70) _ (by rfl) w1.heap.size 51 i1 _ 6 56 Try.underlying24 hj hy0 hy1 hy2 rfl (by decide) u7 k (cellsF Sym.cells (listTo (symK t ns) k)) (by rfl) (HRW.out.alloc _) ⟨w8.heap.size, 0, none⟩ 1 1 (Sym.cells ⟨nm, p1, p2, m3, m4, m5⟩) (by rfl) rfl (HCN.out) (sym_one _) H63.out HBY.out hbs ?_; intro v4 w4 hown4 hg4 hn4 hat4; clear hn4))
          have hge := row_ge HX.out
          have hA9 : Below (w8.setCell ⟨H, 5, none⟩ (.int .u64 (m5 : Int))).heap.size (w8.setCell ⟨H, 5, none⟩ (.int .u64 (m5 : Int))) ((w8.setCell ⟨H, 5, none⟩ (.int .u64 (m5 : Int))).alloc (.cells (Sym.cells ⟨nm, p1, p2, m3, m4, m5⟩).toArray 51)) := (Below.refl _ _).alloc (Nat.le_refl _) _
          have hB9 := below_only HB.out (Nat.le_refl _) HS8.out.2.2 (Nat.le_refl _)
          have hRR := (HS8.out.1.below hA9).grown hg4 (fun e => by have := (hge _ e.symm).1; omega) (fun x hx => by have := (hge x hx).1; omega)
          have hBB := (hB9.trans (hA9.mono hB9.size)).grown hg4 (Nat.le_trans hB9.size hA9.size) (fun x hx => by have := (hge x hx).1; omega)
          have hl1 := row_len hown4
          have hl2 := row_len HX.out
          rw [listTo_length] at hl2
          refine ⟨⟨k + 1, a + 24, HLT.out, Lib.hid (by rw [HAK.out]; omega), Lib.hid (by rw [okTo_next, HOK.out, HO.out]; rfl), ?_, hRR, hBB, ?_⟩, by rw [hl1, hl2]; have := HLT.out; omega⟩
          · rw [OwnY, listTo_length, listTo_next, cellsF_append, cellsF_one, HK.out]
            exact hown4
          · exact Nat.le_trans hbs hg4.size
        · have q1 : ((m3 : Int) == 65535) = true := by simp; omega
          rw [decide_eq_false h5] at HO
          have HF := Lib.hid (okTo_more HLT.out (show okK t ns k = false by rw [HO.out]))
          clear h5
          go_wp2_with fail
          go_ret2
          exact ⟨_, by rw [HF.out]; rfl, fun h => absurd (HF.out.symm.trans h) (by decide), fun _ => rfl, below_only HB.out (Nat.le_refl _) HS8.out.2.2 (Nat.le_refl _)⟩
      · have q0 : (ev != 0) = true := by simpa using he
        rw [decide_eq_false he, Bool.false_and] at HO
        have HF := Lib.hid (okTo_more HLT.out (show okK t ns k = false by rw [HO.out]))
        clear he
        go_wp2_with fail
        go_ret2
        exact ⟨_, by rw [HF.out]; rfl, fun h => absurd (HF.out.symm.trans h) (by decide), fun _ => rfl, below_only HB.out (Nat.le_refl _) HS8.out.2.2 (Nat.le_refl _)⟩
    · have hkq : k = q := by omega
      subst hkq
      have hltn : ¬ a < n := by have := HAK.out; have := HNQ.out; omega
      have HD := Lib.hid (show OwnY wr w.heap.size u7 (listTo (symK t ns) k) from row_base hO (by omega))
      have HB := Lib.hid hB
      clear hO hR hB
      go_wp2_with fail
      go_ret2
      exact ⟨_, by rw [HOK.out]; rfl, fun _ => HD.out, fun h => absurd (HOK.out.symm.trans h) (by decide), HB.out⟩

/-- The document's Take, of whatever bytes. -/
theorem rytake_any {w : World} {A A' : Option Addr} {t ns : List UInt8} (hr : Rd w w.heap.size A t) (hr' : Rd w w.heap.size A' ns) (c c' : Nat) (hlc : t.length ≤ c) (hcm : c ≤ maxLen) (hlc' : ns.length ≤ c') (hcm' : c' ≤ maxLen) (hl : t.length ≤ 1000000) (hl' : ns.length ≤ 1000000) :
    Calls Try.prog 8 #[.slice A t.length c, .slice A' ns.length c'] w fun r w' => ∃ u, r = .returned (.tuple #[u, .int .i64 (takeEY t.length (okK t ns) 23)]) ∧ OwnY w' w.heap.size u (takeLY t.length (okK t ns) (symK t ns)) ∧ Below w.heap.size w w' := by
  by_cases h1 : t.length % 24 ≠ 0
  · rw [takeEY_odd h1, takeLY_odd h1]
    exact (rytake_odd A A' _ _ c c' h1).mono fun r w' ⟨e, hw⟩ => ⟨_, e, World.ownsRow_nil _ _ _ _, hw ▸ Below.refl _ _⟩
  · by_cases h2 : 400 < t.length / 24
    · rw [takeEY_big h1 h2, takeLY_big h1 h2]
      exact (rytake_big A A' _ _ c c' hl h1 h2).mono fun r w' ⟨e, hw⟩ => ⟨_, e, World.ownsRow_nil _ _ _ _, hw ▸ Below.refl _ _⟩
    · have hq : t.length = 24 * (t.length / 24) := by omega
      refine (rytake_even rfl hq (by omega) hr hr' c c' hlc hcm hlc' hcm' hl').mono fun r w' ⟨u, e, g1, g2, hb⟩ => ⟨u, ?_, ?_, hb⟩
      · rw [e]
        cases ho : okTo (okK t ns) (t.length / 24) with
        | true => rw [takeEY_ok hq (by omega) ho]; rfl
        | false => rw [takeEY_bad hq (by omega) ho]; rfl
      · cases ho : okTo (okK t ns) (t.length / 24) with
        | true => rw [takeLY_ok hq (by omega) ho]; exact g1 ho
        | false => rw [takeLY_bad hq (by omega) ho, g2 ho]; exact World.ownsRow_nil _ _ _ _

end Go.Proofs.Ytkadjejjillmmaa
