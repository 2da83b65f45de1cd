/-
  Package raw: numeral, whole, Put.
-/
import Derived.Test.YtejicboemkpeoaaGreatDoorRwE
import Derived.Test.YtejicboemkpeoaaGreatDoorAbM
import Derived.Test.YtejicboemkpeoaaGreatDoorLtD
import Derived.Test.YtejicboemkpeoaaGreatDoorPoO
import Derived.Test.YtejicboemkpeoaaGreatDoorCsL
import Derived.Test.YtejicboemkpeoaaGreatDoorAbK
import Derived.Test.YtejicboemkpeoaaGreatDoorCsQ
import Derived.Test.YtejicboemkpeoaaGreatDoorLebP
import Derived.Test.YtejicboemkpeoaaGreatDoorAbH
namespace Go.Proofs.YtejicboemkpeoaaGreatDoor
open Go Go.RowKit

theorem kind5 {n : Nat} (hn : n < 45) (h : kindF (n : Int) = 5) : n = 8 := by
  have : ∀ m : Fin 45, kindF ((m : Nat) : Int) = 5 → (m : Nat) = 8 := by decide
  exact this ⟨n, hn⟩ h
theorem kind3 {n : Nat} (hn : n < 45) (h : kindF (n : Int) = 3) : n = 13 ∨ n = 33 := by
  have : ∀ m : Fin 45, kindF ((m : Nat) : Int) = 3 → (m : Nat) = 13 ∨ (m : Nat) = 33 := by decide
  exact this ⟨n, hn⟩ h
def sizOk (m : Nat) (b : Bool) : Bool := decide (kindF (m : Int) = 0) || decide (m = 25) || decide (m = 33) || decide (m = 8) || decide (m = 30) || (decide (rsizF (m : Int) b = 0) && decide (widF (m : Int) b = -1)) || (decide (rsizF (m : Int) b ≠ 0) && decide (widF (m : Int) b = rsizF (m : Int) b) && decide (widF (m : Int) b ≠ -1))
theorem rsizF_ways {n : Nat} (hn : n < 45) (hk : kindF (n : Int) ≠ 0) (h25 : n ≠ 25) (h33 : n ≠ 33) (h8 : n ≠ 8) (h30 : n ≠ 30) (wide : Bool) : (rsizF (n : Int) wide = 0 ∧ widF (n : Int) wide = -1) ∨ (rsizF (n : Int) wide ≠ 0 ∧ widF (n : Int) wide = rsizF (n : Int) wide ∧ widF (n : Int) wide ≠ -1) := by
  have h : ∀ m : Fin 45, sizOk m wide = true := by cases wide <;> decide
  have := h ⟨n, hn⟩
  simp only [sizOk, Bool.or_eq_true, Bool.and_eq_true, decide_eq_true_eq] at this
  rcases this with (((((e | e) | e) | e) | e) | e) | e
  · exact absurd e hk
  · exact absurd e h25
  · exact absurd e h33
  · exact absurd e h8
  · exact absurd e h30
  · exact .inl e
  · exact .inr ⟨e.1.1, e.1.2, e.2⟩
theorem numW_ref {l : List UInt8} {f : Int} {wide : Bool} {s : CSt} (h : s.2 ≠ 0) : (numW l f wide s).2 = s := by
  unfold numW
  split
  · rfl
  · show sN l (widF f wide) s = s
    unfold sN
    split
    · exact (sU_ref h).2
    · unfold nextAt nextErr
      rw [if_neg (fun e => h e.1), if_neg h]

set_option maxRecDepth 10000 in
set_option maxHeartbeats 1600000 in
theorem rnumber_st {B : Nat} {w : World} {g : Nat} {v : Value} {l : List UInt8} {s : CSt} (h : RR B w g v l s.1 s.2) (hlen : l.length ≤ 140737488355328) {n : Nat} (hn : n < 45) (hk : kindF (n : Int) ≠ 0) (h25 : n ≠ 25) (h33 : n ≠ 33) (h8 : n ≠ 8) (h30 : n ≠ 30) (wide : Bool) :
    Calls Tryz.prog 141 #[.pointer (some ⟨g, 0, none⟩), .int .i64 (n : Int), .bool wide] w fun r w' => r = .returned (.int .u64 ((numW l (n : Int) wide s).1 : Int)) ∧ RR B w' g v l (numW l (n : Int) wide s).2.1 (numW l (n : Int) wide s).2.2 ∧ w.grownBy w' (some g) := by
  have HS := Lib.hid (fun W => rsize_any W (n : Int) wide)
  have HU := Lib.hid (ru_st (s := s) h hlen)
  have HQ := Lib.hid (quint_cur h (widF (n : Int) wide) (widF_in n hn wide) hlen)
  have HE := Lib.hid (show numW l (n : Int) wide s = if widF (n : Int) wide = -1 then (tU l s, sU l s) else (leNat (nextGot l s.1 s.2 (clampOf (widF (n : Int) wide))), (nextAt l s.1 s.2 (clampOf (widF (n : Int) wide)), nextErr l s.1 s.2 (clampOf (widF (n : Int) wide)))) by
    unfold numW tN sN
    rw [if_neg (by omega)]
    split <;> rfl)
  have hw := rsizF_ways hn hk h25 h33 h8 h30 wide
  generalize numW l (n : Int) wide s = R at *
  generalize widF (n : Int) wide = z at *
  generalize rsizF (n : Int) wide = y at *
  clear h hn hk h25 h33 h8 h30
  go_enter Tryz.func141, Tryz.ntmps141
  go_upto_region 2 with (go_at_call 148; refine (HS.out _).mono ?_; rintro r w1 ⟨rfl, rfl⟩)
  rcases hw with ⟨h0, h1⟩ | ⟨h0, h1, h2⟩
  · have q : (y == 0) = true := by simpa using h0
    rw [if_pos h1] at HE
    clear h0 h1
    go_wp2_with (go_at_call 94; refine HU.out.mono ?_; rintro r w2 ⟨rfl, hC2, hG2⟩; have HC2 := Lib.hid hC2; have HG2 := Lib.hid hG2; clear hC2 hG2)
    go_ret
    exact ⟨by rw [HE.out]; rfl, by rw [HE.out]; exact HC2.out, HG2.out⟩
  · have q : (y == 0) = false := by simpa using h0
    rw [if_neg h2] at HE
    subst h1
    clear h0 h2
    go_wp2_with (go_at_call 58; refine HQ.out.mono ?_; rintro r w2 ⟨rfl, hC2, hG2⟩; have HC2 := Lib.hid hC2; have HG2 := Lib.hid hG2; clear hC2 hG2)
    go_ret
    exact ⟨by rw [HE.out]; rfl, by rw [HE.out]; exact HC2.out, HG2.out⟩

end Go.Proofs.YtejicboemkpeoaaGreatDoor

namespace Go.Proofs.YtejicboemkpeoaaGreatDoor
open Go Go.RowKit

theorem int_beqR (a b : Int) : (a == b) = decide (a = b) := by rw [Bool.eq_iff_iff, beq_iff_eq, decide_eq_true_eq]
theorem nat_beqR (a b : Nat) : ((a : Int) == (b : Int)) = decide (a = b) := by rw [int_beqR]; exact decide_eq_decide.2 (by omega)
/-- Are two values alike? -/
def sameV (x y : RV) : Bool := decide (x.form = y.form) && (decide (x.u = y.u) && (decide (x.s = y.s) && (decide (x.b = y.b) && decide (x.t = y.t))))
theorem sameV_self (x : RV) : sameV x x = true := by simp [sameV]
theorem bytes_equal {w : World} {B B' : Nat} {A A' : Option Addr} {l m : List UInt8} (h : Rd w B A l) (h' : Rd w B' A' m) (c c' : Nat) :
    Calls Tryz.prog 203 #[.slice A l.length c, .slice A' m.length c'] w fun r w' => r = .returned (.bool (decide (l = m))) ∧ w = w' := by
  have e := str_eq l m
  obtain ⟨sb, hsb⟩ : ∃ s : ByteArray, s = ⟨l.toArray⟩ := ⟨_, rfl⟩
  obtain ⟨sc, hsc⟩ : ∃ s : ByteArray, s = ⟨m.toArray⟩ := ⟨_, rfl⟩
  have cv1 := conv_as hsb (conv_rd h c)
  have cv2 := conv_as hsc (conv_rd h' c')
  rw [← hsb, ← hsc] at e
  generalize decide (l = m) = d at *
  generalize l.length = n at *
  generalize m.length = n' at *
  clear h h' hsb hsc
  go_enter Tryz.func203, Tryz.ntmps203
  go_wp2
  go_ret
  exact ⟨by rw [← e]; rfl, rfl⟩

set_option maxRecDepth 10000 in
set_option maxHeartbeats 3200000 in
theorem sameV_any {w : World} (y z : WLay) (hy : Rd w w.heap.size y.a y.x.b) (hz : Rd w w.heap.size z.a z.x.b) :
    Calls Tryz.prog 179 #[.agg #[.int .i64 y.x.form, .int .u64 (y.x.u : Int), .int .i64 y.x.s, .slice y.a y.x.b.length y.c, .string ⟨y.x.t.toArray⟩], .agg #[.int .i64 z.x.form, .int .u64 (z.x.u : Int), .int .i64 z.x.s, .slice z.a z.x.b.length z.c, .string ⟨z.x.t.toArray⟩]] w fun r w' => r = .returned (.bool (sameV y.x z.x)) ∧ Below w.heap.size w w' := by
  have HS := Lib.hid (show sameV y.x z.x = (decide (y.x.form = z.x.form) && (decide (y.x.u = z.x.u) && (decide (y.x.s = z.x.s) && (decide (y.x.b = z.x.b) && decide (y.x.t = z.x.t))))) from rfl)
  have e0 := int_beqR y.x.form z.x.form
  have e1 := nat_beqR y.x.u z.x.u
  have e2 := int_beqR y.x.s z.x.s
  have e4 := str_eq y.x.t z.x.t
  have HEQ := Lib.hid (fun W (hW : Below w.heap.size w W) => bytes_equal (w := W) (hy.below hW) (hz.below hW) y.c z.c)
  have hA1 := (Below.refl w.heap.size w).alloc (Nat.le_refl _) (.cells #[.int .i64 y.x.form, .int .u64 (y.x.u : Int), .int .i64 y.x.s, .slice y.a y.x.b.length y.c, .string ⟨y.x.t.toArray⟩] 63)
  have hA2 := hA1.alloc hA1.size (.cells #[.int .i64 z.x.form, .int .u64 (z.x.u : Int), .int .i64 z.x.s, .slice z.a z.x.b.length z.c, .string ⟨z.x.t.toArray⟩] 63)
  have HA2 := Lib.hid hA2
  clear hA1 hA2 hy hz
  generalize (sameV y.x z.x) = R at *
  generalize y.x.b.length = yn at *
  generalize z.x.b.length = zn at *
  generalize decide (y.x.form = z.x.form) = d0 at *
  generalize decide (y.x.u = z.x.u) = d1 at *
  generalize decide (y.x.s = z.x.s) = d2 at *
  generalize decide (y.x.b = z.x.b) = d3 at *
  generalize decide (y.x.t = z.x.t) = d4 at *
  generalize y.x.form = y0 at *
  generalize y.x.u = y1 at *
  generalize y.x.s = y2 at *
  generalize (ByteArray.mk y.x.t.toArray) = y4 at *
  generalize z.x.form = z0 at *
  generalize z.x.u = z1 at *
  generalize z.x.s = z2 at *
  generalize (ByteArray.mk z.x.t.toArray) = z4 at *
  generalize y.a = ya at *
  generalize y.c = yc at *
  generalize z.a = za at *
  generalize z.c = zc at *
  cases d0 with
  | false =>
    clear e1 e2 e4 HEQ
    go_enter Tryz.func179, Tryz.ntmps179
    go_wp2_with fail
    go_ret
    exact ⟨by rw [HS.out]; rfl, HA2.out⟩
  | true =>
  cases d1 with
  | false =>
    clear e2 e4 HEQ
    go_enter Tryz.func179, Tryz.ntmps179
    go_wp2_with fail
    go_ret
    exact ⟨by rw [HS.out]; rfl, HA2.out⟩
  | true =>
  cases d2 with
  | false =>
    clear e4 HEQ
    go_enter Tryz.func179, Tryz.ntmps179
    go_wp2_with fail
    go_ret
    exact ⟨by rw [HS.out]; rfl, HA2.out⟩
  | true =>
  cases d3 with
  | false =>
    clear e4
    go_enter Tryz.func179, Tryz.ntmps179
    go_wp2_with (go_at_call 203; refine (HEQ.out _ HA2.out).mono ?_; rintro r w3 ⟨rfl, rfl⟩)
    go_ret
    exact ⟨by rw [HS.out]; rfl, HA2.out⟩
  | true =>
    go_enter Tryz.func179, Tryz.ntmps179
    go_wp2_with (go_at_call 203; refine (HEQ.out _ HA2.out).mono ?_; rintro r w3 ⟨rfl, rfl⟩)
    go_ret
    exact ⟨by rw [HS.out]; rfl, HA2.out⟩

set_option maxRecDepth 10000 in
set_option maxHeartbeats 3200000 in
theorem rsameV_any {w : World} (y z : WLay) (hy : Rd w w.heap.size y.a y.x.b) (hz : Rd w w.heap.size z.a z.x.b) :
    Calls Tryz.prog 25 #[.agg #[.int .i64 y.x.form, .int .u64 (y.x.u : Int), .int .i64 y.x.s, .slice y.a y.x.b.length y.c, .string ⟨y.x.t.toArray⟩], .agg #[.int .i64 z.x.form, .int .u64 (z.x.u : Int), .int .i64 z.x.s, .slice z.a z.x.b.length z.c, .string ⟨z.x.t.toArray⟩]] w fun r w' => r = .returned (.bool (sameV y.x z.x)) ∧ Below w.heap.size w w' := by
  have HS := Lib.hid (show sameV y.x z.x = (decide (y.x.form = z.x.form) && (decide (y.x.u = z.x.u) && (decide (y.x.s = z.x.s) && (decide (y.x.b = z.x.b) && decide (y.x.t = z.x.t))))) from rfl)
  have e0 := int_beqR y.x.form z.x.form
  have e1 := nat_beqR y.x.u z.x.u
  have e2 := int_beqR y.x.s z.x.s
  have e4 := str_eq y.x.t z.x.t
  have e3 := str_eq y.x.b z.x.b
  obtain ⟨sb, hsb⟩ : ∃ s : ByteArray, s = ⟨y.x.b.toArray⟩ := ⟨_, rfl⟩
  obtain ⟨sc, hsc⟩ : ∃ s : ByteArray, s = ⟨z.x.b.toArray⟩ := ⟨_, rfl⟩
  have HCV := Lib.hid (fun W (hW : Below w.heap.size w W) => And.intro (conv_as hsb (conv_rd (hy.below hW) y.c)) (conv_as hsc (conv_rd (hz.below hW) z.c)))
  rw [← hsb, ← hsc] at e3
  obtain ⟨cv1, cv2⟩ := HCV.out _ (((Below.refl w.heap.size w).alloc (Nat.le_refl _) (.cells #[.int .i64 y.x.form, .int .u64 (y.x.u : Int), .int .i64 y.x.s, .slice y.a y.x.b.length y.c, .string ⟨y.x.t.toArray⟩] 63)).alloc (by simp) (.cells #[.int .i64 z.x.form, .int .u64 (z.x.u : Int), .int .i64 z.x.s, .slice z.a z.x.b.length z.c, .string ⟨z.x.t.toArray⟩] 63))
  clear hsb hsc HCV
  have hA1 := (Below.refl w.heap.size w).alloc (Nat.le_refl _) (.cells #[.int .i64 y.x.form, .int .u64 (y.x.u : Int), .int .i64 y.x.s, .slice y.a y.x.b.length y.c, .string ⟨y.x.t.toArray⟩] 63)
  have hA2 := hA1.alloc hA1.size (.cells #[.int .i64 z.x.form, .int .u64 (z.x.u : Int), .int .i64 z.x.s, .slice z.a z.x.b.length z.c, .string ⟨z.x.t.toArray⟩] 63)
  have HA2 := Lib.hid hA2
  clear hA1 hA2 hy hz
  generalize (sameV y.x z.x) = R at *
  generalize y.x.b.length = yn at *
  generalize z.x.b.length = zn at *
  generalize decide (y.x.form = z.x.form) = d0 at *
  generalize decide (y.x.u = z.x.u) = d1 at *
  generalize decide (y.x.s = z.x.s) = d2 at *
  generalize decide (y.x.b = z.x.b) = d3 at *
  generalize decide (y.x.t = z.x.t) = d4 at *
  generalize y.x.form = y0 at *
  generalize y.x.u = y1 at *
  generalize y.x.s = y2 at *
  generalize (ByteArray.mk y.x.t.toArray) = y4 at *
  generalize z.x.form = z0 at *
  generalize z.x.u = z1 at *
  generalize z.x.s = z2 at *
  generalize (ByteArray.mk z.x.t.toArray) = z4 at *
  generalize y.a = ya at *
  generalize y.c = yc at *
  generalize z.a = za at *
  generalize z.c = zc at *
  cases d0 with
  | false =>
    clear e1 e2 e4 e3 cv1 cv2
    go_enter Tryz.func25, Tryz.ntmps25
    go_wp2_with fail
    go_ret
    exact ⟨by rw [HS.out]; rfl, HA2.out⟩
  | true =>
  cases d1 with
  | false =>
    clear e2 e4 e3 cv1 cv2
    go_enter Tryz.func25, Tryz.ntmps25
    go_wp2_with fail
    go_ret
    exact ⟨by rw [HS.out]; rfl, HA2.out⟩
  | true =>
  cases d2 with
  | false =>
    clear e4 e3 cv1 cv2
    go_enter Tryz.func25, Tryz.ntmps25
    go_wp2_with fail
    go_ret
    exact ⟨by rw [HS.out]; rfl, HA2.out⟩
  | true =>
  cases d3 with
  | false =>
    clear e4
    go_enter Tryz.func25, Tryz.ntmps25
    go_wp2_with fail
    go_ret
    exact ⟨by rw [HS.out]; rfl, HA2.out⟩
  | true =>
    go_enter Tryz.func25, Tryz.ntmps25
    go_wp2_with fail
    go_ret
    exact ⟨by rw [HS.out]; rfl, HA2.out⟩

end Go.Proofs.YtejicboemkpeoaaGreatDoor

namespace Go.Proofs.YtejicboemkpeoaaGreatDoor
open Go Go.RowKit

/-! ### Attributes, entries -/
/-- An attribute: its number, its value. -/
structure Att where
  at_ : Int
  x : RV
/-- An attribute in memory. -/
structure AtL where
  at_ : Int
  y : WLay
def AtL.cells (t : AtL) : List Value := [.int .i64 t.at_, .int .i64 t.y.x.form, .int .u64 (t.y.x.u : Int), .int .i64 t.y.x.s, .slice t.y.a t.y.x.b.length t.y.c, .string ⟨t.y.x.t.toArray⟩]
def AtL.att (t : AtL) : Att := ⟨t.at_, t.y.x⟩
theorem att_six (t : AtL) : t.cells.length = 6 := rfl
theorem att_one (t : AtL) : ∀ u ∈ t.cells, u.oneCell' = true := by
  intro u hu
  simp only [AtL.cells, List.mem_cons, List.not_mem_nil, or_false] at hu
  rcases hu with rfl | rfl | rfl | rfl | rfl | rfl <;> rfl
/-- An entry. -/
structure Ent where
  off : Nat
  code : Nat
  tag : Int
  parent : Int
  depth : Int
  l : List Att
/-- An entry in memory: with where its attributes are. -/
structure DLay where
  off : Nat
  code : Nat
  tag : Int
  parent : Int
  depth : Int
  L : List AtL
  a : Option Addr
  c : Nat
def DLay.cells (y : DLay) : List Value := [.int .u64 (y.off : Int), .int .u64 (y.code : Int), .int .i64 y.tag, .int .i64 y.parent, .int .i64 y.depth, .slice y.a y.L.length y.c]
def DLay.ent (y : DLay) : Ent := ⟨y.off, y.code, y.tag, y.parent, y.depth, y.L.map AtL.att⟩
theorem ent_six (y : DLay) : y.cells.length = 6 := rfl
theorem ent_one (y : DLay) : ∀ u ∈ y.cells, u.oneCell' = true := by
  intro u hu
  simp only [DLay.cells, List.mem_cons, List.not_mem_nil, or_false] at hu
  rcases hu with rfl | rfl | rfl | rfl | rfl | rfl <;> rfl

/-! ### In memory -/
/-- Attributes that lie side by side, and their bytes. -/
structure Atts (w : World) (B : Nat) (a : Option Addr) (X : List AtL) : Prop where
  row : Row 6 AtL.cells w B a X
  bs : ∀ t ∈ X, Rd w B t.y.a t.y.x.b
/-- Entries that lie side by side, and their attributes. -/
structure Ents (w : World) (B : Nat) (a : Option Addr) (L : List DLay) : Prop where
  row : Row 6 DLay.cells w B a L
  ats : ∀ y ∈ L, Atts w B y.a y.L
section
variable {w w' : World} {B B' : Nat} {a : Option Addr} {X : List AtL} {L : List DLay}
theorem Atts.below (h : Atts w B a X) (hb : Below B w w') : Atts w' B a X := ⟨Row.below h.row hb, fun t ht => (h.bs t ht).below hb⟩
theorem Atts.more (h : Atts w B a X) (hB : B ≤ B') : Atts w B' a X := ⟨Row.more h.row hB, fun t ht => (h.bs t ht).more hB⟩
theorem Atts.up (h : Atts w w.heap.size a X) (hb : Below w.heap.size w w') : Atts w' w'.heap.size a X := (h.below hb).more hb.size
theorem Ents.below (h : Ents w B a L) (hb : Below B w w') : Ents w' B a L := ⟨Row.below h.row hb, fun y hy => (h.ats y hy).below hb⟩
theorem Ents.more (h : Ents w B a L) (hB : B ≤ B') : Ents w B' a L := ⟨Row.more h.row hB, fun y hy => (h.ats y hy).more hB⟩
theorem Ents.up (h : Ents w w.heap.size a L) (hb : Below w.heap.size w w') : Ents w' w'.heap.size a L := (h.below hb).more hb.size
theorem Atts.nil_ : Atts w B a [] := ⟨fun h => absurd h (by decide), fun t ht => by cases ht⟩
theorem Ents.nil_ : Ents w B a [] := ⟨fun h => absurd h (by decide), fun y hy => by cases hy⟩
theorem att_at (h : Atts w B a X) {i : Nat} {t : AtL} (ht : X[i]? = some t) : ∃ b o, a = some ⟨b, o, none⟩ ∧ b < B ∧
    w.cell? ⟨b, o + i * 6, none⟩ = some (.int .i64 t.at_) ∧ w.cell? ⟨b, o + i * 6 + 1, none⟩ = some (.int .i64 t.y.x.form) ∧ w.cell? ⟨b, o + i * 6 + 2, none⟩ = some (.int .u64 (t.y.x.u : Int)) ∧
    w.cell? ⟨b, o + i * 6 + 3, none⟩ = some (.int .i64 t.y.x.s) ∧ w.cell? ⟨b, o + i * 6 + 4, none⟩ = some (.slice t.y.a t.y.x.b.length t.y.c) ∧ w.cell? ⟨b, o + i * 6 + 5, none⟩ = some (.string ⟨t.y.x.t.toArray⟩) := by
  have hl : 0 < X.length := by have := (List.getElem?_eq_some_iff.1 ht).1; omega
  obtain ⟨b, o, e, hlt, hc⟩ := h.row hl
  have h' := hc i t ht
  exact ⟨b, o, e, hlt, h' 0 _ rfl, h' 1 _ rfl, h' 2 _ rfl, h' 3 _ rfl, h' 4 _ rfl, h' 5 _ rfl⟩
theorem ent_at (h : Ents w B a L) {i : Nat} {y : DLay} (hy : L[i]? = some y) : ∃ b o, a = some ⟨b, o, none⟩ ∧ b < B ∧
    w.cell? ⟨b, o + i * 6, none⟩ = some (.int .u64 (y.off : Int)) ∧ w.cell? ⟨b, o + i * 6 + 1, none⟩ = some (.int .u64 (y.code : Int)) ∧ w.cell? ⟨b, o + i * 6 + 2, none⟩ = some (.int .i64 y.tag) ∧
    w.cell? ⟨b, o + i * 6 + 3, none⟩ = some (.int .i64 y.parent) ∧ w.cell? ⟨b, o + i * 6 + 4, none⟩ = some (.int .i64 y.depth) ∧ w.cell? ⟨b, o + i * 6 + 5, none⟩ = some (.slice y.a y.L.length y.c) := by
  have hl : 0 < L.length := by have := (List.getElem?_eq_some_iff.1 hy).1; omega
  obtain ⟨b, o, e, hlt, hc⟩ := h.row hl
  have h' := hc i y hy
  exact ⟨b, o, e, hlt, h' 0 _ rfl, h' 1 _ rfl, h' 2 _ rfl, h' 3 _ rfl, h' 4 _ rfl, h' 5 _ rfl⟩
end
/-- Attributes of the call's own, and their bytes. -/
structure OwnT (T : TypeId) (w : World) (base : Nat) (v : Value) (X : List AtL) : Prop where
  row : w.ownsRow base T 6 v X.length (cellsF AtL.cells X)
  bs : ∀ t ∈ X, Own w base (.slice t.y.a t.y.x.b.length t.y.c) t.y.x.b
/-- Entries of the call's own. -/
structure OwnD (T TE : TypeId) (w : World) (base : Nat) (v : Value) (L : List DLay) : Prop where
  row : w.ownsRow base TE 6 v L.length (cellsF DLay.cells L)
  ats : ∀ y ∈ L, OwnT T w base (.slice y.a y.L.length y.c) y.L
section
variable {T TE : TypeId} {w w' : World} {base base' : Nat} {v : Value} {X : List AtL} {L : List DLay}
theorem OwnT.nil (T : TypeId) (w : World) (base : Nat) : OwnT T w base (.slice none 0 0) [] := ⟨World.ownsRow_nil _ _ _ _, fun t ht => by cases ht⟩
theorem OwnD.nil (T TE : TypeId) (w : World) (base : Nat) : OwnD T TE w base (.slice none 0 0) [] := ⟨World.ownsRow_nil _ _ _ _, fun y hy => by cases hy⟩
theorem OwnT.past {g : Nat} (h : OwnT T w base v X) (hg : w.grownBy w' (some g)) (hlt : g < base) : OwnT T w' base v X := ⟨rown_past h.row hg hlt, fun t ht => rown_past (h.bs t ht) hg hlt⟩
theorem OwnD.past {g : Nat} (h : OwnD T TE w base v L) (hg : w.grownBy w' (some g)) (hlt : g < base) : OwnD T TE w' base v L := ⟨rown_past h.row hg hlt, fun y hy => (h.ats y hy).past hg hlt⟩
theorem OwnT.below (h : OwnT T w base v X) (hb : Below w.heap.size w w') : OwnT T w' base v X := ⟨row_below h.row hb, fun t ht => row_below (h.bs t ht) hb⟩
theorem OwnD.below (h : OwnD T TE w base v L) (hb : Below w.heap.size w w') : OwnD T TE w' base v L := ⟨row_below h.row hb, fun y hy => (h.ats y hy).below hb⟩
theorem OwnT.lower (h : OwnT T w base v X) (hB : base' ≤ base) : OwnT T w base' v X := ⟨own_lower h.row hB, fun t ht => own_lower (h.bs t ht) hB⟩
theorem OwnD.lower (h : OwnD T TE w base v L) (hB : base' ≤ base) : OwnD T TE w base' v L := ⟨own_lower h.row hB, fun y hy => (h.ats y hy).lower hB⟩
/-- Behind a step of a row of another type. -/
theorem OwnT.apart {B' m' n' : Nat} {t' : TypeId} {v' : Value} {xs' : List Value} (h : OwnT T w base v X) (h' : w.ownsRow B' t' m' v' n' xs') (h1 : T ≠ t') (h2 : 5 ≠ t') (hg : w.grownBy w' v'.ownBlock) : OwnT T w' base v X :=
  ⟨own_apart h.row h' h1 hg, fun t ht => own_apart (h.bs t ht) h' h2 hg⟩
theorem OwnD.apart {B' m' n' : Nat} {t' : TypeId} {v' : Value} {xs' : List Value} (h : OwnD T TE w base v L) (h' : w.ownsRow B' t' m' v' n' xs') (h0 : TE ≠ t') (h1 : T ≠ t') (h2 : 5 ≠ t') (hg : w.grownBy w' v'.ownBlock) : OwnD T TE w' base v L :=
  ⟨own_apart h.row h' h0 hg, fun y hy => (h.ats y hy).apart h' h1 h2 hg⟩
theorem OwnT.snoc {v' : Value} {t : AtL} (h : OwnT T w base v X) (ht : Own w base (.slice t.y.a t.y.x.b.length t.y.c) t.y.x.b) (hT : 5 ≠ T) (hg : w.grownBy w' v.ownBlock) (hr : w'.ownsRow base T 6 v' (X.length + 1) (cellsF AtL.cells X ++ t.cells)) : OwnT T w' base v' (X ++ [t]) := by
  refine ⟨?_, fun x hx => ?_⟩
  · rw [List.length_append, cellsF_append, cellsF_one]
    exact hr
  · rcases List.mem_append.1 hx with hx | hx
    · exact own_apart (h.bs x hx) h.row hT hg
    · rw [List.mem_singleton.1 hx]
      exact own_apart ht h.row hT hg
theorem OwnD.snoc {v' : Value} {y : DLay} (h : OwnD T TE w base v L) (ht : OwnT T w base (.slice y.a y.L.length y.c) y.L) (hT : T ≠ TE) (hE : 5 ≠ TE) (hg : w.grownBy w' v.ownBlock) (hr : w'.ownsRow base TE 6 v' (L.length + 1) (cellsF DLay.cells L ++ y.cells)) : OwnD T TE w' base v' (L ++ [y]) := by
  refine ⟨?_, fun x hx => ?_⟩
  · rw [List.length_append, cellsF_append, cellsF_one]
    exact hr
  · rcases List.mem_append.1 hx with hx | hx
    · exact (h.ats x hx).apart h.row hT hE hg
    · rw [List.mem_singleton.1 hx]
      exact ht.apart h.row hT hE hg
theorem OwnT.lies (h : OwnT T w base v X) : ∃ A c, v = .slice A X.length c ∧ X.length ≤ c ∧ c ≤ maxLen ∧ Atts w w.heap.size A X := by
  obtain ⟨A, c, e, h1, h2, hr⟩ := own_row att_six h.row
  refine ⟨A, c, e, h1, h2, hr, fun t ht => ?_⟩
  obtain ⟨A', c', e', -, -, hr'⟩ := own_slice (h.bs t ht)
  injection e' with e1 _ _
  rw [e1]
  exact hr'
theorem OwnD.lies (h : OwnD T TE w base v L) : ∃ A c, v = .slice A L.length c ∧ L.length ≤ c ∧ c ≤ maxLen ∧ Ents w w.heap.size A L := by
  obtain ⟨A, c, e, h1, h2, hr⟩ := own_row ent_six h.row
  refine ⟨A, c, e, h1, h2, hr, fun y hy => ?_⟩
  obtain ⟨A', c', e', -, -, hr'⟩ := (h.ats y hy).lies
  injection e' with e1 _ _
  rw [e1]
  exact hr'
end

/-! ### How far a cursor gets -/
theorem sU_mono (l : List UInt8) (s : CSt) : s.1 ≤ (sU l s).1 := Nat.le_add_right _ _
theorem sS_mono (l : List UInt8) (s : CSt) : s.1 ≤ (sS l s).1 := Nat.le_add_right _ _
theorem next_mono (l : List UInt8) (a : Nat) (e : Int) (n : Nat) : a ≤ nextAt l a e n := by unfold nextAt; split <;> omega
theorem numW_mono (l : List UInt8) (f : Int) (wide : Bool) (s : CSt) : s.1 ≤ (numW l f wide s).2.1 := by
  unfold numW
  split
  · exact Nat.le_refl _
  · show s.1 ≤ (sN l _ s).1
    unfold sN
    split
    · exact sU_mono l s
    · exact next_mono _ _ _ _
theorem readW_mono (l : List UInt8) (f imp : Int) (wide : Bool) (s : CSt) : s.1 ≤ (readW l f imp wide s).2.1 := by
  unfold readW
  split
  · exact Nat.le_add_right _ _
  · split
    · show s.1 ≤ nextAt l (capW (lenW l f wide s).1 (lenW l f wide s).2).1 (capW (lenW l f wide s).1 (lenW l f wide s).2).2 _
      refine Nat.le_trans ?_ (next_mono _ _ _ _)
      have h1 : s.1 ≤ (lenW l f wide s).2.1 := by
        unfold lenW
        split
        · exact Nat.le_refl _
        · exact numW_mono _ _ _ _
      unfold capW
      split
      · exact h1
      · exact h1
    · split
      · show s.1 ≤ (sgnW l f imp s).2.1
        unfold sgnW
        split
        · exact Nat.le_refl _
        · exact sS_mono _ _
      · exact numW_mono _ _ _ _
theorem formW_mono (l : List UInt8) (f : Int) (s : CSt) : s.1 ≤ (formW l f s).2.1 := by
  unfold formW
  split
  · exact sU_mono _ _
  · exact Nat.le_refl _
theorem takeW_mono (l : List UInt8) (f imp : Int) (wide : Bool) (s : CSt) : s.1 ≤ (takeW l f imp wide s).2.1 := by
  have h1 := formW_mono l f s
  unfold takeW
  split
  · exact h1
  · split
    · exact Nat.le_trans h1 (readW_mono _ _ _ _ _)
    · exact Nat.le_trans h1 (readW_mono _ _ _ _ _)
/-- A cursor that has refused stays as it is. -/
theorem readW_ref {l : List UInt8} {f imp : Int} {wide : Bool} {s : CSt} (h : s.2 ≠ 0) : (readW l f imp wide s).2.2 = s.2 := by
  unfold readW
  split
  · show (takeT (l.drop s.1) s.2).2.2 = s.2
    unfold takeT
    rw [if_neg h]
  · split
    · show nextErr l (capW (lenW l f wide s).1 (lenW l f wide s).2).1 (capW (lenW l f wide s).1 (lenW l f wide s).2).2 _ = s.2
      have h1 : (lenW l f wide s).2 = s := by
        unfold lenW
        split
        · rfl
        · exact numW_ref h
      have h2 : capW (lenW l f wide s).1 (lenW l f wide s).2 = s := by
        rw [h1]
        unfold capW
        split
        · exact sF_ref h _
        · rfl
      rw [h2]
      unfold nextErr
      rw [if_neg h]
    · split
      · show (sgnW l f imp s).2.2 = s.2
        unfold sgnW
        split
        · rfl
        · show (sS l s).2 = s.2; rw [(sS_ref h).2]
      · rw [numW_ref h]
theorem takeW_ref {l : List UInt8} {f imp : Int} {wide : Bool} {s : CSt} (h : s.2 ≠ 0) : (takeW l f imp wide s).2.2 = s.2 := by
  have h1 : (formW l f s).2 = s := by
    unfold formW
    split
    · exact (sU_ref h).2
    · rfl
  unfold takeW
  rw [h1]
  split
  · show (sF s 41).2 = s.2; rw [sF_ref h]
  · split
    · exact readW_ref h
    · exact readW_ref h
/-- A number that is not 0 takes a byte that was there. -/
theorem tU_more {l : List UInt8} {s : CSt} (h : tU l s ≠ 0) : s.1 < l.length ∧ s.1 < (sU l s).1 ∧ s.2 = 0 ∧ (sU l s).2 = 0 := by
  have h2 : s.2 = 0 := by
    by_cases he : s.2 = 0
    · exact he
    · exact absurd (sU_ref he).1 h
  have h3 : (sU l s).2 = 0 := by
    by_cases he : (sU l s).2 = 0
    · exact he
    · exact absurd (sU_bad he) h
  refine ⟨?_, ?_, h2, h3⟩
  · unfold tU uOf at h
    rw [if_pos h2] at h
    unfold readU at h
    split at h
    · exact absurd rfl h
    · split at h
      · rename_i h4
        simp only [List.length_drop] at h4
        omega
      · exact absurd rfl h
  · unfold tU uOf at h
    unfold sU uOf
    rw [if_pos h2] at h ⊢
    unfold readU at h ⊢
    split at h
    · exact absurd rfl h
    · rename_i h5
      rw [if_neg h5]
      split at h
      · rename_i h4
        rw [if_pos h4]
        split <;> (simp only; omega)
      · exact absurd rfl h

/-! ### What is read -/
def attF (l : List UInt8) (wide : Bool) : List Spc → CSt → List Att × CSt
  | [], s => ([], s)
  | p :: ps, s => (⟨p.at_, (takeW l p.form p.imp wide s).1⟩ :: (attF l wide ps (takeW l p.form p.imp wide s).2).1, (attF l wide ps (takeW l p.form p.imp wide s).2).2)
theorem attF_mono (l : List UInt8) (wide : Bool) : ∀ (ps : List Spc) (s : CSt), s.1 ≤ (attF l wide ps s).2.1
  | [], _ => Nat.le_refl _
  | p :: ps, s => Nat.le_trans (takeW_mono l p.form p.imp wide s) (attF_mono l wide ps _)
theorem attF_ref (l : List UInt8) (wide : Bool) : ∀ (ps : List Spc) (s : CSt), s.2 ≠ 0 → (attF l wide ps s).2.2 = s.2
  | [], _, _ => rfl
  | p :: ps, s, h => by
    have h1 := takeW_ref (l := l) (f := p.form) (imp := p.imp) (wide := wide) h
    exact (attF_ref l wide ps _ (by rw [h1]; exact h)).trans h1
theorem attF_snoc (l : List UInt8) (wide : Bool) : ∀ (ps : List Spc) (p : Spc) (s : CSt), attF l wide (ps ++ [p]) s = ((attF l wide ps s).1 ++ [⟨p.at_, (takeW l p.form p.imp wide (attF l wide ps s).2).1⟩], (takeW l p.form p.imp wide (attF l wide ps s).2).2)
  | [], _, _ => rfl
  | q :: ps, p, s => by
    show (_ :: (attF l wide (ps ++ [p]) _).1, (attF l wide (ps ++ [p]) _).2) = _
    rw [attF_snoc l wide ps p]
    rfl
theorem attF_len (l : List UInt8) (wide : Bool) : ∀ (ps : List Spc) (s : CSt), (attF l wide ps s).1.length = ps.length
  | [], _ => rfl
  | _ :: ps, _ => congrArg Nat.succ (attF_len l wide ps _)

/-- The abbreviation of a code. -/
def abbK (T : List ALay) (code : Nat) : Option ALay := match findK T code with | none => none | some k => T[k]?
theorem found_abb {T : List ALay} {code : Nat} {z : Value} {b : Bool} (h : Found T code z b) : (abbK T code = none ∧ b = false ∧ z = zeroA) ∨ ∃ y, abbK T code = some y ∧ y ∈ T ∧ b = true ∧ z = y.val := by
  rcases h with ⟨h1, h2, h3⟩ | ⟨k, y, h1, h2, h3, h4⟩
  · exact .inl ⟨by unfold abbK; rw [h1], h2, h3⟩
  · exact .inr ⟨y, by unfold abbK; rw [h1]; exact h2, List.mem_of_getElem? h2, h3, h4⟩
theorem abbK_mem {T : List ALay} {code : Nat} {y : ALay} (h : abbK T code = some y) : y ∈ T := by
  unfold abbK at h
  split at h
  · cases h
  · exact List.mem_of_getElem? h
def bigQ (n d : Nat) : Bool := decide (1000 ≤ n) || decide (40 < d)
/-- An entry's values, by the abbreviation of its code. -/
def entA (l : List UInt8) (wide : Bool) (o : Option ALay) (n d : Nat) (s : CSt) : List Att × CSt :=
  match o with
  | none => ([], if bigQ n d then sF (sF s 40) 3 else sF s 40)
  | some y => attF l wide y.x.l (if bigQ n d then sF s 3 else s)
def tagO (o : Option ALay) : Int := match o with | none => 0 | some y => y.x.tag
def kidO (o : Option ALay) : Bool := match o with | none => false | some y => y.x.kids
/-- The entry that stands at a cursor, the n-th one, so deep, but for its parent; whether children follow. -/
def entF (l : List UInt8) (wide : Bool) (T : List ALay) (n d : Nat) (s : CSt) : Option (Ent × Bool) × CSt :=
  if tU l s = 0 then (none, sU l s)
  else if (entA l wide (abbK T (tU l s)) n d (sU l s)).2.2 = 0 then (some (⟨s.1, tU l s, tagO (abbK T (tU l s)), 0, (d : Int), (entA l wide (abbK T (tU l s)) n d (sU l s)).1⟩, kidO (abbK T (tU l s))), (entA l wide (abbK T (tU l s)) n d (sU l s)).2)
  else (none, (entA l wide (abbK T (tU l s)) n d (sU l s)).2)
theorem entA_mono (l : List UInt8) (wide : Bool) (o : Option ALay) (n d : Nat) (s : CSt) : s.1 ≤ (entA l wide o n d s).2.1 := by
  unfold entA
  split
  · show s.1 ≤ (if bigQ n d then sF (sF s 40) 3 else sF s 40).1
    split <;> exact Nat.le_refl _
  · refine Nat.le_trans ?_ (attF_mono l wide _ _)
    split <;> exact Nat.le_refl _
theorem entF_mono (l : List UInt8) (wide : Bool) (T : List ALay) (n d : Nat) (s : CSt) : s.1 ≤ (entF l wide T n d s).2.1 := by
  unfold entF
  split
  · exact sU_mono l s
  · split
    · exact Nat.le_trans (sU_mono l s) (entA_mono l wide _ n d _)
    · exact Nat.le_trans (sU_mono l s) (entA_mono l wide _ n d _)
theorem entF_some {l : List UInt8} {wide : Bool} {T : List ALay} {n d : Nat} {s s' : CSt} {x : Ent × Bool} (h : entF l wide T n d s = (some x, s')) : s.1 < l.length ∧ s.1 < s'.1 ∧ s.2 = 0 ∧ s'.2 = 0 ∧ tU l s ≠ 0 := by
  by_cases h0 : tU l s = 0
  · unfold entF at h
    rw [if_pos h0] at h
    cases h
  · have hm := entA_mono l wide (abbK T (tU l s)) n d (sU l s)
    obtain ⟨h1, h2, h3, -⟩ := tU_more h0
    unfold entF at h
    rw [if_neg h0] at h
    split at h
    · rename_i h4
      obtain ⟨-, rfl⟩ := Prod.mk.inj h
      exact ⟨h1, by omega, h3, h4, h0⟩
    · cases h
theorem entF_ref {l : List UInt8} {wide : Bool} {T : List ALay} {n d : Nat} {s : CSt} (h : s.2 ≠ 0) : entF l wide T n d s = (none, s) := by
  unfold entF
  rw [if_pos (sU_ref h).1, (sU_ref h).2]

/-! ### The tree, entry by entry: behind each one the cursor, the entries so far, the parents whose children are read (the last one first) -/
def treeW (l : List UInt8) (wide : Bool) (T : List ALay) (s : CSt) (L : List Ent) (P : List Int) : List Ent × CSt :=
  match h : entF l wide T L.length (P.length - 1) s with
  | (none, s') => if P.length ≤ 2 then (L, s') else treeW l wide T s' L P.tail
  | (some (e, true), s') => if P.length + 1 ≤ 1 then (L ++ [{ e with parent := P.headD 0 }], s') else treeW l wide T s' (L ++ [{ e with parent := P.headD 0 }]) ((L.length : Int) :: P)
  | (some (e, false), s') => if P.length ≤ 1 then (L ++ [{ e with parent := P.headD 0 }], s') else treeW l wide T s' (L ++ [{ e with parent := P.headD 0 }]) P
termination_by 2 * (l.length - s.1) + P.length
decreasing_by
  · have := entF_mono l wide T L.length (P.length - 1) s
    rw [h] at this
    simp only at this
    simp only [List.length_tail]
    omega
  · obtain ⟨h1, h3, -⟩ := entF_some h
    simp only [List.length_cons]
    omega
  · obtain ⟨h1, h3, -⟩ := entF_some h
    omega
/-- What goes on behind an entry. -/
def contW (l : List UInt8) (wide : Bool) (T : List ALay) (s : CSt) (L : List Ent) (P : List Int) : List Ent × CSt := if P.length ≤ 1 then (L, s) else treeW l wide T s L P
section
variable {l : List UInt8} {wide : Bool} {T : List ALay} {s s' : CSt} {L : List Ent} {P : List Int} {e : Ent}
theorem treeW_none (h : entF l wide T L.length (P.length - 1) s = (none, s')) : treeW l wide T s L P = contW l wide T s' L P.tail := by
  rw [treeW]
  split
  · rename_i s2 h2
    rw [h] at h2
    obtain ⟨-, rfl⟩ := Prod.mk.inj h2
    unfold contW
    by_cases h3 : P.length ≤ 2
    · rw [if_pos h3, if_pos (by rw [List.length_tail]; omega)]
    · rw [if_neg h3, if_neg (by rw [List.length_tail]; omega)]
  · rename_i h2; rw [h] at h2; cases h2
  · rename_i h2; rw [h] at h2; cases h2
theorem treeW_kids (h : entF l wide T L.length (P.length - 1) s = (some (e, true), s')) : treeW l wide T s L P = contW l wide T s' (L ++ [{ e with parent := P.headD 0 }]) ((L.length : Int) :: P) := by
  rw [treeW]
  split
  · rename_i h2; rw [h] at h2; cases h2
  · rename_i e2 s2 h2
    rw [h] at h2
    obtain ⟨h3, rfl⟩ := Prod.mk.inj h2
    obtain ⟨rfl, -⟩ := Prod.mk.inj (Option.some.inj h3)
    rfl
  · rename_i h2
    rw [h] at h2
    obtain ⟨h3, -⟩ := Prod.mk.inj h2
    obtain ⟨-, h4⟩ := Prod.mk.inj (Option.some.inj h3)
    cases h4
theorem treeW_leaf (h : entF l wide T L.length (P.length - 1) s = (some (e, false), s')) : treeW l wide T s L P = contW l wide T s' (L ++ [{ e with parent := P.headD 0 }]) P := by
  rw [treeW]
  split
  · rename_i h2; rw [h] at h2; cases h2
  · rename_i h2
    rw [h] at h2
    obtain ⟨h3, -⟩ := Prod.mk.inj h2
    obtain ⟨-, h4⟩ := Prod.mk.inj (Option.some.inj h3)
    cases h4
  · rename_i e2 s2 h2
    rw [h] at h2
    obtain ⟨h3, rfl⟩ := Prod.mk.inj h2
    obtain ⟨rfl, -⟩ := Prod.mk.inj (Option.some.inj h3)
    rfl
end
/-- A cursor that has refused stays so. -/
theorem treeW_ref {l : List UInt8} {wide : Bool} {T : List ALay} {s : CSt} (h : s.2 ≠ 0) : ∀ (P : List Int) (L : List Ent), (treeW l wide T s L P).2.2 = s.2
  | [], L => by
    rw [treeW_none (entF_ref h)]
    rfl
  | p :: P, L => by
    rw [treeW_none (entF_ref h)]
    show (contW l wide T s L P).2.2 = s.2
    unfold contW
    split
    · rfl
    · exact treeW_ref h P L
theorem contW_ref {l : List UInt8} {wide : Bool} {T : List ALay} {s : CSt} (h : s.2 ≠ 0) (P : List Int) (L : List Ent) : (contW l wide T s L P).2.2 = s.2 := by
  unfold contW
  split
  · rfl
  · exact treeW_ref h P L

/-! ### What Take tells -/
/-- Behind the root's end: bytes 0 alone. -/
def zeroE (l : List UInt8) (s : CSt) : Int := if s.2 ≠ 0 then s.2 else if (l.drop s.1).all (fun b => b == 0) then 0 else 43
def rootS (r : List Ent × CSt) : CSt := if r.1 = [] then sF r.2 43 else r.2
/-- The bytes that are read; where. -/
def dieR (l : List UInt8) (wide : Bool) (T : List ALay) (first stop : Nat) : List Ent × CSt := treeW (l.take stop) wide T (first, 0) [] [-1]
def dieE (l : List UInt8) (wide : Bool) (T : List ALay) (first stop : Nat) : Int :=
  if stop < first ∨ l.length < stop then 2 else zeroE (l.take stop) (rootS (dieR l wide T first stop))
def dieL (l : List UInt8) (wide : Bool) (T : List ALay) (first stop : Nat) : List Ent :=
  if dieE l wide T first stop = 0 then (dieR l wide T first stop).1 else []

end Go.Proofs.YtejicboemkpeoaaGreatDoor

namespace Go.Proofs.YtejicboemkpeoaaGreatDoor
open Go Go.RowKit

/-- What a value of its form has, and nothing else. -/
def aloneV (x : RV) : RV :=
  if kindF x.form = 5 then ⟨x.form, 0, 0, [], x.t⟩
  else if kindF x.form = 9 ∨ kindF x.form = 10 then ⟨x.form, 0, 0, x.b, []⟩
  else if kindF x.form = 3 then ⟨x.form, 0, x.s, [], []⟩
  else ⟨x.form, x.u, 0, [], []⟩
/-- Whether a number can be put in so many bytes. -/
def holdsV (z : Int) (n : Nat) : Bool := decide (z = -1) || decide (n / 256 ^ z.toNat = 0)
def fitsV (x : RV) (wide : Bool) : Bool :=
  if kindF x.form = 5 then rightT x.t
  else if kindF x.form = 9 ∨ kindF x.form = 10 then (if x.form = 30 then decide (x.b.length = 16) else decide (x.b.length ≤ 65536) && holdsV (widF x.form wide) x.b.length)
  else if kindF x.form = 3 then true
  else if x.form = 25 then decide (x.u = 1) else holdsV (widF x.form wide) x.u
def rightV (x : RV) (wide : Bool) : Bool := !decide (kindF x.form = 0) && (sameV x (aloneV x) && fitsV x wide)

theorem hnumber_any (w : World) (f : Int) (u : Nat) (s : Int) (a : Option Addr) (n c : Nat) (t : ByteArray) :
    Calls Tryz.prog 175 #[.agg #[.int .i64 f, .int .u64 (u : Int), .int .i64 s, .slice a n c, .string t]] w fun r w' => r = .returned (.int .u64 (u : Int)) ∧ Below w.heap.size w w' := by
  have HA := Lib.hid ((Below.refl w.heap.size w).alloc (Nat.le_refl _) (.cells #[.int .i64 f, .int .u64 (u : Int), .int .i64 s, .slice a n c, .string t] 265))
  go_enter Tryz.func175, Tryz.ntmps175
  go_wp2
  go_ret
  exact ⟨rfl, HA.out⟩
theorem hsigned_any (w : World) (f : Int) (u : Nat) (s : Int) (a : Option Addr) (n c : Nat) (t : ByteArray) :
    Calls Tryz.prog 176 #[.agg #[.int .i64 f, .int .u64 (u : Int), .int .i64 s, .slice a n c, .string t]] w fun r w' => r = .returned (.int .i64 s) ∧ Below w.heap.size w w' := by
  have HA := Lib.hid ((Below.refl w.heap.size w).alloc (Nat.le_refl _) (.cells #[.int .i64 f, .int .u64 (u : Int), .int .i64 s, .slice a n c, .string t] 265))
  go_enter Tryz.func176, Tryz.ntmps176
  go_wp2
  go_ret
  exact ⟨rfl, HA.out⟩
theorem hblock_any (w : World) (f : Int) (u : Nat) (s : Int) (a : Option Addr) (n c : Nat) (t : ByteArray) :
    Calls Tryz.prog 177 #[.agg #[.int .i64 f, .int .u64 (u : Int), .int .i64 s, .slice a n c, .string t]] w fun r w' => r = .returned (.slice a n c) ∧ Below w.heap.size w w' := by
  have HA := Lib.hid ((Below.refl w.heap.size w).alloc (Nat.le_refl _) (.cells #[.int .i64 f, .int .u64 (u : Int), .int .i64 s, .slice a n c, .string t] 265))
  go_enter Tryz.func177, Tryz.ntmps177
  go_wp2
  go_ret
  exact ⟨rfl, HA.out⟩
theorem htext_any (w : World) (f : Int) (u : Nat) (s : Int) (a : Option Addr) (n c : Nat) (t : ByteArray) :
    Calls Tryz.prog 178 #[.agg #[.int .i64 f, .int .u64 (u : Int), .int .i64 s, .slice a n c, .string t]] w fun r w' => r = .returned (.string t) ∧ Below w.heap.size w w' := by
  have HA := Lib.hid ((Below.refl w.heap.size w).alloc (Nat.le_refl _) (.cells #[.int .i64 f, .int .u64 (u : Int), .int .i64 s, .slice a n c, .string t] 265))
  go_enter Tryz.func178, Tryz.ntmps178
  go_wp2
  go_ret
  exact ⟨rfl, HA.out⟩

/-! ### A value that is made, and the result's cell, without a cursor -/
structure HSt (w wx : World) (H0 H1 : Nat) (cs : Array Value) : Prop where
  x : Box wx H1 63 cs
  r : Box wx H0 63 #[.int .i64 0, .int .u64 0, .int .i64 0, .slice none 0 0, .string ⟨#[]⟩]
  b : Below w.heap.size w wx
  h0 : w.heap.size ≤ H0
  h1 : w.heap.size ≤ H1
  ne : H0 ≠ H1
section
variable {w wx wy : World} {H0 H1 : Nat} {cs : Array Value}
theorem HSt.later (h : HSt w wx H0 H1 cs) (hb : Below wx.heap.size wx wy) : HSt w wy H0 H1 cs := ⟨h.x.below hb h.x.lt, h.r.below hb h.r.lt, h.b.trans (hb.mono h.b.size), h.h0, h.h1, h.ne⟩
theorem HSt.set (h : HSt w wx H0 H1 cs) (i : Nat) (u : Value) : HSt w (wx.setCell ⟨H1, i, none⟩ u) H0 H1 (cs.setIfInBounds i u) :=
  ⟨h.x.set i u, h.r.grown (only_set (only_refl wx (some H1)) i u) (fun e => by injection e with e; exact h.ne e), h.b.setCell h.h1 _, h.h0, h.h1, h.ne⟩
theorem HSt.told (h : HSt w wx H0 H1 cs) (v0 v1 v2 v3 v4 : Value) :
    Box (((((wx.setCell ⟨H0, 0, none⟩ v0).setCell ⟨H0, 1, none⟩ v1).setCell ⟨H0, 2, none⟩ v2).setCell ⟨H0, 3, none⟩ v3).setCell ⟨H0, 4, none⟩ v4) H0 63 #[v0, v1, v2, v3, v4] ∧
    Below w.heap.size w (((((wx.setCell ⟨H0, 0, none⟩ v0).setCell ⟨H0, 1, none⟩ v1).setCell ⟨H0, 2, none⟩ v2).setCell ⟨H0, 3, none⟩ v3).setCell ⟨H0, 4, none⟩ v4) :=
  ⟨five_boxR h.r rfl _ _ _ _ _, ((((h.b.setCell h.h0 _).setCell h.h0 _).setCell h.h0 _).setCell h.h0 _).setCell h.h0 _⟩
end

/-- A value of one's own parts: where its bytes are. -/
def AloneIs (y : WLay) (r : Ending) : Prop := ∃ A c, r = .returned (.agg #[.int .i64 (aloneV y.x).form, .int .u64 ((aloneV y.x).u : Int), .int .i64 (aloneV y.x).s, .slice A (aloneV y.x).b.length c, .string ⟨(aloneV y.x).t.toArray⟩]) ∧ (((aloneV y.x).b = [] ∧ A = none ∧ c = 0) ∨ ((aloneV y.x).b = y.x.b ∧ A = y.a ∧ c = y.c))

theorem alone_mk {y : WLay} {R : RV} (hR : aloneV y.x = R) {A : Option Addr} {c : Nat} (h : (R.b = [] ∧ A = none ∧ c = 0) ∨ (R.b = y.x.b ∧ A = y.a ∧ c = y.c)) :
    AloneIs y (.returned (.agg #[.int .i64 R.form, .int .u64 (R.u : Int), .int .i64 R.s, .slice A R.b.length c, .string ⟨R.t.toArray⟩])) := ⟨A, c, by rw [hR], by rw [hR]; exact h⟩

set_option maxRecDepth 10000 in
set_option maxHeartbeats 800000 in
theorem value_h {w : World} (hF : Ft w) (y : WLay) :
    Calls Tryz.prog 167 #[.int .i64 y.x.form, .func (.func 175) #[.agg #[.int .i64 y.x.form, .int .u64 (y.x.u : Int), .int .i64 y.x.s, .slice y.a y.x.b.length y.c, .string ⟨y.x.t.toArray⟩]] #[], .func (.func 176) #[.agg #[.int .i64 y.x.form, .int .u64 (y.x.u : Int), .int .i64 y.x.s, .slice y.a y.x.b.length y.c, .string ⟨y.x.t.toArray⟩]] #[], .func (.func 177) #[.agg #[.int .i64 y.x.form, .int .u64 (y.x.u : Int), .int .i64 y.x.s, .slice y.a y.x.b.length y.c, .string ⟨y.x.t.toArray⟩]] #[], .func (.func 178) #[.agg #[.int .i64 y.x.form, .int .u64 (y.x.u : Int), .int .i64 y.x.s, .slice y.a y.x.b.length y.c, .string ⟨y.x.t.toArray⟩]] #[]] w fun r w' =>
      AloneIs y r ∧ Below w.heap.size w w' := by
  have HK := Lib.hid (fun W (hW : Below w.heap.size w W) => kind_any (hF.up hW) y.x.form)
  have HE := Lib.hid (show aloneV y.x = if kindF y.x.form = 5 then ⟨y.x.form, 0, 0, [], y.x.t⟩ else if kindF y.x.form = 9 ∨ kindF y.x.form = 10 then ⟨y.x.form, 0, 0, y.x.b, []⟩ else if kindF y.x.form = 3 then ⟨y.x.form, 0, y.x.s, [], []⟩ else ⟨y.x.form, y.x.u, 0, [], []⟩ from rfl)
  generalize kindF y.x.form = k at *
  obtain ⟨bn, hbn⟩ : ∃ bn, y.x.b.length = bn := ⟨_, rfl⟩
  have HBN := Lib.hid hbn
  rw [hbn]
  obtain ⟨ts, hts⟩ : ∃ ts : ByteArray, ts = ⟨y.x.t.toArray⟩ := ⟨_, rfl⟩
  have HTS := Lib.hid hts
  rw [← hts]
  clear hbn hts hF
  generalize y.x.form = f at *
  generalize y.x.u = u at *
  generalize y.x.s = s at *
  obtain ⟨ya, hya⟩ : ∃ ya, y.a = ya := ⟨_, rfl⟩
  obtain ⟨yc, hyc⟩ : ∃ yc, y.c = yc := ⟨_, rfl⟩
  have HYA := Lib.hid hya
  have HYC := Lib.hid hyc
  rw [hya, hyc]
  clear hya hyc
  have HNU := Lib.hid (fun W => hnumber_any W f u s ya bn yc ts)
  have HSG := Lib.hid (fun W => hsigned_any W f u s ya bn yc ts)
  have HBL := Lib.hid (fun W => hblock_any W f u s ya bn yc ts)
  have HTX := Lib.hid (fun W => htext_any W f u s ya bn yc ts)
  go_enter Tryz.func167, Tryz.ntmps167
  go_upto_region 2 with fail
  generalize hw0 : w.alloc (.cells #[.int .i64 0, .int .u64 0, .int .i64 0, .slice none 0 0, .string ⟨#[]⟩] 63) = w0
  have hs0 : w0.heap.size = w.heap.size + 1 := by rw [← hw0]; simp
  generalize hw1 : w0.alloc (.cells #[.int .i64 f, .int .u64 0, .int .i64 0, .slice none 0 0, .string ⟨#[]⟩] 63) = w1
  have hX0 := Box.new w 63 #[.int .i64 0, .int .u64 0, .int .i64 0, .slice none 0 0, .string ⟨#[]⟩]
  rw [hw0] at hX0
  have hX1 := Box.new w0 63 #[.int .i64 f, .int .u64 0, .int .i64 0, .slice none 0 0, .string ⟨#[]⟩]
  rw [hw1, hs0] at hX1
  have hb0 : Below w.heap.size w w0 := hw0 ▸ (Below.refl _ _).alloc (Nat.le_refl _) _
  have hb1 : Below w0.heap.size w0 w1 := hw1 ▸ (Below.refl _ _).alloc (Nat.le_refl _) _
  have HV := Lib.hid (show HSt w w1 w.heap.size (w.heap.size + 1) #[.int .i64 f, .int .u64 0, .int .i64 0, .slice none 0 0, .string ⟨#[]⟩] from ⟨hX1, hX0.below hb1 hX0.lt, hb0.trans (hb1.mono hb0.size), Nat.le_refl _, Nat.le_succ _, by omega⟩)
  clear hw0 hs0 hw1 hX0 hX1 hb0 hb1
  generalize hH1 : w.heap.size + 1 = H1 at *
  generalize hH0 : w.heap.size = H0 at HV ⊢
  clear hH1 hH0
  go_upto_region 4 with (go_at_call 166; refine (HK.out _ HV.out.b).mono ?_; rintro r w2 ⟨rfl, rfl⟩)
  by_cases h5 : k = 5
  · have q5 : (k == 5) = true := by simpa using h5
    rw [if_pos h5] at HE
    clear h5
    go_wp2_with (go_at_call 178; refine (HTX.out _).mono ?_; rintro r w2 ⟨rfl, hb2⟩; have HV2 := Lib.hid (HV.out.later hb2); have HV3 := Lib.hid (HV2.out.set 4 (.string ts)); (obtain ⟨p0, p1, p2, p3, p4⟩ := five_cellsR HV2.out.x); (obtain ⟨e0, e1, e2, e3, e4⟩ := five_freeR HV2.out.x); (obtain ⟨z0, z1, z2, z3, z4⟩ := five_cellsR HV2.out.r); (obtain ⟨f0, f1, f2, f3, f4⟩ := five_freeR HV2.out.r); have hne01 := HV2.out.ne; have hne10 := HV2.out.ne.symm; clear hb2)
    refine ret_one Tryz.underlying63 Tryz.results167 (HV3.out.told _ _ _ _ _).1 (by kernel_rfl) (by rfl) rfl ?_
    obtain ⟨-, t2⟩ := HV3.out.told (.int .i64 f) (.int .u64 0) (.int .i64 0) (.slice none 0 0) (.string ts)
    exact ⟨by rw [HTS.out]; exact alone_mk HE.out (A := none) (c := 0) (.inl ⟨rfl, rfl, rfl⟩), t2⟩
  have q5 : (k == 5) = false := by simpa using h5
  rw [if_neg h5] at HE
  clear h5
  by_cases h9 : k = 9 ∨ k = 10
  · have q9 : (k == 9) = true ∨ (k == 9) = false ∧ (k == 10) = true := by
      rcases h9 with rfl | rfl
      · exact .inl rfl
      · exact .inr ⟨rfl, rfl⟩
    rw [if_pos h9] at HE
    clear h9
    rcases q9 with q9 | ⟨q9, q10⟩
    all_goals
      go_wp2_with (go_at_call 177; refine (HBL.out _).mono ?_; rintro r w2 ⟨rfl, hb2⟩; have HV2 := Lib.hid (HV.out.later hb2); have HV3 := Lib.hid (HV2.out.set 3 (.slice ya bn yc)); (obtain ⟨p0, p1, p2, p3, p4⟩ := five_cellsR HV2.out.x); (obtain ⟨e0, e1, e2, e3, e4⟩ := five_freeR HV2.out.x); (obtain ⟨z0, z1, z2, z3, z4⟩ := five_cellsR HV2.out.r); (obtain ⟨f0, f1, f2, f3, f4⟩ := five_freeR HV2.out.r); have hne01 := HV2.out.ne; have hne10 := HV2.out.ne.symm; clear hb2)
      refine ret_one Tryz.underlying63 Tryz.results167 (HV3.out.told _ _ _ _ _).1 (by kernel_rfl) (by rfl) rfl ?_
      obtain ⟨-, t2⟩ := HV3.out.told (.int .i64 f) (.int .u64 0) (.int .i64 0) (.slice ya bn yc) (.string ⟨#[]⟩)
      exact ⟨by rw [← HBN.out]; exact alone_mk HE.out (A := ya) (c := yc) (.inr ⟨rfl, HYA.out.symm, HYC.out.symm⟩), t2⟩
  have q9 : (k == 9) = false := by simp; omega
  have q10 : (k == 10) = false := by simp; omega
  rw [if_neg h9] at HE
  clear h9
  by_cases h3 : k = 3
  · have q3 : (k == 3) = true := by simpa using h3
    rw [if_pos h3] at HE
    clear h3
    go_wp2_with (go_at_call 176; refine (HSG.out _).mono ?_; rintro r w2 ⟨rfl, hb2⟩; have HV2 := Lib.hid (HV.out.later hb2); have HV3 := Lib.hid (HV2.out.set 2 (.int .i64 s)); (obtain ⟨p0, p1, p2, p3, p4⟩ := five_cellsR HV2.out.x); (obtain ⟨e0, e1, e2, e3, e4⟩ := five_freeR HV2.out.x); (obtain ⟨z0, z1, z2, z3, z4⟩ := five_cellsR HV2.out.r); (obtain ⟨f0, f1, f2, f3, f4⟩ := five_freeR HV2.out.r); have hne01 := HV2.out.ne; have hne10 := HV2.out.ne.symm; clear hb2)
    refine ret_one Tryz.underlying63 Tryz.results167 (HV3.out.told _ _ _ _ _).1 (by kernel_rfl) (by rfl) rfl ?_
    obtain ⟨-, t2⟩ := HV3.out.told (.int .i64 f) (.int .u64 0) (.int .i64 s) (.slice none 0 0) (.string ⟨#[]⟩)
    exact ⟨alone_mk HE.out (A := none) (c := 0) (.inl ⟨rfl, rfl, rfl⟩), t2⟩
  · have q3 : (k == 3) = false := by simpa using h3
    rw [if_neg h3] at HE
    clear h3
    go_wp2_with (go_at_call 175; refine (HNU.out _).mono ?_; rintro r w2 ⟨rfl, hb2⟩; have HV2 := Lib.hid (HV.out.later hb2); have HV3 := Lib.hid (HV2.out.set 1 (.int .u64 (u : Int))); (obtain ⟨p0, p1, p2, p3, p4⟩ := five_cellsR HV2.out.x); (obtain ⟨e0, e1, e2, e3, e4⟩ := five_freeR HV2.out.x); (obtain ⟨z0, z1, z2, z3, z4⟩ := five_cellsR HV2.out.r); (obtain ⟨f0, f1, f2, f3, f4⟩ := five_freeR HV2.out.r); have hne01 := HV2.out.ne; have hne10 := HV2.out.ne.symm; clear hb2)
    refine ret_one Tryz.underlying63 Tryz.results167 (HV3.out.told _ _ _ _ _).1 (by kernel_rfl) (by rfl) rfl ?_
    obtain ⟨-, t2⟩ := HV3.out.told (.int .i64 f) (.int .u64 (u : Int)) (.int .i64 0) (.slice none 0 0) (.string ⟨#[]⟩)
    exact ⟨alone_mk HE.out (A := none) (c := 0) (.inl ⟨rfl, rfl, rfl⟩), t2⟩


theorem holds_div {n : Nat} (z k : Nat) (hk : 256 ^ z = k) : (((n : Int) / (k : Int)) == 0) = holdsV (z : Int) n := by
  subst hk
  have h1 : ((n : Int) / ((256 ^ z : Nat) : Int)) = ((n / 256 ^ z : Nat) : Int) := by simp
  have h2 : (((n / 256 ^ z : Nat) : Int) == ((0 : Nat) : Int)) = decide (n / 256 ^ z = 0) := nat_beqR _ _
  unfold holdsV
  rw [decide_eq_false (by omega), Bool.false_or, Int.toNat_natCast, h1]
  exact h2

set_option maxRecDepth 10000 in
theorem holds_any (w : World) (z : Int) (hz : z = -1 ∨ z = 0 ∨ z = 1 ∨ z = 2 ∨ z = 3 ∨ z = 4 ∨ z = 8) (n : Nat) (_ : n < two64) :
    Calls Tryz.prog 204 #[.int .i64 z, .int .u64 (n : Int)] w fun r w' => r = .returned (.bool (holdsV z n)) ∧ w = w' := by
  have e0 := holds_div (n := n) 0 1 (by decide)
  have e1 := holds_div (n := n) 1 256 (by decide)
  have e2 := holds_div (n := n) 2 65536 (by decide)
  have e3 := holds_div (n := n) 3 16777216 (by decide)
  have e4 := holds_div (n := n) 4 4294967296 (by decide)
  have e8 := holds_div (n := n) 8 18446744073709551616 (by decide)
  have E0 := Lib.hid (show ((n : Int) == 0) = holdsV 0 n by simpa using e0)
  have E1 := Lib.hid (show ((n : Int) / 256 == 0) = holdsV 1 n from e1)
  have E2 := Lib.hid (show ((n : Int) / 65536 == 0) = holdsV 2 n from e2)
  have E3 := Lib.hid (show ((n : Int) / 16777216 == 0) = holdsV 3 n from e3)
  have E4 := Lib.hid (show ((n : Int) / 4294967296 == 0) = holdsV 4 n from e4)
  have E8 := Lib.hid (show ((n : Int) / 18446744073709551616 == 0) = holdsV 8 n from e8)
  clear e0 e1 e2 e3 e4 e8
  rcases hz with rfl | rfl | rfl | rfl | rfl | rfl | rfl
  all_goals
    go_enter Tryz.func204, Tryz.ntmps204
    go_wp2
    go_ret
  · exact ⟨rfl, rfl⟩
  · exact ⟨by rw [← E0.out]; rfl, rfl⟩
  · exact ⟨by rw [← E1.out]; rfl, rfl⟩
  · exact ⟨by rw [← E2.out]; rfl, rfl⟩
  · exact ⟨by rw [← E3.out]; rfl, rfl⟩
  · exact ⟨by rw [← E4.out]; rfl, rfl⟩
  · exact ⟨by rw [← E8.out]; rfl, rfl⟩

end Go.Proofs.YtejicboemkpeoaaGreatDoor

namespace Go.Proofs.YtejicboemkpeoaaGreatDoor
open Go Go.RowKit

theorem right_free (s : List UInt8) (w : World) :
    Calls Tryz.prog 14 #[.string ⟨s.toArray⟩] w fun r w' => r = .returned (.bool (rightT s)) ∧ w = w' := by
  by_cases h1 : s.length ≤ 200
  · exact right_any s w (by omega)
  · have hsz : (ByteArray.mk s.toArray).size = s.length := rfl
    have hd : decide ((s.length : Int) ≤ 200) = false := by simp; omega
    have HR := Lib.hid (show rightT s = false by unfold rightT; simp [h1])
    clear h1
    generalize ByteArray.mk s.toArray = b at *
    generalize s.length = n at *
    subst hsz
    go_enter Tryz.func14, Tryz.ntmps14
    go_wp2_with fail
    go_ret
    exact ⟨by rw [HR.out]; rfl, rfl⟩
theorem widF_ways {n : Nat} (hn : n < 45) (wide : Bool) : widF (n : Int) wide = -1 ∨ widF (n : Int) wide = 0 ∨ widF (n : Int) wide = 1 ∨ widF (n : Int) wide = 2 ∨ widF (n : Int) wide = 3 ∨ widF (n : Int) wide = 4 ∨ widF (n : Int) wide = 8 := by
  have h : ∀ m : Fin 45, ([-1, 0, 1, 2, 3, 4, 8].contains (widF ((m : Nat) : Int) wide)) = true := by cases wide <;> decide
  have := h ⟨n, hn⟩
  simpa using this

set_option maxRecDepth 10000 in
set_option maxHeartbeats 1600000 in
theorem fits_any {w : World} (hF : Ft w) (hS : Sz w) (y : WLay) (hk0 : kindF y.x.form ≠ 0) (hu : y.x.u < two64) (hb : y.x.b.length ≤ 9223372036854775807) (wide : Bool) :
    Calls Tryz.prog 180 #[.agg #[.int .i64 y.x.form, .int .u64 (y.x.u : Int), .int .i64 y.x.s, .slice y.a y.x.b.length y.c, .string ⟨y.x.t.toArray⟩], .bool wide] w fun r w' => r = .returned (.bool (fitsV y.x wide)) ∧ Below w.heap.size w w' := by
  obtain ⟨n, hfn, hn⟩ := kindF_in hk0
  have hA := (Below.refl w.heap.size w).alloc (Nat.le_refl _) (.cells #[.int .i64 y.x.form, .int .u64 (y.x.u : Int), .int .i64 y.x.s, .slice y.a y.x.b.length y.c, .string ⟨y.x.t.toArray⟩] 63)
  have HA := Lib.hid hA
  have HK := Lib.hid (fun W (hW : Below w.heap.size w W) => kind_any (hF.up hW) y.x.form)
  have HW := Lib.hid (fun W (hW : Below w.heap.size w W) => (by have := width_any (hF.up hW) (hS.below hW hS.pos) hn wide; rwa [← hfn] at this : Calls Tryz.prog 146 #[.int .i64 y.x.form, .bool wide] W fun r w' => r = .returned (.int .i64 (widF y.x.form wide)) ∧ W = w'))
  have HT := Lib.hid (fun W => right_free y.x.t W)
  have hww := widF_ways hn wide
  rw [← hfn] at hww
  have HH := Lib.hid (fun W (m : Nat) (hm : m < two64) => holds_any W _ hww m hm)
  have HE := Lib.hid (show fitsV y.x wide = if kindF y.x.form = 5 then rightT y.x.t
    else if kindF y.x.form = 9 ∨ kindF y.x.form = 10 then (if y.x.form = 30 then decide (y.x.b.length = 16) else decide (y.x.b.length ≤ 65536) && holdsV (widF y.x.form wide) y.x.b.length)
    else if kindF y.x.form = 3 then true
    else if y.x.form = 25 then decide (y.x.u = 1) else holdsV (widF y.x.form wide) y.x.u from rfl)
  have e16 := nat_beqR y.x.b.length 16
  have eu1 := nat_beqR y.x.u 1
  have HU := Lib.hid hu
  have hwb : IntKind.u64.wrap (y.x.b.length : Int) = (y.x.b.length : Int) := by rw [IntWalk.u64_in _ (by omega)]
  have HB2 := Lib.hid (show y.x.b.length < two64 by unfold two64; omega)
  have hle : decide ((y.x.b.length : Int) ≤ 65536) = decide (y.x.b.length ≤ 65536) := decide_eq_decide.2 (by omega)
  clear hA hk0 hfn hn hww hF hS hu
  generalize fitsV y.x wide = R at *
  generalize kindF y.x.form = k at *
  generalize widF y.x.form wide = z at *
  generalize rightT y.x.t = rt at *
  generalize y.x.b.length = bn at *
  generalize (ByteArray.mk y.x.t.toArray) = ts at *
  generalize y.x.form = f at *
  generalize y.x.u = u at *
  generalize y.x.s = s at *
  generalize y.a = ya at *
  generalize y.c = yc at *
  go_enter Tryz.func180, Tryz.ntmps180
  go_upto_region 3 with (first
    | (go_at_call 146; refine (HW.out _ HA.out).mono ?_; rintro r w1 ⟨rfl, rfl⟩)
    | (go_at_call 166; refine (HK.out _ HA.out).mono ?_; rintro r w1 ⟨rfl, rfl⟩))
  by_cases h5 : k = 5
  · have q5 : (k == 5) = true := by simpa using h5
    rw [if_pos h5] at HE
    clear h5
    go_wp2_with (go_at_call 14; refine (HT.out _).mono ?_; rintro r w1 ⟨rfl, rfl⟩)
    go_ret
    exact ⟨by rw [HE.out]; rfl, HA.out⟩
  have q5 : (k == 5) = false := by simpa using h5
  rw [if_neg h5] at HE
  clear h5
  by_cases h9 : k = 9 ∨ k = 10
  · have q9 : (k == 9) = true ∨ (k == 9) = false ∧ (k == 10) = true := by
      rcases h9 with rfl | rfl
      · exact .inl rfl
      · exact .inr ⟨rfl, rfl⟩
    rw [if_pos h9] at HE
    clear h9
    by_cases h30 : f = 30
    · have q30 : (f == 30) = true := by simpa using h30
      rw [if_pos h30] at HE
      clear h30
      have e16' : ((bn : Int) == 16) = decide (bn = 16) := e16
      rcases q9 with q9 | ⟨q9, q10⟩
      all_goals
        go_wp2_with fail
        go_ret
        exact ⟨by rw [HE.out, ← e16']; rfl, HA.out⟩
    · have q30 : (f == 30) = false := by simpa using h30
      rw [if_neg h30] at HE
      clear h30
      by_cases h65 : bn ≤ 65536
      · rw [decide_eq_true h65] at hle HE
        clear h65
        rcases q9 with q9 | ⟨q9, q10⟩
        all_goals
          go_wp2_with (go_at_call 204; refine (HH.out _ bn HB2.out).mono ?_; rintro r w1 ⟨rfl, rfl⟩)
          go_ret
          exact ⟨by rw [HE.out]; rfl, HA.out⟩
      · rw [decide_eq_false h65] at hle HE
        clear h65
        rcases q9 with q9 | ⟨q9, q10⟩
        all_goals
          go_wp2_with fail
          go_ret
          exact ⟨by rw [HE.out]; rfl, HA.out⟩
  have q9 : (k == 9) = false := by simp; omega
  have q10 : (k == 10) = false := by simp; omega
  rw [if_neg h9] at HE
  clear h9
  by_cases h3 : k = 3
  · have q3 : (k == 3) = true := by simpa using h3
    rw [if_pos h3] at HE
    clear h3
    go_wp2_with fail
    go_ret
    exact ⟨by rw [HE.out]; rfl, HA.out⟩
  have q3 : (k == 3) = false := by simpa using h3
  rw [if_neg h3] at HE
  clear h3
  by_cases h25 : f = 25
  · have q25 : (f == 25) = true := by simpa using h25
    rw [if_pos h25] at HE
    clear h25
    have eu1' : ((u : Int) == 1) = decide (u = 1) := eu1
    go_wp2_with fail
    go_ret
    exact ⟨by rw [HE.out, ← eu1']; rfl, HA.out⟩
  · have q25 : (f == 25) = false := by simpa using h25
    rw [if_neg h25] at HE
    clear h25
    go_wp2_with (go_at_call 204; refine (HH.out _ u HU.out).mono ?_; rintro r w1 ⟨rfl, rfl⟩)
    go_ret
    exact ⟨by rw [HE.out]; rfl, HA.out⟩

set_option maxRecDepth 10000 in
set_option maxHeartbeats 1600000 in
theorem rightV_any {w : World} (hF : Ft w) (hS : Sz w) (y : WLay) (hy : Rd w w.heap.size y.a y.x.b) (hu : y.x.u < two64) (hb : y.x.b.length ≤ 9223372036854775807) (wide : Bool) :
    Calls Tryz.prog 144 #[.agg #[.int .i64 y.x.form, .int .u64 (y.x.u : Int), .int .i64 y.x.s, .slice y.a y.x.b.length y.c, .string ⟨y.x.t.toArray⟩], .bool wide] w fun r w' => r = .returned (.bool (rightV y.x wide)) ∧ Below w.heap.size w w' := by
  have HE := Lib.hid (show rightV y.x wide = (!decide (kindF y.x.form = 0) && (sameV y.x (aloneV y.x) && fitsV y.x wide)) from rfl)
  have hmf : ∀ (fn : Fn) (first cap : Array Value) (W : World), (Instr.makeFunc fn first cap).run Tryz.prog W = .ok (.func fn first cap) W := fun _ _ _ _ => rfl
  have hA := (Below.refl w.heap.size w).alloc (Nat.le_refl _) (.cells #[.int .i64 y.x.form, .int .u64 (y.x.u : Int), .int .i64 y.x.s, .slice y.a y.x.b.length y.c, .string ⟨y.x.t.toArray⟩] 63)
  have HA := Lib.hid hA
  have hXA := Box.new w 63 #[.int .i64 y.x.form, .int .u64 (y.x.u : Int), .int .i64 y.x.s, .slice y.a y.x.b.length y.c, .string ⟨y.x.t.toArray⟩]
  have HK := Lib.hid (fun W (hW : Below w.heap.size w W) => kind_any (hF.up hW) y.x.form)
  have HV := Lib.hid (fun W (hW : Below w.heap.size w W) => value_h (hF.up hW) y)
  by_cases h0 : kindF y.x.form = 0
  · have HR := Lib.hid (show rightV y.x wide = false by rw [HE.out, decide_eq_true h0]; rfl)
    have HK0 := Lib.hid (fun W (hW : Below w.heap.size w W) => (by have := HK.out W hW; rwa [h0] at this : Calls Tryz.prog 166 #[.int .i64 y.x.form] W fun r w' => r = .returned (.int .i64 0) ∧ W = w'))
    clear hA hXA HK HV hF hS hy hu hb h0 HE
    generalize y.x.b.length = bn at *
    go_enter Tryz.func144, Tryz.ntmps144
    go_wp2_with (go_at_call 166; refine (HK0.out _ HA.out).mono ?_; rintro r w1 ⟨rfl, rfl⟩)
    go_ret
    exact ⟨by rw [HR.out]; rfl, HA.out⟩
  · have HF := Lib.hid (fun W (hW : Below w.heap.size w W) => fits_any (hF.up hW) (hS.below hW hS.pos) y h0 hu hb wide)
    have HR := Lib.hid (show rightV y.x wide = (sameV y.x (aloneV y.x) && fitsV y.x wide) by rw [HE.out, decide_eq_false h0]; rfl)
    have q0 : (kindF y.x.form == 0) = false := by simpa using h0
    have HSM := Lib.hid (fun W (hW : Below w.heap.size w W) (A : Option Addr) (c : Nat) (h : ((aloneV y.x).b = [] ∧ A = none ∧ c = 0) ∨ ((aloneV y.x).b = y.x.b ∧ A = y.a ∧ c = y.c)) =>
      sameV_any (w := W) y ⟨aloneV y.x, A, c⟩ ((hy.below hW).more hW.size) (by
        rcases h with ⟨h1, h2, h3⟩ | ⟨h1, h2, h3⟩
        · rw [h1]; exact fun h => absurd h (by decide)
        · rw [h1, h2]; exact (hy.below hW).more hW.size))
    clear hA hF hS hy hu hb h0 HE
    obtain ⟨bn, hbn⟩ : ∃ bn, y.x.b.length = bn := ⟨_, rfl⟩
    have HBN := Lib.hid hbn
    rw [hbn] at HA HF HV HSM hXA ⊢
    obtain ⟨ts, hts⟩ : ∃ ts : ByteArray, ts = ⟨y.x.t.toArray⟩ := ⟨_, rfl⟩
    rw [← hts] at HA HF HV HSM hXA ⊢
    clear hbn hts
    go_enter Tryz.func144, Tryz.ntmps144
    go_upto_region 3 with (go_at_call 166; refine (HK.out _ HA.out).mono ?_; rintro r w1 ⟨rfl, rfl⟩)
    generalize hw1 : w.alloc (.cells #[.int .i64 y.x.form, .int .u64 (y.x.u : Int), .int .i64 y.x.s, .slice y.a bn y.c, .string ts] 63) = w1 at *
    obtain ⟨x0, x1, x2, x3, x4⟩ := five_cellsR hXA
    have hA2 := (Below.refl w1.heap.size w1).alloc (Nat.le_refl _) (.cells #[.int .i64 y.x.form, .int .u64 (y.x.u : Int), .int .i64 y.x.s, .slice y.a bn y.c, .string ts] 265)
    have hX2 := Box.new w1 265 #[.int .i64 y.x.form, .int .u64 (y.x.u : Int), .int .i64 y.x.s, .slice y.a bn y.c, .string ts]
    have hXA2 := hXA.below hA2 hXA.lt
    clear hw1
    go_upto_region 4 with fail
    generalize hw2 : w1.alloc (.cells #[.int .i64 y.x.form, .int .u64 (y.x.u : Int), .int .i64 y.x.s, .slice y.a bn y.c, .string ts] 265) = w2 at *
    have HB2 := Lib.hid (HA.out.trans (hA2.mono HA.out.size))
    have HXA2 := Lib.hid hXA2
    clear hw2 x0 x1 x2 x3 x4 hXA
    obtain ⟨x0, x1, x2, x3, x4⟩ := five_cellsR hXA2
    obtain ⟨y0, y1, y2, y3, y4⟩ := five_cellsR hX2
    clear hA2 hX2 hXA2
    generalize w1.heap.size = H2 at *
    go_upto_region 5 with (go_at_call 167; refine (HV.out _ HB2.out).mono ?_; rintro r w3 ⟨⟨A3, c3, rfl, hor⟩, hb3⟩; have HOR := Lib.hid hor; have HB3 := Lib.hid (HB2.out.trans (hb3.mono HB2.out.size)); have HXA3 := Lib.hid (HXA2.out.below hb3 HXA2.out.lt); clear hb3 hor)
    have hA4 := (Below.refl w3.heap.size w3).alloc (Nat.le_refl _) (.cells #[.int .i64 (aloneV y.x).form, .int .u64 ((aloneV y.x).u : Int), .int .i64 (aloneV y.x).s, .slice A3 (aloneV y.x).b.length c3, .string ⟨(aloneV y.x).t.toArray⟩] 63)
    have hX4 := Box.new w3 63 #[.int .i64 (aloneV y.x).form, .int .u64 ((aloneV y.x).u : Int), .int .i64 (aloneV y.x).s, .slice A3 (aloneV y.x).b.length c3, .string ⟨(aloneV y.x).t.toArray⟩]
    generalize hw4 : w3.alloc (.cells #[.int .i64 (aloneV y.x).form, .int .u64 ((aloneV y.x).u : Int), .int .i64 (aloneV y.x).s, .slice A3 (aloneV y.x).b.length c3, .string ⟨(aloneV y.x).t.toArray⟩] 63) = w4 at *
    have HB4 := Lib.hid (HB3.out.trans (hA4.mono HB3.out.size))
    have hXA4 := HXA3.out.below hA4 HXA3.out.lt
    have HXA4 := Lib.hid hXA4
    have HS5 := Lib.hid (HSM.out _ HB4.out A3 c3 HOR.out)
    clear hw4 x0 x1 x2 x3 x4 y0 y1 y2 y3 y4 HSM HOR HXA2 HXA3
    obtain ⟨x0, x1, x2, x3, x4⟩ := five_cellsR hXA4
    obtain ⟨y0, y1, y2, y3, y4⟩ := five_cellsR hX4
    clear hA4 hX4 hXA4
    generalize w3.heap.size = H4 at *
    generalize sameV y.x (aloneV y.x) = sv at *
    generalize (aloneV y.x).b.length = an at *
    generalize (ByteArray.mk (aloneV y.x).t.toArray) = at_ at *
    generalize (aloneV y.x).form = af at *
    generalize (aloneV y.x).u = au at *
    generalize (aloneV y.x).s = as_ at *
    cases sv with
    | false =>
      go_wp2_with (go_at_call 179; refine HS5.out.mono ?_; rintro r w5 ⟨rfl, hb5⟩; have HB5 := Lib.hid (HB4.out.trans (hb5.mono HB4.out.size)); clear hb5)
      go_ret
      exact ⟨by rw [HR.out]; rfl, HB5.out⟩
    | true =>
      go_wp2_with (first
        | (go_at_call 179; refine HS5.out.mono ?_; rintro r w5 ⟨rfl, hb5⟩; have HB5 := Lib.hid (HB4.out.trans (hb5.mono HB4.out.size)); (obtain ⟨z0, z1, z2, z3, z4⟩ := five_cellsR (HXA4.out.below hb5 HXA4.out.lt)); clear hb5)
        | (go_at_call 180; refine (HF.out _ HB5.out).mono ?_; rintro r w6 ⟨rfl, hb6⟩; have HB6 := Lib.hid (HB5.out.trans (hb6.mono HB5.out.size)); clear hb6))
      go_ret
      exact ⟨by rw [HR.out]; rfl, HB6.out⟩

end Go.Proofs.YtejicboemkpeoaaGreatDoor

namespace Go.Proofs.YtejicboemkpeoaaGreatDoor
open Go Go.RowKit

/-- A number's bytes. -/
def numB (z : Int) (n : Nat) : List UInt8 := if z = -1 then lebPut (sizeU n) (n : Int) else leBytes n (clampOf z)
def wholeV (x : RV) (z : Int) : List UInt8 :=
  if kindF x.form = 5 then putT x.t
  else if kindF x.form = 9 ∨ kindF x.form = 10 then numB z x.b.length ++ x.b
  else if kindF x.form = 3 then (if x.form = 33 then [] else lebPut (sizeS x.s) x.s)
  else numB z x.u
/-- A value's bytes. -/
def putV (x : RV) (wide : Bool) : List UInt8 := wholeV x (widF x.form wide)
theorem numB_len {z : Int} {n : Nat} (hn : n < two64) : (numB z n).length ≤ 10 := by
  unfold numB
  split
  · exact putU_len (by unfold two64 at hn; omega)
  · have := clampOf_le z
    rw [leBytes_length]; omega
theorem laid_nilR {w w' : World} {base : Nat} {v' : Value} {l' : List UInt8} (h : Laid w w' base (.slice none 0 0) v' l') (hb : base ≤ w.heap.size) : Below base w w' := below_of_only h.2.1 hb (by simp [Value.ownBlock])
theorem own_nil0 (w : World) : Own w w.heap.size (.slice none 0 0) [] := World.ownsRow_nil _ _ _ _

set_option maxRecDepth 10000 in
theorem numeral_any (w : World) (n : Nat) (hn : n < two64) (z : Int) (hz : -9223372036854775808 ≤ z ∧ z ≤ 9223372036854775807) :
    Calls Tryz.prog 182 #[.int .u64 (n : Int), .int .i64 z] w fun r w' => ∃ v', r = .returned v' ∧ Own w' w.heap.size v' (numB z n) ∧ Below w.heap.size w w' := by
  have HU := Lib.hid (putU_any (own_nil0 w) (Nat.le_refl _) n (by unfold two64 at hn; omega) (show 0 ≤ 140737488355000 by decide))
  have HP := Lib.hid (put_any (own_nil0 w) (Nat.le_refl _) n z hz (show 0 ≤ 140737488355000 by decide))
  by_cases h1 : z = -1
  · have q : (z == (-1 : Int)) = true := by simpa using h1
    have HE := Lib.hid (show numB z n = [] ++ lebPut (sizeU n) (n : Int) by unfold numB; rw [if_pos h1]; rfl)
    clear h1 hn hz
    go_enter Tryz.func182, Tryz.ntmps182
    go_wp2_with (go_at_call 102; refine HU.out.mono ?_; rintro r w1 ⟨v1, rfl, hL1⟩; have HL1 := Lib.hid hL1; clear hL1)
    go_ret
    exact ⟨_, rfl, by rw [HE.out]; exact HL1.out.1, laid_nilR HL1.out (Nat.le_refl _)⟩
  · have q : (z == (-1 : Int)) = false := by simpa using h1
    have HE := Lib.hid (show numB z n = [] ++ leBytes n (clampOf z) by unfold numB; rw [if_neg h1]; rfl)
    clear h1 hn hz
    go_enter Tryz.func182, Tryz.ntmps182
    go_wp2_with (go_at_call 206; refine HP.out.mono ?_; rintro r w1 ⟨v1, rfl, hL1⟩; have HL1 := Lib.hid hL1; clear hL1)
    go_ret
    exact ⟨_, rfl, by rw [HE.out]; exact HL1.out.1, laid_nilR HL1.out (Nat.le_refl _)⟩

set_option maxRecDepth 10000 in
set_option maxHeartbeats 3200000 in
theorem whole_any {w : World} (hF : Ft w) (y : WLay) (hy : Rd w w.heap.size y.a y.x.b) (hu : y.x.u < two64) (hs : InI y.x.s) (hb : kindF y.x.form = 9 ∨ kindF y.x.form = 10 → y.x.b.length ≤ 65536) (ht : kindF y.x.form = 5 → y.x.t.length ≤ 200) (z : Int) (hz : -9223372036854775808 ≤ z ∧ z ≤ 9223372036854775807) :
    Calls Tryz.prog 145 #[.agg #[.int .i64 y.x.form, .int .u64 (y.x.u : Int), .int .i64 y.x.s, .slice y.a y.x.b.length y.c, .string ⟨y.x.t.toArray⟩], .int .i64 z] w fun r w' => ∃ v', r = .returned v' ∧ Own w' w.heap.size v' (wholeV y.x z) ∧ Below w.heap.size w w' := by
  obtain ⟨i0, hi, hz0, hz1, hz2⟩ := info_parts u8_info
  have HE := Lib.hid (show wholeV y.x z = if kindF y.x.form = 5 then putT y.x.t
    else if kindF y.x.form = 9 ∨ kindF y.x.form = 10 then numB z y.x.b.length ++ y.x.b
    else if kindF y.x.form = 3 then (if y.x.form = 33 then [] else lebPut (sizeS y.x.s) y.x.s)
    else numB z y.x.u from rfl)
  have hA := (Below.refl w.heap.size w).alloc (Nat.le_refl _) (.cells #[.int .i64 y.x.form, .int .u64 (y.x.u : Int), .int .i64 y.x.s, .slice y.a y.x.b.length y.c, .string ⟨y.x.t.toArray⟩] 63)
  have hX0 := Box.new w 63 #[.int .i64 y.x.form, .int .u64 (y.x.u : Int), .int .i64 y.x.s, .slice y.a y.x.b.length y.c, .string ⟨y.x.t.toArray⟩]
  have HK := Lib.hid (fun W (hW : Below w.heap.size w W) => kind_any (hF.up hW) y.x.form)
  have HY := Lib.hid (fun W (hW : Below w.heap.size w W) => hy.below hW)
  have HU := Lib.hid hu
  have HZ := Lib.hid hz
  have HSS := Lib.hid hs
  have HNU := Lib.hid (fun W n (hn : n < two64) => numeral_any W n hn z hz)
  obtain ⟨k, hk⟩ : ∃ k, kindF y.x.form = k := ⟨_, rfl⟩
  have HKK := Lib.hid hk
  rw [hk] at hb ht HE
  obtain ⟨bn, hbn⟩ : ∃ bn, y.x.b.length = bn := ⟨_, rfl⟩
  have HBN := Lib.hid hbn
  rw [hbn] at hA hX0 hb ⊢
  clear hF hy hu hs hz hk hbn
  go_enter Tryz.func145, Tryz.ntmps145
  generalize hw1 : w.alloc (.cells #[.int .i64 y.x.form, .int .u64 (y.x.u : Int), .int .i64 y.x.s, .slice y.a bn y.c, .string ⟨y.x.t.toArray⟩] 63) = w1 at *
  have HA := Lib.hid hA
  obtain ⟨x0, x1, x2, x3, x4⟩ := five_cellsR hX0
  have HX0 := Lib.hid hX0
  have HSZ := Lib.hid (show w.heap.size ≤ w1.heap.size from hA.size)
  go_upto_region 1 with fail
  try rw [hw1]
  clear hw1 hA hX0
  go_upto_region 2 with (go_at_call 166; refine (HK.out _ HA.out).mono ?_; rw [HKK.out]; rintro r w2 ⟨rfl, rfl⟩)
  by_cases h5 : k = 5
  · have q5 : (k == 5) = true := by simpa using h5
    rw [if_pos h5] at HE
    have HPT := Lib.hid (putt_any (own_nil0 w1) (Nat.le_refl _) y.x.t (show 0 + y.x.t.length ≤ 140737488355000 by have := ht h5; omega))
    clear h5 hb ht
    go_wp2_with (go_at_call 181; refine HPT.out.mono ?_; rintro r w3 ⟨v3, rfl, hL3⟩; have HL3 := Lib.hid hL3; clear hL3)
    go_ret
    exact ⟨_, rfl, by rw [HE.out]; exact own_base HL3.out.1 HSZ.out, HA.out.trans ((laid_nilR HL3.out (Nat.le_refl _)).mono HSZ.out)⟩
  have q5 : (k == 5) = false := by simpa using h5
  rw [if_neg h5] at HE
  clear h5 ht
  by_cases h9 : k = 9 ∨ k = 10
  · have q9 : (k == 9) = true ∨ (k == 9) = false ∧ (k == 10) = true := by
      rcases h9 with rfl | rfl
      · exact .inl rfl
      · exact .inr ⟨rfl, rfl⟩
    rw [if_pos h9] at HE
    have hb6 := hb h9
    have HB6 := Lib.hid hb6
    have hwb : IntKind.u64.wrap (bn : Int) = (bn : Int) := by rw [IntWalk.u64_in _ (by omega)]
    have HNB := Lib.hid (fun W => HNU.out W bn (by unfold two64; omega))
    have HNL := Lib.hid (show (numB z bn).length + y.x.b.length ≤ 140737488355328 by rw [HBN.out]; have := numB_len (z := z) (n := bn) (by unfold two64; omega); omega)
    rw [HBN.out] at HE
    clear h9 hb hb6
    rcases q9 with q9 | ⟨q9, q10⟩
    all_goals
      have hlt := HX0.out.lt
      have KS := Lib.hid (fun X (hX : Below w1.heap.size w1 X) => (⟨hX, (hX.cell (p := ⟨w.heap.size, 3, none⟩) hlt).trans x3⟩ : Below w1.heap.size w1 X ∧ X.cell? ⟨w.heap.size, 3, none⟩ = some (.slice y.a bn y.c)))
      have hrf := Below.refl w1.heap.size w1
      clear hlt
      go_upto_region 6 with fail
      first
      | (go_region_held_law (fun X => Below w1.heap.size w1 X ∧ X.cell? ⟨w.heap.size, 3, none⟩ = some (.slice y.a bn y.c))
        ((refine KS.out _ ?_; repeat' (first | (with_reducible assumption) | (with_reducible refine below_drewN ?_ _) | (with_reducible refine Below.drew ?_))))
        (first
          | (go_at_call 182; refine (HNB.out _).mono ?_; rintro r w3 ⟨v3, rfl, hO3, hb3⟩; have hB3 : Below w1.heap.size w1 w3 := (show Below w1.heap.size w1 _ from (by repeat' (first | (with_reducible assumption) | (with_reducible refine below_drewN ?_ _) | (with_reducible refine Below.drew ?_)))).trans hb3; have HB3 := Lib.hid hB3; have HO3 := Lib.hid (show Own w3 w1.heap.size v3 (numB z bn) from hO3); clear hb3 hO3)
          | (refine step_append_bytes (by rfl) (.tmp 21) (.tmp 23) _ (by rfl) w1.heap.size i0 Tryz.underlying26 hi hz0 hz1 hz2 v3 (numB z bn) (by rfl) HO3.out w.heap.size y.a bn y.c y.x.b HBN.out (by rfl) (HY.out _ (HA.out.trans (HB3.out.mono HSZ.out))) HNL.out HB3.out.size ?_; intro v4 w4 hown4 hg4 hat4; have hB4 : Below w1.heap.size w1 w4 := HB3.out.trans (below_of_only hg4 HB3.out.size (fun x hx => (own_ge HO3.out x hx).1)); have HB4 := Lib.hid hB4; have HO4 := Lib.hid hown4; clear hown4 hg4 hat4)))
      | fail "no"
      all_goals simp only [List.getElem_toArray, List.getElem_cons_succ, List.getElem_cons_zero]
      all_goals go_wp2_with fail
      all_goals go_ret
      all_goals exact ⟨v4, rfl, by rw [HE.out]; exact own_base HO4.out HSZ.out, HA.out.trans (HB4.out.mono HSZ.out)⟩
  have q9 : (k == 9) = false := by simp; omega
  have q10 : (k == 10) = false := by simp; omega
  rw [if_neg h9] at HE
  clear h9 hb
  by_cases h3 : k = 3
  · have q3 : (k == 3) = true := by simpa using h3
    rw [if_pos h3] at HE
    clear h3
    by_cases h33 : y.x.form = 33
    · have q33 : (y.x.form == 33) = true := by simpa using h33
      rw [if_pos h33] at HE
      clear h33
      go_wp2_with fail
      go_ret
      exact ⟨_, rfl, by rw [HE.out]; exact World.ownsRow_nil _ _ _ _, HA.out⟩
    · have q33 : (y.x.form == 33) = false := by simpa using h33
      rw [if_neg h33] at HE
      have HPS := Lib.hid (putS_any (own_nil0 w1) (Nat.le_refl _) y.x.s HSS.out (show 0 ≤ 140737488355000 by decide))
      clear h33
      go_wp2_with (go_at_call 183; refine HPS.out.mono ?_; rintro r w3 ⟨v3, rfl, hL3⟩; have HL3 := Lib.hid hL3; clear hL3)
      go_ret
      exact ⟨_, rfl, by rw [HE.out]; exact own_base HL3.out.1 HSZ.out, HA.out.trans ((laid_nilR HL3.out (Nat.le_refl _)).mono HSZ.out)⟩
  · have q3 : (k == 3) = false := by simpa using h3
    rw [if_neg h3] at HE
    clear h3
    go_wp2_with (go_at_call 182; refine (HNU.out _ _ HU.out).mono ?_; rintro r w3 ⟨v3, rfl, hO3, hb3⟩; have HO3 := Lib.hid hO3; have HB3 := Lib.hid hb3; clear hO3 hb3)
    go_ret
    exact ⟨_, rfl, by rw [HE.out]; exact own_base HO3.out HSZ.out, HA.out.trans (HB3.out.mono HSZ.out)⟩

theorem rightV_spec {x : RV} {wide : Bool} (h : rightV x wide = true) : kindF x.form ≠ 0 ∧ (kindF x.form = 9 ∨ kindF x.form = 10 → x.b.length ≤ 65536) ∧ (kindF x.form = 5 → x.t.length ≤ 200) := by
  unfold rightV at h
  simp only [Bool.and_eq_true, Bool.not_eq_true', decide_eq_false_iff_not] at h
  obtain ⟨h0, -, hf⟩ := h
  refine ⟨h0, fun h9 => ?_, fun h5 => ?_⟩
  · unfold fitsV at hf
    rw [if_neg (by omega), if_pos h9] at hf
    split at hf
    · have := of_decide_eq_true hf; omega
    · rw [Bool.and_eq_true, decide_eq_true_eq] at hf; exact hf.1
  · unfold fitsV at hf
    rw [if_pos h5] at hf
    exact (rightT_spec hf).1
theorem wholeV_len {x : RV} {z : Int} (hu : x.u < two64) (hs : InI x.s) (hb : kindF x.form = 9 ∨ kindF x.form = 10 → x.b.length ≤ 65536) (ht : kindF x.form = 5 → x.t.length ≤ 200) : (wholeV x z).length ≤ 65600 := by
  unfold wholeV
  split
  · rename_i h
    have := ht h
    rw [putT_length]
    have := tlen_le x.t
    omega
  · split
    · rename_i h
      have := hb h
      have h1 := numB_len (z := z) (n := x.b.length) (by unfold two64; omega)
      rw [List.length_append]; omega
    · split
      · split
        · simp
        · have := putS_len hs; omega
      · have := numB_len (z := z) hu; omega

def putWE (x : RV) (wide : Bool) : Int := if rightV x wide = true then 0 else 2
set_option maxRecDepth 10000 in
set_option maxHeartbeats 3200000 in
theorem putW_any {w : World} {base : Nat} {v : Value} {l : List UInt8} (hown : Own w base v l) (hbase : base ≤ w.heap.size) (hF : Ft w) (hS : Sz w) (y : WLay) (hy : Rd w base y.a y.x.b) (hu : y.x.u < two64) (hs : InI y.x.s) (hb : y.x.b.length ≤ 9223372036854775807) (wide : Bool) (hlen : l.length ≤ 140737488280000) :
    Calls Tryz.prog 103 #[v, .agg #[.int .i64 y.x.form, .int .u64 (y.x.u : Int), .int .i64 y.x.s, .slice y.a y.x.b.length y.c, .string ⟨y.x.t.toArray⟩], .bool wide] w fun r w' => ∃ v', r = .returned (.tuple #[v', .int .i64 (putWE y.x wide)]) ∧
      (rightV y.x wide = true → Laid w w' base v v' (l ++ putV y.x wide)) ∧ (rightV y.x wide = false → v' = .slice none 0 0 ∧ Below w.heap.size w w') := by
  obtain ⟨i0, hi, hz0, hz1, hz2⟩ := info_parts u8_info
  have hA := (Below.refl w.heap.size w).alloc (Nat.le_refl _) (.cells #[.int .i64 y.x.form, .int .u64 (y.x.u : Int), .int .i64 y.x.s, .slice y.a y.x.b.length y.c, .string ⟨y.x.t.toArray⟩] 63)
  have hX0 := Box.new w 63 #[.int .i64 y.x.form, .int .u64 (y.x.u : Int), .int .i64 y.x.s, .slice y.a y.x.b.length y.c, .string ⟨y.x.t.toArray⟩]
  have HR := Lib.hid (fun W (hW : Below w.heap.size w W) => rightV_any (hF.up hW) (hS.below hW hS.pos) y (((hy.more hbase).below hW).more hW.size) hu hb wide)
  obtain ⟨rr, hrr⟩ : ∃ rr, rightV y.x wide = rr := ⟨_, rfl⟩
  rw [hrr] at HR ⊢
  have HE := Lib.hid (show putWE y.x wide = if rr = true then 0 else 2 by rw [← hrr]; rfl)
  cases rr with
  | false =>
    have HA := Lib.hid hA
    clear hA hX0 hF hS hy hu hs hb hlen hown hbase hrr
    obtain ⟨x0, x1, x2, x3, x4⟩ := five_cellsR (Box.new w 63 #[.int .i64 y.x.form, .int .u64 (y.x.u : Int), .int .i64 y.x.s, .slice y.a y.x.b.length y.c, .string ⟨y.x.t.toArray⟩])
    generalize y.x.b.length = bn at *
    generalize (ByteArray.mk y.x.t.toArray) = ts at *
    go_enter Tryz.func103, Tryz.ntmps103
    go_wp2_with (go_at_call 144; refine (HR.out _ HA.out).mono ?_; rintro r w2 ⟨rfl, hb2⟩; have HB2 := Lib.hid (HA.out.trans (hb2.mono HA.out.size)); clear hb2)
    go_ret2
    refine ⟨.slice none 0 0, ?_, (fun h => by cases h), fun _ => ⟨rfl, HB2.out⟩⟩
    rw [HE.out]; rfl
  | true =>
    obtain ⟨hk0, hb9, ht5⟩ := rightV_spec hrr
    obtain ⟨n, hfn, hn⟩ := kindF_in hk0
    have HWD := Lib.hid (fun W (hW : Below w.heap.size w W) => (by have := width_any (hF.up hW) (hS.below hW hS.pos) hn wide; rwa [← hfn] at this : Calls Tryz.prog 146 #[.int .i64 y.x.form, .bool wide] W fun r w' => r = .returned (.int .i64 (widF y.x.form wide)) ∧ W = w'))
    have hzi := widF_in n hn wide
    rw [← hfn] at hzi
    have HWH := Lib.hid (fun W (hW : Below w.heap.size w W) => whole_any (hF.up hW) y (((hy.more hbase).below hW).more hW.size) hu hs hb9 ht5 (widF y.x.form wide) hzi)
    have HPV := Lib.hid (show putV y.x wide = wholeV y.x (widF y.x.form wide) from rfl)
    have HLN := Lib.hid (show l.length + (wholeV y.x (widF y.x.form wide)).length ≤ 140737488355328 by
      have := wholeV_len (z := widF y.x.form wide) hu hs hb9 ht5
      omega)
    have HA := Lib.hid hA
    have HX0 := Lib.hid hX0
    have HOW := Lib.hid hown
    have HBS := Lib.hid hbase
    generalize wholeV y.x (widF y.x.form wide) = M at *
    generalize widF y.x.form wide = z at *
    obtain ⟨bn, hbn⟩ : ∃ bn, y.x.b.length = bn := ⟨_, rfl⟩
    rw [hbn] at HR HWH HA HX0 ⊢
    obtain ⟨ts, hts⟩ : ∃ ts : ByteArray, ts = ⟨y.x.t.toArray⟩ := ⟨_, rfl⟩
    rw [← hts] at HR HWH HA HX0 ⊢
    obtain ⟨mn, hmn⟩ : ∃ mn, M.length = mn := ⟨_, rfl⟩
    have HMN := Lib.hid hmn
    clear hA hX0 hF hS hy hu hs hb hlen hown hbase hrr hk0 hb9 ht5 hfn hn hzi hbn hts hmn
    go_enter Tryz.func103, Tryz.ntmps103
    go_upto_region 1 with fail
    generalize hw1 : w.alloc (.cells #[.int .i64 y.x.form, .int .u64 (y.x.u : Int), .int .i64 y.x.s, .slice y.a bn y.c, .string ts] 63) = w1 at *
    clear hw1
    obtain ⟨x0, x1, x2, x3, x4⟩ := five_cellsR HX0.out
    go_upto_region 3 with (go_at_call 144; refine (HR.out _ HA.out).mono ?_; rintro r w2 ⟨rfl, hb2⟩; have HB12 := Lib.hid hb2; clear hb2)
    have HB2 := Lib.hid (HA.out.trans (HB12.out.mono HA.out.size))
    have HX2 := Lib.hid (HX0.out.below HB12.out HX0.out.lt)
    clear x0 x1 x2 x3 x4
    have KS := Lib.hid (fun X (hX : Below w2.heap.size w2 X) => (five_cellsR (HX2.out.below hX HX2.out.lt) : X.cell? ⟨w.heap.size, 0, none⟩ = some (.int .i64 y.x.form) ∧ X.cell? ⟨w.heap.size, 1, none⟩ = some (.int .u64 (y.x.u : Int)) ∧ X.cell? ⟨w.heap.size, 2, none⟩ = some (.int .i64 y.x.s) ∧ X.cell? ⟨w.heap.size, 3, none⟩ = some (.slice y.a bn y.c) ∧ X.cell? ⟨w.heap.size, 4, none⟩ = some (.string ts)))
    have hrf := Below.refl w2.heap.size w2
    first
      | (go_region_held_law (fun X => X.cell? ⟨w.heap.size, 0, none⟩ = some (.int .i64 y.x.form) ∧ X.cell? ⟨w.heap.size, 1, none⟩ = some (.int .u64 (y.x.u : Int)) ∧ X.cell? ⟨w.heap.size, 2, none⟩ = some (.int .i64 y.x.s) ∧ X.cell? ⟨w.heap.size, 3, none⟩ = some (.slice y.a bn y.c) ∧ X.cell? ⟨w.heap.size, 4, none⟩ = some (.string ts))
        ((first | (refine KS.out _ ?_; (repeat' (first | (with_reducible assumption) | (with_reducible refine below_drewN ?_ _) | (with_reducible refine Below.drew ?_))); done) | (refine K5.out _ ?_; (repeat' (first | (with_reducible assumption) | (with_reducible refine below_drewN ?_ _) | (with_reducible refine Below.drew ?_))); done)))
        (first
          | (go_at_call 146; refine (HWD.out _ (HB2.out.trans ((show Below w2.heap.size w2 _ from (by repeat' (first | (with_reducible assumption) | (with_reducible refine below_drewN ?_ _) | (with_reducible refine Below.drew ?_)))).mono HB2.out.size))).mono ?_; rintro r w3 ⟨rfl, rfl⟩)
          | (go_at_call 145; refine (HWH.out _ (HB2.out.trans ((show Below w2.heap.size w2 _ from (by repeat' (first | (with_reducible assumption) | (with_reducible refine below_drewN ?_ _) | (with_reducible refine Below.drew ?_)))).mono HB2.out.size))).mono ?_; rintro r w4 ⟨v4, rfl, hO4, hb4⟩; have hB4 : Below w2.heap.size w2 w4 := (show Below w2.heap.size w2 _ from (by repeat' (first | (with_reducible assumption) | (with_reducible refine below_drewN ?_ _) | (with_reducible refine Below.drew ?_)))).trans hb4; have HB4 := Lib.hid hB4; (obtain ⟨A4, c4, rfl, -, -, hr4⟩ := own_slice hO4); rw [HMN.out]; have HR4 := Lib.hid hr4; clear hb4 hO4 hr4)
          | (refine step_append_bytes (by rfl) (.tmp 12) (.tmp 18) _ (by rfl) base i0 Tryz.underlying26 hi hz0 hz1 hz2 v l (by rfl) (own_below HOW.out (HB2.out.trans (HB4.out.mono HB2.out.size))) w4.heap.size A4 mn c4 M HMN.out (by rfl) HR4.out HLN.out (Nat.le_trans HBS.out (HB2.out.trans (HB4.out.mono HB2.out.size)).size) ?_; intro v5 w5 hown5 hg5 hat5; have HL5 := Lib.hid (Laid.of_append (HB2.out.trans (HB4.out.mono HB2.out.size)) hown5 hg5 hat5); have K5 := Lib.hid (fun X (hX : Below w5.heap.size w5 X) => (five_cellsR (((HX2.out.below HB4.out HX2.out.lt).grown hg5 (fun e => own_other (own_below HOW.out (HB2.out.trans (HB4.out.mono HB2.out.size))) (HX2.out.below HB4.out HX2.out.lt) (by decide) e.symm)).below hX (Box.lt ((HX2.out.below HB4.out HX2.out.lt).grown hg5 (fun e => own_other (own_below HOW.out (HB2.out.trans (HB4.out.mono HB2.out.size))) (HX2.out.below HB4.out HX2.out.lt) (by decide) e.symm)))) : X.cell? ⟨w.heap.size, 0, none⟩ = some (.int .i64 y.x.form) ∧ X.cell? ⟨w.heap.size, 1, none⟩ = some (.int .u64 (y.x.u : Int)) ∧ X.cell? ⟨w.heap.size, 2, none⟩ = some (.int .i64 y.x.s) ∧ X.cell? ⟨w.heap.size, 3, none⟩ = some (.slice y.a bn y.c) ∧ X.cell? ⟨w.heap.size, 4, none⟩ = some (.string ts))); have hrf5 := Below.refl w5.heap.size w5; clear hown5 hg5 hat5)))
      | fail "no"
    all_goals simp only [List.getElem_toArray, List.getElem_cons_succ, List.getElem_cons_zero]
    all_goals go_wp2_with fail
    all_goals go_ret2
    all_goals refine ⟨v5, ?_, (fun _ => by rw [HPV.out]; exact HL5.out), fun h => by cases h⟩
    all_goals rw [HE.out]
    all_goals rfl

end Go.Proofs.YtejicboemkpeoaaGreatDoor
