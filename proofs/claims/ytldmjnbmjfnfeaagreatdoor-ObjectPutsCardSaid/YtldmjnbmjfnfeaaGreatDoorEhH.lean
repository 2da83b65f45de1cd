/-
  The document's Put of layer 6: a header's bytes.
-/
import Derived.Test.YtldmjnbmjfnfeaaGreatDoorCsL
import Derived.Laws.CopyOwn
import Derived.Lib.BufferWrite
import Derived.Test.YtldmjnbmjfnfeaaGreatDoorEhG
import Derived.Laws.MakeOwn
namespace Go.Proofs.YtldmjnbmjfnfeaaGreatDoor
open Go Go.RowKit

/-- Bytes laid over others from a place on. -/
def putAt (l : List UInt8) (o : Nat) (m : List UInt8) : List UInt8 := l.take o ++ m ++ l.drop (o + m.length)
theorem putAt_length (l : List UInt8) (o : Nat) (m : List UInt8) (h : o + m.length ≤ l.length) : (putAt l o m).length = l.length := by simp [putAt]; omega
theorem u8s_putAt (l : List UInt8) (o : Nat) (m : List UInt8) : u8s (putAt l o m) = (u8s l).take o ++ u8s m ++ (u8s l).drop (o + m.length) := by
  simp [putAt, u8s, List.map_take, List.map_drop]

/-- A row of bytes that is known whole. -/
abbrev RowB (w : World) (g : Nat) (l : List UInt8) : Prop := Box w g 5 (u8s l).toArray

theorem RowB.own {w : World} {g base : Nat} {l : List UInt8} (h : RowB w g l) (hb : base ≤ g) (hl : l.length ≤ maxLen) : Own w base (.slice (some ⟨g, 0, none⟩) l.length l.length) l :=
  ⟨by simp, .inr ⟨g, l.length, (u8s l).toArray, rfl, hb, h, Nat.le_refl _, hl, by simp, by simpa using List.take_of_length_le (show (u8s l).length ≤ l.length by simp)⟩⟩
theorem RowB.store {w : World} {g : Nat} {l : List UInt8} (h : RowB w g l) (i : Nat) (b : UInt8) : RowB (w.setCell ⟨g, i, none⟩ (.int .u8 (b.toNat : Int))) g (l.set i b) := by
  have := h.set i (.int .u8 (b.toNat : Int))
  unfold RowB
  rw [show u8s (l.set i b) = (u8s l).set i (.int .u8 (b.toNat : Int)) by simp [u8s, List.map_set]]
  simpa using this
theorem RowB.cell_ {w : World} {g : Nat} {l : List UInt8} (h : RowB w g l) (i : Nat) (hi : i < l.length) : w.cell? ⟨g, i, none⟩ = some (.int .u8 (l[i].toNat : Int)) := by
  rw [h.cell, List.getElem?_toArray, u8s_get, List.getElem?_eq_getElem hi]
  rfl

section
variable {P : Program}
theorem grown_setRow (w : World) (g : Nat) (cs : Array Value) : w.grownBy (w.setRow g cs) (some g) := ⟨rfl, rfl, rfl, by simp [World.setRow], fun k _ hk => setRow_other w g k cs (fun e => hk (by rw [e]))⟩

theorem run_copy_bytes (w : World) (t ty : TypeId) (i : TypeInfo) (ht : P.underlying t = some (.slice 5)) (hi : P.info? 5 = some i) (hs : i.size = 1)
    (g o dl dc : Nat) (l : List UInt8) (h : RowB w g l) (A : Option Addr) (c B : Nat) (m : List UInt8) (hr : Rd w B A m) (hm : 0 < m.length) (hd : m.length ≤ dl) (hf : o + m.length ≤ l.length) :
    ∃ w', (Builtin.copy_ #[t, t] ty #[.slice (some ⟨g, o, none⟩) dl dc, .slice A m.length c]).run P w = .ok (goInt m.length) w' ∧ RowB w' g (putAt l o m) ∧ w.grownBy w' (some g) := by
  obtain ⟨b, q, rfl, _, hc⟩ := hr hm
  have hrun := run_copy_row (P := P) w t t ty 5 g o dl dc ⟨b, q, none⟩ m.length c (u8s l).toArray 5 (u8s m) ht (by rw [hi]; simp [hs]) h (by rw [u8s_length]; exact (Nat.min_eq_left hd).symm)
    (fun j v hv => by
      rw [u8s_get] at hv
      rcases hj : m[j]? with _ | x
      · rw [hj] at hv; cases hv
      · rw [hj] at hv
        rw [addr_add, hc j x hj]
        simpa using hv) (by simpa using hf) (u8s_one m)
  rw [u8s_length] at hrun
  refine ⟨_, hrun, ?_, grown_setRow w g _⟩
  have := setRow_heap w g _ ((u8s l).take o ++ u8s m ++ (u8s l).drop (o + m.length)).toArray 5 _ h
  unfold RowB Box
  rw [u8s_putAt]
  exact this

theorem step_copy_bytes {w : World} {ops : Array Oper} {o : Oper} {a : Act} {K : Act → World → Prop} {Q : Exit → Act → World → Prop} {E : Prop} (hw : Region.wanted o (yielded ops a.tmps) = true) (s x : Operand) (t : TypeId)
    (ho : o.op = .call { callee := .builtin .copy, args := #[s, x], argTypes := #[t, t] })
    (i : TypeInfo) (ht : P.underlying t = some (.slice 5)) (hi : P.info? 5 = some i) (hs : i.size = 1)
    (g p dl dc : Nat) (hv : a.eval s = .slice (some ⟨g, p, none⟩) dl dc) (l : List UInt8) (h : RowB w g l) (A : Option Addr) (n c B : Nat) (m : List UInt8) (hn : m.length = n) (hx : a.eval x = .slice A n c) (hr : Rd w B A m)
    (hm : 0 < m.length) (hd : m.length ≤ dl) (hf : p + m.length ≤ l.length)
    (hk : ∀ w', RowB w' g (putAt l p m) → w.grownBy w' (some g) → K (a.put o.dst (goInt m.length)) w') :
    if Region.wanted o (yielded ops a.tmps) = true then Oper.wp P o a w K Q else E := by
  subst hn
  rw [if_pos hw]
  obtain ⟨w', hrun, h2, h3⟩ := run_copy_bytes (P := P) w t o.type i ht hi hs g p dl dc l h A c B m hr hm hd hf
  unfold Oper.wp execOp
  simp only [ho, resolve, invoke, builtin, Sem.run_bind, Sem.run_pure, Result.andThen_ok, List.map_toArray, List.map_cons, List.map_nil, hv, hx, hrun]
  exact hk w' h2 h3

end

end Go.Proofs.YtldmjnbmjfnfeaaGreatDoor

namespace Go.Proofs.YtldmjnbmjfnfeaaGreatDoor
open Go Go.RowKit

/-- The bytes of the document's Put, step by step. -/
def putL (x0 x1 x2 x3 x4 : Nat) : Nat → List UInt8
  | 0 => List.replicate 64 0
  | 1 => putAt (List.replicate 64 0) 0 magB
  | 2 => putAt (putL x0 x1 x2 x3 x4 1) 16 (leBytes x0 2)
  | 3 => putAt (putL x0 x1 x2 x3 x4 2) 18 (leBytes x1 2)
  | 4 => (putL x0 x1 x2 x3 x4 3).set 20 1
  | 5 => putAt (putL x0 x1 x2 x3 x4 4) 40 (leBytes x2 8)
  | 6 => (putL x0 x1 x2 x3 x4 5).set 52 64
  | 7 => (putL x0 x1 x2 x3 x4 6).set 58 64
  | 8 => putAt (putL x0 x1 x2 x3 x4 7) 60 (leBytes x3 2)
  | 9 => putAt (putL x0 x1 x2 x3 x4 8) 62 (leBytes x4 2)
  | _ => []

theorem le2 (x : Nat) : leBytes x 2 = [UInt8.ofNat (x % 256), UInt8.ofNat (x / 256 % 256)] := rfl
theorem le8 (x : Nat) : ∃ a b c d e f g h, leBytes x 8 = [a, b, c, d, e, f, g, h] := ⟨_, _, _, _, _, _, _, _, rfl⟩

theorem putL_all (x0 x1 x2 x3 x4 : Nat) : putL x0 x1 x2 x3 x4 9 = magB ++ List.replicate 9 0 ++ itsB (itsT x0 x1 x2 x3 x4) := by
  obtain ⟨a, b, c, d, e, f, g, h, h8⟩ := le8 x2
  simp only [putL, itsB, itsT, List.flatMap_cons, List.flatMap_nil, h8, le2]
  generalize UInt8.ofNat (x0 % 256) = a0
  generalize UInt8.ofNat (x0 / 256 % 256) = b0
  generalize UInt8.ofNat (x1 % 256) = a1
  generalize UInt8.ofNat (x1 / 256 % 256) = b1
  generalize UInt8.ofNat (x3 % 256) = a3
  generalize UInt8.ofNat (x3 / 256 % 256) = b3
  generalize UInt8.ofNat (x4 % 256) = a4
  generalize UInt8.ofNat (x4 / 256 % 256) = b4
  rfl

theorem len64 (x0 x1 x2 x3 x4 : Nat) : (putL x0 x1 x2 x3 x4 1).length = 64 ∧ (putL x0 x1 x2 x3 x4 2).length = 64 ∧ (putL x0 x1 x2 x3 x4 3).length = 64 ∧ (putL x0 x1 x2 x3 x4 4).length = 64 ∧ (putL x0 x1 x2 x3 x4 5).length = 64 ∧
    (putL x0 x1 x2 x3 x4 6).length = 64 ∧ (putL x0 x1 x2 x3 x4 7).length = 64 ∧ (putL x0 x1 x2 x3 x4 8).length = 64 ∧ (putL x0 x1 x2 x3 x4 9).length = 64 := by
  have h1 : (putL x0 x1 x2 x3 x4 1).length = 64 := by simp [putL, putAt, magB]
  have h2 : (putL x0 x1 x2 x3 x4 2).length = 64 := by rw [putL, putAt_length _ _ _ (by rw [h1]; simp)]; exact h1
  have h3 : (putL x0 x1 x2 x3 x4 3).length = 64 := by rw [putL, putAt_length _ _ _ (by rw [h2]; simp)]; exact h2
  have h4 : (putL x0 x1 x2 x3 x4 4).length = 64 := by rw [putL, List.length_set]; exact h3
  have h5 : (putL x0 x1 x2 x3 x4 5).length = 64 := by rw [putL, putAt_length _ _ _ (by rw [h4]; simp)]; exact h4
  have h6 : (putL x0 x1 x2 x3 x4 6).length = 64 := by rw [putL, List.length_set]; exact h5
  have h7 : (putL x0 x1 x2 x3 x4 7).length = 64 := by rw [putL, List.length_set]; exact h6
  have h8 : (putL x0 x1 x2 x3 x4 8).length = 64 := by rw [putL, putAt_length _ _ _ (by rw [h7]; simp)]; exact h7
  have h9 : (putL x0 x1 x2 x3 x4 9).length = 64 := by rw [putL, putAt_length _ _ _ (by rw [h8]; simp)]; exact h8
  exact ⟨h1, h2, h3, h4, h5, h6, h7, h8, h9⟩

section
variable {P : Program}
theorem wpList_make_bytes {w : World} {ops : Array Oper} {rest : List Oper} {o : Oper} {a : Act} {Q : Exit → Act → World → Prop} (hg : o.guard = none) (l c : Operand) (t : TypeId) (hop : o.op = Op.makeSlice t l c)
    (i : TypeInfo) (h1 : P.underlying t = some (.slice 5)) (h2 : P.info? 5 = some i) (h3 : i.zero = some (.int .u8 0)) (h4 : i.size = 1) (h5 : i.bytes = 1)
    (n : Nat) (hn : n ≤ 140737488355328) (hl : a.eval l = .int .i64 (n : Int)) (hc : a.eval c = .int .i64 (n : Int))
    (g : Nat) (hgw : w.heap.size = g) (hk : ∀ w', RowB w' g (List.replicate n 0) → Below w.heap.size w w' → wpList P ops Q rest (a.put o.dst (.slice (some ⟨g, 0, none⟩) n n)) w') :
    wpList P ops Q (o :: rest) a w := by
  subst hgw
  refine wpList_plain hg fun K hK => ?_
  have hrun := run_make (P := P) w t 5 i (.int .u8 0) h1 h2 h3 .i64 .i64 (n : Int) (n : Int) (by omega) (Int.le_refl _) (by rw [h5]; omega) (by omega)
  have e : madeCells (Value.int .u8 0).cells (n * 1) = (u8s (List.replicate n 0)).toArray := by
    apply Array.ext
    · simp [madeCells, u8s]
    · intro i h1 h2
      simp [madeCells, u8s, Value.cells, Nat.mod_one]
  rw [Int.toNat_natCast, h4, e] at hrun
  unfold Oper.wp
  simp [execOp, hop, hl, hc, hrun, Result.andThen]
  exact hK _ _ (hk _ (Box.new w _ _) ((Below.refl _ _).alloc (Nat.le_refl _) _))
end

theorem copy_magic {W : World} {g : Nat} (h : RowB W g (List.replicate 64 0)) :
    ∃ w', (Builtin.copy_ #[22, 9] 3 #[.slice (some ⟨g, 0, none⟩) 64 64, .string { data := #[127, 69, 76, 70, 2, 1, 1] }]).run Tryz.prog W = .ok (goInt 7) w' ∧ RowB w' g (putAt (List.replicate 64 0) 0 magB) ∧ W.grownBy w' (some g) := by
  obtain ⟨i0, hi, _, hs, _⟩ := info_parts u8_info
  have hrun := Lib.run_copy_row_string (P := Tryz.prog) W 22 9 3 5 g 0 64 64 ⟨magB.toArray⟩ (u8s (List.replicate 64 0)).toArray 5 Tryz.underlying22 (by rw [hi]; simp [hs]) h (by decide) (by decide)
  refine ⟨_, hrun, ?_, grown_setRow W g _⟩
  have := setRow_heap W g _ ((u8s (List.replicate 64 0)).take 0 ++ u8s magB ++ (u8s (List.replicate 64 0)).drop (0 + magB.length)).toArray 5 _ h
  unfold RowB Box
  rw [u8s_putAt]
  exact this

/-- What the steps of the document's Put know: the header, the bytes so far, and what has not turned. -/
def Hp (w W : World) (cs : Array Value) (l : List UInt8) : Prop := Box W w.heap.size 64 cs ∧ RowB W (w.heap.size + 1) l ∧ Below w.heap.size w W
section
variable {w W W' : World} {cs : Array Value} {l l' : List UInt8}
theorem Hp.below (h : Hp w W cs l) (hb : Below W.heap.size W W') : Hp w W' cs l := ⟨h.1.below hb h.1.lt, h.2.1.below hb h.2.1.lt, h.2.2.trans (hb.mono h.2.2.size)⟩
theorem Hp.drewN (h : Hp w W cs l) (n : Nat) : Hp w (W.drewN n) cs l := ⟨h.1, h.2.1, below_drewN h.2.2 n⟩
/-- The same, whatever was drawn. -/
theorem first_world {n : Nat} (h : Hp w W cs l) : Hp w (W.drewN n) cs l := h.drewN n
theorem Hp.drew (h : Hp w W cs l) : Hp w W.drew cs l := ⟨h.1, h.2.1, h.2.2.drew⟩
theorem Hp.copied (h : Hp w W cs l) (hr : RowB W' (w.heap.size + 1) l') (hg : W.grownBy W' (some (w.heap.size + 1))) : Hp w W' cs l' :=
  ⟨h.1.grown hg (by simp), hr, h.2.2.trans (below_of_only hg h.2.2.size (fun k hk => by injection hk with hk; omega))⟩
theorem Hp.stored (h : Hp w W cs l) (i : Nat) (b : UInt8) : Hp w (W.setCell ⟨w.heap.size + 1, i, none⟩ (.int .u8 (b.toNat : Int))) cs (l.set i b) :=
  h.copied (h.2.1.store i b) (only_set (only_refl W _) i _)
end

set_option maxHeartbeats 4000000 in
set_option maxRecDepth 10000 in
theorem rputh_any (t m : Int) (o : Nat) (n s : Int) (w : World) (ho : o < two64) :
    Calls Tryz.prog 71 #[hdV t m o n s] w fun r w' => ∃ v', r = .returned v' ∧ Own w' w.heap.size v' (headB t m o n s) ∧ Below w.heap.size w w' := by
  obtain ⟨i0, hi, hz0, hz1, hz2⟩ := info_parts u8_info
  have e0 := wrapN_eq t
  have e1 := wrapN_eq m
  have e3 := wrapN_eq n
  have e4 := wrapN_eq s
  have HH := Lib.hid (show headB t m o n s = putL (wrapN t) (wrapN m) o (wrapN n) (wrapN s) 9 from (putL_all _ _ _ _ _).symm)
  have hw : ∀ y : Int, wrapN y < two64 := fun y => by unfold wrapN two64; rw [IntKind.wrap_u64]; omega
  have P0 := Lib.hid (fun W => rput_any W (wrapN t) (hw t) 2 (by omega))
  have P1 := Lib.hid (fun W => rput_any W (wrapN m) (hw m) 2 (by omega))
  have P2 := Lib.hid (fun W => rput_any W o ho 8 (by omega))
  have P3 := Lib.hid (fun W => rput_any W (wrapN n) (hw n) 2 (by omega))
  have P4 := Lib.hid (fun W => rput_any W (wrapN s) (hw s) 2 (by omega))
  have E2 : clampOf 2 = 2 := rfl
  have E8 : clampOf 8 = 8 := rfl
  rw [E2] at P0 P1 P3 P4
  rw [E8] at P2
  clear E2 E8 hw ho
  generalize headB t m o n s = hbs at *
  generalize wrapN t = x0 at *
  generalize wrapN m = x1 at *
  generalize wrapN n = x3 at *
  generalize wrapN s = x4 at *
  have HL := Lib.hid (len64 x0 x1 o x3 x4)
  have HX := Lib.hid (Box.new w 64 #[.int .i64 t, .int .i64 m, .int .u64 (o : Int), .int .i64 n, .int .i64 s])
  have HBl := Lib.hid ((Below.refl w.heap.size w).alloc (Nat.le_refl _) (.cells #[.int .i64 t, .int .i64 m, .int .u64 (o : Int), .int .i64 n, .int .i64 s] 64))
  go_enter Tryz.func71, Tryz.ntmps71
  go_wp2_with (first
    | (at_make; refine wpList_make_bytes rfl _ _ 22 rfl i0 Tryz.underlying22 hi hz0 hz1 hz2 64 (by decide) rfl rfl (w.heap.size + 1) (by simp) ?_; intro w1 hr1 hb1; have H1 := Lib.hid (show Hp w w1 #[.int .i64 t, .int .i64 m, .int .u64 (o : Int), .int .i64 n, .int .i64 s] (List.replicate 64 0) from ⟨HX.out.below hb1 (by simp), hr1, HBl.out.trans (hb1.mono (by simp))⟩); obtain ⟨w2, hrun2, hr2, hg2⟩ := copy_magic H1.out.2.1; have H2 := Lib.hid (show Hp w w2 #[.int .i64 t, .int .i64 m, .int .u64 (o : Int), .int .i64 n, .int .i64 s] (putL x0 x1 o x3 x4 1) by rw [putL]; exact H1.out.copied hr2 hg2); clear hr1 hb1 HX HBl hr2 hg2 H1))
  clear hrun2
  go_region_held_law (fun W => W.cell? ⟨w.heap.size, 0, none⟩ = some (.int .i64 t)) ((first | exact H2.out.1.cell 0 | exact H3.out.1.cell 0 | exact H4.out.1.cell 0)) (first
    | (go_at_call 67; refine (P0.out _).mono ?_; rintro r w3 ⟨v3, rfl, hown, hb⟩; have H3 := Lib.hid ((show Hp w _ #[.int .i64 t, .int .i64 m, .int .u64 (o : Int), .int .i64 n, .int .i64 s] (putL x0 x1 o x3 x4 1) from first_world H2.out).below hb); clear hb; (obtain ⟨A3, c3, rfl, _, _, hrd⟩ := own_slice hown); clear hown P0)
    | (refine step_copy_bytes (by rfl) (.tmp 8) (.tmp 12) _ (by rfl) i0 Tryz.underlying22 hi hz1 (w.heap.size + 1) 16 48 48 (by rfl) (putL x0 x1 o x3 x4 1) H3.out.2.1 A3 _ c3 _ (leBytes x0 2) (by rfl) (by rfl) hrd (by simp) (by simp) (by rw [HL.out.1]; simp) ?_; intro w4 hr hg; have H4 := Lib.hid (show Hp w w4 #[.int .i64 t, .int .i64 m, .int .u64 (o : Int), .int .i64 n, .int .i64 s] (putL x0 x1 o x3 x4 2) by rw [putL]; exact H3.out.copied hr hg); clear hr hg hrd))
  clear H2 H3
  go_wp2_with fail
  go_region_held_law (fun W => W.cell? ⟨w.heap.size, 1, none⟩ = some (.int .i64 m)) ((first | exact H4.out.1.cell 1 | exact H5.out.1.cell 1 | exact H6.out.1.cell 1)) (first
    | (go_at_call 67; refine (P1.out _).mono ?_; rintro r w5 ⟨v5, rfl, hown, hb⟩; have H5 := Lib.hid ((show Hp w _ #[.int .i64 t, .int .i64 m, .int .u64 (o : Int), .int .i64 n, .int .i64 s] (putL x0 x1 o x3 x4 2) from first_world H4.out).below hb); clear hb; (obtain ⟨A5, c5, rfl, _, _, hrd⟩ := own_slice hown); clear hown P1)
    | (refine step_copy_bytes (by rfl) (.tmp 15) (.tmp 19) _ (by rfl) i0 Tryz.underlying22 hi hz1 (w.heap.size + 1) 18 46 46 (by rfl) (putL x0 x1 o x3 x4 2) H5.out.2.1 A5 _ c5 _ (leBytes x1 2) (by rfl) (by rfl) hrd (by simp) (by simp) (by rw [HL.out.2.1]; simp) ?_; intro w6 hr hg; have H6 := Lib.hid (show Hp w w6 #[.int .i64 t, .int .i64 m, .int .u64 (o : Int), .int .i64 n, .int .i64 s] (putL x0 x1 o x3 x4 3) by rw [putL]; exact H5.out.copied hr hg); clear hr hg hrd))
  clear H4 H5
  obtain ⟨u20, hu20⟩ : ∃ u, w6.cell? ⟨w.heap.size + 1, 20, none⟩ = some u := ⟨_, H6.out.2.1.cell_ 20 (by rw [HL.out.2.2.1]; decide)⟩
  have hf20 := H6.out.2.1.free 20
  have H7 := Lib.hid (show Hp w (w6.setCell ⟨w.heap.size + 1, 20, none⟩ (.int .u8 1)) #[.int .i64 t, .int .i64 m, .int .u64 (o : Int), .int .i64 n, .int .i64 s] (putL x0 x1 o x3 x4 4) by rw [putL]; exact H6.out.stored 20 1)
  clear H6
  go_wp2_with fail
  clear hu20 hf20
  generalize w6.setCell ⟨w.heap.size + 1, 20, none⟩ (.int .u8 1) = w7 at *
  go_region_held_law (fun W => W.cell? ⟨w.heap.size, 2, none⟩ = some (.int .u64 (o : Int))) ((first | exact H7.out.1.cell 2 | exact H8.out.1.cell 2 | exact H9.out.1.cell 2)) (first
    | (go_at_call 67; refine (P2.out _).mono ?_; rintro r w8 ⟨v8, rfl, hown, hb⟩; have H8 := Lib.hid ((show Hp w _ #[.int .i64 t, .int .i64 m, .int .u64 (o : Int), .int .i64 n, .int .i64 s] (putL x0 x1 o x3 x4 4) from first_world H7.out).below hb); clear hb; (obtain ⟨A8, c8, rfl, _, _, hrd⟩ := own_slice hown); clear hown P2)
    | (refine step_copy_bytes (by rfl) (.tmp 24) (.tmp 27) _ (by rfl) i0 Tryz.underlying22 hi hz1 (w.heap.size + 1) 40 24 24 (by rfl) (putL x0 x1 o x3 x4 4) H8.out.2.1 A8 _ c8 _ (leBytes o 8) (by rfl) (by rfl) hrd (by simp) (by simp) (by rw [HL.out.2.2.2.1]; simp) ?_; intro w9 hr hg; have H9 := Lib.hid (show Hp w w9 #[.int .i64 t, .int .i64 m, .int .u64 (o : Int), .int .i64 n, .int .i64 s] (putL x0 x1 o x3 x4 5) by rw [putL]; exact H8.out.copied hr hg); clear hr hg hrd))
  clear H7 H8
  obtain ⟨u52, hu52⟩ : ∃ u, w9.cell? ⟨w.heap.size + 1, 52, none⟩ = some u := ⟨_, H9.out.2.1.cell_ 52 (by rw [HL.out.2.2.2.2.1]; decide)⟩
  have hf52 := H9.out.2.1.free 52
  obtain ⟨u58, hu58⟩ : ∃ u, w9.cell? ⟨w.heap.size + 1, 58, none⟩ = some u := ⟨_, H9.out.2.1.cell_ 58 (by rw [HL.out.2.2.2.2.1]; decide)⟩
  have hf58 := H9.out.2.1.free 58
  have H10 := (show Hp w (w9.setCell ⟨w.heap.size + 1, 52, none⟩ (.int .u8 64)) #[.int .i64 t, .int .i64 m, .int .u64 (o : Int), .int .i64 n, .int .i64 s] (putL x0 x1 o x3 x4 6) by rw [putL]; exact H9.out.stored 52 64)
  have H11 := Lib.hid (show Hp w ((w9.setCell ⟨w.heap.size + 1, 52, none⟩ (.int .u8 64)).setCell ⟨w.heap.size + 1, 58, none⟩ (.int .u8 64)) #[.int .i64 t, .int .i64 m, .int .u64 (o : Int), .int .i64 n, .int .i64 s] (putL x0 x1 o x3 x4 7) by rw [putL]; exact H10.stored 58 64)
  clear H9 H10
  go_wp2_with fail
  clear hu52 hf52 hu58 hf58
  generalize (w9.setCell ⟨w.heap.size + 1, 52, none⟩ (.int .u8 64)).setCell ⟨w.heap.size + 1, 58, none⟩ (.int .u8 64) = w11 at *
  go_region_held_law (fun W => W.cell? ⟨w.heap.size, 3, none⟩ = some (.int .i64 n)) ((first | exact H11.out.1.cell 3 | exact H12.out.1.cell 3 | exact H13.out.1.cell 3)) (first
    | (go_at_call 67; refine (P3.out _).mono ?_; rintro r w12 ⟨v12, rfl, hown, hb⟩; have H12 := Lib.hid ((show Hp w _ #[.int .i64 t, .int .i64 m, .int .u64 (o : Int), .int .i64 n, .int .i64 s] (putL x0 x1 o x3 x4 7) from first_world H11.out).below hb); clear hb; (obtain ⟨A12, c12, rfl, _, _, hrd⟩ := own_slice hown); clear hown P3)
    | (refine step_copy_bytes (by rfl) (.tmp 34) (.tmp 38) _ (by rfl) i0 Tryz.underlying22 hi hz1 (w.heap.size + 1) 60 4 4 (by rfl) (putL x0 x1 o x3 x4 7) H12.out.2.1 A12 _ c12 _ (leBytes x3 2) (by rfl) (by rfl) hrd (by simp) (by simp) (by rw [HL.out.2.2.2.2.2.2.1]; simp) ?_; intro w13 hr hg; have H13 := Lib.hid (show Hp w w13 #[.int .i64 t, .int .i64 m, .int .u64 (o : Int), .int .i64 n, .int .i64 s] (putL x0 x1 o x3 x4 8) by rw [putL]; exact H12.out.copied hr hg); clear hr hg hrd))
  clear H11 H12
  go_wp2_with fail
  go_region_held_law (fun W => W.cell? ⟨w.heap.size, 4, none⟩ = some (.int .i64 s)) ((first | exact H13.out.1.cell 4 | exact H14.out.1.cell 4 | exact H15.out.1.cell 4)) (first
    | (go_at_call 67; refine (P4.out _).mono ?_; rintro r w14 ⟨v14, rfl, hown, hb⟩; have H14 := Lib.hid ((show Hp w _ #[.int .i64 t, .int .i64 m, .int .u64 (o : Int), .int .i64 n, .int .i64 s] (putL x0 x1 o x3 x4 8) from first_world H13.out).below hb); clear hb; (obtain ⟨A14, c14, rfl, _, _, hrd⟩ := own_slice hown); clear hown P4)
    | (refine step_copy_bytes (by rfl) (.tmp 41) (.tmp 45) _ (by rfl) i0 Tryz.underlying22 hi hz1 (w.heap.size + 1) 62 2 2 (by rfl) (putL x0 x1 o x3 x4 8) H14.out.2.1 A14 _ c14 _ (leBytes x4 2) (by rfl) (by rfl) hrd (by simp) (by simp) (by rw [HL.out.2.2.2.2.2.2.2.1]; simp) ?_; intro w15 hr hg; have H15 := Lib.hid (show Hp w w15 #[.int .i64 t, .int .i64 m, .int .u64 (o : Int), .int .i64 n, .int .i64 s] (putL x0 x1 o x3 x4 9) by rw [putL]; exact H14.out.copied hr hg); clear hr hg hrd))
  clear H13 H14
  go_wp2
  go_ret
  have hown := H15.out.2.1.own (base := w.heap.size) (by omega) (by rw [HL.out.2.2.2.2.2.2.2.2]; unfold maxLen; decide)
  rw [HL.out.2.2.2.2.2.2.2.2, ← HH.out] at hown
  exact ⟨_, rfl, hown, H15.out.2.2⟩

end Go.Proofs.YtldmjnbmjfnfeaaGreatDoor
