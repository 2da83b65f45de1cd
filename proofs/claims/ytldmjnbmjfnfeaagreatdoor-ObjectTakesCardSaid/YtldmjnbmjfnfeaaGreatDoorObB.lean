/-
  Package object: whether symbols, relocations have their place (placed, fit): slices.ContainsFunc with a function that captures a count.
-/
import Derived.Test.YtldmjnbmjfnfeaaGreatDoorSeA
import Derived.Test.YtldmjnbmjfnfeaaGreatDoorEhG
import Derived.Test.YtldmjnbmjfnfeaaGreatDoorEhF
import Derived.Test.YtldmjnbmjfnfeaaGreatDoorCsQ
import Derived.Shelf.Bytes.SlCountOne
import Derived.Laws.Rows
import Derived.Test.YtldmjnbmjfnfeaaGreatDoorPoX
import Derived.Test.YtldmjnbmjfnfeaaGreatDoorEhC
import Derived.Test.YtldmjnbmjfnfeaaGreatDoorCsB
import Derived.Laws.StructEq
namespace Go.Proofs.YtldmjnbmjfnfeaaGreatDoor
open Go Go.RowKit

/-! ### What a struct is told as -/
theorem ret_one {fn : Func} {p : Tmp} {T : TypeId} {fs : Array Field} (hT : Tryz.prog.underlying T = some (.struct fs)) (hres : fn.results = #[.cell p T]) {R : Ending → World → Prop} {a : Act} {W : World} {H : Nat} {cs : Array Value} (hB : Box W H T cs) (hcs : (Tryz.prog.info? T).map (·.size) = some cs.size)
    (hp : a.tmps.getD p undef = .pointer (some ⟨H, 0, none⟩)) (hd : a.defers = []) (h : R (.returned (.agg cs)) W) : bodyPost Tryz.prog fn R .ret a W := by
  refine bodyPost_ret (v := .agg cs) ?_ hd h
  have hl := run_loadVar_row (P := Tryz.prog) W H T T cs (0, 0) _ hB hT rfl hcs
  have hp' : a.tmps[p]?.getD undef = .pointer (some ⟨H, 0, none⟩) := by simpa using hp
  simp only [results, hres]
  simp [hp', asAddr, hl]
theorem ret_two {fn : Func} {p u : Tmp} {T : TypeId} {fs : Array Field} (hT : Tryz.prog.underlying T = some (.struct fs)) (hres : fn.results = #[.cell p T, .tmp u]) {R : Ending → World → Prop} {a : Act} {W : World} {H : Nat} {cs : Array Value} (hB : Box W H T cs) (hcs : (Tryz.prog.info? T).map (·.size) = some cs.size)
    (hp : a.tmps.getD p undef = .pointer (some ⟨H, 0, none⟩)) (hd : a.defers = []) (h : R (.returned (.tuple #[.agg cs, a.tmps.getD u undef])) W) : bodyPost Tryz.prog fn R .ret a W := by
  refine bodyPost_ret (v := .tuple #[.agg cs, a.tmps.getD u undef]) ?_ hd h
  have hl := run_loadVar_row (P := Tryz.prog) W H T T cs (0, 0) _ hB hT rfl hcs
  have hp' : a.tmps[p]?.getD undef = .pointer (some ⟨H, 0, none⟩) := by simpa using hp
  simp only [results, hres]
  simp [Result.andThen, hp', asAddr, hl]
theorem ret_three {fn : Func} {p u v : Tmp} {T : TypeId} {fs : Array Field} (hT : Tryz.prog.underlying T = some (.struct fs)) (hres : fn.results = #[.cell p T, .tmp u, .tmp v]) {R : Ending → World → Prop} {a : Act} {W : World} {H : Nat} {cs : Array Value} (hB : Box W H T cs) (hcs : (Tryz.prog.info? T).map (·.size) = some cs.size)
    (hp : a.tmps.getD p undef = .pointer (some ⟨H, 0, none⟩)) (hd : a.defers = []) (h : R (.returned (.tuple #[.agg cs, a.tmps.getD u undef, a.tmps.getD v undef])) W) : bodyPost Tryz.prog fn R .ret a W := by
  refine bodyPost_ret (v := .tuple #[.agg cs, a.tmps.getD u undef, a.tmps.getD v undef]) ?_ hd h
  have hl := run_loadVar_row (P := Tryz.prog) W H T T cs (0, 0) _ hB hT rfl hcs
  have hp' : a.tmps[p]?.getD undef = .pointer (some ⟨H, 0, none⟩) := by simpa using hp
  simp only [results, hres]
  simp [Result.andThen, hp', asAddr, hl]

/-! ### Numbers within their limit -/
def inM (n : Int) : Bool := decide (0 ≤ n ∧ n ≤ 2147483647)
def smallI (ns : List Int) : Bool := ns.all inM
def smallN (ns : List Nat) : Bool := ns.all fun n => decide (n ≤ 2147483647)

theorem all_take {α : Type} (p : α → Bool) (l : List α) (k : Nat) (x : α) (hx : l[k]? = some x) (h : (l.take k).all p = true) (hp : p x = true) : (l.take (k + 1)).all p = true := by
  rw [List.take_add_one, hx]
  simp only [List.all_append, h, Option.toList, List.all_cons, List.all_nil, hp, Bool.and_self]
theorem all_not {α : Type} (p : α → Bool) (l : List α) (k : Nat) (x : α) (hx : l[k]? = some x) (hp : p x = false) : l.all p = false := by
  rw [List.all_eq_false]
  exact ⟨x, List.mem_of_getElem? hx, by simp [hp]⟩

set_option maxRecDepth 10000 in
theorem small_int (ns : List Int) (w : World) (g c : Nat) (hc : ∀ (i : Nat) (n : Int), ns[i]? = some n → w.cell? ⟨g, i, none⟩ = some (.int .i64 n)) (hl : ns.length ≤ 100) :
    Calls Tryz.prog 128 #[.slice (some ⟨g, 0, none⟩) ns.length c] w fun r w' => r = .returned (.bool (smallI ns)) ∧ w = w' := by
  obtain ⟨N, hN⟩ : ∃ N, ns.length = N := ⟨_, rfl⟩
  have HN := Lib.hid hN
  have HC := Lib.hid hc
  rw [hN] at hl ⊢
  clear hN hc
  go_enter Tryz.func128, Tryz.ntmps128
  go_wp2_with fail
  go_loop [7] (fun i => ∃ k : Nat, k ≤ N ∧ i = .int .i64 k ∧ Hid ((ns.take k).all inM = true)) (fun i => N - (intOf i).toNat)
  case atStart => exact ⟨0, Nat.zero_le _, rfl, Lib.hid rfl⟩
  case round =>
    obtain ⟨k, hk, rfl, HA⟩ := hrel
    by_cases hlt : k < N
    · obtain ⟨n, hn⟩ : ∃ n, ns[k]? = some n := ⟨ns[k]'(by rw [HN.out]; exact hlt), List.getElem?_eq_getElem _⟩
      have c0 := HC.out k n hn
      by_cases h0 : n < 0
      · have HF := Lib.hid (all_not inM ns k n hn (by unfold inM; exact decide_eq_false (by omega)))
        clear hn
        go_wp2_with fail
        go_ret
        exact ⟨by rw [smallI, HF.out]; rfl, rfl⟩
      · by_cases hM : n ≤ 2147483647
        · have HT := Lib.hid (all_take inM ns k n hn HA.out (by unfold inM; exact decide_eq_true ⟨by omega, hM⟩))
          have hd : decide ((2147483647 : Int) < n) = false := decide_eq_false (by omega)
          clear hn hM
          go_wp2_with fail
          exact ⟨⟨k + 1, by omega, by go_num, HT⟩, by simp [intOf]; omega⟩
        · have HF := Lib.hid (all_not inM ns k n hn (by unfold inM; exact decide_eq_false (by omega)))
          have hd : decide ((2147483647 : Int) < n) = true := decide_eq_true (by omega)
          clear hn hM
          go_wp2_with fail
          go_ret
          exact ⟨by rw [smallI, HF.out]; rfl, rfl⟩
    · have HF := Lib.hid (show smallI ns = true by have := HA.out; rw [show k = N by omega, ← HN.out, List.take_length] at this; exact this)
      go_wp2_with fail
      go_ret
      exact ⟨by rw [HF.out]; rfl, rfl⟩

set_option maxRecDepth 10000 in
theorem small_nat (ns : List Nat) (w : World) (g c : Nat) (hc : ∀ (i : Nat) (n : Nat), ns[i]? = some n → w.cell? ⟨g, i, none⟩ = some (.int .u64 (n : Int))) (hl : ns.length ≤ 100) :
    Calls Tryz.prog 122 #[.slice (some ⟨g, 0, none⟩) ns.length c] w fun r w' => r = .returned (.bool (smallN ns)) ∧ w = w' := by
  obtain ⟨N, hN⟩ : ∃ N, ns.length = N := ⟨_, rfl⟩
  have HN := Lib.hid hN
  have HC := Lib.hid hc
  rw [hN] at hl ⊢
  clear hN hc
  go_enter Tryz.func122, Tryz.ntmps122
  go_wp2_with fail
  go_loop [7] (fun i => ∃ k : Nat, k ≤ N ∧ i = .int .i64 k ∧ Hid ((ns.take k).all (fun n => decide (n ≤ 2147483647)) = true)) (fun i => N - (intOf i).toNat)
  case atStart => exact ⟨0, Nat.zero_le _, rfl, Lib.hid rfl⟩
  case round =>
    obtain ⟨k, hk, rfl, HA⟩ := hrel
    by_cases hlt : k < N
    · obtain ⟨n, hn⟩ : ∃ n, ns[k]? = some n := ⟨ns[k]'(by rw [HN.out]; exact hlt), List.getElem?_eq_getElem _⟩
      have c0 := HC.out k n hn
      have h0 : decide ((n : Int) < 0) = false := decide_eq_false (by omega)
      by_cases hM : n ≤ 2147483647
      · have HT := Lib.hid (all_take (fun n => decide (n ≤ 2147483647)) ns k n hn HA.out (decide_eq_true hM))
        have hd : decide ((2147483647 : Int) < (n : Int)) = false := decide_eq_false (by omega)
        clear hn hM
        go_wp2_with fail
        exact ⟨⟨k + 1, by omega, by go_num, HT⟩, by simp [intOf]; omega⟩
      · have HF := Lib.hid (all_not (fun n => decide (n ≤ 2147483647)) ns k n hn (decide_eq_false hM))
        have hd : decide ((2147483647 : Int) < (n : Int)) = true := decide_eq_true (by omega)
        clear hn hM
        go_wp2_with fail
        go_ret
        exact ⟨by rw [smallN, HF.out]; rfl, rfl⟩
    · have HF := Lib.hid (show smallN ns = true by have := HA.out; rw [show k = N by omega, ← HN.out, List.take_length] at this; exact this)
      go_wp2_with fail
      go_ret
      exact ⟨by rw [HF.out]; rfl, rfl⟩

/-- The two of them over five numbers in a row of their own. -/
theorem small5i (a b c d e : Int) (w : World) (g : Nat) (hg : g = w.heap.size) : Calls Tryz.prog 128 #[.slice (some ⟨g, 0, none⟩) 5 5] (w.alloc (.cells #[.int .i64 a, .int .i64 b, .int .i64 c, .int .i64 d, .int .i64 e] 3)) fun r w' => r = .returned (.bool (smallI [a, b, c, d, e])) ∧ w.alloc (.cells #[.int .i64 a, .int .i64 b, .int .i64 c, .int .i64 d, .int .i64 e] 3) = w' :=
  small_int [a, b, c, d, e] _ _ 5 (fun i n hi => by
    subst hg
    rw [(Box.new w 3 #[.int .i64 a, .int .i64 b, .int .i64 c, .int .i64 d, .int .i64 e]).cell i]
    have : (#[Value.int .i64 a, .int .i64 b, .int .i64 c, .int .i64 d, .int .i64 e])[i]? = ([a, b, c, d, e][i]?).map (fun n => Value.int .i64 n) := by
      rw [← List.getElem?_map]; simp
    rw [this, hi]
    rfl) (by simp)
/-! ### How many bytes are 0 -/
theorem run_count_rd {w : World} {B : Nat} {A : Option Addr} {l : List UInt8} (h : Rd w B A l) (c : Nat) :
    (Extern.BytealgCount.count #[.slice A l.length c, .int .u8 0]).run Tryz.prog w = .ok (.int .i64 (l.count 0 : Nat)) w := by
  rcases l with _ | ⟨x, r⟩
  · rcases A with _ | a
    · exact Lib.run_countNil w 0 c 0
    · exact Lib.run_countAt w a 0 c [] rfl (fun i hi => absurd hi (by omega)) 0
  · obtain ⟨b, o, rfl, _, hc⟩ := h (by simp)
    have h1 := Lib.run_countSlice (P := Tryz.prog) w b o (x :: r).length c ((x :: r).map fun b => (b.toNat : Int)) (by simp) (fun i hi => by
      rw [hc i _ (List.getElem?_eq_getElem hi)]
      rw [List.getD_eq_getElem?_getD, List.getElem?_map, List.getElem?_eq_getElem hi]
      rfl) 0
    rw [bytesOf_back] at h1
    exact h1

set_option maxRecDepth 100000 in
theorem count_rd {w : World} {B : Nat} {A : Option Addr} {l : List UInt8} (h : Rd w B A l) (c : Nat) {s : Nat} (h0 : w.cell? ⟨s, 0, none⟩ = some (.int .u8 0)) :
    Calls Tryz.prog 129 #[.slice A l.length c, .slice (some ⟨s, 0, none⟩) 1 1] w fun r w' => r = .returned (.int .i64 (l.count 0 : Nat)) ∧ w = w' := by
  have hr := run_count_rd h c
  clear h
  generalize l.count 0 = z at *
  generalize l.length = n at *
  go_enter Tryz.func129, Tryz.ntmps129
  go_wp2
  rw [run_callFunc_extern Tryz.func140 (by kernel_rfl) (by kernel_rfl) (by kernel_rfl) (e := Extern.BytealgCount.count) (by kernel_rfl), hr]
  simp only [Result.andThen]
  rw [Oper.upon_value]
  go_wp2
  go_ret
  exact ⟨rfl, rfl⟩

/-! ### A section's entry -/
/-- A section's numbers, with a name's and a place of its bytes. -/
def entNs (s : Sect) (name at_ : Nat) : List Nat := [name, wrapN s.kind, s.flags, s.addr, at_, s.data.length, wrapN s.link, wrapN s.inf, wrapN s.algn, wrapN s.ent]
def entCs (ns : List Nat) : List Value := ns.map fun n => Value.int .u64 ((n : Nat) : Int)
def entV (ns : List Nat) : Value := .agg (entCs ns).toArray

set_option maxRecDepth 10000 in
theorem describe_any (x : Lay) (hf : x.s.data.length ≤ 100000) (name at_ : Nat) (w : World) :
    Calls Tryz.prog 104 #[x.val, .int .u64 (name : Int), .int .u64 (at_ : Int)] w fun r w' => r = .returned (entV (entNs x.s name at_)) ∧ Below w.heap.size w w' := by
  have hz := IntWalk.u64_in (x.s.data.length : Int) (by omega)
  have HR := Lib.hid (show entV (entNs x.s name at_) = .agg #[.int .u64 (name : Int), .int .u64 (wrapN x.s.kind : Int), .int .u64 (x.s.flags : Int), .int .u64 (x.s.addr : Int), .int .u64 (at_ : Int), .int .u64 (x.s.data.length : Int), .int .u64 (wrapN x.s.link : Int), .int .u64 (wrapN x.s.inf : Int), .int .u64 (wrapN x.s.algn : Int), .int .u64 (wrapN x.s.ent : Int)] from rfl)
  generalize entV (entNs x.s name at_) = rv at *
  have e1 := wrapN_eq x.s.kind
  have e2 := wrapN_eq x.s.link
  have e3 := wrapN_eq x.s.inf
  have e4 := wrapN_eq x.s.algn
  have e5 := wrapN_eq x.s.ent
  generalize wrapN x.s.kind = k1 at *
  generalize wrapN x.s.link = k2 at *
  generalize wrapN x.s.inf = k3 at *
  generalize wrapN x.s.algn = k4 at *
  generalize wrapN x.s.ent = k5 at *
  rw [show x.val = .agg #[.string ⟨x.s.name.toArray⟩, .int .i64 x.s.kind, .int .u64 (x.s.flags : Int), .int .u64 (x.s.addr : Int), .slice x.A x.s.data.length x.c, .int .i64 x.s.link, .int .i64 x.s.inf, .int .i64 x.s.algn, .int .i64 x.s.ent] from rfl]
  generalize ByteArray.mk x.s.name.toArray = sb at *
  generalize x.A = dA at *
  generalize x.s.data.length = dn at *
  generalize x.c = dc at *
  generalize x.s.kind = i1 at *
  generalize x.s.link = i2 at *
  generalize x.s.inf = i3 at *
  generalize x.s.algn = i4 at *
  generalize x.s.ent = i5 at *
  generalize x.s.flags = n1 at *
  generalize x.s.addr = n2 at *
  have hB := Box.new (w.alloc (.cells #[.string sb, .int .i64 i1, .int .u64 (n1 : Int), .int .u64 (n2 : Int), .slice dA dn dc, .int .i64 i2, .int .i64 i3, .int .i64 i4, .int .i64 i5] 39)) 120 #[.int .u64 (name : Int), .int .u64 (k1 : Int), .int .u64 (n1 : Int), .int .u64 (n2 : Int), .int .u64 (at_ : Int), .int .u64 (dn : Int), .int .u64 (k2 : Int), .int .u64 (k3 : Int), .int .u64 (k4 : Int), .int .u64 (k5 : Int)]
  have HB := Lib.hid hB
  clear hB
  go_enter Tryz.func104, Tryz.ntmps104
  go_wp2_with fail
  refine ret_one Tryz.underlying120 Tryz.results104 HB.out (by kernel_rfl) (by simp) rfl ?_
  rw [HR.out]
  exact ⟨rfl, ((Below.refl w.heap.size w).alloc (Nat.le_refl _) _).alloc (by simp) _⟩

end Go.Proofs.YtldmjnbmjfnfeaaGreatDoor

namespace Go.Proofs.YtldmjnbmjfnfeaaGreatDoor
open Go Go.RowKit

/-! ### Items that lie side by side -/
section
variable {α : Type} {n : Nat} {f : α → List Value} {w w' : World} {B B' : Nat} {a : Option Addr} {L : List α}
/-- Items that lie side by side, each of n cells. -/
def Row (n : Nat) (f : α → List Value) (w : World) (B : Nat) (a : Option Addr) (L : List α) : Prop :=
  0 < L.length → ∃ b o, a = some ⟨b, o, none⟩ ∧ b < B ∧ ∀ (i : Nat) (x : α), L[i]? = some x → ∀ (j : Nat) (v : Value), (f x)[j]? = some v → w.cell? ⟨b, o + i * n + j, none⟩ = some v
theorem Row.below (h : Row n f w B a L) (hb : Below B w w') : Row n f w' B a L := fun hl => by
  obtain ⟨b, o, e, hlt, hc⟩ := h hl
  exact ⟨b, o, e, hlt, fun i x hx j v hv => by rw [hb.cell (p := ⟨b, o + i * n + j, none⟩) hlt]; exact hc i x hx j v hv⟩
theorem Row.more (h : Row n f w B a L) (hB : B ≤ B') : Row n f w B' a L := fun hl => by
  obtain ⟨b, o, e, hlt, hc⟩ := h hl
  exact ⟨b, o, e, by omega, hc⟩
theorem Row.drewN (h : Row n f w B a L) (k : Nat) : Row n f (w.drewN k) B a L := h.below (below_drewN (Below.refl _ _) k)
theorem Row.alloc (h : Row n f w B a L) (hB : B ≤ w.heap.size) (o : Obj) : Row n f (w.alloc o) B a L := h.below ((Below.refl _ _).alloc hB o)
theorem Row.up (h : Row n f w w.heap.size a L) (hb : Below w.heap.size w w') : Row n f w' w'.heap.size a L := (h.below hb).more hb.size

/-- The cells of a row of items. -/
def cellsF (f : α → List Value) (L : List α) : List Value := L.flatMap f
theorem cellsF_length (hn : ∀ x, (f x).length = n) (L : List α) : (cellsF f L).length = L.length * n := by
  induction L with
  | nil => simp [cellsF]
  | cons x L ih =>
    have : (cellsF f (x :: L)).length = n + (cellsF f L).length := by simp [cellsF, hn]
    rw [this, ih, List.length_cons, Nat.add_mul]
    omega
theorem cellsF_append (L M : List α) : cellsF f (L ++ M) = cellsF f L ++ cellsF f M := by simp [cellsF]
theorem cellsF_one (x : α) : cellsF f [x] = f x := by simp [cellsF]
theorem cellsF_at (hn : ∀ x, (f x).length = n) : ∀ (L : List α) (i : Nat) (x : α) (j : Nat) (v : Value), L[i]? = some x → (f x)[j]? = some v → (cellsF f L)[i * n + j]? = some v
  | [], _, _, _, _, h, _ => by simp at h
  | y :: L, 0, x, j, v, h, hv => by
    simp at h
    subst h
    have hj : j < (f y).length := (List.getElem?_eq_some_iff.1 hv).1
    rw [show cellsF f (y :: L) = f y ++ cellsF f L by simp [cellsF], Nat.zero_mul, Nat.zero_add, List.getElem?_append_left hj]
    exact hv
  | y :: L, i + 1, x, j, v, h, hv => by
    have ih := cellsF_at hn L i x j v (by simpa using h) hv
    have e : (i + 1) * n + j = n + (i * n + j) := by rw [Nat.add_mul]; omega
    rw [show cellsF f (y :: L) = f y ++ cellsF f L by simp [cellsF], e, List.getElem?_append_right (by rw [hn]; omega), hn, Nat.add_sub_cancel_left]
    exact ih
/-- A row of the call's own, as items that lie. -/
theorem own_row {T : TypeId} (hn : ∀ x, (f x).length = n) {base : Nat} {v : Value} (h : w.ownsRow base T n v L.length (cellsF f L)) : ∃ A c, v = .slice A L.length c ∧ L.length ≤ c ∧ c ≤ maxLen ∧ Row n f w w.heap.size A L := by
  rcases h.2 with ⟨rfl, h0⟩ | ⟨g, cap, cur, rfl, hb, hg, hnc, hcm, hcs, htake⟩
  · rw [h0]
    exact ⟨none, 0, rfl, Nat.le_refl _, Nat.zero_le _, fun hl => by omega⟩
  · have hlt : g < w.heap.size := by
      rcases Nat.lt_or_ge g w.heap.size with h1 | h1
      · exact h1
      · rw [Array.getElem?_eq_none h1] at hg; cases hg
    refine ⟨some ⟨g, 0, none⟩, cap, rfl, hnc, hcm, fun _ => ⟨g, 0, rfl, hlt, fun i x hx j u hu => ?_⟩⟩
    have hc := cellsF_at hn L i x j u hx hu
    have hil := (List.getElem?_eq_some_iff.1 hx).1
    have hjl : j < n := by have := (List.getElem?_eq_some_iff.1 hu).1; rw [hn] at this; exact this
    have hk : i * n + j < L.length * n := by
      have : (i + 1) * n ≤ L.length * n := Nat.mul_le_mul_right n hil
      rw [Nat.add_mul] at this
      omega
    have h1 := World.ownsRow.cellAt (g := g) (cap := cap) h (i * n + j) hk
    rw [Nat.zero_add, h1, hc]
/-- A literal row. -/
theorem lit_row (hn : ∀ x, (f x).length = n) (w : World) (T : TypeId) (L : List α) : Row n f (w.alloc (.cells (cellsF f L).toArray T)) (w.heap.size + 1) (some ⟨w.heap.size, 0, none⟩) L :=
  fun _ => ⟨w.heap.size, 0, rfl, by omega, fun i x hx j v hv => by
    rw [(Box.new w T (cellsF f L).toArray).cell, Nat.zero_add]
    simpa using cellsF_at hn L i x j v hx hv⟩
end

/-! ### A row whose cells are stored one by one -/
def setAll (w : World) (g : Nat) : Nat → List Value → World
  | _, [] => w
  | o, v :: vs => setAll (w.setCell ⟨g, o, none⟩ v) g (o + 1) vs
theorem row_stores {T : TypeId} {size n g cap base : Nat} : ∀ (vs : List Value) (w : World) (C R : List Value), w.ownsRow base T size (.slice (some ⟨g, 0, none⟩) n cap) n (C ++ R) → vs.length ≤ R.length →
    (setAll w g C.length vs).ownsRow base T size (.slice (some ⟨g, 0, none⟩) n cap) n (C ++ vs ++ R.drop vs.length) ∧ w.grownBy (setAll w g C.length vs) (some g)
  | [], w, C, R, h, _ => by
    simp only [setAll, List.append_nil, List.length_nil, List.drop_zero]
    exact ⟨h, only_refl _ _⟩
  | v :: vs, w, C, R, h, hl => by
    obtain ⟨r, R, rfl⟩ : ∃ r R', R = r :: R' := by
      cases R with
      | nil => simp at hl
      | cons r R' => exact ⟨r, R', rfl⟩
    obtain ⟨s1, s2⟩ := World.ownsRow.stored h C.length v
    have e : (C ++ r :: R).set C.length v = (C ++ [v]) ++ R := by
      rw [List.set_append_right _ _ (Nat.le_refl _), Nat.sub_self]
      simp
    rw [e] at s1
    have ih := row_stores vs (w.setCell ⟨g, C.length, none⟩ v) (C ++ [v]) R s1 (by simpa using hl)
    rw [show (C ++ [v]).length = C.length + 1 by simp] at ih
    refine ⟨?_, only_trans s2 ih.2 (.inl rfl)⟩
    have e2 : C ++ v :: vs ++ (r :: R).drop (v :: vs).length = C ++ [v] ++ vs ++ R.drop vs.length := by simp
    rw [e2]
    exact ih.1
theorem row_free {T : TypeId} {size n g cap base : Nat} {w : World} {X : List Value} (h : w.ownsRow base T size (.slice (some ⟨g, 0, none⟩) n cap) n X) (j : Nat) (hj : j < n * size) : (∃ v, w.cell? ⟨g, j, none⟩ = some v) ∧ w.frozen? ⟨g, j, none⟩ = false := by
  have h1 := World.ownsRow.cellAt (g := g) (cap := cap) h j hj
  rw [List.getElem?_eq_getElem (by rw [h.1]; exact hj)] at h1
  exact ⟨⟨_, h1⟩, World.ownsRow.frozenAt (g := g) (cap := cap) h j⟩

/-! ### A struct of six cells, one of four -/
section
variable {W : World} {H : Nat} {T : TypeId}
theorem six_cells {c0 c1 c2 c3 c4 c5 : Value} (h : Box W H T #[c0, c1, c2, c3, c4, c5]) : W.cell? ⟨H, 0, none⟩ = some c0 ∧ W.cell? ⟨H, 1, none⟩ = some c1 ∧ W.cell? ⟨H, 2, none⟩ = some c2 ∧ W.cell? ⟨H, 3, none⟩ = some c3 ∧ W.cell? ⟨H, 4, none⟩ = some c4 ∧ W.cell? ⟨H, 5, none⟩ = some c5 := by
  refine ⟨?_, ?_, ?_, ?_, ?_, ?_⟩ <;> (rw [h.cell]; rfl)
theorem six_free {cs : Array Value} (h : Box W H T cs) : W.frozen? ⟨H, 0, none⟩ = false ∧ W.frozen? ⟨H, 1, none⟩ = false ∧ W.frozen? ⟨H, 2, none⟩ = false ∧ W.frozen? ⟨H, 3, none⟩ = false ∧ W.frozen? ⟨H, 4, none⟩ = false ∧ W.frozen? ⟨H, 5, none⟩ = false :=
  ⟨h.free 0, h.free 1, h.free 2, h.free 3, h.free 4, h.free 5⟩
theorem six_box {cs : Array Value} (h : Box W H T cs) (hs : cs.size = 6) (v0 v1 v2 v3 v4 v5 : Value) :
    Box ((((((W.setCell ⟨H, 0, none⟩ v0).setCell ⟨H, 1, none⟩ v1).setCell ⟨H, 2, none⟩ v2).setCell ⟨H, 3, none⟩ v3).setCell ⟨H, 4, none⟩ v4).setCell ⟨H, 5, none⟩ v5) H T #[v0, v1, v2, v3, v4, v5] := by
  obtain ⟨l⟩ := cs
  match l, hs with
  | [c0, c1, c2, c3, c4, c5], _ => simpa using (((((h.set 0 v0).set 1 v1).set 2 v2).set 3 v3).set 4 v4).set 5 v5
theorem six_only (W : World) (H : Nat) (v0 v1 v2 v3 v4 v5 : Value) :
    W.grownBy ((((((W.setCell ⟨H, 0, none⟩ v0).setCell ⟨H, 1, none⟩ v1).setCell ⟨H, 2, none⟩ v2).setCell ⟨H, 3, none⟩ v3).setCell ⟨H, 4, none⟩ v4).setCell ⟨H, 5, none⟩ v5) (some H) :=
  only_set (only_set (only_set (only_set (only_set (only_set (only_refl W (some H)) 0 v0) 1 v1) 2 v2) 3 v3) 4 v4) 5 v5
theorem four_cells {c0 c1 c2 c3 : Value} (h : Box W H T #[c0, c1, c2, c3]) : W.cell? ⟨H, 0, none⟩ = some c0 ∧ W.cell? ⟨H, 1, none⟩ = some c1 ∧ W.cell? ⟨H, 2, none⟩ = some c2 ∧ W.cell? ⟨H, 3, none⟩ = some c3 := by
  refine ⟨?_, ?_, ?_, ?_⟩ <;> (rw [h.cell]; rfl)
theorem four_free {cs : Array Value} (h : Box W H T cs) : W.frozen? ⟨H, 0, none⟩ = false ∧ W.frozen? ⟨H, 1, none⟩ = false ∧ W.frozen? ⟨H, 2, none⟩ = false ∧ W.frozen? ⟨H, 3, none⟩ = false :=
  ⟨h.free 0, h.free 1, h.free 2, h.free 3⟩
theorem four_box {cs : Array Value} (h : Box W H T cs) (hs : cs.size = 4) (v0 v1 v2 v3 : Value) :
    Box ((((W.setCell ⟨H, 0, none⟩ v0).setCell ⟨H, 1, none⟩ v1).setCell ⟨H, 2, none⟩ v2).setCell ⟨H, 3, none⟩ v3) H T #[v0, v1, v2, v3] := by
  obtain ⟨l⟩ := cs
  match l, hs with
  | [c0, c1, c2, c3], _ => simpa using (((h.set 0 v0).set 1 v1).set 2 v2).set 3 v3
theorem four_only (W : World) (H : Nat) (v0 v1 v2 v3 : Value) :
    W.grownBy ((((W.setCell ⟨H, 0, none⟩ v0).setCell ⟨H, 1, none⟩ v1).setCell ⟨H, 2, none⟩ v2).setCell ⟨H, 3, none⟩ v3) (some H) :=
  only_set (only_set (only_set (only_set (only_refl W (some H)) 0 v0) 1 v1) 2 v2) 3 v3
end

/-! ### Symbols, relocations -/
/-- A symbol. -/
structure Sym where
  name : List UInt8
  bind : Int
  kind : Int
  sect : Int
  value : Nat
  size : Nat
/-- A relocation. -/
structure Rel where
  off : Nat
  sym : Int
  kind : Int
  add : Int
def Sym.cells (x : Sym) : List Value := [.string ⟨x.name.toArray⟩, .int .i64 x.bind, .int .i64 x.kind, .int .i64 x.sect, .int .u64 (x.value : Int), .int .u64 (x.size : Int)]
def Rel.cells (x : Rel) : List Value := [.int .u64 (x.off : Int), .int .i64 x.sym, .int .i64 x.kind, .int .i64 x.add]
theorem sym_six (x : Sym) : x.cells.length = 6 := rfl
theorem rel_four (x : Rel) : x.cells.length = 4 := rfl
theorem sym_one (x : Sym) : ∀ u ∈ x.cells, u.oneCell' = true := by
  intro u hu
  simp only [Sym.cells, List.mem_cons, List.not_mem_nil, or_false] at hu
  rcases hu with rfl | rfl | rfl | rfl | rfl | rfl <;> rfl
theorem rel_one (x : Rel) : ∀ u ∈ x.cells, u.oneCell' = true := by
  intro u hu
  simp only [Rel.cells, List.mem_cons, List.not_mem_nil, or_false] at hu
  rcases hu with rfl | rfl | rfl | rfl <;> rfl
abbrev Syms (w : World) (B : Nat) (a : Option Addr) (L : List Sym) : Prop := Row 6 Sym.cells w B a L
abbrev Rels (w : World) (B : Nat) (a : Option Addr) (L : List Rel) : Prop := Row 4 Rel.cells w B a L
abbrev OwnY (w : World) (base : Nat) (v : Value) (L : List Sym) : Prop := w.ownsRow base 51 6 v L.length (cellsF Sym.cells L)
abbrev OwnR (w : World) (base : Nat) (v : Value) (L : List Rel) : Prop := w.ownsRow base 53 4 v L.length (cellsF Rel.cells L)
theorem sym_info : (Tryz.prog.info? 51).map (fun i => (i.zero, i.size, i.bytes)) = some (some (.agg #[.string ⟨#[]⟩, .int .i64 0, .int .i64 0, .int .i64 0, .int .u64 0, .int .u64 0]), 6, 56) := by kernel_rfl
theorem rel_info : (Tryz.prog.info? 53).map (fun i => (i.zero, i.size, i.bytes)) = some (some (.agg #[.int .u64 0, .int .i64 0, .int .i64 0, .int .i64 0]), 4, 32) := by kernel_rfl

section
variable {w : World} {B : Nat} {a : Option Addr}
/-- The cells of one of them. -/
theorem sym_at {L : List Sym} (h : Syms w B a L) {i : Nat} {x : Sym} (hx : L[i]? = some x) : ∃ b o, a = some ⟨b, o, none⟩ ∧ b < B ∧
    w.cell? ⟨b, o + i * 6, none⟩ = some (.string ⟨x.name.toArray⟩) ∧ w.cell? ⟨b, o + i * 6 + 1, none⟩ = some (.int .i64 x.bind) ∧ w.cell? ⟨b, o + i * 6 + 2, none⟩ = some (.int .i64 x.kind) ∧
    w.cell? ⟨b, o + i * 6 + 3, none⟩ = some (.int .i64 x.sect) ∧ w.cell? ⟨b, o + i * 6 + 4, none⟩ = some (.int .u64 (x.value : Int)) ∧ w.cell? ⟨b, o + i * 6 + 5, none⟩ = some (.int .u64 (x.size : Int)) := by
  have hl : 0 < L.length := by have := (List.getElem?_eq_some_iff.1 hx).1; omega
  obtain ⟨b, o, e, hlt, hc⟩ := h hl
  have h' := hc i x hx
  exact ⟨b, o, e, hlt, h' 0 _ rfl, h' 1 _ rfl, h' 2 _ rfl, h' 3 _ rfl, h' 4 _ rfl, h' 5 _ rfl⟩
theorem rel_at {L : List Rel} (h : Rels w B a L) {i : Nat} {x : Rel} (hx : L[i]? = some x) : ∃ b o, a = some ⟨b, o, none⟩ ∧ b < B ∧
    w.cell? ⟨b, o + i * 4, none⟩ = some (.int .u64 (x.off : Int)) ∧ w.cell? ⟨b, o + i * 4 + 1, none⟩ = some (.int .i64 x.sym) ∧ w.cell? ⟨b, o + i * 4 + 2, none⟩ = some (.int .i64 x.kind) ∧ w.cell? ⟨b, o + i * 4 + 3, none⟩ = some (.int .i64 x.add) := by
  have hl : 0 < L.length := by have := (List.getElem?_eq_some_iff.1 hx).1; omega
  obtain ⟨b, o, e, hlt, hc⟩ := h hl
  have h' := hc i x hx
  exact ⟨b, o, e, hlt, h' 0 _ rfl, h' 1 _ rfl, h' 2 _ rfl, h' 3 _ rfl⟩
end

/-- The numbers of an entry's bytes. -/
theorem num_lt (l : List UInt8) (f n : Nat) : numT l f n < 256 ^ n := by
  have h := leNat_lt (cutT l f n)
  have h2 : (cutT l f n).length ≤ n := by simp [cutT]; omega
  exact Nat.lt_of_lt_of_le h (Nat.pow_le_pow_right (by decide) h2)
theorem num1 (l : List UInt8) (f : Nat) : numT l f 1 < 256 := num_lt l f 1
theorem num2 (l : List UInt8) (f : Nat) : numT l f 2 < 65536 := num_lt l f 2
theorem num4 (l : List UInt8) (f : Nat) : numT l f 4 < 4294967296 := num_lt l f 4
/-! ### What is read -/
/-- Where an entry's name stands; its symbol. -/
def nameAt (t : List UInt8) (k : Nat) : Nat := numT t (24 * k) 4
def symK (t ns : List UInt8) (k : Nat) : Sym :=
  ⟨(atT ns (nameAt t k)).1, (numT t (24 * k + 4) 1 / 16 : Nat), (numT t (24 * k + 4) 1 % 16 : Nat), (numT t (24 * k + 6) 2 : Nat), numT t (24 * k + 8) 8, numT t (24 * k + 16) 8⟩
def okK (t ns : List UInt8) (k : Nat) : Bool := decide ((atT ns (nameAt t k)).2 = 0) && decide (numT t (24 * k + 6) 2 ≤ 65534)
/-- The first k entries may be read. -/
def okTo (ok : Nat → Bool) (k : Nat) : Bool := (List.range k).all ok
theorem okTo_next (ok : Nat → Bool) (k : Nat) : okTo ok (k + 1) = (okTo ok k && ok k) := by simp [okTo, List.range_succ]
theorem okTo_more {ok : Nat → Bool} {k n : Nat} (hk : k < n) (h : ok k = false) : okTo ok n = false := by
  rw [← Bool.not_eq_true, okTo, List.all_eq_true]
  intro hh
  have := hh k (by simpa using hk)
  rw [h] at this
  cases this
def listTo {α : Type} (g : Nat → α) (k : Nat) : List α := (List.range k).map g
theorem listTo_next {α : Type} (g : Nat → α) (k : Nat) : listTo g (k + 1) = listTo g k ++ [g k] := by simp [listTo, List.range_succ]
theorem listTo_length {α : Type} (g : Nat → α) (k : Nat) : (listTo g k).length = k := by simp [listTo]
/-- What a table of entries is refused with. -/
def takeEY (len : Nat) (ok : Nat → Bool) (bad : Int) : Int := if len % 24 ≠ 0 then bad else if 400 < len / 24 then 3 else if okTo ok (len / 24) = true then 0 else bad
def takeLY {α : Type} (len : Nat) (ok : Nat → Bool) (g : Nat → α) : List α := if len % 24 ≠ 0 then [] else if 400 < len / 24 then [] else if okTo ok (len / 24) = true then listTo g (len / 24) else []
def relK (t : List UInt8) (k : Nat) : Rel := ⟨numT t (24 * k) 8, (numT t (24 * k + 12) 4 : Nat), (numT t (24 * k + 8) 4 : Nat), IntKind.i64.wrap (numT t (24 * k + 16) 8 : Int)⟩
def okR (t : List UInt8) (k : Nat) : Bool := decide (numT t (24 * k + 8) 4 ≤ 2147483647) && decide (numT t (24 * k + 12) 4 ≤ 2147483647)

end Go.Proofs.YtldmjnbmjfnfeaaGreatDoor

namespace Go.Proofs.YtldmjnbmjfnfeaaGreatDoor
open Go Go.RowKit

/-- The same symbol? -/
def sameY (x y : Sym) : Bool := decide (x.name = y.name) && (decide (x.bind = y.bind) && (decide (x.kind = y.kind) && (decide (x.sect = y.sect) && (decide (x.value = y.value) && decide (x.size = y.size)))))
theorem sameY_refl (x : Sym) : sameY x x = true := by simp [sameY]
/-- The same relocation? -/
def sameR (x y : Rel) : Bool := decide (x.off = y.off) && (decide (x.sym = y.sym) && (decide (x.kind = y.kind) && decide (x.add = y.add)))
theorem sameR_refl (x : Rel) : sameR x x = true := by simp [sameR]
/-- All alike, one by one. -/
def alikeL {α : Type} (p : α → α → Bool) (l m : List α) : Bool := decide (l.length = m.length) && (l.zip m).all fun q => p q.1 q.2
theorem alikeL_refl {α : Type} {p : α → α → Bool} (hp : ∀ x, p x x = true) (l : List α) : alikeL p l l = true := by
  unfold alikeL
  rw [Bool.and_eq_true, decide_eq_true_eq, List.all_eq_true]
  refine ⟨rfl, fun q hq => ?_⟩
  have : q.1 = q.2 := by
    obtain ⟨i, hi, e⟩ := List.getElem_of_mem hq
    rw [← e, List.getElem_zip]
  rw [this]
  exact hp _
theorem zip_get {α : Type} {l m : List α} {k : Nat} {x y : α} (hx : l[k]? = some x) (hy : m[k]? = some y) : (l.zip m)[k]? = some (x, y) := by rw [List.getElem?_zip_eq_some]; exact ⟨hx, hy⟩

section
theorem part_str (xs : Array Value) (k : Nat) (u : Value) (hx : xs[k]? = some u) (W : World) : (part 9 xs k).run Tryz.prog W = .ok u W := by
  simp only [part, Sem.run_bind, isAgg, run_underlying Tryz.underlying9, Result.andThen_ok, Sem.run_pure]
  simp [hx]
theorem part_int (xs : Array Value) (k : Nat) (u : Value) (hx : xs[k]? = some u) (W : World) : (part 3 xs k).run Tryz.prog W = .ok u W := by
  simp only [part, Sem.run_bind, isAgg, run_underlying Tryz.underlying3, Result.andThen_ok, Sem.run_pure]
  simp [hx]
theorem part_u64 (xs : Array Value) (k : Nat) (u : Value) (hx : xs[k]? = some u) (W : World) : (part 37 xs k).run Tryz.prog W = .ok u W := by
  simp only [part, Sem.run_bind, isAgg, run_underlying Tryz.underlying37, Result.andThen_ok, Sem.run_pure]
  simp [hx]
theorem part_i64 (xs : Array Value) (k : Nat) (u : Value) (hx : xs[k]? = some u) (W : World) : (part 2 xs k).run Tryz.prog W = .ok u W := by
  simp only [part, Sem.run_bind, isAgg, run_underlying Tryz.underlying2, Result.andThen_ok, Sem.run_pure]
  simp [hx]
theorem eq_fields {d : Nat} {xs ys : Array Value} {f : Field} {fs : List Field} {W : World} {u v : Value} {b r : Bool} (hn : f.name ≠ "_") (hu : (part f.type xs f.offset).run Tryz.prog W = .ok u W) (hv : (part f.type ys f.offset).run Tryz.prog W = .ok v W)
    (he : (Op.equalIn (d + 1) f.type u v).run Tryz.prog W = .ok b W) (hr : (Op.eqFields (d + 1) xs ys fs).run Tryz.prog W = .ok r W) : (Op.eqFields (d + 1) xs ys (f :: fs)).run Tryz.prog W = .ok (b && r) W := by
  simp only [Op.eqFields, if_pos hn, Sem.run_bind, hu, hv, he, Result.andThen_ok]
  cases b
  · simp
  · simp [hr]
theorem beq_int (a b : Int) : (a == b) = decide (a = b) := by rw [Bool.eq_iff_iff, beq_iff_eq, decide_eq_true_eq]
theorem beq_nat (a b : Nat) : ((a : Int) == (b : Int)) = decide (a = b) := by rw [beq_int]; exact decide_eq_decide.2 (by omega)

theorem eqFields_sym (x y : Sym) (W : World) (d : Nat) : (Op.eqFields (d + 1) x.cells.toArray y.cells.toArray (Tryz.prog.fieldsOf 51).toList).run Tryz.prog W = .ok (sameY x y) W := by
  have h0 := run_equalIn_string (P := Tryz.prog) W d 9 ⟨x.name.toArray⟩ ⟨y.name.toArray⟩ Tryz.underlying9
  have h1 := run_equalIn_int (P := Tryz.prog) W d 3 .i64 .i64 x.bind y.bind Tryz.underlying3
  have h2 := run_equalIn_int (P := Tryz.prog) W d 3 .i64 .i64 x.kind y.kind Tryz.underlying3
  have h3 := run_equalIn_int (P := Tryz.prog) W d 3 .i64 .i64 x.sect y.sect Tryz.underlying3
  have h4 := run_equalIn_int (P := Tryz.prog) W d 37 .u64 .u64 (x.value : Int) (y.value : Int) Tryz.underlying37
  have h5 := run_equalIn_int (P := Tryz.prog) W d 37 .u64 .u64 (x.size : Int) (y.size : Int) Tryz.underlying37
  rw [str_eq] at h0
  rw [beq_int] at h1 h2 h3
  rw [beq_nat] at h4 h5
  have hf : ∀ (i : Nat) (f : Field), (Tryz.prog.fieldsOf 51).toList[i]? = some f → f.name ≠ "_" ∧ f.offset = i ∧ [9, 3, 3, 3, 37, 37][i]? = some f.type := by
    simp only [Program.fieldsOf, Tryz.underlying51]
    intro i f hf
    have hi := (List.getElem?_eq_some_iff.1 hf).1
    simp only [List.length_cons, List.length_nil] at hi
    match i, hi with
    | 0, _ | 1, _ | 2, _ | 3, _ | 4, _ | 5, _ =>
      injection hf with hf
      subst hf
      exact ⟨by decide, rfl, rfl⟩
  have hl : (Tryz.prog.fieldsOf 51).toList.length = 6 := by simp only [Program.fieldsOf, Tryz.underlying51]; rfl
  generalize (Tryz.prog.fieldsOf 51).toList = fs at *
  obtain ⟨f0, f1, f2, f3, f4, f5, rfl⟩ : ∃ f0 f1 f2 f3 f4 f5, fs = [f0, f1, f2, f3, f4, f5] := by
    match fs, hl with
    | [f0, f1, f2, f3, f4, f5], _ => exact ⟨f0, f1, f2, f3, f4, f5, rfl⟩
  obtain ⟨n0, o0, t0⟩ := hf 0 _ rfl
  obtain ⟨n1, o1, t1⟩ := hf 1 _ rfl
  obtain ⟨n2, o2, t2⟩ := hf 2 _ rfl
  obtain ⟨n3, o3, t3⟩ := hf 3 _ rfl
  obtain ⟨n4, o4, t4⟩ := hf 4 _ rfl
  obtain ⟨n5, o5, t5⟩ := hf 5 _ rfl
  have t0 : f0.type = 9 := (Option.some.inj (show some 9 = some f0.type from t0)).symm
  have t1 : f1.type = 3 := (Option.some.inj (show some 3 = some f1.type from t1)).symm
  have t2 : f2.type = 3 := (Option.some.inj (show some 3 = some f2.type from t2)).symm
  have t3 : f3.type = 3 := (Option.some.inj (show some 3 = some f3.type from t3)).symm
  have t4 : f4.type = 37 := (Option.some.inj (show some 37 = some f4.type from t4)).symm
  have t5 : f5.type = 37 := (Option.some.inj (show some 37 = some f5.type from t5)).symm
  have key := eq_fields (xs := x.cells.toArray) (ys := y.cells.toArray) n0 (by rw [t0, o0]; exact part_str _ 0 _ rfl W) (by rw [t0, o0]; exact part_str _ 0 _ rfl W) (by rw [t0]; exact h0)
    (eq_fields n1 (by rw [t1, o1]; exact part_int _ 1 _ rfl W) (by rw [t1, o1]; exact part_int _ 1 _ rfl W) (by rw [t1]; exact h1)
    (eq_fields n2 (by rw [t2, o2]; exact part_int _ 2 _ rfl W) (by rw [t2, o2]; exact part_int _ 2 _ rfl W) (by rw [t2]; exact h2)
    (eq_fields n3 (by rw [t3, o3]; exact part_int _ 3 _ rfl W) (by rw [t3, o3]; exact part_int _ 3 _ rfl W) (by rw [t3]; exact h3)
    (eq_fields n4 (by rw [t4, o4]; exact part_u64 _ 4 _ rfl W) (by rw [t4, o4]; exact part_u64 _ 4 _ rfl W) (by rw [t4]; exact h4)
    (eq_fields n5 (by rw [t5, o5]; exact part_u64 _ 5 _ rfl W) (by rw [t5, o5]; exact part_u64 _ 5 _ rfl W) (by rw [t5]; exact h5) (fs := []) (r := true) rfl)))))
  rw [key]
  unfold sameY
  simp only [Bool.and_true]
theorem eqFields_rel (x y : Rel) (W : World) (d : Nat) : (Op.eqFields (d + 1) x.cells.toArray y.cells.toArray (Tryz.prog.fieldsOf 53).toList).run Tryz.prog W = .ok (sameR x y) W := by
  have h0 := run_equalIn_int (P := Tryz.prog) W d 37 .u64 .u64 (x.off : Int) (y.off : Int) Tryz.underlying37
  have h1 := run_equalIn_int (P := Tryz.prog) W d 3 .i64 .i64 x.sym y.sym Tryz.underlying3
  have h2 := run_equalIn_int (P := Tryz.prog) W d 3 .i64 .i64 x.kind y.kind Tryz.underlying3
  have h3 := run_equalIn_int (P := Tryz.prog) W d 2 .i64 .i64 x.add y.add Tryz.underlying2
  rw [beq_int] at h1 h2 h3
  rw [beq_nat] at h0
  have hf : ∀ (i : Nat) (f : Field), (Tryz.prog.fieldsOf 53).toList[i]? = some f → f.name ≠ "_" ∧ f.offset = i ∧ [37, 3, 3, 2][i]? = some f.type := by
    simp only [Program.fieldsOf, Tryz.underlying53]
    intro i f hf
    have hi := (List.getElem?_eq_some_iff.1 hf).1
    simp only [List.length_cons, List.length_nil] at hi
    match i, hi with
    | 0, _ | 1, _ | 2, _ | 3, _ =>
      injection hf with hf
      subst hf
      exact ⟨by decide, rfl, rfl⟩
  have hl : (Tryz.prog.fieldsOf 53).toList.length = 4 := by simp only [Program.fieldsOf, Tryz.underlying53]; rfl
  generalize (Tryz.prog.fieldsOf 53).toList = fs at *
  obtain ⟨f0, f1, f2, f3, rfl⟩ : ∃ f0 f1 f2 f3, fs = [f0, f1, f2, f3] := by
    match fs, hl with
    | [f0, f1, f2, f3], _ => exact ⟨f0, f1, f2, f3, rfl⟩
  obtain ⟨n0, o0, t0⟩ := hf 0 _ rfl
  obtain ⟨n1, o1, t1⟩ := hf 1 _ rfl
  obtain ⟨n2, o2, t2⟩ := hf 2 _ rfl
  obtain ⟨n3, o3, t3⟩ := hf 3 _ rfl
  have t0 : f0.type = 37 := (Option.some.inj (show some 37 = some f0.type from t0)).symm
  have t1 : f1.type = 3 := (Option.some.inj (show some 3 = some f1.type from t1)).symm
  have t2 : f2.type = 3 := (Option.some.inj (show some 3 = some f2.type from t2)).symm
  have t3 : f3.type = 2 := (Option.some.inj (show some 2 = some f3.type from t3)).symm
  have key := eq_fields (xs := x.cells.toArray) (ys := y.cells.toArray) n0 (by rw [t0, o0]; exact part_u64 _ 0 _ rfl W) (by rw [t0, o0]; exact part_u64 _ 0 _ rfl W) (by rw [t0]; exact h0)
    (eq_fields n1 (by rw [t1, o1]; exact part_int _ 1 _ rfl W) (by rw [t1, o1]; exact part_int _ 1 _ rfl W) (by rw [t1]; exact h1)
    (eq_fields n2 (by rw [t2, o2]; exact part_int _ 2 _ rfl W) (by rw [t2, o2]; exact part_int _ 2 _ rfl W) (by rw [t2]; exact h2)
    (eq_fields n3 (by rw [t3, o3]; exact part_i64 _ 3 _ rfl W) (by rw [t3, o3]; exact part_i64 _ 3 _ rfl W) (by rw [t3]; exact h3) (fs := []) (r := true) rfl)))
  rw [key]
  unfold sameR
  simp only [Bool.and_true]
theorem neq_sym (x y : Sym) (W : World) : (binOp .neq 51 (.agg x.cells.toArray) (.agg y.cells.toArray)).run Tryz.prog W = .ok (.bool (!(sameY x y))) W := by
  rw [run_neq_struct, run_equalIn_agg W 9999 _ _ _ (by kernel_rfl) (by kernel_rfl), eqFields_sym x y W 9998]
  rfl
theorem neq_rel (x y : Rel) (W : World) : (binOp .neq 53 (.agg x.cells.toArray) (.agg y.cells.toArray)).run Tryz.prog W = .ok (.bool (!(sameR x y))) W := by
  rw [run_neq_struct, run_equalIn_agg W 9999 _ _ _ (by kernel_rfl) (by kernel_rfl), eqFields_rel x y W 9998]
  rfl
end

set_option maxRecDepth 10000 in
set_option maxHeartbeats 1600000 in
theorem ysame_any {w : World} {B : Nat} {a a' : Option Addr} {L M : List Sym} (h : Syms w B a L) (h' : Syms w B a' M) (hB : B ≤ w.heap.size) (c c' : Nat) (hl : L.length ≤ 100000) :
    Calls Tryz.prog 28 #[.slice a L.length c, .slice a' M.length c'] w fun r w' => r = .returned (.bool (alikeL sameY L M)) ∧ Below w.heap.size w w' := by
  by_cases hlen : L.length = M.length
  · have HS := Lib.hid (show alikeL sameY L M = (L.zip M).all (fun p => sameY p.1 p.2) by unfold alikeL; rw [decide_eq_true hlen, Bool.true_and])
    have HH := Lib.hid h
    have HM := Lib.hid h'
    rw [← hlen]
    generalize hN : L.length = N at *
    have HN := Lib.hid hN
    have HN' := Lib.hid hlen
    generalize alikeL sameY L M = sa at *
    have q : ((N : Int) != (N : Int)) = false := by simp
    clear h h' hN hlen
    go_enter Tryz.func28, Tryz.ntmps28
    go_wp2_with fail
    clear q
    go_loopw [5] (fun i wr => ∃ k : Nat, k ≤ N ∧ i = .int .i64 k ∧ Below w.heap.size w wr ∧ Hid (((L.zip M).take k).all (fun p => sameY p.1 p.2) = true)) (fun i _ => N - (intOf i).toNat)
    case atStart => exact ⟨0, Nat.zero_le _, rfl, Below.refl _ _, Lib.hid rfl⟩
    case round =>
      obtain ⟨k, hk, rfl, hBl, HA⟩ := hrel
      by_cases hlt : k < N
      · obtain ⟨x, hx⟩ : ∃ x, L[k]? = some x := ⟨L[k]'(by rw [HN.out]; exact hlt), List.getElem?_eq_getElem _⟩
        obtain ⟨y, hy⟩ : ∃ y, M[k]? = some y := ⟨M[k]'(by rw [← HN'.out]; exact hlt), List.getElem?_eq_getElem _⟩
        have hx1 := (HH.out.below (hBl.mono hB))
        have hy1 := (HM.out.below (hBl.mono hB))
        obtain ⟨b, o, rfl, hb, c0, c1, c2, c3, c4, c5⟩ := sym_at hx1 hx
        obtain ⟨b', o', rfl, hb', e0, e1, e2, e3, e4, e5⟩ := sym_at hy1 hy
        have hz := zip_get hx hy
        have HT := Lib.hid (fun (e : sameY x y = true) => all_take (fun p : Sym × Sym => sameY p.1 p.2) _ k _ hz HA.out e)
        have HF := Lib.hid (fun (e : sameY x y = false) => all_not (fun p : Sym × Sym => sameY p.1 p.2) _ k _ hz e)
        have hq := fun W => neq_sym x y W
        rw [show Value.agg x.cells.toArray = .agg #[.string ⟨x.name.toArray⟩, .int .i64 x.bind, .int .i64 x.kind, .int .i64 x.sect, .int .u64 (x.value : Int), .int .u64 (x.size : Int)] from rfl,
          show Value.agg y.cells.toArray = .agg #[.string ⟨y.name.toArray⟩, .int .i64 y.bind, .int .i64 y.kind, .int .i64 y.sect, .int .u64 (y.value : Int), .int .u64 (y.size : Int)] from rfl] at hq
        have HBl := Lib.hid hBl
        have HLT := Lib.hid hlt
        clear hx hy hx1 hy1 hz hBl HA hb hb'
        generalize sameY x y = ss at *
        generalize ByteArray.mk x.name.toArray = xn at *
        generalize ByteArray.mk y.name.toArray = yn at *
        generalize x.bind = x1 at *
        generalize x.kind = x2 at *
        generalize x.sect = x3 at *
        generalize x.value = x4 at *
        generalize x.size = x5 at *
        generalize y.bind = y1 at *
        generalize y.kind = y2 at *
        generalize y.sect = y3 at *
        generalize y.value = y4 at *
        generalize y.size = y5 at *
        cases ss with
        | false =>
          have HZ := Lib.hid (HF.out rfl)
          go_wp2_with fail
          go_region
          all_goals go_wp2
          all_goals go_ret
          all_goals exact ⟨by rw [HS.out, HZ.out]; rfl, below_drewN HBl.out _⟩
        | true =>
          have HZ := Lib.hid (HT.out rfl)
          go_wp2_with fail
          go_region
          all_goals go_wp2
          all_goals exact ⟨⟨k + 1, HLT.out, by go_num, HBl.out.drew, HZ⟩, by have := HLT.out; simp [intOf]; omega⟩
      · have HZ := Lib.hid (show sa = true by
          rw [HS.out]
          have := HA.out
          rwa [List.take_of_length_le (by rw [List.length_zip, ← HN'.out, HN.out]; omega)] at this)
        have HBl := Lib.hid hBl
        clear hBl HA
        go_wp2_with fail
        go_ret
        exact ⟨by rw [HZ.out]; rfl, HBl.out⟩
  · have HF := Lib.hid (show alikeL sameY L M = false by unfold alikeL; rw [decide_eq_false hlen, Bool.false_and])
    have q : ((L.length : Int) != (M.length : Int)) = true := by simp; omega
    clear h h'
    generalize alikeL sameY L M = sa at *
    generalize L.length = n at *
    generalize M.length = m at *
    go_enter Tryz.func28, Tryz.ntmps28
    go_wp2_with fail
    go_ret
    exact ⟨by rw [HF.out]; rfl, Below.refl _ _⟩

set_option maxRecDepth 10000 in
set_option maxHeartbeats 1600000 in
theorem yrsame_any {w : World} {B : Nat} {a a' : Option Addr} {L M : List Rel} (h : Rels w B a L) (h' : Rels w B a' M) (hB : B ≤ w.heap.size) (c c' : Nat) (hl : L.length ≤ 100000) :
    Calls Tryz.prog 29 #[.slice a L.length c, .slice a' M.length c'] w fun r w' => r = .returned (.bool (alikeL sameR L M)) ∧ Below w.heap.size w w' := by
  by_cases hlen : L.length = M.length
  · have HS := Lib.hid (show alikeL sameR L M = (L.zip M).all (fun p => sameR p.1 p.2) by unfold alikeL; rw [decide_eq_true hlen, Bool.true_and])
    have HH := Lib.hid h
    have HM := Lib.hid h'
    rw [← hlen]
    generalize hN : L.length = N at *
    have HN := Lib.hid hN
    have HN' := Lib.hid hlen
    generalize alikeL sameR L M = sa at *
    have q : ((N : Int) != (N : Int)) = false := by simp
    clear h h' hN hlen
    go_enter Tryz.func29, Tryz.ntmps29
    go_wp2_with fail
    clear q
    go_loopw [5] (fun i wr => ∃ k : Nat, k ≤ N ∧ i = .int .i64 k ∧ Below w.heap.size w wr ∧ Hid (((L.zip M).take k).all (fun p => sameR p.1 p.2) = true)) (fun i _ => N - (intOf i).toNat)
    case atStart => exact ⟨0, Nat.zero_le _, rfl, Below.refl _ _, Lib.hid rfl⟩
    case round =>
      obtain ⟨k, hk, rfl, hBl, HA⟩ := hrel
      by_cases hlt : k < N
      · obtain ⟨x, hx⟩ : ∃ x, L[k]? = some x := ⟨L[k]'(by rw [HN.out]; exact hlt), List.getElem?_eq_getElem _⟩
        obtain ⟨y, hy⟩ : ∃ y, M[k]? = some y := ⟨M[k]'(by rw [← HN'.out]; exact hlt), List.getElem?_eq_getElem _⟩
        have hx1 := (HH.out.below (hBl.mono hB))
        have hy1 := (HM.out.below (hBl.mono hB))
        obtain ⟨b, o, rfl, hb, c0, c1, c2, c3⟩ := rel_at hx1 hx
        obtain ⟨b', o', rfl, hb', e0, e1, e2, e3⟩ := rel_at hy1 hy
        have hz := zip_get hx hy
        have HT := Lib.hid (fun (e : sameR x y = true) => all_take (fun p : Rel × Rel => sameR p.1 p.2) _ k _ hz HA.out e)
        have HF := Lib.hid (fun (e : sameR x y = false) => all_not (fun p : Rel × Rel => sameR p.1 p.2) _ k _ hz e)
        have hq := fun W => neq_rel x y W
        rw [show Value.agg x.cells.toArray = .agg #[.int .u64 (x.off : Int), .int .i64 x.sym, .int .i64 x.kind, .int .i64 x.add] from rfl,
          show Value.agg y.cells.toArray = .agg #[.int .u64 (y.off : Int), .int .i64 y.sym, .int .i64 y.kind, .int .i64 y.add] from rfl] at hq
        have HBl := Lib.hid hBl
        have HLT := Lib.hid hlt
        clear hx hy hx1 hy1 hz hBl HA hb hb'
        generalize sameR x y = ss at *
        generalize x.off = x1 at *
        generalize x.sym = x2 at *
        generalize x.kind = x3 at *
        generalize x.add = x4 at *
        generalize y.off = y1 at *
        generalize y.sym = y2 at *
        generalize y.kind = y3 at *
        generalize y.add = y4 at *
        cases ss with
        | false =>
          have HZ := Lib.hid (HF.out rfl)
          go_wp2_with fail
          go_region
          all_goals go_wp2
          all_goals go_ret
          all_goals exact ⟨by rw [HS.out, HZ.out]; rfl, below_drewN HBl.out _⟩
        | true =>
          have HZ := Lib.hid (HT.out rfl)
          go_wp2_with fail
          go_region
          all_goals go_wp2
          all_goals exact ⟨⟨k + 1, HLT.out, by go_num, HBl.out.drew, HZ⟩, by have := HLT.out; simp [intOf]; omega⟩
      · have HZ := Lib.hid (show sa = true by
          rw [HS.out]
          have := HA.out
          rwa [List.take_of_length_le (by rw [List.length_zip, ← HN'.out, HN.out]; omega)] at this)
        have HBl := Lib.hid hBl
        clear hBl HA
        go_wp2_with fail
        go_ret
        exact ⟨by rw [HZ.out]; rfl, HBl.out⟩
  · have HF := Lib.hid (show alikeL sameR L M = false by unfold alikeL; rw [decide_eq_false hlen, Bool.false_and])
    have q : ((L.length : Int) != (M.length : Int)) = true := by simp; omega
    clear h h'
    generalize alikeL sameR L M = sa at *
    generalize L.length = n at *
    generalize M.length = m at *
    go_enter Tryz.func29, Tryz.ntmps29
    go_wp2_with fail
    go_ret
    exact ⟨by rw [HF.out]; rfl, Below.refl _ _⟩

/-- How many bytes the names have. -/
def sumN (L : List Sym) : Nat := (L.map fun x => x.name.length).sum
theorem sumN_next {L : List Sym} {k : Nat} {x : Sym} (h : L[k]? = some x) : sumN (L.take (k + 1)) = sumN (L.take k) + x.name.length := by
  unfold sumN
  rw [List.take_add_one, h]
  simp

end Go.Proofs.YtldmjnbmjfnfeaaGreatDoor

namespace Go.Proofs.YtldmjnbmjfnfeaaGreatDoor
open Go Go.RowKit

/-- Whether a section other than the first one may be. -/
def okS (s : Sect) : Bool :=
  decide (1 ≤ s.kind) && (smallI [s.kind, s.link, s.inf, s.algn, s.ent] && (rightT s.name && (decide (s.data.length ≤ 65536) && (decide (s.kind ≠ 8) || decide (s.data.count 0 = s.data.length)))))

set_option maxRecDepth 10000 in
set_option maxHeartbeats 1600000 in
theorem wrong_any {w : World} {B : Nat} (x : Lay) (hx : x.Ok w B) (hB : B ≤ w.heap.size) :
    Calls Tryz.prog 106 #[x.val] w fun r w' => r = .returned (.bool (!okS x.s)) ∧ Below w.heap.size w w' := by
  have hO := hx
  rcases x with ⟨⟨nm, k, fl, ad, da, li, inf, al, en⟩, A, c⟩
  rw [show Lay.val ⟨⟨nm, k, fl, ad, da, li, inf, al, en⟩, A, c⟩ = .agg #[.string ⟨nm.toArray⟩, .int .i64 k, .int .u64 (fl : Int), .int .u64 (ad : Int), .slice A da.length c, .int .i64 li, .int .i64 inf, .int .i64 al, .int .i64 en] from rfl]
  have hrd := hO.rd
  have hdl := hO.fits.data
  simp only at hrd hdl
  have HO := Lib.hid (show okS ⟨nm, k, fl, ad, da, li, inf, al, en⟩ = (decide (1 ≤ k) && (smallI [k, li, inf, al, en] && (rightT nm && (decide (da.length ≤ 65536) && (decide (k ≠ 8) || decide (da.count 0 = da.length)))))) from rfl)
  generalize okS ⟨nm, k, fl, ad, da, li, inf, al, en⟩ = ok at *
  have HS := Lib.hid (fun W g hg => small5i k li inf al en W g hg)
  have HR := Lib.hid (fun W => right_all nm W)
  have hb0 : Below w.heap.size w (w.alloc (.cells #[.string ⟨nm.toArray⟩, .int .i64 k, .int .u64 (fl : Int), .int .u64 (ad : Int), .slice A da.length c, .int .i64 li, .int .i64 inf, .int .i64 al, .int .i64 en] 39)) := (Below.refl _ _).alloc (Nat.le_refl _) _
  have hbb : Below w.heap.size w ((w.alloc (.cells #[.string ⟨nm.toArray⟩, .int .i64 k, .int .u64 (fl : Int), .int .u64 (ad : Int), .slice A da.length c, .int .i64 li, .int .i64 inf, .int .i64 al, .int .i64 en] 39)).alloc (.cells #[.int .i64 k, .int .i64 li, .int .i64 inf, .int .i64 al, .int .i64 en] 3)) := hb0.alloc (by simp) _
  have hX := (Box.new w 39 #[.string ⟨nm.toArray⟩, .int .i64 k, .int .u64 (fl : Int), .int .u64 (ad : Int), .slice A da.length c, .int .i64 li, .int .i64 inf, .int .i64 al, .int .i64 en]).below ((Below.refl _ _).alloc (Nat.le_refl _) (.cells #[.int .i64 k, .int .i64 li, .int .i64 inf, .int .i64 al, .int .i64 en] 3)) (by simp)
  have hRD := (hrd.more hB).below hbb
  have HB0 := Lib.hid hb0
  have HB1 := Lib.hid hbb
  clear hb0 hO hx hrd hB
  by_cases hk : k < 1
  · have HF := Lib.hid (show ok = false by rw [HO.out, decide_eq_false (show ¬ 1 ≤ k by omega)]; rfl)
    clear HO hX hbb hRD
    go_enter Tryz.func106, Tryz.ntmps106
    go_wp2_with fail
    go_ret
    exact ⟨by rw [HF.out]; rfl, HB0.out⟩
  · have hk1 : decide (1 ≤ k) = true := decide_eq_true (by omega)
    rw [hk1, Bool.true_and] at HO
    clear hk1
    generalize hsm : smallI [k, li, inf, al, en] = sm at *
    clear hsm
    cases sm with
    | false =>
      have HF := Lib.hid (show ok = false by rw [HO.out]; rfl)
      clear HO hX hbb hRD
      go_enter Tryz.func106, Tryz.ntmps106
      go_wp2_with (go_at_call 128; refine (HS.out _ _ (by simp)).mono ?_; rintro r w1 ⟨rfl, rfl⟩)
      go_ret
      exact ⟨by rw [HF.out]; rfl, HB1.out⟩
    | true =>
      rw [Bool.true_and] at HO
      generalize rightT nm = rn at *
      cases rn with
      | false =>
        have HF := Lib.hid (show ok = false by rw [HO.out]; rfl)
        clear HO hX hbb hRD
        go_enter Tryz.func106, Tryz.ntmps106
        go_wp2_with (first
          | (go_at_call 128; refine (HS.out _ _ (by simp)).mono ?_; rintro r w1 ⟨rfl, rfl⟩)
          | (go_at_call 115; refine (HR.out _).mono ?_; rintro r w2 ⟨rfl, rfl⟩))
        go_ret
        exact ⟨by rw [HF.out]; rfl, HB1.out⟩
      | true =>
        rw [Bool.true_and] at HO
        by_cases hL : da.length ≤ 65536
        · have hd : decide ((65536 : Int) < (da.length : Int)) = false := decide_eq_false (by omega)
          rw [decide_eq_true hL, Bool.true_and] at HO
          clear hL hdl
          by_cases h8 : k = 8
          · have hk8 : (k == 8) = true := by simp [h8]
            rw [decide_eq_false (show ¬ k ≠ 8 by simp [h8]), Bool.false_or] at HO
            clear h8
            have HC := Lib.hid (fun (W : World) (hW : Below (w.heap.size + 2) ((w.alloc (.cells #[.string ⟨nm.toArray⟩, .int .i64 k, .int .u64 (fl : Int), .int .u64 (ad : Int), .slice A da.length c, .int .i64 li, .int .i64 inf, .int .i64 al, .int .i64 en] 39)).alloc (.cells #[.int .i64 k, .int .i64 li, .int .i64 inf, .int .i64 al, .int .i64 en] 3)) W) (s : Nat) (h0 : W.cell? ⟨s, 0, none⟩ = some (.int .u8 0)) =>
              count_rd ((hRD.more (show w.heap.size ≤ w.heap.size + 2 by omega)).below hW) c h0)
            have hXX : Box ((w.alloc (.cells #[.string ⟨nm.toArray⟩, .int .i64 k, .int .u64 (fl : Int), .int .u64 (ad : Int), .slice A da.length c, .int .i64 li, .int .i64 inf, .int .i64 al, .int .i64 en] 39)).alloc (.cells #[.int .i64 k, .int .i64 li, .int .i64 inf, .int .i64 al, .int .i64 en] 3)) w.heap.size 39 #[.string ⟨nm.toArray⟩, .int .i64 k, .int .u64 (fl : Int), .int .u64 (ad : Int), .slice A da.length c, .int .i64 li, .int .i64 inf, .int .i64 al, .int .i64 en] := hX
            clear hRD hX
            generalize hz : (da.count 0 : Nat) = z at *
            generalize hdn : da.length = dn at *
            have HM := Lib.hid (show ((z : Int) != (dn : Int)) = !decide (z = dn) by
              by_cases e : z = dn
              · subst e; simp
              · have : ¬ (z : Int) = (dn : Int) := by omega
                rw [decide_eq_false e]
                simpa using this)
            clear hz hdn
            generalize ByteArray.mk nm.toArray = sb at *
            go_enter Tryz.func106, Tryz.ntmps106
            go_wp2_with (first
              | (go_at_call 128; refine (HS.out _ _ (by simp)).mono ?_; rintro r w1 ⟨rfl, rfl⟩)
              | (go_at_call 115; refine (HR.out _).mono ?_; rintro r w2 ⟨rfl, rfl⟩))
            generalize hw2 : (w.alloc (.cells #[.string sb, .int .i64 k, .int .u64 (fl : Int), .int .u64 (ad : Int), .slice A dn c, .int .i64 li, .int .i64 inf, .int .i64 al, .int .i64 en] 39)).alloc (.cells #[.int .i64 k, .int .i64 li, .int .i64 inf, .int .i64 al, .int .i64 en] 3) = w2 at *
            have hsz : w2.heap.size = w.heap.size + 2 := by rw [← hw2]; simp
            clear hw2
            have KS := Lib.hid (fun (W : World) (hW : Below (w.heap.size + 2) w2 W) => (⟨hW, (hXX.below hW (by omega)).cell 1, (hXX.below hW (by omega)).cell 4⟩ :
              Below (w.heap.size + 2) w2 W ∧ W.cell? ⟨w.heap.size, 1, none⟩ = some (.int .i64 k) ∧ W.cell? ⟨w.heap.size, 4, none⟩ = some (.slice A dn c)))
            have hb2 := (Below.refl (w.heap.size + 2) w2).drew
            rw [← hsz] at HC KS hb2
            go_region_held_law (fun W => Below w2.heap.size w2 W ∧ W.cell? ⟨w.heap.size, 1, none⟩ = some (.int .i64 k) ∧ W.cell? ⟨w.heap.size, 4, none⟩ = some (.slice A dn c)) ((refine KS.out _ ?_; go_grown)) (first
              | (go_at_call 129; refine (HC.out _ (by go_grown) _ (by rw [← hsz]; simp)).mono ?_; rintro r w3 ⟨rfl, rfl⟩))
            all_goals go_wp2
            all_goals go_ret
            all_goals exact ⟨by rw [HO.out, ← HM.out]; rfl, HB1.out.trans ((show Below w2.heap.size w2 _ by go_grown).mono (by omega))⟩
          · have hk8 : (k == 8) = false := by simp [h8]
            have HF := Lib.hid (show ok = true by rw [HO.out, decide_eq_true (show k ≠ 8 from h8)]; rfl)
            clear HO hRD hbb h8
            generalize da.length = dn at *
            generalize ByteArray.mk nm.toArray = sb at *
            go_enter Tryz.func106, Tryz.ntmps106
            go_wp2_with (first
              | (go_at_call 128; refine (HS.out _ _ (by simp)).mono ?_; rintro r w1 ⟨rfl, rfl⟩)
              | (go_at_call 115; refine (HR.out _).mono ?_; rintro r w2 ⟨rfl, rfl⟩))
            generalize (w.alloc (.cells #[.string sb, .int .i64 k, .int .u64 (fl : Int), .int .u64 (ad : Int), .slice A dn c, .int .i64 li, .int .i64 inf, .int .i64 al, .int .i64 en] 39)).alloc (.cells #[.int .i64 k, .int .i64 li, .int .i64 inf, .int .i64 al, .int .i64 en] 3) = w2 at *
            have c1 : w2.cell? ⟨w.heap.size, 1, none⟩ = some (.int .i64 k) := hX.cell 1
            clear hX
            go_quiet (fail)
            go_wp2
            go_ret
            exact ⟨by rw [HF.out]; rfl, below_drewN HB1.out _⟩
        · have hd : decide ((65536 : Int) < (da.length : Int)) = true := decide_eq_true (by omega)
          have HF := Lib.hid (show ok = false by rw [HO.out, decide_eq_false hL]; rfl)
          clear HO hX hbb hRD hL hdl
          go_enter Tryz.func106, Tryz.ntmps106
          go_wp2_with (first
            | (go_at_call 128; refine (HS.out _ _ (by simp)).mono ?_; rintro r w1 ⟨rfl, rfl⟩)
            | (go_at_call 115; refine (HR.out _).mono ?_; rintro r w2 ⟨rfl, rfl⟩))
          go_ret
          exact ⟨by rw [HF.out]; rfl, HB1.out⟩

/-- All of the sections may be, as far as one by one. -/
def okAll (l : List Sect) : Bool := l.all okS

set_option maxRecDepth 10000 in
set_option maxHeartbeats 1600000 in
theorem index_wrong {w : World} {a : Option Addr} {L : List Lay} (h : Secs w w.heap.size a L) (c : Nat) (hl : L.length ≤ 100000) :
    Calls Tryz.prog 72 #[.slice a L.length c, .func (.func 106) #[] #[]] w fun r w' => ∃ k : Int, r = .returned (.int .i64 k) ∧ (decide (0 ≤ k) = !okAll (secsOf L)) ∧ Below w.heap.size w w' := by
  obtain ⟨N, hN⟩ : ∃ N, L.length = N := ⟨_, rfl⟩
  have HH := Lib.hid h
  have HN := Lib.hid hN
  rw [hN] at hl ⊢
  clear h hN
  go_enter Tryz.func72, Tryz.ntmps72
  go_wp2_with fail
  go_loopw [8] (fun i wr => ∃ k : Nat, k ≤ N ∧ i = .int .i64 k ∧ Below w.heap.size w wr ∧ Hid (((secsOf L).take k).all okS = true)) (fun i _ => N - (intOf i).toNat)
  case atStart => exact ⟨0, Nat.zero_le _, rfl, Below.refl _ _, Lib.hid rfl⟩
  case round =>
    obtain ⟨k, hk, rfl, hB, HY⟩ := hrel
    have HB := Lib.hid hB
    by_cases hlt : k < N
    · obtain ⟨x, hx⟩ : ∃ x, L[k]? = some x := ⟨L[k]'(by rw [HN.out]; exact hlt), List.getElem?_eq_getElem _⟩
      obtain ⟨b, o, rfl, hb, c0, c1, c2, c3, c4, c5, c6, c7, c8⟩ := (HH.out.below hB).at_ hx
      have HW := Lib.hid (wrong_any x ((HH.out.below hB).get hx) hB.size)
      rw [show x.val = .agg #[.string ⟨x.s.name.toArray⟩, .int .i64 x.s.kind, .int .u64 (x.s.flags : Int), .int .u64 (x.s.addr : Int), .slice x.A x.s.data.length x.c, .int .i64 x.s.link, .int .i64 x.s.inf, .int .i64 x.s.algn, .int .i64 x.s.ent] from rfl] at HW
      by_cases hst : okS x.s = true
      · have HF := Lib.hid (all_take okS (secsOf L) k x.s (get_secsOf hx) HY.out hst)
        rw [hst] at HW
        clear hx hst hB
        generalize x.A = dA at *
        generalize x.s.data.length = dn at *
        generalize x.c = dc at *
        generalize ByteArray.mk x.s.name.toArray = sb at *
        go_wp2_with (go_at_call 106; refine HW.out.mono ?_; rintro r w1 ⟨rfl, hb1⟩)
        have HB1 := Lib.hid (HB.out.trans (hb1.mono HB.out.size))
        go_roundw
        case rel => exact ⟨k + 1, by omega, by go_num, HB1.out, HF⟩
        case measure => simp [intOf]; omega
      · have hst' : okS x.s = false := by simpa using hst
        have HF := Lib.hid (all_not okS (secsOf L) k x.s (get_secsOf hx) hst')
        rw [hst'] at HW
        clear hx hst hB hst'
        generalize x.A = dA at *
        generalize x.s.data.length = dn at *
        generalize x.c = dc at *
        generalize ByteArray.mk x.s.name.toArray = sb at *
        go_wp2_with (go_at_call 106; refine HW.out.mono ?_; rintro r w1 ⟨rfl, hb1⟩)
        have HB1 := Lib.hid (HB.out.trans (hb1.mono HB.out.size))
        go_ret
        exact ⟨k, rfl, by rw [okAll, HF.out]; exact decide_eq_true (by omega), HB1.out⟩
    · have HF := Lib.hid (show okAll (secsOf L) = true by
        have := HY.out
        rw [show k = (secsOf L).length by simp [HN.out]; omega, List.take_length] at this
        exact this)
      clear hB
      go_wp2_with fail
      go_ret
      exact ⟨-1, rfl, by rw [HF.out]; rfl, HB.out⟩

set_option maxRecDepth 10000 in
theorem contains_wrong {w : World} {a : Option Addr} {L : List Lay} (h : Secs w w.heap.size a L) (c : Nat) (hl : L.length ≤ 100000) :
    Calls Tryz.prog 38 #[.slice a L.length c, .func (.func 106) #[] #[]] w fun r w' => r = .returned (.bool (!okAll (secsOf L))) ∧ Below w.heap.size w w' := by
  have HI := Lib.hid (index_wrong h c hl)
  clear h hl
  generalize okAll (secsOf L) = ok at *
  generalize L.length = n at *
  go_enter Tryz.func38, Tryz.ntmps38
  go_wp2_with (go_at_call 72; refine HI.out.mono ?_; rintro r w1 ⟨k, rfl, hk, hb1⟩)
  go_ret
  exact ⟨by rw [← hk]; rfl, hb1⟩

end Go.Proofs.YtldmjnbmjfnfeaaGreatDoor

namespace Go.Proofs.YtldmjnbmjfnfeaaGreatDoor
open Go Go.RowKit

/-- A number within its limit. -/
def inTo (x lim : Int) : Bool := decide (0 ≤ x) && decide (x ≤ lim)
/-- Whether a symbol may be. -/
def okY (s : Sym) : Bool := rightT s.name && (inTo s.bind 15 && (inTo s.kind 15 && inTo s.sect 65534))
def rightY (l : List Sym) : Bool := decide (l.length ≤ 400) && l.all okY

theorem beyond_any (w : World) (x lim : Int) : Calls Tryz.prog 116 #[.int .i64 x, .int .i64 lim] w fun r w' => r = .returned (.bool (!(inTo x lim))) ∧ w = w' := by
  have HE := Lib.hid (show inTo x lim = (decide (0 ≤ x) && decide (x ≤ lim)) from rfl)
  generalize inTo x lim = b at *
  by_cases h0 : x < 0
  · have HF := Lib.hid (show b = false by rw [HE.out, decide_eq_false (by omega), Bool.false_and])
    clear HE
    go_enter Tryz.func116, Tryz.ntmps116
    go_wp2_with fail
    go_ret
    exact ⟨by rw [HF.out]; rfl, rfl⟩
  · have HF := Lib.hid (show b = decide (x ≤ lim) by rw [HE.out, decide_eq_true (show 0 ≤ x by omega), Bool.true_and])
    have HG := Lib.hid (show decide (lim < x) = !(decide (x ≤ lim)) by rw [Bool.eq_iff_iff]; simp)
    clear HE
    go_enter Tryz.func116, Tryz.ntmps116
    go_wp2_with fail
    go_ret
    exact ⟨by rw [HF.out, ← HG.out]; rfl, rfl⟩

set_option maxRecDepth 10000 in
set_option maxHeartbeats 1600000 in
theorem ywrong_any {w : World} (nm : List UInt8) (bi ki se : Int) (va sz : Nat) :
    Calls Tryz.prog 74 #[.agg #[.string ⟨nm.toArray⟩, .int .i64 bi, .int .i64 ki, .int .i64 se, .int .u64 (va : Int), .int .u64 (sz : Int)]] w fun r w' => r = .returned (.bool (!(okY ⟨nm, bi, ki, se, va, sz⟩))) ∧ Below w.heap.size w w' := by
  have HO := Lib.hid (show okY ⟨nm, bi, ki, se, va, sz⟩ = (rightT nm && (inTo bi 15 && (inTo ki 15 && inTo se 65534))) from rfl)
  generalize okY ⟨nm, bi, ki, se, va, sz⟩ = ok at *
  have HR := Lib.hid (fun W => right_all nm W)
  have HB1 := Lib.hid (fun W => beyond_any W bi 15)
  have HB2 := Lib.hid (fun W => beyond_any W ki 15)
  have HB3 := Lib.hid (fun W => beyond_any W se 65534)
  have HB0 := Lib.hid (show Below w.heap.size w (w.alloc (.cells #[.string ⟨nm.toArray⟩, .int .i64 bi, .int .i64 ki, .int .i64 se, .int .u64 (va : Int), .int .u64 (sz : Int)] 51)) from (Below.refl _ _).alloc (Nat.le_refl _) _)
  have hX := Box.new w 51 #[.string ⟨nm.toArray⟩, .int .i64 bi, .int .i64 ki, .int .i64 se, .int .u64 (va : Int), .int .u64 (sz : Int)]
  generalize rightT nm = b0 at *
  generalize inTo bi 15 = b1 at *
  generalize inTo ki 15 = b2 at *
  generalize inTo se 65534 = b3 at *
  go_enter Tryz.func74, Tryz.ntmps74
  cases b0 <;> cases b1 <;> cases b2 <;> cases b3
  all_goals
    go_wp2_with (first
    | (go_at_call 115; refine (HR.out _).mono ?_; rintro r w1 ⟨rfl, rfl⟩; clear HR)
    | (go_at_call 116; refine (HB1.out _).mono ?_; rintro r w1 ⟨rfl, rfl⟩; clear HB1)
    | (go_at_call 116; refine (HB2.out _).mono ?_; rintro r w1 ⟨rfl, rfl⟩; clear HB2)
    | (go_at_call 116; refine (HB3.out _).mono ?_; rintro r w1 ⟨rfl, rfl⟩; clear HB3))
    go_ret
    exact ⟨by rw [HO.out]; rfl, HB0.out⟩

set_option maxRecDepth 10000 in
set_option maxHeartbeats 1600000 in
theorem yindex_wrong {w : World} {a : Option Addr} {L : List Sym} (h : Syms w w.heap.size a L) (c : Nat) (hl : L.length ≤ 100000) :
    Calls Tryz.prog 114 #[.slice a L.length c, .func (.func 74) #[] #[]] w fun r w' => ∃ k : Int, r = .returned (.int .i64 k) ∧ (decide (0 ≤ k) = !(L.all okY)) ∧ Below w.heap.size w w' := by
  obtain ⟨N, hN⟩ : ∃ N, L.length = N := ⟨_, rfl⟩
  have HH := Lib.hid h
  have HN := Lib.hid hN
  rw [hN] at hl ⊢
  clear h hN
  go_enter Tryz.func114, Tryz.ntmps114
  go_wp2_with fail
  go_loopw [8] (fun i wr => ∃ k : Nat, k ≤ N ∧ i = .int .i64 k ∧ Below w.heap.size w wr ∧ Hid ((L.take k).all okY = true)) (fun i _ => N - (intOf i).toNat)
  case atStart => exact ⟨0, Nat.zero_le _, rfl, Below.refl _ _, Lib.hid rfl⟩
  case round =>
    obtain ⟨k, hk, rfl, hB, HY⟩ := hrel
    have HB := Lib.hid hB
    by_cases hlt : k < N
    · obtain ⟨x, hx⟩ : ∃ x, L[k]? = some x := ⟨L[k]'(by rw [HN.out]; exact hlt), List.getElem?_eq_getElem _⟩
      obtain ⟨b, o, rfl, hb, c0, c1, c2, c3, c4, c5⟩ := sym_at (HH.out.below hB) hx
      have HW := Lib.hid (ywrong_any (w := wr) x.name x.bind x.kind x.sect x.value x.size)
      by_cases hst : okY x = true
      · have HF := Lib.hid (all_take okY L k x hx HY.out hst)
        rw [show okY ⟨x.name, x.bind, x.kind, x.sect, x.value, x.size⟩ = true from hst] at HW
        clear hx hst hB
        generalize ByteArray.mk x.name.toArray = sb at *
        go_wp2_with (go_at_call 74; refine HW.out.mono ?_; rintro r w1 ⟨rfl, hb1⟩)
        have HB1 := Lib.hid (HB.out.trans (hb1.mono HB.out.size))
        go_roundw
        case rel => exact ⟨k + 1, by omega, by go_num, HB1.out, HF⟩
        case measure => simp [intOf]; omega
      · have hst' : okY x = false := by simpa using hst
        have HF := Lib.hid (all_not okY L k x hx hst')
        rw [show okY ⟨x.name, x.bind, x.kind, x.sect, x.value, x.size⟩ = false from hst'] at HW
        clear hx hst hB hst'
        generalize ByteArray.mk x.name.toArray = sb at *
        go_wp2_with (go_at_call 74; refine HW.out.mono ?_; rintro r w1 ⟨rfl, hb1⟩)
        have HB1 := Lib.hid (HB.out.trans (hb1.mono HB.out.size))
        go_ret
        exact ⟨k, rfl, by rw [HF.out]; exact decide_eq_true (by omega), HB1.out⟩
    · have HF := Lib.hid (show L.all okY = true by
        have := HY.out
        rwa [List.take_of_length_le (by rw [HN.out]; omega)] at this)
      clear hB
      go_wp2_with fail
      go_ret
      exact ⟨-1, rfl, by rw [HF.out]; rfl, HB.out⟩

set_option maxRecDepth 10000 in
theorem ycontains_wrong {w : World} {a : Option Addr} {L : List Sym} (h : Syms w w.heap.size a L) (c : Nat) (hl : L.length ≤ 100000) :
    Calls Tryz.prog 73 #[.slice a L.length c, .func (.func 74) #[] #[]] w fun r w' => r = .returned (.bool (!(L.all okY))) ∧ Below w.heap.size w w' := by
  have HI := Lib.hid (yindex_wrong h c hl)
  clear h hl
  generalize L.all okY = ok at *
  generalize L.length = n at *
  go_enter Tryz.func73, Tryz.ntmps73
  go_wp2_with (go_at_call 114; refine HI.out.mono ?_; rintro r w1 ⟨k, rfl, hk, hb1⟩)
  go_ret
  exact ⟨by rw [← hk]; rfl, hb1⟩

set_option maxRecDepth 10000 in
theorem yright_any {w : World} {a : Option Addr} {L : List Sym} (h : Syms w w.heap.size a L) (c : Nat) (hl : L.length ≤ 100000) :
    Calls Tryz.prog 40 #[.slice a L.length c] w fun r w' => r = .returned (.bool (rightY L)) ∧ Below w.heap.size w w' := by
  have HI := Lib.hid (ycontains_wrong h c hl)
  have HE := Lib.hid (show rightY L = (decide (L.length ≤ 400) && L.all okY) from rfl)
  clear h hl
  generalize rightY L = rs at *
  generalize L.all okY = ok at *
  generalize L.length = n at *
  go_enter Tryz.func40, Tryz.ntmps40
  by_cases h4 : n ≤ 400
  · have hd : decide ((n : Int) ≤ 400) = true := decide_eq_true (by omega)
    rw [decide_eq_true h4, Bool.true_and] at HE
    clear h4
    go_wp2_with (go_at_call 73; refine HI.out.mono ?_; rintro r w1 ⟨rfl, hb1⟩)
    go_ret
    exact ⟨by rw [HE.out]; simp, hb1⟩
  · have hd : decide ((n : Int) ≤ 400) = false := decide_eq_false (by omega)
    rw [decide_eq_false h4, Bool.false_and] at HE
    clear h4
    go_wp2_with fail
    go_ret
    exact ⟨by rw [HE.out]; rfl, Below.refl _ _⟩

end Go.Proofs.YtldmjnbmjfnfeaaGreatDoor

namespace Go.Proofs.YtldmjnbmjfnfeaaGreatDoor
open Go Go.RowKit

/-- The name of the section of the names. -/
def shstrN : List UInt8 := [46, 115, 104, 115, 116, 114, 116, 97, 98]
/-- The same section? -/
def sameS (x y : Sect) : Bool :=
  decide (x.name = y.name) && (decide (x.kind = y.kind) && (decide (x.flags = y.flags) && (decide (x.addr = y.addr) && (decide (x.data = y.data) && (decide (x.link = y.link) && (decide (x.inf = y.inf) && (decide (x.algn = y.algn) && decide (x.ent = y.ent))))))))
theorem sameS_eq {x y : Sect} (h : sameS x y = true) : x = y := by
  unfold sameS at h
  simp only [Bool.and_eq_true, decide_eq_true_eq] at h
  rcases x with ⟨a, b, c, d, e, f, g, i, j⟩
  rcases y with ⟨a', b', c', d', e', f', g', i', j'⟩
  simp only at h
  obtain ⟨rfl, rfl, rfl, rfl, rfl, rfl, rfl, rfl, rfl⟩ := h
  rfl
theorem sameS_refl (x : Sect) : sameS x x = true := by simp [sameS]

/-- Whether sections may be. -/
def rightS (l : List Sect) : Bool :=
  decide (2 ≤ l.length ∧ l.length ≤ 64) && ((l[0]?).any (fun s => sameS s zeroS) && ((l[l.length - 1]?).any (fun s => decide (s.kind = 3)) && (decide (findS l shstrN = ((l.length - 1 : Nat) : Int)) && okAll (l.drop 1))))

theorem wrapN_zero {k : Int} (h : InI k) : wrapN k = 0 ↔ k = 0 := by
  unfold wrapN InI at *
  rw [IntKind.wrap_u64]
  omega

theorem entNs_zero (s : Sect) (hf : s.Fits) : (entNs s 0 0 = List.replicate 10 0) ↔ (s.kind = 0 ∧ s.flags = 0 ∧ s.addr = 0 ∧ s.data = [] ∧ s.link = 0 ∧ s.inf = 0 ∧ s.algn = 0 ∧ s.ent = 0) := by
  have h1 := wrapN_zero hf.kind
  have h2 := wrapN_zero hf.link
  have h3 := wrapN_zero hf.inf
  have h4 := wrapN_zero hf.algn
  have h5 := wrapN_zero hf.ent
  simp only [entNs, List.replicate, List.cons.injEq, true_and, and_true, h1, h2, h3, h4, h5, List.length_eq_zero_iff]

theorem zero_first (s : Sect) (hf : s.Fits) : sameS s zeroS = (decide (s.name = []) && decide (entNs s 0 0 = List.replicate 10 0)) := by
  have h := entNs_zero s hf
  rw [Bool.eq_iff_iff]
  simp only [sameS, Bool.and_eq_true, decide_eq_true_eq]
  show (s.name = [] ∧ s.kind = 0 ∧ s.flags = 0 ∧ s.addr = 0 ∧ s.data = [] ∧ s.link = 0 ∧ s.inf = 0 ∧ s.algn = 0 ∧ s.ent = 0) ↔ _
  rw [h]

theorem run_part (xs : List Nat) (k x : Nat) (hx : xs[k]? = some x) (W : World) : (part 37 (entCs xs).toArray k).run Tryz.prog W = .ok (.int .u64 (x : Int)) W := by
  have h : (entCs xs).toArray[k]? = some (.int .u64 (x : Int)) := by simp [entCs, hx]
  simp only [part, Sem.run_bind, isAgg, run_underlying Tryz.underlying37, Result.andThen_ok, Sem.run_pure]
  simp [h]

theorem eqFields_nums (W : World) (d : Nat) (xs ys : List Nat) (hxy : ys.length = xs.length) : ∀ (fs : List Field) (k : Nat), (∀ (i : Nat) (f : Field), fs[i]? = some f → f.type = 37 ∧ f.offset = k + i ∧ f.name ≠ "_") → k + fs.length = xs.length →
    (Op.eqFields (d + 1) (entCs xs).toArray (entCs ys).toArray fs).run Tryz.prog W = .ok (xs.drop k == ys.drop k) W := by
  intro fs
  induction fs with
  | nil =>
    intro k _ hk
    have h1 : xs.drop k = [] := List.drop_eq_nil_of_le (by simp at hk; omega)
    have h2 : ys.drop k = [] := List.drop_eq_nil_of_le (by simp at hk; omega)
    rw [h1, h2]
    rfl
  | cons f fs ih =>
    intro k hf hk
    simp only [List.length_cons] at hk
    obtain ⟨h1, h2, h3⟩ := hf 0 f rfl
    have hx : xs[k]? = some (xs[k]'(by omega)) := List.getElem?_eq_getElem _
    have hy : ys[k]? = some (ys[k]'(by omega)) := List.getElem?_eq_getElem _
    have e1 := run_part xs k _ hx W
    have e2 := run_part ys k _ hy W
    have e3 := run_equalIn_int (P := Tryz.prog) W d 37 .u64 .u64 (xs[k]'(by omega) : Int) (ys[k]'(by omega) : Int) Tryz.underlying37
    have e4 := ih (k + 1) (fun i g hg => by
      obtain ⟨g1, g2, g3⟩ := hf (i + 1) g (by simpa using hg)
      exact ⟨g1, by omega, g3⟩) (by omega)
    have d1 : xs.drop k = xs[k]'(by omega) :: xs.drop (k + 1) := List.drop_eq_getElem_cons (by omega)
    have d2 : ys.drop k = ys[k]'(by omega) :: ys.drop (k + 1) := List.drop_eq_getElem_cons (by omega)
    simp only [Op.eqFields, if_pos h3, h1, h2, Nat.add_zero, Sem.run_bind, e1, e2, e3, Result.andThen_ok]
    rw [d1, d2]
    clear e1 e2 e3 d1 d2 hx hy
    generalize xs.drop (k + 1) = u at *
    generalize ys.drop (k + 1) = v at *
    generalize xs[k]'(by omega) = p
    generalize ys[k]'(by omega) = q
    by_cases he : p = q
    · subst he
      simp [e4]
    · have he' : ((p : Int) == (q : Int)) = false := by
        simp only [beq_eq_false_iff_ne, ne_eq]
        omega
      rw [he']
      simp [he]

theorem eqFields_entry (xs ys : List Nat) (hx : xs.length = 10) (hy : ys.length = 10) (W : World) (d : Nat) :
    (Op.eqFields (d + 1) (entCs xs).toArray (entCs ys).toArray (Tryz.prog.fieldsOf 120).toList).run Tryz.prog W = .ok (xs == ys) W := by
  have h := eqFields_nums W d xs ys (by omega) (Tryz.prog.fieldsOf 120).toList 0
  simp only [Program.fieldsOf, Tryz.underlying120] at h ⊢
  refine h (fun i f hf => ?_) (by simp [hx])
  have hi := (List.getElem?_eq_some_iff.1 hf).1
  simp only [List.length_cons, List.length_nil] at hi
  match i, hi with
  | 0, _ | 1, _ | 2, _ | 3, _ | 4, _ | 5, _ | 6, _ | 7, _ | 8, _ | 9, _ =>
    injection hf with hf
    subst hf
    exact ⟨rfl, rfl, by decide⟩

set_option maxRecDepth 10000 in
theorem neq_entry (xs ys : List Nat) (hx : xs.length = 10) (hy : ys.length = 10) (W : World) : (binOp .neq 120 (entV xs) (entV ys)).run Tryz.prog W = .ok (.bool (!(xs == ys))) W := by
  unfold entV
  rw [run_neq_struct, run_equalIn_agg W 9999 _ _ _ (by kernel_rfl) (by kernel_rfl), eqFields_entry xs ys hx hy W 9998]
  rfl

theorem rightS_len {l : List Sect} (h : ¬ (2 ≤ l.length ∧ l.length ≤ 64)) : rightS l = false := by unfold rightS; rw [decide_eq_false h, Bool.false_and]

set_option maxRecDepth 10000 in
set_option maxHeartbeats 3200000 in
theorem sright_any {w : World} {a : Option Addr} {L : List Lay} (h : Secs w w.heap.size a L) (c : Nat) (hlc : L.length ≤ c) (hl : L.length ≤ 100000) :
    Calls Tryz.prog 60 #[.slice a L.length c] w fun r w' => r = .returned (.bool (rightS (secsOf L))) ∧ Below w.heap.size w w' := by
  have hlen : (secsOf L).length = L.length := by simp
  by_cases h2 : L.length < 2
  · have HF := Lib.hid (show rightS (secsOf L) = false from rightS_len (by omega))
    clear h hlen
    generalize rightS (secsOf L) = rs at *
    generalize L.length = n at *
    have hd : decide ((n : Int) < 2) = true := decide_eq_true (by omega)
    go_enter Tryz.func60, Tryz.ntmps60
    go_wp2_with fail
    go_ret
    exact ⟨by rw [HF.out]; rfl, Below.refl _ _⟩
  · by_cases h64 : 64 < L.length
    · have HF := Lib.hid (show rightS (secsOf L) = false from rightS_len (by omega))
      clear h hlen
      generalize rightS (secsOf L) = rs at *
      generalize L.length = n at *
      have hd : decide ((n : Int) < 2) = false := decide_eq_false (by omega)
      have hd2 : decide ((64 : Int) < (n : Int)) = true := decide_eq_true (by omega)
      go_enter Tryz.func60, Tryz.ntmps60
      go_wp2_with fail
      go_ret
      exact ⟨by rw [HF.out]; rfl, Below.refl _ _⟩
    · have HR := Lib.hid (show rightS (secsOf L) = ((secsOf L)[0]?.any (fun s => sameS s zeroS) && (((secsOf L)[(secsOf L).length - 1]?).any (fun s => decide (s.kind = 3)) && (decide (findS (secsOf L) shstrN = (((secsOf L).length - 1 : Nat) : Int)) && okAll ((secsOf L).drop 1)))) by
        unfold rightS
        rw [decide_eq_true (show 2 ≤ (secsOf L).length ∧ (secsOf L).length ≤ 64 by omega), Bool.true_and])
      generalize rightS (secsOf L) = rs at *
      obtain ⟨m, hm⟩ : ∃ m, L.length = m + 1 := ⟨L.length - 1, by omega⟩
      obtain ⟨x, hx⟩ : ∃ x, L[0]? = some x := ⟨L[0]'(by omega), List.getElem?_eq_getElem _⟩
      obtain ⟨z, hz⟩ : ∃ x, L[m]? = some x := ⟨L[m]'(by omega), List.getElem?_eq_getElem _⟩
      have HZ := Lib.hid (zero_first x.s (h.get hx).fits)
      have hsl : (secsOf L).length - 1 = m := by rw [hlen, hm]; rfl
      rw [get_secsOf hx, hsl, get_secsOf hz, Option.any_some, Option.any_some, HZ.out] at HR
      have hfx := (h.get hx).fits
      have HD := Lib.hid (fun W => describe_any x hfx.data 0 0 W)
      have HN := Lib.hid (fun W => neq_entry (entNs x.s 0 0) (List.replicate 10 0) rfl rfl W)
      rw [show entV (List.replicate 10 0) = .agg #[.int .u64 0, .int .u64 0, .int .u64 0, .int .u64 0, .int .u64 0, .int .u64 0, .int .u64 0, .int .u64 0, .int .u64 0, .int .u64 0] from rfl] at HN
      have HG := Lib.hid (fun (p q : Operand) (W : World) => run_eqGuard_agg W .neq 120 p q (entCs (entNs x.s 0 0)).toArray #[.int .u64 0, .int .u64 0, .int .u64 0, .int .u64 0, .int .u64 0, .int .u64 0, .int .u64 0, .int .u64 0, .int .u64 0, .int .u64 0] Tryz.eqGuardType120)
      rw [show Value.agg (entCs (entNs x.s 0 0)).toArray = entV (entNs x.s 0 0) from rfl] at HG
      rw [show x.val = .agg #[.string ⟨x.s.name.toArray⟩, .int .i64 x.s.kind, .int .u64 (x.s.flags : Int), .int .u64 (x.s.addr : Int), .slice x.A x.s.data.length x.c, .int .i64 x.s.link, .int .i64 x.s.inf, .int .i64 x.s.algn, .int .i64 x.s.ent] from rfl] at HD
      obtain ⟨b, o, rfl, hb, c0, c1, c2, c3, c4, c5, c6, c7, c8⟩ := h.at_ hx
      rw [Nat.zero_mul, Nat.add_zero] at c0 c1 c2 c3 c4 c5 c6 c7 c8
      have HFD := Lib.hid (fun W (hW : Below w.heap.size w W) => find_any ((h.below hW).more hW.size) c hl shstrN)
      have HCW := Lib.hid (fun W (hW : Below w.heap.size w W) => contains_wrong (((h.below hW).more hW.size).drop 1) (c - 1) (by simp; omega))
      have HZC := Lib.hid (fun W (hW : Below w.heap.size w W) => (h.below hW).at_ hz)
      have hmb : m ≤ 100 := by omega
      have hc1 : ¬ c = 1 := by omega
      have hc2 : 1 < c := by omega
      have hd : decide ((m : Int) + 1 < 2) = false := decide_eq_false (by omega)
      have hd2 : decide ((64 : Int) < (m : Int) + 1) = false := decide_eq_false (by omega)
      have q1 : ((ByteArray.mk x.s.name.toArray).toList == []) = decide (x.s.name = []) := by rw [Lib.toList_data, Bool.eq_iff_iff]; simp
      have q2 : ((ByteArray.mk x.s.name.toArray).toList != []) = !decide (x.s.name = []) := by rw [← q1]; rfl
      rw [hm] at HFD hlc
      rw [show (secsOf L).drop 1 = secsOf (L.drop 1) by simp [secsOf]] at HR
      rw [show (L.drop 1).length = m by simp [hm], Option.map_some, addr_add, Nat.one_mul] at HCW
      rw [show ByteArray.mk shstrN.toArray = ⟨#[46, 115, 104, 115, 116, 114, 116, 97, 98]⟩ from rfl] at HFD
      generalize z.s.kind = zk at *
      clear hx hz h hlen hsl h2 h64 hl hfx HZ
      rw [hm]
      generalize findS (secsOf L) shstrN = fd at *
      generalize okAll (secsOf (L.drop 1)) = ok at *
      generalize decide (x.s.name = []) = bn at *
      have hee : (entNs x.s 0 0 == List.replicate 10 0) = decide (entNs x.s 0 0 = List.replicate 10 0) := by rw [Bool.eq_iff_iff, beq_iff_eq, decide_eq_true_eq]
      rw [hee] at HN
      generalize decide (entNs x.s 0 0 = List.replicate 10 0) = bz at *
      clear hee
      generalize entV (entNs x.s 0 0) = rv at *
      generalize x.A = dA at *
      generalize x.s.data.length = dn at *
      generalize x.c = dc at *
      generalize ByteArray.mk x.s.name.toArray = sb at *
      generalize x.s.kind = i1 at *
      generalize x.s.link = i2 at *
      generalize x.s.inf = i3 at *
      generalize x.s.algn = i4 at *
      generalize x.s.ent = i5 at *
      generalize x.s.flags = n1 at *
      generalize x.s.addr = n2 at *
      have HB0 := Lib.hid ((Below.refl w.heap.size w).alloc (Nat.le_refl _) (.cells #[.string sb, .int .i64 i1, .int .u64 (n1 : Int), .int .u64 (n2 : Int), .slice dA dn dc, .int .i64 i2, .int .i64 i3, .int .i64 i4, .int .i64 i5] 39))
      go_enter Tryz.func60, Tryz.ntmps60
      cases bn with
      | false =>
        have HF := Lib.hid (show rs = false by rw [HR.out]; rfl)
        clear HR HN HG HD HFD HCW HZC
        go_wp2_with fail
        go_ret
        exact ⟨by rw [HF.out]; rfl, HB0.out⟩
      | true =>
        have hn1 := HN.out
        have hg1 := HG.out
        cases bz with
        | false =>
          have HF := Lib.hid (show rs = false by rw [HR.out]; rfl)
          clear HR HN HG HFD HCW HZC
          go_wp2_with (go_at_call 104; refine (HD.out _).mono ?_; rintro r w1 ⟨rfl, hb1⟩)
          go_ret
          exact ⟨by rw [HF.out]; rfl, HB0.out.trans (hb1.mono (by simp))⟩
        | true =>
          clear HN HG
          rw [Bool.and_self, Bool.true_and] at HR
          by_cases hk : zk = 3
          · have hk3 : (zk == 3) = true := by simp [hk]
            have hk4 : (zk != 3) = false := by simp [hk]
            rw [decide_eq_true hk, Bool.true_and] at HR
            clear hk
            by_cases hf : fd = ((m : Nat) : Int)
            · have hf3 : (fd == (m : Int)) = true := by simp [hf]
              have hf4 : (fd != (m : Int)) = false := by simp [hf]
              rw [decide_eq_true hf, Bool.true_and] at HR
              clear hf
              go_wp2_with (first
                | (go_at_call 104; refine (HD.out _).mono ?_; rintro r w1 ⟨rfl, hb1⟩; have HB1 := Lib.hid (HB0.out.trans (hb1.mono (by simp))); (obtain ⟨b', o', e, _, _, z1, _⟩ := HZC.out _ HB1.out); cases e; clear hb1 HD)
                | (go_at_call 105; refine (HFD.out _ HB1.out).mono ?_; rintro r w2 ⟨rfl, hb2⟩; have HB2 := Lib.hid (HB1.out.trans (hb2.mono HB1.out.size)); clear hb2 HFD)
                | (go_at_call 38; refine (HCW.out _ HB2.out).mono ?_; rintro r w3 ⟨rfl, hb3⟩; have HB3 := Lib.hid (HB2.out.trans (hb3.mono HB2.out.size)); clear hb3 HCW))
              go_ret
              exact ⟨by rw [HR.out]; simp, HB3.out⟩
            · have hf3 : (fd == (m : Int)) = false := by simpa using hf
              have hf4 : (fd != (m : Int)) = true := by simpa using hf
              have HF := Lib.hid (show rs = false by rw [HR.out, decide_eq_false hf]; rfl)
              clear hf HR HCW
              go_wp2_with (first
                | (go_at_call 104; refine (HD.out _).mono ?_; rintro r w1 ⟨rfl, hb1⟩; have HB1 := Lib.hid (HB0.out.trans (hb1.mono (by simp))); (obtain ⟨b', o', e, _, _, z1, _⟩ := HZC.out _ HB1.out); cases e; clear hb1 HD)
                | (go_at_call 105; refine (HFD.out _ HB1.out).mono ?_; rintro r w2 ⟨rfl, hb2⟩; have HB2 := Lib.hid (HB1.out.trans (hb2.mono HB1.out.size)); clear hb2 HFD))
              go_ret
              exact ⟨by rw [HF.out]; rfl, HB2.out⟩
          · have hk3 : (zk == 3) = false := by simpa using hk
            have hk4 : (zk != 3) = true := by simpa using hk
            have HF := Lib.hid (show rs = false by rw [HR.out, decide_eq_false hk]; rfl)
            clear hk HR HCW HFD
            go_wp2_with (go_at_call 104; refine (HD.out _).mono ?_; rintro r w1 ⟨rfl, hb1⟩; have HB1 := Lib.hid (HB0.out.trans (hb1.mono (by simp))); (obtain ⟨b', o', e, _, _, z1, _⟩ := HZC.out _ HB1.out); cases e; clear hb1 HD)
            go_ret
            exact ⟨by rw [HF.out]; rfl, HB1.out⟩

end Go.Proofs.YtldmjnbmjfnfeaaGreatDoor

namespace Go.Proofs.YtldmjnbmjfnfeaaGreatDoor
open Go Go.RowKit

theorem ob_func (fn : Fn) (first cap : Array Value) (W : World) : (Instr.makeFunc fn first cap).run Tryz.prog W = .ok (.func fn first cap) W := rfl
/-- A section's nine cells. -/
theorem lay_cells (x : Lay) : x.val = .agg #[.string ⟨x.s.name.toArray⟩, .int .i64 x.s.kind, .int .u64 (x.s.flags : Int), .int .u64 (x.s.addr : Int), .slice x.A x.s.data.length x.c, .int .i64 x.s.link, .int .i64 x.s.inf, .int .i64 x.s.algn, .int .i64 x.s.ent] := rfl

/-! ### Sections that Put makes -/
def symtabN : List UInt8 := [46, 115, 121, 109, 116, 97, 98]
def strtabN : List UInt8 := [46, 115, 116, 114, 116, 97, 98]
/-- A section that Put makes, or that Take refuses. -/
def madeS (s : Sect) : Bool := decide (s.kind = 2) || (decide (s.kind = 4) || (decide (s.kind = 9) || (decide (s.name = symtabN) || (decide (s.name = strtabN) || decide (s.name = shstrN)))))

theorem int_eq_beq (a b : Int) : (a == b) = decide (a = b) := by rw [Bool.eq_iff_iff]; simp
set_option maxRecDepth 10000 in
set_option maxHeartbeats 1600000 in
theorem made_any {w : World} (x : Lay) : Calls Tryz.prog 39 #[x.val] w fun r w' => r = .returned (.bool (madeS x.s)) ∧ Below w.heap.size w w' := by
  rw [lay_cells]
  have hq1 := str_eq x.s.name symtabN
  have hq2 := str_eq x.s.name strtabN
  have hq3 := str_eq x.s.name shstrN
  rw [show (ByteArray.mk symtabN.toArray).toList = [46, 115, 121, 109, 116, 97, 98] by rw [Lib.toList_data]; rfl] at hq1
  rw [show (ByteArray.mk strtabN.toArray).toList = [46, 115, 116, 114, 116, 97, 98] by rw [Lib.toList_data]; rfl] at hq2
  rw [show (ByteArray.mk shstrN.toArray).toList = [46, 115, 104, 115, 116, 114, 116, 97, 98] by rw [Lib.toList_data]; rfl] at hq3
  have HM := Lib.hid (show madeS x.s = (decide (x.s.kind = 2) || (decide (x.s.kind = 4) || (decide (x.s.kind = 9) || (decide (x.s.name = symtabN) || (decide (x.s.name = strtabN) || decide (x.s.name = shstrN)))))) from rfl)
  have e2 := int_eq_beq x.s.kind 2
  have e4 := int_eq_beq x.s.kind 4
  have e9 := int_eq_beq x.s.kind 9
  generalize madeS x.s = ms at *
  generalize decide (x.s.kind = 2) = b2 at *
  generalize decide (x.s.kind = 4) = b4 at *
  generalize decide (x.s.kind = 9) = b9 at *
  generalize decide (x.s.name = symtabN) = c1 at *
  generalize decide (x.s.name = strtabN) = c2 at *
  generalize decide (x.s.name = shstrN) = c3 at *
  generalize x.A = dA at *
  generalize x.s.data.length = dn at *
  generalize x.c = dc at *
  generalize ByteArray.mk x.s.name.toArray = sb at *
  generalize x.s.kind = i1 at *
  generalize x.s.link = i2 at *
  generalize x.s.inf = i3 at *
  generalize x.s.algn = i4 at *
  generalize x.s.ent = i5 at *
  generalize x.s.flags = n1 at *
  generalize x.s.addr = n2 at *
  have HB0 := Lib.hid ((Below.refl w.heap.size w).alloc (Nat.le_refl _) (.cells #[.string sb, .int .i64 i1, .int .u64 (n1 : Int), .int .u64 (n2 : Int), .slice dA dn dc, .int .i64 i2, .int .i64 i3, .int .i64 i4, .int .i64 i5] 39))
  go_enter Tryz.func39, Tryz.ntmps39
  cases b2
  · cases b4
    · cases b9
      · have HF := Lib.hid (show ms = (c1 || (c2 || c3)) by rw [HM.out]; rfl)
        clear HM
        cases c1 <;> cases c2
        all_goals
          go_wp2_with fail
          go_ret
          exact ⟨by rw [HF.out]; rfl, HB0.out⟩
      · have HF := Lib.hid (show ms = true by rw [HM.out]; rfl)
        clear HM hq1 hq2 hq3
        go_wp2_with fail
        go_ret
        exact ⟨by rw [HF.out]; rfl, HB0.out⟩
    · have HF := Lib.hid (show ms = true by rw [HM.out]; rfl)
      clear HM hq1 hq2 hq3
      go_wp2_with fail
      go_ret
      exact ⟨by rw [HF.out]; rfl, HB0.out⟩
  · have HF := Lib.hid (show ms = true by rw [HM.out]; rfl)
    clear HM hq1 hq2 hq3
    go_wp2_with fail
    go_ret
    exact ⟨by rw [HF.out]; rfl, HB0.out⟩

theorem all_false_not {α : Type} (p : α → Bool) (l : List α) (k : Nat) (x : α) (hx : l[k]? = some x) (hp : p x = true) : l.any p = true := List.any_eq_true.2 ⟨x, List.mem_of_getElem? hx, hp⟩
theorem any_take {α : Type} (p : α → Bool) (l : List α) (k : Nat) (x : α) (hx : l[k]? = some x) (h : (l.take k).any p = false) (hp : p x = false) : (l.take (k + 1)).any p = false := by
  rw [List.take_add_one, hx, List.any_append, h]
  simp [hp]
def anyMade (l : List Sect) : Bool := l.any madeS

set_option maxRecDepth 10000 in
set_option maxHeartbeats 1600000 in
theorem index_made {w : World} {a : Option Addr} {L : List Lay} (h : Secs w w.heap.size a L) (c : Nat) (hl : L.length ≤ 100000) :
    Calls Tryz.prog 72 #[.slice a L.length c, .func (.func 39) #[] #[]] w fun r w' => ∃ k : Int, r = .returned (.int .i64 k) ∧ (decide (0 ≤ k) = anyMade (secsOf L)) ∧ Below w.heap.size w w' := by
  obtain ⟨N, hN⟩ : ∃ N, L.length = N := ⟨_, rfl⟩
  have HH := Lib.hid h
  have HN := Lib.hid hN
  rw [hN] at hl ⊢
  clear h hN
  go_enter Tryz.func72, Tryz.ntmps72
  go_wp2_with fail
  go_loopw [8] (fun i wr => ∃ k : Nat, k ≤ N ∧ i = .int .i64 k ∧ Below w.heap.size w wr ∧ Hid (((secsOf L).take k).any madeS = false)) (fun i _ => N - (intOf i).toNat)
  case atStart => exact ⟨0, Nat.zero_le _, rfl, Below.refl _ _, Lib.hid rfl⟩
  case round =>
    obtain ⟨k, hk, rfl, hB, HY⟩ := hrel
    have HB := Lib.hid hB
    by_cases hlt : k < N
    · obtain ⟨x, hx⟩ : ∃ x, L[k]? = some x := ⟨L[k]'(by rw [HN.out]; exact hlt), List.getElem?_eq_getElem _⟩
      obtain ⟨b, o, rfl, hb, c0, c1, c2, c3, c4, c5, c6, c7, c8⟩ := (HH.out.below hB).at_ hx
      have HW := Lib.hid (made_any (w := wr) x)
      rw [lay_cells] at HW
      by_cases hst : madeS x.s = true
      · have HF := Lib.hid (all_false_not madeS (secsOf L) k x.s (get_secsOf hx) hst)
        rw [hst] at HW
        clear hx hst hB
        generalize x.A = dA at *
        generalize x.s.data.length = dn at *
        generalize x.c = dc at *
        generalize ByteArray.mk x.s.name.toArray = sb at *
        go_wp2_with (go_at_call 39; refine HW.out.mono ?_; rintro r w1 ⟨rfl, hb1⟩)
        have HB1 := Lib.hid (HB.out.trans (hb1.mono HB.out.size))
        go_ret
        exact ⟨k, rfl, by rw [show anyMade (secsOf L) = true from HF.out]; exact decide_eq_true (by omega), HB1.out⟩
      · have hst' : madeS x.s = false := by simpa using hst
        have HF := Lib.hid (any_take madeS (secsOf L) k x.s (get_secsOf hx) HY.out hst')
        rw [hst'] at HW
        clear hx hst hB hst'
        generalize x.A = dA at *
        generalize x.s.data.length = dn at *
        generalize x.c = dc at *
        generalize ByteArray.mk x.s.name.toArray = sb at *
        go_wp2_with (go_at_call 39; refine HW.out.mono ?_; rintro r w1 ⟨rfl, hb1⟩)
        have HB1 := Lib.hid (HB.out.trans (hb1.mono HB.out.size))
        go_roundw
        case rel => exact ⟨k + 1, by omega, by go_num, HB1.out, HF⟩
        case measure => simp [intOf]; omega
    · have HF := Lib.hid (show anyMade (secsOf L) = false by
        have := HY.out
        rwa [List.take_of_length_le (by simp; rw [HN.out]; omega)] at this)
      clear hB
      go_wp2_with fail
      go_ret
      exact ⟨-1, rfl, by rw [HF.out]; rfl, HB.out⟩

set_option maxRecDepth 10000 in
theorem contains_made {w : World} {a : Option Addr} {L : List Lay} (h : Secs w w.heap.size a L) (c : Nat) (hl : L.length ≤ 100000) :
    Calls Tryz.prog 38 #[.slice a L.length c, .func (.func 39) #[] #[]] w fun r w' => r = .returned (.bool (anyMade (secsOf L))) ∧ Below w.heap.size w w' := by
  have HI := Lib.hid (index_made h c hl)
  clear h hl
  generalize anyMade (secsOf L) = ok at *
  generalize L.length = n at *
  go_enter Tryz.func38, Tryz.ntmps38
  go_wp2_with (go_at_call 72; refine HI.out.mono ?_; rintro r w1 ⟨k, rfl, hk, hb1⟩)
  go_ret
  exact ⟨by rw [← hk]; rfl, hb1⟩

/-! ### Symbols that stand in sections -/
/-- A symbol's section is none of so many, and no special number. -/
def farY (n : Nat) (x : Sym) : Bool := decide ((n : Int) ≤ x.sect) && decide (x.sect < 65521)
def placedY (L : List Sym) (n : Nat) : Bool := !(L.any (farY n))

set_option maxRecDepth 10000 in
set_option maxHeartbeats 1600000 in
theorem placed1_any {w : World} (x : Sym) (n g : Nat) (hg : w.cell? ⟨g, 0, none⟩ = some (.int .i64 (n : Int))) :
    Calls Tryz.prog 75 #[.agg #[.string ⟨x.name.toArray⟩, .int .i64 x.bind, .int .i64 x.kind, .int .i64 x.sect, .int .u64 (x.value : Int), .int .u64 (x.size : Int)], .pointer (some ⟨g, 0, none⟩)] w fun r w' => r = .returned (.bool (farY n x)) ∧ Below w.heap.size w w' := by
  have HM := Lib.hid (show farY n x = (decide ((n : Int) ≤ x.sect) && decide (x.sect < 65521)) from rfl)
  generalize ByteArray.mk x.name.toArray = sb at *
  generalize farY n x = fy at *
  generalize x.bind = i1 at *
  generalize x.kind = i2 at *
  generalize x.sect = i3 at *
  generalize x.value = n1 at *
  generalize x.size = n2 at *
  generalize hd2 : decide (i3 < 65521) = d2 at *
  have hg0 := hg
  have hlt : g < w.heap.size := by simpa using World.block_lt_of_cell? w _ hg
  have hg1 : (w.alloc (.cells #[.string sb, .int .i64 i1, .int .i64 i2, .int .i64 i3, .int .u64 (n1 : Int), .int .u64 (n2 : Int)] 51)).cell? ⟨g, 0, none⟩ = some (.int .i64 (n : Int)) := by
    rw [((Below.refl w.heap.size w).alloc (Nat.le_refl _) _).cell (p := ⟨g, 0, none⟩) hlt]
    exact hg
  have HB0 := Lib.hid ((Below.refl w.heap.size w).alloc (Nat.le_refl _) (.cells #[.string sb, .int .i64 i1, .int .i64 i2, .int .i64 i3, .int .u64 (n1 : Int), .int .u64 (n2 : Int)] 51))
  clear hg0 hlt
  go_enter Tryz.func75, Tryz.ntmps75
  by_cases h1 : (n : Int) ≤ i3
  · have d1 : decide ((n : Int) ≤ i3) = true := decide_eq_true h1
    rw [d1, Bool.true_and] at HM
    clear h1
    go_wp2_with fail
    go_ret
    exact ⟨by rw [HM.out]; rfl, HB0.out⟩
  · have d1 : decide ((n : Int) ≤ i3) = false := decide_eq_false h1
    rw [d1, Bool.false_and] at HM
    clear h1
    go_wp2_with fail
    go_ret
    exact ⟨by rw [HM.out]; rfl, HB0.out⟩

end Go.Proofs.YtldmjnbmjfnfeaaGreatDoor

namespace Go.Proofs.YtldmjnbmjfnfeaaGreatDoor
open Go Go.RowKit

def badF (n : Nat) (x : Rel) : Bool := decide (x.sym < 0) || (decide ((n : Int) ≤ x.sym) || (decide (x.kind < 0) || decide (2147483647 < x.kind)))
def fitR (L : List Rel) (n : Nat) : Bool := !(L.any (badF n))

set_option maxRecDepth 10000 in
set_option maxHeartbeats 1600000 in
theorem fit1_any {w : World} (x : Rel) (n g : Nat) (hg : w.cell? ⟨g, 0, none⟩ = some (.int .i64 (n : Int))) :
    Calls Tryz.prog 78 #[.agg #[.int .u64 (x.off : Int), .int .i64 x.sym, .int .i64 x.kind, .int .i64 x.add], .pointer (some ⟨g, 0, none⟩)] w fun r w' => r = .returned (.bool (badF n x)) ∧ Below w.heap.size w w' := by
  have HM := Lib.hid (show badF n x = (decide (x.sym < 0) || (decide ((n : Int) ≤ x.sym) || (decide (x.kind < 0) || decide (2147483647 < x.kind)))) from rfl)
  generalize badF n x = fy at *
  generalize x.off = n1 at *
  generalize x.sym = i1 at *
  generalize x.kind = i2 at *
  generalize x.add = i3 at *
  have hlt : g < w.heap.size := by simpa using World.block_lt_of_cell? w _ hg
  have hg1 : (w.alloc (.cells #[.int .u64 (n1 : Int), .int .i64 i1, .int .i64 i2, .int .i64 i3] 53)).cell? ⟨g, 0, none⟩ = some (.int .i64 (n : Int)) := by
    rw [((Below.refl w.heap.size w).alloc (Nat.le_refl _) _).cell (p := ⟨g, 0, none⟩) hlt]
    exact hg
  have HB0 := Lib.hid ((Below.refl w.heap.size w).alloc (Nat.le_refl _) (.cells #[.int .u64 (n1 : Int), .int .i64 i1, .int .i64 i2, .int .i64 i3] 53))
  clear hlt hg
  go_enter Tryz.func78, Tryz.ntmps78
  generalize h1 : decide (i1 < 0) = b1 at *
  generalize h2 : decide ((n : Int) ≤ i1) = b2 at *
  generalize h3 : decide (i2 < 0) = b3 at *
  generalize h4 : decide (2147483647 < i2) = b4 at *
  cases b1
  · cases b2
    · cases b3
      · cases b4
        all_goals
          go_wp2_with fail
          go_ret
          exact ⟨by rw [HM.out]; rfl, HB0.out⟩
      · clear h4
        go_wp2_with fail
        go_ret
        exact ⟨by rw [HM.out]; rfl, HB0.out⟩
    · clear h3 h4
      go_wp2_with fail
      go_ret
      exact ⟨by rw [HM.out]; rfl, HB0.out⟩
  · clear h2 h3 h4
    go_wp2_with fail
    go_ret
    exact ⟨by rw [HM.out]; rfl, HB0.out⟩


set_option maxRecDepth 10000 in
set_option maxHeartbeats 1600000 in
theorem index_placed {w : World} {a : Option Addr} {L : List Sym} (h : Syms w w.heap.size a L) (c : Nat) (hl : L.length ≤ 100000) (n g : Nat) (hg : w.cell? ⟨g, 0, none⟩ = some (.int .i64 (n : Int))) :
    Calls Tryz.prog 114 #[.slice a L.length c, .func (.func 75) #[] #[.pointer (some ⟨g, 0, none⟩)]] w fun r w' => ∃ k : Int, r = .returned (.int .i64 k) ∧ (decide (0 ≤ k) = L.any (farY n)) ∧ Below w.heap.size w w' := by
  obtain ⟨N, hN⟩ : ∃ N, L.length = N := ⟨_, rfl⟩
  have HH := Lib.hid h
  have HN := Lib.hid hN
  have hlt : g < w.heap.size := by simpa using World.block_lt_of_cell? w _ hg
  have HG := Lib.hid (fun (W : World) (hW : Below w.heap.size w W) => (show W.cell? ⟨g, 0, none⟩ = some (.int .i64 (n : Int)) by rw [hW.cell (p := ⟨g, 0, none⟩) hlt]; exact hg))
  rw [hN] at hl ⊢
  clear h hN hg hlt
  go_enter Tryz.func114, Tryz.ntmps114
  go_wp2_with fail
  go_loopw [8] (fun i wr => ∃ k : Nat, k ≤ N ∧ i = .int .i64 k ∧ Below w.heap.size w wr ∧ Hid ((L.take k).any (farY n) = false)) (fun i _ => N - (intOf i).toNat)
  case atStart => exact ⟨0, Nat.zero_le _, rfl, Below.refl _ _, Lib.hid rfl⟩
  case round =>
    obtain ⟨k, hk, rfl, hB, HY⟩ := hrel
    have HB := Lib.hid hB
    by_cases hlt : k < N
    · obtain ⟨x, hx⟩ : ∃ x, L[k]? = some x := ⟨L[k]'(by rw [HN.out]; exact hlt), List.getElem?_eq_getElem _⟩
      obtain ⟨b, o, rfl, hb, c0, c1, c2, c3, c4, c5⟩ := sym_at (HH.out.below hB) hx
      have HW := Lib.hid (placed1_any (w := wr) x n g (HG.out wr hB))
      by_cases hst : farY n x = true
      · have HF := Lib.hid (all_false_not (farY n) L k x hx hst)
        rw [hst] at HW
        clear hx hst hB
        generalize ByteArray.mk x.name.toArray = sb at *
        go_wp2_with (go_at_call 75; refine HW.out.mono ?_; rintro r w1 ⟨rfl, hb1⟩)
        have HB1 := Lib.hid (HB.out.trans (hb1.mono HB.out.size))
        go_ret
        exact ⟨k, rfl, by rw [HF.out]; exact decide_eq_true (by omega), HB1.out⟩
      · have hst' : farY n x = false := by simpa using hst
        have HF := Lib.hid (any_take (farY n) L k x hx HY.out hst')
        rw [hst'] at HW
        clear hx hst hB hst'
        generalize ByteArray.mk x.name.toArray = sb at *
        go_wp2_with (go_at_call 75; refine HW.out.mono ?_; rintro r w1 ⟨rfl, hb1⟩)
        have HB1 := Lib.hid (HB.out.trans (hb1.mono HB.out.size))
        go_roundw
        case rel => exact ⟨k + 1, by omega, by go_num, HB1.out, HF⟩
        case measure => simp [intOf]; omega
    · have HF := Lib.hid (show L.any (farY n) = false by
        have := HY.out
        rwa [List.take_of_length_le (by rw [HN.out]; omega)] at this)
      clear hB
      go_wp2_with fail
      go_ret
      exact ⟨-1, rfl, by rw [HF.out]; rfl, HB.out⟩

set_option maxRecDepth 10000 in
theorem contains_placed {w : World} {a : Option Addr} {L : List Sym} (h : Syms w w.heap.size a L) (c : Nat) (hl : L.length ≤ 100000) (n g : Nat) (hg : w.cell? ⟨g, 0, none⟩ = some (.int .i64 (n : Int))) :
    Calls Tryz.prog 73 #[.slice a L.length c, .func (.func 75) #[] #[.pointer (some ⟨g, 0, none⟩)]] w fun r w' => r = .returned (.bool (L.any (farY n))) ∧ Below w.heap.size w w' := by
  have HI := Lib.hid (index_placed h c hl n g hg)
  clear h hl hg
  generalize L.any (farY n) = ok at *
  generalize L.length = N at *
  go_enter Tryz.func73, Tryz.ntmps73
  go_wp2_with (go_at_call 114; refine HI.out.mono ?_; rintro r w1 ⟨k, rfl, hk, hb1⟩)
  go_ret
  exact ⟨by rw [← hk]; rfl, hb1⟩

set_option maxRecDepth 10000 in
theorem placed_any {w : World} {a : Option Addr} {L : List Sym} (h : Syms w w.heap.size a L) (c : Nat) (hl : L.length ≤ 100000) (n : Nat) :
    Calls Tryz.prog 41 #[.slice a L.length c, .int .i64 (n : Int)] w fun r w' => r = .returned (.bool (placedY L n)) ∧ Below w.heap.size w w' := by
  have hmf := ob_func
  have hb0 : Below w.heap.size w (w.alloc (.cells #[.int .i64 (n : Int)] 3)) := (Below.refl _ _).alloc (Nat.le_refl _) _
  have HC := Lib.hid (contains_placed ((h.below hb0).more hb0.size) c hl n w.heap.size (by simp))
  have HB0 := Lib.hid hb0
  have HE := Lib.hid (show placedY L n = !(L.any (farY n)) from rfl)
  clear h hl hb0
  generalize L.any (farY n) = ok at *
  generalize placedY L n = pl at *
  generalize L.length = N at *
  go_enter Tryz.func41, Tryz.ntmps41
  go_wp2_with (go_at_call 73; refine HC.out.mono ?_; rintro r w1 ⟨rfl, hb1⟩)
  go_ret
  exact ⟨by rw [HE.out]; rfl, HB0.out.trans (hb1.mono (by simp))⟩


set_option maxRecDepth 10000 in
set_option maxHeartbeats 1600000 in
theorem index_fit {w : World} {a : Option Addr} {L : List Rel} (h : Rels w w.heap.size a L) (c : Nat) (hl : L.length ≤ 100000) (n g : Nat) (hg : w.cell? ⟨g, 0, none⟩ = some (.int .i64 (n : Int))) :
    Calls Tryz.prog 117 #[.slice a L.length c, .func (.func 78) #[] #[.pointer (some ⟨g, 0, none⟩)]] w fun r w' => ∃ k : Int, r = .returned (.int .i64 k) ∧ (decide (0 ≤ k) = L.any (badF n)) ∧ Below w.heap.size w w' := by
  obtain ⟨N, hN⟩ : ∃ N, L.length = N := ⟨_, rfl⟩
  have HH := Lib.hid h
  have HN := Lib.hid hN
  have hlt : g < w.heap.size := by simpa using World.block_lt_of_cell? w _ hg
  have HG := Lib.hid (fun (W : World) (hW : Below w.heap.size w W) => (show W.cell? ⟨g, 0, none⟩ = some (.int .i64 (n : Int)) by rw [hW.cell (p := ⟨g, 0, none⟩) hlt]; exact hg))
  rw [hN] at hl ⊢
  clear h hN hg hlt
  go_enter Tryz.func117, Tryz.ntmps117
  go_wp2_with fail
  go_loopw [8] (fun i wr => ∃ k : Nat, k ≤ N ∧ i = .int .i64 k ∧ Below w.heap.size w wr ∧ Hid ((L.take k).any (badF n) = false)) (fun i _ => N - (intOf i).toNat)
  case atStart => exact ⟨0, Nat.zero_le _, rfl, Below.refl _ _, Lib.hid rfl⟩
  case round =>
    obtain ⟨k, hk, rfl, hB, HY⟩ := hrel
    have HB := Lib.hid hB
    by_cases hlt : k < N
    · obtain ⟨x, hx⟩ : ∃ x, L[k]? = some x := ⟨L[k]'(by rw [HN.out]; exact hlt), List.getElem?_eq_getElem _⟩
      obtain ⟨b, o, rfl, hb, c0, c1, c2, c3⟩ := rel_at (HH.out.below hB) hx
      have HW := Lib.hid (fit1_any (w := wr) x n g (HG.out wr hB))
      by_cases hst : badF n x = true
      · have HF := Lib.hid (all_false_not (badF n) L k x hx hst)
        rw [hst] at HW
        clear hx hst hB
        skip
        go_wp2_with (go_at_call 78; refine HW.out.mono ?_; rintro r w1 ⟨rfl, hb1⟩)
        have HB1 := Lib.hid (HB.out.trans (hb1.mono HB.out.size))
        go_ret
        exact ⟨k, rfl, by rw [HF.out]; exact decide_eq_true (by omega), HB1.out⟩
      · have hst' : badF n x = false := by simpa using hst
        have HF := Lib.hid (any_take (badF n) L k x hx HY.out hst')
        rw [hst'] at HW
        clear hx hst hB hst'
        skip
        go_wp2_with (go_at_call 78; refine HW.out.mono ?_; rintro r w1 ⟨rfl, hb1⟩)
        have HB1 := Lib.hid (HB.out.trans (hb1.mono HB.out.size))
        go_roundw
        case rel => exact ⟨k + 1, by omega, by go_num, HB1.out, HF⟩
        case measure => simp [intOf]; omega
    · have HF := Lib.hid (show L.any (badF n) = false by
        have := HY.out
        rwa [List.take_of_length_le (by rw [HN.out]; omega)] at this)
      clear hB
      go_wp2_with fail
      go_ret
      exact ⟨-1, rfl, by rw [HF.out]; rfl, HB.out⟩

set_option maxRecDepth 10000 in
theorem contains_fit {w : World} {a : Option Addr} {L : List Rel} (h : Rels w w.heap.size a L) (c : Nat) (hl : L.length ≤ 100000) (n g : Nat) (hg : w.cell? ⟨g, 0, none⟩ = some (.int .i64 (n : Int))) :
    Calls Tryz.prog 77 #[.slice a L.length c, .func (.func 78) #[] #[.pointer (some ⟨g, 0, none⟩)]] w fun r w' => r = .returned (.bool (L.any (badF n))) ∧ Below w.heap.size w w' := by
  have HI := Lib.hid (index_fit h c hl n g hg)
  clear h hl hg
  generalize L.any (badF n) = ok at *
  generalize L.length = N at *
  go_enter Tryz.func77, Tryz.ntmps77
  go_wp2_with (go_at_call 117; refine HI.out.mono ?_; rintro r w1 ⟨k, rfl, hk, hb1⟩)
  go_ret
  exact ⟨by rw [← hk]; rfl, hb1⟩

set_option maxRecDepth 10000 in
theorem fit_any {w : World} {a : Option Addr} {L : List Rel} (h : Rels w w.heap.size a L) (c : Nat) (hl : L.length ≤ 100000) (n : Nat) :
    Calls Tryz.prog 44 #[.slice a L.length c, .int .i64 (n : Int)] w fun r w' => r = .returned (.bool (fitR L n)) ∧ Below w.heap.size w w' := by
  have hmf := ob_func
  have hb0 : Below w.heap.size w (w.alloc (.cells #[.int .i64 (n : Int)] 3)) := (Below.refl _ _).alloc (Nat.le_refl _) _
  have HC := Lib.hid (contains_fit ((h.below hb0).more hb0.size) c hl n w.heap.size (by simp))
  have HB0 := Lib.hid hb0
  have HE := Lib.hid (show fitR L n = !(L.any (badF n)) from rfl)
  clear h hl hb0
  generalize L.any (badF n) = ok at *
  generalize fitR L n = pl at *
  generalize L.length = N at *
  go_enter Tryz.func44, Tryz.ntmps44
  go_wp2_with (go_at_call 77; refine HC.out.mono ?_; rintro r w1 ⟨rfl, hb1⟩)
  go_ret
  exact ⟨by rw [HE.out]; rfl, HB0.out.trans (hb1.mono (by simp))⟩

end Go.Proofs.YtldmjnbmjfnfeaaGreatDoor
