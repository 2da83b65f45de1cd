/-
  Symbols and relocations: what they are, how they lie side by side in memory; a row whose cells are stored one by one.
-/
import Derived.Test.YtldmjnbmjfnfeaaGreatDoorSeA
import Derived.Test.YtldmjnbmjfnfeaaGreatDoorEhG
import Derived.Test.YtldmjnbmjfnfeaaGreatDoorEhF
import Derived.Test.YtldmjnbmjfnfeaaGreatDoorCsP
import Derived.Shelf.Bytes.SlCountOne
import Derived.Laws.Rows
import Derived.Test.YtldmjnbmjfnfeaaGreatDoorPoX
import Derived.Test.YtldmjnbmjfnfeaaGreatDoorEhC
namespace Go.Proofs.YtldmjnbmjfnfeaaGreatDoor
open Go Go.RowKit

/-! ### What a struct is told as -/
theorem ret_one {fn : Func} {p : Tmp} {T : TypeId} {fs : Array Field} (hT : Tryz.prog.underlying T = some (.struct fs)) (hres : fn.results = #[.cell p T]) {R : Ending → World → Prop} {a : Act} {W : World} {H : Nat} {cs : Array Value} (hB : Box W H T cs) (hcs : (Tryz.prog.info? T).map (·.size) = some cs.size)
    (hp : a.tmps.getD p undef = .pointer (some ⟨H, 0, none⟩)) (hd : a.defers = []) (h : R (.returned (.agg cs)) W) : bodyPost Tryz.prog fn R .ret a W := by
  refine bodyPost_ret (v := .agg cs) ?_ hd h
  have hl := run_loadVar_row (P := Tryz.prog) W H T T cs (0, 0) _ hB hT rfl hcs
  have hp' : a.tmps[p]?.getD undef = .pointer (some ⟨H, 0, none⟩) := by simpa using hp
  simp only [results, hres]
  simp [hp', asAddr, hl]
theorem ret_two {fn : Func} {p u : Tmp} {T : TypeId} {fs : Array Field} (hT : Tryz.prog.underlying T = some (.struct fs)) (hres : fn.results = #[.cell p T, .tmp u]) {R : Ending → World → Prop} {a : Act} {W : World} {H : Nat} {cs : Array Value} (hB : Box W H T cs) (hcs : (Tryz.prog.info? T).map (·.size) = some cs.size)
    (hp : a.tmps.getD p undef = .pointer (some ⟨H, 0, none⟩)) (hd : a.defers = []) (h : R (.returned (.tuple #[.agg cs, a.tmps.getD u undef])) W) : bodyPost Tryz.prog fn R .ret a W := by
  refine bodyPost_ret (v := .tuple #[.agg cs, a.tmps.getD u undef]) ?_ hd h
  have hl := run_loadVar_row (P := Tryz.prog) W H T T cs (0, 0) _ hB hT rfl hcs
  have hp' : a.tmps[p]?.getD undef = .pointer (some ⟨H, 0, none⟩) := by simpa using hp
  simp only [results, hres]
  simp [Result.andThen, hp', asAddr, hl]
theorem ret_three {fn : Func} {p u v : Tmp} {T : TypeId} {fs : Array Field} (hT : Tryz.prog.underlying T = some (.struct fs)) (hres : fn.results = #[.cell p T, .tmp u, .tmp v]) {R : Ending → World → Prop} {a : Act} {W : World} {H : Nat} {cs : Array Value} (hB : Box W H T cs) (hcs : (Tryz.prog.info? T).map (·.size) = some cs.size)
    (hp : a.tmps.getD p undef = .pointer (some ⟨H, 0, none⟩)) (hd : a.defers = []) (h : R (.returned (.tuple #[.agg cs, a.tmps.getD u undef, a.tmps.getD v undef])) W) : bodyPost Tryz.prog fn R .ret a W := by
  refine bodyPost_ret (v := .tuple #[.agg cs, a.tmps.getD u undef, a.tmps.getD v undef]) ?_ hd h
  have hl := run_loadVar_row (P := Tryz.prog) W H T T cs (0, 0) _ hB hT rfl hcs
  have hp' : a.tmps[p]?.getD undef = .pointer (some ⟨H, 0, none⟩) := by simpa using hp
  simp only [results, hres]
  simp [Result.andThen, hp', asAddr, hl]

/-! ### Numbers within their limit -/
def inM (n : Int) : Bool := decide (0 ≤ n ∧ n ≤ 2147483647)
def smallI (ns : List Int) : Bool := ns.all inM
def smallN (ns : List Nat) : Bool := ns.all fun n => decide (n ≤ 2147483647)

theorem all_take {α : Type} (p : α → Bool) (l : List α) (k : Nat) (x : α) (hx : l[k]? = some x) (h : (l.take k).all p = true) (hp : p x = true) : (l.take (k + 1)).all p = true := by
  rw [List.take_add_one, hx]
  simp only [List.all_append, h, Option.toList, List.all_cons, List.all_nil, hp, Bool.and_self]
theorem all_not {α : Type} (p : α → Bool) (l : List α) (k : Nat) (x : α) (hx : l[k]? = some x) (hp : p x = false) : l.all p = false := by
  rw [List.all_eq_false]
  exact ⟨x, List.mem_of_getElem? hx, by simp [hp]⟩

set_option maxRecDepth 10000 in
theorem small_int (ns : List Int) (w : World) (g c : Nat) (hc : ∀ (i : Nat) (n : Int), ns[i]? = some n → w.cell? ⟨g, i, none⟩ = some (.int .i64 n)) (hl : ns.length ≤ 100) :
    Calls Tryz.prog 128 #[.slice (some ⟨g, 0, none⟩) ns.length c] w fun r w' => r = .returned (.bool (smallI ns)) ∧ w = w' := by
  obtain ⟨N, hN⟩ : ∃ N, ns.length = N := ⟨_, rfl⟩
  have HN := Lib.hid hN
  have HC := Lib.hid hc
  rw [hN] at hl ⊢
  clear hN hc
  go_enter Tryz.func128, Tryz.ntmps128
  go_wp2_with fail
  go_loop [7] (fun i => ∃ k : Nat, k ≤ N ∧ i = .int .i64 k ∧ Hid ((ns.take k).all inM = true)) (fun i => N - (intOf i).toNat)
  case atStart => exact ⟨0, Nat.zero_le _, rfl, Lib.hid rfl⟩
  case round =>
    obtain ⟨k, hk, rfl, HA⟩ := hrel
    by_cases hlt : k < N
    · obtain ⟨n, hn⟩ : ∃ n, ns[k]? = some n := ⟨ns[k]'(by rw [HN.out]; exact hlt), List.getElem?_eq_getElem _⟩
      have c0 := HC.out k n hn
      by_cases h0 : n < 0
      · have HF := Lib.hid (all_not inM ns k n hn (by unfold inM; exact decide_eq_false (by omega)))
        clear hn
        go_wp2_with fail
        go_ret
        exact ⟨by rw [smallI, HF.out]; rfl, rfl⟩
      · by_cases hM : n ≤ 2147483647
        · have HT := Lib.hid (all_take inM ns k n hn HA.out (by unfold inM; exact decide_eq_true ⟨by omega, hM⟩))
          have hd : decide ((2147483647 : Int) < n) = false := decide_eq_false (by omega)
          clear hn hM
          go_wp2_with fail
          exact ⟨⟨k + 1, by omega, by go_num, HT⟩, by simp [intOf]; omega⟩
        · have HF := Lib.hid (all_not inM ns k n hn (by unfold inM; exact decide_eq_false (by omega)))
          have hd : decide ((2147483647 : Int) < n) = true := decide_eq_true (by omega)
          clear hn hM
          go_wp2_with fail
          go_ret
          exact ⟨by rw [smallI, HF.out]; rfl, rfl⟩
    · have HF := Lib.hid (show smallI ns = true by have := HA.out; rw [show k = N by omega, ← HN.out, List.take_length] at this; exact this)
      go_wp2_with fail
      go_ret
      exact ⟨by rw [HF.out]; rfl, rfl⟩

set_option maxRecDepth 10000 in
theorem small_nat (ns : List Nat) (w : World) (g c : Nat) (hc : ∀ (i : Nat) (n : Nat), ns[i]? = some n → w.cell? ⟨g, i, none⟩ = some (.int .u64 (n : Int))) (hl : ns.length ≤ 100) :
    Calls Tryz.prog 122 #[.slice (some ⟨g, 0, none⟩) ns.length c] w fun r w' => r = .returned (.bool (smallN ns)) ∧ w = w' := by
  obtain ⟨N, hN⟩ : ∃ N, ns.length = N := ⟨_, rfl⟩
  have HN := Lib.hid hN
  have HC := Lib.hid hc
  rw [hN] at hl ⊢
  clear hN hc
  go_enter Tryz.func122, Tryz.ntmps122
  go_wp2_with fail
  go_loop [7] (fun i => ∃ k : Nat, k ≤ N ∧ i = .int .i64 k ∧ Hid ((ns.take k).all (fun n => decide (n ≤ 2147483647)) = true)) (fun i => N - (intOf i).toNat)
  case atStart => exact ⟨0, Nat.zero_le _, rfl, Lib.hid rfl⟩
  case round =>
    obtain ⟨k, hk, rfl, HA⟩ := hrel
    by_cases hlt : k < N
    · obtain ⟨n, hn⟩ : ∃ n, ns[k]? = some n := ⟨ns[k]'(by rw [HN.out]; exact hlt), List.getElem?_eq_getElem _⟩
      have c0 := HC.out k n hn
      have h0 : decide ((n : Int) < 0) = false := decide_eq_false (by omega)
      by_cases hM : n ≤ 2147483647
      · have HT := Lib.hid (all_take (fun n => decide (n ≤ 2147483647)) ns k n hn HA.out (decide_eq_true hM))
        have hd : decide ((2147483647 : Int) < (n : Int)) = false := decide_eq_false (by omega)
        clear hn hM
        go_wp2_with fail
        exact ⟨⟨k + 1, by omega, by go_num, HT⟩, by simp [intOf]; omega⟩
      · have HF := Lib.hid (all_not (fun n => decide (n ≤ 2147483647)) ns k n hn (decide_eq_false hM))
        have hd : decide ((2147483647 : Int) < (n : Int)) = true := decide_eq_true (by omega)
        clear hn hM
        go_wp2_with fail
        go_ret
        exact ⟨by rw [smallN, HF.out]; rfl, rfl⟩
    · have HF := Lib.hid (show smallN ns = true by have := HA.out; rw [show k = N by omega, ← HN.out, List.take_length] at this; exact this)
      go_wp2_with fail
      go_ret
      exact ⟨by rw [HF.out]; rfl, rfl⟩

/-- The two of them over five numbers in a row of their own. -/
theorem small5i (a b c d e : Int) (w : World) (g : Nat) (hg : g = w.heap.size) : Calls Tryz.prog 128 #[.slice (some ⟨g, 0, none⟩) 5 5] (w.alloc (.cells #[.int .i64 a, .int .i64 b, .int .i64 c, .int .i64 d, .int .i64 e] 3)) fun r w' => r = .returned (.bool (smallI [a, b, c, d, e])) ∧ w.alloc (.cells #[.int .i64 a, .int .i64 b, .int .i64 c, .int .i64 d, .int .i64 e] 3) = w' :=
  small_int [a, b, c, d, e] _ _ 5 (fun i n hi => by
    subst hg
    rw [(Box.new w 3 #[.int .i64 a, .int .i64 b, .int .i64 c, .int .i64 d, .int .i64 e]).cell i]
    have : (#[Value.int .i64 a, .int .i64 b, .int .i64 c, .int .i64 d, .int .i64 e])[i]? = ([a, b, c, d, e][i]?).map (fun n => Value.int .i64 n) := by
      rw [← List.getElem?_map]; simp
    rw [this, hi]
    rfl) (by simp)
/-! ### How many bytes are 0 -/
theorem run_count_rd {w : World} {B : Nat} {A : Option Addr} {l : List UInt8} (h : Rd w B A l) (c : Nat) :
    (Extern.BytealgCount.count #[.slice A l.length c, .int .u8 0]).run Tryz.prog w = .ok (.int .i64 (l.count 0 : Nat)) w := by
  rcases l with _ | ⟨x, r⟩
  · rcases A with _ | a
    · exact Lib.run_countNil w 0 c 0
    · exact Lib.run_countAt w a 0 c [] rfl (fun i hi => absurd hi (by omega)) 0
  · obtain ⟨b, o, rfl, _, hc⟩ := h (by simp)
    have h1 := Lib.run_countSlice (P := Tryz.prog) w b o (x :: r).length c ((x :: r).map fun b => (b.toNat : Int)) (by simp) (fun i hi => by
      rw [hc i _ (List.getElem?_eq_getElem hi)]
      rw [List.getD_eq_getElem?_getD, List.getElem?_map, List.getElem?_eq_getElem hi]
      rfl) 0
    rw [bytesOf_back] at h1
    exact h1

set_option maxRecDepth 100000 in
theorem count_rd {w : World} {B : Nat} {A : Option Addr} {l : List UInt8} (h : Rd w B A l) (c : Nat) {s : Nat} (h0 : w.cell? ⟨s, 0, none⟩ = some (.int .u8 0)) :
    Calls Tryz.prog 129 #[.slice A l.length c, .slice (some ⟨s, 0, none⟩) 1 1] w fun r w' => r = .returned (.int .i64 (l.count 0 : Nat)) ∧ w = w' := by
  have hr := run_count_rd h c
  clear h
  generalize l.count 0 = z at *
  generalize l.length = n at *
  go_enter Tryz.func129, Tryz.ntmps129
  go_wp2
  rw [run_callFunc_extern Tryz.func140 (by kernel_rfl) (by kernel_rfl) (by kernel_rfl) (e := Extern.BytealgCount.count) (by kernel_rfl), hr]
  simp only [Result.andThen]
  rw [Oper.upon_value]
  go_wp2
  go_ret
  exact ⟨rfl, rfl⟩

/-! ### A section's entry -/
/-- A section's numbers, with a name's and a place of its bytes. -/
def entNs (s : Sect) (name at_ : Nat) : List Nat := [name, wrapN s.kind, s.flags, s.addr, at_, s.data.length, wrapN s.link, wrapN s.inf, wrapN s.algn, wrapN s.ent]
def entCs (ns : List Nat) : List Value := ns.map fun n => Value.int .u64 ((n : Nat) : Int)
def entV (ns : List Nat) : Value := .agg (entCs ns).toArray

set_option maxRecDepth 10000 in
theorem describe_any (x : Lay) (hf : x.s.data.length ≤ 100000) (name at_ : Nat) (w : World) :
    Calls Tryz.prog 104 #[x.val, .int .u64 (name : Int), .int .u64 (at_ : Int)] w fun r w' => r = .returned (entV (entNs x.s name at_)) ∧ Below w.heap.size w w' := by
  have hz := IntWalk.u64_in (x.s.data.length : Int) (by omega)
  have HR := Lib.hid (show entV (entNs x.s name at_) = .agg #[.int .u64 (name : Int), .int .u64 (wrapN x.s.kind : Int), .int .u64 (x.s.flags : Int), .int .u64 (x.s.addr : Int), .int .u64 (at_ : Int), .int .u64 (x.s.data.length : Int), .int .u64 (wrapN x.s.link : Int), .int .u64 (wrapN x.s.inf : Int), .int .u64 (wrapN x.s.algn : Int), .int .u64 (wrapN x.s.ent : Int)] from rfl)
  generalize entV (entNs x.s name at_) = rv at *
  have e1 := wrapN_eq x.s.kind
  have e2 := wrapN_eq x.s.link
  have e3 := wrapN_eq x.s.inf
  have e4 := wrapN_eq x.s.algn
  have e5 := wrapN_eq x.s.ent
  generalize wrapN x.s.kind = k1 at *
  generalize wrapN x.s.link = k2 at *
  generalize wrapN x.s.inf = k3 at *
  generalize wrapN x.s.algn = k4 at *
  generalize wrapN x.s.ent = k5 at *
  rw [show x.val = .agg #[.string ⟨x.s.name.toArray⟩, .int .i64 x.s.kind, .int .u64 (x.s.flags : Int), .int .u64 (x.s.addr : Int), .slice x.A x.s.data.length x.c, .int .i64 x.s.link, .int .i64 x.s.inf, .int .i64 x.s.algn, .int .i64 x.s.ent] from rfl]
  generalize ByteArray.mk x.s.name.toArray = sb at *
  generalize x.A = dA at *
  generalize x.s.data.length = dn at *
  generalize x.c = dc at *
  generalize x.s.kind = i1 at *
  generalize x.s.link = i2 at *
  generalize x.s.inf = i3 at *
  generalize x.s.algn = i4 at *
  generalize x.s.ent = i5 at *
  generalize x.s.flags = n1 at *
  generalize x.s.addr = n2 at *
  have hB := Box.new (w.alloc (.cells #[.string sb, .int .i64 i1, .int .u64 (n1 : Int), .int .u64 (n2 : Int), .slice dA dn dc, .int .i64 i2, .int .i64 i3, .int .i64 i4, .int .i64 i5] 39)) 120 #[.int .u64 (name : Int), .int .u64 (k1 : Int), .int .u64 (n1 : Int), .int .u64 (n2 : Int), .int .u64 (at_ : Int), .int .u64 (dn : Int), .int .u64 (k2 : Int), .int .u64 (k3 : Int), .int .u64 (k4 : Int), .int .u64 (k5 : Int)]
  have HB := Lib.hid hB
  clear hB
  go_enter Tryz.func104, Tryz.ntmps104
  go_wp2_with fail
  refine ret_one Tryz.underlying120 Tryz.results104 HB.out (by kernel_rfl) (by simp) rfl ?_
  rw [HR.out]
  exact ⟨rfl, ((Below.refl w.heap.size w).alloc (Nat.le_refl _) _).alloc (by simp) _⟩

end Go.Proofs.YtldmjnbmjfnfeaaGreatDoor

namespace Go.Proofs.YtldmjnbmjfnfeaaGreatDoor
open Go Go.RowKit

/-! ### Items that lie side by side -/
section
variable {α : Type} {n : Nat} {f : α → List Value} {w w' : World} {B B' : Nat} {a : Option Addr} {L : List α}
/-- Items that lie side by side, each of n cells. -/
def Row (n : Nat) (f : α → List Value) (w : World) (B : Nat) (a : Option Addr) (L : List α) : Prop :=
  0 < L.length → ∃ b o, a = some ⟨b, o, none⟩ ∧ b < B ∧ ∀ (i : Nat) (x : α), L[i]? = some x → ∀ (j : Nat) (v : Value), (f x)[j]? = some v → w.cell? ⟨b, o + i * n + j, none⟩ = some v
theorem Row.below (h : Row n f w B a L) (hb : Below B w w') : Row n f w' B a L := fun hl => by
  obtain ⟨b, o, e, hlt, hc⟩ := h hl
  exact ⟨b, o, e, hlt, fun i x hx j v hv => by rw [hb.cell (p := ⟨b, o + i * n + j, none⟩) hlt]; exact hc i x hx j v hv⟩
theorem Row.more (h : Row n f w B a L) (hB : B ≤ B') : Row n f w B' a L := fun hl => by
  obtain ⟨b, o, e, hlt, hc⟩ := h hl
  exact ⟨b, o, e, by omega, hc⟩
theorem Row.drewN (h : Row n f w B a L) (k : Nat) : Row n f (w.drewN k) B a L := h.below (below_drewN (Below.refl _ _) k)
theorem Row.alloc (h : Row n f w B a L) (hB : B ≤ w.heap.size) (o : Obj) : Row n f (w.alloc o) B a L := h.below ((Below.refl _ _).alloc hB o)
theorem Row.up (h : Row n f w w.heap.size a L) (hb : Below w.heap.size w w') : Row n f w' w'.heap.size a L := (h.below hb).more hb.size

/-- The cells of a row of items. -/
def cellsF (f : α → List Value) (L : List α) : List Value := L.flatMap f
theorem cellsF_length (hn : ∀ x, (f x).length = n) (L : List α) : (cellsF f L).length = L.length * n := by
  induction L with
  | nil => simp [cellsF]
  | cons x L ih =>
    have : (cellsF f (x :: L)).length = n + (cellsF f L).length := by simp [cellsF, hn]
    rw [this, ih, List.length_cons, Nat.add_mul]
    omega
theorem cellsF_append (L M : List α) : cellsF f (L ++ M) = cellsF f L ++ cellsF f M := by simp [cellsF]
theorem cellsF_one (x : α) : cellsF f [x] = f x := by simp [cellsF]
theorem cellsF_at (hn : ∀ x, (f x).length = n) : ∀ (L : List α) (i : Nat) (x : α) (j : Nat) (v : Value), L[i]? = some x → (f x)[j]? = some v → (cellsF f L)[i * n + j]? = some v
  | [], _, _, _, _, h, _ => by simp at h
  | y :: L, 0, x, j, v, h, hv => by
    simp at h
    subst h
    have hj : j < (f y).length := (List.getElem?_eq_some_iff.1 hv).1
    rw [show cellsF f (y :: L) = f y ++ cellsF f L by simp [cellsF], Nat.zero_mul, Nat.zero_add, List.getElem?_append_left hj]
    exact hv
  | y :: L, i + 1, x, j, v, h, hv => by
    have ih := cellsF_at hn L i x j v (by simpa using h) hv
    have e : (i + 1) * n + j = n + (i * n + j) := by rw [Nat.add_mul]; omega
    rw [show cellsF f (y :: L) = f y ++ cellsF f L by simp [cellsF], e, List.getElem?_append_right (by rw [hn]; omega), hn, Nat.add_sub_cancel_left]
    exact ih
/-- A row of the call's own, as items that lie. -/
theorem own_row {T : TypeId} (hn : ∀ x, (f x).length = n) {base : Nat} {v : Value} (h : w.ownsRow base T n v L.length (cellsF f L)) : ∃ A c, v = .slice A L.length c ∧ L.length ≤ c ∧ c ≤ maxLen ∧ Row n f w w.heap.size A L := by
  rcases h.2 with ⟨rfl, h0⟩ | ⟨g, cap, cur, rfl, hb, hg, hnc, hcm, hcs, htake⟩
  · rw [h0]
    exact ⟨none, 0, rfl, Nat.le_refl _, Nat.zero_le _, fun hl => by omega⟩
  · have hlt : g < w.heap.size := by
      rcases Nat.lt_or_ge g w.heap.size with h1 | h1
      · exact h1
      · rw [Array.getElem?_eq_none h1] at hg; cases hg
    refine ⟨some ⟨g, 0, none⟩, cap, rfl, hnc, hcm, fun _ => ⟨g, 0, rfl, hlt, fun i x hx j u hu => ?_⟩⟩
    have hc := cellsF_at hn L i x j u hx hu
    have hil := (List.getElem?_eq_some_iff.1 hx).1
    have hjl : j < n := by have := (List.getElem?_eq_some_iff.1 hu).1; rw [hn] at this; exact this
    have hk : i * n + j < L.length * n := by
      have : (i + 1) * n ≤ L.length * n := Nat.mul_le_mul_right n hil
      rw [Nat.add_mul] at this
      omega
    have h1 := World.ownsRow.cellAt (g := g) (cap := cap) h (i * n + j) hk
    rw [Nat.zero_add, h1, hc]
/-- A literal row. -/
theorem lit_row (hn : ∀ x, (f x).length = n) (w : World) (T : TypeId) (L : List α) : Row n f (w.alloc (.cells (cellsF f L).toArray T)) (w.heap.size + 1) (some ⟨w.heap.size, 0, none⟩) L :=
  fun _ => ⟨w.heap.size, 0, rfl, by omega, fun i x hx j v hv => by
    rw [(Box.new w T (cellsF f L).toArray).cell, Nat.zero_add]
    simpa using cellsF_at hn L i x j v hx hv⟩
end

/-! ### A row whose cells are stored one by one -/
def setAll (w : World) (g : Nat) : Nat → List Value → World
  | _, [] => w
  | o, v :: vs => setAll (w.setCell ⟨g, o, none⟩ v) g (o + 1) vs
theorem row_stores {T : TypeId} {size n g cap base : Nat} : ∀ (vs : List Value) (w : World) (C R : List Value), w.ownsRow base T size (.slice (some ⟨g, 0, none⟩) n cap) n (C ++ R) → vs.length ≤ R.length →
    (setAll w g C.length vs).ownsRow base T size (.slice (some ⟨g, 0, none⟩) n cap) n (C ++ vs ++ R.drop vs.length) ∧ w.grownBy (setAll w g C.length vs) (some g)
  | [], w, C, R, h, _ => by
    simp only [setAll, List.append_nil, List.length_nil, List.drop_zero]
    exact ⟨h, only_refl _ _⟩
  | v :: vs, w, C, R, h, hl => by
    obtain ⟨r, R, rfl⟩ : ∃ r R', R = r :: R' := by
      cases R with
      | nil => simp at hl
      | cons r R' => exact ⟨r, R', rfl⟩
    obtain ⟨s1, s2⟩ := World.ownsRow.stored h C.length v
    have e : (C ++ r :: R).set C.length v = (C ++ [v]) ++ R := by
      rw [List.set_append_right _ _ (Nat.le_refl _), Nat.sub_self]
      simp
    rw [e] at s1
    have ih := row_stores vs (w.setCell ⟨g, C.length, none⟩ v) (C ++ [v]) R s1 (by simpa using hl)
    rw [show (C ++ [v]).length = C.length + 1 by simp] at ih
    refine ⟨?_, only_trans s2 ih.2 (.inl rfl)⟩
    have e2 : C ++ v :: vs ++ (r :: R).drop (v :: vs).length = C ++ [v] ++ vs ++ R.drop vs.length := by simp
    rw [e2]
    exact ih.1
theorem row_free {T : TypeId} {size n g cap base : Nat} {w : World} {X : List Value} (h : w.ownsRow base T size (.slice (some ⟨g, 0, none⟩) n cap) n X) (j : Nat) (hj : j < n * size) : (∃ v, w.cell? ⟨g, j, none⟩ = some v) ∧ w.frozen? ⟨g, j, none⟩ = false := by
  have h1 := World.ownsRow.cellAt (g := g) (cap := cap) h j hj
  rw [List.getElem?_eq_getElem (by rw [h.1]; exact hj)] at h1
  exact ⟨⟨_, h1⟩, World.ownsRow.frozenAt (g := g) (cap := cap) h j⟩

/-! ### A struct of six cells, one of four -/
section
variable {W : World} {H : Nat} {T : TypeId}
theorem six_cells {c0 c1 c2 c3 c4 c5 : Value} (h : Box W H T #[c0, c1, c2, c3, c4, c5]) : W.cell? ⟨H, 0, none⟩ = some c0 ∧ W.cell? ⟨H, 1, none⟩ = some c1 ∧ W.cell? ⟨H, 2, none⟩ = some c2 ∧ W.cell? ⟨H, 3, none⟩ = some c3 ∧ W.cell? ⟨H, 4, none⟩ = some c4 ∧ W.cell? ⟨H, 5, none⟩ = some c5 := by
  refine ⟨?_, ?_, ?_, ?_, ?_, ?_⟩ <;> (rw [h.cell]; rfl)
theorem six_free {cs : Array Value} (h : Box W H T cs) : W.frozen? ⟨H, 0, none⟩ = false ∧ W.frozen? ⟨H, 1, none⟩ = false ∧ W.frozen? ⟨H, 2, none⟩ = false ∧ W.frozen? ⟨H, 3, none⟩ = false ∧ W.frozen? ⟨H, 4, none⟩ = false ∧ W.frozen? ⟨H, 5, none⟩ = false :=
  ⟨h.free 0, h.free 1, h.free 2, h.free 3, h.free 4, h.free 5⟩
theorem six_box {cs : Array Value} (h : Box W H T cs) (hs : cs.size = 6) (v0 v1 v2 v3 v4 v5 : Value) :
    Box ((((((W.setCell ⟨H, 0, none⟩ v0).setCell ⟨H, 1, none⟩ v1).setCell ⟨H, 2, none⟩ v2).setCell ⟨H, 3, none⟩ v3).setCell ⟨H, 4, none⟩ v4).setCell ⟨H, 5, none⟩ v5) H T #[v0, v1, v2, v3, v4, v5] := by
  obtain ⟨l⟩ := cs
  match l, hs with
  | [c0, c1, c2, c3, c4, c5], _ => simpa using (((((h.set 0 v0).set 1 v1).set 2 v2).set 3 v3).set 4 v4).set 5 v5
theorem six_only (W : World) (H : Nat) (v0 v1 v2 v3 v4 v5 : Value) :
    W.grownBy ((((((W.setCell ⟨H, 0, none⟩ v0).setCell ⟨H, 1, none⟩ v1).setCell ⟨H, 2, none⟩ v2).setCell ⟨H, 3, none⟩ v3).setCell ⟨H, 4, none⟩ v4).setCell ⟨H, 5, none⟩ v5) (some H) :=
  only_set (only_set (only_set (only_set (only_set (only_set (only_refl W (some H)) 0 v0) 1 v1) 2 v2) 3 v3) 4 v4) 5 v5
theorem four_cells {c0 c1 c2 c3 : Value} (h : Box W H T #[c0, c1, c2, c3]) : W.cell? ⟨H, 0, none⟩ = some c0 ∧ W.cell? ⟨H, 1, none⟩ = some c1 ∧ W.cell? ⟨H, 2, none⟩ = some c2 ∧ W.cell? ⟨H, 3, none⟩ = some c3 := by
  refine ⟨?_, ?_, ?_, ?_⟩ <;> (rw [h.cell]; rfl)
theorem four_free {cs : Array Value} (h : Box W H T cs) : W.frozen? ⟨H, 0, none⟩ = false ∧ W.frozen? ⟨H, 1, none⟩ = false ∧ W.frozen? ⟨H, 2, none⟩ = false ∧ W.frozen? ⟨H, 3, none⟩ = false :=
  ⟨h.free 0, h.free 1, h.free 2, h.free 3⟩
theorem four_box {cs : Array Value} (h : Box W H T cs) (hs : cs.size = 4) (v0 v1 v2 v3 : Value) :
    Box ((((W.setCell ⟨H, 0, none⟩ v0).setCell ⟨H, 1, none⟩ v1).setCell ⟨H, 2, none⟩ v2).setCell ⟨H, 3, none⟩ v3) H T #[v0, v1, v2, v3] := by
  obtain ⟨l⟩ := cs
  match l, hs with
  | [c0, c1, c2, c3], _ => simpa using (((h.set 0 v0).set 1 v1).set 2 v2).set 3 v3
theorem four_only (W : World) (H : Nat) (v0 v1 v2 v3 : Value) :
    W.grownBy ((((W.setCell ⟨H, 0, none⟩ v0).setCell ⟨H, 1, none⟩ v1).setCell ⟨H, 2, none⟩ v2).setCell ⟨H, 3, none⟩ v3) (some H) :=
  only_set (only_set (only_set (only_set (only_refl W (some H)) 0 v0) 1 v1) 2 v2) 3 v3
end

/-! ### Symbols, relocations -/
/-- A symbol. -/
structure Sym where
  name : List UInt8
  bind : Int
  kind : Int
  sect : Int
  value : Nat
  size : Nat
/-- A relocation. -/
structure Rel where
  off : Nat
  sym : Int
  kind : Int
  add : Int
def Sym.cells (x : Sym) : List Value := [.string ⟨x.name.toArray⟩, .int .i64 x.bind, .int .i64 x.kind, .int .i64 x.sect, .int .u64 (x.value : Int), .int .u64 (x.size : Int)]
def Rel.cells (x : Rel) : List Value := [.int .u64 (x.off : Int), .int .i64 x.sym, .int .i64 x.kind, .int .i64 x.add]
theorem sym_six (x : Sym) : x.cells.length = 6 := rfl
theorem rel_four (x : Rel) : x.cells.length = 4 := rfl
abbrev Syms (w : World) (B : Nat) (a : Option Addr) (L : List Sym) : Prop := Row 6 Sym.cells w B a L
abbrev Rels (w : World) (B : Nat) (a : Option Addr) (L : List Rel) : Prop := Row 4 Rel.cells w B a L
abbrev OwnY (w : World) (base : Nat) (v : Value) (L : List Sym) : Prop := w.ownsRow base 51 6 v L.length (cellsF Sym.cells L)
abbrev OwnR (w : World) (base : Nat) (v : Value) (L : List Rel) : Prop := w.ownsRow base 53 4 v L.length (cellsF Rel.cells L)
theorem sym_info : (Tryz.prog.info? 51).map (fun i => (i.zero, i.size, i.bytes)) = some (some (.agg #[.string ⟨#[]⟩, .int .i64 0, .int .i64 0, .int .i64 0, .int .u64 0, .int .u64 0]), 6, 56) := by kernel_rfl
theorem rel_info : (Tryz.prog.info? 53).map (fun i => (i.zero, i.size, i.bytes)) = some (some (.agg #[.int .u64 0, .int .i64 0, .int .i64 0, .int .i64 0]), 4, 32) := by kernel_rfl

section
variable {w : World} {B : Nat} {a : Option Addr}
/-- The cells of one of them. -/
theorem sym_at {L : List Sym} (h : Syms w B a L) {i : Nat} {x : Sym} (hx : L[i]? = some x) : ∃ b o, a = some ⟨b, o, none⟩ ∧ b < B ∧
    w.cell? ⟨b, o + i * 6, none⟩ = some (.string ⟨x.name.toArray⟩) ∧ w.cell? ⟨b, o + i * 6 + 1, none⟩ = some (.int .i64 x.bind) ∧ w.cell? ⟨b, o + i * 6 + 2, none⟩ = some (.int .i64 x.kind) ∧
    w.cell? ⟨b, o + i * 6 + 3, none⟩ = some (.int .i64 x.sect) ∧ w.cell? ⟨b, o + i * 6 + 4, none⟩ = some (.int .u64 (x.value : Int)) ∧ w.cell? ⟨b, o + i * 6 + 5, none⟩ = some (.int .u64 (x.size : Int)) := by
  have hl : 0 < L.length := by have := (List.getElem?_eq_some_iff.1 hx).1; omega
  obtain ⟨b, o, e, hlt, hc⟩ := h hl
  have h' := hc i x hx
  exact ⟨b, o, e, hlt, h' 0 _ rfl, h' 1 _ rfl, h' 2 _ rfl, h' 3 _ rfl, h' 4 _ rfl, h' 5 _ rfl⟩
theorem rel_at {L : List Rel} (h : Rels w B a L) {i : Nat} {x : Rel} (hx : L[i]? = some x) : ∃ b o, a = some ⟨b, o, none⟩ ∧ b < B ∧
    w.cell? ⟨b, o + i * 4, none⟩ = some (.int .u64 (x.off : Int)) ∧ w.cell? ⟨b, o + i * 4 + 1, none⟩ = some (.int .i64 x.sym) ∧ w.cell? ⟨b, o + i * 4 + 2, none⟩ = some (.int .i64 x.kind) ∧ w.cell? ⟨b, o + i * 4 + 3, none⟩ = some (.int .i64 x.add) := by
  have hl : 0 < L.length := by have := (List.getElem?_eq_some_iff.1 hx).1; omega
  obtain ⟨b, o, e, hlt, hc⟩ := h hl
  have h' := hc i x hx
  exact ⟨b, o, e, hlt, h' 0 _ rfl, h' 1 _ rfl, h' 2 _ rfl, h' 3 _ rfl⟩
end

/-- The numbers of an entry's bytes. -/
theorem num_lt (l : List UInt8) (f n : Nat) : numT l f n < 256 ^ n := by
  have h := leNat_lt (cutT l f n)
  have h2 : (cutT l f n).length ≤ n := by simp [cutT]; omega
  exact Nat.lt_of_lt_of_le h (Nat.pow_le_pow_right (by decide) h2)
theorem num1 (l : List UInt8) (f : Nat) : numT l f 1 < 256 := num_lt l f 1
theorem num2 (l : List UInt8) (f : Nat) : numT l f 2 < 65536 := num_lt l f 2
theorem num4 (l : List UInt8) (f : Nat) : numT l f 4 < 4294967296 := num_lt l f 4
/-! ### What is read -/
/-- Where an entry's name stands; its symbol. -/
def nameAt (t : List UInt8) (k : Nat) : Nat := numT t (24 * k) 4
def symK (t ns : List UInt8) (k : Nat) : Sym :=
  ⟨(atT ns (nameAt t k)).1, (numT t (24 * k + 4) 1 / 16 : Nat), (numT t (24 * k + 4) 1 % 16 : Nat), (numT t (24 * k + 6) 2 : Nat), numT t (24 * k + 8) 8, numT t (24 * k + 16) 8⟩
def okK (t ns : List UInt8) (k : Nat) : Bool := decide ((atT ns (nameAt t k)).2 = 0) && decide (numT t (24 * k + 6) 2 ≤ 65534)
/-- The first k entries may be read. -/
def okTo (ok : Nat → Bool) (k : Nat) : Bool := (List.range k).all ok
theorem okTo_next (ok : Nat → Bool) (k : Nat) : okTo ok (k + 1) = (okTo ok k && ok k) := by simp [okTo, List.range_succ]
theorem okTo_more {ok : Nat → Bool} {k n : Nat} (hk : k < n) (h : ok k = false) : okTo ok n = false := by
  rw [← Bool.not_eq_true, okTo, List.all_eq_true]
  intro hh
  have := hh k (by simpa using hk)
  rw [h] at this
  cases this
def listTo {α : Type} (g : Nat → α) (k : Nat) : List α := (List.range k).map g
theorem listTo_next {α : Type} (g : Nat → α) (k : Nat) : listTo g (k + 1) = listTo g k ++ [g k] := by simp [listTo, List.range_succ]
theorem listTo_length {α : Type} (g : Nat → α) (k : Nat) : (listTo g k).length = k := by simp [listTo]
/-- What a table of entries is refused with. -/
def takeEY (len : Nat) (ok : Nat → Bool) (bad : Int) : Int := if len % 24 ≠ 0 then bad else if 400 < len / 24 then 3 else if okTo ok (len / 24) = true then 0 else bad
def takeLY {α : Type} (len : Nat) (ok : Nat → Bool) (g : Nat → α) : List α := if len % 24 ≠ 0 then [] else if 400 < len / 24 then [] else if okTo ok (len / 24) = true then listTo g (len / 24) else []
def relK (t : List UInt8) (k : Nat) : Rel := ⟨numT t (24 * k) 8, (numT t (24 * k + 12) 4 : Nat), (numT t (24 * k + 8) 4 : Nat), IntKind.i64.wrap (numT t (24 * k + 16) 8 : Int)⟩
def okR (t : List UInt8) (k : Nat) : Bool := decide (numT t (24 * k + 8) 4 ≤ 2147483647) && decide (numT t (24 * k + 12) 4 ≤ 2147483647)

end Go.Proofs.YtldmjnbmjfnfeaaGreatDoor
