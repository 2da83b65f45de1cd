/-
  Package sects: which section may not be (wrong), whether any of them may not be, and whether sections may be (Right).
-/

import Derived.Test.YtpdjpafchfbabaaDoorSeA
import Derived.Test.YtpdjpafchfbabaaDoorEhG
import Derived.Test.YtpdjpafchfbabaaDoorEhF
import Derived.Test.YtpdjpafchfbabaaDoorCsQ
import Derived.Shelf.Bytes.SlCountOne
import Derived.Laws.Rows
namespace Go.Proofs.YtpdjpafchfbabaaDoor
open Go Go.RowKit

/-! ### What a struct is told as -/
theorem ret_one {fn : Func} {p : Tmp} {T : TypeId} {fs : Array Field} (hT : Tryd.prog.underlying T = some (.struct fs)) (hres : fn.results = #[.cell p T]) {R : Ending → World → Prop} {a : Act} {W : World} {H : Nat} {cs : Array Value} (hB : Box W H T cs) (hcs : (Tryd.prog.info? T).map (·.size) = some cs.size)
    (hp : a.tmps.getD p undef = .pointer (some ⟨H, 0, none⟩)) (hd : a.defers = []) (h : R (.returned (.agg cs)) W) : bodyPost Tryd.prog fn R .ret a W := by
  refine bodyPost_ret (v := .agg cs) ?_ hd h
  have hl := run_loadVar_row (P := Tryd.prog) W H T T cs (0, 0) _ hB hT rfl hcs
  have hp' : a.tmps[p]?.getD undef = .pointer (some ⟨H, 0, none⟩) := by simpa using hp
  simp only [results, hres]
  simp [hp', asAddr, hl]
theorem ret_two {fn : Func} {p u : Tmp} {T : TypeId} {fs : Array Field} (hT : Tryd.prog.underlying T = some (.struct fs)) (hres : fn.results = #[.cell p T, .tmp u]) {R : Ending → World → Prop} {a : Act} {W : World} {H : Nat} {cs : Array Value} (hB : Box W H T cs) (hcs : (Tryd.prog.info? T).map (·.size) = some cs.size)
    (hp : a.tmps.getD p undef = .pointer (some ⟨H, 0, none⟩)) (hd : a.defers = []) (h : R (.returned (.tuple #[.agg cs, a.tmps.getD u undef])) W) : bodyPost Tryd.prog fn R .ret a W := by
  refine bodyPost_ret (v := .tuple #[.agg cs, a.tmps.getD u undef]) ?_ hd h
  have hl := run_loadVar_row (P := Tryd.prog) W H T T cs (0, 0) _ hB hT rfl hcs
  have hp' : a.tmps[p]?.getD undef = .pointer (some ⟨H, 0, none⟩) := by simpa using hp
  simp only [results, hres]
  simp [Result.andThen, hp', asAddr, hl]
theorem ret_three {fn : Func} {p u v : Tmp} {T : TypeId} {fs : Array Field} (hT : Tryd.prog.underlying T = some (.struct fs)) (hres : fn.results = #[.cell p T, .tmp u, .tmp v]) {R : Ending → World → Prop} {a : Act} {W : World} {H : Nat} {cs : Array Value} (hB : Box W H T cs) (hcs : (Tryd.prog.info? T).map (·.size) = some cs.size)
    (hp : a.tmps.getD p undef = .pointer (some ⟨H, 0, none⟩)) (hd : a.defers = []) (h : R (.returned (.tuple #[.agg cs, a.tmps.getD u undef, a.tmps.getD v undef])) W) : bodyPost Tryd.prog fn R .ret a W := by
  refine bodyPost_ret (v := .tuple #[.agg cs, a.tmps.getD u undef, a.tmps.getD v undef]) ?_ hd h
  have hl := run_loadVar_row (P := Tryd.prog) W H T T cs (0, 0) _ hB hT rfl hcs
  have hp' : a.tmps[p]?.getD undef = .pointer (some ⟨H, 0, none⟩) := by simpa using hp
  simp only [results, hres]
  simp [Result.andThen, hp', asAddr, hl]

/-! ### Numbers within their limit -/
def inM (n : Int) : Bool := decide (0 ≤ n ∧ n ≤ 2147483647)
def smallI (ns : List Int) : Bool := ns.all inM
def smallN (ns : List Nat) : Bool := ns.all fun n => decide (n ≤ 2147483647)

theorem all_take {α : Type} (p : α → Bool) (l : List α) (k : Nat) (x : α) (hx : l[k]? = some x) (h : (l.take k).all p = true) (hp : p x = true) : (l.take (k + 1)).all p = true := by
  rw [List.take_add_one, hx]
  simp only [List.all_append, h, Option.toList, List.all_cons, List.all_nil, hp, Bool.and_self]
theorem all_not {α : Type} (p : α → Bool) (l : List α) (k : Nat) (x : α) (hx : l[k]? = some x) (hp : p x = false) : l.all p = false := by
  rw [List.all_eq_false]
  exact ⟨x, List.mem_of_getElem? hx, by simp [hp]⟩

set_option maxRecDepth 10000 in
theorem small_int (ns : List Int) (w : World) (g c : Nat) (hc : ∀ (i : Nat) (n : Int), ns[i]? = some n → w.cell? ⟨g, i, none⟩ = some (.int .i64 n)) (hl : ns.length ≤ 100) :
    Calls Tryd.prog 63 #[.slice (some ⟨g, 0, none⟩) ns.length c] w fun r w' => r = .returned (.bool (smallI ns)) ∧ w = w' := by
  obtain ⟨N, hN⟩ : ∃ N, ns.length = N := ⟨_, rfl⟩
  have HN := Lib.hid hN
  have HC := Lib.hid hc
  rw [hN] at hl ⊢
  clear hN hc
  go_enter Tryd.func63, Tryd.ntmps63
  go_wp2_with fail
  go_loop [7] (fun i => ∃ k : Nat, k ≤ N ∧ i = .int .i64 k ∧ Hid ((ns.take k).all inM = true)) (fun i => N - (intOf i).toNat)
  case atStart => exact ⟨0, Nat.zero_le _, rfl, Lib.hid rfl⟩
  case round =>
    obtain ⟨k, hk, rfl, HA⟩ := hrel
    by_cases hlt : k < N
    · obtain ⟨n, hn⟩ : ∃ n, ns[k]? = some n := ⟨ns[k]'(by rw [HN.out]; exact hlt), List.getElem?_eq_getElem _⟩
      have c0 := HC.out k n hn
      by_cases h0 : n < 0
      · have HF := Lib.hid (all_not inM ns k n hn (by unfold inM; exact decide_eq_false (by omega)))
        clear hn
        go_wp2_with fail
        go_ret
        exact ⟨by rw [smallI, HF.out]; rfl, rfl⟩
      · by_cases hM : n ≤ 2147483647
        · have HT := Lib.hid (all_take inM ns k n hn HA.out (by unfold inM; exact decide_eq_true ⟨by omega, hM⟩))
          have hd : decide ((2147483647 : Int) < n) = false := decide_eq_false (by omega)
          clear hn hM
          go_wp2_with fail
          exact ⟨⟨k + 1, by omega, by go_num, HT⟩, by simp [intOf]; omega⟩
        · have HF := Lib.hid (all_not inM ns k n hn (by unfold inM; exact decide_eq_false (by omega)))
          have hd : decide ((2147483647 : Int) < n) = true := decide_eq_true (by omega)
          clear hn hM
          go_wp2_with fail
          go_ret
          exact ⟨by rw [smallI, HF.out]; rfl, rfl⟩
    · have HF := Lib.hid (show smallI ns = true by have := HA.out; rw [show k = N by omega, ← HN.out, List.take_length] at this; exact this)
      go_wp2_with fail
      go_ret
      exact ⟨by rw [HF.out]; rfl, rfl⟩

set_option maxRecDepth 10000 in
theorem small_nat (ns : List Nat) (w : World) (g c : Nat) (hc : ∀ (i : Nat) (n : Nat), ns[i]? = some n → w.cell? ⟨g, i, none⟩ = some (.int .u64 (n : Int))) (hl : ns.length ≤ 100) :
    Calls Tryd.prog 70 #[.slice (some ⟨g, 0, none⟩) ns.length c] w fun r w' => r = .returned (.bool (smallN ns)) ∧ w = w' := by
  obtain ⟨N, hN⟩ : ∃ N, ns.length = N := ⟨_, rfl⟩
  have HN := Lib.hid hN
  have HC := Lib.hid hc
  rw [hN] at hl ⊢
  clear hN hc
  go_enter Tryd.func70, Tryd.ntmps70
  go_wp2_with fail
  go_loop [7] (fun i => ∃ k : Nat, k ≤ N ∧ i = .int .i64 k ∧ Hid ((ns.take k).all (fun n => decide (n ≤ 2147483647)) = true)) (fun i => N - (intOf i).toNat)
  case atStart => exact ⟨0, Nat.zero_le _, rfl, Lib.hid rfl⟩
  case round =>
    obtain ⟨k, hk, rfl, HA⟩ := hrel
    by_cases hlt : k < N
    · obtain ⟨n, hn⟩ : ∃ n, ns[k]? = some n := ⟨ns[k]'(by rw [HN.out]; exact hlt), List.getElem?_eq_getElem _⟩
      have c0 := HC.out k n hn
      have h0 : decide ((n : Int) < 0) = false := decide_eq_false (by omega)
      by_cases hM : n ≤ 2147483647
      · have HT := Lib.hid (all_take (fun n => decide (n ≤ 2147483647)) ns k n hn HA.out (decide_eq_true hM))
        have hd : decide ((2147483647 : Int) < (n : Int)) = false := decide_eq_false (by omega)
        clear hn hM
        go_wp2_with fail
        exact ⟨⟨k + 1, by omega, by go_num, HT⟩, by simp [intOf]; omega⟩
      · have HF := Lib.hid (all_not (fun n => decide (n ≤ 2147483647)) ns k n hn (decide_eq_false hM))
        have hd : decide ((2147483647 : Int) < (n : Int)) = true := decide_eq_true (by omega)
        clear hn hM
        go_wp2_with fail
        go_ret
        exact ⟨by rw [smallN, HF.out]; rfl, rfl⟩
    · have HF := Lib.hid (show smallN ns = true by have := HA.out; rw [show k = N by omega, ← HN.out, List.take_length] at this; exact this)
      go_wp2_with fail
      go_ret
      exact ⟨by rw [HF.out]; rfl, rfl⟩

/-- The two of them over five numbers in a row of their own. -/
theorem small5i (a b c d e : Int) (w : World) (g : Nat) (hg : g = w.heap.size) : Calls Tryd.prog 63 #[.slice (some ⟨g, 0, none⟩) 5 5] (w.alloc (.cells #[.int .i64 a, .int .i64 b, .int .i64 c, .int .i64 d, .int .i64 e] 3)) fun r w' => r = .returned (.bool (smallI [a, b, c, d, e])) ∧ w.alloc (.cells #[.int .i64 a, .int .i64 b, .int .i64 c, .int .i64 d, .int .i64 e] 3) = w' :=
  small_int [a, b, c, d, e] _ _ 5 (fun i n hi => by
    subst hg
    rw [(Box.new w 3 #[.int .i64 a, .int .i64 b, .int .i64 c, .int .i64 d, .int .i64 e]).cell i]
    have : (#[Value.int .i64 a, .int .i64 b, .int .i64 c, .int .i64 d, .int .i64 e])[i]? = ([a, b, c, d, e][i]?).map (fun n => Value.int .i64 n) := by
      rw [← List.getElem?_map]; simp
    rw [this, hi]
    rfl) (by simp)
/-! ### How many bytes are 0 -/
theorem run_count_rd {w : World} {B : Nat} {A : Option Addr} {l : List UInt8} (h : Rd w B A l) (c : Nat) :
    (Extern.BytealgCount.count #[.slice A l.length c, .int .u8 0]).run Tryd.prog w = .ok (.int .i64 (l.count 0 : Nat)) w := by
  rcases l with _ | ⟨x, r⟩
  · rcases A with _ | a
    · exact Lib.run_countNil w 0 c 0
    · exact Lib.run_countAt w a 0 c [] rfl (fun i hi => absurd hi (by omega)) 0
  · obtain ⟨b, o, rfl, _, hc⟩ := h (by simp)
    have h1 := Lib.run_countSlice (P := Tryd.prog) w b o (x :: r).length c ((x :: r).map fun b => (b.toNat : Int)) (by simp) (fun i hi => by
      rw [hc i _ (List.getElem?_eq_getElem hi)]
      rw [List.getD_eq_getElem?_getD, List.getElem?_map, List.getElem?_eq_getElem hi]
      rfl) 0
    rw [bytesOf_back] at h1
    exact h1

set_option maxRecDepth 100000 in
theorem count_rd {w : World} {B : Nat} {A : Option Addr} {l : List UInt8} (h : Rd w B A l) (c : Nat) {s : Nat} (h0 : w.cell? ⟨s, 0, none⟩ = some (.int .u8 0)) :
    Calls Tryd.prog 65 #[.slice A l.length c, .slice (some ⟨s, 0, none⟩) 1 1] w fun r w' => r = .returned (.int .i64 (l.count 0 : Nat)) ∧ w = w' := by
  have hr := run_count_rd h c
  clear h
  generalize l.count 0 = z at *
  generalize l.length = n at *
  go_enter Tryd.func65, Tryd.ntmps65
  go_wp2
  rw [run_callFunc_extern Tryd.func81 (by kernel_rfl) (by kernel_rfl) (by kernel_rfl) (e := Extern.BytealgCount.count) (by kernel_rfl), hr]
  simp only [Result.andThen]
  rw [Oper.upon_value]
  go_wp2
  go_ret
  exact ⟨rfl, rfl⟩

/-! ### A section's entry -/
/-- A section's numbers, with a name's and a place of its bytes. -/
def entNs (s : Sect) (name at_ : Nat) : List Nat := [name, wrapN s.kind, s.flags, s.addr, at_, s.data.length, wrapN s.link, wrapN s.inf, wrapN s.algn, wrapN s.ent]
def entCs (ns : List Nat) : List Value := ns.map fun n => Value.int .u64 ((n : Nat) : Int)
def entV (ns : List Nat) : Value := .agg (entCs ns).toArray

set_option maxRecDepth 10000 in
theorem describe_any (x : Lay) (hf : x.s.data.length ≤ 100000) (name at_ : Nat) (w : World) :
    Calls Tryd.prog 34 #[x.val, .int .u64 (name : Int), .int .u64 (at_ : Int)] w fun r w' => r = .returned (entV (entNs x.s name at_)) ∧ Below w.heap.size w w' := by
  have hz := IntWalk.u64_in (x.s.data.length : Int) (by omega)
  have HR := Lib.hid (show entV (entNs x.s name at_) = .agg #[.int .u64 (name : Int), .int .u64 (wrapN x.s.kind : Int), .int .u64 (x.s.flags : Int), .int .u64 (x.s.addr : Int), .int .u64 (at_ : Int), .int .u64 (x.s.data.length : Int), .int .u64 (wrapN x.s.link : Int), .int .u64 (wrapN x.s.inf : Int), .int .u64 (wrapN x.s.algn : Int), .int .u64 (wrapN x.s.ent : Int)] from rfl)
  generalize entV (entNs x.s name at_) = rv at *
  have e1 := wrapN_eq x.s.kind
  have e2 := wrapN_eq x.s.link
  have e3 := wrapN_eq x.s.inf
  have e4 := wrapN_eq x.s.algn
  have e5 := wrapN_eq x.s.ent
  generalize wrapN x.s.kind = k1 at *
  generalize wrapN x.s.link = k2 at *
  generalize wrapN x.s.inf = k3 at *
  generalize wrapN x.s.algn = k4 at *
  generalize wrapN x.s.ent = k5 at *
  rw [show x.val = .agg #[.string ⟨x.s.name.toArray⟩, .int .i64 x.s.kind, .int .u64 (x.s.flags : Int), .int .u64 (x.s.addr : Int), .slice x.A x.s.data.length x.c, .int .i64 x.s.link, .int .i64 x.s.inf, .int .i64 x.s.algn, .int .i64 x.s.ent] from rfl]
  generalize ByteArray.mk x.s.name.toArray = sb at *
  generalize x.A = dA at *
  generalize x.s.data.length = dn at *
  generalize x.c = dc at *
  generalize x.s.kind = i1 at *
  generalize x.s.link = i2 at *
  generalize x.s.inf = i3 at *
  generalize x.s.algn = i4 at *
  generalize x.s.ent = i5 at *
  generalize x.s.flags = n1 at *
  generalize x.s.addr = n2 at *
  have hB := Box.new (w.alloc (.cells #[.string sb, .int .i64 i1, .int .u64 (n1 : Int), .int .u64 (n2 : Int), .slice dA dn dc, .int .i64 i2, .int .i64 i3, .int .i64 i4, .int .i64 i5] 36)) 68 #[.int .u64 (name : Int), .int .u64 (k1 : Int), .int .u64 (n1 : Int), .int .u64 (n2 : Int), .int .u64 (at_ : Int), .int .u64 (dn : Int), .int .u64 (k2 : Int), .int .u64 (k3 : Int), .int .u64 (k4 : Int), .int .u64 (k5 : Int)]
  have HB := Lib.hid hB
  clear hB
  go_enter Tryd.func34, Tryd.ntmps34
  go_wp2_with fail
  refine ret_one Tryd.underlying68 Tryd.results34 HB.out (by kernel_rfl) (by simp) rfl ?_
  rw [HR.out]
  exact ⟨rfl, ((Below.refl w.heap.size w).alloc (Nat.le_refl _) _).alloc (by simp) _⟩

end Go.Proofs.YtpdjpafchfbabaaDoor

namespace Go.Proofs.YtpdjpafchfbabaaDoor
open Go Go.RowKit

/-- Whether a section other than the first one may be. -/
def okS (s : Sect) : Bool :=
  decide (1 ≤ s.kind) && (smallI [s.kind, s.link, s.inf, s.algn, s.ent] && (rightT s.name && (decide (s.data.length ≤ 65536) && (decide (s.kind ≠ 8) || decide (s.data.count 0 = s.data.length)))))

set_option maxRecDepth 10000 in
set_option maxHeartbeats 1600000 in
theorem wrong_any {w : World} {B : Nat} (x : Lay) (hx : x.Ok w B) (hB : B ≤ w.heap.size) :
    Calls Tryd.prog 36 #[x.val] w fun r w' => r = .returned (.bool (!okS x.s)) ∧ Below w.heap.size w w' := by
  have hO := hx
  rcases x with ⟨⟨nm, k, fl, ad, da, li, inf, al, en⟩, A, c⟩
  rw [show Lay.val ⟨⟨nm, k, fl, ad, da, li, inf, al, en⟩, A, c⟩ = .agg #[.string ⟨nm.toArray⟩, .int .i64 k, .int .u64 (fl : Int), .int .u64 (ad : Int), .slice A da.length c, .int .i64 li, .int .i64 inf, .int .i64 al, .int .i64 en] from rfl]
  have hrd := hO.rd
  have hdl := hO.fits.data
  simp only at hrd hdl
  have HO := Lib.hid (show okS ⟨nm, k, fl, ad, da, li, inf, al, en⟩ = (decide (1 ≤ k) && (smallI [k, li, inf, al, en] && (rightT nm && (decide (da.length ≤ 65536) && (decide (k ≠ 8) || decide (da.count 0 = da.length)))))) from rfl)
  generalize okS ⟨nm, k, fl, ad, da, li, inf, al, en⟩ = ok at *
  have HS := Lib.hid (fun W g hg => small5i k li inf al en W g hg)
  have HR := Lib.hid (fun W => right_all nm W)
  have hb0 : Below w.heap.size w (w.alloc (.cells #[.string ⟨nm.toArray⟩, .int .i64 k, .int .u64 (fl : Int), .int .u64 (ad : Int), .slice A da.length c, .int .i64 li, .int .i64 inf, .int .i64 al, .int .i64 en] 36)) := (Below.refl _ _).alloc (Nat.le_refl _) _
  have hbb : Below w.heap.size w ((w.alloc (.cells #[.string ⟨nm.toArray⟩, .int .i64 k, .int .u64 (fl : Int), .int .u64 (ad : Int), .slice A da.length c, .int .i64 li, .int .i64 inf, .int .i64 al, .int .i64 en] 36)).alloc (.cells #[.int .i64 k, .int .i64 li, .int .i64 inf, .int .i64 al, .int .i64 en] 3)) := hb0.alloc (by simp) _
  have hX := (Box.new w 36 #[.string ⟨nm.toArray⟩, .int .i64 k, .int .u64 (fl : Int), .int .u64 (ad : Int), .slice A da.length c, .int .i64 li, .int .i64 inf, .int .i64 al, .int .i64 en]).below ((Below.refl _ _).alloc (Nat.le_refl _) (.cells #[.int .i64 k, .int .i64 li, .int .i64 inf, .int .i64 al, .int .i64 en] 3)) (by simp)
  have hRD := (hrd.more hB).below hbb
  have HB0 := Lib.hid hb0
  have HB1 := Lib.hid hbb
  clear hb0 hO hx hrd hB
  by_cases hk : k < 1
  · have HF := Lib.hid (show ok = false by rw [HO.out, decide_eq_false (show ¬ 1 ≤ k by omega)]; rfl)
    clear HO hX hbb hRD
    go_enter Tryd.func36, Tryd.ntmps36
    go_wp2_with fail
    go_ret
    exact ⟨by rw [HF.out]; rfl, HB0.out⟩
  · have hk1 : decide (1 ≤ k) = true := decide_eq_true (by omega)
    rw [hk1, Bool.true_and] at HO
    clear hk1
    generalize hsm : smallI [k, li, inf, al, en] = sm at *
    clear hsm
    cases sm with
    | false =>
      have HF := Lib.hid (show ok = false by rw [HO.out]; rfl)
      clear HO hX hbb hRD
      go_enter Tryd.func36, Tryd.ntmps36
      go_wp2_with (go_at_call 63; refine (HS.out _ _ (by simp)).mono ?_; rintro r w1 ⟨rfl, rfl⟩)
      go_ret
      exact ⟨by rw [HF.out]; rfl, HB1.out⟩
    | true =>
      rw [Bool.true_and] at HO
      generalize rightT nm = rn at *
      cases rn with
      | false =>
        have HF := Lib.hid (show ok = false by rw [HO.out]; rfl)
        clear HO hX hbb hRD
        go_enter Tryd.func36, Tryd.ntmps36
        go_wp2_with (first
          | (go_at_call 63; refine (HS.out _ _ (by simp)).mono ?_; rintro r w1 ⟨rfl, rfl⟩)
          | (go_at_call 64; refine (HR.out _).mono ?_; rintro r w2 ⟨rfl, rfl⟩))
        go_ret
        exact ⟨by rw [HF.out]; rfl, HB1.out⟩
      | true =>
        rw [Bool.true_and] at HO
        by_cases hL : da.length ≤ 65536
        · have hd : decide ((65536 : Int) < (da.length : Int)) = false := decide_eq_false (by omega)
          rw [decide_eq_true hL, Bool.true_and] at HO
          clear hL hdl
          by_cases h8 : k = 8
          · have hk8 : (k == 8) = true := by simp [h8]
            rw [decide_eq_false (show ¬ k ≠ 8 by simp [h8]), Bool.false_or] at HO
            clear h8
            have HC := Lib.hid (fun (W : World) (hW : Below (w.heap.size + 2) ((w.alloc (.cells #[.string ⟨nm.toArray⟩, .int .i64 k, .int .u64 (fl : Int), .int .u64 (ad : Int), .slice A da.length c, .int .i64 li, .int .i64 inf, .int .i64 al, .int .i64 en] 36)).alloc (.cells #[.int .i64 k, .int .i64 li, .int .i64 inf, .int .i64 al, .int .i64 en] 3)) W) (s : Nat) (h0 : W.cell? ⟨s, 0, none⟩ = some (.int .u8 0)) =>
              count_rd ((hRD.more (show w.heap.size ≤ w.heap.size + 2 by omega)).below hW) c h0)
            have hXX : Box ((w.alloc (.cells #[.string ⟨nm.toArray⟩, .int .i64 k, .int .u64 (fl : Int), .int .u64 (ad : Int), .slice A da.length c, .int .i64 li, .int .i64 inf, .int .i64 al, .int .i64 en] 36)).alloc (.cells #[.int .i64 k, .int .i64 li, .int .i64 inf, .int .i64 al, .int .i64 en] 3)) w.heap.size 36 #[.string ⟨nm.toArray⟩, .int .i64 k, .int .u64 (fl : Int), .int .u64 (ad : Int), .slice A da.length c, .int .i64 li, .int .i64 inf, .int .i64 al, .int .i64 en] := hX
            clear hRD hX
            generalize hz : (da.count 0 : Nat) = z at *
            generalize hdn : da.length = dn at *
            have HM := Lib.hid (show ((z : Int) != (dn : Int)) = !decide (z = dn) by
              by_cases e : z = dn
              · subst e; simp
              · have : ¬ (z : Int) = (dn : Int) := by omega
                rw [decide_eq_false e]
                simpa using this)
            clear hz hdn
            generalize ByteArray.mk nm.toArray = sb at *
            go_enter Tryd.func36, Tryd.ntmps36
            go_wp2_with (first
              | (go_at_call 63; refine (HS.out _ _ (by simp)).mono ?_; rintro r w1 ⟨rfl, rfl⟩)
              | (go_at_call 64; refine (HR.out _).mono ?_; rintro r w2 ⟨rfl, rfl⟩))
            generalize hw2 : (w.alloc (.cells #[.string sb, .int .i64 k, .int .u64 (fl : Int), .int .u64 (ad : Int), .slice A dn c, .int .i64 li, .int .i64 inf, .int .i64 al, .int .i64 en] 36)).alloc (.cells #[.int .i64 k, .int .i64 li, .int .i64 inf, .int .i64 al, .int .i64 en] 3) = w2 at *
            have hsz : w2.heap.size = w.heap.size + 2 := by rw [← hw2]; simp
            clear hw2
            have KS := Lib.hid (fun (W : World) (hW : Below (w.heap.size + 2) w2 W) => (⟨hW, (hXX.below hW (by omega)).cell 1, (hXX.below hW (by omega)).cell 4⟩ :
              Below (w.heap.size + 2) w2 W ∧ W.cell? ⟨w.heap.size, 1, none⟩ = some (.int .i64 k) ∧ W.cell? ⟨w.heap.size, 4, none⟩ = some (.slice A dn c)))
            have hb2 := (Below.refl (w.heap.size + 2) w2).drew
            rw [← hsz] at HC KS hb2
            go_region_held_law (fun W => Below w2.heap.size w2 W ∧ W.cell? ⟨w.heap.size, 1, none⟩ = some (.int .i64 k) ∧ W.cell? ⟨w.heap.size, 4, none⟩ = some (.slice A dn c)) ((refine KS.out _ ?_; go_grown)) (first
              | (go_at_call 65; refine (HC.out _ (by go_grown) _ (by rw [← hsz]; simp)).mono ?_; rintro r w3 ⟨rfl, rfl⟩))
            all_goals go_wp2
            all_goals go_ret
            all_goals exact ⟨by rw [HO.out, ← HM.out]; rfl, HB1.out.trans ((show Below w2.heap.size w2 _ by go_grown).mono (by omega))⟩
          · have hk8 : (k == 8) = false := by simp [h8]
            have HF := Lib.hid (show ok = true by rw [HO.out, decide_eq_true (show k ≠ 8 from h8)]; rfl)
            clear HO hRD hbb h8
            generalize da.length = dn at *
            generalize ByteArray.mk nm.toArray = sb at *
            go_enter Tryd.func36, Tryd.ntmps36
            go_wp2_with (first
              | (go_at_call 63; refine (HS.out _ _ (by simp)).mono ?_; rintro r w1 ⟨rfl, rfl⟩)
              | (go_at_call 64; refine (HR.out _).mono ?_; rintro r w2 ⟨rfl, rfl⟩))
            generalize (w.alloc (.cells #[.string sb, .int .i64 k, .int .u64 (fl : Int), .int .u64 (ad : Int), .slice A dn c, .int .i64 li, .int .i64 inf, .int .i64 al, .int .i64 en] 36)).alloc (.cells #[.int .i64 k, .int .i64 li, .int .i64 inf, .int .i64 al, .int .i64 en] 3) = w2 at *
            have c1 : w2.cell? ⟨w.heap.size, 1, none⟩ = some (.int .i64 k) := hX.cell 1
            clear hX
            go_quiet (fail)
            go_wp2
            go_ret
            exact ⟨by rw [HF.out]; rfl, below_drewN HB1.out _⟩
        · have hd : decide ((65536 : Int) < (da.length : Int)) = true := decide_eq_true (by omega)
          have HF := Lib.hid (show ok = false by rw [HO.out, decide_eq_false hL]; rfl)
          clear HO hX hbb hRD hL hdl
          go_enter Tryd.func36, Tryd.ntmps36
          go_wp2_with (first
            | (go_at_call 63; refine (HS.out _ _ (by simp)).mono ?_; rintro r w1 ⟨rfl, rfl⟩)
            | (go_at_call 64; refine (HR.out _).mono ?_; rintro r w2 ⟨rfl, rfl⟩))
          go_ret
          exact ⟨by rw [HF.out]; rfl, HB1.out⟩

/-- All of the sections may be, as far as one by one. -/
def okAll (l : List Sect) : Bool := l.all okS

set_option maxRecDepth 10000 in
set_option maxHeartbeats 1600000 in
theorem index_wrong {w : World} {a : Option Addr} {L : List Lay} (h : Secs w w.heap.size a L) (c : Nat) (hl : L.length ≤ 100000) :
    Calls Tryd.prog 62 #[.slice a L.length c, .func (.func 36) #[] #[]] w fun r w' => ∃ k : Int, r = .returned (.int .i64 k) ∧ (decide (0 ≤ k) = !okAll (secsOf L)) ∧ Below w.heap.size w w' := by
  obtain ⟨N, hN⟩ : ∃ N, L.length = N := ⟨_, rfl⟩
  have HH := Lib.hid h
  have HN := Lib.hid hN
  rw [hN] at hl ⊢
  clear h hN
  go_enter Tryd.func62, Tryd.ntmps62
  go_wp2_with fail
  go_loopw [8] (fun i wr => ∃ k : Nat, k ≤ N ∧ i = .int .i64 k ∧ Below w.heap.size w wr ∧ Hid (((secsOf L).take k).all okS = true)) (fun i _ => N - (intOf i).toNat)
  case atStart => exact ⟨0, Nat.zero_le _, rfl, Below.refl _ _, Lib.hid rfl⟩
  case round =>
    obtain ⟨k, hk, rfl, hB, HY⟩ := hrel
    have HB := Lib.hid hB
    by_cases hlt : k < N
    · obtain ⟨x, hx⟩ : ∃ x, L[k]? = some x := ⟨L[k]'(by rw [HN.out]; exact hlt), List.getElem?_eq_getElem _⟩
      obtain ⟨b, o, rfl, hb, c0, c1, c2, c3, c4, c5, c6, c7, c8⟩ := (HH.out.below hB).at_ hx
      have HW := Lib.hid (wrong_any x ((HH.out.below hB).get hx) hB.size)
      rw [show x.val = .agg #[.string ⟨x.s.name.toArray⟩, .int .i64 x.s.kind, .int .u64 (x.s.flags : Int), .int .u64 (x.s.addr : Int), .slice x.A x.s.data.length x.c, .int .i64 x.s.link, .int .i64 x.s.inf, .int .i64 x.s.algn, .int .i64 x.s.ent] from rfl] at HW
      by_cases hst : okS x.s = true
      · have HF := Lib.hid (all_take okS (secsOf L) k x.s (get_secsOf hx) HY.out hst)
        rw [hst] at HW
        clear hx hst hB
        generalize x.A = dA at *
        generalize x.s.data.length = dn at *
        generalize x.c = dc at *
        generalize ByteArray.mk x.s.name.toArray = sb at *
        go_wp2_with (go_at_call 36; refine HW.out.mono ?_; rintro r w1 ⟨rfl, hb1⟩)
        have HB1 := Lib.hid (HB.out.trans (hb1.mono HB.out.size))
        go_roundw
        case rel => exact ⟨k + 1, by omega, by go_num, HB1.out, HF⟩
        case measure => simp [intOf]; omega
      · have hst' : okS x.s = false := by simpa using hst
        have HF := Lib.hid (all_not okS (secsOf L) k x.s (get_secsOf hx) hst')
        rw [hst'] at HW
        clear hx hst hB hst'
        generalize x.A = dA at *
        generalize x.s.data.length = dn at *
        generalize x.c = dc at *
        generalize ByteArray.mk x.s.name.toArray = sb at *
        go_wp2_with (go_at_call 36; refine HW.out.mono ?_; rintro r w1 ⟨rfl, hb1⟩)
        have HB1 := Lib.hid (HB.out.trans (hb1.mono HB.out.size))
        go_ret
        exact ⟨k, rfl, by rw [okAll, HF.out]; exact decide_eq_true (by omega), HB1.out⟩
    · have HF := Lib.hid (show okAll (secsOf L) = true by
        have := HY.out
        rw [show k = (secsOf L).length by simp [HN.out]; omega, List.take_length] at this
        exact this)
      clear hB
      go_wp2_with fail
      go_ret
      exact ⟨-1, rfl, by rw [HF.out]; rfl, HB.out⟩

set_option maxRecDepth 10000 in
theorem contains_wrong {w : World} {a : Option Addr} {L : List Lay} (h : Secs w w.heap.size a L) (c : Nat) (hl : L.length ≤ 100000) :
    Calls Tryd.prog 35 #[.slice a L.length c, .func (.func 36) #[] #[]] w fun r w' => r = .returned (.bool (!okAll (secsOf L))) ∧ Below w.heap.size w w' := by
  have HI := Lib.hid (index_wrong h c hl)
  clear h hl
  generalize okAll (secsOf L) = ok at *
  generalize L.length = n at *
  go_enter Tryd.func35, Tryd.ntmps35
  go_wp2_with (go_at_call 62; refine HI.out.mono ?_; rintro r w1 ⟨k, rfl, hk, hb1⟩)
  go_ret
  exact ⟨by rw [← hk]; rfl, hb1⟩

end Go.Proofs.YtpdjpafchfbabaaDoor
