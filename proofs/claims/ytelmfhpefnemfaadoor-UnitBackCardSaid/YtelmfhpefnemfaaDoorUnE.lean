/-
  Package unit: All.
-/
import Derived.Test.YtelmfhpefnemfaaDoorUnD
import Derived.Test.YtelmfhpefnemfaaDoorCurD
import Derived.Test.YtelmfhpefnemfaaDoorSeG
import Derived.Maps.AppendAt
namespace Go.Proofs.YtelmfhpefnemfaaDoor
open Go Go.RowKit

/-! ### Rows, cursors and boxes beside one another -/
theorem un_far {X X' : World} {B g k n : Nat} {T e : TypeId} {cs : Array Value} {v : Value} {xs : List Value} (h : X.ownsRow B e n v k xs) (hg : X.grownBy X' (some g)) (hX : Box X g T cs) (hT : T ≠ e) : X'.ownsRow B e n v k xs := by
  refine h.kept hg ?_
  rcases h.2 with ⟨rfl, _⟩ | ⟨g', cap, cur, rfl, _, hh, _⟩
  · exact .inl rfl
  · refine .inr fun he => ?_
    have he' : g' = g := by simpa [Value.ownBlock] using he
    subst he'
    unfold Box at hX
    rw [hX] at hh
    injection hh with hh
    injection hh with _ hh
    exact hT hh
theorem un_apart {w w' : World} {B B' m m' n n' : Nat} {t t' : TypeId} {v v' : Value} {xs xs' : List Value} (h : w.ownsRow B t m v n xs) (h' : w.ownsRow B' t' m' v' n' xs') (ht : t ≠ t') (hg : w.grownBy w' v'.ownBlock) : w'.ownsRow B t m v n xs := by
  refine h.kept hg ?_
  rcases h.2 with ⟨rfl, _⟩ | ⟨g, cap, cur, rfl, _, hh, _⟩
  · exact .inl rfl
  · rcases h'.2 with ⟨rfl, _⟩ | ⟨g', cap', cur', rfl, _, hh', _⟩
    · exact .inr (by simp [Value.ownBlock])
    · refine .inr fun e => ?_
      have e' : g = g' := by simpa [Value.ownBlock] using e
      subst e'
      rw [hh] at hh'
      injection hh' with hh'
      injection hh' with _ hh'
      exact ht hh'
theorem un_box {W W1 : World} {H base n m : Nat} {T t : TypeId} {cs : Array Value} {u : Value} {xs : List Value} (hX : Box W H T cs) (hrow : W.ownsRow base t m u n xs) (hT : T ≠ t) (hg : W.grownBy W1 u.ownBlock) : Box W1 H T cs := by
  refine hX.grown hg ?_
  rcases hrow.2 with ⟨rfl, _⟩ | ⟨g, cap, cur, rfl, _, hh, _⟩
  · simp [Value.ownBlock]
  · intro e
    have e' : H = g := by simpa [Value.ownBlock] using e
    subst e'
    unfold Box at hX
    rw [hX] at hh
    injection hh with hh
    injection hh with _ hh
    exact hT hh
theorem un_cur {W W1 : World} {g base n m : Nat} {t : TypeId} {v u : Value} {l : List UInt8} {a : Nat} {e : Int} {xs : List Value} (h : Cur W g v l a e) (hrow : W.ownsRow base t m u n xs) (h1 : 156 ≠ t) (h2 : 5 ≠ t) (hg : W.grownBy W1 u.ownBlock) : Cur W1 g v l a e :=
  ⟨un_box h.1 hrow h1 hg, un_apart h.2.1 hrow h2 hg, h.2.2⟩
theorem un_sz {W W1 : World} {base n m : Nat} {t : TypeId} {u : Value} {xs : List Value} (h : Sz W) (hrow : W.ownsRow base t m u n xs) (hb : 0 < base) (hg : W.grownBy W1 u.ownBlock) : Sz W1 :=
  h.grown hg (fun e => by have := (hrow.lt _ e).1; omega)
theorem un_slc {X : World} {B k n : Nat} {e : TypeId} {v : Value} {xs : List Value} (h : X.ownsRow B e n v k xs) : ∃ A c, v = .slice A k c := by
  rcases h.2 with ⟨rfl, h0⟩ | ⟨g, cap, cur, rfl, _⟩
  · exact ⟨none, 0, by rw [h0]⟩
  · exact ⟨_, _, rfl⟩
theorem cells_newU (w : World) (cs : List Value) (T : TypeId) (j : Nat) (u : Value) (h : cs[j]? = some u) : (w.alloc (.cells cs.toArray T)).cell? ((⟨w.heap.size, 0, none⟩ : Addr).add j) = some u := by
  rw [addr_add, Nat.zero_add, (Box.new w T cs.toArray).cell]
  simpa using h

/-! ### The units so far -/
structure UAt where
  a : Nat
  e : Int
  L : List UHd
/-- One unit more. -/
def stepU (sec : List UInt8) (s : UAt) : UAt :=
  ⟨bdA sec s.a 0, if 60 < s.L.length + 1 then failOf (tkX sec s.a) 3 else tkX sec s.a, s.L ++ [tkH sec s.a]⟩
def runU (sec : List UInt8) : Nat → UAt → UAt
  | 0, s => s
  | n + 1, s => if 0 < leftOf sec s.a s.e then runU sec n (stepU sec s) else s
/-- Behind the last one; what All tells. -/
def finU (sec : List UInt8) : UAt := runU sec 61 ⟨0, 0, []⟩
def allE (sec : List UInt8) : Int := (finU sec).e
def allL (sec : List UInt8) : List UHd := if allE sec = 0 then (finU sec).L else []
theorem runU_end {sec : List UInt8} {s : UAt} (h : leftOf sec s.a s.e = 0) : ∀ n, runU sec n s = s
  | 0 => rfl
  | n + 1 => by rw [runU, if_neg (by omega)]
theorem left_err {l : List UInt8} {a : Nat} {e : Int} (h : 0 < leftOf l a e) : e = 0 := by
  unfold leftOf at h
  split at h
  · assumption
  · omega
theorem stepU_full {sec : List UInt8} {s : UAt} (h : 60 < s.L.length + 1) : (stepU sec s).e ≠ 0 := by
  unfold stepU
  simp only
  rw [if_pos h]
  unfold failOf
  split
  · decide
  · assumption

abbrev OwnH (T : TypeId) (w : World) (base : Nat) (v : Value) (L : List UHd) : Prop := w.ownsRow base T 8 v L.length (cellsF UHd.cells L)
theorem uhd_info : (Tryd.prog.info? 82).map (fun i => (i.zero, i.size, i.bytes)) = some (some (.agg #[.int .i64 0, .bool false, .int .u64 0, .int .u64 0, .int .u64 0, .int .u64 0, .int .u64 0, .int .u64 0]), 8, 64) := by kernel_rfl

set_option maxRecDepth 10000 in
set_option maxHeartbeats 3200000 in
theorem uall_any {w : World} {A : Option Addr} {sec : List UInt8} {B : Nat} (hs : Sz w) (c : Nat) (hr : Rd w B A sec) (hB : B ≤ w.heap.size) (hlen : sec.length ≤ 140737488355328) :
    Calls Tryd.prog 27 #[.slice A sec.length c] w fun r w' => ∃ u, r = .returned (.tuple #[u, .int .i64 (allE sec)]) ∧ OwnH 82 w' w.heap.size u (allL sec) ∧ Below w.heap.size w w' := by
  obtain ⟨i1, hj1, hy0, hy1, hy2⟩ := info_parts uhd_info
  have HNW := Lib.hid (fun W (hW : W = w) => new_any (w := W) c (hW ▸ hr) (hW ▸ hB) hlen)
  have HLN := Lib.hid hlen
  have HS := Lib.hid hs
  have HZ := Lib.hid hs.pos
  have HE := Lib.hid (show allE sec = (finU sec).e from rfl)
  have HL := Lib.hid (show allL sec = if allE sec = 0 then (finU sec).L else [] from rfl)
  have HF := Lib.hid (show finU sec = runU sec 61 ⟨0, 0, []⟩ from rfl)
  clear hr hB hlen hs
  generalize allE sec = E at *
  generalize allL sec = R at *
  generalize finU sec = F at *
  obtain ⟨N, hN⟩ : ∃ N, sec.length = N := ⟨_, rfl⟩
  rw [hN] at HNW ⊢
  clear hN
  go_enter Tryd.func27, Tryd.ntmps27
  go_upto_region 3 with (go_at_call 48; refine (HNW.out _ rfl).mono ?_; rintro r w1 ⟨g, v, rfl, hM, hb⟩; have HM := Lib.hid hM; have HB1 := Lib.hid hb; clear hM hb)
  have HC1 := Lib.hid HM.out.1
  have HGE := Lib.hid (show w.heap.size ≤ g from HM.out.2.1)
  have HS1 := Lib.hid (HS.out.below HB1.out HS.out.pos)
  clear HM HNW
  go_loopg [5] 62 (fun gk u wr => ∃ (k : Nat) (s : UAt), k ≤ 61 ∧ gk = 62 - k ∧ Hid (s.L.length = k) ∧ Hid (k ≤ 60 ∨ s.e ≠ 0) ∧ Hid (F = runU sec (61 - k) s) ∧ Hid (OwnH 82 wr w.heap.size u s.L) ∧ Hid (Cur wr g v sec s.a s.e) ∧ Hid (Below w.heap.size w wr) ∧ Hid (Sz wr))
  case atStart => exact ⟨0, ⟨0, 0, []⟩, Nat.zero_le _, rfl, Lib.hid rfl, Lib.hid (.inl (Nat.zero_le _)), HF, Lib.hid (World.ownsRow_nil _ _ _ _), HC1, HB1, HS1⟩
  case round =>
    obtain ⟨k, s, hk, rfl, HX, HKE, HFF, HO, HC, HB, HSZ⟩ := hrel
    clear HC1 HB1 HS1 HF
    have HLF := Lib.hid (left_cur HC.out)
    obtain ⟨q, hq⟩ : ∃ q, leftOf sec s.a s.e = q := ⟨_, rfl⟩
    rw [hq] at HLF
    have HQ := Lib.hid hq
    clear hq
    by_cases hq0 : 0 < q
    · have d : decide ((0 : Int) < (q : Int)) = true := by simp; omega
      have d' : decide (0 < q) = true := by simpa using hq0
      have he0 : s.e = 0 := left_err (by rw [HQ.out]; exact hq0)
      have hk60 : k ≤ 60 := by rcases HKE.out with h | h; exact h; exact absurd he0 h
      have HSS := Lib.hid (show stepU sec s = ⟨bdA sec s.a 0, if 60 < k + 1 then failOf (tkX sec s.a) 3 else tkX sec s.a, s.L ++ [tkH sec s.a]⟩ from by rw [stepU, HX.out])
      have HFN := Lib.hid (show F = runU sec (61 - (k + 1)) (stepU sec s) from by rw [HFF.out, show 61 - k = 61 - (k + 1) + 1 by omega, runU, if_pos (by rw [HQ.out]; exact hq0)])
      have HTK := Lib.hid (fun (W : World) (hC : Cur W g v sec s.a s.e) (hS : Sz W) => utake_any hS (show Cur W g v sec s.a 0 from by rw [← he0]; exact hC) HLN.out)
      have HFU := Lib.hid (@stepU_full sec s)
      clear he0 HQ HFF HKE
      generalize stepU sec s = s2 at *
      generalize tkH sec s.a = x at *
      generalize tkX sec s.a = xe at *
      generalize bdA sec s.a 0 = m at *
      go_upto_region 4 with (go_at_call 49; refine HLF.out.mono ?_; rintro r w2 ⟨rfl, nq, rfl⟩)
      obtain ⟨A3, c3, hu⟩ := un_slc HO.out
      rw [HX.out] at hu
      subst hu
      have hmx : k + 1 ≤ maxLen := by unfold maxLen; omega
      have hby : (k + 1) * 64 ≤ 140737488355328 := by omega
      have hxc : x.cells = [.int .i64 x.kind, .bool x.wide, .int .u64 (x.ab : Int), .int .u64 (x.sig : Int), .int .u64 (x.ty : Int), .int .u64 (x.off : Int), .int .u64 (x.first : Int), .int .u64 (x.stop : Int)] := rfl
      have HTK2 := Lib.hid (by
        have := HTK.out _ (HC.out.drewN nq) (HSZ.out.drewN nq)
        rw [hxc] at this
        exact this : Calls Tryd.prog 50 #[.pointer (some ⟨g, 0, none⟩)] (wr.drewN nq) fun r w' => r = .returned (.agg #[.int .i64 x.kind, .bool x.wide, .int .u64 (x.ab : Int), .int .u64 (x.sig : Int), .int .u64 (x.ty : Int), .int .u64 (x.off : Int), .int .u64 (x.first : Int), .int .u64 (x.stop : Int)]) ∧ Cur w' g v sec m xe ∧ (wr.drewN nq).grownBy w' (some g))
      have HOQ := Lib.hid (show OwnH 82 (wr.drewN nq) w.heap.size (.slice A3 k c3) s.L from HO.out)
      have HCQ := Lib.hid (HC.out.drewN nq)
      have HBQ := Lib.hid (below_drewN HB.out nq)
      have HSQ := Lib.hid (HSZ.out.drewN nq)
      clear HTK hxc HO HC HB HSZ HLF
      generalize wr.drewN nq = w3 at *
      go_upto_region 5 with (first
        | (go_at_call 50; refine HTK2.out.mono ?_; rintro r w4 ⟨rfl, hC, hG⟩; have HC4 := Lib.hid hC; have HS4 := Lib.hid (HSQ.out.grown hG (HSQ.out.cur HCQ.out)); have HO4 := Lib.hid (un_far HOQ.out hG HCQ.out.1 (by decide)); rw [HX.out] at HO4; have HB4 := Lib.hid (HBQ.out.grown hG HBQ.out.size (fun y hy => by injection hy with hy; have := HGE.out; omega)); have hsz : w.heap.size ≤ w4.heap.size + 1 := (by have := HB4.out.size; omega); have HO5 := Lib.hid (row_below HO4.out ((Below.refl w4.heap.size w4).alloc (Nat.le_refl _) (.cells #[.int .i64 x.kind, .bool x.wide, .int .u64 (x.ab : Int), .int .u64 (x.sig : Int), .int .u64 (x.ty : Int), .int .u64 (x.off : Int), .int .u64 (x.first : Int), .int .u64 (x.stop : Int)] 82))); clear hC hG)
        | (at_builtin; refine wpList_append_own_at _ (by rfl) (.tmp 12) (.tmp 15) _ (by rfl) w.heap.size 82 i1 _ 8 64 Tryd.underlying67 hj1 hy0 hy1 hy2 rfl (by decide) _ k (cellsF UHd.cells s.L) (by rfl) HO5.out ⟨w4.heap.size, 0, none⟩ 1 1 x.cells (by rfl) rfl (fun j u h => cells_newU w4 x.cells _ j u h) (uhd_one _) hmx hby (by simpa using hsz) ?_; intro v6 w6 hown6 hg6 hn6 hat6; clear hn6 hat6; have HO6 := Lib.hid hown6; have HG6 := Lib.hid hg6; clear hown6 hg6))
      have hA := (Below.refl w4.heap.size w4).alloc (Nat.le_refl _) (.cells #[.int .i64 x.kind, .bool x.wide, .int .u64 (x.ab : Int), .int .u64 (x.sig : Int), .int .u64 (x.ty : Int), .int .u64 (x.off : Int), .int .u64 (x.first : Int), .int .u64 (x.stop : Int)] 82)
      have HC6 := Lib.hid (un_cur (HC4.out.below hA) HO5.out (by decide) (by decide) HG6.out)
      have HS6 := Lib.hid (un_sz (HS4.out.below hA HS4.out.pos) HO5.out HZ.out HG6.out)
      have HB6 := Lib.hid ((HB4.out.trans (hA.mono HB4.out.size)).grown HG6.out (by simpa using hsz) (fun y hy => (HO5.out.lt y hy).1))
      have HON := Lib.hid (show OwnH 82 w6 w.heap.size v6 (s.L ++ [x]) from by
        have := HO6.out
        rw [OwnH, List.length_append, HX.out, cellsF_append, cellsF_one]
        exact this)
      clear hA HO4 HO5 HG6 HO6 HC4 HS4 HB4 HOQ HCQ HBQ HSQ HTK2
      obtain ⟨A6, c6, hu6⟩ := un_slc HON.out
      rw [List.length_append, HX.out] at hu6
      subst hu6
      by_cases h60 : 60 < k + 1
      · have d2 : decide ((60 : Int) < ((k : Int) + 1)) = true := by simp; omega
        have d3 : decide (60 < k + 1) = true := by simpa using h60
        rw [if_pos h60] at HSS
        have H60 := Lib.hid h60
        clear h60
        go_wp2_with (go_at_call 51; refine (fail_cur HC6.out 3).mono ?_; rintro r w7 ⟨rfl, hC, hG⟩; have HC7 := Lib.hid hC; have HS7 := Lib.hid (HS6.out.grown hG (HS6.out.cur HC6.out)); have HO7 := Lib.hid (un_far HON.out hG HC6.out.1 (by decide)); have HB7 := Lib.hid (HB6.out.grown hG HB6.out.size (fun y hy => by injection hy with hy; have := HGE.out; omega)); clear hC hG)
        go_roundg (62 - (k + 1))
        case measure => omega
        case rel => exact ⟨k + 1, s2, by omega, rfl, Lib.hid (by rw [HSS.out]; simp [HX.out]), Lib.hid (.inr (HFU.out (by rw [HX.out]; exact H60.out))), HFN, Lib.hid (by rw [HSS.out]; exact HO7.out), Lib.hid (by rw [HSS.out]; exact HC7.out), HB7, HS7⟩
      · have d2 : decide ((60 : Int) < ((k : Int) + 1)) = false := by simp; omega
        have d3 : decide (60 < k + 1) = false := by simpa using h60
        rw [if_neg h60] at HSS
        have h60' : k + 1 ≤ 60 := by omega
        clear h60
        go_wp2_with fail
        go_roundg (62 - (k + 1))
        case measure => omega
        case rel => exact ⟨k + 1, s2, by omega, rfl, Lib.hid (by rw [HSS.out]; simp [HX.out]), Lib.hid (.inl h60'), HFN, Lib.hid (by rw [HSS.out]; exact HON.out), Lib.hid (by rw [HSS.out]; exact HC6.out), HB6, HS6⟩
    · have d : decide ((0 : Int) < (q : Int)) = false := by simp; omega
      have d' : decide (0 < q) = false := by simpa using hq0
      have HFF2 := Lib.hid (show F = s from by rw [HFF.out]; exact runU_end (by rw [HQ.out]; omega) _)
      have hE : E = s.e := by rw [HE.out, HFF2.out]
      have HLL := Lib.hid (show R = if E = 0 then s.L else [] from by rw [HL.out, HFF2.out])
      rw [← hE] at HC
      clear hE HFF HFF2 HKE HQ HE HL
      go_upto_region 8 with (first
        | (go_at_call 49; refine HLF.out.mono ?_; rintro r w2 ⟨rfl, nq, rfl⟩)
        | (go_at_call 52; refine (err_cur (HC.out.drewN nq)).mono ?_; rintro r w7 ⟨rfl, rfl⟩))
      by_cases h0 : E = 0
      · have n1 : (E != 0) = false := by simpa using h0
        rw [if_pos h0] at HLL
        have H0 := Lib.hid h0
        clear h0
        go_wp2_with fail
        go_ret2
        exact ⟨_, by rw [H0.out]; rfl, by rw [HLL.out]; exact HO.out, below_drewN HB.out nq⟩
      · have n1 : (E != 0) = true := by simpa using h0
        rw [if_neg h0] at HLL
        clear h0
        go_wp2_with fail
        go_ret2
        exact ⟨_, rfl, by rw [HLL.out]; exact World.ownsRow_nil _ _ _ _, below_drewN HB.out nq⟩

end Go.Proofs.YtelmfhpefnemfaaDoor
