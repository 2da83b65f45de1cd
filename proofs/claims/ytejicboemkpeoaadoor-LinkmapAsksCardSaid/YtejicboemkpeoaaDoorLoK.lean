/-
  The document's link map: Images.
-/
import Derived.Test.YtejicboemkpeoaaDoorLoC
import Derived.Test.YtejicboemkpeoaaDoorLoA
import Derived.Test.YtejicboemkpeoaaDoorLnA
import Derived.Test.YtejicboemkpeoaaDoorLnK
import Derived.Test.YtejicboemkpeoaaDoorLnW
import Derived.BigRegion
import Derived.BigQuiet
namespace Go.Proofs.YtejicboemkpeoaaDoor
open Go Go.RowKit

theorem ownr_empty {X : World} {base g size : Nat} {e : TypeId} (h : X.heap[g]? = some (.cells #[] e (0, 0))) (hg : base ≤ g) : X.ownsRow base e size (.slice (some ⟨g, 0, none⟩) 0 0) 0 [] :=
  ⟨by simp, .inr ⟨g, 0, #[], rfl, hg, h, Nat.le_refl _, Nat.zero_le _, by simp, by simp⟩⟩
section
variable {α : Type} {f : α → List Value} {n : Nat} {w : World} {B : Nat} {ad : Addr} {L : List α} {N c i : Nat}
/-- l[i:] -/
theorem cut_behind (hn : ∀ x, (f x).length = n) (h : Row n f w B (some ad) L) (hN : L.length = N) (hc : N ≤ c) :
    ((if c = i then some ad else some (ad.add (i * n))) = none → N - i = 0) ∧ (cellsF f (L.drop i)).length = (N - i) * n ∧ ∀ ad', (if c = i then some ad else some (ad.add (i * n))) = some ad' → ∀ j u, (cellsF f (L.drop i))[j]? = some u → w.cell? (ad'.add j) = some u := by
  refine ⟨fun e => (by split at e <;> cases e), by rw [cellsF_length hn, List.length_drop, hN], fun ad' e j u hu => ?_⟩
  split at e
  · rename_i hci
    rw [List.drop_eq_nil_of_le (by omega)] at hu
    simp [cellsF] at hu
  · injection e with e
    subst e
    exact (row_news hn (row_drop h i)).2 _ rfl j u hu
end
end Go.Proofs.YtejicboemkpeoaaDoor

namespace Go.Proofs.YtejicboemkpeoaaDoor
open Go Go.RowKit

section
variable {O : List ObjV} {P : List Place} {R : List Img}
theorem zip_siz {O : List ObjV} {P : List Place} {k : Nat} {q : Place × Nat} (h : (P.zip (P.map (sizK O)))[k]? = some q) : P[k]? = some q.1 ∧ q.2 = sizK O q.1 := by
  obtain ⟨hk, rfl⟩ := List.getElem?_eq_some_iff.1 h
  have hk' : k < P.length := by simpa using hk
  refine ⟨?_, ?_⟩
  · rw [List.getElem?_eq_getElem hk']; simp
  · simp
theorem zip_mem {O : List ObjV} {P : List Place} {p : Place} (h : p ∈ P) : (p, sizK O p) ∈ P.zip (P.map (sizK O)) := by
  obtain ⟨i, hi⟩ := List.mem_iff_getElem?.1 h
  obtain ⟨hi', rfl⟩ := List.getElem?_eq_some_iff.1 hi
  refine List.mem_of_getElem? (i := i) ?_
  rw [List.getElem?_eq_getElem (by simpa using hi')]
  simp
theorem MapR.in_some (h : MapR O P R) {a k : Nat} (hk : inK P (P.map (sizK O)) a = some k) : ∃ p, P[k]? = some p ∧ p ∈ P ∧ p.addr ≤ a ∧ atI R a = some (imgP O p) := by
  unfold inK at hk
  obtain ⟨q, hq, h2, -⟩ := firstK_some (i := 0) (k := k) (by rw [Nat.zero_add]; exact hk)
  obtain ⟨h3, h4⟩ := zip_siz hq
  obtain ⟨h5, h6⟩ := inQ_spec.1 h2
  have hp := List.mem_of_getElem? h3
  refine ⟨q.1, h3, hp, h5, ?_⟩
  rw [h4] at h6
  exact atI_mem h.part h.lt (h.has q.1 hp (by omega)) h5 h6
theorem MapR.in_none (h : MapR O P R) {a : Nat} (hk : inK P (P.map (sizK O)) a = none) : atI R a = none := by
  cases he : atI R a with
  | none => rfl
  | some x =>
    obtain ⟨h1, h2, h3⟩ := atI_lo he
    obtain ⟨p, hp, rfl⟩ := h.mem x h3
    have h4 := firstK_noneP hk _ (zip_mem (O := O) hp)
    have h5 : inQ a (p, sizK O p) = true := inQ_spec.2 ⟨h1, h2⟩
    rw [h4] at h5
    cases h5
theorem part_two : ∀ {R : List Img}, PartI R → ∀ {x y : Img}, x ∈ R → y ∈ R → x ≠ y → x.hi ≤ y.lo ∨ y.hi ≤ x.lo
  | [], _, _, _, h, _, _ => by cases h
  | z :: l, hp, x, y, hx, hy, hne => by
    obtain ⟨h1, h2⟩ := List.pairwise_cons.1 hp
    rcases List.mem_cons.1 hx with e | hx'
    · rcases List.mem_cons.1 hy with e' | hy'
      · exact absurd (e.trans e'.symm) hne
      · exact .inl (e ▸ h1 y hy')
    · rcases List.mem_cons.1 hy with e' | hy'
      · exact .inr (e' ▸ h1 x hx')
      · exact part_two h2 hx' hy' hne
theorem MapR.apart (h : MapR O P R) (hd : P.Pairwise fun p q => ¬ (p.obj = q.obj ∧ p.sect = q.sect)) : Apart (P.zip (P.map (sizK O))) := by
  intro i j p q hij hi hj
  rintro ⟨h1, h2, h3, h4⟩
  obtain ⟨a1, a2⟩ := zip_siz hi
  obtain ⟨b1, b2⟩ := zip_siz hj
  have hne : ¬ (p.1.obj = q.1.obj ∧ p.1.sect = q.1.sect) := by
    obtain ⟨hi', e1⟩ := List.getElem?_eq_some_iff.1 a1
    obtain ⟨hj', e2⟩ := List.getElem?_eq_some_iff.1 b1
    have := List.pairwise_iff_getElem.1 hd i j hi' hj' hij
    rwa [e1, e2] at this
  rw [a2] at h1 h4
  rw [b2] at h2 h3
  have hp := h.has p.1 (List.mem_of_getElem? a1) h4
  have hq := h.has q.1 (List.mem_of_getElem? b1) h3
  rcases part_two h.part hp hq (fun e => hne ⟨congrArg Img.obj e, congrArg Img.sect e⟩) with h5 | h5
  · simp only [imgP] at h5; omega
  · simp only [imgP] at h5; omega
theorem MapR.images (h : MapR O P R) (hd : P.Pairwise fun p q => ¬ (p.obj = q.obj ∧ p.sect = q.sect)) : R.map Img.span = imagesG (P.zip (P.map (sizK O))) := by
  obtain ⟨g1, g2⟩ := imagesG_strict (h.apart hd)
  refine rise_same ?_ ?_ fun x => ?_
  · exact List.pairwise_map.2 ((part_strict h.part h.lt).imp fun h => h)
  · exact List.Pairwise.imp_of_mem (fun hx _ h => Nat.lt_of_lt_of_le (g2 _ hx) h) g1
  · rw [imagesG_mem, List.mem_map]
    constructor
    · rintro ⟨y, hy, rfl⟩
      obtain ⟨p, hp, rfl⟩ := h.mem y hy
      have := h.lt _ hy
      exact ⟨(p, sizK O p), zip_mem hp, by simp only [imgP] at this; show sizK O p ≠ 0; omega, rfl⟩
    · rintro ⟨q, hq, h1, rfl⟩
      obtain ⟨i, hi⟩ := List.mem_iff_getElem?.1 hq
      obtain ⟨a1, a2⟩ := zip_siz hi
      refine ⟨imgP O q.1, h.has q.1 (List.mem_of_getElem? a1) (by omega), ?_⟩
      simp only [imgP, Img.span, imgG]
      rw [a2]
end
end Go.Proofs.YtejicboemkpeoaaDoor

namespace Go.Proofs.YtejicboemkpeoaaDoor
open Go Go.RowKit

section
variable {P : Program}
theorem wpList_append_rows {ops : Array Oper} {rest : List Oper} {o : Oper} {a : Act} {w : World} {Q : Exit → Act → World → Prop} (hgd : o.guard = none) (s x : Operand) (t : TypeId)
    (ho : o.op = .call { callee := .builtin .append, args := #[s, x], argTypes := #[t, t] })
    (base : Nat) (e : TypeId) (i : TypeInfo) (z : Value) (size bytes : Nat) (ht : P.underlying t = some (.slice e)) (hi : P.info? e = some i) (hz : i.zero = some z)
    (hsize : i.size = size) (hby : i.bytes = bytes) (hzs : z.cells.size = size) (hsz : 0 < size)
    (v : Value) (n : Nat) (xs : List Value) (hs : a.eval s = v) (hown : w.ownsRow base e size v n xs)
    (A : Option Addr) (m c : Nat) (news : List Value) (hx : a.eval x = .slice A m c) (hl : news.length = m * size) (hA : A = none → m = 0) (hnews : ∀ ad, A = some ad → ∀ j u, news[j]? = some u → w.cell? (ad.add j) = some u) (h1 : ∀ u ∈ news, u.oneCell' = true)
    (h63 : n + m ≤ maxLen) (hbytes : (n + m) * bytes ≤ 140737488355328) (hbase : base ≤ w.heap.size)
    (h : ∀ v' w', w'.ownsRow base e size v' (n + m) (xs ++ news) → w.grownBy w' v.ownBlock → wpList P ops Q rest (a.put o.dst v') w') :
    wpList P ops Q (o :: rest) a w := by
  refine wpList_plain hgd fun K hK => ?_
  obtain ⟨v', w', hr, h2, h3⟩ := run_append_rows (P := P) w base t o.type e i z size bytes ht hi hz hsize hby hzs hsz v n xs hown A m c news hl hA hnews h1 h63 hbytes hbase
  unfold Oper.wp execOp
  simp only [ho, resolve, invoke, builtin, Sem.run_bind, Sem.run_pure, Result.andThen_ok, List.map_toArray, List.map_cons, List.map_nil, hs, hx, hr]
  exact hK _ _ (h v' w' h2 h3)
end

theorem imagesG_len (l : List (Place × Nat)) : (imagesG l).length ≤ l.length := by
  have : ∀ (l : List (Place × Nat)) (out : List Span), (l.foldl (fun out q => if q.2 = 0 then out else insG (imgG q) out) out).length ≤ out.length + l.length := by
    intro l
    induction l with
    | nil => intro out; exact Nat.le_refl _
    | cons q l ih =>
      intro out
      rw [List.foldl_cons]
      refine Nat.le_trans (ih _) ?_
      split
      · simp only [List.length_cons]; omega
      · rw [insG_length]; simp only [List.length_cons]; omega
  simpa [imagesG] using this l []
/-- Where a range is put: ahead of all that begin behind it. -/
theorem insG_cut {r : Span} {L : List Span} (hL : Rise L) {m : Nat} (h1 : ∀ x ∈ L.drop m, r.lo < x.lo) (h2 : m = 0 ∨ ∃ x, L[m - 1]? = some x ∧ x.lo ≤ r.lo) : insG r L = L.take m ++ r :: L.drop m := by
  have e := insG_at (r := r) (A := L.take m) (B := L.drop m) (fun x hx => by
    rcases h2 with rfl | ⟨y, hy, hyr⟩
    · simp at hx
    · obtain ⟨i, hi, rfl⟩ := List.mem_iff_getElem.1 hx
      rw [List.length_take] at hi
      rw [List.getElem_take]
      obtain ⟨hm, rfl⟩ := List.getElem?_eq_some_iff.1 hy
      rcases Nat.lt_or_ge i (m - 1) with h | h
      · exact Nat.le_trans (List.pairwise_iff_getElem.1 hL i (m - 1) (by omega) hm h) hyr
      · have : i = m - 1 := by omega
        subst this
        exact hyr) h1
  rwa [List.take_append_drop] at e

theorem spans_one {L : List Span} : ∀ u ∈ cellsF Span.cells L, u.oneCell' = true := fun u hu => by
  obtain ⟨x, _, hx⟩ := List.mem_flatMap.1 hu
  exact Span.one x u hx

set_option maxRecDepth 10000 in
set_option maxHeartbeats 1600000 in
theorem rimages_any {w : World} {g : Nat} {P : List Place} {S : List Nat} {Y : List Named} (h : LinkAt w w.heap.size g P S Y) (hl : P.length ≤ 1000) (hPS : S.length = P.length) (hlo : ∀ q ∈ P.zip S, q.1.addr + q.2 < two64) :
    Calls Tryd.prog 21 #[.pointer (some ⟨g, 0, none⟩)] w fun r w' => ∃ u, r = .returned u ∧ OwnSp w' w.heap.size u (imagesG (P.zip S)) ∧ Below w.heap.size w w' := by
  obtain ⟨i1, hj, hy0, hy1, hy2⟩ := info_parts span_info
  obtain ⟨hgl, aP, cP, aS, cS, aY, cY, hX, hp, hs, _⟩ := h
  have c0 := hX.cell 0
  have c9 := hX.cell 1
  simp at c0 c9
  obtain ⟨N, hN⟩ : ∃ N, P.length = N := ⟨_, rfl⟩
  have HN := Lib.hid hN
  have HSN := Lib.hid (hPS.trans hN)
  rw [hN] at c0 hl
  rw [hPS, hN] at c9
  have HC := Lib.hid (fun W (hW : Below w.heap.size w W) => (⟨by rw [hW.cell (p := ⟨g, 0, none⟩) hgl]; exact c0, by rw [hW.cell (p := ⟨g, 1, none⟩) hgl]; exact c9, hp.below hW, hs.below hW⟩ : W.cell? ⟨g, 0, none⟩ = some (.slice aP N cP) ∧ W.cell? ⟨g, 1, none⟩ = some (.slice aS N cS) ∧ Row 3 Place.cells W w.heap.size aP P ∧ Row 1 sizC W w.heap.size aS S))
  have HLO := Lib.hid hlo
  clear hX hp hs hN hPS hlo c0 c9
  go_enter Tryd.func21, Tryd.ntmps21
  go_wp2_with fail
  go_loopg [3, 4] N (fun gk u i wr => ∃ k : Nat, k ≤ N ∧ gk = N - k ∧ i = .int .i64 k ∧ Hid (OwnSp wr w.heap.size u (imagesG ((P.zip S).take k))) ∧ Hid (Below w.heap.size w wr))
  case atStart => exact ⟨0, Nat.zero_le _, rfl, rfl, Lib.hid (World.ownsRow_nil _ _ _ _), Lib.hid (Below.refl _ _)⟩
  case round =>
    obtain ⟨k, hk, rfl, rfl, HO, HB⟩ := hrel
    obtain ⟨c0, c9, hpr, hsr⟩ := HC.out _ HB.out
    by_cases hlt : k < N
    · obtain ⟨p, hpk⟩ : ∃ p, P[k]? = some p := ⟨P[k]'(by rw [HN.out]; exact hlt), List.getElem?_eq_getElem _⟩
      obtain ⟨n, hnk⟩ : ∃ n, S[k]? = some n := ⟨S[k]'(by rw [HSN.out]; exact hlt), List.getElem?_eq_getElem _⟩
      have HLT := Lib.hid hlt
      have hz : (P.zip S)[k]? = some (p, n) := by rw [List.getElem?_zip_eq_some]; exact ⟨hpk, hnk⟩
      have HTK := Lib.hid (show imagesG ((P.zip S).take (k + 1)) = if n = 0 then imagesG ((P.zip S).take k) else insG ⟨p.addr, p.addr + n⟩ (imagesG ((P.zip S).take k)) by
        rw [List.take_add_one, hz]; exact imagesG_snoc _ _)
      have hat := HLO.out _ (List.mem_of_getElem? hz)
      obtain ⟨b, o, rfl, hb, c1, c2, c3⟩ := place_at hpr hpk
      obtain ⟨b', o', rfl, hb', c4⟩ := size_at hsr hnk
      have hdk : decide (k < N) = true := decide_eq_true hlt
      clear hpk hnk hz hpr hsr c1 c2
      by_cases hn0 : n = 0
      · subst hn0
        rw [if_pos rfl] at HTK
        rw [← HTK.out] at HO
        clear hat hlt
        go_wp2_with fail
        go_roundg (N - (k + 1))
        case measure => have := HLT.out; omega
        case rel => exact ⟨k + 1, HLT.out, rfl, by go_num, HO, HB⟩
      · have hnz : ((n : Int) == 0) = false := by simp; omega
        rw [if_neg hn0] at HTK
        obtain ⟨pa, hpa⟩ : ∃ pa, p.addr = pa := ⟨_, rfl⟩
        obtain ⟨hi, hhi⟩ : ∃ hi, pa + n = hi := ⟨_, rfl⟩
        simp only [hpa, hhi] at HTK hat c3
        have q2 : IntKind.u64.wrap ((pa : Int) + (n : Int)) = (hi : Int) := by rw [← hhi, IntWalk.u64_in _ (by unfold two64 at hat; omega)]; omega
        have hwz : Below wr.heap.size wr (wr.alloc (.cells #[.int .u64 0, .int .u64 0] 58)) := (Below.refl _ _).alloc (Nat.le_refl _) _
        have hbl : b < wr.heap.size := Nat.lt_of_lt_of_le hb HB.out.size
        have hbl' : b' < wr.heap.size := Nat.lt_of_lt_of_le hb' HB.out.size
        have hgl' : g < wr.heap.size := Nat.lt_of_lt_of_le hgl HB.out.size
        have z0 := c0
        have z9 := c9
        have z3 := c3
        have z4 := c4
        rw [← hwz.cell (p := ⟨g, 0, none⟩) hgl'] at z0
        rw [← hwz.cell (p := ⟨g, 1, none⟩) hgl'] at z9
        rw [← hwz.cell (by exact hbl)] at z3
        rw [← hwz.cell (by exact hbl')] at z4
        clear hwz
        clear hat hlt hn0 hhi hpa
        go_upto_region 6 with fail
        obtain ⟨L, hL⟩ : ∃ L, imagesG ((P.zip S).take k) = L := ⟨_, rfl⟩
        have HRI := Lib.hid (hL ▸ imagesG_rise ((P.zip S).take k))
        have hlen := imagesG_len ((P.zip S).take k)
        rw [hL] at HO HTK hlen
        rw [List.length_take] at hlen
        obtain ⟨A, c, rfl, hcM, hc63, hRW⟩ := owng_row HO.out
        have hM1 : L.length ≤ 1000 := by have := HLT.out; omega
        have HO := Lib.hid (show wr.ownsRow w.heap.size 58 2 (.slice A L.length c) L.length (cellsF Span.cells L) from HO.out)
        generalize hM : L.length = M at *
        have HM := Lib.hid hM
        have HRW := Lib.hid hRW
        have HMC := Lib.hid hcM
        clear hRW hM hL hlen hcM hc63
        have HLY := Lib.hid (by
          have h1 : Below wr.heap.size wr (wr.alloc (.cells #[.int .u64 (pa : Int), .int .u64 (hi : Int)] 58)) := (Below.refl _ _).alloc (Nat.le_refl _) _
          have h2 := Box.new wr 58 #[.int .u64 (pa : Int), .int .u64 (hi : Int)]
          have h3 : Below (wr.alloc (.cells #[.int .u64 (pa : Int), .int .u64 (hi : Int)] 58)).heap.size (wr.alloc (.cells #[.int .u64 (pa : Int), .int .u64 (hi : Int)] 58)) (wr.alloc (.cells #[.int .u64 (pa : Int), .int .u64 (hi : Int)] 58)).drew := (Below.refl _ _).drew
          exact ⟨h1.drew, h2.below h3 (by simp)⟩ : Below wr.heap.size wr (wr.alloc (.cells #[.int .u64 (pa : Int), .int .u64 (hi : Int)] 58)).drew ∧ Box (wr.alloc (.cells #[.int .u64 (pa : Int), .int .u64 (hi : Int)] 58)).drew wr.heap.size 58 #[.int .u64 (pa : Int), .int .u64 (hi : Int)])
        go_cut [5] (fun r5 wx => r5 = .pointer (some ⟨wr.heap.size, 0, none⟩) ∧ Hid (Below wr.heap.size wr wx) ∧ Hid (Box wx wr.heap.size 58 #[.int .u64 (pa : Int), .int .u64 (hi : Int)]))
        case first =>
          go_region
          go_wp2_with fail
          go_meet
          exact ⟨rfl, Lib.hid HLY.out.1, Lib.hid HLY.out.2⟩
        case rest =>
          obtain ⟨rfl, HB2', HX2'⟩ := hcut
          generalize wc = w2 at *
          go_upto_region 8 with fail
          have hb2 := HB2'.out
          have hx2 := HX2'.out
          have d0 := hx2.cell 0
          have d1 := hx2.cell 1
          simp at d0 d1
          have HR2 := Lib.hid (Row.more (Row.below HRW.out hb2) hb2.size)
          have HO2 := Lib.hid (row_below HO.out hb2)
          have HB2 := Lib.hid hb2
          have HX2 := Lib.hid hx2
          clear hb2 hx2 HLY HB2' HX2' z0 z9 z3 z4 c0 c9 c3 c4 hb hb' hbl hbl' hgl' q2 hnz
          go_loopw [6] (fun i wq => ∃ m q : Nat, i = .int .i64 m ∧ m ≤ M ∧ wq = w2.drewN q ∧ Hid (∀ x ∈ L.drop m, pa < x.lo)) (fun i _ => (intOf i).toNat)
          case atStart => exact ⟨M, 0, rfl, Nat.le_refl _, rfl, Lib.hid (by rw [← HM.out, List.drop_length]; intro x hx; cases hx)⟩
          case round =>
            obtain ⟨m, q, rfl, hm, rfl, HD⟩ := hrel
            rcases Nat.eq_zero_or_pos m with hm0 | hm0
            · have HCUT := Lib.hid (insG_cut (r := ⟨pa, hi⟩) HRI.out HD.out (.inl hm0))
              have q1 : decide ((0 : Int) < (m : Int)) = false := decide_eq_false (by omega)
              have q1' : decide (0 < m) = false := decide_eq_false (by omega)
              clear hm0
              go_wp2_with fail
              go_quiet (fail)
              clear q1 q1'
              rcases A with _ | ad
              · obtain ⟨rfl, rfl⟩ : M = 0 ∧ c = 0 := by
                  rcases HO.out.2 with ⟨e, e2⟩ | ⟨_, _, _, e, _⟩
                  · exact (Value.slice.inj e).2
                  · cases (Value.slice.inj e).1
                obtain rfl : m = 0 := by omega
                obtain ⟨q', hq'⟩ : ∃ q', q + 1 = q' := ⟨_, rfl⟩
                have HBD := Lib.hid (fun n => below_drewN (Below.refl w2.heap.size w2) n)
                have h63 : 0 + 0 ≤ maxLen := by unfold maxLen; omega
                have hby : (0 + 0) * 16 ≤ 140737488355328 := by omega
                go_upto_region 10 with fail
                generalize hW0 : (w2.drewN q).drewN nq = W0 at *
                have HB0 : Hid (Below w2.heap.size w2 W0) := Lib.hid (hW0 ▸ below_drewN (HBD.out q) nq)
                have HWB := Lib.hid (Nat.le_trans (Nat.le_trans HB.out.size HB2.out.size) HB0.out.size)
                clear hW0
                go_upto_region 11 with fail
                have HW3 := Lib.hid ((Below.refl W0.heap.size W0).alloc (Nat.le_refl _) (.cells #[] 58))
                have HO3 := Lib.hid (ownr_empty (base := W0.heap.size) (size := 2) (heap_alloc_new W0 (.cells #[] 58)) (Nat.le_refl _))
                generalize W0.alloc (.cells #[] 58) = w3 at *
                have hs3 := HW3.out.size
                have hx3 := HX2.out.below (HB0.out.trans (HW3.out.mono HB0.out.size)) HX2.out.lt
                have y0 := hx3.cell 0
                have y1 := hx3.cell 1
                simp at y0 y1
                have hrl : wr.heap.size < W0.heap.size := Nat.lt_of_lt_of_le HX2.out.lt HB0.out.size
                have hrl3 : wr.heap.size < w3.heap.size := Nat.lt_of_lt_of_le hrl hs3
                have KS := Lib.hid (fun (X : World) (hX : Below W0.heap.size w3 X) => (⟨HW3.out.trans hX, (hX.cell (p := ⟨wr.heap.size, 0, none⟩) hrl).trans y0, (hX.cell (p := ⟨wr.heap.size, 1, none⟩) hrl).trans y1⟩ : Below W0.heap.size W0 X ∧ X.cell? ⟨wr.heap.size, 0, none⟩ = some (.int .u64 (pa : Int)) ∧ X.cell? ⟨wr.heap.size, 1, none⟩ = some (.int .u64 (hi : Int))))
                have HD0 := Lib.hid (show (cellsF Span.cells (L.drop 0)).length = (0 - 0) * 2 by rw [cellsF_length span_two, List.length_drop, HM.out])
                have h63b : 0 + 1 ≤ maxLen := by unfold maxLen; omega
                have hbyb : (0 + 1) * 16 ≤ 140737488355328 := by omega
                have h63c : 0 + 1 + (0 - 0) ≤ maxLen := by unfold maxLen; omega
                have hbyc : (0 + 1 + (0 - 0)) * 16 ≤ 140737488355328 := by omega
                clear y0 y1 hx3
                have HBW := Lib.hid (HB.out.trans ((HB2.out.trans ((HB0.out.trans (HW3.out.mono HB0.out.size)).mono HB2.out.size)).mono HB.out.size))
                have HFIN := Lib.hid (fun (W : World) (v : Value) (h : W.ownsRow W0.heap.size 58 2 v (0 + 1 + (0 - 0)) ((cellsF Span.cells (L.take 0) ++ (#[.int .u64 (pa : Int), .int .u64 (hi : Int)] : Array Value).toList) ++ cellsF Span.cells (L.drop 0))) => (by
                  have hlen : (L.take 0 ++ (⟨pa, hi⟩ : Span) :: L.drop 0).length = 0 + 1 + (0 - 0) := by
                    have := HM.out
                    simp only [List.length_append, List.length_cons, List.length_take, List.length_drop]
                    omega
                  have hce : cellsF Span.cells (L.take 0 ++ (⟨pa, hi⟩ : Span) :: L.drop 0) = (cellsF Span.cells (L.take 0) ++ (#[.int .u64 (pa : Int), .int .u64 (hi : Int)] : Array Value).toList) ++ cellsF Span.cells (L.drop 0) := by
                    rw [show L.take 0 ++ (⟨pa, hi⟩ : Span) :: L.drop 0 = (L.take 0 ++ [⟨pa, hi⟩]) ++ L.drop 0 by simp, cellsF_append, cellsF_append, cellsF_one]; rfl
                  rw [HTK.out, HCUT.out]
                  show World.ownsRow _ _ _ _ _ (L.take 0 ++ (⟨pa, hi⟩ : Span) :: L.drop 0).length (cellsF Span.cells (L.take 0 ++ (⟨pa, hi⟩ : Span) :: L.drop 0))
                  rw [hlen, hce]
                  exact ⟨h.1, h.2.imp id (fun ⟨g, cap, cur, a, b, r⟩ => ⟨g, cap, cur, a, Nat.le_trans HWB.out b, r⟩)⟩ : OwnSp W w.heap.size v (imagesG ((P.zip S).take (k + 1)))))
                go_region_held_law (fun X => Below W0.heap.size W0 X ∧ X.cell? ⟨wr.heap.size, 0, none⟩ = some (.int .u64 (pa : Int)) ∧ X.cell? ⟨wr.heap.size, 1, none⟩ = some (.int .u64 (hi : Int)))
                  ((refine KS.out _ ?_; repeat' (first | (with_reducible assumption) | (with_reducible exact Below.refl _ _) | (with_reducible refine Below.drew ?_) | (with_reducible refine Below.alloc ?_ ?_ _) | omega | (simp; done) | (simp; omega))))
                  (first
                    | (refine step_rows (by rfl) (.tmp 72) (.tmp 74) _ (by rfl) W0.heap.size 58 i1 _ 2 16 Tryd.underlying62 hj hy0 hy1 hy2 (by rfl) (by decide) (.slice (some ⟨W0.heap.size, 0, none⟩) 0 0) 0 [] (by rfl) (row_below HO3.out (by repeat' (first | (with_reducible exact Below.refl _ _) | (with_reducible refine Below.drew ?_) | (with_reducible refine Below.alloc ?_ ?_ _) | (simp; done) | omega))) (some ⟨_, 0, none⟩) 1 _ (#[.int .u64 (pa : Int), .int .u64 (hi : Int)] : Array Value).toList (by rfl) (by rfl) (fun e => by cases e) (fun ad e j u h => (by injection e with e; subst e; exact World.news_of_block (fr := (0, 0)) (heap_alloc_new _ _) j u h)) (by intro u hu; simp only [List.mem_cons, List.not_mem_nil, or_false] at hu; rcases hu with rfl | rfl <;> rfl) h63b hbyb (by first | (simp; done) | (simp; omega)) ?_; intro v4 w4 hown4 hg4; have HO4 := Lib.hid hown4; have HB4 := Lib.hid (Below.trans (show Below W0.heap.size w3 _ by repeat' (first | (with_reducible exact Below.refl _ _) | (with_reducible refine Below.drew ?_) | (with_reducible refine Below.alloc ?_ ?_ _) | (simp; done) | omega)) (below_of_only hg4 (by first | (simp; done) | (simp; omega)) (fun e he => (HO3.out.lt e he).1))); have hb4 := HB4.out; have hs4 := hb4.size; clear hown4 hg4)
                    | (refine step_rows (by rfl) (.tmp 75) (.tmp 78) _ (by rfl) W0.heap.size 58 i1 _ 2 16 Tryd.underlying62 hj hy0 hy1 hy2 (by rfl) (by decide) v4 (0 + 1) _ (by rfl) (row_below HO4.out (by repeat' (first | (with_reducible exact Below.refl _ _) | (with_reducible refine Below.drew ?_) | (with_reducible refine Below.alloc ?_ ?_ _) | (simp; done) | omega))) none (0 - 0) _ (cellsF Span.cells (L.drop 0)) (by rfl) HD0.out (fun _ => rfl) (fun ad e => by cases e) spans_one h63c hbyc (by omega) ?_; intro v5 w5 hown5 hg5; have HO5 := Lib.hid hown5; have HB5 := Lib.hid (hb4.trans (below_of_only hg5 (by omega) (fun e he => (HO4.out.lt e he).1))); have hb5 := HB5.out; clear hown5 hg5))
                all_goals go_wp2_with fail
                all_goals go_roundg (N - (k + 1))
                all_goals first
                  | (exact ⟨k + 1, HLT.out, rfl, by go_num, Lib.hid (HFIN.out _ _ HO5.out), Lib.hid (HBW.out.trans (HB5.out.mono HWB.out))⟩)
                  | (have := HLT.out; omega)
              · skip
                obtain ⟨q', hq'⟩ : ∃ q', q + 1 = q' := ⟨_, rfl⟩
                have HBD := Lib.hid (fun n => below_drewN (Below.refl w2.heap.size w2) n)
                have HCL := Lib.hid (show (cellsF Span.cells (L.take m)).length = m * 2 by rw [cellsF_length span_two, List.length_take, HM.out, Nat.min_eq_left hm])
                have HA0 := Lib.hid (show (some ad) = none → m = 0 from fun e => by cases e)
                have h63 : 0 + m ≤ maxLen := by unfold maxLen; omega
                have hby : (0 + m) * 16 ≤ 140737488355328 := by omega
                have hmc : m ≤ c := Nat.le_trans hm HMC.out
                go_upto_region 10 with fail
                generalize hW0 : (w2.drewN q).drewN nq = W0 at *
                have HB0 : Hid (Below w2.heap.size w2 W0) := Lib.hid (hW0 ▸ below_drewN (HBD.out q) nq)
                have HWB := Lib.hid (Nat.le_trans (Nat.le_trans HB.out.size HB2.out.size) HB0.out.size)
                have HCN := Lib.hid (fun (X : World) (hX : Below W0.heap.size W0 X) => (row_news span_two (row_take (Row.below HR2.out (HB0.out.trans (hX.mono HB0.out.size))) m)).2)
                clear hW0
                go_upto_region 11 with (at_builtin; refine wpList_append_rows (by rfl) (.tmp 67) (.tmp 70) _ (by rfl) W0.heap.size 58 i1 _ 2 16 Tryd.underlying62 hj hy0 hy1 hy2 rfl (by decide) _ 0 [] (by rfl) (ownr_empty (heap_alloc_new _ _) (Nat.le_refl _)) (some ad) m c (cellsF Span.cells (L.take m)) (by rfl) HCL.out HA0.out (fun ad e j u h => HCN.out _ ((Below.refl _ _).alloc (Nat.le_refl _) _) ad e j u h) spans_one h63 hby (by simp) ?_; intro v3 w3 hown3 hg3; rw [Nat.zero_add, List.nil_append] at hown3; have HO3 := Lib.hid hown3; have HG3 := Lib.hid hg3; clear hown3 hg3)
                have HW3 := Lib.hid (((Below.refl W0.heap.size W0).alloc (Nat.le_refl _) (.cells #[] 58)).trans (below_of_only HG3.out (by simp) (fun e he => by have : W0.heap.size = e := (by simpa [Value.ownBlock] using he); omega)))
                have hs3 := HW3.out.size
                have hx3 := HX2.out.below (HB0.out.trans (HW3.out.mono HB0.out.size)) HX2.out.lt
                have y0 := hx3.cell 0
                have y1 := hx3.cell 1
                simp at y0 y1
                have hrl : wr.heap.size < W0.heap.size := Nat.lt_of_lt_of_le HX2.out.lt HB0.out.size
                have hrl3 : wr.heap.size < w3.heap.size := Nat.lt_of_lt_of_le hrl hs3
                have KS := Lib.hid (fun (X : World) (hX : Below W0.heap.size w3 X) => (⟨HW3.out.trans hX, (hX.cell (p := ⟨wr.heap.size, 0, none⟩) hrl).trans y0, (hX.cell (p := ⟨wr.heap.size, 1, none⟩) hrl).trans y1⟩ : Below W0.heap.size W0 X ∧ X.cell? ⟨wr.heap.size, 0, none⟩ = some (.int .u64 (pa : Int)) ∧ X.cell? ⟨wr.heap.size, 1, none⟩ = some (.int .u64 (hi : Int))))
                have HDR := Lib.hid (fun (X : World) (hX : Below W0.heap.size W0 X) => cut_behind (i := m) span_two (Row.below HR2.out (HB0.out.trans (hX.mono HB0.out.size))) HM.out HMC.out)
                have h63b : m + 1 ≤ maxLen := by unfold maxLen; omega
                have hbyb : (m + 1) * 16 ≤ 140737488355328 := by omega
                have h63c : m + 1 + (M - m) ≤ maxLen := by unfold maxLen; omega
                have hbyc : (m + 1 + (M - m)) * 16 ≤ 140737488355328 := by omega
                clear y0 y1 hx3
                have HBW := Lib.hid (HB.out.trans ((HB2.out.trans ((HB0.out.trans (HW3.out.mono HB0.out.size)).mono HB2.out.size)).mono HB.out.size))
                have HFIN := Lib.hid (fun (W : World) (v : Value) (h : W.ownsRow W0.heap.size 58 2 v (m + 1 + (M - m)) ((cellsF Span.cells (L.take m) ++ (#[.int .u64 (pa : Int), .int .u64 (hi : Int)] : Array Value).toList) ++ cellsF Span.cells (L.drop m))) => (by
                  have hlen : (L.take m ++ (⟨pa, hi⟩ : Span) :: L.drop m).length = m + 1 + (M - m) := by
                    have := HM.out
                    simp only [List.length_append, List.length_cons, List.length_take, List.length_drop]
                    omega
                  have hce : cellsF Span.cells (L.take m ++ (⟨pa, hi⟩ : Span) :: L.drop m) = (cellsF Span.cells (L.take m) ++ (#[.int .u64 (pa : Int), .int .u64 (hi : Int)] : Array Value).toList) ++ cellsF Span.cells (L.drop m) := by
                    rw [show L.take m ++ (⟨pa, hi⟩ : Span) :: L.drop m = (L.take m ++ [⟨pa, hi⟩]) ++ L.drop m by simp, cellsF_append, cellsF_append, cellsF_one]; rfl
                  rw [HTK.out, HCUT.out]
                  show World.ownsRow _ _ _ _ _ (L.take m ++ (⟨pa, hi⟩ : Span) :: L.drop m).length (cellsF Span.cells (L.take m ++ (⟨pa, hi⟩ : Span) :: L.drop m))
                  rw [hlen, hce]
                  exact ⟨h.1, h.2.imp id (fun ⟨g, cap, cur, a, b, r⟩ => ⟨g, cap, cur, a, Nat.le_trans HWB.out b, r⟩)⟩ : OwnSp W w.heap.size v (imagesG ((P.zip S).take (k + 1)))))
                go_region_held_law (fun X => Below W0.heap.size W0 X ∧ X.cell? ⟨wr.heap.size, 0, none⟩ = some (.int .u64 (pa : Int)) ∧ X.cell? ⟨wr.heap.size, 1, none⟩ = some (.int .u64 (hi : Int)))
                  ((refine KS.out _ ?_; repeat' (first | (with_reducible assumption) | (with_reducible exact Below.refl _ _) | (with_reducible refine Below.drew ?_) | (with_reducible refine Below.alloc ?_ ?_ _) | omega | (simp; done) | (simp; omega))))
                  (first
                    | (refine step_rows (by rfl) (.tmp 72) (.tmp 74) _ (by rfl) W0.heap.size 58 i1 _ 2 16 Tryd.underlying62 hj hy0 hy1 hy2 (by rfl) (by decide) v3 m (cellsF Span.cells (L.take m)) (by rfl) (row_below HO3.out (by repeat' (first | (with_reducible exact Below.refl _ _) | (with_reducible refine Below.drew ?_) | (with_reducible refine Below.alloc ?_ ?_ _) | (simp; done) | omega))) (some ⟨_, 0, none⟩) 1 _ (#[.int .u64 (pa : Int), .int .u64 (hi : Int)] : Array Value).toList (by rfl) (by rfl) (fun e => by cases e) (fun ad e j u h => (by injection e with e; subst e; exact World.news_of_block (fr := (0, 0)) (heap_alloc_new _ _) j u h)) (by intro u hu; simp only [List.mem_cons, List.not_mem_nil, or_false] at hu; rcases hu with rfl | rfl <;> rfl) h63b hbyb (by first | (simp; done) | (simp; omega)) ?_; intro v4 w4 hown4 hg4; have HO4 := Lib.hid hown4; have HB4 := Lib.hid (Below.trans (show Below W0.heap.size w3 _ by repeat' (first | (with_reducible exact Below.refl _ _) | (with_reducible refine Below.drew ?_) | (with_reducible refine Below.alloc ?_ ?_ _) | (simp; done) | omega)) (below_of_only hg4 (by first | (simp; done) | (simp; omega)) (fun e he => (HO3.out.lt e he).1))); have hb4 := HB4.out; have hs4 := hb4.size; clear hown4 hg4)
                    | (refine step_rows (by rfl) (.tmp 75) (.tmp 78) _ (by rfl) W0.heap.size 58 i1 _ 2 16 Tryd.underlying62 hj hy0 hy1 hy2 (by rfl) (by decide) v4 (m + 1) _ (by rfl) (row_below HO4.out (by repeat' (first | (with_reducible exact Below.refl _ _) | (with_reducible refine Below.drew ?_) | (with_reducible refine Below.alloc ?_ ?_ _) | (simp; done) | omega))) _ (M - m) _ (cellsF Span.cells (L.drop m)) (by rfl) (HDR.out _ (KS.out _ (by repeat' (first | (with_reducible exact hb4) | (with_reducible refine Below.drew ?_) | (with_reducible refine Below.alloc ?_ ?_ _) | (simp; done) | omega))).1).2.1 (HDR.out W0 (Below.refl _ _)).1 (HDR.out _ (KS.out _ (by repeat' (first | (with_reducible exact hb4) | (with_reducible refine Below.drew ?_) | (with_reducible refine Below.alloc ?_ ?_ _) | (simp; done) | omega))).1).2.2 spans_one h63c hbyc (by omega) ?_; intro v5 w5 hown5 hg5; have HO5 := Lib.hid hown5; have HB5 := Lib.hid (hb4.trans (below_of_only hg5 (by omega) (fun e he => (HO4.out.lt e he).1))); have hb5 := HB5.out; clear hown5 hg5))
                all_goals go_wp2_with fail
                all_goals go_roundg (N - (k + 1))
                all_goals first
                  | (exact ⟨k + 1, HLT.out, rfl, by go_num, Lib.hid (HFIN.out _ _ HO5.out), Lib.hid (HBW.out.trans (HB5.out.mono HWB.out))⟩)
                  | (have := HLT.out; omega)
            · obtain ⟨m', hm'⟩ : ∃ m', m = m' + 1 := ⟨m - 1, by omega⟩
              obtain ⟨x, hx⟩ : ∃ x, L[m']? = some x := ⟨L[m']'(by rw [HM.out]; omega), List.getElem?_eq_getElem _⟩
              obtain ⟨b2, o2, rfl, hb2, e0, e1⟩ := span_at HR2.out hx
              have q1 : decide ((0 : Int) < (m : Int)) = true := decide_eq_true (by omega)
              have q1' : decide (0 < m) = true := decide_eq_true hm0
              have q3 : IntKind.i64.wrap ((m : Int) - 1) = (m' : Int) := by rw [IntWalk.i64_in _ ⟨by omega, by omega⟩]; omega
              have q4 : wrap64 ((m : Int) - 1) = (m' : Int) := by rw [IntWalk.wrap64_in _ ⟨by omega, by omega⟩]; omega
              have hmM : m' < M := by omega
              by_cases hxl : pa < x.lo
              · have q5 : decide (pa < x.lo) = true := decide_eq_true hxl
                have HD1 := Lib.hid (show ∀ y ∈ L.drop m', pa < y.lo from fun y hy => by
                  obtain ⟨hl', rfl⟩ := List.getElem?_eq_some_iff.1 hx
                  rw [List.drop_eq_getElem_cons hl'] at hy
                  rcases List.mem_cons.1 hy with rfl | hy
                  · exact hxl
                  · exact HD.out y (by rw [hm']; exact hy))
                have HMM := Lib.hid hm'
                clear hx hm0 hm hxl HD hm'
                go_wp2_with fail
                go_quiet (fail)
                go_wp2
                exact ⟨⟨m', _, rfl, by omega, rfl, HD1⟩, by have := HMM.out; simp [intOf]; omega⟩
              · have q5 : decide (pa < x.lo) = false := decide_eq_false hxl
                have HCUT := Lib.hid (insG_cut (r := ⟨pa, hi⟩) HRI.out HD.out (.inr ⟨x, by rw [hm']; exact hx, by show x.lo ≤ pa; omega⟩))
                clear hx hm0 hxl HD hm'
                go_wp2_with fail
                go_quiet (fail)
                clear e0 e1 q1 q1' q3 q4 q5
                generalize (⟨b2, o2, none⟩ : Addr) = ad at *
                obtain ⟨q', hq'⟩ : ∃ q', q + 1 = q' := ⟨_, rfl⟩
                have HBD := Lib.hid (fun n => below_drewN (Below.refl w2.heap.size w2) n)
                have HCL := Lib.hid (show (cellsF Span.cells (L.take m)).length = m * 2 by rw [cellsF_length span_two, List.length_take, HM.out, Nat.min_eq_left hm])
                have HA0 := Lib.hid (show (some ad) = none → m = 0 from fun e => by cases e)
                have h63 : 0 + m ≤ maxLen := by unfold maxLen; omega
                have hby : (0 + m) * 16 ≤ 140737488355328 := by omega
                have hmc : m ≤ c := Nat.le_trans hm HMC.out
                go_upto_region 10 with fail
                generalize hW0 : (w2.drewN q).drewN nq = W0 at *
                have HB0 : Hid (Below w2.heap.size w2 W0) := Lib.hid (hW0 ▸ below_drewN (HBD.out q) nq)
                have HWB := Lib.hid (Nat.le_trans (Nat.le_trans HB.out.size HB2.out.size) HB0.out.size)
                have HCN := Lib.hid (fun (X : World) (hX : Below W0.heap.size W0 X) => (row_news span_two (row_take (Row.below HR2.out (HB0.out.trans (hX.mono HB0.out.size))) m)).2)
                clear hW0
                go_upto_region 11 with (at_builtin; refine wpList_append_rows (by rfl) (.tmp 67) (.tmp 70) _ (by rfl) W0.heap.size 58 i1 _ 2 16 Tryd.underlying62 hj hy0 hy1 hy2 rfl (by decide) _ 0 [] (by rfl) (ownr_empty (heap_alloc_new _ _) (Nat.le_refl _)) (some ad) m c (cellsF Span.cells (L.take m)) (by rfl) HCL.out HA0.out (fun ad e j u h => HCN.out _ ((Below.refl _ _).alloc (Nat.le_refl _) _) ad e j u h) spans_one h63 hby (by simp) ?_; intro v3 w3 hown3 hg3; rw [Nat.zero_add, List.nil_append] at hown3; have HO3 := Lib.hid hown3; have HG3 := Lib.hid hg3; clear hown3 hg3)
                have HW3 := Lib.hid (((Below.refl W0.heap.size W0).alloc (Nat.le_refl _) (.cells #[] 58)).trans (below_of_only HG3.out (by simp) (fun e he => by have : W0.heap.size = e := (by simpa [Value.ownBlock] using he); omega)))
                have hs3 := HW3.out.size
                have hx3 := HX2.out.below (HB0.out.trans (HW3.out.mono HB0.out.size)) HX2.out.lt
                have y0 := hx3.cell 0
                have y1 := hx3.cell 1
                simp at y0 y1
                have hrl : wr.heap.size < W0.heap.size := Nat.lt_of_lt_of_le HX2.out.lt HB0.out.size
                have hrl3 : wr.heap.size < w3.heap.size := Nat.lt_of_lt_of_le hrl hs3
                have KS := Lib.hid (fun (X : World) (hX : Below W0.heap.size w3 X) => (⟨HW3.out.trans hX, (hX.cell (p := ⟨wr.heap.size, 0, none⟩) hrl).trans y0, (hX.cell (p := ⟨wr.heap.size, 1, none⟩) hrl).trans y1⟩ : Below W0.heap.size W0 X ∧ X.cell? ⟨wr.heap.size, 0, none⟩ = some (.int .u64 (pa : Int)) ∧ X.cell? ⟨wr.heap.size, 1, none⟩ = some (.int .u64 (hi : Int))))
                have HDR := Lib.hid (fun (X : World) (hX : Below W0.heap.size W0 X) => cut_behind (i := m) span_two (Row.below HR2.out (HB0.out.trans (hX.mono HB0.out.size))) HM.out HMC.out)
                have h63b : m + 1 ≤ maxLen := by unfold maxLen; omega
                have hbyb : (m + 1) * 16 ≤ 140737488355328 := by omega
                have h63c : m + 1 + (M - m) ≤ maxLen := by unfold maxLen; omega
                have hbyc : (m + 1 + (M - m)) * 16 ≤ 140737488355328 := by omega
                clear y0 y1 hx3
                have HBW := Lib.hid (HB.out.trans ((HB2.out.trans ((HB0.out.trans (HW3.out.mono HB0.out.size)).mono HB2.out.size)).mono HB.out.size))
                have HFIN := Lib.hid (fun (W : World) (v : Value) (h : W.ownsRow W0.heap.size 58 2 v (m + 1 + (M - m)) ((cellsF Span.cells (L.take m) ++ (#[.int .u64 (pa : Int), .int .u64 (hi : Int)] : Array Value).toList) ++ cellsF Span.cells (L.drop m))) => (by
                  have hlen : (L.take m ++ (⟨pa, hi⟩ : Span) :: L.drop m).length = m + 1 + (M - m) := by
                    have := HM.out
                    simp only [List.length_append, List.length_cons, List.length_take, List.length_drop]
                    omega
                  have hce : cellsF Span.cells (L.take m ++ (⟨pa, hi⟩ : Span) :: L.drop m) = (cellsF Span.cells (L.take m) ++ (#[.int .u64 (pa : Int), .int .u64 (hi : Int)] : Array Value).toList) ++ cellsF Span.cells (L.drop m) := by
                    rw [show L.take m ++ (⟨pa, hi⟩ : Span) :: L.drop m = (L.take m ++ [⟨pa, hi⟩]) ++ L.drop m by simp, cellsF_append, cellsF_append, cellsF_one]; rfl
                  rw [HTK.out, HCUT.out]
                  show World.ownsRow _ _ _ _ _ (L.take m ++ (⟨pa, hi⟩ : Span) :: L.drop m).length (cellsF Span.cells (L.take m ++ (⟨pa, hi⟩ : Span) :: L.drop m))
                  rw [hlen, hce]
                  exact ⟨h.1, h.2.imp id (fun ⟨g, cap, cur, a, b, r⟩ => ⟨g, cap, cur, a, Nat.le_trans HWB.out b, r⟩)⟩ : OwnSp W w.heap.size v (imagesG ((P.zip S).take (k + 1)))))
                go_region_held_law (fun X => Below W0.heap.size W0 X ∧ X.cell? ⟨wr.heap.size, 0, none⟩ = some (.int .u64 (pa : Int)) ∧ X.cell? ⟨wr.heap.size, 1, none⟩ = some (.int .u64 (hi : Int)))
                  ((refine KS.out _ ?_; repeat' (first | (with_reducible assumption) | (with_reducible exact Below.refl _ _) | (with_reducible refine Below.drew ?_) | (with_reducible refine Below.alloc ?_ ?_ _) | omega | (simp; done) | (simp; omega))))
                  (first
                    | (refine step_rows (by rfl) (.tmp 72) (.tmp 74) _ (by rfl) W0.heap.size 58 i1 _ 2 16 Tryd.underlying62 hj hy0 hy1 hy2 (by rfl) (by decide) v3 m (cellsF Span.cells (L.take m)) (by rfl) (row_below HO3.out (by repeat' (first | (with_reducible exact Below.refl _ _) | (with_reducible refine Below.drew ?_) | (with_reducible refine Below.alloc ?_ ?_ _) | (simp; done) | omega))) (some ⟨_, 0, none⟩) 1 _ (#[.int .u64 (pa : Int), .int .u64 (hi : Int)] : Array Value).toList (by rfl) (by rfl) (fun e => by cases e) (fun ad e j u h => (by injection e with e; subst e; exact World.news_of_block (fr := (0, 0)) (heap_alloc_new _ _) j u h)) (by intro u hu; simp only [List.mem_cons, List.not_mem_nil, or_false] at hu; rcases hu with rfl | rfl <;> rfl) h63b hbyb (by first | (simp; done) | (simp; omega)) ?_; intro v4 w4 hown4 hg4; have HO4 := Lib.hid hown4; have HB4 := Lib.hid (Below.trans (show Below W0.heap.size w3 _ by repeat' (first | (with_reducible exact Below.refl _ _) | (with_reducible refine Below.drew ?_) | (with_reducible refine Below.alloc ?_ ?_ _) | (simp; done) | omega)) (below_of_only hg4 (by first | (simp; done) | (simp; omega)) (fun e he => (HO3.out.lt e he).1))); have hb4 := HB4.out; have hs4 := hb4.size; clear hown4 hg4)
                    | (refine step_rows (by rfl) (.tmp 75) (.tmp 78) _ (by rfl) W0.heap.size 58 i1 _ 2 16 Tryd.underlying62 hj hy0 hy1 hy2 (by rfl) (by decide) v4 (m + 1) _ (by rfl) (row_below HO4.out (by repeat' (first | (with_reducible exact Below.refl _ _) | (with_reducible refine Below.drew ?_) | (with_reducible refine Below.alloc ?_ ?_ _) | (simp; done) | omega))) _ (M - m) _ (cellsF Span.cells (L.drop m)) (by rfl) (HDR.out _ (KS.out _ (by repeat' (first | (with_reducible exact hb4) | (with_reducible refine Below.drew ?_) | (with_reducible refine Below.alloc ?_ ?_ _) | (simp; done) | omega))).1).2.1 (HDR.out W0 (Below.refl _ _)).1 (HDR.out _ (KS.out _ (by repeat' (first | (with_reducible exact hb4) | (with_reducible refine Below.drew ?_) | (with_reducible refine Below.alloc ?_ ?_ _) | (simp; done) | omega))).1).2.2 spans_one h63c hbyc (by omega) ?_; intro v5 w5 hown5 hg5; have HO5 := Lib.hid hown5; have HB5 := Lib.hid (hb4.trans (below_of_only hg5 (by omega) (fun e he => (HO4.out.lt e he).1))); have hb5 := HB5.out; clear hown5 hg5))
                all_goals go_wp2_with fail
                all_goals go_roundg (N - (k + 1))
                all_goals first
                  | (exact ⟨k + 1, HLT.out, rfl, by go_num, Lib.hid (HFIN.out _ _ HO5.out), Lib.hid (HBW.out.trans (HB5.out.mono HWB.out))⟩)
                  | (have := HLT.out; omega)
    · have hkN : k = N := by omega
      subst hkN
      have HT0 := Lib.hid (show (P.zip S).take k = P.zip S from List.take_of_length_le (by rw [List.length_zip, HSN.out, HN.out]; omega))
      rw [HT0.out] at HO
      have HO := Lib.hid HO.out
      go_wp2_with fail
      go_ret
      exact ⟨_, rfl, HO.out, HB.out⟩

end Go.Proofs.YtejicboemkpeoaaDoor
