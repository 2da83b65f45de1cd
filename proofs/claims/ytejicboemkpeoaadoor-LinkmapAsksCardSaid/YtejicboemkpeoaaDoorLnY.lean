/-
  What a map that may be tells of its addresses: plain facts.
-/
import Derived.Test.YtejicboemkpeoaaDoorLnR
import Derived.Test.YtejicboemkpeoaaDoorLnW
import Derived.Test.YtejicboemkpeoaaDoorOcC
namespace Go.Proofs.YtejicboemkpeoaaDoor
open Go Go.RowKit

def exL11 (g : Nat) : List Lay := [⟨zeroS, none, 0⟩, ⟨{ zeroS with flags := 2, data := List.replicate 8 0 }, some ⟨g, 0, none⟩, 8⟩]
def exO11 (g s : Nat) : ObjV := ⟨0, 0, some ⟨s, 0, none⟩, 2, exL11 g, none, 0, [], none, 0, []⟩
def exP11 : List Place := [⟨0, 1, 4096⟩]
theorem ex11_size (g s : Nat) : sizK [exO11 g s] ⟨0, 1, 4096⟩ = 8 := rfl
theorem ex11_imgs (g s : Nat) : imgsP [exO11 g s] exP11 = [⟨4096, 4104, 0, 1⟩] := by
  simp [imgsP, exP11, imgP, ex11_size]
theorem ex11_good (g s : Nat) : goodP [exO11 g s] [] [] ⟨0, 1, 4096⟩ = true := by
  have h : secK [exO11 g s] 0 1 = some ⟨{ zeroS with flags := 2, data := List.replicate 8 0 }, some ⟨g, 0, none⟩, 8⟩ := rfl
  simp [goodP, h, outB, memB, outK, firstK, zeroS]
theorem ex11_ref (g s : Nat) : refM [exO11 g s] [] exP11 [] = false := by
  have h1 : goodPs [exO11 g s] [] exP11 1 = true := by
    rw [show (1 : Nat) = 0 + 1 from rfl, goodPs_next (k := 0) (p := ⟨0, 1, 4096⟩) rfl, show exP11.take 0 = [] from rfl, ex11_good]; rfl
  unfold refM
  rw [show exP11.length = 1 from rfl, h1]
  rfl
theorem ex11_apart (g s : Nat) : ApartI (imgsP [exO11 g s] exP11) := by
  rw [ex11_imgs]
  exact List.pairwise_singleton _ _
theorem ex11_hex : digB 16 4096 = [49, 48, 48, 48] := by
  rw [digB_next (by decide) (by decide), digB_next (by decide) (by decide), digB_next (by decide) (by decide), digB_low (by decide)]
  decide
theorem ex11_text : textM exP11 [] = [112, 108, 97, 99, 101, 32, 48, 32, 49, 32, 49, 48, 48, 48, 10] := by
  have h0 : decB 0 = [48] := by unfold decB; rw [if_neg (by decide), digB_low (by decide)]; decide
  have h1 : decB 1 = [49] := by unfold decB; rw [if_neg (by decide), digB_low (by decide)]; decide
  simp [textM, exP11, placeT, h0, h1, ex11_hex]
theorem ex11_at {R : List Img} {g s : Nat} (h : R.Perm (imgsP [exO11 g s] exP11)) : R = [⟨4096, 4104, 0, 1⟩] := by
  rw [ex11_imgs] at h
  exact List.perm_singleton.1 h
/-- A map of nothing. -/
structure NoMap (w : World) (v : Value) : Prop where
  imgs : ImgsAt w v []
  places : PlacesAt w v []
  syms : SymsAt w v []
theorem NoMap.below {w w' : World} {v : Value} (h : NoMap w v) (hb : Below w.heap.size w w') : NoMap w' v := ⟨h.imgs.below hb, h.places.below hb, h.syms.below hb⟩
theorem noMap_nil (w : World) : NoMap w (.pointer none) := ⟨.inl ⟨rfl, rfl⟩, .inl ⟨rfl, rfl⟩, .inl ⟨rfl, rfl⟩⟩
theorem noMap_zero {w : World} {g : Nat} (h : Box w g 77 #[.map none, .slice none 0 0, .map none]) : NoMap w (.pointer (some ⟨g, 0, none⟩)) :=
  ⟨.inr ⟨g, _, _, none, 0, 0, rfl, h, fun h => absurd h (by decide), Nat.zero_le _⟩, .inr ⟨g, _, _, _, rfl, h, .inl ⟨rfl, rfl⟩⟩, .inr ⟨g, _, _, _, rfl, h, .inl ⟨rfl, rfl⟩⟩⟩

theorem ex11_fits : (zeroS).Fits ∧ ({ zeroS with flags := 2, data := List.replicate 8 0 } : Sect).Fits := by
  refine ⟨fits_small _ ?_, fits_small _ ?_⟩ <;> (unfold InI zeroS; refine ⟨?_, ?_, ?_, ?_, ?_, ?_, ?_, ?_, ?_⟩ <;> decide)

/-- What a map of nothing tells. -/
structure NoSays (W : World) (v : Value) : Prop where
  out : Calls Tryd.prog 10 #[v, .int .i64 0, .int .i64 0] W fun r w' => r = .returned (.tuple #[.int .u64 0, .bool false]) ∧ w' = W
  has : Calls Tryd.prog 14 #[v, .int .u64 0] W fun r w' => r = .returned (.bool false) ∧ Below W.heap.size W w'
  whole : Calls Tryd.prog 15 #[v, .agg #[.int .u64 0, .int .u64 1]] W fun r w' => r = .returned (.bool false) ∧ Below W.heap.size W w'
  sym : Calls Tryd.prog 17 #[v, .string ⟨#[120]⟩] W fun r w' => r = .returned (.int .u64 18446744073709551615) ∧ w' = W
  images : Calls Tryd.prog 20 #[v] W fun r w' => ∃ A c, r = .returned (.slice A 0 c) ∧ Below W.heap.size W w'
theorem NoMap.says {W : World} {v : Value} (h : NoMap W v) : NoSays W v := by
  refine ⟨lnout_any h.places (o := 0) (s := 0) (by unfold InI; decide) (by unfold InI; decide), lhas_any h.imgs List.Pairwise.nil (fun x hx => by cases hx) (Nat.zero_le _) 0, whole_any h.imgs List.Pairwise.nil (fun x hx => by cases hx) (Nat.zero_le _) 0 1, lnsym_any h.syms (n := [120]) (by decide), ?_⟩
  refine (images_any h.imgs (Nat.zero_le _)).mono ?_
  rintro r w' ⟨u, rfl, ho, hb⟩
  obtain ⟨A, c, rfl, _, _, _⟩ := owng_row ho
  exact ⟨A, c, rfl, hb⟩

set_option maxRecDepth 10000 in
set_option maxHeartbeats 1600000 in
theorem works11_any {w : World} (hT : Tabs w) :
    Calls Tryd.prog 6 #[] w fun r w' => r = .returned (.bool true) ∧ Below w.heap.size w w' := by
  obtain ⟨i0, hi, hz0, hz1, hz2⟩ := info_parts u8_info
  have HT := Lib.hid hT
  clear hT
  go_enter Tryd.func6, Tryd.ntmps6
  go_upto_region 2 with fail
  go_upto_region 3 with (at_make; refine wpList_make_bytes rfl _ _ 68 rfl i0 Tryd.underlying68 hi hz0 hz1 hz2 8 (by decide) rfl rfl (w.heap.size + 2) (by simp) ?_; intro w2 hr2 hb2)
  have hs2 := hb2.size
  generalize hw1 : (w.alloc (.cells #[.int .i64 0, .int .i64 1, .int .u64 4096] 43)).alloc (.cells #[.slice (some ⟨w.heap.size, 0, none⟩) 1 1, .slice none 0 0] 25) = w1 at *
  have hs1 : w1.heap.size = w.heap.size + 2 := by rw [← hw1]; simp
  have b1 : Below w.heap.size w w1 := hw1 ▸ ((Below.refl _ _).alloc (Nat.le_refl _) _).alloc (by simp) _
  have hX1 : Box w1 (w.heap.size + 1) 25 #[.slice (some ⟨w.heap.size, 0, none⟩) 1 1, .slice none 0 0] := by
    rw [← hw1]
    have h := Box.new (w.alloc (.cells #[.int .i64 0, .int .i64 1, .int .u64 4096] 43)) 25 #[.slice (some ⟨w.heap.size, 0, none⟩) 1 1, .slice none 0 0]
    rwa [show (w.alloc (.cells #[.int .i64 0, .int .i64 1, .int .u64 4096] 43)).heap.size = w.heap.size + 1 by simp] at h
  have hP1 : Row 3 Place.cells w1 (w.heap.size + 1) (some ⟨w.heap.size, 0, none⟩) exP11 := by
    rw [← hw1]
    have h := lit_row place_three w 43 exP11
    rw [show (cellsF Place.cells exP11).toArray = #[.int .i64 0, .int .i64 1, .int .u64 4096] from rfl] at h
    exact Row.below h ((Below.refl _ _).alloc (by simp) _)
  have hRd : Rd w2 w2.heap.size (some ⟨w.heap.size + 2, 0, none⟩) (List.replicate 8 0) := by
    obtain ⟨A, c, e, _, _, hr⟩ := own_slice (RowB.own (base := w.heap.size + 2) hr2 (Nat.le_refl _) (by decide))
    injection e with e1
    rwa [← e1] at hr
  have h3 := secs_lit (w := w2) (L := exL11 (w.heap.size + 2)) (fun x hx => by
    simp only [exL11, List.mem_cons, List.not_mem_nil, or_false] at hx
    obtain ⟨f1, f2⟩ := ex11_fits
    rcases hx with rfl | rfl
    · exact ⟨Rd.nil_, Nat.le_refl _, Nat.zero_le _, f1⟩
    · exact ⟨hRd, Nat.le_refl _, show (8 : Nat) ≤ maxLen by decide, f2⟩)
  rw [show (cellsL (exL11 (w.heap.size + 2))).toArray = #[.string ⟨#[]⟩, .int .i64 0, .int .u64 0, .int .u64 0, .slice none 0 0, .int .i64 0, .int .i64 0, .int .i64 0, .int .i64 0, .string ⟨#[]⟩, .int .i64 0, .int .u64 2, .int .u64 0, .slice (some ⟨w.heap.size + 2, 0, none⟩) 8 8, .int .i64 0, .int .i64 0, .int .i64 0, .int .i64 0] from rfl] at h3
  have b3 : Below w2.heap.size w2 (w2.alloc (.cells #[.string ⟨#[]⟩, .int .i64 0, .int .u64 0, .int .u64 0, .slice none 0 0, .int .i64 0, .int .i64 0, .int .i64 0, .int .i64 0, .string ⟨#[]⟩, .int .i64 0, .int .u64 2, .int .u64 0, .slice (some ⟨w.heap.size + 2, 0, none⟩) 8 8, .int .i64 0, .int .i64 0, .int .i64 0, .int .i64 0] 70)) := (Below.refl _ _).alloc (Nat.le_refl _) _
  have z3 : (w2.alloc (.cells #[.string ⟨#[]⟩, .int .i64 0, .int .u64 0, .int .u64 0, .slice none 0 0, .int .i64 0, .int .i64 0, .int .i64 0, .int .i64 0, .string ⟨#[]⟩, .int .i64 0, .int .u64 2, .int .u64 0, .slice (some ⟨w.heap.size + 2, 0, none⟩) 8 8, .int .i64 0, .int .i64 0, .int .i64 0, .int .i64 0] 70)).heap.size = w2.heap.size + 1 := by simp
  generalize hw3 : w2.alloc (.cells #[.string ⟨#[]⟩, .int .i64 0, .int .u64 0, .int .u64 0, .slice none 0 0, .int .i64 0, .int .i64 0, .int .i64 0, .int .i64 0, .string ⟨#[]⟩, .int .i64 0, .int .u64 2, .int .u64 0, .slice (some ⟨w.heap.size + 2, 0, none⟩) 8 8, .int .i64 0, .int .i64 0, .int .i64 0, .int .i64 0] 70) = w3 at *
  have h4 := lit_row obj_cells w3 71 [exO11 (w.heap.size + 2) w2.heap.size]
  rw [show (cellsF ObjV.cells [exO11 (w.heap.size + 2) w2.heap.size]).toArray = #[.int .i64 0, .int .i64 0, .slice (some ⟨w2.heap.size, 0, none⟩) 2 2, .slice none 0 0, .slice none 0 0] from rfl, z3] at h4
  have b4 : Below w3.heap.size w3 (w3.alloc (.cells #[.int .i64 0, .int .i64 0, .slice (some ⟨w2.heap.size, 0, none⟩) 2 2, .slice none 0 0, .slice none 0 0] 71)) := (Below.refl _ _).alloc (Nat.le_refl _) _
  have z4 : (w3.alloc (.cells #[.int .i64 0, .int .i64 0, .slice (some ⟨w2.heap.size, 0, none⟩) 2 2, .slice none 0 0, .slice none 0 0] 71)).heap.size = w3.heap.size + 1 := by simp
  generalize hw4 : w3.alloc (.cells #[.int .i64 0, .int .i64 0, .slice (some ⟨w2.heap.size, 0, none⟩) 2 2, .slice none 0 0, .slice none 0 0] 71) = w4 at *
  have b24 : Below w2.heap.size w2 w4 := b3.trans (b4.mono (by omega))
  have b14 : Below w1.heap.size w1 w4 := hb2.trans (b24.mono hs2)
  have hO : Objs w4 w4.heap.size (some ⟨w2.heap.size + 1, 0, none⟩) [exO11 (w.heap.size + 2) w2.heap.size] := ⟨Row.more h4 (by omega), fun o ho => by
    rw [List.mem_singleton.1 ho]
    exact ⟨(h3.below (b4.mono (by omega))).more (by omega), fun h => absurd h (Nat.lt_irrefl 0), ⟨fun h => absurd h (Nat.lt_irrefl 0), fun q hq => by cases hq⟩, Nat.le_refl 2, Nat.le_refl 0⟩⟩
  have hPP : Row 3 Place.cells w4 w4.heap.size (some ⟨w.heap.size, 0, none⟩) exP11 := Row.more (Row.below hP1 (b14.mono (by omega))) (by omega)
  have hXX : Box w4 (w.heap.size + 1) 25 #[.slice (some ⟨w.heap.size, 0, none⟩) 1 1, .slice none 0 0] := hX1.below b14 hX1.lt
  have HB4 := Lib.hid (b1.trans (b14.mono b1.size))
  have HPN : ∀ p ∈ exP11, p.Nums := fun p hp => by
    rw [List.mem_singleton.1 hp]
    exact ⟨by unfold InI; decide, by unfold InI; decide, by decide⟩
  have HNEW := Lib.hid ((lnew_any (cP := 1) (cY := 0) (cO := 1) (cQ := 0) (Y := []) (Q := []) (aY := none) (aQ := none) hPP (fun h => absurd h (by decide)) HPN (fun y hy => by cases hy) (fun y hy => by cases hy) hO ⟨fun h => absurd h (by decide), fun q hq => by cases hq⟩ (fun ob hob => by rw [List.mem_singleton.1 hob]; exact (by decide : 2 ≤ 100000)) (fun ob hob x hx => by
    rw [List.mem_singleton.1 hob] at hx
    simp only [exO11, exL11, List.mem_cons, List.not_mem_nil, or_false] at hx
    rcases hx with rfl | rfl
    · exact ⟨by simp [zeroS], show (0 : Nat) < two64 by decide⟩
    · exact ⟨by simp, show (2 : Nat) < two64 by decide⟩)).mono (fun r w' h => (by
      obtain ⟨hb, -, h2⟩ := h
      obtain ⟨g, hr, hL⟩ := (h2 (ex11_ref _ _)).2 (ex11_apart _ _)
      obtain ⟨R, h3, h4, h5, h6⟩ := hL.imgs
      rw [ex11_at h4] at h3
      exact ⟨g, hr, Lib.hid hb, Lib.hid h3, Lib.hid hL.syms⟩ : ∃ g, r = .returned (.tuple #[.pointer (some ⟨g, 0, none⟩), .int .i64 0]) ∧ Hid (Below w4.heap.size w4 w') ∧ Hid (ImgsAt w' (.pointer (some ⟨g, 0, none⟩)) [⟨4096, 4104, 0, 1⟩]) ∧ Hid (SymsAt w' (.pointer (some ⟨g, 0, none⟩)) []))))
  have x0 := hXX.cell 0
  have x1 := hXX.cell 1
  simp only [List.getElem?_toArray, List.getElem?_cons_zero, List.getElem?_cons_succ] at x0 x1
  have HPR := Lib.hid hPP
  have HPN := Lib.hid HPN
  clear hw1 hw3 hw4 hO hPP h4 h3 hP1 hX1 hr2 hRd hs2 hs1 b1 b3 z3 b4 z4 b24 b14 hi hz0 hz1 hz2 hb2
  go_upto_region 4 with (go_at_call 7; refine HNEW.out.mono ?_; rintro r w5 ⟨g, rfl, HB5, HI5, HS5⟩)
  obtain ⟨y0, y1⟩ : w5.cell? ⟨w.heap.size + 1, 0, none⟩ = some (.slice (some ⟨w.heap.size, 0, none⟩) 1 1) ∧ w5.cell? ⟨w.heap.size + 1, 1, none⟩ = some (.slice none 0 0) := by
    have h := hXX.below HB5.out hXX.lt
    exact ⟨by rw [h.cell]; rfl, by rw [h.cell]; rfl⟩
  have HB15 := Lib.hid (HB4.out.trans (HB5.out.mono HB4.out.size))
  have HTX := Lib.hid ((text_any (w := w5) (B := w5.heap.size) (aY := none) (P := exP11) (Y := []) 1 0 (HT.out.below HB15.out) (Row.more (Row.below HPR.out HB5.out) HB5.out.size) (fun h => absurd h (by decide)) (Nat.le_refl _) HPN.out (fun y hy => by cases hy) (by decide) (by decide) (by rw [ex11_text]; decide)).mono (fun r w' h => (by
      obtain ⟨v, hr, ho, hb⟩ := h
      rw [ex11_text] at ho
      exact ⟨v, hr, Lib.hid (conv_own ho), Lib.hid hb, Lib.hid (HI5.out.below hb), Lib.hid (HS5.out.below hb)⟩ : ∃ v, r = .returned v ∧ Hid ((convert 68 9 v).run Tryd.prog w' = .ok (.string ⟨#[112, 108, 97, 99, 101, 32, 48, 32, 49, 32, 49, 48, 48, 48, 10]⟩) w') ∧ Hid (Below w5.heap.size w5 w') ∧ Hid (ImgsAt w' (.pointer (some ⟨g, 0, none⟩)) [⟨4096, 4104, 0, 1⟩]) ∧ Hid (SymsAt w' (.pointer (some ⟨g, 0, none⟩)) []))))
  have hp1 : PartI [⟨4096, 4104, 0, 1⟩] := List.pairwise_singleton _ _
  have hl1 : ∀ x ∈ [(⟨4096, 4104, 0, 1⟩ : Img)], x.lo ≤ x.hi := fun x hx => by rw [List.mem_singleton.1 hx]; decide
  have HA1 := Lib.hid (fun W (h : ImgsAt W (.pointer (some ⟨g, 0, none⟩)) [⟨4096, 4104, 0, 1⟩]) => lhas_any h hp1 hl1 (by decide) 4103)
  have HA2 := Lib.hid (fun W (h : ImgsAt W (.pointer (some ⟨g, 0, none⟩)) [⟨4096, 4104, 0, 1⟩]) => lhas_any h hp1 hl1 (by decide) 4104)
  have e1 : (atI [⟨4096, 4104, 0, 1⟩] 4103).isSome = true := by simp [atI]
  have e2 : (atI [⟨4096, 4104, 0, 1⟩] 4104).isSome = false := by simp [atI]
  rw [e1] at HA1
  rw [e2] at HA2
  have HSY := Lib.hid (fun W (h : SymsAt W (.pointer (some ⟨g, 0, none⟩)) []) => lnsym_any (n := [120]) h (by decide))
  rw [show ((nameA [] [120] : Nat) : Int) = 18446744073709551615 from rfl] at HSY
  clear hp1 hl1 e1 e2 x0 x1
  go_upto_region 6 with (first
    | (go_at_call 23; refine HTX.out.mono ?_; rintro r w6 ⟨v6, rfl, HC6, HB6, HI6, HS6⟩; have hc6 := HC6.out)
    | (go_at_call 14; refine (HA1.out _ HI6.out).mono ?_; rintro r w7 ⟨rfl, hb7⟩; have HB7 := Lib.hid hb7; have HI7 := Lib.hid (HI6.out.below hb7); have HS7 := Lib.hid (HS6.out.below hb7); clear hb7 HA1)
    | (go_at_call 14; refine (HA2.out _ HI7.out).mono ?_; rintro r w8 ⟨rfl, hb8⟩; have HB8 := Lib.hid hb8; have HS8 := Lib.hid (HS7.out.below hb8); clear hb8)
    | (go_at_call 17; refine (HSY.out _ HS8.out).mono ?_; rintro r w9 ⟨rfl, rfl⟩))
  have HB9 := Lib.hid (HB15.out.trans ((HB6.out.trans ((HB7.out.trans (HB8.out.mono HB7.out.size)).mono HB6.out.size)).mono HB15.out.size))
  generalize hw10 : (w9.alloc (.cells #[.map none, .slice none 0 0, .map none] 77)).alloc (.cells #[.pointer none, .pointer (some ⟨w9.heap.size, 0, none⟩)] 32) = w10 at *
  have b10 : Below w9.heap.size w9 w10 := hw10 ▸ ((Below.refl _ _).alloc (Nat.le_refl _) _).alloc (by simp) _
  have hXZ : Box w10 w9.heap.size 77 #[.map none, .slice none 0 0, .map none] := by
    rw [← hw10]
    exact (Box.new w9 77 _).below ((Below.refl _ _).alloc (Nat.le_refl _) _) (by simp)
  have hXR : Box w10 (w9.heap.size + 1) 32 #[.pointer none, .pointer (some ⟨w9.heap.size, 0, none⟩)] := by
    rw [← hw10]
    have h := Box.new (w9.alloc (.cells #[.map none, .slice none 0 0, .map none] 77)) 32 #[.pointer none, .pointer (some ⟨w9.heap.size, 0, none⟩)]
    rwa [show (w9.alloc (.cells #[.map none, .slice none 0 0, .map none] 77)).heap.size = w9.heap.size + 1 by simp] at h
  have HB10 := Lib.hid (HB9.out.trans (b10.mono HB9.out.size))
  have HNM := Lib.hid (fun W (hW : Below w10.heap.size w10 W) => (⟨noMap_nil W, (noMap_zero hXZ).below hW, by have h := hXR.below hW hXR.lt; exact ⟨by rw [h.cell]; rfl, by rw [h.cell]; rfl⟩⟩ : NoMap W (.pointer none) ∧ NoMap W (.pointer (some ⟨w9.heap.size, 0, none⟩)) ∧ W.cell? ⟨w9.heap.size + 1, 0, none⟩ = some (.pointer none) ∧ W.cell? ⟨w9.heap.size + 1, 1, none⟩ = some (.pointer (some ⟨w9.heap.size, 0, none⟩))))
  have HW10 := Lib.hid hw10
  clear hw10 b10 hXZ hXR y0 y1 hXX HB4 HNEW HB5 HI5 HS5 HB15 HTX HA2 HSY HC6 hc6 HB6 HI6 HS6 HB7 HI7 HS7 HB8 HS8 HB9 HPR HPN HT
  go_upto_region 7 with fail
  rw [HW10.out]
  clear HW10
  go_loopg [50] 2 (fun gk i wr => ∃ k : Nat, k ≤ 2 ∧ gk = 2 - k ∧ i = .int .i64 k ∧ Hid (Below w10.heap.size w10 wr))
  case atStart => exact ⟨0, Nat.zero_le _, rfl, rfl, Lib.hid (Below.refl _ _)⟩
  case round =>
    obtain ⟨k, hk, rfl, rfl, HB⟩ := hrel
    obtain ⟨hn0, hn1, x0, x1⟩ := HNM.out _ HB.out
    have HN := Lib.hid (show ∀ v, v = .pointer none ∨ v = .pointer (some ⟨w9.heap.size, 0, none⟩) → ∀ W, Below wr.heap.size wr W → NoSays W v from fun v hv W hW => by
      rcases hv with rfl | rfl
      · exact (hn0.below hW).says
      · exact (hn1.below hW).says)
    clear hn0 hn1
    by_cases hk2 : k = 2
    · subst hk2
      go_wp2_with fail
      go_ret
      exact ⟨rfl, HB10.out.trans (HB.out.mono HB10.out.size)⟩
    · have hk01 : k = 0 ∨ k = 1 := by omega
      clear hk hk2
      rcases hk01 with rfl | rfl
      · have HN := Lib.hid (HN.out _ (.inl rfl))
        go_wp2_with (first
          | (go_at_call 10; refine (HN.out _ (Below.refl _ _)).out.mono ?_; rintro r w2 ⟨rfl, rfl⟩)
          | (go_at_call 14; refine (HN.out _ (Below.refl _ _)).has.mono ?_; rintro r w3 ⟨rfl, hb3⟩; have HB3 := Lib.hid hb3; clear hb3)
          | (go_at_call 15; refine (HN.out _ HB3.out).whole.mono ?_; rintro r w4 ⟨rfl, hb4⟩; have HB4 := Lib.hid (HB3.out.trans (hb4.mono HB3.out.size)); clear hb4)
          | (go_at_call 17; refine (HN.out _ HB4.out).sym.mono ?_; rintro r w5 ⟨rfl, rfl⟩)
          | (go_at_call 20; refine (HN.out _ HB4.out).images.mono ?_; rintro r w6 ⟨A6, c6, rfl, hb6⟩; have HB6 := Lib.hid (HB4.out.trans (hb6.mono HB4.out.size)); clear hb6))
        go_roundg 1
        case measure => omega
        case rel => exact ⟨1, by omega, rfl, rfl, Lib.hid (HB.out.trans (HB6.out.mono HB.out.size))⟩
      · have HN := Lib.hid (HN.out _ (.inr rfl))
        go_wp2_with (first
          | (go_at_call 10; refine (HN.out _ (Below.refl _ _)).out.mono ?_; rintro r w2 ⟨rfl, rfl⟩)
          | (go_at_call 14; refine (HN.out _ (Below.refl _ _)).has.mono ?_; rintro r w3 ⟨rfl, hb3⟩; have HB3 := Lib.hid hb3; clear hb3)
          | (go_at_call 15; refine (HN.out _ HB3.out).whole.mono ?_; rintro r w4 ⟨rfl, hb4⟩; have HB4 := Lib.hid (HB3.out.trans (hb4.mono HB3.out.size)); clear hb4)
          | (go_at_call 17; refine (HN.out _ HB4.out).sym.mono ?_; rintro r w5 ⟨rfl, rfl⟩)
          | (go_at_call 20; refine (HN.out _ HB4.out).images.mono ?_; rintro r w6 ⟨A6, c6, rfl, hb6⟩; have HB6 := Lib.hid (HB4.out.trans (hb6.mono HB4.out.size)); clear hb6))
        go_roundg 0
        case measure => omega
        case rel => exact ⟨2, by omega, rfl, rfl, Lib.hid (HB.out.trans (HB6.out.mono HB.out.size))⟩

end Go.Proofs.YtejicboemkpeoaaDoor

namespace Go.Proofs.YtejicboemkpeoaaDoor
open Go Go.RowKit

theorem okTo_at {ok : Nat → Bool} {n i : Nat} (h : okTo ok n = true) (hi : i < n) : ok i = true := by
  unfold okTo at h
  rw [List.all_eq_true] at h
  exact h i (List.mem_range.2 hi)
theorem ref_good {O : List ObjV} {Q : List BLay} {P : List Place} {Y : List Named} (h : refM O Q P Y = false) : P.length ≤ 200 ∧ Y.length ≤ 200 ∧ ∀ i p, P[i]? = some p → goodP O Q (P.take i) p = true := by
  unfold refM at h
  simp only [Bool.or_eq_false_iff, decide_eq_false_iff_not, Bool.not_eq_false'] at h
  obtain ⟨⟨h1, h2⟩, h3, -⟩ := h
  refine ⟨by omega, by omega, fun i p hp => ?_⟩
  have := okTo_at h3 (List.getElem?_eq_some_iff.1 hp).1
  simpa only [hp] using this
theorem goodP_parts {O : List ObjV} {Q : List BLay} {P : List Place} {p : Place} (h : goodP O Q P p = true) : outK P p.obj p.sect = none ∧ p.addr + sizK O p < 18446744073709551615 ∧ ∃ x, secK O p.obj p.sect = some x := by
  unfold goodP at h
  unfold sizK
  cases hs : secK O p.obj p.sect with
  | none => rw [hs] at h; cases h
  | some x =>
    rw [hs] at h
    simp only [Bool.and_eq_true, decide_eq_true_eq, Option.isNone_iff_eq_none] at h
    obtain ⟨-, -, h1, h2⟩ := h
    exact ⟨h1, by show p.addr + x.s.data.length < _; omega, x, rfl⟩
theorem firstK_noneP {α : Type} {p : α → Bool} : ∀ {l : List α} {i : Nat}, firstK p i l = none → ∀ x ∈ l, p x = false
  | [], _, _, x, hx => by cases hx
  | y :: l, i, h, x, hx => by
    unfold firstK at h
    split at h
    · cases h
    · rename_i hy
      rcases List.mem_cons.1 hx with rfl | hx
      · simpa using hy
      · exact firstK_noneP h x hx

/-- What is true of a map that may be, and of its images. -/
structure MapR (O : List ObjV) (P : List Place) (R : List Img) : Prop where
  mem : ∀ x ∈ R, ∃ p ∈ P, x = imgP O p
  has : ∀ p ∈ P, 0 < sizK O p → imgP O p ∈ R
  lt : ∀ x ∈ R, x.lo < x.hi
  fit : ∀ p ∈ P, p.addr + sizK O p < 18446744073709551615
  one : ∀ p ∈ P, ∀ q ∈ P, p.obj = q.obj → p.sect = q.sect → p = q
  part : PartI R
  len : R.length ≤ 200
theorem mapR_of {O : List ObjV} {Q : List BLay} {P : List Place} {Y : List Named} {R : List Img} (h : refM O Q P Y = false) (hp : R.Perm (imgsP O P)) (hr : PartI R) : MapR O P R := by
  obtain ⟨h1, -, h3⟩ := ref_good h
  have hm : ∀ p ∈ P, ∃ i, P[i]? = some p := fun p hp => List.mem_iff_getElem?.1 hp
  refine ⟨fun x hx => ?_, fun p hpP hs => ?_, fun x hx => imgsP_lt x (hp.mem_iff.1 hx), fun p hpP => ?_, ?_, hr, ?_⟩
  · have := (List.mem_filter.1 (hp.mem_iff.1 hx)).1
    obtain ⟨p, h4, h5⟩ := List.mem_map.1 this
    exact ⟨p, h4, h5.symm⟩
  · refine hp.mem_iff.2 (List.mem_filter.2 ⟨List.mem_map.2 ⟨p, hpP, rfl⟩, ?_⟩)
    exact decide_eq_true (by show p.addr < p.addr + sizK O p; omega)
  · obtain ⟨i, hi⟩ := hm p hpP
    exact (goodP_parts (h3 i p hi)).2.1
  · have key : ∀ (i j : Nat) (p q : Place), i < j → P[i]? = some p → P[j]? = some q → ¬ (p.obj = q.obj ∧ p.sect = q.sect) := fun i j p q hij hi hj ⟨e1, e2⟩ => by
      have h4 := (goodP_parts (h3 j q hj)).1
      have h5 := firstK_noneP h4 p (List.mem_of_getElem? (by rw [List.getElem?_take, if_pos hij]; exact hi))
      simp [hasP, e1, e2] at h5
    intro p hpP q hqP e1 e2
    obtain ⟨i, hi⟩ := hm p hpP
    obtain ⟨j, hj⟩ := hm q hqP
    rcases Nat.lt_trichotomy i j with hij | hij | hij
    · exact absurd ⟨e1, e2⟩ (key i j p q hij hi hj)
    · subst hij
      rw [hi] at hj
      injection hj
    · exact absurd ⟨e1.symm, e2.symm⟩ (key j i q p hij hj hi)
  · rw [hp.length_eq]
    refine Nat.le_trans (List.length_filter_le _ _) ?_
    rw [List.length_map]
    exact h1

theorem atI_mem : ∀ {R : List Img} {a : Nat} {x : Img}, PartI R → (∀ y ∈ R, y.lo < y.hi) → x ∈ R → x.lo ≤ a → a < x.hi → atI R a = some x
  | [], _, _, _, _, h, _, _ => by cases h
  | y :: R, a, x, hp, hl, hx, h1, h2 => by
    rcases List.mem_cons.1 hx with rfl | hx
    · unfold atI
      rw [List.find?_cons, decide_eq_true h2]
      simp only []
      rw [if_neg (by omega)]
    · have h3 := (List.pairwise_cons.1 hp).1 x hx
      have h4 := atI_mem (List.pairwise_cons.1 hp).2 (fun z hz => hl z (List.mem_cons_of_mem _ hz)) hx h1 h2
      unfold atI at h4 ⊢
      rw [List.find?_cons, decide_eq_false (by omega)]
      exact h4

section
variable {O : List ObjV} {P : List Place} {R : List Img}
theorem MapR.le (h : MapR O P R) : ∀ x ∈ R, x.lo ≤ x.hi := fun x hx => Nat.le_of_lt (h.lt x hx)
theorem MapR.behind (h : MapR O P R) {p : Place} (hp : p ∈ P) {y : Img} (hy : atI R (p.addr + sizK O p) = some y) : ¬ (y.obj = p.obj ∧ y.sect = p.sect) := by
  rintro ⟨e1, e2⟩
  obtain ⟨h1, h2, h3⟩ := atI_lo hy
  obtain ⟨q, hq, rfl⟩ := h.mem y h3
  have := h.one q hq p hp e1 e2
  subst this
  simp only [imgP] at h2
  omega
theorem MapR.whole (h : MapR O P R) {x : Img} (hx : x ∈ R) : wholeI R x.lo x.hi = true ∧ wholeI R x.lo (x.hi + 1) = false := by
  have h1 := h.lt x hx
  unfold wholeI
  rw [atI_mem h.part h.lt hx (Nat.le_refl _) h1]
  constructor
  · simp [h1]
  · simp
theorem MapR.hi (h : MapR O P R) {x : Img} (hx : x ∈ R) : x.hi < 18446744073709551615 := by
  obtain ⟨p, hp, rfl⟩ := h.mem x hx
  exact h.fit p hp
theorem outK_place {P : List Place} {o s : Int} (h : (outK P o s).isSome = true) : ∃ p ∈ P, p.obj = o ∧ p.sect = s ∧ outA P o s = p.addr := by
  obtain ⟨k, hk⟩ := Option.isSome_iff_exists.1 h
  obtain ⟨p, hp, h2, -⟩ := firstK_some (i := 0) (p := hasP o s) (l := P) (k := k) (by rw [Nat.zero_add]; exact hk)
  simp only [hasP, Bool.and_eq_true, decide_eq_true_eq] at h2
  exact ⟨p, List.mem_of_getElem? hp, h2.1, h2.2, by unfold outA; rw [hk]; simp only [hp]⟩
end
end Go.Proofs.YtejicboemkpeoaaDoor
