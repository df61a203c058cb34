/-
  FormulaConnectives (P7.2): for every two well-formed formulas, case that fits, and terms, negations, conjunctions and disjunctions hold exactly as they should, in both orders, and the negation of a conjunction holds exactly if the disjunction of the negations does. No condition: the statement itself asks few facts and terms and good formulas; for others it says what the law's opening check answers.
-/
import Derived.Test.YtjcaingfeaaakaaLFrameK
import Derived.Test.YtjcaingfeaaakaaMConnA
import Derived.Test.YtjcaingfeaaakaaMHeld
import Derived.Deep.RegionHeld3
import Derived.Deep.CutRange
namespace Go.Proofs.Ytjcaingfeaaakaa.formulaConnectives
open Go.ChangeShapes Go.WideShapes Go.ChangeAt Go.RowKit

set_option maxHeartbeats 16000000 in
set_option maxRecDepth 100000 in
theorem law_walk (f : Fm.Fo) (u : Value) (g : Fm.Fo) (ug : Value) (v : Value) (d : List Fc.Fact) (cv : Value) (lc : List Int) (tv : Value) (l : List Fm.T) (w : World) (hat : Fm.At w f u) (hatg : Fm.At w g ug) (hd : Fc.IsF w v d) (hc : Fc.IsN w cv lc) (ht : Fm.IsT w tv l) :
    Calls Try.prog 4 #[Fm.fv f u, Fm.fv g ug, .agg #[v], cv, tv] w fun e w' => e = .returned (.bool true) ∧ Below w.heap.size w w' := by
  obtain ⟨a, n, c, hu⟩ : ∃ a n c, u = .slice a n c := by obtain ⟨a, c, e, _⟩ := hat.kidsAt.len; exact ⟨_, _, _, e⟩
  obtain ⟨ga, gn, gc, hug⟩ : ∃ a n c, ug = .slice a n c := by obtain ⟨a, c, e, _⟩ := hatg.kidsAt.len; exact ⟨_, _, _, e⟩
  obtain ⟨va, vn, vc, hv⟩ : ∃ a n c, v = .slice a n c := by obtain ⟨a, c, e, _⟩ := hd.form; exact ⟨_, _, _, e⟩
  obtain ⟨ca, cn, cc, hcv⟩ : ∃ a n c, cv = .slice a n c := by obtain ⟨a, c, _, _, e, _⟩ := hc.any; exact ⟨_, _, _, e⟩
  obtain ⟨ta, tn, tc, htv⟩ : ∃ a n c, tv = .slice a n c := by obtain ⟨a, c, _, _, e, _⟩ := ht.any; exact ⟨_, _, _, e⟩
  subst hu hug hv hcv htv
  obtain ⟨W2, hW2⟩ : ∃ W2, W2 = ((w.alloc (.cells #[.int .i64 f.op, .string (Lx.str f.name), .int .i64 f.cmp, .int .i64 f.num, .slice a n c] 24)).alloc (.cells #[.int .i64 g.op, .string (Lx.str g.name), .int .i64 g.cmp, .int .i64 g.num, .slice ga gn gc] 24)).alloc (.cells #[.slice va vn vc] 27) := ⟨_, rfl⟩
  have hb2 : Below w.heap.size w W2 := by rw [hW2]; exact below_al (below_al (below_al (Below.refl _ _) _) _) _
  have k0 : W2.heap[w.heap.size]? = some (.cells #[.int .i64 f.op, .string (Lx.str f.name), .int .i64 f.cmp, .int .i64 f.num, .slice a n c] 24 (0, 0)) := by rw [hW2]; exact Fm.blkK (Fm.blkK (heap_alloc_new _ _))
  have k1 : W2.heap[w.heap.size + 1]? = some (.cells #[.int .i64 g.op, .string (Lx.str g.name), .int .i64 g.cmp, .int .i64 g.num, .slice ga gn gc] 24 (0, 0)) := by rw [hW2]; exact Fm.blkK (Fm.blk1 _ _ _)
  have k2 : W2.heap[w.heap.size + 1 + 1]? = some (.cells #[.slice va vn vc] 27 (0, 0)) := by rw [hW2]; exact Fm.blk2 _ _ _ _
  have hl0 := (Array.getElem?_eq_some_iff.1 k0).1
  have hl1 := (Array.getElem?_eq_some_iff.1 k1).1
  have hl2 := (Array.getElem?_eq_some_iff.1 k2).1
  have HQ : Hid (∀ w', Below W2.heap.size W2 w' → (w'.cell? ⟨w.heap.size, 0, none⟩ = some (.int .i64 f.op) ∧ w'.cell? ⟨w.heap.size, 1, none⟩ = some (.string (Lx.str f.name)) ∧ w'.cell? ⟨w.heap.size, 2, none⟩ = some (.int .i64 f.cmp) ∧ w'.cell? ⟨w.heap.size, 3, none⟩ = some (.int .i64 f.num) ∧ w'.cell? ⟨w.heap.size, 4, none⟩ = some (.slice a n c)) ∧ (w'.cell? ⟨w.heap.size + 1, 0, none⟩ = some (.int .i64 g.op) ∧ w'.cell? ⟨w.heap.size + 1, 1, none⟩ = some (.string (Lx.str g.name)) ∧ w'.cell? ⟨w.heap.size + 1, 2, none⟩ = some (.int .i64 g.cmp) ∧ w'.cell? ⟨w.heap.size + 1, 3, none⟩ = some (.int .i64 g.num) ∧ w'.cell? ⟨w.heap.size + 1, 4, none⟩ = some (.slice ga gn gc)) ∧ w'.cell? ⟨w.heap.size + 1 + 1, 0, none⟩ = some (.slice va vn vc)) := fun w' h => ⟨⟨(h.cell (p := ⟨w.heap.size, 0, none⟩) hl0).trans (Joins.cell_of_block k0 0), (h.cell (p := ⟨w.heap.size, 1, none⟩) hl0).trans (Joins.cell_of_block k0 1), (h.cell (p := ⟨w.heap.size, 2, none⟩) hl0).trans (Joins.cell_of_block k0 2), (h.cell (p := ⟨w.heap.size, 3, none⟩) hl0).trans (Joins.cell_of_block k0 3), (h.cell (p := ⟨w.heap.size, 4, none⟩) hl0).trans (Joins.cell_of_block k0 4)⟩, ⟨(h.cell (p := ⟨w.heap.size + 1, 0, none⟩) hl1).trans (Joins.cell_of_block k1 0), (h.cell (p := ⟨w.heap.size + 1, 1, none⟩) hl1).trans (Joins.cell_of_block k1 1), (h.cell (p := ⟨w.heap.size + 1, 2, none⟩) hl1).trans (Joins.cell_of_block k1 2), (h.cell (p := ⟨w.heap.size + 1, 3, none⟩) hl1).trans (Joins.cell_of_block k1 3), (h.cell (p := ⟨w.heap.size + 1, 4, none⟩) hl1).trans (Joins.cell_of_block k1 4)⟩, (h.cell (p := ⟨w.heap.size + 1 + 1, 0, none⟩) hl2).trans (Joins.cell_of_block k2 0)⟩
  have HA : Hid (∀ w', Below W2.heap.size W2 w' → Fm.At w' f (.slice a n c) ∧ Fm.At w' g (.slice ga gn gc) ∧ Fc.IsF w' (.slice va vn vc) d ∧ Fc.IsN w' (.slice ca cn cc) lc ∧ Fm.IsT w' (.slice ta tn tc) l ∧ Below w.heap.size w w') := fun w' h => by
    have hb := hb2.trans (h.mono hb2.size)
    exact ⟨hat.below hb, hatg.below hb, hd.below hb, hc.below hb, ht.below hb, hb⟩
  clear hat hatg hd hc ht hb2 k0 k1 k2 hl0 hl1 hl2
  go_enter Try.func4, Try.ntmps4
  go_wp2_with fail
  rw [← hW2]
  clear hW2
  refine (head_walk W2).mono ?_
  rintro e w3 ⟨rfl, hb3⟩
  obtain ⟨⟨f0, f1, f2, f3, f4⟩, ⟨g0, g1, g2, g3, g4⟩, d0⟩ := HQ.out w3 hb3
  have HFW := Lib.hid (few_walk _ _ _ d lc l w3 (HA.out w3 hb3).2.2.1 (HA.out w3 hb3).2.2.2.1 (HA.out w3 hb3).2.2.2.2.1)
  go_wp2_with fail
  refine HFW.out.mono ?_
  intro e w4 hh
  by_cases hfew : Fm.Few d lc l
  case neg =>
    obtain ⟨rfl, hb4⟩ := says_false hfew hh
    have HF := Lib.hid (HA.out w4 (below_step hb4 hb3)).2.2.2.2.2
    clear hh hb4 hfew
    go_wp2_with fail
    go_ret
    exact ⟨rfl, HF.out⟩
  obtain ⟨rfl, hb4⟩ := says_true hfew hh
  have hb4 := below_step hb4 hb3
  clear f0 f1 f2 f3 f4 g0 g1 g2 g3 g4 d0 hh hb3 HFW
  clear hfew
  obtain ⟨⟨f0, f1, f2, f3, f4⟩, ⟨g0, g1, g2, g3, g4⟩, d0⟩ := HQ.out w4 hb4
  have HGW := Lib.hid (good_walk f _ _ _ d lc w4 (HA.out w4 hb4).1 (HA.out w4 hb4).2.2.1 (HA.out w4 hb4).2.2.2.1)
  go_wp2_with fail
  refine HGW.out.mono ?_
  intro e w5 hh
  by_cases hgf : Fm.Good f d lc
  case neg =>
    obtain ⟨rfl, hb5⟩ := says_false hgf hh
    have HF := Lib.hid (HA.out w5 (below_step hb5 hb4)).2.2.2.2.2
    clear hh hb5 hgf
    go_wp2_with fail
    go_ret
    exact ⟨rfl, HF.out⟩
  obtain ⟨rfl, hb5⟩ := says_true hgf hh
  have hb5 := below_step hb5 hb4
  clear f0 f1 f2 f3 f4 g0 g1 g2 g3 g4 d0 hh hb4 HGW
  have HGF := Lib.hid hgf
  clear hgf
  obtain ⟨⟨f0, f1, f2, f3, f4⟩, ⟨g0, g1, g2, g3, g4⟩, d0⟩ := HQ.out w5 hb5
  have HGW := Lib.hid (good_walk g _ _ _ d lc w5 (HA.out w5 hb5).2.1 (HA.out w5 hb5).2.2.1 (HA.out w5 hb5).2.2.2.1)
  go_wp2_with fail
  refine HGW.out.mono ?_
  intro e w6 hh
  by_cases hgg : Fm.Good g d lc
  case neg =>
    obtain ⟨rfl, hb6⟩ := says_false hgg hh
    have HF := Lib.hid (HA.out w6 (below_step hb6 hb5)).2.2.2.2.2
    clear hh hb6 hgg
    go_wp2_with fail
    go_ret
    exact ⟨rfl, HF.out⟩
  obtain ⟨rfl, hb6⟩ := says_true hgg hh
  have hb6 := below_step hb6 hb5
  clear f0 f1 f2 f3 f4 g0 g1 g2 g3 g4 d0 hh hb5 HGW
  have HGG := Lib.hid hgg
  clear hgg
  obtain ⟨p, hp⟩ : ∃ b, b = Fm.holdsB d lc l f := ⟨_, rfl⟩
  obtain ⟨q, hq⟩ : ∃ b, b = Fm.holdsB d lc l g := ⟨_, rfl⟩
  have HC : Hid (Fm.holdsB d lc l (Fm.fNot f) = !p ∧ (Fm.holdsB d lc l (Fm.fTwo 6 f g) = (p && q) ∧ Fm.holdsB d lc l (Fm.fTwo 6 g f) = (p && q)) ∧ (Fm.holdsB d lc l (Fm.fTwo 7 f g) = (p || q) ∧ Fm.holdsB d lc l (Fm.fTwo 7 g f) = (p || q)) ∧
      Fm.holdsB d lc l (Fm.fNot (Fm.fTwo 6 f g)) = !(p && q) ∧ Fm.holdsB d lc l (Fm.fTwo 7 (Fm.fNot f) (Fm.fNot g)) = !(p && q)) := by
    have h1 := Fm.conn (l := l) HGF.out HGG.out
    have h2 := Fm.conn (l := l) HGG.out HGF.out
    rw [← hp, ← hq] at h1 h2
    exact ⟨h1.1, ⟨h1.2.1, by rw [h2.2.1, Bool.and_comm]⟩, ⟨h1.2.2.1, by rw [h2.2.2.1, Bool.or_comm]⟩, h1.2.2.2.1, h1.2.2.2.2⟩
  have HSB : Hid (Fm.size f ≤ 60 ∧ Fm.size g ≤ 60 ∧ ∀ o k, Fm.size (Fm.fTwo o f g) ≤ 121 ∧ Fm.size (Fm.fTwo o g f) ≤ 121 ∧ Fm.size (Fm.fNot f) ≤ 61 ∧ Fm.size (Fm.fNot g) ≤ 61 ∧ Fm.size (Fm.fNot (Fm.fTwo o f g)) ≤ 122 ∧ Fm.size (Fm.fTwo k (Fm.fNot f) (Fm.fNot g)) ≤ 123) := by
    have s1 := HGF.out.2.1
    have s2 := HGG.out.2.1
    have sn : ∀ k : Fm.Fo, Fm.size (Fm.fNot k) = 1 + (Fm.size k + 0) := fun k => by rw [Fm.fNot, Fm.size, Fm.sizeL, Fm.sizeL]
    have st : ∀ (o : Int) (x y : Fm.Fo), Fm.size (Fm.fTwo o x y) = 1 + (Fm.size x + (Fm.size y + 0)) := fun o x y => by rw [Fm.fTwo, Fm.size, Fm.sizeL, Fm.sizeL, Fm.sizeL]
    refine ⟨s1, s2, fun o k => ⟨?_, ?_, ?_, ?_, ?_, ?_⟩⟩
    · rw [st]; omega
    · rw [st]; omega
    · rw [sn]; omega
    · rw [sn]; omega
    · rw [sn, st]; omega
    · rw [st, sn, sn]; omega
  have HHA : Hid (∀ w' (k : Fm.Fo) (u : Value), Below W2.heap.size W2 w' → Fm.size k ≤ 1000 → Fm.At w' k u → Calls Try.prog 25 #[Fm.fv k u, .agg #[.slice va vn vc], .slice ca cn cc, .slice ta tn tc] w' fun e w'' => e = .returned (.bool (Fm.holdsB d lc l k)) ∧ Below w'.heap.size w' w'') := fun w' k u h hs hk =>
    holds_walk k _ _ _ _ d lc l w' hk (by omega) (HA.out w' h).2.2.1 (HA.out w' h).2.2.2.1 (HA.out w' h).2.2.2.2.1
  have HPQ := Lib.hid (And.intro hp hq)
  clear hp hq
  obtain ⟨⟨f0, f1, f2, f3, f4⟩, ⟨g0, g1, g2, g3, g4⟩, d0⟩ := HQ.out w6 hb6
  have HH := Lib.hid (HHA.out w6 f _ hb6 (by have := HSB.out; omega) (HA.out w6 hb6).1)
  rw [← HPQ.out.1] at HH
  go_wp2_with fail
  refine HH.out.mono ?_
  rintro e w7 ⟨rfl, hb7⟩
  have hb7 := below_step hb7 hb6
  clear f0 f1 f2 f3 f4 g0 g1 g2 g3 g4 d0 HH hb6
  obtain ⟨⟨f0, f1, f2, f3, f4⟩, ⟨g0, g1, g2, g3, g4⟩, d0⟩ := HQ.out w7 hb7
  have HH := Lib.hid (HHA.out w7 g _ hb7 (by have := HSB.out; omega) (HA.out w7 hb7).2.1)
  rw [← HPQ.out.2] at HH
  go_wp2_with fail
  refine HH.out.mono ?_
  rintro e w8 ⟨rfl, hb8⟩
  have hb8 := below_step hb8 hb7
  clear f0 f1 f2 f3 f4 g0 g1 g2 g3 g4 d0 HH hb7
  clear HPQ
  obtain ⟨⟨f0, f1, f2, f3, f4⟩, ⟨g0, g1, g2, g3, g4⟩, d0⟩ := HQ.out w8 hb8
  have hb8a := below_al hb8 (Obj.cells #[.int .i64 f.op, .string (Lx.str f.name), .int .i64 f.cmp, .int .i64 f.num, .slice a n c] 24)
  have HBO := Lib.hid (both_one 5 (by unfold Fm.I64; decide) (w8.alloc (Obj.cells #[.int .i64 f.op, .string (Lx.str f.name), .int .i64 f.cmp, .int .i64 f.num, .slice a n c] 24)) w8.heap.size f _ (HA.out _ hb8a).1 (heap_alloc_new _ _))
  go_wp2_with fail
  refine HBO.out.mono ?_
  rintro e w9 ⟨rfl, hb9, hn9⟩
  have hb9 := below_step hb9 hb8a
  obtain ⟨bn, hbn⟩ : ∃ b, b = w8.heap.size := ⟨_, rfl⟩
  rw [← hbn] at hn9 ⊢
  clear f0 f1 f2 f3 f4 g0 g1 g2 g3 g4 d0 HBO hb8 hb8a hbn
  go_upto_region 7 with fail
  obtain ⟨W6, hW6⟩ : ∃ W, W = w9.alloc (Obj.cells #[.int .i64 5, .string (Lx.str []), .int .i64 0, .int .i64 0, .slice (some ⟨bn, 0, none⟩) 1 1] 24) := ⟨_, rfl⟩
  have kn : W6.heap[w9.heap.size]? = some (Obj.cells #[.int .i64 5, .string (Lx.str []), .int .i64 0, .int .i64 0, .slice (some ⟨bn, 0, none⟩) 1 1] 24 (0, 0)) := by rw [hW6]; exact heap_alloc_new _ _
  have hnat : Fm.At W6 (Fm.fNot f) (.slice (some ⟨bn, 0, none⟩) 1 1) := by rw [hW6]; exact hn9.below (below_al (Below.refl _ _) _)
  have hb6 : Below W2.heap.size W2 W6 := by rw [hW6]; exact below_al hb9 _
  rw [← hW6]
  obtain ⟨bx, hbx⟩ : ∃ b, b = w9.heap.size := ⟨_, rfl⟩
  rw [← hbx] at kn ⊢
  have hbxl := (Array.getElem?_eq_some_iff.1 kn).1
  have f0 : ∀ w', Below W6.heap.size W6 w' → w'.cell? ⟨w.heap.size, 0, none⟩ = some (.int .i64 f.op) := fun w' h => (HQ.out w' (below_step h hb6)).1.1
  have f1 : ∀ w', Below W6.heap.size W6 w' → w'.cell? ⟨w.heap.size, 1, none⟩ = some (.string (Lx.str f.name)) := fun w' h => (HQ.out w' (below_step h hb6)).1.2.1
  have f2 : ∀ w', Below W6.heap.size W6 w' → w'.cell? ⟨w.heap.size, 2, none⟩ = some (.int .i64 f.cmp) := fun w' h => (HQ.out w' (below_step h hb6)).1.2.2.1
  have f3 : ∀ w', Below W6.heap.size W6 w' → w'.cell? ⟨w.heap.size, 3, none⟩ = some (.int .i64 f.num) := fun w' h => (HQ.out w' (below_step h hb6)).1.2.2.2.1
  have f4 : ∀ w', Below W6.heap.size W6 w' → w'.cell? ⟨w.heap.size, 4, none⟩ = some (.slice a n c) := fun w' h => (HQ.out w' (below_step h hb6)).1.2.2.2.2
  have g0 : ∀ w', Below W6.heap.size W6 w' → w'.cell? ⟨w.heap.size + 1, 0, none⟩ = some (.int .i64 g.op) := fun w' h => (HQ.out w' (below_step h hb6)).2.1.1
  have g1 : ∀ w', Below W6.heap.size W6 w' → w'.cell? ⟨w.heap.size + 1, 1, none⟩ = some (.string (Lx.str g.name)) := fun w' h => (HQ.out w' (below_step h hb6)).2.1.2.1
  have g2 : ∀ w', Below W6.heap.size W6 w' → w'.cell? ⟨w.heap.size + 1, 2, none⟩ = some (.int .i64 g.cmp) := fun w' h => (HQ.out w' (below_step h hb6)).2.1.2.2.1
  have g3 : ∀ w', Below W6.heap.size W6 w' → w'.cell? ⟨w.heap.size + 1, 3, none⟩ = some (.int .i64 g.num) := fun w' h => (HQ.out w' (below_step h hb6)).2.1.2.2.2.1
  have g4 : ∀ w', Below W6.heap.size W6 w' → w'.cell? ⟨w.heap.size + 1, 4, none⟩ = some (.slice ga gn gc) := fun w' h => (HQ.out w' (below_step h hb6)).2.1.2.2.2.2
  have d0 : ∀ w', Below W6.heap.size W6 w' → w'.cell? ⟨w.heap.size + 1 + 1, 0, none⟩ = some (.slice va vn vc) := fun w' h => (HQ.out w' (below_step h hb6)).2.2
  have n0 : ∀ w', Below W6.heap.size W6 w' → w'.cell? ⟨bx, 0, none⟩ = some (.int .i64 5) := fun w' h => (h.cell (p := ⟨bx, 0, none⟩) hbxl).trans (Joins.cell_of_block kn 0)
  have n1 : ∀ w', Below W6.heap.size W6 w' → w'.cell? ⟨bx, 1, none⟩ = some (.string (Lx.str [])) := fun w' h => (h.cell (p := ⟨bx, 1, none⟩) hbxl).trans (Joins.cell_of_block kn 1)
  have n2 : ∀ w', Below W6.heap.size W6 w' → w'.cell? ⟨bx, 2, none⟩ = some (.int .i64 0) := fun w' h => (h.cell (p := ⟨bx, 2, none⟩) hbxl).trans (Joins.cell_of_block kn 2)
  have n3 : ∀ w', Below W6.heap.size W6 w' → w'.cell? ⟨bx, 3, none⟩ = some (.int .i64 0) := fun w' h => (h.cell (p := ⟨bx, 3, none⟩) hbxl).trans (Joins.cell_of_block kn 3)
  have n4 : ∀ w', Below W6.heap.size W6 w' → w'.cell? ⟨bx, 4, none⟩ = some (.slice (some ⟨bn, 0, none⟩) 1 1) := fun w' h => (h.cell (p := ⟨bx, 4, none⟩) hbxl).trans (Joins.cell_of_block kn 4)
  have HAW : Hid (∀ w', Below W6.heap.size W6 w' → Fm.At w' f (.slice a n c) ∧ Fm.At w' g (.slice ga gn gc) ∧ Fm.At w' (Fm.fNot f) (.slice (some ⟨bn, 0, none⟩) 1 1) ∧ Below w.heap.size w w') := fun w' h => by
    have hA := HA.out w' (below_step h hb6)
    exact ⟨hA.1, hA.2.1, hnat.below h, hA.2.2.2.2.2⟩
  have HH : Hid (∀ w' (k : Fm.Fo) (sl : Value) (v : Bool), Below W6.heap.size W6 w' → Fm.size k ≤ 1000 → Fm.holdsB d lc l k = v → Fm.At w' k sl → Calls Try.prog 25 #[Fm.fv k sl, .agg #[.slice va vn vc], .slice ca cn cc, .slice ta tn tc] w' fun e w'' => e = .returned (.bool v) ∧ Below w'.heap.size w' w'') := fun w' k sl v h hs hv hk => by
    rw [← hv]; exact HHA.out w' k sl (below_step h hb6) hs hk
  have HZ : Hid (Fm.size (Fm.fNot f) ≤ 1000 ∧ Fm.size (Fm.fTwo 6 f g) ≤ 1000 ∧ Fm.size (Fm.fTwo 6 g f) ≤ 1000 ∧ Fm.size (Fm.fTwo 7 f g) ≤ 1000 ∧ Fm.size (Fm.fTwo 7 g f) ≤ 1000 ∧ Fm.size (Fm.fNot (Fm.fTwo 6 f g)) ≤ 1000 ∧ Fm.size (Fm.fTwo 7 (Fm.fNot f) (Fm.fNot g)) ≤ 1000) := by
    have h1 := HSB.out.2.2 6 7
    have h2 := HSB.out.2.2 7 7
    refine ⟨?_, ?_, ?_, ?_, ?_, ?_, ?_⟩
    all_goals omega
  clear hW6 hb9 hn9 hbx hb6 kn hnat hbxl HA HQ HHA HSB HGF HGG
  go_cut [15] from 51 to 88 (fun y wx => y = .bool true ∧ Hid (Below W6.heap.size W6 wx))
  case first =>
    refine wp_region_noPanic ?_
    refine wp_region_held_drew (S := fun w' => Below W6.heap.size W6 w') (by kernel_rfl) (Below.refl _ _).drew (fun hHeld => ?_)
    refine held_take 0 51 (.agg #[.int .i64 5, .string (Lx.str []), .int .i64 0, .int .i64 0, .slice (some ⟨bn, 0, none⟩) 1 1]) rfl rfl (by kernel_rfl) (by kernel_rfl) (by kernel_rfl) (fun _ _ _ h => h) rfl (fun w' hSw => by go_simp) hHeld ?_
    simp only [Act.put, List.setIfInBounds_toArray, List.set_cons_zero, List.set_cons_succ]
    refine held_take 1 52 (.agg #[.slice va vn vc]) rfl rfl (by kernel_rfl) (by kernel_rfl) (by kernel_rfl) (fun _ _ _ h => h) rfl (fun w' hSw => by go_simp) hHeld ?_
    simp only [Act.put, List.setIfInBounds_toArray, List.set_cons_zero, List.set_cons_succ]
    refine held_take 2 53 (.slice ca cn cc) rfl rfl (by kernel_rfl) (by kernel_rfl) (by kernel_rfl) (fun _ _ _ h => h) rfl (fun _ _ => rfl) hHeld ?_
    simp only [Act.put, List.setIfInBounds_toArray, List.set_cons_zero, List.set_cons_succ]
    refine held_take 3 54 (.slice ta tn tc) rfl rfl (by kernel_rfl) (by kernel_rfl) (by kernel_rfl) (fun _ _ _ h => h) rfl (fun _ _ => rfl) hHeld ?_
    simp only [Act.put, List.setIfInBounds_toArray, List.set_cons_zero, List.set_cons_succ]
    refine held_take 5 56 (.bool p) rfl rfl (by kernel_rfl) (by kernel_rfl) (by kernel_rfl) (fun _ _ _ h => h) rfl (fun _ _ => rfl) hHeld ?_
    simp only [Act.put, List.setIfInBounds_toArray, List.set_cons_zero, List.set_cons_succ]
    refine held_take 6 57 (.bool (!p)) rfl rfl (by kernel_rfl) (by kernel_rfl) (by kernel_rfl) (fun _ _ _ h => h) rfl (fun _ _ => rfl) hHeld ?_
    simp only [Act.put, List.setIfInBounds_toArray, List.set_cons_zero, List.set_cons_succ]
    refine held_one 4 (by kernel_rfl) ?_
    refine hstep_call 4 55 25 #[.agg #[.int .i64 5, .string (Lx.str []), .int .i64 0, .int .i64 0, .slice (some ⟨bn, 0, none⟩) 1 1], .agg #[.slice va vn vc], .slice ca cn cc, .slice ta tn tc] rfl rfl rfl (by go_simp) ?_
    refine (HH.out _ (Fm.fNot f) _ (!p) hHeld HZ.out.1 HC.out.1 (HAW.out _ hHeld).2.2.1).mono ?_
    rintro e x1 ⟨rfl, hb1⟩
    refine ⟨_, rfl, below_step hb1 hHeld, fun hx1 => ?_⟩
    clear hb1
    simp only [Act.put, List.setIfInBounds_toArray, List.set_cons_zero, List.set_cons_succ]
    refine held_take 7 58 (.bool true) rfl rfl (by kernel_rfl) (by kernel_rfl) (by kernel_rfl) (fun _ _ _ h => h) rfl (fun _ _ => by cases p <;> cases q <;> rfl) hx1 ?_
    simp only [Act.put, List.setIfInBounds_toArray, List.set_cons_zero, List.set_cons_succ]
    refine held_take 8 59 (.bool true) rfl rfl (by kernel_rfl) (by kernel_rfl) (by kernel_rfl) (fun _ _ _ h => h) rfl (fun _ _ => rfl) hx1 ?_
    simp only [Act.put, List.setIfInBounds_toArray, List.set_cons_zero, List.set_cons_succ]
    refine held_take 9 60 (.agg #[.int .i64 f.op, .string (Lx.str f.name), .int .i64 f.cmp, .int .i64 f.num, .slice a n c]) rfl rfl (by kernel_rfl) (by kernel_rfl) (by kernel_rfl) (fun _ _ _ h => h) rfl (fun w' hSw => by go_simp) hx1 ?_
    simp only [Act.put, List.setIfInBounds_toArray, List.set_cons_zero, List.set_cons_succ]
    refine held_take 10 61 (.agg #[.int .i64 g.op, .string (Lx.str g.name), .int .i64 g.cmp, .int .i64 g.num, .slice ga gn gc]) rfl rfl (by kernel_rfl) (by kernel_rfl) (by kernel_rfl) (fun _ _ _ h => h) rfl (fun w' hSw => by go_simp) hx1 ?_
    simp only [Act.put, List.setIfInBounds_toArray, List.set_cons_zero, List.set_cons_succ]
    refine held_take 13 64 (.agg #[.slice va vn vc]) rfl rfl (by kernel_rfl) (by kernel_rfl) (by kernel_rfl) (fun _ _ _ h => h) rfl (fun w' hSw => by go_simp) hx1 ?_
    simp only [Act.put, List.setIfInBounds_toArray, List.set_cons_zero, List.set_cons_succ]
    refine held_take 14 65 (.slice ca cn cc) rfl rfl (by kernel_rfl) (by kernel_rfl) (by kernel_rfl) (fun _ _ _ h => h) rfl (fun _ _ => rfl) hx1 ?_
    simp only [Act.put, List.setIfInBounds_toArray, List.set_cons_zero, List.set_cons_succ]
    refine held_take 15 66 (.slice ta tn tc) rfl rfl (by kernel_rfl) (by kernel_rfl) (by kernel_rfl) (fun _ _ _ h => h) rfl (fun _ _ => rfl) hx1 ?_
    simp only [Act.put, List.setIfInBounds_toArray, List.set_cons_zero, List.set_cons_succ]
    refine held_take 17 68 (.bool p) rfl rfl (by kernel_rfl) (by kernel_rfl) (by kernel_rfl) (fun _ _ _ h => h) rfl (fun _ _ => rfl) hx1 ?_
    simp only [Act.put, List.setIfInBounds_toArray, List.set_cons_zero, List.set_cons_succ]
    refine held_one 11 (by kernel_rfl) ?_
    refine hstep_row 11 62 2 #[.int .i64 f.op, .string (Lx.str f.name), .int .i64 f.cmp, .int .i64 f.num, .slice a n c, .int .i64 g.op, .string (Lx.str g.name), .int .i64 g.cmp, .int .i64 g.num, .slice ga gn gc] 24 rfl rfl rfl (by go_simp) (fun w' hb => below_step hb hx1) ?_
    intro x2 b2 hx2 hb2 k2
    clear hb2
    simp only [Act.put, List.setIfInBounds_toArray, List.set_cons_zero, List.set_cons_succ]
    refine held_one 12 (by kernel_rfl) ?_
    refine hstep_call 12 63 28 #[.int .i64 6, .slice (some ⟨b2, 0, none⟩) 2 2] rfl rfl rfl (by go_simp) ?_
    refine (both_two 6 (by unfold Fm.I64; decide) x2 b2 f g _ _ (HAW.out _ hx2).1 (HAW.out _ hx2).2.1 k2).mono ?_
    rintro e x3 ⟨rfl, hb3, at3⟩
    refine ⟨_, rfl, below_step hb3 hx2, fun hx3 => ?_⟩
    have k2c3 := (hb3.block _ (Array.getElem?_eq_some_iff.1 k2).1).trans k2
    clear k2
    clear hb3
    simp only [Act.put, List.setIfInBounds_toArray, List.set_cons_zero, List.set_cons_succ]
    refine held_one 16 (by kernel_rfl) ?_
    refine hstep_call 16 67 25 #[.agg #[.int .i64 6, .string (Lx.str []), .int .i64 0, .int .i64 0, .slice (some ⟨b2, 0, none⟩) 2 2], .agg #[.slice va vn vc], .slice ca cn cc, .slice ta tn tc] rfl rfl rfl (by go_simp) ?_
    refine (HH.out x3 (Fm.fTwo 6 f g) _ (p && q) hx3 HZ.out.2.1 HC.out.2.1.1 at3).mono ?_
    rintro e x4 ⟨rfl, hb4⟩
    refine ⟨_, rfl, below_step hb4 hx3, fun hx4 => ?_⟩
    have k2c3c4 := (hb4.block _ (Array.getElem?_eq_some_iff.1 k2c3).1).trans k2c3
    clear k2c3
    have at3c4 := at3.below hb4
    clear at3
    clear hb4
    simp only [Act.put, List.setIfInBounds_toArray, List.set_cons_zero, List.set_cons_succ]
    clear at3c4 k2c3c4
    refine held_take 18 69 (.bool p) rfl rfl (by kernel_rfl) (by kernel_rfl) (by kernel_rfl) (fun _ _ _ h => h) rfl (fun _ _ => rfl) hx4 ?_
    simp only [Act.put, List.setIfInBounds_toArray, List.set_cons_zero, List.set_cons_succ]
    refine held_maybe 19 70 (cond p (.bool q) undef) rfl rfl (by kernel_rfl) (by kernel_rfl) (by kernel_rfl) (fun _ _ _ h => h) (by cases p <;> first | exact .inl ⟨rfl, fun _ _ => rfl⟩ | exact .inr ⟨rfl, rfl⟩) hx4 ?_
    simp only [Act.put, List.setIfInBounds_toArray, List.set_cons_zero, List.set_cons_succ]
    refine held_take 20 71 (.bool (p && q)) rfl rfl (by kernel_rfl) (by kernel_rfl) (by kernel_rfl) (fun _ _ _ h => h) rfl (fun _ _ => by cases p <;> cases q <;> rfl) hx4 ?_
    simp only [Act.put, List.setIfInBounds_toArray, List.set_cons_zero, List.set_cons_succ]
    refine held_take 21 72 (.bool true) rfl rfl (by kernel_rfl) (by kernel_rfl) (by kernel_rfl) (fun _ _ _ h => h) rfl (fun _ _ => by cases p <;> cases q <;> rfl) hx4 ?_
    simp only [Act.put, List.setIfInBounds_toArray, List.set_cons_zero, List.set_cons_succ]
    refine held_take 22 73 (.bool true) rfl rfl (by kernel_rfl) (by kernel_rfl) (by kernel_rfl) (fun _ _ _ h => h) rfl (fun _ _ => rfl) hx4 ?_
    simp only [Act.put, List.setIfInBounds_toArray, List.set_cons_zero, List.set_cons_succ]
    refine held_take 23 74 (.bool true) rfl rfl (by kernel_rfl) (by kernel_rfl) (by kernel_rfl) (fun _ _ _ h => h) rfl (fun _ _ => rfl) hx4 ?_
    simp only [Act.put, List.setIfInBounds_toArray, List.set_cons_zero, List.set_cons_succ]
    refine held_take 24 75 (.agg #[.int .i64 g.op, .string (Lx.str g.name), .int .i64 g.cmp, .int .i64 g.num, .slice ga gn gc]) rfl rfl (by kernel_rfl) (by kernel_rfl) (by kernel_rfl) (fun _ _ _ h => h) rfl (fun w' hSw => by go_simp) hx4 ?_
    simp only [Act.put, List.setIfInBounds_toArray, List.set_cons_zero, List.set_cons_succ]
    refine held_take 25 76 (.agg #[.int .i64 f.op, .string (Lx.str f.name), .int .i64 f.cmp, .int .i64 f.num, .slice a n c]) rfl rfl (by kernel_rfl) (by kernel_rfl) (by kernel_rfl) (fun _ _ _ h => h) rfl (fun w' hSw => by go_simp) hx4 ?_
    simp only [Act.put, List.setIfInBounds_toArray, List.set_cons_zero, List.set_cons_succ]
    refine held_take 28 79 (.agg #[.slice va vn vc]) rfl rfl (by kernel_rfl) (by kernel_rfl) (by kernel_rfl) (fun _ _ _ h => h) rfl (fun w' hSw => by go_simp) hx4 ?_
    simp only [Act.put, List.setIfInBounds_toArray, List.set_cons_zero, List.set_cons_succ]
    refine held_take 29 80 (.slice ca cn cc) rfl rfl (by kernel_rfl) (by kernel_rfl) (by kernel_rfl) (fun _ _ _ h => h) rfl (fun _ _ => rfl) hx4 ?_
    simp only [Act.put, List.setIfInBounds_toArray, List.set_cons_zero, List.set_cons_succ]
    refine held_take 30 81 (.slice ta tn tc) rfl rfl (by kernel_rfl) (by kernel_rfl) (by kernel_rfl) (fun _ _ _ h => h) rfl (fun _ _ => rfl) hx4 ?_
    simp only [Act.put, List.setIfInBounds_toArray, List.set_cons_zero, List.set_cons_succ]
    refine held_take 32 83 (.bool p) rfl rfl (by kernel_rfl) (by kernel_rfl) (by kernel_rfl) (fun _ _ _ h => h) rfl (fun _ _ => rfl) hx4 ?_
    simp only [Act.put, List.setIfInBounds_toArray, List.set_cons_zero, List.set_cons_succ]
    refine held_one 26 (by kernel_rfl) ?_
    refine hstep_row 26 77 2 #[.int .i64 g.op, .string (Lx.str g.name), .int .i64 g.cmp, .int .i64 g.num, .slice ga gn gc, .int .i64 f.op, .string (Lx.str f.name), .int .i64 f.cmp, .int .i64 f.num, .slice a n c] 24 rfl rfl rfl (by go_simp) (fun w' hb => below_step hb hx4) ?_
    intro x5 b5 hx5 hb5 k5
    clear hb5
    simp only [Act.put, List.setIfInBounds_toArray, List.set_cons_zero, List.set_cons_succ]
    refine held_one 27 (by kernel_rfl) ?_
    refine hstep_call 27 78 28 #[.int .i64 7, .slice (some ⟨b5, 0, none⟩) 2 2] rfl rfl rfl (by go_simp) ?_
    refine (both_two 7 (by unfold Fm.I64; decide) x5 b5 g f _ _ (HAW.out _ hx5).2.1 (HAW.out _ hx5).1 k5).mono ?_
    rintro e x6 ⟨rfl, hb6, at6⟩
    refine ⟨_, rfl, below_step hb6 hx5, fun hx6 => ?_⟩
    have k5c6 := (hb6.block _ (Array.getElem?_eq_some_iff.1 k5).1).trans k5
    clear k5
    clear hb6
    simp only [Act.put, List.setIfInBounds_toArray, List.set_cons_zero, List.set_cons_succ]
    refine held_one 31 (by kernel_rfl) ?_
    refine hstep_call 31 82 25 #[.agg #[.int .i64 7, .string (Lx.str []), .int .i64 0, .int .i64 0, .slice (some ⟨b5, 0, none⟩) 2 2], .agg #[.slice va vn vc], .slice ca cn cc, .slice ta tn tc] rfl rfl rfl (by go_simp) ?_
    refine (HH.out x6 (Fm.fTwo 7 g f) _ (p || q) hx6 HZ.out.2.2.2.2.1 HC.out.2.2.1.2 at6).mono ?_
    rintro e x7 ⟨rfl, hb7⟩
    refine ⟨_, rfl, below_step hb7 hx6, fun hx7 => ?_⟩
    have k5c6c7 := (hb7.block _ (Array.getElem?_eq_some_iff.1 k5c6).1).trans k5c6
    clear k5c6
    have at6c7 := at6.below hb7
    clear at6
    clear hb7
    simp only [Act.put, List.setIfInBounds_toArray, List.set_cons_zero, List.set_cons_succ]
    clear at6c7 k5c6c7
    refine held_take 33 84 (.bool p) rfl rfl (by kernel_rfl) (by kernel_rfl) (by kernel_rfl) (fun _ _ _ h => h) rfl (fun _ _ => rfl) hx7 ?_
    simp only [Act.put, List.setIfInBounds_toArray, List.set_cons_zero, List.set_cons_succ]
    refine held_maybe 34 85 (cond p undef (.bool q)) rfl rfl (by kernel_rfl) (by kernel_rfl) (by kernel_rfl) (fun _ _ _ h => h) (by cases p <;> first | exact .inl ⟨rfl, fun _ _ => rfl⟩ | exact .inr ⟨rfl, rfl⟩) hx7 ?_
    simp only [Act.put, List.setIfInBounds_toArray, List.set_cons_zero, List.set_cons_succ]
    refine held_take 35 86 (.bool (p || q)) rfl rfl (by kernel_rfl) (by kernel_rfl) (by kernel_rfl) (fun _ _ _ h => h) rfl (fun _ _ => by cases p <;> cases q <;> rfl) hx7 ?_
    simp only [Act.put, List.setIfInBounds_toArray, List.set_cons_zero, List.set_cons_succ]
    refine held_take 36 87 (.bool true) rfl rfl (by kernel_rfl) (by kernel_rfl) (by kernel_rfl) (fun _ _ _ h => h) rfl (fun _ _ => by cases p <;> cases q <;> rfl) hx7 ?_
    simp only [Act.put, List.setIfInBounds_toArray, List.set_cons_zero, List.set_cons_succ]
    refine held_take 37 88 (.bool true) rfl rfl (by kernel_rfl) (by kernel_rfl) (by kernel_rfl) (fun _ _ _ h => h) rfl (fun _ _ => rfl) hx7 ?_
    simp only [Act.put, List.setIfInBounds_toArray, List.set_cons_zero, List.set_cons_succ]
    refine held_take 38 15 (.bool true) rfl rfl (by kernel_rfl) (by kernel_rfl) (by kernel_rfl) (fun _ _ _ h => h) rfl (fun _ _ => rfl) hx7 ?_
    simp only [Act.put, List.setIfInBounds_toArray, List.set_cons_zero, List.set_cons_succ]
    refine wpAnyH_done (by kernel_rfl) ?_ _
    refine NoPanic.normal ?_
    go_wp2_with fail
    go_meet
    exact ⟨rfl, hx7⟩
  case rest =>
    rename World => w10
    obtain ⟨rfl, hb10⟩ := hcut
    go_upto_region 8 with fail
    go_cut [16] from 89 to 116 (fun y wx => y = .bool true ∧ Hid (Below W6.heap.size W6 wx))
    case first =>
      refine wp_region_noPanic ?_
      refine wp_region_held_drew (S := fun w' => Below W6.heap.size W6 w') (by kernel_rfl) hb10.out.drew (fun hHeld => ?_)
      refine held_take 0 89 (.agg #[.int .i64 g.op, .string (Lx.str g.name), .int .i64 g.cmp, .int .i64 g.num, .slice ga gn gc]) rfl rfl (by kernel_rfl) (by kernel_rfl) (by kernel_rfl) (fun _ _ _ h => h) rfl (fun w' hSw => by go_simp) hHeld ?_
      simp only [Act.put, List.setIfInBounds_toArray, List.set_cons_zero, List.set_cons_succ]
      refine held_take 1 90 (.agg #[.int .i64 f.op, .string (Lx.str f.name), .int .i64 f.cmp, .int .i64 f.num, .slice a n c]) rfl rfl (by kernel_rfl) (by kernel_rfl) (by kernel_rfl) (fun _ _ _ h => h) rfl (fun w' hSw => by go_simp) hHeld ?_
      simp only [Act.put, List.setIfInBounds_toArray, List.set_cons_zero, List.set_cons_succ]
      refine held_take 4 93 (.agg #[.slice va vn vc]) rfl rfl (by kernel_rfl) (by kernel_rfl) (by kernel_rfl) (fun _ _ _ h => h) rfl (fun w' hSw => by go_simp) hHeld ?_
      simp only [Act.put, List.setIfInBounds_toArray, List.set_cons_zero, List.set_cons_succ]
      refine held_take 5 94 (.slice ca cn cc) rfl rfl (by kernel_rfl) (by kernel_rfl) (by kernel_rfl) (fun _ _ _ h => h) rfl (fun _ _ => rfl) hHeld ?_
      simp only [Act.put, List.setIfInBounds_toArray, List.set_cons_zero, List.set_cons_succ]
      refine held_take 6 95 (.slice ta tn tc) rfl rfl (by kernel_rfl) (by kernel_rfl) (by kernel_rfl) (fun _ _ _ h => h) rfl (fun _ _ => rfl) hHeld ?_
      simp only [Act.put, List.setIfInBounds_toArray, List.set_cons_zero, List.set_cons_succ]
      refine held_take 8 97 (.bool p) rfl rfl (by kernel_rfl) (by kernel_rfl) (by kernel_rfl) (fun _ _ _ h => h) rfl (fun _ _ => rfl) hHeld ?_
      simp only [Act.put, List.setIfInBounds_toArray, List.set_cons_zero, List.set_cons_succ]
      refine held_one 2 (by kernel_rfl) ?_
      refine hstep_row 2 91 2 #[.int .i64 g.op, .string (Lx.str g.name), .int .i64 g.cmp, .int .i64 g.num, .slice ga gn gc, .int .i64 f.op, .string (Lx.str f.name), .int .i64 f.cmp, .int .i64 f.num, .slice a n c] 24 rfl rfl rfl (by go_simp) (fun w' hb => below_step hb hHeld) ?_
      intro x8 b8 hx8 hb8 k8
      clear hb8
      simp only [Act.put, List.setIfInBounds_toArray, List.set_cons_zero, List.set_cons_succ]
      refine held_one 3 (by kernel_rfl) ?_
      refine hstep_call 3 92 28 #[.int .i64 6, .slice (some ⟨b8, 0, none⟩) 2 2] rfl rfl rfl (by go_simp) ?_
      refine (both_two 6 (by unfold Fm.I64; decide) x8 b8 g f _ _ (HAW.out _ hx8).2.1 (HAW.out _ hx8).1 k8).mono ?_
      rintro e x9 ⟨rfl, hb9, at9⟩
      refine ⟨_, rfl, below_step hb9 hx8, fun hx9 => ?_⟩
      have k8c9 := (hb9.block _ (Array.getElem?_eq_some_iff.1 k8).1).trans k8
      clear k8
      clear hb9
      simp only [Act.put, List.setIfInBounds_toArray, List.set_cons_zero, List.set_cons_succ]
      refine held_one 7 (by kernel_rfl) ?_
      refine hstep_call 7 96 25 #[.agg #[.int .i64 6, .string (Lx.str []), .int .i64 0, .int .i64 0, .slice (some ⟨b8, 0, none⟩) 2 2], .agg #[.slice va vn vc], .slice ca cn cc, .slice ta tn tc] rfl rfl rfl (by go_simp) ?_
      refine (HH.out x9 (Fm.fTwo 6 g f) _ (p && q) hx9 HZ.out.2.2.1 HC.out.2.1.2 at9).mono ?_
      rintro e x10 ⟨rfl, hb10⟩
      refine ⟨_, rfl, below_step hb10 hx9, fun hx10 => ?_⟩
      have k8c9c10 := (hb10.block _ (Array.getElem?_eq_some_iff.1 k8c9).1).trans k8c9
      clear k8c9
      have at9c10 := at9.below hb10
      clear at9
      clear hb10
      simp only [Act.put, List.setIfInBounds_toArray, List.set_cons_zero, List.set_cons_succ]
      clear at9c10 k8c9c10
      refine held_take 9 98 (.bool p) rfl rfl (by kernel_rfl) (by kernel_rfl) (by kernel_rfl) (fun _ _ _ h => h) rfl (fun _ _ => rfl) hx10 ?_
      simp only [Act.put, List.setIfInBounds_toArray, List.set_cons_zero, List.set_cons_succ]
      refine held_maybe 10 99 (cond p (.bool q) undef) rfl rfl (by kernel_rfl) (by kernel_rfl) (by kernel_rfl) (fun _ _ _ h => h) (by cases p <;> first | exact .inl ⟨rfl, fun _ _ => rfl⟩ | exact .inr ⟨rfl, rfl⟩) hx10 ?_
      simp only [Act.put, List.setIfInBounds_toArray, List.set_cons_zero, List.set_cons_succ]
      refine held_take 11 100 (.bool (p && q)) rfl rfl (by kernel_rfl) (by kernel_rfl) (by kernel_rfl) (fun _ _ _ h => h) rfl (fun _ _ => by cases p <;> cases q <;> rfl) hx10 ?_
      simp only [Act.put, List.setIfInBounds_toArray, List.set_cons_zero, List.set_cons_succ]
      refine held_take 12 101 (.bool true) rfl rfl (by kernel_rfl) (by kernel_rfl) (by kernel_rfl) (fun _ _ _ h => h) rfl (fun _ _ => by cases p <;> cases q <;> rfl) hx10 ?_
      simp only [Act.put, List.setIfInBounds_toArray, List.set_cons_zero, List.set_cons_succ]
      refine held_take 13 102 (.bool true) rfl rfl (by kernel_rfl) (by kernel_rfl) (by kernel_rfl) (fun _ _ _ h => h) rfl (fun _ _ => rfl) hx10 ?_
      simp only [Act.put, List.setIfInBounds_toArray, List.set_cons_zero, List.set_cons_succ]
      refine held_take 14 103 (.agg #[.int .i64 f.op, .string (Lx.str f.name), .int .i64 f.cmp, .int .i64 f.num, .slice a n c]) rfl rfl (by kernel_rfl) (by kernel_rfl) (by kernel_rfl) (fun _ _ _ h => h) rfl (fun w' hSw => by go_simp) hx10 ?_
      simp only [Act.put, List.setIfInBounds_toArray, List.set_cons_zero, List.set_cons_succ]
      refine held_take 15 104 (.agg #[.int .i64 g.op, .string (Lx.str g.name), .int .i64 g.cmp, .int .i64 g.num, .slice ga gn gc]) rfl rfl (by kernel_rfl) (by kernel_rfl) (by kernel_rfl) (fun _ _ _ h => h) rfl (fun w' hSw => by go_simp) hx10 ?_
      simp only [Act.put, List.setIfInBounds_toArray, List.set_cons_zero, List.set_cons_succ]
      refine held_take 18 107 (.agg #[.slice va vn vc]) rfl rfl (by kernel_rfl) (by kernel_rfl) (by kernel_rfl) (fun _ _ _ h => h) rfl (fun w' hSw => by go_simp) hx10 ?_
      simp only [Act.put, List.setIfInBounds_toArray, List.set_cons_zero, List.set_cons_succ]
      refine held_take 19 108 (.slice ca cn cc) rfl rfl (by kernel_rfl) (by kernel_rfl) (by kernel_rfl) (fun _ _ _ h => h) rfl (fun _ _ => rfl) hx10 ?_
      simp only [Act.put, List.setIfInBounds_toArray, List.set_cons_zero, List.set_cons_succ]
      refine held_take 20 109 (.slice ta tn tc) rfl rfl (by kernel_rfl) (by kernel_rfl) (by kernel_rfl) (fun _ _ _ h => h) rfl (fun _ _ => rfl) hx10 ?_
      simp only [Act.put, List.setIfInBounds_toArray, List.set_cons_zero, List.set_cons_succ]
      refine held_take 22 111 (.bool p) rfl rfl (by kernel_rfl) (by kernel_rfl) (by kernel_rfl) (fun _ _ _ h => h) rfl (fun _ _ => rfl) hx10 ?_
      simp only [Act.put, List.setIfInBounds_toArray, List.set_cons_zero, List.set_cons_succ]
      refine held_one 16 (by kernel_rfl) ?_
      refine hstep_row 16 105 2 #[.int .i64 f.op, .string (Lx.str f.name), .int .i64 f.cmp, .int .i64 f.num, .slice a n c, .int .i64 g.op, .string (Lx.str g.name), .int .i64 g.cmp, .int .i64 g.num, .slice ga gn gc] 24 rfl rfl rfl (by go_simp) (fun w' hb => below_step hb hx10) ?_
      intro x11 b11 hx11 hb11 k11
      clear hb11
      simp only [Act.put, List.setIfInBounds_toArray, List.set_cons_zero, List.set_cons_succ]
      refine held_one 17 (by kernel_rfl) ?_
      refine hstep_call 17 106 28 #[.int .i64 7, .slice (some ⟨b11, 0, none⟩) 2 2] rfl rfl rfl (by go_simp) ?_
      refine (both_two 7 (by unfold Fm.I64; decide) x11 b11 f g _ _ (HAW.out _ hx11).1 (HAW.out _ hx11).2.1 k11).mono ?_
      rintro e x12 ⟨rfl, hb12, at12⟩
      refine ⟨_, rfl, below_step hb12 hx11, fun hx12 => ?_⟩
      have k11c12 := (hb12.block _ (Array.getElem?_eq_some_iff.1 k11).1).trans k11
      clear k11
      clear hb12
      simp only [Act.put, List.setIfInBounds_toArray, List.set_cons_zero, List.set_cons_succ]
      refine held_one 21 (by kernel_rfl) ?_
      refine hstep_call 21 110 25 #[.agg #[.int .i64 7, .string (Lx.str []), .int .i64 0, .int .i64 0, .slice (some ⟨b11, 0, none⟩) 2 2], .agg #[.slice va vn vc], .slice ca cn cc, .slice ta tn tc] rfl rfl rfl (by go_simp) ?_
      refine (HH.out x12 (Fm.fTwo 7 f g) _ (p || q) hx12 HZ.out.2.2.2.1 HC.out.2.2.1.1 at12).mono ?_
      rintro e x13 ⟨rfl, hb13⟩
      refine ⟨_, rfl, below_step hb13 hx12, fun hx13 => ?_⟩
      have k11c12c13 := (hb13.block _ (Array.getElem?_eq_some_iff.1 k11c12).1).trans k11c12
      clear k11c12
      have at12c13 := at12.below hb13
      clear at12
      clear hb13
      simp only [Act.put, List.setIfInBounds_toArray, List.set_cons_zero, List.set_cons_succ]
      clear at12c13 k11c12c13
      refine held_take 23 112 (.bool p) rfl rfl (by kernel_rfl) (by kernel_rfl) (by kernel_rfl) (fun _ _ _ h => h) rfl (fun _ _ => rfl) hx13 ?_
      simp only [Act.put, List.setIfInBounds_toArray, List.set_cons_zero, List.set_cons_succ]
      refine held_maybe 24 113 (cond p undef (.bool q)) rfl rfl (by kernel_rfl) (by kernel_rfl) (by kernel_rfl) (fun _ _ _ h => h) (by cases p <;> first | exact .inl ⟨rfl, fun _ _ => rfl⟩ | exact .inr ⟨rfl, rfl⟩) hx13 ?_
      simp only [Act.put, List.setIfInBounds_toArray, List.set_cons_zero, List.set_cons_succ]
      refine held_take 25 114 (.bool (p || q)) rfl rfl (by kernel_rfl) (by kernel_rfl) (by kernel_rfl) (fun _ _ _ h => h) rfl (fun _ _ => by cases p <;> cases q <;> rfl) hx13 ?_
      simp only [Act.put, List.setIfInBounds_toArray, List.set_cons_zero, List.set_cons_succ]
      refine held_take 26 115 (.bool true) rfl rfl (by kernel_rfl) (by kernel_rfl) (by kernel_rfl) (fun _ _ _ h => h) rfl (fun _ _ => by cases p <;> cases q <;> rfl) hx13 ?_
      simp only [Act.put, List.setIfInBounds_toArray, List.set_cons_zero, List.set_cons_succ]
      refine held_take 27 116 (.bool true) rfl rfl (by kernel_rfl) (by kernel_rfl) (by kernel_rfl) (fun _ _ _ h => h) rfl (fun _ _ => rfl) hx13 ?_
      simp only [Act.put, List.setIfInBounds_toArray, List.set_cons_zero, List.set_cons_succ]
      refine held_take 28 16 (.bool true) rfl rfl (by kernel_rfl) (by kernel_rfl) (by kernel_rfl) (fun _ _ _ h => h) rfl (fun _ _ => rfl) hx13 ?_
      simp only [Act.put, List.setIfInBounds_toArray, List.set_cons_zero, List.set_cons_succ]
      refine wpAnyH_done (by kernel_rfl) ?_ _
      refine NoPanic.normal ?_
      go_wp2_with fail
      go_meet
      exact ⟨rfl, hx13⟩
    case rest =>
      rename World => w11
      obtain ⟨rfl, hb11⟩ := hcut
      clear hb10
      go_upto_region 9 with fail
      refine wp_region_noPanic ?_
      refine wp_region_held_drew (S := fun w' => Below W6.heap.size W6 w') (by kernel_rfl) hb11.out.drew (fun hHeld => ?_)
      refine held_take 0 117 (.bool true) rfl rfl (by kernel_rfl) (by kernel_rfl) (by kernel_rfl) (fun _ _ _ h => h) rfl (fun _ _ => rfl) hHeld ?_
      simp only [Act.put, List.setIfInBounds_toArray, List.set_cons_zero, List.set_cons_succ]
      refine held_take 1 118 (.bool true) rfl rfl (by kernel_rfl) (by kernel_rfl) (by kernel_rfl) (fun _ _ _ h => h) rfl (fun _ _ => rfl) hHeld ?_
      simp only [Act.put, List.setIfInBounds_toArray, List.set_cons_zero, List.set_cons_succ]
      refine held_take 2 119 (.bool true) rfl rfl (by kernel_rfl) (by kernel_rfl) (by kernel_rfl) (fun _ _ _ h => h) rfl (fun _ _ => rfl) hHeld ?_
      simp only [Act.put, List.setIfInBounds_toArray, List.set_cons_zero, List.set_cons_succ]
      refine held_take 3 120 (.bool true) rfl rfl (by kernel_rfl) (by kernel_rfl) (by kernel_rfl) (fun _ _ _ h => h) rfl (fun _ _ => rfl) hHeld ?_
      simp only [Act.put, List.setIfInBounds_toArray, List.set_cons_zero, List.set_cons_succ]
      refine held_take 4 121 (.bool true) rfl rfl (by kernel_rfl) (by kernel_rfl) (by kernel_rfl) (fun _ _ _ h => h) rfl (fun _ _ => rfl) hHeld ?_
      simp only [Act.put, List.setIfInBounds_toArray, List.set_cons_zero, List.set_cons_succ]
      refine held_take 5 122 (.bool true) rfl rfl (by kernel_rfl) (by kernel_rfl) (by kernel_rfl) (fun _ _ _ h => h) rfl (fun _ _ => rfl) hHeld ?_
      simp only [Act.put, List.setIfInBounds_toArray, List.set_cons_zero, List.set_cons_succ]
      refine held_take 6 123 (.bool true) rfl rfl (by kernel_rfl) (by kernel_rfl) (by kernel_rfl) (fun _ _ _ h => h) rfl (fun _ _ => rfl) hHeld ?_
      simp only [Act.put, List.setIfInBounds_toArray, List.set_cons_zero, List.set_cons_succ]
      refine held_take 7 124 (.bool true) rfl rfl (by kernel_rfl) (by kernel_rfl) (by kernel_rfl) (fun _ _ _ h => h) rfl (fun _ _ => rfl) hHeld ?_
      simp only [Act.put, List.setIfInBounds_toArray, List.set_cons_zero, List.set_cons_succ]
      refine held_take 8 125 (.agg #[.int .i64 f.op, .string (Lx.str f.name), .int .i64 f.cmp, .int .i64 f.num, .slice a n c]) rfl rfl (by kernel_rfl) (by kernel_rfl) (by kernel_rfl) (fun _ _ _ h => h) rfl (fun w' hSw => by go_simp) hHeld ?_
      simp only [Act.put, List.setIfInBounds_toArray, List.set_cons_zero, List.set_cons_succ]
      refine held_take 9 126 (.agg #[.int .i64 g.op, .string (Lx.str g.name), .int .i64 g.cmp, .int .i64 g.num, .slice ga gn gc]) rfl rfl (by kernel_rfl) (by kernel_rfl) (by kernel_rfl) (fun _ _ _ h => h) rfl (fun w' hSw => by go_simp) hHeld ?_
      simp only [Act.put, List.setIfInBounds_toArray, List.set_cons_zero, List.set_cons_succ]
      refine held_take 14 131 (.agg #[.slice va vn vc]) rfl rfl (by kernel_rfl) (by kernel_rfl) (by kernel_rfl) (fun _ _ _ h => h) rfl (fun w' hSw => by go_simp) hHeld ?_
      simp only [Act.put, List.setIfInBounds_toArray, List.set_cons_zero, List.set_cons_succ]
      refine held_take 15 132 (.slice ca cn cc) rfl rfl (by kernel_rfl) (by kernel_rfl) (by kernel_rfl) (fun _ _ _ h => h) rfl (fun _ _ => rfl) hHeld ?_
      simp only [Act.put, List.setIfInBounds_toArray, List.set_cons_zero, List.set_cons_succ]
      refine held_take 16 133 (.slice ta tn tc) rfl rfl (by kernel_rfl) (by kernel_rfl) (by kernel_rfl) (fun _ _ _ h => h) rfl (fun _ _ => rfl) hHeld ?_
      simp only [Act.put, List.setIfInBounds_toArray, List.set_cons_zero, List.set_cons_succ]
      refine held_take 18 135 (.agg #[.int .i64 5, .string (Lx.str []), .int .i64 0, .int .i64 0, .slice (some ⟨bn, 0, none⟩) 1 1]) rfl rfl (by kernel_rfl) (by kernel_rfl) (by kernel_rfl) (fun _ _ _ h => h) rfl (fun w' hSw => by go_simp) hHeld ?_
      simp only [Act.put, List.setIfInBounds_toArray, List.set_cons_zero, List.set_cons_succ]
      refine held_take 19 136 (.agg #[.int .i64 g.op, .string (Lx.str g.name), .int .i64 g.cmp, .int .i64 g.num, .slice ga gn gc]) rfl rfl (by kernel_rfl) (by kernel_rfl) (by kernel_rfl) (fun _ _ _ h => h) rfl (fun w' hSw => by go_simp) hHeld ?_
      simp only [Act.put, List.setIfInBounds_toArray, List.set_cons_zero, List.set_cons_succ]
      refine held_take 24 141 (.agg #[.slice va vn vc]) rfl rfl (by kernel_rfl) (by kernel_rfl) (by kernel_rfl) (fun _ _ _ h => h) rfl (fun w' hSw => by go_simp) hHeld ?_
      simp only [Act.put, List.setIfInBounds_toArray, List.set_cons_zero, List.set_cons_succ]
      refine held_take 25 142 (.slice ca cn cc) rfl rfl (by kernel_rfl) (by kernel_rfl) (by kernel_rfl) (fun _ _ _ h => h) rfl (fun _ _ => rfl) hHeld ?_
      simp only [Act.put, List.setIfInBounds_toArray, List.set_cons_zero, List.set_cons_succ]
      refine held_take 26 143 (.slice ta tn tc) rfl rfl (by kernel_rfl) (by kernel_rfl) (by kernel_rfl) (fun _ _ _ h => h) rfl (fun _ _ => rfl) hHeld ?_
      simp only [Act.put, List.setIfInBounds_toArray, List.set_cons_zero, List.set_cons_succ]
      refine held_two 10 20 (by kernel_rfl) ?_ ?_
      · refine hstep_row 10 127 2 #[.int .i64 f.op, .string (Lx.str f.name), .int .i64 f.cmp, .int .i64 f.num, .slice a n c, .int .i64 g.op, .string (Lx.str g.name), .int .i64 g.cmp, .int .i64 g.num, .slice ga gn gc] 24 rfl rfl rfl (by go_simp) (fun w' hb => below_step hb hHeld) ?_
        intro x14 b14 hx14 hb14 k14
        clear hb14
        simp only [Act.put, List.setIfInBounds_toArray, List.set_cons_zero, List.set_cons_succ]
        refine held_two 11 20 (by kernel_rfl) ?_ ?_
        · refine hstep_call 11 128 28 #[.int .i64 6, .slice (some ⟨b14, 0, none⟩) 2 2] rfl rfl rfl (by go_simp) ?_
          refine (both_two 6 (by unfold Fm.I64; decide) x14 b14 f g _ _ (HAW.out _ hx14).1 (HAW.out _ hx14).2.1 k14).mono ?_
          rintro e x15 ⟨rfl, hb15, at15⟩
          refine ⟨_, rfl, below_step hb15 hx14, fun hx15 => ?_⟩
          have k14c15 := (hb15.block _ (Array.getElem?_eq_some_iff.1 k14).1).trans k14
          clear k14
          clear hb15
          simp only [Act.put, List.setIfInBounds_toArray, List.set_cons_zero, List.set_cons_succ]
          refine held_two 12 20 (by kernel_rfl) ?_ ?_
          · refine hstep_row 12 129 1 #[.int .i64 6, .string (Lx.str []), .int .i64 0, .int .i64 0, .slice (some ⟨b14, 0, none⟩) 2 2] 24 rfl rfl rfl (by go_simp) (fun w' hb => below_step hb hx15) ?_
            intro x16 b16 hx16 hb16 k16
            have k14c15c16 := (hb16.block _ (Array.getElem?_eq_some_iff.1 k14c15).1).trans k14c15
            clear k14c15
            have at15c16 := at15.below hb16
            clear at15
            clear hb16
            simp only [Act.put, List.setIfInBounds_toArray, List.set_cons_zero, List.set_cons_succ]
            refine held_two 13 20 (by kernel_rfl) ?_ ?_
            · refine hstep_call 13 130 28 #[.int .i64 5, .slice (some ⟨b16, 0, none⟩) 1 1] rfl rfl rfl (by go_simp) ?_
              refine (both_one 5 (by unfold Fm.I64; decide) x16 b16 (Fm.fTwo 6 f g) _ at15c16 k16).mono ?_
              rintro e x17 ⟨rfl, hb17, at17⟩
              refine ⟨_, rfl, below_step hb17 hx16, fun hx17 => ?_⟩
              have k14c15c16c17 := (hb17.block _ (Array.getElem?_eq_some_iff.1 k14c15c16).1).trans k14c15c16
              clear k14c15c16
              have at15c16c17 := at15c16.below hb17
              clear at15c16
              have k16c17 := (hb17.block _ (Array.getElem?_eq_some_iff.1 k16).1).trans k16
              clear k16
              clear hb17
              simp only [Act.put, List.setIfInBounds_toArray, List.set_cons_zero, List.set_cons_succ]
              refine held_two 17 20 (by kernel_rfl) ?_ ?_
              · refine hstep_call 17 134 25 #[.agg #[.int .i64 5, .string (Lx.str []), .int .i64 0, .int .i64 0, .slice (some ⟨b16, 0, none⟩) 1 1], .agg #[.slice va vn vc], .slice ca cn cc, .slice ta tn tc] rfl rfl rfl (by go_simp) ?_
                refine (HH.out x17 (Fm.fNot (Fm.fTwo 6 f g)) _ (!(p && q)) hx17 HZ.out.2.2.2.2.2.1 HC.out.2.2.2.1 at17).mono ?_
                rintro e x18 ⟨rfl, hb18⟩
                refine ⟨_, rfl, below_step hb18 hx17, fun hx18 => ?_⟩
                have k14c15c16c17c18 := (hb18.block _ (Array.getElem?_eq_some_iff.1 k14c15c16c17).1).trans k14c15c16c17
                clear k14c15c16c17
                have at15c16c17c18 := at15c16c17.below hb18
                clear at15c16c17
                have k16c17c18 := (hb18.block _ (Array.getElem?_eq_some_iff.1 k16c17).1).trans k16c17
                clear k16c17
                have at17c18 := at17.below hb18
                clear at17
                clear hb18
                simp only [Act.put, List.setIfInBounds_toArray, List.set_cons_zero, List.set_cons_succ]
                refine held_one 20 (by kernel_rfl) ?_
                refine hstep_row 20 137 1 #[.int .i64 g.op, .string (Lx.str g.name), .int .i64 g.cmp, .int .i64 g.num, .slice ga gn gc] 24 rfl rfl rfl (by go_simp) (fun w' hb => below_step hb hx18) ?_
                intro x19 b19 hx19 hb19 k19
                have k14c15c16c17c18c19 := (hb19.block _ (Array.getElem?_eq_some_iff.1 k14c15c16c17c18).1).trans k14c15c16c17c18
                clear k14c15c16c17c18
                have at15c16c17c18c19 := at15c16c17c18.below hb19
                clear at15c16c17c18
                have k16c17c18c19 := (hb19.block _ (Array.getElem?_eq_some_iff.1 k16c17c18).1).trans k16c17c18
                clear k16c17c18
                have at17c18c19 := at17c18.below hb19
                clear at17c18
                clear hb19
                simp only [Act.put, List.setIfInBounds_toArray, List.set_cons_zero, List.set_cons_succ]
                refine held_one 21 (by kernel_rfl) ?_
                refine hstep_call 21 138 28 #[.int .i64 5, .slice (some ⟨b19, 0, none⟩) 1 1] rfl rfl rfl (by go_simp) ?_
                refine (both_one 5 (by unfold Fm.I64; decide) x19 b19 g _ (HAW.out _ hx19).2.1 k19).mono ?_
                rintro e x20 ⟨rfl, hb20, at20⟩
                refine ⟨_, rfl, below_step hb20 hx19, fun hx20 => ?_⟩
                have k14c15c16c17c18c19c20 := (hb20.block _ (Array.getElem?_eq_some_iff.1 k14c15c16c17c18c19).1).trans k14c15c16c17c18c19
                clear k14c15c16c17c18c19
                have at15c16c17c18c19c20 := at15c16c17c18c19.below hb20
                clear at15c16c17c18c19
                have k16c17c18c19c20 := (hb20.block _ (Array.getElem?_eq_some_iff.1 k16c17c18c19).1).trans k16c17c18c19
                clear k16c17c18c19
                have at17c18c19c20 := at17c18c19.below hb20
                clear at17c18c19
                have k19c20 := (hb20.block _ (Array.getElem?_eq_some_iff.1 k19).1).trans k19
                clear k19
                clear hb20
                simp only [Act.put, List.setIfInBounds_toArray, List.set_cons_zero, List.set_cons_succ]
                refine held_one 22 (by kernel_rfl) ?_
                refine hstep_row 22 139 2 #[.int .i64 5, .string (Lx.str []), .int .i64 0, .int .i64 0, .slice (some ⟨bn, 0, none⟩) 1 1, .int .i64 5, .string (Lx.str []), .int .i64 0, .int .i64 0, .slice (some ⟨b19, 0, none⟩) 1 1] 24 rfl rfl rfl (by go_simp) (fun w' hb => below_step hb hx20) ?_
                intro x21 b21 hx21 hb21 k21
                have k14c15c16c17c18c19c20c21 := (hb21.block _ (Array.getElem?_eq_some_iff.1 k14c15c16c17c18c19c20).1).trans k14c15c16c17c18c19c20
                clear k14c15c16c17c18c19c20
                have at15c16c17c18c19c20c21 := at15c16c17c18c19c20.below hb21
                clear at15c16c17c18c19c20
                have k16c17c18c19c20c21 := (hb21.block _ (Array.getElem?_eq_some_iff.1 k16c17c18c19c20).1).trans k16c17c18c19c20
                clear k16c17c18c19c20
                have at17c18c19c20c21 := at17c18c19c20.below hb21
                clear at17c18c19c20
                have k19c20c21 := (hb21.block _ (Array.getElem?_eq_some_iff.1 k19c20).1).trans k19c20
                clear k19c20
                have at20c21 := at20.below hb21
                clear at20
                clear hb21
                simp only [Act.put, List.setIfInBounds_toArray, List.set_cons_zero, List.set_cons_succ]
                refine held_one 23 (by kernel_rfl) ?_
                refine hstep_call 23 140 28 #[.int .i64 7, .slice (some ⟨b21, 0, none⟩) 2 2] rfl rfl rfl (by go_simp) ?_
                refine (both_two 7 (by unfold Fm.I64; decide) x21 b21 (Fm.fNot f) (Fm.fNot g) _ _ (HAW.out _ hx21).2.2.1 at20c21 k21).mono ?_
                rintro e x22 ⟨rfl, hb22, at22⟩
                refine ⟨_, rfl, below_step hb22 hx21, fun hx22 => ?_⟩
                have k14c15c16c17c18c19c20c21c22 := (hb22.block _ (Array.getElem?_eq_some_iff.1 k14c15c16c17c18c19c20c21).1).trans k14c15c16c17c18c19c20c21
                clear k14c15c16c17c18c19c20c21
                have at15c16c17c18c19c20c21c22 := at15c16c17c18c19c20c21.below hb22
                clear at15c16c17c18c19c20c21
                have k16c17c18c19c20c21c22 := (hb22.block _ (Array.getElem?_eq_some_iff.1 k16c17c18c19c20c21).1).trans k16c17c18c19c20c21
                clear k16c17c18c19c20c21
                have at17c18c19c20c21c22 := at17c18c19c20c21.below hb22
                clear at17c18c19c20c21
                have k19c20c21c22 := (hb22.block _ (Array.getElem?_eq_some_iff.1 k19c20c21).1).trans k19c20c21
                clear k19c20c21
                have at20c21c22 := at20c21.below hb22
                clear at20c21
                have k21c22 := (hb22.block _ (Array.getElem?_eq_some_iff.1 k21).1).trans k21
                clear k21
                clear hb22
                simp only [Act.put, List.setIfInBounds_toArray, List.set_cons_zero, List.set_cons_succ]
                refine held_one 27 (by kernel_rfl) ?_
                refine hstep_call 27 144 25 #[.agg #[.int .i64 7, .string (Lx.str []), .int .i64 0, .int .i64 0, .slice (some ⟨b21, 0, none⟩) 2 2], .agg #[.slice va vn vc], .slice ca cn cc, .slice ta tn tc] rfl rfl rfl (by go_simp) ?_
                refine (HH.out x22 (Fm.fTwo 7 (Fm.fNot f) (Fm.fNot g)) _ (!(p && q)) hx22 HZ.out.2.2.2.2.2.2 HC.out.2.2.2.2 at22).mono ?_
                rintro e x23 ⟨rfl, hb23⟩
                refine ⟨_, rfl, below_step hb23 hx22, fun hx23 => ?_⟩
                have k14c15c16c17c18c19c20c21c22c23 := (hb23.block _ (Array.getElem?_eq_some_iff.1 k14c15c16c17c18c19c20c21c22).1).trans k14c15c16c17c18c19c20c21c22
                clear k14c15c16c17c18c19c20c21c22
                have at15c16c17c18c19c20c21c22c23 := at15c16c17c18c19c20c21c22.below hb23
                clear at15c16c17c18c19c20c21c22
                have k16c17c18c19c20c21c22c23 := (hb23.block _ (Array.getElem?_eq_some_iff.1 k16c17c18c19c20c21c22).1).trans k16c17c18c19c20c21c22
                clear k16c17c18c19c20c21c22
                have at17c18c19c20c21c22c23 := at17c18c19c20c21c22.below hb23
                clear at17c18c19c20c21c22
                have k19c20c21c22c23 := (hb23.block _ (Array.getElem?_eq_some_iff.1 k19c20c21c22).1).trans k19c20c21c22
                clear k19c20c21c22
                have at20c21c22c23 := at20c21c22.below hb23
                clear at20c21c22
                have k21c22c23 := (hb23.block _ (Array.getElem?_eq_some_iff.1 k21c22).1).trans k21c22
                clear k21c22
                have at22c23 := at22.below hb23
                clear at22
                clear hb23
                simp only [Act.put, List.setIfInBounds_toArray, List.set_cons_zero, List.set_cons_succ]
                refine held_take 28 145 (.bool true) rfl rfl (by kernel_rfl) (by kernel_rfl) (by kernel_rfl) (fun _ _ _ h => h) rfl (fun _ _ => by cases p <;> cases q <;> rfl) hx23 ?_
                simp only [Act.put, List.setIfInBounds_toArray, List.set_cons_zero, List.set_cons_succ]
                refine held_take 29 146 (.bool true) rfl rfl (by kernel_rfl) (by kernel_rfl) (by kernel_rfl) (fun _ _ _ h => h) rfl (fun _ _ => rfl) hx23 ?_
                simp only [Act.put, List.setIfInBounds_toArray, List.set_cons_zero, List.set_cons_succ]
                refine held_take 30 10 (.bool true) rfl rfl (by kernel_rfl) (by kernel_rfl) (by kernel_rfl) (fun _ _ _ h => h) rfl (fun _ _ => rfl) hx23 ?_
                simp only [Act.put, List.setIfInBounds_toArray, List.set_cons_zero, List.set_cons_succ]
                refine wpAnyH_done (by kernel_rfl) ?_ _
                refine NoPanic.normal ?_
                go_wp2_with fail
                go_ret
                exact ⟨rfl, (HAW.out _ hx23).2.2.2⟩
              · refine hstep_row 20 137 1 #[.int .i64 g.op, .string (Lx.str g.name), .int .i64 g.cmp, .int .i64 g.num, .slice ga gn gc] 24 rfl rfl rfl (by go_simp) (fun w' hb => below_step hb hx17) ?_
                intro x24 b24 hx24 hb24 k24
                have k14c15c16c17c24 := (hb24.block _ (Array.getElem?_eq_some_iff.1 k14c15c16c17).1).trans k14c15c16c17
                clear k14c15c16c17
                have at15c16c17c24 := at15c16c17.below hb24
                clear at15c16c17
                have k16c17c24 := (hb24.block _ (Array.getElem?_eq_some_iff.1 k16c17).1).trans k16c17
                clear k16c17
                have at17c24 := at17.below hb24
                clear at17
                clear hb24
                simp only [Act.put, List.setIfInBounds_toArray, List.set_cons_zero, List.set_cons_succ]
                refine held_one 17 (by kernel_rfl) ?_
                refine hstep_call 17 134 25 #[.agg #[.int .i64 5, .string (Lx.str []), .int .i64 0, .int .i64 0, .slice (some ⟨b16, 0, none⟩) 1 1], .agg #[.slice va vn vc], .slice ca cn cc, .slice ta tn tc] rfl rfl rfl (by go_simp) ?_
                refine (HH.out x24 (Fm.fNot (Fm.fTwo 6 f g)) _ (!(p && q)) hx24 HZ.out.2.2.2.2.2.1 HC.out.2.2.2.1 at17c24).mono ?_
                rintro e x25 ⟨rfl, hb25⟩
                refine ⟨_, rfl, below_step hb25 hx24, fun hx25 => ?_⟩
                have k14c15c16c17c24c25 := (hb25.block _ (Array.getElem?_eq_some_iff.1 k14c15c16c17c24).1).trans k14c15c16c17c24
                clear k14c15c16c17c24
                have at15c16c17c24c25 := at15c16c17c24.below hb25
                clear at15c16c17c24
                have k16c17c24c25 := (hb25.block _ (Array.getElem?_eq_some_iff.1 k16c17c24).1).trans k16c17c24
                clear k16c17c24
                have at17c24c25 := at17c24.below hb25
                clear at17c24
                have k24c25 := (hb25.block _ (Array.getElem?_eq_some_iff.1 k24).1).trans k24
                clear k24
                clear hb25
                simp only [Act.put, List.setIfInBounds_toArray, List.set_cons_zero, List.set_cons_succ]
                refine held_one 21 (by kernel_rfl) ?_
                refine hstep_call 21 138 28 #[.int .i64 5, .slice (some ⟨b24, 0, none⟩) 1 1] rfl rfl rfl (by go_simp) ?_
                refine (both_one 5 (by unfold Fm.I64; decide) x25 b24 g _ (HAW.out _ hx25).2.1 k24c25).mono ?_
                rintro e x26 ⟨rfl, hb26, at26⟩
                refine ⟨_, rfl, below_step hb26 hx25, fun hx26 => ?_⟩
                have k14c15c16c17c24c25c26 := (hb26.block _ (Array.getElem?_eq_some_iff.1 k14c15c16c17c24c25).1).trans k14c15c16c17c24c25
                clear k14c15c16c17c24c25
                have at15c16c17c24c25c26 := at15c16c17c24c25.below hb26
                clear at15c16c17c24c25
                have k16c17c24c25c26 := (hb26.block _ (Array.getElem?_eq_some_iff.1 k16c17c24c25).1).trans k16c17c24c25
                clear k16c17c24c25
                have at17c24c25c26 := at17c24c25.below hb26
                clear at17c24c25
                have k24c25c26 := (hb26.block _ (Array.getElem?_eq_some_iff.1 k24c25).1).trans k24c25
                clear k24c25
                clear hb26
                simp only [Act.put, List.setIfInBounds_toArray, List.set_cons_zero, List.set_cons_succ]
                refine held_one 22 (by kernel_rfl) ?_
                refine hstep_row 22 139 2 #[.int .i64 5, .string (Lx.str []), .int .i64 0, .int .i64 0, .slice (some ⟨bn, 0, none⟩) 1 1, .int .i64 5, .string (Lx.str []), .int .i64 0, .int .i64 0, .slice (some ⟨b24, 0, none⟩) 1 1] 24 rfl rfl rfl (by go_simp) (fun w' hb => below_step hb hx26) ?_
                intro x27 b27 hx27 hb27 k27
                have k14c15c16c17c24c25c26c27 := (hb27.block _ (Array.getElem?_eq_some_iff.1 k14c15c16c17c24c25c26).1).trans k14c15c16c17c24c25c26
                clear k14c15c16c17c24c25c26
                have at15c16c17c24c25c26c27 := at15c16c17c24c25c26.below hb27
                clear at15c16c17c24c25c26
                have k16c17c24c25c26c27 := (hb27.block _ (Array.getElem?_eq_some_iff.1 k16c17c24c25c26).1).trans k16c17c24c25c26
                clear k16c17c24c25c26
                have at17c24c25c26c27 := at17c24c25c26.below hb27
                clear at17c24c25c26
                have k24c25c26c27 := (hb27.block _ (Array.getElem?_eq_some_iff.1 k24c25c26).1).trans k24c25c26
                clear k24c25c26
                have at26c27 := at26.below hb27
                clear at26
                clear hb27
                simp only [Act.put, List.setIfInBounds_toArray, List.set_cons_zero, List.set_cons_succ]
                refine held_one 23 (by kernel_rfl) ?_
                refine hstep_call 23 140 28 #[.int .i64 7, .slice (some ⟨b27, 0, none⟩) 2 2] rfl rfl rfl (by go_simp) ?_
                refine (both_two 7 (by unfold Fm.I64; decide) x27 b27 (Fm.fNot f) (Fm.fNot g) _ _ (HAW.out _ hx27).2.2.1 at26c27 k27).mono ?_
                rintro e x28 ⟨rfl, hb28, at28⟩
                refine ⟨_, rfl, below_step hb28 hx27, fun hx28 => ?_⟩
                have k14c15c16c17c24c25c26c27c28 := (hb28.block _ (Array.getElem?_eq_some_iff.1 k14c15c16c17c24c25c26c27).1).trans k14c15c16c17c24c25c26c27
                clear k14c15c16c17c24c25c26c27
                have at15c16c17c24c25c26c27c28 := at15c16c17c24c25c26c27.below hb28
                clear at15c16c17c24c25c26c27
                have k16c17c24c25c26c27c28 := (hb28.block _ (Array.getElem?_eq_some_iff.1 k16c17c24c25c26c27).1).trans k16c17c24c25c26c27
                clear k16c17c24c25c26c27
                have at17c24c25c26c27c28 := at17c24c25c26c27.below hb28
                clear at17c24c25c26c27
                have k24c25c26c27c28 := (hb28.block _ (Array.getElem?_eq_some_iff.1 k24c25c26c27).1).trans k24c25c26c27
                clear k24c25c26c27
                have at26c27c28 := at26c27.below hb28
                clear at26c27
                have k27c28 := (hb28.block _ (Array.getElem?_eq_some_iff.1 k27).1).trans k27
                clear k27
                clear hb28
                simp only [Act.put, List.setIfInBounds_toArray, List.set_cons_zero, List.set_cons_succ]
                refine held_one 27 (by kernel_rfl) ?_
                refine hstep_call 27 144 25 #[.agg #[.int .i64 7, .string (Lx.str []), .int .i64 0, .int .i64 0, .slice (some ⟨b27, 0, none⟩) 2 2], .agg #[.slice va vn vc], .slice ca cn cc, .slice ta tn tc] rfl rfl rfl (by go_simp) ?_
                refine (HH.out x28 (Fm.fTwo 7 (Fm.fNot f) (Fm.fNot g)) _ (!(p && q)) hx28 HZ.out.2.2.2.2.2.2 HC.out.2.2.2.2 at28).mono ?_
                rintro e x29 ⟨rfl, hb29⟩
                refine ⟨_, rfl, below_step hb29 hx28, fun hx29 => ?_⟩
                have k14c15c16c17c24c25c26c27c28c29 := (hb29.block _ (Array.getElem?_eq_some_iff.1 k14c15c16c17c24c25c26c27c28).1).trans k14c15c16c17c24c25c26c27c28
                clear k14c15c16c17c24c25c26c27c28
                have at15c16c17c24c25c26c27c28c29 := at15c16c17c24c25c26c27c28.below hb29
                clear at15c16c17c24c25c26c27c28
                have k16c17c24c25c26c27c28c29 := (hb29.block _ (Array.getElem?_eq_some_iff.1 k16c17c24c25c26c27c28).1).trans k16c17c24c25c26c27c28
                clear k16c17c24c25c26c27c28
                have at17c24c25c26c27c28c29 := at17c24c25c26c27c28.below hb29
                clear at17c24c25c26c27c28
                have k24c25c26c27c28c29 := (hb29.block _ (Array.getElem?_eq_some_iff.1 k24c25c26c27c28).1).trans k24c25c26c27c28
                clear k24c25c26c27c28
                have at26c27c28c29 := at26c27c28.below hb29
                clear at26c27c28
                have k27c28c29 := (hb29.block _ (Array.getElem?_eq_some_iff.1 k27c28).1).trans k27c28
                clear k27c28
                have at28c29 := at28.below hb29
                clear at28
                clear hb29
                simp only [Act.put, List.setIfInBounds_toArray, List.set_cons_zero, List.set_cons_succ]
                refine held_take 28 145 (.bool true) rfl rfl (by kernel_rfl) (by kernel_rfl) (by kernel_rfl) (fun _ _ _ h => h) rfl (fun _ _ => by cases p <;> cases q <;> rfl) hx29 ?_
                simp only [Act.put, List.setIfInBounds_toArray, List.set_cons_zero, List.set_cons_succ]
                refine held_take 29 146 (.bool true) rfl rfl (by kernel_rfl) (by kernel_rfl) (by kernel_rfl) (fun _ _ _ h => h) rfl (fun _ _ => rfl) hx29 ?_
                simp only [Act.put, List.setIfInBounds_toArray, List.set_cons_zero, List.set_cons_succ]
                refine held_take 30 10 (.bool true) rfl rfl (by kernel_rfl) (by kernel_rfl) (by kernel_rfl) (fun _ _ _ h => h) rfl (fun _ _ => rfl) hx29 ?_
                simp only [Act.put, List.setIfInBounds_toArray, List.set_cons_zero, List.set_cons_succ]
                refine wpAnyH_done (by kernel_rfl) ?_ _
                refine NoPanic.normal ?_
                go_wp2_with fail
                go_ret
                exact ⟨rfl, (HAW.out _ hx29).2.2.2⟩
            · refine hstep_row 20 137 1 #[.int .i64 g.op, .string (Lx.str g.name), .int .i64 g.cmp, .int .i64 g.num, .slice ga gn gc] 24 rfl rfl rfl (by go_simp) (fun w' hb => below_step hb hx16) ?_
              intro x30 b30 hx30 hb30 k30
              have k14c15c16c30 := (hb30.block _ (Array.getElem?_eq_some_iff.1 k14c15c16).1).trans k14c15c16
              clear k14c15c16
              have at15c16c30 := at15c16.below hb30
              clear at15c16
              have k16c30 := (hb30.block _ (Array.getElem?_eq_some_iff.1 k16).1).trans k16
              clear k16
              clear hb30
              simp only [Act.put, List.setIfInBounds_toArray, List.set_cons_zero, List.set_cons_succ]
              refine held_one 13 (by kernel_rfl) ?_
              refine hstep_call 13 130 28 #[.int .i64 5, .slice (some ⟨b16, 0, none⟩) 1 1] rfl rfl rfl (by go_simp) ?_
              refine (both_one 5 (by unfold Fm.I64; decide) x30 b16 (Fm.fTwo 6 f g) _ at15c16c30 k16c30).mono ?_
              rintro e x31 ⟨rfl, hb31, at31⟩
              refine ⟨_, rfl, below_step hb31 hx30, fun hx31 => ?_⟩
              have k14c15c16c30c31 := (hb31.block _ (Array.getElem?_eq_some_iff.1 k14c15c16c30).1).trans k14c15c16c30
              clear k14c15c16c30
              have at15c16c30c31 := at15c16c30.below hb31
              clear at15c16c30
              have k16c30c31 := (hb31.block _ (Array.getElem?_eq_some_iff.1 k16c30).1).trans k16c30
              clear k16c30
              have k30c31 := (hb31.block _ (Array.getElem?_eq_some_iff.1 k30).1).trans k30
              clear k30
              clear hb31
              simp only [Act.put, List.setIfInBounds_toArray, List.set_cons_zero, List.set_cons_succ]
              refine held_one 17 (by kernel_rfl) ?_
              refine hstep_call 17 134 25 #[.agg #[.int .i64 5, .string (Lx.str []), .int .i64 0, .int .i64 0, .slice (some ⟨b16, 0, none⟩) 1 1], .agg #[.slice va vn vc], .slice ca cn cc, .slice ta tn tc] rfl rfl rfl (by go_simp) ?_
              refine (HH.out x31 (Fm.fNot (Fm.fTwo 6 f g)) _ (!(p && q)) hx31 HZ.out.2.2.2.2.2.1 HC.out.2.2.2.1 at31).mono ?_
              rintro e x32 ⟨rfl, hb32⟩
              refine ⟨_, rfl, below_step hb32 hx31, fun hx32 => ?_⟩
              have k14c15c16c30c31c32 := (hb32.block _ (Array.getElem?_eq_some_iff.1 k14c15c16c30c31).1).trans k14c15c16c30c31
              clear k14c15c16c30c31
              have at15c16c30c31c32 := at15c16c30c31.below hb32
              clear at15c16c30c31
              have k16c30c31c32 := (hb32.block _ (Array.getElem?_eq_some_iff.1 k16c30c31).1).trans k16c30c31
              clear k16c30c31
              have k30c31c32 := (hb32.block _ (Array.getElem?_eq_some_iff.1 k30c31).1).trans k30c31
              clear k30c31
              have at31c32 := at31.below hb32
              clear at31
              clear hb32
              simp only [Act.put, List.setIfInBounds_toArray, List.set_cons_zero, List.set_cons_succ]
              refine held_one 21 (by kernel_rfl) ?_
              refine hstep_call 21 138 28 #[.int .i64 5, .slice (some ⟨b30, 0, none⟩) 1 1] rfl rfl rfl (by go_simp) ?_
              refine (both_one 5 (by unfold Fm.I64; decide) x32 b30 g _ (HAW.out _ hx32).2.1 k30c31c32).mono ?_
              rintro e x33 ⟨rfl, hb33, at33⟩
              refine ⟨_, rfl, below_step hb33 hx32, fun hx33 => ?_⟩
              have k14c15c16c30c31c32c33 := (hb33.block _ (Array.getElem?_eq_some_iff.1 k14c15c16c30c31c32).1).trans k14c15c16c30c31c32
              clear k14c15c16c30c31c32
              have at15c16c30c31c32c33 := at15c16c30c31c32.below hb33
              clear at15c16c30c31c32
              have k16c30c31c32c33 := (hb33.block _ (Array.getElem?_eq_some_iff.1 k16c30c31c32).1).trans k16c30c31c32
              clear k16c30c31c32
              have k30c31c32c33 := (hb33.block _ (Array.getElem?_eq_some_iff.1 k30c31c32).1).trans k30c31c32
              clear k30c31c32
              have at31c32c33 := at31c32.below hb33
              clear at31c32
              clear hb33
              simp only [Act.put, List.setIfInBounds_toArray, List.set_cons_zero, List.set_cons_succ]
              refine held_one 22 (by kernel_rfl) ?_
              refine hstep_row 22 139 2 #[.int .i64 5, .string (Lx.str []), .int .i64 0, .int .i64 0, .slice (some ⟨bn, 0, none⟩) 1 1, .int .i64 5, .string (Lx.str []), .int .i64 0, .int .i64 0, .slice (some ⟨b30, 0, none⟩) 1 1] 24 rfl rfl rfl (by go_simp) (fun w' hb => below_step hb hx33) ?_
              intro x34 b34 hx34 hb34 k34
              have k14c15c16c30c31c32c33c34 := (hb34.block _ (Array.getElem?_eq_some_iff.1 k14c15c16c30c31c32c33).1).trans k14c15c16c30c31c32c33
              clear k14c15c16c30c31c32c33
              have at15c16c30c31c32c33c34 := at15c16c30c31c32c33.below hb34
              clear at15c16c30c31c32c33
              have k16c30c31c32c33c34 := (hb34.block _ (Array.getElem?_eq_some_iff.1 k16c30c31c32c33).1).trans k16c30c31c32c33
              clear k16c30c31c32c33
              have k30c31c32c33c34 := (hb34.block _ (Array.getElem?_eq_some_iff.1 k30c31c32c33).1).trans k30c31c32c33
              clear k30c31c32c33
              have at31c32c33c34 := at31c32c33.below hb34
              clear at31c32c33
              have at33c34 := at33.below hb34
              clear at33
              clear hb34
              simp only [Act.put, List.setIfInBounds_toArray, List.set_cons_zero, List.set_cons_succ]
              refine held_one 23 (by kernel_rfl) ?_
              refine hstep_call 23 140 28 #[.int .i64 7, .slice (some ⟨b34, 0, none⟩) 2 2] rfl rfl rfl (by go_simp) ?_
              refine (both_two 7 (by unfold Fm.I64; decide) x34 b34 (Fm.fNot f) (Fm.fNot g) _ _ (HAW.out _ hx34).2.2.1 at33c34 k34).mono ?_
              rintro e x35 ⟨rfl, hb35, at35⟩
              refine ⟨_, rfl, below_step hb35 hx34, fun hx35 => ?_⟩
              have k14c15c16c30c31c32c33c34c35 := (hb35.block _ (Array.getElem?_eq_some_iff.1 k14c15c16c30c31c32c33c34).1).trans k14c15c16c30c31c32c33c34
              clear k14c15c16c30c31c32c33c34
              have at15c16c30c31c32c33c34c35 := at15c16c30c31c32c33c34.below hb35
              clear at15c16c30c31c32c33c34
              have k16c30c31c32c33c34c35 := (hb35.block _ (Array.getElem?_eq_some_iff.1 k16c30c31c32c33c34).1).trans k16c30c31c32c33c34
              clear k16c30c31c32c33c34
              have k30c31c32c33c34c35 := (hb35.block _ (Array.getElem?_eq_some_iff.1 k30c31c32c33c34).1).trans k30c31c32c33c34
              clear k30c31c32c33c34
              have at31c32c33c34c35 := at31c32c33c34.below hb35
              clear at31c32c33c34
              have at33c34c35 := at33c34.below hb35
              clear at33c34
              have k34c35 := (hb35.block _ (Array.getElem?_eq_some_iff.1 k34).1).trans k34
              clear k34
              clear hb35
              simp only [Act.put, List.setIfInBounds_toArray, List.set_cons_zero, List.set_cons_succ]
              refine held_one 27 (by kernel_rfl) ?_
              refine hstep_call 27 144 25 #[.agg #[.int .i64 7, .string (Lx.str []), .int .i64 0, .int .i64 0, .slice (some ⟨b34, 0, none⟩) 2 2], .agg #[.slice va vn vc], .slice ca cn cc, .slice ta tn tc] rfl rfl rfl (by go_simp) ?_
              refine (HH.out x35 (Fm.fTwo 7 (Fm.fNot f) (Fm.fNot g)) _ (!(p && q)) hx35 HZ.out.2.2.2.2.2.2 HC.out.2.2.2.2 at35).mono ?_
              rintro e x36 ⟨rfl, hb36⟩
              refine ⟨_, rfl, below_step hb36 hx35, fun hx36 => ?_⟩
              have k14c15c16c30c31c32c33c34c35c36 := (hb36.block _ (Array.getElem?_eq_some_iff.1 k14c15c16c30c31c32c33c34c35).1).trans k14c15c16c30c31c32c33c34c35
              clear k14c15c16c30c31c32c33c34c35
              have at15c16c30c31c32c33c34c35c36 := at15c16c30c31c32c33c34c35.below hb36
              clear at15c16c30c31c32c33c34c35
              have k16c30c31c32c33c34c35c36 := (hb36.block _ (Array.getElem?_eq_some_iff.1 k16c30c31c32c33c34c35).1).trans k16c30c31c32c33c34c35
              clear k16c30c31c32c33c34c35
              have k30c31c32c33c34c35c36 := (hb36.block _ (Array.getElem?_eq_some_iff.1 k30c31c32c33c34c35).1).trans k30c31c32c33c34c35
              clear k30c31c32c33c34c35
              have at31c32c33c34c35c36 := at31c32c33c34c35.below hb36
              clear at31c32c33c34c35
              have at33c34c35c36 := at33c34c35.below hb36
              clear at33c34c35
              have k34c35c36 := (hb36.block _ (Array.getElem?_eq_some_iff.1 k34c35).1).trans k34c35
              clear k34c35
              have at35c36 := at35.below hb36
              clear at35
              clear hb36
              simp only [Act.put, List.setIfInBounds_toArray, List.set_cons_zero, List.set_cons_succ]
              refine held_take 28 145 (.bool true) rfl rfl (by kernel_rfl) (by kernel_rfl) (by kernel_rfl) (fun _ _ _ h => h) rfl (fun _ _ => by cases p <;> cases q <;> rfl) hx36 ?_
              simp only [Act.put, List.setIfInBounds_toArray, List.set_cons_zero, List.set_cons_succ]
              refine held_take 29 146 (.bool true) rfl rfl (by kernel_rfl) (by kernel_rfl) (by kernel_rfl) (fun _ _ _ h => h) rfl (fun _ _ => rfl) hx36 ?_
              simp only [Act.put, List.setIfInBounds_toArray, List.set_cons_zero, List.set_cons_succ]
              refine held_take 30 10 (.bool true) rfl rfl (by kernel_rfl) (by kernel_rfl) (by kernel_rfl) (fun _ _ _ h => h) rfl (fun _ _ => rfl) hx36 ?_
              simp only [Act.put, List.setIfInBounds_toArray, List.set_cons_zero, List.set_cons_succ]
              refine wpAnyH_done (by kernel_rfl) ?_ _
              refine NoPanic.normal ?_
              go_wp2_with fail
              go_ret
              exact ⟨rfl, (HAW.out _ hx36).2.2.2⟩
          · refine hstep_row 20 137 1 #[.int .i64 g.op, .string (Lx.str g.name), .int .i64 g.cmp, .int .i64 g.num, .slice ga gn gc] 24 rfl rfl rfl (by go_simp) (fun w' hb => below_step hb hx15) ?_
            intro x37 b37 hx37 hb37 k37
            have k14c15c37 := (hb37.block _ (Array.getElem?_eq_some_iff.1 k14c15).1).trans k14c15
            clear k14c15
            have at15c37 := at15.below hb37
            clear at15
            clear hb37
            simp only [Act.put, List.setIfInBounds_toArray, List.set_cons_zero, List.set_cons_succ]
            refine held_one 12 (by kernel_rfl) ?_
            refine hstep_row 12 129 1 #[.int .i64 6, .string (Lx.str []), .int .i64 0, .int .i64 0, .slice (some ⟨b14, 0, none⟩) 2 2] 24 rfl rfl rfl (by go_simp) (fun w' hb => below_step hb hx37) ?_
            intro x38 b38 hx38 hb38 k38
            have k14c15c37c38 := (hb38.block _ (Array.getElem?_eq_some_iff.1 k14c15c37).1).trans k14c15c37
            clear k14c15c37
            have at15c37c38 := at15c37.below hb38
            clear at15c37
            have k37c38 := (hb38.block _ (Array.getElem?_eq_some_iff.1 k37).1).trans k37
            clear k37
            clear hb38
            simp only [Act.put, List.setIfInBounds_toArray, List.set_cons_zero, List.set_cons_succ]
            refine held_one 13 (by kernel_rfl) ?_
            refine hstep_call 13 130 28 #[.int .i64 5, .slice (some ⟨b38, 0, none⟩) 1 1] rfl rfl rfl (by go_simp) ?_
            refine (both_one 5 (by unfold Fm.I64; decide) x38 b38 (Fm.fTwo 6 f g) _ at15c37c38 k38).mono ?_
            rintro e x39 ⟨rfl, hb39, at39⟩
            refine ⟨_, rfl, below_step hb39 hx38, fun hx39 => ?_⟩
            have k14c15c37c38c39 := (hb39.block _ (Array.getElem?_eq_some_iff.1 k14c15c37c38).1).trans k14c15c37c38
            clear k14c15c37c38
            have at15c37c38c39 := at15c37c38.below hb39
            clear at15c37c38
            have k37c38c39 := (hb39.block _ (Array.getElem?_eq_some_iff.1 k37c38).1).trans k37c38
            clear k37c38
            have k38c39 := (hb39.block _ (Array.getElem?_eq_some_iff.1 k38).1).trans k38
            clear k38
            clear hb39
            simp only [Act.put, List.setIfInBounds_toArray, List.set_cons_zero, List.set_cons_succ]
            refine held_one 17 (by kernel_rfl) ?_
            refine hstep_call 17 134 25 #[.agg #[.int .i64 5, .string (Lx.str []), .int .i64 0, .int .i64 0, .slice (some ⟨b38, 0, none⟩) 1 1], .agg #[.slice va vn vc], .slice ca cn cc, .slice ta tn tc] rfl rfl rfl (by go_simp) ?_
            refine (HH.out x39 (Fm.fNot (Fm.fTwo 6 f g)) _ (!(p && q)) hx39 HZ.out.2.2.2.2.2.1 HC.out.2.2.2.1 at39).mono ?_
            rintro e x40 ⟨rfl, hb40⟩
            refine ⟨_, rfl, below_step hb40 hx39, fun hx40 => ?_⟩
            have k14c15c37c38c39c40 := (hb40.block _ (Array.getElem?_eq_some_iff.1 k14c15c37c38c39).1).trans k14c15c37c38c39
            clear k14c15c37c38c39
            have at15c37c38c39c40 := at15c37c38c39.below hb40
            clear at15c37c38c39
            have k37c38c39c40 := (hb40.block _ (Array.getElem?_eq_some_iff.1 k37c38c39).1).trans k37c38c39
            clear k37c38c39
            have k38c39c40 := (hb40.block _ (Array.getElem?_eq_some_iff.1 k38c39).1).trans k38c39
            clear k38c39
            have at39c40 := at39.below hb40
            clear at39
            clear hb40
            simp only [Act.put, List.setIfInBounds_toArray, List.set_cons_zero, List.set_cons_succ]
            refine held_one 21 (by kernel_rfl) ?_
            refine hstep_call 21 138 28 #[.int .i64 5, .slice (some ⟨b37, 0, none⟩) 1 1] rfl rfl rfl (by go_simp) ?_
            refine (both_one 5 (by unfold Fm.I64; decide) x40 b37 g _ (HAW.out _ hx40).2.1 k37c38c39c40).mono ?_
            rintro e x41 ⟨rfl, hb41, at41⟩
            refine ⟨_, rfl, below_step hb41 hx40, fun hx41 => ?_⟩
            have k14c15c37c38c39c40c41 := (hb41.block _ (Array.getElem?_eq_some_iff.1 k14c15c37c38c39c40).1).trans k14c15c37c38c39c40
            clear k14c15c37c38c39c40
            have at15c37c38c39c40c41 := at15c37c38c39c40.below hb41
            clear at15c37c38c39c40
            have k37c38c39c40c41 := (hb41.block _ (Array.getElem?_eq_some_iff.1 k37c38c39c40).1).trans k37c38c39c40
            clear k37c38c39c40
            have k38c39c40c41 := (hb41.block _ (Array.getElem?_eq_some_iff.1 k38c39c40).1).trans k38c39c40
            clear k38c39c40
            have at39c40c41 := at39c40.below hb41
            clear at39c40
            clear hb41
            simp only [Act.put, List.setIfInBounds_toArray, List.set_cons_zero, List.set_cons_succ]
            refine held_one 22 (by kernel_rfl) ?_
            refine hstep_row 22 139 2 #[.int .i64 5, .string (Lx.str []), .int .i64 0, .int .i64 0, .slice (some ⟨bn, 0, none⟩) 1 1, .int .i64 5, .string (Lx.str []), .int .i64 0, .int .i64 0, .slice (some ⟨b37, 0, none⟩) 1 1] 24 rfl rfl rfl (by go_simp) (fun w' hb => below_step hb hx41) ?_
            intro x42 b42 hx42 hb42 k42
            have k14c15c37c38c39c40c41c42 := (hb42.block _ (Array.getElem?_eq_some_iff.1 k14c15c37c38c39c40c41).1).trans k14c15c37c38c39c40c41
            clear k14c15c37c38c39c40c41
            have at15c37c38c39c40c41c42 := at15c37c38c39c40c41.below hb42
            clear at15c37c38c39c40c41
            have k37c38c39c40c41c42 := (hb42.block _ (Array.getElem?_eq_some_iff.1 k37c38c39c40c41).1).trans k37c38c39c40c41
            clear k37c38c39c40c41
            have k38c39c40c41c42 := (hb42.block _ (Array.getElem?_eq_some_iff.1 k38c39c40c41).1).trans k38c39c40c41
            clear k38c39c40c41
            have at39c40c41c42 := at39c40c41.below hb42
            clear at39c40c41
            have at41c42 := at41.below hb42
            clear at41
            clear hb42
            simp only [Act.put, List.setIfInBounds_toArray, List.set_cons_zero, List.set_cons_succ]
            refine held_one 23 (by kernel_rfl) ?_
            refine hstep_call 23 140 28 #[.int .i64 7, .slice (some ⟨b42, 0, none⟩) 2 2] rfl rfl rfl (by go_simp) ?_
            refine (both_two 7 (by unfold Fm.I64; decide) x42 b42 (Fm.fNot f) (Fm.fNot g) _ _ (HAW.out _ hx42).2.2.1 at41c42 k42).mono ?_
            rintro e x43 ⟨rfl, hb43, at43⟩
            refine ⟨_, rfl, below_step hb43 hx42, fun hx43 => ?_⟩
            have k14c15c37c38c39c40c41c42c43 := (hb43.block _ (Array.getElem?_eq_some_iff.1 k14c15c37c38c39c40c41c42).1).trans k14c15c37c38c39c40c41c42
            clear k14c15c37c38c39c40c41c42
            have at15c37c38c39c40c41c42c43 := at15c37c38c39c40c41c42.below hb43
            clear at15c37c38c39c40c41c42
            have k37c38c39c40c41c42c43 := (hb43.block _ (Array.getElem?_eq_some_iff.1 k37c38c39c40c41c42).1).trans k37c38c39c40c41c42
            clear k37c38c39c40c41c42
            have k38c39c40c41c42c43 := (hb43.block _ (Array.getElem?_eq_some_iff.1 k38c39c40c41c42).1).trans k38c39c40c41c42
            clear k38c39c40c41c42
            have at39c40c41c42c43 := at39c40c41c42.below hb43
            clear at39c40c41c42
            have at41c42c43 := at41c42.below hb43
            clear at41c42
            have k42c43 := (hb43.block _ (Array.getElem?_eq_some_iff.1 k42).1).trans k42
            clear k42
            clear hb43
            simp only [Act.put, List.setIfInBounds_toArray, List.set_cons_zero, List.set_cons_succ]
            refine held_one 27 (by kernel_rfl) ?_
            refine hstep_call 27 144 25 #[.agg #[.int .i64 7, .string (Lx.str []), .int .i64 0, .int .i64 0, .slice (some ⟨b42, 0, none⟩) 2 2], .agg #[.slice va vn vc], .slice ca cn cc, .slice ta tn tc] rfl rfl rfl (by go_simp) ?_
            refine (HH.out x43 (Fm.fTwo 7 (Fm.fNot f) (Fm.fNot g)) _ (!(p && q)) hx43 HZ.out.2.2.2.2.2.2 HC.out.2.2.2.2 at43).mono ?_
            rintro e x44 ⟨rfl, hb44⟩
            refine ⟨_, rfl, below_step hb44 hx43, fun hx44 => ?_⟩
            have k14c15c37c38c39c40c41c42c43c44 := (hb44.block _ (Array.getElem?_eq_some_iff.1 k14c15c37c38c39c40c41c42c43).1).trans k14c15c37c38c39c40c41c42c43
            clear k14c15c37c38c39c40c41c42c43
            have at15c37c38c39c40c41c42c43c44 := at15c37c38c39c40c41c42c43.below hb44
            clear at15c37c38c39c40c41c42c43
            have k37c38c39c40c41c42c43c44 := (hb44.block _ (Array.getElem?_eq_some_iff.1 k37c38c39c40c41c42c43).1).trans k37c38c39c40c41c42c43
            clear k37c38c39c40c41c42c43
            have k38c39c40c41c42c43c44 := (hb44.block _ (Array.getElem?_eq_some_iff.1 k38c39c40c41c42c43).1).trans k38c39c40c41c42c43
            clear k38c39c40c41c42c43
            have at39c40c41c42c43c44 := at39c40c41c42c43.below hb44
            clear at39c40c41c42c43
            have at41c42c43c44 := at41c42c43.below hb44
            clear at41c42c43
            have k42c43c44 := (hb44.block _ (Array.getElem?_eq_some_iff.1 k42c43).1).trans k42c43
            clear k42c43
            have at43c44 := at43.below hb44
            clear at43
            clear hb44
            simp only [Act.put, List.setIfInBounds_toArray, List.set_cons_zero, List.set_cons_succ]
            refine held_take 28 145 (.bool true) rfl rfl (by kernel_rfl) (by kernel_rfl) (by kernel_rfl) (fun _ _ _ h => h) rfl (fun _ _ => by cases p <;> cases q <;> rfl) hx44 ?_
            simp only [Act.put, List.setIfInBounds_toArray, List.set_cons_zero, List.set_cons_succ]
            refine held_take 29 146 (.bool true) rfl rfl (by kernel_rfl) (by kernel_rfl) (by kernel_rfl) (fun _ _ _ h => h) rfl (fun _ _ => rfl) hx44 ?_
            simp only [Act.put, List.setIfInBounds_toArray, List.set_cons_zero, List.set_cons_succ]
            refine held_take 30 10 (.bool true) rfl rfl (by kernel_rfl) (by kernel_rfl) (by kernel_rfl) (fun _ _ _ h => h) rfl (fun _ _ => rfl) hx44 ?_
            simp only [Act.put, List.setIfInBounds_toArray, List.set_cons_zero, List.set_cons_succ]
            refine wpAnyH_done (by kernel_rfl) ?_ _
            refine NoPanic.normal ?_
            go_wp2_with fail
            go_ret
            exact ⟨rfl, (HAW.out _ hx44).2.2.2⟩
        · refine hstep_row 20 137 1 #[.int .i64 g.op, .string (Lx.str g.name), .int .i64 g.cmp, .int .i64 g.num, .slice ga gn gc] 24 rfl rfl rfl (by go_simp) (fun w' hb => below_step hb hx14) ?_
          intro x45 b45 hx45 hb45 k45
          have k14c45 := (hb45.block _ (Array.getElem?_eq_some_iff.1 k14).1).trans k14
          clear k14
          clear hb45
          simp only [Act.put, List.setIfInBounds_toArray, List.set_cons_zero, List.set_cons_succ]
          refine held_one 11 (by kernel_rfl) ?_
          refine hstep_call 11 128 28 #[.int .i64 6, .slice (some ⟨b14, 0, none⟩) 2 2] rfl rfl rfl (by go_simp) ?_
          refine (both_two 6 (by unfold Fm.I64; decide) x45 b14 f g _ _ (HAW.out _ hx45).1 (HAW.out _ hx45).2.1 k14c45).mono ?_
          rintro e x46 ⟨rfl, hb46, at46⟩
          refine ⟨_, rfl, below_step hb46 hx45, fun hx46 => ?_⟩
          have k14c45c46 := (hb46.block _ (Array.getElem?_eq_some_iff.1 k14c45).1).trans k14c45
          clear k14c45
          have k45c46 := (hb46.block _ (Array.getElem?_eq_some_iff.1 k45).1).trans k45
          clear k45
          clear hb46
          simp only [Act.put, List.setIfInBounds_toArray, List.set_cons_zero, List.set_cons_succ]
          refine held_one 12 (by kernel_rfl) ?_
          refine hstep_row 12 129 1 #[.int .i64 6, .string (Lx.str []), .int .i64 0, .int .i64 0, .slice (some ⟨b14, 0, none⟩) 2 2] 24 rfl rfl rfl (by go_simp) (fun w' hb => below_step hb hx46) ?_
          intro x47 b47 hx47 hb47 k47
          have k14c45c46c47 := (hb47.block _ (Array.getElem?_eq_some_iff.1 k14c45c46).1).trans k14c45c46
          clear k14c45c46
          have k45c46c47 := (hb47.block _ (Array.getElem?_eq_some_iff.1 k45c46).1).trans k45c46
          clear k45c46
          have at46c47 := at46.below hb47
          clear at46
          clear hb47
          simp only [Act.put, List.setIfInBounds_toArray, List.set_cons_zero, List.set_cons_succ]
          refine held_one 13 (by kernel_rfl) ?_
          refine hstep_call 13 130 28 #[.int .i64 5, .slice (some ⟨b47, 0, none⟩) 1 1] rfl rfl rfl (by go_simp) ?_
          refine (both_one 5 (by unfold Fm.I64; decide) x47 b47 (Fm.fTwo 6 f g) _ at46c47 k47).mono ?_
          rintro e x48 ⟨rfl, hb48, at48⟩
          refine ⟨_, rfl, below_step hb48 hx47, fun hx48 => ?_⟩
          have k14c45c46c47c48 := (hb48.block _ (Array.getElem?_eq_some_iff.1 k14c45c46c47).1).trans k14c45c46c47
          clear k14c45c46c47
          have k45c46c47c48 := (hb48.block _ (Array.getElem?_eq_some_iff.1 k45c46c47).1).trans k45c46c47
          clear k45c46c47
          have at46c47c48 := at46c47.below hb48
          clear at46c47
          have k47c48 := (hb48.block _ (Array.getElem?_eq_some_iff.1 k47).1).trans k47
          clear k47
          clear hb48
          simp only [Act.put, List.setIfInBounds_toArray, List.set_cons_zero, List.set_cons_succ]
          refine held_one 17 (by kernel_rfl) ?_
          refine hstep_call 17 134 25 #[.agg #[.int .i64 5, .string (Lx.str []), .int .i64 0, .int .i64 0, .slice (some ⟨b47, 0, none⟩) 1 1], .agg #[.slice va vn vc], .slice ca cn cc, .slice ta tn tc] rfl rfl rfl (by go_simp) ?_
          refine (HH.out x48 (Fm.fNot (Fm.fTwo 6 f g)) _ (!(p && q)) hx48 HZ.out.2.2.2.2.2.1 HC.out.2.2.2.1 at48).mono ?_
          rintro e x49 ⟨rfl, hb49⟩
          refine ⟨_, rfl, below_step hb49 hx48, fun hx49 => ?_⟩
          have k14c45c46c47c48c49 := (hb49.block _ (Array.getElem?_eq_some_iff.1 k14c45c46c47c48).1).trans k14c45c46c47c48
          clear k14c45c46c47c48
          have k45c46c47c48c49 := (hb49.block _ (Array.getElem?_eq_some_iff.1 k45c46c47c48).1).trans k45c46c47c48
          clear k45c46c47c48
          have at46c47c48c49 := at46c47c48.below hb49
          clear at46c47c48
          have k47c48c49 := (hb49.block _ (Array.getElem?_eq_some_iff.1 k47c48).1).trans k47c48
          clear k47c48
          have at48c49 := at48.below hb49
          clear at48
          clear hb49
          simp only [Act.put, List.setIfInBounds_toArray, List.set_cons_zero, List.set_cons_succ]
          refine held_one 21 (by kernel_rfl) ?_
          refine hstep_call 21 138 28 #[.int .i64 5, .slice (some ⟨b45, 0, none⟩) 1 1] rfl rfl rfl (by go_simp) ?_
          refine (both_one 5 (by unfold Fm.I64; decide) x49 b45 g _ (HAW.out _ hx49).2.1 k45c46c47c48c49).mono ?_
          rintro e x50 ⟨rfl, hb50, at50⟩
          refine ⟨_, rfl, below_step hb50 hx49, fun hx50 => ?_⟩
          have k14c45c46c47c48c49c50 := (hb50.block _ (Array.getElem?_eq_some_iff.1 k14c45c46c47c48c49).1).trans k14c45c46c47c48c49
          clear k14c45c46c47c48c49
          have k45c46c47c48c49c50 := (hb50.block _ (Array.getElem?_eq_some_iff.1 k45c46c47c48c49).1).trans k45c46c47c48c49
          clear k45c46c47c48c49
          have at46c47c48c49c50 := at46c47c48c49.below hb50
          clear at46c47c48c49
          have k47c48c49c50 := (hb50.block _ (Array.getElem?_eq_some_iff.1 k47c48c49).1).trans k47c48c49
          clear k47c48c49
          have at48c49c50 := at48c49.below hb50
          clear at48c49
          clear hb50
          simp only [Act.put, List.setIfInBounds_toArray, List.set_cons_zero, List.set_cons_succ]
          refine held_one 22 (by kernel_rfl) ?_
          refine hstep_row 22 139 2 #[.int .i64 5, .string (Lx.str []), .int .i64 0, .int .i64 0, .slice (some ⟨bn, 0, none⟩) 1 1, .int .i64 5, .string (Lx.str []), .int .i64 0, .int .i64 0, .slice (some ⟨b45, 0, none⟩) 1 1] 24 rfl rfl rfl (by go_simp) (fun w' hb => below_step hb hx50) ?_
          intro x51 b51 hx51 hb51 k51
          have k14c45c46c47c48c49c50c51 := (hb51.block _ (Array.getElem?_eq_some_iff.1 k14c45c46c47c48c49c50).1).trans k14c45c46c47c48c49c50
          clear k14c45c46c47c48c49c50
          have k45c46c47c48c49c50c51 := (hb51.block _ (Array.getElem?_eq_some_iff.1 k45c46c47c48c49c50).1).trans k45c46c47c48c49c50
          clear k45c46c47c48c49c50
          have at46c47c48c49c50c51 := at46c47c48c49c50.below hb51
          clear at46c47c48c49c50
          have k47c48c49c50c51 := (hb51.block _ (Array.getElem?_eq_some_iff.1 k47c48c49c50).1).trans k47c48c49c50
          clear k47c48c49c50
          have at48c49c50c51 := at48c49c50.below hb51
          clear at48c49c50
          have at50c51 := at50.below hb51
          clear at50
          clear hb51
          simp only [Act.put, List.setIfInBounds_toArray, List.set_cons_zero, List.set_cons_succ]
          refine held_one 23 (by kernel_rfl) ?_
          refine hstep_call 23 140 28 #[.int .i64 7, .slice (some ⟨b51, 0, none⟩) 2 2] rfl rfl rfl (by go_simp) ?_
          refine (both_two 7 (by unfold Fm.I64; decide) x51 b51 (Fm.fNot f) (Fm.fNot g) _ _ (HAW.out _ hx51).2.2.1 at50c51 k51).mono ?_
          rintro e x52 ⟨rfl, hb52, at52⟩
          refine ⟨_, rfl, below_step hb52 hx51, fun hx52 => ?_⟩
          have k14c45c46c47c48c49c50c51c52 := (hb52.block _ (Array.getElem?_eq_some_iff.1 k14c45c46c47c48c49c50c51).1).trans k14c45c46c47c48c49c50c51
          clear k14c45c46c47c48c49c50c51
          have k45c46c47c48c49c50c51c52 := (hb52.block _ (Array.getElem?_eq_some_iff.1 k45c46c47c48c49c50c51).1).trans k45c46c47c48c49c50c51
          clear k45c46c47c48c49c50c51
          have at46c47c48c49c50c51c52 := at46c47c48c49c50c51.below hb52
          clear at46c47c48c49c50c51
          have k47c48c49c50c51c52 := (hb52.block _ (Array.getElem?_eq_some_iff.1 k47c48c49c50c51).1).trans k47c48c49c50c51
          clear k47c48c49c50c51
          have at48c49c50c51c52 := at48c49c50c51.below hb52
          clear at48c49c50c51
          have at50c51c52 := at50c51.below hb52
          clear at50c51
          have k51c52 := (hb52.block _ (Array.getElem?_eq_some_iff.1 k51).1).trans k51
          clear k51
          clear hb52
          simp only [Act.put, List.setIfInBounds_toArray, List.set_cons_zero, List.set_cons_succ]
          refine held_one 27 (by kernel_rfl) ?_
          refine hstep_call 27 144 25 #[.agg #[.int .i64 7, .string (Lx.str []), .int .i64 0, .int .i64 0, .slice (some ⟨b51, 0, none⟩) 2 2], .agg #[.slice va vn vc], .slice ca cn cc, .slice ta tn tc] rfl rfl rfl (by go_simp) ?_
          refine (HH.out x52 (Fm.fTwo 7 (Fm.fNot f) (Fm.fNot g)) _ (!(p && q)) hx52 HZ.out.2.2.2.2.2.2 HC.out.2.2.2.2 at52).mono ?_
          rintro e x53 ⟨rfl, hb53⟩
          refine ⟨_, rfl, below_step hb53 hx52, fun hx53 => ?_⟩
          have k14c45c46c47c48c49c50c51c52c53 := (hb53.block _ (Array.getElem?_eq_some_iff.1 k14c45c46c47c48c49c50c51c52).1).trans k14c45c46c47c48c49c50c51c52
          clear k14c45c46c47c48c49c50c51c52
          have k45c46c47c48c49c50c51c52c53 := (hb53.block _ (Array.getElem?_eq_some_iff.1 k45c46c47c48c49c50c51c52).1).trans k45c46c47c48c49c50c51c52
          clear k45c46c47c48c49c50c51c52
          have at46c47c48c49c50c51c52c53 := at46c47c48c49c50c51c52.below hb53
          clear at46c47c48c49c50c51c52
          have k47c48c49c50c51c52c53 := (hb53.block _ (Array.getElem?_eq_some_iff.1 k47c48c49c50c51c52).1).trans k47c48c49c50c51c52
          clear k47c48c49c50c51c52
          have at48c49c50c51c52c53 := at48c49c50c51c52.below hb53
          clear at48c49c50c51c52
          have at50c51c52c53 := at50c51c52.below hb53
          clear at50c51c52
          have k51c52c53 := (hb53.block _ (Array.getElem?_eq_some_iff.1 k51c52).1).trans k51c52
          clear k51c52
          have at52c53 := at52.below hb53
          clear at52
          clear hb53
          simp only [Act.put, List.setIfInBounds_toArray, List.set_cons_zero, List.set_cons_succ]
          refine held_take 28 145 (.bool true) rfl rfl (by kernel_rfl) (by kernel_rfl) (by kernel_rfl) (fun _ _ _ h => h) rfl (fun _ _ => by cases p <;> cases q <;> rfl) hx53 ?_
          simp only [Act.put, List.setIfInBounds_toArray, List.set_cons_zero, List.set_cons_succ]
          refine held_take 29 146 (.bool true) rfl rfl (by kernel_rfl) (by kernel_rfl) (by kernel_rfl) (fun _ _ _ h => h) rfl (fun _ _ => rfl) hx53 ?_
          simp only [Act.put, List.setIfInBounds_toArray, List.set_cons_zero, List.set_cons_succ]
          refine held_take 30 10 (.bool true) rfl rfl (by kernel_rfl) (by kernel_rfl) (by kernel_rfl) (fun _ _ _ h => h) rfl (fun _ _ => rfl) hx53 ?_
          simp only [Act.put, List.setIfInBounds_toArray, List.set_cons_zero, List.set_cons_succ]
          refine wpAnyH_done (by kernel_rfl) ?_ _
          refine NoPanic.normal ?_
          go_wp2_with fail
          go_ret
          exact ⟨rfl, (HAW.out _ hx53).2.2.2⟩
      · refine hstep_row 20 137 1 #[.int .i64 g.op, .string (Lx.str g.name), .int .i64 g.cmp, .int .i64 g.num, .slice ga gn gc] 24 rfl rfl rfl (by go_simp) (fun w' hb => below_step hb hHeld) ?_
        intro x54 b54 hx54 hb54 k54
        clear hb54
        simp only [Act.put, List.setIfInBounds_toArray, List.set_cons_zero, List.set_cons_succ]
        refine held_one 10 (by kernel_rfl) ?_
        refine hstep_row 10 127 2 #[.int .i64 f.op, .string (Lx.str f.name), .int .i64 f.cmp, .int .i64 f.num, .slice a n c, .int .i64 g.op, .string (Lx.str g.name), .int .i64 g.cmp, .int .i64 g.num, .slice ga gn gc] 24 rfl rfl rfl (by go_simp) (fun w' hb => below_step hb hx54) ?_
        intro x55 b55 hx55 hb55 k55
        have k54c55 := (hb55.block _ (Array.getElem?_eq_some_iff.1 k54).1).trans k54
        clear k54
        clear hb55
        simp only [Act.put, List.setIfInBounds_toArray, List.set_cons_zero, List.set_cons_succ]
        refine held_one 11 (by kernel_rfl) ?_
        refine hstep_call 11 128 28 #[.int .i64 6, .slice (some ⟨b55, 0, none⟩) 2 2] rfl rfl rfl (by go_simp) ?_
        refine (both_two 6 (by unfold Fm.I64; decide) x55 b55 f g _ _ (HAW.out _ hx55).1 (HAW.out _ hx55).2.1 k55).mono ?_
        rintro e x56 ⟨rfl, hb56, at56⟩
        refine ⟨_, rfl, below_step hb56 hx55, fun hx56 => ?_⟩
        have k54c55c56 := (hb56.block _ (Array.getElem?_eq_some_iff.1 k54c55).1).trans k54c55
        clear k54c55
        have k55c56 := (hb56.block _ (Array.getElem?_eq_some_iff.1 k55).1).trans k55
        clear k55
        clear hb56
        simp only [Act.put, List.setIfInBounds_toArray, List.set_cons_zero, List.set_cons_succ]
        refine held_one 12 (by kernel_rfl) ?_
        refine hstep_row 12 129 1 #[.int .i64 6, .string (Lx.str []), .int .i64 0, .int .i64 0, .slice (some ⟨b55, 0, none⟩) 2 2] 24 rfl rfl rfl (by go_simp) (fun w' hb => below_step hb hx56) ?_
        intro x57 b57 hx57 hb57 k57
        have k54c55c56c57 := (hb57.block _ (Array.getElem?_eq_some_iff.1 k54c55c56).1).trans k54c55c56
        clear k54c55c56
        have k55c56c57 := (hb57.block _ (Array.getElem?_eq_some_iff.1 k55c56).1).trans k55c56
        clear k55c56
        have at56c57 := at56.below hb57
        clear at56
        clear hb57
        simp only [Act.put, List.setIfInBounds_toArray, List.set_cons_zero, List.set_cons_succ]
        refine held_one 13 (by kernel_rfl) ?_
        refine hstep_call 13 130 28 #[.int .i64 5, .slice (some ⟨b57, 0, none⟩) 1 1] rfl rfl rfl (by go_simp) ?_
        refine (both_one 5 (by unfold Fm.I64; decide) x57 b57 (Fm.fTwo 6 f g) _ at56c57 k57).mono ?_
        rintro e x58 ⟨rfl, hb58, at58⟩
        refine ⟨_, rfl, below_step hb58 hx57, fun hx58 => ?_⟩
        have k54c55c56c57c58 := (hb58.block _ (Array.getElem?_eq_some_iff.1 k54c55c56c57).1).trans k54c55c56c57
        clear k54c55c56c57
        have k55c56c57c58 := (hb58.block _ (Array.getElem?_eq_some_iff.1 k55c56c57).1).trans k55c56c57
        clear k55c56c57
        have at56c57c58 := at56c57.below hb58
        clear at56c57
        have k57c58 := (hb58.block _ (Array.getElem?_eq_some_iff.1 k57).1).trans k57
        clear k57
        clear hb58
        simp only [Act.put, List.setIfInBounds_toArray, List.set_cons_zero, List.set_cons_succ]
        refine held_one 17 (by kernel_rfl) ?_
        refine hstep_call 17 134 25 #[.agg #[.int .i64 5, .string (Lx.str []), .int .i64 0, .int .i64 0, .slice (some ⟨b57, 0, none⟩) 1 1], .agg #[.slice va vn vc], .slice ca cn cc, .slice ta tn tc] rfl rfl rfl (by go_simp) ?_
        refine (HH.out x58 (Fm.fNot (Fm.fTwo 6 f g)) _ (!(p && q)) hx58 HZ.out.2.2.2.2.2.1 HC.out.2.2.2.1 at58).mono ?_
        rintro e x59 ⟨rfl, hb59⟩
        refine ⟨_, rfl, below_step hb59 hx58, fun hx59 => ?_⟩
        have k54c55c56c57c58c59 := (hb59.block _ (Array.getElem?_eq_some_iff.1 k54c55c56c57c58).1).trans k54c55c56c57c58
        clear k54c55c56c57c58
        have k55c56c57c58c59 := (hb59.block _ (Array.getElem?_eq_some_iff.1 k55c56c57c58).1).trans k55c56c57c58
        clear k55c56c57c58
        have at56c57c58c59 := at56c57c58.below hb59
        clear at56c57c58
        have k57c58c59 := (hb59.block _ (Array.getElem?_eq_some_iff.1 k57c58).1).trans k57c58
        clear k57c58
        have at58c59 := at58.below hb59
        clear at58
        clear hb59
        simp only [Act.put, List.setIfInBounds_toArray, List.set_cons_zero, List.set_cons_succ]
        refine held_one 21 (by kernel_rfl) ?_
        refine hstep_call 21 138 28 #[.int .i64 5, .slice (some ⟨b54, 0, none⟩) 1 1] rfl rfl rfl (by go_simp) ?_
        refine (both_one 5 (by unfold Fm.I64; decide) x59 b54 g _ (HAW.out _ hx59).2.1 k54c55c56c57c58c59).mono ?_
        rintro e x60 ⟨rfl, hb60, at60⟩
        refine ⟨_, rfl, below_step hb60 hx59, fun hx60 => ?_⟩
        have k54c55c56c57c58c59c60 := (hb60.block _ (Array.getElem?_eq_some_iff.1 k54c55c56c57c58c59).1).trans k54c55c56c57c58c59
        clear k54c55c56c57c58c59
        have k55c56c57c58c59c60 := (hb60.block _ (Array.getElem?_eq_some_iff.1 k55c56c57c58c59).1).trans k55c56c57c58c59
        clear k55c56c57c58c59
        have at56c57c58c59c60 := at56c57c58c59.below hb60
        clear at56c57c58c59
        have k57c58c59c60 := (hb60.block _ (Array.getElem?_eq_some_iff.1 k57c58c59).1).trans k57c58c59
        clear k57c58c59
        have at58c59c60 := at58c59.below hb60
        clear at58c59
        clear hb60
        simp only [Act.put, List.setIfInBounds_toArray, List.set_cons_zero, List.set_cons_succ]
        refine held_one 22 (by kernel_rfl) ?_
        refine hstep_row 22 139 2 #[.int .i64 5, .string (Lx.str []), .int .i64 0, .int .i64 0, .slice (some ⟨bn, 0, none⟩) 1 1, .int .i64 5, .string (Lx.str []), .int .i64 0, .int .i64 0, .slice (some ⟨b54, 0, none⟩) 1 1] 24 rfl rfl rfl (by go_simp) (fun w' hb => below_step hb hx60) ?_
        intro x61 b61 hx61 hb61 k61
        have k54c55c56c57c58c59c60c61 := (hb61.block _ (Array.getElem?_eq_some_iff.1 k54c55c56c57c58c59c60).1).trans k54c55c56c57c58c59c60
        clear k54c55c56c57c58c59c60
        have k55c56c57c58c59c60c61 := (hb61.block _ (Array.getElem?_eq_some_iff.1 k55c56c57c58c59c60).1).trans k55c56c57c58c59c60
        clear k55c56c57c58c59c60
        have at56c57c58c59c60c61 := at56c57c58c59c60.below hb61
        clear at56c57c58c59c60
        have k57c58c59c60c61 := (hb61.block _ (Array.getElem?_eq_some_iff.1 k57c58c59c60).1).trans k57c58c59c60
        clear k57c58c59c60
        have at58c59c60c61 := at58c59c60.below hb61
        clear at58c59c60
        have at60c61 := at60.below hb61
        clear at60
        clear hb61
        simp only [Act.put, List.setIfInBounds_toArray, List.set_cons_zero, List.set_cons_succ]
        refine held_one 23 (by kernel_rfl) ?_
        refine hstep_call 23 140 28 #[.int .i64 7, .slice (some ⟨b61, 0, none⟩) 2 2] rfl rfl rfl (by go_simp) ?_
        refine (both_two 7 (by unfold Fm.I64; decide) x61 b61 (Fm.fNot f) (Fm.fNot g) _ _ (HAW.out _ hx61).2.2.1 at60c61 k61).mono ?_
        rintro e x62 ⟨rfl, hb62, at62⟩
        refine ⟨_, rfl, below_step hb62 hx61, fun hx62 => ?_⟩
        have k54c55c56c57c58c59c60c61c62 := (hb62.block _ (Array.getElem?_eq_some_iff.1 k54c55c56c57c58c59c60c61).1).trans k54c55c56c57c58c59c60c61
        clear k54c55c56c57c58c59c60c61
        have k55c56c57c58c59c60c61c62 := (hb62.block _ (Array.getElem?_eq_some_iff.1 k55c56c57c58c59c60c61).1).trans k55c56c57c58c59c60c61
        clear k55c56c57c58c59c60c61
        have at56c57c58c59c60c61c62 := at56c57c58c59c60c61.below hb62
        clear at56c57c58c59c60c61
        have k57c58c59c60c61c62 := (hb62.block _ (Array.getElem?_eq_some_iff.1 k57c58c59c60c61).1).trans k57c58c59c60c61
        clear k57c58c59c60c61
        have at58c59c60c61c62 := at58c59c60c61.below hb62
        clear at58c59c60c61
        have at60c61c62 := at60c61.below hb62
        clear at60c61
        have k61c62 := (hb62.block _ (Array.getElem?_eq_some_iff.1 k61).1).trans k61
        clear k61
        clear hb62
        simp only [Act.put, List.setIfInBounds_toArray, List.set_cons_zero, List.set_cons_succ]
        refine held_one 27 (by kernel_rfl) ?_
        refine hstep_call 27 144 25 #[.agg #[.int .i64 7, .string (Lx.str []), .int .i64 0, .int .i64 0, .slice (some ⟨b61, 0, none⟩) 2 2], .agg #[.slice va vn vc], .slice ca cn cc, .slice ta tn tc] rfl rfl rfl (by go_simp) ?_
        refine (HH.out x62 (Fm.fTwo 7 (Fm.fNot f) (Fm.fNot g)) _ (!(p && q)) hx62 HZ.out.2.2.2.2.2.2 HC.out.2.2.2.2 at62).mono ?_
        rintro e x63 ⟨rfl, hb63⟩
        refine ⟨_, rfl, below_step hb63 hx62, fun hx63 => ?_⟩
        have k54c55c56c57c58c59c60c61c62c63 := (hb63.block _ (Array.getElem?_eq_some_iff.1 k54c55c56c57c58c59c60c61c62).1).trans k54c55c56c57c58c59c60c61c62
        clear k54c55c56c57c58c59c60c61c62
        have k55c56c57c58c59c60c61c62c63 := (hb63.block _ (Array.getElem?_eq_some_iff.1 k55c56c57c58c59c60c61c62).1).trans k55c56c57c58c59c60c61c62
        clear k55c56c57c58c59c60c61c62
        have at56c57c58c59c60c61c62c63 := at56c57c58c59c60c61c62.below hb63
        clear at56c57c58c59c60c61c62
        have k57c58c59c60c61c62c63 := (hb63.block _ (Array.getElem?_eq_some_iff.1 k57c58c59c60c61c62).1).trans k57c58c59c60c61c62
        clear k57c58c59c60c61c62
        have at58c59c60c61c62c63 := at58c59c60c61c62.below hb63
        clear at58c59c60c61c62
        have at60c61c62c63 := at60c61c62.below hb63
        clear at60c61c62
        have k61c62c63 := (hb63.block _ (Array.getElem?_eq_some_iff.1 k61c62).1).trans k61c62
        clear k61c62
        have at62c63 := at62.below hb63
        clear at62
        clear hb63
        simp only [Act.put, List.setIfInBounds_toArray, List.set_cons_zero, List.set_cons_succ]
        refine held_take 28 145 (.bool true) rfl rfl (by kernel_rfl) (by kernel_rfl) (by kernel_rfl) (fun _ _ _ h => h) rfl (fun _ _ => by cases p <;> cases q <;> rfl) hx63 ?_
        simp only [Act.put, List.setIfInBounds_toArray, List.set_cons_zero, List.set_cons_succ]
        refine held_take 29 146 (.bool true) rfl rfl (by kernel_rfl) (by kernel_rfl) (by kernel_rfl) (fun _ _ _ h => h) rfl (fun _ _ => rfl) hx63 ?_
        simp only [Act.put, List.setIfInBounds_toArray, List.set_cons_zero, List.set_cons_succ]
        refine held_take 30 10 (.bool true) rfl rfl (by kernel_rfl) (by kernel_rfl) (by kernel_rfl) (fun _ _ _ h => h) rfl (fun _ _ => rfl) hx63 ?_
        simp only [Act.put, List.setIfInBounds_toArray, List.set_cons_zero, List.set_cons_succ]
        refine wpAnyH_done (by kernel_rfl) ?_ _
        refine NoPanic.normal ?_
        go_wp2_with fail
        go_ret
        exact ⟨rfl, (HAW.out _ hx63).2.2.2⟩

set_option maxRecDepth 100000 in
/-- What the walk gives, for all arguments and every world that holds the tables. -/
theorem contract (H : Type) (enc : TypeId × Value → H) (W : World) (base : Nat) (args : Array Value) (ds gs : List (DataW H)) (before : List MemPlace)
    (hval : ∀ (j : Nat) t v, Try.f4.params[j]? = some t → args[j]? = some v → Value.okWide Try.prog W .any base t v)
    (hW : DataW.Whole enc Try.prog Try.f4.params.toList Rows.formulaConnectivesSpec.vars false W args.toList ds gs before) :
    Calls Try.prog 4 args W fun e W' => ∃ v, e = .returned v ∧ Rows.formulaConnectivesSpec.post enc Try.prog Try.f4 false true false false W args v W' := by
  have hW' := hW
  obtain ⟨p, q, hA0, hV, rfl, hfz, hnd⟩ := hW
  have hA : DataW.TrodAll enc Try.prog W 0 (fun _ => true) true Try.f4.params.toList args.toList ds p := hA0
  rw [Try.params4] at hA hval
  obtain ⟨v0, vs0, d0, ds0, p0, q0, hargs, rfl, rfl, h0, r0⟩ := trodAll_cons hA
  obtain ⟨v1, vs1, d1, ds1, p1, q1, rfl, rfl, rfl, h1, r1⟩ := trodAll_cons r0
  obtain ⟨v2, vs2, d2, ds2, p2, q2, rfl, rfl, rfl, h2, r2⟩ := trodAll_cons r1
  obtain ⟨v3, vs3, d3, ds3, p3, q3, rfl, rfl, rfl, h3, r3⟩ := trodAll_cons r2
  obtain ⟨v4, vs4, d4, ds4, p4, q4, rfl, rfl, rfl, h4, r4⟩ := trodAll_cons r3
  obtain ⟨rfl, rfl, rfl⟩ := trodAll_nil r4
  obtain rfl : args = #[v0, v1, v2, v3, v4] := by cases args; simp_all
  obtain ⟨rfl, rfl⟩ := trodVars_none hV
  obtain ⟨f0, u0, rfl, t0⟩ := open_formula (hval 0 24 v0 rfl rfl) h0
  obtain ⟨f1, u1, rfl, t1⟩ := open_formula (hval 1 24 v1 rfl rfl) h1
  obtain ⟨u2, l2, rfl, t2⟩ := open_domain (hval 2 27 v2 rfl rfl) h2
  obtain ⟨l3, t3⟩ := open_case (hval 3 29 v3 rfl rfl) h3
  obtain ⟨l4, t4⟩ := open_list (hval 4 30 v4 rfl rfl) h4
  refine (law_walk f0 u0 f1 u1 u2 l2 v3 l3 v4 l4 W t0 t1 t2 t3 t4).mono fun e W' ⟨he, hg⟩ => ?_
  subst he
  exact ⟨_, rfl, post_law rfl rfl rfl rfl rfl (by rw [Try.params4]; decide) hW' hg⟩

theorem laid_met (os : Os) : laidMet Try.prog Rows.formulaConnectivesRow.laid ((laidWorld os).forCall (fun _ _ => 0) ⟨#[], #[.agg #[.int .i64 0, .string ⟨#[]⟩, .int .i64 0, .int .i64 0, .slice none 0 0], .agg #[.int .i64 0, .string ⟨#[]⟩, .int .i64 0, .int .i64 0, .slice none 0 0], .agg #[.slice none 0 0], .slice none 0 0, .slice none 0 0], []⟩).memory :=
  laidMet_of_run' 8 (by kernel_rfl) (by kernel_rfl)
theorem reads (os : Os) {H : Type} (enc : TypeId × Value → H) : ∃ places, DataW.whole enc Try.prog ((laidWorld os).forCall (fun _ _ => 0) ⟨#[], #[.agg #[.int .i64 0, .string ⟨#[]⟩, .int .i64 0, .int .i64 0, .slice none 0 0], .agg #[.int .i64 0, .string ⟨#[]⟩, .int .i64 0, .int .i64 0, .slice none 0 0], .agg #[.slice none 0 0], .slice none 0 0, .slice none 0 0], []⟩).memory Try.f4.params.toList Rows.formulaConnectivesSpec.vars false #[Value.agg #[.int .i64 0, .string ⟨#[]⟩, .int .i64 0, .int .i64 0, .slice none 0 0], Value.agg #[.int .i64 0, .string ⟨#[]⟩, .int .i64 0, .int .i64 0, .slice none 0 0], Value.agg #[.slice none 0 0], Value.slice none 0 0, Value.slice none 0 0].toList 8 = some ([.agg [.lit (.int .i64 0), .lit (.string []), .lit (.int .i64 0), .lit (.int .i64 0), .nil], .agg [.lit (.int .i64 0), .lit (.string []), .lit (.int .i64 0), .lit (.int .i64 0), .nil], .agg [.nil], .nil, .nil], [], places) :=
  ⟨[], by kernel_rfl⟩

set_option maxRecDepth 100000 in
theorem lifted (os : Os) (started : os.Started) (H : Type) (enc : TypeId × Value → H) (F : Stop.Interp) :
    ReturnsInHanded {} Try.checked os 4 .any ((OpenSpec.ofChange Rows.formulaConnectivesSpec).preRow enc Try.prog Try.f4 Rows.formulaConnectivesRow.domain false Rows.formulaConnectivesRow.laid) (((OpenSpec.ofChange Rows.formulaConnectivesSpec).at F).post enc Try.prog Try.f4 false true false false) := by
  obtain ⟨places, hx⟩ := reads os enc
  refine returnsInHanded_of_row (C := Try.checked) (s := OpenSpec.ofChange Rows.formulaConnectivesSpec) own started (by kernel_rfl) Try.func4
    (witness_row_at (enc := enc) (C := Try.checked) false (laidWorld os) #[.agg #[.int .i64 0, .string ⟨#[]⟩, .int .i64 0, .int .i64 0, .slice none 0 0], .agg #[.int .i64 0, .string ⟨#[]⟩, .int .i64 0, .int .i64 0, .slice none 0 0], .agg #[.slice none 0 0], .slice none 0 0, .slice none 0 0] rfl (by kernel_rfl) (by kernel_rfl) (by kernel_rfl)
      (OpenSpec.preRow_of_cond 8 hx (by kernel_rfl) (fun k hk => by cases hk) (by kernel_rfl) (laid_met os))) ?_
  intro W base args ds gs before hval hW _ _ _ hL _ _
  exact contract H enc W base args ds gs before hval hW

theorem said : Rows.FormulaConnectivesSaid :=
  OpenClaim.holds_of_cond 4 Try.f4 rfl rfl rfl rfl rfl rfl rfl ⟨rfl, rfl, rfl, rfl, rfl⟩ rfl rfl rfl rfl rfl (by kernel_rfl) Try.func4 (by kernel_rfl)
    (of_decide_eq_true (by kernel_rfl)) (by unfold Func.isWrapper; first | (rw [if_pos (by decide +kernel)]; kernel_rfl) | (rw [if_neg (by decide +kernel)]; exact ⟨rfl, rfl⟩))
    (fun os started H enc _ F => by rw [OpenClaim.pre_eq_preRow]; exact lifted os started H enc F)

end Go.Proofs.Ytjcaingfeaaakaa.formulaConnectives
