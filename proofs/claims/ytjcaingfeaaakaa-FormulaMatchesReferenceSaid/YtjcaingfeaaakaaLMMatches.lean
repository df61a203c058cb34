/-
  FormulaMatchesReference (P7.1): for every two formulas, domain, case, terms and name, all functions of package formula answer as the reference does. No condition: the statement itself asks small formulas, domains, cases and terms; for others it says what the law's opening check answers.
-/
import Derived.Test.YtjcaingfeaaakaaLFrameK
import Derived.Test.YtjcaingfeaaakaaMRefY
import Derived.Test.YtjcaingfeaaakaaMRefB
import Derived.Test.YtjcaingfeaaakaaMRefD
import Derived.Test.YtjcaingfeaaakaaMRefZ
import Derived.Test.YtjcaingfeaaakaaMFew
import Derived.Test.YtjcaingfeaaakaaMGood
import Derived.Deep.RegionHeld3
import Derived.Deep.CutRange
namespace Go.Proofs.Ytjcaingfeaaakaa.formulaMatchesReference
open Go.ChangeShapes Go.WideShapes Go.ChangeAt Go.RowKit
open Go.ChangeMaps (open_string shut_string)

theorem at_era {w : World} {f : Fm.Fo} {u : Value} (h : Fm.At w f u) : Fm.At (Fm.era (fun b => decide (w.heap.size ≤ b)) w) f u :=
  Fm.At.incl (fun g i v hv => Fm.era_cell.2 ⟨by have := block_lt_of_cell hv; simp; omega, hv⟩) f u h

set_option maxHeartbeats 16000000 in
set_option maxRecDepth 100000 in
theorem law_walk (f : Fm.Fo) (u : Value) (g : Fm.Fo) (ug : Value) (v : Value) (d : List Fc.Fact) (cv : Value) (lc : List Int) (tv : Value) (l : List Fm.T) (nm : ByteArray) (w : World) (hat : Fm.At w f u) (hatg : Fm.At w g ug) (hd : Fc.IsF w v d) (hc : Fc.IsN w cv lc) (ht : Fm.IsT w tv l) (hnm : nm.size ≤ 9223372036854775807) :
    Calls Try.prog 3 #[Fm.fv f u, Fm.fv g ug, .agg #[v], cv, tv, .string nm] w fun e w' => e = .returned (.bool true) ∧ Below w.heap.size w w' := by
  obtain ⟨x, rfl⟩ : ∃ x, nm = Lx.str x := ⟨Lx.tx nm, (Lx.str_tx nm).symm⟩
  obtain ⟨a, n, c, hu⟩ : ∃ a n c, u = .slice a n c := by obtain ⟨a, c, e, _⟩ := hat.kidsAt.len; exact ⟨_, _, _, e⟩
  obtain ⟨ga, gn, gc, hug⟩ : ∃ a n c, ug = .slice a n c := by obtain ⟨a, c, e, _⟩ := hatg.kidsAt.len; exact ⟨_, _, _, e⟩
  obtain ⟨va, vn, vc, hv⟩ : ∃ a n c, v = .slice a n c := by obtain ⟨a, c, e, _⟩ := hd.form; exact ⟨_, _, _, e⟩
  obtain ⟨ca, cn, cc, hcv⟩ : ∃ a n c, cv = .slice a n c := by obtain ⟨a, c, _, _, e, _⟩ := hc.any; exact ⟨_, _, _, e⟩
  obtain ⟨ta, tn, tc, htv⟩ : ∃ a n c, tv = .slice a n c := by obtain ⟨a, c, _, _, e, _⟩ := ht.any; exact ⟨_, _, _, e⟩
  subst hu hug hv hcv htv
  obtain ⟨W2, hW2⟩ : ∃ W2, W2 = ((w.alloc (.cells #[.int .i64 f.op, .string (Lx.str f.name), .int .i64 f.cmp, .int .i64 f.num, .slice a n c] 24)).alloc (.cells #[.int .i64 g.op, .string (Lx.str g.name), .int .i64 g.cmp, .int .i64 g.num, .slice ga gn gc] 24)).alloc (.cells #[.slice va vn vc] 27) := ⟨_, rfl⟩
  have hb2 : Below w.heap.size w W2 := by rw [hW2]; exact below_al (below_al (below_al (Below.refl _ _) _) _) _
  have k0 : W2.heap[w.heap.size]? = some (.cells #[.int .i64 f.op, .string (Lx.str f.name), .int .i64 f.cmp, .int .i64 f.num, .slice a n c] 24 (0, 0)) := by rw [hW2]; exact Fm.blkK (Fm.blkK (heap_alloc_new _ _))
  have k1 : W2.heap[w.heap.size + 1]? = some (.cells #[.int .i64 g.op, .string (Lx.str g.name), .int .i64 g.cmp, .int .i64 g.num, .slice ga gn gc] 24 (0, 0)) := by rw [hW2]; exact Fm.blkK (Fm.blk1 _ _ _)
  have k2 : W2.heap[w.heap.size + 1 + 1]? = some (.cells #[.slice va vn vc] 27 (0, 0)) := by rw [hW2]; exact Fm.blk2 _ _ _ _
  have hl0 := (Array.getElem?_eq_some_iff.1 k0).1
  have hl1 := (Array.getElem?_eq_some_iff.1 k1).1
  have hl2 := (Array.getElem?_eq_some_iff.1 k2).1
  have HQ : Hid (∀ w', Below W2.heap.size W2 w' → (w'.cell? ⟨w.heap.size, 0, none⟩ = some (.int .i64 f.op) ∧ w'.cell? ⟨w.heap.size, 1, none⟩ = some (.string (Lx.str f.name)) ∧ w'.cell? ⟨w.heap.size, 2, none⟩ = some (.int .i64 f.cmp) ∧ w'.cell? ⟨w.heap.size, 3, none⟩ = some (.int .i64 f.num) ∧ w'.cell? ⟨w.heap.size, 4, none⟩ = some (.slice a n c)) ∧ (w'.cell? ⟨w.heap.size + 1, 0, none⟩ = some (.int .i64 g.op) ∧ w'.cell? ⟨w.heap.size + 1, 1, none⟩ = some (.string (Lx.str g.name)) ∧ w'.cell? ⟨w.heap.size + 1, 2, none⟩ = some (.int .i64 g.cmp) ∧ w'.cell? ⟨w.heap.size + 1, 3, none⟩ = some (.int .i64 g.num) ∧ w'.cell? ⟨w.heap.size + 1, 4, none⟩ = some (.slice ga gn gc)) ∧ w'.cell? ⟨w.heap.size + 1 + 1, 0, none⟩ = some (.slice va vn vc)) := fun w' h => ⟨⟨(h.cell (p := ⟨w.heap.size, 0, none⟩) hl0).trans (Joins.cell_of_block k0 0), (h.cell (p := ⟨w.heap.size, 1, none⟩) hl0).trans (Joins.cell_of_block k0 1), (h.cell (p := ⟨w.heap.size, 2, none⟩) hl0).trans (Joins.cell_of_block k0 2), (h.cell (p := ⟨w.heap.size, 3, none⟩) hl0).trans (Joins.cell_of_block k0 3), (h.cell (p := ⟨w.heap.size, 4, none⟩) hl0).trans (Joins.cell_of_block k0 4)⟩, ⟨(h.cell (p := ⟨w.heap.size + 1, 0, none⟩) hl1).trans (Joins.cell_of_block k1 0), (h.cell (p := ⟨w.heap.size + 1, 1, none⟩) hl1).trans (Joins.cell_of_block k1 1), (h.cell (p := ⟨w.heap.size + 1, 2, none⟩) hl1).trans (Joins.cell_of_block k1 2), (h.cell (p := ⟨w.heap.size + 1, 3, none⟩) hl1).trans (Joins.cell_of_block k1 3), (h.cell (p := ⟨w.heap.size + 1, 4, none⟩) hl1).trans (Joins.cell_of_block k1 4)⟩, (h.cell (p := ⟨w.heap.size + 1 + 1, 0, none⟩) hl2).trans (Joins.cell_of_block k2 0)⟩
  have HA : Hid (∀ w', Below W2.heap.size W2 w' → Fm.At w' f (.slice a n c) ∧ Fm.At w' g (.slice ga gn gc) ∧ Fc.IsF w' (.slice va vn vc) d ∧ Fc.IsN w' (.slice ca cn cc) lc ∧ Fm.IsT w' (.slice ta tn tc) l ∧ Below w.heap.size w w') := fun w' h => by
    have hb := hb2.trans (h.mono hb2.size)
    exact ⟨hat.below hb, hatg.below hb, hd.below hb, hc.below hb, ht.below hb, hb⟩
  have hsx : (Lx.str x).size = x.length := Fc.str_size x
  obtain ⟨sx, hsxe⟩ : ∃ s, s = Lx.str x := ⟨_, rfl⟩
  rw [← hsxe] at hsx hnm ⊢
  have HSX := Lib.hid hsxe
  clear hat hatg hd hc ht hb2 k0 k1 k2 hl0 hl1 hl2 hsxe
  go_enter Try.func3, Try.ntmps3
  go_wp2_with fail
  rw [← hW2]
  clear hW2
  refine (head_walk W2).mono ?_
  rintro e w3 ⟨rfl, hb3⟩
  obtain ⟨⟨f0, f1, f2, f3, f4⟩, ⟨g0, g1, g2, g3, g4⟩, d0⟩ := HQ.out w3 hb3
  have HSM := Lib.hid (small_walk f _ 300 w3 (by decide) (HA.out w3 hb3).1)
  go_wp2_with fail
  refine HSM.out.mono ?_
  rintro e w4 ⟨rfl, hb4⟩
  have hb4 := below_step hb4 hb3
  clear f0 f1 f2 f3 f4 g0 g1 g2 g3 g4 d0 HSM hb3
  by_cases hsf : Fm.size f ≤ 300
  case neg =>
    have HF := Lib.hid (HA.out w4 hb4).2.2.2.2.2
    rw [decide_eq_false hsf]
    go_wp2_with fail
    go_ret
    exact ⟨rfl, HF.out⟩
  rw [decide_eq_true hsf]
  obtain ⟨⟨f0, f1, f2, f3, f4⟩, ⟨g0, g1, g2, g3, g4⟩, d0⟩ := HQ.out w4 hb4
  have HSM := Lib.hid (small_walk g _ 300 w4 (by decide) (HA.out w4 hb4).2.1)
  go_wp2_with fail
  refine HSM.out.mono ?_
  rintro e w5 ⟨rfl, hb5⟩
  have hb5 := below_step hb5 hb4
  clear f0 f1 f2 f3 f4 g0 g1 g2 g3 g4 d0 HSM hb4
  by_cases hsg : Fm.size g ≤ 300
  case neg =>
    have HF := Lib.hid (HA.out w5 hb5).2.2.2.2.2
    rw [decide_eq_false hsg]
    go_wp2_with fail
    go_ret
    exact ⟨rfl, HF.out⟩
  rw [decide_eq_true hsg]
  obtain ⟨⟨f0, f1, f2, f3, f4⟩, ⟨g0, g1, g2, g3, g4⟩, d0⟩ := HQ.out w5 hb5
  have HFW := Lib.hid (few_walk _ _ _ d lc l w5 (HA.out w5 hb5).2.2.1 (HA.out w5 hb5).2.2.2.1 (HA.out w5 hb5).2.2.2.2.1)
  go_wp2_with fail
  refine HFW.out.mono ?_
  intro e w6 h6
  by_cases hfew : Fm.Few d lc l
  case neg =>
    obtain ⟨rfl, hb6⟩ := says_false hfew h6
    have HF := Lib.hid (HA.out w6 (below_step hb6 hb5)).2.2.2.2.2
    clear h6 hb6 hfew
    go_wp2_with fail
    go_ret
    exact ⟨rfl, HF.out⟩
  obtain ⟨rfl, hb6⟩ := says_true hfew h6
  have hb6 := below_step hb6 hb5
  clear f0 f1 f2 f3 f4 g0 g1 g2 g3 g4 d0 h6 hfew hb5 HFW
  by_cases h60 : sx.size ≤ 60
  case neg =>
    have h60i : (60 : Int) < (sx.size : Int) := by omega
    have HF := Lib.hid (HA.out w6 hb6).2.2.2.2.2
    go_wp2_with fail
    go_ret
    exact ⟨rfl, HF.out⟩
  have h60i : ¬ (60 : Int) < (sx.size : Int) := by omega
  have HSB := Lib.hid (And.intro hsf hsg)
  obtain ⟨N, hN⟩ : ∃ N, N = Fm.size f := ⟨_, rfl⟩
  obtain ⟨D, hD⟩ : ∃ D, D = Fm.depth f := ⟨_, rfl⟩
  obtain ⟨⟨f0, f1, f2, f3, f4⟩, ⟨g0, g1, g2, g3, g4⟩, d0⟩ := HQ.out w6 hb6
  have HSZ := Lib.hid (size_walk f _ w6 (HA.out w6 hb6).1 (by omega))
  rw [← hN, ← hD] at HSZ
  have HND := Lib.hid (And.intro hN hD)
  clear hN hD hsf hsg
  go_wp2_with fail
  refine HSZ.out.mono ?_
  rintro e w7 ⟨rfl, hb7⟩
  have hb7 := below_step hb7 hb6
  clear f0 f1 f2 f3 f4 g0 g1 g2 g3 g4 d0 HSZ hb6
  obtain ⟨⟨f0, f1, f2, f3, f4⟩, ⟨g0, g1, g2, g3, g4⟩, d0⟩ := HQ.out w7 hb7
  have HSZ := Lib.hid (refsize_walk (Fm.size f) f _ w7 (Nat.le_refl _) (by have := HSB.out.1; omega) (HA.out w7 hb7).1)
  rw [← HND.out.1, ← HND.out.2] at HSZ
  go_wp2_with fail
  refine HSZ.out.mono ?_
  rintro e w8 ⟨rfl, hb8⟩
  have hb8 := below_step hb8 hb7
  clear f0 f1 f2 f3 f4 g0 g1 g2 g3 g4 d0 HSZ hb7 HND
  go_upto_region 6 with fail
  have f0 : ∀ w', Below w8.heap.size w8 w' → w'.cell? ⟨w.heap.size, 0, none⟩ = some (.int .i64 f.op) := fun w' h => (HQ.out w' (below_step h hb8)).1.1
  have f1 : ∀ w', Below w8.heap.size w8 w' → w'.cell? ⟨w.heap.size, 1, none⟩ = some (.string (Lx.str f.name)) := fun w' h => (HQ.out w' (below_step h hb8)).1.2.1
  have f2 : ∀ w', Below w8.heap.size w8 w' → w'.cell? ⟨w.heap.size, 2, none⟩ = some (.int .i64 f.cmp) := fun w' h => (HQ.out w' (below_step h hb8)).1.2.2.1
  have f3 : ∀ w', Below w8.heap.size w8 w' → w'.cell? ⟨w.heap.size, 3, none⟩ = some (.int .i64 f.num) := fun w' h => (HQ.out w' (below_step h hb8)).1.2.2.2.1
  have f4 : ∀ w', Below w8.heap.size w8 w' → w'.cell? ⟨w.heap.size, 4, none⟩ = some (.slice a n c) := fun w' h => (HQ.out w' (below_step h hb8)).1.2.2.2.2
  have g0 : ∀ w', Below w8.heap.size w8 w' → w'.cell? ⟨w.heap.size + 1, 0, none⟩ = some (.int .i64 g.op) := fun w' h => (HQ.out w' (below_step h hb8)).2.1.1
  have g1 : ∀ w', Below w8.heap.size w8 w' → w'.cell? ⟨w.heap.size + 1, 1, none⟩ = some (.string (Lx.str g.name)) := fun w' h => (HQ.out w' (below_step h hb8)).2.1.2.1
  have g2 : ∀ w', Below w8.heap.size w8 w' → w'.cell? ⟨w.heap.size + 1, 2, none⟩ = some (.int .i64 g.cmp) := fun w' h => (HQ.out w' (below_step h hb8)).2.1.2.2.1
  have g3 : ∀ w', Below w8.heap.size w8 w' → w'.cell? ⟨w.heap.size + 1, 3, none⟩ = some (.int .i64 g.num) := fun w' h => (HQ.out w' (below_step h hb8)).2.1.2.2.2.1
  have g4 : ∀ w', Below w8.heap.size w8 w' → w'.cell? ⟨w.heap.size + 1, 4, none⟩ = some (.slice ga gn gc) := fun w' h => (HQ.out w' (below_step h hb8)).2.1.2.2.2.2
  have d0 : ∀ w', Below w8.heap.size w8 w' → w'.cell? ⟨w.heap.size + 1 + 1, 0, none⟩ = some (.slice va vn vc) := fun w' h => (HQ.out w' (below_step h hb8)).2.2
  obtain ⟨z, hz⟩ : ∃ n, n = Fm.check Fc.isNm (Fm.fs d) (Fm.has l) f := ⟨_, rfl⟩
  obtain ⟨b, hb⟩ : ∃ b, b = Fm.sameB f g := ⟨_, rfl⟩
  obtain ⟨M, hM⟩ : ∃ M, M = Fm.tms f := ⟨_, rfl⟩
  obtain ⟨M1, hM1⟩ : ∃ M1, M1 = M.length := ⟨_, rfl⟩
  have HC1 : Hid (∀ w', Below w8.heap.size w8 w' → Calls Try.prog 15 #[.agg #[.int .i64 f.op, .string (Lx.str f.name), .int .i64 f.cmp, .int .i64 f.num, .slice a n c], .agg #[.slice va vn vc], .slice ta tn tc] w' fun e w'' => e = .returned (.int .i64 (z : Nat)) ∧ Below w'.heap.size w' w'') := fun w' h => by
    have hA := HA.out w' (below_step h hb8)
    rw [hz]; exact check_walk f _ _ _ d l w' hA.1 (by have := HSB.out.1; omega) hA.2.2.1 hA.2.2.2.2.1
  have HC2 : Hid (∀ w', Below w8.heap.size w8 w' → Calls Try.prog 16 #[.agg #[.int .i64 f.op, .string (Lx.str f.name), .int .i64 f.cmp, .int .i64 f.num, .slice a n c], .agg #[.slice va vn vc], .slice ta tn tc] w' fun e w'' => e = .returned (.int .i64 (z : Nat)) ∧ Below w'.heap.size w' w'') := fun w' h => by
    have hA := HA.out w' (below_step h hb8)
    rw [hz]; exact r7check_walk f _ _ _ d l w' hA.1 (by have := HSB.out.1; omega) hA.2.2.1 hA.2.2.2.2.1
  have HS1 : Hid (∀ w', Below w8.heap.size w8 w' → Calls Try.prog 20 #[.agg #[.int .i64 f.op, .string (Lx.str f.name), .int .i64 f.cmp, .int .i64 f.num, .slice a n c], .agg #[.int .i64 g.op, .string (Lx.str g.name), .int .i64 g.cmp, .int .i64 g.num, .slice ga gn gc]] w' fun e w'' => e = .returned (.bool b) ∧ Below w'.heap.size w' w'') := fun w' h => by
    have hA := HA.out w' (below_step h hb8)
    rw [hb]; exact same_walk (Fm.size f) f g _ _ w' (Nat.le_refl _) hA.1 hA.2.1
  have HS2 : Hid (∀ w', Below w8.heap.size w8 w' → Calls Try.prog 21 #[.agg #[.int .i64 f.op, .string (Lx.str f.name), .int .i64 f.cmp, .int .i64 f.num, .slice a n c], .agg #[.int .i64 g.op, .string (Lx.str g.name), .int .i64 g.cmp, .int .i64 g.num, .slice ga gn gc]] w' fun e w'' => e = .returned (.bool b) ∧ Below w'.heap.size w' w'') := fun w' h => by
    have hA := HA.out w' (below_step h hb8)
    rw [hb]; exact r7same_walk (Fm.size f) f g _ _ w' (Nat.le_refl _) hA.1 hA.2.1
  have HT1 : Hid (∀ w', Below w8.heap.size w8 w' → Calls Try.prog 18 #[.agg #[.int .i64 f.op, .string (Lx.str f.name), .int .i64 f.cmp, .int .i64 f.num, .slice a n c]] w' fun e w'' => (∃ a c, e = .returned (.slice a M1 c) ∧ Fm.IsT w'' (.slice a M1 c) M) ∧ Below w'.heap.size w' w'') := fun w' h => (terms_walk f _ w' (HA.out w' (below_step h hb8)).1 (by have := HSB.out.1; omega)).mono fun e w'' h' => by
    obtain ⟨⟨v, rfl, ho⟩, hb⟩ := h'
    have ht := ho.isT (Fm.tms_sized (HA.out w' (below_step h hb8)).1)
    obtain ⟨a, c, rfl⟩ := ho.form
    rw [hM1, hM]
    exact ⟨⟨a, c, rfl, ht⟩, hb⟩
  have HT2 : Hid (∀ w', Below w8.heap.size w8 w' → Calls Try.prog 19 #[.agg #[.int .i64 f.op, .string (Lx.str f.name), .int .i64 f.cmp, .int .i64 f.num, .slice a n c]] w' fun e w'' => (∃ a c, e = .returned (.slice a M1 c) ∧ Fm.IsT w'' (.slice a M1 c) M) ∧ Below w'.heap.size w' w'') := fun w' h => (r7terms_walk f _ w' (HA.out w' (below_step h hb8)).1 (by have := HSB.out.1; omega)).mono fun e w'' h' => by
    obtain ⟨⟨v, rfl, ho⟩, hb⟩ := h'
    have ht := ho.isT (Fm.tms_sized (HA.out w' (below_step h hb8)).1)
    obtain ⟨a, c, rfl⟩ := ho.form
    rw [hM1, hM]
    exact ⟨⟨a, c, rfl, ht⟩, hb⟩
  have HNM : Hid (∀ w' a c a2 c2, Fm.IsT w' (.slice a M1 c) M → Fm.IsT w' (.slice a2 M1 c2) M → Calls Try.prog 17 #[.slice a M1 c, .slice a2 M1 c2] w' fun e w'' => e = .returned (.bool true) ∧ Below w'.heap.size w' w'') := fun w' a c a2 c2 h1 h2 => by
    have h := r7names_walk _ _ M M w' h1 h2
    rw [decide_eq_true rfl] at h
    exact h
  clear hz hb hM hM1
  have HB8 := Lib.hid hb8
  clear hb8
  go_cut [18] from 51 to 85 (fun y wx => y = .bool true ∧ Hid (Below w8.heap.size w8 wx))
  case first =>
    go_region_held3 (fun w' => Below w8.heap.size w8 w') (first | exact (Below.refl _ _).drew | exact Below.refl _ _ | with_reducible assumption | exact below_step (by with_reducible assumption) (by with_reducible assumption))
      (first
        | (go_at_call 15; (with_reducible refine (HC1.out _ (by first | exact (Below.refl _ _).drew | exact Below.refl _ _ | with_reducible assumption)).mono ?_); rintro e v1 ⟨rfl, hv1⟩; have s1 := below_step (W := w8) hv1 (by first | exact (Below.refl _ _).drew | exact Below.refl _ _ | with_reducible assumption))
        | (go_at_call 16; (with_reducible refine (HC2.out _ (by first | exact (Below.refl _ _).drew | exact Below.refl _ _ | with_reducible assumption)).mono ?_); rintro e v2 ⟨rfl, hv2⟩; have s2 := below_step (W := w8) hv2 (by first | exact (Below.refl _ _).drew | exact Below.refl _ _ | with_reducible assumption))
        | (go_at_call 18; (with_reducible refine (HT1.out _ (by first | exact (Below.refl _ _).drew | exact Below.refl _ _ | with_reducible assumption)).mono ?_); rintro e v3 ⟨⟨xa3, xc3, rfl, ht3⟩, hv3⟩; have s3 := below_step (W := w8) hv3 (by first | exact (Below.refl _ _).drew | exact Below.refl _ _ | with_reducible assumption))
        | (go_at_call 19; (with_reducible refine (HT2.out _ (by first | exact (Below.refl _ _).drew | exact Below.refl _ _ | with_reducible assumption)).mono ?_); rintro e v4 ⟨⟨xa4, xc4, rfl, ht4⟩, hv4⟩; have s4 := below_step (W := w8) hv4 (by first | exact (Below.refl _ _).drew | exact Below.refl _ _ | with_reducible assumption))
        | (go_at_call 17; (with_reducible refine (HNM.out _ _ _ _ _ (by first | exact ht3.below hv4 | with_reducible assumption) (by with_reducible assumption)).mono ?_); rintro e v5 ⟨rfl, hv5⟩; have s5 := below_step (W := w8) hv5 (by first | exact (Below.refl _ _).drew | exact Below.refl _ _ | with_reducible assumption))
        | (go_at_call 20; (with_reducible refine (HS1.out _ (by first | exact (Below.refl _ _).drew | exact Below.refl _ _ | with_reducible assumption)).mono ?_); rintro e v6 ⟨rfl, hv6⟩; have s6 := below_step (W := w8) hv6 (by first | exact (Below.refl _ _).drew | exact Below.refl _ _ | with_reducible assumption))
        | (go_at_call 21; (with_reducible refine (HS2.out _ (by first | exact (Below.refl _ _).drew | exact Below.refl _ _ | with_reducible assumption)).mono ?_); rintro e v7 ⟨rfl, hv7⟩; have s7 := below_step (W := w8) hv7 (by first | exact (Below.refl _ _).drew | exact Below.refl _ _ | with_reducible assumption))
        | fail)
    all_goals
      go_wp2_with fail
      go_meet
      exact ⟨rfl, s7⟩
  case rest =>
    obtain ⟨rfl, hb9⟩ := hcut
    have hb9 := below_step hb9.out HB8.out
    clear f0 f1 f2 f3 f4 g0 g1 g2 g3 g4 d0 HC1 HC2 HS1 HS2 HT1 HT2 HNM HB8
    rename World => w9
    go_upto_region 7 with fail
    have f0 : ∀ w', Below w9.heap.size w9 w' → w'.cell? ⟨w.heap.size, 0, none⟩ = some (.int .i64 f.op) := fun w' h => (HQ.out w' (below_step h hb9)).1.1
    have f1 : ∀ w', Below w9.heap.size w9 w' → w'.cell? ⟨w.heap.size, 1, none⟩ = some (.string (Lx.str f.name)) := fun w' h => (HQ.out w' (below_step h hb9)).1.2.1
    have f2 : ∀ w', Below w9.heap.size w9 w' → w'.cell? ⟨w.heap.size, 2, none⟩ = some (.int .i64 f.cmp) := fun w' h => (HQ.out w' (below_step h hb9)).1.2.2.1
    have f3 : ∀ w', Below w9.heap.size w9 w' → w'.cell? ⟨w.heap.size, 3, none⟩ = some (.int .i64 f.num) := fun w' h => (HQ.out w' (below_step h hb9)).1.2.2.2.1
    have f4 : ∀ w', Below w9.heap.size w9 w' → w'.cell? ⟨w.heap.size, 4, none⟩ = some (.slice a n c) := fun w' h => (HQ.out w' (below_step h hb9)).1.2.2.2.2
    have g0 : ∀ w', Below w9.heap.size w9 w' → w'.cell? ⟨w.heap.size + 1, 0, none⟩ = some (.int .i64 g.op) := fun w' h => (HQ.out w' (below_step h hb9)).2.1.1
    have g1 : ∀ w', Below w9.heap.size w9 w' → w'.cell? ⟨w.heap.size + 1, 1, none⟩ = some (.string (Lx.str g.name)) := fun w' h => (HQ.out w' (below_step h hb9)).2.1.2.1
    have g2 : ∀ w', Below w9.heap.size w9 w' → w'.cell? ⟨w.heap.size + 1, 2, none⟩ = some (.int .i64 g.cmp) := fun w' h => (HQ.out w' (below_step h hb9)).2.1.2.2.1
    have g3 : ∀ w', Below w9.heap.size w9 w' → w'.cell? ⟨w.heap.size + 1, 3, none⟩ = some (.int .i64 g.num) := fun w' h => (HQ.out w' (below_step h hb9)).2.1.2.2.2.1
    have g4 : ∀ w', Below w9.heap.size w9 w' → w'.cell? ⟨w.heap.size + 1, 4, none⟩ = some (.slice ga gn gc) := fun w' h => (HQ.out w' (below_step h hb9)).2.1.2.2.2.2
    have d0 : ∀ w', Below w9.heap.size w9 w' → w'.cell? ⟨w.heap.size + 1 + 1, 0, none⟩ = some (.slice va vn vc) := fun w' h => (HQ.out w' (below_step h hb9)).2.2
    obtain ⟨E, hE⟩ : ∃ E, E = Fm.expand x g f := ⟨_, rfl⟩
    have HE1 : Hid (∀ w', Below w9.heap.size w9 w' → Calls Try.prog 22 #[.agg #[.int .i64 f.op, .string (Lx.str f.name), .int .i64 f.cmp, .int .i64 f.num, .slice a n c], .string sx, .agg #[.int .i64 g.op, .string (Lx.str g.name), .int .i64 g.cmp, .int .i64 g.num, .slice ga gn gc]] w' fun e w'' => (∃ a n c, e = .returned (Fm.fv E (.slice a n c)) ∧ Fm.At w'' E (.slice a n c)) ∧ Below w'.heap.size w' w'') := fun w' h => by
      have hA := HA.out w' (below_step h hb9)
      rw [HSX.out, hE]
      exact (expand_walk (Fm.size f) f g _ _ x w' (Nat.le_refl _) (by have := HSB.out.1; omega) (by have := HSB.out.2; omega) hA.1 hA.2.1).mono fun e w'' h => by
        obtain ⟨⟨u', h1, h2⟩, h3⟩ := h
        have h2 := h2.at
        obtain ⟨a', c', e', _⟩ := h2.kidsAt.len
        subst e'
        exact ⟨⟨_, _, _, h1, h2⟩, h3⟩
    have HE2 : Hid (∀ w', Below w9.heap.size w9 w' → Calls Try.prog 23 #[.agg #[.int .i64 f.op, .string (Lx.str f.name), .int .i64 f.cmp, .int .i64 f.num, .slice a n c], .string sx, .agg #[.int .i64 g.op, .string (Lx.str g.name), .int .i64 g.cmp, .int .i64 g.num, .slice ga gn gc]] w' fun e w'' => (∃ a n c, e = .returned (Fm.fv E (.slice a n c)) ∧ Fm.At w'' E (.slice a n c)) ∧ Below w'.heap.size w' w'') := fun w' h => by
      have hA := HA.out w' (below_step h hb9)
      rw [HSX.out, hE]
      exact (refexpand_walk w'.heap.size (Fm.size f) f g _ _ x w' (Nat.le_refl _) (by have := HSB.out.1; omega) (Nat.le_refl _) (at_era hA.1) (at_era hA.2.1)).mono fun e w'' h => by
        obtain ⟨⟨u', h1, h2⟩, h3⟩ := h
        have h2 := h2.shown
        obtain ⟨a', c', e', _⟩ := h2.kidsAt.len
        subst e'
        exact ⟨⟨_, _, _, h1, h2⟩, h3⟩
    have HS3 : Hid (∀ w' a n c a2 n2 c2, Fm.At w' E (.slice a n c) → Fm.At w' E (.slice a2 n2 c2) → Calls Try.prog 21 #[Fm.fv E (.slice a n c), Fm.fv E (.slice a2 n2 c2)] w' fun e w'' => e = .returned (.bool true) ∧ Below w'.heap.size w' w'') := fun w' a n c a2 n2 c2 h1 h2 => by
      have h := r7same_walk (Fm.size E) E E _ _ w' (Nat.le_refl _) h1 h2
      rw [Fm.same_refl] at h
      exact h
    have HB9 := Lib.hid hb9
    clear hb9 hE
    go_cut [99] from 86 to 98 (fun y wx => y = .bool false ∧ Hid (Below w9.heap.size w9 wx))
    case first =>
      go_region_held3 (fun w' => Below w9.heap.size w9 w') (first | exact (Below.refl _ _).drew | exact Below.refl _ _ | with_reducible assumption | exact below_step (by with_reducible assumption) (by with_reducible assumption))
        (first
          | (go_at_call 22; (with_reducible refine (HE1.out _ (by first | exact (Below.refl _ _).drew | exact Below.refl _ _ | with_reducible assumption)).mono ?_); rintro e v1 ⟨⟨xa1, xn1, xc1, rfl, ht1⟩, hv1⟩; have s1 := below_step (W := w9) hv1 (by first | exact (Below.refl _ _).drew | exact Below.refl _ _ | with_reducible assumption))
          | (go_at_call 23; (with_reducible refine (HE2.out _ (by first | exact (Below.refl _ _).drew | exact Below.refl _ _ | with_reducible assumption)).mono ?_); rintro e v2 ⟨⟨xa2, xn2, xc2, rfl, ht2⟩, hv2⟩; have s2 := below_step (W := w9) hv2 (by first | exact (Below.refl _ _).drew | exact Below.refl _ _ | with_reducible assumption))
          | (go_at_call 21; (with_reducible refine (HS3.out _ _ _ _ _ _ _ (by first | exact ht1.below hv2 | with_reducible assumption) (by with_reducible assumption)).mono ?_); rintro e v3 ⟨rfl, hv3⟩; have s3 := below_step (W := w9) hv3 (by first | exact (Below.refl _ _).drew | exact Below.refl _ _ | with_reducible assumption))
          | fail)
      all_goals
        go_wp2_with fail
        go_meet
        exact ⟨rfl, s3⟩
    case rest =>
      obtain ⟨rfl, hb10⟩ := hcut
      have hb10 := below_step hb10.out HB9.out
      clear f0 f1 f2 f3 f4 g0 g1 g2 g3 g4 d0 HE1 HE2 HS3 HB9
      obtain ⟨⟨f0, f1, f2, f3, f4⟩, ⟨g0, g1, g2, g3, g4⟩, d0⟩ := HQ.out wc hb10
      have HV := Lib.hid (valid_walk _ d wc (HA.out wc hb10).2.2.1)
      go_wp2_with fail
      refine HV.out.mono ?_
      intro e w11 h11
      by_cases hval : Fc.Valid d
      case neg =>
        obtain ⟨rfl, hb11⟩ := says_false hval h11
        have HF := Lib.hid (HA.out w11 (below_step hb11 hb10)).2.2.2.2.2
        clear h11 hb11 hval
        go_wp2_with fail
        go_ret
        exact ⟨rfl, HF.out⟩
      obtain ⟨rfl, hb11⟩ := says_true hval h11
      have hb11 := below_step hb11 hb10
      clear f0 f1 f2 f3 f4 g0 g1 g2 g3 g4 d0 h11 hb10 HV
      obtain ⟨q, hq⟩ : ∃ b, b = Fm.holdsB d lc l f := ⟨_, rfl⟩
      have f0 : ∀ w', Below w11.heap.size w11 w' → w'.cell? ⟨w.heap.size, 0, none⟩ = some (.int .i64 f.op) := fun w' h => (HQ.out w' (below_step h hb11)).1.1
      have f1 : ∀ w', Below w11.heap.size w11 w' → w'.cell? ⟨w.heap.size, 1, none⟩ = some (.string (Lx.str f.name)) := fun w' h => (HQ.out w' (below_step h hb11)).1.2.1
      have f2 : ∀ w', Below w11.heap.size w11 w' → w'.cell? ⟨w.heap.size, 2, none⟩ = some (.int .i64 f.cmp) := fun w' h => (HQ.out w' (below_step h hb11)).1.2.2.1
      have f3 : ∀ w', Below w11.heap.size w11 w' → w'.cell? ⟨w.heap.size, 3, none⟩ = some (.int .i64 f.num) := fun w' h => (HQ.out w' (below_step h hb11)).1.2.2.2.1
      have f4 : ∀ w', Below w11.heap.size w11 w' → w'.cell? ⟨w.heap.size, 4, none⟩ = some (.slice a n c) := fun w' h => (HQ.out w' (below_step h hb11)).1.2.2.2.2
      have g0 : ∀ w', Below w11.heap.size w11 w' → w'.cell? ⟨w.heap.size + 1, 0, none⟩ = some (.int .i64 g.op) := fun w' h => (HQ.out w' (below_step h hb11)).2.1.1
      have g1 : ∀ w', Below w11.heap.size w11 w' → w'.cell? ⟨w.heap.size + 1, 1, none⟩ = some (.string (Lx.str g.name)) := fun w' h => (HQ.out w' (below_step h hb11)).2.1.2.1
      have g2 : ∀ w', Below w11.heap.size w11 w' → w'.cell? ⟨w.heap.size + 1, 2, none⟩ = some (.int .i64 g.cmp) := fun w' h => (HQ.out w' (below_step h hb11)).2.1.2.2.1
      have g3 : ∀ w', Below w11.heap.size w11 w' → w'.cell? ⟨w.heap.size + 1, 3, none⟩ = some (.int .i64 g.num) := fun w' h => (HQ.out w' (below_step h hb11)).2.1.2.2.2.1
      have g4 : ∀ w', Below w11.heap.size w11 w' → w'.cell? ⟨w.heap.size + 1, 4, none⟩ = some (.slice ga gn gc) := fun w' h => (HQ.out w' (below_step h hb11)).2.1.2.2.2.2
      have d0 : ∀ w', Below w11.heap.size w11 w' → w'.cell? ⟨w.heap.size + 1 + 1, 0, none⟩ = some (.slice va vn vc) := fun w' h => (HQ.out w' (below_step h hb11)).2.2
      have HH1 : Hid (∀ w', Below w11.heap.size w11 w' → Calls Try.prog 25 #[.agg #[.int .i64 f.op, .string (Lx.str f.name), .int .i64 f.cmp, .int .i64 f.num, .slice a n c], .agg #[.slice va vn vc], .slice ca cn cc, .slice ta tn tc] w' fun e w'' => e = .returned (.bool q) ∧ Below w'.heap.size w' w'') := fun w' h => by
        have hA := HA.out w' (below_step h hb11)
        rw [hq]; exact holds_walk f _ _ _ _ d lc l w' hA.1 (by have := HSB.out.1; omega) hA.2.2.1 hA.2.2.2.1 hA.2.2.2.2.1
      have HH2 : Hid (∀ w', Below w11.heap.size w11 w' → Calls Try.prog 26 #[.agg #[.int .i64 f.op, .string (Lx.str f.name), .int .i64 f.cmp, .int .i64 f.num, .slice a n c], .agg #[.slice va vn vc], .slice ca cn cc, .slice ta tn tc] w' fun e w'' => e = .returned (.bool q) ∧ Below w'.heap.size w' w'') := fun w' h => by
        have hA := HA.out w' (below_step h hb11)
        rw [hq]; exact r7holds_walk f _ _ _ _ d lc l w' hA.1 (by have := HSB.out.1; omega) hA.2.2.1 hval hA.2.2.2.1 hA.2.2.2.2.1
      have HFAR : Hid (∀ w', Below w11.heap.size w11 w' → Below w.heap.size w w') := fun w' h => (HA.out w' (below_step h hb11)).2.2.2.2.2
      clear hq hval hb11
      go_upto_region 11 with fail
      go_region_held3 (fun w' => Below w11.heap.size w11 w') (first | exact (Below.refl _ _).drew | exact Below.refl _ _ | with_reducible assumption | exact below_step (by with_reducible assumption) (by with_reducible assumption))
        (first
          | (go_at_call 25; (with_reducible refine (HH1.out _ (by first | exact (Below.refl _ _).drew | exact Below.refl _ _ | with_reducible assumption)).mono ?_); rintro e v1 ⟨rfl, hv1⟩; have s1 := below_step (W := w11) hv1 (by first | exact (Below.refl _ _).drew | exact Below.refl _ _ | with_reducible assumption))
          | (go_at_call 26; (with_reducible refine (HH2.out _ (by first | exact (Below.refl _ _).drew | exact Below.refl _ _ | with_reducible assumption)).mono ?_); rintro e v2 ⟨rfl, hv2⟩; have s2 := below_step (W := w11) hv2 (by first | exact (Below.refl _ _).drew | exact Below.refl _ _ | with_reducible assumption))
          | fail)
      all_goals go_wp2_with fail
      all_goals go_ret
      all_goals first | exact ⟨rfl, HFAR.out _ s2⟩ | exact ⟨by simp, HFAR.out _ s2⟩

set_option maxRecDepth 100000 in
/-- What the walk gives, for all arguments and every world that holds the tables. -/
theorem contract (H : Type) (enc : TypeId × Value → H) (W : World) (base : Nat) (args : Array Value) (ds gs : List (DataW H)) (before : List MemPlace)
    (hval : ∀ (j : Nat) t v, Try.f3.params[j]? = some t → args[j]? = some v → Value.okWide Try.prog W .any base t v)
    (hW : DataW.Whole enc Try.prog Try.f3.params.toList Rows.formulaMatchesReferenceSpec.vars false W args.toList ds gs before) :
    Calls Try.prog 3 args W fun e W' => ∃ v, e = .returned v ∧ Rows.formulaMatchesReferenceSpec.post enc Try.prog Try.f3 false true false false W args v W' := by
  have hW' := hW
  obtain ⟨p, q, hA0, hV, rfl, hfz, hnd⟩ := hW
  have hA : DataW.TrodAll enc Try.prog W 0 (fun _ => true) true Try.f3.params.toList args.toList ds p := hA0
  rw [Try.params3] at hA hval
  obtain ⟨v0, vs0, d0, ds0, p0, q0, hargs, rfl, rfl, h0, r0⟩ := trodAll_cons hA
  obtain ⟨v1, vs1, d1, ds1, p1, q1, rfl, rfl, rfl, h1, r1⟩ := trodAll_cons r0
  obtain ⟨v2, vs2, d2, ds2, p2, q2, rfl, rfl, rfl, h2, r2⟩ := trodAll_cons r1
  obtain ⟨v3, vs3, d3, ds3, p3, q3, rfl, rfl, rfl, h3, r3⟩ := trodAll_cons r2
  obtain ⟨v4, vs4, d4, ds4, p4, q4, rfl, rfl, rfl, h4, r4⟩ := trodAll_cons r3
  obtain ⟨v5, vs5, d5, ds5, p5, q5, rfl, rfl, rfl, h5, r5⟩ := trodAll_cons r4
  obtain ⟨rfl, rfl, rfl⟩ := trodAll_nil r5
  obtain rfl : args = #[v0, v1, v2, v3, v4, v5] := by cases args; simp_all
  obtain ⟨rfl, rfl⟩ := trodVars_none hV
  obtain ⟨f0, u0, rfl, t0⟩ := open_formula (hval 0 24 v0 rfl rfl) h0
  obtain ⟨f1, u1, rfl, t1⟩ := open_formula (hval 1 24 v1 rfl rfl) h1
  obtain ⟨u2, l2, rfl, t2⟩ := open_domain (hval 2 27 v2 rfl rfl) h2
  obtain ⟨l3, t3⟩ := open_case (hval 3 29 v3 rfl rfl) h3
  obtain ⟨l4, t4⟩ := open_list (hval 4 30 v4 rfl rfl) h4
  obtain ⟨a5, rfl, _, _, g5⟩ := open_string Try.underlying9 (hval 5 9 v5 rfl rfl) h5
  refine (law_walk f0 u0 f1 u1 u2 l2 v3 l3 v4 l4 a5 W t0 t1 t2 t3 t4 (le_of_max g5)).mono fun e W' ⟨he, hg⟩ => ?_
  subst he
  exact ⟨_, rfl, post_law rfl rfl rfl rfl rfl (by rw [Try.params3]; decide) hW' hg⟩

theorem laid_met (os : Os) : laidMet Try.prog Rows.formulaMatchesReferenceRow.laid ((laidWorld os).forCall (fun _ _ => 0) ⟨#[], #[.agg #[.int .i64 0, .string ⟨#[]⟩, .int .i64 0, .int .i64 0, .slice none 0 0], .agg #[.int .i64 0, .string ⟨#[]⟩, .int .i64 0, .int .i64 0, .slice none 0 0], .agg #[.slice none 0 0], .slice none 0 0, .slice none 0 0, .string ⟨#[]⟩], []⟩).memory :=
  laidMet_of_run' 8 (by kernel_rfl) (by kernel_rfl)
theorem reads (os : Os) {H : Type} (enc : TypeId × Value → H) : ∃ places, DataW.whole enc Try.prog ((laidWorld os).forCall (fun _ _ => 0) ⟨#[], #[.agg #[.int .i64 0, .string ⟨#[]⟩, .int .i64 0, .int .i64 0, .slice none 0 0], .agg #[.int .i64 0, .string ⟨#[]⟩, .int .i64 0, .int .i64 0, .slice none 0 0], .agg #[.slice none 0 0], .slice none 0 0, .slice none 0 0, .string ⟨#[]⟩], []⟩).memory Try.f3.params.toList Rows.formulaMatchesReferenceSpec.vars false #[Value.agg #[.int .i64 0, .string ⟨#[]⟩, .int .i64 0, .int .i64 0, .slice none 0 0], Value.agg #[.int .i64 0, .string ⟨#[]⟩, .int .i64 0, .int .i64 0, .slice none 0 0], Value.agg #[.slice none 0 0], Value.slice none 0 0, Value.slice none 0 0, Value.string ⟨#[]⟩].toList 8 = some ([.agg [.lit (.int .i64 0), .lit (.string []), .lit (.int .i64 0), .lit (.int .i64 0), .nil], .agg [.lit (.int .i64 0), .lit (.string []), .lit (.int .i64 0), .lit (.int .i64 0), .nil], .agg [.nil], .nil, .nil, .lit (.string [])], [], places) :=
  ⟨[], by kernel_rfl⟩

set_option maxRecDepth 100000 in
theorem lifted (os : Os) (started : os.Started) (H : Type) (enc : TypeId × Value → H) (F : Stop.Interp) :
    ReturnsInHanded {} Try.checked os 3 .any ((OpenSpec.ofChange Rows.formulaMatchesReferenceSpec).preRow enc Try.prog Try.f3 Rows.formulaMatchesReferenceRow.domain false Rows.formulaMatchesReferenceRow.laid) (((OpenSpec.ofChange Rows.formulaMatchesReferenceSpec).at F).post enc Try.prog Try.f3 false true false false) := by
  obtain ⟨places, hx⟩ := reads os enc
  refine returnsInHanded_of_row (C := Try.checked) (s := OpenSpec.ofChange Rows.formulaMatchesReferenceSpec) own started (by kernel_rfl) Try.func3
    (witness_row_at (enc := enc) (C := Try.checked) false (laidWorld os) #[.agg #[.int .i64 0, .string ⟨#[]⟩, .int .i64 0, .int .i64 0, .slice none 0 0], .agg #[.int .i64 0, .string ⟨#[]⟩, .int .i64 0, .int .i64 0, .slice none 0 0], .agg #[.slice none 0 0], .slice none 0 0, .slice none 0 0, .string ⟨#[]⟩] rfl (by kernel_rfl) (by kernel_rfl) (by kernel_rfl)
      (OpenSpec.preRow_of_cond 8 hx (by kernel_rfl) (fun k hk => by cases hk) (by kernel_rfl) (laid_met os))) ?_
  intro W base args ds gs before hval hW _ _ _ hL _ _
  exact contract H enc W base args ds gs before hval hW

theorem said : Rows.FormulaMatchesReferenceSaid :=
  OpenClaim.holds_of_cond 3 Try.f3 rfl rfl rfl rfl rfl rfl rfl ⟨rfl, rfl, rfl, rfl, rfl⟩ rfl rfl rfl rfl rfl (by kernel_rfl) Try.func3 (by kernel_rfl)
    (of_decide_eq_true (by kernel_rfl)) (by unfold Func.isWrapper; first | (rw [if_pos (by decide +kernel)]; kernel_rfl) | (rw [if_neg (by decide +kernel)]; exact ⟨rfl, rfl⟩))
    (fun os started H enc _ F => by rw [OpenClaim.pre_eq_preRow]; exact lifted os started H enc F)

end Go.Proofs.Ytjcaingfeaaakaa.formulaMatchesReference
