/-
  FormulaExpands (P7.4): for every two well-formed formulas, case that fits, terms and name, an expanded formula that is well-formed holds exactly if the formula does with the name in the list if the second formula holds, and without it otherwise. No condition: the statement itself asks few facts and terms and good formulas; for others it says what the law's opening check answers.
-/
import Derived.Test.YtjcaingfeaaakaaLFrameK
import Derived.Test.YtjcaingfeaaakaaMExpandsB
import Derived.Deep.RegionHeld3
import Derived.Deep.CutRange
namespace Go.Proofs.Ytjcaingfeaaakaa.formulaExpands
open Go.ChangeShapes Go.WideShapes Go.ChangeAt Go.RowKit
open Go.ChangeMaps (open_string shut_string)

set_option maxHeartbeats 16000000 in
set_option maxRecDepth 100000 in
theorem law_walk (f : Fm.Fo) (u : Value) (by_ : Fm.Fo) (ub : Value) (v : Value) (d : List Fc.Fact) (cv : Value) (cs : List Int) (tv : Value) (l : List Fm.T) (nm : ByteArray) (w : World) (hat : Fm.At w f u) (hby : Fm.At w by_ ub) (hd : Fc.IsF w v d) (hc : Fc.IsN w cv cs) (ht : Fm.IsT w tv l) (hnm : nm.size ≤ 9223372036854775807) :
    Calls Try.prog 6 #[Fm.fv f u, Fm.fv by_ ub, .agg #[v], cv, tv, .string nm] w fun e w' => e = .returned (.bool true) ∧ Below w.heap.size w w' := by
  obtain ⟨x, rfl⟩ : ∃ x, nm = Lx.str x := ⟨Lx.tx nm, (Lx.str_tx nm).symm⟩
  obtain ⟨a, n, c, hu⟩ : ∃ a n c, u = .slice a n c := by obtain ⟨a, c, e, _⟩ := hat.kidsAt.len; exact ⟨_, _, _, e⟩
  obtain ⟨ba, bn, bc, hub⟩ : ∃ a n c, ub = .slice a n c := by obtain ⟨a, c, e, _⟩ := hby.kidsAt.len; exact ⟨_, _, _, e⟩
  obtain ⟨va, vn, vc, hv⟩ : ∃ a n c, v = .slice a n c := by obtain ⟨a, c, e, _⟩ := hd.form; exact ⟨_, _, _, e⟩
  obtain ⟨ca, cn, cc, hcv⟩ : ∃ a n c, cv = .slice a n c := by obtain ⟨a, c, _, _, e, _⟩ := hc.any; exact ⟨_, _, _, e⟩
  obtain ⟨ta, tc, g, o, htv, htc1, htc2, hga, hcl⟩ := ht.any
  obtain ⟨tn, htn⟩ : ∃ n, n = l.length := ⟨_, rfl⟩
  rw [← htn] at htv htc1
  subst hu hub hv hcv htv
  have hga2 : 0 < tn → ta = some ⟨g, o, none⟩ ∧ g < w.heap.size := fun h => hga (by rintro rfl; rw [htn] at h; simp at h)
  obtain ⟨W2, hW2⟩ : ∃ W2, W2 = ((w.alloc (.cells #[.int .i64 f.op, .string (Lx.str f.name), .int .i64 f.cmp, .int .i64 f.num, .slice a n c] 24)).alloc (.cells #[.int .i64 by_.op, .string (Lx.str by_.name), .int .i64 by_.cmp, .int .i64 by_.num, .slice ba bn bc] 24)).alloc (.cells #[.slice va vn vc] 27) := ⟨_, rfl⟩
  have hb2 : Below w.heap.size w W2 := by rw [hW2]; exact below_al (below_al (below_al (Below.refl _ _) _) _) _
  have k0 : W2.heap[w.heap.size]? = some (.cells #[.int .i64 f.op, .string (Lx.str f.name), .int .i64 f.cmp, .int .i64 f.num, .slice a n c] 24 (0, 0)) := by rw [hW2]; exact Fm.blkK (Fm.blkK (heap_alloc_new _ _))
  have k1 : W2.heap[w.heap.size + 1]? = some (.cells #[.int .i64 by_.op, .string (Lx.str by_.name), .int .i64 by_.cmp, .int .i64 by_.num, .slice ba bn bc] 24 (0, 0)) := by rw [hW2]; exact Fm.blkK (Fm.blk1 _ _ _)
  have k2 : W2.heap[w.heap.size + 1 + 1]? = some (.cells #[.slice va vn vc] 27 (0, 0)) := by rw [hW2]; exact Fm.blk2 _ _ _ _
  have hl0 := (Array.getElem?_eq_some_iff.1 k0).1
  have hl1 := (Array.getElem?_eq_some_iff.1 k1).1
  have hl2 := (Array.getElem?_eq_some_iff.1 k2).1
  have HQ : Hid (∀ w', Below W2.heap.size W2 w' → (w'.cell? ⟨w.heap.size, 0, none⟩ = some (.int .i64 f.op) ∧ w'.cell? ⟨w.heap.size, 1, none⟩ = some (.string (Lx.str f.name)) ∧ w'.cell? ⟨w.heap.size, 2, none⟩ = some (.int .i64 f.cmp) ∧ w'.cell? ⟨w.heap.size, 3, none⟩ = some (.int .i64 f.num) ∧ w'.cell? ⟨w.heap.size, 4, none⟩ = some (.slice a n c)) ∧ (w'.cell? ⟨w.heap.size + 1, 0, none⟩ = some (.int .i64 by_.op) ∧ w'.cell? ⟨w.heap.size + 1, 1, none⟩ = some (.string (Lx.str by_.name)) ∧ w'.cell? ⟨w.heap.size + 1, 2, none⟩ = some (.int .i64 by_.cmp) ∧ w'.cell? ⟨w.heap.size + 1, 3, none⟩ = some (.int .i64 by_.num) ∧ w'.cell? ⟨w.heap.size + 1, 4, none⟩ = some (.slice ba bn bc)) ∧ w'.cell? ⟨w.heap.size + 1 + 1, 0, none⟩ = some (.slice va vn vc)) := fun w' h => ⟨⟨(h.cell (p := ⟨w.heap.size, 0, none⟩) hl0).trans (Joins.cell_of_block k0 0), (h.cell (p := ⟨w.heap.size, 1, none⟩) hl0).trans (Joins.cell_of_block k0 1), (h.cell (p := ⟨w.heap.size, 2, none⟩) hl0).trans (Joins.cell_of_block k0 2), (h.cell (p := ⟨w.heap.size, 3, none⟩) hl0).trans (Joins.cell_of_block k0 3), (h.cell (p := ⟨w.heap.size, 4, none⟩) hl0).trans (Joins.cell_of_block k0 4)⟩, ⟨(h.cell (p := ⟨w.heap.size + 1, 0, none⟩) hl1).trans (Joins.cell_of_block k1 0), (h.cell (p := ⟨w.heap.size + 1, 1, none⟩) hl1).trans (Joins.cell_of_block k1 1), (h.cell (p := ⟨w.heap.size + 1, 2, none⟩) hl1).trans (Joins.cell_of_block k1 2), (h.cell (p := ⟨w.heap.size + 1, 3, none⟩) hl1).trans (Joins.cell_of_block k1 3), (h.cell (p := ⟨w.heap.size + 1, 4, none⟩) hl1).trans (Joins.cell_of_block k1 4)⟩, (h.cell (p := ⟨w.heap.size + 1 + 1, 0, none⟩) hl2).trans (Joins.cell_of_block k2 0)⟩
  have HA : Hid (∀ w', Below W2.heap.size W2 w' → Fm.At w' f (.slice a n c) ∧ Fm.At w' by_ (.slice ba bn bc) ∧ Fc.IsF w' (.slice va vn vc) d ∧ Fc.IsN w' (.slice ca cn cc) cs ∧ Fm.IsT w' (.slice ta tn tc) l ∧ Below w.heap.size w w') := fun w' h => by
    have hb := hb2.trans (h.mono hb2.size)
    exact ⟨hat.below hb, hby.below hb, hd.below hb, hc.below hb, ht.below hb, hb⟩
  have HLS := Lib.hid ht.sizes
  have HKID := Lib.hid (And.intro hcl (And.intro hga2 htn))
  have hsx : (Lx.str x).size = x.length := Fc.str_size x
  obtain ⟨sx, hsxe⟩ : ∃ s, s = Lx.str x := ⟨_, rfl⟩
  rw [← hsxe] at hsx hnm ⊢
  have HSX := Lib.hid hsxe
  have htnb : tn ≤ 9223372036854775807 := by omega
  clear hat hby hd hc ht hb2 k0 k1 k2 hl0 hl1 hl2 hcl hga hga2 htn hsxe htc1 htc2
  go_enter Try.func6, Try.ntmps6
  go_wp2_with fail
  rw [← hW2]
  clear hW2
  refine (head_walk W2).mono ?_
  rintro e w3 ⟨rfl, hb3⟩
  obtain ⟨⟨f0, f1, f2, f3, f4⟩, ⟨b0, b1, b2, b3, b4⟩, d0⟩ := HQ.out w3 hb3
  have HFW := Lib.hid (few_walk _ _ _ d cs l w3 (HA.out w3 hb3).2.2.1 (HA.out w3 hb3).2.2.2.1 (HA.out w3 hb3).2.2.2.2.1)
  go_wp2_with fail
  refine HFW.out.mono ?_
  intro e w4 h4
  by_cases hfew : Fm.Few d cs l
  case neg =>
    obtain ⟨rfl, hb4⟩ := says_false hfew h4
    have HF := Lib.hid (HA.out w4 (below_step hb4 hb3)).2.2.2.2.2
    clear h4 hb4 hfew
    go_wp2_with fail
    go_ret
    exact ⟨rfl, HF.out⟩
  obtain ⟨rfl, hb4⟩ := says_true hfew h4
  have hb4 := below_step hb4 hb3
  have ht40 : tn ≤ 40 := by rw [HKID.out.2.2]; exact hfew.2.2.2
  clear f0 f1 f2 f3 f4 b0 b1 b2 b3 b4 d0 h4 hfew hb3 HFW
  by_cases h60 : sx.size ≤ 60
  case neg =>
    have h60i : (60 : Int) < (sx.size : Int) := by omega
    have HF := Lib.hid (HA.out w4 hb4).2.2.2.2.2
    go_wp2_with fail
    go_ret
    exact ⟨rfl, HF.out⟩
  have h60i : ¬ (60 : Int) < (sx.size : Int) := by omega
  obtain ⟨⟨f0, f1, f2, f3, f4⟩, ⟨b0, b1, b2, b3, b4⟩, d0⟩ := HQ.out w4 hb4
  have HGW := Lib.hid (good_walk f _ _ _ d cs w4 (HA.out w4 hb4).1 (HA.out w4 hb4).2.2.1 (HA.out w4 hb4).2.2.2.1)
  go_wp2_with fail
  refine HGW.out.mono ?_
  intro e w5 h5
  by_cases hgood : Fm.Good f d cs
  case neg =>
    obtain ⟨rfl, hb5⟩ := says_false hgood h5
    have HF := Lib.hid (HA.out w5 (below_step hb5 hb4)).2.2.2.2.2
    clear h5 hb5 hgood
    go_wp2_with fail
    go_ret
    exact ⟨rfl, HF.out⟩
  obtain ⟨rfl, hb5⟩ := says_true hgood h5
  have hb5 := below_step hb5 hb4
  have HG := Lib.hid hgood
  clear f0 f1 f2 f3 f4 b0 b1 b2 b3 b4 d0 h5 hgood hb4 HGW
  obtain ⟨⟨f0, f1, f2, f3, f4⟩, ⟨b0, b1, b2, b3, b4⟩, d0⟩ := HQ.out w5 hb5
  have HGW := Lib.hid (good_walk by_ _ _ _ d cs w5 (HA.out w5 hb5).2.1 (HA.out w5 hb5).2.2.1 (HA.out w5 hb5).2.2.2.1)
  go_wp2_with fail
  refine HGW.out.mono ?_
  intro e w6 h6
  by_cases hgood : Fm.Good by_ d cs
  case neg =>
    obtain ⟨rfl, hb6⟩ := says_false hgood h6
    have HF := Lib.hid (HA.out w6 (below_step hb6 hb5)).2.2.2.2.2
    clear h6 hb6 hgood
    go_wp2_with fail
    go_ret
    exact ⟨rfl, HF.out⟩
  obtain ⟨rfl, hb6⟩ := says_true hgood h6
  have hb6 := below_step hb6 hb5
  have HGB := Lib.hid hgood
  clear f0 f1 f2 f3 f4 b0 b1 b2 b3 b4 d0 h6 hgood hb5 HGW
  obtain ⟨⟨f0, f1, f2, f3, f4⟩, ⟨b0, b1, b2, b3, b4⟩, d0⟩ := HQ.out w6 hb6
  obtain ⟨E, hE⟩ : ∃ E, E = Fm.expand x by_ f := ⟨_, rfl⟩
  have HX : Hid (Calls Try.prog 22 #[Fm.fv f (.slice a n c), .string sx, Fm.fv by_ (.slice ba bn bc)] w6 fun e w'' => (∃ a n c, e = .returned (Fm.fv E (.slice a n c)) ∧ Fm.At w'' E (.slice a n c)) ∧ Below w6.heap.size w6 w'') := (by
    rw [HSX.out, hE]
    exact (expand_walk (Fm.size f) f by_ _ _ x w6 (Nat.le_refl _) (by have := HG.out.2.1; omega) (by have := HGB.out.2.1; omega) (HA.out w6 hb6).1 (HA.out w6 hb6).2.1).mono fun e w'' h => by
      obtain ⟨⟨u', h1, h2⟩, h3⟩ := h
      have h2 := h2.at
      obtain ⟨a', c', e', _⟩ := h2.kidsAt.len
      subst e'
      exact ⟨⟨_, _, _, h1, h2⟩, h3⟩)
  have HES : Hid (Fm.size E ≤ 3600) := (by rw [hE]; exact Nat.le_trans (Fm.size_expand_le x by_ f) (Nat.mul_le_mul HG.out.2.1 HGB.out.2.1) : Fm.size E ≤ 3600)
  have HE := Lib.hid hE
  clear hE
  go_wp2_with fail
  refine HX.out.mono ?_
  rintro e w8 ⟨⟨ea, en, ec, rfl, hat8⟩, hb8⟩
  have hb8 := below_step hb8 hb6
  clear f0 f1 f2 f3 f4 b0 b1 b2 b3 b4 d0 HX hb6
  go_upto_region 5 with fail
  obtain ⟨W9, hW9⟩ : ∃ W9, W9 = w8.alloc (.cells #[.int .i64 E.op, .string (Lx.str E.name), .int .i64 E.cmp, .int .i64 E.num, .slice ea en ec] 24) := ⟨_, rfl⟩
  have kE : W9.heap[w8.heap.size]? = some (.cells #[.int .i64 E.op, .string (Lx.str E.name), .int .i64 E.cmp, .int .i64 E.num, .slice ea en ec] 24 (0, 0)) := by rw [hW9]; exact heap_alloc_new _ _
  have hb9 : Below W2.heap.size W2 W9 := by rw [hW9]; exact below_al hb8 _
  have hat9 : Fm.At W9 E (.slice ea en ec) := by rw [hW9]; exact hat8.below ((Below.refl _ _).alloc (Nat.le_refl _) _)
  rw [← hW9]
  have hlE := (Array.getElem?_eq_some_iff.1 kE).1
  have HB9 := Lib.hid hb9
  have HEA : Hid (∀ w', Below W9.heap.size W9 w' → Fm.At w' E (.slice ea en ec) ∧ w'.heap[w8.heap.size]? = some (.cells #[.int .i64 E.op, .string (Lx.str E.name), .int .i64 E.cmp, .int .i64 E.num, .slice ea en ec] 24 (0, 0)) ∧ Below W2.heap.size W2 w') := fun w' h => ⟨hat9.below h, (h.block _ hlE).trans kE, below_step h hb9⟩
  have g0 : ∀ w', Below W9.heap.size W9 w' → w'.cell? ⟨w8.heap.size, 0, none⟩ = some (.int .i64 E.op) := fun w' h => Joins.cell_of_block (HEA.out w' h).2.1 0
  have g1 : ∀ w', Below W9.heap.size W9 w' → w'.cell? ⟨w8.heap.size, 1, none⟩ = some (.string (Lx.str E.name)) := fun w' h => Joins.cell_of_block (HEA.out w' h).2.1 1
  have g2 : ∀ w', Below W9.heap.size W9 w' → w'.cell? ⟨w8.heap.size, 2, none⟩ = some (.int .i64 E.cmp) := fun w' h => Joins.cell_of_block (HEA.out w' h).2.1 2
  have g3 : ∀ w', Below W9.heap.size W9 w' → w'.cell? ⟨w8.heap.size, 3, none⟩ = some (.int .i64 E.num) := fun w' h => Joins.cell_of_block (HEA.out w' h).2.1 3
  have g4 : ∀ w', Below W9.heap.size W9 w' → w'.cell? ⟨w8.heap.size, 4, none⟩ = some (.slice ea en ec) := fun w' h => Joins.cell_of_block (HEA.out w' h).2.1 4
  have d0 : ∀ w', Below W9.heap.size W9 w' → w'.cell? ⟨w.heap.size + 1 + 1, 0, none⟩ = some (.slice va vn vc) := fun w' h => (HQ.out w' (HEA.out w' h).2.2).2.2
  obtain ⟨z, hz⟩ : ∃ n, n = Fm.check Fc.isNm (Fm.fs d) (Fm.has (Fm.tms E)) E := ⟨_, rfl⟩
  have HTE : Hid (∀ w', Below W9.heap.size W9 w' → Calls Try.prog 18 #[.agg #[.int .i64 E.op, .string (Lx.str E.name), .int .i64 E.cmp, .int .i64 E.num, .slice ea en ec]] w' fun e w'' => (∃ a k c, e = .returned (.slice a k c) ∧ Fm.IsT w'' (.slice a k c) (Fm.tms E)) ∧ Below w'.heap.size w' w'') := fun w' h => (terms_walk E _ w' (HEA.out w' h).1 (by have := HES.out; omega)).mono fun e w'' h' => by
    obtain ⟨⟨v, rfl, ho⟩, hb⟩ := h'
    have ht := ho.isT (Fm.tms_sized (HEA.out w' h).1)
    obtain ⟨a, c, rfl⟩ := ho.form
    exact ⟨⟨a, _, c, rfl, ht⟩, hb⟩
  have HCE : Hid (∀ w' a k c, Below W9.heap.size W9 w' → Fm.IsT w' (.slice a k c) (Fm.tms E) → Calls Try.prog 15 #[.agg #[.int .i64 E.op, .string (Lx.str E.name), .int .i64 E.cmp, .int .i64 E.num, .slice ea en ec], .agg #[.slice va vn vc], .slice a k c] w' fun e w'' => e = .returned (.int .i64 (z : Nat)) ∧ Below w'.heap.size w' w'') := fun w' a k c h ht => by
    rw [hz]
    exact check_walk E _ _ _ d _ w' (HEA.out w' h).1 (by have := HES.out; omega) (HA.out w' (HEA.out w' h).2.2).2.2.1 ht
  have HZ := Lib.hid hz
  clear hW9 kE hb9 hat9 hlE hb8 hat8 hz
  go_cut [51, 52] from 47 to 50 (fun p y wx => y = .bool ((z : Int) != 0) ∧ Hid (Below W9.heap.size W9 wx))
  case first =>
    go_region_held3 (fun w' => Below W9.heap.size W9 w') (first | exact (Below.refl _ _).drew | exact Below.refl _ _ | with_reducible assumption | exact below_step (by with_reducible assumption) (by with_reducible assumption))
      (first
        | (go_at_call 18; (with_reducible refine (HTE.out _ (by first | exact (Below.refl _ _).drew | with_reducible assumption)).mono ?_); rintro e v1 ⟨⟨xa, xk, xc, rfl, ht1⟩, hv1⟩; have s1 := below_step (W := W9) hv1 (by first | exact (Below.refl _ _).drew | with_reducible assumption))
        | (go_at_call 15; (with_reducible refine (HCE.out _ _ _ _ (by with_reducible assumption) (by with_reducible assumption)).mono ?_); rintro e v2 ⟨rfl, hv2⟩; have s2 := below_step (W := W9) hv2 (by with_reducible assumption)))
    all_goals (go_wp2_with fail; go_meet)
    exact ⟨rfl, s2⟩
  case rest =>
    obtain ⟨rfl, hb10⟩ := hcut
    clear g0 g1 g2 g3 g4 d0 HTE HCE
    by_cases hz0 : z = 0
    case neg =>
      have hzq : ((z : Int) != 0) = true := by simp; omega
      rw [hzq]
      have HF := Lib.hid (HA.out wc (HEA.out wc hb10.out).2.2).2.2.2.2.2
      go_wp2_with fail
      go_ret
      exact ⟨rfl, HF.out⟩
    have hzq : ((z : Int) != 0) = false := by simp; omega
    rw [hzq]
    clear hzq
    have HEXP := Lib.hid (Fm.expands (l := l) HG.out HGB.out (by rw [← HE.out, ← HZ.out]; exact hz0))
    clear HZ hz0
    go_wp2_with fail
    go_loopw [15, 16] (fun v i wr => ∃ k : Nat, k ≤ tn ∧ i = .int .i64 k ∧ Hid (Fm.OwnS wc.heap.size (Fm.out x (l.take k)) v wr) ∧ Hid (Below wc.heap.size wc wr)) (fun _ i _ => tn - (intOf i).toNat)
    case atStart => exact ⟨0, Nat.zero_le _, rfl, (by rw [List.take_zero]; exact Fm.OwnS.nil _ _), Below.refl _ _⟩
    case round =>
      obtain ⟨k, hk, rfl, ho, hbx⟩ := hrel
      by_cases hlt : k < tn
      · have hki : (k : Int) < (tn : Int) := by omega
        have hk0 : (0 : Int) ≤ (k : Int) := by omega
        obtain ⟨y, hy⟩ : ∃ y, l[k]? = some y := ⟨_, List.getElem?_eq_getElem (by rw [← HKID.out.2.2]; exact hlt)⟩
        obtain ⟨rfl, hg⟩ := HKID.out.2.1 (by omega)
        have hfar := (HA.out wr (HEA.out wr (below_step hbx.out hb10.out)).2.2).2.2.2.2.2
        have p0 := (hfar.cell (p := ⟨g, o + k, none⟩) hg).trans (HKID.out.1 k y hy)
        have htk := Fm.out_take (x := x) hy
        have hqe := Fm.str_eq y x
        rw [← HSX.out] at hqe
        by_cases hyx : y = x
        · rw [decide_eq_true hyx] at hqe
          rw [if_pos hyx] at htk
          have HO : Hid (Fm.OwnS wc.heap.size (Fm.out x (l.take (k + 1))) u15 wr) := by rw [htk]; exact ho
          clear hy hfar htk hyx ho
          go_wp2_with fail
          go_roundw
          case rel => exact ⟨k + 1, by omega, by go_num, HO, hbx⟩
          case measure => simp [intOf]; omega
        · rw [decide_eq_false hyx] at hqe
          rw [if_neg hyx] at htk
          obtain ⟨oa, oc, hoe⟩ := ho.out.form
          subst hoe
          have HOX : Hid (∀ v w, Fm.OwnS wc.heap.size (Fm.out x (l.take k) ++ [y]) v w → Fm.OwnS wc.heap.size (Fm.out x (l.take (k + 1))) v w) := fun v w h => by rw [htk]; exact h
          have hll : (Fm.out x (l.take k)).length < 1000000 := by have h1 := Fm.out_len x (l.take k); have h2 := List.length_take_le k l; omega
          have hbase : wc.heap.size ≤ wr.heap.size := hbx.out.size
          clear hy hfar htk hyx
          go_wp2_with (at_builtin; refine wpList_append_s _ rfl _ _ rfl wc.heap.size (Fm.out x (l.take k)) _ rfl (ho.out.below ((Below.refl _ _).alloc (Nat.le_refl _) _)) y wr.heap.size (0, 0) 9 rfl (heap_alloc_new _ _) hll (by simp; omega) ?_)
          intro gg gc w12 h1 h2
          have hO2 := ho.out.below ((Below.refl wr.heap.size wr).alloc (Nat.le_refl _) (.cells #[.string (Lx.str y)] 9))
          have HB12 : Hid (Below wc.heap.size wc w12) := hbx.out.trans (((Below.refl _ _).alloc hbase _).trans (hO2.grownBelow (by simp; omega) h2))
          have HO := Lib.hid (HOX.out _ _ h1)
          clear h1 h2 hO2 hbx ho HOX p0 hqe
          go_wp2_with fail
          go_roundw
          case rel =>
            exact ⟨k + 1, by omega, by go_num, HO, HB12⟩
          case measure => simp [intOf]; omega
      · obtain rfl : k = tn := by omega
        have hki : ¬ (k : Int) < (k : Int) := by omega
        obtain ⟨oa, oc, hoe⟩ := ho.out.form
        subst hoe
        have HO : Hid (Fm.OwnS wc.heap.size (Fm.out x l) (.slice oa (Fm.out x (l.take k)).length oc) wr) := by have := ho.out; rwa [HKID.out.2.2, List.take_length] at this ⊢
        obtain ⟨on, hon⟩ : ∃ m, m = (Fm.out x (l.take k)).length := ⟨_, rfl⟩
        rw [← hon] at HO ⊢
        have hob : on < 1000000 ∧ on = (Fm.out x l).length := by
          have h1 := Fm.out_len x l
          have h2 := HKID.out.2.2
          have h3 : l.take k = l := by rw [h2, List.take_length]
          rw [h3] at hon
          omega
        have HOB := Lib.hid hob
        clear hob
        have hb9r := below_step hbx.out hb10.out
        have hb2r := (HEA.out wr hb9r).2.2
        obtain ⟨⟨f0, f1, f2, f3, f4⟩, ⟨b0, b1, b2, b3, b4⟩, d0⟩ := HQ.out wr hb2r
        have HHB := Lib.hid (holds_walk by_ _ _ _ _ d cs l wr (HA.out wr hb2r).2.1 (by have := HGB.out.2.1; omega) (HA.out wr hb2r).2.2.1 (HA.out wr hb2r).2.2.2.1 (HA.out wr hb2r).2.2.2.2.1)
        obtain ⟨bb, hbb⟩ : ∃ b, b = Fm.holdsB d cs l by_ := ⟨_, rfl⟩
        obtain ⟨q, hq⟩ : ∃ b, b = Fm.holdsB d cs l E := ⟨_, rfl⟩
        have HQV : Hid (q = Fm.holdsB d cs l E ∧ q = Fm.holdsB d cs (if bb then Fm.out x l ++ [x] else Fm.out x l) f) := ⟨hq, by rw [hq, hbb, HE.out]; exact HEXP.out⟩
        rw [← hbb] at HHB
        clear ho hon hb2r hbb hq
        go_wp2_with fail
        refine HHB.out.mono ?_
        rintro e w11 ⟨rfl, hb11⟩
        have HO11 := Lib.hid (HO.out.below hb11)
        have hb911 := below_step hb11 hb9r
        have hbase : wc.heap.size ≤ w11.heap.size := Nat.le_trans hbx.out.size hb11.size
        clear f0 f1 f2 f3 f4 b0 b1 b2 b3 b4 d0 HHB HO hb9r hb11
        have hxs : sx = Lx.str x := HSX.out
        subst hxs
        cases bb with
        | false =>
          have HLT : Hid (∀ w', Below w11.heap.size w11 w' → Fm.IsT w' (.slice oa on oc) (if false = true then Fm.out x l ++ [x] else Fm.out x l)) := fun w' h => (HO11.out.isT (fun t ht => HLS.out t (List.mem_filter.1 ht).1)).below h
          have g0 : ∀ w', Below w11.heap.size w11 w' → w'.cell? ⟨w8.heap.size, 0, none⟩ = some (.int .i64 E.op) := fun w' h => Joins.cell_of_block (HEA.out w' (below_step h hb911)).2.1 0
          have g1 : ∀ w', Below w11.heap.size w11 w' → w'.cell? ⟨w8.heap.size, 1, none⟩ = some (.string (Lx.str E.name)) := fun w' h => Joins.cell_of_block (HEA.out w' (below_step h hb911)).2.1 1
          have g2 : ∀ w', Below w11.heap.size w11 w' → w'.cell? ⟨w8.heap.size, 2, none⟩ = some (.int .i64 E.cmp) := fun w' h => Joins.cell_of_block (HEA.out w' (below_step h hb911)).2.1 2
          have g3 : ∀ w', Below w11.heap.size w11 w' → w'.cell? ⟨w8.heap.size, 3, none⟩ = some (.int .i64 E.num) := fun w' h => Joins.cell_of_block (HEA.out w' (below_step h hb911)).2.1 3
          have g4 : ∀ w', Below w11.heap.size w11 w' → w'.cell? ⟨w8.heap.size, 4, none⟩ = some (.slice ea en ec) := fun w' h => Joins.cell_of_block (HEA.out w' (below_step h hb911)).2.1 4
          have f0 : ∀ w', Below w11.heap.size w11 w' → w'.cell? ⟨w.heap.size, 0, none⟩ = some (.int .i64 f.op) := fun w' h => (HQ.out w' (HEA.out w' (below_step h hb911)).2.2).1.1
          have f1 : ∀ w', Below w11.heap.size w11 w' → w'.cell? ⟨w.heap.size, 1, none⟩ = some (.string (Lx.str f.name)) := fun w' h => (HQ.out w' (HEA.out w' (below_step h hb911)).2.2).1.2.1
          have f2 : ∀ w', Below w11.heap.size w11 w' → w'.cell? ⟨w.heap.size, 2, none⟩ = some (.int .i64 f.cmp) := fun w' h => (HQ.out w' (HEA.out w' (below_step h hb911)).2.2).1.2.2.1
          have f3 : ∀ w', Below w11.heap.size w11 w' → w'.cell? ⟨w.heap.size, 3, none⟩ = some (.int .i64 f.num) := fun w' h => (HQ.out w' (HEA.out w' (below_step h hb911)).2.2).1.2.2.2.1
          have f4 : ∀ w', Below w11.heap.size w11 w' → w'.cell? ⟨w.heap.size, 4, none⟩ = some (.slice a n c) := fun w' h => (HQ.out w' (HEA.out w' (below_step h hb911)).2.2).1.2.2.2.2
          have d0 : ∀ w', Below w11.heap.size w11 w' → w'.cell? ⟨w.heap.size + 1 + 1, 0, none⟩ = some (.slice va vn vc) := fun w' h => (HQ.out w' (HEA.out w' (below_step h hb911)).2.2).2.2
          have HH1 : Hid (∀ w', Below w11.heap.size w11 w' → Calls Try.prog 25 #[.agg #[.int .i64 E.op, .string (Lx.str E.name), .int .i64 E.cmp, .int .i64 E.num, .slice ea en ec], .agg #[.slice va vn vc], .slice ca cn cc, .slice ta k tc] w' fun e w'' => e = .returned (.bool q) ∧ Below w'.heap.size w' w'') := fun w' h => by
            have h9 := HEA.out w' (below_step h hb911)
            have hA := HA.out w' h9.2.2
            rw [HQV.out.1]
            exact holds_walk E _ _ _ _ d cs l w' h9.1 (by have := HES.out; omega) hA.2.2.1 hA.2.2.2.1 hA.2.2.2.2.1
          have HH2 : Hid (∀ w', Below w11.heap.size w11 w' → Calls Try.prog 25 #[.agg #[.int .i64 f.op, .string (Lx.str f.name), .int .i64 f.cmp, .int .i64 f.num, .slice a n c], .agg #[.slice va vn vc], .slice ca cn cc, .slice oa on oc] w' fun e w'' => e = .returned (.bool q) ∧ Below w'.heap.size w' w'') := fun w' h => by
            have h9 := HEA.out w' (below_step h hb911)
            have hA := HA.out w' h9.2.2
            rw [HQV.out.2]
            exact holds_walk f _ _ _ _ d cs _ w' hA.1 (by have := HG.out.2.1; omega) hA.2.2.1 hA.2.2.2.1 (HLT.out w' h)
          have HFAR : Hid (∀ w', Below w11.heap.size w11 w' → Below w.heap.size w w') := fun w' h => (HA.out w' (HEA.out w' (below_step h hb911)).2.2).2.2.2.2.2
          go_upto_region 15 with fail
          go_region_held3 (fun w' => Below w11.heap.size w11 w') (first | exact (Below.refl _ _).drew | exact Below.refl _ _ | with_reducible assumption | exact below_step (by with_reducible assumption) (by with_reducible assumption))
            (first
              | (go_at_call 25; (with_reducible refine (HH1.out _ (by first | exact (Below.refl _ _).drew | with_reducible assumption)).mono ?_); rintro e v1 ⟨rfl, hv1⟩; have s1 := below_step (W := w11) hv1 (by first | exact (Below.refl _ _).drew | with_reducible assumption))
              | (go_at_call 25; (with_reducible refine (HH2.out _ (by first | exact (Below.refl _ _).drew | with_reducible assumption)).mono ?_); rintro e v2 ⟨rfl, hv2⟩; have s2 := below_step (W := w11) hv2 (by first | exact (Below.refl _ _).drew | with_reducible assumption)))
          all_goals go_wp2_with fail
          all_goals go_ret
          all_goals first | exact ⟨rfl, HFAR.out _ s2⟩ | exact ⟨rfl, HFAR.out _ s1⟩ | exact ⟨by simp, HFAR.out _ s2⟩
        | true =>
          go_wp2_with (at_builtin; refine wpList_append_s _ rfl _ _ rfl wc.heap.size (Fm.out x l) _ rfl (HO11.out.below ((Below.refl _ _).alloc (Nat.le_refl _) _)) x w11.heap.size (0, 0) 9 rfl (heap_alloc_new _ _) (by rw [← HOB.out.2]; exact HOB.out.1) (by simp; omega) ?_)
          intro gg gc w12 h1 h2
          have hO2 := HO11.out.below ((Below.refl w11.heap.size w11).alloc (Nat.le_refl _) (.cells #[.string (Lx.str x)] 9))
          have hb12 : Below wc.heap.size w11 w12 := ((Below.refl _ _).alloc hbase _).trans (hO2.grownBelow (by simp; omega) h2)
          have hb912 : Below W9.heap.size W9 w12 := hb911.trans (hb12.mono hb10.out.size)
          rw [← HOB.out.2] at h1 ⊢
          have HLT : Hid (∀ w', Below w12.heap.size w12 w' → Fm.IsT w' (.slice (some ⟨gg, 0, none⟩) (on + 1) gc) (if true = true then Fm.out x l ++ [x] else Fm.out x l)) := fun w' h => (h1.isT (fun t ht => by
            rcases List.mem_append.1 ht with ht | ht
            · exact HLS.out t (List.mem_filter.1 ht).1
            · rw [List.mem_singleton] at ht; rw [ht]; omega)).below h
          clear h2 hO2 hb12 HO11 hb911
          have g0 : ∀ w', Below w12.heap.size w12 w' → w'.cell? ⟨w8.heap.size, 0, none⟩ = some (.int .i64 E.op) := fun w' h => Joins.cell_of_block (HEA.out w' (below_step h hb912)).2.1 0
          have g1 : ∀ w', Below w12.heap.size w12 w' → w'.cell? ⟨w8.heap.size, 1, none⟩ = some (.string (Lx.str E.name)) := fun w' h => Joins.cell_of_block (HEA.out w' (below_step h hb912)).2.1 1
          have g2 : ∀ w', Below w12.heap.size w12 w' → w'.cell? ⟨w8.heap.size, 2, none⟩ = some (.int .i64 E.cmp) := fun w' h => Joins.cell_of_block (HEA.out w' (below_step h hb912)).2.1 2
          have g3 : ∀ w', Below w12.heap.size w12 w' → w'.cell? ⟨w8.heap.size, 3, none⟩ = some (.int .i64 E.num) := fun w' h => Joins.cell_of_block (HEA.out w' (below_step h hb912)).2.1 3
          have g4 : ∀ w', Below w12.heap.size w12 w' → w'.cell? ⟨w8.heap.size, 4, none⟩ = some (.slice ea en ec) := fun w' h => Joins.cell_of_block (HEA.out w' (below_step h hb912)).2.1 4
          have f0 : ∀ w', Below w12.heap.size w12 w' → w'.cell? ⟨w.heap.size, 0, none⟩ = some (.int .i64 f.op) := fun w' h => (HQ.out w' (HEA.out w' (below_step h hb912)).2.2).1.1
          have f1 : ∀ w', Below w12.heap.size w12 w' → w'.cell? ⟨w.heap.size, 1, none⟩ = some (.string (Lx.str f.name)) := fun w' h => (HQ.out w' (HEA.out w' (below_step h hb912)).2.2).1.2.1
          have f2 : ∀ w', Below w12.heap.size w12 w' → w'.cell? ⟨w.heap.size, 2, none⟩ = some (.int .i64 f.cmp) := fun w' h => (HQ.out w' (HEA.out w' (below_step h hb912)).2.2).1.2.2.1
          have f3 : ∀ w', Below w12.heap.size w12 w' → w'.cell? ⟨w.heap.size, 3, none⟩ = some (.int .i64 f.num) := fun w' h => (HQ.out w' (HEA.out w' (below_step h hb912)).2.2).1.2.2.2.1
          have f4 : ∀ w', Below w12.heap.size w12 w' → w'.cell? ⟨w.heap.size, 4, none⟩ = some (.slice a n c) := fun w' h => (HQ.out w' (HEA.out w' (below_step h hb912)).2.2).1.2.2.2.2
          have d0 : ∀ w', Below w12.heap.size w12 w' → w'.cell? ⟨w.heap.size + 1 + 1, 0, none⟩ = some (.slice va vn vc) := fun w' h => (HQ.out w' (HEA.out w' (below_step h hb912)).2.2).2.2
          have HH1 : Hid (∀ w', Below w12.heap.size w12 w' → Calls Try.prog 25 #[.agg #[.int .i64 E.op, .string (Lx.str E.name), .int .i64 E.cmp, .int .i64 E.num, .slice ea en ec], .agg #[.slice va vn vc], .slice ca cn cc, .slice ta k tc] w' fun e w'' => e = .returned (.bool q) ∧ Below w'.heap.size w' w'') := fun w' h => by
            have h9 := HEA.out w' (below_step h hb912)
            have hA := HA.out w' h9.2.2
            rw [HQV.out.1]
            exact holds_walk E _ _ _ _ d cs l w' h9.1 (by have := HES.out; omega) hA.2.2.1 hA.2.2.2.1 hA.2.2.2.2.1
          have HH2 : Hid (∀ w', Below w12.heap.size w12 w' → Calls Try.prog 25 #[.agg #[.int .i64 f.op, .string (Lx.str f.name), .int .i64 f.cmp, .int .i64 f.num, .slice a n c], .agg #[.slice va vn vc], .slice ca cn cc, .slice (some ⟨gg, 0, none⟩) (on + 1) gc] w' fun e w'' => e = .returned (.bool q) ∧ Below w'.heap.size w' w'') := fun w' h => by
            have h9 := HEA.out w' (below_step h hb912)
            have hA := HA.out w' h9.2.2
            rw [HQV.out.2]
            exact holds_walk f _ _ _ _ d cs _ w' hA.1 (by have := HG.out.2.1; omega) hA.2.2.1 hA.2.2.2.1 (HLT.out w' h)
          have HFAR : Hid (∀ w', Below w12.heap.size w12 w' → Below w.heap.size w w') := fun w' h => (HA.out w' (HEA.out w' (below_step h hb912)).2.2).2.2.2.2.2
          go_upto_region 15 with fail
          go_region_held3 (fun w' => Below w12.heap.size w12 w') (first | exact (Below.refl _ _).drew | exact Below.refl _ _ | with_reducible assumption | exact below_step (by with_reducible assumption) (by with_reducible assumption))
            (first
              | (go_at_call 25; (with_reducible refine (HH1.out _ (by first | exact (Below.refl _ _).drew | with_reducible assumption)).mono ?_); rintro e v1 ⟨rfl, hv1⟩; have s1 := below_step (W := w12) hv1 (by first | exact (Below.refl _ _).drew | with_reducible assumption))
              | (go_at_call 25; (with_reducible refine (HH2.out _ (by first | exact (Below.refl _ _).drew | with_reducible assumption)).mono ?_); rintro e v2 ⟨rfl, hv2⟩; have s2 := below_step (W := w12) hv2 (by first | exact (Below.refl _ _).drew | with_reducible assumption)))
          all_goals go_wp2_with fail
          all_goals go_ret
          all_goals first | exact ⟨rfl, HFAR.out _ s2⟩ | exact ⟨rfl, HFAR.out _ s1⟩ | exact ⟨by simp, HFAR.out _ s2⟩

set_option maxRecDepth 100000 in
/-- What the walk gives, for all arguments and every world that holds the tables. -/
theorem contract (H : Type) (enc : TypeId × Value → H) (W : World) (base : Nat) (args : Array Value) (ds gs : List (DataW H)) (before : List MemPlace)
    (hval : ∀ (j : Nat) t v, Try.f6.params[j]? = some t → args[j]? = some v → Value.okWide Try.prog W .any base t v)
    (hW : DataW.Whole enc Try.prog Try.f6.params.toList Rows.formulaExpandsSpec.vars false W args.toList ds gs before) :
    Calls Try.prog 6 args W fun e W' => ∃ v, e = .returned v ∧ Rows.formulaExpandsSpec.post enc Try.prog Try.f6 false true false false W args v W' := by
  have hW' := hW
  obtain ⟨p, q, hA0, hV, rfl, hfz, hnd⟩ := hW
  have hA : DataW.TrodAll enc Try.prog W 0 (fun _ => true) true Try.f6.params.toList args.toList ds p := hA0
  rw [Try.params6] at hA hval
  obtain ⟨v0, vs0, d0, ds0, p0, q0, hargs, rfl, rfl, h0, r0⟩ := trodAll_cons hA
  obtain ⟨v1, vs1, d1, ds1, p1, q1, rfl, rfl, rfl, h1, r1⟩ := trodAll_cons r0
  obtain ⟨v2, vs2, d2, ds2, p2, q2, rfl, rfl, rfl, h2, r2⟩ := trodAll_cons r1
  obtain ⟨v3, vs3, d3, ds3, p3, q3, rfl, rfl, rfl, h3, r3⟩ := trodAll_cons r2
  obtain ⟨v4, vs4, d4, ds4, p4, q4, rfl, rfl, rfl, h4, r4⟩ := trodAll_cons r3
  obtain ⟨v5, vs5, d5, ds5, p5, q5, rfl, rfl, rfl, h5, r5⟩ := trodAll_cons r4
  obtain ⟨rfl, rfl, rfl⟩ := trodAll_nil r5
  obtain rfl : args = #[v0, v1, v2, v3, v4, v5] := by cases args; simp_all
  obtain ⟨rfl, rfl⟩ := trodVars_none hV
  obtain ⟨f0, u0, rfl, t0⟩ := open_formula (hval 0 24 v0 rfl rfl) h0
  obtain ⟨f1, u1, rfl, t1⟩ := open_formula (hval 1 24 v1 rfl rfl) h1
  obtain ⟨u2, l2, rfl, t2⟩ := open_domain (hval 2 27 v2 rfl rfl) h2
  obtain ⟨l3, t3⟩ := open_case (hval 3 29 v3 rfl rfl) h3
  obtain ⟨l4, t4⟩ := open_list (hval 4 30 v4 rfl rfl) h4
  obtain ⟨a5, rfl, _, _, g5⟩ := open_string Try.underlying9 (hval 5 9 v5 rfl rfl) h5
  refine (law_walk f0 u0 f1 u1 u2 l2 v3 l3 v4 l4 a5 W t0 t1 t2 t3 t4 (le_of_max g5)).mono fun e W' ⟨he, hg⟩ => ?_
  subst he
  exact ⟨_, rfl, post_law rfl rfl rfl rfl rfl (by rw [Try.params6]; decide) hW' hg⟩

theorem laid_met (os : Os) : laidMet Try.prog Rows.formulaExpandsRow.laid ((laidWorld os).forCall (fun _ _ => 0) ⟨#[], #[.agg #[.int .i64 0, .string ⟨#[]⟩, .int .i64 0, .int .i64 0, .slice none 0 0], .agg #[.int .i64 0, .string ⟨#[]⟩, .int .i64 0, .int .i64 0, .slice none 0 0], .agg #[.slice none 0 0], .slice none 0 0, .slice none 0 0, .string ⟨#[]⟩], []⟩).memory :=
  laidMet_of_run' 8 (by kernel_rfl) (by kernel_rfl)
theorem reads (os : Os) {H : Type} (enc : TypeId × Value → H) : ∃ places, DataW.whole enc Try.prog ((laidWorld os).forCall (fun _ _ => 0) ⟨#[], #[.agg #[.int .i64 0, .string ⟨#[]⟩, .int .i64 0, .int .i64 0, .slice none 0 0], .agg #[.int .i64 0, .string ⟨#[]⟩, .int .i64 0, .int .i64 0, .slice none 0 0], .agg #[.slice none 0 0], .slice none 0 0, .slice none 0 0, .string ⟨#[]⟩], []⟩).memory Try.f6.params.toList Rows.formulaExpandsSpec.vars false #[Value.agg #[.int .i64 0, .string ⟨#[]⟩, .int .i64 0, .int .i64 0, .slice none 0 0], Value.agg #[.int .i64 0, .string ⟨#[]⟩, .int .i64 0, .int .i64 0, .slice none 0 0], Value.agg #[.slice none 0 0], Value.slice none 0 0, Value.slice none 0 0, Value.string ⟨#[]⟩].toList 8 = some ([.agg [.lit (.int .i64 0), .lit (.string []), .lit (.int .i64 0), .lit (.int .i64 0), .nil], .agg [.lit (.int .i64 0), .lit (.string []), .lit (.int .i64 0), .lit (.int .i64 0), .nil], .agg [.nil], .nil, .nil, .lit (.string [])], [], places) :=
  ⟨[], by kernel_rfl⟩

set_option maxRecDepth 100000 in
theorem lifted (os : Os) (started : os.Started) (H : Type) (enc : TypeId × Value → H) (F : Stop.Interp) :
    ReturnsInHanded {} Try.checked os 6 .any ((OpenSpec.ofChange Rows.formulaExpandsSpec).preRow enc Try.prog Try.f6 Rows.formulaExpandsRow.domain false Rows.formulaExpandsRow.laid) (((OpenSpec.ofChange Rows.formulaExpandsSpec).at F).post enc Try.prog Try.f6 false true false false) := by
  obtain ⟨places, hx⟩ := reads os enc
  refine returnsInHanded_of_row (C := Try.checked) (s := OpenSpec.ofChange Rows.formulaExpandsSpec) own started (by kernel_rfl) Try.func6
    (witness_row_at (enc := enc) (C := Try.checked) false (laidWorld os) #[.agg #[.int .i64 0, .string ⟨#[]⟩, .int .i64 0, .int .i64 0, .slice none 0 0], .agg #[.int .i64 0, .string ⟨#[]⟩, .int .i64 0, .int .i64 0, .slice none 0 0], .agg #[.slice none 0 0], .slice none 0 0, .slice none 0 0, .string ⟨#[]⟩] rfl (by kernel_rfl) (by kernel_rfl) (by kernel_rfl)
      (OpenSpec.preRow_of_cond 8 hx (by kernel_rfl) (fun k hk => by cases hk) (by kernel_rfl) (laid_met os))) ?_
  intro W base args ds gs before hval hW _ _ _ hL _ _
  exact contract H enc W base args ds gs before hval hW

theorem said : Rows.FormulaExpandsSaid :=
  OpenClaim.holds_of_cond 6 Try.f6 rfl rfl rfl rfl rfl rfl rfl ⟨rfl, rfl, rfl, rfl, rfl⟩ rfl rfl rfl rfl rfl (by kernel_rfl) Try.func6 (by kernel_rfl)
    (of_decide_eq_true (by kernel_rfl)) (by unfold Func.isWrapper; first | (rw [if_pos (by decide +kernel)]; kernel_rfl) | (rw [if_neg (by decide +kernel)]; exact ⟨rfl, rfl⟩))
    (fun os started H enc _ F => by rw [OpenClaim.pre_eq_preRow]; exact lifted os started H enc F)

end Go.Proofs.Ytjcaingfeaaakaa.formulaExpands
