/-
  FormulaMatters (P7.5): for every well-formed formula, two cases that fit and two lists of terms that agree about its terms, and with the facts that it names alike, it holds for both or for none; its terms are those without which Check has an ErrName. No condition: the statement itself asks few facts and terms and good formulas; for others it says what the law's opening check answers.
-/
import Derived.Test.YtjcaingfeaaakaaLFrameK
import Derived.Test.YtjcaingfeaaakaaMMattersA
import Derived.Test.YtjcaingfeaaakaaMApp
import Derived.Deep.RegionHeld3
import Derived.Deep.CutRange
namespace Go.Proofs.Ytjcaingfeaaakaa.formulaMatters
open Go.ChangeShapes Go.WideShapes Go.ChangeAt Go.RowKit

set_option maxHeartbeats 1600000 in
set_option maxRecDepth 100000 in
theorem law_walk (f : Fm.Fo) (u : Value) (v : Value) (d : List Fc.Fact) (av : Value) (la : List Int) (bv : Value) (lb : List Int) (ov : Value) (l1 : List Fm.T) (tv : Value) (l2 : List Fm.T) (w : World) (hat : Fm.At w f u) (hd : Fc.IsF w v d) (ha : Fc.IsN w av la) (hb : Fc.IsN w bv lb) (ho : Fm.IsT w ov l1) (ht : Fm.IsT w tv l2) :
    Calls Try.prog 7 #[Fm.fv f u, .agg #[v], av, bv, ov, tv] w fun e w' => e = .returned (.bool true) ∧ Below w.heap.size w w' := by
  obtain ⟨a, n, c, hu⟩ : ∃ a n c, u = .slice a n c := by obtain ⟨a, c, e, _⟩ := hat.kidsAt.len; exact ⟨_, _, _, e⟩
  obtain ⟨va, vc, dg, dq, hv, hv1, hv2, hdg, hdl⟩ := hd.any
  obtain ⟨aa, ac, ag, aq, hav, ha1, ha2, hag, hal⟩ := ha.any
  obtain ⟨ba, bc, bg, bq, hbv, hbx1, hbx2, hbx3, hbx4⟩ := hb.any
  obtain ⟨bn, hbn⟩ : ∃ n, n = lb.length := ⟨_, rfl⟩
  rw [← hbn] at hbv
  obtain ⟨oa, on, oc, hov⟩ : ∃ a n c, ov = .slice a n c := by obtain ⟨a, c, _, _, e, _⟩ := ho.any; exact ⟨_, _, _, e⟩
  obtain ⟨ta, tn, tc, htv⟩ : ∃ a n c, tv = .slice a n c := by obtain ⟨a, c, _, _, e, _⟩ := ht.any; exact ⟨_, _, _, e⟩
  obtain ⟨dn, hdn⟩ : ∃ n, n = d.length := ⟨_, rfl⟩
  obtain ⟨an, han⟩ : ∃ n, n = la.length := ⟨_, rfl⟩
  rw [← hdn] at hv hv1
  rw [← han] at hav ha1
  subst hu hv hav hbv hov htv
  have hdg2 : 0 < dn → va = some ⟨dg, dq, none⟩ ∧ dg < w.heap.size := fun h => hdg (by rintro rfl; rw [hdn] at h; simp at h)
  have hag2 : 0 < an → aa = some ⟨ag, aq, none⟩ ∧ ag < w.heap.size := fun h => hag (by rintro rfl; rw [han] at h; simp at h)
  obtain ⟨W2, hW2⟩ : ∃ W2, W2 = (w.alloc (.cells #[.int .i64 f.op, .string (Lx.str f.name), .int .i64 f.cmp, .int .i64 f.num, .slice a n c] 24)).alloc (.cells #[.slice va dn vc] 27) := ⟨_, rfl⟩
  have hb2 : Below w.heap.size w W2 := by rw [hW2]; exact below_al (below_al (Below.refl _ _) _) _
  have k0 : W2.heap[w.heap.size]? = some (.cells #[.int .i64 f.op, .string (Lx.str f.name), .int .i64 f.cmp, .int .i64 f.num, .slice a n c] 24 (0, 0)) := by rw [hW2]; exact Fm.blkK (heap_alloc_new _ _)
  have k1 : W2.heap[w.heap.size + 1]? = some (.cells #[.slice va dn vc] 27 (0, 0)) := by rw [hW2]; exact Fm.blk1 _ _ _
  have hl0 := (Array.getElem?_eq_some_iff.1 k0).1
  have hl1 := (Array.getElem?_eq_some_iff.1 k1).1
  have HQ : Hid (∀ w', Below W2.heap.size W2 w' → (w'.cell? ⟨w.heap.size, 0, none⟩ = some (.int .i64 f.op) ∧ w'.cell? ⟨w.heap.size, 1, none⟩ = some (.string (Lx.str f.name)) ∧ w'.cell? ⟨w.heap.size, 2, none⟩ = some (.int .i64 f.cmp) ∧ w'.cell? ⟨w.heap.size, 3, none⟩ = some (.int .i64 f.num) ∧ w'.cell? ⟨w.heap.size, 4, none⟩ = some (.slice a n c)) ∧ w'.cell? ⟨w.heap.size + 1, 0, none⟩ = some (.slice va dn vc)) := fun w' h => ⟨⟨(h.cell (p := ⟨w.heap.size, 0, none⟩) hl0).trans (Joins.cell_of_block k0 0), (h.cell (p := ⟨w.heap.size, 1, none⟩) hl0).trans (Joins.cell_of_block k0 1), (h.cell (p := ⟨w.heap.size, 2, none⟩) hl0).trans (Joins.cell_of_block k0 2), (h.cell (p := ⟨w.heap.size, 3, none⟩) hl0).trans (Joins.cell_of_block k0 3), (h.cell (p := ⟨w.heap.size, 4, none⟩) hl0).trans (Joins.cell_of_block k0 4)⟩, (h.cell (p := ⟨w.heap.size + 1, 0, none⟩) hl1).trans (Joins.cell_of_block k1 0)⟩
  have HA : Hid (∀ w', Below W2.heap.size W2 w' → Fm.At w' f (.slice a n c) ∧ Fc.IsF w' (.slice va dn vc) d ∧ Fc.IsN w' (.slice aa an ac) la ∧ Fc.IsN w' (.slice ba bn bc) lb ∧ Fm.IsT w' (.slice oa on oc) l1 ∧ Fm.IsT w' (.slice ta tn tc) l2 ∧ Below w.heap.size w w') := fun w' h => by
    have hb0 := hb2.trans (h.mono hb2.size)
    exact ⟨hat.below hb0, hd.below hb0, ha.below hb0, hb.below hb0, ho.below hb0, ht.below hb0, hb0⟩
  have HDK := Lib.hid (And.intro hdl (And.intro hdg2 hdn))
  have HAK := Lib.hid (And.intro hal (And.intro hag2 han))
  have HBN := Lib.hid hbn
  clear hat hd ha hb ho ht hb2 k0 k1 hl0 hl1 hdl hdg hdg2 hdn hal hag hag2 han hbn hbx1 hbx2 hbx3 hbx4
  go_enter Try.func7, Try.ntmps7
  go_wp2_with fail
  rw [← hW2]
  clear hW2
  refine (head_walk W2).mono ?_
  rintro e w3 ⟨rfl, hb3⟩
  obtain ⟨⟨f0, f1, f2, f3, f4⟩, d0⟩ := HQ.out w3 hb3
  have HFW := Lib.hid (few_walk _ _ _ d la l1 w3 (HA.out w3 hb3).2.1 (HA.out w3 hb3).2.2.1 (HA.out w3 hb3).2.2.2.2.1)
  go_wp2_with fail
  refine HFW.out.mono ?_
  intro e w4 h4
  by_cases hfew : Fm.Few d la l1
  case neg =>
    obtain ⟨rfl, hb4⟩ := says_false hfew h4
    have HF := Lib.hid (HA.out w4 (below_step hb4 hb3)).2.2.2.2.2.2
    clear h4 hb4 hfew
    go_wp2_with fail
    go_ret
    exact ⟨rfl, HF.out⟩
  obtain ⟨rfl, hb4⟩ := says_true hfew h4
  have hb4 := below_step hb4 hb3
  clear f0 f1 f2 f3 f4 d0 h4 hfew hb3 HFW
  obtain ⟨⟨f0, f1, f2, f3, f4⟩, d0⟩ := HQ.out w4 hb4
  have HFW := Lib.hid (few_walk _ _ _ d lb l2 w4 (HA.out w4 hb4).2.1 (HA.out w4 hb4).2.2.2.1 (HA.out w4 hb4).2.2.2.2.2.1)
  go_wp2_with fail
  refine HFW.out.mono ?_
  intro e w5 h5
  by_cases hfew : Fm.Few d lb l2
  case neg =>
    obtain ⟨rfl, hb5⟩ := says_false hfew h5
    have HF := Lib.hid (HA.out w5 (below_step hb5 hb4)).2.2.2.2.2.2
    clear h5 hb5 hfew
    go_wp2_with fail
    go_ret
    exact ⟨rfl, HF.out⟩
  obtain ⟨rfl, hb5⟩ := says_true hfew h5
  have hb5 := below_step hb5 hb4
  have hdn40 : dn ≤ 40 := by rw [HDK.out.2.2]; exact hfew.2.1
  clear f0 f1 f2 f3 f4 d0 h5 hfew hb4 HFW
  obtain ⟨⟨f0, f1, f2, f3, f4⟩, d0⟩ := HQ.out w5 hb5
  have HGW := Lib.hid (good_walk f _ _ _ d la w5 (HA.out w5 hb5).1 (HA.out w5 hb5).2.1 (HA.out w5 hb5).2.2.1)
  go_wp2_with fail
  refine HGW.out.mono ?_
  intro e w6 h6
  by_cases hgood : Fm.Good f d la
  case neg =>
    obtain ⟨rfl, hb6⟩ := says_false hgood h6
    have HF := Lib.hid (HA.out w6 (below_step hb6 hb5)).2.2.2.2.2.2
    clear h6 hb6 hgood
    go_wp2_with fail
    go_ret
    exact ⟨rfl, HF.out⟩
  obtain ⟨rfl, hb6⟩ := says_true hgood h6
  have hb6 := below_step hb6 hb5
  have HG := Lib.hid hgood
  clear f0 f1 f2 f3 f4 d0 h6 hgood hb5 HGW
  obtain ⟨⟨f0, f1, f2, f3, f4⟩, d0⟩ := HQ.out w6 hb6
  have HFT := Lib.hid (fits_walk _ _ d lb w6 (HA.out w6 hb6).2.1 (HA.out w6 hb6).2.2.2.1)
  go_wp2_with fail
  refine HFT.out.mono ?_
  intro e w7 h7
  by_cases hfit : Fc.Fit d lb
  case neg =>
    obtain ⟨rfl, hb7⟩ := says_false hfit h7
    have HF := Lib.hid (HA.out w7 (below_step hb7 hb6)).2.2.2.2.2.2
    clear h7 hb7 hfit
    go_wp2_with fail
    go_ret
    exact ⟨rfl, HF.out⟩
  obtain ⟨rfl, hb7⟩ := says_true hfit h7
  have hb7 := below_step hb7 hb6
  have HFB := Lib.hid hfit
  clear f0 f1 f2 f3 f4 d0 h7 hfit hb6 HFT
  obtain ⟨⟨f0, f1, f2, f3, f4⟩, d0⟩ := HQ.out w7 hb7
  obtain ⟨M, hM⟩ : ∃ M, M = Fm.tms f := ⟨_, rfl⟩
  have HTE : Hid (Calls Try.prog 18 #[Fm.fv f (.slice a n c)] w7 fun e w'' => (∃ a k c, e = .returned (.slice a k c) ∧ k = M.length ∧ Fm.IsT w'' (.slice a k c) M) ∧ Below w7.heap.size w7 w'') := (terms_walk f _ w7 (HA.out w7 hb7).1 (by have := HG.out.2.1; omega)).mono fun e w'' h' => by
    obtain ⟨⟨v, rfl, ho⟩, hb⟩ := h'
    have ht := ho.isT (Fm.tms_sized (HA.out w7 hb7).1)
    obtain ⟨a, c, rfl⟩ := ho.form
    rw [hM]
    exact ⟨⟨a, _, c, rfl, rfl, ht⟩, hb⟩
  have HML : Hid (M.length ≤ 60 ∧ M = Fm.tms f) := ⟨by rw [hM]; exact Nat.le_trans (Fm.tms_le f) HG.out.2.1, hM⟩
  clear hM
  go_wp2_with fail
  refine HTE.out.mono ?_
  rintro e w8 ⟨⟨ma, mn, mc, rfl, hmn, hmt⟩, hb8⟩
  have hb8 := below_step hb8 hb7
  have hmn60 : mn ≤ 60 := by rw [hmn]; exact HML.out.1
  obtain ⟨ma', mc', mg, mo, hme, hm1, hm2, hmg, hml⟩ := hmt.any
  obtain ⟨rfl, hmm, rfl⟩ : ma = ma' ∧ mn = M.length ∧ mc = mc' := by simpa using hme
  have hmg2 : 0 < mn → ma = some ⟨mg, mo, none⟩ ∧ mg < w8.heap.size := fun h => hmg (by rintro rfl; rw [hmn] at h; simp at h)
  have hmc1 : mn ≤ mc := by rw [hmn]; exact hm1
  have HMK := Lib.hid (And.intro hml (And.intro hmg2 hmn))
  have HMT := Lib.hid hmt
  have HB8 := Lib.hid hb8
  clear f0 f1 f2 f3 f4 d0 HTE hb7 hmt hme hm1 hmg hmg2 hml hmn hb8 hmm
  go_wp2_with fail
  go_loopw [15] (fun i wr => ∃ k : Nat, k ≤ mn ∧ i = .int .i64 k ∧ Hid (∀ t ∈ M.take k, Fm.has l1 t = Fm.has l2 t) ∧ Hid (Below w8.heap.size w8 wr)) (fun i _ => mn - (intOf i).toNat)
  case atStart => exact ⟨0, Nat.zero_le _, rfl, (by simp : ∀ t ∈ M.take 0, Fm.has l1 t = Fm.has l2 t), Below.refl _ _⟩
  case round =>
    obtain ⟨k, hk, rfl, hsame, hbx⟩ := hrel
    by_cases hlt : k < mn
    · have hki : (k : Int) < (mn : Int) := by omega
      have hk0 : (0 : Int) ≤ (k : Int) := by omega
      obtain ⟨y, hy⟩ : ∃ y, M[k]? = some y := ⟨_, List.getElem?_eq_getElem (by rw [← HMK.out.2.2]; exact hlt)⟩
      obtain ⟨rfl, hg⟩ := HMK.out.2.1 (by omega)
      have p0 : ∀ w', Below w8.heap.size w8 w' → w'.cell? ⟨mg, mo + k, none⟩ = some (.string (Lx.str y)) := fun w' h => (h.cell (p := ⟨mg, mo + k, none⟩) hg).trans (HMK.out.1 k y hy)
      have HY := Lib.hid hy
      have HCUT : Hid (∀ w', Below w8.heap.size w8 w' → Fm.IsT w' (.slice (some ⟨mg, mo, none⟩) k mc) (M.take k) ∧ ∀ b cc, ((mc = k + 1 ∧ cc = 0) ∨ (b = some ⟨mg, mo + (k + 1), none⟩ ∧ cc = mc - (k + 1))) → Fm.IsT w' (.slice b (mn - (k + 1)) cc) (M.drop (k + 1))) := fun w' h => by
        have hkm : k + 1 ≤ M.length := by rw [← HMK.out.2.2]; omega
        refine ⟨(HMT.out.below h).cut (by omega), fun b cc hb => ?_⟩
        rcases hb with ⟨hmc, rfl⟩ | ⟨rfl, rfl⟩
        · have hd0 : M.drop (k + 1) = [] := List.drop_eq_nil_of_le (by rw [← HMK.out.2.2]; omega)
          rw [hd0]
          exact ⟨b, 0, by rw [show mn - (k + 1) = 0 by omega]; rfl, by simp, by decide, by simp, fun h => absurd rfl h⟩
        · exact (HMT.out.below h).rest hkm
      clear hy
      go_wp2_with fail
      have hkt : (M.take k).length = k := by rw [List.length_take, ← HMK.out.2.2]; omega
      have hkd : (M.drop (k + 1)).length = mn - (k + 1) := by rw [List.length_drop, ← HMK.out.2.2]
      have HKT := Lib.hid hkt
      have HKD := Lib.hid hkd
      have hw2 : IntKind.i64.wrap ((k : Int) + 1) = (k : Int) + 1 := IntWalk.i64_in _ (by omega)
      have hw3 : (0 : Int) ≤ (k : Int) + 1 := by omega
      have hw4 : (k : Int) + 1 ≤ (mn : Int) := by omega
      have hw5 : (k : Int) ≤ (mc : Int) := by omega
      have hw6 : ((k : Int) + 1).toNat = k + 1 := by omega
      clear hkt hkd
      go_cut [16] from 54 to 63 (fun p wx => ∃ b c, p = .slice b (mn - 1) c ∧ Hid (Fm.IsT wx (.slice b (mn - 1) c) (M.take k ++ M.drop (k + 1))) ∧ Hid (Below w8.heap.size w8 wx))
      case first =>
        by_cases hmc : mc = k + 1
        · subst hmc
          have hw7 : (k : Int) ≤ (k : Int) + 1 := by omega
          clear hw5
          go_region_held3 (fun w' => Below w8.heap.size w8 w') (first | exact hbx.out.drew | exact hbx.out | with_reducible assumption | exact below_step (by with_reducible assumption) (by with_reducible assumption) | exact below_al (by with_reducible assumption) _)
            (first
              | (have hs0 : Below w8.heap.size w8 _ := (by with_reducible assumption); refine step_append_q (by rfl) (.tmp 54) (.tmp 57) rfl w8.heap.size [] _ rfl (Fm.OwnQ.empty _ _ _) _ (M.take k) rfl (HCUT.out _ hs0).1 (by rw [HKT.out]; simp; omega) hs0.size ?_; rw [HKT.out, List.nil_append]; intro b1 c1 x1 hq1 hb1; have hs1 := hs0.trans hb1)
              | (have hs2 : Below w8.heap.size w8 _ := (by with_reducible assumption); refine step_append_q (by rfl) (.tmp 58) (.tmp 62) rfl w8.heap.size (M.take k) _ rfl hq1 (.slice _ 0 _) [] rfl ⟨_, _, rfl, Nat.zero_le _, by simp, by simp, fun h => absurd rfl h⟩ (by rw [HKT.out]; simp; omega) hs2.size ?_; rw [HKT.out]; intro b2 c2 x2 hq2 hb2; have hs3 := hs2.trans hb2))
          all_goals
            go_wp2_with fail
            go_meet
            have hd0 : M.drop (k + 1) = [] := List.drop_eq_nil_of_le (by rw [← HMK.out.2.2]; omega)
            have hlen : k + ([] : List Fm.T).length = mn - 1 := by show k + 0 = _; omega
            have hit := hq2.isT (fun t ht => HMT.out.sizes t ((List.mem_append.1 ht).elim List.mem_of_mem_take (fun h => by cases h)))
            rw [hlen] at hit
            rw [hd0]
            exact ⟨_, _, by first | rfl | rw [← hlen]; rfl, hit, hs3⟩
        · go_region_held3 (fun w' => Below w8.heap.size w8 w') (first | exact hbx.out.drew | exact hbx.out | with_reducible assumption | exact below_step (by with_reducible assumption) (by with_reducible assumption) | exact below_al (by with_reducible assumption) _)
            (first
              | (have hs0 : Below w8.heap.size w8 _ := (by with_reducible assumption); refine step_append_q (by rfl) (.tmp 54) (.tmp 57) rfl w8.heap.size [] _ rfl (Fm.OwnQ.empty _ _ _) _ (M.take k) rfl (HCUT.out _ hs0).1 (by rw [HKT.out]; simp; omega) hs0.size ?_; rw [HKT.out, List.nil_append]; intro b1 c1 x1 hq1 hb1; have hs1 := hs0.trans hb1)
              | (have hs2 : Below w8.heap.size w8 _ := (by with_reducible assumption); refine step_append_q (by rfl) (.tmp 58) (.tmp 62) rfl w8.heap.size (M.take k) _ rfl hq1 (.slice _ (mn - (k + 1)) _) (M.drop (k + 1)) rfl ((HCUT.out _ hs2).2 _ _ (by first | exact .inr ⟨by simp, rfl⟩ | exact .inr ⟨by simp [hmc], rfl⟩)) (by rw [HKT.out, HKD.out]; omega) hs2.size ?_; rw [HKT.out, HKD.out]; intro b2 c2 x2 hq2 hb2; have hs3 := hs2.trans hb2))
          all_goals
            go_wp2_with fail
            go_meet
            have hlen : k + (mn - (k + 1)) = mn - 1 := by omega
            have hit := hq2.isT (fun t ht => HMT.out.sizes t ((List.mem_append.1 ht).elim List.mem_of_mem_take List.mem_of_mem_drop))
            rw [hlen] at hit ⊢
            exact ⟨_, _, rfl, hit, hs3⟩
      case rest =>
        obtain ⟨qb, qc, rfl, hqt, hb9⟩ := hcut
        clear hbx hw2 hw3 hw4 hw5 hw6 hk0 p0 HCUT
        have hb82 := below_step hb9.out HB8.out
        obtain ⟨⟨f0, f1, f2, f3, f4⟩, d0⟩ := HQ.out wc hb82
        have HCH : Hid (Calls Try.prog 15 #[Fm.fv f (.slice a n c), .agg #[.slice va dn vc], .slice qb (mn - 1) qc] wc fun e w'' => e = .returned (.int .i64 7) ∧ Below wc.heap.size wc w'') := by
          have h := check_walk f _ _ _ d _ wc (HA.out wc hb82).1 (by have := HG.out.2.1; omega) (HA.out wc hb82).2.1 hqt.out
          rw [HML.out.2, Fm.less_no HG.out (by rw [← HML.out.2]; exact HY.out)] at h
          exact h
        clear hb82
        go_wp2_with fail
        refine HCH.out.mono ?_
        rintro e w10 ⟨rfl, hb10⟩
        have hb10 := below_step hb10 hb9.out
        clear f0 f1 f2 f3 f4 d0 HCH hqt hb9
        obtain ⟨p, hp⟩ : ∃ b, b = Fm.has l1 y := ⟨_, rfl⟩
        obtain ⟨q, hq⟩ : ∃ b, b = Fm.has l2 y := ⟨_, rfl⟩
        have p0 : ∀ w', Below w8.heap.size w8 w' → w'.cell? ⟨mg, mo + k, none⟩ = some (.string (Lx.str y)) := fun w' h => (h.cell (p := ⟨mg, mo + k, none⟩) (HMK.out.2.1 (by omega)).2).trans (HMK.out.1 k y HY.out)
        have HI1 : Hid (∀ w', Below w8.heap.size w8 w' → Calls Try.prog 31 #[.slice oa on oc, .string (Lx.str y)] w' fun e w'' => e = .returned (.bool p) ∧ w' = w'') := fun w' h => by
          rw [hp]; exact r7in_walk _ l1 y w' (HA.out w' (below_step h HB8.out)).2.2.2.2.1
        have HI2 : Hid (∀ w', Below w8.heap.size w8 w' → Calls Try.prog 31 #[.slice ta tn tc, .string (Lx.str y)] w' fun e w'' => e = .returned (.bool q) ∧ w' = w'') := fun w' h => by
          rw [hq]; exact r7in_walk _ l2 y w' (HA.out w' (below_step h HB8.out)).2.2.2.2.2.1
        have HP := Lib.hid (And.intro hp hq)
        have hk0 : (0 : Int) ≤ (k : Int) := by omega
        clear hp hq
        go_wp2_with fail
        go_cut [81] from 69 to 80 (fun z wx => z = .bool (p != q) ∧ Hid (Below w8.heap.size w8 wx))
        case first =>
          go_region_held3 (fun w' => Below w8.heap.size w8 w') (first | exact hb10.drew | exact hb10 | with_reducible assumption | exact below_step (by with_reducible assumption) (by with_reducible assumption))
            (first
              | (have hs0 : Below w8.heap.size w8 _ := (by with_reducible assumption); go_at_call 31; (with_reducible refine (HI1.out _ hs0).mono ?_); rintro e v1 ⟨rfl, rfl⟩)
              | (have hs1 : Below w8.heap.size w8 _ := (by with_reducible assumption); go_at_call 31; (with_reducible refine (HI2.out _ hs1).mono ?_); rintro e v2 ⟨rfl, rfl⟩))
          all_goals
            go_wp2_with fail
            go_meet
            first | exact ⟨rfl, hb10.drew⟩ | exact ⟨rfl, by with_reducible assumption⟩
        case rest =>
          obtain ⟨rfl, hb11⟩ := hcut
          clear hb10 HI1 HI2 p0
          by_cases hpq : p = q
          · have hb : (p != q) = false := by rw [hpq]; cases q <;> rfl
            rw [hb]
            have HS : Hid (∀ t ∈ M.take (k + 1), Fm.has l1 t = Fm.has l2 t) := fun t ht => by
              rw [List.take_add_one, HY.out] at ht
              rcases List.mem_append.1 ht with ht | ht
              · exact hsame.out t ht
              · have : t = y := by simpa using ht
                rw [this, ← HP.out.1, ← HP.out.2, hpq]
            clear hpq hb HP
            go_wp2_with fail
            go_roundw
            case rel => exact ⟨k + 1, by omega, by go_num, HS, hb11⟩
            case measure => simp [intOf]; omega
          · have hb : (p != q) = true := by cases p <;> cases q <;> first | rfl | exact absurd rfl hpq
            rw [hb]
            have HF := Lib.hid (HA.out wc (below_step hb11.out HB8.out)).2.2.2.2.2.2
            clear hpq hb HP
            go_wp2_with fail
            go_ret
            exact ⟨rfl, HF.out⟩
    · obtain rfl : k = mn := by omega
      have hki : ¬ (k : Int) < (k : Int) := by omega
      have HS : Hid (∀ t ∈ M, Fm.has l1 t = Fm.has l2 t) := by have := hsame.out; rwa [HMK.out.2.2, List.take_length] at this
      have hbnd : dn = bn := by rw [HBN.out, HDK.out.2.2]; exact (Fc.within_len HFB.out.2).symm
      have hand : dn = an := by rw [HAK.out.2.2, HDK.out.2.2]; exact (Fc.within_len HG.out.1.2).symm
      subst hbnd hand
      have HBB : Hid (∀ w', Below w8.heap.size w8 w' → Fc.IsN w' (.slice ba dn bc) lb) := fun w' h => (HA.out w' (below_step h HB8.out)).2.2.2.1
      obtain ⟨i0, hii, hz0, hz1, hz2⟩ := info_parts one_int
      have HI := Lib.hid hii
      have hlb : lb.length ≤ 40 := by rw [← HBN.out]; exact hdn40
      clear hsame hii
      go_wp2_with (at_builtin; refine wpList_append_all rfl _ _ 29 rfl w8.heap.size 3 i0 (.int .i64 0) 8 Try.underlying29 HI.out hz0 hz1 hz2 rfl _ rfl _ lb rfl (HBB.out _ (by first | exact hbx.out | exact below_al hbx.out _)) (by unfold maxLen; omega) (by omega) (Below.size (by first | exact hbx.out | exact below_al hbx.out _)) ?_)
      intro mv w12 hown hb12
      have HB12 : Hid (Below w8.heap.size w8 w12) := (below_al hbx.out _).trans (hb12.mono (Nat.le_trans hbx.out.size (Nat.le_succ _)))
      rw [← HBN.out] at hown
      obtain ⟨xa, xc, rfl⟩ := ownE_form hown
      have HO := Lib.hid hown
      have HO0 : Hid (OwnE w12 w8.heap.size 3 (.slice xa dn xc) dn (Fc.cellsN (Fm.mix (Fm.nmdAt f d) la lb 0))) := by rw [Fm.mix_zero]; exact hown
      clear hb12 hown hbx hz0 hz1 hz2 HI hlb HO
      go_wp2_with fail
      go_loopw [18] (fun i wr => ∃ k : Nat, k ≤ dn ∧ i = .int .i64 k ∧ Hid (OwnE wr w8.heap.size 3 (.slice xa dn xc) dn (Fc.cellsN (Fm.mix (Fm.nmdAt f d) la lb k))) ∧ Hid (Below w8.heap.size w8 wr)) (fun i _ => dn - (intOf i).toNat)
      case atStart => exact ⟨0, Nat.zero_le _, rfl, HO0.out, HB12.out⟩
      case round =>
        clear HO0 HB12
        obtain ⟨k, hk, rfl, ho, hbx⟩ := hrel
        have hb2r := below_step hbx.out HB8.out
        obtain ⟨⟨f0, f1, f2, f3, f4⟩, d0⟩ := HQ.out wr hb2r
        by_cases hlt : k < dn
        · have hki : (k : Int) < (dn : Int) := by omega
          have hk0 : (0 : Int) ≤ (k : Int) := by omega
          obtain ⟨y, hy⟩ : ∃ y, d[k]? = some y := ⟨_, List.getElem?_eq_getElem (by rw [← HDK.out.2.2]; exact hlt)⟩
          obtain ⟨rfl, hg⟩ := HDK.out.2.1 (by omega)
          obtain ⟨rfl, hga⟩ := HAK.out.2.1 (by omega)
          have hfar := (HA.out wr hb2r).2.2.2.2.2.2
          have hfq : ∀ w', Below wr.heap.size wr w' → Below w.heap.size w w' := fun w' h => hfar.trans (h.mono hfar.size)
          have p0 : ∀ w', Below wr.heap.size wr w' → w'.cell? ⟨dg, dq + k * 4, none⟩ = some (.string (Lx.str y.name)) := fun w' h => ((hfq w' h).cell (p := ⟨dg, dq + k * 4, none⟩) hg).trans (HDK.out.1 k y hy).1
          have p5 := HAK.out.1 k (by rw [← HAK.out.2.2]; exact hlt)
          have p5 : ∀ w', Below wr.heap.size wr w' → w'.cell? ⟨ag, aq + k, none⟩ = some (.int .i64 (la.getD k 0)) := fun w' h => ((hfq w' h).cell (p := ⟨ag, aq + k, none⟩) hga).trans p5
          have f0 : ∀ w', Below wr.heap.size wr w' → w'.cell? ⟨w.heap.size, 0, none⟩ = some (.int .i64 f.op) := fun w' h => (HQ.out w' (below_step h hb2r)).1.1
          have f1 : ∀ w', Below wr.heap.size wr w' → w'.cell? ⟨w.heap.size, 1, none⟩ = some (.string (Lx.str f.name)) := fun w' h => (HQ.out w' (below_step h hb2r)).1.2.1
          have f2 : ∀ w', Below wr.heap.size wr w' → w'.cell? ⟨w.heap.size, 2, none⟩ = some (.int .i64 f.cmp) := fun w' h => (HQ.out w' (below_step h hb2r)).1.2.2.1
          have f3 : ∀ w', Below wr.heap.size wr w' → w'.cell? ⟨w.heap.size, 3, none⟩ = some (.int .i64 f.num) := fun w' h => (HQ.out w' (below_step h hb2r)).1.2.2.2.1
          have f4 : ∀ w', Below wr.heap.size wr w' → w'.cell? ⟨w.heap.size, 4, none⟩ = some (.slice a n c) := fun w' h => (HQ.out w' (below_step h hb2r)).1.2.2.2.2
          have e0 : ∀ w', Below wr.heap.size wr w' → w'.cell? ⟨w.heap.size + 1, 0, none⟩ = some (.slice (some ⟨dg, dq, none⟩) dn vc) := fun w' h => (HQ.out w' (below_step h hb2r)).2
          obtain ⟨p, hp⟩ : ∃ b, b = Fm.nmdAt f d k := ⟨_, rfl⟩
          have HN : Hid (∀ w', Below wr.heap.size wr w' → Calls Try.prog 32 #[.agg #[.int .i64 f.op, .string (Lx.str f.name), .int .i64 f.cmp, .int .i64 f.num, .slice a n c], .string (Lx.str y.name)] w' fun e w'' => e = .returned (.bool p) ∧ Below w'.heap.size w' w'') := fun w' h => by
            rw [hp, Fm.nmdAt_get hy]
            exact named_walk y.name _ rfl (Fm.size f) f _ w' (Nat.le_refl _) (by have := HG.out.2.1; omega) (HA.out w' (below_step h hb2r)).1
          have HP := Lib.hid hp
          clear hy hfar hfq hp hga hg
          go_wp2_with fail
          clear d0
          go_cut [100] from 93 to 99 (fun z wx => z = .bool p ∧ Hid (Below wr.heap.size wr wx))
          case first =>
            go_region_held3 (fun w' => Below wr.heap.size wr w') (first | exact (Below.refl _ _).drew | exact Below.refl _ _ | with_reducible assumption | exact below_step (by with_reducible assumption) (by with_reducible assumption))
              (first
                | (go_at_call 32; (with_reducible refine (HN.out _ (by first | exact (Below.refl _ _).drew | exact Below.refl _ _ | with_reducible assumption)).mono ?_); rintro e v1 ⟨rfl, hv1⟩; have s1 := below_step (W := wr) hv1 (by first | exact (Below.refl _ _).drew | exact Below.refl _ _ | with_reducible assumption)))
            all_goals
              go_wp2_with fail
              go_meet
              exact ⟨rfl, s1⟩
          case rest =>
            obtain ⟨rfl, hbc⟩ := hcut
            have HB1 := Lib.hid (below_step hbc.out hbx.out)
            have hoc := ownE_below ho.out hbc.out
            clear f0 f1 f2 f3 f4 HN p0 ho
            cases p with
            | false =>
              have HO1 : Hid (OwnE wc w8.heap.size 3 (.slice xa dn xc) dn (Fc.cellsN (Fm.mix (Fm.nmdAt f d) la lb (k + 1)))) := by rw [Fm.mix_no HP.out.symm]; exact hoc
              clear hoc p5 HP hbx hbc
              go_wp2_with fail
              go_roundw
              case rel => exact ⟨k + 1, by omega, by go_num, HO1, HB1⟩
              case measure => simp [intOf]; omega
            | true =>
              obtain ⟨r, cx, he, hrb, hrl, hrow⟩ := ownE_some hoc (by omega)
              obtain ⟨rfl, rfl⟩ : xa = some ⟨r, 0, none⟩ ∧ xc = cx := by simpa using he
              have p5 := p5 wc hbc.out
              obtain ⟨z5, hz5⟩ : ∃ z, (Fc.cellsN (Fm.mix (Fm.nmdAt f d) la lb k))[k]? = some z := ⟨_, List.getElem?_eq_getElem (by rw [cellsN_len, Fm.mix_len, ← HBN.out]; exact hlt)⟩
              have r5 : wc.cell? ⟨r, k, none⟩ = some z5 := (hrow.cellAt k (by omega)).trans hz5
              have u5 : wc.frozen? ⟨r, k, none⟩ = false := hrow.frozenAt k
              have HO1 : Hid (OwnE (wc.setCell ⟨r, k, none⟩ (.int .i64 (la.getD k 0))) w8.heap.size 3 (.slice (some ⟨r, 0, none⟩) dn xc) dn (Fc.cellsN (Fm.mix (Fm.nmdAt f d) la lb (k + 1)))) := by
                rw [Fm.mix_yes HP.out.symm]; exact ownE_set hrow k _
              have HB2 : Hid (Below w8.heap.size w8 (wc.setCell ⟨r, k, none⟩ (.int .i64 (la.getD k 0)))) := below_set hrb HB1.out _
              clear hoc he hrow HP hbx hbc HB1 hrb hz5
              go_wp2_with fail
              go_roundw
              case rel => exact ⟨k + 1, by omega, by go_num, HO1, HB2⟩
              case measure => simp [intOf]; omega
        · obtain rfl : k = dn := by omega
          have hki : ¬ (k : Int) < (k : Int) := by omega
          clear d0
          have d0 : wr.cell? ⟨w.heap.size + 1, 0, none⟩ = some (.slice va k vc) := (HQ.out wr hb2r).2
          have hlen : (Fm.mix (Fm.nmdAt f d) la lb k).length = k := by rw [Fm.mix_len]; exact HBN.out.symm
          have hm : Fc.IsN wr (.slice xa k xc) (Fm.mix (Fm.nmdAt f d) la lb k) := ownE_isN (base := w8.heap.size) (by rw [hlen]; exact ho.out) fun y hy => by
            have hA := HA.out wr hb2r
            rcases Fm.mix_mem hy with h | h | rfl
            · exact hA.2.2.1.bounds y h
            · exact hA.2.2.2.1.bounds y h
            · decide
          have HM := Lib.hid hm
          obtain ⟨q, hq⟩ : ∃ b, b = Fm.holdsB d la l1 f := ⟨_, rfl⟩
          have hq2 : q = Fm.holdsB d (Fm.mix (Fm.nmdAt f d) la lb k) l2 f := by
            have := Fm.matters HG.out HFB.out (fun t ht => HS.out t (by rw [HML.out.2]; exact ht))
            rw [hq, this, ← HDK.out.2.2]
          have f0 : ∀ w', Below wr.heap.size wr w' → w'.cell? ⟨w.heap.size, 0, none⟩ = some (.int .i64 f.op) := fun w' h => (HQ.out w' (below_step h hb2r)).1.1
          have f1 : ∀ w', Below wr.heap.size wr w' → w'.cell? ⟨w.heap.size, 1, none⟩ = some (.string (Lx.str f.name)) := fun w' h => (HQ.out w' (below_step h hb2r)).1.2.1
          have f2 : ∀ w', Below wr.heap.size wr w' → w'.cell? ⟨w.heap.size, 2, none⟩ = some (.int .i64 f.cmp) := fun w' h => (HQ.out w' (below_step h hb2r)).1.2.2.1
          have f3 : ∀ w', Below wr.heap.size wr w' → w'.cell? ⟨w.heap.size, 3, none⟩ = some (.int .i64 f.num) := fun w' h => (HQ.out w' (below_step h hb2r)).1.2.2.2.1
          have f4 : ∀ w', Below wr.heap.size wr w' → w'.cell? ⟨w.heap.size, 4, none⟩ = some (.slice a n c) := fun w' h => (HQ.out w' (below_step h hb2r)).1.2.2.2.2
          have e0 : ∀ w', Below wr.heap.size wr w' → w'.cell? ⟨w.heap.size + 1, 0, none⟩ = some (.slice va k vc) := fun w' h => (HQ.out w' (below_step h hb2r)).2
          have HH1 : Hid (∀ w', Below wr.heap.size wr w' → Calls Try.prog 25 #[.agg #[.int .i64 f.op, .string (Lx.str f.name), .int .i64 f.cmp, .int .i64 f.num, .slice a n c], .agg #[.slice va k vc], .slice aa k ac, .slice oa on oc] w' fun e w'' => e = .returned (.bool q) ∧ Below w'.heap.size w' w'') := fun w' h => by
            have hA := HA.out w' (below_step h hb2r)
            rw [hq]
            exact holds_walk f _ _ _ _ d la l1 w' hA.1 (by have := HG.out.2.1; omega) hA.2.1 hA.2.2.1 hA.2.2.2.2.1
          have HH2 : Hid (∀ w', Below wr.heap.size wr w' → Calls Try.prog 25 #[.agg #[.int .i64 f.op, .string (Lx.str f.name), .int .i64 f.cmp, .int .i64 f.num, .slice a n c], .agg #[.slice va k vc], .slice xa k xc, .slice ta tn tc] w' fun e w'' => e = .returned (.bool q) ∧ Below w'.heap.size w' w'') := fun w' h => by
            have hA := HA.out w' (below_step h hb2r)
            rw [hq2]
            exact holds_walk f _ _ _ _ d _ l2 w' hA.1 (by have := HG.out.2.1; omega) hA.2.1 (HM.out.below h) hA.2.2.2.2.2.1
          have HFAR : Hid (∀ w', Below wr.heap.size wr w' → Below w.heap.size w w') := fun w' h => (HA.out w' (below_step h hb2r)).2.2.2.2.2.2
          clear hlen hm hq hq2 ho hbx hb2r
          go_upto_region 19 with fail
          clear d0
          go_region_held3 (fun w' => Below wr.heap.size wr w') (first | exact (Below.refl _ _).drew | exact Below.refl _ _ | with_reducible assumption | exact below_step (by with_reducible assumption) (by with_reducible assumption))
            (first
              | (go_at_call 25; (with_reducible refine (HH1.out _ (by first | exact (Below.refl _ _).drew | with_reducible assumption)).mono ?_); rintro e v1 ⟨rfl, hv1⟩; have s1 := below_step (W := wr) hv1 (by first | exact (Below.refl _ _).drew | with_reducible assumption))
              | (go_at_call 25; (with_reducible refine (HH2.out _ (by first | exact (Below.refl _ _).drew | with_reducible assumption)).mono ?_); rintro e v2 ⟨rfl, hv2⟩; have s2 := below_step (W := wr) hv2 (by first | exact (Below.refl _ _).drew | with_reducible assumption)))
          all_goals go_wp2_with fail
          all_goals go_ret
          all_goals first | exact ⟨rfl, HFAR.out _ s2⟩ | exact ⟨rfl, HFAR.out _ s1⟩ | exact ⟨by simp, HFAR.out _ s2⟩

set_option maxRecDepth 100000 in
/-- What the walk gives, for all arguments and every world that holds the tables. -/
theorem contract (H : Type) (enc : TypeId × Value → H) (W : World) (base : Nat) (args : Array Value) (ds gs : List (DataW H)) (before : List MemPlace)
    (hval : ∀ (j : Nat) t v, Try.f7.params[j]? = some t → args[j]? = some v → Value.okWide Try.prog W .any base t v)
    (hW : DataW.Whole enc Try.prog Try.f7.params.toList Rows.formulaMattersSpec.vars false W args.toList ds gs before) :
    Calls Try.prog 7 args W fun e W' => ∃ v, e = .returned v ∧ Rows.formulaMattersSpec.post enc Try.prog Try.f7 false true false false W args v W' := by
  have hW' := hW
  obtain ⟨p, q, hA0, hV, rfl, hfz, hnd⟩ := hW
  have hA : DataW.TrodAll enc Try.prog W 0 (fun _ => true) true Try.f7.params.toList args.toList ds p := hA0
  rw [Try.params7] at hA hval
  obtain ⟨v0, vs0, d0, ds0, p0, q0, hargs, rfl, rfl, h0, r0⟩ := trodAll_cons hA
  obtain ⟨v1, vs1, d1, ds1, p1, q1, rfl, rfl, rfl, h1, r1⟩ := trodAll_cons r0
  obtain ⟨v2, vs2, d2, ds2, p2, q2, rfl, rfl, rfl, h2, r2⟩ := trodAll_cons r1
  obtain ⟨v3, vs3, d3, ds3, p3, q3, rfl, rfl, rfl, h3, r3⟩ := trodAll_cons r2
  obtain ⟨v4, vs4, d4, ds4, p4, q4, rfl, rfl, rfl, h4, r4⟩ := trodAll_cons r3
  obtain ⟨v5, vs5, d5, ds5, p5, q5, rfl, rfl, rfl, h5, r5⟩ := trodAll_cons r4
  obtain ⟨rfl, rfl, rfl⟩ := trodAll_nil r5
  obtain rfl : args = #[v0, v1, v2, v3, v4, v5] := by cases args; simp_all
  obtain ⟨rfl, rfl⟩ := trodVars_none hV
  obtain ⟨f0, u0, rfl, t0⟩ := open_formula (hval 0 24 v0 rfl rfl) h0
  obtain ⟨u1, l1, rfl, t1⟩ := open_domain (hval 1 27 v1 rfl rfl) h1
  obtain ⟨l2, t2⟩ := open_case (hval 2 29 v2 rfl rfl) h2
  obtain ⟨l3, t3⟩ := open_case (hval 3 29 v3 rfl rfl) h3
  obtain ⟨l4, t4⟩ := open_list (hval 4 30 v4 rfl rfl) h4
  obtain ⟨l5, t5⟩ := open_list (hval 5 30 v5 rfl rfl) h5
  refine (law_walk f0 u0 u1 l1 v2 l2 v3 l3 v4 l4 v5 l5 W t0 t1 t2 t3 t4 t5).mono fun e W' ⟨he, hg⟩ => ?_
  subst he
  exact ⟨_, rfl, post_law rfl rfl rfl rfl rfl (by rw [Try.params7]; decide) hW' hg⟩

theorem laid_met (os : Os) : laidMet Try.prog Rows.formulaMattersRow.laid ((laidWorld os).forCall (fun _ _ => 0) ⟨#[], #[.agg #[.int .i64 0, .string ⟨#[]⟩, .int .i64 0, .int .i64 0, .slice none 0 0], .agg #[.slice none 0 0], .slice none 0 0, .slice none 0 0, .slice none 0 0, .slice none 0 0], []⟩).memory :=
  laidMet_of_run' 8 (by kernel_rfl) (by kernel_rfl)
theorem reads (os : Os) {H : Type} (enc : TypeId × Value → H) : ∃ places, DataW.whole enc Try.prog ((laidWorld os).forCall (fun _ _ => 0) ⟨#[], #[.agg #[.int .i64 0, .string ⟨#[]⟩, .int .i64 0, .int .i64 0, .slice none 0 0], .agg #[.slice none 0 0], .slice none 0 0, .slice none 0 0, .slice none 0 0, .slice none 0 0], []⟩).memory Try.f7.params.toList Rows.formulaMattersSpec.vars false #[Value.agg #[.int .i64 0, .string ⟨#[]⟩, .int .i64 0, .int .i64 0, .slice none 0 0], Value.agg #[.slice none 0 0], Value.slice none 0 0, Value.slice none 0 0, Value.slice none 0 0, Value.slice none 0 0].toList 8 = some ([.agg [.lit (.int .i64 0), .lit (.string []), .lit (.int .i64 0), .lit (.int .i64 0), .nil], .agg [.nil], .nil, .nil, .nil, .nil], [], places) :=
  ⟨[], by kernel_rfl⟩

set_option maxRecDepth 100000 in
theorem lifted (os : Os) (started : os.Started) (H : Type) (enc : TypeId × Value → H) (F : Stop.Interp) :
    ReturnsInHanded {} Try.checked os 7 .any ((OpenSpec.ofChange Rows.formulaMattersSpec).preRow enc Try.prog Try.f7 Rows.formulaMattersRow.domain false Rows.formulaMattersRow.laid) (((OpenSpec.ofChange Rows.formulaMattersSpec).at F).post enc Try.prog Try.f7 false true false false) := by
  obtain ⟨places, hx⟩ := reads os enc
  refine returnsInHanded_of_row (C := Try.checked) (s := OpenSpec.ofChange Rows.formulaMattersSpec) own started (by kernel_rfl) Try.func7
    (witness_row_at (enc := enc) (C := Try.checked) false (laidWorld os) #[.agg #[.int .i64 0, .string ⟨#[]⟩, .int .i64 0, .int .i64 0, .slice none 0 0], .agg #[.slice none 0 0], .slice none 0 0, .slice none 0 0, .slice none 0 0, .slice none 0 0] rfl (by kernel_rfl) (by kernel_rfl) (by kernel_rfl)
      (OpenSpec.preRow_of_cond 8 hx (by kernel_rfl) (fun k hk => by cases hk) (by kernel_rfl) (laid_met os))) ?_
  intro W base args ds gs before hval hW _ _ _ hL _ _
  exact contract H enc W base args ds gs before hval hW

theorem said : Rows.FormulaMattersSaid :=
  OpenClaim.holds_of_cond 7 Try.f7 rfl rfl rfl rfl rfl rfl rfl ⟨rfl, rfl, rfl, rfl, rfl⟩ rfl rfl rfl rfl rfl (by kernel_rfl) Try.func7 (by kernel_rfl)
    (of_decide_eq_true (by kernel_rfl)) (by unfold Func.isWrapper; first | (rw [if_pos (by decide +kernel)]; kernel_rfl) | (rw [if_neg (by decide +kernel)]; exact ⟨rfl, rfl⟩))
    (fun os started H enc _ F => by rw [OpenClaim.pre_eq_preRow]; exact lifted os started H enc F)

end Go.Proofs.Ytjcaingfeaaakaa.formulaMatters
