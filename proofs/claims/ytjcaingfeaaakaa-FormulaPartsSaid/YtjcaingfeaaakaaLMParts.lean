/-
  FormulaParts (P7.7): for every well-formed formula its kids are well-formed; with a kid more, a Name or an N that does not belong to it, or together with a node that is not well-formed, there is an ErrArg. No condition: the statement itself asks few facts, a good formula; for others it says what the law's opening check answers.
-/
import Derived.Test.YtjcaingfeaaakaaLFrameK
import Derived.Test.YtjcaingfeaaakaaMPartsA
import Derived.Deep.RegionHeld3
import Derived.Deep.CutRange
namespace Go.Proofs.Ytjcaingfeaaakaa.formulaParts
open Go.ChangeShapes Go.WideShapes Go.ChangeAt Go.RowKit

set_option maxHeartbeats 16000000 in
set_option maxRecDepth 100000 in
theorem law_walk (f : Fm.Fo) (u : Value) (v : Value) (d : List Fc.Fact) (cv : Value) (cs : List Int) (op : Int) (w : World) (hat : Fm.At w f u) (hd : Fc.IsF w v d) (hc : Fc.IsN w cv cs) (ho1 : -9223372036854775808 ≤ op) (ho2 : op ≤ 9223372036854775807) :
    Calls Try.prog 9 #[Fm.fv f u, .agg #[v], cv, .int .i64 op] w fun e w' => e = .returned (.bool true) ∧ Below w.heap.size w w' := by
  obtain ⟨a, c, g, o, hu, hc1, hc2, hga, hcl⟩ := hat.kidsAt.any
  obtain ⟨va, vn, vc, hv⟩ : ∃ a n c, v = .slice a n c := by obtain ⟨a, c, e, _⟩ := hd.form; exact ⟨_, _, _, e⟩
  obtain ⟨ca, cn, cc, hcv⟩ : ∃ a n c, cv = .slice a n c := by obtain ⟨a, c, _, _, e, _⟩ := hc.any; exact ⟨_, _, _, e⟩
  obtain ⟨K, hK⟩ : ∃ K, K = f.kids := ⟨_, rfl⟩
  rw [← hK] at hu hc1 hga hcl
  obtain ⟨n, hn⟩ : ∃ n, n = K.length := ⟨_, rfl⟩
  rw [← hn] at hu hc1
  subst hu hv hcv
  have hga2 : 0 < n → a = some ⟨g, o, none⟩ ∧ g < w.heap.size := fun h => hga (by rintro rfl; rw [hn] at h; simp at h)
  obtain ⟨W2, hW2⟩ : ∃ W2, W2 = (w.alloc (.cells #[.int .i64 f.op, .string (Lx.str f.name), .int .i64 f.cmp, .int .i64 f.num, .slice a n c] 24)).alloc (.cells #[.slice va vn vc] 27) := ⟨_, rfl⟩
  have hb2 : Below w.heap.size w W2 := by rw [hW2]; exact ((Below.refl _ _).alloc (Nat.le_refl _) _).alloc (by simp) _
  have k0 : W2.heap[w.heap.size]? = some (.cells #[.int .i64 f.op, .string (Lx.str f.name), .int .i64 f.cmp, .int .i64 f.num, .slice a n c] 24 (0, 0)) := by rw [hW2]; exact Fm.blkK (heap_alloc_new _ _)
  have k1 : W2.heap[w.heap.size + 1]? = some (.cells #[.slice va vn vc] 27 (0, 0)) := by rw [hW2]; exact Fm.blk1 _ _ _
  have hl0 := (Array.getElem?_eq_some_iff.1 k0).1
  have hl1 := (Array.getElem?_eq_some_iff.1 k1).1
  have HQ : Hid (∀ w', Below W2.heap.size W2 w' → (w'.cell? ⟨w.heap.size, 0, none⟩ = some (.int .i64 f.op) ∧ w'.cell? ⟨w.heap.size, 1, none⟩ = some (.string (Lx.str f.name)) ∧ w'.cell? ⟨w.heap.size, 2, none⟩ = some (.int .i64 f.cmp) ∧ w'.cell? ⟨w.heap.size, 3, none⟩ = some (.int .i64 f.num) ∧ w'.cell? ⟨w.heap.size, 4, none⟩ = some (.slice a n c)) ∧ w'.cell? ⟨w.heap.size + 1, 0, none⟩ = some (.slice va vn vc)) := fun w' h =>
    ⟨⟨(h.cell (p := ⟨w.heap.size, 0, none⟩) hl0).trans (Joins.cell_of_block k0 0), (h.cell (p := ⟨w.heap.size, 1, none⟩) hl0).trans (Joins.cell_of_block k0 1), (h.cell (p := ⟨w.heap.size, 2, none⟩) hl0).trans (Joins.cell_of_block k0 2), (h.cell (p := ⟨w.heap.size, 3, none⟩) hl0).trans (Joins.cell_of_block k0 3), (h.cell (p := ⟨w.heap.size, 4, none⟩) hl0).trans (Joins.cell_of_block k0 4)⟩, (h.cell (p := ⟨w.heap.size + 1, 0, none⟩) hl1).trans (Joins.cell_of_block k1 0)⟩
  have HA : Hid (∀ w', Below W2.heap.size W2 w' → Fm.At w' f (.slice a n c) ∧ Fc.IsF w' (.slice va vn vc) d ∧ Fc.IsN w' (.slice ca cn cc) cs ∧ Below w.heap.size w w') := fun w' h => by
    have hb := hb2.trans (h.mono hb2.size)
    exact ⟨hat.below hb, hd.below hb, hc.below hb, hb⟩
  have HS := Lib.hid (Fm.tms_sized hat)
  have HSD := Lib.hid hat.sized
  have HKID := Lib.hid (And.intro hcl (And.intro hga2 (And.intro hn hK)))
  clear hat hd hc hb2 k0 k1 hl0 hl1 hcl hga hga2 hn hK
  go_enter Try.func9, Try.ntmps9
  go_wp2_with fail
  rw [← hW2]
  clear hW2
  refine (head_walk W2).mono ?_
  rintro e w3 ⟨rfl, hb3⟩
  obtain ⟨⟨f0, f1, f2, f3, f4⟩, d0⟩ := HQ.out w3 hb3
  have HFW := Lib.hid (few_walk _ _ _ d cs [] w3 (HA.out w3 hb3).2.1 (HA.out w3 hb3).2.2.1 (Fm.IsT.nil _))
  go_wp2_with fail
  refine HFW.out.mono ?_
  intro e w4 h4
  by_cases hfew : Fm.Few d cs []
  case neg =>
    obtain ⟨rfl, hb4⟩ := says_false hfew h4
    have HF := Lib.hid (HA.out w4 (below_step hb4 hb3)).2.2.2
    clear h4 hb4 hfew
    go_wp2_with fail
    go_ret
    exact ⟨rfl, HF.out⟩
  obtain ⟨rfl, hb4⟩ := says_true hfew h4
  have hb4 := below_step hb4 hb3
  clear f0 f1 f2 f3 f4 d0 h4 hfew hb3 HFW
  obtain ⟨⟨f0, f1, f2, f3, f4⟩, d0⟩ := HQ.out w4 hb4
  have HGW := Lib.hid (good_walk f _ _ _ d cs w4 (HA.out w4 hb4).1 (HA.out w4 hb4).2.1 (HA.out w4 hb4).2.2.1)
  go_wp2_with fail
  refine HGW.out.mono ?_
  intro e w5 h5
  by_cases hgood : Fm.Good f d cs
  case neg =>
    obtain ⟨rfl, hb5⟩ := says_false hgood h5
    have HF := Lib.hid (HA.out w5 (below_step hb5 hb4)).2.2.2
    clear h5 hb5 hgood
    go_wp2_with fail
    go_ret
    exact ⟨rfl, HF.out⟩
  obtain ⟨rfl, hb5⟩ := says_true hgood h5
  have hb5 := below_step hb5 hb4
  have HG := Lib.hid hgood
  clear f0 f1 f2 f3 f4 d0 h5 hgood hb4 HGW
  obtain ⟨⟨f0, f1, f2, f3, f4⟩, d0⟩ := HQ.out w5 hb5
  have HTW := Lib.hid (terms_walk f _ w5 (HA.out w5 hb5).1 (by have := HG.out.2.1; omega))
  go_wp2_with fail
  refine HTW.out.mono ?_
  rintro e w6 ⟨⟨tv, rfl, ht⟩, hb6⟩
  have ht6 := ht.isT HS.out
  obtain ⟨ta, tc, rfl⟩ := ht.form
  obtain ⟨tn, htn⟩ : ∃ n, n = (Fm.tms f).length := ⟨_, rfl⟩
  rw [← htn] at ht6 ⊢
  have hb6 := below_step hb6 hb5
  have HT : Hid (∀ w', Below w6.heap.size w6 w' → Fm.IsT w' (.slice ta tn tc) (Fm.tms f)) := fun w' h => ht6.below h
  have HB6 := Lib.hid hb6
  clear f0 f1 f2 f3 f4 d0 hb5 hb6 HTW ht6 ht htn
  go_wp2_with fail
  go_loopw [11] (fun i wr => ∃ k : Nat, k ≤ n ∧ i = .int .i64 k ∧ Hid (Below w6.heap.size w6 wr)) (fun i _ => n - (intOf i).toNat)
  case atStart => exact ⟨0, Nat.zero_le _, rfl, Below.refl _ _⟩
  case round =>
    obtain ⟨k, hk, rfl, hbx⟩ := hrel
    have hb2r := below_step hbx.out HB6.out
    by_cases hlt : k < n
    · have hki : (k : Int) < (n : Int) := by omega
      have hk0 : (0 : Int) ≤ (k : Int) := by omega
      have hq4 := (HQ.out wr hb2r).1.2.2.2.2
      obtain ⟨y, hy⟩ : ∃ y, K[k]? = some y := ⟨_, List.getElem?_eq_getElem (by rw [← HKID.out.2.2.1]; exact hlt)⟩
      obtain ⟨rfl, hg⟩ := HKID.out.2.1 (by omega)
      obtain ⟨yv, p0, p1, p2, p3, p4, hyv⟩ := HKID.out.1 k y hy
      obtain ⟨ya, yn, yc, hyu⟩ : ∃ a n c, yv = .slice a n c := by obtain ⟨a, c, e, _⟩ := hyv.kidsAt.len; exact ⟨_, _, _, e⟩
      subst hyu
      have hbf : ∀ w', Below wr.heap.size wr w' → Below w.heap.size w w' := fun w' h => (HA.out w' (below_step h hb2r)).2.2.2
      have e0 : ∀ w', Below wr.heap.size wr w' → w'.cell? ⟨g, o + k * 5, none⟩ = some (.int .i64 y.op) := fun w' h => ((hbf w' h).cell (p := ⟨g, o + k * 5, none⟩) hg).trans p0
      have e1 : ∀ w', Below wr.heap.size wr w' → w'.cell? ⟨g, o + k * 5 + 1, none⟩ = some (.string (Lx.str y.name)) := fun w' h => ((hbf w' h).cell (p := ⟨g, o + k * 5 + 1, none⟩) hg).trans p1
      have e2 : ∀ w', Below wr.heap.size wr w' → w'.cell? ⟨g, o + k * 5 + 2, none⟩ = some (.int .i64 y.cmp) := fun w' h => ((hbf w' h).cell (p := ⟨g, o + k * 5 + 2, none⟩) hg).trans p2
      have e3 : ∀ w', Below wr.heap.size wr w' → w'.cell? ⟨g, o + k * 5 + 3, none⟩ = some (.int .i64 y.num) := fun w' h => ((hbf w' h).cell (p := ⟨g, o + k * 5 + 3, none⟩) hg).trans p3
      have e4 : ∀ w', Below wr.heap.size wr w' → w'.cell? ⟨g, o + k * 5 + 4, none⟩ = some (.slice ya yn yc) := fun w' h => ((hbf w' h).cell (p := ⟨g, o + k * 5 + 4, none⟩) hg).trans p4
      have q4 : ∀ w', Below wr.heap.size wr w' → w'.cell? ⟨w.heap.size, 4, none⟩ = some (.slice (some ⟨g, o, none⟩) n c) := fun w' h => (HQ.out w' (below_step h hb2r)).1.2.2.2.2
      have d0 : ∀ w', Below wr.heap.size wr w' → w'.cell? ⟨w.heap.size + 1, 0, none⟩ = some (.slice va vn vc) := fun w' h => (HQ.out w' (below_step h hb2r)).2
      have HCK : Hid (∀ w', Below wr.heap.size wr w' → Calls Try.prog 15 #[.agg #[.int .i64 y.op, .string (Lx.str y.name), .int .i64 y.cmp, .int .i64 y.num, .slice ya yn yc], .agg #[.slice va vn vc], .slice ta tn tc] w' fun e w'' => e = .returned (.int .i64 0) ∧ Below w'.heap.size w' w'') := fun w' h => by
        have hm : y ∈ f.kids := by rw [← HKID.out.2.2.2]; exact List.mem_of_getElem? hy
        have := check_walk y _ _ _ d _ w' (hyv.below (hbf w' h)) (by have h1 := Fm.size_mem hm; have h2 := Fm.size_eq f; have h3 := HG.out.2.1; omega) (HA.out w' (below_step h hb2r)).2.1 (HT.out w' (below_step h hbx.out))
        rw [Fm.good_kid HG.out hm] at this
        exact this
      clear hy p0 p1 p2 p3 p4 hyv hbf hb2r
      go_wp2_with fail
      clear hq4
      go_cut [46] from 38 to 45 (fun y wx => y = .bool false ∧ Hid (Below w6.heap.size w6 wx))
      case first =>
        go_region_held3 (fun w' => Below wr.heap.size wr w') (first | exact (Below.refl _ _).drew | exact Below.refl _ _ | with_reducible assumption | exact below_step (by with_reducible assumption) (by with_reducible assumption))
          (first
            | (go_at_call 15; (with_reducible refine (HCK.out _ (by first | exact (Below.refl _ _).drew | with_reducible assumption)).mono ?_); rintro e v1 ⟨rfl, hv1⟩; have s1 := below_step (W := wr) hv1 (by first | exact (Below.refl _ _).drew | with_reducible assumption)))
        all_goals (go_wp2_with fail; go_meet)
        exact ⟨rfl, below_step s1 hbx.out⟩
      case rest =>
        obtain ⟨rfl, hb7⟩ := hcut
        clear e0 e1 e2 e3 e4 q4 d0 HCK hbx
        go_wp2_with fail
        go_roundw
        case rel => exact ⟨k + 1, by omega, by go_num, hb7⟩
        case measure => simp [intOf]; omega
    · obtain rfl : k = n := by omega
      have hki : ¬ (k : Int) < (k : Int) := by omega
      obtain ⟨⟨f0, f1, f2, f3, f4⟩, d0⟩ := HQ.out wr hb2r
      go_wp2_with fail
      refine (both_walk 7 _ 2 2 _).mono ?_
      rintro e w8 ⟨rfl, hb8⟩
      clear f0 f1 f2 f3 f4 d0
      go_upto_region 11 with fail
      obtain ⟨W9, hW9⟩ : ∃ W, W = w8.alloc (.cells #[.int .i64 7, .string (Lx.str []), .int .i64 0, .int .i64 0, .slice (some ⟨wr.heap.size, 0, none⟩) 2 2] 24) := ⟨_, rfl⟩
      have hb28 : Below W2.heap.size W2 w8 := below_step hb8 (below_al hb2r (.cells #[.int .i64 f.op, .string (Lx.str f.name), .int .i64 f.cmp, .int .i64 f.num, .slice a k c, .int .i64 op, .string ⟨#[]⟩, .int .i64 7, .int .i64 0, .slice none 0 0] 24))
      have hb29 : Below W2.heap.size W2 W9 := by rw [hW9]; exact below_al hb28 _
      have kB : W9.heap[w8.heap.size]? = some (.cells #[.int .i64 7, .string (Lx.str []), .int .i64 0, .int .i64 0, .slice (some ⟨wr.heap.size, 0, none⟩) 2 2] 24 (0, 0)) := by rw [hW9]; exact heap_alloc_new _ _
      have hatB : Fm.At W9 (.mk 7 [] 0 0 [f, Fm.odd op]) (.slice (some ⟨wr.heap.size, 0, none⟩) 2 2) := by
        have k := (hb8.block wr.heap.size (by simp)).trans (heap_alloc_new wr (.cells #[.int .i64 f.op, .string (Lx.str f.name), .int .i64 f.cmp, .int .i64 f.num, .slice a k c, .int .i64 op, .string ⟨#[]⟩, .int .i64 7, .int .i64 0, .slice none 0 0] 24))
        have hf := (HA.out w8 hb28).1
        have hh : Fm.At w8 (.mk 7 [] 0 0 [f, Fm.odd op]) (.slice (some ⟨wr.heap.size, 0, none⟩) 2 2) := Fm.at_iff.2 ⟨Fm.sized_mk (by unfold Fm.I64; decide) _, Fm.IsK.of_block (ks := [f, Fm.odd op]) (us := [.slice a _ c, .slice none 0 0]) rfl k (by show 2 ≤ 1000000; decide) fun j y u hj hu => by
          have : j = 0 ∨ j = 1 := by have := (List.getElem?_eq_some_iff.1 hj).1; simp at this; omega
          rcases this with rfl | rfl
          · simp at hj hu
            subst hj hu
            exact hf
          · simp at hj hu
            subst hj hu
            exact Fm.At.leaf ⟨⟨ho1, ho2⟩, by show ([] : Fm.T).length ≤ _; decide, by show Fm.I64 7; unfold Fm.I64; decide, by show Fm.I64 0; unfold Fm.I64; decide⟩ rfl⟩
        rw [hW9]; exact hh.below ((Below.refl _ _).alloc (Nat.le_refl _) _)
      have hb69 : Below w6.heap.size w6 W9 := by rw [hW9]; exact below_al (below_step hb8 (below_al hbx.out (.cells #[.int .i64 f.op, .string (Lx.str f.name), .int .i64 f.cmp, .int .i64 f.num, .slice a k c, .int .i64 op, .string ⟨#[]⟩, .int .i64 7, .int .i64 0, .slice none 0 0] 24))) _
      rw [← hW9]
      have HBC := Lib.hid (check_walk (.mk 7 [] 0 0 [f, Fm.odd op]) _ _ _ d _ W9 hatB (by have := HG.out.2.1; unfold Fm.odd; rw [Fm.size, Fm.sizeL, Fm.sizeL, Fm.sizeL, Fm.size, Fm.sizeL]; omega) (HA.out W9 hb29).2.1 (HT.out W9 hb69))
      rw [Fm.good_beside HG.out op] at HBC
      have b0 := Joins.cell_of_block kB 0
      have b1 := Joins.cell_of_block kB 1
      have b2 := Joins.cell_of_block kB 2
      have b3 := Joins.cell_of_block kB 3
      have b4 := Joins.cell_of_block kB 4
      obtain ⟨⟨f0, f1, f2, f3, f4⟩, d0⟩ := HQ.out W9 hb29
      clear hW9 hb28 hb8 hbx hb2r
      go_wp2_with fail
      refine HBC.out.mono ?_
      rintro e w10 ⟨rfl, hb10⟩
      clear f0 f1 f2 f3 f4 d0 b0 b1 b2 b3 b4 HBC
      have kB10 := (hb10.block _ (Array.getElem?_eq_some_iff.1 kB).1).trans kB
      have b0 := Joins.cell_of_block kB10 0
      have b1 := Joins.cell_of_block kB10 1
      have b2 := Joins.cell_of_block kB10 2
      have b3 := Joins.cell_of_block kB10 3
      have b4 := Joins.cell_of_block kB10 4
      have hb210 := below_step hb10 hb29
      have hb610 := below_step hb10 hb69
      obtain ⟨⟨f0, f1, f2, f3, f4⟩, d0⟩ := HQ.out w10 hb210
      have HBH := Lib.hid (holds_walk (.mk 7 [] 0 0 [f, Fm.odd op]) _ _ _ _ d cs _ w10 (hatB.below hb10) (by have := HG.out.2.1; unfold Fm.odd; rw [Fm.size, Fm.sizeL, Fm.sizeL, Fm.sizeL, Fm.size, Fm.sizeL]; omega) (HA.out w10 hb210).2.1 (HA.out w10 hb210).2.2.1 (HT.out w10 hb610))
      rw [Fm.good_beside_no HG.out op] at HBH
      clear kB kB10 hatB hb29 hb69 hb10
      go_wp2_with fail
      refine HBH.out.mono ?_
      rintro e w11 ⟨rfl, hb11⟩
      have hb211 := below_step hb11 hb210
      have hb611 := below_step hb11 hb610
      clear f0 f1 f2 f3 f4 d0 b0 b1 b2 b3 b4 HBH hb11 hb210 hb610
      obtain ⟨⟨f0, f1, f2, f3, f4⟩, d0⟩ := HQ.out w11 hb211
      have HB := Lib.hid (And.intro hb211 hb611)
      clear hb211 hb611
      by_cases h34 : f.op = 3 ∨ f.op = 4
      · have H34 := Lib.hid h34
        have hq : ((f.op == 3) || (f.op == 4)) = true := by rcases h34 with h | h <;> rw [h] <;> rfl
        have hsplit : (f.op == 3) = true ∨ ((f.op == 3) = false ∧ (f.op == 4) = true) := by
          rcases h34 with h | h <;> rw [h]
          · left; rfl
          · right; exact ⟨rfl, rfl⟩
        clear h34
        rcases hsplit with h3 | ⟨h3, h4⟩
        · go_upto_region 16 with fail
          obtain ⟨W12, hW12⟩ : ∃ W, W = (w11.alloc (.cells #[.int .i64 f.op, .string (Lx.str f.name), .int .i64 f.cmp, .int .i64 f.num, .slice (some ⟨w11.heap.size + 1, 0, none⟩) 1 1] 24)).alloc (.cells #[.int .i64 1, .string ⟨#[]⟩, .int .i64 0, .int .i64 0, .slice none 0 0] 24) := ⟨_, rfl⟩
          have kG : W12.heap[w11.heap.size]? = some (.cells #[.int .i64 f.op, .string (Lx.str f.name), .int .i64 f.cmp, .int .i64 f.num, .slice (some ⟨w11.heap.size + 1, 0, none⟩) 1 1] 24 (0, 0)) := by rw [hW12]; exact Fm.blkK (heap_alloc_new _ _)
          have kY : W12.heap[w11.heap.size + 1]? = some (.cells #[.int .i64 1, .string ⟨#[]⟩, .int .i64 0, .int .i64 0, .slice none 0 0] 24 (0, 0)) := by rw [hW12]; exact Fm.blk1 _ _ _
          have hb1112 : Below w11.heap.size w11 W12 := by rw [hW12]; exact below_al (below_al (Below.refl _ _) _) _
          rw [← hW12]
          clear hW12 f0 f1 f2 f3 f4 d0
          have hb212 := below_step hb1112 HB.out.1
          have hb612 := below_step hb1112 HB.out.2
          have hatG : Fm.At W12 (.mk f.op f.name f.cmp f.num [.mk 1 [] 0 0 []]) (.slice (some ⟨w11.heap.size + 1, 0, none⟩) 1 1) := Fm.at_iff.2 ⟨HSD.out, Fm.IsK.of_block (ks := [.mk 1 [] 0 0 []]) (us := [.slice none 0 0]) rfl kY (by show 1 ≤ 1000000; decide) fun j y u hj hu => by
            have : j = 0 := by have := (List.getElem?_eq_some_iff.1 hj).1; simp at this; exact this
            subst this
            simp at hj hu
            subst hj hu
            exact Fm.At.leaf (Fm.sized_mk (by unfold Fm.I64; decide) _) rfl⟩
          have HBC := Lib.hid (check_walk (.mk f.op f.name f.cmp f.num [.mk 1 [] 0 0 []]) _ _ _ d _ W12 hatG (by simp [Fm.size, Fm.sizeL]) (HA.out W12 hb212).2.1 (HT.out W12 hb612))
          rw [Fm.kid_more H34.out] at HBC
          have b0 := Joins.cell_of_block kG 0
          have b1 := Joins.cell_of_block kG 1
          have b2 := Joins.cell_of_block kG 2
          have b3 := Joins.cell_of_block kG 3
          have b4 := Joins.cell_of_block kG 4
          obtain ⟨⟨f0, f1, f2, f3, f4⟩, d0⟩ := HQ.out W12 hb212
          clear hatG kG kY hb612 hb1112
          go_wp2_with fail
          refine HBC.out.mono ?_
          rintro e w13 ⟨rfl, hb13⟩
          have HF := Lib.hid (HA.out w13 (below_step hb13 hb212)).2.2.2
          clear f0 f1 f2 f3 f4 d0 b0 b1 b2 b3 b4 HBC hb13 hb212
          go_wp2_with fail
          go_ret
          exact ⟨rfl, HF.out⟩
        · go_upto_region 16 with fail
          obtain ⟨W12, hW12⟩ : ∃ W, W = (w11.alloc (.cells #[.int .i64 f.op, .string (Lx.str f.name), .int .i64 f.cmp, .int .i64 f.num, .slice (some ⟨w11.heap.size + 1, 0, none⟩) 1 1] 24)).alloc (.cells #[.int .i64 1, .string ⟨#[]⟩, .int .i64 0, .int .i64 0, .slice none 0 0] 24) := ⟨_, rfl⟩
          have kG : W12.heap[w11.heap.size]? = some (.cells #[.int .i64 f.op, .string (Lx.str f.name), .int .i64 f.cmp, .int .i64 f.num, .slice (some ⟨w11.heap.size + 1, 0, none⟩) 1 1] 24 (0, 0)) := by rw [hW12]; exact Fm.blkK (heap_alloc_new _ _)
          have kY : W12.heap[w11.heap.size + 1]? = some (.cells #[.int .i64 1, .string ⟨#[]⟩, .int .i64 0, .int .i64 0, .slice none 0 0] 24 (0, 0)) := by rw [hW12]; exact Fm.blk1 _ _ _
          have hb1112 : Below w11.heap.size w11 W12 := by rw [hW12]; exact below_al (below_al (Below.refl _ _) _) _
          rw [← hW12]
          clear hW12 f0 f1 f2 f3 f4 d0
          have hb212 := below_step hb1112 HB.out.1
          have hb612 := below_step hb1112 HB.out.2
          have hatG : Fm.At W12 (.mk f.op f.name f.cmp f.num [.mk 1 [] 0 0 []]) (.slice (some ⟨w11.heap.size + 1, 0, none⟩) 1 1) := Fm.at_iff.2 ⟨HSD.out, Fm.IsK.of_block (ks := [.mk 1 [] 0 0 []]) (us := [.slice none 0 0]) rfl kY (by show 1 ≤ 1000000; decide) fun j y u hj hu => by
            have : j = 0 := by have := (List.getElem?_eq_some_iff.1 hj).1; simp at this; exact this
            subst this
            simp at hj hu
            subst hj hu
            exact Fm.At.leaf (Fm.sized_mk (by unfold Fm.I64; decide) _) rfl⟩
          have HBC := Lib.hid (check_walk (.mk f.op f.name f.cmp f.num [.mk 1 [] 0 0 []]) _ _ _ d _ W12 hatG (by simp [Fm.size, Fm.sizeL]) (HA.out W12 hb212).2.1 (HT.out W12 hb612))
          rw [Fm.kid_more H34.out] at HBC
          have b0 := Joins.cell_of_block kG 0
          have b1 := Joins.cell_of_block kG 1
          have b2 := Joins.cell_of_block kG 2
          have b3 := Joins.cell_of_block kG 3
          have b4 := Joins.cell_of_block kG 4
          obtain ⟨⟨f0, f1, f2, f3, f4⟩, d0⟩ := HQ.out W12 hb212
          clear hatG kG kY hb612 hb1112
          go_wp2_with fail
          refine HBC.out.mono ?_
          rintro e w13 ⟨rfl, hb13⟩
          have HF := Lib.hid (HA.out w13 (below_step hb13 hb212)).2.2.2
          clear f0 f1 f2 f3 f4 d0 b0 b1 b2 b3 b4 HBC hb13 hb212
          go_wp2_with fail
          go_ret
          exact ⟨rfl, HF.out⟩
      · have h3 : (f.op == 3) = false := by rw [beq_eq_false_iff_ne]; exact fun h => h34 (.inl h)
        have h4 : (f.op == 4) = false := by rw [beq_eq_false_iff_ne]; exact fun h => h34 (.inr h)
        have H34 := Lib.hid (And.intro (show f.op ≠ 3 from fun h => h34 (.inl h)) (show f.op ≠ 4 from fun h => h34 (.inr h)))
        clear h34
        go_upto_region 19 with fail
        obtain ⟨W12, hW12⟩ : ∃ W, W = w11.alloc (.cells #[.int .i64 f.op, .string ⟨#[97]⟩, .int .i64 f.cmp, .int .i64 f.num, .slice a k c] 24) := ⟨_, rfl⟩
        have kG : W12.heap[w11.heap.size]? = some (.cells #[.int .i64 f.op, .string ⟨#[97]⟩, .int .i64 f.cmp, .int .i64 f.num, .slice a k c] 24 (0, 0)) := by rw [hW12]; exact heap_alloc_new _ _
        have hb1112 : Below w11.heap.size w11 W12 := by rw [hW12]; exact below_al (Below.refl _ _) _
        rw [← hW12]
        clear hW12 f0 f1 f2 f3 f4 d0
        have hb212 := below_step hb1112 HB.out.1
        obtain ⟨⟨f0, f1, f2, f3, f4⟩, d0⟩ := HQ.out W12 hb212
        go_upto_region 21 with fail
        obtain ⟨W13, hW13⟩ : ∃ W, W = W12.alloc (.cells #[.int .i64 f.op, .string (Lx.str f.name), .int .i64 f.cmp, .int .i64 1, .slice a k c] 24) := ⟨_, rfl⟩
        have kH : W13.heap[W12.heap.size]? = some (.cells #[.int .i64 f.op, .string (Lx.str f.name), .int .i64 f.cmp, .int .i64 1, .slice a k c] 24 (0, 0)) := by rw [hW13]; exact heap_alloc_new _ _
        have hb1213 : Below W12.heap.size W12 W13 := by rw [hW13]; exact below_al (Below.refl _ _) _
        have kG3 := (hb1213.block _ (Array.getElem?_eq_some_iff.1 kG).1).trans kG
        rw [← hW13]
        clear hW13 f0 f1 f2 f3 f4 d0 kG
        have hb213 := below_step hb1213 hb212
        have hb613 := below_step hb1213 (below_step hb1112 HB.out.2)
        clear hb1213 hb1112 hb212
        have hks : f.kids = K := HKID.out.2.2.2.symm
        have HBC := Lib.hid (check_walk (.mk f.op [97] f.cmp f.num f.kids) _ _ _ d _ W13 (Fm.at_iff.2 ⟨⟨HSD.out.1, by show ([97] : Fm.T).length ≤ _; decide, HSD.out.2.2.1, HSD.out.2.2.2⟩, (HA.out W13 hb213).1.kidsAt⟩) (by have h1 := HG.out.2.1; rw [Fm.size_eq] at h1 ⊢; exact Nat.le_trans h1 (by decide)) (HA.out W13 hb213).2.1 (HT.out W13 hb613))
        rw [Fm.name_more HG.out H34.out.1 H34.out.2] at HBC
        have b0 := Joins.cell_of_block kG3 0
        have b1 := Joins.cell_of_block kG3 1
        have b2 := Joins.cell_of_block kG3 2
        have b3 := Joins.cell_of_block kG3 3
        have b4 := Joins.cell_of_block kG3 4
        obtain ⟨⟨f0, f1, f2, f3, f4⟩, d0⟩ := HQ.out W13 hb213
        go_wp2_with fail
        refine HBC.out.mono ?_
        rintro e w14 ⟨rfl, hb14⟩
        have kH4 := (hb14.block _ (Array.getElem?_eq_some_iff.1 kH).1).trans kH
        have hb214 := below_step hb14 hb213
        have hb614 := below_step hb14 hb613
        clear f0 f1 f2 f3 f4 d0 b0 b1 b2 b3 b4 HBC kG3 kH hb14 hb213 hb613
        have HBC := Lib.hid (check_walk (.mk f.op f.name f.cmp 1 f.kids) _ _ _ d _ w14 (Fm.at_iff.2 ⟨⟨HSD.out.1, HSD.out.2.1, HSD.out.2.2.1, by show Fm.I64 1; unfold Fm.I64; decide⟩, (HA.out w14 hb214).1.kidsAt⟩) (by have h1 := HG.out.2.1; rw [Fm.size_eq] at h1 ⊢; exact Nat.le_trans h1 (by decide)) (HA.out w14 hb214).2.1 (HT.out w14 hb614))
        rw [Fm.num_more HG.out H34.out.1 H34.out.2] at HBC
        have b0 := Joins.cell_of_block kH4 0
        have b1 := Joins.cell_of_block kH4 1
        have b2 := Joins.cell_of_block kH4 2
        have b3 := Joins.cell_of_block kH4 3
        have b4 := Joins.cell_of_block kH4 4
        obtain ⟨⟨f0, f1, f2, f3, f4⟩, d0⟩ := HQ.out w14 hb214
        go_wp2_with fail
        refine HBC.out.mono ?_
        rintro e w15 ⟨rfl, hb15⟩
        have HF := Lib.hid (HA.out w15 (below_step hb15 hb214)).2.2.2
        clear f0 f1 f2 f3 f4 d0 b0 b1 b2 b3 b4 HBC hb15 hb214
        go_wp2_with fail
        go_ret
        exact ⟨rfl, HF.out⟩

set_option maxRecDepth 100000 in
/-- What the walk gives, for all arguments and every world that holds the tables. -/
theorem contract (H : Type) (enc : TypeId × Value → H) (W : World) (base : Nat) (args : Array Value) (ds gs : List (DataW H)) (before : List MemPlace)
    (hval : ∀ (j : Nat) t v, Try.f9.params[j]? = some t → args[j]? = some v → Value.okWide Try.prog W .any base t v)
    (hW : DataW.Whole enc Try.prog Try.f9.params.toList Rows.formulaPartsSpec.vars false W args.toList ds gs before) :
    Calls Try.prog 9 args W fun e W' => ∃ v, e = .returned v ∧ Rows.formulaPartsSpec.post enc Try.prog Try.f9 false true false false W args v W' := by
  have hW' := hW
  obtain ⟨p, q, hA0, hV, rfl, hfz, hnd⟩ := hW
  have hA : DataW.TrodAll enc Try.prog W 0 (fun _ => true) true Try.f9.params.toList args.toList ds p := hA0
  rw [Try.params9] at hA hval
  obtain ⟨v0, vs0, d0, ds0, p0, q0, hargs, rfl, rfl, h0, r0⟩ := trodAll_cons hA
  obtain ⟨v1, vs1, d1, ds1, p1, q1, rfl, rfl, rfl, h1, r1⟩ := trodAll_cons r0
  obtain ⟨v2, vs2, d2, ds2, p2, q2, rfl, rfl, rfl, h2, r2⟩ := trodAll_cons r1
  obtain ⟨v3, vs3, d3, ds3, p3, q3, rfl, rfl, rfl, h3, r3⟩ := trodAll_cons r2
  obtain ⟨rfl, rfl, rfl⟩ := trodAll_nil r3
  obtain rfl : args = #[v0, v1, v2, v3] := by cases args; simp_all
  obtain ⟨rfl, rfl⟩ := trodVars_none hV
  obtain ⟨f0, u0, rfl, t0⟩ := open_formula (hval 0 24 v0 rfl rfl) h0
  obtain ⟨u1, l1, rfl, t1⟩ := open_domain (hval 1 27 v1 rfl rfl) h1
  obtain ⟨l2, t2⟩ := open_case (hval 2 29 v2 rfl rfl) h2
  obtain ⟨z3, rfl, _, _, g3⟩ := open_int Try.underlying3 (hval 3 3 v3 rfl rfl) h3
  refine (law_walk f0 u0 u1 l1 v2 l2 z3 W t0 t1 t2 (bounds_i64 g3).1 (bounds_i64 g3).2).mono fun e W' ⟨he, hg⟩ => ?_
  subst he
  exact ⟨_, rfl, post_law rfl rfl rfl rfl rfl (by rw [Try.params9]; decide) hW' hg⟩

theorem laid_met (os : Os) : laidMet Try.prog Rows.formulaPartsRow.laid ((laidWorld os).forCall (fun _ _ => 0) ⟨#[], #[.agg #[.int .i64 0, .string ⟨#[]⟩, .int .i64 0, .int .i64 0, .slice none 0 0], .agg #[.slice none 0 0], .slice none 0 0, .int .i64 0], []⟩).memory :=
  laidMet_of_run' 8 (by kernel_rfl) (by kernel_rfl)
theorem reads (os : Os) {H : Type} (enc : TypeId × Value → H) : ∃ places, DataW.whole enc Try.prog ((laidWorld os).forCall (fun _ _ => 0) ⟨#[], #[.agg #[.int .i64 0, .string ⟨#[]⟩, .int .i64 0, .int .i64 0, .slice none 0 0], .agg #[.slice none 0 0], .slice none 0 0, .int .i64 0], []⟩).memory Try.f9.params.toList Rows.formulaPartsSpec.vars false #[Value.agg #[.int .i64 0, .string ⟨#[]⟩, .int .i64 0, .int .i64 0, .slice none 0 0], Value.agg #[.slice none 0 0], Value.slice none 0 0, Value.int .i64 0].toList 8 = some ([.agg [.lit (.int .i64 0), .lit (.string []), .lit (.int .i64 0), .lit (.int .i64 0), .nil], .agg [.nil], .nil, .lit (.int .i64 0)], [], places) :=
  ⟨[], by kernel_rfl⟩

set_option maxRecDepth 100000 in
theorem lifted (os : Os) (started : os.Started) (H : Type) (enc : TypeId × Value → H) (F : Stop.Interp) :
    ReturnsInHanded {} Try.checked os 9 .any ((OpenSpec.ofChange Rows.formulaPartsSpec).preRow enc Try.prog Try.f9 Rows.formulaPartsRow.domain false Rows.formulaPartsRow.laid) (((OpenSpec.ofChange Rows.formulaPartsSpec).at F).post enc Try.prog Try.f9 false true false false) := by
  obtain ⟨places, hx⟩ := reads os enc
  refine returnsInHanded_of_row (C := Try.checked) (s := OpenSpec.ofChange Rows.formulaPartsSpec) own started (by kernel_rfl) Try.func9
    (witness_row_at (enc := enc) (C := Try.checked) false (laidWorld os) #[.agg #[.int .i64 0, .string ⟨#[]⟩, .int .i64 0, .int .i64 0, .slice none 0 0], .agg #[.slice none 0 0], .slice none 0 0, .int .i64 0] rfl (by kernel_rfl) (by kernel_rfl) (by kernel_rfl)
      (OpenSpec.preRow_of_cond 8 hx (by kernel_rfl) (fun k hk => by cases hk) (by kernel_rfl) (laid_met os))) ?_
  intro W base args ds gs before hval hW _ _ _ hL _ _
  exact contract H enc W base args ds gs before hval hW

theorem said : Rows.FormulaPartsSaid :=
  OpenClaim.holds_of_cond 9 Try.f9 rfl rfl rfl rfl rfl rfl rfl ⟨rfl, rfl, rfl, rfl, rfl⟩ rfl rfl rfl rfl rfl (by kernel_rfl) Try.func9 (by kernel_rfl)
    (of_decide_eq_true (by kernel_rfl)) (by unfold Func.isWrapper; first | (rw [if_pos (by decide +kernel)]; kernel_rfl) | (rw [if_neg (by decide +kernel)]; exact ⟨rfl, rfl⟩))
    (fun os started H enc _ F => by rw [OpenClaim.pre_eq_preRow]; exact lifted os started H enc F)

end Go.Proofs.Ytjcaingfeaaakaa.formulaParts
