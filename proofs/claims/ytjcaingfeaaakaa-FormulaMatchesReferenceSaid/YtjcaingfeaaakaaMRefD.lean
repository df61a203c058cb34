/-
  The reference of layer 7: Same.
-/
import Derived.Test.YtjcaingfeaaakaaMRefA
import Derived.Test.YtjcaingfeaaakaaMSame
import Derived.Deep.RegionHeld3
namespace Go.Proofs.Ytjcaingfeaaakaa
open Go.RowKit

set_option maxHeartbeats 8000000 in
set_option maxRecDepth 100000 in
theorem r7same_walk : ∀ (s : Nat) (f f2 : Fm.Fo) (u u2 : Value) (w : World), Fm.size f ≤ s → Fm.At w f u → Fm.At w f2 u2 →
    Calls Try.prog 21 #[Fm.fv f u, Fm.fv f2 u2] w fun e w' => e = .returned (.bool (Fm.sameB f f2)) ∧ Below w.heap.size w w' := by
  intro s
  induction s with
  | zero => intro f f2 u u2 w hs; have := Fm.size_pos f; omega
  | succ s ih =>
    intro f f2 u u2 w hs hat hat2
    have hsz := Fm.size_eq f
    obtain ⟨a, c0, g, o, rfl, hc1, hc2, hga, hcl⟩ := hat.kidsAt.any
    obtain ⟨a2, c02, g2, o2, rfl, hd1, hd2, hgb, hcm⟩ := hat2.kidsAt.any
    obtain ⟨p, x, c, n, ks⟩ := f
    obtain ⟨p2, x2, c2, n2, ks2⟩ := f2
    dsimp only [Fm.fv, Fm.Fo.op, Fm.Fo.name, Fm.Fo.cmp, Fm.Fo.num, Fm.Fo.kids] at hsz hc1 hga hcl hd1 hgb hcm ⊢
    obtain ⟨z, hz⟩ : ∃ z, z = Fm.sameB (.mk p x c n ks) (.mk p2 x2 c2 n2 ks2) := ⟨_, rfl⟩
    rw [← hz]
    rw [Fm.sameB] at hz
    have hx := Fm.str_eq x x2
    obtain ⟨m, hm⟩ : ∃ m, m = ks.length := ⟨_, rfl⟩
    obtain ⟨m2, hm2⟩ : ∃ m, m = ks2.length := ⟨_, rfl⟩
    rw [← hm] at hc1 ⊢
    rw [← hm2] at hd1 ⊢
    obtain ⟨W2, hW2⟩ : ∃ W2, W2 = (w.alloc (.cells #[.int .i64 p, .string (Lx.str x), .int .i64 c, .int .i64 n, .slice a m c0] 24)).alloc (.cells #[.int .i64 p2, .string (Lx.str x2), .int .i64 c2, .int .i64 n2, .slice a2 m2 c02] 24) := ⟨_, rfl⟩
    have hb2 : Below w.heap.size w W2 := by rw [hW2]; exact ((Below.refl _ _).alloc (Nat.le_refl _) _).alloc (by simp) _
    have HB := Lib.hid hb2
    by_cases hhead : p = p2 ∧ x = x2 ∧ c = c2 ∧ n = n2 ∧ m = m2
    · obtain ⟨rfl, rfl, rfl, rfl, rfl⟩ := hhead
      rw [decide_eq_true rfl] at hx
      have hbx : (((Lx.str x).toList != (Lx.str x).toList)) = false := by rw [bne, hx]; rfl
      have hzz : z = Fm.sameL ks ks2 := by rw [hz]; simp
      have HS := Lib.hid (fun i x y (hx : ks[i]? = some x) (hy : ks2[i]? = some y) (h : Fm.sameB x y = false) => hzz.trans (Fm.sameL_diff hx hy h))
      have HE := Lib.hid (fun (h : ∀ (i : Nat) (x y : Fm.Fo), ks[i]? = some x → ks2[i]? = some y → Fm.sameB x y = true) => hzz.trans (Fm.sameL_all (hm.symm.trans hm2) h))
      have hga3 : 0 < m → a = some ⟨g, o, none⟩ ∧ g < w.heap.size := fun h => hga (by rintro rfl; rw [hm] at h; simp at h)
      have hgb3 : 0 < m → a2 = some ⟨g2, o2, none⟩ ∧ g2 < w.heap.size := fun h => hgb (by rintro rfl; rw [hm2] at h; simp at h)
      have HC := Lib.hid hcl
      have HM := Lib.hid hcm
      have HG := Lib.hid hga3
      have HG2 := Lib.hid hgb3
      have HN := Lib.hid (And.intro hm hm2)
      have k0 : W2.heap[w.heap.size]? = some (.cells #[.int .i64 p, .string (Lx.str x), .int .i64 c, .int .i64 n, .slice a m c0] 24 (0, 0)) := by rw [hW2]; exact Fm.blkK (heap_alloc_new _ _)
      have k1 : W2.heap[w.heap.size + 1]? = some (.cells #[.int .i64 p, .string (Lx.str x), .int .i64 c, .int .i64 n, .slice a2 m c02] 24 (0, 0)) := by rw [hW2]; exact Fm.blk1 _ _ _
      have HK : Hid (∀ W, Below W2.heap.size W2 W → W.cell? ⟨w.heap.size, 4, none⟩ = some (.slice a m c0) ∧ W.cell? ⟨w.heap.size + 1, 4, none⟩ = some (.slice a2 m c02)) := fun W hW =>
        ⟨Joins.cell_of_block ((hW.block _ (Array.getElem?_eq_some_iff.1 k0).1).trans k0) 4, Joins.cell_of_block ((hW.block _ (Array.getElem?_eq_some_iff.1 k1).1).trans k1) 4⟩
      have HIH : Hid (∀ k ∈ ks, ∀ v k2 v2 W, Fm.At W k v → Fm.At W k2 v2 → Calls Try.prog 21 #[Fm.fv k v, Fm.fv k2 v2] W fun e w' => e = .returned (.bool (Fm.sameB k k2)) ∧ Below W.heap.size W w') := fun k hk v k2 v2 W hv hv2 => ih k k2 v v2 W (by have := Fm.size_mem hk; omega) hv hv2
      have hwz : w.heap.size + 1 < W2.heap.size := (Array.getElem?_eq_some_iff.1 k1).1
      clear ih hs hat hat2 hsz hb2 hz hzz hga hgb hga3 hgb3 hcl hcm hm hm2 k0 k1
      go_enter Try.func21, Try.ntmps21
      go_wp2_with fail
      rw [← hW2]
      clear hW2 hx hbx
      go_loopw [5] (fun i wr => ∃ k : Nat, k ≤ m ∧ i = .int .i64 k ∧ Hid (∀ j, j < k → ∀ x y, ks[j]? = some x → ks2[j]? = some y → Fm.sameB x y = true) ∧ Hid (Below W2.heap.size W2 wr)) (fun i _ => m - (intOf i).toNat)
      case atStart => exact ⟨0, Nat.zero_le _, rfl, fun j hj => absurd hj (by omega), Below.refl _ _⟩
      case round =>
        obtain ⟨k, hk, rfl, hd, hbw⟩ := hrel
        obtain ⟨b0, b1⟩ := HK.out wr hbw.out
        by_cases hlt : k < m
        · have hki : (k : Int) < (m : Int) := by omega
          have hk0 : (0 : Int) ≤ (k : Int) := by omega
          obtain ⟨y, hy⟩ : ∃ y, ks[k]? = some y := ⟨_, List.getElem?_eq_getElem (by rw [← HN.out.1]; exact hlt)⟩
          obtain ⟨y2, hy2⟩ : ∃ y, ks2[k]? = some y := ⟨_, List.getElem?_eq_getElem (by rw [← HN.out.2]; exact hlt)⟩
          obtain ⟨rfl, hg⟩ := HG.out (by omega)
          obtain ⟨rfl, hg2⟩ := HG2.out (by omega)
          obtain ⟨v, p0, p1, p2, p3, p4, hv⟩ := HC.out k y hy
          obtain ⟨v2, q0, q1, q2, q3, q4, hv2⟩ := HM.out k y2 hy2
          have hbww := HB.out.trans (hbw.out.mono HB.out.size)
          have hgz : g < wr.heap.size := Nat.lt_of_lt_of_le hg hbww.size
          have hgz2 : g2 < wr.heap.size := Nat.lt_of_lt_of_le hg2 hbww.size
          have hz0 : w.heap.size < wr.heap.size := by have := hbw.out.size; omega
          have hz1 : w.heap.size + 1 < wr.heap.size := by have := hbw.out.size; omega
          have e0 : ∀ w', Fc.Old wr w' → w'.cell? ⟨g, o + k * 5, none⟩ = some (.int .i64 y.op) := fun w' h => h.cell hgz ((hbww.cell (p := ⟨g, o + k * 5, none⟩) hg).trans p0)
          have e1 : ∀ w', Fc.Old wr w' → w'.cell? ⟨g, o + k * 5 + 1, none⟩ = some (.string (Lx.str y.name)) := fun w' h => h.cell hgz ((hbww.cell (p := ⟨g, o + k * 5 + 1, none⟩) hg).trans p1)
          have e2 : ∀ w', Fc.Old wr w' → w'.cell? ⟨g, o + k * 5 + 2, none⟩ = some (.int .i64 y.cmp) := fun w' h => h.cell hgz ((hbww.cell (p := ⟨g, o + k * 5 + 2, none⟩) hg).trans p2)
          have e3 : ∀ w', Fc.Old wr w' → w'.cell? ⟨g, o + k * 5 + 3, none⟩ = some (.int .i64 y.num) := fun w' h => h.cell hgz ((hbww.cell (p := ⟨g, o + k * 5 + 3, none⟩) hg).trans p3)
          have e4 : ∀ w', Fc.Old wr w' → w'.cell? ⟨g, o + k * 5 + 4, none⟩ = some v := fun w' h => h.cell hgz ((hbww.cell (p := ⟨g, o + k * 5 + 4, none⟩) hg).trans p4)
          have r0 : ∀ w', Fc.Old wr w' → w'.cell? ⟨g2, o2 + k * 5, none⟩ = some (.int .i64 y2.op) := fun w' h => h.cell hgz2 ((hbww.cell (p := ⟨g2, o2 + k * 5, none⟩) hg2).trans q0)
          have r1 : ∀ w', Fc.Old wr w' → w'.cell? ⟨g2, o2 + k * 5 + 1, none⟩ = some (.string (Lx.str y2.name)) := fun w' h => h.cell hgz2 ((hbww.cell (p := ⟨g2, o2 + k * 5 + 1, none⟩) hg2).trans q1)
          have r2 : ∀ w', Fc.Old wr w' → w'.cell? ⟨g2, o2 + k * 5 + 2, none⟩ = some (.int .i64 y2.cmp) := fun w' h => h.cell hgz2 ((hbww.cell (p := ⟨g2, o2 + k * 5 + 2, none⟩) hg2).trans q2)
          have r3 : ∀ w', Fc.Old wr w' → w'.cell? ⟨g2, o2 + k * 5 + 3, none⟩ = some (.int .i64 y2.num) := fun w' h => h.cell hgz2 ((hbww.cell (p := ⟨g2, o2 + k * 5 + 3, none⟩) hg2).trans q3)
          have r4 : ∀ w', Fc.Old wr w' → w'.cell? ⟨g2, o2 + k * 5 + 4, none⟩ = some v2 := fun w' h => h.cell hgz2 ((hbww.cell (p := ⟨g2, o2 + k * 5 + 4, none⟩) hg2).trans q4)
          have t0 : ∀ w', Fc.Old wr w' → w'.cell? ⟨w.heap.size, 4, none⟩ = some (.slice (some ⟨g, o, none⟩) m c0) := fun w' h => h.cell hz0 b0
          have t1 : ∀ w', Fc.Old wr w' → w'.cell? ⟨w.heap.size + 1, 4, none⟩ = some (.slice (some ⟨g2, o2, none⟩) m c02) := fun w' h => h.cell hz1 b1
          obtain ⟨q, hq⟩ : ∃ q, q = Fm.sameB y y2 := ⟨_, rfl⟩
          have HA : Hid (∀ W, Fc.Old wr W → Calls Try.prog 21 #[Fm.fv y v, Fm.fv y2 v2] W fun e w' => e = .returned (.bool q) ∧ Below W.heap.size W w') := fun W h => by
            rw [hq]
            have hbb := hbww.trans (h.out.mono hbww.size)
            exact HIH.out y (List.mem_of_getElem? hy) v y2 v2 W (hv.below hbb) (hv2.below hbb)
          have HXY := Lib.hid (And.intro hy (And.intro hy2 hq))
          clear hy hy2 hv hv2 hbww p0 p1 p2 p3 p4 q0 q1 q2 q3 q4 hq
          go_wp2_with fail
          clear b0 b1
          go_region_held3 (fun w' => Fc.Old wr w') (first | exact Fc.Old.drew wr | exact Fc.Old.step (by with_reducible assumption) (by with_reducible assumption) | with_reducible assumption)
            (first
              | (go_at_call 21; (with_reducible refine (HA.out _ (by with_reducible assumption)).mono ?_); rintro e w5 ⟨rfl, hb5⟩))
          have hO : Fc.Old wr w5 := by with_reducible assumption
          have HB5 := Lib.hid (hbw.out.trans (hO.out.mono hbw.out.size))
          clear e0 e1 e2 e3 e4 r0 r1 r2 r3 r4 t0 t1 hb5 hO HA
          cases q with
          | false =>
            have hzf := HS.out k y y2 HXY.out.1 HXY.out.2.1 HXY.out.2.2.symm
            subst hzf
            clear hd
            go_wp2_with fail
            go_ret
            exact ⟨rfl, HB.out.trans (HB5.out.mono HB.out.size)⟩
          | true =>
            have HD : Hid (∀ j, j < k + 1 → ∀ x y, ks[j]? = some x → ks2[j]? = some y → Fm.sameB x y = true) := fun j hj x3 y3 hx3 hy3 => by
              by_cases e : j = k
              · subst e
                rw [HXY.out.1] at hx3
                rw [HXY.out.2.1] at hy3
                obtain rfl := Option.some.inj hx3
                obtain rfl := Option.some.inj hy3
                exact HXY.out.2.2.symm
              · exact hd.out j (by omega) x3 y3 hx3 hy3
            clear hd
            go_wp2_with fail
            go_roundw
            case rel => exact ⟨k + 1, by omega, by go_num, HD, HB5⟩
            case measure => simp [intOf]; omega
        · obtain rfl : k = m := by omega
          have hki : ¬ (k : Int) < (k : Int) := by omega
          have hzt := HE.out (fun j x y hx hy => hd.out j (by rw [HN.out.1]; exact (List.getElem?_eq_some_iff.1 hx).1) x y hx hy)
          subst hzt
          clear hd
          go_wp2_with fail
          go_ret
          exact ⟨rfl, HB.out.trans (hbw.out.mono HB.out.size)⟩
    · have hzz : z = false := by
        rw [hz]
        by_cases h : p = p2 ∧ x = x2 ∧ c = c2 ∧ n = n2
        · obtain ⟨rfl, rfl, rfl, rfl⟩ := h
          have h5 : m ≠ m2 := fun h => hhead ⟨rfl, rfl, rfl, rfl, h⟩
          rw [Fm.sameL_len (by omega), Bool.and_false]
        · have : (decide (p = p2) && decide (x = x2) && decide (c = c2) && decide (n = n2)) = false := by
            rw [Bool.eq_false_iff]
            intro hh
            simp only [Bool.and_eq_true, decide_eq_true_iff] at hh
            exact h ⟨hh.1.1.1, hh.1.1.2, hh.1.2, hh.2⟩
          rw [this, Bool.false_and]
      subst hzz
      have HBB : Hid (∀ oa ob, Below w.heap.size w ((w.alloc oa).alloc ob)) := fun oa ob => ((Below.refl _ _).alloc (Nat.le_refl _) _).alloc (by simp) _
      clear ih hs hat hat2 hsz hb2 hz hga hgb hcl hcm hW2 HB
      by_cases h1 : p = p2
      · by_cases h2 : x = x2
        · rw [decide_eq_true h2] at hx
          have hbx : (((Lx.str x).toList != (Lx.str x2).toList)) = false := by rw [bne, hx]; rfl
          by_cases h3 : c = c2
          · by_cases h4 : n = n2
            · have h5 : m ≠ m2 := fun h => hhead ⟨h1, h2, h3, h4, h⟩
              have h5i : (((m : Nat) : Int) != (m2 : Nat)) = true := by rw [bne_iff_ne]; omega
              clear hhead hm hm2
              subst h1 h3 h4
              go_enter Try.func21, Try.ntmps21
              go_wp2_with fail
              go_ret
              exact ⟨rfl, HBB.out _ _⟩
            · have h4i : (n != n2) = true := by rw [bne_iff_ne]; exact h4
              clear hhead hm hm2
              subst h1 h3
              go_enter Try.func21, Try.ntmps21
              go_wp2_with fail
              go_ret
              exact ⟨rfl, HBB.out _ _⟩
          · have h3i : (c != c2) = true := by rw [bne_iff_ne]; exact h3
            clear hhead hm hm2
            subst h1
            go_enter Try.func21, Try.ntmps21
            go_wp2_with fail
            go_ret
            exact ⟨rfl, HBB.out _ _⟩
        · rw [decide_eq_false h2] at hx
          have hbx : (((Lx.str x).toList != (Lx.str x2).toList)) = true := by rw [bne, hx]; rfl
          clear hhead hm hm2 h2
          subst h1
          go_enter Try.func21, Try.ntmps21
          go_wp2_with fail
          go_ret
          exact ⟨rfl, HBB.out _ _⟩
      · have h1i : (p != p2) = true := by rw [bne_iff_ne]; exact h1
        clear hhead hm hm2 hx
        go_enter Try.func21, Try.ntmps21
        go_wp2_with fail
        go_ret
        exact ⟨rfl, HBB.out _ _⟩
end Go.Proofs.Ytjcaingfeaaakaa
