/-
  The reference of layer 7: Terms.
-/
import Derived.Test.YtjcaingfeaaakaaMTerms
import Derived.Test.YtjcaingfeaaakaaMRefC
import Derived.Test.YtjcaingfeaaakaaMRefA
namespace Go.Proofs.Ytjcaingfeaaakaa
open Go.RowKit

namespace Fm
def tmsL (l : List T) (ys : List (Nat × Fo)) : List T := ys.foldl tadd l
theorem tmsL_append (l : List T) (a b : List (Nat × Fo)) : tmsL l (a ++ b) = tmsL (tmsL l a) b := by unfold tmsL; rw [List.foldl_append]
theorem tmsL_len : ∀ (ys : List (Nat × Fo)) (l : List T), (tmsL l ys).length ≤ l.length + ys.length
  | [], l => by simp [tmsL]
  | y :: ys, l => by
    have := tmsL_len ys (tadd l y)
    have h2 := tadd_len l y
    show (tmsL (tadd l y) ys).length ≤ _
    rw [List.length_cons]; omega
theorem tadd_mem {l : List T} {y : Nat × Fo} {t : T} (h : t ∈ tadd l y) : t ∈ l ∨ t = y.2.name := by
  unfold tadd addT at h
  split at h
  · split at h
    · exact .inl h
    · rcases List.mem_append.1 h with h | h
      · exact .inl h
      · rw [List.mem_singleton] at h; exact .inr h
  · exact .inl h
theorem tmsL_sized : ∀ (ys : List (Nat × Fo)) (l : List T), (∀ t ∈ l, t.length ≤ 9223372036854775807) → (∀ y ∈ ys, y.2.name.length ≤ 9223372036854775807) → ∀ t ∈ tmsL l ys, t.length ≤ 9223372036854775807
  | [], _, h, _ => h
  | y :: ys, l, h, hy => by
    refine tmsL_sized ys (tadd l y) (fun t ht => ?_) (fun z hz => hy z (List.mem_cons_of_mem _ hz))
    rcases tadd_mem ht with ht | rfl
    · exact h t ht
    · exact hy y (List.mem_cons_self ..)
mutual
theorem at_names {w : World} : ∀ (f : Fo) (u : Value) (d : Nat), At w f u → ∀ y ∈ nds d f, y.2.name.length ≤ 9223372036854775807
  | .mk o x c n ks, u, d, h, y, hy => by
    rw [nds, List.mem_cons] at hy
    rw [At] at h
    obtain ⟨hs, a, cap, _, _, _, h3⟩ := h
    rcases hy with rfl | hy
    · exact hs.2.1
    · have hne : ks ≠ [] := by rintro rfl; rw [ndsL] at hy; cases hy
      obtain ⟨g, i, _, _, hr⟩ := h3 hne
      exact row_names ks g i (d + 1) hr y hy
theorem row_names {w : World} : ∀ (ks : List Fo) (g i : Nat) (d : Nat), Row w ks g i → ∀ y ∈ ndsL d ks, y.2.name.length ≤ 9223372036854775807
  | [], _, _, d, _, y, hy => by rw [ndsL] at hy; cases hy
  | k :: ks, g, i, d, h, y, hy => by
    rw [ndsL, List.mem_append] at hy
    rw [Row] at h
    obtain ⟨_, ⟨u, _, hu⟩, hr⟩ := h
    rcases hy with hy | hy
    · exact at_names k u d hu y hy
    · exact row_names ks g (i + 5) d hr y hy
end
/-- A formula in a box, a row of texts beside it. -/
theorem FBox.ns {w : World} {f : Fo} {u : Value} {W W' : World} {base : Nat} (h : FBox w f u W) (_ : Below base W W') (hn : Ns W W') : W'.heap[w.heap.size]? = some (.cells #[.int .i64 f.op, .string (Lx.str f.name), .int .i64 f.cmp, .int .i64 f.num, u] 24 (0, 0)) := hn.2 _ _ _ _ h.1 (by decide)
end Fm

set_option maxHeartbeats 8000000 in
set_option maxRecDepth 100000 in
theorem r7names2_walk : ∀ (s : Nat) (f : Fm.Fo) (u v : Value) (l : List Fm.T) (d : Nat) (w0 w : World), Fm.size f ≤ s → Fm.At w0 f u → Below w0.heap.size w0 w → Fm.OwnS w0.heap.size l v w → (∀ t ∈ l, t.length ≤ 9223372036854775807) → l.length + Fm.size f ≤ 900000 →
    Calls Try.prog 42 #[Fm.fv f u, v] w fun e w' => (∃ v', e = .returned v' ∧ Fm.OwnS w0.heap.size (Fm.tmsL l (Fm.nds d f)) v' w') ∧ Below w0.heap.size w w' ∧ Fm.Ns w w' := by
  intro s
  induction s with
  | zero => intro f u v l d w0 w hs; have := Fm.size_pos f; omega
  | succ s ih =>
    intro f u v l d w0 w hs hat hb hown hsz hcount
    have hsize := Fm.size_eq f
    have hnd := Fm.nds_eq d f
    have hnm := hat.sized.2.1
    have hnms : ∀ y ∈ Fm.ndsL (d + 1) f.kids, y.2.name.length ≤ 9223372036854775807 := fun y hy => Fm.at_names f u d hat y (by rw [Fm.nds_eq]; exact List.mem_cons_of_mem _ hy)
    obtain ⟨a, c0, g, o, rfl, hc1, hc2, hga, hcl⟩ := hat.kidsAt.any
    obtain ⟨K, hK⟩ : ∃ K, K = f.kids := ⟨_, rfl⟩
    obtain ⟨m, hm⟩ : ∃ m, m = K.length := ⟨_, rfl⟩
    rw [← hK] at hsize hnd hc1 hga hcl hnms
    rw [← hm] at hc1
    obtain ⟨W1, hW1⟩ : ∃ W1, W1 = w.alloc (.cells #[.int .i64 f.op, .string (Lx.str f.name), .int .i64 f.cmp, .int .i64 f.num, .slice a m c0] 24) := ⟨_, rfl⟩
    have hbx : Fm.FBox w f (.slice a m c0) W1 := by rw [hW1]; exact Fm.FBox.start _ _ _
    have hga2 : 0 < m → a = some ⟨g, o, none⟩ ∧ g < w0.heap.size := fun h => hga (by rintro rfl; rw [hm] at h; simp at h)
    rw [show f.kids.length = m by rw [hm, hK]]
    have HIH : Hid (∀ k ∈ K, ∀ (u v : Value) (l : List Fm.T) (d : Nat) (W : World), Fm.At w0 k u → Below w0.heap.size w0 W → Fm.OwnS w0.heap.size l v W → (∀ t ∈ l, t.length ≤ 9223372036854775807) → l.length + Fm.size k ≤ 900000 →
        Calls Try.prog 42 #[Fm.fv k u, v] W fun e w' => (∃ v', e = .returned v' ∧ Fm.OwnS w0.heap.size (Fm.tmsL l (Fm.nds d k)) v' w') ∧ Below w0.heap.size W w' ∧ Fm.Ns W w') := fun k hk u v l d W h1 h2 h3 h4 h5 => ih k u v l d w0 W (by have := Fm.size_mem hk; omega) h1 h2 h3 h4 h5
    have hb1 : Below w0.heap.size w0 W1 := hb.trans (hbx.2.mono hb.size)
    have hown1 : Fm.OwnS w0.heap.size l v W1 := hown.below hbx.2
    obtain ⟨⟨va, vc⟩, hvf⟩ : ∃ p : Option Addr × Nat, v = .slice p.1 l.length p.2 := by obtain ⟨a, c, e⟩ := hown.form; exact ⟨(a, c), e⟩
    dsimp only at hvf
    subst hvf
    have HB0 := Lib.hid hb
    have HIN := Lib.hid (r7in_walk _ l f.name W1 (hown1.isT hsz))
    obtain ⟨L2, hL2⟩ : ∃ L2, L2 = Fm.tadd l (d, f) := ⟨_, rfl⟩
    have hfin : Fm.tmsL l (Fm.nds d f) = Fm.tmsL L2 (Fm.ndsL (d + 1) K) := by rw [hnd, hL2]; rfl
    rw [hfin]
    obtain ⟨b, hbb⟩ : ∃ b, b = Fm.has l f.name := ⟨_, rfl⟩
    rw [← hbb] at HIN
    have q0 := Joins.cell_of_block hbx.1 0
    have q1 := Joins.cell_of_block hbx.1 1
    have HM := Lib.hid hm
    have HC := Lib.hid hcl
    have HG := Lib.hid hga2
    have HNMS : Hid (∀ y ∈ Fm.ndsL (d + 1) K, y.2.name.length ≤ 9223372036854775807) := hnms
    have HCNT : Hid (L2.length + Fm.sizeL K ≤ 900000) := by
      show _ ≤ _
      have := Fm.tadd_len l (d, f)
      rw [hL2]; omega
    have HSZ : Hid (∀ t ∈ L2, t.length ≤ 9223372036854775807) := fun t ht => by
      rw [hL2] at ht
      rcases Fm.tadd_mem ht with ht | rfl
      · exact hsz t ht
      · exact hnm
    have HB1 := Lib.hid hbx
    have HNS := Lib.hid (Fm.Ns.of hbx.2)
    have HBW := Lib.hid (hbx.2.mono hb.size)
    have HOW := Lib.hid hown1
    have hcl2 : l.length < 1000000 := by omega
    clear ih hs hat hb hown hsize hnd hnms hga hcl hga2 hK hm hb1 hown1 hbx hfin
    by_cases h4 : f.op = 4
    · have hq : ((f.op == 4)) = true := by rw [beq_iff_eq]; exact h4
      have H4 := Lib.hid h4
      clear h4
      cases b with
      | true =>
        have HOWN : Hid (Fm.OwnS w0.heap.size L2 (.slice va l.length vc) W1) := by
          show Fm.OwnS _ _ _ _
          rw [hL2]; unfold Fm.tadd Fm.addT; rw [if_pos H4.out, if_pos hbb.symm]; exact HOW.out
        have HNB : Hid (W1.heap[w.heap.size]? = some (.cells #[.int .i64 f.op, .string (Lx.str f.name), .int .i64 f.cmp, .int .i64 f.num, .slice a m c0] 24 (0, 0)) ∧ Below w0.heap.size w W1 ∧ Fm.Ns w W1) := ⟨HB1.out.1, HBW.out, HNS.out⟩
        clear hL2 hbb HOW HB1 HNS HBW hsz hcount
        go_enter Try.func42, Try.ntmps42
        go_wp2_with fail
        rw [← hW1]
        refine HIN.out.mono ?_
        rintro e w2 ⟨rfl, hw2⟩
        subst hw2
        clear HIN hW1
        go_upto_region 3 with fail
        clear q0 q1
        go_wp2_with fail
        go_loopw [1, 5] (fun v i wr => ∃ k : Nat, k ≤ m ∧ i = .int .i64 k ∧ Hid (Fm.OwnS w0.heap.size (Fm.tmsL L2 (Fm.ndsL (d + 1) (K.take k))) v wr) ∧ Hid (wr.heap[w.heap.size]? = some (.cells #[.int .i64 f.op, .string (Lx.str f.name), .int .i64 f.cmp, .int .i64 f.num, .slice a m c0] 24 (0, 0)) ∧ Below w0.heap.size w wr ∧ Fm.Ns w wr)) (fun _ i _ => m - (intOf i).toNat)
        case atStart => exact ⟨0, Nat.zero_le _, rfl, (by rw [List.take_zero, Fm.ndsL]; exact HOWN.out), HNB⟩
        case round =>
          obtain ⟨k, hk, rfl, ho, hnb⟩ := hrel
          clear HOWN HNB
          have b4 := Joins.cell_of_block hnb.out.1 4
          by_cases hlt : k < m
          · have hki : (k : Int) < (m : Int) := by omega
            have hkm : (k : Int) + 1 ≤ 9223372036854775807 := by omega
            obtain ⟨y, hy⟩ : ∃ y, K[k]? = some y := ⟨_, List.getElem?_eq_getElem (by rw [← HM.out]; exact hlt)⟩
            obtain ⟨rfl, hg⟩ := HG.out (by omega)
            obtain ⟨uy, p0, p1, p2, p3, p4, hv⟩ := HC.out k y hy
            have hbw := HB0.out.trans hnb.out.2.1
            have p0 := (hbw.cell (p := ⟨g, o + k * 5, none⟩) hg).trans p0
            have p1 := (hbw.cell (p := ⟨g, o + k * 5 + 1, none⟩) hg).trans p1
            have p2 := (hbw.cell (p := ⟨g, o + k * 5 + 2, none⟩) hg).trans p2
            have p3 := (hbw.cell (p := ⟨g, o + k * 5 + 3, none⟩) hg).trans p3
            have p4 := (hbw.cell (p := ⟨g, o + k * 5 + 4, none⟩) hg).trans p4
            have htk := Fm.ndsL_take (d + 1) hy
            have hs2 := Fm.sizeL_take hy
            have hs3 := Fm.sizeL_split K (k + 1)
            have hcnt : (Fm.tmsL L2 (Fm.ndsL (d + 1) (K.take k))).length + Fm.size y ≤ 900000 := by
              have h1 := Fm.tmsL_len (Fm.ndsL (d + 1) (K.take k)) L2
              rw [Fm.ndsL_len] at h1
              have := HCNT.out
              omega
            have HA := Lib.hid (HIH.out y (List.mem_of_getElem? hy) uy _ _ (d + 1) wr hv hbw ho.out (Fm.tmsL_sized _ L2 HSZ.out (fun z hz => HNMS.out z (by
              rw [← Fm.ndsL_split (d + 1) K k]; exact List.mem_append_left _ hz))) hcnt)
            have HTK : Hid (Fm.tmsL L2 (Fm.ndsL (d + 1) (K.take (k + 1))) = Fm.tmsL (Fm.tmsL L2 (Fm.ndsL (d + 1) (K.take k))) (Fm.nds (d + 1) y)) := by show _ = _; rw [htk, Fm.tmsL_append]
            clear hy hv hbw htk hs2 hs3 hcnt ho
            go_wp2_with fail
            refine HA.out.mono ?_
            rintro e w5 ⟨⟨v5, rfl, ho5⟩, hb5, hn5⟩
            have HO5 : Hid (Fm.OwnS w0.heap.size (Fm.tmsL L2 (Fm.ndsL (d + 1) (K.take (k + 1)))) v5 w5) := by rw [HTK.out]; exact ho5
            have HN5 : Hid (w5.heap[w.heap.size]? = some (.cells #[.int .i64 f.op, .string (Lx.str f.name), .int .i64 f.cmp, .int .i64 f.num, .slice (some ⟨g, o, none⟩) m c0] 24 (0, 0)) ∧ Below w0.heap.size w w5 ∧ Fm.Ns w w5) :=
              ⟨hn5.2 _ _ _ _ hnb.out.1 (by decide), hnb.out.2.1.trans hb5, hnb.out.2.2.trans hn5⟩
            clear p0 p1 p2 p3 p4 b4 ho5 hb5 hn5 HA hnb
            go_wp2_with fail
            go_roundw
            case rel => exact ⟨k + 1, by omega, by go_num, HO5, HN5⟩
            case measure => simp [intOf]; omega
          · obtain rfl : k = m := by omega
            have hki : ¬ (k : Int) < (k : Int) := by omega
            have HOE : Hid (Fm.OwnS w0.heap.size (Fm.tmsL L2 (Fm.ndsL (d + 1) K)) u1 wr) := by have := ho.out; rwa [HM.out, List.take_length] at this
            clear ho
            go_wp2_with fail
            go_ret
            exact ⟨⟨_, rfl, HOE.out⟩, hnb.out.2.1, hnb.out.2.2⟩
      | false =>
        have HOX : Hid (∀ v w, Fm.OwnS w0.heap.size (l ++ [f.name]) v w → Fm.OwnS w0.heap.size L2 v w) := fun v w h => by
          rw [hL2]; unfold Fm.tadd Fm.addT; rw [if_pos H4.out, if_neg (by rw [← hbb]; decide)]; exact h
        clear hL2 hbb hsz hcount
        go_enter Try.func42, Try.ntmps42
        go_wp2_with fail
        rw [← hW1]
        refine HIN.out.mono ?_
        rintro e w2 ⟨rfl, hw2⟩
        subst hw2
        clear HIN hW1
        have hbase : w0.heap.size ≤ W1.heap.size := Nat.le_trans HB0.out.size HB1.out.2.size
        go_wp2_with (at_builtin; refine wpList_append_s _ rfl _ _ rfl w0.heap.size l _ rfl (HOW.out.below ((Below.refl _ _).alloc (Nat.le_refl _) _)) f.name W1.heap.size (0, 0) 9 rfl (heap_alloc_new _ _) hcl2 (by simp; omega) ?_)
        intro gg cc w6 h1 h2
        have hO2 := HOW.out.below ((Below.refl W1.heap.size W1).alloc (Nat.le_refl _) (.cells #[.string (Lx.str f.name)] 9))
        have hb6 : Below w0.heap.size W1 w6 := ((Below.refl _ _).alloc hbase _).trans (hO2.grownBelow (by simp; omega) h2)
        have hn6 : Fm.Ns W1 w6 := (Fm.Ns.of ((Below.refl _ _).alloc (Nat.le_refl _) _)).trans (Fm.Ns.grown hO2 h2)
        have HOWN : Hid (Fm.OwnS w0.heap.size L2 (.slice (some ⟨gg, 0, none⟩) (l.length + 1) cc) w6) := HOX.out _ _ h1
        have HNB : Hid (w6.heap[w.heap.size]? = some (.cells #[.int .i64 f.op, .string (Lx.str f.name), .int .i64 f.cmp, .int .i64 f.num, .slice a m c0] 24 (0, 0)) ∧ Below w0.heap.size w w6 ∧ Fm.Ns w w6) := ⟨hn6.2 _ _ _ _ HB1.out.1 (by decide), HBW.out.trans hb6, HNS.out.trans hn6⟩
        clear HOW HB1 HNS HBW h1 h2 hO2 hb6 hn6 q0 q1 HOX
        go_wp2_with fail
        go_loopw [1, 5] (fun v i wr => ∃ k : Nat, k ≤ m ∧ i = .int .i64 k ∧ Hid (Fm.OwnS w0.heap.size (Fm.tmsL L2 (Fm.ndsL (d + 1) (K.take k))) v wr) ∧ Hid (wr.heap[w.heap.size]? = some (.cells #[.int .i64 f.op, .string (Lx.str f.name), .int .i64 f.cmp, .int .i64 f.num, .slice a m c0] 24 (0, 0)) ∧ Below w0.heap.size w wr ∧ Fm.Ns w wr)) (fun _ i _ => m - (intOf i).toNat)
        case atStart => exact ⟨0, Nat.zero_le _, rfl, (by rw [List.take_zero, Fm.ndsL]; exact HOWN.out), HNB⟩
        case round =>
          obtain ⟨k, hk, rfl, ho, hnb⟩ := hrel
          clear HOWN HNB
          have b4 := Joins.cell_of_block hnb.out.1 4
          by_cases hlt : k < m
          · have hki : (k : Int) < (m : Int) := by omega
            have hkm : (k : Int) + 1 ≤ 9223372036854775807 := by omega
            obtain ⟨y, hy⟩ : ∃ y, K[k]? = some y := ⟨_, List.getElem?_eq_getElem (by rw [← HM.out]; exact hlt)⟩
            obtain ⟨rfl, hg⟩ := HG.out (by omega)
            obtain ⟨uy, p0, p1, p2, p3, p4, hv⟩ := HC.out k y hy
            have hbw := HB0.out.trans hnb.out.2.1
            have p0 := (hbw.cell (p := ⟨g, o + k * 5, none⟩) hg).trans p0
            have p1 := (hbw.cell (p := ⟨g, o + k * 5 + 1, none⟩) hg).trans p1
            have p2 := (hbw.cell (p := ⟨g, o + k * 5 + 2, none⟩) hg).trans p2
            have p3 := (hbw.cell (p := ⟨g, o + k * 5 + 3, none⟩) hg).trans p3
            have p4 := (hbw.cell (p := ⟨g, o + k * 5 + 4, none⟩) hg).trans p4
            have htk := Fm.ndsL_take (d + 1) hy
            have hs2 := Fm.sizeL_take hy
            have hs3 := Fm.sizeL_split K (k + 1)
            have hcnt : (Fm.tmsL L2 (Fm.ndsL (d + 1) (K.take k))).length + Fm.size y ≤ 900000 := by
              have h1 := Fm.tmsL_len (Fm.ndsL (d + 1) (K.take k)) L2
              rw [Fm.ndsL_len] at h1
              have := HCNT.out
              omega
            have HA := Lib.hid (HIH.out y (List.mem_of_getElem? hy) uy _ _ (d + 1) wr hv hbw ho.out (Fm.tmsL_sized _ L2 HSZ.out (fun z hz => HNMS.out z (by
              rw [← Fm.ndsL_split (d + 1) K k]; exact List.mem_append_left _ hz))) hcnt)
            have HTK : Hid (Fm.tmsL L2 (Fm.ndsL (d + 1) (K.take (k + 1))) = Fm.tmsL (Fm.tmsL L2 (Fm.ndsL (d + 1) (K.take k))) (Fm.nds (d + 1) y)) := by show _ = _; rw [htk, Fm.tmsL_append]
            clear hy hv hbw htk hs2 hs3 hcnt ho
            go_wp2_with fail
            refine HA.out.mono ?_
            rintro e w5 ⟨⟨v5, rfl, ho5⟩, hb5, hn5⟩
            have HO5 : Hid (Fm.OwnS w0.heap.size (Fm.tmsL L2 (Fm.ndsL (d + 1) (K.take (k + 1)))) v5 w5) := by rw [HTK.out]; exact ho5
            have HN5 : Hid (w5.heap[w.heap.size]? = some (.cells #[.int .i64 f.op, .string (Lx.str f.name), .int .i64 f.cmp, .int .i64 f.num, .slice (some ⟨g, o, none⟩) m c0] 24 (0, 0)) ∧ Below w0.heap.size w w5 ∧ Fm.Ns w w5) :=
              ⟨hn5.2 _ _ _ _ hnb.out.1 (by decide), hnb.out.2.1.trans hb5, hnb.out.2.2.trans hn5⟩
            clear p0 p1 p2 p3 p4 b4 ho5 hb5 hn5 HA hnb
            go_wp2_with fail
            go_roundw
            case rel => exact ⟨k + 1, by omega, by go_num, HO5, HN5⟩
            case measure => simp [intOf]; omega
          · obtain rfl : k = m := by omega
            have hki : ¬ (k : Int) < (k : Int) := by omega
            have HOE : Hid (Fm.OwnS w0.heap.size (Fm.tmsL L2 (Fm.ndsL (d + 1) K)) u1 wr) := by have := ho.out; rwa [HM.out, List.take_length] at this
            clear ho
            go_wp2_with fail
            go_ret
            exact ⟨⟨_, rfl, HOE.out⟩, hnb.out.2.1, hnb.out.2.2⟩
    · have hq : ((f.op == 4)) = false := by rw [beq_eq_false_iff_ne]; exact h4
      have HOWN : Hid (Fm.OwnS w0.heap.size L2 (.slice va l.length vc) W1) := by
        show Fm.OwnS _ _ _ _
        rw [hL2]; unfold Fm.tadd; rw [if_neg h4]; exact HOW.out
      have HNB : Hid (W1.heap[w.heap.size]? = some (.cells #[.int .i64 f.op, .string (Lx.str f.name), .int .i64 f.cmp, .int .i64 f.num, .slice a m c0] 24 (0, 0)) ∧ Below w0.heap.size w W1 ∧ Fm.Ns w W1) := ⟨HB1.out.1, HBW.out, HNS.out⟩
      clear hL2 hbb HOW HB1 HNS HBW hsz hcount HIN
      go_enter Try.func42, Try.ntmps42
      go_upto_region 3 with fail
      rw [← hW1]
      clear q0 q1 hW1
      go_wp2_with fail
      go_loopw [1, 5] (fun v i wr => ∃ k : Nat, k ≤ m ∧ i = .int .i64 k ∧ Hid (Fm.OwnS w0.heap.size (Fm.tmsL L2 (Fm.ndsL (d + 1) (K.take k))) v wr) ∧ Hid (wr.heap[w.heap.size]? = some (.cells #[.int .i64 f.op, .string (Lx.str f.name), .int .i64 f.cmp, .int .i64 f.num, .slice a m c0] 24 (0, 0)) ∧ Below w0.heap.size w wr ∧ Fm.Ns w wr)) (fun _ i _ => m - (intOf i).toNat)
      case atStart => exact ⟨0, Nat.zero_le _, rfl, (by rw [List.take_zero, Fm.ndsL]; exact HOWN.out), HNB⟩
      case round =>
        obtain ⟨k, hk, rfl, ho, hnb⟩ := hrel
        clear HOWN HNB
        have b4 := Joins.cell_of_block hnb.out.1 4
        by_cases hlt : k < m
        · have hki : (k : Int) < (m : Int) := by omega
          have hkm : (k : Int) + 1 ≤ 9223372036854775807 := by omega
          obtain ⟨y, hy⟩ : ∃ y, K[k]? = some y := ⟨_, List.getElem?_eq_getElem (by rw [← HM.out]; exact hlt)⟩
          obtain ⟨rfl, hg⟩ := HG.out (by omega)
          obtain ⟨uy, p0, p1, p2, p3, p4, hv⟩ := HC.out k y hy
          have hbw := HB0.out.trans hnb.out.2.1
          have p0 := (hbw.cell (p := ⟨g, o + k * 5, none⟩) hg).trans p0
          have p1 := (hbw.cell (p := ⟨g, o + k * 5 + 1, none⟩) hg).trans p1
          have p2 := (hbw.cell (p := ⟨g, o + k * 5 + 2, none⟩) hg).trans p2
          have p3 := (hbw.cell (p := ⟨g, o + k * 5 + 3, none⟩) hg).trans p3
          have p4 := (hbw.cell (p := ⟨g, o + k * 5 + 4, none⟩) hg).trans p4
          have htk := Fm.ndsL_take (d + 1) hy
          have hs2 := Fm.sizeL_take hy
          have hs3 := Fm.sizeL_split K (k + 1)
          have hcnt : (Fm.tmsL L2 (Fm.ndsL (d + 1) (K.take k))).length + Fm.size y ≤ 900000 := by
            have h1 := Fm.tmsL_len (Fm.ndsL (d + 1) (K.take k)) L2
            rw [Fm.ndsL_len] at h1
            have := HCNT.out
            omega
          have HA := Lib.hid (HIH.out y (List.mem_of_getElem? hy) uy _ _ (d + 1) wr hv hbw ho.out (Fm.tmsL_sized _ L2 HSZ.out (fun z hz => HNMS.out z (by
            rw [← Fm.ndsL_split (d + 1) K k]; exact List.mem_append_left _ hz))) hcnt)
          have HTK : Hid (Fm.tmsL L2 (Fm.ndsL (d + 1) (K.take (k + 1))) = Fm.tmsL (Fm.tmsL L2 (Fm.ndsL (d + 1) (K.take k))) (Fm.nds (d + 1) y)) := by show _ = _; rw [htk, Fm.tmsL_append]
          clear hy hv hbw htk hs2 hs3 hcnt ho
          go_wp2_with fail
          refine HA.out.mono ?_
          rintro e w5 ⟨⟨v5, rfl, ho5⟩, hb5, hn5⟩
          have HO5 : Hid (Fm.OwnS w0.heap.size (Fm.tmsL L2 (Fm.ndsL (d + 1) (K.take (k + 1)))) v5 w5) := by rw [HTK.out]; exact ho5
          have HN5 : Hid (w5.heap[w.heap.size]? = some (.cells #[.int .i64 f.op, .string (Lx.str f.name), .int .i64 f.cmp, .int .i64 f.num, .slice (some ⟨g, o, none⟩) m c0] 24 (0, 0)) ∧ Below w0.heap.size w w5 ∧ Fm.Ns w w5) :=
            ⟨hn5.2 _ _ _ _ hnb.out.1 (by decide), hnb.out.2.1.trans hb5, hnb.out.2.2.trans hn5⟩
          clear p0 p1 p2 p3 p4 b4 ho5 hb5 hn5 HA hnb
          go_wp2_with fail
          go_roundw
          case rel => exact ⟨k + 1, by omega, by go_num, HO5, HN5⟩
          case measure => simp [intOf]; omega
        · obtain rfl : k = m := by omega
          have hki : ¬ (k : Int) < (k : Int) := by omega
          have HOE : Hid (Fm.OwnS w0.heap.size (Fm.tmsL L2 (Fm.ndsL (d + 1) K)) u1 wr) := by have := ho.out; rwa [HM.out, List.take_length] at this
          clear ho
          go_wp2_with fail
          go_ret
          exact ⟨⟨_, rfl, HOE.out⟩, hnb.out.2.1, hnb.out.2.2⟩

set_option maxHeartbeats 2000000 in
set_option maxRecDepth 100000 in
theorem r7terms_walk (f : Fm.Fo) (u : Value) (w : World) (hat : Fm.At w f u) (hs : Fm.size f ≤ 900000) :
    Calls Try.prog 19 #[Fm.fv f u] w fun e w' => (∃ v, e = .returned v ∧ Fm.OwnS w.heap.size (Fm.tms f) v w') ∧ Below w.heap.size w w' := by
  obtain ⟨ua, un, uc, hu⟩ : ∃ a n c, u = .slice a n c := by obtain ⟨a, c, e, _⟩ := hat.kidsAt.len; exact ⟨_, _, _, e⟩
  subst hu
  obtain ⟨W1, hW1⟩ : ∃ W1, W1 = w.alloc (.cells #[.int .i64 f.op, .string (Lx.str f.name), .int .i64 f.cmp, .int .i64 f.num, .slice ua un uc] 24) := ⟨_, rfl⟩
  have hb1 : Below w.heap.size w W1 := by rw [hW1]; exact (Below.refl _ _).alloc (Nat.le_refl _) _
  have HN := Lib.hid (r7names2_walk (Fm.size f) f _ (.slice none 0 0) [] 1 w W1 (Nat.le_refl _) hat hb1 (Fm.OwnS.nil _ _) (by simp) (by simpa using hs))
  have HB := Lib.hid hb1
  clear hat hs hb1
  go_enter Try.func19, Try.ntmps19
  go_wp2_with fail
  rw [← hW1]
  refine HN.out.mono ?_
  rintro e w2 ⟨⟨v, rfl, ho⟩, hb2, _⟩
  have HO := Lib.hid (And.intro ho hb2)
  clear ho hb2
  go_wp2_with fail
  go_ret
  exact ⟨⟨_, rfl, HO.out.1⟩, HB.out.trans HO.out.2⟩
end Go.Proofs.Ytjcaingfeaaakaa
