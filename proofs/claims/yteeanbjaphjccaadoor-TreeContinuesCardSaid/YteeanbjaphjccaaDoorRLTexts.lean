/-
  The walk of the reference's LinkTexts.
-/
import Derived.Test.YteeanbjaphjccaaDoorRPTexts
namespace Go.Proofs.YteeanbjaphjccaaDoor
open Go.RowKit

set_option maxHeartbeats 1000000 in
set_option maxRecDepth 100000 in
theorem refltexts_all (n : Nat) (whole : Bool) (s v : Value) (w : World) :
    Calls Tryd.prog 25 #[.int .i64 n, .int .i64 n, .bool whole, s, v] w (OwnOut 10000 [] w) := by
  go_enter Tryd.func25, Tryd.ntmps25
  go_wp2_with fail
  go_ret
  exact ⟨_, [], rfl, World.ownsRow_nil _ _ _ _, rfl, by simp, Below.refl _ _⟩

set_option maxHeartbeats 4000000 in
set_option maxRecDepth 100000 in
theorem refltexts_ind (N : Nat) : ∀ (n m : Nat) (whole : Bool) (old : ByteArray) (ps : List ByteArray) (v : Value) (w : World), 0 < m → m ≤ n → n ≤ N → N ≤ 1000000 → old.size ≤ 200 → ps.length = Tr.llen n m whole → (∀ s ∈ ps, s.size ≤ 200) → IsTx w v ps →
    Calls Tryd.prog 25 #[.int .i64 n, .int .i64 m, .bool whole, .string old, v] w (OwnOut 10000 (Tr.ltexts n m whole old.data.toList (Tr.bs ps)) w) := by
  induction N with
  | zero => intro n m whole old ps v w h0 hmn hN; omega
  | succ N ih =>
    intro n m whole old ps v w h0 hmn hN hM ho hpl hs hv
    by_cases h1 : m = n
    · subst h1
      rw [Tr.ltexts_all rfl]
      exact refltexts_all m whole _ v w
    · obtain ⟨i0, hii, hz0, hz1, hz2⟩ := info_parts one_str
      have HI := Lib.hid hii
      clear hii
      obtain ⟨k, hk⟩ : ∃ k, k = Tr.half n := ⟨_, rfl⟩
      have hl2 : 2 ≤ n := by omega
      have hk0 : 0 < k := by rw [hk]; exact Tr.half_pos n
      have hkn : k < n := by rw [hk]; exact Tr.half_lt (by omega)
      have n1 : ((m : Int) == (n : Int)) = false := beq_eq_false_iff_ne.2 (by omega)
      obtain ⟨a, cap, rfl, h1', h2, h⟩ := hv
      by_cases hmk : m ≤ k
      · have hp := Tr.llen_left (n := n) (m := m) (whole := whole) h1 hl2 (by rw [← hk]; exact hmk)
        have hu := fun d p => Tr.ltexts_left (n := n) (m := m) (whole := whole) (old := d) (p := p) h1 hl2 (by rw [← hk]; exact hmk)
        rw [← hk] at hp hu
        obtain ⟨q, hq⟩ : ∃ q, q = Tr.llen k m whole := ⟨_, rfl⟩
        rw [← hq] at hp
        rw [hp] at hpl
        obtain ⟨b, off, rfl, hb, hc⟩ := h (by intro e; rw [e] at hpl; simp at hpl)
        have hlast := Tr.last_of hpl
        obtain ⟨x, hx⟩ : ∃ x, x = ps.getD q ByteArray.empty := ⟨_, rfl⟩
        have hxz : x.size ≤ 200 := by rw [hx]; exact Tr.getD_small hs hpl
        have hxc : w.cell? ⟨b, off + q, none⟩ = some (.string x) := by rw [hc q (by omega), hx]
        have hm20 := Tr.llen_le 20 k m whole (by omega)
        rw [← hq] at hm20
        have htake := IsTx.take h1' h2 hb hc q (by omega)
        have hptl := Tr.ltexts_length n k m whole old.data.toList (Tr.bs (ps.take q)) (by omega)
        rw [← hq] at hptl
        have HIL := Lib.hid (fun w' (h : Below w.heap.size w w') => ih k m whole old (ps.take q) _ w' (by omega) (by omega) (by omega) (by omega) ho (by rw [Tr.take_len hpl, hq]) (fun s h => hs s (List.mem_of_mem_take h)) (htake.below h))
        have HBO := Lib.hid (refboth_ind k k m whole old (ps.take q) _ w (by omega) (by omega) (Nat.le_refl _) (by omega) ho (by rw [Tr.take_len hpl, hq]) (fun s h => hs s (List.mem_of_mem_take h)) htake)
        have HU := Lib.hid (hu old.data.toList (Tr.bs ps))
        rw [hlast.1, hlast.2, ← hx] at HU
        rw [hpl] at h1' ⊢
        have HK := Lib.hid hk
        have HPT := Lib.hid hptl
        have p1 : (0 : Int) ≤ (q : Int) := by omega
        have p2 : (q : Int) ≤ (cap : Int) := by omega
        clear ih hk h1 hp hu hc hs hlast hx hq hpl h htake hptl
        go_enter Tryd.func25, Tryd.ntmps25
        go_wp2_with fail
        refine (half_walk n hl2 (by omega) w).mono ?_
        rintro e w1 ⟨rfl, rfl⟩
        rw [← HK.out]
        go_wp2_with fail
        refine HBO.out.mono ?_
        rintro e w1 ⟨ra, rb, rfl, hza, hzb, hab, hb1⟩
        go_wp2_with fail
        refine (HIL.out w1 hb1).mono ?_
        rintro e w2 ⟨v1, l1, rfl, ho1, hp1, hz1l, hb2⟩
        have HO2 := Lib.hid (own_mono ho1 hb1.size)
        have hb12 := hb1.trans (hb2.mono hb1.size)
        clear ho1 hb2
        go_wp2_with fail
        have ha := (Below.refl w2.heap.size w2).alloc (Nat.le_refl _) (.cells #[.string ⟨#[110, 111, 100, 101]⟩, .string rb, .string x] 9)
        refine (refjoined_tx _ [⟨#[110, 111, 100, 101]⟩, rb, x] _ (tx_three w2 _ _ _) (Tr.all_three (by decide) hzb hxz) (by simp)).mono ?_
        rintro e w4 ⟨r3, rfl, hr3, hz3, hb4⟩
        have hb34 := ha.trans (hb4.mono ha.size)
        have HO4 := Lib.hid (own_at hb34 HO2.out)
        have hb14 := hb12.trans (hb34.mono hb12.size)
        clear hb4 ha hb34
        have hs0 : w.heap.size ≤ (w4.alloc (.cells #[.string r3] 9)).heap.size := by rw [heap_alloc_size]; have := hb14.size; omega
        have hl20 : l1.length ≤ 42 := by have := HPT.out; rw [Tr.len_of hp1]; omega
        go_wp2_with (at_builtin; refine wpList_append_tx rfl (.tmp 52) (.tmp 57) 22 rfl w.heap.size 9 i0 (.string ⟨#[]⟩) 16 Tryd.underlying22 HI.out hz0 hz1 hz2 rfl v1 l1.length (Tr.cells l1) rfl (HO4.out.alloc _) _ [r3] rfl (tx_one _ _) (by unfold maxLen; simp; omega) (by simp; omega) (by first | exact hs0 | (simp; omega)) ?_)
        intro v5 w5 ho5 hg5
        have HO5 := Lib.hid (own_snoc ho5)
        have hb15 : Below w.heap.size w w5 := (hb14.alloc hb14.size _).grown hg5 hs0 (fun k hk => (HO2.out.lt k hk).1)
        have HX : Hid (r3.data.toList = Dg.join [Tr.wNode, (Tr.both k m whole old.data.toList (Tr.bs (ps.take q))).2, x.data.toList]) := by
          show _ = _
          rw [hr3.out, ← hab.out]; rfl
        clear ho5 hg5 hr3 hab
        go_wp2_with fail
        go_ret
        rw [HU.out]
        exact ⟨v5, l1 ++ [r3], rfl, HO5.out, Tr.bs_snoc hp1 HX, Tr.small_snoc hz1l hz3, hb15⟩
      · have hp := Tr.llen_right (n := n) (m := m) (whole := whole) h1 hl2 (by rw [← hk]; exact hmk)
        have hu := fun d p => Tr.ltexts_right (n := n) (m := m) (whole := whole) (old := d) (p := p) h1 hl2 (by rw [← hk]; exact hmk)
        rw [← hk] at hp hu
        obtain ⟨q, hq⟩ : ∃ q, q = Tr.llen (n - k) (m - k) false := ⟨_, rfl⟩
        rw [← hq] at hp
        rw [hp] at hpl
        obtain ⟨b, off, rfl, hb, hc⟩ := h (by intro e; rw [e] at hpl; simp at hpl)
        have hlast := Tr.last_of hpl
        obtain ⟨x, hx⟩ : ∃ x, x = ps.getD q ByteArray.empty := ⟨_, rfl⟩
        have hxz : x.size ≤ 200 := by rw [hx]; exact Tr.getD_small hs hpl
        have hxc : w.cell? ⟨b, off + q, none⟩ = some (.string x) := by rw [hc q (by omega), hx]
        have hm20 := Tr.llen_le 20 (n - k) (m - k) false (by omega)
        rw [← hq] at hm20
        have htake := IsTx.take h1' h2 hb hc q (by omega)
        have hptl := Tr.ltexts_length n (n - k) (m - k) false old.data.toList (Tr.bs (ps.take q)) (by omega)
        rw [← hq] at hptl
        have HIL := Lib.hid (fun w' (h : Below w.heap.size w w') => ih (n - k) (m - k) false old (ps.take q) _ w' (by omega) (by omega) (by omega) (by omega) ho (by rw [Tr.take_len hpl, hq]) (fun s h => hs s (List.mem_of_mem_take h)) (htake.below h))
        have HBO := Lib.hid (refboth_ind (n - k) (n - k) (m - k) false old (ps.take q) _ w (by omega) (by omega) (Nat.le_refl _) (by omega) ho (by rw [Tr.take_len hpl, hq]) (fun s h => hs s (List.mem_of_mem_take h)) htake)
        rw [show ((n - k : Nat) : Int) = (n : Int) - (k : Int) by omega, show ((m - k : Nat) : Int) = (m : Int) - (k : Int) by omega] at HIL HBO
        have HU := Lib.hid (hu old.data.toList (Tr.bs ps))
        rw [hlast.1, hlast.2, ← hx] at HU
        rw [hpl] at h1' ⊢
        have HK := Lib.hid hk
        have HPT := Lib.hid hptl
        have p1 : (0 : Int) ≤ (q : Int) := by omega
        have p2 : (q : Int) ≤ (cap : Int) := by omega
        clear ih hk h1 hp hu hc hs hlast hx hq hpl h htake hptl
        go_enter Tryd.func25, Tryd.ntmps25
        go_wp2_with fail
        refine (half_walk n hl2 (by omega) w).mono ?_
        rintro e w1 ⟨rfl, rfl⟩
        rw [← HK.out]
        go_wp2_with fail
        refine HBO.out.mono ?_
        rintro e w1 ⟨ra, rb, rfl, hza, hzb, hab, hb1⟩
        go_wp2_with fail
        refine (HIL.out w1 hb1).mono ?_
        rintro e w2 ⟨v1, l1, rfl, ho1, hp1, hz1l, hb2⟩
        have HO2 := Lib.hid (own_mono ho1 hb1.size)
        have hb12 := hb1.trans (hb2.mono hb1.size)
        clear ho1 hb2
        go_wp2_with fail
        have ha := (Below.refl w2.heap.size w2).alloc (Nat.le_refl _) (.cells #[.string ⟨#[110, 111, 100, 101]⟩, .string x, .string ra] 9)
        refine (refjoined_tx _ [⟨#[110, 111, 100, 101]⟩, x, ra] _ (tx_three w2 _ _ _) (Tr.all_three (by decide) hxz hza) (by simp)).mono ?_
        rintro e w4 ⟨r3, rfl, hr3, hz3, hb4⟩
        have hb34 := ha.trans (hb4.mono ha.size)
        have HO4 := Lib.hid (own_at hb34 HO2.out)
        have hb14 := hb12.trans (hb34.mono hb12.size)
        clear hb4 ha hb34
        have hs0 : w.heap.size ≤ (w4.alloc (.cells #[.string r3] 9)).heap.size := by rw [heap_alloc_size]; have := hb14.size; omega
        have hl20 : l1.length ≤ 42 := by have := HPT.out; rw [Tr.len_of hp1]; omega
        go_wp2_with (at_builtin; refine wpList_append_tx rfl (.tmp 79) (.tmp 84) 22 rfl w.heap.size 9 i0 (.string ⟨#[]⟩) 16 Tryd.underlying22 HI.out hz0 hz1 hz2 rfl v1 l1.length (Tr.cells l1) rfl (HO4.out.alloc _) _ [r3] rfl (tx_one _ _) (by unfold maxLen; simp; omega) (by simp; omega) (by first | exact hs0 | (simp; omega)) ?_)
        intro v5 w5 ho5 hg5
        have HO5 := Lib.hid (own_snoc ho5)
        have hb15 : Below w.heap.size w w5 := (hb14.alloc hb14.size _).grown hg5 hs0 (fun k hk => (HO2.out.lt k hk).1)
        have HX : Hid (r3.data.toList = Dg.join [Tr.wNode, x.data.toList, (Tr.both (n - k) (m - k) false old.data.toList (Tr.bs (ps.take q))).1]) := by
          show _ = _
          rw [hr3.out, ← hab.out]; rfl
        clear ho5 hg5 hr3 hb14 hs0
        go_wp2_with fail
        have ha := (Below.refl w5.heap.size w5).alloc (Nat.le_refl _) (.cells #[.string ⟨#[110, 111, 100, 101]⟩, .string x, .string rb] 9)
        refine (refjoined_tx _ [⟨#[110, 111, 100, 101]⟩, x, rb] _ (tx_three w5 _ _ _) (Tr.all_three (by decide) hxz hzb) (by simp)).mono ?_
        rintro e w6 ⟨r6, rfl, hr6, hz6, hb6⟩
        have hb56 := ha.trans (hb6.mono ha.size)
        have HO6 := Lib.hid (own_at hb56 HO5.out)
        have hb16 := hb15.trans (hb56.mono hb15.size)
        clear hb6 ha hb56
        have hs0 : w.heap.size ≤ (w6.alloc (.cells #[.string r6] 9)).heap.size := by rw [heap_alloc_size]; have := hb16.size; omega
        have hl21 : (l1 ++ [r3]).length ≤ 43 := by rw [List.length_append, List.length_singleton]; omega
        obtain ⟨l2, hl2e⟩ : ∃ l2, l2 = l1 ++ [r3] := ⟨_, rfl⟩
        rw [← hl2e] at HO6 hl21
        have HL2 := Lib.hid hl2e
        clear hl2e
        go_wp2_with (at_builtin; refine wpList_append_tx rfl (.tmp 86) (.tmp 91) 22 rfl w.heap.size 9 i0 (.string ⟨#[]⟩) 16 Tryd.underlying22 HI.out hz0 hz1 hz2 rfl v5 l2.length (Tr.cells l2) rfl (HO6.out.alloc _) _ [r6] rfl (tx_one _ _) (by unfold maxLen; simp; omega) (by simp; omega) (by first | exact hs0 | (simp; omega)) ?_)
        intro v7 w7 ho7 hg7
        have HO7 := Lib.hid (own_snoc ho7)
        have hb17 : Below w.heap.size w w7 := (hb16.alloc hb16.size _).grown hg7 hs0 (fun k hk => (HO6.out.lt k hk).1)
        have HX6 : Hid (r6.data.toList = Dg.join [Tr.wNode, x.data.toList, (Tr.both (n - k) (m - k) false old.data.toList (Tr.bs (ps.take q))).2]) := by
          show _ = _
          rw [hr6.out, ← hab.out]; rfl
        clear ho7 hg7 hr6 hab
        go_wp2_with fail
        go_ret
        rw [HU.out]
        have hs12 : ∀ s ∈ l2, s.size ≤ 10000 := by rw [HL2.out]; exact Tr.small_snoc hz1l hz3
        have hp12 := Tr.bs_snoc hp1 HX
        rw [← HL2.out] at hp12
        exact ⟨v7, l2 ++ [r6], rfl, HO7.out, Tr.bs_snoc hp12 HX6, Tr.small_snoc hs12 hz6, hb17⟩
end Go.Proofs.YteeanbjaphjccaaDoor
