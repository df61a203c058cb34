/-
  The walks of the reference's PathTexts and LinkTexts.
-/
import Derived.Test.YteeanbjaphjccaaDoorRUp
import Derived.Test.YteeanbjaphjccaaDoorROwn
import Derived.Test.YteeanbjaphjccaaDoorTApp
import Derived.Test.YteeanbjaphjccaaDoorTBind
import Derived.Test.YteeanbjaphjccaaDoorTLink
namespace Go.Proofs.YteeanbjaphjccaaDoor
open Go.RowKit

/-- The joined text of a short list, of at most ten thousand bytes. -/
theorem refjoined_tx (v : Value) (ss : List ByteArray) (w : World) (hv : IsTx w v ss) (hs : ∀ s ∈ ss, s.size ≤ 200) (hl : ss.length ≤ 30) :
    Calls Tryd.prog 52 #[v] w fun e w' => ∃ r : ByteArray, e = .returned (.string r) ∧ Hid (r.data.toList = Dg.join (Tr.bs ss)) ∧ r.size ≤ 10000 ∧ Below w.heap.size w w' :=
  refjoined_any v ss w hv.texts (Tr.few_of hs hl)

theorem own_mono {w : World} {base base' : Nat} {e : TypeId} {size : Nat} {v : Value} {n : Nat} {xs : List Value} (h : w.ownsRow base e size v n xs) (hb : base' ≤ base) : w.ownsRow base' e size v n xs := by
  refine ⟨h.1, ?_⟩
  rcases h.2 with hn | ⟨g, cap, cur, rfl, h1, rest⟩
  · exact .inl hn
  · exact .inr ⟨g, cap, cur, rfl, Nat.le_trans hb h1, rest⟩
theorem Tr.bs_app {a b : List ByteArray} {p q : List Tr.T} (ha : Hid (Tr.bs a = p)) (hb : Hid (Tr.bs b = q)) : Hid (Tr.bs (a ++ b) = p ++ q) := by
  show _ = _
  rw [← ha.out, ← hb.out]; simp
theorem Tr.small_app {a b : List ByteArray} {n : Nat} (ha : ∀ s ∈ a, s.size ≤ n) (hb : ∀ s ∈ b, s.size ≤ n) : ∀ s ∈ a ++ b, s.size ≤ n := fun s hs => by
  rcases List.mem_append.1 hs with h | h
  · exact ha s h
  · exact hb s h
theorem own_app {w : World} {base : Nat} {v : Value} {a b : List ByteArray} (h : w.ownsRow base 9 1 v (a.length + b.length) (Tr.cells a ++ Tr.cells b)) : w.ownsRow base 9 1 v (a ++ b).length (Tr.cells (a ++ b)) := by
  rw [List.length_append, Tr.cells, List.map_append]; exact h
theorem heap_alloc_size (w : World) (o : Obj) : (w.alloc o).heap.size = w.heap.size + 1 := by simp

/-- How many texts are digested for a path. -/
theorem Tr.ptexts_length : ∀ (N n i : Nat) (s : Tr.T) (p : List Tr.T), n ≤ N → (Tr.ptexts n i s p).length = Tr.plen n i + 1 := by
  intro N
  induction N with
  | zero => intro n i s p h; rw [Tr.ptexts_one (by omega), Tr.plen_one (by omega)]; rfl
  | succ N ih =>
    intro n i s p h
    by_cases h1 : n ≤ 1
    · rw [Tr.ptexts_one h1, Tr.plen_one h1]; rfl
    · have hk := Tr.half_pos n
      have hk2 := Tr.half_lt (n := n) (by omega)
      by_cases hi : i < Tr.half n
      · rw [Tr.ptexts_left (by omega) hi, Tr.plen_left (by omega) hi, List.length_append, ih _ _ _ _ (by omega)]; rfl
      · rw [Tr.ptexts_right (by omega) hi, Tr.plen_right (by omega) hi, List.length_append, ih _ _ _ _ (by omega)]; rfl
theorem Tr.ltexts_length : ∀ (N n m : Nat) (whole : Bool) (o : Tr.T) (p : List Tr.T), n ≤ N → (Tr.ltexts n m whole o p).length ≤ 2 * Tr.llen n m whole := by
  intro N
  induction N with
  | zero =>
    intro n m whole o p h
    by_cases e : m = n
    · rw [Tr.ltexts_all e]; simp
    · rw [Tr.ltexts, if_neg e, dif_pos (by omega)]; simp
  | succ N ih =>
    intro n m whole o p h
    by_cases e : m = n
    · rw [Tr.ltexts_all e]; simp
    · by_cases h1 : n ≤ 1
      · rw [Tr.ltexts, if_neg e, dif_pos h1]; simp
      · have hk := Tr.half_pos n
        have hk2 := Tr.half_lt (n := n) (by omega)
        by_cases hi : m ≤ Tr.half n
        · rw [Tr.ltexts_left e (by omega) hi, Tr.llen_left e (by omega) hi, List.length_append]
          have := ih (Tr.half n) m whole o p.dropLast (by omega)
          simp only [List.length_singleton]; omega
        · rw [Tr.ltexts_right e (by omega) hi, Tr.llen_right e (by omega) hi, List.length_append, List.length_append]
          have := ih (n - Tr.half n) (m - Tr.half n) false o p.dropLast (by omega)
          simp only [List.length_singleton]; omega

set_option maxHeartbeats 1000000 in
set_option maxRecDepth 100000 in
theorem refptexts_one (i : Nat) (s : ByteArray) (hs : s.size ≤ 200) (v : Value) (w : World) :
    Calls Tryd.prog 24 #[.int .i64 1, .int .i64 i, .string s, v] w (OwnOut 10000 [Dg.join [Tr.wLeaf, s.data.toList]] w) := by
  have HS := Lib.hid hs
  clear hs
  go_enter Tryd.func24, Tryd.ntmps24
  go_wp2_with fail
  have hb0 := (Below.refl w.heap.size w).alloc (Nat.le_refl _) (.cells #[.string ⟨#[108, 101, 97, 102]⟩, .string s] 9)
  refine (refjoined_tx _ [⟨#[108, 101, 97, 102]⟩, s] _ (tx_two w _ _) (Tr.all_two (by decide) HS.out) (by simp)).mono ?_
  rintro e w1 ⟨r, rfl, hr, hz, hb1⟩
  have hbb := hb0.trans (hb1.mono hb0.size)
  clear hb0 hb1
  go_wp2_with fail
  go_ret
  exact ⟨_, [r], rfl, own_built _ _ hbb.size r, by (show [r.data.toList] = _; rw [hr.out]; rfl), Tr.all_one hz, hbb.alloc hbb.size _⟩

set_option maxHeartbeats 4000000 in
set_option maxRecDepth 100000 in
theorem refptexts_ind (N : Nat) : ∀ (n i : Nat) (s : ByteArray) (ps : List ByteArray) (v : Value) (w : World), n ≤ N → N ≤ 1000000 → i < n → s.size ≤ 200 → ps.length = Tr.plen n i → (∀ s ∈ ps, s.size ≤ 200) → IsTx w v ps →
    Calls Tryd.prog 24 #[.int .i64 n, .int .i64 i, .string s, v] w (OwnOut 10000 (Tr.ptexts n i s.data.toList (Tr.bs ps)) w) := by
  induction N with
  | zero => intro n i s ps v w hN _ hi; omega
  | succ N ih =>
    intro n i s ps v w hN hM hi hss hpl hs hv
    by_cases h1 : n = 1
    · subst h1
      rw [Tr.ptexts_one (Nat.le_refl _)]
      exact refptexts_one i s hss v w
    · obtain ⟨i0, hii, hz0, hz1, hz2⟩ := info_parts one_str
      have HI := Lib.hid hii
      clear hii
      obtain ⟨k, hk⟩ : ∃ k, k = Tr.half n := ⟨_, rfl⟩
      have hl2 : 2 ≤ n := by omega
      have hk0 : 0 < k := by rw [hk]; exact Tr.half_pos n
      have hkn : k < n := by rw [hk]; exact Tr.half_lt (by omega)
      have n1 : ((n : Int) == 1) = false := beq_eq_false_iff_ne.2 (by omega)
      obtain ⟨a, cap, rfl, h1', h2, h⟩ := hv
      by_cases hik : i < k
      · have hp := Tr.plen_left (n := n) (i := i) hl2 (by rw [← hk]; exact hik)
        have hu := fun d p => Tr.ptexts_left (n := n) (i := i) (s := d) (p := p) hl2 (by rw [← hk]; exact hik)
        rw [← hk] at hp hu
        obtain ⟨m, hm⟩ : ∃ m, m = Tr.plen k i := ⟨_, rfl⟩
        rw [← hm] at hp
        rw [hp] at hpl
        obtain ⟨b, off, rfl, hb, hc⟩ := h (by intro e; rw [e] at hpl; simp at hpl)
        have hlast := Tr.last_of hpl
        obtain ⟨x, hx⟩ : ∃ x, x = ps.getD m ByteArray.empty := ⟨_, rfl⟩
        have hxz : x.size ≤ 200 := by rw [hx]; exact Tr.getD_small hs hpl
        have hxc : w.cell? ⟨b, off + m, none⟩ = some (.string x) := by rw [hc m (by omega), hx]
        have hm20 := Tr.plen_le 20 k i (by omega)
        rw [← hm] at hm20
        have htake := IsTx.take h1' h2 hb hc m (by omega)
        have hptl := Tr.ptexts_length n k i s.data.toList (Tr.bs (ps.take m)) (by omega)
        rw [← hm] at hptl
        have HIL := Lib.hid (ih k i s (ps.take m) _ w (by omega) (by omega) (by omega) hss (by rw [Tr.take_len hpl, hm]) (fun s h => hs s (List.mem_of_mem_take h)) htake)
        have HUP := Lib.hid (fun (d : ByteArray) (hd : d.size ≤ 16) w' (h : Below w.heap.size w w') => refup_ind k k i d (ps.take m) _ w' (Nat.le_refl _) (by omega) (by omega) hd (by rw [Tr.take_len hpl, hm]) (fun s h => hs s (List.mem_of_mem_take h)) (htake.below h))
        rw [hu, hlast.1, hlast.2, ← hx]
        rw [hpl] at h1' ⊢
        have HK := Lib.hid hk
        have HPT := Lib.hid hptl
        have HSS := Lib.hid hss
        have p1 : (0 : Int) ≤ (m : Int) := by omega
        have p2 : (m : Int) ≤ (cap : Int) := by omega
        clear ih hk h1 hp hu hc hs hlast hx hm hpl h htake hptl hss
        go_enter Tryd.func24, Tryd.ntmps24
        go_wp2_with fail
        refine (half_walk n hl2 (by omega) w).mono ?_
        rintro e w1 ⟨rfl, rfl⟩
        rw [← HK.out]
        go_wp2_with fail
        refine HIL.out.mono ?_
        rintro e w1 ⟨v1, l1, rfl, ho1, hp1, hz1l, hb1⟩
        have HO1 := Lib.hid ho1
        clear ho1
        go_wp2_with fail
        refine (refleaf_walk s HSS.out w1).mono ?_
        rintro e w2 ⟨r1, rfl, hr1, hz1r, hb2⟩
        have HO2 := Lib.hid (own_at hb2 HO1.out)
        have hb12 := hb1.trans (hb2.mono hb1.size)
        clear hb2
        go_wp2_with fail
        refine (HUP.out r1 hz1r w2 hb12).mono ?_
        rintro e w3 ⟨r2, rfl, hr2, hz2r, hb3⟩
        have HO3 := Lib.hid (own_at hb3 HO2.out)
        have hb13 := hb12.trans (hb3.mono hb12.size)
        clear hb3
        go_wp2_with fail
        have ha := (Below.refl w3.heap.size w3).alloc (Nat.le_refl _) (.cells #[.string ⟨#[110, 111, 100, 101]⟩, .string r2, .string x] 9)
        refine (refjoined_tx _ [⟨#[110, 111, 100, 101]⟩, r2, x] _ (tx_three w3 _ _ _) (Tr.all_three (by decide) (by omega) hxz) (by simp)).mono ?_
        rintro e w4 ⟨r3, rfl, hr3, hz3, hb4⟩
        have hb34 := ha.trans (hb4.mono ha.size)
        have HO4 := Lib.hid (own_at hb34 HO3.out)
        have hb14 := hb13.trans (hb34.mono hb13.size)
        clear hb4 ha hb34
        have hs0 : w.heap.size ≤ (w4.alloc (.cells #[.string r3] 9)).heap.size := by rw [heap_alloc_size]; have := hb14.size; omega
        have hl20 : l1.length ≤ 21 := by rw [Tr.len_of hp1, HPT.out]; omega
        go_wp2_with (at_builtin; refine wpList_append_tx rfl (.tmp 38) (.tmp 48) 22 rfl w.heap.size 9 i0 (.string ⟨#[]⟩) 16 Tryd.underlying22 HI.out hz0 hz1 hz2 rfl v1 l1.length (Tr.cells l1) rfl (HO4.out.alloc _) _ [r3] rfl (tx_one _ _) (by unfold maxLen; simp; omega) (by simp; omega) (by first | exact hs0 | (simp; omega)) ?_)
        intro v5 w5 ho5 hg5
        have HO5 := Lib.hid (own_snoc ho5)
        have hb15 : Below w.heap.size w w5 := (hb14.alloc hb14.size _).grown hg5 hs0 (fun k hk => (HO1.out.lt k hk).1)
        have hr : Hid (r3.data.toList = _) := hr3
        have HX : Hid (r3.data.toList = Dg.join [Tr.wNode, Tr.up k i (Tr.leaf s.data.toList) (Tr.bs (ps.take m)), x.data.toList]) := by
          show _ = _
          rw [hr3.out]; show Dg.join [Tr.wNode, r2.data.toList, x.data.toList] = _; rw [hr2.out, hr1.out]
        clear ho5 hg5 hr hr3 hr2 hr1
        go_wp2_with fail
        go_ret
        exact ⟨v5, l1 ++ [r3], rfl, HO5.out, Tr.bs_snoc hp1 HX, Tr.small_snoc hz1l hz3, hb15⟩
      · have hp := Tr.plen_right (n := n) (i := i) hl2 (by rw [← hk]; exact hik)
        have hu := fun d p => Tr.ptexts_right (n := n) (i := i) (s := d) (p := p) hl2 (by rw [← hk]; exact hik)
        rw [← hk] at hp hu
        obtain ⟨m, hm⟩ : ∃ m, m = Tr.plen (n - k) (i - k) := ⟨_, rfl⟩
        rw [← hm] at hp
        rw [hp] at hpl
        obtain ⟨b, off, rfl, hb, hc⟩ := h (by intro e; rw [e] at hpl; simp at hpl)
        have hlast := Tr.last_of hpl
        obtain ⟨x, hx⟩ : ∃ x, x = ps.getD m ByteArray.empty := ⟨_, rfl⟩
        have hxz : x.size ≤ 200 := by rw [hx]; exact Tr.getD_small hs hpl
        have hxc : w.cell? ⟨b, off + m, none⟩ = some (.string x) := by rw [hc m (by omega), hx]
        have hm20 := Tr.plen_le 20 (n - k) (i - k) (by omega)
        rw [← hm] at hm20
        have htake := IsTx.take h1' h2 hb hc m (by omega)
        have hptl := Tr.ptexts_length n (n - k) (i - k) s.data.toList (Tr.bs (ps.take m)) (by omega)
        rw [← hm] at hptl
        have HIL := Lib.hid (ih (n - k) (i - k) s (ps.take m) _ w (by omega) (by omega) (by omega) hss (by rw [Tr.take_len hpl, hm]) (fun s h => hs s (List.mem_of_mem_take h)) htake)
        have HUP := Lib.hid (fun (d : ByteArray) (hd : d.size ≤ 16) w' (h : Below w.heap.size w w') => refup_ind (n - k) (n - k) (i - k) d (ps.take m) _ w' (Nat.le_refl _) (by omega) (by omega) hd (by rw [Tr.take_len hpl, hm]) (fun s h => hs s (List.mem_of_mem_take h)) (htake.below h))
        rw [show ((n - k : Nat) : Int) = (n : Int) - (k : Int) by omega, show ((i - k : Nat) : Int) = (i : Int) - (k : Int) by omega] at HIL HUP
        rw [hu, hlast.1, hlast.2, ← hx]
        rw [hpl] at h1' ⊢
        have HK := Lib.hid hk
        have HPT := Lib.hid hptl
        have HSS := Lib.hid hss
        have p1 : (0 : Int) ≤ (m : Int) := by omega
        have p2 : (m : Int) ≤ (cap : Int) := by omega
        clear ih hk h1 hp hu hc hs hlast hx hm hpl h htake hptl hss
        go_enter Tryd.func24, Tryd.ntmps24
        go_wp2_with fail
        refine (half_walk n hl2 (by omega) w).mono ?_
        rintro e w1 ⟨rfl, rfl⟩
        rw [← HK.out]
        go_wp2_with fail
        refine HIL.out.mono ?_
        rintro e w1 ⟨v1, l1, rfl, ho1, hp1, hz1l, hb1⟩
        have HO1 := Lib.hid ho1
        clear ho1
        go_wp2_with fail
        refine (refleaf_walk s HSS.out w1).mono ?_
        rintro e w2 ⟨r1, rfl, hr1, hz1r, hb2⟩
        have HO2 := Lib.hid (own_at hb2 HO1.out)
        have hb12 := hb1.trans (hb2.mono hb1.size)
        clear hb2
        go_wp2_with fail
        refine (HUP.out r1 hz1r w2 hb12).mono ?_
        rintro e w3 ⟨r2, rfl, hr2, hz2r, hb3⟩
        have HO3 := Lib.hid (own_at hb3 HO2.out)
        have hb13 := hb12.trans (hb3.mono hb12.size)
        clear hb3
        go_wp2_with fail
        have ha := (Below.refl w3.heap.size w3).alloc (Nat.le_refl _) (.cells #[.string ⟨#[110, 111, 100, 101]⟩, .string x, .string r2] 9)
        refine (refjoined_tx _ [⟨#[110, 111, 100, 101]⟩, x, r2] _ (tx_three w3 _ _ _) (Tr.all_three (by decide) hxz (by omega)) (by simp)).mono ?_
        rintro e w4 ⟨r3, rfl, hr3, hz3, hb4⟩
        have hb34 := ha.trans (hb4.mono ha.size)
        have HO4 := Lib.hid (own_at hb34 HO3.out)
        have hb14 := hb13.trans (hb34.mono hb13.size)
        clear hb4 ha hb34
        have hs0 : w.heap.size ≤ (w4.alloc (.cells #[.string r3] 9)).heap.size := by rw [heap_alloc_size]; have := hb14.size; omega
        have hl20 : l1.length ≤ 21 := by rw [Tr.len_of hp1, HPT.out]; omega
        go_wp2_with (at_builtin; refine wpList_append_tx rfl (.tmp 58) (.tmp 72) 22 rfl w.heap.size 9 i0 (.string ⟨#[]⟩) 16 Tryd.underlying22 HI.out hz0 hz1 hz2 rfl v1 l1.length (Tr.cells l1) rfl (HO4.out.alloc _) _ [r3] rfl (tx_one _ _) (by unfold maxLen; simp; omega) (by simp; omega) (by first | exact hs0 | (simp; omega)) ?_)
        intro v5 w5 ho5 hg5
        have HO5 := Lib.hid (own_snoc ho5)
        have hb15 : Below w.heap.size w w5 := (hb14.alloc hb14.size _).grown hg5 hs0 (fun k hk => (HO1.out.lt k hk).1)
        have hr : Hid (r3.data.toList = _) := hr3
        have HX : Hid (r3.data.toList = Dg.join [Tr.wNode, x.data.toList, Tr.up (n - k) (i - k) (Tr.leaf s.data.toList) (Tr.bs (ps.take m))]) := by
          show _ = _
          rw [hr3.out]; show Dg.join [Tr.wNode, x.data.toList, r2.data.toList] = _; rw [hr2.out, hr1.out]
        clear ho5 hg5 hr hr3 hr2 hr1
        go_wp2_with fail
        go_ret
        exact ⟨v5, l1 ++ [r3], rfl, HO5.out, Tr.bs_snoc hp1 HX, Tr.small_snoc hz1l hz3, hb15⟩
end Go.Proofs.YteeanbjaphjccaaDoor
