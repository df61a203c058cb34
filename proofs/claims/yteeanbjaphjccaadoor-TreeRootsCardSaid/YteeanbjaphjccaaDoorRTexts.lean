/-
  The walk of the reference's Texts.
-/
import Derived.Test.YteeanbjaphjccaaDoorRPTexts
import Derived.Deep.DeepCutAuto
namespace Go.Proofs.YteeanbjaphjccaaDoor
open Go.RowKit

theorem Tr.texts_length : ∀ (N : Nat) (l : List Tr.T), l.length ≤ N → (Tr.texts l).length ≤ 2 * l.length + 1 - min l.length 1 - min l.length 1 := by
  intro N
  induction N with
  | zero =>
    intro l h
    have : l = [] := List.length_eq_zero_iff.1 (by omega)
    subst this
    rw [Tr.texts_nil]; simp
  | succ N ih =>
    intro l h
    match l, h with
    | [], _ => rw [Tr.texts_nil]; simp
    | [x], _ => rw [Tr.texts_one]; simp
    | x :: y :: r, h =>
      obtain ⟨l, hl⟩ : ∃ l, l = x :: y :: r := ⟨_, rfl⟩
      rw [← hl] at h ⊢
      have h2 : 2 ≤ l.length := by rw [hl]; simp
      have hk := Tr.half_pos l.length
      have hk2 := Tr.half_lt (n := l.length) h2
      rw [Tr.texts_two h2, List.length_append, List.length_append]
      have i1 := ih (l.take (Tr.half l.length)) (by rw [List.length_take]; omega)
      have i2 := ih (l.drop (Tr.half l.length)) (by rw [List.length_drop]; omega)
      rw [List.length_take] at i1
      rw [List.length_drop] at i2
      simp only [List.length_singleton]
      omega

theorem heap_drew_size (w : World) : w.drew.heap.size = w.heap.size := rfl
theorem tx_cell {w : World} {H : Nat} {x : ByteArray} (h : w.cell? ⟨H, 0, none⟩ = some (.string x)) : IsTx w (.slice (some ⟨H, 0, none⟩) 1 1) [x] := by
  refine ⟨_, _, rfl, by simp, by omega, fun _ => ⟨_, _, rfl, block_lt_of_cell h, fun j hj => ?_⟩⟩
  match j, hj with
  | 0, _ => exact h
/-- A slice of one text that was built ahead of an append into another row. -/
theorem tx_far {w w' : World} {H : Nat} {x : ByteArray} {v : Value} (h : IsTx w (.slice (some ⟨H, 0, none⟩) 1 1) [x]) (hg : w.grownBy w' v.ownBlock) (hne : ∀ k, v.ownBlock = some k → k ≠ H) : IsTx w' (.slice (some ⟨H, 0, none⟩) 1 1) [x] := by
  obtain ⟨a, cap, e, _, _, hc⟩ := h
  cases e
  obtain ⟨b, off, e, hlt, hc⟩ := hc (by simp)
  cases e
  have hc0 : w.cell? ⟨H, 0, none⟩ = some (.string x) := hc 0 (by simp)
  exact tx_cell (hg.cell hc0 (fun e => hne H e.symm rfl))

set_option maxHeartbeats 1000000 in
set_option maxRecDepth 100000 in
theorem reftexts_nil (a : Option Addr) (cap : Nat) (w : World) :
    Calls Tryd.prog 23 #[.slice a 0 cap] w (OwnOut 10000 (Tr.texts []) w) := by
  rw [Tr.texts_nil]
  go_enter Tryd.func23, Tryd.ntmps23
  go_wp2_with fail
  have hb0 := (Below.refl w.heap.size w).alloc (Nat.le_refl _) (.cells #[.string ⟨#[101, 109, 112, 116, 121]⟩] 9)
  refine (refjoined_tx _ [⟨#[101, 109, 112, 116, 121]⟩] _ (tx_one w _) (Tr.all_one (by decide)) (by simp)).mono ?_
  rintro e w1 ⟨r, rfl, hr, hz, hb1⟩
  have hbb := hb0.trans (hb1.mono hb0.size)
  clear hb0 hb1
  go_wp2_with fail
  go_ret
  exact ⟨_, [r], rfl, own_built _ _ hbb.size r, by (show [r.data.toList] = _; rw [hr.out]; rfl), Tr.all_one hz, hbb.alloc hbb.size _⟩

set_option maxHeartbeats 1000000 in
set_option maxRecDepth 100000 in
theorem reftexts_one (b off cap : Nat) (s : ByteArray) (w : World) (hs : s.size ≤ 200) (hc : w.cell? ⟨b, off, none⟩ = some (.string s)) :
    Calls Tryd.prog 23 #[.slice (some ⟨b, off, none⟩) 1 cap] w (OwnOut 10000 (Tr.texts [s.data.toList]) w) := by
  rw [Tr.texts_one]
  have HS := Lib.hid hs
  clear hs
  go_enter Tryd.func23, Tryd.ntmps23
  go_wp2_with fail
  have hb0 := (Below.refl w.heap.size w).alloc (Nat.le_refl _) (.cells #[.string ⟨#[108, 101, 97, 102]⟩, .string s] 9)
  refine (refjoined_tx _ [⟨#[108, 101, 97, 102]⟩, s] _ (tx_two w _ _) (Tr.all_two (by decide) HS.out) (by simp)).mono ?_
  rintro e w1 ⟨r, rfl, hr, hz, hb1⟩
  have hbb := hb0.trans (hb1.mono hb0.size)
  clear hb0 hb1
  go_wp2_with fail
  go_ret
  exact ⟨_, [r], rfl, own_built _ _ hbb.size r, by (show [r.data.toList] = _; rw [hr.out]; rfl), Tr.all_one hz, hbb.alloc hbb.size _⟩

set_option maxHeartbeats 8000000 in
set_option maxRecDepth 100000 in
theorem reftexts_ind (N : Nat) : ∀ (ss : List ByteArray) (v : Value) (w : World), ss.length ≤ N → N ≤ 1000 → IsTx w v ss → (∀ s ∈ ss, s.size ≤ 200) →
    Calls Tryd.prog 23 #[v] w (OwnOut 10000 (Tr.texts (Tr.bs ss)) w) := by
  induction N with
  | zero =>
    intro ss v w hN hM hv hs
    obtain rfl : ss = [] := List.length_eq_zero_iff.1 (by omega)
    obtain ⟨a, cap, rfl, _, _, _⟩ := hv
    exact reftexts_nil a cap w
  | succ N ih =>
    intro ss v w hN hM hv hs
    obtain ⟨a, cap, rfl, h1, h2, h⟩ := hv
    match ss, hN, hs, h1, h with
    | [], _, _, _, _ => exact reftexts_nil a cap w
    | [s], _, hs, _, h =>
      obtain ⟨b, off, rfl, _, hc⟩ := h (by simp)
      exact reftexts_one b off cap s w (hs s (by simp)) (hc 0 (by simp))
    | s0 :: s1 :: sr, hN, hs, h1, h =>
      obtain ⟨ss, hss⟩ : ∃ ss, ss = s0 :: s1 :: sr := ⟨_, rfl⟩
      rw [← hss] at hN hs h1 h ⊢
      have hl2 : 2 ≤ ss.length := by rw [hss]; simp
      obtain ⟨b, off, rfl, hb, hc⟩ := h (by rw [hss]; simp)
      clear hss h
      obtain ⟨i0, hii, hz0, hz1, hz2⟩ := info_parts one_str
      have HI := Lib.hid hii
      clear hii
      obtain ⟨n, hn⟩ : ∃ n, n = ss.length := ⟨_, rfl⟩
      obtain ⟨k, hk⟩ : ∃ k, k = Tr.half n := ⟨_, rfl⟩
      have hk0 : 0 < k := by rw [hk]; exact Tr.half_pos n
      have hkn : k < n := by rw [hk]; exact Tr.half_lt (by omega)
      have HL := Lib.hid (IsTx.take h1 h2 hb hc k (by omega))
      have HR := Lib.hid (IsTx.drop h1 h2 hb hc k (n - k) (cap - k) (by omega) (by omega))
      have HRL : Hid (∀ w', Tr.Old w w' → Calls Tryd.prog 16 #[.slice (some ⟨b, off, none⟩) k cap] w' (Digs (Tr.root (Tr.bs (ss.take k))) w')) := fun w' hw =>
        refroot_walk _ _ w' (by rw [List.length_take]; omega) (HL.out.below hw.out) (fun s h => hs s (List.mem_of_mem_take h))
      have HRR : Hid (∀ w', Tr.Old w w' → Calls Tryd.prog 16 #[.slice (some ⟨b, off + k, none⟩) (n - k : Nat) (cap - k)] w' (Digs (Tr.root (Tr.bs (ss.drop k))) w')) := fun w' hw =>
        refroot_walk _ _ w' (by rw [List.length_drop]; omega) (HR.out.below hw.out) (fun s h => hs s (List.mem_of_mem_drop h))
      have HTL : Hid (∀ w', Tr.Old w w' → Calls Tryd.prog 23 #[.slice (some ⟨b, off, none⟩) k cap] w' (OwnOut 10000 (Tr.texts (Tr.bs (ss.take k))) w')) := fun w' hw =>
        ih _ _ w' (by rw [List.length_take]; omega) (by omega) (HL.out.below hw.out) (fun s h => hs s (List.mem_of_mem_take h))
      have HTR : Hid (∀ w', Tr.Old w w' → Calls Tryd.prog 23 #[.slice (some ⟨b, off + k, none⟩) (n - k : Nat) (cap - k)] w' (OwnOut 10000 (Tr.texts (Tr.bs (ss.drop k))) w')) := fun w' hw =>
        ih _ _ w' (by rw [List.length_drop]; omega) (by omega) (HR.out.below hw.out) (fun s h => hs s (List.mem_of_mem_drop h))
      have hr2 := Tr.texts_two (l := Tr.bs ss) (by rw [Tr.bs_len]; exact hl2)
      rw [Tr.bs_len, ← hn, ← hk] at hr2
      rw [hr2, ← Tr.bs_take, ← Tr.bs_drop]
      have hlL := Tr.texts_length 1000 (Tr.bs (ss.take k)) (by rw [Tr.bs_len, List.length_take]; omega)
      have hlR := Tr.texts_length 1000 (Tr.bs (ss.drop k)) (by rw [Tr.bs_len, List.length_drop]; omega)
      rw [Tr.bs_len, List.length_take] at hlL
      rw [Tr.bs_len, List.length_drop, ← hn] at hlR
      have HLL : Hid ((Tr.texts (Tr.bs (ss.take k))).length ≤ 2002) := by show _ ≤ _; omega
      have HLR : Hid ((Tr.texts (Tr.bs (ss.drop k))).length ≤ 2002) := by show _ ≤ _; omega
      rw [← hn] at hN h1 hl2 ⊢
      have HK := Lib.hid hk
      have HN := Lib.hid hn
      clear hk hn hc hs hr2 ih hlL hlR
      have n1 : ((n : Int) == 0) = false := by simp; omega
      have n2 : ((n : Int) == 1) = false := by simp; omega
      have p1 : (0 : Int) ≤ (k : Int) := by omega
      have p2 : (k : Int) ≤ (cap : Int) := by omega
      have p3 : (k : Int) ≤ (n : Int) := by omega
      have p4 : (n : Int) ≤ (cap : Int) := by omega
      have p5 : ¬ cap = k := by omega
      go_enter Tryd.func23, Tryd.ntmps23
      go_wp2_with fail
      refine (half_walk n hl2 (by omega) w).mono ?_
      rintro e w1 ⟨rfl, rfl⟩
      rw [← HK.out]
      go_wp2_with fail
      go_region_held3 (fun w' => Tr.Old w w') (first | exact Tr.Old.drew w | exact Tr.Old.alloc _ (by with_reducible assumption) | exact Tr.Old.step (by with_reducible assumption) (by with_reducible assumption) | with_reducible assumption)
        (first
          | (go_at_call 16; (with_reducible refine (HRL.out _ (by with_reducible assumption)).mono ?_); rintro e w1 ⟨r1, rfl, hr1, hrz1, hb1⟩)
          | (go_at_call 16; (with_reducible refine (HRR.out _ (by with_reducible assumption)).mono ?_); rintro e w2 ⟨r2, rfl, hr2, hrz2, hb2⟩)
          | (go_at_call 52; (with_reducible refine (refjoined_tx _ [⟨#[110, 111, 100, 101]⟩, r1, r2] _ (tx_three w2 _ _ _) (Tr.all_three (by decide) (by omega) (by omega)) (by simp)).mono ?_); rintro e w3 ⟨own, rfl, hown, hzo, hb3⟩))
      rename_i hH
      have HO := Lib.hid hH
      have HOWN : Hid (own.data.toList = Dg.join [Tr.wNode, Tr.root (Tr.bs (ss.take k)), Tr.root (Tr.bs (ss.drop k))]) := by
        show _ = _
        rw [hown.out, ← hr1.out, ← hr2.out]; rfl
      clear hr1 hr2 hown hb1 hb2 hb3 hH HRL HRR
      replace HTL : Hid (∀ w', Tr.Old w3 w' → Calls Tryd.prog 23 #[.slice (some ⟨b, off, none⟩) k cap] w' (OwnOut 10000 (Tr.texts (Tr.bs (ss.take k))) w')) := fun w' h => HTL.out w' (Tr.Old.of (HO.out.out.trans (h.out.mono HO.out.out.size)))
      replace HTR : Hid (∀ w', Tr.Old w3 w' → Calls Tryd.prog 23 #[.slice (some ⟨b, off + k, none⟩) (n - k : Nat) (cap - k)] w' (OwnOut 10000 (Tr.texts (Tr.bs (ss.drop k))) w')) := fun w' h => HTR.out w' (Tr.Old.of (HO.out.out.trans (h.out.mono HO.out.out.size)))
      go_wp2_with fail
      go_region_held3 (fun w' => Tr.Old w3 w') (first | exact Tr.Old.drew w3 | exact Tr.Old.alloc _ (by with_reducible assumption) | exact Tr.Old.step (by with_reducible assumption) (by with_reducible assumption) | with_reducible assumption)
        (first
          | (go_at_call 23; (have hOa := (by with_reducible assumption : Tr.Old w3 _)); (with_reducible refine (HTL.out _ hOa).mono ?_); rintro e w4 ⟨v1, l1, rfl, ho1, hp1, hzl1, hb4⟩; have hc1 : l1.length ≤ 2002 := (by rw [Tr.len_of hp1]; exact HLL.out))
          | (go_at_call 23; (with_reducible refine (HTR.out _ (by with_reducible assumption)).mono ?_); rintro e w5 ⟨v2, l2, rfl, ho2, hp2, hzl2, hb5⟩; have hc2 : l2.length ≤ 2002 := (by rw [Tr.len_of hp2]; exact HLR.out))
          | (have hs0 := Tr.Old.out (by with_reducible assumption : Tr.Old w3 _); refine step_append_tx (by rfl) (.tmp 36) (.tmp 40) 22 rfl w3.heap.size 9 i0 (.string ⟨#[]⟩) 16 Tryd.underlying22 HI.out hz0 hz1 hz2 rfl v1 l1.length (Tr.cells l1) rfl (by first | exact own_at hb5 (own_mono ho1 hOa.out.size) | exact (own_at hb5 (own_mono ho1 hOa.out.size)).alloc _ | exact own_at hb5 ((own_mono ho1 hOa.out.size).alloc _)) v2 l2 rfl (by first | exact own_tx ho2 | exact (own_tx ho2).below ((Below.refl _ _).alloc (Nat.le_refl _) _)) (by unfold maxLen; omega) (by omega) hs0.size ?_; intro v6 w6 ho6 hg6; have hO6 := Tr.Old.grown (by with_reducible assumption) hg6 ho1 hOa.out.size)
          | (have hs0 := Tr.Old.out (by with_reducible assumption : Tr.Old w3 _); refine step_append_tx (by rfl) (.tmp 41) (.tmp 43) 22 rfl w3.heap.size 9 i0 (.string ⟨#[]⟩) 16 Tryd.underlying22 HI.out hz0 hz1 hz2 rfl v6 (l1 ++ l2).length (Tr.cells (l1 ++ l2)) rfl (by first | exact own_app ho6 | exact (own_app ho6).alloc _) _ [own] rfl (by first | exact tx_one _ own | exact tx_far (tx_one _ own) hg6 (by intro k hk; have q1 := (ho1.lt k hk).1; have q2 := (ho1.lt k hk).2; have q3 := hb5.size; (try simp only [heap_drew_size] at q1); (try simp only [heap_alloc_size] at q1); (try simp only [heap_drew_size] at q2); (try simp only [heap_alloc_size] at q2); (try simp only [heap_drew_size] at q3); (try simp only [heap_alloc_size] at q3); (try simp only [heap_drew_size]); omega) | exact tx_far ((tx_one _ own).below hb5) hg6 (by intro k hk; have q1 := (ho1.lt k hk).1; have q2 := (ho1.lt k hk).2; have q3 := hb5.size; (try simp only [heap_drew_size] at q1); (try simp only [heap_alloc_size] at q1); (try simp only [heap_drew_size] at q2); (try simp only [heap_alloc_size] at q2); (try simp only [heap_drew_size] at q3); (try simp only [heap_alloc_size] at q3); (try simp only [heap_drew_size]); omega) | exact tx_far ((((tx_one w3 own).below (Below.refl _ _).drew).below hb4).below hb5) hg6 (by intro k hk; have q1 := (ho1.lt k hk).1; have q2 := (ho1.lt k hk).2; have q3 := hb5.size; (try simp only [heap_drew_size] at q1); (try simp only [heap_alloc_size] at q1); (try simp only [heap_drew_size] at q2); (try simp only [heap_alloc_size] at q2); (try simp only [heap_drew_size] at q3); (try simp only [heap_alloc_size] at q3); (try simp only [heap_drew_size]); omega)) (by unfold maxLen; simp; omega) (by simp; omega) hs0.size ?_; intro v7 w7 ho7 hg7; have hO7 := Tr.Old.grown (by with_reducible assumption) hg7 (own_app ho6) (Nat.le_refl _)))
      all_goals
        have HX : Hid (OwnOut 10000 (Tr.texts (Tr.bs (ss.take k)) ++ Tr.texts (Tr.bs (ss.drop k)) ++ [Dg.join [Tr.wNode, Tr.root (Tr.bs (ss.take k)), Tr.root (Tr.bs (ss.drop k))]]) w (.returned v7) w7) := ⟨v7, l1 ++ l2 ++ [own], rfl, own_mono (own_snoc ho7) HO.out.out.size, Tr.bs_snoc (Tr.bs_app hp1 hp2) HOWN, Tr.small_snoc (Tr.small_app hzl1 hzl2) hzo, HO.out.out.trans (hO7.out.mono HO.out.out.size)⟩
        clear ho1 ho2 ho6 hg6 ho7 hg7 hp1 hp2 hb4 hb5 hO6 hO7 hOa HTL HTR
        go_wp2_with fail
        go_ret
        exact HX.out
end Go.Proofs.YteeanbjaphjccaaDoor
