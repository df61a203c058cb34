import Derived.Test.YthhfcijgcpnfcaaDoorKROwn2
import Derived.Test.YthhfcijgcpnfcaaDoorKTBind
import Derived.Test.YthhfcijgcpnfcaaDoorKTPathFn
import Derived.WalkKit
import Derived.WalkSpells
import Derived.WalkLawsBesides
import Derived.WalkSmall
import Derived.Lib.Hide
import Derived.Deep.RegionHeld3
/-
  The walks of the reference's path and Path.
-/
namespace Go.Proofs.YthhfcijgcpnfcaaDoor
open Go.RowKit

theorem Tr.app_one {ps : List ByteArray} {r : ByteArray} {p : List Tr.T} {d : Tr.T} {S : Nat} {w w3 : World} {g cap : Nat} (hps : Hid (Tr.bs ps = p)) (hz : ∀ s ∈ ps, s.size ≤ S) (hr : Hid (r.data.toList = d)) (hrz : r.size ≤ S)
    (hown : w3.ownsRow w.heap.size 9 1 (.slice (some ⟨g, 0, none⟩) (ps.length + 1) cap) (ps.length + 1) (Tr.cells ps ++ [.string r])) (hb : Below w.heap.size w w3) :
    OwnOut S (p ++ [d]) w (.returned (.slice (some ⟨g, 0, none⟩) (ps.length + 1) cap)) w3 :=
  ⟨_, ps ++ [r], rfl, own_snoc hown, Tr.bs_snoc hps hr, Tr.small_snoc hz hrz, hb⟩

set_option maxHeartbeats 1000000 in
set_option maxRecDepth 100000 in
theorem refpath_one (a : Option Addr) (cap : Nat) (i : Nat) (w : World) :
    Calls Tryd.prog 67 #[.slice a 1 cap, .int .i64 i] w (OwnOut 16 [] w) := by
  go_enter Tryd.func67, Tryd.ntmps67
  go_wp2_with fail
  go_ret
  exact ⟨_, [], rfl, World.ownsRow_nil _ _ _ _, rfl, by simp, Below.refl _ _⟩

set_option maxHeartbeats 4000000 in
set_option maxRecDepth 100000 in
theorem refpath_ind (N : Nat) : ∀ (ss : List ByteArray) (v : Value) (i : Nat) (w : World), 0 < ss.length → ss.length ≤ N → N ≤ 4611686018427387904 → i < ss.length → IsTx w v ss → (∀ s ∈ ss, s.size ≤ 200) →
    Calls Tryd.prog 67 #[v, .int .i64 i] w (OwnOut 16 (Tr.path (Tr.bs ss) i) w) := by
  induction N with
  | zero => intro ss v i w h0 hN; omega
  | succ N ih =>
    intro ss v i w h0 hN hM hi hv hs
    obtain ⟨a, cap, rfl, hc1, hc2, h⟩ := hv
    by_cases h1 : ss.length = 1
    · rw [Tr.path_one (by rw [Tr.bs_len]; omega), h1]
      exact refpath_one a cap i w
    · obtain ⟨i0, hii, hz0, hz1, hz2⟩ := info_parts one_str
      have HI := Lib.hid hii
      clear hii
      obtain ⟨b, off, rfl, hb, hc⟩ := h (by intro e; rw [e] at h0; simp at h0)
      obtain ⟨n, hn⟩ : ∃ n, n = ss.length := ⟨_, rfl⟩
      obtain ⟨k, hk⟩ : ∃ k, k = Tr.half n := ⟨_, rfl⟩
      have hl2 : 2 ≤ n := by omega
      have hk0 : 0 < k := by rw [hk]; exact Tr.half_pos n
      have hkn : k < n := by rw [hk]; exact Tr.half_lt (by omega)
      have HL := Lib.hid (IsTx.take hc1 hc2 hb hc k (by omega))
      have HR := Lib.hid (IsTx.drop hc1 hc2 hb hc k (n - k) (cap - k) (by omega) (by omega))
      have p1 : (0 : Int) ≤ (k : Int) := by omega
      have p2 : (k : Int) ≤ (cap : Int) := by omega
      have p3 : (k : Int) ≤ (n : Int) := by omega
      have p4 : (n : Int) ≤ (cap : Int) := by omega
      have p5 : ¬ cap = k := by omega
      have n1 : ((n : Int) == 1) = false := by simp; omega
      have HLT : Hid (∀ w', Tr.Old w w' → Calls Tryd.prog 29 #[.slice (some ⟨b, off, none⟩) k cap] w' (Digs (Tr.root (Tr.bs (ss.take k))) w')) := fun w' hw =>
        refroot_walk _ _ w' (by rw [List.length_take]; omega) (HL.out.below hw.out) (fun s h => hs s (List.mem_of_mem_take h))
      have HRT : Hid (∀ w', Tr.Old w w' → Calls Tryd.prog 29 #[.slice (some ⟨b, off + k, none⟩) (n - k : Nat) (cap - k)] w' (Digs (Tr.root (Tr.bs (ss.drop k))) w')) := fun w' hw =>
        refroot_walk _ _ w' (by rw [List.length_drop]; omega) (HR.out.below hw.out) (fun s h => hs s (List.mem_of_mem_drop h))
      by_cases hik : i < k
      · have hpl := Tr.plen_left (n := n) (i := i) hl2 (by rw [← hk]; exact hik)
        have hpp := Tr.path_left (l := Tr.bs ss) (i := i) (by rw [Tr.bs_len]; omega) (by rw [Tr.bs_len, ← hn, ← hk]; exact hik)
        rw [Tr.bs_len, ← hn, ← hk, ← Tr.bs_take, ← Tr.bs_drop] at hpp
        rw [← hk] at hpl
        rw [hpp]
        have hll : (Tr.bs (ss.take k)).length = k := by rw [Tr.bs_len, List.length_take]; omega
        have HPL := Lib.hid (Tr.path_length k (Tr.bs (ss.take k)) i hll)
        have h62 := Tr.plen_le 62 k i (by omega)
        have HIL := Lib.hid ((ih (ss.take k) _ i w.drew (by rw [List.length_take]; omega) (by rw [List.length_take]; omega) (by omega) (by rw [List.length_take]; omega) (HL.out.below (Below.refl _ _).drew) (fun s h => hs s (List.mem_of_mem_take h))).mono fun _ _ h => OwnOut.drew h)
        rw [← hn] at hN hc1 h0 ⊢
        have HN := Lib.hid hn
        have HK := Lib.hid hk
        clear hn hk hc hs ih hpl hpp HL HR hll h1 hi h
        go_enter Tryd.func67, Tryd.ntmps67
        go_wp2_with fail
        refine (half_walk n hl2 (by omega) w).mono ?_
        rintro e w1 ⟨rfl, rfl⟩
        rw [← HK.out]
        go_wp2_with fail
        go_region_held3 (fun w' => Tr.Old w w') (first | exact Tr.Old.drew w | exact Tr.Old.of (by with_reducible assumption) | exact Tr.Old.alloc _ (by with_reducible assumption) | exact Tr.Old.step (by with_reducible assumption) (by with_reducible assumption))
          (first
            | (go_at_call 67; (with_reducible refine HIL.out.mono ?_); rintro e w1 ⟨v1, ps, rfl, hown, hps, hz, hb1⟩; have hlen : ps.length ≤ 62 := by (rw [Tr.len_of hps, HPL.out]; exact h62))
            | (go_at_call 29; (with_reducible refine (HRT.out _ (by assumption)).mono ?_); rintro e w1 ⟨r1, rfl, hr1, hrz, hb1⟩)
            | (have hq := own_at hb1 hown; have hs0 := (Tr.Old.out (by with_reducible assumption : Tr.Old w _)).size; refine step_append_lies _ rfl (.tmp 20) (.tmp 25) 22 rfl w.heap.size 9 i0 (.string ⟨#[]⟩) 1 16 Tryd.underlying22 HI.out hz0 hz1 hz2 rfl (by decide) _ _ _ rfl (hq.alloc _) ⟨_, 0, none⟩ 1 1 [.string _] rfl rfl (cell_one_new _ _ _) (by intro u hu; simp only [List.mem_singleton] at hu; subst hu; rfl) (by decide) (by (unfold maxLen; omega)) (by omega) (by exact hs0) _ rfl ?_; intro g cap' w3 hown3 hg3 hat hlt; have hold3 := Tr.Old.out (Tr.Old.grown (by with_reducible assumption) hg3 hown (Nat.le_refl _))))
        have HX := Lib.hid (Tr.app_one hps hz hr1 hrz hown3 hold3)
        clear hown3 hps hr1 hown
        go_wp2_with fail
        go_ret
        exact HX.out
      · have hpl := Tr.plen_right (n := n) (i := i) hl2 (by rw [← hk]; exact hik)
        have hpp := Tr.path_right (l := Tr.bs ss) (i := i) (by rw [Tr.bs_len]; omega) (by rw [Tr.bs_len, ← hn, ← hk]; exact hik)
        rw [Tr.bs_len, ← hn, ← hk, ← Tr.bs_take, ← Tr.bs_drop] at hpp
        rw [← hk] at hpl
        rw [hpp]
        have hll : (Tr.bs (ss.drop k)).length = n - k := by rw [Tr.bs_len, List.length_drop]; omega
        have HPL := Lib.hid (Tr.path_length (n - k) (Tr.bs (ss.drop k)) (i - k) hll)
        have h62 := Tr.plen_le 62 (n - k) (i - k) (by omega)
        have HIL := Lib.hid ((ih (ss.drop k) _ (i - k) w.drew (by rw [List.length_drop]; omega) (by rw [List.length_drop]; omega) (by omega) (by rw [List.length_drop]; omega) (HR.out.below (Below.refl _ _).drew) (fun s h => hs s (List.mem_of_mem_drop h))).mono fun _ _ h => OwnOut.drew h)
        rw [show ((i - k : Nat) : Int) = (i : Int) - (k : Int) by omega] at HIL
        have hw := Tr.wrap_in ((i : Int) - (k : Int)) (by omega) (by omega)
        rw [← hn] at hN hc1 h0 ⊢
        have HN := Lib.hid hn
        have HK := Lib.hid hk
        clear hn hk hc hs ih hpl hpp HL HR hll h1 hi h
        go_enter Tryd.func67, Tryd.ntmps67
        go_wp2_with fail
        refine (half_walk n hl2 (by omega) w).mono ?_
        rintro e w1 ⟨rfl, rfl⟩
        rw [← HK.out]
        go_wp2_with fail
        go_region_held3 (fun w' => Tr.Old w w') (first | exact Tr.Old.drew w | exact Tr.Old.of (by with_reducible assumption) | exact Tr.Old.alloc _ (by with_reducible assumption) | exact Tr.Old.step (by with_reducible assumption) (by with_reducible assumption))
          (first
            | (go_at_call 67; (with_reducible refine HIL.out.mono ?_); rintro e w1 ⟨v1, ps, rfl, hown, hps, hz, hb1⟩; have hlen : ps.length ≤ 62 := by (rw [Tr.len_of hps, HPL.out]; exact h62))
            | (go_at_call 29; (with_reducible refine (HLT.out _ (by assumption)).mono ?_); rintro e w1 ⟨r1, rfl, hr1, hrz, hb1⟩)
            | (have hq := own_at hb1 hown; have hs0 := (Tr.Old.out (by with_reducible assumption : Tr.Old w _)).size; refine step_append_lies _ rfl (.tmp 33) (.tmp 38) 22 rfl w.heap.size 9 i0 (.string ⟨#[]⟩) 1 16 Tryd.underlying22 HI.out hz0 hz1 hz2 rfl (by decide) _ _ _ rfl (hq.alloc _) ⟨_, 0, none⟩ 1 1 [.string _] rfl rfl (cell_one_new _ _ _) (by intro u hu; simp only [List.mem_singleton] at hu; subst hu; rfl) (by decide) (by (unfold maxLen; omega)) (by omega) (by exact hs0) _ rfl ?_; intro g cap' w3 hown3 hg3 hat hlt; have hold3 := Tr.Old.out (Tr.Old.grown (by with_reducible assumption) hg3 hown (Nat.le_refl _))))
        have HX := Lib.hid (Tr.app_one hps hz hr1 hrz hown3 hold3)
        clear hown3 hps hr1 hown
        go_wp2_with fail
        go_ret
        exact HX.out
end Go.Proofs.YthhfcijgcpnfcaaDoor
