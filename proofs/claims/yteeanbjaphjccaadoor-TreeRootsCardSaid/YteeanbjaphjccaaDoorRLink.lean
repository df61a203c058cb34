/-
  The walks of the reference's link.
-/
import Derived.Test.YteeanbjaphjccaaDoorRPath
import Derived.Test.YteeanbjaphjccaaDoorTLink
import Derived.WalkKit
import Derived.WalkSpells
import Derived.WalkLawsBesides
import Derived.WalkSmall
import Derived.Lib.Hide
import Derived.Deep.RegionHeld3
namespace Go.Proofs.YteeanbjaphjccaaDoor
open Go.RowKit

set_option maxHeartbeats 1000000 in
set_option maxRecDepth 100000 in
theorem reflink_whole (a : Option Addr) (cap n : Nat) (w : World) :
    Calls Tryd.prog 32 #[.slice a n cap, .int .i64 n, .bool true] w (OwnOut 16 [] w) := by
  go_enter Tryd.func32, Tryd.ntmps32
  go_wp2_with fail
  go_ret
  exact ⟨_, [], rfl, World.ownsRow_nil _ _ _ _, rfl, by simp, Below.refl _ _⟩

set_option maxHeartbeats 1000000 in
set_option maxRecDepth 100000 in
theorem reflink_all (ss : List ByteArray) (v : Value) (w : World) (hl : ss.length ≤ 4611686018427387904) (hv : IsTx w v ss) (hs : ∀ s ∈ ss, s.size ≤ 200) :
    Calls Tryd.prog 32 #[v, .int .i64 ss.length, .bool false] w (OwnOut 16 [Tr.root (Tr.bs ss)] w) := by
  have HR := Lib.hid (refroot_walk ss v w hl hv hs)
  obtain ⟨a, cap, rfl, _, _, _⟩ := hv
  clear hs
  go_enter Tryd.func32, Tryd.ntmps32
  go_wp2_with fail
  refine HR.out.mono ?_
  rintro e w1 ⟨r, rfl, hr, hz, hb1⟩
  go_wp2_with fail
  go_ret
  refine ⟨_, [r], rfl, own_built _ _ hb1.size r, ?_, Tr.all_one hz, hb1.alloc hb1.size _⟩
  show _ = _
  rw [← hr.out]; rfl

set_option maxHeartbeats 4000000 in
set_option maxRecDepth 100000 in
theorem reflink_ind (N : Nat) : ∀ (ss : List ByteArray) (v : Value) (m : Nat) (whole : Bool) (w : World), 0 < m → m ≤ ss.length → ss.length ≤ N → N ≤ 4611686018427387904 → IsTx w v ss → (∀ s ∈ ss, s.size ≤ 200) →
    Calls Tryd.prog 32 #[v, .int .i64 m, .bool whole] w (OwnOut 16 (Tr.link (Tr.bs ss) m whole) w) := by
  induction N with
  | zero => intro ss v m whole w h0 hm hN; omega
  | succ N ih =>
    intro ss v m whole w h0 hm hN hM hv hs
    by_cases h1 : m = ss.length
    · rw [Tr.link_all (by rw [Tr.bs_len]; exact h1)]
      subst h1
      cases whole with
      | true => obtain ⟨a, cap, rfl, _⟩ := hv; exact reflink_whole a cap _ w
      | false => exact reflink_all ss v w (by omega) hv hs
    · obtain ⟨i0, hii, hz0, hz1, hz2⟩ := info_parts one_str
      have HI := Lib.hid hii
      clear hii
      obtain ⟨a, cap, rfl, hc1, hc2, h⟩ := hv
      obtain ⟨b, off, rfl, hb, hc⟩ := h (by intro e; rw [e] at hm; simp at hm; omega)
      obtain ⟨n, hn⟩ : ∃ n, n = ss.length := ⟨_, rfl⟩
      obtain ⟨k, hk⟩ : ∃ k, k = Tr.half n := ⟨_, rfl⟩
      have hl2 : 2 ≤ n := by omega
      have hk0 : 0 < k := by rw [hk]; exact Tr.half_pos n
      have hkn : k < n := by rw [hk]; exact Tr.half_lt (by omega)
      have HL := Lib.hid (IsTx.take hc1 hc2 hb hc k (by omega))
      have HR := Lib.hid (IsTx.drop hc1 hc2 hb hc k (n - k) (cap - k) (by omega) (by omega))
      have p1 : (0 : Int) ≤ (k : Int) := by omega
      have p2 : (k : Int) ≤ (cap : Int) := by omega
      have p3 : (k : Int) ≤ (n : Int) := by omega
      have p4 : (n : Int) ≤ (cap : Int) := by omega
      have p5 : ¬ cap = k := by omega
      have HLT : Hid (∀ w', Tr.Old w w' → Calls Tryd.prog 16 #[.slice (some ⟨b, off, none⟩) k cap] w' (Digs (Tr.root (Tr.bs (ss.take k))) w')) := fun w' hw =>
        refroot_walk _ _ w' (by rw [List.length_take]; omega) (HL.out.below hw.out) (fun s h => hs s (List.mem_of_mem_take h))
      have HRT : Hid (∀ w', Tr.Old w w' → Calls Tryd.prog 16 #[.slice (some ⟨b, off + k, none⟩) (n - k : Nat) (cap - k)] w' (Digs (Tr.root (Tr.bs (ss.drop k))) w')) := fun w' hw =>
        refroot_walk _ _ w' (by rw [List.length_drop]; omega) (HR.out.below hw.out) (fun s h => hs s (List.mem_of_mem_drop h))
      by_cases hmk : m ≤ k
      · have hpl := Tr.llen_left (n := n) (m := m) (whole := whole) (by omega) hl2 (by rw [← hk]; exact hmk)
        have hpp := Tr.link_left (l := Tr.bs ss) (m := m) (whole := whole) (by rw [Tr.bs_len]; omega) (by rw [Tr.bs_len]; omega) (by rw [Tr.bs_len, ← hn, ← hk]; exact hmk)
        rw [Tr.bs_len, ← hn, ← hk, ← Tr.bs_take, ← Tr.bs_drop] at hpp
        rw [← hk] at hpl
        rw [hpp]
        have hll : (Tr.bs (ss.take k)).length = k := by rw [Tr.bs_len, List.length_take]; omega
        have HPL := Lib.hid (Tr.link_length k (Tr.bs (ss.take k)) m whole hll)
        have h62 := Tr.llen_le 62 k m whole (by omega)
        have HIL := Lib.hid ((ih (ss.take k) _ m whole w.drew h0 (by rw [List.length_take]; omega) (by rw [List.length_take]; omega) (by omega) (HL.out.below (Below.refl _ _).drew) (fun s h => hs s (List.mem_of_mem_take h))).mono fun _ _ h => OwnOut.drew h)
        rw [← hn] at hN hc1 hm ⊢
        have HN := Lib.hid hn
        have HK := Lib.hid hk
        have n1 : ((m : Int) == (n : Int)) = false := by simp; omega
        clear hn hk hc hs ih hpl hpp HL HR hll h1 h
        go_enter Tryd.func32, Tryd.ntmps32
        go_wp2_with fail
        refine (half_walk n hl2 (by omega) w).mono ?_
        rintro e w1 ⟨rfl, rfl⟩
        rw [← HK.out]
        go_wp2_with fail
        go_region_held3 (fun w' => Tr.Old w w') (first | exact Tr.Old.drew w | exact Tr.Old.of (by with_reducible assumption) | exact Tr.Old.alloc _ (by with_reducible assumption) | exact Tr.Old.step (by with_reducible assumption) (by with_reducible assumption))
          (first
            | (go_at_call 32; (with_reducible refine HIL.out.mono ?_); rintro e w1 ⟨v1, ps, rfl, hown, hps, hz, hb1⟩; have hlen : ps.length ≤ 63 := by (rw [Tr.len_of hps, HPL.out]; exact h62))
            | (go_at_call 16; (with_reducible refine (HRT.out _ (by assumption)).mono ?_); rintro e w1 ⟨r1, rfl, hr1, hrz, hb1⟩)
            | (have hq := own_at hb1 hown; have hs0 := (Tr.Old.out (by with_reducible assumption : Tr.Old w _)).size; refine step_append_lies _ rfl (.tmp 28) (.tmp 33) 22 rfl w.heap.size 9 i0 (.string ⟨#[]⟩) 1 16 Tryd.underlying22 HI.out hz0 hz1 hz2 rfl (by decide) _ _ _ rfl (hq.alloc _) ⟨_, 0, none⟩ 1 1 [.string _] rfl rfl (cell_one_new _ _ _) (by intro u hu; simp only [List.mem_singleton] at hu; subst hu; rfl) (by decide) (by (unfold maxLen; omega)) (by omega) (by exact hs0) _ rfl ?_; intro g cap' w3 hown3 hg3 hat hlt; have hold3 := Tr.Old.out (Tr.Old.grown (by with_reducible assumption) hg3 hown (Nat.le_refl _))))
        have HX := Lib.hid (Tr.app_one hps hz hr1 hrz hown3 hold3)
        clear hown3 hps hr1 hown
        go_wp2_with fail
        go_ret
        exact HX.out
      · have hpl := Tr.llen_right (n := n) (m := m) (whole := whole) (by omega) hl2 (by rw [← hk]; exact hmk)
        have hpp := Tr.link_right (l := Tr.bs ss) (m := m) (whole := whole) (by rw [Tr.bs_len]; omega) (by rw [Tr.bs_len]; omega) (by rw [Tr.bs_len, ← hn, ← hk]; exact hmk)
        rw [Tr.bs_len, ← hn, ← hk, ← Tr.bs_take, ← Tr.bs_drop] at hpp
        rw [← hk] at hpl
        rw [hpp]
        have hll : (Tr.bs (ss.drop k)).length = n - k := by rw [Tr.bs_len, List.length_drop]; omega
        have HPL := Lib.hid (Tr.link_length (n - k) (Tr.bs (ss.drop k)) (m - k) false hll)
        have h62 := Tr.llen_le 62 (n - k) (m - k) false (by omega)
        have HIL := Lib.hid ((ih (ss.drop k) _ (m - k) false w.drew (by omega) (by rw [List.length_drop]; omega) (by rw [List.length_drop]; omega) (by omega) (HR.out.below (Below.refl _ _).drew) (fun s h => hs s (List.mem_of_mem_drop h))).mono fun _ _ h => OwnOut.drew h)
        rw [show ((m - k : Nat) : Int) = (m : Int) - (k : Int) by omega] at HIL
        have hw := Tr.wrap_in ((m : Int) - (k : Int)) (by omega) (by omega)
        rw [← hn] at hN hc1 hm ⊢
        have HN := Lib.hid hn
        have HK := Lib.hid hk
        have n1 : ((m : Int) == (n : Int)) = false := by simp; omega
        clear hn hk hc hs ih hpl hpp HL HR hll h1 h
        go_enter Tryd.func32, Tryd.ntmps32
        go_wp2_with fail
        refine (half_walk n hl2 (by omega) w).mono ?_
        rintro e w1 ⟨rfl, rfl⟩
        rw [← HK.out]
        go_wp2_with fail
        go_region_held3 (fun w' => Tr.Old w w') (first | exact Tr.Old.drew w | exact Tr.Old.of (by with_reducible assumption) | exact Tr.Old.alloc _ (by with_reducible assumption) | exact Tr.Old.step (by with_reducible assumption) (by with_reducible assumption))
          (first
            | (go_at_call 32; (with_reducible refine HIL.out.mono ?_); rintro e w1 ⟨v1, ps, rfl, hown, hps, hz, hb1⟩; have hlen : ps.length ≤ 63 := by (rw [Tr.len_of hps, HPL.out]; exact h62))
            | (go_at_call 16; (with_reducible refine (HLT.out _ (by assumption)).mono ?_); rintro e w1 ⟨r1, rfl, hr1, hrz, hb1⟩)
            | (have hq := own_at hb1 hown; have hs0 := (Tr.Old.out (by with_reducible assumption : Tr.Old w _)).size; refine step_append_lies _ rfl (.tmp 41) (.tmp 46) 22 rfl w.heap.size 9 i0 (.string ⟨#[]⟩) 1 16 Tryd.underlying22 HI.out hz0 hz1 hz2 rfl (by decide) _ _ _ rfl (hq.alloc _) ⟨_, 0, none⟩ 1 1 [.string _] rfl rfl (cell_one_new _ _ _) (by intro u hu; simp only [List.mem_singleton] at hu; subst hu; rfl) (by decide) (by (unfold maxLen; omega)) (by omega) (by exact hs0) _ rfl ?_; intro g cap' w3 hown3 hg3 hat hlt; have hold3 := Tr.Old.out (Tr.Old.grown (by with_reducible assumption) hg3 hown (Nat.le_refl _))))
        have HX := Lib.hid (Tr.app_one hps hz hr1 hrz hown3 hold3)
        clear hown3 hps hr1 hown
        go_wp2_with fail
        go_ret
        exact HX.out
end Go.Proofs.YteeanbjaphjccaaDoor
