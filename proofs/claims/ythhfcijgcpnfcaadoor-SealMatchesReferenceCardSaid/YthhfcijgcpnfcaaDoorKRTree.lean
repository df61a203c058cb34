import Derived.Test.YthhfcijgcpnfcaaDoorKTHalf
import Derived.Test.YthhfcijgcpnfcaaDoorKTTx
import Derived.Test.YthhfcijgcpnfcaaDoorKRSame
import Derived.WalkKit
import Derived.WalkSpells
import Derived.WalkLawsBesides
import Derived.WalkSmall
import Derived.Lib.Hide
import Derived.Deep.RegionHeld3
/-
  The walks of the reference's leaf, node, Empty and Root.
-/
namespace Go.Proofs.YthhfcijgcpnfcaaDoor
open Go.RowKit

theorem reflist_digs (v : Value) (ss : List ByteArray) (w : World) (hv : IsTexts w v ss) (hs : ∀ s ∈ ss, s.size ≤ 200) (hl : ss.length ≤ 30) :
    Calls Tryd.prog 44 #[v] w (Digs (Tr.li (Tr.bs ss)) w) :=
  (reflist_ex v ss w hv (Tr.few_of hs hl)).mono fun _ _ ⟨r, h, hr, hb⟩ => ⟨r, h, hr, Tr.li_size hr, hb⟩

set_option maxHeartbeats 1000000 in
set_option maxRecDepth 100000 in
theorem refempty_walk (w : World) : Calls Tryd.prog 56 #[] w (Digs Tr.empty w) := by
  go_enter Tryd.func56, Tryd.ntmps56
  go_wp2_with fail
  have hb0 := (Below.refl w.heap.size w).alloc (Nat.le_refl _) (.cells #[.string ⟨#[101, 109, 112, 116, 121]⟩] 9)
  refine (reflist_digs _ [⟨#[101, 109, 112, 116, 121]⟩] _ (tx_one w _).texts (Tr.all_one (by decide)) (by simp)).mono ?_
  rintro e w1 ⟨r, rfl, hr, hz, hb1⟩
  go_wp2_with fail
  go_ret
  exact ⟨r, rfl, hr, hz, hb0.trans (hb1.mono hb0.size)⟩

set_option maxHeartbeats 1000000 in
set_option maxRecDepth 100000 in
theorem refleaf_walk (s : ByteArray) (hs : s.size ≤ 200) (w : World) :
    Calls Tryd.prog 57 #[.string s] w (Digs (Tr.leaf s.data.toList) w) := by
  have HS := Lib.hid hs
  clear hs
  go_enter Tryd.func57, Tryd.ntmps57
  go_wp2_with fail
  have hb0 := (Below.refl w.heap.size w).alloc (Nat.le_refl _) (.cells #[.string ⟨#[108, 101, 97, 102]⟩, .string s] 9)
  refine (reflist_digs _ [⟨#[108, 101, 97, 102]⟩, s] _ (tx_two w _ _).texts (Tr.all_two (by decide) HS.out) (by simp)).mono ?_
  rintro e w1 ⟨r, rfl, hr, hz, hb1⟩
  go_wp2_with fail
  go_ret
  exact ⟨r, rfl, hr, hz, hb0.trans (hb1.mono hb0.size)⟩

set_option maxHeartbeats 1000000 in
set_option maxRecDepth 100000 in
theorem refnode_walk (a b : ByteArray) (ha : a.size ≤ 200) (hb : b.size ≤ 200) (w : World) :
    Calls Tryd.prog 59 #[.string a, .string b] w (Digs (Tr.node a.data.toList b.data.toList) w) := by
  have HA := Lib.hid ha
  have HB := Lib.hid hb
  clear ha hb
  go_enter Tryd.func59, Tryd.ntmps59
  go_wp2_with fail
  have hb0 := (Below.refl w.heap.size w).alloc (Nat.le_refl _) (.cells #[.string ⟨#[110, 111, 100, 101]⟩, .string a, .string b] 9)
  refine (reflist_digs _ [⟨#[110, 111, 100, 101]⟩, a, b] _ (tx_three w _ _ _).texts (Tr.all_three (by decide) HA.out HB.out) (by simp)).mono ?_
  rintro e w1 ⟨r, rfl, hr, hz, hb1⟩
  go_wp2_with fail
  go_ret
  exact ⟨r, rfl, hr, hz, hb0.trans (hb1.mono hb0.size)⟩

/-- Nothing old has turned: under a name that 'assumption' keeps apart from a callee's own frame. -/
def Tr.Old (w w' : World) : Prop := Below w.heap.size w w'
theorem Tr.Old.out {w w' : World} (h : Tr.Old w w') : Below w.heap.size w w' := h
theorem Tr.Old.step {w w1 w2 : World} (hb : Below w1.heap.size w1 w2) (h : Tr.Old w w1) : Tr.Old w w2 := Below.trans h.out (hb.mono h.out.size)
theorem Tr.Old.alloc {w w1 : World} (o : Obj) (h : Tr.Old w w1) : Tr.Old w (w1.alloc o) := Below.alloc h.out h.out.size o
theorem Tr.Old.refl (w : World) : Tr.Old w w := Below.refl _ _
theorem Tr.Old.drew (w : World) : Tr.Old w w.drew := (Below.refl _ _).drew

set_option maxHeartbeats 1000000 in
set_option maxRecDepth 100000 in
theorem refroot_nil (a : Option Addr) (cap : Nat) (w : World) :
    Calls Tryd.prog 29 #[.slice a 0 cap] w (Digs (Tr.root []) w) := by
  rw [Tr.root_nil]
  go_enter Tryd.func29, Tryd.ntmps29
  go_wp2_with fail
  refine (refempty_walk w).mono ?_
  rintro e w1 ⟨r, rfl, hr, hz, hb1⟩
  go_wp2_with fail
  go_ret
  exact ⟨r, rfl, hr, hz, hb1⟩

set_option maxHeartbeats 1000000 in
set_option maxRecDepth 100000 in
theorem refroot_one (b off cap : Nat) (s : ByteArray) (w : World) (hs : s.size ≤ 200) (hc : w.cell? ⟨b, off, none⟩ = some (.string s)) :
    Calls Tryd.prog 29 #[.slice (some ⟨b, off, none⟩) 1 cap] w (Digs (Tr.root [s.data.toList]) w) := by
  have HS := Lib.hid hs
  clear hs
  rw [Tr.root_one]
  go_enter Tryd.func29, Tryd.ntmps29
  go_wp2_with fail
  refine (refleaf_walk s HS.out w).mono ?_
  rintro e w1 ⟨r, rfl, hr, hz, hb1⟩
  go_wp2_with fail
  go_ret
  exact ⟨r, rfl, hr, hz, hb1⟩

set_option maxHeartbeats 2000000 in
set_option maxRecDepth 100000 in
theorem refroot_ind (N : Nat) : ∀ (ss : List ByteArray) (v : Value) (w : World), ss.length ≤ N → N ≤ 4611686018427387904 → IsTx w v ss → (∀ s ∈ ss, s.size ≤ 200) →
    Calls Tryd.prog 29 #[v] w (Digs (Tr.root (Tr.bs ss)) w) := by
  induction N with
  | zero =>
    intro ss v w hN hM hv hs
    obtain rfl : ss = [] := List.length_eq_zero_iff.1 (by omega)
    obtain ⟨a, cap, rfl, _, _, _⟩ := hv
    exact refroot_nil a cap w
  | succ N ih =>
    intro ss v w hN hM hv hs
    obtain ⟨a, cap, rfl, h1, h2, h⟩ := hv
    match ss, hN, hs, h1, h with
    | [], _, _, _, _ => exact refroot_nil a cap w
    | [s], _, hs, _, h =>
      obtain ⟨b, off, rfl, _, hc⟩ := h (by simp)
      exact refroot_one b off cap s w (hs s (by simp)) (hc 0 (by simp))
    | s0 :: s1 :: sr, hN, hs, h1, h =>
      obtain ⟨ss, hss⟩ : ∃ ss, ss = s0 :: s1 :: sr := ⟨_, rfl⟩
      rw [← hss] at hN hs h1 h ⊢
      have hl2 : 2 ≤ ss.length := by rw [hss]; simp
      obtain ⟨b, off, rfl, hb, hc⟩ := h (by rw [hss]; simp)
      clear hss h
      obtain ⟨n, hn⟩ : ∃ n, n = ss.length := ⟨_, rfl⟩
      obtain ⟨k, hk⟩ : ∃ k, k = Tr.half n := ⟨_, rfl⟩
      have hk0 : 0 < k := by rw [hk]; exact Tr.half_pos n
      have hkn : k < n := by rw [hk]; exact Tr.half_lt (by omega)
      have HL := Lib.hid (IsTx.take h1 h2 hb hc k (by omega))
      have HR := Lib.hid (IsTx.drop h1 h2 hb hc k (n - k) (cap - k) (by omega) (by omega))
      have HIL : Hid (∀ w', Tr.Old w w' → Calls Tryd.prog 29 #[.slice (some ⟨b, off, none⟩) k cap] w' (Digs (Tr.root (Tr.bs (ss.take k))) w')) := fun w' hw =>
        ih _ _ w' (by rw [List.length_take]; omega) (by omega) (HL.out.below hw.out) (fun s h => hs s (List.mem_of_mem_take h))
      have HIR : Hid (∀ w', Tr.Old w w' → Calls Tryd.prog 29 #[.slice (some ⟨b, off + k, none⟩) (n - k : Nat) (cap - k)] w' (Digs (Tr.root (Tr.bs (ss.drop k))) w')) := fun w' hw =>
        ih _ _ w' (by rw [List.length_drop]; omega) (by omega) (HR.out.below hw.out) (fun s h => hs s (List.mem_of_mem_drop h))
      have hr2 := Tr.root_two (l := Tr.bs ss) (by rw [Tr.bs_len]; exact hl2)
      rw [Tr.bs_len, ← hn, ← hk] at hr2
      rw [hr2, ← Tr.bs_take, ← Tr.bs_drop]
      rw [← hn] at hN h1 hl2 ⊢
      have HK := Lib.hid hk
      have HN := Lib.hid hn
      clear hk hn hc hs hr2 ih
      have n1 : ((n : Int) == 0) = false := by simp; omega
      have n2 : ((n : Int) == 1) = false := by simp; omega
      have p1 : (0 : Int) ≤ (k : Int) := by omega
      have p2 : (k : Int) ≤ (cap : Int) := by omega
      have p3 : (k : Int) ≤ (n : Int) := by omega
      have p4 : (n : Int) ≤ (cap : Int) := by omega
      have p5 : ¬ cap = k := by omega
      go_enter Tryd.func29, Tryd.ntmps29
      go_wp2_with fail
      refine (half_walk n hl2 (by omega) w).mono ?_
      rintro e w1 ⟨rfl, rfl⟩
      rw [← HK.out]
      go_wp2_with fail
      go_region_held3 (fun w' => Tr.Old w w') (first | exact Tr.Old.drew w | exact Tr.Old.step (by with_reducible assumption) (by with_reducible assumption))
        (first
          | (go_at_call 29; (with_reducible refine (HIL.out _ (by assumption)).mono ?_); rintro e w1 ⟨r1, rfl, hr1, hz1, hb1⟩)
          | (go_at_call 29; (with_reducible refine (HIR.out _ (by assumption)).mono ?_); rintro e w1 ⟨r1, rfl, hr1, hz1, hb1⟩)
          | (go_at_call 59; refine (refnode_walk _ _ (by omega) (by omega) _).mono ?_; rintro e w1 ⟨r1, rfl, hr1, hz1, hb1⟩))
      rename_i wA rA hA zA bA wB rB hB zB bB hH
      have HX : Hid (r1.data.toList = Tr.node (Tr.root (Tr.bs (ss.take k))) (Tr.root (Tr.bs (ss.drop k)))) := by
        show _ = _
        rw [hr1.out, hA.out, hB.out]
      clear hr1 hA hB bA bB
      go_wp2_with fail
      go_ret
      exact ⟨r1, rfl, HX, hz1, hH.out⟩
theorem refroot_walk (ss : List ByteArray) (v : Value) (w : World) (hl : ss.length ≤ 4611686018427387904) (hv : IsTx w v ss) (hs : ∀ s ∈ ss, s.size ≤ 200) :
    Calls Tryd.prog 29 #[v] w (Digs (Tr.root (Tr.bs ss)) w) := refroot_ind ss.length ss v w (Nat.le_refl _) hl hv hs
end Go.Proofs.YthhfcijgcpnfcaaDoor
