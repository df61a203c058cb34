import Derived.Test.YthhfcijgcpnfcaaDoorKTHalf
import Derived.Test.YthhfcijgcpnfcaaDoorKTTx
import Derived.WalkKit
import Derived.WalkSpells
import Derived.WalkLawsBesides
import Derived.WalkSmall
import Derived.Lib.Hide
import Derived.Deep.RegionHeld3
import Derived.Laws.EntriesVeiled
/-
  The walks of tree.Root and of its closure.
-/
namespace Go.Proofs.YthhfcijgcpnfcaaDoor
open Go.RowKit

/-- What the region keeps: old memory, and the closure's variable. -/
abbrev Tr.Keeps (w : World) (a : Addr) (v : Value) (w' : World) : Prop := Below w.heap.size w w' ∧ w'.cell? a = some v
theorem Tr.keeps_tab {w w1 : World} {a : Addr} {v : Value} (ht : HasTab w) (h : Tr.Keeps w a v w1) : HasTab w1 := ht.below h.1
theorem Tr.Keeps.step {w w1 w2 : World} {a : Addr} {v : Value} (hb : Below w1.heap.size w1 w2) (h : Tr.Keeps w a v w1) : Tr.Keeps w a v w2 :=
  ⟨h.1.trans (hb.mono h.1.size), (hb.cell (block_lt_of_cell h.2)).trans h.2⟩

abbrev Tr.rootFn (cb : Nat) : Value := .func (.func 51) #[] #[.pointer (some ⟨cb, 0, none⟩)]


set_option maxHeartbeats 1000000 in
set_option maxRecDepth 100000 in
theorem rootc_nil (a : Option Addr) (cap : Nat) (x : Value) (w : World) (ht : HasTab w) :
    Calls Tryd.prog 51 #[.slice a 0 cap, x] w (Digs (Tr.root []) w) := by
  have HT := Lib.hid ht
  clear ht
  rw [Tr.root_nil]
  go_enter Tryd.func51, Tryd.ntmps51
  go_wp2_with fail
  have hb0 := (Below.refl w.heap.size w).alloc (Nat.le_refl _) (.cells #[.string ⟨#[101, 109, 112, 116, 121]⟩] 9)
  refine (list_digs _ [⟨#[101, 109, 112, 116, 121]⟩] _ (tx_one w _).texts (Tr.all_one (by decide)) (by simp) (HT.out.below hb0)).mono ?_
  rintro e w1 ⟨r, rfl, hr, hz, hb1⟩
  go_wp2_with fail
  go_ret
  exact ⟨r, rfl, hr, hz, hb0.trans (hb1.mono hb0.size)⟩

set_option maxHeartbeats 1000000 in
set_option maxRecDepth 100000 in
theorem rootc_one (b off cap : Nat) (s : ByteArray) (x : Value) (w : World) (hs : s.size ≤ 200) (hc : w.cell? ⟨b, off, none⟩ = some (.string s)) (ht : HasTab w) :
    Calls Tryd.prog 51 #[.slice (some ⟨b, off, none⟩) 1 cap, x] w (Digs (Tr.root [s.data.toList]) w) := by
  have HT := Lib.hid ht
  have HS := Lib.hid hs
  clear ht hs
  rw [Tr.root_one]
  go_enter Tryd.func51, Tryd.ntmps51
  go_wp2_with fail
  refine (leafroot_walk s HS.out w HT.out).mono ?_
  rintro e w1 ⟨r, rfl, hr, hz, hb1⟩
  go_wp2_with fail
  go_ret
  exact ⟨r, rfl, hr, hz, hb1⟩

set_option maxHeartbeats 2000000 in
set_option maxRecDepth 100000 in
theorem rootc_walk (N : Nat) : ∀ (ss : List ByteArray) (v : Value) (w : World) (cb : Nat), ss.length ≤ N → N ≤ 4611686018427387904 → IsTx w v ss → (∀ s ∈ ss, s.size ≤ 200) → HasTab w → w.cell? ⟨cb, 0, none⟩ = some (Tr.rootFn cb) →
    Calls Tryd.prog 51 #[v, .pointer (some ⟨cb, 0, none⟩)] w (Digs (Tr.root (Tr.bs ss)) w) := by
  induction N with
  | zero =>
    intro ss v w cb hN hM hv hs ht hcb
    obtain rfl : ss = [] := List.length_eq_zero_iff.1 (by omega)
    obtain ⟨a, cap, rfl, _, _, _⟩ := hv
    exact rootc_nil a cap _ w ht
  | succ N ih =>
    intro ss v w cb hN hM hv hs ht hcb
    obtain ⟨a, cap, rfl, h1, h2, h⟩ := hv
    match ss, hN, hs, h1, h with
    | [], _, _, _, _ => exact rootc_nil a cap _ w ht
    | [s], _, hs, _, h =>
      obtain ⟨b, off, rfl, _, hc⟩ := h (by simp)
      exact rootc_one b off cap s _ w (hs s (by simp)) (hc 0 (by simp)) ht
    | s0 :: s1 :: sr, hN, hs, h1, h =>
      obtain ⟨ss, hss⟩ : ∃ ss, ss = s0 :: s1 :: sr := ⟨_, rfl⟩
      rw [← hss] at hN hs h1 h ⊢
      have hl2 : 2 ≤ ss.length := by rw [hss]; simp
      obtain ⟨b, off, rfl, hb, hc⟩ := h (by rw [hss]; simp)
      clear hss h
      obtain ⟨n, hn⟩ : ∃ n, n = ss.length := ⟨_, rfl⟩
      obtain ⟨k, hk⟩ : ∃ k, k = Tr.half n := ⟨_, rfl⟩
      have hk0 : 0 < k := by rw [hk]; exact Tr.half_pos n
      have hkn : k < n := by rw [hk]; exact Tr.half_lt (by omega)
      have HL := Lib.hid (IsTx.take h1 h2 hb hc k (by omega))
      have HR := Lib.hid (IsTx.drop h1 h2 hb hc k (n - k) (cap - k) (by omega) (by omega))
      have HIL : Hid (∀ w', Tr.Keeps w ⟨cb, 0, none⟩ (Tr.rootFn cb) w' → Calls Tryd.prog 51 #[.slice (some ⟨b, off, none⟩) k cap, .pointer (some ⟨cb, 0, none⟩)] w' (Digs (Tr.root (Tr.bs (ss.take k))) w')) := fun w' hw =>
        ih _ _ w' cb (by rw [List.length_take]; omega) (by omega) (HL.out.below hw.1) (fun s h => hs s (List.mem_of_mem_take h)) (ht.below hw.1) hw.2
      have HIR : Hid (∀ w', Tr.Keeps w ⟨cb, 0, none⟩ (Tr.rootFn cb) w' → Calls Tryd.prog 51 #[.slice (some ⟨b, off + k, none⟩) (n - k : Nat) (cap - k), .pointer (some ⟨cb, 0, none⟩)] w' (Digs (Tr.root (Tr.bs (ss.drop k))) w')) := fun w' hw =>
        ih _ _ w' cb (by rw [List.length_drop]; omega) (by omega) (HR.out.below hw.1) (fun s h => hs s (List.mem_of_mem_drop h)) (ht.below hw.1) hw.2
      have HT := Lib.hid ht
      have hS0 : Tr.Keeps w ⟨cb, 0, none⟩ (Tr.rootFn cb) w.drew := ⟨(Below.refl _ w).drew, hcb⟩
      have hr2 := Tr.root_two (l := Tr.bs ss) (by rw [Tr.bs_len]; exact hl2)
      rw [Tr.bs_len, ← hn, ← hk] at hr2
      rw [hr2, ← Tr.bs_take, ← Tr.bs_drop]
      rw [← hn] at hN h1 hl2 ⊢
      have HK := Lib.hid hk
      have HN := Lib.hid hn
      clear hk hn hc hs ht hr2 ih
      have n1 : ((n : Int) == 0) = false := by simp; omega
      have n2 : ((n : Int) == 1) = false := by simp; omega
      have p1 : (0 : Int) ≤ (k : Int) := by omega
      have p2 : (k : Int) ≤ (cap : Int) := by omega
      have p3 : (k : Int) ≤ (n : Int) := by omega
      have p4 : (n : Int) ≤ (cap : Int) := by omega
      have p5 : ¬ cap = k := by omega
      go_enter Tryd.func51, Tryd.ntmps51
      go_wp2_with fail
      refine (firstpart_walk n hl2 (by omega) w).mono ?_
      rintro e w1 ⟨rfl, rfl⟩
      rw [← HK.out]
      go_wp2_with fail
      go_region_held3 (fun w' => Below w.heap.size w w' ∧ w'.cell? ⟨cb, 0, none⟩ = some (Tr.rootFn cb)) (first | exact hS0 | exact Tr.Keeps.step (by assumption) (by assumption))
        (first
          | (go_at_call 51; (with_reducible refine (HIL.out _ (by assumption)).mono ?_); rintro e w1 ⟨r1, rfl, hr1, hz1, hb1⟩)
          | (go_at_call 51; (with_reducible refine (HIR.out _ (by assumption)).mono ?_); rintro e w1 ⟨r1, rfl, hr1, hz1, hb1⟩)
          | (go_at_call 55; refine (noderoot_walk _ _ (by omega) (by omega) _ (Tr.keeps_tab HT.out (by assumption))).mono ?_; rintro e w1 ⟨r1, rfl, hr1, hz1, hb1⟩))
      rename_i wA rA hA zA bA wB rB hB zB bB hH
      have HX : Hid (r1.data.toList = Tr.node (Tr.root (Tr.bs (ss.take k))) (Tr.root (Tr.bs (ss.drop k)))) := by
        show _ = _
        rw [hr1.out, hA.out, hB.out]
      clear hr1 hA hB bA bB
      go_wp2_with fail
      go_ret
      exact ⟨r1, rfl, HX, hz1, hH.1⟩

set_option maxHeartbeats 1000000 in
set_option maxRecDepth 100000 in
theorem root_walk (ss : List ByteArray) (v : Value) (w : World) (hl : ss.length ≤ 4611686018427387904) (hv : IsTx w v ss) (hs : ∀ s ∈ ss, s.size ≤ 200) (ht : HasTab w) :
    Calls Tryd.prog 27 #[v] w (Digs (Tr.root (Tr.bs ss)) w) := by
  have HT := Lib.hid ht
  have HV := Lib.hid hv
  have HS := Lib.hid hs
  clear ht hv hs
  go_enter Tryd.func27, Tryd.ntmps27
  go_wp2_with fail
  have hb0 := (Below.refl w.heap.size w).alloc (Nat.le_refl _) (.cells #[.func (.func 51) #[] #[.pointer (some ⟨w.heap.size, 0, none⟩)]] 48)
  refine (rootc_walk ss.length ss v _ w.heap.size (Nat.le_refl _) hl (HV.out.below hb0) HS.out (HT.out.below hb0) (World.cell?_alloc_at _ _ _ _ rfl)).mono ?_
  rintro e w1 ⟨r, rfl, hr, hz, hb1⟩
  go_wp2_with fail
  go_ret
  exact ⟨r, rfl, hr, hz, hb0.trans (hb1.mono hb0.size)⟩
end Go.Proofs.YthhfcijgcpnfcaaDoor
