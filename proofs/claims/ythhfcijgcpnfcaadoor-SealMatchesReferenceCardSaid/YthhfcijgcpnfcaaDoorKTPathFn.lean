import Derived.Test.YthhfcijgcpnfcaaDoorKTRoot
import Derived.Test.YthhfcijgcpnfcaaDoorKTState
import Derived.Test.YthhfcijgcpnfcaaDoorKTBind
import Derived.WalkKit
import Derived.WalkSpells
import Derived.WalkLawsBesides
import Derived.WalkSmall
import Derived.Lib.Hide
import Derived.Deep.RegionHeld3
import Derived.Deep.RegionLaw
import Derived.Laws.EntriesVeiled
/-
  The walks of tree.Path and of its closure.
-/
namespace Go.Proofs.YthhfcijgcpnfcaaDoor
open Go.RowKit

abbrev Tr.pathFn (B : Nat) : Value := .func (.func 61) #[] #[.pointer (some ⟨B + 1, 0, none⟩), .pointer (some ⟨B, 0, none⟩)]

abbrev PathOut (w0 : World) : List ByteArray → List Tr.T → World → Prop := SlOut w0 (Tr.pathFn w0.heap.size)

set_option maxHeartbeats 2000000 in
set_option maxRecDepth 100000 in
theorem pathc_one (w0 : World) (ss : List ByteArray) (h1 : ss.length = 1) (v : Value) (hv : IsTx w0 v ss) (i : Nat) (cur : List ByteArray) (pv : Value) (w : World) (hp : PSt w0.heap.size w0 (Tr.pathFn w0.heap.size) cur pv w) :
    Calls Tryd.prog 61 #[v, .int .i64 i, .pointer (some ⟨w0.heap.size + 1, 0, none⟩), .pointer (some ⟨w0.heap.size, 0, none⟩)] w fun e w' => e = .returned (.tuple #[]) ∧ PathOut w0 cur [] w' := by
  obtain ⟨a, cap, rfl, _, _, _⟩ := hv
  rw [h1]
  have HP := Lib.hid hp
  clear hp
  go_enter Tryd.func61, Tryd.ntmps61
  go_wp2_with fail
  (try simp only [Exit.inBlock, Exit.then]); refine bodyPost_ret (results_none rfl _ _ _) rfl ?_
  exact ⟨rfl, pv, [], by rw [List.append_nil]; exact HP.out, rfl, by simp⟩

set_option maxHeartbeats 4000000 in
set_option maxRecDepth 100000 in
theorem pathc_walk (w0 : World) (ht : HasTab w0) (N : Nat) : ∀ (ss : List ByteArray) (v : Value) (i : Nat) (cur : List ByteArray) (pv : Value) (w : World), 0 < ss.length → ss.length ≤ N → N ≤ 4611686018427387904 → i < ss.length →
    IsTx w0 v ss → (∀ s ∈ ss, s.size ≤ 200) → cur.length + Tr.plen ss.length i ≤ 1000000 → PSt w0.heap.size w0 (Tr.pathFn w0.heap.size) cur pv w →
    Calls Tryd.prog 61 #[v, .int .i64 i, .pointer (some ⟨w0.heap.size + 1, 0, none⟩), .pointer (some ⟨w0.heap.size, 0, none⟩)] w fun e w' => e = .returned (.tuple #[]) ∧ PathOut w0 cur (Tr.path (Tr.bs ss) i) w' := by
  induction N with
  | zero => intro ss v i cur pv w h0 hN; omega
  | succ N ih =>
    intro ss v i cur pv w h0 hN hM hi hv hs hcl hp
    by_cases h1 : ss.length = 1
    · rw [Tr.path_one (by rw [Tr.bs_len]; omega)]
      exact pathc_one w0 ss h1 v hv i cur pv w hp
    · obtain ⟨i0, hii, hz0, hz1, hz2⟩ := info_parts one_str
      have HI := Lib.hid hii
      clear hii
      obtain ⟨a, cap, rfl, hc1, hc2, h⟩ := hv
      obtain ⟨b, off, rfl, hb, hc⟩ := h (by intro e; rw [e] at h0; simp at h0)
      obtain ⟨n, hn⟩ : ∃ n, n = ss.length := ⟨_, rfl⟩
      obtain ⟨k, hk⟩ : ∃ k, k = Tr.half n := ⟨_, rfl⟩
      have hl2 : 2 ≤ n := by omega
      have hk0 : 0 < k := by rw [hk]; exact Tr.half_pos n
      have hkn : k < n := by rw [hk]; exact Tr.half_lt (by omega)
      have HL := Lib.hid (IsTx.take hc1 hc2 hb hc k (by omega))
      have HR := Lib.hid (IsTx.drop hc1 hc2 hb hc k (n - k) (cap - k) (by omega) (by omega))
      have HT := Lib.hid ht
      have HP := Lib.hid hp
      have p1 : (0 : Int) ≤ (k : Int) := by omega
      have p2 : (k : Int) ≤ (cap : Int) := by omega
      have p3 : (k : Int) ≤ (n : Int) := by omega
      have p4 : (n : Int) ≤ (cap : Int) := by omega
      have p5 : ¬ cap = k := by omega
      have n1 : ((n : Int) == 1) = false := by simp; omega
      have hS0 : w.drew.cell? ⟨w0.heap.size + 1, 0, none⟩ = some (Tr.pathFn w0.heap.size) := hp.fnc
      have HLT : Hid (∀ w', Below w0.heap.size w0 w' → Calls Tryd.prog 27 #[.slice (some ⟨b, off, none⟩) k cap] w' (Digs (Tr.root (Tr.bs (ss.take k))) w')) := fun w' hw =>
        root_walk _ _ w' (by rw [List.length_take]; omega) (HL.out.below hw) (fun s h => hs s (List.mem_of_mem_take h)) (HT.out.below hw)
      have HRT : Hid (∀ w', Below w0.heap.size w0 w' → Calls Tryd.prog 27 #[.slice (some ⟨b, off + k, none⟩) (n - k : Nat) (cap - k)] w' (Digs (Tr.root (Tr.bs (ss.drop k))) w')) := fun w' hw =>
        root_walk _ _ w' (by rw [List.length_drop]; omega) (HR.out.below hw) (fun s h => hs s (List.mem_of_mem_drop h)) (HT.out.below hw)
      by_cases hik : i < k
      · have hpl := Tr.plen_left (n := n) (i := i) hl2 (by rw [← hk]; exact hik)
        have hpp := Tr.path_left (l := Tr.bs ss) (i := i) (by rw [Tr.bs_len]; omega) (by rw [Tr.bs_len, ← hn, ← hk]; exact hik)
        rw [Tr.bs_len, ← hn, ← hk, ← Tr.bs_take, ← Tr.bs_drop] at hpp
        rw [← hk] at hpl
        rw [hpp]
        have hll : (Tr.bs (ss.take k)).length = k := by rw [Tr.bs_len, List.length_take]; omega
        have HPL := Lib.hid (Tr.path_length k (Tr.bs (ss.take k)) i hll)
        rw [← hn, hpl] at hcl
        have HIL := Lib.hid (ih (ss.take k) _ i cur pv w.drew (by rw [List.length_take]; omega) (by rw [List.length_take]; omega) (by omega) (by rw [List.length_take]; omega) HL.out (fun s h => hs s (List.mem_of_mem_take h)) (by rw [List.length_take, Nat.min_eq_left (by omega)]; omega) hp.drew)
        rw [← hn] at hN hc1 h0 ⊢
        have HN := Lib.hid hn
        have HK := Lib.hid hk
        have HCL := Lib.hid hcl
        clear hn hk hc hs ht hp ih hpl hpp HL HR hll h1 hi hcl h
        go_enter Tryd.func61, Tryd.ntmps61
        go_wp2_with fail
        refine (firstpart_walk n hl2 (by omega) w).mono ?_
        rintro e w1 ⟨rfl, rfl⟩
        rw [← HK.out]
        go_wp2_with fail
        go_region_held3 (fun w' => w'.cell? ⟨w0.heap.size + 1, 0, none⟩ = some (Tr.pathFn w0.heap.size)) (first | exact hS0 | assumption)
          (first
            | (go_at_call 61; (with_reducible refine HIL.out.mono ?_); rintro e w1 ⟨rfl, nv, ps, hq, hps, hz⟩; have hfn := hq.fnc))
        have HQ := Lib.hid hq
        have hlq : (cur ++ ps).length + 1 ≤ 1000000 := by
          have := HPL.out
          have := HCL.out
          rw [List.length_append, Tr.len_of hps]; omega
        have hcq : w1.cell? ⟨w0.heap.size, 0, none⟩ = some nv := cell_of_one hq.var
        have hzq : w0.heap.size + 2 ≤ w1.heap.size := hq.size
        have HLQ := Lib.hid hlq
        clear hq hlq hfn hS0
        go_wp2_with fail
        go_region_law (first
          | (go_simp; go_at_call 27; (with_reducible refine (HRT.out _ (by exact HQ.out.old.drew)).mono ?_); rintro e w2 ⟨r, rfl, hr, hz, hb⟩; have hc2 := cell_of_one (HQ.out.drew.below hb).var; have hca : ∀ o, (w2.alloc o).cell? ⟨w0.heap.size, 0, none⟩ = some nv := fun o => (World.cell?_alloc_lt _ _ _ (block_lt_of_cell hc2)).trans hc2)
          | (refine step_append_lies _ rfl (.tmp 22) (.tmp 27) 22 rfl (w0.heap.size + 2) 9 i0 (.string ⟨#[]⟩) 1 16 Tryd.underlying22 HI.out hz0 hz1 hz2 rfl (by decide) nv _ _ rfl ((HQ.out.drew.below (by assumption)).own.alloc _) ⟨_, 0, none⟩ 1 1 [.string _] rfl rfl (cell_one_new _ _ _) (by intro u hu; simp only [List.mem_singleton] at hu; subst hu; rfl) (by decide) (by have := HLQ.out; unfold maxLen; omega) (by have := HLQ.out; omega) (by have := (HQ.out.drew.below (by assumption)).size; simp; omega) _ rfl ?_; intro g cap' w3 hown3 hg3 hat hlt; have hst := (HQ.out.drew.below (by assumption)).grown _ hg3; have hc3 := cell_of_one hst.2.2; have hf3 := free_of_one hst.2.2))
        all_goals
          have HF := Lib.hid (sl_push HQ.out.drew (by assumption) hps (by assumption) (by assumption) (by assumption) (by assumption) (by assumption))
          clear hps
          go_end0
          exact ⟨rfl, HF.out⟩
      · have hpl := Tr.plen_right (n := n) (i := i) hl2 (by rw [← hk]; exact hik)
        have hpp := Tr.path_right (l := Tr.bs ss) (i := i) (by rw [Tr.bs_len]; omega) (by rw [Tr.bs_len, ← hn, ← hk]; exact hik)
        rw [Tr.bs_len, ← hn, ← hk, ← Tr.bs_take, ← Tr.bs_drop] at hpp
        rw [← hk] at hpl
        rw [hpp]
        have hll : (Tr.bs (ss.drop k)).length = n - k := by rw [Tr.bs_len, List.length_drop]; omega
        have HPL := Lib.hid (Tr.path_length (n - k) (Tr.bs (ss.drop k)) (i - k) hll)
        rw [← hn, hpl] at hcl
        have HIL := Lib.hid (ih (ss.drop k) _ (i - k) cur pv w.drew (by rw [List.length_drop]; omega) (by rw [List.length_drop]; omega) (by omega) (by rw [List.length_drop]; omega) HR.out (fun s h => hs s (List.mem_of_mem_drop h)) (by rw [List.length_drop, ← hn]; omega) hp.drew)
        rw [show ((i - k : Nat) : Int) = (i : Int) - (k : Int) by omega] at HIL
        have hw := Tr.wrap_in ((i : Int) - (k : Int)) (by omega) (by omega)
        rw [← hn] at hN hc1 h0 ⊢
        have HN := Lib.hid hn
        have HK := Lib.hid hk
        have HCL := Lib.hid hcl
        clear hn hk hc hs ht hp ih hpl hpp HL HR hll h1 hi hcl h
        go_enter Tryd.func61, Tryd.ntmps61
        go_wp2_with fail
        refine (firstpart_walk n hl2 (by omega) w).mono ?_
        rintro e w1 ⟨rfl, rfl⟩
        rw [← HK.out]
        go_wp2_with fail
        go_region_held3 (fun w' => w'.cell? ⟨w0.heap.size + 1, 0, none⟩ = some (Tr.pathFn w0.heap.size)) (first | exact hS0 | assumption)
          (first
            | (go_at_call 61; (with_reducible refine HIL.out.mono ?_); rintro e w1 ⟨rfl, nv, ps, hq, hps, hz⟩; have hfn := hq.fnc))
        have HQ := Lib.hid hq
        have hlq : (cur ++ ps).length + 1 ≤ 1000000 := by
          have := HPL.out
          have := HCL.out
          rw [List.length_append, Tr.len_of hps]; omega
        have hcq : w1.cell? ⟨w0.heap.size, 0, none⟩ = some nv := cell_of_one hq.var
        have hzq : w0.heap.size + 2 ≤ w1.heap.size := hq.size
        have HLQ := Lib.hid hlq
        clear hq hlq hfn hS0
        go_wp2_with fail
        go_region_law (first
          | (go_simp; go_at_call 27; (with_reducible refine (HLT.out _ (by exact HQ.out.old.drew)).mono ?_); rintro e w2 ⟨r, rfl, hr, hz, hb⟩; have hc2 := cell_of_one (HQ.out.drew.below hb).var; have hca : ∀ o, (w2.alloc o).cell? ⟨w0.heap.size, 0, none⟩ = some nv := fun o => (World.cell?_alloc_lt _ _ _ (block_lt_of_cell hc2)).trans hc2)
          | (refine step_append_lies _ rfl (.tmp 37) (.tmp 42) 22 rfl (w0.heap.size + 2) 9 i0 (.string ⟨#[]⟩) 1 16 Tryd.underlying22 HI.out hz0 hz1 hz2 rfl (by decide) nv _ _ rfl ((HQ.out.drew.below (by assumption)).own.alloc _) ⟨_, 0, none⟩ 1 1 [.string _] rfl rfl (cell_one_new _ _ _) (by intro u hu; simp only [List.mem_singleton] at hu; subst hu; rfl) (by decide) (by have := HLQ.out; unfold maxLen; omega) (by have := HLQ.out; omega) (by have := (HQ.out.drew.below (by assumption)).size; simp; omega) _ rfl ?_; intro g cap' w3 hown3 hg3 hat hlt; have hst := (HQ.out.drew.below (by assumption)).grown _ hg3; have hc3 := cell_of_one hst.2.2; have hf3 := free_of_one hst.2.2))
        all_goals
          have HF := Lib.hid (sl_push HQ.out.drew (by assumption) hps (by assumption) (by assumption) (by assumption) (by assumption) (by assumption))
          clear hps
          go_end0
          exact ⟨rfl, HF.out⟩
end Go.Proofs.YthhfcijgcpnfcaaDoor
/-
  The walk of tree.Path.
-/
namespace Go.Proofs.YthhfcijgcpnfcaaDoor
open Go.RowKit

/-- A slice of texts that are those of a list of digests, and a number beside it. -/
def TextsOut (p : List Tr.T) (err : Int) (w : World) (e : Ending) (w' : World) : Prop :=
  ∃ (v : Value) (ps : List ByteArray), e = .returned (.tuple #[v, .int .i64 err]) ∧ IsTx w' v ps ∧ Hid (Tr.bs ps = p) ∧ (∀ s ∈ ps, s.size ≤ 16) ∧ Below w.heap.size w w'

set_option maxHeartbeats 1000000 in
set_option maxRecDepth 100000 in
theorem path_low (v : Value) (ss : List ByteArray) (i : Int) (w : World) (hv : IsTx w v ss) (hi : i < 0) :
    Calls Tryd.prog 31 #[v, .int .i64 i] w (TextsOut [] 1 w) := by
  obtain ⟨a, cap, rfl, h1, h2, _⟩ := hv
  go_enter Tryd.func31, Tryd.ntmps31
  go_wp2_with fail
  go_ret2
  exact ⟨_, [], rfl, IsTx.nil _, rfl, by simp, Below.refl _ _⟩

set_option maxHeartbeats 1000000 in
set_option maxRecDepth 100000 in
theorem path_high (v : Value) (ss : List ByteArray) (i : Int) (w : World) (hv : IsTx w v ss) (h0 : ¬ i < 0) (hi : (ss.length : Int) ≤ i) :
    Calls Tryd.prog 31 #[v, .int .i64 i] w (TextsOut [] 1 w) := by
  obtain ⟨a, cap, rfl, h1, h2, _⟩ := hv
  go_enter Tryd.func31, Tryd.ntmps31
  go_wp2_with fail
  go_ret2
  exact ⟨_, [], rfl, IsTx.nil _, rfl, by simp, Below.refl _ _⟩

theorem Tr.plen_62 (n i : Nat) (h : n ≤ 4611686018427387904) : Tr.plen n i ≤ 62 := Tr.plen_le 62 n i h

set_option maxHeartbeats 1000000 in
set_option maxRecDepth 100000 in
theorem path_ok (v : Value) (ss : List ByteArray) (i : Nat) (w : World) (hv : IsTx w v ss) (hs : ∀ s ∈ ss, s.size ≤ 200) (hl : ss.length ≤ 4611686018427387904) (hi : i < ss.length) (ht : HasTab w) :
    Calls Tryd.prog 31 #[v, .int .i64 i] w (TextsOut (Tr.path (Tr.bs ss) i) 0 w) := by
  have hp : PSt w.heap.size w (Tr.pathFn w.heap.size) [] (.slice none 0 0) ((w.alloc (.cells #[.slice none 0 0] 22)).alloc (.cells #[Tr.pathFn w.heap.size] 72)) := by
    refine ⟨((Below.refl _ _).alloc (Nat.le_refl _) _).alloc (by simp) _, ?_, ?_, World.ownsRow_nil _ _ _ _⟩
    · exact cell_new2 _ _ _ _
    · rw [Below.heap_alloc _ _ _ (by simp)]; exact heap_alloc_new _ _
  have HC := Lib.hid (pathc_walk w ht ss.length ss v i [] _ _ (by omega) (Nat.le_refl _) hl hi hv hs (by have := Tr.plen_62 ss.length i hl; simp; omega) hp)
  obtain ⟨a, cap, rfl, h1, h2, _⟩ := hv
  clear hp ht hs
  go_enter Tryd.func31, Tryd.ntmps31
  go_wp2_with fail
  refine HC.out.mono ?_
  rintro e w1 ⟨rfl, nv, ps, hq, hps, hz⟩
  have hcq := cell_of_one hq.var
  have HQ := Lib.hid hq
  clear hq
  go_wp2_with fail
  go_ret2
  exact ⟨nv, ps, rfl, own_tx HQ.out.own, hps, hz, HQ.out.old⟩
end Go.Proofs.YthhfcijgcpnfcaaDoor
