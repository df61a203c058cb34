import Derived.Test.YthhfcijgcpnfcaaDoorKRPath
import Derived.Test.YthhfcijgcpnfcaaDoorKTRest
import Derived.Test.YthhfcijgcpnfcaaDoorKTCheckFn
import Derived.Deep.QuietTactic
import Derived.BigQuiet
/-
  The walks of the reference's Path, digests and length.
-/
namespace Go.Proofs.YthhfcijgcpnfcaaDoor
open Go.RowKit

set_option maxHeartbeats 1000000 in
set_option maxRecDepth 100000 in
theorem refPath_low (v : Value) (ss : List ByteArray) (i : Int) (w : World) (hv : IsTx w v ss) (hi : i < 0) :
    Calls Tryd.prog 39 #[v, .int .i64 i] w (TextsOut [] 1 w) := by
  obtain ⟨a, cap, rfl, h1, h2, _⟩ := hv
  go_enter Tryd.func39, Tryd.ntmps39
  go_wp2_with fail
  go_ret2
  exact ⟨_, [], rfl, IsTx.nil _, rfl, by simp, Below.refl _ _⟩

set_option maxHeartbeats 1000000 in
set_option maxRecDepth 100000 in
theorem refPath_high (v : Value) (ss : List ByteArray) (i : Int) (w : World) (hv : IsTx w v ss) (h0 : ¬ i < 0) (hi : (ss.length : Int) ≤ i) :
    Calls Tryd.prog 39 #[v, .int .i64 i] w (TextsOut [] 1 w) := by
  obtain ⟨a, cap, rfl, h1, h2, _⟩ := hv
  go_enter Tryd.func39, Tryd.ntmps39
  go_wp2_with fail
  go_ret2
  exact ⟨_, [], rfl, IsTx.nil _, rfl, by simp, Below.refl _ _⟩

set_option maxHeartbeats 1000000 in
set_option maxRecDepth 100000 in
theorem refPath_ok (v : Value) (ss : List ByteArray) (i : Nat) (w : World) (hv : IsTx w v ss) (hs : ∀ s ∈ ss, s.size ≤ 200) (hl : ss.length ≤ 4611686018427387904) (hi : i < ss.length) :
    Calls Tryd.prog 39 #[v, .int .i64 i] w (TextsOut (Tr.path (Tr.bs ss) i) 0 w) := by
  have HC := Lib.hid (refpath_ind ss.length ss v i w (by omega) (Nat.le_refl _) hl hi hv hs)
  obtain ⟨a, cap, rfl, h1, h2, _⟩ := hv
  clear hs
  go_enter Tryd.func39, Tryd.ntmps39
  go_wp2_with fail
  refine HC.out.mono ?_
  rintro e w1 ⟨nv, ps, rfl, hown, hps, hz, hb⟩
  have HO := Lib.hid (own_tx hown)
  clear hown
  go_wp2_with fail
  go_ret2
  exact ⟨nv, ps, rfl, HO.out, hps, hz, hb⟩

theorem refis_true (s : ByteArray) (hs : s.size ≤ 9223372036854775807) (h : Dg.isDigest s.data.toList = true) (w : World) :
    Calls Tryd.prog 42 #[.string s] w fun e w' => e = .returned (.bool true) ∧ w = w' := by
  have := refis_walk s hs w; rw [h] at this; exact this
theorem refis_false (s : ByteArray) (hs : s.size ≤ 9223372036854775807) (h : Dg.isDigest s.data.toList = false) (w : World) :
    Calls Tryd.prog 42 #[.string s] w fun e w' => e = .returned (.bool false) ∧ w = w' := by
  have := refis_walk s hs w; rw [h] at this; exact this

set_option maxHeartbeats 1000000 in
set_option maxRecDepth 100000 in
theorem refdigests_walk (v : Value) (l : List ByteArray) (w : World) (hv : IsTx w v l) (hs : ∀ s ∈ l, s.size ≤ 9223372036854775807) :
    Calls Tryd.prog 73 #[v] w fun e w' => e = .returned (.bool (Tr.allDig l)) ∧ w = w' := by
  obtain ⟨a, cap, rfl, h1, h2, hne⟩ := hv
  by_cases h0 : l = []
  · subst h0
    go_enter Tryd.func73, Tryd.ntmps73
    go_wp2_with fail
    refine wp_loop_rounds 1 ?_
    rw [rounds_succ]
    go_wp2_with fail
    go_ret
    exact ⟨rfl, rfl⟩
  · obtain ⟨b, off, rfl, _, hc⟩ := hne h0
    clear hne h0
    have HS := Lib.hid hs
    clear hs
    go_enter Tryd.func73, Tryd.ntmps73
    go_wp2_with fail
    go_loop [3] (fun i => ∃ k : Nat, k ≤ l.length ∧ i = .int .i64 k ∧ Tr.digTo l k) (fun i => l.length - (intOf i).toNat)
    case atStart => exact ⟨0, Nat.zero_le _, rfl, rfl⟩
    case round =>
      obtain ⟨k, hk, rfl, hto⟩ := hrel
      by_cases hlt : k < l.length
      · obtain ⟨t, htk⟩ : ∃ t, t = l.getD k ByteArray.empty := ⟨_, rfl⟩
        have hcell : w.cell? ⟨b, off + k, none⟩ = some (.string t) := by rw [hc k hlt, htk]
        have hts : t.size ≤ 9223372036854775807 := by rw [htk, Dg.getD_eq l k hlt]; exact HS.out _ (List.getElem_mem _)
        have HK := Lib.hid htk
        clear hc htk
        cases hd : Dg.isDigest t.data.toList with
        | true =>
          have HD := Lib.hid hd
          clear hd
          go_wp2_with fail
          refine (refis_true t hts HD.out w).mono ?_
          rintro e w1 ⟨rfl, rfl⟩
          go_wp2_with fail
          go_round
          case rel => exact ⟨k + 1, by omega, by go_num, Tr.digTo_succ hlt hto (by rw [← HK.out]; exact HD.out)⟩
          case measure => simp [intOf]; omega
        | false =>
          have HD := Lib.hid hd
          clear hd
          go_wp2_with fail
          refine (refis_false t hts HD.out w).mono ?_
          rintro e w1 ⟨rfl, rfl⟩
          go_wp2_with fail
          go_ret
          exact ⟨Dg.ret_bool (Tr.allDig_no hlt (by rw [← HK.out]; exact HD.out)).symm, rfl⟩
      · have hke : Hid (k = l.length) := by show _ = _; omega
        clear hc
        go_wp2_with fail
        go_ret
        exact ⟨Dg.ret_bool (Tr.allDig_yes (hke.out ▸ hto)).symm, rfl⟩

theorem Tr.ret_int {a b : Int} (h : a = b) : Ending.returned (.int .i64 a) = .returned (.int .i64 b) := by rw [h]

set_option maxHeartbeats 1000000 in
set_option maxRecDepth 100000 in
theorem reflength_ind (N : Nat) : ∀ (n i : Nat) (w : World), n ≤ N → N ≤ 4611686018427387904 → i < n →
    Calls Tryd.prog 72 #[.int .i64 n, .int .i64 i] w fun e w' => e = .returned (.int .i64 (Tr.plen n i : Nat)) ∧ w = w' := by
  induction N with
  | zero => intro n i w hN _ hi; omega
  | succ N ih =>
    intro n i w hN hM hi
    by_cases h1 : n = 1
    · subst h1
      rw [Tr.plen_one (Nat.le_refl _)]
      clear ih
      go_enter Tryd.func72, Tryd.ntmps72
      go_wp2_with fail
      go_ret
      exact ⟨rfl, rfl⟩
    · obtain ⟨k, hk⟩ : ∃ k, k = Tr.half n := ⟨_, rfl⟩
      have hl2 : 2 ≤ n := by omega
      have hk0 : 0 < k := by rw [hk]; exact Tr.half_pos n
      have hkn : k < n := by rw [hk]; exact Tr.half_lt (by omega)
      have n1 : ((n : Int) == 1) = false := beq_eq_false_iff_ne.2 (by omega)
      by_cases hik : i < k
      · have hpl := Tr.plen_left (n := n) (i := i) hl2 (by rw [← hk]; exact hik)
        rw [← hk] at hpl
        rw [hpl]
        have hp62 := Tr.plen_le 62 k i (by omega)
        obtain ⟨q, hq⟩ : ∃ q, q = Tr.plen k i := ⟨_, rfl⟩
        have HIL := Lib.hid (ih k i w (by omega) (by omega) hik)
        rw [← hq] at HIL hp62 ⊢
        have HK := Lib.hid hk
        clear ih hk h1 hpl hq
        go_enter Tryd.func72, Tryd.ntmps72
        go_wp2_with fail
        refine (half_walk n hl2 (by omega) w).mono ?_
        rintro e w1 ⟨rfl, rfl⟩
        rw [← HK.out]
        go_wp2_with fail
        refine HIL.out.mono ?_
        rintro e w1 ⟨rfl, rfl⟩
        go_wp2_with fail
        go_ret
        exact ⟨Tr.ret_int (by omega), rfl⟩
      · have hpl := Tr.plen_right (n := n) (i := i) hl2 (by rw [← hk]; exact hik)
        rw [← hk] at hpl
        rw [hpl]
        have hp62 := Tr.plen_le 62 (n - k) (i - k) (by omega)
        obtain ⟨q, hq⟩ : ∃ q, q = Tr.plen (n - k) (i - k) := ⟨_, rfl⟩
        have HIL := Lib.hid (ih (n - k) (i - k) w (by omega) (by omega) (by omega))
        rw [show ((n - k : Nat) : Int) = (n : Int) - (k : Int) by omega, show ((i - k : Nat) : Int) = (i : Int) - (k : Int) by omega] at HIL
        rw [← hq] at HIL hp62 ⊢
        have HK := Lib.hid hk
        clear ih hk h1 hpl hq
        go_enter Tryd.func72, Tryd.ntmps72
        go_wp2_with fail
        refine (half_walk n hl2 (by omega) w).mono ?_
        rintro e w1 ⟨rfl, rfl⟩
        rw [← HK.out]
        go_wp2_with fail
        refine HIL.out.mono ?_
        rintro e w1 ⟨rfl, rfl⟩
        go_wp2_with fail
        go_ret
        exact ⟨Tr.ret_int (by omega), rfl⟩
end Go.Proofs.YthhfcijgcpnfcaaDoor
/-
  The walk of the reference's up.
-/
namespace Go.Proofs.YthhfcijgcpnfcaaDoor
open Go.RowKit

theorem Tr.last_of {ps : List ByteArray} {m : Nat} (hl : ps.length = m + 1) : (Tr.bs ps).dropLast = Tr.bs (ps.take m) ∧ (Tr.bs ps).getLastD [] = (ps.getD m ByteArray.empty).data.toList := by
  have h := Tr.take_next (ps := ps) (m := m) (by omega)
  rw [List.take_of_length_le (by rw [Tr.bs_len]; omega)] at h
  refine ⟨by rw [h.1, Tr.bs_take], ?_⟩
  rw [h.2, Dg.getD_eq ps m (by omega), List.drop_eq_getElem_cons (by omega)]; rfl
theorem Tr.take_len {ps : List ByteArray} {m : Nat} (hl : ps.length = m + 1) : (ps.take m).length = m := by rw [List.length_take]; omega
theorem Tr.getD_small {ps : List ByteArray} {n m : Nat} (h : ∀ s ∈ ps, s.size ≤ n) (hl : ps.length = m + 1) : (ps.getD m ByteArray.empty).size ≤ n := by
  rw [Dg.getD_eq ps m (by omega)]; exact h _ (List.getElem_mem _)

set_option maxHeartbeats 2000000 in
set_option maxRecDepth 100000 in
theorem refup_ind (N : Nat) : ∀ (n i : Nat) (d : ByteArray) (ps : List ByteArray) (v : Value) (w : World), n ≤ N → N ≤ 4611686018427387904 → i < n → d.size ≤ 16 → ps.length = Tr.plen n i → (∀ s ∈ ps, s.size ≤ 200) → IsTx w v ps →
    Calls Tryd.prog 74 #[.int .i64 n, .int .i64 i, .string d, v] w (Digs (Tr.up n i d.data.toList (Tr.bs ps)) w) := by
  induction N with
  | zero => intro n i d ps v w hN _ hi; omega
  | succ N ih =>
    intro n i d ps v w hN hM hi hd hpl hs hv
    by_cases h1 : n = 1
    · subst h1
      rw [Tr.up_one (Nat.le_refl _)]
      clear ih hv hs
      go_enter Tryd.func74, Tryd.ntmps74
      go_wp2_with fail
      go_ret
      exact ⟨d, rfl, rfl, hd, Below.refl _ _⟩
    · obtain ⟨k, hk⟩ : ∃ k, k = Tr.half n := ⟨_, rfl⟩
      have hl2 : 2 ≤ n := by omega
      have hk0 : 0 < k := by rw [hk]; exact Tr.half_pos n
      have hkn : k < n := by rw [hk]; exact Tr.half_lt (by omega)
      have n1 : ((n : Int) == 1) = false := beq_eq_false_iff_ne.2 (by omega)
      obtain ⟨a, cap, rfl, h1', h2, h⟩ := hv
      by_cases hik : i < k
      · have hp := Tr.plen_left (n := n) (i := i) hl2 (by rw [← hk]; exact hik)
        have hu := fun d p => Tr.up_left (n := n) (i := i) (d := d) (p := p) hl2 (by rw [← hk]; exact hik)
        rw [← hk] at hp hu
        obtain ⟨m, hm⟩ : ∃ m, m = Tr.plen k i := ⟨_, rfl⟩
        rw [← hm] at hp
        rw [hp] at hpl
        obtain ⟨b, off, rfl, hb, hc⟩ := h (by intro e; rw [e] at hpl; simp at hpl)
        have hlast := Tr.last_of hpl
        obtain ⟨x, hx⟩ : ∃ x, x = ps.getD m ByteArray.empty := ⟨_, rfl⟩
        have hxz : x.size ≤ 200 := by rw [hx]; exact Tr.getD_small hs hpl
        have hxc : w.cell? ⟨b, off + m, none⟩ = some (.string x) := by rw [hc m (by omega), hx]
        have hm62 := Tr.plen_le 62 k i (by omega)
        rw [← hm] at hm62
        have HIL := Lib.hid (ih k i d (ps.take m) _ w (by omega) (by omega) (by omega) hd (by rw [Tr.take_len hpl, hm]) (fun s h => hs s (List.mem_of_mem_take h)) (IsTx.take h1' h2 hb hc m (by omega)))
        rw [hu, hlast.1, hlast.2, ← hx]
        rw [hpl] at h1' ⊢
        have HK := Lib.hid hk
        have p1 : (0 : Int) ≤ (m : Int) := by omega
        have p2 : (m : Int) ≤ (cap : Int) := by omega
        clear ih hk h1 hp hu hc hs hlast hx hm hpl h
        go_enter Tryd.func74, Tryd.ntmps74
        go_wp2_with fail
        refine (half_walk n hl2 (by omega) w).mono ?_
        rintro e w1 ⟨rfl, rfl⟩
        rw [← HK.out]
        go_wp2_with fail
        refine HIL.out.mono ?_
        rintro e w1 ⟨r1, rfl, hr1, hz1, hb1⟩
        go_wp2_with fail
        refine (refnode_walk _ _ (by omega) hxz w1).mono ?_
        rintro e w2 ⟨r2, rfl, hr2, hz2, hb2⟩
        go_wp2_with fail
        go_ret
        refine ⟨r2, rfl, ?_, hz2, hb1.trans (hb2.mono hb1.size)⟩
        show _ = _
        rw [hr2.out, hr1.out]
      · have hp := Tr.plen_right (n := n) (i := i) hl2 (by rw [← hk]; exact hik)
        have hu := fun d p => Tr.up_right (n := n) (i := i) (d := d) (p := p) hl2 (by rw [← hk]; exact hik)
        rw [← hk] at hp hu
        obtain ⟨m, hm⟩ : ∃ m, m = Tr.plen (n - k) (i - k) := ⟨_, rfl⟩
        rw [← hm] at hp
        rw [hp] at hpl
        obtain ⟨b, off, rfl, hb, hc⟩ := h (by intro e; rw [e] at hpl; simp at hpl)
        have hlast := Tr.last_of hpl
        obtain ⟨x, hx⟩ : ∃ x, x = ps.getD m ByteArray.empty := ⟨_, rfl⟩
        have hxz : x.size ≤ 200 := by rw [hx]; exact Tr.getD_small hs hpl
        have hxc : w.cell? ⟨b, off + m, none⟩ = some (.string x) := by rw [hc m (by omega), hx]
        have hm62 := Tr.plen_le 62 (n - k) (i - k) (by omega)
        rw [← hm] at hm62
        have HIL := Lib.hid (ih (n - k) (i - k) d (ps.take m) _ w (by omega) (by omega) (by omega) hd (by rw [Tr.take_len hpl, hm]) (fun s h => hs s (List.mem_of_mem_take h)) (IsTx.take h1' h2 hb hc m (by omega)))
        rw [show ((n - k : Nat) : Int) = (n : Int) - (k : Int) by omega, show ((i - k : Nat) : Int) = (i : Int) - (k : Int) by omega] at HIL
        rw [hu, hlast.1, hlast.2, ← hx]
        rw [hpl] at h1' ⊢
        have HK := Lib.hid hk
        have p1 : (0 : Int) ≤ (m : Int) := by omega
        have p2 : (m : Int) ≤ (cap : Int) := by omega
        clear ih hk h1 hp hu hc hs hlast hx hm hpl h
        go_enter Tryd.func74, Tryd.ntmps74
        go_wp2_with fail
        refine (half_walk n hl2 (by omega) w).mono ?_
        rintro e w1 ⟨rfl, rfl⟩
        rw [← HK.out]
        go_wp2_with fail
        refine HIL.out.mono ?_
        rintro e w1 ⟨r1, rfl, hr1, hz1, hb1⟩
        go_wp2_with fail
        refine (refnode_walk _ _ hxz (by omega) w1).mono ?_
        rintro e w2 ⟨r2, rfl, hr2, hz2, hb2⟩
        go_wp2_with fail
        go_ret
        refine ⟨r2, rfl, ?_, hz2, hb1.trans (hb2.mono hb1.size)⟩
        show _ = _
        rw [hr2.out, hr1.out]
end Go.Proofs.YthhfcijgcpnfcaaDoor
/-
  The walk of the reference's Check.
-/
namespace Go.Proofs.YthhfcijgcpnfcaaDoor
open Go.RowKit

set_option maxHeartbeats 1000000 in
set_option maxRecDepth 100000 in
theorem refcheck_long (root leaf : ByteArray) (n i : Int) (v : Value) (ps : List ByteArray) (w : World) (hv : IsTx w v ps) (hi : (1000000 : Int) < n) :
    Calls Tryd.prog 43 #[.string root, .int .i64 n, .int .i64 i, .string leaf, v] w (BoolOut (Tr.check root.data.toList n i leaf.data.toList (Tr.bs ps)) w) := by
  have e : Tr.check root.data.toList n i leaf.data.toList (Tr.bs ps) = false := by unfold Tr.check; rw [decide_eq_false (p := n ≤ 1000000) (by omega)]; simp
  rw [e]
  clear e
  obtain ⟨a, cap, rfl, g1, g2, _⟩ := hv
  go_enter Tryd.func43, Tryd.ntmps43
  go_wp2_with fail
  go_ret
  exact ⟨rfl, Below.refl _ _⟩

set_option maxHeartbeats 1000000 in
set_option maxRecDepth 100000 in
theorem refcheck_low (root leaf : ByteArray) (n i : Int) (v : Value) (ps : List ByteArray) (w : World) (hv : IsTx w v ps) (h2 : ¬ (1000000 : Int) < n) (hi : i < 0) :
    Calls Tryd.prog 43 #[.string root, .int .i64 n, .int .i64 i, .string leaf, v] w (BoolOut (Tr.check root.data.toList n i leaf.data.toList (Tr.bs ps)) w) := by
  have e : Tr.check root.data.toList n i leaf.data.toList (Tr.bs ps) = false := by unfold Tr.check; rw [decide_eq_false (p := 0 ≤ i) (by omega)]; simp
  rw [e]
  clear e
  obtain ⟨a, cap, rfl, g1, g2, _⟩ := hv
  go_enter Tryd.func43, Tryd.ntmps43
  go_wp2_with fail
  go_ret
  exact ⟨rfl, Below.refl _ _⟩

set_option maxHeartbeats 1000000 in
set_option maxRecDepth 100000 in
theorem refcheck_high (root leaf : ByteArray) (n i : Int) (v : Value) (ps : List ByteArray) (w : World) (hv : IsTx w v ps) (h2 : ¬ (1000000 : Int) < n) (h0 : ¬ i < 0) (hi : n ≤ i) :
    Calls Tryd.prog 43 #[.string root, .int .i64 n, .int .i64 i, .string leaf, v] w (BoolOut (Tr.check root.data.toList n i leaf.data.toList (Tr.bs ps)) w) := by
  have e : Tr.check root.data.toList n i leaf.data.toList (Tr.bs ps) = false := by unfold Tr.check; rw [decide_eq_false (p := i < n) (by omega)]; simp
  rw [e]
  clear e
  obtain ⟨a, cap, rfl, g1, g2, _⟩ := hv
  go_enter Tryd.func43, Tryd.ntmps43
  go_wp2_with fail
  go_ret
  exact ⟨rfl, Below.refl _ _⟩

set_option maxHeartbeats 1000000 in
set_option maxRecDepth 100000 in
theorem refcheck_len (root leaf : ByteArray) (n i : Nat) (v : Value) (ps : List ByteArray) (w : World) (hv : IsTx w v ps) (hi : i < n) (hn : n ≤ 1000000) (hl : ps.length ≠ Tr.plen n i) :
    Calls Tryd.prog 43 #[.string root, .int .i64 n, .int .i64 i, .string leaf, v] w (BoolOut (Tr.check root.data.toList n i leaf.data.toList (Tr.bs ps)) w) := by
  have e : Tr.check root.data.toList n i leaf.data.toList (Tr.bs ps) = false := by unfold Tr.check; rw [Int.toNat_natCast, Int.toNat_natCast, Tr.bs_len, decide_eq_false hl]; simp
  rw [e]
  clear e
  have HLN := Lib.hid (reflength_ind n n i w (Nat.le_refl _) (by omega) hi)
  obtain ⟨a, cap, rfl, g1, g2, _⟩ := hv
  have hne : ((ps.length : Int) != (Tr.plen n i : Nat)) = true := bne_iff_ne.2 (by omega)
  have hin : (i : Int) < n := by omega
  go_enter Tryd.func43, Tryd.ntmps43
  go_wp2_with fail
  refine HLN.out.mono ?_
  rintro e w1 ⟨rfl, rfl⟩
  go_wp2_with fail
  go_ret
  exact ⟨rfl, Below.refl _ _⟩

set_option maxHeartbeats 1000000 in
set_option maxRecDepth 100000 in
theorem refcheck_nodig (root leaf : ByteArray) (n i : Nat) (v : Value) (ps : List ByteArray) (w : World) (hv : IsTx w v ps) (hs : ∀ s ∈ ps, s.size ≤ 300) (hi : i < n) (hn : n ≤ 1000000) (hl : ps.length = Tr.plen n i) (hd : Tr.allDig ps = false) :
    Calls Tryd.prog 43 #[.string root, .int .i64 n, .int .i64 i, .string leaf, v] w (BoolOut (Tr.check root.data.toList n i leaf.data.toList (Tr.bs ps)) w) := by
  have e : Tr.check root.data.toList n i leaf.data.toList (Tr.bs ps) = false := by unfold Tr.check; rw [← Tr.all_eq, hd]; simp
  rw [e]
  clear e
  have HLN := Lib.hid (reflength_ind n n i w (Nat.le_refl _) (by omega) hi)
  have HV := Lib.hid (refdigests_walk v ps w hv (fun s h => by have := hs s h; omega))
  obtain ⟨a, cap, rfl, g1, g2, _⟩ := hv
  have hne : ((ps.length : Int) != (Tr.plen n i : Nat)) = false := by rw [hl]; simp
  have hin : (i : Int) < n := by omega
  clear hs hl
  go_enter Tryd.func43, Tryd.ntmps43
  go_wp2_with fail
  refine HLN.out.mono ?_
  rintro e w1 ⟨rfl, rfl⟩
  go_wp2_with fail
  refine HV.out.mono ?_
  rintro e w1 ⟨rfl, rfl⟩
  rw [hd]
  go_wp2_with fail
  go_ret
  exact ⟨rfl, Below.refl _ _⟩

set_option maxHeartbeats 1000000 in
set_option maxRecDepth 100000 in
theorem refcheck_ok (root leaf : ByteArray) (n i : Nat) (v : Value) (ps : List ByteArray) (w : World) (hv : IsTx w v ps) (hlf : leaf.size ≤ 200) (hs : ∀ s ∈ ps, s.size ≤ 200) (hi : i < n) (hn : n ≤ 1000000) (hl : ps.length = Tr.plen n i) (hd : Tr.allDig ps = true) :
    Calls Tryd.prog 43 #[.string root, .int .i64 n, .int .i64 i, .string leaf, v] w (BoolOut (Tr.check root.data.toList n i leaf.data.toList (Tr.bs ps)) w) := by
  have e : Tr.check root.data.toList n i leaf.data.toList (Tr.bs ps) = decide (Tr.up n i (Tr.leaf leaf.data.toList) (Tr.bs ps) = root.data.toList) := by
    unfold Tr.check
    rw [← Tr.all_eq, hd, Int.toNat_natCast, Int.toNat_natCast, Tr.bs_len, decide_eq_true (by omega : (0 : Int) ≤ i), decide_eq_true (by omega : (i : Int) < n), decide_eq_true (by omega : (n : Int) ≤ 1000000), decide_eq_true hl]; simp
  rw [e]
  clear e
  have HLN := Lib.hid (reflength_ind n n i w (Nat.le_refl _) (by omega) hi)
  have HV := Lib.hid (refdigests_walk v ps w hv (fun s h => by have := hs s h; omega))
  have HU := Lib.hid (fun (d : ByteArray) (hd : d.size ≤ 16) w' (h : Below w.heap.size w w') => refup_ind n n i d ps v w' (Nat.le_refl _) (by omega) hi hd hl hs (hv.below h))
  obtain ⟨a, cap, rfl, g1, g2, _⟩ := hv
  have hne : ((ps.length : Int) != (Tr.plen n i : Nat)) = false := by rw [hl]; simp
  have hin : (i : Int) < n := by omega
  clear hs hl
  go_enter Tryd.func43, Tryd.ntmps43
  go_wp2_with fail
  refine HLN.out.mono ?_
  rintro e w1 ⟨rfl, rfl⟩
  go_wp2_with fail
  refine HV.out.mono ?_
  rintro e w1 ⟨rfl, rfl⟩
  rw [hd]
  go_wp2_with fail
  refine (refleaf_walk leaf hlf w).mono ?_
  rintro e w1 ⟨r1, rfl, hr1, hz1, hb1⟩
  go_wp2_with fail
  refine (HU.out r1 hz1 w1 hb1).mono ?_
  rintro e w2 ⟨r2, rfl, hr2, hz2, hb2⟩
  have hb12 := hb1.trans (hb2.mono hb1.size)
  go_wp2_with fail
  go_ret
  exact ⟨Dg.ret_bool (by rw [str_eq, hr2.out, hr1.out]), hb12⟩

theorem Tr.pair_dec {a b c d : Tr.T} : decide ((a, b) = (c, d)) = (decide (a = c) && decide (b = d)) := by
  rw [Bool.eq_iff_iff, Bool.and_eq_true, decide_eq_true_eq, decide_eq_true_eq, decide_eq_true_eq]
  exact ⟨fun h => ⟨congrArg Prod.fst h, congrArg Prod.snd h⟩, fun h => by rw [h.1, h.2]⟩

/-- The reference's Check answers as the arithmetic says. -/
theorem refcheck_walk3 (root leaf : ByteArray) (hlf : leaf.size ≤ 200) (n i : Int) (v : Value) (ps : List ByteArray) (w : World) (hv : IsTx w v ps) (hs : ∀ s ∈ ps, s.size ≤ 300) :
    Calls Tryd.prog 43 #[.string root, .int .i64 n, .int .i64 i, .string leaf, v] w (BoolOut (Tr.check root.data.toList n i leaf.data.toList (Tr.bs ps)) w) := by
  by_cases h2 : (1000000 : Int) < n
  · exact refcheck_long root leaf n i v ps w hv h2
  by_cases h0 : i < 0
  · exact refcheck_low root leaf n i v ps w hv h2 h0
  by_cases h1 : n ≤ i
  · exact refcheck_high root leaf n i v ps w hv h2 h0 h1
  obtain ⟨i, rfl⟩ := Int.eq_ofNat_of_zero_le (by omega : 0 ≤ i)
  obtain ⟨n, rfl⟩ := Int.eq_ofNat_of_zero_le (by omega : 0 ≤ n)
  by_cases hl : ps.length = Tr.plen n i
  · cases hd : Tr.allDig ps with
    | false => exact refcheck_nodig root leaf n i v ps w hv hs (by omega) (by omega) hl hd
    | true => exact refcheck_ok root leaf n i v ps w hv hlf (Tr.digs_small hd) (by omega) (by omega) hl hd
  · exact refcheck_len root leaf n i v ps w hv (by omega) (by omega) hl
theorem refcheck_walk (root leaf : ByteArray) (hlf : leaf.size ≤ 200) (n i : Int) (v : Value) (ps : List ByteArray) (w : World) (hv : IsTx w v ps) (hs : ∀ s ∈ ps, s.size ≤ 200) :
    Calls Tryd.prog 43 #[.string root, .int .i64 n, .int .i64 i, .string leaf, v] w (BoolOut (Tr.check root.data.toList n i leaf.data.toList (Tr.bs ps)) w) :=
  refcheck_walk3 root leaf hlf n i v ps w hv fun s h => Nat.le_trans (hs s h) (by decide)
end Go.Proofs.YthhfcijgcpnfcaaDoor
