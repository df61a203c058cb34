/-
  The walks of the reference's Path, Link, digests, length, long.
-/
import Derived.Test.YteeanbjaphjccaaDoorRPath
import Derived.Test.YteeanbjaphjccaaDoorRLink
import Derived.Test.YteeanbjaphjccaaDoorTLinkFn
import Derived.Test.YteeanbjaphjccaaDoorTRest
namespace Go.Proofs.YteeanbjaphjccaaDoor
open Go.RowKit

set_option maxHeartbeats 1000000 in
set_option maxRecDepth 100000 in
theorem refPath_low (v : Value) (ss : List ByteArray) (i : Int) (w : World) (hv : IsTx w v ss) (hi : i < 0) :
    Calls Tryd.prog 12 #[v, .int .i64 i] w (TextsOut [] 1 w) := by
  obtain ⟨a, cap, rfl, h1, h2, _⟩ := hv
  go_enter Tryd.func12, Tryd.ntmps12
  go_wp2_with fail
  go_ret2
  exact ⟨_, [], rfl, IsTx.nil _, rfl, by simp, Below.refl _ _⟩

set_option maxHeartbeats 1000000 in
set_option maxRecDepth 100000 in
theorem refPath_high (v : Value) (ss : List ByteArray) (i : Int) (w : World) (hv : IsTx w v ss) (h0 : ¬ i < 0) (hi : (ss.length : Int) ≤ i) :
    Calls Tryd.prog 12 #[v, .int .i64 i] w (TextsOut [] 1 w) := by
  obtain ⟨a, cap, rfl, h1, h2, _⟩ := hv
  go_enter Tryd.func12, Tryd.ntmps12
  go_wp2_with fail
  go_ret2
  exact ⟨_, [], rfl, IsTx.nil _, rfl, by simp, Below.refl _ _⟩

set_option maxHeartbeats 1000000 in
set_option maxRecDepth 100000 in
theorem refLink_low (v : Value) (ss : List ByteArray) (i : Int) (w : World) (hv : IsTx w v ss) (hi : i < 0) :
    Calls Tryd.prog 14 #[v, .int .i64 i] w (TextsOut [] 1 w) := by
  obtain ⟨a, cap, rfl, h1, h2, _⟩ := hv
  go_enter Tryd.func14, Tryd.ntmps14
  go_wp2_with fail
  go_ret2
  exact ⟨_, [], rfl, IsTx.nil _, rfl, by simp, Below.refl _ _⟩

set_option maxHeartbeats 1000000 in
set_option maxRecDepth 100000 in
theorem refLink_high (v : Value) (ss : List ByteArray) (i : Int) (w : World) (hv : IsTx w v ss) (h0 : ¬ i < 0) (hi : (ss.length : Int) < i) :
    Calls Tryd.prog 14 #[v, .int .i64 i] w (TextsOut [] 1 w) := by
  obtain ⟨a, cap, rfl, h1, h2, _⟩ := hv
  go_enter Tryd.func14, Tryd.ntmps14
  go_wp2_with fail
  go_ret2
  exact ⟨_, [], rfl, IsTx.nil _, rfl, by simp, Below.refl _ _⟩

set_option maxHeartbeats 1000000 in
set_option maxRecDepth 100000 in
theorem refPath_ok (v : Value) (ss : List ByteArray) (i : Nat) (w : World) (hv : IsTx w v ss) (hs : ∀ s ∈ ss, s.size ≤ 200) (hl : ss.length ≤ 4611686018427387904) (hi : i < ss.length) :
    Calls Tryd.prog 12 #[v, .int .i64 i] w (TextsOut (Tr.path (Tr.bs ss) i) 0 w) := by
  have HC := Lib.hid (refpath_ind ss.length ss v i w (by omega) (Nat.le_refl _) hl hi hv hs)
  obtain ⟨a, cap, rfl, h1, h2, _⟩ := hv
  clear hs
  go_enter Tryd.func12, Tryd.ntmps12
  go_wp2_with fail
  refine HC.out.mono ?_
  rintro e w1 ⟨nv, ps, rfl, hown, hps, hz, hb⟩
  have HO := Lib.hid (own_tx hown)
  clear hown
  go_wp2_with fail
  go_ret2
  exact ⟨nv, ps, rfl, HO.out, hps, hz, hb⟩

set_option maxHeartbeats 1000000 in
set_option maxRecDepth 100000 in
theorem refLink_zero (v : Value) (ss : List ByteArray) (w : World) (hv : IsTx w v ss) :
    Calls Tryd.prog 14 #[v, .int .i64 0] w (TextsOut [] 0 w) := by
  obtain ⟨a, cap, rfl, h1, h2, _⟩ := hv
  go_enter Tryd.func14, Tryd.ntmps14
  go_wp2_with fail
  go_ret2
  exact ⟨_, [], rfl, IsTx.nil _, rfl, by simp, Below.refl _ _⟩

set_option maxHeartbeats 1000000 in
set_option maxRecDepth 100000 in
theorem refLink_all (v : Value) (ss : List ByteArray) (w : World) (hv : IsTx w v ss) (h0 : 0 < ss.length) :
    Calls Tryd.prog 14 #[v, .int .i64 ss.length] w (TextsOut (Tr.link (Tr.bs ss) ss.length true) 0 w) := by
  rw [Tr.link_all (Tr.bs_len ss).symm]
  obtain ⟨a, cap, rfl, h1, h2, _⟩ := hv
  have n0 : ((ss.length : Int) == 0) = false := beq_eq_false_iff_ne.2 (by omega)
  go_enter Tryd.func14, Tryd.ntmps14
  go_wp2_with fail
  go_ret2
  exact ⟨_, [], rfl, IsTx.nil _, rfl, by simp, Below.refl _ _⟩

set_option maxHeartbeats 1000000 in
set_option maxRecDepth 100000 in
theorem refLink_ok (v : Value) (ss : List ByteArray) (m : Nat) (w : World) (hv : IsTx w v ss) (hs : ∀ s ∈ ss, s.size ≤ 200) (hl : ss.length ≤ 4611686018427387904) (h0 : 0 < m) (hm : m < ss.length) :
    Calls Tryd.prog 14 #[v, .int .i64 m] w (TextsOut (Tr.link (Tr.bs ss) m true) 0 w) := by
  have HC := Lib.hid (reflink_ind ss.length ss v m true w h0 (by omega) (Nat.le_refl _) hl hv hs)
  obtain ⟨a, cap, rfl, h1, h2, _⟩ := hv
  have n0 : ((m : Int) == 0) = false := beq_eq_false_iff_ne.2 (by omega)
  have n1 : ((m : Int) == (ss.length : Int)) = false := beq_eq_false_iff_ne.2 (by omega)
  clear hs
  go_enter Tryd.func14, Tryd.ntmps14
  go_wp2_with fail
  refine HC.out.mono ?_
  rintro e w1 ⟨nv, ps, rfl, hown, hps, hz, hb⟩
  have HO := Lib.hid (own_tx hown)
  clear hown
  go_wp2_with fail
  go_ret2
  exact ⟨nv, ps, rfl, HO.out, hps, hz, hb⟩

theorem refis_true (s : ByteArray) (hs : s.size ≤ 9223372036854775807) (h : Dg.isDigest s.data.toList = true) (w : World) :
    Calls Tryd.prog 56 #[.string s] w fun e w' => e = .returned (.bool true) ∧ w = w' := by
  have := refis_walk s hs w; rw [h] at this; exact this
theorem refis_false (s : ByteArray) (hs : s.size ≤ 9223372036854775807) (h : Dg.isDigest s.data.toList = false) (w : World) :
    Calls Tryd.prog 56 #[.string s] w fun e w' => e = .returned (.bool false) ∧ w = w' := by
  have := refis_walk s hs w; rw [h] at this; exact this

set_option maxHeartbeats 1000000 in
set_option maxRecDepth 100000 in
theorem refdigests_walk (v : Value) (l : List ByteArray) (w : World) (hv : IsTx w v l) (hs : ∀ s ∈ l, s.size ≤ 9223372036854775807) :
    Calls Tryd.prog 45 #[v] w fun e w' => e = .returned (.bool (Tr.allDig l)) ∧ w = w' := by
  obtain ⟨a, cap, rfl, h1, h2, hne⟩ := hv
  by_cases h0 : l = []
  · subst h0
    go_enter Tryd.func45, Tryd.ntmps45
    go_wp2_with fail
    refine wp_loop_rounds 1 ?_
    rw [rounds_succ]
    go_wp2_with fail
    go_ret
    exact ⟨rfl, rfl⟩
  · obtain ⟨b, off, rfl, _, hc⟩ := hne h0
    clear hne h0
    have HS := Lib.hid hs
    clear hs
    go_enter Tryd.func45, Tryd.ntmps45
    go_wp2_with fail
    go_loop [3] (fun i => ∃ k : Nat, k ≤ l.length ∧ i = .int .i64 k ∧ Tr.digTo l k) (fun i => l.length - (intOf i).toNat)
    case atStart => exact ⟨0, Nat.zero_le _, rfl, rfl⟩
    case round =>
      obtain ⟨k, hk, rfl, hto⟩ := hrel
      by_cases hlt : k < l.length
      · obtain ⟨t, htk⟩ : ∃ t, t = l.getD k ByteArray.empty := ⟨_, rfl⟩
        have hcell : w.cell? ⟨b, off + k, none⟩ = some (.string t) := by rw [hc k hlt, htk]
        have hts : t.size ≤ 9223372036854775807 := by rw [htk, Dg.getD_eq l k hlt]; exact HS.out _ (List.getElem_mem _)
        have HK := Lib.hid htk
        clear hc htk
        cases hd : Dg.isDigest t.data.toList with
        | true =>
          have HD := Lib.hid hd
          clear hd
          go_wp2_with fail
          refine (refis_true t hts HD.out w).mono ?_
          rintro e w1 ⟨rfl, rfl⟩
          go_wp2_with fail
          go_round
          case rel => exact ⟨k + 1, by omega, by go_num, Tr.digTo_succ hlt hto (by rw [← HK.out]; exact HD.out)⟩
          case measure => simp [intOf]; omega
        | false =>
          have HD := Lib.hid hd
          clear hd
          go_wp2_with fail
          refine (refis_false t hts HD.out w).mono ?_
          rintro e w1 ⟨rfl, rfl⟩
          go_wp2_with fail
          go_ret
          exact ⟨Dg.ret_bool (Tr.allDig_no hlt (by rw [← HK.out]; exact HD.out)).symm, rfl⟩
      · have hke : Hid (k = l.length) := by show _ = _; omega
        clear hc
        go_wp2_with fail
        go_ret
        exact ⟨Dg.ret_bool (Tr.allDig_yes (hke.out ▸ hto)).symm, rfl⟩

theorem Tr.ret_int {a b : Int} (h : a = b) : Ending.returned (.int .i64 a) = .returned (.int .i64 b) := by rw [h]

set_option maxHeartbeats 1000000 in
set_option maxRecDepth 100000 in
theorem reflength_ind (N : Nat) : ∀ (n i : Nat) (w : World), n ≤ N → N ≤ 4611686018427387904 → i < n →
    Calls Tryd.prog 44 #[.int .i64 n, .int .i64 i] w fun e w' => e = .returned (.int .i64 (Tr.plen n i : Nat)) ∧ w = w' := by
  induction N with
  | zero => intro n i w hN _ hi; omega
  | succ N ih =>
    intro n i w hN hM hi
    by_cases h1 : n = 1
    · subst h1
      rw [Tr.plen_one (Nat.le_refl _)]
      clear ih
      go_enter Tryd.func44, Tryd.ntmps44
      go_wp2_with fail
      go_ret
      exact ⟨rfl, rfl⟩
    · obtain ⟨k, hk⟩ : ∃ k, k = Tr.half n := ⟨_, rfl⟩
      have hl2 : 2 ≤ n := by omega
      have hk0 : 0 < k := by rw [hk]; exact Tr.half_pos n
      have hkn : k < n := by rw [hk]; exact Tr.half_lt (by omega)
      have n1 : ((n : Int) == 1) = false := beq_eq_false_iff_ne.2 (by omega)
      by_cases hik : i < k
      · have hpl := Tr.plen_left (n := n) (i := i) hl2 (by rw [← hk]; exact hik)
        rw [← hk] at hpl
        rw [hpl]
        have hp62 := Tr.plen_le 62 k i (by omega)
        obtain ⟨q, hq⟩ : ∃ q, q = Tr.plen k i := ⟨_, rfl⟩
        have HIL := Lib.hid (ih k i w (by omega) (by omega) hik)
        rw [← hq] at HIL hp62 ⊢
        have HK := Lib.hid hk
        clear ih hk h1 hpl hq
        go_enter Tryd.func44, Tryd.ntmps44
        go_wp2_with fail
        refine (half_walk n hl2 (by omega) w).mono ?_
        rintro e w1 ⟨rfl, rfl⟩
        rw [← HK.out]
        go_wp2_with fail
        refine HIL.out.mono ?_
        rintro e w1 ⟨rfl, rfl⟩
        go_wp2_with fail
        go_ret
        exact ⟨Tr.ret_int (by omega), rfl⟩
      · have hpl := Tr.plen_right (n := n) (i := i) hl2 (by rw [← hk]; exact hik)
        rw [← hk] at hpl
        rw [hpl]
        have hp62 := Tr.plen_le 62 (n - k) (i - k) (by omega)
        obtain ⟨q, hq⟩ : ∃ q, q = Tr.plen (n - k) (i - k) := ⟨_, rfl⟩
        have HIL := Lib.hid (ih (n - k) (i - k) w (by omega) (by omega) (by omega))
        rw [show ((n - k : Nat) : Int) = (n : Int) - (k : Int) by omega, show ((i - k : Nat) : Int) = (i : Int) - (k : Int) by omega] at HIL
        rw [← hq] at HIL hp62 ⊢
        have HK := Lib.hid hk
        clear ih hk h1 hpl hq
        go_enter Tryd.func44, Tryd.ntmps44
        go_wp2_with fail
        refine (half_walk n hl2 (by omega) w).mono ?_
        rintro e w1 ⟨rfl, rfl⟩
        rw [← HK.out]
        go_wp2_with fail
        refine HIL.out.mono ?_
        rintro e w1 ⟨rfl, rfl⟩
        go_wp2_with fail
        go_ret
        exact ⟨Tr.ret_int (by omega), rfl⟩

set_option maxHeartbeats 1000000 in
set_option maxRecDepth 100000 in
theorem reflong_ind (N : Nat) : ∀ (n m : Nat) (whole : Bool) (w : World), 0 < m → m ≤ n → n ≤ N → N ≤ 4611686018427387904 →
    Calls Tryd.prog 49 #[.int .i64 n, .int .i64 m, .bool whole] w fun e w' => e = .returned (.int .i64 (Tr.llen n m whole : Nat)) ∧ w = w' := by
  induction N with
  | zero => intro n m whole w h0 hm hN; omega
  | succ N ih =>
    intro n m whole w h0 hm hN hM
    by_cases h1 : m = n
    · subst h1
      rw [Tr.llen_all rfl]
      clear ih
      cases whole with
      | true =>
        go_enter Tryd.func49, Tryd.ntmps49
        go_wp2_with fail
        go_ret
        exact ⟨rfl, rfl⟩
      | false =>
        go_enter Tryd.func49, Tryd.ntmps49
        go_wp2_with fail
        go_ret
        exact ⟨rfl, rfl⟩
    · obtain ⟨k, hk⟩ : ∃ k, k = Tr.half n := ⟨_, rfl⟩
      have hl2 : 2 ≤ n := by omega
      have hk0 : 0 < k := by rw [hk]; exact Tr.half_pos n
      have hkn : k < n := by rw [hk]; exact Tr.half_lt (by omega)
      have n1 : ((m : Int) == (n : Int)) = false := beq_eq_false_iff_ne.2 (by omega)
      by_cases hmk : m ≤ k
      · have hpl := Tr.llen_left (n := n) (m := m) (whole := whole) h1 hl2 (by rw [← hk]; exact hmk)
        rw [← hk] at hpl
        rw [hpl]
        have hp62 := Tr.llen_le 62 k m whole (by omega)
        obtain ⟨q, hq⟩ : ∃ q, q = Tr.llen k m whole := ⟨_, rfl⟩
        have HIL := Lib.hid (ih k m whole w h0 hmk (by omega) (by omega))
        rw [← hq] at HIL hp62 ⊢
        have HK := Lib.hid hk
        clear ih hk h1 hpl hq
        go_enter Tryd.func49, Tryd.ntmps49
        go_wp2_with fail
        refine (half_walk n hl2 (by omega) w).mono ?_
        rintro e w1 ⟨rfl, rfl⟩
        rw [← HK.out]
        go_wp2_with fail
        refine HIL.out.mono ?_
        rintro e w1 ⟨rfl, rfl⟩
        go_wp2_with fail
        go_ret
        exact ⟨Tr.ret_int (by omega), rfl⟩
      · have hpl := Tr.llen_right (n := n) (m := m) (whole := whole) h1 hl2 (by rw [← hk]; exact hmk)
        rw [← hk] at hpl
        rw [hpl]
        have hp62 := Tr.llen_le 62 (n - k) (m - k) false (by omega)
        obtain ⟨q, hq⟩ : ∃ q, q = Tr.llen (n - k) (m - k) false := ⟨_, rfl⟩
        have HIL := Lib.hid (ih (n - k) (m - k) false w (by omega) (by omega) (by omega) (by omega))
        rw [show ((n - k : Nat) : Int) = (n : Int) - (k : Int) by omega, show ((m - k : Nat) : Int) = (m : Int) - (k : Int) by omega] at HIL
        rw [← hq] at HIL hp62 ⊢
        have HK := Lib.hid hk
        clear ih hk h1 hpl hq
        go_enter Tryd.func49, Tryd.ntmps49
        go_wp2_with fail
        refine (half_walk n hl2 (by omega) w).mono ?_
        rintro e w1 ⟨rfl, rfl⟩
        rw [← HK.out]
        go_wp2_with fail
        refine HIL.out.mono ?_
        rintro e w1 ⟨rfl, rfl⟩
        go_wp2_with fail
        go_ret
        exact ⟨Tr.ret_int (by omega), rfl⟩
end Go.Proofs.YteeanbjaphjccaaDoor
