/-
  The walks of the reference's up and both.
-/
import Derived.Test.YteeanbjaphjccaaDoorRFns
import Derived.Test.YteeanbjaphjccaaDoorTCheckC
import Derived.Deep.QuietTactic
import Derived.BigQuiet
namespace Go.Proofs.YteeanbjaphjccaaDoor
open Go.RowKit

theorem Tr.last_of {ps : List ByteArray} {m : Nat} (hl : ps.length = m + 1) : (Tr.bs ps).dropLast = Tr.bs (ps.take m) ∧ (Tr.bs ps).getLastD [] = (ps.getD m ByteArray.empty).data.toList := by
  have h := Tr.take_next (ps := ps) (m := m) (by omega)
  rw [List.take_of_length_le (by rw [Tr.bs_len]; omega)] at h
  refine ⟨by rw [h.1, Tr.bs_take], ?_⟩
  rw [h.2, Dg.getD_eq ps m (by omega), List.drop_eq_getElem_cons (by omega)]; rfl
theorem Tr.take_len {ps : List ByteArray} {m : Nat} (hl : ps.length = m + 1) : (ps.take m).length = m := by rw [List.length_take]; omega
theorem Tr.getD_small {ps : List ByteArray} {n m : Nat} (h : ∀ s ∈ ps, s.size ≤ n) (hl : ps.length = m + 1) : (ps.getD m ByteArray.empty).size ≤ n := by
  rw [Dg.getD_eq ps m (by omega)]; exact h _ (List.getElem_mem _)

set_option maxHeartbeats 2000000 in
set_option maxRecDepth 100000 in
theorem refup_ind (N : Nat) : ∀ (n i : Nat) (d : ByteArray) (ps : List ByteArray) (v : Value) (w : World), n ≤ N → N ≤ 4611686018427387904 → i < n → d.size ≤ 16 → ps.length = Tr.plen n i → (∀ s ∈ ps, s.size ≤ 200) → IsTx w v ps →
    Calls Tryd.prog 46 #[.int .i64 n, .int .i64 i, .string d, v] w (Digs (Tr.up n i d.data.toList (Tr.bs ps)) w) := by
  induction N with
  | zero => intro n i d ps v w hN _ hi; omega
  | succ N ih =>
    intro n i d ps v w hN hM hi hd hpl hs hv
    by_cases h1 : n = 1
    · subst h1
      rw [Tr.up_one (Nat.le_refl _)]
      clear ih hv hs
      go_enter Tryd.func46, Tryd.ntmps46
      go_wp2_with fail
      go_ret
      exact ⟨d, rfl, rfl, hd, Below.refl _ _⟩
    · obtain ⟨k, hk⟩ : ∃ k, k = Tr.half n := ⟨_, rfl⟩
      have hl2 : 2 ≤ n := by omega
      have hk0 : 0 < k := by rw [hk]; exact Tr.half_pos n
      have hkn : k < n := by rw [hk]; exact Tr.half_lt (by omega)
      have n1 : ((n : Int) == 1) = false := beq_eq_false_iff_ne.2 (by omega)
      obtain ⟨a, cap, rfl, h1', h2, h⟩ := hv
      by_cases hik : i < k
      · have hp := Tr.plen_left (n := n) (i := i) hl2 (by rw [← hk]; exact hik)
        have hu := fun d p => Tr.up_left (n := n) (i := i) (d := d) (p := p) hl2 (by rw [← hk]; exact hik)
        rw [← hk] at hp hu
        obtain ⟨m, hm⟩ : ∃ m, m = Tr.plen k i := ⟨_, rfl⟩
        rw [← hm] at hp
        rw [hp] at hpl
        obtain ⟨b, off, rfl, hb, hc⟩ := h (by intro e; rw [e] at hpl; simp at hpl)
        have hlast := Tr.last_of hpl
        obtain ⟨x, hx⟩ : ∃ x, x = ps.getD m ByteArray.empty := ⟨_, rfl⟩
        have hxz : x.size ≤ 200 := by rw [hx]; exact Tr.getD_small hs hpl
        have hxc : w.cell? ⟨b, off + m, none⟩ = some (.string x) := by rw [hc m (by omega), hx]
        have hm62 := Tr.plen_le 62 k i (by omega)
        rw [← hm] at hm62
        have HIL := Lib.hid (ih k i d (ps.take m) _ w (by omega) (by omega) (by omega) hd (by rw [Tr.take_len hpl, hm]) (fun s h => hs s (List.mem_of_mem_take h)) (IsTx.take h1' h2 hb hc m (by omega)))
        rw [hu, hlast.1, hlast.2, ← hx]
        rw [hpl] at h1' ⊢
        have HK := Lib.hid hk
        have p1 : (0 : Int) ≤ (m : Int) := by omega
        have p2 : (m : Int) ≤ (cap : Int) := by omega
        clear ih hk h1 hp hu hc hs hlast hx hm hpl h
        go_enter Tryd.func46, Tryd.ntmps46
        go_wp2_with fail
        refine (half_walk n hl2 (by omega) w).mono ?_
        rintro e w1 ⟨rfl, rfl⟩
        rw [← HK.out]
        go_wp2_with fail
        refine HIL.out.mono ?_
        rintro e w1 ⟨r1, rfl, hr1, hz1, hb1⟩
        go_wp2_with fail
        refine (refnode_walk _ _ (by omega) hxz w1).mono ?_
        rintro e w2 ⟨r2, rfl, hr2, hz2, hb2⟩
        go_wp2_with fail
        go_ret
        refine ⟨r2, rfl, ?_, hz2, hb1.trans (hb2.mono hb1.size)⟩
        show _ = _
        rw [hr2.out, hr1.out]
      · have hp := Tr.plen_right (n := n) (i := i) hl2 (by rw [← hk]; exact hik)
        have hu := fun d p => Tr.up_right (n := n) (i := i) (d := d) (p := p) hl2 (by rw [← hk]; exact hik)
        rw [← hk] at hp hu
        obtain ⟨m, hm⟩ : ∃ m, m = Tr.plen (n - k) (i - k) := ⟨_, rfl⟩
        rw [← hm] at hp
        rw [hp] at hpl
        obtain ⟨b, off, rfl, hb, hc⟩ := h (by intro e; rw [e] at hpl; simp at hpl)
        have hlast := Tr.last_of hpl
        obtain ⟨x, hx⟩ : ∃ x, x = ps.getD m ByteArray.empty := ⟨_, rfl⟩
        have hxz : x.size ≤ 200 := by rw [hx]; exact Tr.getD_small hs hpl
        have hxc : w.cell? ⟨b, off + m, none⟩ = some (.string x) := by rw [hc m (by omega), hx]
        have hm62 := Tr.plen_le 62 (n - k) (i - k) (by omega)
        rw [← hm] at hm62
        have HIL := Lib.hid (ih (n - k) (i - k) d (ps.take m) _ w (by omega) (by omega) (by omega) hd (by rw [Tr.take_len hpl, hm]) (fun s h => hs s (List.mem_of_mem_take h)) (IsTx.take h1' h2 hb hc m (by omega)))
        rw [show ((n - k : Nat) : Int) = (n : Int) - (k : Int) by omega, show ((i - k : Nat) : Int) = (i : Int) - (k : Int) by omega] at HIL
        rw [hu, hlast.1, hlast.2, ← hx]
        rw [hpl] at h1' ⊢
        have HK := Lib.hid hk
        have p1 : (0 : Int) ≤ (m : Int) := by omega
        have p2 : (m : Int) ≤ (cap : Int) := by omega
        clear ih hk h1 hp hu hc hs hlast hx hm hpl h
        go_enter Tryd.func46, Tryd.ntmps46
        go_wp2_with fail
        refine (half_walk n hl2 (by omega) w).mono ?_
        rintro e w1 ⟨rfl, rfl⟩
        rw [← HK.out]
        go_wp2_with fail
        refine HIL.out.mono ?_
        rintro e w1 ⟨r1, rfl, hr1, hz1, hb1⟩
        go_wp2_with fail
        refine (refnode_walk _ _ hxz (by omega) w1).mono ?_
        rintro e w2 ⟨r2, rfl, hr2, hz2, hb2⟩
        go_wp2_with fail
        go_ret
        refine ⟨r2, rfl, ?_, hz2, hb1.trans (hb2.mono hb1.size)⟩
        show _ = _
        rw [hr2.out, hr1.out]

/-- What the reference's both answers. -/
def RefBothOut (n m : Nat) (whole : Bool) (old : ByteArray) (ps : List ByteArray) (w : World) (e : Ending) (w' : World) : Prop :=
  ∃ a b : ByteArray, e = .returned (.tuple #[.string a, .string b]) ∧ a.size ≤ 200 ∧ b.size ≤ 200 ∧ Hid ((a.data.toList, b.data.toList) = Tr.both n m whole old.data.toList (Tr.bs ps)) ∧ Below w.heap.size w w'

set_option maxHeartbeats 1000000 in
set_option maxRecDepth 100000 in
theorem refboth_whole (n : Nat) (old : ByteArray) (ho : old.size ≤ 200) (ps : List ByteArray) (v : Value) (w : World) :
    Calls Tryd.prog 50 #[.int .i64 n, .int .i64 n, .bool true, .string old, v] w (RefBothOut n n true old ps w) := by
  go_enter Tryd.func50, Tryd.ntmps50
  go_wp2_with fail
  go_ret2
  exact ⟨old, old, rfl, ho, ho, by show _ = _; rw [Tr.both_all rfl]; rfl, Below.refl _ _⟩

set_option maxHeartbeats 1000000 in
set_option maxRecDepth 100000 in
theorem refboth_all (n : Nat) (old : ByteArray) (ps : List ByteArray) (hl : ps.length = 1) (hs : ∀ s ∈ ps, s.size ≤ 200) (v : Value) (w : World) (hv : IsTx w v ps) :
    Calls Tryd.prog 50 #[.int .i64 n, .int .i64 n, .bool false, .string old, v] w (RefBothOut n n false old ps w) := by
  obtain ⟨x, rfl⟩ := List.length_eq_one_iff.1 hl
  obtain ⟨a, cap, rfl, h1, h2, h⟩ := hv
  obtain ⟨b, off, rfl, hb, hc⟩ := h (by simp)
  have hxc : w.cell? ⟨b, off, none⟩ = some (.string x) := hc 0 (by simp)
  have hxz : x.size ≤ 200 := hs x (by simp)
  have e1 : [x].length = 1 := rfl
  rw [e1]
  clear h hc hs h1 hl e1
  go_enter Tryd.func50, Tryd.ntmps50
  go_wp2_with fail
  go_quiet (fail)
  go_wp2_with fail
  go_ret2
  exact ⟨x, x, rfl, hxz, hxz, by show _ = _; rw [Tr.both_all rfl]; rfl, below_drewN (Below.refl _ _) _⟩

set_option maxHeartbeats 4000000 in
set_option maxRecDepth 100000 in
theorem refboth_ind (N : Nat) : ∀ (n m : Nat) (whole : Bool) (old : ByteArray) (ps : List ByteArray) (v : Value) (w : World), 0 < m → m ≤ n → n ≤ N → N ≤ 4611686018427387904 → old.size ≤ 200 → ps.length = Tr.llen n m whole → (∀ s ∈ ps, s.size ≤ 200) → IsTx w v ps →
    Calls Tryd.prog 50 #[.int .i64 n, .int .i64 m, .bool whole, .string old, v] w (RefBothOut n m whole old ps w) := by
  induction N with
  | zero => intro n m whole old ps v w h0 hm hN; omega
  | succ N ih =>
    intro n m whole old ps v w h0 hmn hN hM ho hpl hs hv
    by_cases h1 : m = n
    · subst h1
      rw [Tr.llen_all rfl] at hpl
      cases whole with
      | true => exact refboth_whole m old ho ps v w
      | false => exact refboth_all m old ps (by rw [hpl]; rfl) hs v w hv
    · obtain ⟨k, hk⟩ : ∃ k, k = Tr.half n := ⟨_, rfl⟩
      have hl2 : 2 ≤ n := by omega
      have hk0 : 0 < k := by rw [hk]; exact Tr.half_pos n
      have hkn : k < n := by rw [hk]; exact Tr.half_lt (by omega)
      have n1 : ((m : Int) == (n : Int)) = false := beq_eq_false_iff_ne.2 (by omega)
      obtain ⟨a, cap, rfl, h1', h2, h⟩ := hv
      by_cases hmk : m ≤ k
      · have hp := Tr.llen_left (n := n) (m := m) (whole := whole) h1 hl2 (by rw [← hk]; exact hmk)
        have hu := fun d p => Tr.both_left (n := n) (m := m) (whole := whole) (old := d) (p := p) h1 hl2 (by rw [← hk]; exact hmk)
        rw [← hk] at hp hu
        obtain ⟨q, hq⟩ : ∃ q, q = Tr.llen k m whole := ⟨_, rfl⟩
        rw [← hq] at hp
        rw [hp] at hpl
        obtain ⟨b, off, rfl, hb, hc⟩ := h (by intro e; rw [e] at hpl; simp at hpl)
        have hlast := Tr.last_of hpl
        obtain ⟨x, hx⟩ : ∃ x, x = ps.getD q ByteArray.empty := ⟨_, rfl⟩
        have hxz : x.size ≤ 200 := by rw [hx]; exact Tr.getD_small hs hpl
        have hxc : w.cell? ⟨b, off + q, none⟩ = some (.string x) := by rw [hc q (by omega), hx]
        have hm62 := Tr.llen_le 62 k m whole (by omega)
        rw [← hq] at hm62
        have HIL := Lib.hid (ih k m whole old (ps.take q) _ w (by omega) (by omega) (by omega) (by omega) ho (by rw [Tr.take_len hpl, hq]) (fun s h => hs s (List.mem_of_mem_take h)) (IsTx.take h1' h2 hb hc q (by omega)))
        have HU := Lib.hid (hu old.data.toList (Tr.bs ps))
        rw [hlast.1, hlast.2, ← hx] at HU
        rw [hpl] at h1' ⊢
        have HK := Lib.hid hk
        have p1 : (0 : Int) ≤ (q : Int) := by omega
        have p2 : (q : Int) ≤ (cap : Int) := by omega
        clear ih hk h1 hp hu hc hs hlast hx hq hpl h
        go_enter Tryd.func50, Tryd.ntmps50
        go_wp2_with fail
        refine (half_walk n hl2 (by omega) w).mono ?_
        rintro e w1 ⟨rfl, rfl⟩
        rw [← HK.out]
        go_wp2_with fail
        refine HIL.out.mono ?_
        rintro e w1 ⟨r1, r2, rfl, hz1, hz2, hab, hb1⟩
        go_wp2_with fail
        refine (refnode_walk _ _ hz2 hxz w1).mono ?_
        rintro e w2 ⟨r3, rfl, hr3, hz3, hb2⟩
        go_wp2_with fail
        go_ret2
        refine ⟨r1, r3, rfl, hz1, by omega, ?_, hb1.trans (hb2.mono hb1.size)⟩
        show _ = _
        rw [HU.out, ← hab.out, hr3.out]
      · have hp := Tr.llen_right (n := n) (m := m) (whole := whole) h1 hl2 (by rw [← hk]; exact hmk)
        have hu := fun d p => Tr.both_right (n := n) (m := m) (whole := whole) (old := d) (p := p) h1 hl2 (by rw [← hk]; exact hmk)
        rw [← hk] at hp hu
        obtain ⟨q, hq⟩ : ∃ q, q = Tr.llen (n - k) (m - k) false := ⟨_, rfl⟩
        rw [← hq] at hp
        rw [hp] at hpl
        obtain ⟨b, off, rfl, hb, hc⟩ := h (by intro e; rw [e] at hpl; simp at hpl)
        have hlast := Tr.last_of hpl
        obtain ⟨x, hx⟩ : ∃ x, x = ps.getD q ByteArray.empty := ⟨_, rfl⟩
        have hxz : x.size ≤ 200 := by rw [hx]; exact Tr.getD_small hs hpl
        have hxc : w.cell? ⟨b, off + q, none⟩ = some (.string x) := by rw [hc q (by omega), hx]
        have hm62 := Tr.llen_le 62 (n - k) (m - k) false (by omega)
        rw [← hq] at hm62
        have HIL := Lib.hid (ih (n - k) (m - k) false old (ps.take q) _ w (by omega) (by omega) (by omega) (by omega) ho (by rw [Tr.take_len hpl, hq]) (fun s h => hs s (List.mem_of_mem_take h)) (IsTx.take h1' h2 hb hc q (by omega)))
        rw [show ((n - k : Nat) : Int) = (n : Int) - (k : Int) by omega, show ((m - k : Nat) : Int) = (m : Int) - (k : Int) by omega] at HIL
        have HU := Lib.hid (hu old.data.toList (Tr.bs ps))
        rw [hlast.1, hlast.2, ← hx] at HU
        rw [hpl] at h1' ⊢
        have HK := Lib.hid hk
        have p1 : (0 : Int) ≤ (q : Int) := by omega
        have p2 : (q : Int) ≤ (cap : Int) := by omega
        clear ih hk h1 hp hu hc hs hlast hx hq hpl h
        go_enter Tryd.func50, Tryd.ntmps50
        go_wp2_with fail
        refine (half_walk n hl2 (by omega) w).mono ?_
        rintro e w1 ⟨rfl, rfl⟩
        rw [← HK.out]
        go_wp2_with fail
        refine HIL.out.mono ?_
        rintro e w1 ⟨r1, r2, rfl, hz1, hz2, hab, hb1⟩
        go_wp2_with fail
        refine (refnode_walk _ _ hxz hz1 w1).mono ?_
        rintro e w2 ⟨r3, rfl, hr3, hz3, hb2⟩
        have hb12 := hb1.trans (hb2.mono hb1.size)
        go_wp2_with fail
        refine (refnode_walk _ _ hxz hz2 w2).mono ?_
        rintro e w3 ⟨r4, rfl, hr4, hz4, hb3⟩
        go_wp2_with fail
        go_ret2
        refine ⟨r3, r4, rfl, by omega, by omega, ?_, hb12.trans (hb3.mono hb12.size)⟩
        show _ = _
        rw [HU.out, ← hab.out, hr3.out, hr4.out]
end Go.Proofs.YteeanbjaphjccaaDoor
