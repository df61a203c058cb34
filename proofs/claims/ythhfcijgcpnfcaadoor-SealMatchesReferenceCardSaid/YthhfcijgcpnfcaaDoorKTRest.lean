import Derived.Test.YthhfcijgcpnfcaaDoorKTTx
import Derived.WalkKit
import Derived.WalkSpells
import Derived.WalkLawsBesides
import Derived.WalkSmall
import Derived.Lib.Hide
import Derived.Deep.QuietTactic
import Derived.BigQuiet
import Derived.OneCell
/-
  The walks of what is left of a proof: digests.valid, rest.next, rest.used.
-/
namespace Go.Proofs.YthhfcijgcpnfcaaDoor
open Go.RowKit

/-- All texts are digests. -/
def Tr.allDig (l : List ByteArray) : Bool := (Tr.bs l).all Dg.isDigest

/-- The variable in block b: what is left of a proof, and whether an element was asked for that was not there; the proof lies in the memory of w0. -/
structure RestIs (w0 : World) (b : Nat) (ps : List ByteArray) (short : Bool) (w : World) : Prop where
  ge : w0.heap.size ≤ b
  old : Below w0.heap.size w0 w
  ex : ∃ v, w.heap[b]? = some (.cells #[v, .bool short] 79 (0, 0)) ∧ IsTx w0 v ps

theorem grown_set (w : World) (b o : Nat) (u : Value) : w.grownBy (w.setCell ⟨b, o, none⟩ u) (some b) :=
  ⟨rfl, rfl, rfl, by simp [World.setCell], fun k _ hk => Below.heap_setCell _ _ _ _ (fun e => hk (by rw [e]))⟩
theorem two_set0 {w : World} {b : Nat} {v x u : Value} {t : TypeId} (h : w.heap[b]? = some (.cells #[v, x] t (0, 0))) : (w.setCell ⟨b, 0, none⟩ u).heap[b]? = some (.cells #[u, x] t (0, 0)) := by
  simp [World.setCell, Array.getElem?_modify, h]
theorem two_set1 {w : World} {b : Nat} {v x u : Value} {t : TypeId} (h : w.heap[b]? = some (.cells #[v, x] t (0, 0))) : (w.setCell ⟨b, 1, none⟩ u).heap[b]? = some (.cells #[v, u] t (0, 0)) := by
  simp [World.setCell, Array.getElem?_modify, h]
theorem two_cell0 {w : World} {b : Nat} {v x : Value} {t : TypeId} (h : w.heap[b]? = some (.cells #[v, x] t (0, 0))) : w.cell? ⟨b, 0, none⟩ = some v := by simp [World.cell?, h]
theorem two_cell1 {w : World} {b : Nat} {v x : Value} {t : TypeId} (h : w.heap[b]? = some (.cells #[v, x] t (0, 0))) : w.cell? ⟨b, 1, none⟩ = some x := by simp [World.cell?, h]
theorem two_free0 {w : World} {b : Nat} {v x : Value} {t : TypeId} (h : w.heap[b]? = some (.cells #[v, x] t (0, 0))) : w.frozen? ⟨b, 0, none⟩ = false := by simp [World.frozen?, h]
theorem two_free1 {w : World} {b : Nat} {v x : Value} {t : TypeId} (h : w.heap[b]? = some (.cells #[v, x] t (0, 0))) : w.frozen? ⟨b, 1, none⟩ = false := by simp [World.frozen?, h]

/-- What is behind the first element. -/
theorem tx_tail {w : World} {g off cap n : Nat} {p : ByteArray} {ps : List ByteArray} (hn : n = (p :: ps).length) (h1 : n ≤ cap) (h2 : cap ≤ 9223372036854775807) (hg : g < w.heap.size)
    (hc : ∀ j, j < (p :: ps).length → w.cell? ⟨g, off + j, none⟩ = some (.string ((p :: ps).getD j ByteArray.empty))) : IsTx w (.slice (some ⟨g, off + 1, none⟩) (n - 1) (cap - 1)) ps := by
  have := IsTx.drop (ss := p :: ps) (by omega) h2 hg hc 1 (n - 1) (cap - 1) (by rw [hn]; simp) (by have : n = ps.length + 1 := hn; omega)
  simpa using this
theorem tx_tail0 {w : World} {g off n : Nat} {p : ByteArray} {ps : List ByteArray} (hn : n = (p :: ps).length) (h1 : n ≤ 1) : IsTx w (.slice (some ⟨g, off, none⟩) (n - 1) 0) ps := by
  have : ps = [] := List.length_eq_zero_iff.1 (by have : n = ps.length + 1 := hn; omega)
  subst this
  exact ⟨some ⟨g, off, none⟩, 0, by rw [hn]; rfl, by simp, by omega, fun h => absurd rfl h⟩

set_option maxHeartbeats 1000000 in
set_option maxRecDepth 100000 in
theorem next_some (w0 : World) (b : Nat) (p : ByteArray) (ps : List ByteArray) (short : Bool) (w : World) (hr : RestIs w0 b (p :: ps) short w) :
    Calls Tryd.prog 70 #[.pointer (some ⟨b, 0, none⟩)] w fun e w' => e = .returned (.string p) ∧ RestIs w0 b ps short w' ∧ w.grownBy w' (some b) := by
  obtain ⟨hge, hold, v, hb, hv⟩ := hr
  have HO := Lib.hid hold
  obtain ⟨a, cap, rfl, h1, h2, h⟩ := hv
  obtain ⟨g, off, rfl, hg, hc⟩ := h (by simp)
  have c0 := two_cell0 hb
  have f0 := two_free0 hb
  have cp : w.cell? ⟨g, off, none⟩ = some (.string p) := by have := hc 0 (by simp); rw [hold.cell (p := ⟨g, off, none⟩) hg]; simpa using this
  obtain ⟨n, hn⟩ : ∃ n, n = (p :: ps).length := ⟨_, rfl⟩
  rw [← hn] at c0 h1
  have hn1 : 1 ≤ n := by rw [hn]; simp
  have n1 : ((n : Int) == 0) = false := by simp; omega
  have HN := Lib.hid hn
  have HC := Lib.hid hc
  have HB := Lib.hid hb
  have hgb : g ≠ b := by omega
  clear h hc hn hb hold
  go_enter Tryd.func70, Tryd.ntmps70
  go_wp2_with fail
  · go_ret
    exact ⟨rfl, ⟨hge, HO.out.setCell hge _, _, two_set0 HB.out, tx_tail0 HN.out (by omega)⟩, grown_set _ _ _ _⟩
  · go_ret
    exact ⟨rfl, ⟨hge, HO.out.setCell hge _, _, two_set0 HB.out, tx_tail HN.out h1 h2 hg HC.out⟩, grown_set _ _ _ _⟩

set_option maxHeartbeats 1000000 in
set_option maxRecDepth 100000 in
theorem next_none (w0 : World) (b : Nat) (short : Bool) (w : World) (hr : RestIs w0 b [] short w) :
    Calls Tryd.prog 70 #[.pointer (some ⟨b, 0, none⟩)] w fun e w' => e = .returned (.string ⟨#[]⟩) ∧ RestIs w0 b [] true w' ∧ w.grownBy w' (some b) := by
  obtain ⟨hge, hold, v, hb, hv⟩ := hr
  have HO := Lib.hid hold
  have HV := Lib.hid hv
  obtain ⟨a, cap, rfl, h1, h2, h⟩ := hv
  have c0 := two_cell0 hb
  have c1 := two_cell1 hb
  have f1 := two_free1 hb
  have HB := Lib.hid hb
  clear h hb hold
  go_enter Tryd.func70, Tryd.ntmps70
  go_wp2_with fail
  go_ret
  exact ⟨rfl, ⟨hge, HO.out.setCell hge _, _, two_set1 HB.out, HV.out⟩, grown_set _ _ _ _⟩

theorem restnext_walk (w0 : World) (b : Nat) (ps : List ByteArray) (short : Bool) (w : World) (hr : RestIs w0 b ps short w) :
    Calls Tryd.prog 70 #[.pointer (some ⟨b, 0, none⟩)] w fun e w' => ∃ x : ByteArray, e = .returned (.string x) ∧ Hid (x = ps.headD ⟨#[]⟩) ∧ RestIs w0 b ps.tail (short || ps.isEmpty) w' ∧ w.grownBy w' (some b) := by
  match ps, hr with
  | [], hr => exact (next_none w0 b short w hr).mono fun _ _ ⟨h1, h2, h3⟩ => ⟨_, h1, rfl, by rw [List.isEmpty_nil, Bool.or_true]; exact h2, h3⟩
  | p :: ps, hr => exact (next_some w0 b p ps short w hr).mono fun _ _ ⟨h1, h2, h3⟩ => ⟨_, h1, rfl, by rw [List.isEmpty_cons, Bool.or_false]; exact h2, h3⟩
theorem RestIs.below {w0 : World} {b : Nat} {ps : List ByteArray} {short : Bool} {w w' : World} (h : RestIs w0 b ps short w) (hb : Below w.heap.size w w') : RestIs w0 b ps short w' := by
  obtain ⟨h1, h2, v, h3, h4⟩ := h
  exact ⟨h1, h2.trans (hb.mono h2.size), v, (hb.block _ (lt_of_block h3)).trans h3, h4⟩

set_option maxHeartbeats 1000000 in
set_option maxRecDepth 100000 in
theorem used_walk (w0 : World) (b : Nat) (ps : List ByteArray) (short : Bool) (w : World) (hr : RestIs w0 b ps short w) :
    Calls Tryd.prog 71 #[.pointer (some ⟨b, 0, none⟩)] w fun e w' => e = .returned (.bool (decide (ps.length = 0) && !short)) ∧ Below w.heap.size w w' := by
  obtain ⟨hge, hold, v, hb, hv⟩ := hr
  obtain ⟨a, cap, rfl, h1, h2, h⟩ := hv
  have c0 := two_cell0 hb
  have c1 := two_cell1 hb
  clear h hb hold
  by_cases h0 : ps.length = 0
  · rw [h0] at c0
    rw [decide_eq_true h0, Bool.true_and]
    clear h0
    go_enter Tryd.func71, Tryd.ntmps71
    go_wp2_with fail
    go_ret
    exact ⟨rfl, Below.refl _ _⟩
  · rw [decide_eq_false h0, Bool.false_and]
    have n0 : ((ps.length : Int) == 0) = false := beq_eq_false_iff_ne.2 (by omega)
    clear h0
    go_enter Tryd.func71, Tryd.ntmps71
    go_wp2_with fail
    go_ret
    exact ⟨rfl, Below.refl _ _⟩

def Tr.digTo (l : List ByteArray) (k : Nat) : Prop := (Tr.bs (l.take k)).all Dg.isDigest = true
theorem Tr.digTo_succ {l : List ByteArray} {k : Nat} (h : k < l.length) (hk : Tr.digTo l k) (hb : Dg.isDigest (l.getD k ByteArray.empty).data.toList = true) : Tr.digTo l (k + 1) := by
  unfold Tr.digTo Tr.bs at *
  rw [Dg.getD_eq l k h] at hb
  rw [List.take_succ_eq_append_getElem h, List.map_append, List.all_append, hk]; simp [hb]
theorem Tr.allDig_no {l : List ByteArray} {k : Nat} (h : k < l.length) (hb : Dg.isDigest (l.getD k ByteArray.empty).data.toList = false) : Tr.allDig l = false := by
  rw [Dg.getD_eq l k h] at hb
  unfold Tr.allDig Tr.bs
  rw [List.all_eq_false]
  exact ⟨l[k].data.toList, List.mem_map.2 ⟨l[k], List.getElem_mem _, rfl⟩, by rw [hb]; decide⟩
theorem Tr.allDig_yes {l : List ByteArray} (hk : Tr.digTo l l.length) : Tr.allDig l = true := by
  unfold Tr.digTo at hk
  rw [List.take_length] at hk
  exact hk

set_option maxHeartbeats 1000000 in
set_option maxRecDepth 100000 in
theorem valid_walk (v : Value) (l : List ByteArray) (w : World) (hv : IsTx w v l) (hs : ∀ s ∈ l, s.size ≤ 9223372036854775807) :
    Calls Tryd.prog 68 #[v] w fun e w' => e = .returned (.bool (Tr.allDig l)) ∧ w = w' := by
  obtain ⟨a, cap, rfl, h1, h2, hne⟩ := hv
  by_cases h0 : l = []
  · subst h0
    go_enter Tryd.func68, Tryd.ntmps68
    go_wp2_with fail
    refine wp_loop_rounds 1 ?_
    rw [rounds_succ]
    go_wp2_with fail
    go_ret
    exact ⟨rfl, rfl⟩
  · obtain ⟨b, off, rfl, _, hc⟩ := hne h0
    clear hne h0
    have HS := Lib.hid hs
    clear hs
    go_enter Tryd.func68, Tryd.ntmps68
    go_wp2_with fail
    go_loop [4, 7] (fun _ i => ∃ k : Nat, k ≤ l.length ∧ i = .int .i64 k ∧ Tr.digTo l k) (fun _ i => l.length - (intOf i).toNat)
    case atStart => exact ⟨0, Nat.zero_le _, rfl, rfl⟩
    case round =>
      obtain ⟨k, hk, rfl, hto⟩ := hrel
      by_cases hlt : k < l.length
      · obtain ⟨t, htk⟩ : ∃ t, t = l.getD k ByteArray.empty := ⟨_, rfl⟩
        have hcell : w.cell? ⟨b, off + k, none⟩ = some (.string t) := by rw [hc k hlt, htk]
        have hts : t.size ≤ 9223372036854775807 := by rw [htk, Dg.getD_eq l k hlt]; exact HS.out _ (List.getElem_mem _)
        have HK := Lib.hid htk
        clear hc htk
        cases hd : Dg.isDigest t.data.toList with
        | true =>
          have HD := Lib.hid hd
          clear hd
          go_wp2_with fail
          refine (is_true t hts HD.out w).mono ?_
          rintro e w1 ⟨rfl, rfl⟩
          go_wp2_with fail
          go_round
          case rel => exact ⟨k + 1, by omega, by go_num, Tr.digTo_succ hlt hto (by rw [← HK.out]; exact HD.out)⟩
          case measure => simp [intOf]; omega
        | false =>
          have HD := Lib.hid hd
          clear hd
          go_wp2_with fail
          refine (is_false t hts HD.out w).mono ?_
          rintro e w1 ⟨rfl, rfl⟩
          go_wp2_with fail
          go_ret
          exact ⟨Dg.ret_bool (Tr.allDig_no hlt (by rw [← HK.out]; exact HD.out)).symm, rfl⟩
      · have hke : Hid (k = l.length) := by show _ = _; omega
        clear hc
        go_wp2_with fail
        go_ret
        exact ⟨Dg.ret_bool (Tr.allDig_yes (hke.out ▸ hto)).symm, rfl⟩
end Go.Proofs.YthhfcijgcpnfcaaDoor
