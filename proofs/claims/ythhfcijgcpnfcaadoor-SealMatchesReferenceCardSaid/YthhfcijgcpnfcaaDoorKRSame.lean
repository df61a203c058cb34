import Derived.Test.YthhfcijgcpnfcaaDoorKRJoin
import Derived.WalkKit
import Derived.WalkSpells
import Derived.WalkLawsBesides
import Derived.WalkSmall
import Derived.Lib.Hide
import Derived.Deep.QuietTactic
import Derived.BigQuiet
/-
  The walks of the reference's Joined at an empty list, of its List and Same.
-/
namespace Go.Proofs.YthhfcijgcpnfcaaDoor
open Go.RowKit

set_option maxHeartbeats 1000000 in
set_option maxRecDepth 100000 in
theorem refjoined_empty (a : Option Addr) (cap : Nat) (w : World) :
    Calls Tryd.prog 46 #[.slice a 0 cap] w fun e w' => e = .returned (.string (str [])) ∧ Below w.heap.size w w' := by
  obtain ⟨i0, hi, hz0, hz1, hz2⟩ := info_parts one_u8
  have HI := Lib.hid hi
  clear hi
  go_enter Tryd.func46, Tryd.ntmps46
  go_wp2_with fail
  refine wp_loop_rounds 1 ?_
  rw [rounds_succ]
  go_upto_region 7 with (at_make; refine wpList_make_own _ rfl _ _ 83 rfl w.heap.size 5 i0 (.int .u8 0) 1 Tryd.underlying83 HI.out hz0 hz1 .i64 .i64 _ 0 rfl rfl rfl (by omega) (by unfold maxLen; omega) (Nat.le_refl _) ?_; intro w1 hown1 hgrow1)
  have hb1 : Below w.heap.size w w1 := (Below.refl _ _).grown hgrow1 (Nat.le_refl _) (fun _ h => by cases h)
  have hcv := conv_own w1 w.heap.size _ [] hown1
  clear hown1 hgrow1
  go_wp2_with fail
  refine wp_loop_rounds 1 ?_
  rw [rounds_succ]
  go_wp2_with fail
  go_ret
  exact ⟨rfl, hb1⟩

theorem refjoined_any3 (v : Value) (ss : List ByteArray) (w : World) (hv : IsTexts w v ss) (hfew : Dg.few ss 300 = true) :
    Calls Tryd.prog 46 #[v] w fun e w' => ∃ r : ByteArray, e = .returned (.string r) ∧ Hid (r.data.toList = Dg.join (ss.map (·.data.toList))) ∧ r.size ≤ 10000 ∧ Below w.heap.size w w' := by
  have hj := Dg.few_join3 ss hfew
  have key : Calls Tryd.prog 46 #[v] w fun e w' => e = .returned (.string (str (Dg.join (ss.map (·.data.toList))))) ∧ Below w.heap.size w w' := by
    obtain ⟨a, cap, rfl, h⟩ := hv
    by_cases hne : ss = []
    · subst hne; exact refjoined_empty a cap w
    · obtain ⟨b, off, rfl, hlt, hc⟩ := h hne
      exact refjoined_walk b off cap ss hfew w hc hlt
  exact key.mono fun _ _ ⟨h, hb⟩ => ⟨_, h, rfl, by rw [Dg.str_size]; exact hj, hb⟩

theorem refjoined_any (v : Value) (ss : List ByteArray) (w : World) (hv : IsTexts w v ss) (hfew : Dg.few ss 200 = true) :
    Calls Tryd.prog 46 #[v] w fun e w' => ∃ r : ByteArray, e = .returned (.string r) ∧ Hid (r.data.toList = Dg.join (ss.map (·.data.toList))) ∧ r.size ≤ 10000 ∧ Below w.heap.size w w' :=
  refjoined_any3 v ss w hv (Dg.few_mono (by decide) hfew)

set_option maxHeartbeats 1000000 in
set_option maxRecDepth 100000 in
theorem reflist_ex3 (v : Value) (ss : List ByteArray) (w : World) (hv : IsTexts w v ss) (hfew : Dg.few ss 300 = true) :
    Calls Tryd.prog 44 #[v] w fun e w' => ∃ r : ByteArray, e = .returned (.string r) ∧ Hid (r.data.toList = Dg.sum (Dg.join (ss.map (·.data.toList)))) ∧ Below w.heap.size w w' := by
  have hj := Lib.hid (refjoined_any3 v ss w hv hfew)
  clear hv
  have key : Calls Tryd.prog 44 #[v] w fun e w' => e = .returned (.string (str (Dg.sum (Dg.join (ss.map (·.data.toList)))))) ∧ Below w.heap.size w w' := by
    go_enter Tryd.func44, Tryd.ntmps44
    go_wp2_with fail
    refine hj.out.mono ?_
    rintro e w1 ⟨r, rfl, hr, hr2, hb1⟩
    go_wp2_with fail
    refine (refsum_walk _ (by omega) w1).mono ?_
    rintro e w2 ⟨rfl, rfl⟩
    go_wp2_with fail
    go_ret
    exact ⟨Dg.ret_str (by rw [hr.out]), hb1⟩
  exact key.mono fun _ _ ⟨h, hb⟩ => ⟨_, h, rfl, hb⟩

namespace Dg
/-- Two lists hold the same texts. -/
def same (a b : List ByteArray) : Bool := decide (a.map (·.data.toList) = b.map (·.data.toList))
def sameTo (a b : List ByteArray) (k : Nat) : Prop := a.take k = b.take k
theorem sameTo_succ (a b : List ByteArray) (k : Nat) (h1 : k < a.length) (h2 : k < b.length) (h : sameTo a b k) (he : a.getD k ByteArray.empty = b.getD k ByteArray.empty) : sameTo a b (k + 1) := by
  unfold sameTo at *
  rw [getD_eq a k h1, getD_eq b k h2] at he
  rw [List.take_succ_eq_append_getElem h1, List.take_succ_eq_append_getElem h2, h, he]
theorem same_yes (a b : List ByteArray) (hl : a.length = b.length) (h : sameTo a b a.length) : same a b = true := by
  unfold sameTo at h
  rw [List.take_length, hl, List.take_length] at h
  unfold same
  rw [h]; simp
theorem same_no (a b : List ByteArray) (k : Nat) (h1 : k < a.length) (h2 : k < b.length) (h : a.getD k ByteArray.empty ≠ b.getD k ByteArray.empty) : same a b = false := by
  unfold same
  apply decide_eq_false
  intro he
  apply h
  rw [getD_eq a k h1, getD_eq b k h2]
  have := congrArg (·[k]?) he
  simp [List.getElem?_map, List.getElem?_eq_getElem h1, List.getElem?_eq_getElem h2] at this
  exact str_ext _ _ (by rw [this])
theorem same_len (a b : List ByteArray) (h : a.length ≠ b.length) : same a b = false := by
  unfold same
  apply decide_eq_false
  intro he
  have := congrArg List.length he
  simp at this
  exact h this
end Dg

set_option maxHeartbeats 1000000 in
set_option maxRecDepth 100000 in
theorem same_walk (v1 v2 : Value) (a b : List ByteArray) (w : World) (h1 : IsTexts w v1 a) (h2 : IsTexts w v2 b) (ha : a.length ≤ 9223372036854775807) (hb : b.length ≤ 9223372036854775807) :
    Calls Tryd.prog 21 #[v1, v2] w fun e w' => e = .returned (.bool (Dg.same a b)) ∧ Below w.heap.size w w' := by
  obtain ⟨a1, c1, rfl, n1⟩ := h1
  obtain ⟨a2, c2, rfl, n2⟩ := h2
  by_cases hl : a.length = b.length
  · have HL := Lib.hid hl
    have hq : ((a.length : Int) != (b.length : Int)) = false := by simp; omega
    by_cases h0 : a = []
    · subst h0
      obtain rfl : b = [] := List.length_eq_zero_iff.1 hl.symm
      clear hl hq
      go_enter Tryd.func21, Tryd.ntmps21
      go_wp2_with fail
      refine wp_loop_rounds 1 ?_
      rw [rounds_succ]
      go_wp2_with fail
      go_ret
      exact ⟨Dg.ret_bool (Dg.same_yes _ _ rfl rfl).symm, Below.refl _ _⟩
    · obtain ⟨b1, o1, rfl, hw1, hc1⟩ := n1 h0
      obtain ⟨b2, o2, rfl, hw2, hc2⟩ := n2 (by intro hb0; subst hb0; exact h0 (List.length_eq_zero_iff.1 hl))
      clear hl n1 n2 h0
      go_enter Tryd.func21, Tryd.ntmps21
      go_wp2_with fail
      go_loopw [5] (fun i wr => ∃ k : Nat, k ≤ a.length ∧ i = .int .i64 k ∧ Dg.sameTo a b k ∧ Below w.heap.size w wr) (fun i _ => a.length - (intOf i).toNat)
      case atStart => exact ⟨0, Nat.zero_le _, rfl, rfl, Below.refl _ _⟩
      case round =>
        obtain ⟨k, hk, rfl, hto, hbel⟩ := hrel
        by_cases hlt : k < a.length
        · have hltb : k < b.length := by have := HL.out; omega
          obtain ⟨t, htk⟩ : ∃ t, t = a.getD k ByteArray.empty := ⟨_, rfl⟩
          obtain ⟨u, huk⟩ : ∃ u, u = b.getD k ByteArray.empty := ⟨_, rfl⟩
          have hcell1 : wr.cell? ⟨b1, o1 + k, none⟩ = some (.string t) := by rw [hbel.cell (p := ⟨b1, o1 + k, none⟩) hw1, hc1 k hlt, htk]
          have hcell2 : wr.cell? ⟨b2, o2 + k, none⟩ = some (.string u) := by rw [hbel.cell (p := ⟨b2, o2 + k, none⟩) hw2, hc2 k hltb, huk]
          have HT := Lib.hid htk
          have HU := Lib.hid huk
          clear hc1 hc2 htk huk
          by_cases he : t = u
          · subst he
            have hq2 : (t.toList != t.toList) = false := by simp
            go_wp2_with fail
            go_quiet (fail)
            go_wp2_with fail
            go_roundw
            case rel => exact ⟨k + 1, by omega, by go_num, Dg.sameTo_succ a b k hlt hltb hto (by rw [← HT.out, ← HU.out]), below_drewN hbel _⟩
            case measure => simp [intOf]; omega
          · have hq2 : (t.toList != u.toList) = true := by
              rw [bne_iff_ne, Lib.toList_data, Lib.toList_data]
              exact fun h => he (Dg.str_ext _ _ h)
            have hq3 : (t.toList == u.toList) = false := by
              rw [beq_eq_false_iff_ne, Lib.toList_data, Lib.toList_data]
              exact fun h => he (Dg.str_ext _ _ h)
            have HE := Lib.hid he
            clear he
            go_wp2_with fail
            go_quiet (fail)
            go_wp2_with fail
            go_ret
            exact ⟨Dg.ret_bool (Dg.same_no a b k hlt hltb (by rw [← HT.out, ← HU.out]; exact HE.out)).symm, below_drewN hbel _⟩
        · have hke : Hid (k = a.length) := by show _ = _; omega
          clear hc1 hc2
          go_wp2_with fail
          go_ret
          exact ⟨Dg.ret_bool (Dg.same_yes _ _ HL.out (hke.out ▸ hto)).symm, hbel⟩
  · have hq : ((a.length : Int) != (b.length : Int)) = true := by simp; omega
    have HL := Lib.hid hl
    clear hl n1 n2
    go_enter Tryd.func21, Tryd.ntmps21
    go_wp2_with fail
    go_ret
    exact ⟨Dg.ret_bool (Dg.same_len _ _ HL.out).symm, Below.refl _ _⟩

theorem same_texts {ra rb : ByteArray} {l m : List ByteArray} {sb : Bool} (h1 : Hid (ra.data.toList = Dg.join (l.map (·.data.toList)))) (h2 : Hid (rb.data.toList = Dg.join (m.map (·.data.toList)))) (hs : sb = Dg.same l m) :
    (ra.toList == rb.toList) = sb := by
  rw [hs, Dg.same, Lib.toList_data, Lib.toList_data, h1.out, h2.out, Bool.eq_iff_iff, beq_iff_eq, decide_eq_true_eq]
  exact ⟨fun h => Dg.join_inj _ _ h, fun h => by rw [h]⟩

theorem short_of {ra : ByteArray} {l : List (List UInt8)} (h : Hid (ra.data.toList = Dg.join l)) (h7 : (ra.size : Int) ≤ 7) : (Dg.join l).length ≤ 7 := by
  rw [← h.out, Dg.len_data]; omega
theorem short_texts {r1 r2 : ByteArray} {l m : List ByteArray} {sb : Bool} (h1 : Hid (r1.data.toList = Dg.sum (Dg.join (l.map (·.data.toList))))) (h2 : Hid (r2.data.toList = Dg.sum (Dg.join (m.map (·.data.toList)))))
    (s1 : (Dg.join (l.map (·.data.toList))).length ≤ 7) (s2 : (Dg.join (m.map (·.data.toList))).length ≤ 7) (hs : sb = Dg.same l m) :
    (r1.toList == r2.toList) = sb := by
  rw [hs, Dg.same, Lib.toList_data, Lib.toList_data, h1.out, h2.out, Bool.eq_iff_iff, beq_iff_eq, decide_eq_true_eq, Dg.short _ _ s1 s2]
  exact ⟨fun h => Dg.join_inj _ _ h, fun h => by rw [h]⟩
theorem reflist_ex (v : Value) (ss : List ByteArray) (w : World) (hv : IsTexts w v ss) (hfew : Dg.few ss 200 = true) :
    Calls Tryd.prog 44 #[v] w fun e w' => ∃ r : ByteArray, e = .returned (.string r) ∧ Hid (r.data.toList = Dg.sum (Dg.join (ss.map (·.data.toList)))) ∧ Below w.heap.size w w' :=
  reflist_ex3 v ss w hv (Dg.few_mono (by decide) hfew)
end Go.Proofs.YthhfcijgcpnfcaaDoor
