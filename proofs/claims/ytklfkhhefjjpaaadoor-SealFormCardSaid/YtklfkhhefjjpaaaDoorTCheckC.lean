/-
  The walk of tree.Check's closure.
-/
import Derived.Test.YtklfkhhefjjpaaaDoorTHalf
import Derived.Test.YtklfkhhefjjpaaaDoorTRest
import Derived.Test.YtklfkhhefjjpaaaDoorTBind
import Derived.WalkKit
import Derived.WalkSpells
import Derived.WalkLawsBesides
import Derived.WalkSmall
import Derived.Lib.Hide
import Derived.Laws.EntriesVeiled
namespace Go.Proofs.YtklfkhhefjjpaaaDoor
open Go.RowKit

abbrev Tr.compFn (B : Nat) : Value := .func (.func 69) #[] #[.pointer (some ⟨B, 0, none⟩), .pointer (some ⟨B + 2, 0, none⟩), .pointer (some ⟨B + 1, 0, none⟩)]

/-- What Check's closure finds in memory: the leaf, the closure, what is left of the proof. -/
structure CSt (w0 : World) (leaf : ByteArray) (ps : List ByteArray) (short : Bool) (w : World) : Prop where
  leafc : w.cell? ⟨w0.heap.size, 0, none⟩ = some (.string leaf)
  fnc : w.cell? ⟨w0.heap.size + 2, 0, none⟩ = some (Tr.compFn w0.heap.size)
  rest : RestIs w0 (w0.heap.size + 1) ps short w
theorem CSt.below {w0 : World} {leaf : ByteArray} {ps : List ByteArray} {short : Bool} {w w' : World} (h : CSt w0 leaf ps short w) (hb : Below w.heap.size w w') : CSt w0 leaf ps short w' :=
  ⟨(hb.cell (block_lt_of_cell h.leafc)).trans h.leafc, (hb.cell (block_lt_of_cell h.fnc)).trans h.fnc, h.rest.below hb⟩
theorem CSt.next {w0 : World} {leaf : ByteArray} {ps ps' : List ByteArray} {short short' : Bool} {w w' : World} (h : CSt w0 leaf ps short w) (hr : RestIs w0 (w0.heap.size + 1) ps' short' w') (hg : w.grownBy w' (some (w0.heap.size + 1))) :
    CSt w0 leaf ps' short' w' :=
  ⟨hg.cell h.leafc (by intro e; have := Option.some.inj e; simp at this), hg.cell h.fnc (by intro e; have := Option.some.inj e; simp at this), hr⟩

namespace Tr
theorem take_next {ps : List ByteArray} {m : Nat} (h : m + 1 ≤ ps.length) : ((bs ps).take (m + 1)).dropLast = (bs ps).take m ∧ ((bs ps).take (m + 1)).getLastD [] = ((ps.drop m).headD ⟨#[]⟩).data.toList := by
  have hm : m < (bs ps).length := by rw [bs_len]; omega
  rw [List.take_succ_eq_append_getElem hm, List.dropLast_concat, List.getLastD_concat]
  refine ⟨rfl, ?_⟩
  rw [List.drop_eq_getElem_cons (by omega), List.headD_cons, List.getElem_map]
theorem tail_drop (ps : List ByteArray) (m : Nat) : (ps.drop m).tail = ps.drop (m + 1) := by rw [List.tail_drop]
theorem short_next (ps : List ByteArray) (m : Nat) (short : Bool) : ((short || decide (ps.length < m)) || (ps.drop m).isEmpty) = (short || decide (ps.length < m + 1)) := by
  rw [Bool.or_assoc]
  congr 1
  rw [Bool.eq_iff_iff, Bool.or_eq_true, decide_eq_true_eq, decide_eq_true_eq, List.isEmpty_iff, List.drop_eq_nil_iff]
  omega
end Tr
theorem CSt.next' {w0 : World} {leaf : ByteArray} {ps : List ByteArray} {m : Nat} {short : Bool} {w w' : World} (h : CSt w0 leaf (ps.drop m) (short || decide (ps.length < m)) w) (hr : RestIs w0 (w0.heap.size + 1) (ps.drop m).tail ((short || decide (ps.length < m)) || (ps.drop m).isEmpty) w') (hg : w.grownBy w' (some (w0.heap.size + 1))) :
    CSt w0 leaf (ps.drop (m + 1)) (short || decide (ps.length < m + 1)) w' := by
  rw [Tr.tail_drop, Tr.short_next] at hr
  exact h.next hr hg
theorem Tr.head_small {ps : List ByteArray} {n : Nat} (h : ∀ s ∈ ps, s.size ≤ n) (m : Nat) : ((ps.drop m).headD ⟨#[]⟩).size ≤ n := by
  rcases e : ps.drop m with _ | ⟨x, l⟩
  · show (0 : Nat) ≤ n; omega
  · exact h x (List.mem_of_mem_drop (i := m) (by rw [e]; simp))

/-- What Check's closure answers. -/
def CompOut (w0 : World) (leaf : ByteArray) (n i : Nat) (ps : List ByteArray) (short : Bool) (e : Ending) (w' : World) : Prop :=
  ∃ r : ByteArray, e = .returned (.string r) ∧ r.size ≤ 16 ∧ Hid (Tr.plen n i ≤ ps.length → r.data.toList = Tr.up n i (Tr.leaf leaf.data.toList) ((Tr.bs ps).take (Tr.plen n i))) ∧ CSt w0 leaf (ps.drop (Tr.plen n i)) (short || decide (ps.length < Tr.plen n i)) w'

set_option maxHeartbeats 2000000 in
set_option maxRecDepth 100000 in
theorem compc_walk (w0 : World) (ht : HasTab w0) (leaf : ByteArray) (hlf : leaf.size ≤ 200) (N : Nat) : ∀ (n i : Nat) (ps : List ByteArray) (short : Bool) (w : World), n ≤ N → N ≤ 4611686018427387904 → i < n → (∀ s ∈ ps, s.size ≤ 200) → CSt w0 leaf ps short w →
    Calls Tryd.prog 69 #[.int .i64 n, .int .i64 i, .pointer (some ⟨w0.heap.size, 0, none⟩), .pointer (some ⟨w0.heap.size + 2, 0, none⟩), .pointer (some ⟨w0.heap.size + 1, 0, none⟩)] w (CompOut w0 leaf n i ps short) := by
  induction N with
  | zero => intro n i ps short w hN _ hi; omega
  | succ N ih =>
    intro n i ps short w hN hM hi hps hc
    have HT := Lib.hid ht
    have HC := Lib.hid hc
    by_cases h1 : n = 1
    · subst h1
      have hlc := hc.leafc
      have hold := Lib.hid hc.rest.old
      clear hc ih ht
      go_enter Tryd.func69, Tryd.ntmps69
      go_wp2_with fail
      refine (leafroot_walk leaf hlf w (HT.out.below hold.out)).mono ?_
      rintro e w1 ⟨r, rfl, hr, hz, hb1⟩
      go_wp2_with fail
      go_ret
      have hp0 : Tr.plen 1 i = 0 := Tr.plen_one (Nat.le_refl _)
      refine ⟨r, rfl, hz, fun _ => by rw [hr.out, Tr.up_one (Nat.le_refl _)], ?_⟩
      rw [hp0, List.drop_zero, decide_eq_false (by omega), Bool.or_false]
      exact HC.out.below hb1
    · obtain ⟨k, hk⟩ : ∃ k, k = Tr.half n := ⟨_, rfl⟩
      have hl2 : 2 ≤ n := by omega
      have hk0 : 0 < k := by rw [hk]; exact Tr.half_pos n
      have hkn : k < n := by rw [hk]; exact Tr.half_lt (by omega)
      have n1 : ((n : Int) == 1) = false := by simp; omega
      have hfc := hc.fnc
      have HPS := Lib.hid hps
      have HK := Lib.hid hk
      by_cases hik : i < k
      · have HPL := Lib.hid (Tr.plen_left (n := n) (i := i) hl2 (by rw [← hk]; exact hik))
        have HUP := Lib.hid (fun d p => Tr.up_left (n := n) (i := i) (d := d) (p := p) hl2 (by rw [← hk]; exact hik))
        have HIL := Lib.hid (ih k i ps short w (by omega) (by omega) hik hps hc)
        clear hc ih ht hk hps h1
        go_enter Tryd.func69, Tryd.ntmps69
        go_wp2_with fail
        refine (firstpart_walk n hl2 (by omega) w).mono ?_
        rintro e w1 ⟨rfl, rfl⟩
        rw [← HK.out]
        go_wp2_with fail
        refine HIL.out.mono ?_
        rintro e w1 ⟨r1, rfl, hz1, hr1, hc1⟩
        have HC1 := Lib.hid hc1
        clear hc1
        go_wp2_with fail
        refine (restnext_walk w0 (w0.heap.size + 1) _ _ w1 HC1.out.rest).mono ?_
        rintro e w2 ⟨x, rfl, hx, hr2, hg2⟩
        have hxz : x.size ≤ 200 := by rw [hx.out]; exact Tr.head_small HPS.out _
        have HC2 := Lib.hid (HC1.out.next' hr2 hg2)
        clear hr2 hg2
        go_wp2_with fail
        refine (noderoot_walk _ _ (by omega) hxz w2 (HT.out.below HC2.out.rest.old)).mono ?_
        rintro e w3 ⟨r3, rfl, hr3, hz3, hb3⟩
        go_wp2_with fail
        go_ret
        have e1 := HPL.out
        rw [← HK.out] at e1
        refine ⟨r3, rfl, hz3, ?_, ?_⟩
        · show _ → _
          rw [e1]
          intro hle
          rw [HUP.out, ← HK.out, (Tr.take_next hle).1, (Tr.take_next hle).2, hr3.out, hr1.out (by omega), hx.out]
        · rw [e1]; exact HC2.out.below hb3
      · have HPL := Lib.hid (Tr.plen_right (n := n) (i := i) hl2 (by rw [← hk]; exact hik))
        have HUP := Lib.hid (fun d p => Tr.up_right (n := n) (i := i) (d := d) (p := p) hl2 (by rw [← hk]; exact hik))
        have HIL := Lib.hid (ih (n - k) (i - k) ps short w (by omega) (by omega) (by omega) hps hc)
        rw [show ((n - k : Nat) : Int) = (n : Int) - (k : Int) by omega, show ((i - k : Nat) : Int) = (i : Int) - (k : Int) by omega] at HIL
        clear hc ih ht hk hps h1
        go_enter Tryd.func69, Tryd.ntmps69
        go_wp2_with fail
        refine (firstpart_walk n hl2 (by omega) w).mono ?_
        rintro e w1 ⟨rfl, rfl⟩
        rw [← HK.out]
        go_wp2_with fail
        refine HIL.out.mono ?_
        rintro e w1 ⟨r1, rfl, hz1, hr1, hc1⟩
        have HC1 := Lib.hid hc1
        clear hc1
        go_wp2_with fail
        refine (restnext_walk w0 (w0.heap.size + 1) _ _ w1 HC1.out.rest).mono ?_
        rintro e w2 ⟨x, rfl, hx, hr2, hg2⟩
        have hxz : x.size ≤ 200 := by rw [hx.out]; exact Tr.head_small HPS.out _
        have HC2 := Lib.hid (HC1.out.next' hr2 hg2)
        clear hr2 hg2
        go_wp2_with fail
        refine (noderoot_walk _ _ hxz (by omega) w2 (HT.out.below HC2.out.rest.old)).mono ?_
        rintro e w3 ⟨r3, rfl, hr3, hz3, hb3⟩
        go_wp2_with fail
        go_ret
        have e1 := HPL.out
        rw [← HK.out] at e1
        refine ⟨r3, rfl, hz3, ?_, ?_⟩
        · show _ → _
          rw [e1]
          intro hle
          rw [HUP.out, ← HK.out, (Tr.take_next hle).1, (Tr.take_next hle).2, hr3.out, hr1.out (by omega), hx.out]
        · rw [e1]; exact HC2.out.below hb3
end Go.Proofs.YtklfkhhefjjpaaaDoor
