/-
  The walks of tree.linked and of its closure.
-/
import Derived.Test.YteeanbjaphjccaaDoorTHalf
import Derived.Test.YteeanbjaphjccaaDoorTRest
import Derived.Test.YteeanbjaphjccaaDoorTCheckC
import Derived.Test.YteeanbjaphjccaaDoorTLink
import Derived.WalkKit
import Derived.WalkSpells
import Derived.WalkLawsBesides
import Derived.WalkSmall
import Derived.Lib.Hide
import Derived.Deep.RegionHeld3
import Derived.Laws.EntriesVeiled
namespace Go.Proofs.YteeanbjaphjccaaDoor
open Go.RowKit

abbrev Tr.bothFn (B : Nat) : Value := .func (.func 58) #[] #[.pointer (some ⟨B, 0, none⟩), .pointer (some ⟨B + 1, 0, none⟩), .pointer (some ⟨B + 2, 0, none⟩)]

/-- What the closure of linked finds in memory: the old root, where what is left of the proof lies, the closure, what is left. -/
structure LSt (w0 : World) (rb B : Nat) (old : ByteArray) (ps : List ByteArray) (short : Bool) (w : World) : Prop where
  lt : rb < B
  oldc : w.cell? ⟨B, 0, none⟩ = some (.string old)
  ptrc : w.cell? ⟨B + 1, 0, none⟩ = some (.pointer (some ⟨rb, 0, none⟩))
  fnc : w.cell? ⟨B + 2, 0, none⟩ = some (Tr.bothFn B)
  rest : RestIs w0 rb ps short w
theorem LSt.below {w0 : World} {rb B : Nat} {old : ByteArray} {ps : List ByteArray} {short : Bool} {w w' : World} (h : LSt w0 rb B old ps short w) (hb : Below w.heap.size w w') : LSt w0 rb B old ps short w' :=
  ⟨h.lt, (hb.cell (block_lt_of_cell h.oldc)).trans h.oldc, (hb.cell (block_lt_of_cell h.ptrc)).trans h.ptrc, (hb.cell (block_lt_of_cell h.fnc)).trans h.fnc, h.rest.below hb⟩
theorem LSt.next {w0 : World} {rb B : Nat} {old : ByteArray} {ps ps' : List ByteArray} {short short' : Bool} {w w' : World} (h : LSt w0 rb B old ps short w) (hr : RestIs w0 rb ps' short' w') (hg : w.grownBy w' (some rb)) :
    LSt w0 rb B old ps' short' w' := by
  have hl := h.lt
  exact ⟨h.lt, hg.cell h.oldc (by intro e; have := Option.some.inj e; simp at this; omega), hg.cell h.ptrc (by intro e; have := Option.some.inj e; simp at this; omega), hg.cell h.fnc (by intro e; have := Option.some.inj e; simp at this; omega), hr⟩
theorem LSt.next' {w0 : World} {rb B : Nat} {old : ByteArray} {ps : List ByteArray} {m : Nat} {short : Bool} {w w' : World} (h : LSt w0 rb B old (ps.drop m) (short || decide (ps.length < m)) w) (hr : RestIs w0 rb (ps.drop m).tail ((short || decide (ps.length < m)) || (ps.drop m).isEmpty) w') (hg : w.grownBy w' (some rb)) :
    LSt w0 rb B old (ps.drop (m + 1)) (short || decide (ps.length < m + 1)) w' := by
  rw [Tr.tail_drop, Tr.short_next] at hr
  exact h.next hr hg

/-- What the closure answers: both roots. -/
def BothOut (w0 : World) (rb B : Nat) (old : ByteArray) (n m : Nat) (whole : Bool) (ps : List ByteArray) (short : Bool) (e : Ending) (w' : World) : Prop :=
  ∃ a b : ByteArray, e = .returned (.tuple #[.string a, .string b]) ∧ a.size ≤ 200 ∧ b.size ≤ 200 ∧
    Hid (Tr.llen n m whole ≤ ps.length → (a.data.toList, b.data.toList) = Tr.both n m whole old.data.toList ((Tr.bs ps).take (Tr.llen n m whole))) ∧
    LSt w0 rb B old (ps.drop (Tr.llen n m whole)) (short || decide (ps.length < Tr.llen n m whole)) w'

set_option maxHeartbeats 1000000 in
set_option maxRecDepth 100000 in
theorem bothc_whole (w0 : World) (rb B : Nat) (old : ByteArray) (ho : old.size ≤ 200) (n : Nat) (ps : List ByteArray) (short : Bool) (w : World) (hc : LSt w0 rb B old ps short w) :
    Calls Tryd.prog 58 #[.int .i64 n, .int .i64 n, .bool true, .pointer (some ⟨B, 0, none⟩), .pointer (some ⟨B + 1, 0, none⟩), .pointer (some ⟨B + 2, 0, none⟩)] w (BothOut w0 rb B old n n true ps short) := by
  have HC := Lib.hid hc
  have hS0 : w.drew.cell? ⟨B, 0, none⟩ = some (.string old) := hc.oldc
  clear hc
  go_enter Tryd.func58, Tryd.ntmps58
  go_wp2_with fail
  go_region_held3 (fun w' => w'.cell? ⟨B, 0, none⟩ = some (.string old)) (first | exact hS0 | assumption) (first | fail)
  go_wp2_with fail
  go_ret2
  have e : Tr.llen n n true = 0 := by rw [Tr.llen_all rfl]; rfl
  refine ⟨old, old, rfl, ho, ho, ?_, ?_⟩
  · show _ → _
    intro _; rw [Tr.both_all rfl]; rfl
  · rw [e, List.drop_zero, decide_eq_false (by omega), Bool.or_false]
    exact HC.out.below (Below.refl _ _).drew

set_option maxHeartbeats 1000000 in
set_option maxRecDepth 100000 in
theorem bothc_all (w0 : World) (rb B : Nat) (old : ByteArray) (n : Nat) (ps : List ByteArray) (hps : ∀ s ∈ ps, s.size ≤ 200) (short : Bool) (w : World) (hc : LSt w0 rb B old ps short w) :
    Calls Tryd.prog 58 #[.int .i64 n, .int .i64 n, .bool false, .pointer (some ⟨B, 0, none⟩), .pointer (some ⟨B + 1, 0, none⟩), .pointer (some ⟨B + 2, 0, none⟩)] w (BothOut w0 rb B old n n false ps short) := by
  have HC := Lib.hid hc
  have hpc := hc.ptrc
  have HPS := Lib.hid hps
  clear hc hps
  go_enter Tryd.func58, Tryd.ntmps58
  go_wp2_with fail
  refine (restnext_walk w0 rb _ _ w HC.out.rest).mono ?_
  rintro e w2 ⟨x, rfl, hx, hr2, hg2⟩
  have hxz : x.size ≤ 200 := by rw [hx.out]; have := Tr.head_small HPS.out 0; rwa [List.drop_zero] at this
  have e0 : ps.drop 0 = ps := List.drop_zero
  have HC2 := Lib.hid (LSt.next' (m := 0) (ps := ps) (short := short) (by rw [e0, decide_eq_false (by omega), Bool.or_false]; exact HC.out) (by rw [e0, decide_eq_false (by omega), Bool.or_false]; exact hr2) hg2)
  clear hr2 hg2
  go_wp2_with fail
  go_ret2
  have e : Tr.llen n n false = 1 := by rw [Tr.llen_all rfl]; rfl
  refine ⟨x, x, rfl, hxz, hxz, ?_, ?_⟩
  · show _ → _
    rw [e]
    intro hle
    rw [Tr.both_all rfl, if_neg (by simp), hx.out]
    match ps, hle with
    | p :: ps, _ => rfl
  · rw [e]; exact HC2.out

set_option maxHeartbeats 4000000 in
set_option maxRecDepth 100000 in
theorem bothc_walk (w0 : World) (ht : HasTab w0) (rb B : Nat) (old : ByteArray) (ho : old.size ≤ 200) (N : Nat) : ∀ (n m : Nat) (whole : Bool) (ps : List ByteArray) (short : Bool) (w : World), 0 < m → m ≤ n → n ≤ N → N ≤ 4611686018427387904 → (∀ s ∈ ps, s.size ≤ 200) → LSt w0 rb B old ps short w →
    Calls Tryd.prog 58 #[.int .i64 m, .int .i64 n, .bool whole, .pointer (some ⟨B, 0, none⟩), .pointer (some ⟨B + 1, 0, none⟩), .pointer (some ⟨B + 2, 0, none⟩)] w (BothOut w0 rb B old n m whole ps short) := by
  induction N with
  | zero => intro n m whole ps short w h0 hm hN; omega
  | succ N ih =>
    intro n m whole ps short w h0 hm hN hM hps hc
    by_cases h1 : m = n
    · subst h1
      cases whole with
      | true => exact bothc_whole w0 rb B old ho m ps short w hc
      | false => exact bothc_all w0 rb B old m ps hps short w hc
    · obtain ⟨k, hk⟩ : ∃ k, k = Tr.half n := ⟨_, rfl⟩
      have HT := Lib.hid ht
      have HC := Lib.hid hc
      have hl2 : 2 ≤ n := by omega
      have hk0 : 0 < k := by rw [hk]; exact Tr.half_pos n
      have hkn : k < n := by rw [hk]; exact Tr.half_lt (by omega)
      have n1 : ((m : Int) == (n : Int)) = false := by simp; omega
      have hfc := hc.fnc
      have HPS := Lib.hid hps
      have HK := Lib.hid hk
      by_cases hmk : m ≤ k
      · have HPL := Lib.hid (Tr.llen_left (n := n) (m := m) (whole := whole) h1 hl2 (by rw [← hk]; exact hmk))
        have HUP := Lib.hid (fun d p => Tr.both_left (n := n) (m := m) (whole := whole) (old := d) (p := p) h1 hl2 (by rw [← hk]; exact hmk))
        have HIL := Lib.hid (ih k m whole ps short w h0 hmk (by omega) (by omega) hps hc)
        clear hc ih ht hk hps h1
        go_enter Tryd.func58, Tryd.ntmps58
        go_wp2_with fail
        refine (firstpart_walk n hl2 (by omega) w).mono ?_
        rintro e w1 ⟨rfl, rfl⟩
        rw [← HK.out]
        go_wp2_with fail
        refine HIL.out.mono ?_
        rintro e w1 ⟨r1, r2, rfl, hz1, hz2, hr1, hc1⟩
        have HC1 := Lib.hid hc1
        have hpc := hc1.ptrc
        clear hc1
        go_wp2_with fail
        refine (restnext_walk w0 rb _ _ w1 HC1.out.rest).mono ?_
        rintro e w2 ⟨x, rfl, hx, hr2, hg2⟩
        have hxz : x.size ≤ 200 := by rw [hx.out]; exact Tr.head_small HPS.out _
        have HC2 := Lib.hid (HC1.out.next' hr2 hg2)
        clear hr2 hg2
        go_wp2_with fail
        refine (noderoot_walk _ _ hz2 hxz w2 (HT.out.below HC2.out.rest.old)).mono ?_
        rintro e w3 ⟨r3, rfl, hr3, hz3, hb3⟩
        go_wp2_with fail
        go_ret2
        have e1 := HPL.out
        rw [← HK.out] at e1
        refine ⟨r1, r3, rfl, hz1, by omega, ?_, ?_⟩
        · show _ → _
          rw [e1]
          intro hle
          rw [HUP.out, ← HK.out, (Tr.take_next hle).1, (Tr.take_next hle).2, hr3.out, hx.out]
          have := hr1.out (by omega)
          rw [← this]
        · rw [e1]; exact HC2.out.below hb3
      · have HPL := Lib.hid (Tr.llen_right (n := n) (m := m) (whole := whole) h1 hl2 (by rw [← hk]; exact hmk))
        have HUP := Lib.hid (fun d p => Tr.both_right (n := n) (m := m) (whole := whole) (old := d) (p := p) h1 hl2 (by rw [← hk]; exact hmk))
        have HIL := Lib.hid (ih (n - k) (m - k) false ps short w (by omega) (by omega) (by omega) (by omega) hps hc)
        rw [show ((n - k : Nat) : Int) = (n : Int) - (k : Int) by omega, show ((m - k : Nat) : Int) = (m : Int) - (k : Int) by omega] at HIL
        clear hc ih ht hk hps h1
        go_enter Tryd.func58, Tryd.ntmps58
        go_wp2_with fail
        refine (firstpart_walk n hl2 (by omega) w).mono ?_
        rintro e w1 ⟨rfl, rfl⟩
        rw [← HK.out]
        go_wp2_with fail
        refine HIL.out.mono ?_
        rintro e w1 ⟨r1, r2, rfl, hz1, hz2, hr1, hc1⟩
        have HC1 := Lib.hid hc1
        have hpc := hc1.ptrc
        clear hc1
        go_wp2_with fail
        refine (restnext_walk w0 rb _ _ w1 HC1.out.rest).mono ?_
        rintro e w2 ⟨x, rfl, hx, hr2, hg2⟩
        have hxz : x.size ≤ 200 := by rw [hx.out]; exact Tr.head_small HPS.out _
        have HC2 := Lib.hid (HC1.out.next' hr2 hg2)
        clear hr2 hg2
        go_wp2_with fail
        refine (noderoot_walk _ _ hxz hz1 w2 (HT.out.below HC2.out.rest.old)).mono ?_
        rintro e w3 ⟨r3, rfl, hr3, hz3, hb3⟩
        have HC3 := Lib.hid (HC2.out.below hb3)
        clear hb3
        go_wp2_with fail
        refine (noderoot_walk _ _ hxz hz2 w3 (HT.out.below HC3.out.rest.old)).mono ?_
        rintro e w4 ⟨r4, rfl, hr4, hz4, hb4⟩
        go_wp2_with fail
        go_ret2
        have e1 := HPL.out
        rw [← HK.out] at e1
        refine ⟨r3, r4, rfl, by omega, by omega, ?_, ?_⟩
        · show _ → _
          rw [e1]
          intro hle
          rw [HUP.out, ← HK.out, (Tr.take_next hle).1, (Tr.take_next hle).2, hr3.out, hr4.out, hx.out]
          have := hr1.out (by omega)
          rw [← this]
        · rw [e1]; exact HC3.out.below hb4
end Go.Proofs.YteeanbjaphjccaaDoor
