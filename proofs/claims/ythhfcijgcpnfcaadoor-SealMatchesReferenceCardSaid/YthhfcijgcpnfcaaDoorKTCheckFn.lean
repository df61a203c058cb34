import Derived.Test.YthhfcijgcpnfcaaDoorKTHalf
import Derived.Test.YthhfcijgcpnfcaaDoorKTRest
import Derived.Test.YthhfcijgcpnfcaaDoorKTBind
import Derived.WalkKit
import Derived.WalkSpells
import Derived.WalkLawsBesides
import Derived.WalkSmall
import Derived.Lib.Hide
import Derived.Laws.EntriesVeiled
/-
  The walk of tree.Check's closure.
-/
namespace Go.Proofs.YthhfcijgcpnfcaaDoor
open Go.RowKit

abbrev Tr.compFn (B : Nat) : Value := .func (.func 69) #[] #[.pointer (some ⟨B, 0, none⟩), .pointer (some ⟨B + 2, 0, none⟩), .pointer (some ⟨B + 1, 0, none⟩)]

/-- What Check's closure finds in memory: the leaf, the closure, what is left of the proof. -/
structure CSt (w0 : World) (leaf : ByteArray) (ps : List ByteArray) (short : Bool) (w : World) : Prop where
  leafc : w.cell? ⟨w0.heap.size, 0, none⟩ = some (.string leaf)
  fnc : w.cell? ⟨w0.heap.size + 2, 0, none⟩ = some (Tr.compFn w0.heap.size)
  rest : RestIs w0 (w0.heap.size + 1) ps short w
theorem CSt.below {w0 : World} {leaf : ByteArray} {ps : List ByteArray} {short : Bool} {w w' : World} (h : CSt w0 leaf ps short w) (hb : Below w.heap.size w w') : CSt w0 leaf ps short w' :=
  ⟨(hb.cell (block_lt_of_cell h.leafc)).trans h.leafc, (hb.cell (block_lt_of_cell h.fnc)).trans h.fnc, h.rest.below hb⟩
theorem CSt.next {w0 : World} {leaf : ByteArray} {ps ps' : List ByteArray} {short short' : Bool} {w w' : World} (h : CSt w0 leaf ps short w) (hr : RestIs w0 (w0.heap.size + 1) ps' short' w') (hg : w.grownBy w' (some (w0.heap.size + 1))) :
    CSt w0 leaf ps' short' w' :=
  ⟨hg.cell h.leafc (by intro e; have := Option.some.inj e; simp at this), hg.cell h.fnc (by intro e; have := Option.some.inj e; simp at this), hr⟩

namespace Tr
theorem take_next {ps : List ByteArray} {m : Nat} (h : m + 1 ≤ ps.length) : ((bs ps).take (m + 1)).dropLast = (bs ps).take m ∧ ((bs ps).take (m + 1)).getLastD [] = ((ps.drop m).headD ⟨#[]⟩).data.toList := by
  have hm : m < (bs ps).length := by rw [bs_len]; omega
  rw [List.take_succ_eq_append_getElem hm, List.dropLast_concat, List.getLastD_concat]
  refine ⟨rfl, ?_⟩
  rw [List.drop_eq_getElem_cons (by omega), List.headD_cons, List.getElem_map]
theorem tail_drop (ps : List ByteArray) (m : Nat) : (ps.drop m).tail = ps.drop (m + 1) := by rw [List.tail_drop]
theorem short_next (ps : List ByteArray) (m : Nat) (short : Bool) : ((short || decide (ps.length < m)) || (ps.drop m).isEmpty) = (short || decide (ps.length < m + 1)) := by
  rw [Bool.or_assoc]
  congr 1
  rw [Bool.eq_iff_iff, Bool.or_eq_true, decide_eq_true_eq, decide_eq_true_eq, List.isEmpty_iff, List.drop_eq_nil_iff]
  omega
end Tr
theorem CSt.next' {w0 : World} {leaf : ByteArray} {ps : List ByteArray} {m : Nat} {short : Bool} {w w' : World} (h : CSt w0 leaf (ps.drop m) (short || decide (ps.length < m)) w) (hr : RestIs w0 (w0.heap.size + 1) (ps.drop m).tail ((short || decide (ps.length < m)) || (ps.drop m).isEmpty) w') (hg : w.grownBy w' (some (w0.heap.size + 1))) :
    CSt w0 leaf (ps.drop (m + 1)) (short || decide (ps.length < m + 1)) w' := by
  rw [Tr.tail_drop, Tr.short_next] at hr
  exact h.next hr hg
theorem Tr.head_small {ps : List ByteArray} {n : Nat} (h : ∀ s ∈ ps, s.size ≤ n) (m : Nat) : ((ps.drop m).headD ⟨#[]⟩).size ≤ n := by
  rcases e : ps.drop m with _ | ⟨x, l⟩
  · show (0 : Nat) ≤ n; omega
  · exact h x (List.mem_of_mem_drop (i := m) (by rw [e]; simp))

/-- What Check's closure answers. -/
def CompOut (w0 : World) (leaf : ByteArray) (n i : Nat) (ps : List ByteArray) (short : Bool) (e : Ending) (w' : World) : Prop :=
  ∃ r : ByteArray, e = .returned (.string r) ∧ r.size ≤ 16 ∧ Hid (Tr.plen n i ≤ ps.length → r.data.toList = Tr.up n i (Tr.leaf leaf.data.toList) ((Tr.bs ps).take (Tr.plen n i))) ∧ CSt w0 leaf (ps.drop (Tr.plen n i)) (short || decide (ps.length < Tr.plen n i)) w'

set_option maxHeartbeats 2000000 in
set_option maxRecDepth 100000 in
theorem compc_walk (w0 : World) (ht : HasTab w0) (leaf : ByteArray) (hlf : leaf.size ≤ 200) (N : Nat) : ∀ (n i : Nat) (ps : List ByteArray) (short : Bool) (w : World), n ≤ N → N ≤ 4611686018427387904 → i < n → (∀ s ∈ ps, s.size ≤ 200) → CSt w0 leaf ps short w →
    Calls Tryd.prog 69 #[.int .i64 n, .int .i64 i, .pointer (some ⟨w0.heap.size, 0, none⟩), .pointer (some ⟨w0.heap.size + 2, 0, none⟩), .pointer (some ⟨w0.heap.size + 1, 0, none⟩)] w (CompOut w0 leaf n i ps short) := by
  induction N with
  | zero => intro n i ps short w hN _ hi; omega
  | succ N ih =>
    intro n i ps short w hN hM hi hps hc
    have HT := Lib.hid ht
    have HC := Lib.hid hc
    by_cases h1 : n = 1
    · subst h1
      have hlc := hc.leafc
      have hold := Lib.hid hc.rest.old
      clear hc ih ht
      go_enter Tryd.func69, Tryd.ntmps69
      go_wp2_with fail
      refine (leafroot_walk leaf hlf w (HT.out.below hold.out)).mono ?_
      rintro e w1 ⟨r, rfl, hr, hz, hb1⟩
      go_wp2_with fail
      go_ret
      have hp0 : Tr.plen 1 i = 0 := Tr.plen_one (Nat.le_refl _)
      refine ⟨r, rfl, hz, fun _ => by rw [hr.out, Tr.up_one (Nat.le_refl _)], ?_⟩
      rw [hp0, List.drop_zero, decide_eq_false (by omega), Bool.or_false]
      exact HC.out.below hb1
    · obtain ⟨k, hk⟩ : ∃ k, k = Tr.half n := ⟨_, rfl⟩
      have hl2 : 2 ≤ n := by omega
      have hk0 : 0 < k := by rw [hk]; exact Tr.half_pos n
      have hkn : k < n := by rw [hk]; exact Tr.half_lt (by omega)
      have n1 : ((n : Int) == 1) = false := by simp; omega
      have hfc := hc.fnc
      have HPS := Lib.hid hps
      have HK := Lib.hid hk
      by_cases hik : i < k
      · have HPL := Lib.hid (Tr.plen_left (n := n) (i := i) hl2 (by rw [← hk]; exact hik))
        have HUP := Lib.hid (fun d p => Tr.up_left (n := n) (i := i) (d := d) (p := p) hl2 (by rw [← hk]; exact hik))
        have HIL := Lib.hid (ih k i ps short w (by omega) (by omega) hik hps hc)
        clear hc ih ht hk hps h1
        go_enter Tryd.func69, Tryd.ntmps69
        go_wp2_with fail
        refine (firstpart_walk n hl2 (by omega) w).mono ?_
        rintro e w1 ⟨rfl, rfl⟩
        rw [← HK.out]
        go_wp2_with fail
        refine HIL.out.mono ?_
        rintro e w1 ⟨r1, rfl, hz1, hr1, hc1⟩
        have HC1 := Lib.hid hc1
        clear hc1
        go_wp2_with fail
        refine (restnext_walk w0 (w0.heap.size + 1) _ _ w1 HC1.out.rest).mono ?_
        rintro e w2 ⟨x, rfl, hx, hr2, hg2⟩
        have hxz : x.size ≤ 200 := by rw [hx.out]; exact Tr.head_small HPS.out _
        have HC2 := Lib.hid (HC1.out.next' hr2 hg2)
        clear hr2 hg2
        go_wp2_with fail
        refine (noderoot_walk _ _ (by omega) hxz w2 (HT.out.below HC2.out.rest.old)).mono ?_
        rintro e w3 ⟨r3, rfl, hr3, hz3, hb3⟩
        go_wp2_with fail
        go_ret
        have e1 := HPL.out
        rw [← HK.out] at e1
        refine ⟨r3, rfl, hz3, ?_, ?_⟩
        · show _ → _
          rw [e1]
          intro hle
          rw [HUP.out, ← HK.out, (Tr.take_next hle).1, (Tr.take_next hle).2, hr3.out, hr1.out (by omega), hx.out]
        · rw [e1]; exact HC2.out.below hb3
      · have HPL := Lib.hid (Tr.plen_right (n := n) (i := i) hl2 (by rw [← hk]; exact hik))
        have HUP := Lib.hid (fun d p => Tr.up_right (n := n) (i := i) (d := d) (p := p) hl2 (by rw [← hk]; exact hik))
        have HIL := Lib.hid (ih (n - k) (i - k) ps short w (by omega) (by omega) (by omega) hps hc)
        rw [show ((n - k : Nat) : Int) = (n : Int) - (k : Int) by omega, show ((i - k : Nat) : Int) = (i : Int) - (k : Int) by omega] at HIL
        clear hc ih ht hk hps h1
        go_enter Tryd.func69, Tryd.ntmps69
        go_wp2_with fail
        refine (firstpart_walk n hl2 (by omega) w).mono ?_
        rintro e w1 ⟨rfl, rfl⟩
        rw [← HK.out]
        go_wp2_with fail
        refine HIL.out.mono ?_
        rintro e w1 ⟨r1, rfl, hz1, hr1, hc1⟩
        have HC1 := Lib.hid hc1
        clear hc1
        go_wp2_with fail
        refine (restnext_walk w0 (w0.heap.size + 1) _ _ w1 HC1.out.rest).mono ?_
        rintro e w2 ⟨x, rfl, hx, hr2, hg2⟩
        have hxz : x.size ≤ 200 := by rw [hx.out]; exact Tr.head_small HPS.out _
        have HC2 := Lib.hid (HC1.out.next' hr2 hg2)
        clear hr2 hg2
        go_wp2_with fail
        refine (noderoot_walk _ _ hxz (by omega) w2 (HT.out.below HC2.out.rest.old)).mono ?_
        rintro e w3 ⟨r3, rfl, hr3, hz3, hb3⟩
        go_wp2_with fail
        go_ret
        have e1 := HPL.out
        rw [← HK.out] at e1
        refine ⟨r3, rfl, hz3, ?_, ?_⟩
        · show _ → _
          rw [e1]
          intro hle
          rw [HUP.out, ← HK.out, (Tr.take_next hle).1, (Tr.take_next hle).2, hr3.out, hr1.out (by omega), hx.out]
        · rw [e1]; exact HC2.out.below hb3
end Go.Proofs.YthhfcijgcpnfcaaDoor
/-
  The walk of tree.Check.
-/
namespace Go.Proofs.YthhfcijgcpnfcaaDoor
open Go.RowKit

/-- B2 in arithmetic. -/
def Tr.check (root : Tr.T) (n i : Int) (leaf : Tr.T) (ps : List Tr.T) : Bool :=
  decide (0 ≤ i) && decide (i < n) && decide (n ≤ 1000000) && ps.all Dg.isDigest && decide (ps.length = Tr.plen n.toNat i.toNat) && decide (Tr.up n.toNat i.toNat (Tr.leaf leaf) ps = root)

/-- What Check answers. -/
def BoolOut (b : Bool) (w : World) (e : Ending) (w' : World) : Prop := e = .returned (.bool b) ∧ Below w.heap.size w w'

set_option maxHeartbeats 1000000 in
set_option maxRecDepth 100000 in
theorem check_low (root leaf : ByteArray) (n i : Int) (v : Value) (ps : List ByteArray) (w : World) (hv : IsTx w v ps) (hi : i < 0) :
    Calls Tryd.prog 40 #[.string root, .int .i64 n, .int .i64 i, .string leaf, v] w (BoolOut (Tr.check root.data.toList n i leaf.data.toList (Tr.bs ps)) w) := by
  have e : Tr.check root.data.toList n i leaf.data.toList (Tr.bs ps) = false := by unfold Tr.check; rw [decide_eq_false (p := 0 ≤ i) (by omega)]; simp
  rw [e]
  clear e
  obtain ⟨a, cap, rfl, h1, h2, _⟩ := hv
  go_enter Tryd.func40, Tryd.ntmps40
  go_wp2_with fail
  go_ret
  exact ⟨rfl, ((Below.refl _ _).alloc (Nat.le_refl _) _).alloc (by simp) _⟩

set_option maxHeartbeats 1000000 in
set_option maxRecDepth 100000 in
theorem check_high (root leaf : ByteArray) (n i : Int) (v : Value) (ps : List ByteArray) (w : World) (hv : IsTx w v ps) (h0 : ¬ i < 0) (hi : n ≤ i) :
    Calls Tryd.prog 40 #[.string root, .int .i64 n, .int .i64 i, .string leaf, v] w (BoolOut (Tr.check root.data.toList n i leaf.data.toList (Tr.bs ps)) w) := by
  have e : Tr.check root.data.toList n i leaf.data.toList (Tr.bs ps) = false := by unfold Tr.check; rw [decide_eq_false (p := i < n) (by omega)]; simp
  rw [e]
  clear e
  obtain ⟨a, cap, rfl, h1, h2, _⟩ := hv
  go_enter Tryd.func40, Tryd.ntmps40
  go_wp2_with fail
  go_ret
  exact ⟨rfl, ((Below.refl _ _).alloc (Nat.le_refl _) _).alloc (by simp) _⟩

set_option maxHeartbeats 1000000 in
set_option maxRecDepth 100000 in
theorem check_long (root leaf : ByteArray) (n i : Int) (v : Value) (ps : List ByteArray) (w : World) (hv : IsTx w v ps) (h0 : ¬ i < 0) (h1 : ¬ n ≤ i) (hi : (1000000 : Int) < n) :
    Calls Tryd.prog 40 #[.string root, .int .i64 n, .int .i64 i, .string leaf, v] w (BoolOut (Tr.check root.data.toList n i leaf.data.toList (Tr.bs ps)) w) := by
  have e : Tr.check root.data.toList n i leaf.data.toList (Tr.bs ps) = false := by unfold Tr.check; rw [decide_eq_false (p := n ≤ 1000000) (by omega)]; simp
  rw [e]
  clear e
  obtain ⟨a, cap, rfl, h1, h2, _⟩ := hv
  go_enter Tryd.func40, Tryd.ntmps40
  go_wp2_with fail
  go_ret
  exact ⟨rfl, ((Below.refl _ _).alloc (Nat.le_refl _) _).alloc (by simp) _⟩

theorem Tr.all_eq (ps : List ByteArray) : Tr.allDig ps = (Tr.bs ps).all Dg.isDigest := rfl
theorem beside_le {w : World} (o1 o2 : Obj) : Below w.heap.size w ((w.alloc o1).alloc o2) := ((Below.refl _ _).alloc (Nat.le_refl _) _).alloc (by simp) _
theorem beside_le3 {w : World} (o1 o2 o3 : Obj) : Below w.heap.size w (((w.alloc o1).alloc o2).alloc o3) := (beside_le o1 o2).alloc (by simp; omega) _

theorem Tr.digs_small {ps : List ByteArray} (hd : Tr.allDig ps = true) : ∀ s ∈ ps, s.size ≤ 200 := by
  intro s hs
  rw [Tr.all_eq] at hd
  have := List.all_eq_true.1 hd s.data.toList (List.mem_map.2 ⟨s, hs, rfl⟩)
  rw [Dg.isDigest, Bool.and_eq_true, beq_iff_eq, Dg.len_data] at this
  omega

set_option maxHeartbeats 1000000 in
set_option maxRecDepth 100000 in
theorem check_nodig (root leaf : ByteArray) (n i : Nat) (v : Value) (ps : List ByteArray) (w : World) (hv : IsTx w v ps) (hs : ∀ s ∈ ps, s.size ≤ 300) (hi : i < n) (hn : n ≤ 1000000) (hd : Tr.allDig ps = false) :
    Calls Tryd.prog 40 #[.string root, .int .i64 n, .int .i64 i, .string leaf, v] w (BoolOut (Tr.check root.data.toList n i leaf.data.toList (Tr.bs ps)) w) := by
  have e : Tr.check root.data.toList n i leaf.data.toList (Tr.bs ps) = false := by unfold Tr.check; rw [← Tr.all_eq, hd]; simp
  rw [e]
  clear e
  have HV := Lib.hid (fun w' h => valid_walk v ps w' (hv.below h) (fun s h => by have := hs s h; omega))
  obtain ⟨a, cap, rfl, h1, h2, _⟩ := hv
  have hin : (i : Int) < n := by omega
  clear hs
  go_enter Tryd.func40, Tryd.ntmps40
  go_wp2_with fail
  refine (HV.out _ (beside_le _ _)).mono ?_
  rintro e w1 ⟨rfl, rfl⟩
  rw [hd]
  go_wp2_with fail
  go_ret
  exact ⟨rfl, beside_le _ _⟩

theorem cst_start (w : World) (leaf : ByteArray) (v : Value) (ps : List ByteArray) (hv : IsTx w v ps) :
    CSt w leaf ps false (((w.alloc (.cells #[.string leaf] 9)).alloc (.cells #[v, .bool false] 79)).alloc (.cells #[Tr.compFn w.heap.size] 80)) := by
  have b2 : ((w.alloc (.cells #[.string leaf] 9)).alloc (.cells #[v, .bool false] 79)).heap.size = w.heap.size + 2 := by simp
  refine ⟨?_, ?_, Nat.le_succ _, beside_le3 _ _ _, v, ?_, hv⟩
  · rw [World.cell?_alloc_lt _ _ _ (by show w.heap.size < _; omega), World.cell?_alloc_lt _ _ _ (by show w.heap.size < _; simp)]
    exact World.cell?_alloc_at _ _ _ _ rfl
  · have : (((w.alloc (.cells #[.string leaf] 9)).alloc (.cells #[v, .bool false] 79)).alloc (.cells #[Tr.compFn w.heap.size] 80)).cell? ⟨((w.alloc (.cells #[.string leaf] 9)).alloc (.cells #[v, .bool false] 79)).heap.size, 0, none⟩ = some (Tr.compFn w.heap.size) := World.cell?_alloc_at _ _ _ _ rfl
    rw [b2] at this; exact this
  · rw [Below.heap_alloc _ _ _ (by omega)]
    have : ((w.alloc (.cells #[.string leaf] 9)).alloc (.cells #[v, .bool false] 79)).heap[(w.alloc (.cells #[.string leaf] 9)).heap.size]? = some (.cells #[v, .bool false] 79 (0, 0)) := heap_alloc_new _ _
    simpa using this

theorem Tr.check_yes {root leaf : Tr.T} {n i : Nat} {ps : List ByteArray} {r : Tr.T} (hi : i < n) (hn : n ≤ 1000000) (hd : Tr.allDig ps = true) (hr : Tr.plen n i ≤ ps.length → r = Tr.up n i (Tr.leaf leaf) ((Tr.bs ps).take (Tr.plen n i))) :
    Tr.check root n i leaf (Tr.bs ps) = (decide (r = root) && (decide ((ps.drop (Tr.plen n i)).length = 0) && !(false || decide (ps.length < Tr.plen n i)))) := by
  unfold Tr.check
  rw [← Tr.all_eq, hd, Int.toNat_natCast, Int.toNat_natCast, Tr.bs_len, decide_eq_true (by omega : (0 : Int) ≤ i), decide_eq_true (by omega : (i : Int) < n), decide_eq_true (by omega : (n : Int) ≤ 1000000), List.length_drop]
  by_cases hl : ps.length = Tr.plen n i
  · have := hr (by omega)
    rw [List.take_of_length_le (by rw [Tr.bs_len]; omega)] at this
    rw [this, hl]; simp
  · rw [decide_eq_false hl]
    have : (decide (ps.length - Tr.plen n i = 0) && !(false || decide (ps.length < Tr.plen n i))) = false := by
      by_cases h : ps.length < Tr.plen n i
      · rw [decide_eq_true h]; simp
      · rw [decide_eq_false (p := ps.length - Tr.plen n i = 0) (by omega)]; simp
    rw [this]; simp

theorem str_eq {r s : ByteArray} : (r.toList == s.toList) = decide (r.data.toList = s.data.toList) := by
  rw [Lib.toList_data, Lib.toList_data, Bool.eq_iff_iff, beq_iff_eq, decide_eq_true_eq]

set_option maxHeartbeats 1000000 in
set_option maxRecDepth 100000 in
theorem check_ok (root leaf : ByteArray) (hlf : leaf.size ≤ 200) (n i : Nat) (v : Value) (ps : List ByteArray) (w : World) (ht : HasTab w) (hv : IsTx w v ps) (hs : ∀ s ∈ ps, s.size ≤ 200) (hi : i < n) (hn : n ≤ 1000000) (hd : Tr.allDig ps = true) :
    Calls Tryd.prog 40 #[.string root, .int .i64 n, .int .i64 i, .string leaf, v] w (BoolOut (Tr.check root.data.toList n i leaf.data.toList (Tr.bs ps)) w) := by
  have HV := Lib.hid (fun w' h => valid_walk v ps w' (hv.below h) (fun s h => by have := hs s h; omega))
  have HC := Lib.hid (compc_walk w ht leaf hlf n n i ps false _ (Nat.le_refl _) (by omega) hi hs (cst_start w leaf v ps hv))
  have HD := Lib.hid hd
  obtain ⟨a, cap, rfl, h1, h2, _⟩ := hv
  have hin : (i : Int) < n := by omega
  clear hs ht
  go_enter Tryd.func40, Tryd.ntmps40
  go_wp2_with fail
  refine (HV.out _ (beside_le _ _)).mono ?_
  rintro e w1 ⟨rfl, rfl⟩
  rw [hd]
  clear hd
  go_wp2_with fail
  refine HC.out.mono ?_
  rintro e w1 ⟨r, rfl, hz, hr, hc⟩
  have HR := Lib.hid hc
  have HE := Lib.hid (Tr.check_yes (root := root.data.toList) hi hn HD.out hr.out)
  clear hc hr
  cases hq : (r.toList == root.toList) with
  | false =>
    have e : decide (r.data.toList = root.data.toList) = false := by rw [← str_eq, hq]
    have HX := Lib.hid e
    clear e
    go_wp2_with fail
    go_ret
    exact ⟨Dg.ret_bool (by rw [HE.out, HX.out]; rfl), HR.out.rest.old⟩
  | true =>
    have e : decide (r.data.toList = root.data.toList) = true := by rw [← str_eq, hq]
    have HX := Lib.hid e
    clear e
    go_wp2_with fail
    refine (used_walk w (w.heap.size + 1) _ _ w1 HR.out.rest).mono ?_
    rintro e w2 ⟨rfl, hb2⟩
    have hb3 := HR.out.rest.old.trans (hb2.mono HR.out.rest.old.size)
    go_wp2_with fail
    go_ret
    exact ⟨Dg.ret_bool (by rw [HE.out, HX.out, Bool.true_and, List.length_drop, Bool.false_or]), hb3⟩

/-- tree.Check answers as the arithmetic says. -/
theorem check_walk3 (root leaf : ByteArray) (hlf : leaf.size ≤ 200) (n i : Int) (v : Value) (ps : List ByteArray) (w : World) (ht : HasTab w) (hv : IsTx w v ps) (hs : ∀ s ∈ ps, s.size ≤ 300) :
    Calls Tryd.prog 40 #[.string root, .int .i64 n, .int .i64 i, .string leaf, v] w (BoolOut (Tr.check root.data.toList n i leaf.data.toList (Tr.bs ps)) w) := by
  by_cases h0 : i < 0
  · exact check_low root leaf n i v ps w hv h0
  by_cases h1 : n ≤ i
  · exact check_high root leaf n i v ps w hv h0 h1
  by_cases h2 : (1000000 : Int) < n
  · exact check_long root leaf n i v ps w hv h0 h1 h2
  obtain ⟨i, rfl⟩ := Int.eq_ofNat_of_zero_le (by omega : 0 ≤ i)
  obtain ⟨n, rfl⟩ := Int.eq_ofNat_of_zero_le (by omega : 0 ≤ n)
  cases hd : Tr.allDig ps with
  | false => exact check_nodig root leaf n i v ps w hv hs (by omega) (by omega) hd
  | true => exact check_ok root leaf hlf n i v ps w ht hv (Tr.digs_small hd) (by omega) (by omega) hd
theorem check_walk (root leaf : ByteArray) (hlf : leaf.size ≤ 200) (n i : Int) (v : Value) (ps : List ByteArray) (w : World) (ht : HasTab w) (hv : IsTx w v ps) (hs : ∀ s ∈ ps, s.size ≤ 200) :
    Calls Tryd.prog 40 #[.string root, .int .i64 n, .int .i64 i, .string leaf, v] w (BoolOut (Tr.check root.data.toList n i leaf.data.toList (Tr.bs ps)) w) :=
  check_walk3 root leaf hlf n i v ps w ht hv fun s h => Nat.le_trans (hs s h) (by decide)
end Go.Proofs.YthhfcijgcpnfcaaDoor
