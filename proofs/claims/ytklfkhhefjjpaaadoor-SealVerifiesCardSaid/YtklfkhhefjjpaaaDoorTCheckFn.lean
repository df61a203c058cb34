/-
  The walk of tree.Check.
-/
import Derived.Test.YtklfkhhefjjpaaaDoorTCheckC
namespace Go.Proofs.YtklfkhhefjjpaaaDoor
open Go.RowKit

/-- B2 in arithmetic. -/
def Tr.check (root : Tr.T) (n i : Int) (leaf : Tr.T) (ps : List Tr.T) : Bool :=
  decide (0 ≤ i) && decide (i < n) && decide (n ≤ 1000000) && ps.all Dg.isDigest && decide (ps.length = Tr.plen n.toNat i.toNat) && decide (Tr.up n.toNat i.toNat (Tr.leaf leaf) ps = root)

/-- What Check answers. -/
def BoolOut (b : Bool) (w : World) (e : Ending) (w' : World) : Prop := e = .returned (.bool b) ∧ Below w.heap.size w w'

set_option maxHeartbeats 1000000 in
set_option maxRecDepth 100000 in
theorem check_low (root leaf : ByteArray) (n i : Int) (v : Value) (ps : List ByteArray) (w : World) (hv : IsTx w v ps) (hi : i < 0) :
    Calls Tryd.prog 40 #[.string root, .int .i64 n, .int .i64 i, .string leaf, v] w (BoolOut (Tr.check root.data.toList n i leaf.data.toList (Tr.bs ps)) w) := by
  have e : Tr.check root.data.toList n i leaf.data.toList (Tr.bs ps) = false := by unfold Tr.check; rw [decide_eq_false (p := 0 ≤ i) (by omega)]; simp
  rw [e]
  clear e
  obtain ⟨a, cap, rfl, h1, h2, _⟩ := hv
  go_enter Tryd.func40, Tryd.ntmps40
  go_wp2_with fail
  go_ret
  exact ⟨rfl, ((Below.refl _ _).alloc (Nat.le_refl _) _).alloc (by simp) _⟩

set_option maxHeartbeats 1000000 in
set_option maxRecDepth 100000 in
theorem check_high (root leaf : ByteArray) (n i : Int) (v : Value) (ps : List ByteArray) (w : World) (hv : IsTx w v ps) (h0 : ¬ i < 0) (hi : n ≤ i) :
    Calls Tryd.prog 40 #[.string root, .int .i64 n, .int .i64 i, .string leaf, v] w (BoolOut (Tr.check root.data.toList n i leaf.data.toList (Tr.bs ps)) w) := by
  have e : Tr.check root.data.toList n i leaf.data.toList (Tr.bs ps) = false := by unfold Tr.check; rw [decide_eq_false (p := i < n) (by omega)]; simp
  rw [e]
  clear e
  obtain ⟨a, cap, rfl, h1, h2, _⟩ := hv
  go_enter Tryd.func40, Tryd.ntmps40
  go_wp2_with fail
  go_ret
  exact ⟨rfl, ((Below.refl _ _).alloc (Nat.le_refl _) _).alloc (by simp) _⟩

set_option maxHeartbeats 1000000 in
set_option maxRecDepth 100000 in
theorem check_long (root leaf : ByteArray) (n i : Int) (v : Value) (ps : List ByteArray) (w : World) (hv : IsTx w v ps) (h0 : ¬ i < 0) (h1 : ¬ n ≤ i) (hi : (1000000 : Int) < n) :
    Calls Tryd.prog 40 #[.string root, .int .i64 n, .int .i64 i, .string leaf, v] w (BoolOut (Tr.check root.data.toList n i leaf.data.toList (Tr.bs ps)) w) := by
  have e : Tr.check root.data.toList n i leaf.data.toList (Tr.bs ps) = false := by unfold Tr.check; rw [decide_eq_false (p := n ≤ 1000000) (by omega)]; simp
  rw [e]
  clear e
  obtain ⟨a, cap, rfl, h1, h2, _⟩ := hv
  go_enter Tryd.func40, Tryd.ntmps40
  go_wp2_with fail
  go_ret
  exact ⟨rfl, ((Below.refl _ _).alloc (Nat.le_refl _) _).alloc (by simp) _⟩

theorem Tr.all_eq (ps : List ByteArray) : Tr.allDig ps = (Tr.bs ps).all Dg.isDigest := rfl
theorem beside_le {w : World} (o1 o2 : Obj) : Below w.heap.size w ((w.alloc o1).alloc o2) := ((Below.refl _ _).alloc (Nat.le_refl _) _).alloc (by simp) _
theorem beside_le3 {w : World} (o1 o2 o3 : Obj) : Below w.heap.size w (((w.alloc o1).alloc o2).alloc o3) := (beside_le o1 o2).alloc (by simp; omega) _

theorem Tr.digs_small {ps : List ByteArray} (hd : Tr.allDig ps = true) : ∀ s ∈ ps, s.size ≤ 200 := by
  intro s hs
  rw [Tr.all_eq] at hd
  have := List.all_eq_true.1 hd s.data.toList (List.mem_map.2 ⟨s, hs, rfl⟩)
  rw [Dg.isDigest, Bool.and_eq_true, beq_iff_eq, Dg.len_data] at this
  omega

set_option maxHeartbeats 1000000 in
set_option maxRecDepth 100000 in
theorem check_nodig (root leaf : ByteArray) (n i : Nat) (v : Value) (ps : List ByteArray) (w : World) (hv : IsTx w v ps) (hs : ∀ s ∈ ps, s.size ≤ 300) (hi : i < n) (hn : n ≤ 1000000) (hd : Tr.allDig ps = false) :
    Calls Tryd.prog 40 #[.string root, .int .i64 n, .int .i64 i, .string leaf, v] w (BoolOut (Tr.check root.data.toList n i leaf.data.toList (Tr.bs ps)) w) := by
  have e : Tr.check root.data.toList n i leaf.data.toList (Tr.bs ps) = false := by unfold Tr.check; rw [← Tr.all_eq, hd]; simp
  rw [e]
  clear e
  have HV := Lib.hid (fun w' h => valid_walk v ps w' (hv.below h) (fun s h => by have := hs s h; omega))
  obtain ⟨a, cap, rfl, h1, h2, _⟩ := hv
  have hin : (i : Int) < n := by omega
  clear hs
  go_enter Tryd.func40, Tryd.ntmps40
  go_wp2_with fail
  refine (HV.out _ (beside_le _ _)).mono ?_
  rintro e w1 ⟨rfl, rfl⟩
  rw [hd]
  go_wp2_with fail
  go_ret
  exact ⟨rfl, beside_le _ _⟩

theorem cst_start (w : World) (leaf : ByteArray) (v : Value) (ps : List ByteArray) (hv : IsTx w v ps) :
    CSt w leaf ps false (((w.alloc (.cells #[.string leaf] 9)).alloc (.cells #[v, .bool false] 79)).alloc (.cells #[Tr.compFn w.heap.size] 80)) := by
  have b2 : ((w.alloc (.cells #[.string leaf] 9)).alloc (.cells #[v, .bool false] 79)).heap.size = w.heap.size + 2 := by simp
  refine ⟨?_, ?_, Nat.le_succ _, beside_le3 _ _ _, v, ?_, hv⟩
  · rw [World.cell?_alloc_lt _ _ _ (by show w.heap.size < _; omega), World.cell?_alloc_lt _ _ _ (by show w.heap.size < _; simp)]
    exact World.cell?_alloc_at _ _ _ _ rfl
  · have : (((w.alloc (.cells #[.string leaf] 9)).alloc (.cells #[v, .bool false] 79)).alloc (.cells #[Tr.compFn w.heap.size] 80)).cell? ⟨((w.alloc (.cells #[.string leaf] 9)).alloc (.cells #[v, .bool false] 79)).heap.size, 0, none⟩ = some (Tr.compFn w.heap.size) := World.cell?_alloc_at _ _ _ _ rfl
    rw [b2] at this; exact this
  · rw [Below.heap_alloc _ _ _ (by omega)]
    have : ((w.alloc (.cells #[.string leaf] 9)).alloc (.cells #[v, .bool false] 79)).heap[(w.alloc (.cells #[.string leaf] 9)).heap.size]? = some (.cells #[v, .bool false] 79 (0, 0)) := heap_alloc_new _ _
    simpa using this

theorem Tr.check_yes {root leaf : Tr.T} {n i : Nat} {ps : List ByteArray} {r : Tr.T} (hi : i < n) (hn : n ≤ 1000000) (hd : Tr.allDig ps = true) (hr : Tr.plen n i ≤ ps.length → r = Tr.up n i (Tr.leaf leaf) ((Tr.bs ps).take (Tr.plen n i))) :
    Tr.check root n i leaf (Tr.bs ps) = (decide (r = root) && (decide ((ps.drop (Tr.plen n i)).length = 0) && !(false || decide (ps.length < Tr.plen n i)))) := by
  unfold Tr.check
  rw [← Tr.all_eq, hd, Int.toNat_natCast, Int.toNat_natCast, Tr.bs_len, decide_eq_true (by omega : (0 : Int) ≤ i), decide_eq_true (by omega : (i : Int) < n), decide_eq_true (by omega : (n : Int) ≤ 1000000), List.length_drop]
  by_cases hl : ps.length = Tr.plen n i
  · have := hr (by omega)
    rw [List.take_of_length_le (by rw [Tr.bs_len]; omega)] at this
    rw [this, hl]; simp
  · rw [decide_eq_false hl]
    have : (decide (ps.length - Tr.plen n i = 0) && !(false || decide (ps.length < Tr.plen n i))) = false := by
      by_cases h : ps.length < Tr.plen n i
      · rw [decide_eq_true h]; simp
      · rw [decide_eq_false (p := ps.length - Tr.plen n i = 0) (by omega)]; simp
    rw [this]; simp

theorem str_eq {r s : ByteArray} : (r.toList == s.toList) = decide (r.data.toList = s.data.toList) := by
  rw [Lib.toList_data, Lib.toList_data, Bool.eq_iff_iff, beq_iff_eq, decide_eq_true_eq]

set_option maxHeartbeats 1000000 in
set_option maxRecDepth 100000 in
theorem check_ok (root leaf : ByteArray) (hlf : leaf.size ≤ 200) (n i : Nat) (v : Value) (ps : List ByteArray) (w : World) (ht : HasTab w) (hv : IsTx w v ps) (hs : ∀ s ∈ ps, s.size ≤ 200) (hi : i < n) (hn : n ≤ 1000000) (hd : Tr.allDig ps = true) :
    Calls Tryd.prog 40 #[.string root, .int .i64 n, .int .i64 i, .string leaf, v] w (BoolOut (Tr.check root.data.toList n i leaf.data.toList (Tr.bs ps)) w) := by
  have HV := Lib.hid (fun w' h => valid_walk v ps w' (hv.below h) (fun s h => by have := hs s h; omega))
  have HC := Lib.hid (compc_walk w ht leaf hlf n n i ps false _ (Nat.le_refl _) (by omega) hi hs (cst_start w leaf v ps hv))
  have HD := Lib.hid hd
  obtain ⟨a, cap, rfl, h1, h2, _⟩ := hv
  have hin : (i : Int) < n := by omega
  clear hs ht
  go_enter Tryd.func40, Tryd.ntmps40
  go_wp2_with fail
  refine (HV.out _ (beside_le _ _)).mono ?_
  rintro e w1 ⟨rfl, rfl⟩
  rw [hd]
  clear hd
  go_wp2_with fail
  refine HC.out.mono ?_
  rintro e w1 ⟨r, rfl, hz, hr, hc⟩
  have HR := Lib.hid hc
  have HE := Lib.hid (Tr.check_yes (root := root.data.toList) hi hn HD.out hr.out)
  clear hc hr
  cases hq : (r.toList == root.toList) with
  | false =>
    have e : decide (r.data.toList = root.data.toList) = false := by rw [← str_eq, hq]
    have HX := Lib.hid e
    clear e
    go_wp2_with fail
    go_ret
    exact ⟨Dg.ret_bool (by rw [HE.out, HX.out]; rfl), HR.out.rest.old⟩
  | true =>
    have e : decide (r.data.toList = root.data.toList) = true := by rw [← str_eq, hq]
    have HX := Lib.hid e
    clear e
    go_wp2_with fail
    refine (used_walk w (w.heap.size + 1) _ _ w1 HR.out.rest).mono ?_
    rintro e w2 ⟨rfl, hb2⟩
    have hb3 := HR.out.rest.old.trans (hb2.mono HR.out.rest.old.size)
    go_wp2_with fail
    go_ret
    exact ⟨Dg.ret_bool (by rw [HE.out, HX.out, Bool.true_and, List.length_drop, Bool.false_or]), hb3⟩

/-- tree.Check answers as the arithmetic says. -/
theorem check_walk3 (root leaf : ByteArray) (hlf : leaf.size ≤ 200) (n i : Int) (v : Value) (ps : List ByteArray) (w : World) (ht : HasTab w) (hv : IsTx w v ps) (hs : ∀ s ∈ ps, s.size ≤ 300) :
    Calls Tryd.prog 40 #[.string root, .int .i64 n, .int .i64 i, .string leaf, v] w (BoolOut (Tr.check root.data.toList n i leaf.data.toList (Tr.bs ps)) w) := by
  by_cases h0 : i < 0
  · exact check_low root leaf n i v ps w hv h0
  by_cases h1 : n ≤ i
  · exact check_high root leaf n i v ps w hv h0 h1
  by_cases h2 : (1000000 : Int) < n
  · exact check_long root leaf n i v ps w hv h0 h1 h2
  obtain ⟨i, rfl⟩ := Int.eq_ofNat_of_zero_le (by omega : 0 ≤ i)
  obtain ⟨n, rfl⟩ := Int.eq_ofNat_of_zero_le (by omega : 0 ≤ n)
  cases hd : Tr.allDig ps with
  | false => exact check_nodig root leaf n i v ps w hv hs (by omega) (by omega) hd
  | true => exact check_ok root leaf hlf n i v ps w ht hv (Tr.digs_small hd) (by omega) (by omega) hd
theorem check_walk (root leaf : ByteArray) (hlf : leaf.size ≤ 200) (n i : Int) (v : Value) (ps : List ByteArray) (w : World) (ht : HasTab w) (hv : IsTx w v ps) (hs : ∀ s ∈ ps, s.size ≤ 200) :
    Calls Tryd.prog 40 #[.string root, .int .i64 n, .int .i64 i, .string leaf, v] w (BoolOut (Tr.check root.data.toList n i leaf.data.toList (Tr.bs ps)) w) :=
  check_walk3 root leaf hlf n i v ps w ht hv fun s h => Nat.le_trans (hs s h) (by decide)
end Go.Proofs.YtklfkhhefjjpaaaDoor
