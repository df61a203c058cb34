/-
  The walks of the reference's Check and Extends.
-/
import Derived.Test.YteeanbjaphjccaaDoorRUp
import Derived.Test.YteeanbjaphjccaaDoorTExtFn
namespace Go.Proofs.YteeanbjaphjccaaDoor
open Go.RowKit

set_option maxHeartbeats 1000000 in
set_option maxRecDepth 100000 in
theorem refcheck_long (root leaf : ByteArray) (n i : Int) (v : Value) (ps : List ByteArray) (w : World) (hv : IsTx w v ps) (hi : (1000000 : Int) < n) :
    Calls Tryd.prog 19 #[.string root, .int .i64 n, .int .i64 i, .string leaf, v] w (BoolOut (Tr.check root.data.toList n i leaf.data.toList (Tr.bs ps)) w) := by
  have e : Tr.check root.data.toList n i leaf.data.toList (Tr.bs ps) = false := by unfold Tr.check; rw [decide_eq_false (p := n ≤ 1000000) (by omega)]; simp
  rw [e]
  clear e
  obtain ⟨a, cap, rfl, g1, g2, _⟩ := hv
  go_enter Tryd.func19, Tryd.ntmps19
  go_wp2_with fail
  go_ret
  exact ⟨rfl, Below.refl _ _⟩

set_option maxHeartbeats 1000000 in
set_option maxRecDepth 100000 in
theorem refcheck_low (root leaf : ByteArray) (n i : Int) (v : Value) (ps : List ByteArray) (w : World) (hv : IsTx w v ps) (h2 : ¬ (1000000 : Int) < n) (hi : i < 0) :
    Calls Tryd.prog 19 #[.string root, .int .i64 n, .int .i64 i, .string leaf, v] w (BoolOut (Tr.check root.data.toList n i leaf.data.toList (Tr.bs ps)) w) := by
  have e : Tr.check root.data.toList n i leaf.data.toList (Tr.bs ps) = false := by unfold Tr.check; rw [decide_eq_false (p := 0 ≤ i) (by omega)]; simp
  rw [e]
  clear e
  obtain ⟨a, cap, rfl, g1, g2, _⟩ := hv
  go_enter Tryd.func19, Tryd.ntmps19
  go_wp2_with fail
  go_ret
  exact ⟨rfl, Below.refl _ _⟩

set_option maxHeartbeats 1000000 in
set_option maxRecDepth 100000 in
theorem refcheck_high (root leaf : ByteArray) (n i : Int) (v : Value) (ps : List ByteArray) (w : World) (hv : IsTx w v ps) (h2 : ¬ (1000000 : Int) < n) (h0 : ¬ i < 0) (hi : n ≤ i) :
    Calls Tryd.prog 19 #[.string root, .int .i64 n, .int .i64 i, .string leaf, v] w (BoolOut (Tr.check root.data.toList n i leaf.data.toList (Tr.bs ps)) w) := by
  have e : Tr.check root.data.toList n i leaf.data.toList (Tr.bs ps) = false := by unfold Tr.check; rw [decide_eq_false (p := i < n) (by omega)]; simp
  rw [e]
  clear e
  obtain ⟨a, cap, rfl, g1, g2, _⟩ := hv
  go_enter Tryd.func19, Tryd.ntmps19
  go_wp2_with fail
  go_ret
  exact ⟨rfl, Below.refl _ _⟩

set_option maxHeartbeats 1000000 in
set_option maxRecDepth 100000 in
theorem refcheck_len (root leaf : ByteArray) (n i : Nat) (v : Value) (ps : List ByteArray) (w : World) (hv : IsTx w v ps) (hi : i < n) (hn : n ≤ 1000000) (hl : ps.length ≠ Tr.plen n i) :
    Calls Tryd.prog 19 #[.string root, .int .i64 n, .int .i64 i, .string leaf, v] w (BoolOut (Tr.check root.data.toList n i leaf.data.toList (Tr.bs ps)) w) := by
  have e : Tr.check root.data.toList n i leaf.data.toList (Tr.bs ps) = false := by unfold Tr.check; rw [Int.toNat_natCast, Int.toNat_natCast, Tr.bs_len, decide_eq_false hl]; simp
  rw [e]
  clear e
  have HLN := Lib.hid (reflength_ind n n i w (Nat.le_refl _) (by omega) hi)
  obtain ⟨a, cap, rfl, g1, g2, _⟩ := hv
  have hne : ((ps.length : Int) != (Tr.plen n i : Nat)) = true := bne_iff_ne.2 (by omega)
  have hin : (i : Int) < n := by omega
  go_enter Tryd.func19, Tryd.ntmps19
  go_wp2_with fail
  refine HLN.out.mono ?_
  rintro e w1 ⟨rfl, rfl⟩
  go_wp2_with fail
  go_ret
  exact ⟨rfl, Below.refl _ _⟩

set_option maxHeartbeats 1000000 in
set_option maxRecDepth 100000 in
theorem refcheck_nodig (root leaf : ByteArray) (n i : Nat) (v : Value) (ps : List ByteArray) (w : World) (hv : IsTx w v ps) (hs : ∀ s ∈ ps, s.size ≤ 200) (hi : i < n) (hn : n ≤ 1000000) (hl : ps.length = Tr.plen n i) (hd : Tr.allDig ps = false) :
    Calls Tryd.prog 19 #[.string root, .int .i64 n, .int .i64 i, .string leaf, v] w (BoolOut (Tr.check root.data.toList n i leaf.data.toList (Tr.bs ps)) w) := by
  have e : Tr.check root.data.toList n i leaf.data.toList (Tr.bs ps) = false := by unfold Tr.check; rw [← Tr.all_eq, hd]; simp
  rw [e]
  clear e
  have HLN := Lib.hid (reflength_ind n n i w (Nat.le_refl _) (by omega) hi)
  have HV := Lib.hid (refdigests_walk v ps w hv (fun s h => by have := hs s h; omega))
  obtain ⟨a, cap, rfl, g1, g2, _⟩ := hv
  have hne : ((ps.length : Int) != (Tr.plen n i : Nat)) = false := by rw [hl]; simp
  have hin : (i : Int) < n := by omega
  clear hs hl
  go_enter Tryd.func19, Tryd.ntmps19
  go_wp2_with fail
  refine HLN.out.mono ?_
  rintro e w1 ⟨rfl, rfl⟩
  go_wp2_with fail
  refine HV.out.mono ?_
  rintro e w1 ⟨rfl, rfl⟩
  rw [hd]
  go_wp2_with fail
  go_ret
  exact ⟨rfl, Below.refl _ _⟩

set_option maxHeartbeats 1000000 in
set_option maxRecDepth 100000 in
theorem refcheck_ok (root leaf : ByteArray) (n i : Nat) (v : Value) (ps : List ByteArray) (w : World) (hv : IsTx w v ps) (hlf : leaf.size ≤ 200) (hs : ∀ s ∈ ps, s.size ≤ 200) (hi : i < n) (hn : n ≤ 1000000) (hl : ps.length = Tr.plen n i) (hd : Tr.allDig ps = true) :
    Calls Tryd.prog 19 #[.string root, .int .i64 n, .int .i64 i, .string leaf, v] w (BoolOut (Tr.check root.data.toList n i leaf.data.toList (Tr.bs ps)) w) := by
  have e : Tr.check root.data.toList n i leaf.data.toList (Tr.bs ps) = decide (Tr.up n i (Tr.leaf leaf.data.toList) (Tr.bs ps) = root.data.toList) := by
    unfold Tr.check
    rw [← Tr.all_eq, hd, Int.toNat_natCast, Int.toNat_natCast, Tr.bs_len, decide_eq_true (by omega : (0 : Int) ≤ i), decide_eq_true (by omega : (i : Int) < n), decide_eq_true (by omega : (n : Int) ≤ 1000000), decide_eq_true hl]; simp
  rw [e]
  clear e
  have HLN := Lib.hid (reflength_ind n n i w (Nat.le_refl _) (by omega) hi)
  have HV := Lib.hid (refdigests_walk v ps w hv (fun s h => by have := hs s h; omega))
  have HU := Lib.hid (fun (d : ByteArray) (hd : d.size ≤ 16) w' (h : Below w.heap.size w w') => refup_ind n n i d ps v w' (Nat.le_refl _) (by omega) hi hd hl hs (hv.below h))
  obtain ⟨a, cap, rfl, g1, g2, _⟩ := hv
  have hne : ((ps.length : Int) != (Tr.plen n i : Nat)) = false := by rw [hl]; simp
  have hin : (i : Int) < n := by omega
  clear hs hl
  go_enter Tryd.func19, Tryd.ntmps19
  go_wp2_with fail
  refine HLN.out.mono ?_
  rintro e w1 ⟨rfl, rfl⟩
  go_wp2_with fail
  refine HV.out.mono ?_
  rintro e w1 ⟨rfl, rfl⟩
  rw [hd]
  go_wp2_with fail
  refine (refleaf_walk leaf hlf w).mono ?_
  rintro e w1 ⟨r1, rfl, hr1, hz1, hb1⟩
  go_wp2_with fail
  refine (HU.out r1 hz1 w1 hb1).mono ?_
  rintro e w2 ⟨r2, rfl, hr2, hz2, hb2⟩
  have hb12 := hb1.trans (hb2.mono hb1.size)
  go_wp2_with fail
  go_ret
  exact ⟨Dg.ret_bool (by rw [str_eq, hr2.out, hr1.out]), hb12⟩

theorem Tr.pair_dec {a b c d : Tr.T} : decide ((a, b) = (c, d)) = (decide (a = c) && decide (b = d)) := by
  rw [Bool.eq_iff_iff, Bool.and_eq_true, decide_eq_true_eq, decide_eq_true_eq, decide_eq_true_eq]
  exact ⟨fun h => ⟨congrArg Prod.fst h, congrArg Prod.snd h⟩, fun h => by rw [h.1, h.2]⟩

/-- The reference's Check answers as the arithmetic says. -/
theorem refcheck_walk (root leaf : ByteArray) (hlf : leaf.size ≤ 200) (n i : Int) (v : Value) (ps : List ByteArray) (w : World) (hv : IsTx w v ps) (hs : ∀ s ∈ ps, s.size ≤ 200) :
    Calls Tryd.prog 19 #[.string root, .int .i64 n, .int .i64 i, .string leaf, v] w (BoolOut (Tr.check root.data.toList n i leaf.data.toList (Tr.bs ps)) w) := by
  by_cases h2 : (1000000 : Int) < n
  · exact refcheck_long root leaf n i v ps w hv h2
  by_cases h0 : i < 0
  · exact refcheck_low root leaf n i v ps w hv h2 h0
  by_cases h1 : n ≤ i
  · exact refcheck_high root leaf n i v ps w hv h2 h0 h1
  obtain ⟨i, rfl⟩ := Int.eq_ofNat_of_zero_le (by omega : 0 ≤ i)
  obtain ⟨n, rfl⟩ := Int.eq_ofNat_of_zero_le (by omega : 0 ≤ n)
  by_cases hl : ps.length = Tr.plen n i
  · cases hd : Tr.allDig ps with
    | false => exact refcheck_nodig root leaf n i v ps w hv hs (by omega) (by omega) hl hd
    | true => exact refcheck_ok root leaf n i v ps w hv hlf hs (by omega) (by omega) hl hd
  · exact refcheck_len root leaf n i v ps w hv (by omega) (by omega) hl

set_option maxHeartbeats 1000000 in
set_option maxRecDepth 100000 in
theorem refext_low (old root : ByteArray) (m n : Int) (v : Value) (ps : List ByteArray) (w : World) (hv : IsTx w v ps) (hi : m < 0) :
    Calls Tryd.prog 21 #[.string old, .int .i64 m, .string root, .int .i64 n, v] w (BoolOut (Tr.ext old.data.toList m root.data.toList n (Tr.bs ps)) w) := by
  have e : Tr.ext old.data.toList m root.data.toList n (Tr.bs ps) = false := by unfold Tr.ext; rw [decide_eq_false (p := 0 ≤ m) (by omega)]; simp
  rw [e]
  clear e
  obtain ⟨a, cap, rfl, g1, g2, _⟩ := hv
  go_enter Tryd.func21, Tryd.ntmps21
  go_wp2_with fail
  go_ret
  exact ⟨rfl, Below.refl _ _⟩

set_option maxHeartbeats 1000000 in
set_option maxRecDepth 100000 in
theorem refext_high (old root : ByteArray) (m n : Int) (v : Value) (ps : List ByteArray) (w : World) (hv : IsTx w v ps) (h0 : ¬ m < 0) (hi : n < m) :
    Calls Tryd.prog 21 #[.string old, .int .i64 m, .string root, .int .i64 n, v] w (BoolOut (Tr.ext old.data.toList m root.data.toList n (Tr.bs ps)) w) := by
  have e : Tr.ext old.data.toList m root.data.toList n (Tr.bs ps) = false := by unfold Tr.ext; rw [decide_eq_false (p := m ≤ n) (by omega)]; simp
  rw [e]
  clear e
  obtain ⟨a, cap, rfl, g1, g2, _⟩ := hv
  go_enter Tryd.func21, Tryd.ntmps21
  go_wp2_with fail
  go_ret
  exact ⟨rfl, Below.refl _ _⟩

set_option maxHeartbeats 1000000 in
set_option maxRecDepth 100000 in
theorem refext_long (old root : ByteArray) (m n : Int) (v : Value) (ps : List ByteArray) (w : World) (hv : IsTx w v ps) (h0 : ¬ m < 0) (h1 : ¬ n < m) (hi : (1000000 : Int) < n) :
    Calls Tryd.prog 21 #[.string old, .int .i64 m, .string root, .int .i64 n, v] w (BoolOut (Tr.ext old.data.toList m root.data.toList n (Tr.bs ps)) w) := by
  have e : Tr.ext old.data.toList m root.data.toList n (Tr.bs ps) = false := by unfold Tr.ext; rw [decide_eq_false (p := n ≤ 1000000) (by omega)]; simp
  rw [e]
  clear e
  obtain ⟨a, cap, rfl, g1, g2, _⟩ := hv
  go_enter Tryd.func21, Tryd.ntmps21
  go_wp2_with fail
  go_ret
  exact ⟨rfl, Below.refl _ _⟩

theorem Tr.dig_two (a b : ByteArray) : Tr.allDig [a, b] = (Dg.isDigest a.data.toList && Dg.isDigest b.data.toList) := by unfold Tr.allDig Tr.bs; simp
theorem Tr.big_two {a b : ByteArray} (h1 : a.size ≤ 9223372036854775807) (h2 : b.size ≤ 9223372036854775807) : ∀ s ∈ [a, b], s.size ≤ 9223372036854775807 := Tr.all_two h1 h2
theorem Tr.ext_nodigs {old root : Tr.T} {m n : Int} {ps : List Tr.T} (h : (Dg.isDigest old && Dg.isDigest root) = false) : Tr.ext old m root n ps = false := by
  unfold Tr.ext
  have : (decide (0 ≤ m) && decide (m ≤ n) && decide (n ≤ 1000000) && Dg.isDigest old && Dg.isDigest root) = false := by
    rw [Bool.and_assoc, h, Bool.and_false]
  rw [this]; simp

set_option maxHeartbeats 1000000 in
set_option maxRecDepth 100000 in
theorem refext_two (old root : ByteArray) (m n : Int) (v : Value) (ps : List ByteArray) (w : World) (hv : IsTx w v ps) (h0 : ¬ m < 0) (h1 : ¬ n < m) (h2 : ¬ (1000000 : Int) < n) (hos : old.size ≤ 9223372036854775807) (hrs : root.size ≤ 9223372036854775807) (hd : (Dg.isDigest old.data.toList && Dg.isDigest root.data.toList) = false) :
    Calls Tryd.prog 21 #[.string old, .int .i64 m, .string root, .int .i64 n, v] w (BoolOut (Tr.ext old.data.toList m root.data.toList n (Tr.bs ps)) w) := by
  rw [Tr.ext_nodigs hd]
  have HDG := Lib.hid (refdigests_walk _ [old, root] (w.alloc (.cells #[.string old, .string root] 9)) (tx_two w old root) (Tr.big_two hos hrs))
  rw [Tr.dig_two, hd] at HDG
  obtain ⟨a, cap, rfl, g1, g2, _⟩ := hv
  clear hd
  go_enter Tryd.func21, Tryd.ntmps21
  go_wp2_with fail
  refine HDG.out.mono ?_
  rintro e w1 ⟨rfl, rfl⟩
  go_wp2_with fail
  go_ret
  exact ⟨rfl, ((Below.refl _ _).alloc (Nat.le_refl _) _)⟩

set_option maxHeartbeats 1000000 in
set_option maxRecDepth 100000 in
theorem refext_nodig (old root : ByteArray) (m n : Int) (v : Value) (ps : List ByteArray) (w : World) (hv : IsTx w v ps) (h0 : ¬ m < 0) (h1 : ¬ n < m) (h2 : ¬ (1000000 : Int) < n) (hos : old.size ≤ 9223372036854775807) (hrs : root.size ≤ 9223372036854775807) (hs : ∀ s ∈ ps, s.size ≤ 200) (ho : Dg.isDigest old.data.toList = true) (hr : Dg.isDigest root.data.toList = true) (hd : Tr.allDig ps = false) :
    Calls Tryd.prog 21 #[.string old, .int .i64 m, .string root, .int .i64 n, v] w (BoolOut (Tr.ext old.data.toList m root.data.toList n (Tr.bs ps)) w) := by
  have e : Tr.ext old.data.toList m root.data.toList n (Tr.bs ps) = false := by unfold Tr.ext; rw [← Tr.all_eq, hd]; simp
  rw [e]
  clear e
  have HDG := Lib.hid (refdigests_walk _ [old, root] (w.alloc (.cells #[.string old, .string root] 9)) (tx_two w old root) (Tr.big_two hos hrs))
  rw [Tr.dig_two, ho, hr, Bool.and_true] at HDG
  have HV := Lib.hid (fun w' h => refdigests_walk v ps w' (hv.below h) (fun s h => by have := hs s h; omega))
  obtain ⟨a, cap, rfl, g1, g2, _⟩ := hv
  clear ho hr hs
  go_enter Tryd.func21, Tryd.ntmps21
  go_wp2_with fail
  refine HDG.out.mono ?_
  rintro e w1 ⟨rfl, rfl⟩
  go_wp2_with fail
  refine (HV.out _ ((Below.refl _ _).alloc (Nat.le_refl _) _)).mono ?_
  rintro e w1 ⟨rfl, rfl⟩
  rw [hd]
  go_wp2_with fail
  go_ret
  exact ⟨rfl, ((Below.refl _ _).alloc (Nat.le_refl _) _)⟩

set_option maxHeartbeats 1000000 in
set_option maxRecDepth 100000 in
theorem refext_zero (old root : ByteArray) (n : Int) (v : Value) (ps : List ByteArray) (w : World) (hv : IsTx w v ps) (h0 : ¬ (0:Int) < 0) (h1 : ¬ n < 0) (h2 : ¬ (1000000 : Int) < n) (hos : old.size ≤ 9223372036854775807) (hrs : root.size ≤ 9223372036854775807) (hs : ∀ s ∈ ps, s.size ≤ 200) (ho : Dg.isDigest old.data.toList = true) (hr : Dg.isDigest root.data.toList = true) (hd : Tr.allDig ps = true) :
    Calls Tryd.prog 21 #[.string old, .int .i64 0, .string root, .int .i64 n, v] w (BoolOut (Tr.ext old.data.toList 0 root.data.toList n (Tr.bs ps)) w) := by
  have e : Tr.ext old.data.toList 0 root.data.toList n (Tr.bs ps) = (decide (ps.length = 0) && decide (old.data.toList = Tr.empty) && (decide (0 < n) || decide (root.data.toList = old.data.toList))) := by
    unfold Tr.ext
    rw [decide_eq_true (by omega : (0 : Int) ≤ n), decide_eq_true (by omega : n ≤ 1000000), ho, hr, ← Tr.all_eq, hd, if_pos rfl, Tr.bs_len]; simp
  rw [e]
  clear e
  have HDG := Lib.hid (refdigests_walk _ [old, root] (w.alloc (.cells #[.string old, .string root] 9)) (tx_two w old root) (Tr.big_two hos hrs))
  rw [Tr.dig_two, ho, hr, Bool.and_true] at HDG
  have HV := Lib.hid (fun w' h => refdigests_walk v ps w' (hv.below h) (fun s h => by have := hs s h; omega))
  obtain ⟨a, cap, rfl, g1, g2, _⟩ := hv
  have HD := Lib.hid hd
  clear ho hr hs hd
  by_cases hl : ps.length = 0
  · have hl1 : ((ps.length : Int) == 0) = true := beq_iff_eq.2 (by omega)
    have HL := Lib.hid hl
    clear hl
    go_enter Tryd.func21, Tryd.ntmps21
    go_wp2_with fail
    refine HDG.out.mono ?_
    rintro e w1 ⟨rfl, rfl⟩
    go_wp2_with fail
    refine (HV.out _ ((Below.refl _ _).alloc (Nat.le_refl _) _)).mono ?_
    rintro e w1 ⟨rfl, rfl⟩
    rw [HD.out]
    go_wp2_with fail
    refine (refempty_walk _).mono ?_
    rintro e w1 ⟨r, rfl, hx, hz, hb⟩
    have HX := Lib.hid hx.out
    have hbb : Below w.heap.size w w1 := Below.trans ((Below.refl _ _).alloc (Nat.le_refl _) _) (hb.mono (by simp))
    clear hx hb
    cases hq : (old.toList == r.toList) with
    | false =>
      have e : decide (old.data.toList = Tr.empty) = false := by rw [← HX.out, ← str_eq, hq]
      have HE := Lib.hid e
      clear e
      go_wp2_with fail
      go_ret
      exact ⟨Dg.ret_bool (by rw [HE.out]; simp), hbb⟩
    | true =>
      have e : decide (old.data.toList = Tr.empty) = true := by rw [← HX.out, ← str_eq, hq]
      have HE := Lib.hid e
      clear e
      by_cases hn : (0 : Int) < n
      · go_wp2_with fail
        go_ret
        exact ⟨Dg.ret_bool (by rw [HE.out, decide_eq_true HL.out, decide_eq_true hn]; simp), hbb⟩
      · cases hq2 : (root.toList == old.toList) with
        | false =>
          have e : decide (root.data.toList = old.data.toList) = false := by rw [← str_eq, hq2]
          have HE2 := Lib.hid e
          clear e
          go_wp2_with fail
          go_ret
          exact ⟨Dg.ret_bool (by rw [HE.out, HE2.out, decide_eq_true HL.out, decide_eq_false (by omega : ¬ (0 : Int) < n)]; simp), hbb⟩
        | true =>
          have e : decide (root.data.toList = old.data.toList) = true := by rw [← str_eq, hq2]
          have HE2 := Lib.hid e
          clear e
          go_wp2_with fail
          go_ret
          exact ⟨Dg.ret_bool (by rw [HE.out, HE2.out, decide_eq_true HL.out]; simp), hbb⟩
  · have hl1 : ((ps.length : Int) == 0) = false := beq_eq_false_iff_ne.2 (by omega)
    have HL := Lib.hid hl
    clear hl
    go_enter Tryd.func21, Tryd.ntmps21
    go_wp2_with fail
    refine HDG.out.mono ?_
    rintro e w1 ⟨rfl, rfl⟩
    go_wp2_with fail
    refine (HV.out _ ((Below.refl _ _).alloc (Nat.le_refl _) _)).mono ?_
    rintro e w1 ⟨rfl, rfl⟩
    rw [HD.out]
    go_wp2_with fail
    go_ret
    exact ⟨Dg.ret_bool (by rw [decide_eq_false HL.out]; simp), ((Below.refl _ _).alloc (Nat.le_refl _) _)⟩

set_option maxHeartbeats 1000000 in
set_option maxRecDepth 100000 in
theorem refext_same (old root : ByteArray) (m n : Nat) (v : Value) (ps : List ByteArray) (w : World) (hv : IsTx w v ps) (h0 : 0 < m) (hmn : m = n) (hn : n ≤ 1000000) (hos : old.size ≤ 9223372036854775807) (hrs : root.size ≤ 9223372036854775807) (hs : ∀ s ∈ ps, s.size ≤ 200) (ho : Dg.isDigest old.data.toList = true) (hr : Dg.isDigest root.data.toList = true) (hd : Tr.allDig ps = true) :
    Calls Tryd.prog 21 #[.string old, .int .i64 m, .string root, .int .i64 n, v] w (BoolOut (Tr.ext old.data.toList m root.data.toList n (Tr.bs ps)) w) := by
  have e0 : Tr.ext old.data.toList m root.data.toList n (Tr.bs ps) = (decide (ps.length = Tr.llen n m true) && decide (Tr.both n m true old.data.toList (Tr.bs ps) = (old.data.toList, root.data.toList))) := by
    unfold Tr.ext
    rw [Int.toNat_natCast, Int.toNat_natCast, decide_eq_true (by omega : (0 : Int) ≤ m), decide_eq_true (by omega : (m : Int) ≤ n), decide_eq_true (by omega : (n : Int) ≤ 1000000), ho, hr, ← Tr.all_eq, hd, if_neg (by omega), Tr.bs_len]; simp
  have e : Tr.ext old.data.toList m root.data.toList n (Tr.bs ps) = (decide (ps.length = 0) && decide (old.data.toList = root.data.toList)) := by
    rw [e0, Tr.llen_all hmn, Tr.both_all hmn]; simp
  rw [e]
  clear e e0
  have HDG := Lib.hid (refdigests_walk _ [old, root] (w.alloc (.cells #[.string old, .string root] 9)) (tx_two w old root) (Tr.big_two hos hrs))
  rw [Tr.dig_two, ho, hr, Bool.and_true] at HDG
  have HV := Lib.hid (fun w' h => refdigests_walk v ps w' (hv.below h) (fun s h => by have := hs s h; omega))
  obtain ⟨a, cap, rfl, g1, g2, _⟩ := hv
  have HD := Lib.hid hd
  have m0 : ((m : Int) == 0) = false := beq_eq_false_iff_ne.2 (by omega)
  subst hmn
  clear ho hr hs hd
  by_cases hl : ps.length = 0
  · have hl1 : ((ps.length : Int) == 0) = true := beq_iff_eq.2 (by omega)
    have HL := Lib.hid hl
    clear hl
    go_enter Tryd.func21, Tryd.ntmps21
    go_wp2_with fail
    refine HDG.out.mono ?_
    rintro e w1 ⟨rfl, rfl⟩
    go_wp2_with fail
    refine (HV.out _ ((Below.refl _ _).alloc (Nat.le_refl _) _)).mono ?_
    rintro e w1 ⟨rfl, rfl⟩
    rw [HD.out]
    go_wp2_with fail
    go_ret
    exact ⟨Dg.ret_bool (by rw [str_eq, decide_eq_true HL.out, Bool.true_and]), ((Below.refl _ _).alloc (Nat.le_refl _) _)⟩
  · have hl1 : ((ps.length : Int) == 0) = false := beq_eq_false_iff_ne.2 (by omega)
    have HL := Lib.hid hl
    clear hl
    go_enter Tryd.func21, Tryd.ntmps21
    go_wp2_with fail
    refine HDG.out.mono ?_
    rintro e w1 ⟨rfl, rfl⟩
    go_wp2_with fail
    refine (HV.out _ ((Below.refl _ _).alloc (Nat.le_refl _) _)).mono ?_
    rintro e w1 ⟨rfl, rfl⟩
    rw [HD.out]
    go_wp2_with fail
    go_ret
    exact ⟨Dg.ret_bool (by rw [decide_eq_false HL.out]; simp), ((Below.refl _ _).alloc (Nat.le_refl _) _)⟩

set_option maxHeartbeats 1000000 in
set_option maxRecDepth 100000 in
theorem refext_pos (old root : ByteArray) (m n : Nat) (v : Value) (ps : List ByteArray) (w : World) (hv : IsTx w v ps) (h0 : 0 < m) (hmn : m < n) (hn : n ≤ 1000000) (hos : old.size ≤ 9223372036854775807) (hrs : root.size ≤ 9223372036854775807) (hs : ∀ s ∈ ps, s.size ≤ 200) (ho : Dg.isDigest old.data.toList = true) (hr : Dg.isDigest root.data.toList = true) (hd : Tr.allDig ps = true) :
    Calls Tryd.prog 21 #[.string old, .int .i64 m, .string root, .int .i64 n, v] w (BoolOut (Tr.ext old.data.toList m root.data.toList n (Tr.bs ps)) w) := by
  have e0 : Tr.ext old.data.toList m root.data.toList n (Tr.bs ps) = (decide (ps.length = Tr.llen n m true) && decide (Tr.both n m true old.data.toList (Tr.bs ps) = (old.data.toList, root.data.toList))) := by
    unfold Tr.ext
    rw [Int.toNat_natCast, Int.toNat_natCast, decide_eq_true (by omega : (0 : Int) ≤ m), decide_eq_true (by omega : (m : Int) ≤ n), decide_eq_true (by omega : (n : Int) ≤ 1000000), ho, hr, ← Tr.all_eq, hd, if_neg (by omega), Tr.bs_len]; simp
  rw [e0]
  clear e0
  have HDG := Lib.hid (refdigests_walk _ [old, root] (w.alloc (.cells #[.string old, .string root] 9)) (tx_two w old root) (Tr.big_two hos hrs))
  rw [Tr.dig_two, ho, hr, Bool.and_true] at HDG
  have HV := Lib.hid (fun w' h => refdigests_walk v ps w' (hv.below h) (fun s h => by have := hs s h; omega))
  have HLN := Lib.hid (fun w' => reflong_ind n n m true w' h0 (by omega) (Nat.le_refl _) (by omega))
  have HB := Lib.hid (fun (hl : ps.length = Tr.llen n m true) w' (h : Below w.heap.size w w') => refboth_ind n n m true old ps v w' h0 (by omega) (Nat.le_refl _) (by omega) (Tr.dig_small ho) hl hs (hv.below h))
  obtain ⟨a, cap, rfl, g1, g2, _⟩ := hv
  have HD := Lib.hid hd
  have m0 : ((m : Int) == 0) = false := beq_eq_false_iff_ne.2 (by omega)
  have mn : ((m : Int) == (n : Int)) = false := beq_eq_false_iff_ne.2 (by omega)
  clear ho hr hs hd
  by_cases hl : ps.length = Tr.llen n m true
  · have hl1 : ((ps.length : Int) != (Tr.llen n m true : Nat)) = false := by rw [hl]; simp
    have HL := Lib.hid hl
    clear hl
    go_enter Tryd.func21, Tryd.ntmps21
    go_wp2_with fail
    refine HDG.out.mono ?_
    rintro e w1 ⟨rfl, rfl⟩
    go_wp2_with fail
    refine (HV.out _ ((Below.refl _ _).alloc (Nat.le_refl _) _)).mono ?_
    rintro e w1 ⟨rfl, rfl⟩
    rw [HD.out]
    go_wp2_with fail
    refine (HLN.out _).mono ?_
    rintro e w1 ⟨rfl, rfl⟩
    go_wp2_with fail
    refine (HB.out HL.out _ ((Below.refl _ _).alloc (Nat.le_refl _) _)).mono ?_
    rintro e w1 ⟨a1, b1, rfl, _, _, hab, hb⟩
    have hbb : Below w.heap.size w w1 := Below.trans ((Below.refl _ _).alloc (Nat.le_refl _) _) (hb.mono (by simp))
    clear hb
    cases hq : (a1.toList == old.toList) with
    | false =>
      have e : decide (a1.data.toList = old.data.toList) = false := by rw [← str_eq, hq]
      have HE := Lib.hid e
      clear e
      go_wp2_with fail
      go_ret
      exact ⟨Dg.ret_bool (by rw [← hab.out, decide_eq_true HL.out, Bool.true_and, Tr.pair_dec, HE.out]; simp), hbb⟩
    | true =>
      have e : decide (a1.data.toList = old.data.toList) = true := by rw [← str_eq, hq]
      have HE := Lib.hid e
      clear e
      go_wp2_with fail
      go_ret
      exact ⟨Dg.ret_bool (by rw [← hab.out, decide_eq_true HL.out, Bool.true_and, Tr.pair_dec, HE.out, Bool.true_and, str_eq]), hbb⟩
  · have hl1 : ((ps.length : Int) != (Tr.llen n m true : Nat)) = true := bne_iff_ne.2 (by omega)
    have HL := Lib.hid hl
    clear hl
    go_enter Tryd.func21, Tryd.ntmps21
    go_wp2_with fail
    refine HDG.out.mono ?_
    rintro e w1 ⟨rfl, rfl⟩
    go_wp2_with fail
    refine (HV.out _ ((Below.refl _ _).alloc (Nat.le_refl _) _)).mono ?_
    rintro e w1 ⟨rfl, rfl⟩
    rw [HD.out]
    go_wp2_with fail
    refine (HLN.out _).mono ?_
    rintro e w1 ⟨rfl, rfl⟩
    go_wp2_with fail
    go_ret
    exact ⟨Dg.ret_bool (by rw [decide_eq_false HL.out]; simp), ((Below.refl _ _).alloc (Nat.le_refl _) _)⟩

/-- The reference's Extends answers as the arithmetic says. -/
theorem refext_walk (old root : ByteArray) (m n : Int) (v : Value) (ps : List ByteArray) (w : World) (hv : IsTx w v ps) (hos : old.size ≤ 9223372036854775807) (hrs : root.size ≤ 9223372036854775807) (hs : ∀ s ∈ ps, s.size ≤ 200) :
    Calls Tryd.prog 21 #[.string old, .int .i64 m, .string root, .int .i64 n, v] w (BoolOut (Tr.ext old.data.toList m root.data.toList n (Tr.bs ps)) w) := by
  by_cases h0 : m < 0
  · exact refext_low old root m n v ps w hv h0
  by_cases h1 : n < m
  · exact refext_high old root m n v ps w hv h0 h1
  by_cases h2 : (1000000 : Int) < n
  · exact refext_long old root m n v ps w hv h0 h1 h2
  cases h3 : (Dg.isDigest old.data.toList && Dg.isDigest root.data.toList) with
  | false => exact refext_two old root m n v ps w hv h0 h1 h2 hos hrs h3
  | true =>
    obtain ⟨ho, hr⟩ := Bool.and_eq_true_iff.1 h3
    cases hd : Tr.allDig ps with
    | false => exact refext_nodig old root m n v ps w hv h0 h1 h2 hos hrs hs ho hr hd
    | true =>
      by_cases hz : m = 0
      · subst hz
        exact refext_zero old root n v ps w hv h0 h1 h2 hos hrs hs ho hr hd
      · obtain ⟨m, rfl⟩ := Int.eq_ofNat_of_zero_le (by omega : 0 ≤ m)
        obtain ⟨n, rfl⟩ := Int.eq_ofNat_of_zero_le (by omega : 0 ≤ n)
        by_cases hmn : m = n
        · exact refext_same old root m n v ps w hv (by omega) hmn (by omega) hos hrs hs ho hr hd
        · exact refext_pos old root m n v ps w hv (by omega) (by omega) (by omega) hos hrs hs ho hr hd
end Go.Proofs.YteeanbjaphjccaaDoor
