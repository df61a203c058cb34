/-
  The walks of tree.linked and tree.Extends.
-/
import Derived.Test.YteeanbjaphjccaaDoorTBothC
import Derived.Test.YteeanbjaphjccaaDoorTCheckFn
import Derived.Test.YteeanbjaphjccaaDoorTRoot
namespace Go.Proofs.YteeanbjaphjccaaDoor
open Go.RowKit

theorem lst_start (w0 : World) (rb : Nat) (old : ByteArray) (ps : List ByteArray) (short : Bool) (w : World) (h : RestIs w0 rb ps short w) :
    LSt w0 rb w.heap.size old ps short (((w.alloc (.cells #[.string old] 9)).alloc (.cells #[.pointer (some ⟨rb, 0, none⟩)] 57)).alloc (.cells #[Tr.bothFn w.heap.size] 62)) := by
  have hlt : rb < w.heap.size := by obtain ⟨_, _, v, h3, _⟩ := h; exact lt_of_block h3
  have b1 : (w.alloc (.cells #[.string old] 9)).heap.size = w.heap.size + 1 := by simp
  have b2 : ((w.alloc (.cells #[.string old] 9)).alloc (.cells #[.pointer (some ⟨rb, 0, none⟩)] 57)).heap.size = w.heap.size + 2 := by simp
  refine ⟨hlt, ?_, ?_, ?_, h.below (beside_le3 _ _ _)⟩
  · rw [World.cell?_alloc_lt _ _ _ (by show w.heap.size < _; omega), World.cell?_alloc_lt _ _ _ (by show w.heap.size < _; omega)]
    exact World.cell?_alloc_at _ _ _ _ rfl
  · rw [World.cell?_alloc_lt _ _ _ (by show w.heap.size + 1 < _; omega)]
    exact cell_new2 _ _ _ _
  · have : (((w.alloc (.cells #[.string old] 9)).alloc (.cells #[.pointer (some ⟨rb, 0, none⟩)] 57)).alloc (.cells #[Tr.bothFn w.heap.size] 62)).cell? ⟨((w.alloc (.cells #[.string old] 9)).alloc (.cells #[.pointer (some ⟨rb, 0, none⟩)] 57)).heap.size, 0, none⟩ = some (Tr.bothFn w.heap.size) := World.cell?_alloc_at _ _ _ _ rfl
    rw [b2] at this; exact this

/-- What linked answers: both roots, and what is left of the proof. -/
def LinkedOut (w0 : World) (rb : Nat) (old : ByteArray) (n m : Nat) (ps : List ByteArray) (e : Ending) (w' : World) : Prop :=
  ∃ a b : ByteArray, e = .returned (.tuple #[.string a, .string b]) ∧
    Hid (Tr.llen n m true ≤ ps.length → (a.data.toList, b.data.toList) = Tr.both n m true old.data.toList ((Tr.bs ps).take (Tr.llen n m true))) ∧
    RestIs w0 rb (ps.drop (Tr.llen n m true)) (false || decide (ps.length < Tr.llen n m true)) w'

set_option maxHeartbeats 1000000 in
set_option maxRecDepth 100000 in
theorem linked_walk (w0 : World) (ht : HasTab w0) (rb : Nat) (old : ByteArray) (ho : old.size ≤ 200) (n m : Nat) (h0 : 0 < m) (hm : m ≤ n) (hn : n ≤ 4611686018427387904) (ps : List ByteArray) (hps : ∀ s ∈ ps, s.size ≤ 200) (w : World) (hr : RestIs w0 rb ps false w) :
    Calls Tryd.prog 48 #[.string old, .int .i64 m, .int .i64 n, .pointer (some ⟨rb, 0, none⟩)] w (LinkedOut w0 rb old n m ps) := by
  have HC := Lib.hid (bothc_walk w0 ht rb w.heap.size old ho n n m true ps false _ h0 hm (Nat.le_refl _) hn hps (lst_start w0 rb old ps false w hr))
  clear hr ht hps
  go_enter Tryd.func48, Tryd.ntmps48
  go_wp2_with fail
  refine HC.out.mono ?_
  rintro e w1 ⟨a, b, rfl, _, _, hab, hl⟩
  have HL := Lib.hid hl.rest
  clear hl
  go_wp2_with fail
  go_ret2
  exact ⟨a, b, rfl, hab, HL.out⟩

/-- B4 in arithmetic. -/
def Tr.ext (old : Tr.T) (m : Int) (root : Tr.T) (n : Int) (ps : List Tr.T) : Bool :=
  decide (0 ≤ m) && decide (m ≤ n) && decide (n ≤ 1000000) && Dg.isDigest old && Dg.isDigest root && ps.all Dg.isDigest &&
    (if m = 0 then decide (ps.length = 0) && decide (old = Tr.empty) && (decide (0 < n) || decide (root = old))
     else decide (ps.length = Tr.llen n.toNat m.toNat true) && decide (Tr.both n.toNat m.toNat true old ps = (old, root)))

set_option maxHeartbeats 1000000 in
set_option maxRecDepth 100000 in
theorem ext_low (old root : ByteArray) (m n : Int) (v : Value) (ps : List ByteArray) (w : World) (hv : IsTx w v ps) (hi : m < 0) :
    Calls Tryd.prog 20 #[.string old, .int .i64 m, .string root, .int .i64 n, v] w (BoolOut (Tr.ext old.data.toList m root.data.toList n (Tr.bs ps)) w) := by
  have e : Tr.ext old.data.toList m root.data.toList n (Tr.bs ps) = false := by unfold Tr.ext; rw [decide_eq_false (p := 0 ≤ m) (by omega)]; simp
  rw [e]
  clear e
  obtain ⟨a, cap, rfl, h1, h2, _⟩ := hv
  go_enter Tryd.func20, Tryd.ntmps20
  go_wp2_with fail
  go_ret
  exact ⟨rfl, ((Below.refl _ _).alloc (Nat.le_refl _) _)⟩

set_option maxHeartbeats 1000000 in
set_option maxRecDepth 100000 in
theorem ext_high (old root : ByteArray) (m n : Int) (v : Value) (ps : List ByteArray) (w : World) (hv : IsTx w v ps) (h0 : ¬ m < 0) (hi : n < m) :
    Calls Tryd.prog 20 #[.string old, .int .i64 m, .string root, .int .i64 n, v] w (BoolOut (Tr.ext old.data.toList m root.data.toList n (Tr.bs ps)) w) := by
  have e : Tr.ext old.data.toList m root.data.toList n (Tr.bs ps) = false := by unfold Tr.ext; rw [decide_eq_false (p := m ≤ n) (by omega)]; simp
  rw [e]
  clear e
  obtain ⟨a, cap, rfl, g1, g2, _⟩ := hv
  go_enter Tryd.func20, Tryd.ntmps20
  go_wp2_with fail
  go_ret
  exact ⟨rfl, ((Below.refl _ _).alloc (Nat.le_refl _) _)⟩

set_option maxHeartbeats 1000000 in
set_option maxRecDepth 100000 in
theorem ext_long (old root : ByteArray) (m n : Int) (v : Value) (ps : List ByteArray) (w : World) (hv : IsTx w v ps) (h0 : ¬ m < 0) (h1 : ¬ n < m) (hi : (1000000 : Int) < n) :
    Calls Tryd.prog 20 #[.string old, .int .i64 m, .string root, .int .i64 n, v] w (BoolOut (Tr.ext old.data.toList m root.data.toList n (Tr.bs ps)) w) := by
  have e : Tr.ext old.data.toList m root.data.toList n (Tr.bs ps) = false := by unfold Tr.ext; rw [decide_eq_false (p := n ≤ 1000000) (by omega)]; simp
  rw [e]
  clear e
  obtain ⟨a, cap, rfl, g1, g2, _⟩ := hv
  go_enter Tryd.func20, Tryd.ntmps20
  go_wp2_with fail
  go_ret
  exact ⟨rfl, ((Below.refl _ _).alloc (Nat.le_refl _) _)⟩

set_option maxHeartbeats 1000000 in
set_option maxRecDepth 100000 in
theorem ext_old (old root : ByteArray) (m n : Int) (v : Value) (ps : List ByteArray) (w : World) (hv : IsTx w v ps) (h0 : ¬ m < 0) (h1 : ¬ n < m) (h2 : ¬ (1000000 : Int) < n) (hos : old.size ≤ 9223372036854775807) (hd : Dg.isDigest old.data.toList = false) :
    Calls Tryd.prog 20 #[.string old, .int .i64 m, .string root, .int .i64 n, v] w (BoolOut (Tr.ext old.data.toList m root.data.toList n (Tr.bs ps)) w) := by
  have e : Tr.ext old.data.toList m root.data.toList n (Tr.bs ps) = false := by unfold Tr.ext; rw [hd]; simp
  rw [e]
  clear e
  obtain ⟨a, cap, rfl, g1, g2, _⟩ := hv
  have HO := Lib.hid hd
  clear hd
  go_enter Tryd.func20, Tryd.ntmps20
  go_wp2_with fail
  refine (is_false old hos HO.out _).mono ?_
  rintro e w1 ⟨rfl, rfl⟩
  go_wp2_with fail
  go_ret
  exact ⟨rfl, ((Below.refl _ _).alloc (Nat.le_refl _) _)⟩

set_option maxHeartbeats 1000000 in
set_option maxRecDepth 100000 in
theorem ext_root (old root : ByteArray) (m n : Int) (v : Value) (ps : List ByteArray) (w : World) (hv : IsTx w v ps) (h0 : ¬ m < 0) (h1 : ¬ n < m) (h2 : ¬ (1000000 : Int) < n) (hos : old.size ≤ 9223372036854775807) (hrs : root.size ≤ 9223372036854775807) (ho : Dg.isDigest old.data.toList = true) (hd : Dg.isDigest root.data.toList = false) :
    Calls Tryd.prog 20 #[.string old, .int .i64 m, .string root, .int .i64 n, v] w (BoolOut (Tr.ext old.data.toList m root.data.toList n (Tr.bs ps)) w) := by
  have e : Tr.ext old.data.toList m root.data.toList n (Tr.bs ps) = false := by unfold Tr.ext; rw [hd]; simp
  rw [e]
  clear e
  obtain ⟨a, cap, rfl, g1, g2, _⟩ := hv
  have HO := Lib.hid ho
  have HR := Lib.hid hd
  clear hd ho
  go_enter Tryd.func20, Tryd.ntmps20
  go_wp2_with fail
  refine (is_true old hos HO.out _).mono ?_
  rintro e w1 ⟨rfl, rfl⟩
  go_wp2_with fail
  refine (is_false root hrs HR.out _).mono ?_
  rintro e w1 ⟨rfl, rfl⟩
  go_wp2_with fail
  go_ret
  exact ⟨rfl, ((Below.refl _ _).alloc (Nat.le_refl _) _)⟩

set_option maxHeartbeats 1000000 in
set_option maxRecDepth 100000 in
theorem ext_nodig (old root : ByteArray) (m n : Int) (v : Value) (ps : List ByteArray) (w : World) (hv : IsTx w v ps) (h0 : ¬ m < 0) (h1 : ¬ n < m) (h2 : ¬ (1000000 : Int) < n) (hos : old.size ≤ 9223372036854775807) (hrs : root.size ≤ 9223372036854775807) (hs : ∀ s ∈ ps, s.size ≤ 200) (ho : Dg.isDigest old.data.toList = true) (hr : Dg.isDigest root.data.toList = true) (hd : Tr.allDig ps = false) :
    Calls Tryd.prog 20 #[.string old, .int .i64 m, .string root, .int .i64 n, v] w (BoolOut (Tr.ext old.data.toList m root.data.toList n (Tr.bs ps)) w) := by
  have e : Tr.ext old.data.toList m root.data.toList n (Tr.bs ps) = false := by unfold Tr.ext; rw [← Tr.all_eq, hd]; simp
  rw [e]
  clear e
  have HV := Lib.hid (fun w' h => valid_walk v ps w' (hv.below h) (fun s h => by have := hs s h; omega))
  obtain ⟨a, cap, rfl, g1, g2, _⟩ := hv
  have HO := Lib.hid ho
  have HR := Lib.hid hr
  clear ho hr hs
  go_enter Tryd.func20, Tryd.ntmps20
  go_wp2_with fail
  refine (is_true old hos HO.out _).mono ?_
  rintro e w1 ⟨rfl, rfl⟩
  go_wp2_with fail
  refine (is_true root hrs HR.out _).mono ?_
  rintro e w1 ⟨rfl, rfl⟩
  go_wp2_with fail
  refine (HV.out _ ((Below.refl _ _).alloc (Nat.le_refl _) _)).mono ?_
  rintro e w1 ⟨rfl, rfl⟩
  rw [hd]
  go_wp2_with fail
  go_ret
  exact ⟨rfl, ((Below.refl _ _).alloc (Nat.le_refl _) _)⟩

theorem Tr.root_empty : Tr.root (Tr.bs []) = Tr.empty := Tr.root_nil

set_option maxHeartbeats 1000000 in
set_option maxRecDepth 100000 in
theorem ext_zero (old root : ByteArray) (n : Int) (v : Value) (ps : List ByteArray) (w : World) (hv : IsTx w v ps) (ht : HasTab w) (h0 : ¬ (0:Int) < 0) (h1 : ¬ n < 0) (h2 : ¬ (1000000 : Int) < n) (hos : old.size ≤ 9223372036854775807) (hrs : root.size ≤ 9223372036854775807) (hs : ∀ s ∈ ps, s.size ≤ 200) (ho : Dg.isDigest old.data.toList = true) (hr : Dg.isDigest root.data.toList = true) (hd : Tr.allDig ps = true) :
    Calls Tryd.prog 20 #[.string old, .int .i64 0, .string root, .int .i64 n, v] w (BoolOut (Tr.ext old.data.toList 0 root.data.toList n (Tr.bs ps)) w) := by
  have e : Tr.ext old.data.toList 0 root.data.toList n (Tr.bs ps) = (decide (ps.length = 0) && decide (old.data.toList = Tr.empty) && (decide (0 < n) || decide (root.data.toList = old.data.toList))) := by
    unfold Tr.ext
    rw [decide_eq_true (by omega : (0 : Int) ≤ n), decide_eq_true (by omega : n ≤ 1000000), ho, hr, ← Tr.all_eq, hd, if_pos rfl, Tr.bs_len]; simp
  rw [e]
  clear e
  have HV := Lib.hid (fun w' h => valid_walk v ps w' (hv.below h) (fun s h => by have := hs s h; omega))
  obtain ⟨a, cap, rfl, g1, g2, _⟩ := hv
  have HO := Lib.hid ho
  have HR := Lib.hid hr
  have HD := Lib.hid hd
  have HT := Lib.hid ht
  clear ho hr hs hd ht
  by_cases hl : ps.length = 0
  · have hl1 : ((ps.length : Int) == 0) = true := beq_iff_eq.2 (by omega)
    have HL := Lib.hid hl
    clear hl
    go_enter Tryd.func20, Tryd.ntmps20
    go_wp2_with fail
    refine (is_true old hos HO.out _).mono ?_
    rintro e w1 ⟨rfl, rfl⟩
    go_wp2_with fail
    refine (is_true root hrs HR.out _).mono ?_
    rintro e w1 ⟨rfl, rfl⟩
    go_wp2_with fail
    refine (HV.out _ ((Below.refl _ _).alloc (Nat.le_refl _) _)).mono ?_
    rintro e w1 ⟨rfl, rfl⟩
    rw [HD.out]
    go_wp2_with fail
    refine (root_walk [] (.slice none 0 0) _ (by simp) (IsTx.nil _) (by simp) (HT.out.below ((Below.refl _ _).alloc (Nat.le_refl _) _))).mono ?_
    rintro e w1 ⟨r, rfl, hx, hz, hb⟩
    have HX := Lib.hid hx.out
    rw [Tr.root_empty] at HX
    have hbb : Below w.heap.size w w1 := Below.trans ((Below.refl _ _).alloc (Nat.le_refl _) _) (hb.mono (by simp))
    clear hx hb
    cases hq : (old.toList == r.toList) with
    | false =>
      have e : decide (old.data.toList = Tr.empty) = false := by rw [← HX.out, ← str_eq, hq]
      have HE := Lib.hid e
      clear e
      go_wp2_with fail
      go_ret
      exact ⟨Dg.ret_bool (by rw [HE.out]; simp), hbb⟩
    | true =>
      have e : decide (old.data.toList = Tr.empty) = true := by rw [← HX.out, ← str_eq, hq]
      have HE := Lib.hid e
      clear e
      by_cases hn : (0 : Int) < n
      · go_wp2_with fail
        go_ret
        exact ⟨Dg.ret_bool (by rw [HE.out, decide_eq_true HL.out, decide_eq_true hn]; simp), hbb⟩
      · cases hq2 : (root.toList == old.toList) with
        | false =>
          have e : decide (root.data.toList = old.data.toList) = false := by rw [← str_eq, hq2]
          have HE2 := Lib.hid e
          clear e
          go_wp2_with fail
          go_ret
          exact ⟨Dg.ret_bool (by rw [HE.out, HE2.out, decide_eq_true HL.out, decide_eq_false (by omega : ¬ (0 : Int) < n)]; simp), hbb⟩
        | true =>
          have e : decide (root.data.toList = old.data.toList) = true := by rw [← str_eq, hq2]
          have HE2 := Lib.hid e
          clear e
          go_wp2_with fail
          go_ret
          exact ⟨Dg.ret_bool (by rw [HE.out, HE2.out, decide_eq_true HL.out]; simp), hbb⟩
  · have hl1 : ((ps.length : Int) == 0) = false := beq_eq_false_iff_ne.2 (by omega)
    have HL := Lib.hid hl
    clear hl
    go_enter Tryd.func20, Tryd.ntmps20
    go_wp2_with fail
    refine (is_true old hos HO.out _).mono ?_
    rintro e w1 ⟨rfl, rfl⟩
    go_wp2_with fail
    refine (is_true root hrs HR.out _).mono ?_
    rintro e w1 ⟨rfl, rfl⟩
    go_wp2_with fail
    refine (HV.out _ ((Below.refl _ _).alloc (Nat.le_refl _) _)).mono ?_
    rintro e w1 ⟨rfl, rfl⟩
    rw [HD.out]
    go_wp2_with fail
    go_ret
    exact ⟨Dg.ret_bool (by rw [decide_eq_false HL.out]; simp), ((Below.refl _ _).alloc (Nat.le_refl _) _)⟩

theorem Tr.ext_yes {old root a b : Tr.T} {m n : Nat} {ps : List ByteArray} (h0 : 0 < m) (hm : m ≤ n) (hn : n ≤ 1000000) (ho : Dg.isDigest old = true) (hr : Dg.isDigest root = true) (hd : Tr.allDig ps = true)
    (hab : Tr.llen n m true ≤ ps.length → (a, b) = Tr.both n m true old ((Tr.bs ps).take (Tr.llen n m true))) :
    Tr.ext old m root n (Tr.bs ps) = (decide (a = old) && decide (b = root) && (decide ((ps.drop (Tr.llen n m true)).length = 0) && !(false || decide (ps.length < Tr.llen n m true)))) := by
  unfold Tr.ext
  rw [← Tr.all_eq, hd, ho, hr, Int.toNat_natCast, Int.toNat_natCast, Tr.bs_len, decide_eq_true (by omega : (0 : Int) ≤ m), decide_eq_true (by omega : (m : Int) ≤ n), decide_eq_true (by omega : (n : Int) ≤ 1000000), List.length_drop, if_neg (by omega)]
  by_cases hl : ps.length = Tr.llen n m true
  · have := hab (by omega)
    rw [List.take_of_length_le (by rw [Tr.bs_len]; omega)] at this
    rw [← this, hl]; simp
  · rw [decide_eq_false hl]
    have : (decide (ps.length - Tr.llen n m true = 0) && !(false || decide (ps.length < Tr.llen n m true))) = false := by
      by_cases h : ps.length < Tr.llen n m true
      · rw [decide_eq_true h]; simp
      · rw [decide_eq_false (p := ps.length - Tr.llen n m true = 0) (by omega)]; simp
    rw [this]; simp
theorem Tr.dig_small {s : ByteArray} (h : Dg.isDigest s.data.toList = true) : s.size ≤ 200 := by
  unfold Dg.isDigest at h
  rw [Bool.and_eq_true, beq_iff_eq, Dg.len_data] at h
  omega
theorem rest_start (w : World) (v : Value) (ps : List ByteArray) (hv : IsTx w v ps) : RestIs w w.heap.size ps false (w.alloc (.cells #[v, .bool false] 50)) :=
  ⟨Nat.le_refl _, (Below.refl _ _).alloc (Nat.le_refl _) _, v, heap_alloc_new _ _, hv⟩

set_option maxHeartbeats 1000000 in
set_option maxRecDepth 100000 in
theorem ext_pos (old root : ByteArray) (m n : Nat) (v : Value) (ps : List ByteArray) (w : World) (hv : IsTx w v ps) (ht : HasTab w) (h0 : 0 < m) (hm : m ≤ n) (hn : n ≤ 1000000) (hos : old.size ≤ 9223372036854775807) (hrs : root.size ≤ 9223372036854775807) (hs : ∀ s ∈ ps, s.size ≤ 200) (ho : Dg.isDigest old.data.toList = true) (hr : Dg.isDigest root.data.toList = true) (hd : Tr.allDig ps = true) :
    Calls Tryd.prog 20 #[.string old, .int .i64 m, .string root, .int .i64 n, v] w (BoolOut (Tr.ext old.data.toList m root.data.toList n (Tr.bs ps)) w) := by
  have HV := Lib.hid (fun w' h => valid_walk v ps w' (hv.below h) (fun s h => by have := hs s h; omega))
  have HLK := Lib.hid (linked_walk w ht w.heap.size old (Tr.dig_small ho) n m h0 hm (by omega) ps hs _ (rest_start w v ps hv))
  have HEX := Lib.hid (fun a b hab => Tr.ext_yes (root := root.data.toList) (a := a) (b := b) h0 hm hn ho hr hd hab)
  obtain ⟨a, cap, rfl, g1, g2, _⟩ := hv
  have HO := Lib.hid ho
  have HR := Lib.hid hr
  have HD := Lib.hid hd
  have m0 : ((m : Int) == 0) = false := beq_eq_false_iff_ne.2 (by omega)
  clear ho hr hs hd ht
  go_enter Tryd.func20, Tryd.ntmps20
  go_wp2_with fail
  refine (is_true old hos HO.out _).mono ?_
  rintro e w1 ⟨rfl, rfl⟩
  go_wp2_with fail
  refine (is_true root hrs HR.out _).mono ?_
  rintro e w1 ⟨rfl, rfl⟩
  go_wp2_with fail
  refine (HV.out _ ((Below.refl _ _).alloc (Nat.le_refl _) _)).mono ?_
  rintro e w1 ⟨rfl, rfl⟩
  rw [HD.out]
  go_wp2_with fail
  refine HLK.out.mono ?_
  rintro e w1 ⟨a, b, rfl, hab, hrest⟩
  have HQ := Lib.hid hrest
  have HX := Lib.hid (HEX.out _ _ hab.out)
  clear hrest hab
  cases hq : (a.toList == old.toList) with
  | false =>
    have e : decide (a.data.toList = old.data.toList) = false := by rw [← str_eq, hq]
    have HE := Lib.hid e
    clear e
    go_wp2_with fail
    go_ret
    exact ⟨Dg.ret_bool (by rw [HX.out, HE.out]; simp), HQ.out.old⟩
  | true =>
    have e : decide (a.data.toList = old.data.toList) = true := by rw [← str_eq, hq]
    have HE := Lib.hid e
    clear e
    cases hq2 : (b.toList == root.toList) with
    | false =>
      have e : decide (b.data.toList = root.data.toList) = false := by rw [← str_eq, hq2]
      have HE2 := Lib.hid e
      clear e
      go_wp2_with fail
      go_ret
      exact ⟨Dg.ret_bool (by rw [HX.out, HE.out, HE2.out]; simp), HQ.out.old⟩
    | true =>
      have e : decide (b.data.toList = root.data.toList) = true := by rw [← str_eq, hq2]
      have HE2 := Lib.hid e
      clear e
      go_wp2_with fail
      refine (used_walk w w.heap.size _ _ w1 HQ.out).mono ?_
      rintro e w2 ⟨rfl, hb2⟩
      have hb3 := HQ.out.old.trans (hb2.mono HQ.out.old.size)
      go_wp2_with fail
      go_ret
      exact ⟨Dg.ret_bool (by rw [HX.out, HE.out, HE2.out, Bool.true_and, Bool.true_and, List.length_drop, Bool.false_or]), hb3⟩

/-- tree.Extends answers as the arithmetic says. -/
theorem ext_walk (old root : ByteArray) (m n : Int) (v : Value) (ps : List ByteArray) (w : World) (ht : HasTab w) (hv : IsTx w v ps) (hos : old.size ≤ 9223372036854775807) (hrs : root.size ≤ 9223372036854775807) (hs : ∀ s ∈ ps, s.size ≤ 200) :
    Calls Tryd.prog 20 #[.string old, .int .i64 m, .string root, .int .i64 n, v] w (BoolOut (Tr.ext old.data.toList m root.data.toList n (Tr.bs ps)) w) := by
  by_cases h0 : m < 0
  · exact ext_low old root m n v ps w hv h0
  by_cases h1 : n < m
  · exact ext_high old root m n v ps w hv h0 h1
  by_cases h2 : (1000000 : Int) < n
  · exact ext_long old root m n v ps w hv h0 h1 h2
  cases ho : Dg.isDigest old.data.toList with
  | false => exact ext_old old root m n v ps w hv h0 h1 h2 hos ho
  | true =>
    cases hr : Dg.isDigest root.data.toList with
    | false => exact ext_root old root m n v ps w hv h0 h1 h2 hos hrs ho hr
    | true =>
      cases hd : Tr.allDig ps with
      | false => exact ext_nodig old root m n v ps w hv h0 h1 h2 hos hrs hs ho hr hd
      | true =>
        by_cases hz : m = 0
        · subst hz
          exact ext_zero old root n v ps w hv ht h0 h1 h2 hos hrs hs ho hr hd
        · obtain ⟨m, rfl⟩ := Int.eq_ofNat_of_zero_le (by omega : 0 ≤ m)
          obtain ⟨n, rfl⟩ := Int.eq_ofNat_of_zero_le (by omega : 0 ≤ n)
          exact ext_pos old root m n v ps w hv ht (by omega) (by omega) (by omega) hos hrs hs ho hr hd
end Go.Proofs.YteeanbjaphjccaaDoor
