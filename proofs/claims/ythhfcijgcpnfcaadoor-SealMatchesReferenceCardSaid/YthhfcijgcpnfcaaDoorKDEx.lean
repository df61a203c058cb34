import Derived.Test.YthhfcijgcpnfcaaDoorShelf
import Derived.Test.YthhfcijgcpnfcaaDoorKDIs
import Derived.Test.YthhfcijgcpnfcaaDoorKDList
import Derived.WalkKit
import Derived.WalkSpells
import Derived.WalkLawsBesides
import Derived.WalkSmall
import Derived.Lib.Hide
import Derived.Lib.LaidTab
/-
  The walks of digest.joined and digest.List: the digest of a list is Dg.sum of its joined text.
-/
namespace Go.Proofs.YthhfcijgcpnfcaaDoor
open Go.RowKit

/-- What the walks ask of the world: the library's table of powers of ten. -/
def HasTab (w : World) : Prop := Lib.TabIs Tryd.prog w "internal/strconv.uint64pow10" .u64 Lib.pow10Tab

theorem gTab : Tryd.prog.globalNamed "internal/strconv.uint64pow10" = some 1 := by kernel_rfl

theorem HasTab.lt {w : World} (h : HasTab w) : 1 < w.heap.size := by
  have h1 := h.cell gTab 0 (by decide)
  exact block_lt_of_cell h1

theorem HasTab.below {w w' : World} (h : HasTab w) (hb : Below w.heap.size w w') : HasTab w' := var?_below hb gTab h.lt h

theorem below_grow (w : World) (k : Nat) (os : Array Obj) : Below w.heap.size w (Sort.grow (w.drewN k) os) :=
  ⟨rfl, rfl, rfl, by simp [Sort.grow, World.drewN], fun j hj => Sort.heap_grow_old (w.drewN k) os hj⟩

theorem itoa_walk (n : Nat) (hn : n ≤ 9223372036854775807) (w : World) (ht : HasTab w) :
    Calls Tryd.prog 65 #[.int .i64 n] w fun e w' => e = .returned (.string (str (Lib.decDigits n))) ∧ Below w.heap.size w w' := by
  refine (Tryd.strconv_Itoa n (by omega) (by omega) w ht).mono ?_
  rintro e w' ⟨rfl, k, os, rfl⟩
  have e1 : Lib.itoa (n : Int) = Lib.decDigits n := by
    unfold Lib.itoa
    rw [if_neg (by omega), Int.toNat_natCast]
  exact ⟨by rw [e1], below_grow w k os⟩

/-- A builder stays one while new blocks are laid behind the heap. -/
theorem builder_below {T e : TypeId} {B b : Nat} {bs : List Value} {w w' : World} (h : Lib.IsBuilder T e B b bs w) (hb : Below w.heap.size w w') : Lib.IsBuilder T e B b bs w' := by
  have hg : w.grownBy w' none := ⟨hb.os, hb.tape, hb.output, hb.size, fun k hk _ => hb.block k hk⟩
  rcases h with h | h
  · have hl := h.lt
    obtain ⟨h1, v, h2, h3, h4⟩ := h
    refine Or.inl ⟨h1, v, (hb.block b hl).trans h2, h3.kept hg ?_, h4⟩
    cases hv : v.ownBlock <;> simp
  · have hl := h.lt
    obtain ⟨h1, v, h2, h3, h4⟩ := h
    refine Or.inr ⟨h1, v, (hb.block b hl).trans h2, h3.kept hg ?_, h4⟩
    cases hv : v.ownBlock <;> simp

namespace Dg
/-- The texts of a list as lists of bytes. -/
def texts (ss : List ByteArray) (k : Nat) : List (List UInt8) := (ss.take k).map (·.data.toList)
def jn (ss : List ByteArray) (k : Nat) : List UInt8 := join (texts ss k)
theorem jn_zero (ss : List ByteArray) : jn ss 0 = [] := by simp [jn, texts, join]
theorem jn_succ (ss : List ByteArray) (k : Nat) (hk : k < ss.length) (t : ByteArray) (ht : t = ss.getD k ByteArray.empty) :
    jn ss (k + 1) = jn ss k ++ (Lib.decDigits t.size ++ ([58] ++ t.data.toList)) := by
  have e : ss.getD k ByteArray.empty = ss[k] := by rw [List.getD_eq_getElem?_getD, List.getElem?_eq_getElem hk]; rfl
  rw [jn, jn, texts, texts, List.take_succ_eq_append_getElem hk, List.map_append, List.map_cons, List.map_nil, join_append, join_one, ht, e, len_data]
  rfl
theorem jn_le (ss : List ByteArray) (k n : Nat) (h : k ≤ n) : (jn ss k).length ≤ (jn ss n).length := by
  have e : texts ss n = texts ss k ++ ((ss.take n).drop k).map (·.data.toList) := by
    rw [texts, texts, ← List.map_append]
    congr 1
    have := List.take_append_drop k (ss.take n)
    rw [List.take_take, Nat.min_eq_left h] at this
    exact this.symm
  rw [jn, jn, e, join_append, List.length_append]
  exact Nat.le_add_right _ _
theorem cells_join {T e : TypeId} {B b : Nat} {w : World} {a d t : List UInt8} {s : ByteArray} (h : Lib.BuilderAt T e B b (.pointer (some ⟨b, 0, none⟩)) (Lib.byteCells a ++ Lib.strCells (str d) ++ [.int .u8 58] ++ Lib.strCells s) w) (hs : s.data.toList = t) :
    Lib.IsBuilder T e B b (Lib.byteCells (a ++ (d ++ ([58] ++ t)))) w := by
  refine Or.inr ?_
  have e1 : Lib.byteCells (a ++ (d ++ ([58] ++ t))) = Lib.byteCells a ++ Lib.strCells (str d) ++ [.int .u8 58] ++ Lib.strCells s := by
    rw [Lib.byteCells_append, Lib.byteCells_append, Lib.byteCells_append, Lib.strCells_eq s, hs, Lib.strCells_eq, str_toList]
    simp [Lib.byteCells]
  rw [e1]; exact h
end Dg

set_option maxHeartbeats 1000000 in
set_option maxRecDepth 100000 in
theorem joined_walk (b off len cap : Nat) (ss : List ByteArray) (hz : len ≤ ss.length) (hlen : len ≤ 9223372036854775807) (hsum : (Dg.jn ss len).length ≤ 140737488355328) (w : World) (ht : HasTab w)
    (hc : ∀ j, j < ss.length → w.cell? ⟨b, off + j, none⟩ = some (.string (ss.getD j ByteArray.empty))) (hbw : b < w.heap.size) :
    Calls Tryd.prog 76 #[.slice (some ⟨b, off, none⟩) len cap] w fun e w' => e = .returned (.string (str (Dg.jn ss len))) ∧ Below w.heap.size w w' := by
  go_enter Tryd.func76, Tryd.ntmps76
  go_wp2_with fail
  go_loopw [8] (fun i wr => ∃ k : Nat, k ≤ len ∧ i = .int .i64 k ∧ Lib.IsBuilder 93 5 w.heap.size w.heap.size (Lib.byteCells (Dg.jn ss k)) wr ∧ Below w.heap.size w wr) (fun i _ => len - (intOf i).toNat)
  case atStart => exact ⟨0, Nat.zero_le _, rfl, by rw [Dg.jn_zero]; exact Lib.fresh_isBuilder _ _ w, (Below.refl _ w).alloc (Nat.le_refl _) _⟩
  case round =>
    obtain ⟨k, hk, rfl, hI, hbel⟩ := hrel
    have HI := Lib.hid hI
    clear hI
    have hgw : w.heap.size ≤ wr.heap.size := hbel.size
    by_cases hlt : k < len
    · obtain ⟨t, htk⟩ : ∃ t, t = ss.getD k ByteArray.empty := ⟨_, rfl⟩
      have hcell : wr.cell? ⟨b, off + k, none⟩ = some (.string t) := by
        rw [hbel.cell (p := ⟨b, off + k, none⟩) hbw, hc k (by omega), htk]
      have hjs := Dg.jn_succ ss k (by omega) t htk
      have hjl : (Dg.jn ss (k + 1)).length ≤ 140737488355328 := Nat.le_trans (Dg.jn_le ss (k + 1) len hlt) hsum
      have HJ := Lib.hid hjs
      rw [hjs] at hjl
      simp only [List.length_append, List.length_singleton, Dg.len_data] at hjl
      have htw := ht.below hbel
      have HT := Lib.hid htw
      clear hjs htw htk
      clear hc
      have HTt := Lib.hid ht
      clear ht
      go_wp2_with fail
      refine (itoa_walk t.size (by omega) wr HT.out).mono ?_
      rintro e w1 ⟨rfl, hb1⟩
      have HI1 := Lib.hid (builder_below HI.out hb1)
      have hg1 := hb1.size
      go_wp2_with fail
      refine (Tryd.Builder_WriteString w.heap.size w.heap.size _ _ w1 HI1.out (by rw [Lib.byteCells_length, Dg.str_size]; omega) (by omega)).mono ?_
      rintro e w2 ⟨rfl, hI2, hb2⟩
      have HI2 := Lib.hid hI2
      have hg2 := hb2.size
      clear hI2
      go_wp2_with fail
      refine (Tryd.Builder_WriteByte w.heap.size w.heap.size _ 58 w2 (Or.inr HI2.out) (by rw [List.length_append, Lib.byteCells_length, Lib.strCells_length, Dg.str_size]; omega) (by omega)).mono ?_
      rintro e w3 ⟨rfl, hI3, hb3⟩
      have HI3 := Lib.hid hI3
      have hg3 := hb3.size
      clear hI3
      go_wp2_with fail
      refine (Tryd.Builder_WriteString w.heap.size w.heap.size _ _ w3 (Or.inr HI3.out) (by rw [List.length_append, List.length_append, Lib.byteCells_length, Lib.strCells_length, Dg.str_size]; simp only [List.length_singleton]; omega) (by omega)).mono ?_
      rintro e w4 ⟨rfl, hI4, hb4⟩
      have HI4 := Lib.hid hI4
      clear hI4
      go_wp2_with fail
      go_roundw
      case rel => exact ⟨k + 1, by omega, by go_num, by rw [HJ.out]; exact Dg.cells_join HI4.out rfl, (((hbel.trans (hb1.mono hgw)).trans hb2).trans hb3).trans hb4⟩
      case measure => simp [intOf]; omega
    · have hke : Hid (k = len) := by show _ = _; omega
      go_wp2_with fail
      refine (Tryd.Builder_String_any w.heap.size w.heap.size _ wr HI.out hgw).mono ?_
      rintro e w1 ⟨rfl, hb1⟩
      go_wp2_with fail
      go_ret
      exact ⟨Dg.ret_str (by rw [hke.out]), hbel.trans hb1⟩

set_option maxHeartbeats 1000000 in
set_option maxRecDepth 100000 in
theorem joined_empty (a : Option Addr) (cap : Nat) (w : World) :
    Calls Tryd.prog 76 #[.slice a 0 cap] w fun e w' => e = .returned (.string (str [])) ∧ Below w.heap.size w w' := by
  go_enter Tryd.func76, Tryd.ntmps76
  go_wp2_with fail
  refine wp_loop_rounds 1 ?_
  rw [rounds_succ]
  have HI := Lib.hid (Lib.fresh_isBuilder 93 5 w)
  go_wp2_with fail
  refine (Tryd.Builder_String_any w.heap.size w.heap.size [] _ HI.out (by simp)).mono ?_
  rintro e w1 ⟨rfl, hb1⟩
  go_wp2_with fail
  go_ret
  exact ⟨rfl, ((Below.refl _ w).alloc (Nat.le_refl _) _).trans hb1⟩

/-- A slice of texts as a value: its elements are those of a list. -/
def IsTexts (w : World) (v : Value) (ss : List ByteArray) : Prop :=
  ∃ (a : Option Addr) (cap : Nat), v = .slice a ss.length cap ∧ (ss ≠ [] → ∃ b off, a = some ⟨b, off, none⟩ ∧ b < w.heap.size ∧ ∀ j, j < ss.length → w.cell? ⟨b, off + j, none⟩ = some (.string (ss.getD j ByteArray.empty)))

theorem IsTexts.below {w w' : World} {v : Value} {ss : List ByteArray} (h : IsTexts w v ss) (hb : Below w.heap.size w w') : IsTexts w' v ss := by
  obtain ⟨a, cap, rfl, h⟩ := h
  refine ⟨a, cap, rfl, fun hne => ?_⟩
  obtain ⟨b, off, rfl, hlt, hc⟩ := h hne
  exact ⟨b, off, rfl, Nat.lt_of_lt_of_le hlt hb.size, fun j hj => (hb.cell (p := ⟨b, off + j, none⟩) hlt).trans (hc j hj)⟩

theorem Dg.jn_all (ss : List ByteArray) : Dg.jn ss ss.length = Dg.join (ss.map (·.data.toList)) := by rw [Dg.jn, Dg.texts, List.take_length]

theorem joined_any (v : Value) (ss : List ByteArray) (w : World) (hv : IsTexts w v ss) (hsum : (Dg.join (ss.map (·.data.toList))).length ≤ 140737488355328) (hl : ss.length ≤ 9223372036854775807) (ht : HasTab w) :
    Calls Tryd.prog 76 #[v] w fun e w' => e = .returned (.string (str (Dg.join (ss.map (·.data.toList))))) ∧ Below w.heap.size w w' := by
  obtain ⟨a, cap, rfl, h⟩ := hv
  by_cases hne : ss = []
  · subst hne; exact joined_empty a cap w
  · obtain ⟨b, off, rfl, hlt, hc⟩ := h hne
    rw [← Dg.jn_all] at hsum ⊢
    exact joined_walk b off ss.length cap ss (Nat.le_refl _) hl hsum w ht hc hlt

set_option maxHeartbeats 1000000 in
set_option maxRecDepth 100000 in
theorem list_walk (v : Value) (ss : List ByteArray) (w : World) (hv : IsTexts w v ss) (hsum : (Dg.join (ss.map (·.data.toList))).length ≤ 140737488355328) (hl : ss.length ≤ 9223372036854775807) (ht : HasTab w) :
    Calls Tryd.prog 52 #[v] w fun e w' => e = .returned (.string (str (Dg.sum (Dg.join (ss.map (·.data.toList)))))) ∧ Below w.heap.size w w' := by
  have hj := Lib.hid (joined_any v ss w hv hsum hl ht)
  clear hv ht
  go_enter Tryd.func52, Tryd.ntmps52
  go_wp2_with fail
  refine hj.out.mono ?_
  rintro e w1 ⟨rfl, hb1⟩
  go_wp2_with fail
  refine (sum_walk _ (by rw [Dg.str_size]; omega) w1).mono ?_
  rintro e w2 ⟨rfl, hb2⟩
  go_wp2_with fail
  go_ret
  exact ⟨rfl, hb1.trans (hb2.mono hb1.size)⟩
end Go.Proofs.YthhfcijgcpnfcaaDoor
/-
  Contracts of digest's functions with an open result; small facts about texts.
-/
namespace Go.Proofs.YthhfcijgcpnfcaaDoor
open Go.RowKit

theorem is_true (s : ByteArray) (hs : s.size ≤ 9223372036854775807) (h : Dg.isDigest s.data.toList = true) (w : World) :
    Calls Tryd.prog 20 #[.string s] w fun e w' => e = .returned (.bool true) ∧ w = w' := by
  have := is_walk s hs w; rw [h] at this; exact this
theorem is_false (s : ByteArray) (hs : s.size ≤ 9223372036854775807) (h : Dg.isDigest s.data.toList = false) (w : World) :
    Calls Tryd.prog 20 #[.string s] w fun e w' => e = .returned (.bool false) ∧ w = w' := by
  have := is_walk s hs w; rw [h] at this; exact this

theorem sum_ex (s : ByteArray) (hs : s.size ≤ 9223372036854775807) (w : World) :
    Calls Tryd.prog 63 #[.string s] w fun e w' => ∃ r : ByteArray, e = .returned (.string r) ∧ Hid (r.data.toList = Dg.sum s.data.toList) ∧ r.size ≤ 9223372036854775807 ∧ Below w.heap.size w w' :=
  (sum_walk s hs w).mono fun _ _ ⟨h, hb⟩ => ⟨_, h, rfl, by rw [Dg.str_size, Dg.sum_length]; omega, hb⟩

theorem list_ex (v : Value) (ss : List ByteArray) (w : World) (hv : IsTexts w v ss) (hsum : (Dg.join (ss.map (·.data.toList))).length ≤ 140737488355328) (hl : ss.length ≤ 9223372036854775807) (ht : HasTab w) :
    Calls Tryd.prog 52 #[v] w fun e w' => ∃ r : ByteArray, e = .returned (.string r) ∧ Hid (r.data.toList = Dg.sum (Dg.join (ss.map (·.data.toList)))) ∧ r.size ≤ 9223372036854775807 ∧ Below w.heap.size w w' :=
  (list_walk v ss w hv hsum hl ht).mono fun _ _ ⟨h, hb⟩ => ⟨_, h, rfl, by rw [Dg.str_size, Dg.sum_length]; omega, hb⟩

namespace Dg
theorem cut_data (s : ByteArray) (n : Nat) : (s.extract 0 n).data.toList = s.data.toList.take n := by
  rw [Lib.extract_data, List.drop_zero, Nat.sub_zero]
theorem cut_le (s : ByteArray) (n : Nat) : (s.extract 0 n).size ≤ n := by
  rw [Lib.size_eq, cut_data, List.length_take]; exact Nat.min_le_left _ _
theorem cut_size {s : ByteArray} (hs : s.size ≤ 9223372036854775807) (n : Nat) : (s.extract 0 n).size ≤ 9223372036854775807 := by
  rw [Lib.size_eq, cut_data, List.length_take, len_data]; exact Nat.le_trans (Nat.min_le_right _ _) hs
end Dg
theorem eq_true {r s : ByteArray} {a b : List UInt8} (hr : Hid (r.data.toList = a)) (hs : Hid (s.data.toList = b)) (h : a = b) : (r.toList == s.toList) = true := by
  rw [Lib.toList_data, Lib.toList_data, hr.out, hs.out, h]; simp
theorem eq_false {r s : ByteArray} {a b : List UInt8} (hr : Hid (r.data.toList = a)) (hs : Hid (s.data.toList = b)) (h : a ≠ b) : (r.toList == s.toList) = false := by
  rw [Lib.toList_data, Lib.toList_data, hr.out, hs.out]; simpa using h

theorem same_iff {r1 r2 x y : ByteArray} {a b : List UInt8} (h1 : Hid (r1.data.toList = a)) (h2 : Hid (r2.data.toList = b)) (h : a = b ↔ x.data.toList = y.data.toList) :
    ((r1.toList == r2.toList) == (x.toList == y.toList)) = true := by
  rw [Lib.toList_data, Lib.toList_data, Lib.toList_data, Lib.toList_data, h1.out, h2.out, beq_iff_eq, Bool.eq_iff_iff, beq_iff_eq, beq_iff_eq]
  exact h

theorem texts_two (w : World) (x y : ByteArray) : IsTexts (w.alloc (.cells #[.string x, .string y] 9)) (.slice (some ⟨w.heap.size, 0, none⟩) 2 2) [x, y] := by
  refine ⟨_, _, rfl, fun _ => ⟨_, _, rfl, by simp, fun j hj => ?_⟩⟩
  match j, hj with
  | 0, _ => exact World.cell?_alloc_at _ _ _ _ rfl
  | 1, _ => exact World.cell?_alloc_at _ _ _ _ rfl

end Go.Proofs.YthhfcijgcpnfcaaDoor
