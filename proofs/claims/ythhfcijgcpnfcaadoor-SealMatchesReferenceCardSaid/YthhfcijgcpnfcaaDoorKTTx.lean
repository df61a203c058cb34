import Derived.Test.YthhfcijgcpnfcaaDoorKDEx
import Derived.Test.YthhfcijgcpnfcaaDoorKDFew
import Derived.Test.YthhfcijgcpnfcaaDoorKTBind
import Derived.WalkKit
import Derived.WalkSpells
import Derived.WalkLawsBesides
import Derived.Lib.Hide
/-
  Slices of texts with room: what the walks of package tree hand to each other.
-/
namespace Go.Proofs.YthhfcijgcpnfcaaDoor
open Go.RowKit

/-- The texts of a list as lists of bytes. -/
abbrev Tr.bs (ss : List ByteArray) : List Tr.T := ss.map (·.data.toList)
theorem Tr.bs_take (ss : List ByteArray) (k : Nat) : Tr.bs (ss.take k) = (Tr.bs ss).take k := List.map_take
theorem Tr.bs_drop (ss : List ByteArray) (k : Nat) : Tr.bs (ss.drop k) = (Tr.bs ss).drop k := List.map_drop
theorem Tr.bs_len (ss : List ByteArray) : (Tr.bs ss).length = ss.length := List.length_map ..

theorem Tr.wrap_in (x : Int) (h0 : 0 ≤ x) (h1 : x ≤ 9223372036854775807) : IntKind.i64.wrap x = x := by rw [IntKind.wrap_i64]; omega

/-- A slice of texts as a value, its capacity not below its length. -/
def IsTx (w : World) (v : Value) (ss : List ByteArray) : Prop :=
  ∃ (a : Option Addr) (cap : Nat), v = .slice a ss.length cap ∧ ss.length ≤ cap ∧ cap ≤ 9223372036854775807 ∧
    (ss ≠ [] → ∃ b off, a = some ⟨b, off, none⟩ ∧ b < w.heap.size ∧ ∀ j, j < ss.length → w.cell? ⟨b, off + j, none⟩ = some (.string (ss.getD j ByteArray.empty)))

theorem IsTx.texts {w : World} {v : Value} {ss : List ByteArray} (h : IsTx w v ss) : IsTexts w v ss := by
  obtain ⟨a, cap, rfl, _, _, h⟩ := h
  exact ⟨a, cap, rfl, h⟩
theorem IsTx.len {w : World} {v : Value} {ss : List ByteArray} (h : IsTx w v ss) : ss.length ≤ 9223372036854775807 := by
  obtain ⟨a, cap, rfl, h1, h2, _⟩ := h
  omega
theorem IsTx.below {w w' : World} {v : Value} {ss : List ByteArray} (h : IsTx w v ss) (hb : Below w.heap.size w w') : IsTx w' v ss := by
  obtain ⟨a, cap, rfl, h1, h2, h⟩ := h
  refine ⟨a, cap, rfl, h1, h2, fun hne => ?_⟩
  obtain ⟨b, off, rfl, hlt, hc⟩ := h hne
  exact ⟨b, off, rfl, Nat.lt_of_lt_of_le hlt hb.size, fun j hj => (hb.cell (p := ⟨b, off + j, none⟩) hlt).trans (hc j hj)⟩
theorem IsTx.nil (w : World) : IsTx w (.slice none 0 0) [] := ⟨none, 0, rfl, Nat.le_refl _, by omega, fun h => absurd rfl h⟩

/-- The first k texts. -/
theorem IsTx.take {w : World} {b off cap : Nat} {ss : List ByteArray} (h1 : ss.length ≤ cap) (h2 : cap ≤ 9223372036854775807) (hb : b < w.heap.size)
    (hc : ∀ j, j < ss.length → w.cell? ⟨b, off + j, none⟩ = some (.string (ss.getD j ByteArray.empty))) (k : Nat) (hk : k ≤ ss.length) :
    IsTx w (.slice (some ⟨b, off, none⟩) k cap) (ss.take k) := by
  have hl : (ss.take k).length = k := by rw [List.length_take]; omega
  refine ⟨_, cap, by rw [hl], by omega, h2, fun _ => ⟨b, off, rfl, hb, fun j hj => ?_⟩⟩
  rw [hl] at hj
  rw [hc j (by omega), List.getD_eq_getElem?_getD, List.getD_eq_getElem?_getD, List.getElem?_take_of_lt hj]
/-- The texts from k on. -/
theorem IsTx.drop {w : World} {b off cap : Nat} {ss : List ByteArray} (h1 : ss.length ≤ cap) (h2 : cap ≤ 9223372036854775807) (hb : b < w.heap.size)
    (hc : ∀ j, j < ss.length → w.cell? ⟨b, off + j, none⟩ = some (.string (ss.getD j ByteArray.empty))) (k n c : Nat) (hn : n + k = ss.length) (hcc : c + k = cap) :
    IsTx w (.slice (some ⟨b, off + k, none⟩) n c) (ss.drop k) := by
  have hl : (ss.drop k).length = n := by rw [List.length_drop]; omega
  refine ⟨_, c, by rw [hl], by omega, by omega, fun _ => ⟨b, off + k, rfl, hb, fun j hj => ?_⟩⟩
  rw [hl] at hj
  rw [Nat.add_assoc, hc (k + j) (by omega), List.getD_eq_getElem?_getD, List.getD_eq_getElem?_getD, List.getElem?_drop]

theorem tx_one (w : World) (x : ByteArray) : IsTx (w.alloc (.cells #[.string x] 9)) (.slice (some ⟨w.heap.size, 0, none⟩) 1 1) [x] := by
  refine ⟨_, _, rfl, by simp, by omega, fun _ => ⟨_, _, rfl, by simp, fun j hj => ?_⟩⟩
  match j, hj with
  | 0, _ => exact World.cell?_alloc_at _ _ _ _ rfl
theorem tx_two (w : World) (x y : ByteArray) : IsTx (w.alloc (.cells #[.string x, .string y] 9)) (.slice (some ⟨w.heap.size, 0, none⟩) 2 2) [x, y] := by
  refine ⟨_, _, rfl, by simp, by omega, fun _ => ⟨_, _, rfl, by simp, fun j hj => ?_⟩⟩
  match j, hj with
  | 0, _ => exact World.cell?_alloc_at _ _ _ _ rfl
  | 1, _ => exact World.cell?_alloc_at _ _ _ _ rfl
theorem tx_three (w : World) (x y z : ByteArray) : IsTx (w.alloc (.cells #[.string x, .string y, .string z] 9)) (.slice (some ⟨w.heap.size, 0, none⟩) 3 3) [x, y, z] := by
  refine ⟨_, _, rfl, by simp, by omega, fun _ => ⟨_, _, rfl, by simp, fun j hj => ?_⟩⟩
  match j, hj with
  | 0, _ => exact World.cell?_alloc_at _ _ _ _ rfl
  | 1, _ => exact World.cell?_alloc_at _ _ _ _ rfl
  | 2, _ => exact World.cell?_alloc_at _ _ _ _ rfl

theorem cell_new2 (w : World) (o : Obj) (x : Value) (t : TypeId) : ((w.alloc o).alloc (.cells #[x] t)).cell? ⟨w.heap.size + 1, 0, none⟩ = some x := by
  have : ((w.alloc o).alloc (.cells #[x] t)).cell? ⟨(w.alloc o).heap.size, 0, none⟩ = some x := World.cell?_alloc_at _ _ _ _ rfl
  have e : (w.alloc o).heap.size = w.heap.size + 1 := by simp
  rw [e] at this; exact this

/-- What the functions that return a digest answer: a text that is that digest, over a world of which nothing old has turned. -/
def Digs (d : List UInt8) (w : World) (e : Ending) (w' : World) : Prop :=
  ∃ r : ByteArray, e = .returned (.string r) ∧ Hid (r.data.toList = d) ∧ r.size ≤ 16 ∧ Below w.heap.size w w'

theorem Tr.li_size {r : ByteArray} {l : List Tr.T} (h : Hid (r.data.toList = Tr.li l)) : r.size ≤ 16 := by
  have e := h.out
  rw [Lib.size_eq, e, Tr.li, Dg.sum_length]; exact Nat.le_refl _

theorem Tr.few_of {l : List ByteArray} (h : ∀ s ∈ l, s.size ≤ 200) (hl : l.length ≤ 30) : Dg.few l 200 = true := by
  unfold Dg.few
  rw [Bool.and_eq_true, List.all_eq_true, decide_eq_true_eq]
  exact ⟨fun s hs => by simpa using h s hs, hl⟩

theorem Tr.all_one {x : ByteArray} {n : Nat} (h : x.size ≤ n) : ∀ s ∈ [x], s.size ≤ n := by
  intro s hs; rw [List.mem_singleton] at hs; rw [hs]; exact h
theorem Tr.all_two {x y : ByteArray} {n : Nat} (h : x.size ≤ n) (h2 : y.size ≤ n) : ∀ s ∈ [x, y], s.size ≤ n := by
  intro s hs
  rcases List.mem_cons.1 hs with rfl | hs
  · exact h
  · exact Tr.all_one h2 s hs
theorem Tr.all_three {x y z : ByteArray} {n : Nat} (h : x.size ≤ n) (h2 : y.size ≤ n) (h3 : z.size ≤ n) : ∀ s ∈ [x, y, z], s.size ≤ n := by
  intro s hs
  rcases List.mem_cons.1 hs with rfl | hs
  · exact h
  · exact Tr.all_two h2 h3 s hs

/-- A short list's digest. -/
theorem list_digs (v : Value) (ss : List ByteArray) (w : World) (hv : IsTexts w v ss) (hs : ∀ s ∈ ss, s.size ≤ 200) (hl : ss.length ≤ 30) (ht : HasTab w) :
    Calls Tryd.prog 52 #[v] w (Digs (Tr.li (Tr.bs ss)) w) :=
  (list_ex v ss w hv (by have := Dg.few_join ss (Tr.few_of hs hl); omega) (by omega) ht).mono fun _ _ ⟨r, h, hr, _, hb⟩ => ⟨r, h, hr, Tr.li_size hr, hb⟩

set_option maxHeartbeats 1000000 in
set_option maxRecDepth 100000 in
theorem leafroot_walk (s : ByteArray) (hs : s.size ≤ 200) (w : World) (ht : HasTab w) :
    Calls Tryd.prog 53 #[.string s] w (Digs (Tr.leaf s.data.toList) w) := by
  have HT := Lib.hid ht
  have HS := Lib.hid hs
  clear ht hs
  go_enter Tryd.func53, Tryd.ntmps53
  go_wp2_with fail
  have hb0 := (Below.refl w.heap.size w).alloc (Nat.le_refl _) (.cells #[.string ⟨#[108, 101, 97, 102]⟩, .string s] 9)
  refine (list_digs _ [⟨#[108, 101, 97, 102]⟩, s] _ (tx_two w _ _).texts (Tr.all_two (by decide) HS.out) (by simp) (HT.out.below hb0)).mono ?_
  rintro e w1 ⟨r, rfl, hr, hz, hb1⟩
  go_wp2_with fail
  go_ret
  exact ⟨r, rfl, hr, hz, hb0.trans (hb1.mono hb0.size)⟩

set_option maxHeartbeats 1000000 in
set_option maxRecDepth 100000 in
theorem noderoot_walk (a b : ByteArray) (ha : a.size ≤ 200) (hb : b.size ≤ 200) (w : World) (ht : HasTab w) :
    Calls Tryd.prog 55 #[.string a, .string b] w (Digs (Tr.node a.data.toList b.data.toList) w) := by
  have HT := Lib.hid ht
  have HA := Lib.hid ha
  have HB := Lib.hid hb
  clear ht ha hb
  go_enter Tryd.func55, Tryd.ntmps55
  go_wp2_with fail
  have hb0 := (Below.refl w.heap.size w).alloc (Nat.le_refl _) (.cells #[.string ⟨#[110, 111, 100, 101]⟩, .string a, .string b] 9)
  refine (list_digs _ [⟨#[110, 111, 100, 101]⟩, a, b] _ (tx_three w _ _ _).texts (Tr.all_three (by decide) HA.out HB.out) (by simp) (HT.out.below hb0)).mono ?_
  rintro e w1 ⟨r, rfl, hr, hz, hb1⟩
  go_wp2_with fail
  go_ret
  exact ⟨r, rfl, hr, hz, hb0.trans (hb1.mono hb0.size)⟩
end Go.Proofs.YthhfcijgcpnfcaaDoor
