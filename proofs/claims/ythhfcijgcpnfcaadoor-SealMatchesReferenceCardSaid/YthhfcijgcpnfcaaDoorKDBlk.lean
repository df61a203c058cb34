import Derived.Test.YthhfcijgcpnfcaaDoorProg
import Derived.Test.YthhfcijgcpnfcaaDoorKDHex
import Derived.WalkKit
import Derived.WalkSpells
import Derived.WalkLawsBesides
import Derived.OneCell
import Derived.Laws.CopyOwn
import Derived.Lib.Hide
/-
  The walks of digest.blocks and of the function that it returns: each call takes up to eight bytes from the rest.
-/
namespace Go.Proofs.YthhfcijgcpnfcaaDoor
open Go.RowKit

namespace Dg
/-- Eight bytes from a text's beginning, zeros behind its end, as cells. -/
def bytes8 (s : ByteArray) : Array Value := ((List.range 8).map fun i => Value.int .u8 ((s.data.toList.getD i 0).toNat : Nat)).toArray
def zeros8 : Array Value := #[.int .u8 0, .int .u8 0, .int .u8 0, .int .u8 0, .int .u8 0, .int .u8 0, .int .u8 0, .int .u8 0]

theorem bytes8_eq (s : ByteArray) (n : Nat) (hn : n = Nat.min s.size 8) :
    (List.take n (s.data.toList.map fun b => Value.int .u8 (b.toNat : Int)) ++ zeros8.toList.drop n).toArray = bytes8 s := by
  have hs : s.data.toList.length = s.size := by cases s; rfl
  have h8 : n ≤ 8 := by rw [hn]; exact Nat.min_le_right _ _
  have hle : n ≤ s.size := by rw [hn]; exact Nat.min_le_left _ _
  have hl : (List.take n (s.data.toList.map fun b => Value.int .u8 (b.toNat : Int))).length = n := by simp [hs]; omega
  apply Array.ext_getElem?
  intro j
  rw [List.getElem?_toArray, bytes8, List.getElem?_toArray, List.getElem?_map]
  by_cases hj : j < 8
  · rw [List.getElem?_range hj]
    by_cases hjn : j < n
    · rw [List.getElem?_append_left (by omega), List.getElem?_take_of_lt hjn, List.getElem?_map]
      have hj' : j < s.data.toList.length := by omega
      have hd : s.data.toList.getD j 0 = s.data.toList[j] := by rw [List.getD_eq_getElem?_getD, List.getElem?_eq_getElem hj']; rfl
      rw [List.getElem?_eq_getElem hj', Option.map_some, Option.map_some, hd]
    · rw [List.getElem?_append_right (by omega), hl, List.getElem?_drop]
      have hz : zeros8.toList[n + (j - n)]? = some (.int .u8 0) := by
        rw [show n + (j - n) = j by omega]
        match j, hj with
        | 0, _ => rfl
        | 1, _ => rfl
        | 2, _ => rfl
        | 3, _ => rfl
        | 4, _ => rfl
        | 5, _ => rfl
        | 6, _ => rfl
        | 7, _ => rfl
      have hd : s.data.toList.getD j 0 = 0 := by
        rw [List.getD_eq_getElem?_getD, List.getElem?_eq_none (by have : n = 8 ∨ n = s.size := by rw [hn]; rcases Nat.le_total s.size 8 with h | h <;> simp [Nat.min_eq_left, Nat.min_eq_right, h]
                                                                  omega)]
        rfl
      rw [hz, Option.map_some, hd]
      rfl
  · rw [List.getElem?_eq_none (by simp [zeros8]; omega), List.getElem?_eq_none (by simp; omega)]
    rfl
end Dg

theorem Dg.bytes8_size (s : ByteArray) : (Dg.bytes8 s).size = 8 := by simp [Dg.bytes8]
theorem Dg.bytes8_one (s : ByteArray) : (Dg.bytes8 s).all (·.oneCell') = true := by
  unfold Dg.bytes8
  rw [List.all_toArray, List.all_eq_true]
  intro v hv
  obtain ⟨i, _, rfl⟩ := List.mem_map.1 hv
  rfl
theorem info_arr (s : ByteArray) : (Tryd.prog.info? 89).map (·.size) = some (Dg.bytes8 s).size := by rw [Dg.bytes8_size]; kernel_rfl
theorem one_u8 : (Tryd.prog.info? 5).map (fun i => (i.zero, i.size, i.bytes)) = some (some (.int .u8 0), 1, 1) := by kernel_rfl

theorem setRow_alloc (w : World) (c c' : Array Value) (t : TypeId) (g : Nat) (hg : g = w.heap.size) : (w.alloc (.cells c t)).setRow g c' = w.alloc (.cells c' t) := by
  subst hg
  unfold World.setRow World.alloc
  congr 1
  apply Array.ext_getElem?
  intro j
  rw [Array.getElem?_modify]
  simp only [Array.getElem?_push]
  by_cases h : j = w.heap.size
  · rw [if_pos h.symm, if_pos h, if_pos h]; rfl
  · rw [if_neg (fun e => h e.symm), if_neg h, if_neg h]

theorem copyRun (w : World) (g : Nat) (hg : g = w.heap.size) (s : ByteArray) (n : Nat) (hn : n = Nat.min s.size 8) :
    (Builtin.copy_ #[83, 9] 3 #[.slice (some ⟨g, 0, none⟩) 8 8, .string s]).run Tryd.prog (w.alloc (.cells Dg.zeros8 89)) = .ok (.int .i64 n) (w.alloc (.cells (Dg.bytes8 s) 89)) := by
  obtain ⟨i0, hi, hz0, hz1, hz2⟩ := info_parts one_u8
  have hgg : (w.alloc (.cells Dg.zeros8 89)).heap[g]? = some (.cells Dg.zeros8 89 (0, 0)) := by subst hg; exact heap_alloc_new _ _
  have h8 : n ≤ 8 := by rw [hn]; exact Nat.min_le_right _ _
  have hle : n ≤ s.size := by rw [hn]; exact Nat.min_le_left _ _
  have hs : s.data.toList.length = s.size := by cases s; rfl
  have hl : (List.take n (s.data.toList.map fun b => Value.int .u8 (b.toNat : Int))).length = n := by simp [hs]; omega
  have hst := run_storeCells_at Tryd.prog g 0 89 (List.take n (s.data.toList.map fun b => Value.int .u8 (b.toNat : Int))) 0 Dg.zeros8 _ hgg (by rw [hl]; simpa [Dg.zeros8] using h8) (by
    intro v hv
    obtain ⟨b, _, rfl⟩ := List.mem_map.1 (List.mem_of_mem_take hv)
    rfl)
  rw [hl] at hst
  simp only [Nat.add_zero, Nat.zero_add, List.take_zero, List.nil_append] at hst
  rw [Dg.bytes8_eq s n hn, setRow_alloc w _ _ _ g hg] at hst
  simp [Builtin.copy_, run_underlying Tryd.underlying83, Builtin.lenOf, Builtin.firstCells, sizeOf, typeInfo, hi, ← hn, hst, Result.andThen]
  rfl

set_option maxHeartbeats 1000000 in
set_option maxRecDepth 100000 in
theorem next_walk (b : Nat) (s : ByteArray) (_hs : s.size ≤ 9223372036854775807) (w : World) (hb : w.heap[b]? = some (.cells #[.string s] 9 (0, 0))) :
    Calls Tryd.prog 86 #[.pointer (some ⟨b, 0, none⟩)] w fun e w' => e = .returned (.agg (Dg.bytes8 s)) ∧ w'.heap[b]? = some (.cells #[.string (s.extract (Nat.min s.size 8) s.size)] 9 (0, 0)) ∧ Below b w w' := by
  obtain ⟨n, hn⟩ : ∃ n, n = Nat.min s.size 8 := ⟨_, rfl⟩
  rw [← hn]
  have h8 : n ≤ 8 := by rw [hn]; exact Nat.min_le_right _ _
  have hle : n ≤ s.size := by rw [hn]; exact Nat.min_le_left _ _
  have hc := cell_of_one hb
  have hf := free_of_one hb
  have hlt := lt_of_block hb
  have c0 : (Builtin.copy_ #[83, 9] 3 #[.slice (some ⟨w.heap.size + 1, 0, none⟩) 8 8, .string s]).run Tryd.prog ((w.alloc (.cells #[.int .u8 0, .int .u8 0, .int .u8 0, .int .u8 0, .int .u8 0, .int .u8 0, .int .u8 0, .int .u8 0] 89)).alloc (.cells #[.int .u8 0, .int .u8 0, .int .u8 0, .int .u8 0, .int .u8 0, .int .u8 0, .int .u8 0, .int .u8 0] 89)) = .ok (.int .i64 n) ((w.alloc (.cells #[.int .u8 0, .int .u8 0, .int .u8 0, .int .u8 0, .int .u8 0, .int .u8 0, .int .u8 0, .int .u8 0] 89)).alloc (.cells (Dg.bytes8 s) 89)) := copyRun (w.alloc (.cells #[.int .u8 0, .int .u8 0, .int .u8 0, .int .u8 0, .int .u8 0, .int .u8 0, .int .u8 0, .int .u8 0] 89)) (w.heap.size + 1) (by simp) s n hn
  have c1 : (Builtin.copy_ #[83, 9] 3 #[.slice (some ⟨w.heap.size + 1, 0, none⟩) 8 8, .string s]).run Tryd.prog ((w.alloc (.cells #[.int .u8 0, .int .u8 0, .int .u8 0, .int .u8 0, .int .u8 0, .int .u8 0, .int .u8 0, .int .u8 0] 89)).alloc (.cells #[.int .u8 0, .int .u8 0, .int .u8 0, .int .u8 0, .int .u8 0, .int .u8 0, .int .u8 0, .int .u8 0] 89)).drew = .ok (.int .i64 n) ((w.alloc (.cells #[.int .u8 0, .int .u8 0, .int .u8 0, .int .u8 0, .int .u8 0, .int .u8 0, .int .u8 0, .int .u8 0] 89)).alloc (.cells (Dg.bytes8 s) 89)).drew := copyRun (w.drew.alloc (.cells #[.int .u8 0, .int .u8 0, .int .u8 0, .int .u8 0, .int .u8 0, .int .u8 0, .int .u8 0, .int .u8 0] 89)) (w.heap.size + 1) (by simp) s n hn
  have c2 : (Builtin.copy_ #[83, 9] 3 #[.slice (some ⟨w.heap.size + 1, 0, none⟩) 8 8, .string s]).run Tryd.prog ((w.alloc (.cells #[.int .u8 0, .int .u8 0, .int .u8 0, .int .u8 0, .int .u8 0, .int .u8 0, .int .u8 0, .int .u8 0] 89)).alloc (.cells #[.int .u8 0, .int .u8 0, .int .u8 0, .int .u8 0, .int .u8 0, .int .u8 0, .int .u8 0, .int .u8 0] 89)).drew.drew = .ok (.int .i64 n) ((w.alloc (.cells #[.int .u8 0, .int .u8 0, .int .u8 0, .int .u8 0, .int .u8 0, .int .u8 0, .int .u8 0, .int .u8 0] 89)).alloc (.cells (Dg.bytes8 s) 89)).drew.drew := copyRun (w.drew.drew.alloc (.cells #[.int .u8 0, .int .u8 0, .int .u8 0, .int .u8 0, .int .u8 0, .int .u8 0, .int .u8 0, .int .u8 0] 89)) (w.heap.size + 1) (by simp) s n hn
  have c3 : (Builtin.copy_ #[83, 9] 3 #[.slice (some ⟨w.heap.size + 1, 0, none⟩) 8 8, .string s]).run Tryd.prog ((w.alloc (.cells #[.int .u8 0, .int .u8 0, .int .u8 0, .int .u8 0, .int .u8 0, .int .u8 0, .int .u8 0, .int .u8 0] 89)).alloc (.cells #[.int .u8 0, .int .u8 0, .int .u8 0, .int .u8 0, .int .u8 0, .int .u8 0, .int .u8 0, .int .u8 0] 89)).drew.drew.drew = .ok (.int .i64 n) ((w.alloc (.cells #[.int .u8 0, .int .u8 0, .int .u8 0, .int .u8 0, .int .u8 0, .int .u8 0, .int .u8 0, .int .u8 0] 89)).alloc (.cells (Dg.bytes8 s) 89)).drew.drew.drew := copyRun (w.drew.drew.drew.alloc (.cells #[.int .u8 0, .int .u8 0, .int .u8 0, .int .u8 0, .int .u8 0, .int .u8 0, .int .u8 0, .int .u8 0] 89)) (w.heap.size + 1) (by simp) s n hn
  have c4 : (Builtin.copy_ #[83, 9] 3 #[.slice (some ⟨w.heap.size + 1, 0, none⟩) 8 8, .string s]).run Tryd.prog ((w.alloc (.cells #[.int .u8 0, .int .u8 0, .int .u8 0, .int .u8 0, .int .u8 0, .int .u8 0, .int .u8 0, .int .u8 0] 89)).alloc (.cells #[.int .u8 0, .int .u8 0, .int .u8 0, .int .u8 0, .int .u8 0, .int .u8 0, .int .u8 0, .int .u8 0] 89)).drew.drew.drew.drew = .ok (.int .i64 n) ((w.alloc (.cells #[.int .u8 0, .int .u8 0, .int .u8 0, .int .u8 0, .int .u8 0, .int .u8 0, .int .u8 0, .int .u8 0] 89)).alloc (.cells (Dg.bytes8 s) 89)).drew.drew.drew.drew := copyRun (w.drew.drew.drew.drew.alloc (.cells #[.int .u8 0, .int .u8 0, .int .u8 0, .int .u8 0, .int .u8 0, .int .u8 0, .int .u8 0, .int .u8 0] 89)) (w.heap.size + 1) (by simp) s n hn
  have c5 : (Builtin.copy_ #[83, 9] 3 #[.slice (some ⟨w.heap.size + 1, 0, none⟩) 8 8, .string s]).run Tryd.prog ((w.alloc (.cells #[.int .u8 0, .int .u8 0, .int .u8 0, .int .u8 0, .int .u8 0, .int .u8 0, .int .u8 0, .int .u8 0] 89)).alloc (.cells #[.int .u8 0, .int .u8 0, .int .u8 0, .int .u8 0, .int .u8 0, .int .u8 0, .int .u8 0, .int .u8 0] 89)).drew.drew.drew.drew.drew = .ok (.int .i64 n) ((w.alloc (.cells #[.int .u8 0, .int .u8 0, .int .u8 0, .int .u8 0, .int .u8 0, .int .u8 0, .int .u8 0, .int .u8 0] 89)).alloc (.cells (Dg.bytes8 s) 89)).drew.drew.drew.drew.drew := copyRun (w.drew.drew.drew.drew.drew.alloc (.cells #[.int .u8 0, .int .u8 0, .int .u8 0, .int .u8 0, .int .u8 0, .int .u8 0, .int .u8 0, .int .u8 0] 89)) (w.heap.size + 1) (by simp) s n hn
  have c6 : (Builtin.copy_ #[83, 9] 3 #[.slice (some ⟨w.heap.size + 1, 0, none⟩) 8 8, .string s]).run Tryd.prog ((w.alloc (.cells #[.int .u8 0, .int .u8 0, .int .u8 0, .int .u8 0, .int .u8 0, .int .u8 0, .int .u8 0, .int .u8 0] 89)).alloc (.cells #[.int .u8 0, .int .u8 0, .int .u8 0, .int .u8 0, .int .u8 0, .int .u8 0, .int .u8 0, .int .u8 0] 89)).drew.drew.drew.drew.drew.drew = .ok (.int .i64 n) ((w.alloc (.cells #[.int .u8 0, .int .u8 0, .int .u8 0, .int .u8 0, .int .u8 0, .int .u8 0, .int .u8 0, .int .u8 0] 89)).alloc (.cells (Dg.bytes8 s) 89)).drew.drew.drew.drew.drew.drew := copyRun (w.drew.drew.drew.drew.drew.drew.alloc (.cells #[.int .u8 0, .int .u8 0, .int .u8 0, .int .u8 0, .int .u8 0, .int .u8 0, .int .u8 0, .int .u8 0] 89)) (w.heap.size + 1) (by simp) s n hn
  have HN := Lib.hid hn
  have HB := Lib.hid hb
  clear hn hb
  go_enter Tryd.func86, Tryd.ntmps86
  go_wp2
  go_region
  all_goals clear c0 c1 c2 c3 c4 c5 c6
  all_goals
    have hsz : (w.setCell ⟨b, 0, none⟩ (.string (s.extract n s.size))).heap.size = w.heap.size := by simp [World.setCell]
    have HG := Lib.hid (heap_alloc2_new (w.setCell ⟨b, 0, none⟩ (.string (s.extract n s.size))) (.cells #[.int .u8 0, .int .u8 0, .int .u8 0, .int .u8 0, .int .u8 0, .int .u8 0, .int .u8 0, .int .u8 0] 89) (.cells (Dg.bytes8 s) 89))
    have HO := Lib.hid (heap_alloc2_old (w.setCell ⟨b, 0, none⟩ (.string (s.extract n s.size))) (.cells #[.int .u8 0, .int .u8 0, .int .u8 0, .int .u8 0, .int .u8 0, .int .u8 0, .int .u8 0, .int .u8 0] 89) (.cells (Dg.bytes8 s) 89))
    rw [hsz] at HG HO
    clear hsz
    go_wp2_with (first
      | (refine wpList_load_row rfl 89 _ rfl (w.heap.size + 1) rfl 89 (Dg.bytes8 s) (0, 0) _ HG.out Tryd.underlying89 rfl (info_arr s) ?_)
      | (refine wpList_store_row rfl 89 _ _ rfl w.heap.size (Dg.bytes8 s) rfl rfl 89 Dg.zeros8 HO.out (info_arr s) (by rw [Dg.bytes8_size]; rfl) (Dg.bytes8_one s) ?_))
  all_goals
    refine bodyPost_ret (v := .agg (Dg.bytes8 s)) (results_cell_row Tryd.results86 _ _ w.heap.size 89 (Dg.bytes8 s) (0, 0) _ rfl (setRow_heap _ _ _ _ _ _ HO.out) Tryd.underlying89 rfl (info_arr s)) rfl ⟨rfl, ?_, ?_⟩
    · refine (setRow_other _ _ _ _ (by omega)).trans ?_
      refine (Below.heap_alloc (World.alloc (w.setCell ⟨b, 0, none⟩ (.string (s.extract n s.size))) _) _ b (by simp [World.setCell]; omega)).trans ?_
      refine (Below.heap_alloc _ _ b (by simp [World.setCell]; omega)).trans ?_
      exact one_setCell HB.out
    · refine below_setRow (Below.drew ?_) (by omega) _
      exact (((Below.refl b w).setCell (Nat.le_refl _) _).alloc (by simp [World.setCell]; omega) _).alloc (by simp [World.setCell]; omega) _
end Go.Proofs.YthhfcijgcpnfcaaDoor
