/-
  The walk of the program's classTable.
-/
import Derived.Test.YtidmonmkpkbhjaaETok3
import Derived.Laws.Tables
import Derived.Laws.Rows
import Derived.Laws.CopyOwn
namespace Go.Proofs.Ytidmonmkpkbhjaa
open Go.RowKit

/-- The zero value of the table, its cells a letter. -/
theorem zero_table : ∃ Z : Array Value, Z.size = 256 ∧ (∀ n, n < 256 → Z[n]? = some (.int .u8 0)) ∧ ∀ w, (zeroValue 48).run Try.prog w = .ok (.agg Z) w := by
  have h : (Try.prog.info? 48).map (·.zero) = some (some (.agg (Array.replicate 256 (.int .u8 0)))) := by kernel_rfl
  refine ⟨Array.replicate 256 (.int .u8 0), by simp, fun n hn => by simp [hn], fun w => ?_⟩
  cases hi : Try.prog.info? 48 with
  | none => rw [hi] at h; cases h
  | some i =>
    rw [hi] at h
    have hz : i.zero = some (.agg (Array.replicate 256 (.int .u8 0))) := Option.some.inj h
    simp only [zeroValue, Sem.run_bind]
    rw [show (typeInfo 48).run Try.prog w = .ok i w by simp [typeInfo, hi]]
    simp only [Result.andThen, hz]
    simp
theorem table_info : (Try.prog.info? 48).map (·.size) = some 256 := by kernel_rfl

/-- What a table of classes is. -/
def Lx.IsTab (cs : Array Value) : Prop := cs.size = 256 ∧ cs.all (·.oneCell') = true ∧ ∀ n, n < 256 → cs[n]? = some (.int .u8 (Lx.cls n : Nat))
/-- One class more. -/
theorem Lx.tab_push {cs : Array Value} {k : Nat} (hcs : cs.size = 256) (hone : cs.all (·.oneCell') = true) (hk : k < 256) (hc : ∀ n, n < k → cs[n]? = some (.int .u8 (Lx.cls n : Nat))) :
    (cs.setIfInBounds k (.int .u8 (Lx.cls k : Nat))).size = 256 ∧ (cs.setIfInBounds k (.int .u8 (Lx.cls k : Nat))).all (·.oneCell') = true ∧
    ∀ n, n < k + 1 → (cs.setIfInBounds k (.int .u8 (Lx.cls k : Nat)))[n]? = some (.int .u8 (Lx.cls n : Nat)) := by
  refine ⟨by simp [hcs], ?_, fun n hn => ?_⟩
  · rw [Array.all_eq_true] at hone ⊢
    intro j hj
    rw [Array.getElem_setIfInBounds]
    split
    · rfl
    · exact hone j (by simpa using hj)
  · by_cases h : n = k
    · subst h
      rw [Array.getElem?_setIfInBounds_self_of_lt (by omega)]
    · rw [Array.getElem?_setIfInBounds_ne (by omega)]
      exact hc n (by omega)

set_option maxHeartbeats 4000000 in
set_option maxRecDepth 100000 in
theorem table_walk (w : World) :
    Calls Try.prog 26 #[] w fun e w' => ∃ cs : Array Value, Lx.IsTab cs ∧ e = .returned (.agg cs) ∧ Below w.heap.size w w' := by
  obtain ⟨Z, hZ1, hZ2, hZ3⟩ := zero_table
  have HZ := Lib.hid hZ2
  have hZ4 : ¬ Z = #[] := by intro h; rw [h] at hZ1; cases hZ1
  clear hZ2
  go_enter Try.func26, Try.ntmps26
  go_wp2_with fail
  have hb0 : Below w.heap.size w ((w.alloc (.cells Z 48)).alloc (.cells Z 48)) := ((Below.refl _ _).alloc (Nat.le_refl _) _).alloc (by simp) _
  have k0 : ((w.alloc (.cells Z 48)).alloc (.cells Z 48)).heap[w.heap.size]? = some (.cells Z 48 (0, 0)) := by
    rw [Below.heap_alloc _ _ _ (by simp)]; exact heap_alloc_new _ _
  have k1 : ((w.alloc (.cells Z 48)).alloc (.cells Z 48)).heap[w.heap.size + 1]? = some (.cells Z 48 (0, 0)) := by
    have := heap_alloc_new (w.alloc (.cells Z 48)) (.cells Z 48); simpa using this
  go_loopw [3] (fun v wr => ∃ (k : Nat) (cs : Array Value), k ≤ 256 ∧ v = .int .i64 k ∧ cs.size = 256 ∧ cs.all (·.oneCell') = true ∧ Hid (∀ n, n < k → cs[n]? = some (.int .u8 (Lx.cls n : Nat))) ∧
    wr.heap[w.heap.size + 1]? = some (.cells cs 48 (0, 0)) ∧ wr.heap[w.heap.size]? = some (.cells Z 48 (0, 0)) ∧ Below w.heap.size w wr) (fun v _ => 256 - (intOf v).toNat)
  case atStart =>
    refine ⟨0, Z, Nat.zero_le _, rfl, hZ1, ?_, fun n hn => absurd hn (Nat.not_lt_zero _), k1, k0, hb0⟩
    rw [Array.all_eq_true]
    intro j hj
    have := HZ.out j (by omega)
    rw [Array.getElem?_eq_getElem hj] at this
    rw [Option.some.inj this]; rfl
  case round =>
    obtain ⟨k, cs, hk, rfl, hcs, hone, hc, q1, q0, hb⟩ := hrel
    have HONE := Lib.hid hone
    have Q0 := Lib.hid q0
    have Q1 := Lib.hid q1
    clear k0 k1 hb0 hone q0
    by_cases hlt : k < 256
    · have g1 := Joins.cell_of_block q1 k
      have f1 := Joins.unfrozen_of_block q1 k
      obtain ⟨x, hx⟩ : ∃ x, cs[k]? = some x := ⟨_, Array.getElem?_eq_getElem (by omega)⟩
      rw [hx] at g1
      clear q1
      go_wp2_with fail
      refine (classof_walk k hlt wr).mono ?_
      rintro e w2 ⟨rfl, rfl⟩
      obtain ⟨v, hv⟩ : ∃ v, v = Lx.cls k := ⟨_, rfl⟩
      rw [← hv]
      have HV := Lib.hid hv
      clear hv
      go_wp2_with fail
      go_roundw
      case rel =>
        obtain ⟨p1, p2, p3⟩ := Lx.tab_push hcs HONE.out hlt hc.out
        rw [← HV.out] at p1 p2 p3
        refine ⟨k + 1, _, by omega, by go_num, p1, p2, p3, Joins.block_setCell Q1.out _, ?_, hb.setCell (p := ⟨w.heap.size + 1, k, none⟩) (by show w.heap.size ≤ w.heap.size + 1; omega) _⟩
        exact (Below.heap_setCell _ _ _ _ (by show w.heap.size ≠ w.heap.size + 1; omega)).trans Q0.out
      case measure => simp [intOf]; omega
    · have hk6 : k = 256 := by omega
      have HC2 : Hid (∀ n, n < 256 → cs[n]? = some (.int .u8 (Lx.cls n : Nat))) := by rw [hk6] at hc; exact hc
      have hlti : ¬ (k : Int) < 256 := by omega
      clear q1 hc hk6
      have HC := Lib.hid hcs
      clear hcs
      have hst : (storeCells ⟨w.heap.size, 0, none⟩ cs.toList).run Try.prog wr = .ok () (wr.setRow w.heap.size cs) := by
        have := run_storeCells_from (P := Try.prog) w.heap.size 48 cs.toList 0 Z wr Q0.out (by rw [Array.length_toList, HC.out, hZ1]) (fun v hv => (Array.all_eq_true_iff_forall_mem.1 HONE.out) v (by simpa using hv))
        simpa using this
      go_wp2_with (first
        | (refine wpList_load_row rfl _ _ rfl _ rfl _ cs _ _ Q1.out Try.underlying48 rfl (by rw [HC.out]; exact table_info) ?_))
      refine bodyPost_ret (results_cell_row rfl _ _ w.heap.size _ cs _ _ rfl (setRow_heap _ _ _ _ _ _ Q0.out) Try.underlying48 rfl (by rw [HC.out]; exact table_info)) rfl ?_
      exact ⟨cs, ⟨HC.out, HONE.out, HC2.out⟩, rfl, below_setRow hb (Nat.le_refl _) cs⟩
end Go.Proofs.Ytidmonmkpkbhjaa
