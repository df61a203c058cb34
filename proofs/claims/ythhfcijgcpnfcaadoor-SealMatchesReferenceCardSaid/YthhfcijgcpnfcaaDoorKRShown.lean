import Derived.Test.YthhfcijgcpnfcaaDoorKROwn2
import Derived.Deep.QuietTactic
import Derived.BigQuiet
/-
  The walk of the reference's Shown: it finds two different texts with one digest, where there are two.
-/
namespace Go.Proofs.YthhfcijgcpnfcaaDoor
open Go.RowKit

namespace Tr
/-- The digest's text. -/
def sumS (s : ByteArray) : ByteArray := str (Dg.sum s.data.toList)
/-- The digests of the first k texts. -/
def sums (l : List ByteArray) (k : Nat) : List ByteArray := (l.take k).map sumS
theorem sums_len (l : List ByteArray) (k : Nat) (h : k ≤ l.length) : (sums l k).length = k := by rw [sums, List.length_map, List.length_take]; omega
theorem sums_succ (l : List ByteArray) (k : Nat) (h : k < l.length) (t : ByteArray) (ht : t = l.getD k ByteArray.empty) : sums l (k + 1) = sums l k ++ [sumS t] := by
  rw [sums, sums, List.take_succ_eq_append_getElem h, List.map_append, ht, Dg.getD_eq l k h]; rfl
theorem sums_getD (l : List ByteArray) (k : Nat) (h : k < l.length) : (sums l l.length).getD k ByteArray.empty = sumS (l.getD k ByteArray.empty) := by
  rw [Dg.getD_eq _ k (by rw [sums_len l _ (Nat.le_refl _)]; exact h), Dg.getD_eq l k h]
  simp only [sums, List.take_length, List.getElem_map]
/-- Two places hold different texts with one digest. -/
def pair (l : List ByteArray) (i k : Nat) : Prop := sumS (l.getD i ByteArray.empty) = sumS (l.getD k ByteArray.empty) ∧ l.getD i ByteArray.empty ≠ l.getD k ByteArray.empty
theorem pair_comm {l : List ByteArray} {i k : Nat} (h : pair l i k) : pair l k i := ⟨h.1.symm, fun e => h.2 e.symm⟩
theorem shown_pair {l : List ByteArray} (h : Shown (bs l)) : ∃ i k, i < l.length ∧ k < i ∧ pair l i k := by
  obtain ⟨x, hx, y, hy, hxy, hs⟩ := h
  obtain ⟨s, hs1, rfl⟩ := List.mem_map.1 hx
  obtain ⟨t, ht1, rfl⟩ := List.mem_map.1 hy
  obtain ⟨i, hi, rfl⟩ := List.getElem_of_mem hs1
  obtain ⟨k, hk, rfl⟩ := List.getElem_of_mem ht1
  have hp : pair l i k := by
    refine ⟨?_, ?_⟩
    · rw [Dg.getD_eq l i hi, Dg.getD_eq l k hk]; unfold sumS; rw [hs]
    · rw [Dg.getD_eq l i hi, Dg.getD_eq l k hk]; intro e; apply hxy; rw [e]
  have hne : i ≠ k := by
    intro e
    subst e
    exact hxy rfl
  rcases Nat.lt_or_gt_of_ne hne with h | h
  · exact ⟨k, i, hk, h, pair_comm hp⟩
  · exact ⟨i, k, hi, h, hp⟩
/-- No pair is met in the first i places. -/
def none (l : List ByteArray) (i : Nat) : Prop := ∀ a, a < i → ∀ b, b < a → ¬ pair l a b
/-- No pair is met at place i among the first k. -/
def noneAt (l : List ByteArray) (i k : Nat) : Prop := ∀ b, b < k → ¬ pair l i b
theorem none_succ {l : List ByteArray} {i : Nat} (h : none l i) (h2 : noneAt l i i) : none l (i + 1) := fun a ha b hb => by
  rcases Nat.lt_succ_iff_lt_or_eq.1 ha with h' | rfl
  · exact h a h' b hb
  · exact h2 b hb
theorem noneAt_succ {l : List ByteArray} {i k : Nat} (h : noneAt l i k) (h2 : ¬ pair l i k) : noneAt l i (k + 1) := fun b hb => by
  rcases Nat.lt_succ_iff_lt_or_eq.1 hb with h' | rfl
  · exact h b h'
  · exact h2
theorem none_not {l : List ByteArray} (h : none l l.length) : ¬ Shown (bs l) := fun hs => by
  obtain ⟨i, k, hi, hk, hp⟩ := shown_pair hs
  exact h i hi k hk hp
end Tr

set_option maxHeartbeats 4000000 in
set_option maxRecDepth 100000 in
theorem refshown_walk (v : Value) (l : List ByteArray) (w : World) (hv : IsTx w v l) (hs : ∀ s ∈ l, s.size ≤ 1000000) (hl : l.length ≤ 100000) (hsh : Tr.Shown (Tr.bs l)) :
    Calls Tryd.prog 22 #[v] w fun e w' => e = .returned (.bool true) ∧ Below w.heap.size w w' := by
  obtain ⟨i0, hii, hz0, hz1, hz2⟩ := info_parts one_str
  have HI := Lib.hid hii
  have HS := Lib.hid hs
  have HSH := Lib.hid hsh
  have hl0 : 0 < l.length := by obtain ⟨i, k, hi, _, _⟩ := Tr.shown_pair hsh; omega
  obtain ⟨a, cap, rfl, h1, h2, h⟩ := hv
  obtain ⟨b, off, rfl, hb, hc⟩ := h (by intro e; rw [e] at hl0; simp at hl0)
  have HC := Lib.hid hc
  clear hii hs hsh h hc
  go_enter Tryd.func22, Tryd.ntmps22
  go_wp2_with fail
  go_loopw [3, 4] (fun v i wr => ∃ k : Nat, k ≤ l.length ∧ i = .int .i64 k ∧ wr.ownsRow w.heap.size 9 1 v k (Tr.cells (Tr.sums l k)) ∧ Below w.heap.size w wr) (fun _ i _ => l.length - (intOf i).toNat)
  case atStart => exact ⟨0, Nat.zero_le _, rfl, World.ownsRow_nil _ _ _ _, Below.refl _ _⟩
  case round =>
    obtain ⟨k, hk, rfl, hown, hbel⟩ := hrel
    have HW := Lib.hid hown
    clear hown
    have hgw : w.heap.size ≤ wr.heap.size := hbel.size
    by_cases hlt : k < l.length
    · obtain ⟨t, htk⟩ : ∃ t, t = l.getD k ByteArray.empty := ⟨_, rfl⟩
      have hcell : wr.cell? ⟨b, off + k, .none⟩ = some (.string t) := by
        rw [hbel.cell (p := ⟨b, off + k, .none⟩) hb, HC.out k hlt, htk]
      have hts : t.size ≤ 1000000 := by rw [htk, Dg.getD_eq l k hlt]; exact HS.out _ (List.getElem_mem _)
      have HK := Lib.hid htk
      clear htk
      go_wp2_with fail
      refine (refsum_walk t hts _).mono ?_
      rintro e w2 ⟨rfl, rfl⟩
      go_wp2_with (at_builtin; refine wpList_append_tx rfl (.tmp 13) (.tmp 19) 22 rfl w.heap.size 9 i0 (.string ⟨#[]⟩) 16 Tryd.underlying22 HI.out hz0 hz1 hz2 rfl _ k (Tr.cells (Tr.sums l k)) rfl (HW.out.alloc _) _ [Tr.sumS t] rfl (tx_one _ _) (by simp [maxLen]; omega) (by simp; omega) (by rw [heap_alloc_size]; omega) ?_)
      intro v5 w5 ho5 hg5
      have hb5 : Below w.heap.size w w5 := (hbel.alloc hgw _).grown hg5 (by rw [heap_alloc_size]; omega) (fun j hj => (HW.out.lt j hj).1)
      have HO5 : Hid (w5.ownsRow w.heap.size 9 1 v5 (k + 1) (Tr.cells (Tr.sums l (k + 1)))) := by
        show World.ownsRow _ _ _ _ _ _ _
        rw [Tr.sums_succ l k hlt t HK.out, Tr.cells_snoc]; exact ho5
      clear ho5 hg5
      go_wp2_with fail
      go_roundw
      case rel => exact ⟨k + 1, by omega, by go_num, HO5.out, hb5⟩
      case measure => simp [intOf]; omega
    · have hke : k = l.length := by omega
      subst hke
      obtain ⟨g, cp, rfl, hg1, hg2⟩ := HW.out.form hl0
      have hsl : (Tr.sums l l.length).length = l.length := Tr.sums_len l _ (Nat.le_refl _)
      have HCS : Hid (∀ j, j < l.length → wr.cell? ⟨g, j, .none⟩ = some (.string (Tr.sumS (l.getD j ByteArray.empty)))) := fun j hj => by
        have hc := HW.out.cells (g := g) rfl j (.string (Tr.sumS (l.getD j ByteArray.empty))) (by
          rw [← Tr.sums_getD l j hj, List.getElem?_map, List.getElem?_eq_getElem (by omega), Dg.getD_eq _ j (by omega)]; rfl)
        rw [Go.WideShapes.add_plain] at hc
        simpa using hc
      have HCL : Hid (∀ j, j < l.length → wr.cell? ⟨b, off + j, .none⟩ = some (.string (l.getD j ByteArray.empty))) := fun j hj => by
        rw [hbel.cell (p := ⟨b, off + j, .none⟩) hb, HC.out j hj]
      have hbr : b < wr.heap.size := by omega
      clear hk hlt
      go_wp2_with fail
      go_loopw [5, 6] (fun i _ wq => ∃ n : Nat, n ≤ l.length ∧ i = .int .i64 n ∧ Tr.none l n ∧ Below wr.heap.size wr wq) (fun i _ _ => l.length - (intOf i).toNat)
      case atStart => exact ⟨0, Nat.zero_le _, rfl, fun a ha => by omega, Below.refl _ _⟩
      case round =>
        obtain ⟨n, hn, rfl, hnone, hbq⟩ := hrel
        by_cases hlt : n < l.length
        · have HN := Lib.hid hnone
          clear hnone
          go_wp2_with fail
          have hbase : ∀ j, j < l.length → wr.cell? ⟨g, j, .none⟩ = some (.string (Tr.sumS (l.getD j ByteArray.empty))) := fun j hj => by rw [hbq.cell (p := ⟨g, j, .none⟩) hg2]; exact HCS.out j hj
          have hbasl : ∀ j, j < l.length → wr.cell? ⟨b, off + j, .none⟩ = some (.string (l.getD j ByteArray.empty)) := fun j hj => by rw [hbq.cell (p := ⟨b, off + j, .none⟩) hbr]; exact HCL.out j hj
          have HB1 := Lib.hid hbase
          have HB2 := Lib.hid hbasl
          have hg3 : g < wr.heap.size := Nat.lt_of_lt_of_le hg2 hbq.size
          have hb3 : b < wr.heap.size := Nat.lt_of_lt_of_le hbr hbq.size
          clear hbase hbasl
          go_loopw [6] (fun k wq => ∃ m : Nat, m ≤ n ∧ k = .int .i64 m ∧ Tr.noneAt l n m ∧ Below wr.heap.size wr wq) (fun k _ => n - (intOf k).toNat)
          case atStart => exact ⟨0, Nat.zero_le _, rfl, fun b hb => by omega, Below.refl _ _⟩
          case round =>
            obtain ⟨m, hm, rfl, hat, hbr2⟩ := hrel
            by_cases hlm : m < n
            · obtain ⟨ti, hti⟩ : ∃ t, t = l.getD n ByteArray.empty := ⟨_, rfl⟩
              obtain ⟨tk, htk⟩ : ∃ t, t = l.getD m ByteArray.empty := ⟨_, rfl⟩
              have HPI : Hid (Tr.pair l n m ↔ (Tr.sumS ti = Tr.sumS tk ∧ ti ≠ tk)) := by rw [hti, htk]; exact Iff.rfl
              obtain ⟨si, hsi⟩ : ∃ s, s = Tr.sumS ti := ⟨_, rfl⟩
              obtain ⟨sk, hsk⟩ : ∃ s, s = Tr.sumS tk := ⟨_, rfl⟩
              rw [← hsi, ← hsk] at HPI
              have c1 : wr.cell? ⟨g, n, .none⟩ = some (.string si) := by rw [hbr2.cell (p := ⟨g, n, .none⟩) hg3, HB1.out n hlt, hsi, hti]
              have c2 : wr.cell? ⟨g, m, .none⟩ = some (.string sk) := by rw [hbr2.cell (p := ⟨g, m, .none⟩) hg3, HB1.out m (by omega), hsk, htk]
              have c3 : wr.cell? ⟨b, off + n, .none⟩ = some (.string ti) := by rw [hbr2.cell (p := ⟨b, off + n, .none⟩) hb3, HB2.out n hlt, hti]
              have c4 : wr.cell? ⟨b, off + m, .none⟩ = some (.string tk) := by rw [hbr2.cell (p := ⟨b, off + m, .none⟩) hb3, HB2.out m (by omega), htk]
              have p1 : (0 : Int) ≤ (n : Int) := by omega
              have p2 : (n : Int) < (l.length : Int) := by omega
              have p3 : (0 : Int) ≤ (m : Int) := by omega
              have p4 : (m : Int) < (l.length : Int) := by omega
              have HAT := Lib.hid hat
              clear hti htk hsi hsk hat
              cases hq : (si.toList == sk.toList) with
              | false =>
                have HNP : Hid (¬ Tr.pair l n m) := fun hp => by
                  have := (HPI.out.1 hp).1
                  rw [this] at hq; simp at hq
                go_wp2_with fail
                go_quiet (fail)
                go_wp2_with fail
                go_roundw
                case rel => exact ⟨m + 1, by omega, by go_num, Tr.noneAt_succ HAT.out HNP.out, below_drewN hbr2 _⟩
                case measure => simp [intOf]; omega
              | true =>
                by_cases he : ti = tk
                · have HNP : Hid (¬ Tr.pair l n m) := fun hp => (HPI.out.1 hp).2 he
                  have hq2 : (ti.toList != tk.toList) = false := by rw [he]; simp
                  have hq3 : (ti.toList == tk.toList) = true := by rw [he]; simp
                  clear he
                  go_wp2_with fail
                  go_quiet (fail)
                  go_wp2_with fail
                  go_roundw
                  case rel => exact ⟨m + 1, by omega, by go_num, Tr.noneAt_succ HAT.out HNP.out, below_drewN hbr2 _⟩
                  case measure => simp [intOf]; omega
                · have hq2 : (ti.toList != tk.toList) = true := by
                    rw [bne_iff_ne, Lib.toList_data, Lib.toList_data]
                    exact fun h => he (Dg.str_ext _ _ h)
                  have hq3 : (ti.toList == tk.toList) = false := by
                    rw [beq_eq_false_iff_ne, Lib.toList_data, Lib.toList_data]
                    exact fun h => he (Dg.str_ext _ _ h)
                  clear he
                  have HBF := Lib.hid (hbel.trans ((hbq.trans (hbr2.mono hbq.size)).mono hgw))
                  go_wp2_with fail
                  go_quiet (fail)
                  go_wp2_with fail
                  go_ret
                  exact ⟨rfl, below_drewN HBF.out _⟩
            · have hme : m = n := by omega
              subst hme
              have HNX := Lib.hid (Tr.none_succ HN.out hat)
              have hbq2 := hbq.trans (hbr2.mono hbq.size)
              clear hat
              go_wp2_with fail
              go_roundw
              case rel => exact ⟨m + 1, by omega, by go_num, HNX.out, hbq2⟩
              case measure => simp [intOf]; omega
        · have hne : n = l.length := by omega
          subst hne
          exact absurd HSH.out (Tr.none_not hnone)
end Go.Proofs.YthhfcijgcpnfcaaDoor
