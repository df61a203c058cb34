import Derived.RangeFuncNested
import Derived.RangeFuncBound
import Derived.RangeFuncCalls
import Derived.RangeFuncLeaves
import Derived.RangeFuncBox
import Derived.Shelf.Abstract
import Derived.Shelf.RegionOpen
import Derived.WalkKit
import Derived.OwnWalkIn
import Derived.TacticsInMore
import Derived.LoopNIn
import Derived.LoopIn
import Derived.Test.YthhfcijgcpnfcaaDoorKSStart
/-
  The walk of seal.digits: an iterator that yields the 18 digits of a message, each with its number.
-/
namespace Go.Proofs.YthhfcijgcpnfcaaDoor
open Go.RowKit Go.Shelf

attribute [local go_sem] Oper.semAt_some

namespace Sl
theorem rest_snoc (l : List UInt8) (b : UInt8) : rest (l ++ [b]) = rest l + (15 - hv b) := by
  induction l with
  | nil => simp [rest]
  | cons a l ih => rw [List.cons_append, rest, ih, rest]; omega
/-- The first k of the 18 numbers. -/
def fin (k : Nat) : List (Fin 18) := (List.finRange 18).take k
theorem fin_len (k : Nat) (h : k ≤ 18) : (fin k).length = k := by simp [fin]; omega
theorem fin_succ (k : Nat) (h : k < 18) : fin (k + 1) = fin k ++ [⟨k, h⟩] := by
  rw [fin, fin, List.take_succ_eq_append_getElem (by simp; exact h)]
  simp
theorem fin_all : fin 18 = List.finRange 18 := by
  rw [fin, List.take_of_length_le]; simp
theorem fin_map {α : Type} (f : Nat → α) (n : Nat) : (List.finRange n).map (fun k => f k.1) = (List.range n).map f := by
  apply List.ext_getElem
  · simp
  · intro i h1 h2; simp
/-- What is yielded. -/
abbrev enc (m : Tr.T) (k : Fin 18) : Array Value := #[.int .i64 (k.1 : Nat), .int .i64 (dg m k.1 : Nat)]
end Sl

theorem Sl.grown {w w' : World} (h : Below w.heap.size w w') : w.grownBy w' none := ⟨h.os, h.tape, h.output, h.size, fun k hk _ => h.block k hk⟩

set_option maxHeartbeats 1000000 in
set_option maxRecDepth 100000 in
theorem digits_made (m : ByteArray) (w : World) :
    Calls Tryd.prog 32 #[.string m] w fun e w' => e = .returned (.func (.func 62) #[] #[.pointer (some ⟨w.heap.size, 0, none⟩)]) ∧ w' = w.alloc (.cells #[.string m] 9) := by
  go_enter Tryd.func32, Tryd.ntmps32
  go_wp2_with fail
  go_ret
  exact ⟨rfl, rfl⟩

set_option maxRecDepth 100000 in
set_option maxHeartbeats 4000000 in
theorem digits1_in (n : Nat) (hn : 2 ≤ n) (l B : Nat) (m : ByteArray) (hm : m.size ≤ 9223372036854775807) (J Jx : List (Fin 18) → World → Prop) (W : World)
    (hJ : ∀ W', Below W.heap.size W W' → J [] W')
    (hY : ∀ pre x W1, J pre W1 → pre.length < 18 → YieldAt Fence.wide (n - 1) Tryd.prog l (Sl.enc m.data.toList x) W1 fun e W' =>
      (e = .returned (.bool true) ∧ J (pre ++ [x]) W' ∧ True) ∨ (e = .returned (.bool false) ∧ Jx (pre ++ [x]) W'))
    (hB : W.cell? ⟨B, 0, none⟩ = some (.string m)) :
    CallsIn Fence.wide n Tryd.prog 62 #[.func (.yield l) #[] #[], .pointer (some ⟨B, 0, none⟩)] W fun e W' => (∃ v, e = .returned v) ∧
      ((∃ xs, xs = List.finRange 18 ∧ J xs W') ∨ (∃ pre, True ∧ Jx pre W')) := by
  have HY := Lib.hid hY
  have HJ := Lib.hid hJ
  clear hY hJ
  refine callsIn_of_wp Tryd.func62 rfl trivial ?_ rfl
  simp only [Tryd.ntmps62, List.size_toArray, List.length_cons, List.length_nil, Nat.reduceAdd, Nat.reduceSub, Array.replicate_succ, Array.replicate_zero, List.push_toArray, List.append_toArray, List.nil_append, List.cons_append]
  gi_wp2
  refine ⟨trivial, fun _ => by omega, (callsIn_wide.2 (sum_ex m hm W)).mono ?_⟩
  rintro e w1 ⟨r, rfl, hr, hrz, hb1⟩
  have hj0 := HJ.out w1 hb1
  have hsz : r.size = 16 := by rw [Lib.size_eq, hr.out, Dg.sum_length]
  have HR : Hid (∀ k (hk : k < r.size), Dg.isHex r[k] = true ∧ Sl.hv r[k] = Sl.dg m.data.toList k ∧ Sl.rest (r.data.toList.take (k + 1)) = Sl.rest (r.data.toList.take k) + (15 - Sl.hv r[k])) := fun k hk => by
    have e : r[k] = (Dg.sum m.data.toList).getD k 0 := by
      rw [← hr.out, List.getD_eq_getElem?_getD, List.getElem?_eq_getElem (by rw [Dg.len_data]; exact hk), Dg.data_get r k hk]; rfl
    refine ⟨?_, ?_, ?_⟩
    · rw [← Dg.data_get r k hk]
      exact List.all_eq_true.1 (by rw [hr.out]; exact Sl.sum_hex _) _ (List.getElem_mem _)
    · rw [Sl.dg_low _ _ (by omega), e]
    · rw [Dg.take_succ r k hk, Sl.rest_snoc]
  have HE : Hid (Sl.rest (r.data.toList.take 16) = Sl.rest (Dg.sum m.data.toList)) := by
    show _ = _
    rw [List.take_of_length_le (by rw [Dg.len_data]; omega), hr.out]
  clear hr HJ hb1 hrz
  have hsz' : (r.size : Int) = 16 := by omega
  gi_wp2
  gi_loopw [4, 11] (fun c i wr => ∃ k cs : Nat, k ≤ 16 ∧ i = .int .i64 k ∧ c = .int .i64 cs ∧ cs ≤ 15 * k ∧ Hid (cs = Sl.rest (r.data.toList.take k)) ∧ J (Sl.fin k) wr) (fun _ i _ => 16 - (intOf i).toNat)
  case atStart => exact ⟨0, 0, Nat.zero_le _, rfl, rfl, Nat.le_refl _, rfl, hj0⟩
  case round =>
    obtain ⟨k, cs, hk, rfl, rfl, hcs, hce, hj⟩ := hrel
    by_cases hlt : k < 16
    · have hks : k < r.size := by omega
      obtain ⟨g1, g2, g3⟩ := HR.out k hks
      have HG := Lib.hid g1
      have HD := Lib.hid g2
      have HS := Lib.hid g3
      clear g1 g2 g3
      gi_wp2
      refine ⟨trivial, fun _ => by omega, (callsIn_wide.2 (indexbyte_walk r[k] HG.out wr)).mono ?_⟩
      rintro e w3 ⟨d, rfl, hd15, hd, rfl⟩
      have hdd : Sl.dg m.data.toList k = d := by rw [← HD.out, hd.out]
      have HN : Hid (cs + (15 - d) = Sl.rest (r.data.toList.take (k + 1))) := by show _ = _; rw [HS.out, hce.out, hd.out]
      obtain ⟨fn, tmps, assign, body, hy, hR⟩ := HY.out (Sl.fin k) ⟨k, by omega⟩ wr hj (by rw [Sl.fin_len k (by omega)]; omega)
      dsimp only [Sl.enc] at hy
      rw [hdd] at hy
      rw [← Sl.fin_succ k (by omega)] at hR
      clear hd hdd HD HS HG
      gi_wp2
      refine ⟨fun _ => by omega, hR.mono ?_⟩
      rintro e W3 (⟨rfl, hJ3, _⟩ | ⟨rfl, hJx3⟩)
      · gi_wp2
        go_roundw
        case rel => exact ⟨k + 1, cs + (15 - d), by omega, by go_num, by congr 1; omega, by omega, HN, hJ3⟩
        case measure => simp [intOf]; omega
      · gi_wp2
        refine bodyPost_ret (results_none rfl _ _ _) rfl ?_
        exact ⟨⟨_, rfl⟩, .inr ⟨_, trivial, hJx3⟩⟩
    · have hk16 : k = 16 := by omega
      subst hk16
      have hc16 : cs = Sl.rest (Dg.sum m.data.toList) := by rw [hce.out, HE.out]
      have hd16 : ((Sl.dg m.data.toList 16 : Nat) : Int) = (cs : Int) / 16 := by rw [Sl.dg_16, hc16]; omega
      have hd17 : ((Sl.dg m.data.toList 17 : Nat) : Int) = (cs : Int) % 16 := by rw [Sl.dg_17, hc16]; omega
      have HC := Lib.hid hc16
      clear hc16
      obtain ⟨fn, tmps, assign, body, hy, hR⟩ := HY.out (Sl.fin 16) ⟨16, by omega⟩ wr hj (by rw [Sl.fin_len 16 (by omega)]; omega)
      dsimp only [Sl.enc] at hy
      rw [hd16, show ((16 : Nat) : Int) = 16 from rfl] at hy
      rw [← Sl.fin_succ 16 (by omega)] at hR
      clear hd16
      have HD := Lib.hid hd17
      clear hd17
      gi_wp2
      clear hy
      refine ⟨fun _ => by omega, hR.mono ?_⟩
      rintro e W3 (⟨rfl, hJ3, _⟩ | ⟨rfl, hJx3⟩)
      · obtain ⟨fn, tmps, assign, body, hy, hR⟩ := HY.out (Sl.fin 17) ⟨17, by omega⟩ W3 hJ3 (by rw [Sl.fin_len 17 (by omega)]; omega)
        dsimp only [Sl.enc] at hy
        rw [HD.out, show ((17 : Nat) : Int) = 17 from rfl] at hy
        rw [← Sl.fin_succ 17 (by omega), Sl.fin_all] at hR
        gi_wp2
        refine ⟨fun _ => by omega, hR.mono ?_⟩
        rintro e W4 (⟨rfl, hJ4, _⟩ | ⟨rfl, hJx4⟩)
        · gi_wp2
          go_end0
          exact ⟨⟨_, rfl⟩, .inl ⟨_, rfl, hJ4⟩⟩
        · gi_wp2
          go_end0
          exact ⟨⟨_, rfl⟩, .inr ⟨_, trivial, hJx4⟩⟩
      · gi_wp2
        go_end0
        exact ⟨⟨_, rfl⟩, .inr ⟨_, trivial, hJx3⟩⟩

/-- The value that digits hands back has the contract of an iterator. -/
theorem digits_stops (n : Nat) (hn : 2 ≤ n) (B : Nat) (m : ByteArray) (hm : m.size ≤ 9223372036854775807) (w : World) (hB : w.cell? ⟨B, 0, none⟩ = some (.string m)) :
    SeqStopsK Fence.wide n Tryd.prog 62 #[.pointer (some ⟨B, 0, none⟩)] (Sl.enc m.data.toList) (fun _ _ => True) (fun xs => xs = List.finRange 18) (fun _ => True) 18 w := fun l J Jx W hW hJ _ hY h0 =>
  digits1_in n hn l B m hm J Jx W (fun W' hb => hJ _ _ _ none h0 (Sl.grown hb) (fun r e => by cases e)) hY ((hW.cell (p := ⟨B, 0, none⟩) (block_lt_of_cell hB)).trans hB)
end Go.Proofs.YthhfcijgcpnfcaaDoor
