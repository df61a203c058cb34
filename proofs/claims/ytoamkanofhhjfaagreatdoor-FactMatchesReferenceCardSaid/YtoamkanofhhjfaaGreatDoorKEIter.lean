import Derived.Test.YtoamkanofhhjfaaGreatDoorKETok2
import Derived.Laws.Tables
import Derived.Laws.Rows
import Derived.Laws.CopyOwn
import Derived.RangeFuncNested
import Derived.RangeFuncBound
import Derived.RangeFuncCalls
import Derived.RangeFuncLeaves
import Derived.RangeFuncBox
import Derived.Shelf.Abstract
import Derived.Shelf.RegionOpen
import Derived.OwnWalkIn
import Derived.TacticsInMore
import Derived.LoopNIn
import Derived.LoopIn
import Derived.Laws.EntriesVeiled
import Derived.Deep.RegionHeld3
import Derived.Deep.CutRange
/-
  The walk of the program's token.
-/
namespace Go.Proofs.YtoamkanofhhjfaaGreatDoor
open Go.RowKit

namespace Lx
theorem tok_res_two {s : ByteArray} {i : Nat} (hi : i < s.size) (h1 : isLetter s[i] = false) (h2 : isDigit s[i] = false) (h3 : isTwo s[i] = true) (h4 : headEq ((tx s).drop (i + 1)) = true) :
    res (next s[i] ((tx s).drop (i + 1))) i = (⟨3, ((tx s).drop i).take 2, 0, i⟩, 0) ∧ i + 2 ≤ s.size := by
  unfold next
  rw [if_neg (by rw [h1]; decide), if_neg (by rw [h2]; decide), if_pos (by rw [h3, h4]; rfl)]
  have hn : i + 1 < s.size := by
    rcases Nat.lt_or_ge (i + 1) s.size with h | h
    · exact h
    · rw [drop_end s (i + 1) h] at h4; cases h4
  rw [drop_at s i hi, drop_at s (i + 1) hn] at *
  have h61 : s[i + 1] = 61 := by simpa [headEq] using h4
  rw [h61]
  exact ⟨rfl, by omega⟩
theorem tok_res_one {s : ByteArray} {i : Nat} (hi : i < s.size) (h1 : isLetter s[i] = false) (h2 : isDigit s[i] = false) (h3 : (isTwo s[i] && headEq ((tx s).drop (i + 1))) = false) (h4 : isOne s[i] = true) :
    res (next s[i] ((tx s).drop (i + 1))) i = (⟨3, ((tx s).drop i).take 1, 0, i⟩, 0) := by
  unfold next
  rw [if_neg (by rw [h1]; decide), if_neg (by rw [h2]; decide), if_neg (by rw [h3]; decide), if_pos h4, drop_at s i hi]
  rfl
theorem tok_res_err {c : UInt8} {r : T} {i : Nat} (h1 : isLetter c = false) (h2 : isDigit c = false) (h3 : (isTwo c && headEq r) = false) (h4 : isOne c = false) :
    res (next c r) i = (noTok i, 3) := by
  unfold next
  rw [if_neg (by rw [h1]; decide), if_neg (by rw [h2]; decide), if_neg (by rw [h3]; decide), if_neg (by rw [h4]; decide)]
  rfl
end Lx

set_option maxHeartbeats 4000000 in
set_option maxRecDepth 100000 in
theorem token_walk (B : Nat) (s : ByteArray) (hs : s.size < 9223372036854775807) (i : Nat) (hi : i < s.size) (w : World) (h : Lx.Src B s w) :
    Calls Tryz.prog 86 #[.pointer (some ⟨B, 0, none⟩), .int .i64 i] w (Lx.TokOut (Lx.res (Lx.next s[i] ((Lx.tx s).drop (i + 1))) i) w) := by
  have hB := h.lt
  have HS := Lib.hid h
  have ha : Below w.heap.size w (w.alloc tok0) := (Below.refl _ _).alloc (Nat.le_refl _) _
  have HK0 := Lib.hid (heap_alloc_new w tok0)
  have hsm := hi
  obtain ⟨c, hc⟩ : ∃ c, c = s[i] := ⟨_, rfl⟩
  obtain ⟨r, hr⟩ : ∃ r, r = (Lx.tx s).drop (i + 1) := ⟨_, rfl⟩
  have hdr : (Lx.tx s).drop i = c :: r := by rw [Lx.drop_at s i hi, ← hc, ← hr]
  have H1 := Lib.hid (fun h1 h2 h3 h4 => Lx.tok_res_two (s := s) (i := i) hi h1 h2 h3 h4)
  have H2 := Lib.hid (fun h1 h2 h3 h4 => Lx.tok_res_one (s := s) (i := i) hi h1 h2 h3 h4)
  rw [← hc, ← hr] at H1 H2 ⊢
  obtain ⟨R, hR⟩ : ∃ R, R = Lx.res (Lx.next c r) i := ⟨_, rfl⟩
  rw [← hR] at H1 H2 ⊢
  have HR := Lib.hid hR
  have HD := Lib.hid hdr
  have HRR := Lib.hid hr
  clear h hc hr hdr hR
  go_enter Tryz.func86, Tryz.ntmps86
  go_wp2_with fail
  refine (has_walk Lx.mask_letter B s (by omega) i (by omega) _ (HS.out.below ha hB)).mono ?_
  rintro e w2 ⟨rfl, hb2⟩
  have HB2 := Lib.hid (ha.trans (hb2.mono ha.size))
  have HK2 := Lib.hid ((hb2.block w.heap.size (by simp)).trans HK0.out)
  rw [HD.out]
  clear hb2 ha HK0
  cases q1 : Lx.isLetter c with
  | true =>
    rw [show Lx.hd Lx.isLetter (c :: r) = true from q1]
    have HE := Lib.hid (Lx.name_res HD.out q1)
    clear q1
    have hz := HB2.out.size
    go_wp2_with fail
    refine (name_walk B s hs i (by omega) w2 (HS.out.below HB2.out hB)).mono ?_
    rintro e w3 ⟨rfl, hb3⟩
    rw [← HE.out, ← HR.out]
    have HB3 := Lib.hid (HB2.out.trans (hb3.mono hz))
    have HK3 := Lib.hid ((hb3.block w.heap.size (Array.getElem?_eq_some_iff.1 HK2.out).1).trans HK2.out)
    obtain ⟨⟨g0, g1, g2, g3⟩, f0, f1, f2, f3⟩ := tok_facts HK3.out
    clear hb3
    go_wp2_with fail
    refine bodyPost_ret (tok_results rfl _ _ w.heap.size _ _ _ _ _ _ _ rfl rfl (tok_set HK3.out _ _ _ _)) rfl ?_
    exact ⟨rfl, tok_below HB3.out (Nat.le_refl _) _ _ _ _⟩
  | false =>
    rw [show Lx.hd Lx.isLetter (c :: r) = false from q1]
    have Q1 := Lib.hid q1
    clear q1
    have hz := HB2.out.size
    go_wp2_with fail
    refine (has_walk Lx.mask_digit B s (by omega) i (by omega) w2 (HS.out.below HB2.out hB)).mono ?_
    rintro e w3 ⟨rfl, hb3⟩
    have HB3 := Lib.hid (HB2.out.trans (hb3.mono hz))
    have HK3 := Lib.hid ((hb3.block w.heap.size (Array.getElem?_eq_some_iff.1 HK2.out).1).trans HK2.out)
    rw [HD.out]
    clear hb3 hz HB2 HK2
    have hz := HB3.out.size
    cases q2 : Lx.isDigit c with
    | true =>
      rw [show Lx.hd Lx.isDigit (c :: r) = true from q2]
      have HE := Lib.hid (Lx.num_res HD.out q2)
      clear q2
      go_wp2_with fail
      refine (number_walk B s hs i (by omega) w3 (HS.out.below HB3.out hB)).mono ?_
      rintro e w4 ⟨rfl, hb4⟩
      rw [← HE.out, ← HR.out]
      have HB4 := Lib.hid (HB3.out.trans (hb4.mono hz))
      have HK4 := Lib.hid ((hb4.block w.heap.size (Array.getElem?_eq_some_iff.1 HK3.out).1).trans HK3.out)
      obtain ⟨⟨g0, g1, g2, g3⟩, f0, f1, f2, f3⟩ := tok_facts HK4.out
      clear hb4
      go_wp2_with fail
      refine bodyPost_ret (tok_results rfl _ _ w.heap.size _ _ _ _ _ _ _ rfl rfl (tok_set HK4.out _ _ _ _)) rfl ?_
      exact ⟨rfl, tok_below HB4.out (Nat.le_refl _) _ _ _ _⟩
    | false =>
      rw [show Lx.hd Lx.isDigit (c :: r) = false from q2]
      have Q2 := Lib.hid q2
      clear q2
      have HT : Hid (∀ t : Bool, Lx.isTwo c = t → Lx.hd Lx.isTwo (c :: r) = t) := fun t ht => ht
      go_wp2_with fail
      refine (has_walk Lx.mask_two B s (by omega) i (by omega) w3 (HS.out.below HB3.out hB)).mono ?_
      rintro e w4 ⟨rfl, hb4⟩
      have HB4 := Lib.hid (HB3.out.trans (hb4.mono hz))
      have HK4 := Lib.hid ((hb4.block w.heap.size (Array.getElem?_eq_some_iff.1 HK3.out).1).trans HK3.out)
      rw [HD.out]
      clear hb4 hz HB3 HK3
      have hz := HB4.out.size
      have c1 := (HS.out.below HB4.out hB).text
      have hi1 : (i : Int) + 1 ≤ (s.size : Int) := by omega
      cases q3 : Lx.isTwo c with
      | true =>
        rw [HT.out _ q3]
        have Q3 := Lib.hid q3
        clear q3
        go_wp2_with fail
        have e1 : Lx.tx (s.extract (i + 1) s.size) = r := by
          rw [HRR.out, Lx.extract_str, Lx.tx_str, List.take_of_length_le (by rw [List.length_drop, Lx.tx_len]; exact Nat.le_refl _)]
        refine (prefix_walk _ _ e1 w4).mono ?_
        rintro e w5 ⟨rfl, rfl⟩
        clear e1
        cases q4 : Lx.headEq r with
        | true =>
          obtain ⟨hres, hle⟩ := H1.out Q1.out Q2.out Q3.out q4
          have HE := Lib.hid hres
          obtain ⟨⟨g0, g1, g2, g3⟩, f0, f1, f2, f3⟩ := tok_facts HK4.out
          clear q4 hres
          go_wp2_with fail
          refine bodyPost_ret (tok_results rfl _ _ w.heap.size _ _ _ _ (.int .i64 0) _ _ rfl rfl (tok_set HK4.out _ _ _ _)) rfl ?_
          refine ⟨?_, tok_below HB4.out (Nat.le_refl _) _ _ _ _⟩
          rw [HE.out, Lx.extract_str, show i + 2 - i = 2 by omega]; rfl
        | false =>
          have Q4 := Lib.hid q4
          clear q4
          go_wp2_with fail
          refine (has_walk Lx.mask_one B s (by omega) i (by omega) w4 (HS.out.below HB4.out hB)).mono ?_
          rintro e w6 ⟨rfl, hb6⟩
          have HB6 := Lib.hid (HB4.out.trans (hb6.mono hz))
          have HK6 := Lib.hid ((hb6.block w.heap.size (Array.getElem?_eq_some_iff.1 HK4.out).1).trans HK4.out)
          rw [HD.out]
          clear hb6
          have c1 := (HS.out.below HB6.out hB).text
          obtain ⟨⟨g0, g1, g2, g3⟩, f0, f1, f2, f3⟩ := tok_facts HK6.out
          cases q5 : Lx.isOne c with
          | true =>
            have hres := H2.out Q1.out Q2.out (by rw [Q4.out, Bool.and_false]) q5
            have HE := Lib.hid hres
            rw [show Lx.hd Lx.isOne (c :: r) = true from q5]
            clear q5 hres
            go_wp2_with fail
            refine bodyPost_ret (tok_results rfl _ _ w.heap.size _ _ _ _ (.int .i64 0) _ _ rfl rfl (tok_set HK6.out _ _ _ _)) rfl ?_
            refine ⟨?_, tok_below HB6.out (Nat.le_refl _) _ _ _ _⟩
            rw [HE.out, Lx.extract_str, show i + 1 - i = 1 by omega]; rfl
          | false =>
            have HE := Lib.hid (HR.out.trans (Lx.tok_res_err Q1.out Q2.out (by rw [Q4.out, Bool.and_false]) q5))
            rw [show Lx.hd Lx.isOne (c :: r) = false from q5]
            clear q5
            go_wp2_with fail
            refine bodyPost_ret (tok_results rfl _ _ w.heap.size _ _ _ _ (.int .i64 3) _ _ rfl rfl (tok_set HK6.out _ _ _ _)) rfl ?_
            exact ⟨by rw [HE.out]; rfl, tok_below HB6.out (Nat.le_refl _) _ _ _ _⟩
      | false =>
        rw [HT.out _ q3]
        have Q3 := Lib.hid q3
        clear q3
        go_wp2_with fail
        refine (has_walk Lx.mask_one B s (by omega) i (by omega) w4 (HS.out.below HB4.out hB)).mono ?_
        rintro e w6 ⟨rfl, hb6⟩
        have HB6 := Lib.hid (HB4.out.trans (hb6.mono hz))
        have HK6 := Lib.hid ((hb6.block w.heap.size (Array.getElem?_eq_some_iff.1 HK4.out).1).trans HK4.out)
        rw [HD.out]
        clear hb6
        have c1 := (HS.out.below HB6.out hB).text
        obtain ⟨⟨g0, g1, g2, g3⟩, f0, f1, f2, f3⟩ := tok_facts HK6.out
        cases q5 : Lx.isOne c with
        | true =>
          have hres := H2.out Q1.out Q2.out (by rw [Q3.out, Bool.false_and]) q5
          have HE := Lib.hid hres
          rw [show Lx.hd Lx.isOne (c :: r) = true from q5]
          clear q5 hres
          go_wp2_with fail
          refine bodyPost_ret (tok_results rfl _ _ w.heap.size _ _ _ _ (.int .i64 0) _ _ rfl rfl (tok_set HK6.out _ _ _ _)) rfl ?_
          refine ⟨?_, tok_below HB6.out (Nat.le_refl _) _ _ _ _⟩
          rw [HE.out, Lx.extract_str, show i + 1 - i = 1 by omega]; rfl
        | false =>
          have HE := Lib.hid (HR.out.trans (Lx.tok_res_err Q1.out Q2.out (by rw [Q3.out, Bool.false_and]) q5))
          rw [show Lx.hd Lx.isOne (c :: r) = false from q5]
          clear q5
          go_wp2_with fail
          refine bodyPost_ret (tok_results rfl _ _ w.heap.size _ _ _ _ (.int .i64 3) _ _ rfl rfl (tok_set HK6.out _ _ _ _)) rfl ?_
          exact ⟨by rw [HE.out]; rfl, tok_below HB6.out (Nat.le_refl _) _ _ _ _⟩
end Go.Proofs.YtoamkanofhhjfaaGreatDoor
/-
  The walk of the program's classTable.
-/
namespace Go.Proofs.YtoamkanofhhjfaaGreatDoor
open Go.RowKit

/-- The zero value of the table, its cells a letter. -/
theorem zero_table : ∃ Z : Array Value, Z.size = 256 ∧ (∀ n, n < 256 → Z[n]? = some (.int .u8 0)) ∧ ∀ w, (zeroValue 120).run Tryz.prog w = .ok (.agg Z) w := by
  have h : (Tryz.prog.info? 120).map (·.zero) = some (some (.agg (Array.replicate 256 (.int .u8 0)))) := by kernel_rfl
  refine ⟨Array.replicate 256 (.int .u8 0), by simp, fun n hn => by simp [hn], fun w => ?_⟩
  cases hi : Tryz.prog.info? 120 with
  | none => rw [hi] at h; cases h
  | some i =>
    rw [hi] at h
    have hz : i.zero = some (.agg (Array.replicate 256 (.int .u8 0))) := Option.some.inj h
    simp only [zeroValue, Sem.run_bind]
    rw [show (typeInfo 120).run Tryz.prog w = .ok i w by simp [typeInfo, hi]]
    simp only [Result.andThen, hz]
    simp
theorem table_info : (Tryz.prog.info? 120).map (·.size) = some 256 := by kernel_rfl

/-- What a table of classes is. -/
def Lx.IsTab (cs : Array Value) : Prop := cs.size = 256 ∧ cs.all (·.oneCell') = true ∧ ∀ n, n < 256 → cs[n]? = some (.int .u8 (Lx.cls n : Nat))
/-- One class more. -/
theorem Lx.tab_push {cs : Array Value} {k : Nat} (hcs : cs.size = 256) (hone : cs.all (·.oneCell') = true) (hk : k < 256) (hc : ∀ n, n < k → cs[n]? = some (.int .u8 (Lx.cls n : Nat))) :
    (cs.setIfInBounds k (.int .u8 (Lx.cls k : Nat))).size = 256 ∧ (cs.setIfInBounds k (.int .u8 (Lx.cls k : Nat))).all (·.oneCell') = true ∧
    ∀ n, n < k + 1 → (cs.setIfInBounds k (.int .u8 (Lx.cls k : Nat)))[n]? = some (.int .u8 (Lx.cls n : Nat)) := by
  refine ⟨by simp [hcs], ?_, fun n hn => ?_⟩
  · rw [Array.all_eq_true] at hone ⊢
    intro j hj
    rw [Array.getElem_setIfInBounds]
    split
    · rfl
    · exact hone j (by simpa using hj)
  · by_cases h : n = k
    · subst h
      rw [Array.getElem?_setIfInBounds_self_of_lt (by omega)]
    · rw [Array.getElem?_setIfInBounds_ne (by omega)]
      exact hc n (by omega)

set_option maxHeartbeats 4000000 in
set_option maxRecDepth 100000 in
theorem table_walk (w : World) :
    Calls Tryz.prog 84 #[] w fun e w' => ∃ cs : Array Value, Lx.IsTab cs ∧ e = .returned (.agg cs) ∧ Below w.heap.size w w' := by
  obtain ⟨Z, hZ1, hZ2, hZ3⟩ := zero_table
  have HZ := Lib.hid hZ2
  have hZ4 : ¬ Z = #[] := by intro h; rw [h] at hZ1; cases hZ1
  clear hZ2
  go_enter Tryz.func84, Tryz.ntmps84
  go_wp2_with fail
  have hb0 : Below w.heap.size w ((w.alloc (.cells Z 120)).alloc (.cells Z 120)) := ((Below.refl _ _).alloc (Nat.le_refl _) _).alloc (by simp) _
  have k0 : ((w.alloc (.cells Z 120)).alloc (.cells Z 120)).heap[w.heap.size]? = some (.cells Z 120 (0, 0)) := by
    rw [Below.heap_alloc _ _ _ (by simp)]; exact heap_alloc_new _ _
  have k1 : ((w.alloc (.cells Z 120)).alloc (.cells Z 120)).heap[w.heap.size + 1]? = some (.cells Z 120 (0, 0)) := by
    have := heap_alloc_new (w.alloc (.cells Z 120)) (.cells Z 120); simpa using this
  go_loopw [3] (fun v wr => ∃ (k : Nat) (cs : Array Value), k ≤ 256 ∧ v = .int .i64 k ∧ cs.size = 256 ∧ cs.all (·.oneCell') = true ∧ Hid (∀ n, n < k → cs[n]? = some (.int .u8 (Lx.cls n : Nat))) ∧
    wr.heap[w.heap.size + 1]? = some (.cells cs 120 (0, 0)) ∧ wr.heap[w.heap.size]? = some (.cells Z 120 (0, 0)) ∧ Below w.heap.size w wr) (fun v _ => 256 - (intOf v).toNat)
  case atStart =>
    refine ⟨0, Z, Nat.zero_le _, rfl, hZ1, ?_, fun n hn => absurd hn (Nat.not_lt_zero _), k1, k0, hb0⟩
    rw [Array.all_eq_true]
    intro j hj
    have := HZ.out j (by omega)
    rw [Array.getElem?_eq_getElem hj] at this
    rw [Option.some.inj this]; rfl
  case round =>
    obtain ⟨k, cs, hk, rfl, hcs, hone, hc, q1, q0, hb⟩ := hrel
    have HONE := Lib.hid hone
    have Q0 := Lib.hid q0
    have Q1 := Lib.hid q1
    clear k0 k1 hb0 hone q0
    by_cases hlt : k < 256
    · have g1 := Joins.cell_of_block q1 k
      have f1 := Joins.unfrozen_of_block q1 k
      obtain ⟨x, hx⟩ : ∃ x, cs[k]? = some x := ⟨_, Array.getElem?_eq_getElem (by omega)⟩
      rw [hx] at g1
      clear q1
      go_wp2_with fail
      refine (classof_walk k hlt wr).mono ?_
      rintro e w2 ⟨rfl, rfl⟩
      obtain ⟨v, hv⟩ : ∃ v, v = Lx.cls k := ⟨_, rfl⟩
      rw [← hv]
      have HV := Lib.hid hv
      clear hv
      go_wp2_with fail
      go_roundw
      case rel =>
        obtain ⟨p1, p2, p3⟩ := Lx.tab_push hcs HONE.out hlt hc.out
        rw [← HV.out] at p1 p2 p3
        refine ⟨k + 1, _, by omega, by go_num, p1, p2, p3, Joins.block_setCell Q1.out _, ?_, hb.setCell (p := ⟨w.heap.size + 1, k, none⟩) (by show w.heap.size ≤ w.heap.size + 1; omega) _⟩
        exact (Below.heap_setCell _ _ _ _ (by show w.heap.size ≠ w.heap.size + 1; omega)).trans Q0.out
      case measure => simp [intOf]; omega
    · have hk6 : k = 256 := by omega
      have HC2 : Hid (∀ n, n < 256 → cs[n]? = some (.int .u8 (Lx.cls n : Nat))) := by rw [hk6] at hc; exact hc
      have hlti : ¬ (k : Int) < 256 := by omega
      clear q1 hc hk6
      have HC := Lib.hid hcs
      clear hcs
      have hst : (storeCells ⟨w.heap.size, 0, none⟩ cs.toList).run Tryz.prog wr = .ok () (wr.setRow w.heap.size cs) := by
        have := run_storeCells_from (P := Tryz.prog) w.heap.size 120 cs.toList 0 Z wr Q0.out (by rw [Array.length_toList, HC.out, hZ1]) (fun v hv => (Array.all_eq_true_iff_forall_mem.1 HONE.out) v (by simpa using hv))
        simpa using this
      go_wp2_with (first
        | (refine wpList_load_row rfl _ _ rfl _ rfl _ cs _ _ Q1.out Tryz.underlying120 rfl (by rw [HC.out]; exact table_info) ?_))
      refine bodyPost_ret (results_cell_row rfl _ _ w.heap.size _ cs _ _ rfl (setRow_heap _ _ _ _ _ _ Q0.out) Tryz.underlying120 rfl (by rw [HC.out]; exact table_info)) rfl ?_
      exact ⟨cs, ⟨HC.out, HONE.out, HC2.out⟩, rfl, below_setRow hb (Nat.le_refl _) cs⟩
end Go.Proofs.YtoamkanofhhjfaaGreatDoor
/-
  The walk of the program's tokens: the source that its closure makes; the closure as an iterator.
-/
namespace Go.Proofs.YtoamkanofhhjfaaGreatDoor
open Go.RowKit Go.Shelf

attribute [local go_sem] Oper.semAt_some

set_option maxHeartbeats 1000000 in
set_option maxRecDepth 100000 in
theorem tokens_made (s : ByteArray) (w : World) :
    Calls Tryz.prog 76 #[.string s] w fun e w' => e = .returned (.func (.func 83) #[] #[.pointer (some ⟨w.heap.size, 0, none⟩)]) ∧ w' = w.alloc (.cells #[.string s] 9) := by
  go_enter Tryz.func76, Tryz.ntmps76
  go_wp2_with fail
  go_ret
  exact ⟨rfl, rfl⟩

/-- The zero value of a source, its cells a letter; and what a source is built to. -/
theorem zero_source : ∃ Z : Array Value, Z.size = 257 ∧ (∀ w, (zeroValue 123).run Tryz.prog w = .ok (.agg Z) w) := by
  have h : (Tryz.prog.info? 123).map (·.zero) = some (some (.agg (#[.string ⟨#[]⟩] ++ Array.replicate 256 (.int .u8 0)))) := by kernel_rfl
  refine ⟨#[.string ⟨#[]⟩] ++ Array.replicate 256 (.int .u8 0), by simp, fun w => ?_⟩
  cases hi : Tryz.prog.info? 123 with
  | none => rw [hi] at h; cases h
  | some i =>
    rw [hi] at h
    have hz : i.zero = some (.agg (#[.string ⟨#[]⟩] ++ Array.replicate 256 (.int .u8 0))) := Option.some.inj h
    simp only [zeroValue, Sem.run_bind]
    rw [show (typeInfo 123).run Tryz.prog w = .ok i w by simp [typeInfo, hi]]
    simp only [Result.andThen, hz]
    simp

namespace Lx
theorem fold_set (off : Nat) : ∀ (l : List Value) (k : Nat) (A : Array Value), off + k + l.length ≤ A.size →
    ((l.zipIdx k).foldl (fun cs x => cs.setIfInBounds (off + x.2) x.1) A).size = A.size ∧
    ∀ i, ((l.zipIdx k).foldl (fun cs x => cs.setIfInBounds (off + x.2) x.1) A)[i]? = if off + k ≤ i ∧ i < off + k + l.length then l[i - (off + k)]? else A[i]?
  | [], k, A, _ => ⟨rfl, fun i => by rw [if_neg (by rw [List.length_nil]; omega)]; rfl⟩
  | c :: l, k, A, h => by
    rw [List.length_cons] at h
    rw [List.zipIdx_cons, List.foldl_cons]
    obtain ⟨h1, h2⟩ := fold_set off l (k + 1) (A.setIfInBounds (off + k) c) (by rw [Array.size_setIfInBounds]; omega)
    refine ⟨by rw [h1, Array.size_setIfInBounds], fun i => ?_⟩
    rw [h2 i, List.length_cons]
    by_cases hi : i = off + k
    · subst hi
      rw [if_neg (by omega), if_pos (by omega), Array.getElem?_setIfInBounds_self_of_lt (by omega), Nat.sub_self]; rfl
    · rw [Array.getElem?_setIfInBounds_ne (by omega)]
      by_cases hr : off + (k + 1) ≤ i ∧ i < off + (k + 1) + l.length
      · rw [if_pos hr, if_pos (by omega), show i - (off + k) = (i - (off + (k + 1))) + 1 by omega, List.getElem?_cons_succ]
      · rw [if_neg hr, if_neg (by omega)]
end Lx
/-- What a source is built to. -/
theorem built_source (s : ByteArray) (cs : Array Value) (h : Lx.IsTab cs) :
    ∃ S : Array Value, Tryz.prog.built 123 [(0, .string s), (1, .agg cs)] = some S ∧ S.size = 257 ∧ S.all (·.oneCell') = true ∧ Lx.IsSrc s S := by
  obtain ⟨h1, h2, h3⟩ := h
  have hz : (Tryz.prog.info? 123).map (·.zero) = some (some (.agg (#[.string ⟨#[]⟩] ++ Array.replicate 256 (.int .u8 0)))) := by kernel_rfl
  obtain ⟨Z, hZ⟩ : ∃ Z : Array Value, Z = #[.string ⟨#[]⟩] ++ Array.replicate 256 (.int .u8 0) := ⟨_, rfl⟩
  have hZs : Z.size = 257 := by rw [hZ]; simp
  rw [← hZ] at hz
  cases hi : Tryz.prog.info? 123 with
  | none => rw [hi] at hz; cases hz
  | some it =>
    rw [hi] at hz
    have hz2 : it.zero = some (.agg Z) := Option.some.inj hz
    obtain ⟨h5, h6⟩ := Lx.fold_set 1 cs.toList 0 (Z.setIfInBounds 0 (.string s)) (by rw [Array.size_setIfInBounds, hZs, Array.length_toList, h1]; omega)
    obtain ⟨S, hS⟩ : ∃ S, S = ((cs.toList.zipIdx 0).foldl (fun cs x => cs.setIfInBounds (1 + x.2) x.1) (Z.setIfInBounds 0 (.string s))) := ⟨_, rfl⟩
    rw [← hS] at h5 h6
    rw [Array.size_setIfInBounds, hZs] at h5
    have s0 : S[0]? = some (.string s) := by
      rw [h6 0, if_neg (by omega), Array.getElem?_setIfInBounds_self_of_lt (by omega)]
    have s1 : ∀ n, n < 256 → S[n + 1]? = cs[n]? := fun n hn => by
      rw [h6 (n + 1), if_pos (by rw [Array.length_toList]; omega), show n + 1 - (1 + 0) = n by omega, Array.getElem?_toList]
    refine ⟨S, ?_, h5, ?_, s0, fun n hn => by rw [s1 n hn, h3 n hn]⟩
    · unfold Program.built
      rw [hi, Tryz.underlying123]
      simp only [hz2]
      split
      · rename_i z places hzz hp
        obtain rfl : Value.agg Z = z := Option.some.inj hzz
        have hpl : places = [(0, 1), (1, 256)] := Option.some.inj (hp.symm.trans (show _ = some [(0, 1), (1, 256)] by kernel_rfl))
        subst hpl
        have g1 : ¬ ((decide ((Value.string s).cells.size ≠ 1) || decide (0 + (Value.string s).cells.size > (Value.agg Z).cells.size)) = true) := by
          simp [Value.cells, hZs]
        have g2 : ¬ ((decide ((Value.agg cs).cells.size ≠ 256) || decide (1 + (Value.agg cs).cells.size > (Z.setIfInBounds 0 (.string s)).size)) = true) := by
          simp [Value.cells, hZs, h1]
        have e1 : (Value.string s).cells.zipIdx.foldl (fun cs x => cs.setIfInBounds (0 + x.2) x.1) (Value.agg Z).cells = Z.setIfInBounds 0 (.string s) := by
          simp [Value.cells]
        have e2 : (Value.agg cs).cells.zipIdx.foldl (fun cs x => cs.setIfInBounds (1 + x.2) x.1) (Z.setIfInBounds 0 (.string s)) = S := by
          rw [hS, ← Array.foldl_toList, Array.toList_zipIdx]; rfl
        simp only [Instr.fill]
        simp only [show ([(0, 1), (1, 256)] : List (Nat × Nat)).toArray[0]? = some (0, 1) from rfl, show ([(0, 1), (1, 256)] : List (Nat × Nat)).toArray[1]? = some (1, 256) from rfl]
        rw [if_neg g1, e1, if_neg g2, e2]
      · rename_i hno
        exact absurd (show _ = some [(0, 1), (1, 256)] by kernel_rfl) (fun h => hno _ _ rfl h)
    · rw [Array.all_eq_true]
      intro j hj
      have e := Array.getElem?_eq_getElem hj
      cases j with
      | zero => rw [s0] at e; rw [← Option.some.inj e]; rfl
      | succ n =>
        rw [s1 n (by omega), h3 n (by omega)] at e
        rw [← Option.some.inj e]; rfl

namespace Lx
theorem step_of {c : Bool} {A B : Prop} (hc : c = true) (h : A) : if c = true then A else B := by rw [if_pos hc]; exact h
end Lx
section
variable {ops : Array Oper} {o : Oper} {a : Act} {W : World} {K : Act → World → Prop} {Q : Exit → Act → World → Prop} {E : Prop}
theorem st_load {n Bt : Nat} {w : World} {s : ByteArray} (hgd : o.guard = none) (ho : o.op = .load 9 (.tmp 1)) (hx : a.eval (.tmp 1) = .pointer (some ⟨Bt, 0, none⟩)) (hb : Below n w W) (hlt : Bt < n)
    (hc : w.cell? ⟨Bt, 0, none⟩ = some (.string s)) (h : K (a.put o.dst (.string s)) W) : if Region.wanted o (yielded ops a.tmps) = true then Oper.wp Tryz.prog o a W K Q else E := by
  refine Lx.step_of (by simp [Region.wanted, hgd]) ?_
  have hc2 : W.cell? ⟨Bt, 0, none⟩ = some (.string s) := (hb.cell (p := ⟨Bt, 0, none⟩) hlt).trans hc
  unfold Oper.wp execOp
  simp only [ho, hx]
  go_simp
  exact h
theorem st_alloc {Z : Array Value} (hZ : ∀ w, (zeroValue 123).run Tryz.prog w = .ok (.agg Z) w) (hgd : o.guard = none) (ho : o.op = .alloc 123)
    (h : K (a.put o.dst (.pointer (some ⟨W.heap.size, 0, none⟩))) (W.alloc (.cells Z 123))) : if Region.wanted o (yielded ops a.tmps) = true then Oper.wp Tryz.prog o a W K Q else E := by
  refine Lx.step_of (by simp [Region.wanted, hgd]) ?_
  unfold Oper.wp execOp
  simp only [ho]
  go_simp
  exact h
theorem st_build {s : ByteArray} {cs : Array Value} (hcs : Lx.IsTab cs) (hgd : o.guard = none) (ho : o.op = .build 123 #[(0, .tmp 7), (1, .tmp 8)]) (h7 : a.eval (.tmp 7) = .string s) (h8 : a.eval (.tmp 8) = .agg cs)
    (h : ∀ S : Array Value, S.size = 257 → S.all (·.oneCell') = true → Lx.IsSrc s S → K (a.put o.dst (.agg S)) W) : if Region.wanted o (yielded ops a.tmps) = true then Oper.wp Tryz.prog o a W K Q else E := by
  refine Lx.step_of (by simp [Region.wanted, hgd]) ?_
  obtain ⟨S, hb0, q1, q2, q3⟩ := built_source s cs hcs
  have hb : Tryz.prog.built 123 (#[(0, Operand.tmp 7), (1, Operand.tmp 8)].map fun (i, x) => (i, a.eval x)).toList = some S := by
    rw [← hb0, ← h7, ← h8]; simp
  refine wp_build _ _ ho (by rw [hb]; rfl) ?_
  rw [hb]
  exact h S q1 q2 q3
theorem st_store {g : Nat} {Z S : Array Value} (hgd : o.guard = none) (ho : o.op = .store 123 (.tmp 3) (.tmp 9)) (h3 : a.eval (.tmp 3) = .pointer (some ⟨g, 0, none⟩)) (h9 : a.eval (.tmp 9) = .agg S)
    (hk : W.heap[g]? = some (.cells Z 123 (0, 0))) (hz : Z.size = 257) (hs : S.size = 257) (h1 : S.all (·.oneCell') = true)
    (h : K (a.put o.dst undef) (W.setRow g S)) : if Region.wanted o (yielded ops a.tmps) = true then Oper.wp Tryz.prog o a W K Q else E := by
  refine Lx.step_of (by simp [Region.wanted, hgd]) ?_
  exact wp_store_row _ _ _ ho g S h3 h9 _ Z hk (by rw [hs]; kernel_rfl) (by rw [hz, hs]) h1 h
theorem st_call (hgd : o.guard = none) (ho : o.op = .call { callee := .value (.func 84), args := #[], argTypes := #[] })
    (h : ∀ cs W', Lx.IsTab cs → Below W.heap.size W W' → K (a.put o.dst (.agg cs)) W') : if Region.wanted o (yielded ops a.tmps) = true then Oper.wp Tryz.prog o a W K Q else E := by
  refine Lx.step_of (by simp [Region.wanted, hgd]) ?_
  unfold Oper.wp execOp
  simp only [ho]
  go_simp
  refine (table_walk W).mono ?_
  rintro e w2 ⟨cs, ht, rfl, hb⟩
  exact h cs w2 ht hb
end
end Go.Proofs.YtoamkanofhhjfaaGreatDoor
