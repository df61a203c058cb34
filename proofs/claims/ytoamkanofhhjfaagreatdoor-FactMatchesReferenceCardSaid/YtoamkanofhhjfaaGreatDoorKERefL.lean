import Derived.Test.YtoamkanofhhjfaaGreatDoorKERefA
import Derived.Test.YtoamkanofhhjfaaGreatDoorKEClsR
import Derived.Test.YtoamkanofhhjfaaGreatDoorKEIter
import Derived.Deep.RegionHeld3
import Derived.Deep.DeepCutAuto
import Derived.Test.YtoamkanofhhjfaaGreatDoorKELexW
/-
  The walk of the reference's next.
-/
namespace Go.Proofs.YtoamkanofhhjfaaGreatDoor
open Go.RowKit

namespace Lx
theorem run_at {p : UInt8 → Bool} {s : ByteArray} {i : Nat} (hi : i < s.size) (h : p s[i] = true) : run p s i = run p s (i + 1) + 1 := by
  refine (run_yes ?_).2
  rw [drop_at s i hi]; exact h
theorem run_not {p : UInt8 → Bool} {s : ByteArray} {i : Nat} (hi : i < s.size) (h : p s[i] = false) : run p s i = 0 := by
  refine run_no ?_
  rw [drop_at s i hi]; exact h
theorem run_end {p : UInt8 → Bool} {s : ByteArray} {i : Nat} (hi : s.size ≤ i) : run p s i = 0 := by
  refine run_no ?_
  rw [drop_end s i hi]; rfl
/-- What the reference's next says: without an offset where it is an error. -/
def refRes (x : Nx) (i : Nat) : Tok × Nat := match x with | .tok k t n => (⟨k, t, n, i⟩, 0) | .err e => (⟨0, [], 0, 0⟩, e)
end Lx

namespace Lx
theorem ref_ok {x : Nx} {i : Nat} {t : Tok} (h : res x i = (t, 0)) (hk : t.kind ≠ 0) : refRes x i = (t, 0) := by
  cases x with
  | tok k u n => exact h
  | err e =>
    have := congrArg (fun y => y.1.kind) h
    exact absurd this.symm hk
theorem ref_err {x : Nx} {i e : Nat} (h : res x i = (noTok i, e)) (he : e ≠ 0) : refRes x i = (⟨0, [], 0, 0⟩, e) := by
  cases x with
  | tok k u n =>
    have := congrArg (fun y => y.2) h
    exact absurd this.symm he
  | err f =>
    have := congrArg (fun y => y.2) h
    have : f = e := this
    subst this; rfl
end Lx
namespace Lx
/-- One digit more of a number in a text. -/
theorem num_step {s : ByteArray} {i k : Nat} (hk : i ≤ k) (hz : k < i + run isDigit s i) (h7 : run isDigit s i ≤ 7) (hks : k < s.size) :
    48 ≤ s[k].toNat ∧ s[k].toNat ≤ 57 ∧ value (((tx s).drop i).take (k + 1 - i)) = 10 * value (((tx s).drop i).take (k - i)) + (s[k].toNat - 48) ∧ value (((tx s).drop i).take (k - i)) < 10000000 := by
  have hl : k - i < ((tx s).drop i).length := by rw [List.length_drop, tx_len]; omega
  have hel : ((tx s).drop i)[k - i] = s[k] := by
    have h1 := drop_at s k hks
    have h2 : ((tx s).drop i).drop (k - i) = (tx s).drop k := by rw [List.drop_drop, show i + (k - i) = k by omega]
    rw [← h2, List.drop_eq_getElem_cons hl] at h1
    exact (List.cons.inj h1).1
  have hall : (((tx s).drop i).take (run isDigit s i)).all isDigit = true := by rw [take_run]; exact all_take _ _
  have hd : isDigit s[k] = true := by
    have hm : ((tx s).drop i)[k - i] ∈ ((tx s).drop i).take (run isDigit s i) := by
      rw [List.mem_take_iff_getElem]
      exact ⟨k - i, by omega, rfl⟩
    rw [hel] at hm
    exact List.all_eq_true.1 hall _ hm
  have h1 := (digit_iff s[k]).1 hd
  refine ⟨h1.1, h1.2, ?_, ?_⟩
  · rw [show k + 1 - i = (k - i) + 1 by omega, List.take_succ_eq_append_getElem hl, value_snoc, hel]
  · rcases value_le (((tx s).drop i).take (k - i)) with h | h
    · refine Nat.lt_of_lt_of_le h ?_
      exact Nat.pow_le_pow_right (by decide) (show (((tx s).drop i).take (k - i)).length ≤ 7 by rw [List.length_take]; omega)
    · exfalso
      have : (((tx s).drop i).take (k - i)).all isDigit = true := by
        rw [List.all_eq_true] at hall ⊢
        intro x hx
        refine hall x ?_
        have : ((tx s).drop i).take (k - i) = (((tx s).drop i).take (run isDigit s i)).take (k - i) := by rw [List.take_take, show min (k - i) (run isDigit s i) = k - i by omega]
        rw [this] at hx
        exact List.mem_of_mem_take hx
      rw [this] at h; cases h
end Lx
/-- The two tokens that next makes: its result, and the one that it fills. -/
structure Two (w : World) (k : Int) (x : ByteArray) (m : Int) (i : Nat) (W : World) : Prop where
  zero : W.heap[w.heap.size]? = some tok0
  tok : W.heap[w.heap.size + 1]? = some (.cells #[.int .i64 k, .string x, .int .i64 m, .int .i64 (i : Nat)] 60 (0, 0))
  below : Below w.heap.size w W
theorem Two.start (w : World) (i : Nat) : Two w 0 ⟨#[]⟩ 0 i ((w.alloc tok0).alloc (.cells #[.int .i64 0, .string ⟨#[]⟩, .int .i64 0, .int .i64 (i : Nat)] 60)) := by
  refine ⟨?_, ?_, ((Below.refl _ _).alloc (Nat.le_refl _) _).alloc (by simp) _⟩
  · rw [Below.heap_alloc _ _ _ (by simp)]; exact heap_alloc_new _ _
  · have := heap_alloc_new (w.alloc tok0) (.cells #[.int .i64 0, .string ⟨#[]⟩, .int .i64 0, .int .i64 (i : Nat)] 60)
    simpa using this
theorem Two.kind {w W : World} {k : Int} {x : ByteArray} {m : Int} {i : Nat} (h : Two w k x m i W) (k' : Int) : Two w k' x m i (W.setCell ⟨w.heap.size + 1, 0, none⟩ (.int .i64 k')) :=
  ⟨(Below.heap_setCell _ _ _ _ (by show w.heap.size ≠ w.heap.size + 1; omega)).trans h.zero, by rw [Joins.block_setCell h.tok]; rfl, h.below.setCell (p := ⟨w.heap.size + 1, 0, none⟩) (by show w.heap.size ≤ w.heap.size + 1; omega) _⟩
theorem Two.text {w W : World} {k : Int} {x : ByteArray} {m : Int} {i : Nat} (h : Two w k x m i W) (x' : ByteArray) : Two w k x' m i (W.setCell ⟨w.heap.size + 1, 1, none⟩ (.string x')) :=
  ⟨(Below.heap_setCell _ _ _ _ (by show w.heap.size ≠ w.heap.size + 1; omega)).trans h.zero, by rw [Joins.block_setCell h.tok]; rfl, h.below.setCell (p := ⟨w.heap.size + 1, 1, none⟩) (by show w.heap.size ≤ w.heap.size + 1; omega) _⟩
theorem Two.num {w W : World} {k : Int} {x : ByteArray} {m : Int} {i : Nat} (h : Two w k x m i W) (m' : Int) : Two w k x m' i (W.setCell ⟨w.heap.size + 1, 2, none⟩ (.int .i64 m')) :=
  ⟨(Below.heap_setCell _ _ _ _ (by show w.heap.size ≠ w.heap.size + 1; omega)).trans h.zero, by rw [Joins.block_setCell h.tok]; rfl, h.below.setCell (p := ⟨w.heap.size + 1, 2, none⟩) (by show w.heap.size ≤ w.heap.size + 1; omega) _⟩
theorem Two.drew {w W : World} {k : Int} {x : ByteArray} {m : Int} {i : Nat} (h : Two w k x m i W) : Two w k x m i W.drew := ⟨h.zero, h.tok, h.below.drew⟩
theorem Two.facts {w W : World} {k : Int} {x : ByteArray} {m : Int} {i : Nat} (h : Two w k x m i W) :
    (W.cell? ⟨w.heap.size, 0, none⟩ = some (.int .i64 0) ∧ W.cell? ⟨w.heap.size, 1, none⟩ = some (.string ⟨#[]⟩) ∧ W.cell? ⟨w.heap.size, 2, none⟩ = some (.int .i64 0) ∧ W.cell? ⟨w.heap.size, 3, none⟩ = some (.int .i64 0)) ∧
    (W.frozen? ⟨w.heap.size, 0, none⟩ = false ∧ W.frozen? ⟨w.heap.size, 1, none⟩ = false ∧ W.frozen? ⟨w.heap.size, 2, none⟩ = false ∧ W.frozen? ⟨w.heap.size, 3, none⟩ = false) ∧
    (W.cell? ⟨w.heap.size + 1, 0, none⟩ = some (.int .i64 k) ∧ W.cell? ⟨w.heap.size + 1, 1, none⟩ = some (.string x) ∧ W.cell? ⟨w.heap.size + 1, 2, none⟩ = some (.int .i64 m) ∧ W.cell? ⟨w.heap.size + 1, 3, none⟩ = some (.int .i64 (i : Nat))) ∧
    (W.frozen? ⟨w.heap.size + 1, 0, none⟩ = false ∧ W.frozen? ⟨w.heap.size + 1, 1, none⟩ = false ∧ W.frozen? ⟨w.heap.size + 1, 2, none⟩ = false) := by
  obtain ⟨h1, f1⟩ := tok_facts h.zero
  exact ⟨h1, f1, ⟨Joins.cell_of_block h.tok 0, Joins.cell_of_block h.tok 1, Joins.cell_of_block h.tok 2, Joins.cell_of_block h.tok 3⟩, Joins.unfrozen_of_block h.tok 0, Joins.unfrozen_of_block h.tok 1, Joins.unfrozen_of_block h.tok 2⟩

set_option maxHeartbeats 4000000 in
set_option maxRecDepth 100000 in
theorem refnext_walk (s : ByteArray) (hs : s.size < 9223372036854775807) (i : Nat) (hi : i < s.size) (w : World) :
    Calls Tryz.prog 63 #[.string s, .int .i64 i] w (Lx.TokOut (Lx.refRes (Lx.next s[i] ((Lx.tx s).drop (i + 1))) i) w) := by
  obtain ⟨R, hR⟩ : ∃ R, R = Lx.refRes (Lx.next s[i] ((Lx.tx s).drop (i + 1))) i := ⟨_, rfl⟩
  rw [← hR]
  have HR := Lib.hid hR
  have hii : (i : Int) < (s.size : Int) := by omega
  have ha : Below w.heap.size w (w.alloc tok0) := (Below.refl _ _).alloc (Nat.le_refl _) _
  clear hR
  cases q1 : Lx.isLetter s[i] with
  | true =>
    have HL := Lib.hid (refletter_walk s[i])
    rw [q1] at HL
    have hnr := Lx.name_res (Lx.drop_at s i hi) q1
    have hr0 := Lx.run_at (p := Lx.isWord) hi (Lx.letter_word q1)
    have hrl := Lx.run_le Lx.isWord s i (by omega)
    obtain ⟨z, hz⟩ : ∃ z, z = i + Lx.run Lx.isWord s i := ⟨_, rfl⟩
    have HZ1 : Hid (z = (i + 1) + Lx.run Lx.isWord s (i + 1)) := by show _ = _; rw [hz, hr0]; omega
    have HZ := Lib.hid hz
    have hzs : z ≤ s.size := by omega
    have hiz : i < z := by omega
    have HNR := Lib.hid hnr
    have HW := Lib.hid (fun c w => refword_walk c w)
    clear q1 hnr hr0 hrl hz
    go_enter Tryz.func63, Tryz.ntmps63
    go_wp2_with fail
    refine (HL.out _).mono ?_
    rintro e w2 ⟨rfl, hw⟩
    subst hw
    go_wp2_with fail
    obtain ⟨W, hW⟩ : ∃ W, W = ((w.alloc tok0).alloc (.cells #[.int .i64 0, .string ⟨#[]⟩, .int .i64 0, .int .i64 (i : Nat)] 60)) := ⟨_, rfl⟩
    have h2 : Two w 0 ⟨#[]⟩ 0 i W := by rw [hW]; exact Two.start w i
    have hWr : ((w.alloc (.cells #[.int .i64 0, .string ⟨#[]⟩, .int .i64 0, .int .i64 0] 60)).alloc (.cells #[.int .i64 0, .string ⟨#[]⟩, .int .i64 0, .int .i64 (i : Nat)] 60)) = W := hW.symm
    rw [hWr]
    clear hW hWr ha HL
    go_loopw [6] (fun v wr => ∃ j : Nat, i < j ∧ j ≤ s.size ∧ v = .int .i64 j ∧ Hid (z = j + Lx.run Lx.isWord s j) ∧ W = wr) (fun v _ => s.size - (intOf v).toNat)
    case atStart => exact ⟨i + 1, by omega, by omega, by simp, HZ1, rfl⟩
    case round =>
      obtain ⟨j, hij, hj, rfl, hz, hw⟩ := hrel
      subst hw
      by_cases hjl : j < s.size
      · have hji : (j : Int) < (s.size : Int) := by omega
        cases hq : Lx.isWord s[j] with
        | true =>
          have HWJ := Lib.hid (HW.out s[j])
          rw [hq] at HWJ
          have hzn : Hid (z = (j + 1) + Lx.run Lx.isWord s (j + 1)) := by show _ = _; rw [hz.out, Lx.run_at hjl hq]; omega
          clear hq hz
          go_wp2_with fail
          refine (HWJ.out W).mono ?_
          rintro e w3 ⟨rfl, hw⟩
          subst hw
          go_wp2_with fail
          go_roundw
          case rel => exact ⟨j + 1, by omega, by omega, by go_num, hzn, trivial⟩
          case measure => simp [intOf]; omega
        | false =>
          have HWJ := Lib.hid (HW.out s[j])
          rw [hq] at HWJ
          have hzj : z = j := by rw [hz.out, Lx.run_not hjl hq]; rfl
          clear hq hz
          subst hzj
          obtain ⟨⟨g0, g1, g2, g3⟩, ⟨f0, f1, f2, f3⟩, ⟨k0, k1, k2, k3⟩, l0, l1, l2⟩ := h2.facts
          by_cases h24 : z - i ≤ 24
          · have h24i : (z : Int) - (i : Int) ≤ 24 := by omega
            have HRR : Hid (R = (⟨1, ((Lx.tx s).drop i).take (z - i), 0, i⟩, 0)) := by
              show _ = _
              rw [HR.out]
              refine Lx.ref_ok (t := ⟨1, ((Lx.tx s).drop i).take (z - i), 0, i⟩) ?_ (by show (1 : Nat) ≠ 0; decide)
              rw [HNR.out, Lx.nameR, show Lx.run Lx.isWord s i = z - i by have := HZ.out; omega, if_pos h24]
            go_wp2_with fail
            refine (HWJ.out W).mono ?_
            rintro e w3 ⟨rfl, hw⟩
            subst hw
            go_wp2_with fail
            refine bodyPost_ret (tok_results rfl _ _ w.heap.size _ _ _ _ (.int .i64 0) _ _ rfl rfl (tok_set ((h2.kind 1).text _).zero _ _ _ _)) rfl ?_
            exact ⟨by rw [HRR.out, Lx.extract_str]; rfl, tok_below ((h2.kind 1).text _).below (Nat.le_refl _) _ _ _ _⟩
          · have h24i : ¬ (z : Int) - (i : Int) ≤ 24 := by omega
            have HRR : Hid (R = (⟨0, [], 0, 0⟩, 2)) := by
              show _ = _
              rw [HR.out]
              refine Lx.ref_err ?_ (by decide)
              rw [HNR.out, Lx.nameR, show Lx.run Lx.isWord s i = z - i by have := HZ.out; omega, if_neg h24]
            go_wp2_with fail
            refine (HWJ.out W).mono ?_
            rintro e w3 ⟨rfl, hw⟩
            subst hw
            go_wp2_with fail
            refine bodyPost_ret (tok_results rfl _ _ w.heap.size _ _ _ _ (.int .i64 2) _ _ rfl rfl (tok_set (h2.kind 1).zero _ _ _ _)) rfl ?_
            exact ⟨by rw [HRR.out]; rfl, tok_below (h2.kind 1).below (Nat.le_refl _) _ _ _ _⟩
      · have hji : ¬ (j : Int) < (s.size : Int) := by omega
        have hzj : z = j := by rw [hz.out, Lx.run_end (by omega)]; rfl
        clear hz
        subst hzj
        obtain ⟨⟨g0, g1, g2, g3⟩, ⟨f0, f1, f2, f3⟩, ⟨k0, k1, k2, k3⟩, l0, l1, l2⟩ := h2.facts
        by_cases h24 : z - i ≤ 24
        · have h24i : (z : Int) - (i : Int) ≤ 24 := by omega
          have HRR : Hid (R = (⟨1, ((Lx.tx s).drop i).take (z - i), 0, i⟩, 0)) := by
            show _ = _
            rw [HR.out]
            refine Lx.ref_ok (t := ⟨1, ((Lx.tx s).drop i).take (z - i), 0, i⟩) ?_ (by show (1 : Nat) ≠ 0; decide)
            rw [HNR.out, Lx.nameR, show Lx.run Lx.isWord s i = z - i by have := HZ.out; omega, if_pos h24]
          go_wp2_with fail
          refine bodyPost_ret (tok_results rfl _ _ w.heap.size _ _ _ _ (.int .i64 0) _ _ rfl rfl (tok_set ((h2.kind 1).text _).zero _ _ _ _)) rfl ?_
          exact ⟨by rw [HRR.out, Lx.extract_str]; rfl, tok_below ((h2.kind 1).text _).below (Nat.le_refl _) _ _ _ _⟩
        · have h24i : ¬ (z : Int) - (i : Int) ≤ 24 := by omega
          have HRR : Hid (R = (⟨0, [], 0, 0⟩, 2)) := by
            show _ = _
            rw [HR.out]
            refine Lx.ref_err ?_ (by decide)
            rw [HNR.out, Lx.nameR, show Lx.run Lx.isWord s i = z - i by have := HZ.out; omega, if_neg h24]
          go_wp2_with fail
          refine bodyPost_ret (tok_results rfl _ _ w.heap.size _ _ _ _ (.int .i64 2) _ _ rfl rfl (tok_set (h2.kind 1).zero _ _ _ _)) rfl ?_
          exact ⟨by rw [HRR.out]; rfl, tok_below (h2.kind 1).below (Nat.le_refl _) _ _ _ _⟩
  | false =>
    have HL := Lib.hid (refletter_walk s[i])
    rw [q1] at HL
    cases q2 : Lx.isDigit s[i] with
    | true =>
      have HD := Lib.hid (refdigit_walk s[i])
      rw [q2] at HD
      have hnr := Lx.num_res (Lx.drop_at s i hi) q2
      have hr0 := Lx.run_at (p := Lx.isDigit) hi q2
      have hrl := Lx.run_le Lx.isDigit s i (by omega)
      obtain ⟨z, hz⟩ : ∃ z, z = i + Lx.run Lx.isDigit s i := ⟨_, rfl⟩
      have HZ1 : Hid (z = (i + 1) + Lx.run Lx.isDigit s (i + 1)) := by show _ = _; rw [hz, hr0]; omega
      have HZ := Lib.hid hz
      have hzs : z ≤ s.size := by omega
      have hiz : i < z := by omega
      have HNR := Lib.hid hnr
      have HW := Lib.hid (fun c w => refword_walk c w)
      have HDW := Lib.hid (fun c w => refdigit_walk c w)
      clear q1 q2 hnr hr0 hrl hz
      go_enter Tryz.func63, Tryz.ntmps63
      go_wp2_with fail
      refine (HL.out _).mono ?_
      rintro e w2 ⟨rfl, hw⟩
      subst hw
      go_wp2_with fail
      refine (HD.out _).mono ?_
      rintro e w2 ⟨rfl, hw⟩
      subst hw
      go_wp2_with fail
      obtain ⟨W, hW⟩ : ∃ W, W = ((w.alloc tok0).alloc (.cells #[.int .i64 0, .string ⟨#[]⟩, .int .i64 0, .int .i64 (i : Nat)] 60)) := ⟨_, rfl⟩
      have h2 : Two w 0 ⟨#[]⟩ 0 i W := by rw [hW]; exact Two.start w i
      have hWr : ((w.alloc (.cells #[.int .i64 0, .string ⟨#[]⟩, .int .i64 0, .int .i64 0] 60)).alloc (.cells #[.int .i64 0, .string ⟨#[]⟩, .int .i64 0, .int .i64 (i : Nat)] 60)) = W := hW.symm
      rw [hWr]
      clear hW hWr ha HL HD
      go_loopw [6] (fun v wr => ∃ j : Nat, i < j ∧ j ≤ s.size ∧ v = .int .i64 j ∧ Hid (z = j + Lx.run Lx.isDigit s j) ∧ W = wr) (fun v _ => s.size - (intOf v).toNat)
      case atStart => exact ⟨i + 1, by omega, by omega, by simp, HZ1, rfl⟩
      case round =>
        obtain ⟨j, hij, hj, rfl, hz, hw⟩ := hrel
        subst hw
        by_cases hjl : j < s.size
        · have hji : (j : Int) < (s.size : Int) := by omega
          cases hq : Lx.isDigit s[j] with
          | true =>
            have HWJ := Lib.hid (HDW.out s[j])
            rw [hq] at HWJ
            have hzn : Hid (z = (j + 1) + Lx.run Lx.isDigit s (j + 1)) := by show _ = _; rw [hz.out, Lx.run_at hjl hq]; omega
            clear hq hz
            go_wp2_with fail
            refine (HWJ.out W).mono ?_
            rintro e w3 ⟨rfl, hw⟩
            subst hw
            go_wp2_with fail
            go_roundw
            case rel => exact ⟨j + 1, by omega, by omega, by go_num, hzn, trivial⟩
            case measure => simp [intOf]; omega
          | false =>
            have HWJ := Lib.hid (HDW.out s[j])
            rw [hq] at HWJ
            have hzj : z = j := by rw [hz.out, Lx.run_not hjl hq]; rfl
            clear hz
            subst hzj
            have hqd := hq
            clear hq
            obtain ⟨⟨g0, g1, g2, g3⟩, ⟨f0, f1, f2, f3⟩, ⟨k0, k1, k2, k3⟩, l0, l1, l2⟩ := h2.facts
            by_cases h7 : z - i ≤ 7
            · have h7i : (z : Int) - (i : Int) ≤ 7 := by omega
              have hdz := Lx.drop_at s z hjl
              have HWZ := Lib.hid (HW.out s[z])
              cases hqw : Lx.isWord s[z] with
              | true =>
                rw [hqw] at HWZ
                have hbad : ¬ (z - i ≤ 7 ∧ Lx.hd (fun c => Lx.isLetter c || c == 95) ((Lx.tx s).drop z) = false) := by
                  rw [hdz]
                  rintro ⟨_, h⟩
                  have h : (Lx.isLetter s[z] || s[z] == 95) = false := h
                  unfold Lx.isWord at hqw
                  rw [hqd, Bool.or_false] at hqw
                  rw [hqw] at h; cases h
                clear hdz hqw hqd
                have HRR : Hid (R = (⟨0, [], 0, 0⟩, 4)) := by
                  show _ = _
                  rw [HR.out]
                  refine Lx.ref_err ?_ (by decide)
                  have hzr : Lx.run Lx.isDigit s i = z - i := by have := HZ.out; omega
                  rw [HNR.out, Lx.numR, hzr, show i + (z - i) = z by omega, if_neg hbad]
                clear hbad
                go_wp2_with fail
                refine (HWJ.out W).mono ?_
                rintro e w3 ⟨rfl, hw⟩
                subst hw
                go_wp2_with fail
                refine (HWZ.out _).mono ?_
                rintro e w3 ⟨rfl, hw⟩
                subst hw
                go_wp2_with fail
                refine bodyPost_ret (tok_results rfl _ _ w.heap.size _ _ _ _ (.int .i64 4) _ _ rfl rfl (tok_set (h2.kind 2).zero _ _ _ _)) rfl ?_
                exact ⟨by rw [HRR.out]; rfl, tok_below (h2.kind 2).below (Nat.le_refl _) _ _ _ _⟩
              | false =>
                rw [hqw] at HWZ
                have hnext : Lx.hd (fun c => Lx.isLetter c || c == 95) ((Lx.tx s).drop z) = false := by
                  rw [hdz]
                  show (Lx.isLetter s[z] || s[z] == 95) = false
                  unfold Lx.isWord at hqw
                  rw [hqd, Bool.or_false] at hqw
                  exact hqw
                clear hdz hqw hqd
                have HRR : Hid (R = (⟨2, ((Lx.tx s).drop i).take (z - i), Lx.value (((Lx.tx s).drop i).take (z - i)), i⟩, 0)) := by
                  show _ = _
                  rw [HR.out]
                  refine Lx.ref_ok (t := ⟨2, ((Lx.tx s).drop i).take (z - i), Lx.value (((Lx.tx s).drop i).take (z - i)), i⟩) ?_ (by show (2 : Nat) ≠ 0; decide)
                  have hzr : Lx.run Lx.isDigit s i = z - i := by have := HZ.out; omega
                  rw [HNR.out, Lx.numR, hzr, show i + (z - i) = z by omega, if_pos ⟨h7, hnext⟩]
                clear hnext
                go_wp2_with fail
                refine (HWJ.out W).mono ?_
                rintro e w3 ⟨rfl, hw⟩
                subst hw
                go_wp2_with fail
                refine (HWZ.out _).mono ?_
                rintro e w3 ⟨rfl, hw⟩
                subst hw
                go_wp2_with fail
                go_loopw [9] (fun v wr => ∃ (k m : Nat), i ≤ k ∧ k ≤ z ∧ v = .int .i64 k ∧ Hid (m = Lx.value (((Lx.tx s).drop i).take (k - i))) ∧ Two w 2 ⟨#[]⟩ (m : Int) i wr) (fun v _ => z - (intOf v).toNat)
                case atStart => exact ⟨i, 0, Nat.le_refl _, by omega, rfl, (by show _ = _; rw [Nat.sub_self]; rfl), h2.kind 2⟩
                case round =>
                  obtain ⟨k, m, hik, hkz, rfl, hmv, h3⟩ := hrel
                  obtain ⟨⟨g0, g1, g2, g3⟩, ⟨f0, f1, f2, f3⟩, ⟨k0, k1, k2, k3⟩, l0, l1, l2⟩ := h3.facts
                  by_cases hkl : k < z
                  · have hks : k < s.size := by omega
                    have hki : (k : Int) < (z : Int) := by omega
                    have hksi : (k : Int) < (s.size : Int) := by omega
                    obtain ⟨d1, d2, d3, d4⟩ := Lx.num_step hik (by have := HZ.out; omega) (by have := HZ.out; omega) hks
                    rw [← hmv.out] at d3 d4
                    have HM2 : Hid (10 * m + (s[k].toNat - 48) = Lx.value (((Lx.tx s).drop i).take (k + 1 - i))) := d3.symm
                    have H3 := Lib.hid h3
                    have hw1 : IntKind.i64.wrap (10 * (m : Int)) = 10 * (m : Int) := by rw [IntKind.wrap_i64]; omega
                    have hw2 : IntKind.u8.wrap ((s[k].toNat : Int) - 48) = (s[k].toNat : Int) - 48 := by rw [IntKind.wrap_u8]; omega
                    have hw3 : IntKind.i64.wrap (10 * (m : Int) + ((s[k].toNat : Int) - 48)) = 10 * (m : Int) + ((s[k].toNat : Int) - 48) := by rw [IntKind.wrap_i64]; omega
                    clear d3 hmv h3
                    go_wp2_with fail
                    go_region
                    all_goals
                      go_wp2_with fail
                      go_roundw
                      case rel => exact ⟨k + 1, 10 * m + (s[k].toNat - 48), by omega, by omega, by go_num, HM2, by
                        have := H3.out.num ((10 * m + (s[k].toNat - 48) : Nat) : Int)
                        rw [show ((10 * m + (s[k].toNat - 48) : Nat) : Int) = 10 * (m : Int) + ((s[k].toNat : Int) - 48) by omega] at this ⊢
                        exact this.drew⟩
                      case measure => simp [intOf]; omega
                  · have hkz2 : k = z := by omega
                    subst hkz2
                    have HM2 := Lib.hid hmv.out
                    have H3 := Lib.hid h3
                    clear hmv h3
                    go_wp2_with fail
                    refine bodyPost_ret (tok_results rfl _ _ w.heap.size _ _ _ _ (.int .i64 0) _ _ rfl rfl (tok_set (H3.out.text _).zero _ _ _ _)) rfl ?_
                    exact ⟨by rw [HRR.out, Lx.extract_str, ← HM2.out]; rfl, tok_below (H3.out.text _).below (Nat.le_refl _) _ _ _ _⟩
            · have h7i : ¬ (z : Int) - (i : Int) ≤ 7 := by omega
              have hbad : ¬ (z - i ≤ 7 ∧ Lx.hd (fun c => Lx.isLetter c || c == 95) ((Lx.tx s).drop z) = false) := fun h => h7 h.1
              have HRR : Hid (R = (⟨0, [], 0, 0⟩, 4)) := by
                show _ = _
                rw [HR.out]
                refine Lx.ref_err ?_ (by decide)
                have hzr : Lx.run Lx.isDigit s i = z - i := by have := HZ.out; omega
                rw [HNR.out, Lx.numR, hzr, show i + (z - i) = z by omega, if_neg hbad]
              clear hbad
              go_wp2_with fail
              refine (HWJ.out W).mono ?_
              rintro e w3 ⟨rfl, hw⟩
              subst hw
              go_wp2_with fail
              refine bodyPost_ret (tok_results rfl _ _ w.heap.size _ _ _ _ (.int .i64 4) _ _ rfl rfl (tok_set (h2.kind 2).zero _ _ _ _)) rfl ?_
              exact ⟨by rw [HRR.out]; rfl, tok_below (h2.kind 2).below (Nat.le_refl _) _ _ _ _⟩
        · have hji : ¬ (j : Int) < (s.size : Int) := by omega
          have hzj : z = j := by rw [hz.out, Lx.run_end (by omega)]; rfl
          clear hz
          subst hzj
          obtain ⟨⟨g0, g1, g2, g3⟩, ⟨f0, f1, f2, f3⟩, ⟨k0, k1, k2, k3⟩, l0, l1, l2⟩ := h2.facts
          by_cases h7 : z - i ≤ 7
          · have h7i : (z : Int) - (i : Int) ≤ 7 := by omega
            have hnext : Lx.hd (fun c => Lx.isLetter c || c == 95) ((Lx.tx s).drop z) = false := by rw [Lx.drop_end s z (by omega)]; rfl
            have HRR : Hid (R = (⟨2, ((Lx.tx s).drop i).take (z - i), Lx.value (((Lx.tx s).drop i).take (z - i)), i⟩, 0)) := by
              show _ = _
              rw [HR.out]
              refine Lx.ref_ok (t := ⟨2, ((Lx.tx s).drop i).take (z - i), Lx.value (((Lx.tx s).drop i).take (z - i)), i⟩) ?_ (by show (2 : Nat) ≠ 0; decide)
              have hzr : Lx.run Lx.isDigit s i = z - i := by have := HZ.out; omega
              rw [HNR.out, Lx.numR, hzr, show i + (z - i) = z by omega, if_pos ⟨h7, hnext⟩]
            clear hnext
            go_wp2_with fail
            go_loopw [9] (fun v wr => ∃ (k m : Nat), i ≤ k ∧ k ≤ z ∧ v = .int .i64 k ∧ Hid (m = Lx.value (((Lx.tx s).drop i).take (k - i))) ∧ Two w 2 ⟨#[]⟩ (m : Int) i wr) (fun v _ => z - (intOf v).toNat)
            case atStart => exact ⟨i, 0, Nat.le_refl _, by omega, rfl, (by show _ = _; rw [Nat.sub_self]; rfl), h2.kind 2⟩
            case round =>
              obtain ⟨k, m, hik, hkz, rfl, hmv, h3⟩ := hrel
              obtain ⟨⟨g0, g1, g2, g3⟩, ⟨f0, f1, f2, f3⟩, ⟨k0, k1, k2, k3⟩, l0, l1, l2⟩ := h3.facts
              by_cases hkl : k < z
              · have hks : k < s.size := by omega
                have hki : (k : Int) < (z : Int) := by omega
                have hksi : (k : Int) < (s.size : Int) := by omega
                obtain ⟨d1, d2, d3, d4⟩ := Lx.num_step hik (by have := HZ.out; omega) (by have := HZ.out; omega) hks
                rw [← hmv.out] at d3 d4
                have HM2 : Hid (10 * m + (s[k].toNat - 48) = Lx.value (((Lx.tx s).drop i).take (k + 1 - i))) := d3.symm
                have H3 := Lib.hid h3
                have hw1 : IntKind.i64.wrap (10 * (m : Int)) = 10 * (m : Int) := by rw [IntKind.wrap_i64]; omega
                have hw2 : IntKind.u8.wrap ((s[k].toNat : Int) - 48) = (s[k].toNat : Int) - 48 := by rw [IntKind.wrap_u8]; omega
                have hw3 : IntKind.i64.wrap (10 * (m : Int) + ((s[k].toNat : Int) - 48)) = 10 * (m : Int) + ((s[k].toNat : Int) - 48) := by rw [IntKind.wrap_i64]; omega
                clear d3 hmv h3
                go_wp2_with fail
                go_region
                all_goals
                  go_wp2_with fail
                  go_roundw
                  case rel => exact ⟨k + 1, 10 * m + (s[k].toNat - 48), by omega, by omega, by go_num, HM2, by
                    have := H3.out.num ((10 * m + (s[k].toNat - 48) : Nat) : Int)
                    rw [show ((10 * m + (s[k].toNat - 48) : Nat) : Int) = 10 * (m : Int) + ((s[k].toNat : Int) - 48) by omega] at this ⊢
                    exact this.drew⟩
                  case measure => simp [intOf]; omega
              · have hkz2 : k = z := by omega
                subst hkz2
                have HM2 := Lib.hid hmv.out
                have H3 := Lib.hid h3
                clear hmv h3
                go_wp2_with fail
                refine bodyPost_ret (tok_results rfl _ _ w.heap.size _ _ _ _ (.int .i64 0) _ _ rfl rfl (tok_set (H3.out.text _).zero _ _ _ _)) rfl ?_
                exact ⟨by rw [HRR.out, Lx.extract_str, ← HM2.out]; rfl, tok_below (H3.out.text _).below (Nat.le_refl _) _ _ _ _⟩
          · have h7i : ¬ (z : Int) - (i : Int) ≤ 7 := by omega
            have hbad : ¬ (z - i ≤ 7 ∧ Lx.hd (fun c => Lx.isLetter c || c == 95) ((Lx.tx s).drop z) = false) := fun h => h7 h.1
            have HRR : Hid (R = (⟨0, [], 0, 0⟩, 4)) := by
              show _ = _
              rw [HR.out]
              refine Lx.ref_err ?_ (by decide)
              have hzr : Lx.run Lx.isDigit s i = z - i := by have := HZ.out; omega
              rw [HNR.out, Lx.numR, hzr, show i + (z - i) = z by omega, if_neg hbad]
            clear hbad
            go_wp2_with fail
            refine bodyPost_ret (tok_results rfl _ _ w.heap.size _ _ _ _ (.int .i64 4) _ _ rfl rfl (tok_set (h2.kind 2).zero _ _ _ _)) rfl ?_
            exact ⟨by rw [HRR.out]; rfl, tok_below (h2.kind 2).below (Nat.le_refl _) _ _ _ _⟩
    | false =>
      have HD := Lib.hid (refdigit_walk s[i])
      rw [q2] at HD
      have HT := Lib.hid (refhas_walk ⟨#[33, 60, 62]⟩ (by decide) s[i])
      have HO := Lib.hid (refhas_walk ⟨#[59, 44, 46, 58, 40, 41, 91, 93, 123, 125, 61, 60, 62]⟩ (by decide) s[i])
      rw [show (Lx.tx ⟨#[33, 60, 62]⟩).contains s[i] = Lx.isTwo s[i] from Lx.has_two s[i]] at HT
      rw [show (Lx.tx ⟨#[59, 44, 46, 58, 40, 41, 91, 93, 123, 125, 61, 60, 62]⟩).contains s[i] = Lx.isOne s[i] from Lx.has_one s[i]] at HO
      have Q1 := Lib.hid q1
      have Q2 := Lib.hid q2
      obtain ⟨b2, hb2⟩ : ∃ b, b = Lx.isTwo s[i] := ⟨_, rfl⟩
      obtain ⟨b1, hb1⟩ : ∃ b, b = Lx.isOne s[i] := ⟨_, rfl⟩
      rw [← hb2] at HT
      rw [← hb1] at HO
      have HB2 := Lib.hid hb2
      have HB1 := Lib.hid hb1
      clear q1 q2 hb1 hb2
      go_enter Tryz.func63, Tryz.ntmps63
      go_wp2_with fail
      refine (HL.out _).mono ?_
      rintro e w2 ⟨rfl, hw⟩
      have h2 : Two w 0 ⟨#[]⟩ 0 i w2 := by rw [← hw]; exact Two.start w i
      clear hw ha HL
      go_wp2_with fail
      refine (HD.out _).mono ?_
      rintro e w3 ⟨rfl, hw⟩
      subst hw
      obtain ⟨⟨g0, g1, g2, g3⟩, ⟨f0, f1, f2, f3⟩, ⟨k0, k1, k2, k3⟩, l0, l1, l2⟩ := h2.facts
      go_wp2_with fail
      refine (HT.out _).mono ?_
      rintro e w3 ⟨rfl, hw⟩
      subst hw
      cases b2 with
      | true =>
        by_cases hn : i + 1 < s.size
        · have hni : (i : Int) + 1 < (s.size : Int) := by omega
          have hdn := Lx.drop_at s (i + 1) hn
          by_cases h61 : s[i + 1] = 61
          · have h61i : (((s[i + 1].toNat : Nat) : Int) == 61) = true := by rw [h61]; rfl
            have HRR : Hid (R = (⟨3, ((Lx.tx s).drop i).take 2, 0, i⟩, 0)) := by
              show _ = _
              rw [HR.out]
              exact Lx.ref_ok (t := ⟨3, ((Lx.tx s).drop i).take 2, 0, i⟩) (Lx.tok_res_two hi Q1.out Q2.out HB2.out.symm (by rw [hdn, h61]; rfl)).1 (by show (3 : Nat) ≠ 0; decide)
            clear h61 hdn
            go_wp2_with fail
            refine bodyPost_ret (tok_results rfl _ _ w.heap.size _ _ _ _ (.int .i64 0) _ _ rfl rfl (tok_set ((h2.kind 3).text _).zero _ _ _ _)) rfl ?_
            exact ⟨by rw [HRR.out, Lx.extract_str, show i + 1 + 1 - i = 2 by omega]; rfl, tok_below ((h2.kind 3).text _).below (Nat.le_refl _) _ _ _ _⟩
          · have h61i : (((s[i + 1].toNat : Nat) : Int) == 61) = false := by
              rw [beq_eq_false_iff_ne]
              intro h
              exact h61 (UInt8.toNat_inj.1 (by show s[i + 1].toNat = 61; omega))
            have HF : Hid ((Lx.isTwo s[i] && Lx.headEq ((Lx.tx s).drop (i + 1))) = false) := by
              show _ = _
              rw [hdn]
              show (Lx.isTwo s[i] && (s[i + 1] == 61)) = false
              rw [show (s[i + 1] == (61 : UInt8)) = false by rw [beq_eq_false_iff_ne]; exact h61, Bool.and_false]
            clear h61 hdn
            go_wp2_with fail
            refine (HO.out _).mono ?_
            rintro e w3 ⟨rfl, hw⟩
            subst hw
            cases b1 with
            | true =>
              have HRR : Hid (R = (⟨3, ((Lx.tx s).drop i).take 1, 0, i⟩, 0)) := by
                show _ = _
                rw [HR.out]
                exact Lx.ref_ok (t := ⟨3, ((Lx.tx s).drop i).take 1, 0, i⟩) (Lx.tok_res_one hi Q1.out Q2.out HF.out HB1.out.symm) (by show (3 : Nat) ≠ 0; decide)
              have hi1 : (i : Int) + 1 ≤ (s.size : Int) := by omega
              go_wp2_with fail
              refine bodyPost_ret (tok_results rfl _ _ w.heap.size _ _ _ _ (.int .i64 0) _ _ rfl rfl (tok_set ((h2.kind 3).text _).zero _ _ _ _)) rfl ?_
              exact ⟨by rw [HRR.out, Lx.extract_str, show i + 1 - i = 1 by omega]; rfl, tok_below ((h2.kind 3).text _).below (Nat.le_refl _) _ _ _ _⟩
            | false =>
              have HRR : Hid (R = (⟨0, [], 0, 0⟩, 3)) := by
                show _ = _
                rw [HR.out]
                exact Lx.ref_err (Lx.tok_res_err Q1.out Q2.out HF.out HB1.out.symm) (by decide)
              go_wp2_with fail
              refine bodyPost_ret (tok_results rfl _ _ w.heap.size _ _ _ _ (.int .i64 3) _ _ rfl rfl (tok_set (h2.kind 3).zero _ _ _ _)) rfl ?_
              exact ⟨by rw [HRR.out]; rfl, tok_below (h2.kind 3).below (Nat.le_refl _) _ _ _ _⟩
        · have hni : ¬ (i : Int) + 1 < (s.size : Int) := by omega
          have HF : Hid ((Lx.isTwo s[i] && Lx.headEq ((Lx.tx s).drop (i + 1))) = false) := by
            show _ = _
            rw [Lx.drop_end s (i + 1) (by omega)]
            exact Bool.and_false _
          go_wp2_with fail
          refine (HO.out _).mono ?_
          rintro e w3 ⟨rfl, hw⟩
          subst hw
          cases b1 with
          | true =>
            have HRR : Hid (R = (⟨3, ((Lx.tx s).drop i).take 1, 0, i⟩, 0)) := by
              show _ = _
              rw [HR.out]
              exact Lx.ref_ok (t := ⟨3, ((Lx.tx s).drop i).take 1, 0, i⟩) (Lx.tok_res_one hi Q1.out Q2.out HF.out HB1.out.symm) (by show (3 : Nat) ≠ 0; decide)
            have hi1 : (i : Int) + 1 ≤ (s.size : Int) := by omega
            go_wp2_with fail
            refine bodyPost_ret (tok_results rfl _ _ w.heap.size _ _ _ _ (.int .i64 0) _ _ rfl rfl (tok_set ((h2.kind 3).text _).zero _ _ _ _)) rfl ?_
            exact ⟨by rw [HRR.out, Lx.extract_str, show i + 1 - i = 1 by omega]; rfl, tok_below ((h2.kind 3).text _).below (Nat.le_refl _) _ _ _ _⟩
          | false =>
            have HRR : Hid (R = (⟨0, [], 0, 0⟩, 3)) := by
              show _ = _
              rw [HR.out]
              exact Lx.ref_err (Lx.tok_res_err Q1.out Q2.out HF.out HB1.out.symm) (by decide)
            go_wp2_with fail
            refine bodyPost_ret (tok_results rfl _ _ w.heap.size _ _ _ _ (.int .i64 3) _ _ rfl rfl (tok_set (h2.kind 3).zero _ _ _ _)) rfl ?_
            exact ⟨by rw [HRR.out]; rfl, tok_below (h2.kind 3).below (Nat.le_refl _) _ _ _ _⟩
      | false =>
        have HF : Hid ((Lx.isTwo s[i] && Lx.headEq ((Lx.tx s).drop (i + 1))) = false) := by
          show _ = _
          rw [← HB2.out, Bool.false_and]
        go_wp2_with fail
        refine (HO.out _).mono ?_
        rintro e w3 ⟨rfl, hw⟩
        subst hw
        cases b1 with
        | true =>
          have HRR : Hid (R = (⟨3, ((Lx.tx s).drop i).take 1, 0, i⟩, 0)) := by
            show _ = _
            rw [HR.out]
            exact Lx.ref_ok (t := ⟨3, ((Lx.tx s).drop i).take 1, 0, i⟩) (Lx.tok_res_one hi Q1.out Q2.out HF.out HB1.out.symm) (by show (3 : Nat) ≠ 0; decide)
          have hi1 : (i : Int) + 1 ≤ (s.size : Int) := by omega
          go_wp2_with fail
          refine bodyPost_ret (tok_results rfl _ _ w.heap.size _ _ _ _ (.int .i64 0) _ _ rfl rfl (tok_set ((h2.kind 3).text _).zero _ _ _ _)) rfl ?_
          exact ⟨by rw [HRR.out, Lx.extract_str, show i + 1 - i = 1 by omega]; rfl, tok_below ((h2.kind 3).text _).below (Nat.le_refl _) _ _ _ _⟩
        | false =>
          have HRR : Hid (R = (⟨0, [], 0, 0⟩, 3)) := by
            show _ = _
            rw [HR.out]
            exact Lx.ref_err (Lx.tok_res_err Q1.out Q2.out HF.out HB1.out.symm) (by decide)
          go_wp2_with fail
          refine bodyPost_ret (tok_results rfl _ _ w.heap.size _ _ _ _ (.int .i64 3) _ _ rfl rfl (tok_set (h2.kind 3).zero _ _ _ _)) rfl ?_
          exact ⟨by rw [HRR.out]; rfl, tok_below (h2.kind 3).below (Nat.le_refl _) _ _ _ _⟩
end Go.Proofs.YtoamkanofhhjfaaGreatDoor
/-
  The walk of the reference's Lex.
-/
namespace Go.Proofs.YtoamkanofhhjfaaGreatDoor
open Go.RowKit

namespace Lx
/-- At a byte that is no gap: what the reference's next says, and what comes behind it. -/
theorem ref_next (s : ByteArray) (i : Nat) (hi : i < s.size) (hg : isGap s[i] = false) :
    (∃ e, refRes (next s[i] ((tx s).drop (i + 1))) i = (⟨0, [], 0, 0⟩, e) ∧ e ≠ 0 ∧ items ((tx s).drop i) i = [(noTok i, e)]) ∨
    (∃ t : Tok, refRes (next s[i] ((tx s).drop (i + 1))) i = (t, 0) ∧ t.at_ = i ∧ 0 < t.text.length ∧ i + t.text.length ≤ s.size ∧ items ((tx s).drop i) i = (t, 0) :: items ((tx s).drop (i + t.text.length)) (i + t.text.length)) := by
  rcases items_step s i hi hg with ⟨e, h1, h2, h3⟩ | ⟨t, h1, h2, h3, h4, h5⟩
  · exact .inl ⟨e, ref_err h1 h2, h2, h3⟩
  · refine .inr ⟨t, ?_, h2, h3, h4, h5⟩
    cases hn : next s[i] ((tx s).drop (i + 1)) with
    | tok k u n => rw [hn] at h1; exact h1
    | err e =>
      rw [hn] at h1
      have := congrArg (fun y => y.1.text.length) h1
      simp only [res, List.length_nil] at this
      omega
end Lx

set_option maxHeartbeats 4000000 in
set_option maxRecDepth 100000 in
theorem reflex_long (s : ByteArray) (hs : 20000 < s.size) (hm : s.size ≤ 9223372036854775807) (w : World) :
    Calls Tryz.prog 31 #[.string s] w (Lx.LexOut (Lx.full (Lx.tx s)) w) := by
  rw [Lx.full_long (by rw [Lx.tx_len]; exact hs)]
  have hsi : (20000 : Int) < (s.size : Int) := by omega
  go_enter Tryz.func31, Tryz.ntmps31
  go_wp2_with fail
  go_ret3
  exact ⟨_, rfl, Lx.OwnT.nil _ _, Below.refl _ _⟩

set_option maxHeartbeats 4000000 in
set_option maxRecDepth 100000 in
theorem reflex_short (s : ByteArray) (hs : s.size ≤ 20000) (w : World) :
    Calls Tryz.prog 31 #[.string s] w (Lx.LexOut (Lx.full (Lx.tx s)) w) := by
  have hsi : ¬ (20000 : Int) < (s.size : Int) := by omega
  obtain ⟨F, hF⟩ : ∃ F, F = Lx.full (Lx.tx s) := ⟨_, rfl⟩
  rw [← hF]
  have HF := Lib.hid hF
  have HG0 := Lib.hid (refgap_walk s (by omega) 0 (Nat.zero_le _) w)
  have hge := Lx.gEnd_le s 0 (Nat.zero_le _)
  have HI0 := Lib.hid (Lx.items_skip s 0 (Nat.zero_le _))
  have HH0 := Lib.hid (Lx.gEnd_head s 0 (Nat.zero_le _))
  obtain ⟨q0, hq0⟩ : ∃ q, q = Lx.gEnd s 0 := ⟨_, rfl⟩
  rw [← hq0] at HG0 hge HI0
  have HQ0 := Lib.hid hq0
  have hge := hge.2
  clear hF hq0
  go_enter Tryz.func31, Tryz.ntmps31
  go_wp2_with fail
  refine HG0.out.mono ?_
  rintro e w1 ⟨rfl, hw⟩
  subst hw
  go_wp2_with fail
  go_loopw [5, 6] (fun lv av wr => ∃ (pre : List (Lx.Tok × Nat)) (q : Nat), q ≤ s.size ∧ pre.length ≤ 5000 ∧ av = .int .i64 q ∧ Hid (∀ y ∈ pre, y.2 = 0) ∧ Hid (∀ h : q < s.size, Lx.isGap s[q] = false) ∧ Hid (Lx.items (Lx.tx s) 0 = pre ++ Lx.items ((Lx.tx s).drop q) q) ∧ Hid (Lx.OwnT w.heap.size (pre.map (·.1)) lv wr) ∧ Below w.heap.size w wr) (fun _ av _ => s.size - (intOf av).toNat)
  case atStart =>
    refine ⟨[], q0, hge, by simp, rfl, (by intro y hy; cases hy), ?_, ?_, Lx.OwnT.nil _ _, Below.refl _ _⟩
    · intro h
      have := HQ0.out
      subst this
      exact HH0.out h
    · show _ = _
      rw [List.nil_append, ← HI0.out, List.drop_zero]
  case round =>
    obtain ⟨pre, q, hq, h5, rfl, hp0, hgp, hit, hown, hbw⟩ := hrel
    by_cases hlt : q < s.size
    · have hqi : (q : Int) < (s.size : Int) := by omega
      have HN := Lib.hid (fun W => refnext_walk s (by omega) q hlt W)
      rcases Lx.ref_next s q hlt (hgp.out hlt) with ⟨e, h1, he, h2⟩ | ⟨t, h1, hta, ht0, htl, h2⟩
      · rw [h1] at HN
        have hFe : F = ([], e, (q : Int)) := HF.out.trans (Lx.full_err (by rw [Lx.tx_len]; exact hs) (rest := []) (by rw [List.append_nil, hit.out, h2]) (E := e) (A := q) ⟨pre, (Lx.noTok q, e), rfl, hp0.out, h5, .inl ⟨he, rfl⟩, rfl⟩)
        have hei : (((e : Nat) : Int) != 0) = true := by rw [bne_iff_ne]; omega
        have hz := hbw.size
        clear HF h1 h2 hit hgp hp0 he
        subst hFe
        go_wp2_with fail
        refine (HN.out _).mono ?_
        rintro e1 w2 ⟨rfl, hb2⟩
        go_wp2_with fail
        go_ret3
        exact ⟨_, rfl, Lx.OwnT.nil _ _, (hbw.trans (hb2.mono hz)).alloc (by have := hb2.size; omega) _⟩
      · rw [h1] at HN
        have HT := Lib.hid (And.intro hta (And.intro h2 hit.out))
        have hz := hbw.size
        have hno := hown.out.lt
        obtain ⟨⟨ga, gc⟩, hform⟩ := hown.out.form
        rw [List.length_map] at hform
        dsimp only at hform
        subst hform
        by_cases h50 : pre.length = 5000
        · have h50i : (((pre.length : Nat) : Int) == 5000) = true := by rw [beq_iff_eq]; omega
          have hFe : F = ([], 2, (q : Int)) := HF.out.trans (Lx.full_err (by rw [Lx.tx_len]; exact hs) (pre := pre ++ [(t, 0)]) (rest := Lx.items ((Lx.tx s).drop (q + t.text.length)) (q + t.text.length)) (by rw [hit.out, h2, List.append_assoc]; rfl) (E := 2) (A := q) ⟨pre, (t, 0), rfl, hp0.out, h5, .inr ⟨rfl, h50, rfl⟩, hta.symm⟩)
          clear HF h1 h2 hit hgp hp0 hta hno
          subst hFe
          go_wp2_with fail
          refine (HN.out _).mono ?_
          rintro e1 w2 ⟨rfl, hb2⟩
          go_wp2_with fail
          go_ret3
          exact ⟨_, rfl, Lx.OwnT.nil _ _, (hbw.trans (hb2.mono hz)).alloc (by have := hb2.size; omega) _⟩
        · have h50i : (((pre.length : Nat) : Int) == 5000) = false := by rw [beq_eq_false_iff_ne]; omega
          have hp5 : pre.length + 1 ≤ 5000 := by omega
          have HP := Lib.hid (And.intro hp0.out hown.out)
          obtain ⟨n, hn⟩ : ∃ n, n = t.text.length := ⟨_, rfl⟩
          have hqn : q + n ≤ s.size := by omega
          have hn0 : 0 < n := by omega
          have HGG := Lib.hid (fun W => refgap_walk s (by omega) (q + n) hqn W)
          have hgl := Lx.gEnd_le s (q + n) hqn
          have HI1 := Lib.hid (Lx.items_skip s (q + n) hqn)
          have HH1 := Lib.hid (Lx.gEnd_head s (q + n) hqn)
          obtain ⟨q1, hq1⟩ : ∃ z, z = Lx.gEnd s (q + n) := ⟨_, rfl⟩
          rw [← hq1] at hgl HI1
          have HQ1 := Lib.hid hq1
          obtain ⟨x, hx⟩ : ∃ x, x = Lx.str t.text := ⟨_, rfl⟩
          have hxs : x.size = n := by rw [hx, Lx.str_size, hn]
          have HX := Lib.hid hx
          have HNN := Lib.hid hn
          simp only [← hq1] at HGG
          rw [Int.natCast_add] at HGG
          clear h1 h2 hit hgp hp0 hta hown ht0 htl hn hq1 hx h5
          have hq1s := hgl.2
          have hq1q : q < q1 := by omega
          clear hgl
          go_wp2_with fail
          refine (HN.out _).mono ?_
          rintro e1 w2 ⟨rfl, hb2⟩
          unfold Lx.tokV
          rw [← HX.out]
          have hz2 := hb2.size
          have HB2 := Lib.hid hb2
          have HBW := Lib.hid hbw
          have HNO := Lib.hid hno
          clear hb2 hbw hno
          have hb0 := HBW.out.trans (HB2.out.mono hz)
          have HB0 := Lib.hid hb0
          have hz3 := hb0.size
          clear hb0
          go_wp2_with (at_builtin; refine wpList_append_tok _ rfl _ _ rfl w.heap.size (pre.map (·.1)) _ rfl (HP.out.2.below ((HB2.out.alloc HB2.out.size _).alloc (by simp; omega) _)) t (w2.heap.size + 1) (0, 0) 60 rfl (by rw [← HX.out]; have := heap_alloc_new (w2.alloc (.cells #[.int .i64 (t.kind : Nat), .string x, .int .i64 (t.n : Nat), .int .i64 (t.at_ : Nat)] 60)) (.cells #[.int .i64 (t.kind : Nat), .string x, .int .i64 (t.n : Nat), .int .i64 (t.at_ : Nat)] 60); simpa using this) (by rw [List.length_map]; omega) (by simp; omega) ?_)
          intro g c w6 h1 h2
          have hne : some w2.heap.size ≠ (Value.slice ga pre.length gc).ownBlock := fun e => by
            obtain ⟨_, cs, fr, hc⟩ := HNO.out _ e.symm
            have := (Array.getElem?_eq_some_iff.1 hc).1
            omega
          have k7 : w6.heap[w2.heap.size]? = some (.cells #[.int .i64 (t.kind : Nat), .string x, .int .i64 (t.n : Nat), .int .i64 (t.at_ : Nat)] 60 (0, 0)) :=
            (h2.block w2.heap.size (by simp; omega) hne).trans ((Below.heap_alloc (w2.alloc (.cells #[.int .i64 (t.kind : Nat), .string x, .int .i64 (t.n : Nat), .int .i64 (t.at_ : Nat)] 60)) _ _ (by simp)).trans (heap_alloc_new _ _))
          have c7 := Joins.cell_of_block k7 1
          have H1 := Lib.hid h1
          have H2 := Lib.hid h2
          clear k7 h1 h2 hne
          go_wp2_with fail
          refine (HGG.out w6).mono ?_
          rintro e1 w8 ⟨rfl, hw⟩
          subst hw
          go_wp2_with fail
          go_roundw
          case rel =>
            refine ⟨pre ++ [(t, 0)], q1, hq1s, by rw [List.length_append, List.length_singleton]; exact hp5, rfl, ?_, ?_, ?_, ?_, ?_⟩
            · intro y hy
              rcases List.mem_append.1 hy with hy | hy
              · exact HP.out.1 y hy
              · rw [List.mem_singleton] at hy; rw [hy]
            · intro h
              have := HQ1.out
              subst this
              exact HH1.out h
            · exact HT.out.2.2.trans (by rw [HT.out.2.1, ← HNN.out, HI1.out, List.append_assoc]; rfl)
            · show Lx.OwnT _ _ _ _
              rw [List.map_append]
              exact H1.out
            · exact ((HB0.out.alloc HB0.out.size _).alloc (by simp; omega) _).grown H2.out (by simp; omega) (fun k e => (HNO.out k e).1)
          case measure => simp [intOf]; omega
    · have hqi : ¬ (q : Int) < (s.size : Int) := by omega
      have hFe : F = (pre.map (·.1), 0, 0) := HF.out.trans (Lx.full_done (by rw [Lx.tx_len]; exact hs) (xs := pre) (by rw [hit.out, Lx.items_end s q (by omega), List.append_nil]) hp0.out h5)
      clear HF hit hgp hp0
      subst hFe
      have hz := hbw.size
      go_wp2_with fail
      go_ret3
      exact ⟨_, rfl, hown.out, hbw⟩

/-- The reference's Lex answers as the arithmetic says. -/
theorem reflex_walk (s : ByteArray) (hm : s.size ≤ 9223372036854775807) (w : World) :
    Calls Tryz.prog 31 #[.string s] w (Lx.LexOut (Lx.full (Lx.tx s)) w) := by
  by_cases h : s.size ≤ 20000
  · exact reflex_short s h w
  · exact reflex_long s (by omega) hm w
end Go.Proofs.YtoamkanofhhjfaaGreatDoor
