/-
  The walk of formula.isWellFormed.
-/
import Derived.Test.YtjcaingfeaaakaaMName
namespace Go.Proofs.Ytjcaingfeaaakaa
open Go.RowKit

namespace Fm
theorem wf_12 {o : Int} (h : o = 1 ∨ o = 2) (x : T) (c n : Int) (ks : List Fo) : wf Fc.isNm (.mk o x c n ks) = ((x.isEmpty && decide (c = 0) && decide (n = 0)) && decide ((ks.length : Int) = 0)) := by
  rw [wf, if_pos h]; congr 1; cases ks <;> simp; omega
theorem wf_3 (x : T) (c n : Int) (ks : List Fo) : wf Fc.isNm (.mk 3 x c n ks) = (Fc.isNm x && decide (1 ≤ c) && decide (c ≤ 6) && decide ((ks.length : Int) = 0)) := by
  rw [wf, if_neg (by decide), if_pos rfl]; congr 1; cases ks <;> simp; omega
theorem wf_4 (x : T) (c n : Int) (ks : List Fo) : wf Fc.isNm (.mk 4 x c n ks) = (Fc.isNm x && decide (c = 0) && decide (n = 0) && decide ((ks.length : Int) = 0)) := by
  rw [wf, if_neg (by decide), if_neg (by decide), if_pos rfl]; congr 1; cases ks <;> simp; omega
theorem wf_5 (x : T) (c n : Int) (ks : List Fo) : wf Fc.isNm (.mk 5 x c n ks) = ((x.isEmpty && decide (c = 0) && decide (n = 0)) && decide ((ks.length : Int) = 1)) := by
  rw [wf, if_neg (by decide), if_neg (by decide), if_neg (by decide), if_pos rfl]; congr 1; rw [Bool.eq_iff_iff, decide_eq_true_iff, decide_eq_true_iff]; omega
theorem wf_67 {o : Int} (h : o = 6 ∨ o = 7) (x : T) (c n : Int) (ks : List Fo) : wf Fc.isNm (.mk o x c n ks) = ((x.isEmpty && decide (c = 0) && decide (n = 0)) && decide (2 ≤ (ks.length : Int))) := by
  rw [wf, if_neg (by omega), if_neg (by omega), if_neg (by omega), if_neg (by omega), if_pos h]; congr 1; rw [Bool.eq_iff_iff, decide_eq_true_iff, decide_eq_true_iff]; omega
theorem wf_no {o : Int} (h1 : o ≠ 1) (h2 : o ≠ 2) (h3 : o ≠ 3) (h4 : o ≠ 4) (h5 : o ≠ 5) (h6 : o ≠ 6) (h7 : o ≠ 7) (x : T) (c n : Int) (ks : List Fo) : wf Fc.isNm (.mk o x c n ks) = false := by
  rw [wf, if_neg (by omega), if_neg h3, if_neg h4, if_neg h5, if_neg (by omega)]
end Fm

set_option maxHeartbeats 4000000 in
set_option maxRecDepth 100000 in
theorem wf_walk (f : Fm.Fo) (u : Value) (w : World) (hat : Fm.At w f u) :
    Calls Try.prog 69 #[Fm.fv f u] w fun e w' => e = .returned (.bool (Fm.wf Fc.isNm f)) ∧ Below w.heap.size w w' := by
  obtain ⟨ua, uc, hu, huc, _⟩ := hat.kidsAt.len
  have hsz := hat.sized
  obtain ⟨o, x, c, n, ks⟩ := f
  have hK : ∀ w, Calls Try.prog 72 #[.agg #[.int .i64 o, .string (Lx.str x), .int .i64 c, .int .i64 n, u]] w fun e w' => e = .returned (.bool (x.isEmpty && decide (c = 0) && decide (n = 0))) ∧ Below w.heap.size w w' := fun w => onlykids_walk (.mk o x c n ks) u w
  have hN := fun w => fisname_walk x hsz.2.1 w
  have HB := Lib.hid ((Below.refl w.heap.size w).alloc (Nat.le_refl _) (.cells #[.int .i64 o, .string (Lx.str x), .int .i64 c, .int .i64 n, u] 24))
  dsimp only [Fm.fv, Fm.Fo.op, Fm.Fo.name, Fm.Fo.cmp, Fm.Fo.num, Fm.Fo.kids] at hu huc hsz hN ⊢
  obtain ⟨m, hm⟩ : ∃ m, m = ks.length := ⟨_, rfl⟩
  obtain ⟨z, hz⟩ : ∃ z, z = Fm.wf Fc.isNm (.mk o x c n ks) := ⟨_, rfl⟩
  rw [← hm] at hu huc
  rw [← hz]
  subst hu
  have HK := Lib.hid hK
  have HN := Lib.hid hN
  clear hK hN hat hsz
  by_cases h12 : o = 1 ∨ o = 2
  · rw [Fm.wf_12 h12, ← hm] at hz
    clear HN
    obtain ⟨b, hb⟩ : ∃ b, b = (x.isEmpty && decide (c = 0) && decide (n = 0)) := ⟨_, rfl⟩
    rw [← hb] at hz HK
    clear hb hm
    rcases h12 with rfl | rfl
    all_goals
      cases b
      all_goals
        simp only [Bool.false_and, Bool.true_and] at hz
        subst hz
        go_enter Try.func69, Try.ntmps69
        go_wp2_with fail
        refine (HK.out _).mono ?_
        rintro e w2 ⟨rfl, hb2⟩
        have q4 : w2.cell? ⟨w.heap.size, 4, none⟩ = some (.slice ua m uc) := (hb2.cell (p := ⟨w.heap.size, 4, none⟩) (by simp)).trans (Joins.cell_of_block (heap_alloc_new _ _) 4)
        have HB2 := Lib.hid (HB.out.trans (hb2.mono HB.out.size))
        clear hb2 HK HB
        go_wp2_with fail
        go_ret
        refine ⟨Lx.ret_bool ?_, HB2.out⟩
        first | rfl | (rw [Bool.eq_iff_iff]; simp; try omega)
  by_cases h3 : o = 3
  · subst h3
    rw [Fm.wf_3, ← hm] at hz
    clear HK hm h12
    obtain ⟨b, hb⟩ : ∃ b, b = Fc.isNm x := ⟨_, rfl⟩
    rw [← hb] at hz HN
    clear hb
    have HZ := Lib.hid hz
    clear hz
    go_enter Try.func69, Try.ntmps69
    go_wp2_with fail
    refine (HN.out _).mono ?_
    rintro e w2 ⟨rfl, hb2⟩
    have HB2 := Lib.hid (HB.out.trans (hb2.mono HB.out.size))
    have q2 : w2.cell? ⟨w.heap.size, 2, none⟩ = some (.int .i64 c) := (hb2.cell (p := ⟨w.heap.size, 2, none⟩) (by simp)).trans (Joins.cell_of_block (heap_alloc_new _ _) 2)
    have q4 : w2.cell? ⟨w.heap.size, 4, none⟩ = some (.slice ua m uc) := (hb2.cell (p := ⟨w.heap.size, 4, none⟩) (by simp)).trans (Joins.cell_of_block (heap_alloc_new _ _) 4)
    clear hb2 HN HB
    cases b with
    | false =>
      go_wp2_with fail
      go_ret
      exact ⟨by rw [HZ.out]; rfl, HB2.out⟩
    | true =>
      go_wp2_with fail
      all_goals
        go_ret
        refine ⟨Lx.ret_bool ?_, HB2.out⟩
        rw [HZ.out, Bool.eq_iff_iff]
        simp
        try omega
  by_cases h4 : o = 4
  · subst h4
    rw [Fm.wf_4, ← hm] at hz
    clear HK hm h12 h3
    obtain ⟨b, hb⟩ : ∃ b, b = Fc.isNm x := ⟨_, rfl⟩
    rw [← hb] at hz HN
    clear hb
    have HZ := Lib.hid hz
    clear hz
    go_enter Try.func69, Try.ntmps69
    go_wp2_with fail
    refine (HN.out _).mono ?_
    rintro e w2 ⟨rfl, hb2⟩
    have HB2 := Lib.hid (HB.out.trans (hb2.mono HB.out.size))
    have q2 : w2.cell? ⟨w.heap.size, 2, none⟩ = some (.int .i64 c) := (hb2.cell (p := ⟨w.heap.size, 2, none⟩) (by simp)).trans (Joins.cell_of_block (heap_alloc_new _ _) 2)
    have q3 : w2.cell? ⟨w.heap.size, 3, none⟩ = some (.int .i64 n) := (hb2.cell (p := ⟨w.heap.size, 3, none⟩) (by simp)).trans (Joins.cell_of_block (heap_alloc_new _ _) 3)
    have q4 : w2.cell? ⟨w.heap.size, 4, none⟩ = some (.slice ua m uc) := (hb2.cell (p := ⟨w.heap.size, 4, none⟩) (by simp)).trans (Joins.cell_of_block (heap_alloc_new _ _) 4)
    clear hb2 HN HB
    cases b with
    | false =>
      go_wp2_with fail
      go_ret
      exact ⟨by rw [HZ.out]; rfl, HB2.out⟩
    | true =>
      go_wp2_with fail
      all_goals
        go_ret
        refine ⟨Lx.ret_bool ?_, HB2.out⟩
        rw [HZ.out, Bool.eq_iff_iff]
        simp
        try omega
  by_cases h5 : o = 5
  · subst h5
    rw [Fm.wf_5, ← hm] at hz
    clear HN h12 h3 h4
    obtain ⟨b, hb⟩ : ∃ b, b = (x.isEmpty && decide (c = 0) && decide (n = 0)) := ⟨_, rfl⟩
    rw [← hb] at hz HK
    clear hb hm
    cases b
    all_goals
      simp only [Bool.false_and, Bool.true_and] at hz
      subst hz
      go_enter Try.func69, Try.ntmps69
      go_wp2_with fail
      refine (HK.out _).mono ?_
      rintro e w2 ⟨rfl, hb2⟩
      have q4 : w2.cell? ⟨w.heap.size, 4, none⟩ = some (.slice ua m uc) := (hb2.cell (p := ⟨w.heap.size, 4, none⟩) (by simp)).trans (Joins.cell_of_block (heap_alloc_new _ _) 4)
      have HB2 := Lib.hid (HB.out.trans (hb2.mono HB.out.size))
      clear hb2 HK HB
      go_wp2_with fail
      go_ret
      refine ⟨Lx.ret_bool ?_, HB2.out⟩
      first | rfl | (rw [Bool.eq_iff_iff]; simp; try omega)
  by_cases h67 : o = 6 ∨ o = 7
  · rw [Fm.wf_67 h67, ← hm] at hz
    clear HN h12 h3 h4 h5
    obtain ⟨b, hb⟩ : ∃ b, b = (x.isEmpty && decide (c = 0) && decide (n = 0)) := ⟨_, rfl⟩
    rw [← hb] at hz HK
    clear hb hm
    rcases h67 with rfl | rfl
    all_goals
      cases b
      all_goals
        simp only [Bool.false_and, Bool.true_and] at hz
        subst hz
        go_enter Try.func69, Try.ntmps69
        go_wp2_with fail
        refine (HK.out _).mono ?_
        rintro e w2 ⟨rfl, hb2⟩
        have q4 : w2.cell? ⟨w.heap.size, 4, none⟩ = some (.slice ua m uc) := (hb2.cell (p := ⟨w.heap.size, 4, none⟩) (by simp)).trans (Joins.cell_of_block (heap_alloc_new _ _) 4)
        have HB2 := Lib.hid (HB.out.trans (hb2.mono HB.out.size))
        clear hb2 HK HB
        go_wp2_with fail
        go_ret
        refine ⟨Lx.ret_bool ?_, HB2.out⟩
        first | rfl | (rw [Bool.eq_iff_iff]; simp; try omega)
  · have h1 : o ≠ 1 := by omega
    have h2 : o ≠ 2 := by omega
    have h6 : o ≠ 6 := by omega
    have h7 : o ≠ 7 := by omega
    rw [Fm.wf_no h1 h2 h3 h4 h5 h6 h7] at hz
    subst hz
    clear HN HK h12 h67 hm
    go_enter Try.func69, Try.ntmps69
    go_wp2_with fail
    go_ret
    exact ⟨rfl, HB.out⟩
end Go.Proofs.Ytjcaingfeaaakaa
