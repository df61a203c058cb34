/-
  CalendarWeeks: for every day and closed days the call returns true and its arguments stay, where the four tables hold what the program's text lays.
-/
import Derived.Test.YthikonibmpngmaaDoorLFrameC
import Derived.Test.YthikonibmpngmaaDoorCIn
import Derived.Laws.OwnMore
namespace Go.Proofs.YthikonibmpngmaaDoor.calendarWeeks
open Go.ChangeShapes Go.WideShapes Go.ChangeAt Go.RowKit

theorem one_bool : (Tryd.prog.info? 4).map (fun i => (i.zero, i.size, i.bytes)) = some (some (.bool false), 1, 1) := by kernel_rfl

/-- The day of the week of the i-th number behind s - 5. -/
def sn (s : Int) (i j : Nat) : Bool := decide (((j : Int) - s) % 7 < i)
def row (s : Int) (i : Nat) : List Value := (List.range 7).map fun j => .bool (sn s i j)
theorem row_len (s : Int) (i : Nat) : (row s i).length = 7 := by simp [row]
theorem row_zero (s : Int) : row s 0 = List.replicate 7 (.bool false) := by
  have h : ∀ j, sn s 0 j = false := fun j => by unfold sn; rw [decide_eq_false_iff_not]; omega
  simp [row, h]; rfl
theorem row_get (s : Int) (i j : Nat) (hj : j < 7) : (row s i)[j]? = some (.bool (sn s i j)) := by simp [row, hj]
theorem row_set (s : Int) (i z : Nat) (hi : i < 7) (hz : (z : Int) = (s + i) % 7) : (row s i).set z (.bool true) = row s (i + 1) := by
  apply List.ext_getElem?
  intro j
  by_cases hj : j < 7
  · rw [row_get s (i + 1) j hj, List.getElem?_set]
    by_cases e : z = j
    · subst e
      rw [if_pos rfl, if_pos (by rw [row_len]; exact hj)]
      have : sn s (i + 1) z = true := by unfold sn; rw [decide_eq_true_eq]; omega
      rw [this]
    · rw [if_neg e, row_get s i j hj]
      have : sn s i j = sn s (i + 1) j := by unfold sn; rw [decide_eq_decide]; omega
      rw [this]
  · rw [List.getElem?_eq_none (by rw [List.length_set, row_len]; omega), List.getElem?_eq_none (by rw [row_len]; omega)]
theorem sn_false (s : Int) (i z : Nat) (hi : i < 7) (hz : (z : Int) = (s + i) % 7) : sn s i z = false := by unfold sn; rw [decide_eq_false_iff_not]; omega
/-- How many of the first days are open ones of the week. -/
def ow (s : Int) : Nat → Int
  | 0 => 0
  | k + 1 => ow s k + if (s + (k : Int)) % 7 ≤ 4 then 1 else 0
theorem ow_bd (s : Int) (k : Nat) : 0 ≤ ow s k ∧ ow s k ≤ k := by
  induction k with
  | zero => simp [ow]
  | succ k ih => simp only [ow]; split <;> omega
theorem ow_seven (s : Int) : ow s 7 = 5 := by
  have h : s % 7 = 0 ∨ s % 7 = 1 ∨ s % 7 = 2 ∨ s % 7 = 3 ∨ s % 7 = 4 ∨ s % 7 = 5 ∨ s % 7 = 6 := by omega
  simp only [ow]
  rcases h with h | h | h | h | h | h | h <;> (repeat (first | rw [if_pos (by omega)] | rw [if_neg (by omega)])) <;> rfl

set_option maxHeartbeats 4000000 in
set_option maxRecDepth 100000 in
theorem w_out (n : Int) (v : Value) (l : List Int) (w : World) (hv : IsNums w v l) (ht : HasTab w) (h : n < 0 ∨ 999993 < n ∨ 60 < l.length) :
    Calls Tryd.prog 7 #[.int .i64 n, v] w fun e w' => e = .returned (.bool true) ∧ Below w.heap.size w w' := by
  obtain ⟨a, cap, rfl, h1, h2, _, _⟩ := hv
  have HT := Lib.hid ht
  clear ht
  by_cases c1 : n < 0
  · clear h
    go_enter Tryd.func7, Tryd.ntmps7
    go_wp2_with fail
    refine (head_walk _ HT.out).mono ?_
    rintro e w1 ⟨rfl, hb⟩
    go_wp2_with fail
    go_ret
    exact ⟨rfl, hb⟩
  · by_cases c2 : 999993 < n
    · clear h
      go_enter Tryd.func7, Tryd.ntmps7
      go_wp2_with fail
      refine (head_walk _ HT.out).mono ?_
      rintro e w1 ⟨rfl, hb⟩
      go_wp2_with fail
      go_ret
      exact ⟨rfl, hb⟩
    · have c3 : 60 < l.length := by omega
      clear h
      go_enter Tryd.func7, Tryd.ntmps7
      go_wp2_with fail
      refine (head_walk _ HT.out).mono ?_
      rintro e w1 ⟨rfl, hb⟩
      go_wp2_with fail
      go_ret
      exact ⟨rfl, hb⟩

set_option maxHeartbeats 8000000 in
set_option maxRecDepth 100000 in
theorem w_main (n : Int) (v : Value) (l : List Int) (w : World) (hv : IsNums w v l) (ht : HasTab w) (h0 : 0 ≤ n) (h1 : n ≤ 999993) (hl : l.length ≤ 60) :
    Calls Tryd.prog 7 #[.int .i64 n, v] w fun e w' => e = .returned (.bool true) ∧ Below w.heap.size w w' := by
  have HV := Lib.hid hv
  obtain ⟨a, cap, rfl, h2, h3, _, _⟩ := hv
  have HT := Lib.hid ht
  clear ht
  go_enter Tryd.func7, Tryd.ntmps7
  go_wp2_with fail
  refine (head_walk _ HT.out).mono ?_
  rintro e w1 ⟨rfl, hb⟩
  have HB := Lib.hid hb
  have HV1 := Lib.hid (HV.out.below hb)
  clear hb HV
  obtain ⟨i0, hii, hz0, hz1, hz2⟩ := info_parts one_bool
  have HI := Lib.hid hii
  clear hii
  go_wp2_with (at_make; refine wpList_make_full _ rfl _ _ 43 rfl w1.heap.size 4 i0 (.bool false) 1 Tryd.underlying43 HI.out hz0 hz1 .i64 .i64 7 7 7 rfl rfl rfl rfl (by rw [hz2]; omega) (by unfold maxLen; omega) (Nat.le_refl _) ?_; intro w2 hown hgrow)
  have hO : w2.ownsRow w1.heap.size 4 1 (.slice (some ⟨w1.heap.size, 0, none⟩) 7 7) 7 (row (5 + n) 0) := by
    rw [row_zero]
    rw [show (Value.bool false).cells = #[.bool false] from rfl, toList_madeCells_one] at hown
    exact hown
  have HO := Lib.hid hO
  have hb2 : Below w1.heap.size w1 w2 := (Below.refl _ _).grown hgrow (Nat.le_refl _) (fun _ h => by cases h)
  have HB2 := Lib.hid hb2
  clear hown hgrow hO hb2 hz0 hz1 hz2 HI
  go_wp2_with fail
  go_loopw [7, 8] (fun o i wr => ∃ k : Nat, k ≤ 7 ∧ i = .int .i64 k ∧ o = .int .i64 (ow (5 + n) k) ∧ Hid (wr.ownsRow w1.heap.size 4 1 (.slice (some ⟨w1.heap.size, 0, none⟩) 7 7) 7 (row (5 + n) k)) ∧ Hid (Below w1.heap.size w1 wr)) (fun _ i _ => 7 - (intOf i).toNat)
  case atStart => exact ⟨0, by omega, rfl, rfl, HO, HB2⟩
  case round =>
    obtain ⟨k, hk, rfl, rfl, hO, hB⟩ := hrel
    have hob := ow_bd (5 + n) k
    by_cases hlt : k < 7
    · obtain ⟨z, hz⟩ : ∃ z : Nat, (z : Int) = (5 + n + k) % 7 := ⟨((5 + n + k) % 7).toNat, by omega⟩
      have hz7 : z < 7 := by omega
      have c := hO.out.cellAt z (by omega)
      rw [row_get _ _ _ hz7, sn_false (5 + n) k z hlt hz] at c
      have f := hO.out.frozenAt z
      have hst := hO.out.stored z (.bool true)
      rw [row_set (5 + n) k z hlt hz] at hst
      have HST := Lib.hid hst
      have HW := Lib.hid (show Cal.wday (n + k) = z by unfold Cal.wday; rw [if_pos (by omega)]; omega)
      have HB3 := Lib.hid (hB.out.grown hst.2 hB.out.size (fun j hj => by cases hj; exact Nat.le_refl _))
      have HOW := Lib.hid (show ow (5 + n) (k + 1) = ow (5 + n) k + if (z : Int) ≤ 4 then 1 else 0 by simp only [ow]; rw [hz])
      have HKN := Lib.hid (show Cal.wk (n + k) = decide ((z : Int) ≤ 4) by unfold Cal.wk; rw [decide_eq_decide]; omega)
      clear hst hz
      by_cases hz4 : (z : Int) ≤ 4
      · have HO1 := Lib.hid (show Cal.opn [] (n + k) = true by simp [Cal.opn, HKN.out, hz4])
        have HO2 := Lib.hid (show Cal.opn l (n + k) = !l.contains (n + k) by simp [Cal.opn, HKN.out, hz4])
        obtain ⟨cc, hcc⟩ : ∃ cc, cc = l.contains (n + k) := ⟨_, rfl⟩
        rw [← hcc] at HO2
        have HC := Lib.hid hcc
        clear hcc
        go_wp2_with fail
        refine (wday_is HW.out _).mono ?_
        rintro e w' ⟨rfl, rfl⟩
        go_wp2_with fail
        refine (work_is HO1.out _ (IsNums.nil _)).mono ?_
        rintro e w' ⟨rfl, rfl⟩
        go_wp2_with fail
        refine (work_is HO2.out _ (HV1.out.below HB3.out)).mono ?_
        rintro e w' ⟨rfl, rfl⟩
        go_wp2_with fail
        refine (refin_walk _ l _ _ (HV1.out.below HB3.out)).mono ?_
        rintro e w' ⟨rfl, rfl⟩
        rw [← HC.out]
        go_wp2_with fail
        go_roundw
        case rel => exact ⟨k + 1, by omega, by go_num, by rw [HOW.out, if_pos hz4], HST.out.1, HB3⟩
        case measure => simp [intOf]; omega
      · have HO1 := Lib.hid (show Cal.opn [] (n + k) = false by simp [Cal.opn, HKN.out, hz4])
        have HO2 := Lib.hid (show Cal.opn l (n + k) = false by simp [Cal.opn, HKN.out, hz4])
        go_wp2_with fail
        refine (wday_is HW.out _).mono ?_
        rintro e w' ⟨rfl, rfl⟩
        go_wp2_with fail
        refine (work_is HO1.out _ (IsNums.nil _)).mono ?_
        rintro e w' ⟨rfl, rfl⟩
        go_wp2_with fail
        refine (work_is HO2.out _ (HV1.out.below HB3.out)).mono ?_
        rintro e w' ⟨rfl, rfl⟩
        go_wp2_with fail
        go_roundw
        case rel => exact ⟨k + 1, by omega, by go_num, by rw [HOW.out, if_neg (by omega), Int.add_zero], HST.out.1, HB3⟩
        case measure => simp [intOf]; omega
    · obtain rfl : k = 7 := by omega
      have h5 := ow_seven (5 + n)
      obtain ⟨q, hq⟩ : ∃ q, q = ow (5 + n) 7 := ⟨_, rfl⟩
      rw [← hq] at h5 ⊢
      clear hq hob
      subst h5
      go_wp2_with fail
      refine (wday_is (a := (5 + n) % 7) (by unfold Cal.wday; rw [if_pos (by omega)]; omega) _).mono ?_
      rintro e w' ⟨rfl, rfl⟩
      go_wp2_with fail
      refine (wday_is (a := (5 + n) % 7) (by unfold Cal.wday; rw [if_pos (by omega)]) _).mono ?_
      rintro e w' ⟨rfl, rfl⟩
      go_wp2_with fail
      go_ret
      exact ⟨by simp, HB.out.trans (hB.out.mono HB.out.size)⟩

theorem law_walk (n : Int) (v : Value) (l : List Int) (w : World) (_b1 : -9223372036854775808 ≤ n) (_b2 : n ≤ 9223372036854775807) (hv : IsNums w v l) (ht : HasTab w) :
    Calls Tryd.prog 7 #[.int .i64 n, v] w fun e w' => e = .returned (.bool true) ∧ Below w.heap.size w w' := by
  by_cases h : n < 0 ∨ 999993 < n ∨ 60 < l.length
  · exact w_out n v l w hv ht h
  · exact w_main n v l w hv ht (by omega) (by omega) (by omega)

set_option maxRecDepth 100000 in
/-- What the walk gives, for all arguments and every world that holds the tables. -/
theorem contract (H : Type) (enc : TypeId × Value → H) (W : World) (base : Nat) (args : Array Value) (ds gs : List (DataW H)) (before : List MemPlace)
    (hval : ∀ (j : Nat) t v, Tryd.f7.params[j]? = some t → args[j]? = some v → Value.okWide Tryd.prog W .any base t v)
    (hW : DataW.Whole enc Tryd.prog Tryd.f7.params.toList Rows.calendarWeeksSpec.vars false W args.toList ds gs before) (hL : laidMetH Tryd.prog laidAll W) :
    Calls Tryd.prog 7 args W fun e W' => ∃ v, e = .returned v ∧ Rows.calendarWeeksSpec.post enc Tryd.prog Tryd.f7 false true false false W args v W' := by
  have hW' := hW
  obtain ⟨p, q, hA0, hV, rfl, hfz, hnd⟩ := hW
  have hA : DataW.TrodAll enc Tryd.prog W 0 (fun _ => true) true Tryd.f7.params.toList args.toList ds p := hA0
  rw [Tryd.params7] at hA hval
  obtain ⟨v0, vs0, d0, ds0, p0, q0, hargs, rfl, rfl, h0, r0⟩ := trodAll_cons hA
  obtain ⟨v1, vs1, d1, ds1, p1, q1, rfl, rfl, rfl, h1, r1⟩ := trodAll_cons r0
  obtain ⟨rfl, rfl, rfl⟩ := trodAll_nil r1
  obtain rfl : args = #[v0, v1] := by cases args; simp_all
  obtain ⟨rfl, rfl⟩ := trodVars_none hV
  obtain ⟨z0, rfl, _, _, g0⟩ := open_int Tryd.underlying3 (hval 0 3 v0 rfl rfl) h0
  obtain ⟨l1, t1⟩ := open_nums (hval 1 24 v1 rfl rfl) h1
  refine (law_walk z0 v1 l1 W (bounds_i64 g0).1 (bounds_i64 g0).2 t1 (hasTab hL)).mono fun e W' ⟨he, hg⟩ => ?_
  subst he
  exact ⟨_, rfl, post_law rfl rfl rfl rfl rfl (by rw [Tryd.params7]; decide) hW' hg⟩

theorem laid_met (os : Os) : laidMet Tryd.prog Rows.calendarWeeksRow.laid ((laidWorld os).forCall (fun _ _ => 0) ⟨#[], #[.int .i64 0, .slice none 0 0], []⟩).memory :=
  laidMet_of_run' 8 (by kernel_rfl) (by kernel_rfl)
theorem reads (os : Os) {H : Type} (enc : TypeId × Value → H) : ∃ places, DataW.whole enc Tryd.prog ((laidWorld os).forCall (fun _ _ => 0) ⟨#[], #[.int .i64 0, .slice none 0 0], []⟩).memory Tryd.f7.params.toList Rows.calendarWeeksSpec.vars false #[Value.int .i64 0, Value.slice none 0 0].toList 8 = some ([.lit (.int .i64 0), .nil], [], places) :=
  ⟨[], by kernel_rfl⟩

set_option maxRecDepth 100000 in
theorem lifted (os : Os) (started : os.Started) (H : Type) (enc : TypeId × Value → H) (F : Stop.Interp) :
    ReturnsInHanded {} Tryd.checked os 7 .any ((OpenSpec.ofChange Rows.calendarWeeksSpec).preRow enc Tryd.prog Tryd.f7 Rows.calendarWeeksRow.domain false Rows.calendarWeeksRow.laid) (((OpenSpec.ofChange Rows.calendarWeeksSpec).at F).post enc Tryd.prog Tryd.f7 false true false false) := by
  obtain ⟨places, hx⟩ := reads os enc
  refine returnsInHanded_of_row (C := Tryd.checked) (s := OpenSpec.ofChange Rows.calendarWeeksSpec) own started (by kernel_rfl) Tryd.func7
    (witness_row_at (enc := enc) (C := Tryd.checked) false (laidWorld os) #[.int .i64 0, .slice none 0 0] rfl (by kernel_rfl) (by kernel_rfl) (by kernel_rfl)
      (OpenSpec.preRow_of_cond 8 hx (by kernel_rfl) (fun k hk => by cases hk) (by kernel_rfl) (laid_met os))) ?_
  intro W base args ds gs before hval hW _ _ _ hL _ _
  exact contract H enc W base args ds gs before hval hW hL

theorem said : Rows.CalendarWeeksSaid :=
  OpenClaim.holds_of_cond 7 Tryd.f7 rfl rfl rfl rfl rfl rfl rfl ⟨rfl, rfl, rfl, rfl, rfl⟩ rfl rfl rfl rfl rfl (by kernel_rfl) Tryd.func7 (by kernel_rfl)
    (of_decide_eq_true (by kernel_rfl)) (by unfold Func.isWrapper; first | (rw [if_pos (by decide +kernel)]; kernel_rfl) | (rw [if_neg (by decide +kernel)]; exact ⟨rfl, rfl⟩))
    (fun os started H enc _ F => by rw [OpenClaim.pre_eq_preRow]; exact lifted os started H enc F)

set_option maxRecDepth 100000 in
/-- No parameter wants a stand-in; the program's own looks are off: what the card asks. -/
theorem plain (f : FuncId) (fn : Func) (hf : Tryd.pinned.checked.prog.funcNamed "pandect/pandectlaw04.CalendarWeeks" = some f) (hfn : Tryd.pinned.checked.prog.funcs[f]? = some fn) :
    false = Tryd.pinned.checked.prog.looks [] ∧ ∀ (j : Nat) t, fn.params[j]? = some t → Tryd.pinned.checked.prog.wantsStandIn t = false := by
  obtain rfl : f = 7 := Option.some.inj ((show Tryd.prog.funcNamed "pandect/pandectlaw04.CalendarWeeks" = some 7 by kernel_rfl).symm.trans hf) |>.symm
  obtain rfl : fn = Tryd.f7 := (Option.some.inj (Tryd.func7.symm.trans hfn)).symm
  refine ⟨by kernel_rfl, fun j t ht => ?_⟩
  rw [Tryd.params7] at ht
  have hm := Array.mem_of_getElem? ht
  simp only [List.mem_toArray, List.mem_cons, List.not_mem_nil, or_false] at hm
  rcases hm with rfl | rfl
  · exact wants_int
  · exact wants_nums

theorem card : Rows.CalendarWeeksCardSaid :=
  Claim7.holds_tied_plain_at .later [] _ _ _ _ said (fun _ h => by cases h) (by kernel_rfl) (fun _ h => by cases h) calendarWeeks_row_tie rfl ⟨rfl, rfl⟩ (by kernel_rfl) rfl plain (by kernel_rfl)
end Go.Proofs.YthikonibmpngmaaDoor.calendarWeeks
