/-
  CalendarMany: for every number of closed days and day the call returns true and its arguments stay, where the four tables hold what the program's text lays.
-/
import Derived.Test.YthikonibmpngmaaDoorLFrameC
import Derived.Laws.OwnMore
namespace Go.Proofs.YthikonibmpngmaaDoor.calendarMany
open Go.ChangeShapes Go.WideShapes Go.ChangeAt Go.RowKit

theorem one_int : (Tryd.prog.info? 3).map (fun i => (i.zero, i.size, i.bytes)) = some (some (.int .i64 0), 1, 8) := by kernel_rfl

/-- The slice after k rounds. -/
def row (d n k : Nat) : List Value := (List.range n).map fun j => .int .i64 (if j < k then ((d + j : Nat) : Int) else 0)
theorem row_len (d n k : Nat) : (row d n k).length = n := by simp [row]
theorem row_get (d n k j : Nat) (hj : j < n) : (row d n k)[j]? = some (.int .i64 (if j < k then ((d + j : Nat) : Int) else 0)) := by simp [row, hj]
theorem row_zero (d n : Nat) : row d n 0 = List.replicate n (.int .i64 0) := by apply List.ext_getElem <;> simp [row]
theorem row_set (d n k : Nat) (x : Int) (hx : x = ((d + k : Nat) : Int)) : (row d n k).set k (.int .i64 x) = row d n (k + 1) := by
  subst hx
  apply List.ext_getElem?
  intro j
  by_cases hj : j < n
  · rw [row_get d n (k + 1) j hj, List.getElem?_set]
    by_cases e : k = j
    · subst e
      rw [if_pos rfl, if_pos (by rw [row_len]; exact hj), if_pos (by omega)]
    · rw [if_neg e, row_get d n k j hj]
      by_cases h : j < k
      · rw [if_pos h, if_pos (by omega)]
      · rw [if_neg h, if_neg (by omega)]
  · rw [List.getElem?_eq_none (by rw [List.length_set, row_len]; omega), List.getElem?_eq_none (by rw [row_len]; omega)]
/-- The closed days. -/
def days (d n : Nat) : List Int := (List.range n).map fun j => ((d + j : Nat) : Int)
theorem days_len (d n : Nat) : (days d n).length = n := by simp [days]
theorem days_get (d n j : Nat) (hj : j < n) : (days d n).getD j 0 = ((d + j : Nat) : Int) := by
  rw [List.getD_eq_getElem?_getD]; simp [days, hj]
theorem days_has (d n : Nat) (x : Int) : (days d n).contains x = true ↔ (d : Int) ≤ x ∧ x < d + n := by
  rw [List.contains_iff_mem]
  simp only [days, List.mem_map, List.mem_range]
  constructor
  · rintro ⟨j, hj, rfl⟩; omega
  · rintro ⟨h1, h2⟩; exact ⟨(x - d).toNat, by omega, by omega⟩
theorem days_nums {w : World} {g d n : Nat} (h : w.ownsRow g 3 1 (.slice (some ⟨g, 0, none⟩) n n) n (row d n n)) (hg : g < w.heap.size) (hn : n ≤ 2000) (hd : d ≤ 65535) : IsNums w (.slice (some ⟨g, 0, none⟩) n n) (days d n) := by
  refine ⟨_, n, by rw [days_len], by rw [days_len]; exact Nat.le_refl _, by omega, fun x hx => ?_, fun _ => ⟨g, 0, rfl, hg, fun i hi => ?_⟩⟩
  · have := (days_has d n x).1 (by rw [List.contains_iff_mem]; exact hx)
    omega
  · rw [days_len] at hi
    rw [Nat.zero_add, h.cellAt i (by omega), row_get d n n i hi, if_pos hi, days_get d n i hi]
theorem many_end {d n : Nat} {v e : Int} (hd : d ≤ 65535) (hn : n ≤ 1100) (h : Cal.Next (Cal.opn (days d n)) d v e) : e = 0 ∧ (d : Int) + n ≤ v ∧ v ≤ d + n + 2 := by
  have op : ∀ x : Int, (d : Int) + n ≤ x → x ≤ d + n + 2 → (5 + x) % 7 ≤ 4 → Cal.opn (days d n) x = true := by
    intro x h1 h2 h3
    have hc : (days d n).contains x = false := by
      rw [← Bool.not_eq_true, days_has]; omega
    rw [Cal.opn, hc, Cal.wk_yes (by omega) h3]; rfl
  have ex : ∃ x : Int, (d : Int) + n ≤ x ∧ x ≤ d + n + 2 ∧ (5 + x) % 7 ≤ 4 := by
    by_cases h1 : (5 + ((d : Int) + n)) % 7 ≤ 4
    · exact ⟨d + n, by omega, by omega, h1⟩
    · by_cases h2 : (5 + ((d : Int) + n + 1)) % 7 ≤ 4
      · exact ⟨d + n + 1, by omega, by omega, h2⟩
      · exact ⟨d + n + 2, by omega, by omega, by omega⟩
  obtain ⟨x, x1, x2, x3⟩ := ex
  have hx := op x x1 x2 x3
  rcases h with ⟨h1, h2, h3, h4, h5⟩ | ⟨h1, h2, h3⟩
  · refine ⟨h1, ?_, ?_⟩
    · by_cases c : (d : Int) + n ≤ v
      · exact c
      · have : (days d n).contains v = true := (days_has d n v).2 ⟨h2, by omega⟩
        rw [Cal.opn, this] at h4
        simp at h4
    · by_cases c : v ≤ x
      · omega
      · rw [h5 x (by omega) (by omega)] at hx; cases hx
  · rw [h3 x (by omega) (by omega)] at hx; cases hx
theorem many_add {d n : Nat} {v e : Int} (hd : d ≤ 65535) (hn : n ≤ 1100) (h : Cal.AddR (days d n) d 0 1 v e) : (1000 < n ∧ v = 0 ∧ e = 2) ∨ (n ≤ 1000 ∧ e = 0 ∧ (d : Int) + n ≤ v ∧ v ≤ d + n + 2) := by
  have ht : Cal.IsTerm d 0 1 := ⟨by omega, by omega, by omega, by omega, by omega, by omega⟩
  rcases h with ⟨h1, _⟩ | ⟨h1, h2, h3, h4⟩ | ⟨h1, h2, a, b, h3, h4⟩
  · exact absurd ht h1
  · rw [days_len] at h2; exact .inl ⟨h2, h3, h4⟩
  · rw [days_len] at h2
    obtain ⟨rfl, rfl⟩ : a = d + 0 ∧ b = 0 := h3
    rcases h4 with ⟨_, h4⟩ | ⟨h4, _⟩
    · rw [Int.add_zero] at h4; exact .inr ⟨h2, many_end hd hn h4⟩
    · exact absurd rfl h4

set_option maxHeartbeats 8000000 in
set_option maxRecDepth 100000 in
theorem law_walk (m d : Nat) (w : World) (hm : m ≤ 65535) (hd : d ≤ 65535) (ht : HasTab w) :
    Calls Tryd.prog 4 #[.int .u16 m, .int .u16 d] w fun e w' => e = .returned (.bool true) ∧ Below w.heap.size w w' := by
  have HT := Lib.hid ht
  clear ht
  go_enter Tryd.func4, Tryd.ntmps4
  go_wp2_with fail
  refine (head_walk _ HT.out).mono ?_
  rintro e w1 ⟨rfl, hb⟩
  have HB := Lib.hid hb
  have HT1 := Lib.hid (HT.out.below hb)
  clear hb HT
  obtain ⟨i0, hii, hz0, hz1, hz2⟩ := info_parts one_int
  have HI := Lib.hid hii
  clear hii
  obtain ⟨n, hn⟩ : ∃ n : Nat, n = m % 1101 := ⟨_, rfl⟩
  have hn1 : n ≤ 1100 := by omega
  have HN := Lib.hid (show (m : Int) % 1101 = (n : Int) by omega)
  clear hn
  go_wp2_with (at_make; refine wpList_make_full _ rfl _ _ 24 rfl w1.heap.size 3 i0 (.int .i64 0) 1 Tryd.underlying24 HI.out hz0 hz1 .i64 .i64 _ _ n rfl rfl HN.out HN.out (by rw [hz2]; omega) (by unfold maxLen; omega) (Nat.le_refl _) ?_; intro w2 hown hgrow; rw [HN.out])
  have hO : w2.ownsRow w1.heap.size 3 1 (.slice (some ⟨w1.heap.size, 0, none⟩) n n) n (row d n 0) := by
    rw [row_zero]
    rw [show (Value.int .i64 0).cells = #[.int .i64 0] from rfl, toList_madeCells_one, Nat.mul_one] at hown
    exact hown
  have HO := Lib.hid hO
  have hb2 : Below w1.heap.size w1 w2 := (Below.refl _ _).grown hgrow (Nat.le_refl _) (fun _ h => by cases h)
  have HB2 := Lib.hid hb2
  clear hown hgrow hO hb2 hz0 hz1 hz2 HI
  go_wp2_with fail
  go_loopw [8] (fun i wr => ∃ k : Nat, k ≤ n ∧ i = .int .i64 k ∧ Hid (wr.ownsRow w1.heap.size 3 1 (.slice (some ⟨w1.heap.size, 0, none⟩) n n) n (row d n k)) ∧ Hid (Below w1.heap.size w1 wr)) (fun i _ => n - (intOf i).toNat)
  case atStart => exact ⟨0, Nat.zero_le _, rfl, HO, HB2⟩
  case round =>
    obtain ⟨k, hk, rfl, hO, hB⟩ := hrel
    by_cases hlt : k < n
    · have c := hO.out.cellAt k (by omega)
      rw [row_get _ _ _ _ hlt, if_neg (Nat.lt_irrefl k)] at c
      have f := hO.out.frozenAt k
      have hst := hO.out.stored k (.int .i64 ((d : Int) + k))
      rw [row_set d n k _ (by omega)] at hst
      have HST := Lib.hid hst
      have HB3 := Lib.hid (hB.out.grown hst.2 hB.out.size (fun j hj => by cases hj; exact Nat.le_refl _))
      clear hst
      go_wp2_with fail
      go_roundw
      case rel => exact ⟨k + 1, by omega, by go_num, HST.out.1, HB3⟩
      case measure => simp [intOf]; omega
    · obtain rfl : k = n := by omega
      have hlt1 : w1.heap.size < wr.heap.size := by
        rcases hO.out.2 with ⟨h, _⟩ | ⟨g, _, _, h, _, hg, _⟩
        · cases h
        · cases h; exact lt_of_block hg
      have HV := Lib.hid (days_nums hO.out hlt1 (by omega) hd)
      clear hlt1
      go_wp2_with fail
      refine (term_walk _ _ _).mono ?_
      rintro e w3 ⟨rfl, hb⟩
      have HB4 := Lib.hid (hB.out.trans (hb.mono hB.out.size))
      have HV4 := Lib.hid (HV.out.below hb)
      clear hb
      go_wp2_with fail
      refine (add_walk _ _ _ _ _ _ (HT1.out.below HB4.out) HV4.out).mono ?_
      rintro e w4 ⟨v, er, rfl, hR, hb⟩
      have HB5 := Lib.hid (HB.out.trans ((HB4.out.trans (hb.mono HB4.out.size)).mono HB.out.size))
      have hw := many_add hd hn1 hR
      clear hR hb
      rcases hw with ⟨h1, rfl, rfl⟩ | ⟨h1, rfl, h2, h3⟩
      · go_wp2_with fail
        go_ret
        exact ⟨rfl, HB5.out⟩
      · go_wp2_with fail
        go_ret
        exact ⟨rfl, HB5.out⟩

set_option maxRecDepth 100000 in
/-- What the walk gives, for all arguments and every world that holds the tables. -/
theorem contract (H : Type) (enc : TypeId × Value → H) (W : World) (base : Nat) (args : Array Value) (ds gs : List (DataW H)) (before : List MemPlace)
    (hval : ∀ (j : Nat) t v, Tryd.f4.params[j]? = some t → args[j]? = some v → Value.okWide Tryd.prog W .any base t v)
    (hW : DataW.Whole enc Tryd.prog Tryd.f4.params.toList Rows.calendarManySpec.vars false W args.toList ds gs before) (hL : laidMetH Tryd.prog laidAll W) :
    Calls Tryd.prog 4 args W fun e W' => ∃ v, e = .returned v ∧ Rows.calendarManySpec.post enc Tryd.prog Tryd.f4 false true false false W args v W' := by
  have hW' := hW
  obtain ⟨p, q, hA0, hV, rfl, hfz, hnd⟩ := hW
  have hA : DataW.TrodAll enc Tryd.prog W 0 (fun _ => true) true Tryd.f4.params.toList args.toList ds p := hA0
  rw [Tryd.params4] at hA hval
  obtain ⟨v0, vs0, d0, ds0, p0, q0, hargs, rfl, rfl, h0, r0⟩ := trodAll_cons hA
  obtain ⟨v1, vs1, d1, ds1, p1, q1, rfl, rfl, rfl, h1, r1⟩ := trodAll_cons r0
  obtain ⟨rfl, rfl, rfl⟩ := trodAll_nil r1
  obtain rfl : args = #[v0, v1] := by cases args; simp_all
  obtain ⟨rfl, rfl⟩ := trodVars_none hV
  obtain ⟨z0, rfl, _, _, g0⟩ := open_int Tryd.underlying38 (hval 0 38 v0 rfl rfl) h0
  obtain ⟨n0, rfl⟩ := Int.eq_ofNat_of_zero_le (bounds_u16 g0).1
  obtain ⟨z1, rfl, _, _, g1⟩ := open_int Tryd.underlying38 (hval 1 38 v1 rfl rfl) h1
  obtain ⟨n1, rfl⟩ := Int.eq_ofNat_of_zero_le (bounds_u16 g1).1
  refine (law_walk n0 n1 W (Int.ofNat_le.1 (bounds_u16 g0).2) (Int.ofNat_le.1 (bounds_u16 g1).2) (hasTab hL)).mono fun e W' ⟨he, hg⟩ => ?_
  subst he
  exact ⟨_, rfl, post_law rfl rfl rfl rfl rfl (by rw [Tryd.params4]; decide) hW' hg⟩

theorem laid_met (os : Os) : laidMet Tryd.prog Rows.calendarManyRow.laid ((laidWorld os).forCall (fun _ _ => 0) ⟨#[], #[.int .u16 0, .int .u16 0], []⟩).memory :=
  laidMet_of_run' 8 (by kernel_rfl) (by kernel_rfl)
theorem reads (os : Os) {H : Type} (enc : TypeId × Value → H) : ∃ places, DataW.whole enc Tryd.prog ((laidWorld os).forCall (fun _ _ => 0) ⟨#[], #[.int .u16 0, .int .u16 0], []⟩).memory Tryd.f4.params.toList Rows.calendarManySpec.vars false #[Value.int .u16 0, Value.int .u16 0].toList 8 = some ([.lit (.int .u16 0), .lit (.int .u16 0)], [], places) :=
  ⟨[], by kernel_rfl⟩

set_option maxRecDepth 100000 in
theorem lifted (os : Os) (started : os.Started) (H : Type) (enc : TypeId × Value → H) (F : Stop.Interp) :
    ReturnsInHanded {} Tryd.checked os 4 .any ((OpenSpec.ofChange Rows.calendarManySpec).preRow enc Tryd.prog Tryd.f4 Rows.calendarManyRow.domain false Rows.calendarManyRow.laid) (((OpenSpec.ofChange Rows.calendarManySpec).at F).post enc Tryd.prog Tryd.f4 false true false false) := by
  obtain ⟨places, hx⟩ := reads os enc
  refine returnsInHanded_of_row (C := Tryd.checked) (s := OpenSpec.ofChange Rows.calendarManySpec) own started (by kernel_rfl) Tryd.func4
    (witness_row_at (enc := enc) (C := Tryd.checked) false (laidWorld os) #[.int .u16 0, .int .u16 0] rfl (by kernel_rfl) (by kernel_rfl) (by kernel_rfl)
      (OpenSpec.preRow_of_cond 8 hx (by kernel_rfl) (fun k hk => by cases hk) (by kernel_rfl) (laid_met os))) ?_
  intro W base args ds gs before hval hW _ _ _ hL _ _
  exact contract H enc W base args ds gs before hval hW hL

theorem said : Rows.CalendarManySaid :=
  OpenClaim.holds_of_cond 4 Tryd.f4 rfl rfl rfl rfl rfl rfl rfl ⟨rfl, rfl, rfl, rfl, rfl⟩ rfl rfl rfl rfl rfl (by kernel_rfl) Tryd.func4 (by kernel_rfl)
    (of_decide_eq_true (by kernel_rfl)) (by unfold Func.isWrapper; first | (rw [if_pos (by decide +kernel)]; kernel_rfl) | (rw [if_neg (by decide +kernel)]; exact ⟨rfl, rfl⟩))
    (fun os started H enc _ F => by rw [OpenClaim.pre_eq_preRow]; exact lifted os started H enc F)

set_option maxRecDepth 100000 in
/-- No parameter wants a stand-in; the program's own looks are off: what the card asks. -/
theorem plain (f : FuncId) (fn : Func) (hf : Tryd.pinned.checked.prog.funcNamed "pandect/pandectlaw04.CalendarMany" = some f) (hfn : Tryd.pinned.checked.prog.funcs[f]? = some fn) :
    false = Tryd.pinned.checked.prog.looks [] ∧ ∀ (j : Nat) t, fn.params[j]? = some t → Tryd.pinned.checked.prog.wantsStandIn t = false := by
  obtain rfl : f = 4 := Option.some.inj ((show Tryd.prog.funcNamed "pandect/pandectlaw04.CalendarMany" = some 4 by kernel_rfl).symm.trans hf) |>.symm
  obtain rfl : fn = Tryd.f4 := (Option.some.inj (Tryd.func4.symm.trans hfn)).symm
  refine ⟨by kernel_rfl, fun j t ht => ?_⟩
  rw [Tryd.params4] at ht
  have hm := Array.mem_of_getElem? ht
  simp only [List.mem_toArray, List.mem_cons, List.not_mem_nil, or_false] at hm
  rcases hm with rfl | rfl
  · exact wants_u16
  · exact wants_u16

theorem card : Rows.CalendarManyCardSaid :=
  Claim7.holds_tied_plain_at .later [] _ _ _ _ said (fun _ h => by cases h) (by kernel_rfl) (fun _ h => by cases h) calendarMany_row_tie rfl ⟨rfl, rfl⟩ (by kernel_rfl) rfl plain (by kernel_rfl)
end Go.Proofs.YthikonibmpngmaaDoor.calendarMany
