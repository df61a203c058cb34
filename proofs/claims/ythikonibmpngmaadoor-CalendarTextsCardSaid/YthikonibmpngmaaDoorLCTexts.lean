/-
  CalendarTexts: for every two days and text the call returns true and its arguments stay, where the four tables hold what the program's text lays.
-/
import Derived.Test.YthikonibmpngmaaDoorLFrameC
import Derived.Laws.Strings
namespace Go.Proofs.YthikonibmpngmaaDoor.calendarTexts
open Go.ChangeShapes Go.WideShapes Go.ChangeAt Go.RowKit
open Go.ChangeMaps (open_string shut_string)

theorem less_cons (a b : Int) (l k : List UInt8) : Op.bytesLess (Cal.dig a :: l) (Cal.dig b :: k) = (decide (a % 10 < b % 10) || (decide (a % 10 = b % 10) && Op.bytesLess l k)) := by
  have e1 : (Cal.dig a < Cal.dig b) ↔ a % 10 < b % 10 := by
    rw [UInt8.lt_iff_toNat_lt, Cal.dig_nat, Cal.dig_nat]; omega
  have e2 : (Cal.dig a == Cal.dig b) = decide (a % 10 = b % 10) := by
    rw [Bool.eq_iff_iff, beq_iff_eq, decide_eq_true_eq]
    exact ⟨Cal.dig_inj, fun h => by unfold Cal.dig; rw [h]⟩
  rw [Op.bytesLess, e2]
  congr 1
  rw [decide_eq_decide]; exact e1
theorem less_same (c : UInt8) (l k : List UInt8) : Op.bytesLess (c :: l) (c :: k) = Op.bytesLess l k := by
  rw [Op.bytesLess]
  have : (c < c) ↔ False := by rw [UInt8.lt_iff_toNat_lt]; exact ⟨fun h => absurd h (Nat.lt_irrefl _), False.elim⟩
  simp [this]
theorem lex_two {a b a' b' : Int} (h2 : 0 ≤ b ∧ b ≤ 9) (g2 : 0 ≤ b' ∧ b' ≤ 9) (R : Prop) :
    (a < a' ∨ (a = a' ∧ (b < b' ∨ (b = b' ∧ R)))) ↔ (10 * a + b < 10 * a' + b' ∨ (10 * a + b = 10 * a' + b' ∧ R)) := by
  by_cases h : R
  · simp only [h, and_true]; omega
  · simp only [h, and_false, or_false]; omega
theorem lex_two' {a b a' b' : Int} (h2 : 0 ≤ b ∧ b ≤ 99) (g2 : 0 ≤ b' ∧ b' ≤ 99) (R : Prop) :
    (a < a' ∨ (a = a' ∧ (b < b' ∨ (b = b' ∧ R)))) ↔ (100 * a + b < 100 * a' + b' ∨ (100 * a + b = 100 * a' + b' ∧ R)) := by
  by_cases h : R
  · simp only [h, and_true]; omega
  · simp only [h, and_false, or_false]; omega
theorem less_two {y z : Int} (hy : 0 ≤ y ∧ y ≤ 99) (hz : 0 ≤ z ∧ z ≤ 99) (l k : List UInt8) : Op.bytesLess (Cal.two y ++ l) (Cal.two z ++ k) = (decide (y < z) || (decide (y = z) && Op.bytesLess l k)) := by
  simp only [Cal.two, List.cons_append, List.nil_append, less_cons]
  rw [Bool.eq_iff_iff]
  simp only [Bool.or_eq_true, Bool.and_eq_true, decide_eq_true_eq]
  rw [lex_two (by omega) (by omega), show 10 * (y / 10 % 10) + y % 10 = y by omega, show 10 * (z / 10 % 10) + z % 10 = z by omega]
theorem four_two (y : Int) : Cal.four y = Cal.two (y / 100) ++ Cal.two (y % 100) := by
  have dc : ∀ {a b : Int}, a % 10 = b % 10 → Cal.dig a = Cal.dig b := fun h => by unfold Cal.dig; rw [h]
  simp only [Cal.four, Cal.two, List.cons_append, List.nil_append, List.cons.injEq, and_true, true_and]
  exact ⟨dc (by omega), dc (by omega), dc (by omega)⟩
theorem less_four {y z : Int} (hy : 0 ≤ y ∧ y ≤ 9999) (hz : 0 ≤ z ∧ z ≤ 9999) (l k : List UInt8) : Op.bytesLess (Cal.four y ++ l) (Cal.four z ++ k) = (decide (y < z) || (decide (y = z) && Op.bytesLess l k)) := by
  rw [four_two, four_two, List.append_assoc, List.append_assoc, less_two (by omega) (by omega), less_two (by omega) (by omega), Bool.eq_iff_iff]
  simp only [Bool.or_eq_true, Bool.and_eq_true, decide_eq_true_eq]
  rw [lex_two' (by omega) (by omega), show 100 * (y / 100) + y % 100 = y by omega, show 100 * (z / 100) + z % 100 = z by omega]
theorem less_txt {n y m d n' y' m' d' : Int} (h : Cal.IsDate n y m d) (h' : Cal.IsDate n' y' m' d') : Op.bytesLess (Cal.txt y m d) (Cal.txt y' m' d') = decide (n < n') := by
  obtain ⟨a, b, c⟩ := h.bd
  obtain ⟨a', b', c'⟩ := h'.bd
  have e : Op.bytesLess (Cal.two d) (Cal.two d') = decide (d < d') := by
    have := less_two c c' [] []
    simp only [List.append_nil] at this
    rw [this]
    simp [Op.bytesLess]
  simp only [Cal.txt, List.cons_append, List.nil_append]
  rw [less_four a a', less_same, less_two b b', less_same, e, Bool.eq_iff_iff]
  simp only [Bool.or_eq_true, Bool.and_eq_true, decide_eq_true_eq]
  obtain ⟨g1, g2, g3, g4⟩ := h
  obtain ⟨g1', g2', g3', g4'⟩ := h'
  have := Cal.num_lt y m d y' m' d' g1 (by omega) g1' (by omega) g3 g3'
  rw [g4, g4'] at this
  exact this.symm

theorem text_in {n : Int} {s : ByteArray} (h : Cal.TextR n s.data.toList) (hn : 0 ≤ n ∧ n ≤ 1000000) : ∃ y m d, Cal.IsDate n y m d ∧ s.data.toList = Cal.txt y m d := by
  rcases h with ⟨_, _, h⟩ | ⟨h, _⟩
  · exact h
  · exact absurd hn h
theorem text_out {n : Int} {s : ByteArray} (h : Cal.TextR n s.data.toList) (hn : ¬ (0 ≤ n ∧ n ≤ 1000000)) : s = ⟨#[]⟩ := by
  rcases h with ⟨h1, h2, _⟩ | ⟨_, h⟩
  · exact absurd ⟨h1, h2⟩ hn
  · exact bytes_ext h
theorem parse_is {s : ByteArray} {v e : Int} (h : Cal.ParseR s.data.toList v e) (hs : s.size ≤ 9223372036854775807) (w : World) (ht : HasTab w) : Calls Tryd.prog 17 #[.string s] w fun en w' => en = .returned (.tuple #[.int .i64 v, .int .i64 e]) ∧ Below w.heap.size w w' := by
  refine (parse_walk s hs w ht).mono ?_
  rintro en w' ⟨a, b, rfl, hR, hb⟩
  obtain ⟨rfl, rfl⟩ := hR.uniq h
  exact ⟨rfl, hb⟩
theorem parse_empty : Cal.ParseR (⟨#[]⟩ : ByteArray).data.toList 0 5 := Cal.parse_len (by decide)
theorem size_txt {s : ByteArray} {y m d : Int} (h : s.data.toList = Cal.txt y m d) : s.size = 10 := by rw [Lib.size_eq, h]; rfl
theorem full_txt {s : ByteArray} {y m d : Int} (h : s.data.toList = Cal.txt y m d) : s.toList.isEmpty = false := by rw [Lib.toList_data, h]; rfl
theorem text_law (n : Int) (w : World) (ht : HasTab w) : Calls Tryd.prog 21 #[.int .i64 n] w fun e w' => ∃ s : ByteArray, e = .returned (.string s) ∧ Hid (Cal.TextR n s.data.toList) ∧ Below w.heap.size w w' := by
  refine (text_walk n w ht).mono ?_
  rintro e w' ⟨s, rfl, hs, _, hb⟩
  exact ⟨s, rfl, hs, hb⟩

set_option maxHeartbeats 4000000 in
set_option maxRecDepth 100000 in
theorem w_long (a b : Int) (s : ByteArray) (hs : 40 < s.size) (hz : s.size ≤ 9223372036854775807) (w : World) (ht : HasTab w) :
    Calls Tryd.prog 6 #[.int .i64 a, .int .i64 b, .string s] w fun e w' => e = .returned (.bool true) ∧ Below w.heap.size w w' := by
  have HT := Lib.hid ht
  clear ht
  go_enter Tryd.func6, Tryd.ntmps6
  go_wp2_with fail
  refine (head_walk _ HT.out).mono ?_
  rintro e w1 ⟨rfl, hb⟩
  go_wp2_with fail
  go_ret
  exact ⟨rfl, hb⟩

set_option maxHeartbeats 8000000 in
set_option maxRecDepth 100000 in
theorem w_main (a b : Int) (x : ByteArray) (hx : x.size ≤ 40) (w : World) (ht : HasTab w) :
    Calls Tryd.prog 6 #[.int .i64 a, .int .i64 b, .string x] w fun e w' => e = .returned (.bool true) ∧ Below w.heap.size w w' := by
  have HT := Lib.hid ht
  clear ht
  go_enter Tryd.func6, Tryd.ntmps6
  go_wp2_with fail
  refine (head_walk _ HT.out).mono ?_
  rintro e w1 ⟨rfl, hb⟩
  have B1 := Lib.hid hb
  clear hb
  go_wp2_with fail
  refine (text_law a _ (HT.out.below B1.out)).mono ?_
  rintro e w2 ⟨s, rfl, hs, hb⟩
  have B2 := Lib.hid (B1.out.trans (hb.mono B1.out.size))
  clear hb
  go_wp2_with fail
  refine (text_law b _ (HT.out.below B2.out)).mono ?_
  rintro e w3 ⟨t, rfl, ht, hb⟩
  have B3 := Lib.hid (B2.out.trans (hb.mono B2.out.size))
  clear hb
  by_cases ha : 0 ≤ a ∧ a ≤ 1000000
  · obtain ⟨y, m, d, hd, hsd⟩ := text_in hs.out ha
    have HP := Lib.hid (show Cal.ParseR s.data.toList a 0 from .inl ⟨y, m, d, hd, ha.2, hsd, rfl⟩)
    have hs1 := size_txt hsd
    have hs2 := full_txt hsd
    have HS1 := Lib.hid hs1
    have HS2 := Lib.hid hs2
    have HD := Lib.hid (And.intro hd hsd)
    obtain ⟨ha0, ha1⟩ := ha
    have hse : s.size ≤ 10 := by omega
    clear hs1 hs2 hd hsd hs
    go_wp2_with fail
    refine (parse_is HP.out (by omega) _ (HT.out.below B3.out)).mono ?_
    rintro e w4 ⟨rfl, hb⟩
    have B4 := Lib.hid (B3.out.trans (hb.mono B3.out.size))
    have hs1 := HS1.out
    have hs2 := HS2.out
    clear hb hse
    by_cases hb : 0 ≤ b ∧ b ≤ 1000000
    · obtain ⟨y', m', d', hd', htd⟩ := text_in ht.out hb
      have ht2 := full_txt htd
      by_cases hab : a < b
      · have hl : Op.bytesLess s.toList t.toList = true := by rw [Lib.toList_data, Lib.toList_data, HD.out.2, htd, less_txt HD.out.1 hd', decide_eq_true hab]
        clear hd' htd ht hb
        go_wp2_with fail
        refine (parse_walk x (by omega) _ (HT.out.below B4.out)).mono ?_
        rintro e w5 ⟨v, er, rfl, hR, hb⟩
        have B5 := Lib.hid (B4.out.trans (hb.mono B4.out.size))
        clear hb
        rcases hR with ⟨y3, m3, d3, g1, g2, g3, rfl⟩ | ⟨_, rfl, rfl⟩
        · have HG := Lib.hid (show Cal.TextR v x.data.toList from .inl ⟨g1.ge, g2, y3, m3, d3, g1, g3⟩)
          clear g1 g2 g3
          go_wp2_with fail
          refine (text_law v _ (HT.out.below B5.out)).mono ?_
          rintro e w6 ⟨q, rfl, hq, hb⟩
          have B6 := Lib.hid (B5.out.trans (hb.mono B5.out.size))
          obtain rfl : q = x := bytes_ext (hq.out.uniq HG.out)
          clear hb hq
          go_wp2_with fail
          go_ret
          exact ⟨by simp, B6.out⟩
        · go_wp2_with fail
          go_ret
          exact ⟨rfl, B5.out⟩
      · have hl : Op.bytesLess s.toList t.toList = false := by rw [Lib.toList_data, Lib.toList_data, HD.out.2, htd, less_txt HD.out.1 hd', decide_eq_false hab]
        clear hd' htd ht hb
        go_wp2_with fail
        refine (parse_walk x (by omega) _ (HT.out.below B4.out)).mono ?_
        rintro e w5 ⟨v, er, rfl, hR, hb⟩
        have B5 := Lib.hid (B4.out.trans (hb.mono B4.out.size))
        clear hb
        rcases hR with ⟨y3, m3, d3, g1, g2, g3, rfl⟩ | ⟨_, rfl, rfl⟩
        · have HG := Lib.hid (show Cal.TextR v x.data.toList from .inl ⟨g1.ge, g2, y3, m3, d3, g1, g3⟩)
          clear g1 g2 g3
          go_wp2_with fail
          refine (text_law v _ (HT.out.below B5.out)).mono ?_
          rintro e w6 ⟨q, rfl, hq, hb⟩
          have B6 := Lib.hid (B5.out.trans (hb.mono B5.out.size))
          obtain rfl : q = x := bytes_ext (hq.out.uniq HG.out)
          clear hb hq
          go_wp2_with fail
          go_ret
          exact ⟨by simp, B6.out⟩
        · go_wp2_with fail
          go_ret
          exact ⟨rfl, B5.out⟩
    · obtain rfl := text_out ht.out hb
      clear ht hb
      go_wp2_with fail
      refine (parse_walk x (by omega) _ (HT.out.below B4.out)).mono ?_
      rintro e w5 ⟨v, er, rfl, hR, hb⟩
      have B5 := Lib.hid (B4.out.trans (hb.mono B4.out.size))
      clear hb
      rcases hR with ⟨y3, m3, d3, g1, g2, g3, rfl⟩ | ⟨_, rfl, rfl⟩
      · have HG := Lib.hid (show Cal.TextR v x.data.toList from .inl ⟨g1.ge, g2, y3, m3, d3, g1, g3⟩)
        clear g1 g2 g3
        go_wp2_with fail
        refine (text_law v _ (HT.out.below B5.out)).mono ?_
        rintro e w6 ⟨q, rfl, hq, hb⟩
        have B6 := Lib.hid (B5.out.trans (hb.mono B5.out.size))
        obtain rfl : q = x := bytes_ext (hq.out.uniq HG.out)
        clear hb hq
        go_wp2_with fail
        go_ret
        exact ⟨by simp, B6.out⟩
      · go_wp2_with fail
        go_ret
        exact ⟨rfl, B5.out⟩
  · obtain rfl := text_out hs.out ha
    have HA := Lib.hid ha
    by_cases ha0 : a < 0
    · clear ha hs
      go_wp2_with fail
      refine (parse_is parse_empty (by decide) _ (HT.out.below B3.out)).mono ?_
      rintro e w4 ⟨rfl, hb⟩
      have B4 := Lib.hid (B3.out.trans (hb.mono B3.out.size))
      clear hb
      go_wp2_with fail
      refine (parse_walk x (by omega) _ (HT.out.below B4.out)).mono ?_
      rintro e w5 ⟨v, er, rfl, hR, hb⟩
      have B5 := Lib.hid (B4.out.trans (hb.mono B4.out.size))
      clear hb
      rcases hR with ⟨y3, m3, d3, g1, g2, g3, rfl⟩ | ⟨_, rfl, rfl⟩
      · have HG := Lib.hid (show Cal.TextR v x.data.toList from .inl ⟨g1.ge, g2, y3, m3, d3, g1, g3⟩)
        clear g1 g2 g3
        go_wp2_with fail
        refine (text_law v _ (HT.out.below B5.out)).mono ?_
        rintro e w6 ⟨q, rfl, hq, hb⟩
        have B6 := Lib.hid (B5.out.trans (hb.mono B5.out.size))
        obtain rfl : q = x := bytes_ext (hq.out.uniq HG.out)
        clear hb hq
        go_wp2_with fail
        go_ret
        exact ⟨by simp, B6.out⟩
      · go_wp2_with fail
        go_ret
        exact ⟨rfl, B5.out⟩
    · have ha1 : 1000000 < a := by omega
      have ha2 : decide (a ≤ 1000000) = false := by simp; omega
      clear ha hs
      go_wp2_with fail
      refine (parse_is parse_empty (by decide) _ (HT.out.below B3.out)).mono ?_
      rintro e w4 ⟨rfl, hb⟩
      have B4 := Lib.hid (B3.out.trans (hb.mono B3.out.size))
      clear hb
      go_wp2_with fail
      refine (parse_walk x (by omega) _ (HT.out.below B4.out)).mono ?_
      rintro e w5 ⟨v, er, rfl, hR, hb⟩
      have B5 := Lib.hid (B4.out.trans (hb.mono B4.out.size))
      clear hb
      rcases hR with ⟨y3, m3, d3, g1, g2, g3, rfl⟩ | ⟨_, rfl, rfl⟩
      · have HG := Lib.hid (show Cal.TextR v x.data.toList from .inl ⟨g1.ge, g2, y3, m3, d3, g1, g3⟩)
        clear g1 g2 g3
        go_wp2_with fail
        refine (text_law v _ (HT.out.below B5.out)).mono ?_
        rintro e w6 ⟨q, rfl, hq, hb⟩
        have B6 := Lib.hid (B5.out.trans (hb.mono B5.out.size))
        obtain rfl : q = x := bytes_ext (hq.out.uniq HG.out)
        clear hb hq
        go_wp2_with fail
        go_ret
        exact ⟨by simp, B6.out⟩
      · go_wp2_with fail
        go_ret
        exact ⟨rfl, B5.out⟩

theorem law_walk (a b : Int) (x : ByteArray) (w : World) (_a1 : -9223372036854775808 ≤ a) (_a2 : a ≤ 9223372036854775807) (_b1 : -9223372036854775808 ≤ b) (_b2 : b ≤ 9223372036854775807) (hx : x.size ≤ 9223372036854775807) (ht : HasTab w) :
    Calls Tryd.prog 6 #[.int .i64 a, .int .i64 b, .string x] w fun e w' => e = .returned (.bool true) ∧ Below w.heap.size w w' := by
  by_cases h : 40 < x.size
  · exact w_long a b x h hx w ht
  · exact w_main a b x (by omega) w ht

set_option maxRecDepth 100000 in
/-- What the walk gives, for all arguments and every world that holds the tables. -/
theorem contract (H : Type) (enc : TypeId × Value → H) (W : World) (base : Nat) (args : Array Value) (ds gs : List (DataW H)) (before : List MemPlace)
    (hval : ∀ (j : Nat) t v, Tryd.f6.params[j]? = some t → args[j]? = some v → Value.okWide Tryd.prog W .any base t v)
    (hW : DataW.Whole enc Tryd.prog Tryd.f6.params.toList Rows.calendarTextsSpec.vars false W args.toList ds gs before) (hL : laidMetH Tryd.prog laidAll W) :
    Calls Tryd.prog 6 args W fun e W' => ∃ v, e = .returned v ∧ Rows.calendarTextsSpec.post enc Tryd.prog Tryd.f6 false true false false W args v W' := by
  have hW' := hW
  obtain ⟨p, q, hA0, hV, rfl, hfz, hnd⟩ := hW
  have hA : DataW.TrodAll enc Tryd.prog W 0 (fun _ => true) true Tryd.f6.params.toList args.toList ds p := hA0
  rw [Tryd.params6] at hA hval
  obtain ⟨v0, vs0, d0, ds0, p0, q0, hargs, rfl, rfl, h0, r0⟩ := trodAll_cons hA
  obtain ⟨v1, vs1, d1, ds1, p1, q1, rfl, rfl, rfl, h1, r1⟩ := trodAll_cons r0
  obtain ⟨v2, vs2, d2, ds2, p2, q2, rfl, rfl, rfl, h2, r2⟩ := trodAll_cons r1
  obtain ⟨rfl, rfl, rfl⟩ := trodAll_nil r2
  obtain rfl : args = #[v0, v1, v2] := by cases args; simp_all
  obtain ⟨rfl, rfl⟩ := trodVars_none hV
  obtain ⟨z0, rfl, _, _, g0⟩ := open_int Tryd.underlying3 (hval 0 3 v0 rfl rfl) h0
  obtain ⟨z1, rfl, _, _, g1⟩ := open_int Tryd.underlying3 (hval 1 3 v1 rfl rfl) h1
  obtain ⟨a2, rfl, _, _, g2⟩ := open_string Tryd.underlying9 (hval 2 9 v2 rfl rfl) h2
  refine (law_walk z0 z1 a2 W (bounds_i64 g0).1 (bounds_i64 g0).2 (bounds_i64 g1).1 (bounds_i64 g1).2 (le_of_max g2) (hasTab hL)).mono fun e W' ⟨he, hg⟩ => ?_
  subst he
  exact ⟨_, rfl, post_law rfl rfl rfl rfl rfl (by rw [Tryd.params6]; decide) hW' hg⟩

theorem laid_met (os : Os) : laidMet Tryd.prog Rows.calendarTextsRow.laid ((laidWorld os).forCall (fun _ _ => 0) ⟨#[], #[.int .i64 0, .int .i64 0, .string ⟨#[]⟩], []⟩).memory :=
  laidMet_of_run' 8 (by kernel_rfl) (by kernel_rfl)
theorem reads (os : Os) {H : Type} (enc : TypeId × Value → H) : ∃ places, DataW.whole enc Tryd.prog ((laidWorld os).forCall (fun _ _ => 0) ⟨#[], #[.int .i64 0, .int .i64 0, .string ⟨#[]⟩], []⟩).memory Tryd.f6.params.toList Rows.calendarTextsSpec.vars false #[Value.int .i64 0, Value.int .i64 0, Value.string ⟨#[]⟩].toList 8 = some ([.lit (.int .i64 0), .lit (.int .i64 0), .lit (.string [])], [], places) :=
  ⟨[], by kernel_rfl⟩

set_option maxRecDepth 100000 in
theorem lifted (os : Os) (started : os.Started) (H : Type) (enc : TypeId × Value → H) (F : Stop.Interp) :
    ReturnsInHanded {} Tryd.checked os 6 .any ((OpenSpec.ofChange Rows.calendarTextsSpec).preRow enc Tryd.prog Tryd.f6 Rows.calendarTextsRow.domain false Rows.calendarTextsRow.laid) (((OpenSpec.ofChange Rows.calendarTextsSpec).at F).post enc Tryd.prog Tryd.f6 false true false false) := by
  obtain ⟨places, hx⟩ := reads os enc
  refine returnsInHanded_of_row (C := Tryd.checked) (s := OpenSpec.ofChange Rows.calendarTextsSpec) own started (by kernel_rfl) Tryd.func6
    (witness_row_at (enc := enc) (C := Tryd.checked) false (laidWorld os) #[.int .i64 0, .int .i64 0, .string ⟨#[]⟩] rfl (by kernel_rfl) (by kernel_rfl) (by kernel_rfl)
      (OpenSpec.preRow_of_cond 8 hx (by kernel_rfl) (fun k hk => by cases hk) (by kernel_rfl) (laid_met os))) ?_
  intro W base args ds gs before hval hW _ _ _ hL _ _
  exact contract H enc W base args ds gs before hval hW hL

theorem said : Rows.CalendarTextsSaid :=
  OpenClaim.holds_of_cond 6 Tryd.f6 rfl rfl rfl rfl rfl rfl rfl ⟨rfl, rfl, rfl, rfl, rfl⟩ rfl rfl rfl rfl rfl (by kernel_rfl) Tryd.func6 (by kernel_rfl)
    (of_decide_eq_true (by kernel_rfl)) (by unfold Func.isWrapper; first | (rw [if_pos (by decide +kernel)]; kernel_rfl) | (rw [if_neg (by decide +kernel)]; exact ⟨rfl, rfl⟩))
    (fun os started H enc _ F => by rw [OpenClaim.pre_eq_preRow]; exact lifted os started H enc F)

set_option maxRecDepth 100000 in
/-- No parameter wants a stand-in; the program's own looks are off: what the card asks. -/
theorem plain (f : FuncId) (fn : Func) (hf : Tryd.pinned.checked.prog.funcNamed "pandect/pandectlaw04.CalendarTexts" = some f) (hfn : Tryd.pinned.checked.prog.funcs[f]? = some fn) :
    false = Tryd.pinned.checked.prog.looks [] ∧ ∀ (j : Nat) t, fn.params[j]? = some t → Tryd.pinned.checked.prog.wantsStandIn t = false := by
  obtain rfl : f = 6 := Option.some.inj ((show Tryd.prog.funcNamed "pandect/pandectlaw04.CalendarTexts" = some 6 by kernel_rfl).symm.trans hf) |>.symm
  obtain rfl : fn = Tryd.f6 := (Option.some.inj (Tryd.func6.symm.trans hfn)).symm
  refine ⟨by kernel_rfl, fun j t ht => ?_⟩
  rw [Tryd.params6] at ht
  have hm := Array.mem_of_getElem? ht
  simp only [List.mem_toArray, List.mem_cons, List.not_mem_nil, or_false] at hm
  rcases hm with rfl | rfl | rfl
  · exact wants_int
  · exact wants_int
  · exact wants_string

theorem card : Rows.CalendarTextsCardSaid :=
  Claim7.holds_tied_plain_at .later [] _ _ _ _ said (fun _ h => by cases h) (by kernel_rfl) (fun _ h => by cases h) calendarTexts_row_tie rfl ⟨rfl, rfl⟩ (by kernel_rfl) rfl plain (by kernel_rfl)
end Go.Proofs.YthikonibmpngmaaDoor.calendarTexts
