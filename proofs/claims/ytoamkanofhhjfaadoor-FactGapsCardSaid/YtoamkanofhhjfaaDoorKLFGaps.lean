import Derived.Test.YtoamkanofhhjfaaDoorKLFrameD
import Derived.Test.YtoamkanofhhjfaaDoorKFApart
import Derived.Laws.Strings
/-
  FactGaps (P6.6): for every domain and texts, the tokens of the texts with one line feed after each have the same domain, or case, or the same error. No condition: the statement itself asks at most 70 facts with names of at most 100 bytes and texts of at most 2000 bytes; for others it says what the law's opening check answers.
-/
namespace Go.Proofs.YtoamkanofhhjfaaDoor.factGaps
open Go.ChangeShapes Go.WideShapes Go.ChangeAt Go.RowKit
open Go.ChangeMaps (open_string shut_string)

/-- What Lex answers of a text that is not long. -/
theorem lex_two (s : ByteArray) (hs : s.size ≤ 2000) : ∃ (E A : Int) (l : List Lx.Tok),
    (∀ w, Calls Tryd.prog 21 #[.string s] w fun e w' => ∃ v, e = .returned (.tuple #[v, .int .i64 E, .int .i64 A]) ∧ Lx.IsL w' v l ∧ Below w.heap.size w w') ∧
    ((E = 0 ∧ (Lx.lex (Lx.tx s) 0).2 = none ∧ l = (Lx.lex (Lx.tx s) 0).1) ∨ E ≠ 0) := by
  have hl := Lx.tx_len s
  cases hx : (Lx.lex (Lx.tx s) 0).2 with
  | none => exact ⟨0, 0, _, lex_of s (by omega) _ 0 0 0 rfl (Lx.full_ok (by omega) (Prod.ext rfl hx)), .inl ⟨rfl, rfl, rfl⟩⟩
  | some z =>
    obtain ⟨E, a⟩ := z
    have hE := (Lx.lex_errAt _ (Lx.tx s) (Nat.le_refl _) 0 (E, a) hx).2.2
    simp only at hE
    exact ⟨(E : Nat), (a : Nat), [], lex_of s (by omega) [] _ _ E rfl (Lx.full_no (by omega) (Prod.ext rfl hx)), .inr (by omega)⟩
/-- An answer of Parse. -/
def PA (E : Int) (d : List Fc.Fact) (w : World) (e : Ending) (w' : World) : Prop := ∃ v I, e = .returned (.tuple #[.agg #[v], .int .i64 E, .int .i64 I]) ∧ Fc.IsF w' v d ∧ Below w.heap.size w w'
/-- An answer of ParseCase. -/
def PC (E : Int) (c : List Int) (w : World) (e : Ending) (w' : World) : Prop := ∃ v I, e = .returned (.tuple #[v, .int .i64 E, .int .i64 I]) ∧ Fc.IsN w' v c ∧ Below w.heap.size w w'
theorem parse_two (s t : ByteArray) (hs : s.size ≤ 9223372036854775807) (ht : t.size ≤ 9223372036854775807) (h : Fc.Both (Fc.parseT (Lx.tx s)) (Fc.parseT (Lx.tx t))) :
    ∃ (E : Int) (d : List Fc.Fact), (∀ w, Calls Tryd.prog 12 #[.string s] w (PA E d w)) ∧ ∀ w, Calls Tryd.prog 12 #[.string t] w (PA E d w) := by
  rcases h with ⟨d, h1, h2⟩ | ⟨E, i, j, _, h1, h2⟩
  · refine ⟨0, d, fun w => (parse_is s hs w h1).mono ?_, fun w => (parse_is t ht w h2).mono ?_⟩
    · rintro e w' ⟨hb, a, c, rfl, hF, _⟩; exact ⟨_, _, rfl, hF, hb⟩
    · rintro e w' ⟨hb, a, c, rfl, hF, _⟩; exact ⟨_, _, rfl, hF, hb⟩
  · refine ⟨(E : Nat), [], fun w => (parse_err s hs w h1).mono ?_, fun w => (parse_err t ht w h2).mono ?_⟩
    · rintro e w' ⟨rfl, hb⟩; exact ⟨_, _, rfl, Fc.IsF.nil _, hb⟩
    · rintro e w' ⟨rfl, hb⟩; exact ⟨_, _, rfl, Fc.IsF.nil _, hb⟩
theorem case_two (d : List Fc.Fact) (s t : ByteArray) (hs : s.size ≤ 9223372036854775807) (ht : t.size ≤ 9223372036854775807) (h : Fc.Both (Fc.caseT d (Lx.tx s)) (Fc.caseT d (Lx.tx t))) :
    ∃ (E : Int) (c : List Int), (∀ v w, Fc.IsF w v d → Calls Tryd.prog 15 #[.agg #[v], .string s] w (PC E c w)) ∧ ∀ v w, Fc.IsF w v d → Calls Tryd.prog 15 #[.agg #[v], .string t] w (PC E c w) := by
  by_cases hv : Fc.Valid d
  · rcases h with ⟨c, h1, h2⟩ | ⟨E, i, j, _, h1, h2⟩
    · refine ⟨0, c, fun v w hF => (parsecase_is v d s hs w hF hv h1).mono ?_, fun v w hF => (parsecase_is v d t ht w hF hv h2).mono ?_⟩
      · rintro e w' ⟨hb, g, rfl, hN, _⟩; exact ⟨_, _, rfl, hN, hb⟩
      · rintro e w' ⟨hb, g, rfl, hN, _⟩; exact ⟨_, _, rfl, hN, hb⟩
    · refine ⟨(E : Nat), [], fun v w hF => (parsecase_err v d s hs w hF hv h1).mono ?_, fun v w hF => (parsecase_err v d t ht w hF hv h2).mono ?_⟩
      · rintro e w' ⟨rfl, hb⟩; exact ⟨_, _, rfl, Fc.IsN.nil _, hb⟩
      · rintro e w' ⟨rfl, hb⟩; exact ⟨_, _, rfl, Fc.IsN.nil _, hb⟩
  · refine ⟨1, [], fun v w hF => (parsecase_no v d s w hF hv).mono ?_, fun v w hF => (parsecase_no v d t w hF hv).mono ?_⟩
    · rintro e w' ⟨rfl, hb⟩; exact ⟨_, _, rfl, Fc.IsN.nil _, hb⟩
    · rintro e w' ⟨rfl, hb⟩; exact ⟨_, _, rfl, Fc.IsN.nil _, hb⟩
/-- The text of a text's tokens. -/
theorem apart_of (s : ByteArray) (hs : s.size ≤ 2000) (l : List Lx.Tok) (hl : l = (Lx.lex (Lx.tx s) 0).1) : (Lx.str (Fc.lines l)).size ≤ 4000 ∧
    ∀ (v : Value) (w : World), Lx.IsL w v l → Calls Tryd.prog 22 #[v] w fun e w' => e = .returned (.string (Lx.str (Fc.lines l))) ∧ w = w' := by
  have h1 := Fc.lines_len _ (Lx.tx s) (Nat.le_refl _) 0
  rw [← hl, Lx.tx_len] at h1
  refine ⟨by rw [Fc.str_size]; omega, fun v w h => apart_walk v l w h (fun k => ?_) (fun t ht => ?_)⟩
  · have := Fc.lines_mono l k; omega
  · rw [hl] at ht
    exact ((Lx.lex_good _ (Lx.tx s) (Nat.le_refl _) 0).1 t ht).small

set_option maxHeartbeats 4000000 in
set_option maxRecDepth 100000 in
/-- Sizes that are too great: the law says true. -/
theorem out_walk (v : Value) (d : List Fc.Fact) (s o : ByteArray) (w : World) (hv : Fc.IsF w v d) (ht : HasTab w)
    (hno : ¬ (Fc.Few d 70 ∧ s.size ≤ 2000 ∧ o.size ≤ 2000)) :
    Calls Tryd.prog 7 #[.agg #[v], .string s, .string o] w fun e w' => e = .returned (.bool true) ∧ Below w.heap.size w w' := by
  have HV : Hid (∀ w', Below w.heap.size w w' → Fc.IsF w' v d) := fun w' hb => hv.below hb
  obtain ⟨y, c, rfl, _, _⟩ := hv.form
  obtain ⟨n, hn⟩ : ∃ n, n = d.length := ⟨_, rfl⟩
  rw [← hn] at HV ⊢
  have HB0 := Lib.hid (Boxed.start w (.slice y n c))
  have HT0 := Lib.hid (ht.below HB0.out.below)
  have HNO := Lib.hid hno
  clear hn ht hno hv
  go_enter Tryd.func7, Tryd.ntmps7
  go_wp2_with fail
  refine (head_walk _ HT0.out).mono ?_
  rintro e w1 ⟨rfl, hb1⟩
  have hx1 := HB0.out.next hb1
  have q1 := hx1.cell
  have HX1 := Lib.hid hx1
  clear hb1 hx1 HB0 HT0
  go_wp2_with fail
  refine (few_walk _ _ d [] w1 (HV.out _ HX1.out.below) (Fc.IsN.nil _)).mono ?_
  rintro e w2 ⟨⟨t, rfl, hb⟩, hb2⟩
  have HX2 := Lib.hid (HX1.out.next hb2)
  clear hb2 HX1 q1
  cases t with
  | false =>
    clear hb
    go_wp2_with fail
    go_ret
    exact ⟨rfl, HX2.out.below⟩
  | true =>
    have HF := Lib.hid (hb.1 rfl).1
    clear hb
    by_cases h20 : s.size ≤ 2000
    · have hs : ¬ o.size ≤ 2000 := fun h => HNO.out ⟨HF.out, h20, h⟩
      have h70i : decide ((2000 : Int) < (s.size : Int)) = false := decide_eq_false (by omega)
      have h70j : ¬ (2000 : Int) < (s.size : Int) := by omega
      have h70k : decide ((2000 : Int) < (o.size : Int)) = true := decide_eq_true (by omega)
      have h70l : (2000 : Int) < (o.size : Int) := by omega
      go_wp2_with fail
      go_ret
      exact ⟨rfl, HX2.out.below⟩
    · have h70i : decide ((2000 : Int) < (s.size : Int)) = true := decide_eq_true (by omega)
      have h70j : (2000 : Int) < (s.size : Int) := by omega
      go_wp2_with fail
      go_ret
      exact ⟨rfl, HX2.out.below⟩

set_option maxHeartbeats 8000000 in
set_option maxRecDepth 100000 in
theorem in_walk (v : Value) (d : List Fc.Fact) (s o : ByteArray) (w : World) (hv : Fc.IsF w v d) (ht : HasTab w)
    (hyes : Fc.Few d 70 ∧ s.size ≤ 2000 ∧ o.size ≤ 2000) :
    Calls Tryd.prog 7 #[.agg #[v], .string s, .string o] w fun e w' => e = .returned (.bool true) ∧ Below w.heap.size w w' := by
  have HV : Hid (∀ w', Below w.heap.size w w' → Fc.IsF w' v d) := fun w' hb => hv.below hb
  obtain ⟨y, c, rfl, _, _⟩ := hv.form
  obtain ⟨n, hn⟩ : ∃ n, n = d.length := ⟨_, rfl⟩
  rw [← hn] at HV ⊢
  have HB0 := Lib.hid (Boxed.start w (.slice y n c))
  have HT0 := Lib.hid (ht.below HB0.out.below)
  have HY := Lib.hid hyes
  have h70i : decide ((2000 : Int) < (s.size : Int)) = false := decide_eq_false (by omega)
  have h70j : ¬ (2000 : Int) < (s.size : Int) := by omega
  have h70k : decide ((2000 : Int) < (o.size : Int)) = false := decide_eq_false (by omega)
  have h70l : ¬ (2000 : Int) < (o.size : Int) := by omega
  obtain ⟨E1, A1, l, hl1, hl2⟩ := lex_two s hyes.2.1
  obtain ⟨E2, A2, m, hm1, hm2⟩ := lex_two o hyes.2.2
  have HL1 := Lib.hid hl1
  have HL2 := Lib.hid hl2
  have HM1 := Lib.hid hm1
  have HM2 := Lib.hid hm2
  clear hn ht hyes hv hl1 hl2 hm1 hm2
  go_enter Tryd.func7, Tryd.ntmps7
  go_wp2_with fail
  refine (head_walk _ HT0.out).mono ?_
  rintro e w1 ⟨rfl, hb1⟩
  have hx1 := HB0.out.next hb1
  have q1 := hx1.cell
  have HX1 := Lib.hid hx1
  clear hb1 hx1 HB0 HT0
  go_wp2_with fail
  refine (few_is _ _ d [] w1 (HV.out _ HX1.out.below) (Fc.IsN.nil _) true (by simp [HY.out.1])).mono ?_
  rintro e w2 ⟨rfl, hb2⟩
  have hx2 := HX1.out.next hb2
  have q2 := hx2.cell
  have HX2 := Lib.hid hx2
  clear hb2 hx2 HX1 q1
  go_wp2_with fail
  refine (HL1.out w2).mono ?_
  rintro e w3 ⟨vl, rfl, hvl, hb3⟩
  have hx3 := HX2.out.next hb3
  have q3 := hx3.cell
  have HX3 := Lib.hid hx3
  have HVL : Hid (∀ w', Below w3.heap.size w3 w' → Lx.IsL w' vl l) := fun w' hb => hvl.below hb
  clear hb3 hx3 HX2 q2 hvl HL1
  go_wp2_with fail
  refine (HM1.out w3).mono ?_
  rintro e w4 ⟨vm, rfl, hvm, hb4⟩
  have hx4 := HX3.out.next hb4
  have q4 := hx4.cell
  have HX4 := Lib.hid hx4
  have HVL4 : Hid (∀ w', Below w4.heap.size w4 w' → Lx.IsL w' vl l) := fun w' hb => HVL.out _ (hb4.trans (hb.mono hb4.size))
  have HVM : Hid (∀ w', Below w4.heap.size w4 w' → Lx.IsL w' vm m) := fun w' hb => hvm.below hb
  clear hb4 hx4 HX3 q3 hvm HM1 HVL
  rcases HL2.out with ⟨rfl, hlx, hll⟩ | hne
  case' inl =>
    obtain ⟨z, hz⟩ : ∃ z, z = Lx.str (Fc.lines l) := ⟨_, rfl⟩
    obtain ⟨hz4, hap⟩ := apart_of s HY.out.2.1 l hll
    have hbo := Fc.parseT_lines (s := Lx.tx s) (by rw [Lx.tx_len]; exact HY.out.2.1) hlx
    rw [← hll, ← Lx.tx_str (Fc.lines l)] at hbo
    rw [← hz] at hbo hz4
    obtain ⟨E, dd, hp1, hp2⟩ := parse_two s z (by have := HY.out.2.1; omega) (by omega) hbo
    have HP1 := Lib.hid hp1
    have HP2 := Lib.hid hp2
    have HAP : Hid (∀ (v : Value) (w : World), Lx.IsL w v l → Calls Tryd.prog 22 #[v] w fun e w' => e = .returned (.string z) ∧ w = w') := by rw [hz]; exact hap
    clear hlx hll hz4 hap hbo hp1 hp2 hz
    go_wp2_with fail
    refine (HP1.out w4).mono ?_
    rintro e w5 ⟨v5, I5, rfl, hF5, hb5⟩
    obtain ⟨a5, c5, rfl, _, _⟩ := hF5.form
    obtain ⟨nd, hnd⟩ : ∃ nd, nd = dd.length := ⟨_, rfl⟩
    rw [← hnd] at hF5 ⊢
    obtain ⟨W5, hW5⟩ : ∃ W5, W5 = w5.alloc (.cells #[.slice a5 nd c5] 24) := ⟨_, rfl⟩
    have hbW : Below w5.heap.size w5 W5 := by rw [hW5]; exact below_box _ _
    obtain ⟨n5, hn5⟩ : ∃ n5, n5 = w5.heap.size := ⟨_, rfl⟩
    have hk : W5.heap[n5]? = some (.cells #[.slice a5 nd c5] 24 (0, 0)) := by rw [hW5, hn5]; exact heap_alloc_new _ _
    have hlt : n5 < W5.heap.size := (Array.getElem?_eq_some_iff.1 hk).1
    have hb45 := hb5.trans (hbW.mono hb5.size)
    have HF5 : Hid (∀ w', Below W5.heap.size W5 w' → Fc.IsF w' (.slice a5 nd c5) dd) := fun w' hb => (hF5.below hbW).below hb
    have HC5 : Hid (∀ w', Below W5.heap.size W5 w' → w'.cell? ⟨n5, 0, none⟩ = some (.slice a5 nd c5)) := fun w' hb => (hb.cell (p := ⟨n5, 0, none⟩) hlt).trans (Joins.cell_of_block hk 0)
    have HX5 := Lib.hid (HX4.out.next hb45)
    have HVL5 := Lib.hid (HVL4.out W5 hb45)
    have HVM5 : Hid (∀ w', Below W5.heap.size W5 w' → Lx.IsL w' vm m) := fun w' hb => HVM.out _ (hb45.trans (hb.mono hb45.size))
    have HW5 : Hid (w5.alloc (.cells #[.slice a5 nd c5] 24) = W5) := hW5.symm
    have HN5 := Lib.hid hn5
    clear hW5 hbW hn5 hk hlt hb45 hF5 hb5 HX4 q4 HP1 HVL4 HVM hnd
    go_upto_region 8 with fail
    rw [HW5.out, ← HN5.out]
    clear HW5 HN5
    go_wp2_with fail
    refine (HAP.out _ W5 HVL5.out).mono ?_
    rintro e w6 ⟨rfl, rfl⟩
    go_wp2_with fail
    refine (HP2.out W5).mono ?_
    rintro e w7 ⟨v7, I7, rfl, hF7, hb7⟩
    obtain ⟨a7, c7, rfl, _, _⟩ := hF7.form
    obtain ⟨nd7, hnd7⟩ : ∃ nd, nd = dd.length := ⟨_, rfl⟩
    rw [← hnd7] at hF7 ⊢
    obtain ⟨W7, hW7⟩ : ∃ W7, W7 = w7.alloc (.cells #[.slice a7 nd7 c7] 24) := ⟨_, rfl⟩
    have hbW : Below w7.heap.size w7 W7 := by rw [hW7]; exact below_box _ _
    obtain ⟨n7, hn7⟩ : ∃ n7, n7 = w7.heap.size := ⟨_, rfl⟩
    have hk : W7.heap[n7]? = some (.cells #[.slice a7 nd7 c7] 24 (0, 0)) := by rw [hW7, hn7]; exact heap_alloc_new _ _
    have hb57 := hb7.trans (hbW.mono hb7.size)
    have r5 := HC5.out W7 hb57
    have r7 : W7.cell? ⟨n7, 0, none⟩ = some (.slice a7 nd7 c7) := Joins.cell_of_block hk 0
    have HX7 := Lib.hid (HX5.out.next hb57)
    have HVM7 : Hid (∀ w', Below W7.heap.size W7 w' → Lx.IsL w' vm m) := fun w' hb => HVM5.out _ (hb57.trans (hb.mono hb57.size))
    have HSM := Lib.hid (same_is _ _ dd dd W7 (HF5.out _ hb57) (hF7.below hbW) true (by simp))
    have HW7 : Hid (w7.alloc (.cells #[.slice a7 nd7 c7] 24) = W7) := hW7.symm
    have HN7 := Lib.hid hn7
    have hEE : (E != E) = false := by simp
    clear hW7 hbW hn7 hk hb57 hF7 hb7 hnd7 HX5 HP2 HVM5 HF5 HC5 HVL5 HAP
    go_upto_region 9 with fail
    rw [HW7.out, ← HN7.out]
    clear HW7 HN7
    go_wp2_with fail
    refine HSM.out.mono ?_
    rintro e w8 ⟨rfl, hb8⟩
    have hx8 := HX7.out.next hb8
    have qz := hx8.cell
    have HXZ := Lib.hid hx8
    have HVMZ : Hid (∀ w', Below w8.heap.size w8 w' → Lx.IsL w' vm m) := fun w' hb => HVM7.out _ (hb8.trans (hb.mono hb8.size))
    clear hb8 hx8 HX7 HVM7 HSM hEE r5 r7
    go_upto_region 11 with fail
  case' inr =>
    have hE1 : (E1 == 0) = false := beq_eq_false_iff_ne.2 hne
    have qz := q4
    have HXZ := HX4
    have HVMZ := HVM
    clear q4 HX4 HVM HVL4
    go_upto_region 11 with fail
  all_goals
    rcases HM2.out with ⟨rfl, hmx, hml⟩ | hne2
    · obtain ⟨z2, hz2⟩ : ∃ z, z = Lx.str (Fc.lines m) := ⟨_, rfl⟩
      obtain ⟨hz4, hap⟩ := apart_of o HY.out.2.2 m hml
      have hbo := Fc.caseT_lines (d := d) (s := Lx.tx o) (by rw [Lx.tx_len]; exact HY.out.2.2) hmx
      rw [← hml, ← Lx.tx_str (Fc.lines m)] at hbo
      rw [← hz2] at hbo hz4
      obtain ⟨F, cc, hp1, hp2⟩ := case_two d o z2 (by have := HY.out.2.2; omega) (by omega) hbo
      have HP1 := Lib.hid hp1
      have HP2 := Lib.hid hp2
      have HAP : Hid (∀ (v : Value) (w : World), Lx.IsL w v m → Calls Tryd.prog 22 #[v] w fun e w' => e = .returned (.string z2) ∧ w = w') := by rw [hz2]; exact hap
      clear hmx hml hz4 hap hbo hp1 hp2 hz2 h70i h70j h70k h70l HY HL2 HM2
      go_wp2_with fail
      refine (HP1.out _ _ (HV.out _ HXZ.out.below)).mono ?_
      rintro e w9 ⟨v9, I9, rfl, hN9, hb9⟩
      have hx9 := HXZ.out.next hb9
      have HN9 : Hid (∀ w', Below w9.heap.size w9 w' → Fc.IsN w' v9 cc) := fun w' hb => hN9.below hb
      have r3 : ∀ w', Fc.Old w9 w' → w'.cell? ⟨w.heap.size, 0, none⟩ = some (.slice y n c) := fun w' h => (hx9.next h.out).cell
      have HX9 := Lib.hid hx9
      have HAP9 : Hid (∀ w', Fc.Old w9 w' → Calls Tryd.prog 22 #[vm] w' fun e w'' => e = .returned (.string z2) ∧ w' = w'') := fun w' h => HAP.out vm w' (HVMZ.out _ (hb9.trans (h.out.mono hb9.size)))
      have HPC : Hid (∀ w', Fc.Old w9 w' → Calls Tryd.prog 15 #[.agg #[.slice y n c], .string z2] w' (PC F cc w')) := fun w' h => HP2.out _ w' (HV.out _ (HX9.out.next h.out).below)
      have hFF : (F == F) = true := by simp
      clear hb9 hx9 HXZ qz HP1 HP2 HAP HVMZ HV hN9
      go_wp2_with fail
      go_region_held3 (fun w' => Fc.Old w9 w') (first | exact Fc.Old.refl w9 | exact Fc.Old.drew w9 | exact Fc.Old.step (by with_reducible assumption) (by with_reducible assumption) | with_reducible assumption) (first | (go_at_call 22; (with_reducible refine (HAP9.out _ (by with_reducible assumption)).mono ?_); rintro e10 w10 ⟨rfl, rfl⟩) | (go_at_call 15; (with_reducible refine (HPC.out _ (by with_reducible assumption)).mono ?_); rintro e11 w11 ⟨v11, I11, rfl, hN11, hb11⟩))
      have hO : Fc.Old w9 w11 := by with_reducible assumption
      have HX11 := Lib.hid (HX9.out.next hO.out)
      have HQ := Lib.hid (equal_is _ _ cc cc w11 (HN9.out _ hO.out) hN11 true (by simp))
      clear r3 HAP9 HPC HX9 HN9 hN11 hb11 hO
      go_wp2_with fail
      refine HQ.out.mono ?_
      rintro e w12 ⟨rfl, hb12⟩
      have HX12 := Lib.hid (HX11.out.next hb12)
      clear hb12 HX11 HQ
      go_wp2_with fail
      go_ret
      exact ⟨rfl, HX12.out.below⟩
    · have hE2 : (E2 != 0) = true := by rw [bne_iff_ne]; exact hne2
      clear HV HVMZ
      go_wp2_with fail
      go_ret
      exact ⟨rfl, HXZ.out.below⟩

set_option maxRecDepth 100000 in
theorem law_walk (v : Value) (d : List Fc.Fact) (s o : ByteArray) (w : World) (hv : Fc.IsF w v d) (_ : s.size ≤ 9223372036854775807) (_ : o.size ≤ 9223372036854775807) (ht : HasTab w) :
    Calls Tryd.prog 7 #[.agg #[v], .string s, .string o] w fun e w' => e = .returned (.bool true) ∧ Below w.heap.size w w' := by
  by_cases h : Fc.Few d 70 ∧ s.size ≤ 2000 ∧ o.size ≤ 2000
  · exact in_walk v d s o w hv ht h
  · exact out_walk v d s o w hv ht h

set_option maxRecDepth 100000 in
/-- What the walk gives, for all arguments and every world that holds the tables. -/
theorem contract (H : Type) (enc : TypeId × Value → H) (W : World) (base : Nat) (args : Array Value) (ds gs : List (DataW H)) (before : List MemPlace)
    (hval : ∀ (j : Nat) t v, Tryd.f7.params[j]? = some t → args[j]? = some v → Value.okWide Tryd.prog W .any base t v)
    (hW : DataW.Whole enc Tryd.prog Tryd.f7.params.toList Rows.factGapsSpec.vars false W args.toList ds gs before) (hL : laidMetH Tryd.prog laidAll W) :
    Calls Tryd.prog 7 args W fun e W' => ∃ v, e = .returned v ∧ Rows.factGapsSpec.post enc Tryd.prog Tryd.f7 false true false false W args v W' := by
  have hW' := hW
  obtain ⟨p, q, hA0, hV, rfl, hfz, hnd⟩ := hW
  have hA : DataW.TrodAll enc Tryd.prog W 0 (fun _ => true) true Tryd.f7.params.toList args.toList ds p := hA0
  rw [Tryd.params7] at hA hval
  obtain ⟨v0, vs0, d0, ds0, p0, q0, hargs, rfl, rfl, h0, r0⟩ := trodAll_cons hA
  obtain ⟨v1, vs1, d1, ds1, p1, q1, rfl, rfl, rfl, h1, r1⟩ := trodAll_cons r0
  obtain ⟨v2, vs2, d2, ds2, p2, q2, rfl, rfl, rfl, h2, r2⟩ := trodAll_cons r1
  obtain ⟨rfl, rfl, rfl⟩ := trodAll_nil r2
  obtain rfl : args = #[v0, v1, v2] := by cases args; simp_all
  obtain ⟨rfl, rfl⟩ := trodVars_none hV
  obtain ⟨u0, l0, rfl, t0⟩ := open_domain (hval 0 24 v0 rfl rfl) h0
  obtain ⟨a1, rfl, _, _, g1⟩ := open_string Tryd.underlying9 (hval 1 9 v1 rfl rfl) h1
  obtain ⟨a2, rfl, _, _, g2⟩ := open_string Tryd.underlying9 (hval 2 9 v2 rfl rfl) h2
  refine (law_walk u0 l0 a1 a2 W t0 (le_of_max g1) (le_of_max g2) (hasTab hL)).mono fun e W' ⟨he, hg⟩ => ?_
  subst he
  exact ⟨_, rfl, post_law rfl rfl rfl rfl rfl (by rw [Tryd.params7]; decide) hW' hg⟩

theorem laid_met (os : Os) : laidMet Tryd.prog Rows.factGapsRow.laid ((laidWorld os).forCall (fun _ _ => 0) ⟨#[], #[.agg #[.slice none 0 0], .string ⟨#[]⟩, .string ⟨#[]⟩], []⟩).memory :=
  laidMet_of_run' 8 (by kernel_rfl) (by kernel_rfl)
theorem reads (os : Os) {H : Type} (enc : TypeId × Value → H) : ∃ places, DataW.whole enc Tryd.prog ((laidWorld os).forCall (fun _ _ => 0) ⟨#[], #[.agg #[.slice none 0 0], .string ⟨#[]⟩, .string ⟨#[]⟩], []⟩).memory Tryd.f7.params.toList Rows.factGapsSpec.vars false #[Value.agg #[.slice none 0 0], Value.string ⟨#[]⟩, Value.string ⟨#[]⟩].toList 8 = some ([.agg [.nil], .lit (.string []), .lit (.string [])], [], places) :=
  ⟨[], by kernel_rfl⟩

set_option maxRecDepth 100000 in
theorem lifted (os : Os) (started : os.Started) (H : Type) (enc : TypeId × Value → H) (F : Stop.Interp) :
    ReturnsInHanded {} Tryd.checked os 7 .any ((OpenSpec.ofChange Rows.factGapsSpec).preRow enc Tryd.prog Tryd.f7 Rows.factGapsRow.domain false Rows.factGapsRow.laid) (((OpenSpec.ofChange Rows.factGapsSpec).at F).post enc Tryd.prog Tryd.f7 false true false false) := by
  obtain ⟨places, hx⟩ := reads os enc
  refine returnsInHanded_of_row (C := Tryd.checked) (s := OpenSpec.ofChange Rows.factGapsSpec) own started (by kernel_rfl) Tryd.func7
    (witness_row_at (enc := enc) (C := Tryd.checked) false (laidWorld os) #[.agg #[.slice none 0 0], .string ⟨#[]⟩, .string ⟨#[]⟩] rfl (by kernel_rfl) (by kernel_rfl) (by kernel_rfl)
      (OpenSpec.preRow_of_cond 8 hx (by kernel_rfl) (fun k hk => by cases hk) (by kernel_rfl) (laid_met os))) ?_
  intro W base args ds gs before hval hW _ _ _ hL _ _
  exact contract H enc W base args ds gs before hval hW hL

theorem said : Rows.FactGapsSaid :=
  OpenClaim.holds_of_cond 7 Tryd.f7 rfl rfl rfl rfl rfl rfl rfl ⟨rfl, rfl, rfl, rfl, rfl⟩ rfl rfl rfl rfl rfl (by kernel_rfl) Tryd.func7 (by kernel_rfl)
    (of_decide_eq_true (by kernel_rfl)) (by unfold Func.isWrapper; first | (rw [if_pos (by decide +kernel)]; kernel_rfl) | (rw [if_neg (by decide +kernel)]; exact ⟨rfl, rfl⟩))
    (fun os started H enc _ F => by rw [OpenClaim.pre_eq_preRow]; exact lifted os started H enc F)


set_option maxRecDepth 100000 in
/-- No parameter wants a stand-in; the program's own looks are off: what the card asks. -/
theorem plain (f : FuncId) (fn : Func) (hf : Tryd.pinned.checked.prog.funcNamed "pandect/pandectlaw06.FactGaps" = some f) (hfn : Tryd.pinned.checked.prog.funcs[f]? = some fn) :
    true = Tryd.pinned.checked.prog.looks [] ∧ ∀ (j : Nat) t, fn.params[j]? = some t → Tryd.pinned.checked.prog.wantsStandIn t = false := by
  obtain rfl : f = 7 := Option.some.inj ((show Tryd.prog.funcNamed "pandect/pandectlaw06.FactGaps" = some 7 by kernel_rfl).symm.trans hf) |>.symm
  obtain rfl : fn = Tryd.f7 := (Option.some.inj (Tryd.func7.symm.trans hfn)).symm
  refine ⟨by kernel_rfl, fun j t ht => ?_⟩
  rw [Tryd.params7] at ht
  have hm := Array.mem_of_getElem? ht
  simp only [List.mem_toArray, List.mem_cons, List.not_mem_nil, or_false] at hm
  rcases hm with rfl | rfl | rfl
  · exact wants_domain
  · exact wants_string
  · exact wants_string

theorem card : Rows.FactGapsCardSaid :=
  Claim7.holds_tied_plain_at .later [] _ _ _ _ said (fun _ h => by cases h) (by kernel_rfl) (fun _ h => by cases h) factGaps_row_tie rfl ⟨rfl, rfl⟩ (by kernel_rfl) rfl plain (by kernel_rfl)
end Go.Proofs.YtoamkanofhhjfaaDoor.factGaps
