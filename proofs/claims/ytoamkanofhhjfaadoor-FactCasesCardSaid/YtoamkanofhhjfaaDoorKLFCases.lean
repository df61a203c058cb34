import Derived.Test.YtoamkanofhhjfaaDoorKLFrameD
import Derived.Test.YtoamkanofhhjfaaDoorKFCon
import Derived.Laws.Strings
/-
  FactCases (P6.3): for every domain, two cases and text, ParseCase returns a case that fits for its canonical text; different cases that fit have different canonical texts; what ParseCase returns fits. No condition: the statement itself asks at most 70 facts with names of at most 100 bytes, cases of at most 70 values and texts of at most 3000 bytes; for others it says what the law's opening check answers.
-/
namespace Go.Proofs.YtoamkanofhhjfaaDoor.factCases
open Go.ChangeShapes Go.WideShapes Go.ChangeAt Go.RowKit
open Go.ChangeMaps (open_string shut_string)

theorem toList_str (l : Lx.T) : (Lx.str l).toList = l := by rw [Lib.toList_data]; simp [Lx.str]

/-- ParseCase answers, whatever it is given. -/
theorem parsecase_any (v : Value) (d : List Fc.Fact) (s : ByteArray) (hm : s.size ≤ 9223372036854775807) (w : World) (hF : Fc.IsF w v d) :
    Calls Tryd.prog 15 #[.agg #[v], .string s] w fun e w' => Below w.heap.size w w' ∧ ∃ x E I, e = .returned (.tuple #[x, .int .i64 E, .int .i64 I]) := by
  by_cases hv : Fc.Valid d
  · cases h : Fc.caseT d (Lx.tx s) with
    | ok c =>
      refine (parsecase_is v d s hm w hF hv h).mono ?_
      rintro e w' ⟨hb, g, rfl, _⟩
      exact ⟨hb, _, _, _, rfl⟩
    | error z =>
      refine (parsecase_err v d s hm w hF hv h).mono ?_
      rintro e w' ⟨rfl, hb⟩
      exact ⟨hb, _, _, _, rfl⟩
  · refine (parsecase_no v d s w hF hv).mono ?_
    rintro e w' ⟨rfl, hb⟩
    exact ⟨hb, _, _, _, rfl⟩
/-- What ParseCase answers: a case that fits, or an error within the text. -/
theorem parsecase_two (v : Value) (d : List Fc.Fact) (s : ByteArray) (hm : s.size ≤ 3000) (w : World) (hF : Fc.IsF w v d) :
    (Calls Tryd.prog 15 #[.agg #[v], .string s] w fun e w' => Below w.heap.size w w' ∧ ∃ (c : List Int) (g : Nat), e = .returned (.tuple #[.slice (some ⟨g, 0, none⟩) c.length c.length, .int .i64 0, .int .i64 0]) ∧ Fc.IsN w' (.slice (some ⟨g, 0, none⟩) c.length c.length) c ∧ Fc.Fit d c) ∨
    ∃ E I : Int, ((E != 0) = true) ∧ I ≤ (s.size : Int) ∧ Calls Tryd.prog 15 #[.agg #[v], .string s] w (Fc.Gives (.tuple #[.slice none 0 0, .int .i64 E, .int .i64 I]) w) := by
  by_cases hv : Fc.Valid d
  · cases h : Fc.caseT d (Lx.tx s) with
    | ok c =>
      refine .inl ((parsecase_is v d s (by omega) w hF hv h).mono ?_)
      rintro e w' ⟨hb, g, rfl, h⟩
      exact ⟨hb, c, g, rfl, h⟩
    | error z =>
      obtain ⟨h0, h1⟩ := Fc.caseT_err (by rw [Lx.tx_len]; omega) h
      rw [Lx.tx_len] at h1
      exact .inr ⟨(z.1 : Nat), z.2, by rw [bne_iff_ne]; omega, h1, parsecase_err v d s (by omega) w hF hv h⟩
  · exact .inr ⟨1, 0, rfl, by omega, parsecase_no v d s w hF hv⟩

set_option maxHeartbeats 4000000 in
set_option maxRecDepth 100000 in
/-- Sizes that are too great: the law says true. -/
theorem out_walk (v u x : Value) (d : List Fc.Fact) (a b : List Int) (s : ByteArray) (w : World) (hv : Fc.IsF w v d) (hu : Fc.IsN w u a) (hx : Fc.IsN w x b) (ht : HasTab w)
    (hno : ¬ ((Fc.Few d 70 ∧ a.length ≤ 70) ∧ b.length ≤ 70 ∧ s.size ≤ 3000)) :
    Calls Tryd.prog 4 #[.agg #[v], u, x, .string s] w fun e w' => e = .returned (.bool true) ∧ Below w.heap.size w w' := by
  have HV : Hid (∀ w', Below w.heap.size w w' → Fc.IsF w' v d) := fun w' hb => hv.below hb
  have HU : Hid (∀ w', Below w.heap.size w w' → Fc.IsN w' u a) := fun w' hb => hu.below hb
  obtain ⟨y, c, rfl, _, _⟩ := hv.form
  obtain ⟨a2, c2, _, _, rfl, _, _, h3, h4⟩ := hu.any
  obtain ⟨a3, c3, _, _, rfl, _, _, h5, h6⟩ := hx.any
  clear hv hu hx h3 h4 h5 h6
  obtain ⟨n, hn⟩ : ∃ n, n = d.length := ⟨_, rfl⟩
  obtain ⟨n2, hn2⟩ : ∃ n, n = a.length := ⟨_, rfl⟩
  obtain ⟨n3, hn3⟩ : ∃ n, n = b.length := ⟨_, rfl⟩
  rw [← hn] at HV ⊢
  rw [← hn2] at HU ⊢
  rw [← hn3]
  have HN3 := Lib.hid hn3
  have HB0 := Lib.hid (Boxed.start w (.slice y n c))
  have HT0 := Lib.hid (ht.below HB0.out.below)
  clear hn hn2 hn3 ht
  have HNO := Lib.hid hno
  clear hno
  go_enter Tryd.func4, Tryd.ntmps4
  go_wp2_with fail
  refine (head_walk _ HT0.out).mono ?_
  rintro e w1 ⟨rfl, hb1⟩
  have hx1 := HB0.out.next hb1
  have q1 := hx1.cell
  have HX1 := Lib.hid hx1
  clear hb1 hx1 HB0 HT0
  go_wp2_with fail
  refine (few_walk _ _ d a w1 (HV.out _ HX1.out.below) (HU.out _ HX1.out.below)).mono ?_
  rintro e w2 ⟨⟨t, rfl, hb⟩, hb2⟩
  have hx2 := HX1.out.next hb2
  have HX2 := Lib.hid hx2
  clear hb2 hx2 HX1 q1
  cases t with
  | false =>
    clear hb
    go_wp2_with fail
    go_ret
    exact ⟨rfl, HX2.out.below⟩
  | true =>
    have HF := Lib.hid (hb.1 rfl)
    clear hb
    by_cases h70 : n3 ≤ 70
    · have hs : ¬ s.size ≤ 3000 := fun h => HNO.out ⟨HF.out, by rw [← HN3.out]; exact h70, h⟩
      have h70i : decide ((70 : Int) < (n3 : Int)) = false := decide_eq_false (by omega)
      have h70j : ¬ (70 : Int) < (n3 : Int) := by omega
      have h70k : decide ((3000 : Int) < (s.size : Int)) = true := decide_eq_true (by omega)
      have h70l : (3000 : Int) < (s.size : Int) := by omega
      go_wp2_with fail
      go_ret
      exact ⟨rfl, HX2.out.below⟩
    · have h70i : decide ((70 : Int) < (n3 : Int)) = true := decide_eq_true (by omega)
      have h70j : (70 : Int) < (n3 : Int) := by omega
      go_wp2_with fail
      go_ret
      exact ⟨rfl, HX2.out.below⟩

set_option maxHeartbeats 8000000 in
set_option maxRecDepth 100000 in
theorem in_walk (v u x : Value) (d : List Fc.Fact) (a b : List Int) (s : ByteArray) (w : World) (hv : Fc.IsF w v d) (hu : Fc.IsN w u a) (hx : Fc.IsN w x b) (ht : HasTab w)
    (hyes : (Fc.Few d 70 ∧ a.length ≤ 70) ∧ b.length ≤ 70 ∧ s.size ≤ 3000) :
    Calls Tryd.prog 4 #[.agg #[v], u, x, .string s] w fun e w' => e = .returned (.bool true) ∧ Below w.heap.size w w' := by
  have HV : Hid (∀ w', Below w.heap.size w w' → Fc.IsF w' v d) := fun w' hb => hv.below hb
  have HU : Hid (∀ w', Below w.heap.size w w' → Fc.IsN w' u a) := fun w' hb => hu.below hb
  have HX : Hid (∀ w', Below w.heap.size w w' → Fc.IsN w' x b) := fun w' hb => hx.below hb
  have HT : Hid (∀ w', Below w.heap.size w w' → HasTab w') := fun w' hb => ht.below hb
  obtain ⟨y, c, rfl, _, _⟩ := hv.form
  obtain ⟨a2, c2, _, _, rfl, _, _, h3, h4⟩ := hu.any
  obtain ⟨a3, c3, _, _, rfl, _, _, h5, h6⟩ := hx.any
  clear hv hu hx h3 h4 h5 h6
  obtain ⟨n, hn⟩ : ∃ n, n = d.length := ⟨_, rfl⟩
  obtain ⟨n2, hn2⟩ : ∃ n, n = a.length := ⟨_, rfl⟩
  obtain ⟨n3, hn3⟩ : ∃ n, n = b.length := ⟨_, rfl⟩
  rw [← hn] at HV ⊢
  rw [← hn2] at HU ⊢
  rw [← hn3] at HX ⊢
  have HB0 := Lib.hid (Boxed.start w (.slice y n c))
  have HY := Lib.hid hyes
  have h70i : decide ((70 : Int) < (n3 : Int)) = false := decide_eq_false (by rw [hn3]; omega)
  have h70j : ¬ (70 : Int) < (n3 : Int) := by rw [hn3]; omega
  have h70k : decide ((3000 : Int) < (s.size : Int)) = false := decide_eq_false (by omega)
  have h70l : ¬ (3000 : Int) < (s.size : Int) := by omega
  obtain ⟨ta, hta⟩ : ∃ t, t = Lx.str (open Classical in if Fc.Fit d a then Fc.ctext d a else []) := ⟨_, rfl⟩
  obtain ⟨tb, htb⟩ : ∃ t, t = Lx.str (open Classical in if Fc.Fit d b then Fc.ctext d b else []) := ⟨_, rfl⟩
  have hlen : ta.size ≤ 3000 := by
    rw [hta, Fc.str_size]
    split
    · rename_i h
      have := Fc.ctext_len d a h.1.1
      have := h.1.2.2
      omega
    · simp
  have hta63 : ta.size ≤ 9223372036854775807 := by omega
  have HN2 := Lib.hid hn2
  have HN3 := Lib.hid hn3
  have HTA := Lib.hid hta
  have HTB := Lib.hid htb
  have HLT := Lib.hid hlen
  clear hn hn2 hn3 ht hyes hta htb hlen
  go_enter Tryd.func4, Tryd.ntmps4
  go_wp2_with fail
  refine (head_walk _ (HT.out _ HB0.out.below)).mono ?_
  rintro e w1 ⟨rfl, hb1⟩
  have hx1 := HB0.out.next hb1
  have q1 := hx1.cell
  have HX1 := Lib.hid hx1
  clear hb1 hx1 HB0
  go_wp2_with fail
  refine (few_is _ _ d a w1 (HV.out _ HX1.out.below) (HU.out _ HX1.out.below) true (by simp [HY.out.1])).mono ?_
  rintro e w2 ⟨rfl, hb2⟩
  have hx2 := HX1.out.next hb2
  have q2 := hx2.cell
  have HX2 := Lib.hid hx2
  clear hb2 hx2 HX1 q1
  go_wp2_with fail
  refine (casetext_is _ _ d a w2 (HV.out _ HX2.out.below) (HU.out _ HX2.out.below) (HT.out _ HX2.out.below) ta HTA.out).mono ?_
  rintro e w3 ⟨rfl, hb3⟩
  have hx3 := HX2.out.next hb3
  have q3 := hx3.cell
  have HX3 := Lib.hid hx3
  clear hb3 hx3 HX2 q2
  go_wp2_with fail
  have hcase : ¬ Fc.Fit d a ∨ (Fc.Fit d a ∧ ¬ Fc.Fit d b) ∨ (Fc.Fit d a ∧ Fc.Fit d b) := by
    by_cases h1 : Fc.Fit d a
    · by_cases h2 : Fc.Fit d b
      · exact .inr (.inr ⟨h1, h2⟩)
      · exact .inr (.inl ⟨h1, h2⟩)
    · exact .inl h1
  have hpa : Fc.Fit d a → Fc.caseT d (Lx.tx ta) = .ok a := fun h => by
    have e1 := HTA.out
    rw [if_pos h] at e1
    have hl := HLT.out
    rw [e1, Fc.str_size] at hl
    rw [e1, Lx.tx_str]
    exact Fc.caseT_text h.1 h.2 (by omega)
  rcases hcase with hA | ⟨hA, hB⟩ | ⟨hA, hB⟩
  case' inl =>
    have hE : ta.toList.isEmpty = true := by
      have := HTA.out
      rw [if_neg hA] at this
      rw [this, toList_str]; rfl
    refine (parsecase_any _ d ta hta63 w3 (HV.out _ HX3.out.below)).mono ?_
    rintro e w4 ⟨hb4, xv, E0, I0, rfl⟩
    have hx4 := HX3.out.next hb4
    have q4 := hx4.cell
    have HX4 := Lib.hid hx4
    clear hb4 hx4 HX3 q3
    go_wp2_with fail
    refine (fits_is _ _ d a w4 (HV.out _ HX4.out.below) (HU.out _ HX4.out.below) false (by simp [hA])).mono ?_
    rintro e w5 ⟨rfl, hb5⟩
    have hx5 := HX4.out.next hb5
    have q5 := hx5.cell
    have HX5 := Lib.hid hx5
    clear hb5 hx5 HX4 q4
    go_wp2_with fail
    refine (fits_is _ _ d a w5 (HV.out _ HX5.out.below) (HU.out _ HX5.out.below) false (by simp [hA])).mono ?_
    rintro e w6 ⟨rfl, hb6⟩
    have hx6 := HX5.out.next hb6
    have q6 := hx6.cell
    have HX6 := Lib.hid hx6
    clear hb6 hx6 HX5 q5
    go_wp2_with fail
    refine (fits_is _ _ d a w6 (HV.out _ HX6.out.below) (HU.out _ HX6.out.below) false (by simp [hA])).mono ?_
    rintro e w7 ⟨rfl, hb7⟩
    have hx7 := HX6.out.next hb7
    have qz := hx7.cell
    have HXZ := Lib.hid hx7
    clear hb7 hx7 HX6 q6
    go_wp2_with fail
    clear hE
  case' inr.inl =>
    refine (parsecase_is _ d ta hta63 w3 (HV.out _ HX3.out.below) hA.1 (hpa hA)).mono ?_
    rintro e w4 ⟨hb4, g, rfl, hN, _⟩
    rw [← HN2.out] at hN ⊢
    have hx4 := HX3.out.next hb4
    have q4 := hx4.cell
    have HX4 := Lib.hid hx4
    have HN : Hid (∀ w', Below w4.heap.size w4 w' → Fc.IsN w' (.slice (some ⟨g, 0, none⟩) n2 n2) a) := fun w' hb => hN.below hb
    have HB4 := Lib.hid (Below.refl w4.heap.size w4)
    clear hb4 hx4 HX3 q3 hN
    go_wp2_with fail
    refine (fits_is _ _ d a w4 (HV.out _ HX4.out.below) (HU.out _ HX4.out.below) true (by simp [hA])).mono ?_
    rintro e w5 ⟨rfl, hb5⟩
    have hx5 := HX4.out.next hb5
    have q5 := hx5.cell
    have HX5 := Lib.hid hx5
    have HB5 := Lib.hid (HB4.out.trans (hb5.mono HB4.out.size))
    clear hb5 hx5 HX4 q4
    go_wp2_with fail
    refine (equal_is _ _ a a w5 (HN.out _ HB5.out) (HU.out _ HX5.out.below) true (by simp)).mono ?_
    rintro e w6 ⟨rfl, hb6⟩
    have hx6 := HX5.out.next hb6
    have q6 := hx6.cell
    have HX6 := Lib.hid hx6
    clear hb6 hx6 HX5 q5
    go_wp2_with fail
    refine (fits_is _ _ d a w6 (HV.out _ HX6.out.below) (HU.out _ HX6.out.below) true (by simp [hA])).mono ?_
    rintro e w7 ⟨rfl, hb7⟩
    have hx7 := HX6.out.next hb7
    have q7 := hx7.cell
    have HX7 := Lib.hid hx7
    clear hb7 hx7 HX6 q6
    go_wp2_with fail
    refine (fits_is _ _ d b w7 (HV.out _ HX7.out.below) (HX.out _ HX7.out.below) false (by simp [hB])).mono ?_
    rintro e w8 ⟨rfl, hb8⟩
    have hx8 := HX7.out.next hb8
    have q8 := hx8.cell
    have HX8 := Lib.hid hx8
    clear hb8 hx8 HX7 q7
    go_wp2_with fail
    refine (fits_is _ _ d a w8 (HV.out _ HX8.out.below) (HU.out _ HX8.out.below) true (by simp [hA])).mono ?_
    rintro e w9 ⟨rfl, hb9⟩
    have hx9 := HX8.out.next hb9
    have qz := hx9.cell
    have HXZ := Lib.hid hx9
    clear hb9 hx9 HX8 q8
    go_wp2_with fail
    clear HN HB4 HB5 hB
  case' inr.inr =>
    obtain ⟨bS, hS⟩ : ∃ bS : Bool, bS = true ↔ a = b := by
      by_cases h : a = b
      · exact ⟨true, by simp [h]⟩
      · exact ⟨false, by simp [h]⟩
    have hST : (ta.toList == tb.toList) = bS := by
      have e1 := HTA.out
      have e2 := HTB.out
      rw [if_pos hA] at e1
      rw [if_pos hB] at e2
      rw [e1, e2, toList_str, toList_str, Bool.eq_iff_iff, hS, beq_iff_eq]
      exact ⟨fun h => Fc.ctext_inj hA.1 hA.2 hB.2 h, fun h => by rw [h]⟩
    refine (parsecase_is _ d ta hta63 w3 (HV.out _ HX3.out.below) hA.1 (hpa hA)).mono ?_
    rintro e w4 ⟨hb4, g, rfl, hN, _⟩
    rw [← HN2.out] at hN ⊢
    have hx4 := HX3.out.next hb4
    have q4 := hx4.cell
    have HX4 := Lib.hid hx4
    have HN : Hid (∀ w', Below w4.heap.size w4 w' → Fc.IsN w' (.slice (some ⟨g, 0, none⟩) n2 n2) a) := fun w' hb => hN.below hb
    have HB4 := Lib.hid (Below.refl w4.heap.size w4)
    clear hb4 hx4 HX3 q3 hN
    go_wp2_with fail
    refine (fits_is _ _ d a w4 (HV.out _ HX4.out.below) (HU.out _ HX4.out.below) true (by simp [hA])).mono ?_
    rintro e w5 ⟨rfl, hb5⟩
    have hx5 := HX4.out.next hb5
    have q5 := hx5.cell
    have HX5 := Lib.hid hx5
    have HB5 := Lib.hid (HB4.out.trans (hb5.mono HB4.out.size))
    clear hb5 hx5 HX4 q4
    go_wp2_with fail
    refine (equal_is _ _ a a w5 (HN.out _ HB5.out) (HU.out _ HX5.out.below) true (by simp)).mono ?_
    rintro e w6 ⟨rfl, hb6⟩
    have hx6 := HX5.out.next hb6
    have q6 := hx6.cell
    have HX6 := Lib.hid hx6
    clear hb6 hx6 HX5 q5
    go_wp2_with fail
    refine (fits_is _ _ d a w6 (HV.out _ HX6.out.below) (HU.out _ HX6.out.below) true (by simp [hA])).mono ?_
    rintro e w7 ⟨rfl, hb7⟩
    have hx7 := HX6.out.next hb7
    have q7 := hx7.cell
    have HX7 := Lib.hid hx7
    clear hb7 hx7 HX6 q6
    go_wp2_with fail
    refine (fits_is _ _ d b w7 (HV.out _ HX7.out.below) (HX.out _ HX7.out.below) true (by simp [hB])).mono ?_
    rintro e w8 ⟨rfl, hb8⟩
    have hx8 := HX7.out.next hb8
    have q8 := hx8.cell
    have HX8 := Lib.hid hx8
    clear hb8 hx8 HX7 q7
    go_wp2_with fail
    refine (casetext_is _ _ d b w8 (HV.out _ HX8.out.below) (HX.out _ HX8.out.below) (HT.out _ HX8.out.below) tb HTB.out).mono ?_
    rintro e w9 ⟨rfl, hb9⟩
    have hx9 := HX8.out.next hb9
    have q9 := hx9.cell
    have HX9 := Lib.hid hx9
    clear hb9 hx9 HX8 q8
    go_wp2_with fail
    refine (equal_is _ _ a b w9 (HU.out _ HX9.out.below) (HX.out _ HX9.out.below) bS hS).mono ?_
    rintro e w10 ⟨rfl, hb10⟩
    have hx10 := HX9.out.next hb10
    have q10 := hx10.cell
    have HX10 := Lib.hid hx10
    clear hb10 hx10 HX9 q9
    go_wp2_with fail
    refine (fits_is _ _ d a w10 (HV.out _ HX10.out.below) (HU.out _ HX10.out.below) true (by simp [hA])).mono ?_
    rintro e w11 ⟨rfl, hb11⟩
    have hx11 := HX10.out.next hb11
    have qz := hx11.cell
    have HXZ := Lib.hid hx11
    clear hb11 hx11 HX10 q10
    go_wp2_with fail
    clear HN HB4 HB5 hB hS hST
  all_goals
    have hs3 := HY.out.2.2
    clear HU HX HT HTA HTB HY HLT hA hpa h70i h70j h70k h70l hta63 HN2 HN3
    rcases parsecase_two _ d s hs3 _ (HV.out _ HXZ.out.below) with h | ⟨E, I, hne, hle, h⟩
    · refine h.mono ?_
      rintro e w20 ⟨hb20, y2, g2, rfl, hN2, hf2⟩
      have hx20 := HXZ.out.next hb20
      have q20 := hx20.cell
      have HX20 := Lib.hid hx20
      have HF2 := Lib.hid (fits_is _ _ d y2 w20 (HV.out _ HX20.out.below) hN2 true (by simp [hf2]))
      clear hb20 hx20 HXZ qz h hs3 hN2 hf2 HV
      generalize y2.length = n4 at *
      go_wp2_with fail
      refine HF2.out.mono ?_
      rintro e w21 ⟨rfl, hb21⟩
      have HX21 := Lib.hid (HX20.out.next hb21)
      clear hb21 HX20 HF2 q20
      go_wp2_with fail
      go_ret
      exact ⟨rfl, HX21.out.below⟩
    · refine h.mono ?_
      rintro e w20 ⟨rfl, hb20⟩
      have HX20 := Lib.hid (HXZ.out.next hb20)
      have hlei : decide (I ≤ (s.size : Int)) = true := decide_eq_true hle
      clear hb20 HXZ qz h hs3 HV
      go_wp2_with fail
      go_ret
      exact ⟨rfl, HX20.out.below⟩

set_option maxRecDepth 100000 in
theorem law_walk (v : Value) (d : List Fc.Fact) (u : Value) (a : List Int) (x : Value) (b : List Int) (s : ByteArray) (w : World) (hv : Fc.IsF w v d) (hu : Fc.IsN w u a) (hx : Fc.IsN w x b) (_ : s.size ≤ 9223372036854775807) (ht : HasTab w) :
    Calls Tryd.prog 4 #[.agg #[v], u, x, .string s] w fun e w' => e = .returned (.bool true) ∧ Below w.heap.size w w' := by
  by_cases h : (Fc.Few d 70 ∧ a.length ≤ 70) ∧ b.length ≤ 70 ∧ s.size ≤ 3000
  · exact in_walk v u x d a b s w hv hu hx ht h
  · exact out_walk v u x d a b s w hv hu hx ht h

set_option maxRecDepth 100000 in
/-- What the walk gives, for all arguments and every world that holds the tables. -/
theorem contract (H : Type) (enc : TypeId × Value → H) (W : World) (base : Nat) (args : Array Value) (ds gs : List (DataW H)) (before : List MemPlace)
    (hval : ∀ (j : Nat) t v, Tryd.f4.params[j]? = some t → args[j]? = some v → Value.okWide Tryd.prog W .any base t v)
    (hW : DataW.Whole enc Tryd.prog Tryd.f4.params.toList Rows.factCasesSpec.vars false W args.toList ds gs before) (hL : laidMetH Tryd.prog laidAll W) :
    Calls Tryd.prog 4 args W fun e W' => ∃ v, e = .returned v ∧ Rows.factCasesSpec.post enc Tryd.prog Tryd.f4 false true false false W args v W' := by
  have hW' := hW
  obtain ⟨p, q, hA0, hV, rfl, hfz, hnd⟩ := hW
  have hA : DataW.TrodAll enc Tryd.prog W 0 (fun _ => true) true Tryd.f4.params.toList args.toList ds p := hA0
  rw [Tryd.params4] at hA hval
  obtain ⟨v0, vs0, d0, ds0, p0, q0, hargs, rfl, rfl, h0, r0⟩ := trodAll_cons hA
  obtain ⟨v1, vs1, d1, ds1, p1, q1, rfl, rfl, rfl, h1, r1⟩ := trodAll_cons r0
  obtain ⟨v2, vs2, d2, ds2, p2, q2, rfl, rfl, rfl, h2, r2⟩ := trodAll_cons r1
  obtain ⟨v3, vs3, d3, ds3, p3, q3, rfl, rfl, rfl, h3, r3⟩ := trodAll_cons r2
  obtain ⟨rfl, rfl, rfl⟩ := trodAll_nil r3
  obtain rfl : args = #[v0, v1, v2, v3] := by cases args; simp_all
  obtain ⟨rfl, rfl⟩ := trodVars_none hV
  obtain ⟨u0, l0, rfl, t0⟩ := open_domain (hval 0 24 v0 rfl rfl) h0
  obtain ⟨l1, t1⟩ := open_case (hval 1 35 v1 rfl rfl) h1
  obtain ⟨l2, t2⟩ := open_case (hval 2 35 v2 rfl rfl) h2
  obtain ⟨a3, rfl, _, _, g3⟩ := open_string Tryd.underlying9 (hval 3 9 v3 rfl rfl) h3
  refine (law_walk u0 l0 v1 l1 v2 l2 a3 W t0 t1 t2 (le_of_max g3) (hasTab hL)).mono fun e W' ⟨he, hg⟩ => ?_
  subst he
  exact ⟨_, rfl, post_law rfl rfl rfl rfl rfl (by rw [Tryd.params4]; decide) hW' hg⟩

theorem laid_met (os : Os) : laidMet Tryd.prog Rows.factCasesRow.laid ((laidWorld os).forCall (fun _ _ => 0) ⟨#[], #[.agg #[.slice none 0 0], .slice none 0 0, .slice none 0 0, .string ⟨#[]⟩], []⟩).memory :=
  laidMet_of_run' 8 (by kernel_rfl) (by kernel_rfl)
theorem reads (os : Os) {H : Type} (enc : TypeId × Value → H) : ∃ places, DataW.whole enc Tryd.prog ((laidWorld os).forCall (fun _ _ => 0) ⟨#[], #[.agg #[.slice none 0 0], .slice none 0 0, .slice none 0 0, .string ⟨#[]⟩], []⟩).memory Tryd.f4.params.toList Rows.factCasesSpec.vars false #[Value.agg #[.slice none 0 0], Value.slice none 0 0, Value.slice none 0 0, Value.string ⟨#[]⟩].toList 8 = some ([.agg [.nil], .nil, .nil, .lit (.string [])], [], places) :=
  ⟨[], by kernel_rfl⟩

set_option maxRecDepth 100000 in
theorem lifted (os : Os) (started : os.Started) (H : Type) (enc : TypeId × Value → H) (F : Stop.Interp) :
    ReturnsInHanded {} Tryd.checked os 4 .any ((OpenSpec.ofChange Rows.factCasesSpec).preRow enc Tryd.prog Tryd.f4 Rows.factCasesRow.domain false Rows.factCasesRow.laid) (((OpenSpec.ofChange Rows.factCasesSpec).at F).post enc Tryd.prog Tryd.f4 false true false false) := by
  obtain ⟨places, hx⟩ := reads os enc
  refine returnsInHanded_of_row (C := Tryd.checked) (s := OpenSpec.ofChange Rows.factCasesSpec) own started (by kernel_rfl) Tryd.func4
    (witness_row_at (enc := enc) (C := Tryd.checked) false (laidWorld os) #[.agg #[.slice none 0 0], .slice none 0 0, .slice none 0 0, .string ⟨#[]⟩] rfl (by kernel_rfl) (by kernel_rfl) (by kernel_rfl)
      (OpenSpec.preRow_of_cond 8 hx (by kernel_rfl) (fun k hk => by cases hk) (by kernel_rfl) (laid_met os))) ?_
  intro W base args ds gs before hval hW _ _ _ hL _ _
  exact contract H enc W base args ds gs before hval hW hL

theorem said : Rows.FactCasesSaid :=
  OpenClaim.holds_of_cond 4 Tryd.f4 rfl rfl rfl rfl rfl rfl rfl ⟨rfl, rfl, rfl, rfl, rfl⟩ rfl rfl rfl rfl rfl (by kernel_rfl) Tryd.func4 (by kernel_rfl)
    (of_decide_eq_true (by kernel_rfl)) (by unfold Func.isWrapper; first | (rw [if_pos (by decide +kernel)]; kernel_rfl) | (rw [if_neg (by decide +kernel)]; exact ⟨rfl, rfl⟩))
    (fun os started H enc _ F => by rw [OpenClaim.pre_eq_preRow]; exact lifted os started H enc F)


set_option maxRecDepth 100000 in
/-- No parameter wants a stand-in; the program's own looks are off: what the card asks. -/
theorem plain (f : FuncId) (fn : Func) (hf : Tryd.pinned.checked.prog.funcNamed "pandect/pandectlaw06.FactCases" = some f) (hfn : Tryd.pinned.checked.prog.funcs[f]? = some fn) :
    true = Tryd.pinned.checked.prog.looks [] ∧ ∀ (j : Nat) t, fn.params[j]? = some t → Tryd.pinned.checked.prog.wantsStandIn t = false := by
  obtain rfl : f = 4 := Option.some.inj ((show Tryd.prog.funcNamed "pandect/pandectlaw06.FactCases" = some 4 by kernel_rfl).symm.trans hf) |>.symm
  obtain rfl : fn = Tryd.f4 := (Option.some.inj (Tryd.func4.symm.trans hfn)).symm
  refine ⟨by kernel_rfl, fun j t ht => ?_⟩
  rw [Tryd.params4] at ht
  have hm := Array.mem_of_getElem? ht
  simp only [List.mem_toArray, List.mem_cons, List.not_mem_nil, or_false] at hm
  rcases hm with rfl | rfl | rfl | rfl
  · exact wants_domain
  · exact wants_case
  · exact wants_case
  · exact wants_string

theorem card : Rows.FactCasesCardSaid :=
  Claim7.holds_tied_plain_at .later [] _ _ _ _ said (fun _ h => by cases h) (by kernel_rfl) (fun _ h => by cases h) factCases_row_tie rfl ⟨rfl, rfl⟩ (by kernel_rfl) rfl plain (by kernel_rfl)
end Go.Proofs.YtoamkanofhhjfaaDoor.factCases
