import Derived.Test.YtoamkanofhhjfaaGreatDoorKLFrameD
import Derived.Test.YtoamkanofhhjfaaGreatDoorKHCase
import Derived.Test.YtoamkanofhhjfaaGreatDoorKGCaseNo
import Derived.Laws.Strings
/-
  FactMatchesReference (P6.1): for every domain, case, name and texts, all functions agree with the reference implementation. No condition: the statement itself asks at most 70 facts with names of at most 100 bytes, cases of at most 70 values and texts of at most 3000 bytes; for others it says what the law's opening check answers.
-/
namespace Go.Proofs.YtoamkanofhhjfaaGreatDoor.factMatchesReference
open Go.ChangeShapes Go.WideShapes Go.ChangeAt Go.RowKit
open Go.ChangeMaps (open_string shut_string)

/-- An answer of Parse. -/
def PAI (E I : Int) (d : List Fc.Fact) (w : World) (e : Ending) (w' : World) : Prop := ∃ v, e = .returned (.tuple #[.agg #[v], .int .i64 E, .int .i64 I]) ∧ Fc.IsF w' v d ∧ Below w.heap.size w w'
/-- An answer of ParseCase. -/
def PCI (E I : Int) (c : List Int) (w : World) (e : Ending) (w' : World) : Prop := ∃ v, e = .returned (.tuple #[v, .int .i64 E, .int .i64 I]) ∧ Fc.IsN w' v c ∧ Below w.heap.size w w'
theorem parsed_pai (x : Except (Nat × Int) (List Fc.Fact)) : ∃ (E I : Int) (d : List Fc.Fact), ∀ w e w', Fc.ParsedD x w e w' → PAI E I d w e w' := by
  cases x with
  | ok d =>
    refine ⟨0, 0, d, ?_⟩
    rintro w e w' ⟨hb, v, rfl, ho, hv⟩
    exact ⟨v, rfl, ho.isF hv.sized, hb⟩
  | error z =>
    refine ⟨(z.1 : Nat), z.2, [], ?_⟩
    rintro w e w' ⟨hb, rfl⟩
    exact ⟨_, rfl, Fc.IsF.nil _, hb⟩
theorem case_pci (d : List Fc.Fact) (hv : Fc.Valid d) (s : Lx.T) : ∃ (E I : Int) (c : List Int), ∀ w e w', Fc.ParsedC (Fc.caseT d s) w e w' → PCI E I c w e w' := by
  cases h : Fc.caseT d s with
  | ok c =>
    refine ⟨0, 0, c, ?_⟩
    rintro w e w' ⟨hb, g, rfl, ho, _⟩
    have hw : Fc.within d c = true := by
      unfold Fc.caseT at h
      split at h
      · cases hp : Fc.parseCase s.length d (Lx.full s).1 with
        | ok c2 => rw [hp] at h; obtain rfl := Except.ok.inj h; exact Fc.case_within hp
        | error z => rw [hp] at h; cases h
      · cases h
    have hs := Fc.case_small hv hw
    have hl := (Fc.within_get.1 hw).1
    exact ⟨_, rfl, ho.isN (by have := hv.2.2; omega) (fun x hx => by have := hs x hx; omega), hb⟩
  | error z =>
    refine ⟨(z.1 : Nat), z.2, [], ?_⟩
    rintro w e w' ⟨hb, rfl⟩
    exact ⟨_, rfl, Fc.IsN.nil _, hb⟩
theorem case_both (d : List Fc.Fact) (s : ByteArray) (hs : s.size ≤ 3000) : ∃ (E I : Int) (c : List Int),
    (∀ v w, Fc.IsF w v d → Calls Tryz.prog 8 #[.agg #[v], .string s] w (PCI E I c w)) ∧ ∀ v w, Fc.IsF w v d → Calls Tryz.prog 9 #[.agg #[v], .string s] w (PCI E I c w) := by
  by_cases hv : Fc.Valid d
  · obtain ⟨E, I, c, h⟩ := case_pci d hv (Lx.tx s)
    exact ⟨E, I, c, fun v w hF => (parsecase_walk v d s (by omega) w hF hv).mono fun e w' => h w e w', fun v w hF => (refparsecase_walk v d s hs w hF hv).mono fun e w' => h w e w'⟩
  · refine ⟨1, 0, [], fun v w hF => (parsecase_no v d s w hF hv).mono ?_, fun v w hF => (refparsecase_no v d s w hF hv).mono ?_⟩
    · rintro e w' ⟨rfl, hb⟩; exact ⟨_, rfl, Fc.IsN.nil _, hb⟩
    · rintro e w' ⟨rfl, hb⟩; exact ⟨_, rfl, Fc.IsN.nil _, hb⟩
open Classical in
theorem next_both (d : List Fc.Fact) (m : List Int) : ∃ (b : Bool) (c : List Int),
    (∀ v u w, Fc.IsF w v d → Fc.IsN w u m → Calls Tryz.prog 10 #[.agg #[v], u] w fun e w' => ∃ x, e = .returned (.tuple #[x, .bool b]) ∧ Fc.IsN w' x c ∧ Below w.heap.size w w') ∧
    ∀ v u w, Fc.IsF w v d → Fc.IsN w u m → Calls Tryz.prog 11 #[.agg #[v], u] w fun e w' => ∃ x, e = .returned (.tuple #[x, .bool b]) ∧ Fc.IsN w' x c ∧ Below w.heap.size w w' := by
  by_cases hf : Fc.Fit d m
  · refine ⟨(Fc.next d m).isSome, (Fc.next d m).getD [], fun v u w hF hN => (next_walk v u d m w hF hN hf).mono ?_, fun v u w hF hN => (refnext06_walk v u d m w hF hN hf).mono ?_⟩
    · rintro e w' ⟨h, hb⟩
      cases hx : Fc.next d m with
      | none => rw [hx] at h; exact ⟨_, h, Fc.IsN.nil _, hb⟩
      | some c =>
        rw [hx] at h
        obtain ⟨x, he, ho⟩ := h
        obtain ⟨hw9, _⟩ := Fc.next_some (fun f hf' => (hf.1.1 f hf').le) hf.2 hx
        exact ⟨x, he, Fc.OwnE.isN ho (fun y hy => by have := Fc.case_small hf.1 hw9 y hy; omega), hb⟩
    · rintro e w' ⟨⟨x, he, hN⟩, hb⟩
      exact ⟨x, he, hN, hb⟩
  · refine ⟨false, [], fun v u w hF hN => (next_no v u d m w hF hN hf).mono ?_, fun v u w hF hN => (refnext_no v u d m w hF hN hf).mono ?_⟩
    · rintro e w' ⟨h, hb⟩
      exact ⟨_, h, Fc.IsN.nil _, hb⟩
    · rintro e w' ⟨⟨x, he, hN⟩, hb⟩
      exact ⟨x, he, hN, hb⟩
open Classical in
theorem least_both (d : List Fc.Fact) : ∃ c : List Int,
    (∀ v w, Fc.IsF w v d → Calls Tryz.prog 24 #[.agg #[v]] w (Fc.GivesN c w)) ∧ ∀ v w, Fc.IsF w v d → Calls Tryz.prog 25 #[.agg #[v]] w (Fc.GivesN c w) := by
  by_cases hv : Fc.Valid d
  · refine ⟨Fc.least d, fun v w hF => (least_walk v d w hF hv).mono ?_, fun v w hF => refleast_walk v d w hF hv⟩
    rintro e w' ⟨hb, g, rfl, ho, _⟩
    have hw := Fc.least_within (fun f hf => (hv.1 f hf).le)
    have hl := Fc.least_len d
    exact ⟨_, rfl, ho.isN (by have := hv.2.2; omega) (fun y hy => by have := Fc.case_small hv hw y hy; omega), hb⟩
  · refine ⟨[], fun v w hF => (least_no v d w hF hv).mono ?_, fun v w hF => refleast_no v d w hF hv⟩
    rintro e w' ⟨rfl, hb⟩
    exact ⟨_, rfl, Fc.IsN.nil _, hb⟩

set_option maxHeartbeats 4000000 in
set_option maxRecDepth 100000 in
/-- Sizes that are too great: the law says true. -/
theorem out_walk (v u : Value) (d : List Fc.Fact) (m : List Int) (nm s o : ByteArray) (w : World) (hv : Fc.IsF w v d) (hu : Fc.IsN w u m) (ht : HasTab w)
    (hno : ¬ ((Fc.Few d 70 ∧ m.length ≤ 70) ∧ nm.size ≤ 100 ∧ s.size ≤ 3000 ∧ o.size ≤ 3000)) :
    Calls Tryz.prog 3 #[.agg #[v], u, .string nm, .string s, .string o] w fun e w' => e = .returned (.bool true) ∧ Below w.heap.size w w' := by
  have HV : Hid (∀ w', Below w.heap.size w w' → Fc.IsF w' v d) := fun w' hb => hv.below hb
  have HU : Hid (∀ w', Below w.heap.size w w' → Fc.IsN w' u m) := fun w' hb => hu.below hb
  obtain ⟨y, c, rfl, _, _⟩ := hv.form
  obtain ⟨a2, c2, _, _, rfl, _, _, h3, h4⟩ := hu.any
  clear hv hu h3 h4
  obtain ⟨n, hn⟩ : ∃ n, n = d.length := ⟨_, rfl⟩
  obtain ⟨n2, hn2⟩ : ∃ n, n = m.length := ⟨_, rfl⟩
  rw [← hn] at HV ⊢
  rw [← hn2] at HU ⊢
  have HB0 := Lib.hid (Boxed.start w (.slice y n c))
  have HT0 := Lib.hid (ht.below HB0.out.below)
  have HNO := Lib.hid hno
  clear hn hn2 ht hno
  go_enter Tryz.func3, Tryz.ntmps3
  go_wp2_with fail
  refine (head_walk _ HT0.out).mono ?_
  rintro e w1 ⟨rfl, hb1⟩
  have hx1 := HB0.out.next hb1
  have q1 := hx1.cell
  have HX1 := Lib.hid hx1
  clear hb1 hx1 HB0 HT0
  go_wp2_with fail
  refine (few_walk _ _ d m w1 (HV.out _ HX1.out.below) (HU.out _ HX1.out.below)).mono ?_
  rintro e w2 ⟨⟨t, rfl, hb⟩, hb2⟩
  have HX2 := Lib.hid (HX1.out.next hb2)
  clear hb2 HX1 q1
  cases t with
  | false =>
    clear hb
    go_wp2_with fail
    go_ret
    exact ⟨rfl, HX2.out.below⟩
  | true =>
    have HF := Lib.hid (hb.1 rfl)
    clear hb
    by_cases h1 : nm.size ≤ 100
    · have e1 : decide ((100 : Int) < (nm.size : Int)) = false := decide_eq_false (by omega)
      have f1 : ¬ (100 : Int) < (nm.size : Int) := by omega
      by_cases h2 : s.size ≤ 3000
      · have e2 : decide ((3000 : Int) < (s.size : Int)) = false := decide_eq_false (by omega)
        have f2 : ¬ (3000 : Int) < (s.size : Int) := by omega
        have h3 : ¬ o.size ≤ 3000 := fun h => HNO.out ⟨HF.out, h1, h2, h⟩
        have e3 : decide ((3000 : Int) < (o.size : Int)) = true := decide_eq_true (by omega)
        have f3 : (3000 : Int) < (o.size : Int) := by omega
        go_wp2_with fail
        go_ret
        exact ⟨rfl, HX2.out.below⟩
      · have e2 : decide ((3000 : Int) < (s.size : Int)) = true := decide_eq_true (by omega)
        have f2 : (3000 : Int) < (s.size : Int) := by omega
        go_wp2_with fail
        go_ret
        exact ⟨rfl, HX2.out.below⟩
    · have e1 : decide ((100 : Int) < (nm.size : Int)) = true := decide_eq_true (by omega)
      have f1 : (100 : Int) < (nm.size : Int) := by omega
      go_wp2_with fail
      go_ret
      exact ⟨rfl, HX2.out.below⟩

set_option maxHeartbeats 20000000 in
set_option maxRecDepth 100000 in
theorem in_walk (v u : Value) (d : List Fc.Fact) (m : List Int) (nm s o : ByteArray) (w : World) (hv : Fc.IsF w v d) (hu : Fc.IsN w u m) (ht : HasTab w)
    (hyes : (Fc.Few d 70 ∧ m.length ≤ 70) ∧ nm.size ≤ 100 ∧ s.size ≤ 3000 ∧ o.size ≤ 3000) :
    Calls Tryz.prog 3 #[.agg #[v], u, .string nm, .string s, .string o] w fun e w' => e = .returned (.bool true) ∧ Below w.heap.size w w' := by
  have HV : Hid (∀ w', Below w.heap.size w w' → Fc.IsF w' v d) := fun w' hb => hv.below hb
  have HU : Hid (∀ w', Below w.heap.size w w' → Fc.IsN w' u m) := fun w' hb => hu.below hb
  have HT : Hid (∀ w', Below w.heap.size w w' → HasTab w') := fun w' hb => ht.below hb
  obtain ⟨y, c, rfl, _, _⟩ := hv.form
  obtain ⟨a2, c2, _, _, rfl, _, _, h3, h4⟩ := hu.any
  clear hv hu h3 h4
  obtain ⟨n, hn⟩ : ∃ n, n = d.length := ⟨_, rfl⟩
  obtain ⟨n2, hn2⟩ : ∃ n, n = m.length := ⟨_, rfl⟩
  rw [← hn] at HV ⊢
  rw [← hn2] at HU ⊢
  have HB0 := Lib.hid (Boxed.start w (.slice y n c))
  have HY := Lib.hid hyes
  have e1 : decide ((100 : Int) < (nm.size : Int)) = false := decide_eq_false (by omega)
  have f1 : ¬ (100 : Int) < (nm.size : Int) := by omega
  have e2 : decide ((3000 : Int) < (s.size : Int)) = false := decide_eq_false (by omega)
  have f2 : ¬ (3000 : Int) < (s.size : Int) := by omega
  have e3 : decide ((3000 : Int) < (o.size : Int)) = false := decide_eq_false (by omega)
  have f3 : ¬ (3000 : Int) < (o.size : Int) := by omega
  -- what both sides answer
  obtain ⟨E1, I1, dd, hP⟩ := parsed_pai (Fc.parseT (Lx.tx s))
  have HP1 : Hid (∀ w, Calls Tryz.prog 6 #[.string s] w (PAI E1 I1 dd w)) := fun w => (parse_walk s (by omega) w).mono fun e w' => hP w e w'
  have HP2 : Hid (∀ w, Calls Tryz.prog 7 #[.string s] w (PAI E1 I1 dd w)) := fun w => (refparse_walk s (by omega) w).mono fun e w' => hP w e w'
  obtain ⟨E2, I2, cc, hC1, hC2⟩ := case_both d o hyes.2.2.2
  obtain ⟨bN, cN, hN1, hN2⟩ := next_both d m
  obtain ⟨cL, hL1, hL2⟩ := least_both d
  obtain ⟨bV, hbV⟩ : ∃ b : Bool, b = true ↔ Fc.Valid d := by
    by_cases h : Fc.Valid d
    · exact ⟨true, by simp [h]⟩
    · exact ⟨false, by simp [h]⟩
  obtain ⟨bF, hbF⟩ : ∃ b : Bool, b = true ↔ Fc.Fit d m := by
    by_cases h : Fc.Fit d m
    · exact ⟨true, by simp [h]⟩
    · exact ⟨false, by simp [h]⟩
  obtain ⟨zi, hzi⟩ : ∃ z, z = Fc.idx d (Lx.tx nm) := ⟨_, rfl⟩
  obtain ⟨ta, hta⟩ : ∃ t, t = Lx.str (open Classical in if Fc.Valid d then Fc.dtext d else []) := ⟨_, rfl⟩
  obtain ⟨tb, htb⟩ : ∃ t, t = Lx.str (open Classical in if Fc.Fit d m then Fc.ctext d m else []) := ⟨_, rfl⟩
  have HC1 := Lib.hid hC1
  have HC2 := Lib.hid hC2
  have HN1 := Lib.hid hN1
  have HN2 := Lib.hid hN2
  have HL1 := Lib.hid hL1
  have HL2 := Lib.hid hL2
  have HBV := Lib.hid hbV
  have HBF := Lib.hid hbF
  have HZI := Lib.hid hzi
  have HTA := Lib.hid hta
  have HTB := Lib.hid htb
  clear hn hn2 ht hyes hP hC1 hC2 hN1 hN2 hL1 hL2 hbV hbF hzi hta htb
  go_enter Tryz.func3, Tryz.ntmps3
  go_wp2_with fail
  refine (head_walk _ (HT.out _ HB0.out.below)).mono ?_
  rintro e w1 ⟨rfl, hb1⟩
  have hx1 := HB0.out.next hb1
  have q1 := hx1.cell
  have HX1 := Lib.hid hx1
  clear hb1 hx1 HB0
  go_wp2_with fail
  refine (few_is _ _ d m w1 (HV.out _ HX1.out.below) (HU.out _ HX1.out.below) true (by simp [HY.out.1])).mono ?_
  rintro e w2 ⟨rfl, hb2⟩
  have HX2 := Lib.hid (HX1.out.next hb2)
  clear hb2 HX1 q1
  go_wp2_with fail
  clear e1 f1 e2 f2 e3 f3
  refine (HP1.out w2).mono ?_
  rintro e w3 ⟨v3, rfl, hF3, hb3⟩
  obtain ⟨a3, c3, rfl, _, _⟩ := hF3.form
  obtain ⟨n3, hn3⟩ : ∃ n3, n3 = dd.length := ⟨_, rfl⟩
  rw [← hn3] at hF3 ⊢
  obtain ⟨W3, hW3⟩ : ∃ W, W = w3.alloc (.cells #[.slice a3 n3 c3] 24) := ⟨_, rfl⟩
  obtain ⟨B3, hB3⟩ : ∃ n, n = w3.heap.size := ⟨_, rfl⟩
  have hbW : Below w3.heap.size w3 W3 := by rw [hW3]; exact below_box _ _
  have hk3 : W3.heap[B3]? = some (.cells #[.slice a3 n3 c3] 24 (0, 0)) := by rw [hW3, hB3]; exact heap_alloc_new _ _
  have HX3 := Lib.hid (HX2.out.next (hb3.trans (hbW.mono hb3.size)))
  have HF3 : Hid (∀ w', Below W3.heap.size W3 w' → Fc.IsF w' (.slice a3 n3 c3) dd) := fun w' hb => (hF3.below hbW).below hb
  have HD3 : Hid (∀ w', Below W3.heap.size W3 w' → w'.cell? ⟨B3, 0, none⟩ = some (.slice a3 n3 c3)) := fun w' hb => (hb.cell (p := ⟨B3, 0, none⟩) (Array.getElem?_eq_some_iff.1 hk3).1).trans (Joins.cell_of_block hk3 0)
  have HW : Hid (w3.alloc (.cells #[.slice a3 n3 c3] 24) = W3) := hW3.symm
  have HB3 := Lib.hid hB3
  clear hn3 hW3 hB3 hbW hk3 hb3 hF3 HX2 HP1
  go_upto_region 5 with fail
  rw [HW.out, ← HB3.out]
  clear HW HB3
  go_wp2_with fail
  refine (HP2.out W3).mono ?_
  rintro e w4 ⟨v4, rfl, hF4, hb4⟩
  obtain ⟨a4, c4, rfl, _, _⟩ := hF4.form
  obtain ⟨n4, hn4⟩ : ∃ n4, n4 = dd.length := ⟨_, rfl⟩
  rw [← hn4] at hF4 ⊢
  obtain ⟨W4, hW4⟩ : ∃ W, W = w4.alloc (.cells #[.slice a4 n4 c4] 24) := ⟨_, rfl⟩
  obtain ⟨B4, hB4⟩ : ∃ n, n = w4.heap.size := ⟨_, rfl⟩
  have hbW : Below w4.heap.size w4 W4 := by rw [hW4]; exact below_box _ _
  have hk4 : W4.heap[B4]? = some (.cells #[.slice a4 n4 c4] 24 (0, 0)) := by rw [hW4, hB4]; exact heap_alloc_new _ _
  have hb34 := hb4.trans (hbW.mono hb4.size)
  have hx4 := HX3.out.next hb34
  have q4 := hx4.cell
  have HX4 := Lib.hid hx4
  have HF4 : Hid (∀ w', Below W4.heap.size W4 w' → Fc.IsF w' (.slice a4 n4 c4) dd) := fun w' hb => (hF4.below hbW).below hb
  have HD4 : Hid (∀ w', Below W4.heap.size W4 w' → w'.cell? ⟨B4, 0, none⟩ = some (.slice a4 n4 c4)) := fun w' hb => (hb.cell (p := ⟨B4, 0, none⟩) (Array.getElem?_eq_some_iff.1 hk4).1).trans (Joins.cell_of_block hk4 0)
  have HG3 : Hid (∀ w', Below W4.heap.size W4 w' → Fc.IsF w' (.slice a3 n3 c3) dd ∧ w'.cell? ⟨B3, 0, none⟩ = some (.slice a3 n3 c3)) := fun w' hb => ⟨HF3.out _ (hb34.trans (hb.mono hb34.size)), HD3.out _ (hb34.trans (hb.mono hb34.size))⟩
  have HW : Hid (w4.alloc (.cells #[.slice a4 n4 c4] 24) = W4) := hW4.symm
  have HB4 := Lib.hid hB4
  clear hn4 hW4 hB4 hbW hk4 hb4 hb34 hF4 hx4 HX3 HP2 HF3 HD3
  go_upto_region 6 with fail
  rw [HW.out, ← HB4.out]
  clear HW HB4
  go_wp2_with fail
  refine (HC1.out _ W4 (HV.out _ HX4.out.below)).mono ?_
  rintro e w5 ⟨v5, rfl, hN5, hb5⟩
  have hx5 := HX4.out.next hb5
  have q5 := hx5.cell
  have HX5 := Lib.hid hx5
  have HK5 := Lib.hid hb5
  have HM5 : Hid (∀ w', Below w5.heap.size w5 w' → Fc.IsN w' v5 cc) := fun w' hb => hN5.below hb
  clear hx5 hb5 hN5 HC1 q4
  go_wp2_with fail
  refine (HC2.out _ w5 (HV.out _ HX5.out.below)).mono ?_
  rintro e w6 ⟨v6, rfl, hN6, hb6⟩
  have hx6 := HX5.out.next hb6
  have q6 := hx6.cell
  have HX6 := Lib.hid hx6
  have HK6 := Lib.hid (HK5.out.trans (hb6.mono HK5.out.size))
  have HM6 : Hid (∀ w', Below w6.heap.size w6 w' → Fc.IsN w' v6 cc ∧ Fc.IsN w' v5 cc) := fun w' hb => ⟨hN6.below hb, HM5.out _ (hb6.trans (hb.mono hb6.size))⟩
  clear hx6 hb6 hN6 HC2 q5 HX5 HK5 HM5
  go_wp2_with fail
  refine (HN1.out _ _ w6 (HV.out _ HX6.out.below) (HU.out _ HX6.out.below)).mono ?_
  rintro e w7 ⟨v7, rfl, hN7, hb7⟩
  have hx7 := HX6.out.next hb7
  have q7 := hx7.cell
  have HX7 := Lib.hid hx7
  have HK7 := Lib.hid (HK6.out.trans (hb7.mono HK6.out.size))
  have HM7 : Hid (∀ w', Below w7.heap.size w7 w' → (Fc.IsN w' v6 cc ∧ Fc.IsN w' v5 cc) ∧ Fc.IsN w' v7 cN) := fun w' hb => ⟨HM6.out _ (hb7.trans (hb.mono hb7.size)), hN7.below hb⟩
  clear hx7 hb7 hN7 HN1 q6 HX6 HK6 HM6
  go_wp2_with fail
  refine (HN2.out _ _ w7 (HV.out _ HX7.out.below) (HU.out _ HX7.out.below)).mono ?_
  rintro e w8 ⟨v8, rfl, hN8, hb8⟩
  have hx8 := HX7.out.next hb8
  have HX8 := Lib.hid hx8
  have HK8 := Lib.hid (HK7.out.trans (hb8.mono HK7.out.size))
  have HM8 : Hid (∀ w', Below w8.heap.size w8 w' → ((Fc.IsN w' v6 cc ∧ Fc.IsN w' v5 cc) ∧ Fc.IsN w' v7 cN) ∧ Fc.IsN w' v8 cN) := fun w' hb => ⟨HM7.out _ (hb8.trans (hb.mono hb8.size)), hN8.below hb⟩
  have r5 : ∀ w', Fc.Old w8 w' → w'.cell? ⟨w.heap.size, 0, none⟩ = some (.slice y n c) := fun w' h => (hx8.next h.out).cell
  have hXX : ∀ w', Fc.Old w8 w' → Below w.heap.size w w' := fun w' h => (hx8.next h.out).below
  have A1 : Hid (∀ w', Fc.Old w8 w' → Calls Tryz.prog 12 #[.agg #[.slice y n c]] w' (Fc.Gives (.bool bV) w')) := fun w' h => valid_is _ d w' (HV.out _ (hXX _ h)) bV HBV.out
  have A2 : Hid (∀ w', Fc.Old w8 w' → Calls Tryz.prog 13 #[.agg #[.slice y n c]] w' (Fc.Gives (.bool bV) w')) := fun w' h => refvalid_is _ d w' (HV.out _ (hXX _ h)) bV HBV.out
  have A3 : Hid (∀ w', Fc.Old w8 w' → Calls Tryz.prog 14 #[.agg #[.slice y n c], .slice a2 n2 c2] w' (Fc.Gives (.bool bF) w')) := fun w' h => fits_is _ _ d m w' (HV.out _ (hXX _ h)) (HU.out _ (hXX _ h)) bF HBF.out
  have A4 : Hid (∀ w', Fc.Old w8 w' → Calls Tryz.prog 15 #[.agg #[.slice y n c], .slice a2 n2 c2] w' (Fc.Gives (.bool bF) w')) := fun w' h => reffits_is _ _ d m w' (HV.out _ (hXX _ h)) (HU.out _ (hXX _ h)) bF HBF.out
  have A5 : Hid (∀ w', Fc.Old w8 w' → Calls Tryz.prog 16 #[.agg #[.slice y n c], .string nm] w' (Fc.Gives (.int .i64 zi) w')) := fun w' h => by rw [HZI.out]; exact index_walk _ d nm w' (HV.out _ (hXX _ h))
  have A6 : Hid (∀ w', Fc.Old w8 w' → Calls Tryz.prog 17 #[.agg #[.slice y n c], .string nm] w' (Fc.Gives (.int .i64 zi) w')) := fun w' h => by rw [HZI.out]; exact refindex_walk _ d nm w' (HV.out _ (hXX _ h))
  have A7 : Hid (∀ w', Fc.Old w8 w' → Calls Tryz.prog 18 #[.agg #[.slice y n c]] w' (Fc.Gives (.string ta) w')) := fun w' h => text_is _ d w' (HV.out _ (hXX _ h)) (HT.out _ (hXX _ h)) ta HTA.out
  have A8 : Hid (∀ w', Fc.Old w8 w' → Calls Tryz.prog 19 #[.agg #[.slice y n c]] w' (Fc.Gives (.string ta) w')) := fun w' h => reftext_is _ d w' (HV.out _ (hXX _ h)) ta HTA.out
  have A9 : Hid (∀ w', Fc.Old w8 w' → Calls Tryz.prog 20 #[.agg #[.slice y n c], .slice a2 n2 c2] w' (Fc.Gives (.string tb) w')) := fun w' h => casetext_is _ _ d m w' (HV.out _ (hXX _ h)) (HU.out _ (hXX _ h)) (HT.out _ (hXX _ h)) tb HTB.out
  have A10 : Hid (∀ w', Fc.Old w8 w' → Calls Tryz.prog 21 #[.agg #[.slice y n c], .slice a2 n2 c2] w' (Fc.Gives (.string tb) w')) := fun w' h => refcasetext_is _ _ d m w' (HV.out _ (hXX _ h)) (HU.out _ (hXX _ h)) tb HTB.out
  have g1 : (bV == bV) = true := by simp
  have g2 : (bF == bF) = true := by simp
  have g3 : (zi == zi) = true := by simp
  have g4 : (ta.toList == ta.toList) = true := by simp
  have g5 : (tb.toList == tb.toList) = true := by simp
  clear hx8 hb8 hN8 HN2 q7 HX7 HK7 HM7 hXX HBV HBF HZI HTA HTB HU HT
  go_wp2_with fail
  go_region_held3 (fun w' => Fc.Old w8 w') (first | exact Fc.Old.refl w8 | exact Fc.Old.drew w8 | exact Fc.Old.step (by with_reducible assumption) (by with_reducible assumption) | with_reducible assumption) (first
    | (go_at_call 12; (with_reducible refine (A1.out _ (by with_reducible assumption)).mono ?_); rintro e11 w11 ⟨rfl, hb11⟩)
    | (go_at_call 13; (with_reducible refine (A2.out _ (by with_reducible assumption)).mono ?_); rintro e12 w12 ⟨rfl, hb12⟩)
    | (go_at_call 14; (with_reducible refine (A3.out _ (by with_reducible assumption)).mono ?_); rintro e13 w13 ⟨rfl, hb13⟩)
    | (go_at_call 15; (with_reducible refine (A4.out _ (by with_reducible assumption)).mono ?_); rintro e14 w14 ⟨rfl, hb14⟩)
    | (go_at_call 16; (with_reducible refine (A5.out _ (by with_reducible assumption)).mono ?_); rintro e15 w15 ⟨rfl, hb15⟩)
    | (go_at_call 17; (with_reducible refine (A6.out _ (by with_reducible assumption)).mono ?_); rintro e16 w16 ⟨rfl, hb16⟩)
    | (go_at_call 18; (with_reducible refine (A7.out _ (by with_reducible assumption)).mono ?_); rintro e17 w17 ⟨rfl, hb17⟩)
    | (go_at_call 19; (with_reducible refine (A8.out _ (by with_reducible assumption)).mono ?_); rintro e18 w18 ⟨rfl, hb18⟩)
    | (go_at_call 20; (with_reducible refine (A9.out _ (by with_reducible assumption)).mono ?_); rintro e19 w19 ⟨rfl, hb19⟩)
    | (go_at_call 21; (with_reducible refine (A10.out _ (by with_reducible assumption)).mono ?_); rintro e20 w20 ⟨rfl, hb20⟩))
  have hO : Fc.Old w8 w20 := by with_reducible assumption
  have HX20 := Lib.hid (HX8.out.next hO.out)
  have hO8 := hO.out
  have r5' : ∀ w', Fc.Old w20 w' → w'.cell? ⟨w.heap.size, 0, none⟩ = some (.slice y n c) := fun w' h => (HX20.out.next h.out).cell
  have r12 : ∀ w', Fc.Old w20 w' → w'.cell? ⟨B3, 0, none⟩ = some (.slice a3 n3 c3) := fun w' h => (HG3.out w' (HK8.out.trans ((hO8.trans (h.out.mono hO8.size)).mono HK8.out.size))).2
  have r15 : ∀ w', Fc.Old w20 w' → w'.cell? ⟨B4, 0, none⟩ = some (.slice a4 n4 c4) := fun w' h => HD4.out w' (HK8.out.trans ((hO8.trans (h.out.mono hO8.size)).mono HK8.out.size))
  have C1 : Hid (∀ w', Fc.Old w20 w' → Calls Tryz.prog 22 #[.agg #[.slice a3 n3 c3], .agg #[.slice a4 n4 c4]] w' (Fc.Gives (.bool true) w')) := fun w' h => by
    have hb := HK8.out.trans ((hO8.trans (h.out.mono hO8.size)).mono HK8.out.size)
    exact same_is _ _ dd dd w' (HG3.out w' hb).1 (HF4.out w' hb) true (by simp)
  have C2 : Hid (∀ w', Fc.Old w20 w' → Calls Tryz.prog 23 #[v5, v6] w' (Fc.Gives (.bool true) w')) := fun w' h => by
    have hm := HM8.out w' (hO8.trans (h.out.mono hO8.size))
    exact equal_is _ _ cc cc w' hm.1.1.2 hm.1.1.1 true (by simp)
  have C3 : Hid (∀ w', Fc.Old w20 w' → Calls Tryz.prog 23 #[v7, v8] w' (Fc.Gives (.bool true) w')) := fun w' h => by
    have hm := HM8.out w' (hO8.trans (h.out.mono hO8.size))
    exact equal_is _ _ cN cN w' hm.1.2 hm.2 true (by simp)
  have C4 : Hid (∀ w', Fc.Old w20 w' → Calls Tryz.prog 24 #[.agg #[.slice y n c]] w' (Fc.GivesN cL w')) := fun w' h => HL1.out _ w' (HV.out _ (HX20.out.next h.out).below)
  have C5 : Hid (∀ w', Fc.Old w20 w' → Calls Tryz.prog 25 #[.agg #[.slice y n c]] w' (Fc.GivesN cL w')) := fun w' h => HL2.out _ w' (HV.out _ (HX20.out.next h.out).below)
  have C6 : Hid (∀ (v u : Value) (w1 w2 : World), Fc.IsN w1 v cL → Below w1.heap.size w1 w2 → Fc.IsN w2 u cL → Calls Tryz.prog 23 #[v, u] w2 (Fc.Gives (.bool true) w2)) := fun v u w1 w2 h1 hb h2 => equal_is _ _ cL cL w2 (h1.below hb) h2 true (by simp)
  have g6 : (E1 == E1) = true := by simp
  have g7 : (I1 == I1) = true := by simp
  have g8 : (E2 == E2) = true := by simp
  have g9 : (I2 == I2) = true := by simp
  have g10 : (bN == bN) = true := by simp
  clear hO hO8 r5 A1 A2 A3 A4 A5 A6 A7 A8 A9 A10 g1 g2 g3 g4 g5 HL1 HL2 HM8 HK8 HG3 HD4 HF4 HV HX8 HX4 HY
  go_wp2_with fail
  go_region_held3 (fun w' => Fc.Old w20 w') (first | exact Fc.Old.refl w20 | exact Fc.Old.drew w20 | exact Fc.Old.step (by with_reducible assumption) (by with_reducible assumption) | with_reducible assumption) (first
    | (go_at_call 22; (with_reducible refine (C1.out _ (by with_reducible assumption)).mono ?_); rintro e21 w21 ⟨rfl, hb21⟩)
    | (go_at_call 23; (with_reducible refine (C2.out _ (by with_reducible assumption)).mono ?_); rintro e22 w22 ⟨rfl, hb22⟩)
    | (go_at_call 23; (with_reducible refine (C3.out _ (by with_reducible assumption)).mono ?_); rintro e23 w23 ⟨rfl, hb23⟩)
    | (go_at_call 24; (with_reducible refine (C4.out _ (by with_reducible assumption)).mono ?_); rintro e24 w24 ⟨v24, rfl, hN24, hb24⟩)
    | (go_at_call 25; (with_reducible refine (C5.out _ (by with_reducible assumption)).mono ?_); rintro e25 w25 ⟨v25, rfl, hN25, hb25⟩)
    | (go_at_call 23; (with_reducible refine (C6.out _ _ _ _ (by with_reducible assumption) (by with_reducible assumption) (by with_reducible assumption)).mono ?_); rintro e26 w26 ⟨rfl, hb26⟩))
  have hO : Fc.Old w20 w26 := by with_reducible assumption
  have HX26 := Lib.hid (HX20.out.next hO.out)
  clear r5' r12 r15 C1 C2 C3 C4 C5 C6 HX20
  go_wp2_with fail
  go_ret
  exact ⟨rfl, HX26.out.below⟩

set_option maxRecDepth 100000 in
theorem law_walk (v : Value) (d : List Fc.Fact) (u : Value) (m : List Int) (nm s o : ByteArray) (w : World) (hv : Fc.IsF w v d) (hu : Fc.IsN w u m) (_ : nm.size ≤ 9223372036854775807) (_ : s.size ≤ 9223372036854775807) (_ : o.size ≤ 9223372036854775807) (ht : HasTab w) :
    Calls Tryz.prog 3 #[.agg #[v], u, .string nm, .string s, .string o] w fun e w' => e = .returned (.bool true) ∧ Below w.heap.size w w' := by
  by_cases h : (Fc.Few d 70 ∧ m.length ≤ 70) ∧ nm.size ≤ 100 ∧ s.size ≤ 3000 ∧ o.size ≤ 3000
  · exact in_walk v u d m nm s o w hv hu ht h
  · exact out_walk v u d m nm s o w hv hu ht h

set_option maxRecDepth 100000 in
/-- What the walk gives, for all arguments and every world that holds the tables. -/
theorem contract (H : Type) (enc : TypeId × Value → H) (W : World) (base : Nat) (args : Array Value) (ds gs : List (DataW H)) (before : List MemPlace)
    (hval : ∀ (j : Nat) t v, Tryz.f3.params[j]? = some t → args[j]? = some v → Value.okWide Tryz.prog W .any base t v)
    (hW : DataW.Whole enc Tryz.prog Tryz.f3.params.toList Rows.factMatchesReferenceSpec.vars false W args.toList ds gs before) (hL : laidMetH Tryz.prog laidAll W) :
    Calls Tryz.prog 3 args W fun e W' => ∃ v, e = .returned v ∧ Rows.factMatchesReferenceSpec.post enc Tryz.prog Tryz.f3 false true false false W args v W' := by
  have hW' := hW
  obtain ⟨p, q, hA0, hV, rfl, hfz, hnd⟩ := hW
  have hA : DataW.TrodAll enc Tryz.prog W 0 (fun _ => true) true Tryz.f3.params.toList args.toList ds p := hA0
  rw [Tryz.params3] at hA hval
  obtain ⟨v0, vs0, d0, ds0, p0, q0, hargs, rfl, rfl, h0, r0⟩ := trodAll_cons hA
  obtain ⟨v1, vs1, d1, ds1, p1, q1, rfl, rfl, rfl, h1, r1⟩ := trodAll_cons r0
  obtain ⟨v2, vs2, d2, ds2, p2, q2, rfl, rfl, rfl, h2, r2⟩ := trodAll_cons r1
  obtain ⟨v3, vs3, d3, ds3, p3, q3, rfl, rfl, rfl, h3, r3⟩ := trodAll_cons r2
  obtain ⟨v4, vs4, d4, ds4, p4, q4, rfl, rfl, rfl, h4, r4⟩ := trodAll_cons r3
  obtain ⟨rfl, rfl, rfl⟩ := trodAll_nil r4
  obtain rfl : args = #[v0, v1, v2, v3, v4] := by cases args; simp_all
  obtain ⟨rfl, rfl⟩ := trodVars_none hV
  obtain ⟨u0, l0, rfl, t0⟩ := open_domain (hval 0 24 v0 rfl rfl) h0
  obtain ⟨l1, t1⟩ := open_case (hval 1 26 v1 rfl rfl) h1
  obtain ⟨a2, rfl, _, _, g2⟩ := open_string Tryz.underlying9 (hval 2 9 v2 rfl rfl) h2
  obtain ⟨a3, rfl, _, _, g3⟩ := open_string Tryz.underlying9 (hval 3 9 v3 rfl rfl) h3
  obtain ⟨a4, rfl, _, _, g4⟩ := open_string Tryz.underlying9 (hval 4 9 v4 rfl rfl) h4
  refine (law_walk u0 l0 v1 l1 a2 a3 a4 W t0 t1 (le_of_max g2) (le_of_max g3) (le_of_max g4) (hasTab hL)).mono fun e W' ⟨he, hg⟩ => ?_
  subst he
  exact ⟨_, rfl, post_law rfl rfl rfl rfl rfl (by rw [Tryz.params3]; decide) hW' hg⟩

theorem laid_met (os : Os) : laidMet Tryz.prog Rows.factMatchesReferenceRow.laid ((laidWorld os).forCall (fun _ _ => 0) ⟨#[], #[.agg #[.slice none 0 0], .slice none 0 0, .string ⟨#[]⟩, .string ⟨#[]⟩, .string ⟨#[]⟩], []⟩).memory :=
  laidMet_of_run' 8 (by kernel_rfl) (by kernel_rfl)
theorem reads (os : Os) {H : Type} (enc : TypeId × Value → H) : ∃ places, DataW.whole enc Tryz.prog ((laidWorld os).forCall (fun _ _ => 0) ⟨#[], #[.agg #[.slice none 0 0], .slice none 0 0, .string ⟨#[]⟩, .string ⟨#[]⟩, .string ⟨#[]⟩], []⟩).memory Tryz.f3.params.toList Rows.factMatchesReferenceSpec.vars false #[Value.agg #[.slice none 0 0], Value.slice none 0 0, Value.string ⟨#[]⟩, Value.string ⟨#[]⟩, Value.string ⟨#[]⟩].toList 8 = some ([.agg [.nil], .nil, .lit (.string []), .lit (.string []), .lit (.string [])], [], places) :=
  ⟨[], by kernel_rfl⟩

set_option maxRecDepth 100000 in
theorem lifted (os : Os) (started : os.Started) (H : Type) (enc : TypeId × Value → H) (F : Stop.Interp) :
    ReturnsInHanded {} Tryz.checked os 3 .any ((OpenSpec.ofChange Rows.factMatchesReferenceSpec).preRow enc Tryz.prog Tryz.f3 Rows.factMatchesReferenceRow.domain false Rows.factMatchesReferenceRow.laid) (((OpenSpec.ofChange Rows.factMatchesReferenceSpec).at F).post enc Tryz.prog Tryz.f3 false true false false) := by
  obtain ⟨places, hx⟩ := reads os enc
  refine returnsInHanded_of_row (C := Tryz.checked) (s := OpenSpec.ofChange Rows.factMatchesReferenceSpec) own started (by kernel_rfl) Tryz.func3
    (witness_row_at (enc := enc) (C := Tryz.checked) false (laidWorld os) #[.agg #[.slice none 0 0], .slice none 0 0, .string ⟨#[]⟩, .string ⟨#[]⟩, .string ⟨#[]⟩] rfl (by kernel_rfl) (by kernel_rfl) (by kernel_rfl)
      (OpenSpec.preRow_of_cond 8 hx (by kernel_rfl) (fun k hk => by cases hk) (by kernel_rfl) (laid_met os))) ?_
  intro W base args ds gs before hval hW _ _ _ hL _ _
  exact contract H enc W base args ds gs before hval hW hL

theorem said : Rows.FactMatchesReferenceSaid :=
  OpenClaim.holds_of_cond 3 Tryz.f3 rfl rfl rfl rfl rfl rfl rfl ⟨rfl, rfl, rfl, rfl, rfl⟩ rfl rfl rfl rfl rfl (by kernel_rfl) Tryz.func3 (by kernel_rfl)
    (of_decide_eq_true (by kernel_rfl)) (by unfold Func.isWrapper; first | (rw [if_pos (by decide +kernel)]; kernel_rfl) | (rw [if_neg (by decide +kernel)]; exact ⟨rfl, rfl⟩))
    (fun os started H enc _ F => by rw [OpenClaim.pre_eq_preRow]; exact lifted os started H enc F)


set_option maxRecDepth 100000 in
/-- No parameter wants a stand-in; the program's own looks are off: what the card asks. -/
theorem plain (f : FuncId) (fn : Func) (hf : Tryz.pinned.checked.prog.funcNamed "pandect/pandectlaw06.FactMatchesReference" = some f) (hfn : Tryz.pinned.checked.prog.funcs[f]? = some fn) :
    true = Tryz.pinned.checked.prog.looks [] ∧ ∀ (j : Nat) t, fn.params[j]? = some t → Tryz.pinned.checked.prog.wantsStandIn t = false := by
  obtain rfl : f = 3 := Option.some.inj ((show Tryz.prog.funcNamed "pandect/pandectlaw06.FactMatchesReference" = some 3 by kernel_rfl).symm.trans hf) |>.symm
  obtain rfl : fn = Tryz.f3 := (Option.some.inj (Tryz.func3.symm.trans hfn)).symm
  refine ⟨by kernel_rfl, fun j t ht => ?_⟩
  rw [Tryz.params3] at ht
  have hm := Array.mem_of_getElem? ht
  simp only [List.mem_toArray, List.mem_cons, List.not_mem_nil, or_false] at hm
  rcases hm with rfl | rfl | rfl | rfl | rfl
  · exact wants_domain
  · exact wants_case
  · exact wants_string
  · exact wants_string
  · exact wants_string

theorem card : Rows.FactMatchesReferenceCardSaid :=
  Claim7.holds_tied_plain_at .later [] _ _ _ _ said (fun _ h => by cases h) (by kernel_rfl) (fun _ h => by cases h) factMatchesReference_row_tie rfl ⟨rfl, rfl⟩ (by kernel_rfl) rfl plain (by kernel_rfl)
end Go.Proofs.YtoamkanofhhjfaaGreatDoor.factMatchesReference
