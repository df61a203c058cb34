import Derived.Test.YtoamkanofhhjfaaDoorKLFrameD
import Derived.Test.YtoamkanofhhjfaaDoorKFCon
import Derived.Test.YtoamkanofhhjfaaDoorKFHeld
import Derived.Laws.Strings
/-
  FactDomains (P6.2): for every two domains and text, Parse returns a valid domain for its canonical text, which is empty exactly if the domain has no facts or is not valid; different valid domains have different canonical texts; what Parse returns is valid. No condition: the statement itself asks at most 70 facts with names of at most 100 bytes and texts of at most 3000 bytes; for others it says what the law's opening check answers.
-/
namespace Go.Proofs.YtoamkanofhhjfaaDoor.factDomains
open Go.ChangeShapes Go.WideShapes Go.ChangeAt Go.RowKit
open Go.ChangeMaps (open_string shut_string)

set_option maxHeartbeats 4000000 in
set_option maxRecDepth 100000 in
/-- Sizes that are too great: the law says true. -/
theorem out_walk (v u : Value) (a b : List Fc.Fact) (s : ByteArray) (w : World) (hv : Fc.IsF w v a) (hu : Fc.IsF w u b) (ht : HasTab w)
    (hno : ¬ (Fc.Few a 70 ∧ Fc.Few b 70 ∧ s.size ≤ 3000)) :
    Calls Tryd.prog 3 #[.agg #[v], .agg #[u], .string s] w fun e w' => e = .returned (.bool true) ∧ Below w.heap.size w w' := by
  have HV : Hid (∀ w', Below w.heap.size w w' → Fc.IsF w' v a) := fun w' hb => hv.below hb
  have HU : Hid (∀ w', Below w.heap.size w w' → Fc.IsF w' u b) := fun w' hb => hu.below hb
  obtain ⟨x, c, rfl, _, _⟩ := hv.form
  obtain ⟨x2, c2, rfl, _, _⟩ := hu.form
  obtain ⟨n, hn⟩ : ∃ n, n = a.length := ⟨_, rfl⟩
  obtain ⟨n2, hn2⟩ : ∃ n, n = b.length := ⟨_, rfl⟩
  rw [← hn] at HV ⊢
  rw [← hn2] at HU ⊢
  have HB0 := Lib.hid (Fc.Held2.start w (.slice x n c) (.slice x2 n2 c2))
  have HT0 := Lib.hid (ht.below HB0.out.below)
  have HNO := Lib.hid hno
  clear hn hn2 ht hno hv hu
  go_enter Tryd.func3, Tryd.ntmps3
  go_wp2_with fail
  refine (head_walk _ HT0.out).mono ?_
  rintro e w1 ⟨rfl, hb1⟩
  have hx1 := HB0.out.next hb1
  have q1 := hx1.one
  have p1 := hx1.two
  have HX1 := Lib.hid hx1
  clear hb1 hx1 HB0 HT0
  go_wp2_with fail
  refine (few_walk _ _ a [] w1 (HV.out _ HX1.out.below) (Fc.IsN.nil _)).mono ?_
  rintro e w2 ⟨⟨t, rfl, hb⟩, hb2⟩
  have hx2 := HX1.out.next hb2
  have q2 := hx2.one
  have p2 := hx2.two
  have HX2 := Lib.hid hx2
  clear hb2 hx2 HX1 q1 p1
  cases t with
  | false =>
    clear hb
    go_wp2_with fail
    go_ret
    exact ⟨rfl, HX2.out.below⟩
  | true =>
    have HF := Lib.hid (hb.1 rfl).1
    clear hb
    go_wp2_with fail
    refine (few_walk _ _ b [] w2 (HU.out _ HX2.out.below) (Fc.IsN.nil _)).mono ?_
    rintro e w3 ⟨⟨t, rfl, hb⟩, hb3⟩
    have hx3 := HX2.out.next hb3
    have HX3 := Lib.hid hx3
    clear hb3 hx3 HX2 q2 p2
    cases t with
    | false =>
      clear hb
      go_wp2_with fail
      go_ret
      exact ⟨rfl, HX3.out.below⟩
    | true =>
      have hs : ¬ s.size ≤ 3000 := fun h => HNO.out ⟨HF.out, (hb.1 rfl).1, h⟩
      have h70i : decide ((3000 : Int) < (s.size : Int)) = true := decide_eq_true (by omega)
      have h70j : (3000 : Int) < (s.size : Int) := by omega
      clear hb
      go_wp2_with fail
      go_ret
      exact ⟨rfl, HX3.out.below⟩

theorem toList_str (l : Lx.T) : (Lx.str l).toList = l := by rw [Lib.toList_data]; simp [Lx.str]
theorem ftext_ne (f : Fc.Fact) : Fc.ftext f ≠ [] := by
  unfold Fc.ftext
  split <;> simp
theorem dtext_empty (d : List Fc.Fact) : (Fc.dtext d).isEmpty = decide (d.length = 0) := by
  cases d with
  | nil => rfl
  | cons f d =>
    rw [Fc.dtext]
    cases h : Fc.ftext f with
    | nil => exact absurd h (ftext_ne f)
    | cons c r => simp
set_option maxHeartbeats 8000000 in
set_option maxRecDepth 100000 in
theorem in_walk (v u : Value) (a b : List Fc.Fact) (s : ByteArray) (w : World) (hv : Fc.IsF w v a) (hu : Fc.IsF w u b) (ht : HasTab w)
    (hyes : Fc.Few a 70 ∧ Fc.Few b 70 ∧ s.size ≤ 3000) :
    Calls Tryd.prog 3 #[.agg #[v], .agg #[u], .string s] w fun e w' => e = .returned (.bool true) ∧ Below w.heap.size w w' := by
  have HV : Hid (∀ w', Below w.heap.size w w' → Fc.IsF w' v a) := fun w' hb => hv.below hb
  have HU : Hid (∀ w', Below w.heap.size w w' → Fc.IsF w' u b) := fun w' hb => hu.below hb
  have HT : Hid (∀ w', Below w.heap.size w w' → HasTab w') := fun w' hb => ht.below hb
  obtain ⟨x, c, rfl, _, _⟩ := hv.form
  obtain ⟨x2, c2, rfl, _, _⟩ := hu.form
  obtain ⟨n, hn⟩ : ∃ n, n = a.length := ⟨_, rfl⟩
  obtain ⟨n2, hn2⟩ : ∃ n, n = b.length := ⟨_, rfl⟩
  rw [← hn] at HV ⊢
  rw [← hn2] at HU ⊢
  have HND := Lib.hid hn
  have HB0 := Lib.hid (Fc.Held2.start w (.slice x n c) (.slice x2 n2 c2))
  have HY := Lib.hid hyes
  have h70i : decide ((3000 : Int) < (s.size : Int)) = false := decide_eq_false (by omega)
  have h70j : ¬ (3000 : Int) < (s.size : Int) := by omega
  -- the canonical texts, and what is read of the first one
  obtain ⟨ta, hta⟩ : ∃ t, t = Lx.str (open Classical in if Fc.Valid a then Fc.dtext a else []) := ⟨_, rfl⟩
  obtain ⟨tb, htb⟩ : ∃ t, t = Lx.str (open Classical in if Fc.Valid b then Fc.dtext b else []) := ⟨_, rfl⟩
  obtain ⟨d, hd⟩ : ∃ d : List Fc.Fact, d = (open Classical in if Fc.Valid a then a else []) := ⟨_, rfl⟩
  have hlen : ta.size ≤ 6000 := by
    rw [hta, Fc.str_size]
    split
    · rename_i h
      have := Fc.dtext_len a h.1
      have := h.2.2
      omega
    · simp
  have hpa : Fc.parseT (Lx.tx ta) = .ok d := by
    rw [hta, Lx.tx_str, hd]
    split
    · rename_i h
      have := Fc.dtext_len a h.1
      have := h.2.2
      exact Fc.parseT_text h (by omega)
    · exact Fc.parseT_text (d := []) ⟨by simp, by simp, by simp⟩ (by simp [Fc.dtext])

  have hta63 : ta.size ≤ 9223372036854775807 := by omega
  have HPA := Lib.hid hpa
  have HTA := Lib.hid hta
  have HTB := Lib.hid htb
  have HD := Lib.hid hd
  have HLT := Lib.hid hlen
  clear hn hn2 ht hyes hv hu hta htb hd hpa hlen
  go_enter Tryd.func3, Tryd.ntmps3
  go_wp2_with fail
  refine (head_walk _ (HT.out _ HB0.out.below)).mono ?_
  rintro e w1 ⟨rfl, hb1⟩
  have hx1 := HB0.out.next hb1
  have q1 := hx1.one
  have p1 := hx1.two
  have HX1 := Lib.hid hx1
  clear hb1 hx1 HB0
  go_wp2_with fail
  refine (few_is _ _ a [] w1 (HV.out _ HX1.out.below) (Fc.IsN.nil _) true (by simp [HY.out.1])).mono ?_
  rintro e w2 ⟨rfl, hb2⟩
  have hx2 := HX1.out.next hb2
  have q2 := hx2.one
  have p2 := hx2.two
  have HX2 := Lib.hid hx2
  clear hb2 hx2 HX1 q1 p1
  go_wp2_with fail
  refine (few_is _ _ b [] w2 (HU.out _ HX2.out.below) (Fc.IsN.nil _) true (by simp [HY.out.2.1])).mono ?_
  rintro e w3 ⟨rfl, hb3⟩
  have hx3 := HX2.out.next hb3
  have q3 := hx3.one
  have p3 := hx3.two
  have HX3 := Lib.hid hx3
  clear hb3 hx3 HX2 q2 p2
  go_wp2_with fail
  refine (text_is _ a w3 (HV.out _ HX3.out.below) (HT.out _ HX3.out.below) ta HTA.out).mono ?_
  rintro e w4 ⟨rfl, hb4⟩
  have hx4 := HX3.out.next hb4
  have q4 := hx4.one
  have p4 := hx4.two
  have HX4 := Lib.hid hx4
  clear hb4 hx4 HX3 q3 p3
  have hcase : ¬ Fc.Valid a ∨ (Fc.Valid a ∧ ¬ Fc.Valid b) ∨ (Fc.Valid a ∧ Fc.Valid b) := by
    by_cases h1 : Fc.Valid a
    · by_cases h2 : Fc.Valid b
      · exact .inr (.inr ⟨h1, h2⟩)
      · exact .inr (.inl ⟨h1, h2⟩)
    · exact .inl h1
  have hemp : Fc.Valid a → ∃ bE : Bool, ta.toList.isEmpty = bE ∧ ((n : Int) == 0) = bE ∧ decide ((n : Int) = 0) = bE := by
    intro h
    have e1 := HTA.out
    rw [if_pos h] at e1
    refine ⟨decide (n = 0), ?_, ?_, ?_⟩
    · rw [e1, toList_str, dtext_empty, HND.out]
    · by_cases h0 : n = 0
      · subst h0; rfl
      · rw [decide_eq_false h0, beq_eq_false_iff_ne]; omega
    · by_cases h0 : n = 0
      · subst h0; rfl
      · rw [decide_eq_false h0, decide_eq_false]; omega
  rcases hcase with hA | ⟨hA, hB⟩ | ⟨hA, hB⟩
  case' inl =>
    have hE : ta.toList.isEmpty = true := by
      have := HTA.out
      rw [if_neg hA] at this
      rw [this, toList_str]; rfl

    go_wp2_with fail
    refine (valid_is _ a w4 (HV.out _ HX4.out.below) false (by simp [hA])).mono ?_
    rintro e w10 ⟨rfl, hb10⟩
    have hx10 := HX4.out.next hb10
    have q10 := hx10.one
    have p10 := hx10.two
    have HX10 := Lib.hid hx10
    clear hb10 hx10 HX4 q4 p4
    go_wp2_with fail
    refine (parse_is ta hta63 w10 HPA.out).mono ?_
    rintro e w11 ⟨hb11, a1, c1, rfl, hF, _⟩
    have hx11 := HX10.out.next hb11
    obtain ⟨W, hW⟩ : ∃ W, W = w11.alloc (.cells #[.slice a1 d.length c1] 24) := ⟨_, rfl⟩
    have hbW : Below w11.heap.size w11 W := by rw [hW]; exact below_box _ _
    obtain ⟨n1, hn1⟩ : ∃ n1, n1 = w11.heap.size := ⟨_, rfl⟩
    have hk : W.heap[n1]? = some (.cells #[.slice a1 d.length c1] 24 (0, 0)) := by rw [hW, hn1]; exact heap_alloc_new _ _
    have hlt : n1 < W.heap.size := (Array.getElem?_eq_some_iff.1 hk).1
    have hxW := hx11.next hbW
    have HF : Hid (∀ w', Below W.heap.size W w' → Fc.IsF w' (.slice a1 d.length c1) d) := fun w' hb => (hF.below hbW).below hb
    have r3 : ∀ w', Fc.Old W w' → w'.cell? ⟨w.heap.size, 0, none⟩ = some (.slice x n c) := fun w' h => (hxW.next h.out).one
    have r4 : ∀ w', Fc.Old W w' → w'.cell? ⟨w.heap.size + 1, 0, none⟩ = some (.slice x2 n2 c2) := fun w' h => (hxW.next h.out).two
    have r9 : ∀ w', Fc.Old W w' → w'.cell? ⟨n1, 0, none⟩ = some (.slice a1 d.length c1) := fun w' h => h.cell hlt (Joins.cell_of_block hk 0)
    have HW : Hid (w11.alloc (.cells #[.slice a1 d.length c1] 24) = W) := hW.symm
    have HN1 := Lib.hid hn1
    have HXW := Lib.hid hxW
    have HVA : Hid (∀ w', Fc.Old W w' → Calls Tryd.prog 11 #[.agg #[.slice x n c]] w' (Fc.Gives (.bool false) w')) := fun w' h => valid_is _ a w' (HV.out _ (hxW.next h.out).below) false (by simp [hA])
    clear hE
    clear hW hbW hk hb11 hF hn1 hlt hx11 hxW HX10 q10 p10
    go_upto_region 7 with fail
    rw [HW.out, ← HN1.out]
    clear HW HN1
    generalize d.length = nd at *
    refine wp_region_noPanic ?_
    refine wp_region_held_drew (S := fun w' => Fc.Old W w') (by kernel_rfl) (Fc.Old.drew W) (fun hHeld => ?_)
    refine held_take 0 50 (.agg #[.slice x n c]) rfl rfl (by kernel_rfl) (by kernel_rfl) (by kernel_rfl) (fun _ _ _ h => h) rfl (fun w' hSw => by go_simp) (by assumption) ?_
    simp only [Act.put, List.setIfInBounds_toArray, List.set_cons_zero, List.set_cons_succ]
    refine held_call 1 51 11 #[.agg #[.slice x n c]] rfl rfl (by kernel_rfl) rfl (by go_simp) ?_
    refine (HVA.out _ (by with_reducible assumption)).mono ?_
    rintro e21 w21 ⟨rfl, hb21⟩
    refine ⟨_, rfl, Fc.Old.step hb21 (by with_reducible assumption), fun hHeld21 => ?_⟩
    clear hb21
    simp only [Act.put, List.setIfInBounds_toArray, List.set_cons_zero, List.set_cons_succ]
    refine held_take 2 52 (.bool false) rfl rfl (by kernel_rfl) (by kernel_rfl) (by kernel_rfl) (fun _ _ _ h => h) rfl (fun _ _ => rfl) (by assumption) ?_
    simp only [Act.put, List.setIfInBounds_toArray, List.set_cons_zero, List.set_cons_succ]
    refine held_skip 3 53 rfl rfl (by kernel_rfl) (by kernel_rfl) (by kernel_rfl) (fun _ _ _ h => h) rfl (by assumption) ?_
    simp only [Act.put, List.setIfInBounds_toArray, List.set_cons_zero, List.set_cons_succ]
    refine held_skip 4 54 rfl rfl (by kernel_rfl) (by kernel_rfl) (by kernel_rfl) (fun _ _ _ h => h) rfl (by assumption) ?_
    simp only [Act.put, List.setIfInBounds_toArray, List.set_cons_zero, List.set_cons_succ]
    refine held_skip 5 55 rfl rfl (by kernel_rfl) (by kernel_rfl) (by kernel_rfl) (fun _ _ _ h => h) rfl (by assumption) ?_
    simp only [Act.put, List.setIfInBounds_toArray, List.set_cons_zero, List.set_cons_succ]
    refine held_skip 6 56 rfl rfl (by kernel_rfl) (by kernel_rfl) (by kernel_rfl) (fun _ _ _ h => h) rfl (by assumption) ?_
    simp only [Act.put, List.setIfInBounds_toArray, List.set_cons_zero, List.set_cons_succ]
    refine held_skip 7 57 rfl rfl (by kernel_rfl) (by kernel_rfl) (by kernel_rfl) (fun _ _ _ h => h) rfl (by assumption) ?_
    simp only [Act.put, List.setIfInBounds_toArray, List.set_cons_zero, List.set_cons_succ]
    refine held_skip 8 58 rfl rfl (by kernel_rfl) (by kernel_rfl) (by kernel_rfl) (fun _ _ _ h => h) rfl (by assumption) ?_
    simp only [Act.put, List.setIfInBounds_toArray, List.set_cons_zero, List.set_cons_succ]
    refine held_skip 9 59 rfl rfl (by kernel_rfl) (by kernel_rfl) (by kernel_rfl) (fun _ _ _ h => h) rfl (by assumption) ?_
    simp only [Act.put, List.setIfInBounds_toArray, List.set_cons_zero, List.set_cons_succ]
    refine held_skip 10 60 rfl rfl (by kernel_rfl) (by kernel_rfl) (by kernel_rfl) (fun _ _ _ h => h) rfl (by assumption) ?_
    simp only [Act.put, List.setIfInBounds_toArray, List.set_cons_zero, List.set_cons_succ]
    refine held_take 11 61 (.bool false) rfl rfl (by kernel_rfl) (by kernel_rfl) (by kernel_rfl) (fun _ _ _ h => h) rfl (fun _ _ => rfl) (by assumption) ?_
    simp only [Act.put, List.setIfInBounds_toArray, List.set_cons_zero, List.set_cons_succ]
    refine held_take 12 62 (.bool false) rfl rfl (by kernel_rfl) (by kernel_rfl) (by kernel_rfl) (fun _ _ _ h => h) rfl (fun _ _ => rfl) (by assumption) ?_
    simp only [Act.put, List.setIfInBounds_toArray, List.set_cons_zero, List.set_cons_succ]
    refine held_take 13 63 (.agg #[.slice x n c]) rfl rfl (by kernel_rfl) (by kernel_rfl) (by kernel_rfl) (fun _ _ _ h => h) rfl (fun w' hSw => by go_simp) (by assumption) ?_
    simp only [Act.put, List.setIfInBounds_toArray, List.set_cons_zero, List.set_cons_succ]
    refine held_call 14 64 11 #[.agg #[.slice x n c]] rfl rfl (by kernel_rfl) rfl (by go_simp) ?_
    refine (HVA.out _ (by with_reducible assumption)).mono ?_
    rintro e22 w22 ⟨rfl, hb22⟩
    refine ⟨_, rfl, Fc.Old.step hb22 (by with_reducible assumption), fun hHeld22 => ?_⟩
    clear hb22
    simp only [Act.put, List.setIfInBounds_toArray, List.set_cons_zero, List.set_cons_succ]
    refine held_take 15 65 (.bool false) rfl rfl (by kernel_rfl) (by kernel_rfl) (by kernel_rfl) (fun _ _ _ h => h) rfl (fun _ _ => rfl) (by assumption) ?_
    simp only [Act.put, List.setIfInBounds_toArray, List.set_cons_zero, List.set_cons_succ]
    refine held_skip 16 66 rfl rfl (by kernel_rfl) (by kernel_rfl) (by kernel_rfl) (fun _ _ _ h => h) rfl (by assumption) ?_
    simp only [Act.put, List.setIfInBounds_toArray, List.set_cons_zero, List.set_cons_succ]
    refine held_skip 17 67 rfl rfl (by kernel_rfl) (by kernel_rfl) (by kernel_rfl) (fun _ _ _ h => h) rfl (by assumption) ?_
    simp only [Act.put, List.setIfInBounds_toArray, List.set_cons_zero, List.set_cons_succ]
    refine held_take 18 68 (.bool false) rfl rfl (by kernel_rfl) (by kernel_rfl) (by kernel_rfl) (fun _ _ _ h => h) rfl (fun _ _ => rfl) (by assumption) ?_
    simp only [Act.put, List.setIfInBounds_toArray, List.set_cons_zero, List.set_cons_succ]
    refine held_take 19 69 (.bool false) rfl rfl (by kernel_rfl) (by kernel_rfl) (by kernel_rfl) (fun _ _ _ h => h) rfl (fun _ _ => rfl) (by assumption) ?_
    simp only [Act.put, List.setIfInBounds_toArray, List.set_cons_zero, List.set_cons_succ]
    refine held_skip 20 70 rfl rfl (by kernel_rfl) (by kernel_rfl) (by kernel_rfl) (fun _ _ _ h => h) rfl (by assumption) ?_
    simp only [Act.put, List.setIfInBounds_toArray, List.set_cons_zero, List.set_cons_succ]
    refine held_skip 21 71 rfl rfl (by kernel_rfl) (by kernel_rfl) (by kernel_rfl) (fun _ _ _ h => h) rfl (by assumption) ?_
    simp only [Act.put, List.setIfInBounds_toArray, List.set_cons_zero, List.set_cons_succ]
    refine held_skip 22 72 rfl rfl (by kernel_rfl) (by kernel_rfl) (by kernel_rfl) (fun _ _ _ h => h) rfl (by assumption) ?_
    simp only [Act.put, List.setIfInBounds_toArray, List.set_cons_zero, List.set_cons_succ]
    refine held_skip 23 73 rfl rfl (by kernel_rfl) (by kernel_rfl) (by kernel_rfl) (fun _ _ _ h => h) rfl (by assumption) ?_
    simp only [Act.put, List.setIfInBounds_toArray, List.set_cons_zero, List.set_cons_succ]
    refine held_skip 24 74 rfl rfl (by kernel_rfl) (by kernel_rfl) (by kernel_rfl) (fun _ _ _ h => h) rfl (by assumption) ?_
    simp only [Act.put, List.setIfInBounds_toArray, List.set_cons_zero, List.set_cons_succ]
    refine held_skip 25 75 rfl rfl (by kernel_rfl) (by kernel_rfl) (by kernel_rfl) (fun _ _ _ h => h) rfl (by assumption) ?_
    simp only [Act.put, List.setIfInBounds_toArray, List.set_cons_zero, List.set_cons_succ]
    refine held_skip 26 76 rfl rfl (by kernel_rfl) (by kernel_rfl) (by kernel_rfl) (fun _ _ _ h => h) rfl (by assumption) ?_
    simp only [Act.put, List.setIfInBounds_toArray, List.set_cons_zero, List.set_cons_succ]
    refine held_skip 27 77 rfl rfl (by kernel_rfl) (by kernel_rfl) (by kernel_rfl) (fun _ _ _ h => h) rfl (by assumption) ?_
    simp only [Act.put, List.setIfInBounds_toArray, List.set_cons_zero, List.set_cons_succ]
    refine held_take 28 78 (.bool false) rfl rfl (by kernel_rfl) (by kernel_rfl) (by kernel_rfl) (fun _ _ _ h => h) rfl (fun _ _ => rfl) (by assumption) ?_
    simp only [Act.put, List.setIfInBounds_toArray, List.set_cons_zero, List.set_cons_succ]
    refine held_take 29 79 (.bool false) rfl rfl (by kernel_rfl) (by kernel_rfl) (by kernel_rfl) (fun _ _ _ h => h) rfl (fun _ _ => rfl) (by assumption) ?_
    simp only [Act.put, List.setIfInBounds_toArray, List.set_cons_zero, List.set_cons_succ]
    refine wpAnyH_done (by kernel_rfl) ?_ _
    refine NoPanic.normal ?_
    have HB := Lib.hid (HXW.out.next hHeld22.out).below
    clear r3 r4 r9 HVA HXW
    go_wp2_with fail

  case' inr.inl =>
    obtain ⟨bE, hE, hN1, hN2⟩ := hemp hA
    have hda : d = a := by have := HD.out; rwa [if_pos hA] at this

    go_wp2_with fail
    refine (valid_is _ a w4 (HV.out _ HX4.out.below) true (by simp [hA])).mono ?_
    rintro e w10 ⟨rfl, hb10⟩
    have hx10 := HX4.out.next hb10
    have q10 := hx10.one
    have p10 := hx10.two
    have HX10 := Lib.hid hx10
    clear hb10 hx10 HX4 q4 p4
    go_wp2_with fail
    refine (parse_is ta hta63 w10 HPA.out).mono ?_
    rintro e w11 ⟨hb11, a1, c1, rfl, hF, _⟩
    have hx11 := HX10.out.next hb11
    obtain ⟨W, hW⟩ : ∃ W, W = w11.alloc (.cells #[.slice a1 d.length c1] 24) := ⟨_, rfl⟩
    have hbW : Below w11.heap.size w11 W := by rw [hW]; exact below_box _ _
    obtain ⟨n1, hn1⟩ : ∃ n1, n1 = w11.heap.size := ⟨_, rfl⟩
    have hk : W.heap[n1]? = some (.cells #[.slice a1 d.length c1] 24 (0, 0)) := by rw [hW, hn1]; exact heap_alloc_new _ _
    have hlt : n1 < W.heap.size := (Array.getElem?_eq_some_iff.1 hk).1
    have hxW := hx11.next hbW
    have HF : Hid (∀ w', Below W.heap.size W w' → Fc.IsF w' (.slice a1 d.length c1) d) := fun w' hb => (hF.below hbW).below hb
    have r3 : ∀ w', Fc.Old W w' → w'.cell? ⟨w.heap.size, 0, none⟩ = some (.slice x n c) := fun w' h => (hxW.next h.out).one
    have r4 : ∀ w', Fc.Old W w' → w'.cell? ⟨w.heap.size + 1, 0, none⟩ = some (.slice x2 n2 c2) := fun w' h => (hxW.next h.out).two
    have r9 : ∀ w', Fc.Old W w' → w'.cell? ⟨n1, 0, none⟩ = some (.slice a1 d.length c1) := fun w' h => h.cell hlt (Joins.cell_of_block hk 0)
    have HW : Hid (w11.alloc (.cells #[.slice a1 d.length c1] 24) = W) := hW.symm
    have HN1 := Lib.hid hn1
    have HXW := Lib.hid hxW
    have HVA : Hid (∀ w', Fc.Old W w' → Calls Tryd.prog 11 #[.agg #[.slice x n c]] w' (Fc.Gives (.bool true) w')) := fun w' h => valid_is _ a w' (HV.out _ (hxW.next h.out).below) true (by simp [hA])
    have HVB : Hid (∀ w', Fc.Old W w' → Calls Tryd.prog 11 #[.agg #[.slice x2 n2 c2]] w' (Fc.Gives (.bool false) w')) := fun w' h => valid_is _ b w' (HU.out _ (hxW.next h.out).below) false (by simp [hB])
    have HSX : Hid (∀ w', Fc.Old W w' → Calls Tryd.prog 13 #[.agg #[.slice a1 d.length c1], .agg #[.slice x n c]] w' (Fc.Gives (.bool true) w')) := fun w' h => same_is _ _ d a w' (HF.out _ h.out) (HV.out _ (hxW.next h.out).below) true (by simp [hda])
    clear hE hN1 hN2 hda
    clear hW hbW hk hb11 hF hn1 hlt hx11 hxW HX10 q10 p10
    go_upto_region 7 with fail
    rw [HW.out, ← HN1.out]
    clear HW HN1
    generalize d.length = nd at *
    refine wp_region_noPanic ?_
    refine wp_region_held_drew (S := fun w' => Fc.Old W w') (by kernel_rfl) (Fc.Old.drew W) (fun hHeld => ?_)
    refine held_take 0 50 (.agg #[.slice x n c]) rfl rfl (by kernel_rfl) (by kernel_rfl) (by kernel_rfl) (fun _ _ _ h => h) rfl (fun w' hSw => by go_simp) (by assumption) ?_
    simp only [Act.put, List.setIfInBounds_toArray, List.set_cons_zero, List.set_cons_succ]
    refine held_call 1 51 11 #[.agg #[.slice x n c]] rfl rfl (by kernel_rfl) rfl (by go_simp) ?_
    refine (HVA.out _ (by with_reducible assumption)).mono ?_
    rintro e21 w21 ⟨rfl, hb21⟩
    refine ⟨_, rfl, Fc.Old.step hb21 (by with_reducible assumption), fun hHeld21 => ?_⟩
    clear hb21
    simp only [Act.put, List.setIfInBounds_toArray, List.set_cons_zero, List.set_cons_succ]
    refine held_take 2 52 (.bool true) rfl rfl (by kernel_rfl) (by kernel_rfl) (by kernel_rfl) (fun _ _ _ h => h) rfl (fun _ _ => rfl) (by assumption) ?_
    simp only [Act.put, List.setIfInBounds_toArray, List.set_cons_zero, List.set_cons_succ]
    refine held_take 3 53 (.int .i64 0) rfl rfl (by kernel_rfl) (by kernel_rfl) (by kernel_rfl) (fun _ _ _ h => h) rfl (fun _ _ => rfl) (by assumption) ?_
    simp only [Act.put, List.setIfInBounds_toArray, List.set_cons_zero, List.set_cons_succ]
    refine held_take 4 54 (.bool false) rfl rfl (by kernel_rfl) (by kernel_rfl) (by kernel_rfl) (fun _ _ _ h => h) rfl (fun _ _ => rfl) (by assumption) ?_
    simp only [Act.put, List.setIfInBounds_toArray, List.set_cons_zero, List.set_cons_succ]
    refine held_take 5 55 (.bool false) rfl rfl (by kernel_rfl) (by kernel_rfl) (by kernel_rfl) (fun _ _ _ h => h) rfl (fun _ _ => rfl) (by assumption) ?_
    simp only [Act.put, List.setIfInBounds_toArray, List.set_cons_zero, List.set_cons_succ]
    refine held_take 6 56 (.agg #[.slice a1 nd c1]) rfl rfl (by kernel_rfl) (by kernel_rfl) (by kernel_rfl) (fun _ _ _ h => h) rfl (fun w' hSw => by go_simp) (by assumption) ?_
    simp only [Act.put, List.setIfInBounds_toArray, List.set_cons_zero, List.set_cons_succ]
    refine held_take 7 57 (.agg #[.slice x n c]) rfl rfl (by kernel_rfl) (by kernel_rfl) (by kernel_rfl) (fun _ _ _ h => h) rfl (fun w' hSw => by go_simp) (by assumption) ?_
    simp only [Act.put, List.setIfInBounds_toArray, List.set_cons_zero, List.set_cons_succ]
    refine held_call 8 58 13 #[.agg #[.slice a1 nd c1], .agg #[.slice x n c]] rfl rfl (by kernel_rfl) rfl (by go_simp) ?_
    refine (HSX.out _ (by with_reducible assumption)).mono ?_
    rintro e22 w22 ⟨rfl, hb22⟩
    refine ⟨_, rfl, Fc.Old.step hb22 (by with_reducible assumption), fun hHeld22 => ?_⟩
    clear hb22
    simp only [Act.put, List.setIfInBounds_toArray, List.set_cons_zero, List.set_cons_succ]
    refine held_take 9 59 (.bool false) rfl rfl (by kernel_rfl) (by kernel_rfl) (by kernel_rfl) (fun _ _ _ h => h) rfl (fun _ _ => rfl) (by assumption) ?_
    simp only [Act.put, List.setIfInBounds_toArray, List.set_cons_zero, List.set_cons_succ]
    refine held_take 10 60 (.bool false) rfl rfl (by kernel_rfl) (by kernel_rfl) (by kernel_rfl) (fun _ _ _ h => h) rfl (fun _ _ => rfl) (by assumption) ?_
    simp only [Act.put, List.setIfInBounds_toArray, List.set_cons_zero, List.set_cons_succ]
    refine held_take 11 61 (.bool false) rfl rfl (by kernel_rfl) (by kernel_rfl) (by kernel_rfl) (fun _ _ _ h => h) rfl (fun _ _ => rfl) (by assumption) ?_
    simp only [Act.put, List.setIfInBounds_toArray, List.set_cons_zero, List.set_cons_succ]
    refine held_take 12 62 (.bool false) rfl rfl (by kernel_rfl) (by kernel_rfl) (by kernel_rfl) (fun _ _ _ h => h) rfl (fun _ _ => rfl) (by assumption) ?_
    simp only [Act.put, List.setIfInBounds_toArray, List.set_cons_zero, List.set_cons_succ]
    refine held_take 13 63 (.agg #[.slice x n c]) rfl rfl (by kernel_rfl) (by kernel_rfl) (by kernel_rfl) (fun _ _ _ h => h) rfl (fun w' hSw => by go_simp) (by assumption) ?_
    simp only [Act.put, List.setIfInBounds_toArray, List.set_cons_zero, List.set_cons_succ]
    refine held_call 14 64 11 #[.agg #[.slice x n c]] rfl rfl (by kernel_rfl) rfl (by go_simp) ?_
    refine (HVA.out _ (by with_reducible assumption)).mono ?_
    rintro e23 w23 ⟨rfl, hb23⟩
    refine ⟨_, rfl, Fc.Old.step hb23 (by with_reducible assumption), fun hHeld23 => ?_⟩
    clear hb23
    simp only [Act.put, List.setIfInBounds_toArray, List.set_cons_zero, List.set_cons_succ]
    refine held_take 15 65 (.bool true) rfl rfl (by kernel_rfl) (by kernel_rfl) (by kernel_rfl) (fun _ _ _ h => h) rfl (fun _ _ => rfl) (by assumption) ?_
    simp only [Act.put, List.setIfInBounds_toArray, List.set_cons_zero, List.set_cons_succ]
    refine held_take 16 66 (.agg #[.slice x2 n2 c2]) rfl rfl (by kernel_rfl) (by kernel_rfl) (by kernel_rfl) (fun _ _ _ h => h) rfl (fun w' hSw => by go_simp) (by assumption) ?_
    simp only [Act.put, List.setIfInBounds_toArray, List.set_cons_zero, List.set_cons_succ]
    refine held_call 17 67 11 #[.agg #[.slice x2 n2 c2]] rfl rfl (by kernel_rfl) rfl (by go_simp) ?_
    refine (HVB.out _ (by with_reducible assumption)).mono ?_
    rintro e24 w24 ⟨rfl, hb24⟩
    refine ⟨_, rfl, Fc.Old.step hb24 (by with_reducible assumption), fun hHeld24 => ?_⟩
    clear hb24
    simp only [Act.put, List.setIfInBounds_toArray, List.set_cons_zero, List.set_cons_succ]
    refine held_take 18 68 (.bool false) rfl rfl (by kernel_rfl) (by kernel_rfl) (by kernel_rfl) (fun _ _ _ h => h) rfl (fun _ _ => rfl) (by assumption) ?_
    simp only [Act.put, List.setIfInBounds_toArray, List.set_cons_zero, List.set_cons_succ]
    refine held_take 19 69 (.bool false) rfl rfl (by kernel_rfl) (by kernel_rfl) (by kernel_rfl) (fun _ _ _ h => h) rfl (fun _ _ => rfl) (by assumption) ?_
    simp only [Act.put, List.setIfInBounds_toArray, List.set_cons_zero, List.set_cons_succ]
    refine held_skip 20 70 rfl rfl (by kernel_rfl) (by kernel_rfl) (by kernel_rfl) (fun _ _ _ h => h) rfl (by assumption) ?_
    simp only [Act.put, List.setIfInBounds_toArray, List.set_cons_zero, List.set_cons_succ]
    refine held_skip 21 71 rfl rfl (by kernel_rfl) (by kernel_rfl) (by kernel_rfl) (fun _ _ _ h => h) rfl (by assumption) ?_
    simp only [Act.put, List.setIfInBounds_toArray, List.set_cons_zero, List.set_cons_succ]
    refine held_skip 22 72 rfl rfl (by kernel_rfl) (by kernel_rfl) (by kernel_rfl) (fun _ _ _ h => h) rfl (by assumption) ?_
    simp only [Act.put, List.setIfInBounds_toArray, List.set_cons_zero, List.set_cons_succ]
    refine held_skip 23 73 rfl rfl (by kernel_rfl) (by kernel_rfl) (by kernel_rfl) (fun _ _ _ h => h) rfl (by assumption) ?_
    simp only [Act.put, List.setIfInBounds_toArray, List.set_cons_zero, List.set_cons_succ]
    refine held_skip 24 74 rfl rfl (by kernel_rfl) (by kernel_rfl) (by kernel_rfl) (fun _ _ _ h => h) rfl (by assumption) ?_
    simp only [Act.put, List.setIfInBounds_toArray, List.set_cons_zero, List.set_cons_succ]
    refine held_skip 25 75 rfl rfl (by kernel_rfl) (by kernel_rfl) (by kernel_rfl) (fun _ _ _ h => h) rfl (by assumption) ?_
    simp only [Act.put, List.setIfInBounds_toArray, List.set_cons_zero, List.set_cons_succ]
    refine held_skip 26 76 rfl rfl (by kernel_rfl) (by kernel_rfl) (by kernel_rfl) (fun _ _ _ h => h) rfl (by assumption) ?_
    simp only [Act.put, List.setIfInBounds_toArray, List.set_cons_zero, List.set_cons_succ]
    refine held_skip 27 77 rfl rfl (by kernel_rfl) (by kernel_rfl) (by kernel_rfl) (fun _ _ _ h => h) rfl (by assumption) ?_
    simp only [Act.put, List.setIfInBounds_toArray, List.set_cons_zero, List.set_cons_succ]
    refine held_take 28 78 (.bool false) rfl rfl (by kernel_rfl) (by kernel_rfl) (by kernel_rfl) (fun _ _ _ h => h) rfl (fun _ _ => rfl) (by assumption) ?_
    simp only [Act.put, List.setIfInBounds_toArray, List.set_cons_zero, List.set_cons_succ]
    refine held_take 29 79 (.bool false) rfl rfl (by kernel_rfl) (by kernel_rfl) (by kernel_rfl) (fun _ _ _ h => h) rfl (fun _ _ => rfl) (by assumption) ?_
    simp only [Act.put, List.setIfInBounds_toArray, List.set_cons_zero, List.set_cons_succ]
    refine wpAnyH_done (by kernel_rfl) ?_ _
    refine NoPanic.normal ?_
    have HB := Lib.hid (HXW.out.next hHeld24.out).below
    clear r3 r4 r9 HVA HXW
    go_wp2_with fail

  case' inr.inr =>
    obtain ⟨bE, hE, hN1, hN2⟩ := hemp hA
    have hda : d = a := by have := HD.out; rwa [if_pos hA] at this
    obtain ⟨bS, hS⟩ : ∃ bS : Bool, bS = true ↔ a = b := by
      by_cases h : a = b
      · exact ⟨true, by simp [h]⟩
      · exact ⟨false, by simp [h]⟩
    have hST : (ta.toList == tb.toList) = bS := by
      have e1 := HTA.out
      have e2 := HTB.out
      rw [if_pos hA] at e1
      rw [if_pos hB] at e2
      rw [e1, e2, toList_str, toList_str, Bool.eq_iff_iff, hS, beq_iff_eq]
      exact ⟨fun h => Fc.text_inj hA hB h, fun h => by rw [h]⟩

    go_wp2_with fail
    refine (valid_is _ a w4 (HV.out _ HX4.out.below) true (by simp [hA])).mono ?_
    rintro e w10 ⟨rfl, hb10⟩
    have hx10 := HX4.out.next hb10
    have q10 := hx10.one
    have p10 := hx10.two
    have HX10 := Lib.hid hx10
    clear hb10 hx10 HX4 q4 p4
    go_wp2_with fail
    refine (parse_is ta hta63 w10 HPA.out).mono ?_
    rintro e w11 ⟨hb11, a1, c1, rfl, hF, _⟩
    have hx11 := HX10.out.next hb11
    obtain ⟨W, hW⟩ : ∃ W, W = w11.alloc (.cells #[.slice a1 d.length c1] 24) := ⟨_, rfl⟩
    have hbW : Below w11.heap.size w11 W := by rw [hW]; exact below_box _ _
    obtain ⟨n1, hn1⟩ : ∃ n1, n1 = w11.heap.size := ⟨_, rfl⟩
    have hk : W.heap[n1]? = some (.cells #[.slice a1 d.length c1] 24 (0, 0)) := by rw [hW, hn1]; exact heap_alloc_new _ _
    have hlt : n1 < W.heap.size := (Array.getElem?_eq_some_iff.1 hk).1
    have hxW := hx11.next hbW
    have HF : Hid (∀ w', Below W.heap.size W w' → Fc.IsF w' (.slice a1 d.length c1) d) := fun w' hb => (hF.below hbW).below hb
    have r3 : ∀ w', Fc.Old W w' → w'.cell? ⟨w.heap.size, 0, none⟩ = some (.slice x n c) := fun w' h => (hxW.next h.out).one
    have r4 : ∀ w', Fc.Old W w' → w'.cell? ⟨w.heap.size + 1, 0, none⟩ = some (.slice x2 n2 c2) := fun w' h => (hxW.next h.out).two
    have r9 : ∀ w', Fc.Old W w' → w'.cell? ⟨n1, 0, none⟩ = some (.slice a1 d.length c1) := fun w' h => h.cell hlt (Joins.cell_of_block hk 0)
    have HW : Hid (w11.alloc (.cells #[.slice a1 d.length c1] 24) = W) := hW.symm
    have HN1 := Lib.hid hn1
    have HXW := Lib.hid hxW
    have HVA : Hid (∀ w', Fc.Old W w' → Calls Tryd.prog 11 #[.agg #[.slice x n c]] w' (Fc.Gives (.bool true) w')) := fun w' h => valid_is _ a w' (HV.out _ (hxW.next h.out).below) true (by simp [hA])
    have HVB : Hid (∀ w', Fc.Old W w' → Calls Tryd.prog 11 #[.agg #[.slice x2 n2 c2]] w' (Fc.Gives (.bool true) w')) := fun w' h => valid_is _ b w' (HU.out _ (hxW.next h.out).below) true (by simp [hB])
    have HSX : Hid (∀ w', Fc.Old W w' → Calls Tryd.prog 13 #[.agg #[.slice a1 d.length c1], .agg #[.slice x n c]] w' (Fc.Gives (.bool true) w')) := fun w' h => same_is _ _ d a w' (HF.out _ h.out) (HV.out _ (hxW.next h.out).below) true (by simp [hda])
    have HSB : Hid (∀ w', Fc.Old W w' → Calls Tryd.prog 13 #[.agg #[.slice x n c], .agg #[.slice x2 n2 c2]] w' (Fc.Gives (.bool bS) w')) := fun w' h => same_is _ _ a b w' (HV.out _ (hxW.next h.out).below) (HU.out _ (hxW.next h.out).below) bS hS
    have HTC : Hid (∀ w', Fc.Old W w' → Calls Tryd.prog 10 #[.agg #[.slice x2 n2 c2]] w' (Fc.Gives (.string tb) w')) := fun w' h => text_is _ b w' (HU.out _ (hxW.next h.out).below) (HT.out _ (hxW.next h.out).below) tb HTB.out
    clear hE hN1 hN2 hda hS
    clear hW hbW hk hb11 hF hn1 hlt hx11 hxW HX10 q10 p10
    go_upto_region 7 with fail
    rw [HW.out, ← HN1.out]
    clear HW HN1
    generalize d.length = nd at *
    go_region_held3 (fun w' => Fc.Old W w') (first | exact Fc.Old.refl W | exact Fc.Old.drew W | exact Fc.Old.step (by with_reducible assumption) (by with_reducible assumption) | with_reducible assumption) (first | (go_at_call 11; (with_reducible refine (HVA.out _ (by with_reducible assumption)).mono ?_); rintro e5 w5 ⟨rfl, hb5⟩) | (go_at_call 11; (with_reducible refine (HVB.out _ (by with_reducible assumption)).mono ?_); rintro e6 w6 ⟨rfl, hb6⟩) | (go_at_call 13; (with_reducible refine (HSX.out _ (by with_reducible assumption)).mono ?_); rintro e7 w7 ⟨rfl, hb7⟩) | (go_at_call 13; (with_reducible refine (HSB.out _ (by with_reducible assumption)).mono ?_); rintro e8 w8 ⟨rfl, hb8⟩) | (go_at_call 10; (with_reducible refine (HTC.out _ (by with_reducible assumption)).mono ?_); rintro e9 w9 ⟨rfl, hb9⟩))
    have hO : Fc.Old W w8 := by with_reducible assumption
    have HB := Lib.hid (HXW.out.next hO.out).below
    clear r3 r4 r9 HVA HXW
    go_wp2_with fail

  all_goals
    have hs3 := HY.out.2.2
    have hs63 : s.size ≤ 9223372036854775807 := by omega
    clear HV HU HT HTA HTB HD HPA hemp HND HY HLT hA
    cases hz : Fc.parseT (Lx.tx s) with
    | error z =>
      obtain ⟨hz0, hz1⟩ := Fc.parseT_err (by rw [Lx.tx_len]; omega) hz
      rw [Lx.tx_len] at hz1
      have HP := Lib.hid (fun w' => parse_err s hs63 w' hz)
      clear hz
      obtain ⟨E, A⟩ := z
      have hne : (((E : Nat) : Int) != 0) = true := by rw [bne_iff_ne]; simp only at hz0; omega
      have hle : decide (A ≤ (s.size : Int)) = true := decide_eq_true hz1
      clear hz0 hs3 hs63 h70i h70j
      dsimp only at hz1 HP
      refine (HP.out _).mono ?_
      rintro e w20 ⟨rfl, hb20⟩
      have HB20 := Lib.hid (HB.out.trans ((hb20.trans ((below_box w20 (.slice none 0 0)).mono hb20.size)).mono HB.out.size))
      clear hb20 HB HP
      go_wp2_with fail
      go_ret
      exact ⟨rfl, HB20.out⟩
    | ok d2 =>
      have HP := Lib.hid (fun w' => parse_is s hs63 w' hz)
      clear hz hs3 h70i h70j
      refine (HP.out _).mono ?_
      rintro e w20 ⟨hb20, a2, c3, rfl, hF2, hv2⟩
      have HB20 := Lib.hid (HB.out.trans ((hb20.trans ((below_box w20 (.slice a2 d2.length c3)).mono hb20.size)).mono HB.out.size))
      have HV2 := Lib.hid (valid_is _ d2 _ (hF2.below (below_box w20 (.slice a2 d2.length c3))) true (by simp [hv2]))
      clear hb20 HB HP hF2 hv2
      generalize d2.length = n3 at *
      go_wp2_with fail
      refine HV2.out.mono ?_
      rintro e w21 ⟨rfl, hb21⟩
      have HB21 := Lib.hid (HB20.out.trans (hb21.mono HB20.out.size))
      clear hb21 HB20 HV2
      go_wp2_with fail
      go_ret
      exact ⟨rfl, HB21.out⟩

set_option maxRecDepth 100000 in
theorem law_walk (v : Value) (a : List Fc.Fact) (u : Value) (b : List Fc.Fact) (s : ByteArray) (w : World) (hv : Fc.IsF w v a) (hu : Fc.IsF w u b) (_ : s.size ≤ 9223372036854775807) (ht : HasTab w) :
    Calls Tryd.prog 3 #[.agg #[v], .agg #[u], .string s] w fun e w' => e = .returned (.bool true) ∧ Below w.heap.size w w' := by
  by_cases h : Fc.Few a 70 ∧ Fc.Few b 70 ∧ s.size ≤ 3000
  · exact in_walk v u a b s w hv hu ht h
  · exact out_walk v u a b s w hv hu ht h

set_option maxRecDepth 100000 in
/-- What the walk gives, for all arguments and every world that holds the tables. -/
theorem contract (H : Type) (enc : TypeId × Value → H) (W : World) (base : Nat) (args : Array Value) (ds gs : List (DataW H)) (before : List MemPlace)
    (hval : ∀ (j : Nat) t v, Tryd.f3.params[j]? = some t → args[j]? = some v → Value.okWide Tryd.prog W .any base t v)
    (hW : DataW.Whole enc Tryd.prog Tryd.f3.params.toList Rows.factDomainsSpec.vars false W args.toList ds gs before) (hL : laidMetH Tryd.prog laidAll W) :
    Calls Tryd.prog 3 args W fun e W' => ∃ v, e = .returned v ∧ Rows.factDomainsSpec.post enc Tryd.prog Tryd.f3 false true false false W args v W' := by
  have hW' := hW
  obtain ⟨p, q, hA0, hV, rfl, hfz, hnd⟩ := hW
  have hA : DataW.TrodAll enc Tryd.prog W 0 (fun _ => true) true Tryd.f3.params.toList args.toList ds p := hA0
  rw [Tryd.params3] at hA hval
  obtain ⟨v0, vs0, d0, ds0, p0, q0, hargs, rfl, rfl, h0, r0⟩ := trodAll_cons hA
  obtain ⟨v1, vs1, d1, ds1, p1, q1, rfl, rfl, rfl, h1, r1⟩ := trodAll_cons r0
  obtain ⟨v2, vs2, d2, ds2, p2, q2, rfl, rfl, rfl, h2, r2⟩ := trodAll_cons r1
  obtain ⟨rfl, rfl, rfl⟩ := trodAll_nil r2
  obtain rfl : args = #[v0, v1, v2] := by cases args; simp_all
  obtain ⟨rfl, rfl⟩ := trodVars_none hV
  obtain ⟨u0, l0, rfl, t0⟩ := open_domain (hval 0 24 v0 rfl rfl) h0
  obtain ⟨u1, l1, rfl, t1⟩ := open_domain (hval 1 24 v1 rfl rfl) h1
  obtain ⟨a2, rfl, _, _, g2⟩ := open_string Tryd.underlying9 (hval 2 9 v2 rfl rfl) h2
  refine (law_walk u0 l0 u1 l1 a2 W t0 t1 (le_of_max g2) (hasTab hL)).mono fun e W' ⟨he, hg⟩ => ?_
  subst he
  exact ⟨_, rfl, post_law rfl rfl rfl rfl rfl (by rw [Tryd.params3]; decide) hW' hg⟩

theorem laid_met (os : Os) : laidMet Tryd.prog Rows.factDomainsRow.laid ((laidWorld os).forCall (fun _ _ => 0) ⟨#[], #[.agg #[.slice none 0 0], .agg #[.slice none 0 0], .string ⟨#[]⟩], []⟩).memory :=
  laidMet_of_run' 8 (by kernel_rfl) (by kernel_rfl)
theorem reads (os : Os) {H : Type} (enc : TypeId × Value → H) : ∃ places, DataW.whole enc Tryd.prog ((laidWorld os).forCall (fun _ _ => 0) ⟨#[], #[.agg #[.slice none 0 0], .agg #[.slice none 0 0], .string ⟨#[]⟩], []⟩).memory Tryd.f3.params.toList Rows.factDomainsSpec.vars false #[Value.agg #[.slice none 0 0], Value.agg #[.slice none 0 0], Value.string ⟨#[]⟩].toList 8 = some ([.agg [.nil], .agg [.nil], .lit (.string [])], [], places) :=
  ⟨[], by kernel_rfl⟩

set_option maxRecDepth 100000 in
theorem lifted (os : Os) (started : os.Started) (H : Type) (enc : TypeId × Value → H) (F : Stop.Interp) :
    ReturnsInHanded {} Tryd.checked os 3 .any ((OpenSpec.ofChange Rows.factDomainsSpec).preRow enc Tryd.prog Tryd.f3 Rows.factDomainsRow.domain false Rows.factDomainsRow.laid) (((OpenSpec.ofChange Rows.factDomainsSpec).at F).post enc Tryd.prog Tryd.f3 false true false false) := by
  obtain ⟨places, hx⟩ := reads os enc
  refine returnsInHanded_of_row (C := Tryd.checked) (s := OpenSpec.ofChange Rows.factDomainsSpec) own started (by kernel_rfl) Tryd.func3
    (witness_row_at (enc := enc) (C := Tryd.checked) false (laidWorld os) #[.agg #[.slice none 0 0], .agg #[.slice none 0 0], .string ⟨#[]⟩] rfl (by kernel_rfl) (by kernel_rfl) (by kernel_rfl)
      (OpenSpec.preRow_of_cond 8 hx (by kernel_rfl) (fun k hk => by cases hk) (by kernel_rfl) (laid_met os))) ?_
  intro W base args ds gs before hval hW _ _ _ hL _ _
  exact contract H enc W base args ds gs before hval hW hL

theorem said : Rows.FactDomainsSaid :=
  OpenClaim.holds_of_cond 3 Tryd.f3 rfl rfl rfl rfl rfl rfl rfl ⟨rfl, rfl, rfl, rfl, rfl⟩ rfl rfl rfl rfl rfl (by kernel_rfl) Tryd.func3 (by kernel_rfl)
    (of_decide_eq_true (by kernel_rfl)) (by unfold Func.isWrapper; first | (rw [if_pos (by decide +kernel)]; kernel_rfl) | (rw [if_neg (by decide +kernel)]; exact ⟨rfl, rfl⟩))
    (fun os started H enc _ F => by rw [OpenClaim.pre_eq_preRow]; exact lifted os started H enc F)


set_option maxRecDepth 100000 in
/-- No parameter wants a stand-in; the program's own looks are off: what the card asks. -/
theorem plain (f : FuncId) (fn : Func) (hf : Tryd.pinned.checked.prog.funcNamed "pandect/pandectlaw06.FactDomains" = some f) (hfn : Tryd.pinned.checked.prog.funcs[f]? = some fn) :
    true = Tryd.pinned.checked.prog.looks [] ∧ ∀ (j : Nat) t, fn.params[j]? = some t → Tryd.pinned.checked.prog.wantsStandIn t = false := by
  obtain rfl : f = 3 := Option.some.inj ((show Tryd.prog.funcNamed "pandect/pandectlaw06.FactDomains" = some 3 by kernel_rfl).symm.trans hf) |>.symm
  obtain rfl : fn = Tryd.f3 := (Option.some.inj (Tryd.func3.symm.trans hfn)).symm
  refine ⟨by kernel_rfl, fun j t ht => ?_⟩
  rw [Tryd.params3] at ht
  have hm := Array.mem_of_getElem? ht
  simp only [List.mem_toArray, List.mem_cons, List.not_mem_nil, or_false] at hm
  rcases hm with rfl | rfl | rfl
  · exact wants_domain
  · exact wants_domain
  · exact wants_string

theorem card : Rows.FactDomainsCardSaid :=
  Claim7.holds_tied_plain_at .later [] _ _ _ _ said (fun _ h => by cases h) (by kernel_rfl) (fun _ h => by cases h) factDomains_row_tie rfl ⟨rfl, rfl⟩ (by kernel_rfl) rfl plain (by kernel_rfl)
end Go.Proofs.YtoamkanofhhjfaaDoor.factDomains
