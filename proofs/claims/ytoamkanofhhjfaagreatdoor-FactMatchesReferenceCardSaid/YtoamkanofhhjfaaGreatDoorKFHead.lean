import Derived.Test.YtoamkanofhhjfaaGreatDoorKFHeadA
import Derived.Test.YtoamkanofhhjfaaGreatDoorKFParsed
import Derived.Test.YtoamkanofhhjfaaGreatDoorKFNextW
import Derived.Test.YtoamkanofhhjfaaGreatDoorKFCaseT
import Derived.Test.YtoamkanofhhjfaaGreatDoorKFLeast
import Derived.Test.YtoamkanofhhjfaaGreatDoorKFLess
/-
  The contracts of the calls of the law's head.
-/
namespace Go.Proofs.YtoamkanofhhjfaaGreatDoor
open Go.RowKit

theorem hd_p1 (w : World) : Calls Tryz.prog 6 #[.string ⟨#[97, 103, 101, 32, 110, 117, 109, 98, 101, 114, 32, 48, 32, 116, 111, 32, 49, 53, 48, 59, 32, 109, 101, 109, 98, 101, 114, 32, 102, 108, 97, 103, 59]⟩] w fun e w' => Below w.heap.size w w' ∧ ∃ a c, e = .returned (.tuple #[.agg #[.slice a 2 c], .int .i64 0, .int .i64 0]) ∧ Fc.IsF w' (.slice a 2 c) Fc.hD ∧ Fc.Valid Fc.hD := by
  refine (parse_walk ⟨#[97, 103, 101, 32, 110, 117, 109, 98, 101, 114, 32, 48, 32, 116, 111, 32, 49, 53, 48, 59, 32, 109, 101, 109, 98, 101, 114, 32, 102, 108, 97, 103, 59]⟩ (by decide) w).mono ?_
  intro e w' h
  have e1 : Fc.parseT (Lx.tx ⟨#[97, 103, 101, 32, 110, 117, 109, 98, 101, 114, 32, 48, 32, 116, 111, 32, 49, 53, 48, 59, 32, 109, 101, 109, 98, 101, 114, 32, 102, 108, 97, 103, 59]⟩) = .ok Fc.hD := Fc.hd_p1
  rw [e1] at h
  obtain ⟨hb, v, rfl, ho, hv⟩ := h
  obtain ⟨⟨a, c⟩, rfl⟩ := ho.form
  exact ⟨hb, a, c, rfl, ho.isF hv.sized, hv⟩
theorem hd_p2 (w : World) : Calls Tryz.prog 6 #[.string ⟨#[97, 103, 101, 32, 110, 117, 109, 98, 101, 114, 32, 53, 32, 116, 111, 32, 52, 59]⟩] w fun e w' => Below w.heap.size w w' ∧ e = .returned (.tuple #[.agg #[.slice none 0 0], .int .i64 10, .int .i64 16]) := by
  refine (parse_walk ⟨#[97, 103, 101, 32, 110, 117, 109, 98, 101, 114, 32, 53, 32, 116, 111, 32, 52, 59]⟩ (by decide) w).mono ?_
  intro e w' h
  have e1 : Fc.parseT (Lx.tx ⟨#[97, 103, 101, 32, 110, 117, 109, 98, 101, 114, 32, 53, 32, 116, 111, 32, 52, 59]⟩) = .error (10, 16) := Fc.hd_p2
  rw [e1] at h
  exact h
theorem hd_c1 (v : Value) (w : World) (hF : Fc.IsF w v Fc.hD) (hv : Fc.Valid Fc.hD) : Calls Tryz.prog 8 #[.agg #[v], .string ⟨#[109, 101, 109, 98, 101, 114, 32, 61, 32, 49, 44, 32, 97, 103, 101, 32, 61, 32, 51, 48]⟩] w fun e w' => Below w.heap.size w w' ∧ ∃ g, e = .returned (.tuple #[.slice (some ⟨g, 0, none⟩) 2 2, .int .i64 0, .int .i64 0]) ∧ Fc.IsN w' (.slice (some ⟨g, 0, none⟩) 2 2) [30, 1] := by
  refine (parsecase_walk v _ ⟨#[109, 101, 109, 98, 101, 114, 32, 61, 32, 49, 44, 32, 97, 103, 101, 32, 61, 32, 51, 48]⟩ (by decide) w hF hv).mono ?_
  intro e w' h
  have e1 : Fc.caseT Fc.hD (Lx.tx ⟨#[109, 101, 109, 98, 101, 114, 32, 61, 32, 49, 44, 32, 97, 103, 101, 32, 61, 32, 51, 48]⟩) = .ok [30, 1] := Fc.hd_c1
  rw [e1] at h
  obtain ⟨hb, g, rfl, ho, _⟩ := h
  exact ⟨hb, g, rfl, ho.isN (by decide) (by simp)⟩
theorem hd_c2 (v : Value) (w : World) (hF : Fc.IsF w v Fc.hD) (hv : Fc.Valid Fc.hD) : Calls Tryz.prog 8 #[.agg #[v], .string ⟨#[97, 103, 101, 32, 61, 32, 49, 53, 49, 44, 32, 109, 101, 109, 98, 101, 114, 32, 61, 32, 49]⟩] w fun e w' => Below w.heap.size w w' ∧ e = .returned (.tuple #[.slice none 0 0, .int .i64 10, .int .i64 6]) := by
  refine (parsecase_walk v _ ⟨#[97, 103, 101, 32, 61, 32, 49, 53, 49, 44, 32, 109, 101, 109, 98, 101, 114, 32, 61, 32, 49]⟩ (by decide) w hF hv).mono ?_
  intro e w' h
  have e1 : Fc.caseT Fc.hD (Lx.tx ⟨#[97, 103, 101, 32, 61, 32, 49, 53, 49, 44, 32, 109, 101, 109, 98, 101, 114, 32, 61, 32, 49]⟩) = .error (10, 6) := Fc.hd_c2
  rw [e1] at h
  exact h
theorem hd_c3 (v : Value) (w : World) (hF : Fc.IsF w v Fc.hD) (hv : Fc.Valid Fc.hD) : Calls Tryz.prog 8 #[.agg #[v], .string ⟨#[97, 103, 101, 32, 61, 32, 51, 48]⟩] w fun e w' => Below w.heap.size w w' ∧ e = .returned (.tuple #[.slice none 0 0, .int .i64 11, .int .i64 8]) := by
  refine (parsecase_walk v _ ⟨#[97, 103, 101, 32, 61, 32, 51, 48]⟩ (by decide) w hF hv).mono ?_
  intro e w' h
  have e1 : Fc.caseT Fc.hD (Lx.tx ⟨#[97, 103, 101, 32, 61, 32, 51, 48]⟩) = .error (11, 8) := Fc.hd_c3
  rw [e1] at h
  exact h
/-- A slice of two numbers, just built. -/
theorem hd_two (w : World) (x y : Int) (hx : -9223372036854775808 ≤ x ∧ x ≤ 9223372036854775807) (hy : -9223372036854775808 ≤ y ∧ y ≤ 9223372036854775807) :
    Fc.IsN (w.alloc (.cells #[.int .i64 x, .int .i64 y] 3)) (.slice (some ⟨w.heap.size, 0, none⟩) 2 2) [x, y] :=
  ⟨_, 2, rfl, Nat.le_refl _, by decide, by simp; exact ⟨hx, hy⟩, fun _ => ⟨w.heap.size, 0, rfl, by simp, by
    intro i hi
    have : i = 0 ∨ i = 1 := by simp at hi; omega
    rcases this with rfl | rfl
    · exact World.cell?_alloc_at _ _ _ _ rfl
    · exact World.cell?_alloc_at _ _ _ _ rfl⟩⟩
theorem hd_n1 (v u : Value) (w : World) (hF : Fc.IsF w v Fc.hD) (hv : Fc.Valid Fc.hD) (hu : Fc.IsN w u [30, 1]) : Calls Tryz.prog 10 #[.agg #[v], u] w fun e w' => Below w.heap.size w w' ∧ ∃ a c, e = .returned (.tuple #[.slice a 2 c, .bool true]) ∧ Fc.IsN w' (.slice a 2 c) [31, 0] := by
  refine (next_walk v u _ _ w hF hu ⟨hv, by decide⟩).mono ?_
  intro e w' h
  rw [Fc.hd_n1] at h
  obtain ⟨⟨v2, rfl, ho⟩, hb⟩ := h
  obtain ⟨a, c, rfl⟩ := Fc.OwnE.form ho
  exact ⟨hb, a, c, rfl, Fc.OwnE.isN ho (by simp)⟩
theorem hd_n2 (v u : Value) (w : World) (hF : Fc.IsF w v Fc.hD) (hv : Fc.Valid Fc.hD) (hu : Fc.IsN w u [150, 1]) : Calls Tryz.prog 10 #[.agg #[v], u] w fun e w' => Below w.heap.size w w' ∧ e = .returned (.tuple #[.slice none 0 0, .bool false]) := by
  refine (next_walk v u _ _ w hF hu ⟨hv, by decide⟩).mono ?_
  intro e w' h
  rw [Fc.hd_n2] at h
  exact ⟨h.2, h.1⟩
theorem hd_l (v : Value) (w : World) (hF : Fc.IsF w v Fc.hD) (hv : Fc.Valid Fc.hD) : Calls Tryz.prog 24 #[.agg #[v]] w fun e w' => Below w.heap.size w w' ∧ ∃ g, e = .returned (.slice (some ⟨g, 0, none⟩) 2 2) ∧ Fc.IsN w' (.slice (some ⟨g, 0, none⟩) 2 2) [0, 0] := by
  refine (least_walk v _ w hF hv).mono ?_
  intro e w' h
  rw [Fc.hd_l] at h
  obtain ⟨hb, g, rfl, ho, _⟩ := h
  exact ⟨hb, g, rfl, ho.isN (by decide) (by simp)⟩
theorem hd_t1 (v : Value) (w : World) (hF : Fc.IsF w v Fc.hD) (hv : Fc.Valid Fc.hD) (ht : HasTab w) : Calls Tryz.prog 18 #[.agg #[v]] w fun e w' => Below w.heap.size w w' ∧ e = .returned (.string ⟨#[97, 103, 101, 32, 110, 117, 109, 98, 101, 114, 32, 48, 32, 116, 111, 32, 49, 53, 48, 59, 10, 109, 101, 109, 98, 101, 114, 32, 102, 108, 97, 103, 59, 10]⟩) := by
  refine (text_walk v _ w hF hv ht).mono ?_
  intro e w' h
  rw [Fc.hd_t1] at h
  exact ⟨h.2, h.1⟩
theorem hd_t2 (v u : Value) (w : World) (hF : Fc.IsF w v Fc.hD) (hv : Fc.Valid Fc.hD) (hu : Fc.IsN w u [30, 1]) (ht : HasTab w) : Calls Tryz.prog 20 #[.agg #[v], u] w fun e w' => Below w.heap.size w w' ∧ e = .returned (.string ⟨#[97, 103, 101, 32, 61, 32, 51, 48, 44, 32, 109, 101, 109, 98, 101, 114, 32, 61, 32, 49]⟩) := by
  refine (casetext_walk v u _ _ w hF hu ⟨hv, by decide⟩ ht).mono ?_
  intro e w' h
  rw [Fc.hd_t2] at h
  exact ⟨h.2, h.1⟩
theorem hd_eq (v u : Value) (l : List Int) (w : World) (hv : Fc.IsN w v l) (hu : Fc.IsN w u l) : Calls Tryz.prog 23 #[v, u] w fun e w' => Below w.heap.size w w' ∧ e = .returned (.bool true) := by
  refine (equal_walk v u l l w hv hu).mono ?_
  rintro e w' ⟨⟨b, rfl, hb⟩, h⟩
  exact ⟨h, by rw [hb.2 rfl]⟩
end Go.Proofs.YtoamkanofhhjfaaGreatDoor
/-
  The walk of the law's head.
-/
namespace Go.Proofs.YtoamkanofhhjfaaGreatDoor
open Go.RowKit

theorem below_box (w : World) (v : Value) : Below w.heap.size w (w.alloc (.cells #[v] 24)) := (Below.refl _ _).alloc (Nat.le_refl _) _
theorem below_two (w : World) (x y : Int) : Below w.heap.size w (w.alloc (.cells #[.int .i64 x, .int .i64 y] 3)) := (Below.refl _ _).alloc (Nat.le_refl _) _

set_option maxHeartbeats 4000000 in
set_option maxRecDepth 100000 in
theorem head_walk (w : World) (ht : HasTab w) :
    Calls Tryz.prog 4 #[] w fun e w' => e = .returned (.bool true) ∧ Below w.heap.size w w' := by
  have HT := Lib.hid ht
  clear ht
  go_enter Tryz.func4, Tryz.ntmps4
  go_wp2_with fail
  refine (hd_p1 w).mono ?_
  rintro e w1 ⟨hb1, a, c, rfl, hF, hv⟩
  have HV := Lib.hid hv
  obtain ⟨W, hW⟩ : ∃ W, W = w1.alloc (.cells #[.slice a 2 c] 24) := ⟨_, rfl⟩
  have hbW : Below w1.heap.size w1 W := by rw [hW]; exact below_box _ _
  obtain ⟨n1, hn1⟩ : ∃ n1, n1 = w1.heap.size := ⟨_, rfl⟩
  have hk : W.heap[n1]? = some (.cells #[.slice a 2 c] 24 (0, 0)) := by rw [hW, hn1]; exact heap_alloc_new _ _
  have hlt : n1 < W.heap.size := (Array.getElem?_eq_some_iff.1 hk).1
  have HF : Hid (∀ w', Below W.heap.size W w' → Fc.IsF w' (.slice a 2 c) Fc.hD) := fun w' hb => (hF.below hbW).below hb
  have HC : Hid (∀ w', Below W.heap.size W w' → w'.cell? ⟨n1, 0, none⟩ = some (.slice a 2 c)) := fun w' hb => (hb.cell (p := ⟨n1, 0, none⟩) hlt).trans (Joins.cell_of_block hk 0)
  have HBW := Lib.hid (hb1.trans (hbW.mono hb1.size))
  have HTW : Hid (∀ w', Below W.heap.size W w' → HasTab w') := fun w' hb => HT.out.below (HBW.out.trans (hb.mono HBW.out.size))
  have HW : Hid (w1.alloc (.cells #[.slice a 2 c] 24) = W) := hW.symm
  have HN1 := Lib.hid hn1
  have q0 := HC.out W (Below.refl _ _)
  clear hW hbW hk hb1 hF hv HT hn1 hlt
  go_upto_region 2 with fail
  rw [HW.out, ← HN1.out]
  clear HW HN1
  go_wp2_with fail
  refine (hd_c1 _ W (HF.out W (Below.refl _ _)) HV.out).mono ?_
  rintro e w2 ⟨hb2, g2, rfl, hN2⟩
  have HB2 := Lib.hid hb2
  have H2 : Hid (∀ w', Below w2.heap.size w2 w' → Fc.IsN w' (.slice (some ⟨g2, 0, none⟩) 2 2) [30, 1]) := fun w' hb => hN2.below hb
  have q2 := HC.out w2 hb2
  clear hb2 hN2 q0
  go_wp2_with fail
  refine (hd_c2 _ w2 (HF.out w2 HB2.out) HV.out).mono ?_
  rintro e w3 ⟨hb3, rfl⟩
  have HB23 := Lib.hid hb3
  have HB3 := Lib.hid (HB2.out.trans (hb3.mono HB2.out.size))
  have q3 := HC.out w3 HB3.out
  clear hb3 q2
  go_wp2_with fail
  refine (hd_c3 _ w3 (HF.out w3 HB3.out) HV.out).mono ?_
  rintro e w4 ⟨hb4, rfl⟩
  have HB24 := Lib.hid (HB23.out.trans (hb4.mono HB23.out.size))
  have HB4 := Lib.hid (HB3.out.trans (hb4.mono HB3.out.size))
  have q4 := HC.out w4 HB4.out
  clear hb4 q3 HB23 HB3
  go_wp2_with fail
  have HB4a := Lib.hid (HB4.out.trans ((below_two w4 30 1).mono HB4.out.size))
  have HB24a := Lib.hid (HB24.out.trans ((below_two w4 30 1).mono HB24.out.size))
  clear q4
  refine (hd_n1 _ _ _ (HF.out _ HB4a.out) HV.out (hd_two w4 30 1 (by decide) (by decide))).mono ?_
  rintro e w5 ⟨hb5, a5, c5, rfl, hN5⟩
  have H5 : Hid (∀ w', Below w5.heap.size w5 w' → Fc.IsN w' (.slice a5 2 c5) [31, 0]) := fun w' hb => hN5.below hb
  have HB5 := Lib.hid (HB4a.out.trans (hb5.mono HB4a.out.size))
  have HB25 := Lib.hid (HB24a.out.trans (hb5.mono HB24a.out.size))
  have q5 := HC.out w5 HB5.out
  clear hb5 hN5 HB4a HB24a HB4 HB24
  go_wp2_with fail
  have HB5a := Lib.hid (HB5.out.trans ((below_two w5 150 1).mono HB5.out.size))
  refine (hd_n2 _ _ _ (HF.out _ HB5a.out) HV.out (hd_two w5 150 1 (by decide) (by decide))).mono ?_
  rintro e w6 ⟨hb6, rfl⟩
  have HB56 := Lib.hid ((below_two w5 150 1).trans (hb6.mono (below_two w5 150 1).size))
  have HB6 := Lib.hid (HB5.out.trans (HB56.out.mono HB5.out.size))
  have HB26 := Lib.hid (HB25.out.trans (HB56.out.mono HB25.out.size))
  clear hb6 HB5a q5
  go_wp2_with fail
  refine (hd_p2 w6).mono ?_
  rintro e w7 ⟨hb7, rfl⟩
  obtain ⟨W7, hW7⟩ : ∃ W7, W7 = w7.alloc (.cells #[.slice none 0 0] 24) := ⟨_, rfl⟩
  have hb7a : Below w6.heap.size w6 W7 := by rw [hW7]; exact hb7.trans ((below_box w7 _).mono hb7.size)
  have HW7 : Hid (w7.alloc (.cells #[.slice none 0 0] 24) = W7) := hW7.symm
  have HB57 := Lib.hid (HB56.out.trans (hb7a.mono HB56.out.size))
  have HB7 := Lib.hid (HB6.out.trans (hb7a.mono HB6.out.size))
  have HB27 := Lib.hid (HB26.out.trans (hb7a.mono HB26.out.size))
  clear hW7 hb7 hb7a HB56 HB6 HB26 HB5 HB25
  go_upto_region 10 with fail
  rw [HW7.out]
  clear HW7
  go_wp2_with fail
  have HA7 := Lib.hid (below_two W7 30 1)
  refine (hd_eq _ _ [30, 1] _ (H2.out _ (HB27.out.trans (HA7.out.mono HB27.out.size))) (hd_two W7 30 1 (by decide) (by decide))).mono ?_
  rintro e w8 ⟨hb8, rfl⟩
  have HB78 := Lib.hid (HA7.out.trans (hb8.mono HA7.out.size))
  have HB58 := Lib.hid (HB57.out.trans (HB78.out.mono HB57.out.size))
  have HB8 := Lib.hid (HB7.out.trans (HB78.out.mono HB7.out.size))
  have HB28 := Lib.hid (HB27.out.trans (HB78.out.mono HB27.out.size))
  clear hb8 HA7 HB78 HB57 HB7 HB27
  go_wp2_with fail
  have HA8 := Lib.hid (below_two w8 31 0)
  refine (hd_eq _ _ [31, 0] _ (H5.out _ (HB58.out.trans (HA8.out.mono HB58.out.size))) (hd_two w8 31 0 (by decide) (by decide))).mono ?_
  rintro e w9 ⟨hb9, rfl⟩
  have HB89 := Lib.hid (HA8.out.trans (hb9.mono HA8.out.size))
  have HB9 := Lib.hid (HB8.out.trans (HB89.out.mono HB8.out.size))
  have HB29 := Lib.hid (HB28.out.trans (HB89.out.mono HB28.out.size))
  have q9 := HC.out w9 HB9.out
  clear hb9 HA8 HB89 HB58 HB8 HB28 H5
  go_wp2_with fail
  refine (hd_l _ w9 (HF.out w9 HB9.out) HV.out).mono ?_
  rintro e w10 ⟨hb10, g10, rfl, hN10⟩
  have HN10 := Lib.hid hN10
  have HB10 := Lib.hid (HB9.out.trans (hb10.mono HB9.out.size))
  have HB210 := Lib.hid (HB29.out.trans (hb10.mono HB29.out.size))
  clear hb10 hN10 q9 HB9 HB29
  go_wp2_with fail
  have HA10 := Lib.hid (below_two w10 0 0)
  refine (hd_eq _ _ [0, 0] _ (HN10.out.below HA10.out) (hd_two w10 0 0 (by decide) (by decide))).mono ?_
  rintro e w11 ⟨hb11, rfl⟩
  have HB1011 := Lib.hid (HA10.out.trans (hb11.mono HA10.out.size))
  have HB11 := Lib.hid (HB10.out.trans (HB1011.out.mono HB10.out.size))
  have HB211 := Lib.hid (HB210.out.trans (HB1011.out.mono HB210.out.size))
  have q11 := HC.out w11 HB11.out
  clear hb11 HA10 HB1011 HB10 HB210 HN10
  go_wp2_with fail
  refine (hd_t1 _ w11 (HF.out w11 HB11.out) HV.out (HTW.out w11 HB11.out)).mono ?_
  rintro e w12 ⟨hb12, rfl⟩
  have HB12 := Lib.hid (HB11.out.trans (hb12.mono HB11.out.size))
  have HB212 := Lib.hid (HB211.out.trans (hb12.mono HB211.out.size))
  have q12 := HC.out w12 HB12.out
  clear hb12 q11 HB11 HB211
  go_wp2_with fail
  refine (hd_t2 _ _ w12 (HF.out w12 HB12.out) HV.out (H2.out w12 HB212.out) (HTW.out w12 HB12.out)).mono ?_
  rintro e w13 ⟨hb13, rfl⟩
  have HB13 := Lib.hid (HBW.out.trans ((HB12.out.trans (hb13.mono HB12.out.size)).mono HBW.out.size))
  clear hb13 q12 HB12 HB212
  go_wp2_with fail
  go_ret
  exact ⟨rfl, HB13.out⟩
end Go.Proofs.YtoamkanofhhjfaaGreatDoor
