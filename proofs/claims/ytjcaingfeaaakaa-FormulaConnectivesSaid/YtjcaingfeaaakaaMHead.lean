/-
  The walk of the law's head.
-/
import Derived.Test.YtjcaingfeaaakaaMHeadA
import Derived.Test.YtjcaingfeaaakaaMSize
import Derived.Test.YtjcaingfeaaakaaMRefC
import Derived.Deep.RegionHeld3
import Derived.Deep.CutRange
namespace Go.Proofs.Ytjcaingfeaaakaa
open Go.RowKit

theorem hd_w1 (w W1 : World) (h : W1 = ((w.alloc (.cells #[.string ⟨#[97, 103, 101]⟩, .int .i64 2, .int .i64 0, .int .i64 150, .string ⟨#[109, 101, 109, 98, 101, 114]⟩, .int .i64 1, .int .i64 0, .int .i64 1] 52)).alloc (.cells #[.slice (some ⟨w.heap.size, 0, none⟩) 2 2] 27)).alloc (.cells #[.int .i64 20, .int .i64 0] 3)) :
    Below w.heap.size w W1 ∧ W1.heap[w.heap.size + 1]? = some (.cells #[.slice (some ⟨w.heap.size, 0, none⟩) 2 2] 27 (0, 0)) ∧ Fc.IsF W1 (.slice (some ⟨w.heap.size, 0, none⟩) 2 2) Fm.hD ∧ Fc.IsN W1 (.slice (some ⟨w.heap.size + 1 + 1, 0, none⟩) 2 2) [20, 0] := by
  have k0 : W1.heap[w.heap.size]? = some (.cells #[.string ⟨#[97, 103, 101]⟩, .int .i64 2, .int .i64 0, .int .i64 150, .string ⟨#[109, 101, 109, 98, 101, 114]⟩, .int .i64 1, .int .i64 0, .int .i64 1] 52 (0, 0)) := by rw [h]; exact Fm.blkK (Fm.blkK (heap_alloc_new _ _))
  have k1 : W1.heap[w.heap.size + 1]? = some (.cells #[.slice (some ⟨w.heap.size, 0, none⟩) 2 2] 27 (0, 0)) := by rw [h]; exact Fm.blkK (Fm.blk1 _ _ _)
  have k2 : W1.heap[w.heap.size + 1 + 1]? = some (.cells #[.int .i64 20, .int .i64 0] 3 (0, 0)) := by rw [h]; exact Fm.blk2 _ _ _ _
  refine ⟨by rw [h]; exact (((Below.refl _ _).alloc (Nat.le_refl _) _).alloc (by simp) _).alloc (by simp; omega) _, k1, ⟨_, 2, rfl, Nat.le_refl _, by decide, by simp [Fm.hD, Fc.Sized, Fm.hAge, Fm.hMem], fun _ => ⟨_, 0, rfl, (Array.getElem?_eq_some_iff.1 k0).1, fun i f hf => ?_⟩⟩, ⟨_, 2, rfl, Nat.le_refl _, by decide, by simp, fun _ => ⟨_, 0, rfl, (Array.getElem?_eq_some_iff.1 k2).1, fun i hi => ?_⟩⟩⟩
  · have : i = 0 ∨ i = 1 := by have := (List.getElem?_eq_some_iff.1 hf).1; simp [Fm.hD] at this; omega
    rcases this with rfl | rfl
    · simp [Fm.hD] at hf; subst hf
      exact ⟨Joins.cell_of_block k0 0, Joins.cell_of_block k0 1, Joins.cell_of_block k0 2, Joins.cell_of_block k0 3⟩
    · simp [Fm.hD] at hf; subst hf
      exact ⟨Joins.cell_of_block k0 4, Joins.cell_of_block k0 5, Joins.cell_of_block k0 6, Joins.cell_of_block k0 7⟩
  · have : i = 0 ∨ i = 1 := by simp at hi; omega
    rcases this with rfl | rfl
    · exact Joins.cell_of_block k2 0
    · exact Joins.cell_of_block k2 1

theorem hd_w6 (w3 w4 w5 W6 : World) (h4 : Below (w3.alloc (.cells (Fm.cellsL [Fm.tst Fm.hMem 1 1] [.slice none 0 0]).toArray 24)).heap.size (w3.alloc (.cells (Fm.cellsL [Fm.tst Fm.hMem 1 1] [.slice none 0 0]).toArray 24)) w4)
    (h5 : Below (w4.alloc (.cells (Fm.cellsL [Fm.tst Fm.hAge 6 18, Fm.hN] [.slice none 0 0, .slice (some ⟨w3.heap.size, 0, none⟩) 1 1]).toArray 24)).heap.size (w4.alloc (.cells (Fm.cellsL [Fm.tst Fm.hAge 6 18, Fm.hN] [.slice none 0 0, .slice (some ⟨w3.heap.size, 0, none⟩) 1 1]).toArray 24)) w5)
    (h6 : W6 = (w5.alloc (.cells #[.int .i64 6, .string (Lx.str []), .int .i64 0, .int .i64 0, .slice (some ⟨w4.heap.size, 0, none⟩) 2 2] 24)).alloc (.cells #[.int .i64 4, .string ⟨#[97, 100, 117, 108, 116]⟩, .int .i64 0, .int .i64 0, .slice none 0 0] 24)) :
    Below w3.heap.size w3 W6 ∧ Fm.At W6 Fm.hF (.slice (some ⟨w4.heap.size, 0, none⟩) 2 2) ∧ W6.heap[w5.heap.size]? = some (.cells #[.int .i64 6, .string (Lx.str []), .int .i64 0, .int .i64 0, .slice (some ⟨w4.heap.size, 0, none⟩) 2 2] 24 (0, 0)) ∧ W6.heap[w5.heap.size + 1]? = some (.cells #[.int .i64 4, .string ⟨#[97, 100, 117, 108, 116]⟩, .int .i64 0, .int .i64 0, .slice none 0 0] 24 (0, 0)) := by
  have b3 : Below w3.heap.size w3 w4 := ((Below.refl _ _).alloc (Nat.le_refl _) _).trans (h4.mono (by simp))
  have b4 : Below w4.heap.size w4 w5 := ((Below.refl _ _).alloc (Nat.le_refl _) _).trans (h5.mono (by simp))
  have b5 : Below w5.heap.size w5 W6 := by rw [h6]; exact ((Below.refl _ _).alloc (Nat.le_refl _) _).alloc (by simp) _
  have k3 := (h4.block w3.heap.size (by simp)).trans (heap_alloc_new w3 (.cells (Fm.cellsL [Fm.tst Fm.hMem 1 1] [.slice none 0 0]).toArray 24))
  have k4 := (h5.block w4.heap.size (by simp)).trans (heap_alloc_new w4 (.cells (Fm.cellsL [Fm.tst Fm.hAge 6 18, Fm.hN] [.slice none 0 0, .slice (some ⟨w3.heap.size, 0, none⟩) 1 1]).toArray 24))
  have a3 : Fm.At w4 Fm.hN (.slice (some ⟨w3.heap.size, 0, none⟩) 1 1) := Fm.at_iff.2 ⟨by decide, Fm.IsK.of_block (ks := [Fm.tst Fm.hMem 1 1]) (us := [.slice none 0 0]) rfl k3 (by decide) fun j k u hj hu => by
    have : j = 0 := by have := (List.getElem?_eq_some_iff.1 hj).1; simp at this; exact this
    subst this
    simp at hj hu
    subst hj hu
    exact Fm.At.leaf (by decide) rfl⟩
  have a4 : Fm.At w5 Fm.hF (.slice (some ⟨w4.heap.size, 0, none⟩) 2 2) := Fm.at_iff.2 ⟨by decide, Fm.IsK.of_block (ks := [Fm.tst Fm.hAge 6 18, Fm.hN]) (us := [.slice none 0 0, .slice (some ⟨w3.heap.size, 0, none⟩) 1 1]) rfl k4 (by decide) fun j k u hj hu => by
    have : j = 0 ∨ j = 1 := by have := (List.getElem?_eq_some_iff.1 hj).1; simp at this; omega
    rcases this with rfl | rfl
    · simp at hj hu
      subst hj hu
      exact Fm.At.leaf (by decide) rfl
    · simp at hj hu
      subst hj hu
      exact a3.below b4⟩
  exact ⟨b3.trans ((b4.trans (b5.mono b4.size)).mono b3.size), a4.below b5, by rw [h6]; exact Fm.blkK (heap_alloc_new _ _), by rw [h6]; exact Fm.blk1 _ _ _⟩

theorem says_true {P : Prop} (hp : P) {e : Ending} {w w' : World} (h : Fc.Says P w e w') : e = .returned (.bool true) ∧ Below w.heap.size w w' := by
  obtain ⟨⟨b, rfl, hb⟩, h2⟩ := h
  rw [hb.2 hp]
  exact ⟨rfl, h2⟩
theorem says_false {P : Prop} (hp : ¬ P) {e : Ending} {w w' : World} (h : Fc.Says P w e w') : e = .returned (.bool false) ∧ Below w.heap.size w w' := by
  obtain ⟨⟨b, rfl, hb⟩, h2⟩ := h
  cases b
  · exact ⟨rfl, h2⟩
  · exact absurd (hb.1 rfl) hp

set_option maxHeartbeats 8000000 in
set_option maxRecDepth 100000 in
theorem head_walk (w : World) :
    Calls Try.prog 10 #[] w fun e w' => e = .returned (.bool true) ∧ Below w.heap.size w w' := by
  obtain ⟨W1, hW1⟩ : ∃ W1, W1 = ((w.alloc (.cells #[.string ⟨#[97, 103, 101]⟩, .int .i64 2, .int .i64 0, .int .i64 150, .string ⟨#[109, 101, 109, 98, 101, 114]⟩, .int .i64 1, .int .i64 0, .int .i64 1] 52)).alloc (.cells #[.slice (some ⟨w.heap.size, 0, none⟩) 2 2] 27)).alloc (.cells #[.int .i64 20, .int .i64 0] 3) := ⟨_, rfl⟩
  have H1 := Lib.hid (hd_w1 w W1 hW1)
  go_enter Try.func10, Try.ntmps10
  go_upto_region 3 with fail
  rw [← hW1]
  clear hW1
  go_wp2_with fail
  refine (test_walk Fm.hAge 6 18 W1).mono ?_
  rintro e w2 ⟨rfl, hb2⟩
  go_wp2_with fail
  refine (test_walk Fm.hMem 1 1 w2).mono ?_
  rintro e w3 ⟨rfl, hb3⟩
  go_wp2_with fail
  refine (both_walk 5 _ 1 1 _).mono ?_
  rintro e w4 ⟨rfl, hb4⟩
  go_wp2_with fail
  refine (both_walk 6 _ 2 2 _).mono ?_
  rintro e w5 ⟨rfl, hb5⟩
  go_upto_region 5 with fail
  obtain ⟨W6, hW6⟩ : ∃ W6, W6 = (w5.alloc (.cells #[.int .i64 6, .string (Lx.str []), .int .i64 0, .int .i64 0, .slice (some ⟨w4.heap.size, 0, none⟩) 2 2] 24)).alloc (.cells #[.int .i64 4, .string ⟨#[97, 100, 117, 108, 116]⟩, .int .i64 0, .int .i64 0, .slice none 0 0] 24) := ⟨_, rfl⟩
  rw [← hW6]
  have h6 := hd_w6 w3 w4 w5 W6 hb4 hb5 hW6
  have hb16 : Below W1.heap.size W1 W6 := hb2.trans ((hb3.trans (h6.1.mono hb3.size)).mono hb2.size)
  have kd := (hb16.block _ (Array.getElem?_eq_some_iff.1 H1.out.2.1).1).trans H1.out.2.1
  have H6 := Lib.hid (And.intro h6.2.1 (And.intro (H1.out.2.2.1.below hb16) (And.intro (H1.out.2.2.2.below hb16) (H1.out.1.trans (hb16.mono H1.out.1.size)))))
  obtain ⟨nf, hnf⟩ : ∃ n, n = w5.heap.size := ⟨_, rfl⟩
  obtain ⟨nd, hnd⟩ : ∃ n, n = w.heap.size + 1 := ⟨_, rfl⟩
  obtain ⟨nk, hnk⟩ : ∃ n, n = w4.heap.size := ⟨_, rfl⟩
  rw [← hnd] at kd H6
  have kf := h6.2.2.1
  have ka := h6.2.2.2
  rw [← hnf] at kf ka
  rw [← hnk] at kf H6
  rw [← hnf, ← hnd, ← hnk]
  clear h6 hb16 hW6 hb2 hb3 hb4 hb5 H1 hnf hnk hnd
  have HK := Lib.hid (And.intro kd (And.intro kf ka))
  have lf := (Array.getElem?_eq_some_iff.1 kf).1
  have la := (Array.getElem?_eq_some_iff.1 ka).1
  have ld := (Array.getElem?_eq_some_iff.1 kd).1
  have a0 : ∀ w', Below W6.heap.size W6 w' → w'.cell? ⟨nf + 1, 0, none⟩ = some (.int .i64 4) := fun w' h => (h.cell (p := ⟨nf + 1, 0, none⟩) la).trans (Joins.cell_of_block ka 0)
  have a1 : ∀ w', Below W6.heap.size W6 w' → w'.cell? ⟨nf + 1, 1, none⟩ = some (.string ⟨#[97, 100, 117, 108, 116]⟩) := fun w' h => (h.cell (p := ⟨nf + 1, 1, none⟩) la).trans (Joins.cell_of_block ka 1)
  have a2 : ∀ w', Below W6.heap.size W6 w' → w'.cell? ⟨nf + 1, 2, none⟩ = some (.int .i64 0) := fun w' h => (h.cell (p := ⟨nf + 1, 2, none⟩) la).trans (Joins.cell_of_block ka 2)
  have a3 : ∀ w', Below W6.heap.size W6 w' → w'.cell? ⟨nf + 1, 3, none⟩ = some (.int .i64 0) := fun w' h => (h.cell (p := ⟨nf + 1, 3, none⟩) la).trans (Joins.cell_of_block ka 3)
  have a4 : ∀ w', Below W6.heap.size W6 w' → w'.cell? ⟨nf + 1, 4, none⟩ = some (.slice none 0 0) := fun w' h => (h.cell (p := ⟨nf + 1, 4, none⟩) la).trans (Joins.cell_of_block ka 4)
  have HT : Hid (∀ w', Calls Try.prog 30 #[.string ⟨#[97, 103, 101]⟩, .int .i64 3, .int .i64 18] w' fun e w'' => e = .returned (Fm.fv Fm.hY (.slice none 0 0)) ∧ Below w'.heap.size w' w'') := fun w' => test_walk Fm.hAge 3 18 w'
  have HX : Hid (∀ w', Calls Try.prog 22 #[.agg #[.int .i64 4, .string ⟨#[97, 100, 117, 108, 116]⟩, .int .i64 0, .int .i64 0, .slice none 0 0], .string ⟨#[97, 100, 117, 108, 116]⟩, Fm.fv Fm.hY (.slice none 0 0)] w' fun e w'' => (∃ a c, e = .returned (Fm.fv Fm.hY (.slice a 0 c)) ∧ Fm.At w'' Fm.hY (.slice a 0 c)) ∧ Below w'.heap.size w' w'') := fun w' => (expand_walk 1 Fm.hA Fm.hY (.slice none 0 0) (.slice none 0 0) Fm.hAd w' (by decide) (by decide) (by decide) (Fm.At.leaf (by decide) rfl) (Fm.At.leaf (by decide) rfl)).mono fun e w'' h => by
    rw [Fm.hd_x] at h
    obtain ⟨⟨u', h1, h2⟩, h3⟩ := h
    obtain ⟨a, c, e, _⟩ := (Fm.At.kidsAt h2).len
    subst e
    exact ⟨⟨a, c, h1, h2.at⟩, h3⟩
  clear kd kf ka
  go_cut [5] from 22 to 25 (fun y wx => ∃ (ny : Nat) (ya : Option Addr) (yc : Nat), y = .pointer (some ⟨ny, 0, none⟩) ∧ Hid (Below W6.heap.size W6 wx ∧ Fm.At wx Fm.hY (.slice ya 0 yc) ∧ Fm.Cells wx ny 0 Fm.hY (.slice ya 0 yc)))
  case first =>
    go_region_held3 (fun w' => Below W6.heap.size W6 w') (first | exact (Below.refl _ _).drew | exact Below.refl _ _ | with_reducible assumption | exact below_step (by with_reducible assumption) (by with_reducible assumption) | exact below_al (by with_reducible assumption) _ | ((repeat (refine below_set (by first | exact Nat.le_refl _ | exact s7.size) ?_ _)); first | with_reducible assumption | exact below_al (by with_reducible assumption) _))
      (first
        | (go_at_call 30; (with_reducible refine (HT.out _).mono ?_); rintro e w7 ⟨rfl, hb7⟩; have s7 := below_step (W := W6) hb7 (by first | exact (Below.refl _ _).drew | with_reducible assumption); try (have ky := (hb7.block W6.heap.size (by simp)).trans (heap_alloc_new W6 _)))
        | (go_at_call 22; (with_reducible refine (HX.out _).mono ?_); rintro e w8 ⟨⟨ya, yc, rfl, hat8⟩, hb8⟩; have s8 := below_step (W := W6) hb8 (by first | with_reducible assumption | exact below_al (by with_reducible assumption) _); first
            | (have ky8 := (hb8.block w7.heap.size (by simp)).trans (heap_alloc_new w7 _); have y0 := Joins.cell_of_block ky8 0; have y1 := Joins.cell_of_block ky8 1; have y2 := Joins.cell_of_block ky8 2; have y3 := Joins.cell_of_block ky8 3; have y4 := Joins.cell_of_block ky8 4; have yu := fun r => Joins.unfrozen_of_block ky8 r)
            | (have ky8 := (hb8.block _ (Array.getElem?_eq_some_iff.1 ky).1).trans ky; have y0 := Joins.cell_of_block ky8 0; have y1 := Joins.cell_of_block ky8 1; have y2 := Joins.cell_of_block ky8 2; have y3 := Joins.cell_of_block ky8 3; have y4 := Joins.cell_of_block ky8 4; have yu := fun r => Joins.unfrozen_of_block ky8 r)
            | skip))
    · go_wp2_with fail
      go_meet
      case rel => exact ⟨_, ya, yc, rfl, by assumption, leaf_any hat8 rfl, cells_alloc⟩
    · go_wp2_with fail
      go_meet
      case rel => exact ⟨_, ya, yc, rfl, by assumption, leaf_any hat8 rfl, Fm.set5_cells (f0 := .mk 0 [] 0 0 []) (u0 := .slice none 0 0) ⟨y0, y1, y2, y3, y4⟩⟩
    · go_wp2_with fail
      go_meet
      case rel => exact ⟨_, ya, yc, rfl, by assumption, leaf_any hat8 rfl, Fm.set5_cells (f0 := .mk 0 [] 0 0 []) (u0 := .slice none 0 0) ⟨y0, y1, y2, y3, y4⟩⟩
  case rest =>
    obtain ⟨ny, ya, yc, rfl, h7⟩ := hcut
    clear a0 a1 a2 a3 a4 HT HX
    -- all boxes, in every world behind
    obtain ⟨hb, hay, hcy⟩ := h7.out
    have ly := block_lt_of_cell hcy.1
    have HA : Hid (∀ w', Below wc.heap.size wc w' → w'.cell? ⟨nd, 0, none⟩ = some (.slice (some ⟨w.heap.size, 0, none⟩) 2 2) ∧
        (w'.cell? ⟨nf, 0, none⟩ = some (.int .i64 6) ∧ w'.cell? ⟨nf, 1, none⟩ = some (.string (Lx.str [])) ∧ w'.cell? ⟨nf, 2, none⟩ = some (.int .i64 0) ∧ w'.cell? ⟨nf, 3, none⟩ = some (.int .i64 0) ∧ w'.cell? ⟨nf, 4, none⟩ = some (.slice (some ⟨nk, 0, none⟩) 2 2)) ∧
        (w'.cell? ⟨nf + 1, 0, none⟩ = some (.int .i64 4) ∧ w'.cell? ⟨nf + 1, 1, none⟩ = some (.string ⟨#[97, 100, 117, 108, 116]⟩) ∧ w'.cell? ⟨nf + 1, 2, none⟩ = some (.int .i64 0) ∧ w'.cell? ⟨nf + 1, 3, none⟩ = some (.int .i64 0) ∧ w'.cell? ⟨nf + 1, 4, none⟩ = some (.slice none 0 0)) ∧
        (w'.cell? ⟨ny, 0, none⟩ = some (.int .i64 3) ∧ w'.cell? ⟨ny, 1, none⟩ = some (.string ⟨#[97, 103, 101]⟩) ∧ w'.cell? ⟨ny, 2, none⟩ = some (.int .i64 3) ∧ w'.cell? ⟨ny, 3, none⟩ = some (.int .i64 18) ∧ w'.cell? ⟨ny, 4, none⟩ = some (.slice ya 0 yc))) := fun w' h' => by
      have h := hb.trans (h'.mono hb.size)
      refine ⟨(h.cell (p := ⟨nd, 0, none⟩) ld).trans (Joins.cell_of_block HK.out.1 0), ⟨?_, ?_, ?_, ?_, ?_⟩, ⟨?_, ?_, ?_, ?_, ?_⟩, ⟨?_, ?_, ?_, ?_, ?_⟩⟩
      · exact (h.cell (p := ⟨nf, 0, none⟩) lf).trans (Joins.cell_of_block HK.out.2.1 0)
      · exact (h.cell (p := ⟨nf, 1, none⟩) lf).trans (Joins.cell_of_block HK.out.2.1 1)
      · exact (h.cell (p := ⟨nf, 2, none⟩) lf).trans (Joins.cell_of_block HK.out.2.1 2)
      · exact (h.cell (p := ⟨nf, 3, none⟩) lf).trans (Joins.cell_of_block HK.out.2.1 3)
      · exact (h.cell (p := ⟨nf, 4, none⟩) lf).trans (Joins.cell_of_block HK.out.2.1 4)
      · exact (h.cell (p := ⟨nf + 1, 0, none⟩) la).trans (Joins.cell_of_block HK.out.2.2 0)
      · exact (h.cell (p := ⟨nf + 1, 1, none⟩) la).trans (Joins.cell_of_block HK.out.2.2 1)
      · exact (h.cell (p := ⟨nf + 1, 2, none⟩) la).trans (Joins.cell_of_block HK.out.2.2 2)
      · exact (h.cell (p := ⟨nf + 1, 3, none⟩) la).trans (Joins.cell_of_block HK.out.2.2 3)
      · exact (h.cell (p := ⟨nf + 1, 4, none⟩) la).trans (Joins.cell_of_block HK.out.2.2 4)
      · exact (h'.cell (p := ⟨ny, 0, none⟩) ly).trans hcy.1
      · exact (h'.cell (p := ⟨ny, 1, none⟩) ly).trans hcy.2.1
      · exact (h'.cell (p := ⟨ny, 2, none⟩) ly).trans hcy.2.2.1
      · exact (h'.cell (p := ⟨ny, 3, none⟩) ly).trans hcy.2.2.2.1
      · exact (h'.cell (p := ⟨ny, 4, none⟩) ly).trans hcy.2.2.2.2
    have HD : Hid (∀ w', Below wc.heap.size wc w' → Fc.IsF w' (.slice (some ⟨w.heap.size, 0, none⟩) 2 2) Fm.hD ∧ Fc.IsN w' (.slice (some ⟨nd + 1, 0, none⟩) 2 2) [20, 0] ∧ Fm.At w' Fm.hF (.slice (some ⟨nk, 0, none⟩) 2 2) ∧ Fm.At w' Fm.hY (.slice ya 0 yc) ∧ Below w.heap.size w w') := fun w' h' => by
      have h := hb.trans (h'.mono hb.size)
      exact ⟨H6.out.2.1.below h, H6.out.2.2.1.below h, H6.out.1.below h, hay.below h', H6.out.2.2.2.trans (h.mono H6.out.2.2.2.size)⟩
    clear HK H6 h7 hb hay hcy ly lf la ld
    have HSz : Hid (∀ w', Below wc.heap.size wc w' → Calls Try.prog 13 #[.agg #[.int .i64 6, .string (Lx.str []), .int .i64 0, .int .i64 0, .slice (some ⟨nk, 0, none⟩) 2 2]] w' fun e w'' => e = .returned (.tuple #[.int .i64 4, .int .i64 3]) ∧ Below w'.heap.size w' w'') := fun w' h => size_walk Fm.hF _ w' (HD.out w' h).2.2.1 (by decide)
    have HH1 : Hid (∀ w', Below wc.heap.size wc w' → Calls Try.prog 25 #[.agg #[.int .i64 6, .string (Lx.str []), .int .i64 0, .int .i64 0, .slice (some ⟨nk, 0, none⟩) 2 2], .agg #[.slice (some ⟨w.heap.size, 0, none⟩) 2 2], .slice (some ⟨nd + 1, 0, none⟩) 2 2, .slice none 0 0] w' fun e w'' => e = .returned (.bool true) ∧ Below w'.heap.size w' w'') := fun w' h => by
      have := holds_walk Fm.hF _ _ _ (.slice none 0 0) Fm.hD [20, 0] [] w' (HD.out w' h).2.2.1 (by decide) (HD.out w' h).1 (HD.out w' h).2.1 (Fm.IsT.nil _)
      rw [Fm.hd_h1] at this
      exact this
    have HH2 : Hid (∀ X, Below wc.heap.size wc X → Calls Try.prog 25 #[.agg #[.int .i64 4, .string ⟨#[97, 100, 117, 108, 116]⟩, .int .i64 0, .int .i64 0, .slice none 0 0], .agg #[.slice (some ⟨w.heap.size, 0, none⟩) 2 2], .slice (some ⟨nd + 1, 0, none⟩) 2 2, .slice (some ⟨X.heap.size, 0, none⟩) 1 1] (X.alloc (.cells #[.string ⟨#[97, 100, 117, 108, 116]⟩] 9)) fun e w'' => e = .returned (.bool true) ∧ Below X.heap.size X w'') := fun X h => by
      have h2 := below_al h (.cells #[.string ⟨#[97, 100, 117, 108, 116]⟩] 9)
      have := holds_walk Fm.hA _ _ _ _ Fm.hD [20, 0] [Fm.hAd] _ (Fm.At.leaf (by decide) rfl) (by decide) (HD.out _ h2).1 (HD.out _ h2).2.1 (isT_one X Fm.hAd (by decide))
      rw [Fm.hd_h2] at this
      exact this.mono fun e w'' h => ⟨h.1, ((Below.refl X.heap.size X).alloc (Nat.le_refl _) _).trans (h.2.mono (by simp))⟩
    have HH3 : Hid (∀ w', Below wc.heap.size wc w' → Calls Try.prog 25 #[.agg #[.int .i64 4, .string ⟨#[97, 100, 117, 108, 116]⟩, .int .i64 0, .int .i64 0, .slice none 0 0], .agg #[.slice (some ⟨w.heap.size, 0, none⟩) 2 2], .slice (some ⟨nd + 1, 0, none⟩) 2 2, .slice none 0 0] w' fun e w'' => e = .returned (.bool false) ∧ Below w'.heap.size w' w'') := fun w' h => by
      have := holds_walk Fm.hA _ _ _ (.slice none 0 0) Fm.hD [20, 0] [] w' (Fm.At.leaf (by decide) rfl) (by decide) (HD.out w' h).1 (HD.out w' h).2.1 (Fm.IsT.nil _)
      rw [Fm.hd_h3] at this
      exact this
    have HH4 : Hid (∀ w', Below wc.heap.size wc w' → Calls Try.prog 25 #[.agg #[.int .i64 3, .string ⟨#[97, 103, 101]⟩, .int .i64 3, .int .i64 18, .slice ya 0 yc], .agg #[.slice (some ⟨w.heap.size, 0, none⟩) 2 2], .slice (some ⟨nd + 1, 0, none⟩) 2 2, .slice none 0 0] w' fun e w'' => e = .returned (.bool false) ∧ Below w'.heap.size w' w'') := fun w' h => by
      have := holds_walk Fm.hY _ _ _ (.slice none 0 0) Fm.hD [20, 0] [] w' (HD.out w' h).2.2.2.1 (by decide) (HD.out w' h).1 (HD.out w' h).2.1 (Fm.IsT.nil _)
      rw [Fm.hd_h4] at this
      exact this
    obtain ⟨d0, ⟨f0, f1, f2, f3, f4⟩, ⟨a0, a1, a2, a3, a4⟩, y0, y1, y2, y3, y4⟩ := HA.out wc (Below.refl _ _)
    go_wp2_with fail
    refine (HSz.out wc (Below.refl _ _)).mono ?_
    rintro e w6 ⟨rfl, hb6⟩
    clear d0 f0 f1 f2 f3 f4 a0 a1 a2 a3 a4 y0 y1 y2 y3 y4 HSz
    obtain ⟨d0, ⟨f0, f1, f2, f3, f4⟩, ⟨a0, a1, a2, a3, a4⟩, y0, y1, y2, y3, y4⟩ := HA.out w6 hb6
    go_wp2_with fail
    refine (HH1.out w6 hb6).mono ?_
    rintro e w7 ⟨rfl, hb7⟩
    have hb7 := below_step hb7 hb6
    clear d0 f0 f1 f2 f3 f4 a0 a1 a2 a3 a4 y0 y1 y2 y3 y4 HH1 hb6
    obtain ⟨d0, ⟨f0, f1, f2, f3, f4⟩, ⟨a0, a1, a2, a3, a4⟩, y0, y1, y2, y3, y4⟩ := HA.out w7 hb7
    go_wp2_with fail
    refine (HH2.out w7 hb7).mono ?_
    rintro e w8 ⟨rfl, hb8⟩
    have hb8 := below_step hb8 hb7
    clear d0 f0 f1 f2 f3 f4 a0 a1 a2 a3 a4 y0 y1 y2 y3 y4 HH2 hb7
    obtain ⟨d0, ⟨f0, f1, f2, f3, f4⟩, ⟨a0, a1, a2, a3, a4⟩, y0, y1, y2, y3, y4⟩ := HA.out w8 hb8
    go_wp2_with fail
    refine (HH3.out w8 hb8).mono ?_
    rintro e w9 ⟨rfl, hb9⟩
    have hb9 := below_step hb9 hb8
    clear d0 f0 f1 f2 f3 f4 a0 a1 a2 a3 a4 y0 y1 y2 y3 y4 HH3 hb8
    obtain ⟨d0, ⟨f0, f1, f2, f3, f4⟩, ⟨a0, a1, a2, a3, a4⟩, y0, y1, y2, y3, y4⟩ := HA.out w9 hb9
    go_wp2_with fail
    refine (HH4.out w9 hb9).mono ?_
    rintro e w10 ⟨rfl, hb10⟩
    have hb10 := below_step hb10 hb9
    clear d0 f0 f1 f2 f3 f4 a0 a1 a2 a3 a4 y0 y1 y2 y3 y4 HH4 hb9
    go_upto_region 8 with fail
    have HC1 : Hid (∀ w', Below w10.heap.size w10 w' → Calls Try.prog 15 #[.agg #[.int .i64 3, .string ⟨#[97, 103, 101]⟩, .int .i64 1, .int .i64 1000001, .slice none 0 0], .agg #[.slice (some ⟨w.heap.size, 0, none⟩) 2 2], .slice none 0 0] w' fun e w'' => e = .returned (.int .i64 10) ∧ Below w'.heap.size w' w'') := fun w' h => by
      have h := hb10.trans (h.mono hb10.size)
      have := check_walk (Fm.tst Fm.hAge 1 1000001) _ _ (.slice none 0 0) Fm.hD [] w' (Fm.At.leaf (by decide) rfl) (by decide) (HD.out w' h).1 (Fm.IsT.nil _)
      rw [Fm.hd_c1] at this
      exact this
    have HC2 : Hid (∀ w', Below w10.heap.size w10 w' → Calls Try.prog 15 #[.agg #[.int .i64 4, .string ⟨#[97, 100, 117, 108, 116]⟩, .int .i64 0, .int .i64 0, .slice none 0 0], .agg #[.slice (some ⟨w.heap.size, 0, none⟩) 2 2], .slice none 0 0] w' fun e w'' => e = .returned (.int .i64 7) ∧ Below w'.heap.size w' w'') := fun w' h => by
      have h := hb10.trans (h.mono hb10.size)
      have := check_walk Fm.hA _ _ (.slice none 0 0) Fm.hD [] w' (Fm.At.leaf (by decide) rfl) (by decide) (HD.out w' h).1 (Fm.IsT.nil _)
      rw [Fm.hd_c2] at this
      exact this
    have HC3 : Hid (∀ w', Below w10.heap.size w10 w' → Calls Try.prog 15 #[.agg #[.int .i64 6, .string (Lx.str []), .int .i64 0, .int .i64 0, .slice (some ⟨nk, 0, none⟩) 2 2], .agg #[.slice (some ⟨w.heap.size, 0, none⟩) 2 2], .slice none 0 0] w' fun e w'' => e = .returned (.int .i64 0) ∧ Below w'.heap.size w' w'') := fun w' h => by
      have h := hb10.trans (h.mono hb10.size)
      have := check_walk Fm.hF _ _ (.slice none 0 0) Fm.hD [] w' (HD.out w' h).2.2.1 (by decide) (HD.out w' h).1 (Fm.IsT.nil _)
      rw [Fm.hd_c3] at this
      exact this
    have HC4 : Hid (∀ w' g, Below w10.heap.size w10 w' → Fm.At w' (.mk 6 [] 0 0 [Fm.hF]) (.slice (some ⟨g, 0, none⟩) 1 1) → Calls Try.prog 15 #[.agg #[.int .i64 6, .string (Lx.str []), .int .i64 0, .int .i64 0, .slice (some ⟨g, 0, none⟩) 1 1], .agg #[.slice (some ⟨w.heap.size, 0, none⟩) 2 2], .slice none 0 0] w' fun e w'' => e = .returned (.int .i64 1) ∧ Below w'.heap.size w' w'') := fun w' g h hat => by
      have h := hb10.trans (h.mono hb10.size)
      have := check_walk (.mk 6 [] 0 0 [Fm.hF]) _ _ (.slice none 0 0) Fm.hD [] w' hat (by decide) (HD.out w' h).1 (Fm.IsT.nil _)
      rw [Fm.hd_c4] at this
      exact this
    have HT8 : Hid (∀ w', Calls Try.prog 30 #[.string ⟨#[97, 103, 101]⟩, .int .i64 1, .int .i64 1000001] w' fun e w'' => e = .returned (.agg #[.int .i64 3, .string ⟨#[97, 103, 101]⟩, .int .i64 1, .int .i64 1000001, .slice none 0 0]) ∧ Below w'.heap.size w' w'') := fun w' => test_walk Fm.hAge 1 1000001 w'
    have HBo : Hid (∀ X, Below w10.heap.size w10 X → Calls Try.prog 28 #[.int .i64 6, .slice (some ⟨X.heap.size, 0, none⟩) 1 1] (X.alloc (Obj.cells #[.int .i64 6, .string (Lx.str []), .int .i64 0, .int .i64 0, .slice (some ⟨nk, 0, none⟩) 2 2] 24)) fun e w'' => e = .returned (.agg #[.int .i64 6, .string (Lx.str []), .int .i64 0, .int .i64 0, .slice (some ⟨X.heap.size, 0, none⟩) 1 1]) ∧ Below w10.heap.size w10 w'' ∧ Fm.At w'' (.mk 6 [] 0 0 [Fm.hF]) (.slice (some ⟨X.heap.size, 0, none⟩) 1 1)) := fun X h => (both_walk 6 _ 1 1 _).mono fun e w'' h' => by
      have k := (h'.2.block X.heap.size (by simp)).trans (heap_alloc_new X (Obj.cells #[.int .i64 6, .string (Lx.str []), .int .i64 0, .int .i64 0, .slice (some ⟨nk, 0, none⟩) 2 2] 24))
      have hb := below_step h'.2 (below_al h (Obj.cells #[.int .i64 6, .string (Lx.str []), .int .i64 0, .int .i64 0, .slice (some ⟨nk, 0, none⟩) 2 2] 24))
      have hat := (HD.out w'' (hb10.trans (hb.mono hb10.size))).2.2.1
      exact ⟨h'.1, hb, Fm.at_iff.2 ⟨by decide, Fm.IsK.of_block (ks := [Fm.hF]) (us := [.slice (some ⟨nk, 0, none⟩) 2 2]) rfl k (by decide) fun j y u hj hu => by
        have : j = 0 := by have := (List.getElem?_eq_some_iff.1 hj).1; simp at this; exact this
        subst this
        simp at hj hu
        subst hj hu
        exact hat⟩⟩
    have d0 : ∀ w', Below w10.heap.size w10 w' → w'.cell? ⟨nd, 0, none⟩ = some (.slice (some ⟨w.heap.size, 0, none⟩) 2 2) := fun w' h => (HA.out w' (hb10.trans (h.mono hb10.size))).1
    have f0 : ∀ w', Below w10.heap.size w10 w' → w'.cell? ⟨nf, 0, none⟩ = some (.int .i64 6) := fun w' h => (HA.out w' (hb10.trans (h.mono hb10.size))).2.1.1
    have f1 : ∀ w', Below w10.heap.size w10 w' → w'.cell? ⟨nf, 1, none⟩ = some (.string (Lx.str [])) := fun w' h => (HA.out w' (hb10.trans (h.mono hb10.size))).2.1.2.1
    have f2 : ∀ w', Below w10.heap.size w10 w' → w'.cell? ⟨nf, 2, none⟩ = some (.int .i64 0) := fun w' h => (HA.out w' (hb10.trans (h.mono hb10.size))).2.1.2.2.1
    have f3 : ∀ w', Below w10.heap.size w10 w' → w'.cell? ⟨nf, 3, none⟩ = some (.int .i64 0) := fun w' h => (HA.out w' (hb10.trans (h.mono hb10.size))).2.1.2.2.2.1
    have f4 : ∀ w', Below w10.heap.size w10 w' → w'.cell? ⟨nf, 4, none⟩ = some (.slice (some ⟨nk, 0, none⟩) 2 2) := fun w' h => (HA.out w' (hb10.trans (h.mono hb10.size))).2.1.2.2.2.2
    have a0 : ∀ w', Below w10.heap.size w10 w' → w'.cell? ⟨nf + 1, 0, none⟩ = some (.int .i64 4) := fun w' h => (HA.out w' (hb10.trans (h.mono hb10.size))).2.2.1.1
    have a1 : ∀ w', Below w10.heap.size w10 w' → w'.cell? ⟨nf + 1, 1, none⟩ = some (.string ⟨#[97, 100, 117, 108, 116]⟩) := fun w' h => (HA.out w' (hb10.trans (h.mono hb10.size))).2.2.1.2.1
    have a2 : ∀ w', Below w10.heap.size w10 w' → w'.cell? ⟨nf + 1, 2, none⟩ = some (.int .i64 0) := fun w' h => (HA.out w' (hb10.trans (h.mono hb10.size))).2.2.1.2.2.1
    have a3 : ∀ w', Below w10.heap.size w10 w' → w'.cell? ⟨nf + 1, 3, none⟩ = some (.int .i64 0) := fun w' h => (HA.out w' (hb10.trans (h.mono hb10.size))).2.2.1.2.2.2.1
    have a4 : ∀ w', Below w10.heap.size w10 w' → w'.cell? ⟨nf + 1, 4, none⟩ = some (.slice none 0 0) := fun w' h => (HA.out w' (hb10.trans (h.mono hb10.size))).2.2.1.2.2.2.2
    go_cut [9] from 63 to 86 (fun y wx => y = .bool true ∧ Below w10.heap.size w10 wx)
    case first =>
      go_region_held3 (fun w' => Below w10.heap.size w10 w') (first | exact (Below.refl _ _).drew | exact Below.refl _ _ | with_reducible assumption | exact below_step (by with_reducible assumption) (by with_reducible assumption) | exact below_al (by with_reducible assumption) _)
        (first
          | (go_at_call 30; (with_reducible refine (HT8.out _).mono ?_); rintro e v1 ⟨rfl, hv1⟩; have s1 := below_step (W := w10) hv1 (by first | exact (Below.refl _ _).drew | with_reducible assumption))
          | (go_at_call 28; (with_reducible refine (HBo.out _ (by with_reducible assumption)).mono ?_); rintro e v5 ⟨rfl, hv5, hat5⟩)
          | (go_at_call 15; (with_reducible refine (HC1.out _ (by with_reducible assumption)).mono ?_); rintro e v2 ⟨rfl, hv2⟩; have s2 := below_step (W := w10) hv2 (by with_reducible assumption))
          | (go_at_call 15; (with_reducible refine (HC2.out _ (by with_reducible assumption)).mono ?_); rintro e v3 ⟨rfl, hv3⟩; have s3 := below_step (W := w10) hv3 (by with_reducible assumption))
          | (go_at_call 15; (with_reducible refine (HC3.out _ (by with_reducible assumption)).mono ?_); rintro e v4 ⟨rfl, hv4⟩; have s4 := below_step (W := w10) hv4 (by with_reducible assumption))
          | (go_at_call 15; (with_reducible refine (HC4.out _ _ (by with_reducible assumption) (by with_reducible assumption)).mono ?_); rintro e v6 ⟨rfl, hv6⟩; have s6 := below_step (W := w10) hv6 (by with_reducible assumption)))
      all_goals (go_wp2_with fail; go_meet)
      exact ⟨rfl, s6⟩
    case rest =>
      obtain ⟨rfl, hbc⟩ := hcut
      have hb11 := below_step hbc hb10
      clear d0 f0 f1 f2 f3 f4 a0 a1 a2 a3 a4 HC1 HC2 HC3 HC4 HT8 HBo hb10 hbc
      obtain ⟨d0, ⟨f0, f1, f2, f3, f4⟩, ⟨a0, a1, a2, a3, a4⟩, y0, y1, y2, y3, y4⟩ := HA.out _ hb11
      go_wp2_with fail
      have h11 := HD.out _ hb11
      refine (fits_walk _ _ Fm.hD [20, 0] _ h11.1 h11.2.1).mono ?_
      intro e w12 h12
      obtain ⟨rfl, hb12⟩ : e = .returned (.bool true) ∧ Below wc.heap.size wc w12 := says_true Fm.hd_fit h12
      have hb12 := below_step hb12 hb11
      clear d0 f0 f1 f2 f3 f4 a0 a1 a2 a3 a4 y0 y1 y2 y3 y4 h11 hb11 h12
      obtain ⟨d0, ⟨f0, f1, f2, f3, f4⟩, ⟨a0, a1, a2, a3, a4⟩, y0, y1, y2, y3, y4⟩ := HA.out w12 hb12
      go_wp2_with fail
      refine (both_walk 7 _ 3 3 _).mono ?_
      rintro e w13 ⟨rfl, hb13⟩
      have hat : Fm.At w13 (.mk 7 [] 0 0 [Fm.hA, Fm.hF, Fm.hA]) (.slice (some ⟨w12.heap.size, 0, none⟩) 3 3) := by
        have k := (hb13.block w12.heap.size (by simp)).trans (heap_alloc_new w12 (Obj.cells #[.int .i64 4, .string ⟨#[97, 100, 117, 108, 116]⟩, .int .i64 0, .int .i64 0, .slice none 0 0, .int .i64 6, .string (Lx.str []), .int .i64 0, .int .i64 0, .slice (some ⟨nk, 0, none⟩) 2 2, .int .i64 4, .string ⟨#[97, 100, 117, 108, 116]⟩, .int .i64 0, .int .i64 0, .slice none 0 0] 24))
        have hf := (HD.out w13 (below_step hb13 (below_al hb12 (Obj.cells #[.int .i64 4, .string ⟨#[97, 100, 117, 108, 116]⟩, .int .i64 0, .int .i64 0, .slice none 0 0, .int .i64 6, .string (Lx.str []), .int .i64 0, .int .i64 0, .slice (some ⟨nk, 0, none⟩) 2 2, .int .i64 4, .string ⟨#[97, 100, 117, 108, 116]⟩, .int .i64 0, .int .i64 0, .slice none 0 0] 24)))).2.2.1
        refine Fm.at_iff.2 ⟨by decide, Fm.IsK.of_block (ks := [Fm.hA, Fm.hF, Fm.hA]) (us := [.slice none 0 0, .slice (some ⟨nk, 0, none⟩) 2 2, .slice none 0 0]) rfl k (by decide) fun j y u hj hu => ?_⟩
        have : j = 0 ∨ j = 1 ∨ j = 2 := by have := (List.getElem?_eq_some_iff.1 hj).1; simp at this; omega
        rcases this with rfl | rfl | rfl
        · simp at hj hu
          subst hj hu
          exact Fm.At.leaf (by decide) rfl
        · simp at hj hu
          subst hj hu
          exact hf
        · simp at hj hu
          subst hj hu
          exact Fm.At.leaf (by decide) rfl
      have hb13 := below_step hb13 (below_al hb12 (Obj.cells #[.int .i64 4, .string ⟨#[97, 100, 117, 108, 116]⟩, .int .i64 0, .int .i64 0, .slice none 0 0, .int .i64 6, .string (Lx.str []), .int .i64 0, .int .i64 0, .slice (some ⟨nk, 0, none⟩) 2 2, .int .i64 4, .string ⟨#[97, 100, 117, 108, 116]⟩, .int .i64 0, .int .i64 0, .slice none 0 0] 24))
      have HTe := Lib.hid (terms_walk (.mk 7 [] 0 0 [Fm.hA, Fm.hF, Fm.hA]) _ w13 hat (by decide))
      clear d0 f0 f1 f2 f3 f4 a0 a1 a2 a3 a4 y0 y1 y2 y3 y4 hat hb12
      go_wp2_with fail
      refine HTe.out.mono ?_
      rintro e w14 ⟨⟨v14, rfl, ho⟩, hb14⟩
      rw [Fm.hd_t] at ho
      obtain ⟨va, vc, rfl⟩ := ho.form
      have ht14 := ho.isT (by decide)
      have hb14 := below_step hb14 hb13
      have HN14 := Lib.hid (r7names_walk _ _ [Fm.hAd] [Fm.hAd] _ (ht14.below ((Below.refl w14.heap.size w14).alloc (Nat.le_refl _) (.cells #[.string (Lx.str Fm.hAd)] 9))) (isT_one w14 Fm.hAd (by decide)))
      have hb14a := below_al hb14 (.cells #[.string (Lx.str Fm.hAd)] 9)
      clear HTe ho ht14 hb13 hb14
      go_wp2_with fail
      refine HN14.out.mono ?_
      rintro e w15 ⟨rfl, hb15⟩
      have hb15 := below_step hb15 hb14a
      clear HN14 hb14a
      obtain ⟨d0, ⟨f0, f1, f2, f3, f4⟩, ⟨a0, a1, a2, a3, a4⟩, y0, y1, y2, y3, y4⟩ := HA.out w15 hb15
      have HSm := Lib.hid (same_walk 4 Fm.hF Fm.hF (.slice (some ⟨nk, 0, none⟩) 2 2) (.slice (some ⟨nk, 0, none⟩) 2 2) w15 (by decide) (HD.out w15 hb15).2.2.1 (HD.out w15 hb15).2.2.1)
      go_wp2_with fail
      refine HSm.out.mono ?_
      rintro e w16 ⟨rfl, hb16⟩
      have hb16 := below_step hb16 hb15
      clear HSm hb15 d0 f0 f1 f2 f3 f4 a0 a1 a2 a3 a4 y0 y1 y2 y3 y4
      obtain ⟨d0, ⟨f0, f1, f2, f3, f4⟩, ⟨a0, a1, a2, a3, a4⟩, y0, y1, y2, y3, y4⟩ := HA.out w16 hb16
      have HSm := Lib.hid (same_walk 4 Fm.hF Fm.hA (.slice (some ⟨nk, 0, none⟩) 2 2) (.slice none 0 0) w16 (by decide) (HD.out w16 hb16).2.2.1 (Fm.At.leaf (by decide) rfl))
      rw [Fm.hd_s1]
      go_wp2_with fail
      refine HSm.out.mono ?_
      rintro e w17 ⟨rfl, hb17⟩
      rw [Fm.hd_s2]
      have hb17 := below_step hb17 hb16
      have HFin := Lib.hid (HD.out w17 hb17).2.2.2.2
      clear HSm hb16 d0 f0 f1 f2 f3 f4 a0 a1 a2 a3 a4 y0 y1 y2 y3 y4
      go_wp2_with fail
      go_ret
      exact ⟨rfl, HFin.out⟩
end Go.Proofs.Ytjcaingfeaaakaa
