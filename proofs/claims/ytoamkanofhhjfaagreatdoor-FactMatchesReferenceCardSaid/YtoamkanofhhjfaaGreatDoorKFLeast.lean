import Derived.Test.YtoamkanofhhjfaaGreatDoorKFValues
/-
  The walk of fact.Least.
-/
namespace Go.Proofs.YtoamkanofhhjfaaGreatDoor
open Go.RowKit

namespace Fc
theorem least_filled (d : List Fact) : ((d.map fun f => some f.lo).map fun o => o.getD 0) = least d := by
  unfold least; rw [List.map_map]; rfl
/-- What a call answers that has made a case. -/
def MadeN (c : List Int) (w : World) (en : Ending) (w' : World) : Prop := Below w.heap.size w w' ∧ ∃ g, en = .returned (.slice (some ⟨g, 0, none⟩) c.length c.length) ∧ OwnN g c.length c w' ∧ w.heap.size ≤ g
end Fc

set_option maxHeartbeats 4000000 in
set_option maxRecDepth 100000 in
theorem least_no (dv : Value) (d : List Fc.Fact) (w : World) (hF : Fc.IsF w dv d) (hvd : ¬ Fc.Valid d) :
    Calls Tryz.prog 24 #[.agg #[dv]] w fun en w' => en = .returned (.slice none 0 0) ∧ Below w.heap.size w w' := by
  obtain ⟨a, c, rfl, _, _⟩ := hF.form
  obtain ⟨n, hn⟩ : ∃ n, n = d.length := ⟨_, rfl⟩
  rw [← hn] at hF ⊢
  have HB := Lib.hid (boxD_below w (.slice a n c))
  have HV := Lib.hid (valid_walk _ d _ (hF.below HB.out))
  clear hF hn
  go_enter Tryz.func24, Tryz.ntmps24
  go_wp2_with fail
  refine HV.out.mono ?_
  rintro en w3 ⟨⟨b, rfl, hb⟩, hb3⟩
  obtain rfl : b = false := by cases b with | false => rfl | true => exact absurd (hb.1 rfl) hvd
  clear hb HV
  go_wp2_with fail
  go_ret
  exact ⟨rfl, HB.out.trans (hb3.mono HB.out.size)⟩

set_option maxHeartbeats 4000000 in
set_option maxRecDepth 100000 in
theorem least_walk (dv : Value) (d : List Fc.Fact) (w : World) (hF : Fc.IsF w dv d) (hvd : Fc.Valid d) :
    Calls Tryz.prog 24 #[.agg #[dv]] w (Fc.MadeN (Fc.least d) w) := by
  have HF : Hid (∀ w', Below w.heap.size w w' → Fc.IsF w' dv d) := fun w' hb => hF.below hb
  obtain ⟨a, c, rfl, hc1, hc2⟩ := hF.form
  have hnd60 := hvd.2.2
  obtain ⟨n, hn⟩ : ∃ n, n = d.length := ⟨_, rfl⟩
  rw [← hn] at HF hc1 hnd60 ⊢
  have HN := Lib.hid hn
  obtain ⟨v, hv⟩ : ∃ v : List (Option Int), v = d.map fun f => some f.lo := ⟨_, rfl⟩
  have hvl : v.length = n := by rw [hv, List.length_map, hn]
  have HVV := Lib.hid (And.intro hv hvl)
  obtain ⟨W1, hW1⟩ : ∃ W1, W1 = boxD w (.slice a n c) := ⟨_, rfl⟩
  have hbx := Boxed.start w (.slice a n c)
  rw [← hW1] at hbx
  have HV := Lib.hid (valid_walk _ d _ (HF.out W1 hbx.below))
  have HX1 := Lib.hid hbx
  have hW1' : W1 = w.alloc (.cells #[.slice a n c] 24) := hW1
  clear hF hn hv hvl hbx hW1
  go_enter Tryz.func24, Tryz.ntmps24
  go_upto_region 1 with fail
  rw [← hW1']
  clear hW1'
  have q0 := HX1.out.cell
  go_wp2_with fail
  refine HV.out.mono ?_
  rintro en w3 ⟨⟨b, rfl, hb⟩, hb3⟩
  obtain rfl : b = true := hb.2 hvd
  have hbx3 := HX1.out.next hb3
  have HX3 := Lib.hid hbx3
  have q3 := hbx3.cell
  clear hb HV hb3 hbx3 q0 hvd HX1
  obtain ⟨i0, hii, hz0, hz1, hz2⟩ := info_parts one_int
  have HI := Lib.hid hii
  clear hii
  go_upto_region 4 with (at_make; refine wpList_make_full _ rfl _ _ 26 rfl w3.heap.size 3 i0 (.int .i64 0) 1 Tryz.underlying26 HI.out hz0 hz1 .i64 .i64 (n : Int) (n : Int) n rfl rfl rfl rfl (by rw [hz2]; omega) (by unfold maxLen; omega) (Nat.le_refl _) ?_; intro w4 hown hgrow)
  have hb4 : Below w3.heap.size w3 w4 := (Below.refl _ _).grown hgrow (Nat.le_refl _) (fun _ h => by cases h)
  have hO : Fc.OwnN w3.heap.size n (Fc.filled v 0) w4 := by
    refine ⟨by rw [Fc.filled_zero, List.length_replicate]; exact HVV.out.2, ?_⟩
    rw [Fc.filled_zero, HVV.out.2, ← Fc.cells_made]
    exact hown
  have HX4 := Lib.hid (HX3.out.next hb4)
  have HO := Lib.hid hO
  have hgl := HX3.out.lt
  obtain ⟨g, hg⟩ : ∃ g, g = w3.heap.size := ⟨_, rfl⟩
  rw [← hg] at HO hgl ⊢
  have q4 := HX4.out.cell
  clear hg hown hgrow hb4 hO hz0 hz1 hz2 HI q3
  go_wp2_with fail
  go_loopw [16] (fun i wr => ∃ k : Nat, k ≤ n ∧ i = .int .i64 k ∧ Hid (Boxed w (.slice a n c) wr) ∧ Hid (Fc.OwnN g n (Fc.filled v k) wr)) (fun i _ => n - (intOf i).toNat)
  case atStart => exact ⟨0, Nat.zero_le _, rfl, HX4, HO⟩
  case round =>
    clear HX4 HO q4
    obtain ⟨k, hk, rfl, hbx, hox⟩ := hrel
    by_cases hlt : k < n
    · have hki : (k : Int) < (n : Int) := by omega
      have hk0 : (0 : Int) ≤ (k : Int) := by omega
      obtain ⟨f, hf⟩ : ∃ f, d[k]? = some f := ⟨_, List.getElem?_eq_getElem (by rw [← HN.out]; exact hlt)⟩
      obtain ⟨_, _, g7, o7, hsl, _, _, hga7, hcl7⟩ := (HF.out wr hbx.out.below).any
      obtain ⟨rfl, hg7⟩ := hga7 (by rintro rfl; simp at hf)
      injection hsl with hsl1 hsl2 hsl3
      subst hsl1
      obtain ⟨p0, p1, p2, p3⟩ := hcl7 k f hf
      obtain ⟨sn, hsn⟩ : ∃ sn, sn = Lx.str f.name := ⟨_, rfl⟩
      rw [← hsn] at p0
      have hvk : v.getD k none = some f.lo := by
        rw [HVV.out.1, List.getD_eq_getElem?_getD, List.getElem?_map, hf]; rfl
      have hbA : Below wr.heap.size wr (wr.alloc (.cells #[.string sn, .int .i64 f.kind, .int .i64 f.lo, .int .i64 f.hi] 64)) := (Below.refl _ _).alloc (Nat.le_refl _) _
      have hk8 : (wr.alloc (.cells #[.string sn, .int .i64 f.kind, .int .i64 f.lo, .int .i64 f.hi] 64)).heap[wr.heap.size]? = some (.cells #[.string sn, .int .i64 f.kind, .int .i64 f.lo, .int .i64 f.hi] 64 (0, 0)) := heap_alloc_new _ _
      have hox3 := hox.out.block (hbA.block _ hox.out.lt)
      have hbx3 := hbx.out.next hbA
      obtain ⟨W3, hW3⟩ : ∃ W3, W3 = wr.alloc (.cells #[.string sn, .int .i64 f.kind, .int .i64 f.lo, .int .i64 f.hi] 64) := ⟨_, rfl⟩
      rw [← hW3] at hk8 hox3 hbx3
      have hkv : k < v.length := by rw [HVV.out.2]; exact hlt
      have hcC := hox3.cell (Fc.filled_at v k hkv)
      have hfC := hox3.frozen k
      have hO4 := hox3.store k f.lo
      rw [Fc.filled_set v k hkv f.lo hvk] at hO4
      have hbC : Below g W3 (W3.setCell ⟨g, k, none⟩ (.int .i64 f.lo)) := (Below.refl _ _).setCell (p := ⟨g, k, none⟩) (Nat.le_refl _) _
      have hbx4 : Boxed w (.slice (some ⟨g7, o7, none⟩) n c) (W3.setCell ⟨g, k, none⟩ (.int .i64 f.lo)) :=
        ⟨hbx3.below.trans (hbC.mono (Nat.le_of_lt hgl)), (hbC.cell (p := ⟨w.heap.size, 0, none⟩) hgl).trans hbx3.cell, Nat.lt_of_lt_of_le hbx3.lt hbC.size⟩
      have HO4 := Lib.hid hO4
      have HX4 := Lib.hid hbx4
      have e2 := Joins.cell_of_block hk8 2
      clear hbA hbx3 hox3 hO4 hbC hbx4 hvk hf hsn hcl7 hga7 hsl2 hsl3 hk8 hkv
      go_upto_region 7 with fail
      rw [← hW3]
      clear hW3 p0 p1 p2 p3
      go_wp2_with fail
      go_roundw
      case rel => exact ⟨k + 1, by omega, by go_num, HX4, HO4⟩
      case measure => simp [intOf]; omega
    · obtain rfl : k = n := by omega
      have hki : ¬ (k : Int) < (k : Int) := by omega
      have hof := hox.out
      rw [← HVV.out.2, Fc.filled_all, HVV.out.1, Fc.least_filled] at hof
      have hll : (Fc.least d).length = k := by unfold Fc.least; rw [List.length_map]; exact HN.out.symm
      have HOF := Lib.hid hof
      have HLL := Lib.hid hll
      clear hof hll
      go_wp2_with fail
      go_ret
      refine ⟨hbx.out.below, g, by rw [HLL.out]; rfl, ?_, Nat.le_of_lt hgl⟩
      rw [HLL.out]
      have := HOF.out
      rwa [List.length_map, ← HN.out] at this
end Go.Proofs.YtoamkanofhhjfaaGreatDoor
