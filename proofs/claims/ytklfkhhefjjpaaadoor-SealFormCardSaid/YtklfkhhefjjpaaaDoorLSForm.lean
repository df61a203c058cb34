/-
  SealForm: for every key, message and seal the call returns true and its arguments stay, where the three tables of the library hold what the program's text lays.
-/
import Derived.Test.YtklfkhhefjjpaaaDoorLFrameS
import Derived.Test.YtklfkhhefjjpaaaDoorSHead
import Derived.Test.YtklfkhhefjjpaaaDoorSFew
import Derived.Deep.RegionHeld3
import Derived.Deep.QuietTactic
import Derived.BigQuiet
namespace Go.Proofs.YtklfkhhefjjpaaaDoor.sealForm
open Go.ChangeShapes Go.WideShapes Go.ChangeAt Go.RowKit
open Go.WideMaps Go.WideElems
open Go.ChangeMaps (open_string shut_string)

set_option maxHeartbeats 4000000 in
set_option maxRecDepth 100000 in
theorem w_short (pb m : ByteArray) (v : Value) (i : Int) (ls lp : List ByteArray) (w : World) (hv : IsSeal w v i ls lp) (ht : HasTab w) (hs : Sl.short [pb, m] = false) :
    Calls Tryd.prog 9 #[.string pb, .string m, v] w fun e w' => e = .returned (.bool true) ∧ Below w.heap.size w w' := by
  obtain ⟨vs, vp, rfl, ⟨a1, c1, rfl, _, _, _⟩, ⟨a2, c2, rfl, _, _, _⟩⟩ := hv
  have hb1 := (Below.refl w.heap.size w).alloc (Nat.le_refl _) (.cells #[.int .i64 i, .slice a1 ls.length c1, .slice a2 lp.length c2] 24)
  have HT := Lib.hid (ht.below hb1)
  have HB := Lib.hid hb1
  have HS := Lib.hid hs
  clear hb1 ht hs
  go_enter Tryd.func9, Tryd.ntmps9
  go_wp2_with fail
  refine (head_walk _ HT.out).mono ?_
  rintro e w1 ⟨rfl, hb⟩
  replace HB := Lib.hid (HB.out.trans (hb.mono HB.out.size))
  clear hb
  go_wp2_with fail
  refine (short_false _ [pb, m] _ (tx_two _ _ _) HS.out).mono ?_
  rintro e w2 ⟨rfl, rfl⟩
  go_wp2_with fail
  go_ret
  exact ⟨rfl, HB.out.alloc HB.out.size _⟩

set_option maxHeartbeats 4000000 in
set_option maxRecDepth 100000 in
theorem w_few (pb m : ByteArray) (v : Value) (i : Int) (ls lp : List ByteArray) (w : World) (hv : IsSeal w v i ls lp) (ht : HasTab w) (hs : Sl.short [pb, m] = true) (hf : Sl.few ls lp = false) :
    Calls Tryd.prog 9 #[.string pb, .string m, v] w fun e w' => e = .returned (.bool true) ∧ Below w.heap.size w w' := by
  obtain ⟨vs, vp, rfl, hx, hy⟩ := hv
  have hv : IsSeal w (.agg #[.int .i64 i, vs, vp]) i ls lp := ⟨vs, vp, rfl, hx, hy⟩
  obtain ⟨a1, c1, rfl, _, _, _⟩ := hx
  obtain ⟨a2, c2, rfl, _, _, _⟩ := hy
  have hb1 := (Below.refl w.heap.size w).alloc (Nat.le_refl _) (.cells #[.int .i64 i, .slice a1 ls.length c1, .slice a2 lp.length c2] 24)
  have hk : (w.alloc (.cells #[.int .i64 i, .slice a1 ls.length c1, .slice a2 lp.length c2] 24)).heap[w.heap.size]? = some (.cells #[.int .i64 i, .slice a1 ls.length c1, .slice a2 lp.length c2] 24 (0, 0)) := heap_alloc_new _ _
  have HT := Lib.hid (ht.below hb1)
  have HV := Lib.hid (hv.below hb1)
  have HB := Lib.hid hb1
  have HS := Lib.hid hs
  have HF := Lib.hid hf
  have HK := Lib.hid hk
  clear hb1 ht hs hv hf hk
  go_enter Tryd.func9, Tryd.ntmps9
  go_wp2_with fail
  refine (head_walk _ HT.out).mono ?_
  rintro e w1 ⟨rfl, hb⟩
  have hk := (hb.block _ (lt_of_block HK.out)).trans HK.out
  have hlt := lt_of_block hk
  replace HB := Lib.hid (HB.out.trans (hb.mono HB.out.size))
  replace HV := Lib.hid (HV.out.below hb)
  have d0 := Joins.cell_of_block hk 0
  have d1 := Joins.cell_of_block hk 1
  have d2 := Joins.cell_of_block hk 2
  clear hb hk
  go_wp2_with fail
  refine (short_true _ [pb, m] _ (tx_two _ _ _) HS.out).mono ?_
  rintro e w2 ⟨rfl, rfl⟩
  go_wp2_with fail
  refine (few03_false _ i ls lp _ (HV.out.below ((Below.refl _ _).alloc (Nat.le_refl _) _)) HF.out).mono ?_
  rintro e w2 ⟨rfl, hb⟩
  replace HB := Lib.hid ((HB.out.alloc HB.out.size _).trans (hb.mono (HB.out.alloc HB.out.size _).size))
  clear hb
  go_wp2_with fail
  go_ret
  exact ⟨rfl, HB.out⟩

set_option maxHeartbeats 4000000 in
set_option maxRecDepth 100000 in
theorem w_no (pb m : ByteArray) (v : Value) (i : Int) (ls lp : List ByteArray) (w : World) (hv : IsSeal w v i ls lp) (ht : HasTab w) (hs : Sl.short [pb, m] = true) (hf : Sl.few ls lp = true) (hn : Sl.verify pb.data.toList m.data.toList i (Tr.bs ls) (Tr.bs lp) = false) :
    Calls Tryd.prog 9 #[.string pb, .string m, v] w fun e w' => e = .returned (.bool true) ∧ Below w.heap.size w w' := by
  obtain ⟨vs, vp, rfl, hx, hy⟩ := hv
  have hv : IsSeal w (.agg #[.int .i64 i, vs, vp]) i ls lp := ⟨vs, vp, rfl, hx, hy⟩
  obtain ⟨a1, c1, rfl, _, _, _⟩ := hx
  obtain ⟨a2, c2, rfl, _, _, _⟩ := hy
  have hb1 := (Below.refl w.heap.size w).alloc (Nat.le_refl _) (.cells #[.int .i64 i, .slice a1 ls.length c1, .slice a2 lp.length c2] 24)
  have hk : (w.alloc (.cells #[.int .i64 i, .slice a1 ls.length c1, .slice a2 lp.length c2] 24)).heap[w.heap.size]? = some (.cells #[.int .i64 i, .slice a1 ls.length c1, .slice a2 lp.length c2] 24 (0, 0)) := heap_alloc_new _ _
  have HT := Lib.hid (ht.below hb1)
  have HV := Lib.hid (hv.below hb1)
  have HB := Lib.hid hb1
  have HS := Lib.hid hs
  have HF := Lib.hid hf
  have HK := Lib.hid hk
  have HN := Lib.hid hn
  clear hb1 ht hs hv hf hk hn
  go_enter Tryd.func9, Tryd.ntmps9
  go_wp2_with fail
  refine (head_walk _ HT.out).mono ?_
  rintro e w1 ⟨rfl, hb⟩
  have hk := (hb.block _ (lt_of_block HK.out)).trans HK.out
  have hlt := lt_of_block hk
  replace HB := Lib.hid (HB.out.trans (hb.mono HB.out.size))
  replace HV := Lib.hid (HV.out.below hb)
  replace HT := Lib.hid (HT.out.below hb)
  have d0 := Joins.cell_of_block hk 0
  have d1 := Joins.cell_of_block hk 1
  have d2 := Joins.cell_of_block hk 2
  have HK1 := Lib.hid hk
  clear hb hk
  go_wp2_with fail
  refine (short_true _ [pb, m] _ (tx_two _ _ _) HS.out).mono ?_
  rintro e w2 ⟨rfl, rfl⟩
  go_wp2_with fail
  have hba := (Below.refl w1.heap.size w1).alloc (Nat.le_refl _) (.cells #[.string pb, .string m] 9)
  refine (few03_true _ i ls lp _ (HV.out.below hba) HF.out).mono ?_
  rintro e w3 ⟨rfl, hb⟩
  have hb3 := hba.trans (hb.mono hba.size)
  have hk := (hb3.block _ hlt).trans HK1.out
  have e0 := Joins.cell_of_block hk 0
  have e1 := Joins.cell_of_block hk 1
  have e2 := Joins.cell_of_block hk 2
  have HB3 := Lib.hid hb3
  clear hb3 hb hba hk
  go_wp2_with fail
  have := verify_walk pb m (Sl.short_out HS.out m (by simp)) _ i ls lp w3 (HV.out.below HB3.out) (fun s h => by have := (Sl.few_out HF.out).1 s h; omega) (fun s h => by have := (Sl.few_out HF.out).2.1 s h; omega) (HT.out.below HB3.out)
  rw [HN.out] at this
  refine this.mono ?_
  rintro e w4 ⟨rfl, hb⟩
  replace HB := Lib.hid (HB.out.trans ((HB3.out.trans (hb.mono HB3.out.size)).mono HB.out.size))
  clear hb this
  go_wp2_with fail
  go_ret
  exact ⟨rfl, HB.out⟩

theorem far_wrap (i : Int) (n : Nat) (h0 : 0 ≤ i) (h : i < (n : Int)) (hn : n ≤ 256) : IntKind.i64.wrap (i + (n : Int)) = i + (n : Int) ∧ IntKind.i64.wrap (i - (n : Int)) = i - (n : Int) := by
  refine ⟨Tr.wrap_in _ (by omega) (by omega), ?_⟩
  rw [IntKind.wrap_i64]; omega

set_option maxHeartbeats 2000000 in
set_option maxRecDepth 100000 in
theorem w_main (pb m : ByteArray) (v : Value) (i : Int) (ls lp : List ByteArray) (w : World) (hv : IsSeal w v i ls lp) (ht : HasTab w) (hs : Sl.short [pb, m] = true) (hf : Sl.few ls lp = true) (hn : Sl.verify pb.data.toList m.data.toList i (Tr.bs ls) (Tr.bs lp) = true) :
    Calls Tryd.prog 9 #[.string pb, .string m, v] w fun e w' => e = .returned (.bool true) ∧ Below w.heap.size w w' := by
  obtain ⟨h18, h8, hi0, hin, hdp, hds, hdq⟩ := Sl.verify_form _ _ _ _ _ hn
  rw [Tr.bs_len] at h18 h8 hin
  obtain ⟨vs, vp, rfl, hx, hy⟩ := hv
  have hv : IsSeal w (.agg #[.int .i64 i, vs, vp]) i ls lp := ⟨vs, vp, rfl, hx, hy⟩
  obtain ⟨a1, c1, rfl, _, _, _⟩ := hx
  obtain ⟨a2, c2, rfl, _, _, _⟩ := hy
  rw [h18] at hv ⊢
  have hb1 := (Below.refl w.heap.size w).alloc (Nat.le_refl _) (.cells #[.int .i64 i, .slice a1 18 c1, .slice a2 lp.length c2] 24)
  have hk : (w.alloc (.cells #[.int .i64 i, .slice a1 18 c1, .slice a2 lp.length c2] 24)).heap[w.heap.size]? = some (.cells #[.int .i64 i, .slice a1 18 c1, .slice a2 lp.length c2] 24 (0, 0)) := heap_alloc_new _ _
  have HT := Lib.hid (ht.below hb1)
  have HV := Lib.hid (hv.below hb1)
  have HB := Lib.hid hb1
  have HS := Lib.hid hs
  have HF := Lib.hid hf
  have HK := Lib.hid hk
  have HN := Lib.hid hn
  obtain ⟨n, hnn⟩ : ∃ n, n = 2 ^ lp.length := ⟨_, rfl⟩
  have hn8 : n ≤ 256 := by rw [hnn]; exact Nat.le_trans (Nat.pow_le_pow_right (by decide) h8) (by decide)
  rw [← hnn] at hin
  have hn0 : 0 < n := by rw [hnn]; exact Nat.two_pow_pos _
  have HNN := Lib.hid hnn
  have HSH : Hid (wrap64 ((2 : Int) ^ lp.length) = (n : Int)) := by
    show _ = _
    have e : ((2 : Int) ^ lp.length) = ((n : Nat) : Int) := by rw [hnn]; simp
    rw [e]
    unfold wrap64; omega
  have HSH2 : Hid (IntKind.i64.wrap ((2 : Int) ^ lp.length) = (n : Int)) := by
    show _ = _
    rw [IntKind.wrap_i64]
    have := HSH.out
    unfold wrap64 at this
    exact this
  have HWR := Lib.hid (far_wrap i n hi0 hin hn8)
  have HDP := Lib.hid hdp
  have HDS : Hid (∀ k, k < 18 → Dg.isDigest (ls.getD k ByteArray.empty).data.toList = true) := fun k hk => by
    rw [Dg.getD_eq ls k (by omega)]
    exact List.all_eq_true.1 hds _ (List.mem_map.2 ⟨_, List.getElem_mem _, rfl⟩)
  have HDQ : Hid (∀ k, k < lp.length → Dg.isDigest (lp.getD k ByteArray.empty).data.toList = true) := fun k hk => by
    rw [Dg.getD_eq lp k hk]
    exact List.all_eq_true.1 hdq _ (List.mem_map.2 ⟨_, List.getElem_mem _, rfl⟩)
  have H18 := Lib.hid h18
  have h8' : (lp.length : Int) ≤ 8 := by omega
  clear hb1 ht hs hv hf hk hn hds hdq hdp hnn h18 h8
  go_enter Tryd.func9, Tryd.ntmps9
  go_wp2_with fail
  refine (head_walk _ HT.out).mono ?_
  rintro e w1 ⟨rfl, hb⟩
  have hk := (hb.block _ (lt_of_block HK.out)).trans HK.out
  have hlt := lt_of_block hk
  replace HB := Lib.hid (HB.out.trans (hb.mono HB.out.size))
  replace HV := Lib.hid (HV.out.below hb)
  replace HT := Lib.hid (HT.out.below hb)
  have d0 := Joins.cell_of_block hk 0
  have d1 := Joins.cell_of_block hk 1
  have d2 := Joins.cell_of_block hk 2
  have HK1 := Lib.hid hk
  clear hb hk
  go_wp2_with fail
  refine (short_true _ [pb, m] _ (tx_two _ _ _) HS.out).mono ?_
  rintro e w2 ⟨rfl, rfl⟩
  go_wp2_with fail
  have hba := (Below.refl w1.heap.size w1).alloc (Nat.le_refl _) (.cells #[.string pb, .string m] 9)
  refine (few03_true _ i ls lp _ (HV.out.below hba) HF.out).mono ?_
  rintro e w3 ⟨rfl, hb⟩
  have hb3 := hba.trans (hb.mono hba.size)
  have hk := (hb3.block _ hlt).trans HK1.out
  have e0 := Joins.cell_of_block hk 0
  have e1 := Joins.cell_of_block hk 1
  have e2 := Joins.cell_of_block hk 2
  have HB3 := Lib.hid hb3
  clear hb3 hb hba
  go_wp2_with fail
  have := verify_walk pb m (Sl.short_out HS.out m (by simp)) _ i ls lp w3 (HV.out.below HB3.out) (fun s h => by have := (Sl.few_out HF.out).1 s h; omega) (fun s h => by have := (Sl.few_out HF.out).2.1 s h; omega) (HT.out.below HB3.out)
  rw [HN.out] at this
  refine this.mono ?_
  rintro e w4 ⟨rfl, hb⟩
  replace HB := Lib.hid (HB.out.trans ((HB3.out.trans (hb.mono HB3.out.size)).mono HB.out.size))
  have hk4 := (hb.block _ (lt_of_block hk)).trans hk
  have HV4 := Lib.hid (HV.out.below (HB3.out.trans (hb.mono HB3.out.size)))
  replace HT := Lib.hid (HT.out.below (HB3.out.trans (hb.mono HB3.out.size)))
  have f0 : ∀ w', Tr.Old w4 w' → w'.cell? ⟨w.heap.size, 0, none⟩ = some (.int .i64 i) := fun w' h => (Below.cell h.out (p := ⟨w.heap.size, 0, none⟩) (lt_of_block hk4)).trans (Joins.cell_of_block hk4 0)
  have f1 : ∀ w', Tr.Old w4 w' → w'.cell? ⟨w.heap.size, 1, none⟩ = some (.slice a1 18 c1) := fun w' h => (Below.cell h.out (p := ⟨w.heap.size, 1, none⟩) (lt_of_block hk4)).trans (Joins.cell_of_block hk4 1)
  have f2 : ∀ w', Tr.Old w4 w' → w'.cell? ⟨w.heap.size, 2, none⟩ = some (.slice a2 lp.length c2) := fun w' h => (Below.cell h.out (p := ⟨w.heap.size, 2, none⟩) (lt_of_block hk4)).trans (Joins.cell_of_block hk4 2)
  have hO := Tr.Old.refl w4
  have HK4 := Lib.hid hk4
  have hpz := Sl.dig_size HDP.out
  clear hb this hk hk4 HK HK1
  have hi0' : ¬ i < 0 := by omega
  have hin' : ¬ (n : Int) ≤ i := by omega
  go_wp2_with fail
  have hsh := HSH.out
  have hsh2 := HSH2.out
  have hq1 : decide ((8 : Int) < (lp.length : Int)) = false := decide_eq_false (by omega)
  have hq2 : decide (i < 0) = false := decide_eq_false (by omega)
  have hq3 : decide ((n : Int) ≤ i) = false := decide_eq_false (by omega)
  have hq4 : decide (8 < lp.length) = false := decide_eq_false (by omega)
  go_region_held3 (fun w' => Tr.Old w4 w') (first | exact Tr.Old.drew w4 | exact Tr.Old.step (by with_reducible assumption) (by with_reducible assumption))
    (first
      | (go_at_call 20; refine (is_true pb (by omega) HDP.out _).mono ?_; rintro e w5 ⟨rfl, rfl⟩))
  have hO5 := Tr.Old.drew w4
  obtain ⟨w5, hw5⟩ : ∃ w5, w5 = w4.drew := ⟨_, rfl⟩
  rw [← hw5] at hO5 ⊢
  clear hw5 hsh hsh2
  obtain ⟨vs, vp, e, hx, hy⟩ := HV4.out
  cases e
  obtain ⟨k1, k2, b1, o1, rfl, hlt1, hcc1⟩ := hx.laid H18.out (by decide)
  have HX := Lib.hid hx
  have HY := Lib.hid hy
  have HC1 : Hid (∀ j, j < 18 → w5.cell? ⟨b1, o1 + j, none⟩ = some (.string (ls.getD j ByteArray.empty))) := fun j hj => (Below.cell hO5.out (p := ⟨b1, o1 + j, none⟩) hlt1).trans (hcc1 j (by have := H18.out; omega))
  have HC2 : Hid (∀ k, k < lp.length → ∃ b off, a2 = some ⟨b, off, none⟩ ∧ w5.cell? ⟨b, off + k, none⟩ = some (.string (lp.getD k ByteArray.empty))) := fun k hk => by
    obtain ⟨a, cap, e, _, _, hc⟩ := hy
    cases e
    obtain ⟨b, off, e, hlt, hc⟩ := hc (by intro e; rw [e] at hk; simp at hk)
    exact ⟨b, off, e, (Below.cell hO5.out (p := ⟨b, off + k, none⟩) hlt).trans (hc k hk)⟩
  have HZ : Hid ((∀ s ∈ ls, s.size ≤ 300) ∧ ∀ s ∈ lp, s.size ≤ 300) := ⟨fun s h => by have := (Sl.few_out HF.out).1 s h; omega, fun s h => by have := (Sl.few_out HF.out).2.1 s h; omega⟩
  have g0 := f0 _ hO5
  have g1 := f1 _ hO5
  have g2 := f2 _ hO5
  have F0 := Lib.hid f0
  have F1 := Lib.hid f1
  have F2 := Lib.hid f2
  clear hx hy hcc1 f0 f1 f2 hO
  go_wp2_with fail
  try simp only [HSH.out, HSH2.out]
  go_loop [8] (fun i => ∃ k : Nat, k ≤ 18 ∧ i = .int .i64 k) (fun i => 18 - (intOf i).toNat)
  case atStart => exact ⟨0, Nat.zero_le _, rfl⟩
  case round =>
    obtain ⟨k, hk, rfl⟩ := hrel
    by_cases hlt : k < 18
    · obtain ⟨t, htk⟩ : ∃ t, t = ls.getD k ByteArray.empty := ⟨_, rfl⟩
      have hcell := HC1.out k hlt
      have hdt := HDS.out k hlt
      rw [← htk] at hcell hdt
      have htz := Sl.dig_size hdt
      have HDT := Lib.hid hdt
      clear htk hdt
      go_wp2_with fail
      refine (is_true t (by omega) HDT.out _).mono ?_
      rintro e w6 ⟨rfl, rfl⟩
      go_wp2_with fail
      go_round
      case rel => exact ⟨k + 1, by omega, by go_num⟩
      case measure => simp [intOf]; omega
    · have hk18 : k = 18 := by omega
      subst hk18
      clear hlt hk
      go_wp2_with fail
      go_loop [9] (fun i => ∃ k : Nat, k ≤ lp.length ∧ i = .int .i64 k) (fun i => lp.length - (intOf i).toNat)
      case atStart => exact ⟨0, Nat.zero_le _, rfl⟩
      case round =>
        obtain ⟨k, hk, rfl⟩ := hrel
        by_cases hlt : k < lp.length
        · obtain ⟨t, htk⟩ : ∃ t, t = lp.getD k ByteArray.empty := ⟨_, rfl⟩
          obtain ⟨b2, o2, rfl, hcell⟩ := HC2.out k hlt
          have hdt := HDQ.out k hlt
          rw [← htk] at hcell hdt
          have htz := Sl.dig_size hdt
          have HDT := Lib.hid hdt
          clear htk hdt
          go_wp2_with fail
          refine (is_true t (by omega) HDT.out _).mono ?_
          rintro e w6 ⟨rfl, rfl⟩
          go_wp2_with fail
          go_round
          case rel => exact ⟨k + 1, by omega, by go_num⟩
          case measure => simp [intOf]; omega
        · have hke : k = lp.length := by omega
          subst hke
          clear hlt hk
          have hw5 : w.heap.size < w5.heap.size := block_lt_of_cell g0
          have p0 : ∀ o p : Obj, ((w5.alloc o).alloc p).cell? ⟨w.heap.size, 0, none⟩ = some (.int .i64 i) := fun o p => by
            rw [World.cell?_alloc_lt _ _ _ (by simp; omega), World.cell?_alloc_lt _ _ _ (by simp; omega), g0]
          have p1 : ∀ o p : Obj, ((w5.alloc o).alloc p).cell? ⟨w.heap.size, 1, none⟩ = some (.slice (some ⟨b1, o1, none⟩) 18 c1) := fun o p => by
            rw [World.cell?_alloc_lt _ _ _ (by simp; omega), World.cell?_alloc_lt _ _ _ (by simp; omega), g1]
          have p2 : ∀ o p : Obj, ((w5.alloc o).alloc p).cell? ⟨w.heap.size, 2, none⟩ = some (.slice a2 lp.length c2) := fun o p => by
            rw [World.cell?_alloc_lt _ _ _ (by simp; omega), World.cell?_alloc_lt _ _ _ (by simp; omega), g2]
          have q0 : ∀ o p q : Obj, (((w5.alloc o).alloc p).alloc q).cell? ⟨w.heap.size, 0, none⟩ = some (.int .i64 i) := fun o p q => by
            rw [World.cell?_alloc_lt _ _ _ (by simp; omega), p0]
          have q2 : ∀ o p q : Obj, (((w5.alloc o).alloc p).alloc q).cell? ⟨w.heap.size, 2, none⟩ = some (.slice a2 lp.length c2) := fun o p q => by
            rw [World.cell?_alloc_lt _ _ _ (by simp; omega), p2]
          go_wp2_with fail
          obtain ⟨W9, hW9⟩ : ∃ W9, W9 = ((w5.alloc (.cells #[.int .i64 i, .slice (some ⟨b1, o1, none⟩) 17 c1, .slice a2 lp.length c2] 24)).alloc (.cells #[.int .i64 i, .slice (some ⟨b1, o1, none⟩) 18 c1, .slice a2 lp.length c2] 24)) := ⟨_, rfl⟩
          rw [← hW9]
          have hO9 : Tr.Old w5 W9 := by rw [hW9]; exact Tr.Old.alloc _ (Tr.Old.alloc _ (Tr.Old.refl w5))
          have hs9 : W9.heap.size = w5.heap.size + 2 := by rw [hW9]; simp
          have hA9 : W9.heap[w5.heap.size]? = some (.cells #[.int .i64 i, .slice (some ⟨b1, o1, none⟩) 17 c1, .slice a2 lp.length c2] 24 (0, 0)) := by
            rw [hW9, Below.heap_alloc _ _ _ (by simp)]; exact heap_alloc_new _ _
          have hB9 : W9.heap[w5.heap.size + 1]? = some (.cells #[.int .i64 i, .slice (some ⟨b1, o1, none⟩) 18 c1, .slice a2 lp.length c2] 24 (0, 0)) := by
            have := heap_alloc_new (w5.alloc (.cells #[.int .i64 i, .slice (some ⟨b1, o1, none⟩) 17 c1, .slice a2 lp.length c2] 24)) (.cells #[.int .i64 i, .slice (some ⟨b1, o1, none⟩) 18 c1, .slice a2 lp.length c2] 24)
            rw [hW9]; simpa using this
          have r0 : ∀ w', Tr.Old w5 w' → w'.cell? ⟨w.heap.size, 0, none⟩ = some (.int .i64 i) := fun w' h => (Below.cell h.out (p := ⟨w.heap.size, 0, none⟩) hw5).trans g0
          have r1 : ∀ w', Tr.Old w5 w' → w'.cell? ⟨w.heap.size, 1, none⟩ = some (.slice (some ⟨b1, o1, none⟩) 18 c1) := fun w' h => (Below.cell h.out (p := ⟨w.heap.size, 1, none⟩) hw5).trans g1
          have r2 : ∀ w', Tr.Old w5 w' → w'.cell? ⟨w.heap.size, 2, none⟩ = some (.slice a2 lp.length c2) := fun w' h => (Below.cell h.out (p := ⟨w.heap.size, 2, none⟩) hw5).trans g2
          have cB0 := Joins.cell_of_block hB9 0
          have fB0 := Joins.unfrozen_of_block hB9 0
          have HA9 := Lib.hid hA9
          have HB9 := Lib.hid hB9
          have hO9d : Tr.Old w5 W9.drew := Tr.Old.step ((Below.refl _ W9).drew) hO9
          clear hW9 p0 p1 p2 q0 q2 hA9 hB9
          have hO10 : Tr.Old w5 (W9.setCell ⟨w5.heap.size + 1, 0, none⟩ (.int .i64 (i + (n : Int)))).drew := Tr.Old.of (Below.setCell hO9.out (p := ⟨w5.heap.size + 1, 0, none⟩) (by show w5.heap.size ≤ w5.heap.size + 1; omega) _).drew
          have hwr1 := HWR.out.1
          have hwr2 := HWR.out.2
          have hsh2 := HSH2.out
          have hsh := HSH.out
          go_region_held3 (fun w' => Tr.Old w5 w') (first | exact hO9d | exact hO10) (fail)
          clear hsh hsh2 hwr1 hwr2
          obtain ⟨W10, hW10⟩ : ∃ W10, W10 = (W9.setCell ⟨w5.heap.size + 1, 0, none⟩ (.int .i64 (i + (n : Int)))).drew := ⟨_, rfl⟩
          rw [← hW10] at hO10 ⊢
          have hs10 : W10.heap.size = w5.heap.size + 2 := by rw [hW10]; simpa using hs9
          have hA10 : W10.heap[w5.heap.size]? = some (.cells #[.int .i64 i, .slice (some ⟨b1, o1, none⟩) 17 c1, .slice a2 lp.length c2] 24 (0, 0)) := by
            rw [hW10]; exact (Below.heap_setCell _ _ _ _ (by show w5.heap.size ≠ w5.heap.size + 1; omega)).trans HA9.out
          have hB10 : W10.heap[w5.heap.size + 1]? = some (.cells #[.int .i64 (i + (n : Int)), .slice (some ⟨b1, o1, none⟩) 18 c1, .slice a2 lp.length c2] 24 (0, 0)) := by
            rw [hW10]; exact Joins.block_setCell HB9.out _
          have y0 := r0 _ hO10
          have y1 := r1 _ hO10
          have y2 := r2 _ hO10
          clear hW10 HA9 HB9 cB0 fB0 hO9 hO9d hs9
          go_wp2_with fail
          obtain ⟨W11, hW11⟩ : ∃ W11, W11 = (W10.alloc (.cells #[.int .i64 i, .slice (some ⟨b1, o1, none⟩) 18 c1, .slice a2 lp.length c2] 24)) := ⟨_, rfl⟩
          rw [← hW11]
          have hO11 : Tr.Old w5 W11 := by rw [hW11]; exact Tr.Old.alloc _ hO10
          have hC11 : W11.heap[w5.heap.size + 2]? = some (.cells #[.int .i64 i, .slice (some ⟨b1, o1, none⟩) 18 c1, .slice a2 lp.length c2] 24 (0, 0)) := by
            rw [hW11, ← hs10]; exact heap_alloc_new _ _
          have hA11 : W11.heap[w5.heap.size]? = some (.cells #[.int .i64 i, .slice (some ⟨b1, o1, none⟩) 17 c1, .slice a2 lp.length c2] 24 (0, 0)) := by
            rw [hW11, Below.heap_alloc _ _ _ (by rw [hs10]; omega)]; exact hA10
          have hB11 : W11.heap[w5.heap.size + 1]? = some (.cells #[.int .i64 (i + (n : Int)), .slice (some ⟨b1, o1, none⟩) 18 c1, .slice a2 lp.length c2] 24 (0, 0)) := by
            rw [hW11, Below.heap_alloc _ _ _ (by rw [hs10]; omega)]; exact hB10
          have cB0 := Joins.cell_of_block hC11 0
          have fB0 := Joins.unfrozen_of_block hC11 0
          have HA11 := Lib.hid hA11
          have HB11 := Lib.hid hB11
          have HC11 := Lib.hid hC11
          have hO11d : Tr.Old w5 W11.drew := Tr.Old.step ((Below.refl _ W11).drew) hO11
          have hO12 : Tr.Old w5 (W11.setCell ⟨w5.heap.size + 2, 0, none⟩ (.int .i64 (i - (n : Int)))).drew := Tr.Old.of (Below.setCell hO11.out (p := ⟨w5.heap.size + 2, 0, none⟩) (by show w5.heap.size ≤ w5.heap.size + 2; omega) _).drew
          have hwr1 := HWR.out.1
          have hwr2 := HWR.out.2
          have hsh2 := HSH2.out
          have hsh := HSH.out
          clear hW11 hA10 hB10 y0 y1 y2 hC11 hA11 hB11 hs10 hO10
          go_region_held3 (fun w' => Tr.Old w5 w') (first | exact hO11d | exact hO12) (fail)
          clear hsh hsh2 hwr1 hwr2
          obtain ⟨W12, hW12⟩ : ∃ W12, W12 = (W11.setCell ⟨w5.heap.size + 2, 0, none⟩ (.int .i64 (i - (n : Int)))).drew := ⟨_, rfl⟩
          rw [← hW12] at hO12 ⊢
          have hC12 : W12.heap[w5.heap.size + 2]? = some (.cells #[.int .i64 (i - (n : Int)), .slice (some ⟨b1, o1, none⟩) 18 c1, .slice a2 lp.length c2] 24 (0, 0)) := by
            rw [hW12]; exact Joins.block_setCell HC11.out _
          have hA12 : W12.heap[w5.heap.size]? = some (.cells #[.int .i64 i, .slice (some ⟨b1, o1, none⟩) 17 c1, .slice a2 lp.length c2] 24 (0, 0)) := by
            rw [hW12]; exact (Below.heap_setCell _ _ _ _ (by show w5.heap.size ≠ w5.heap.size + 2; omega)).trans HA11.out
          have hB12 : W12.heap[w5.heap.size + 1]? = some (.cells #[.int .i64 (i + (n : Int)), .slice (some ⟨b1, o1, none⟩) 18 c1, .slice a2 lp.length c2] 24 (0, 0)) := by
            rw [hW12]; exact (Below.heap_setCell _ _ _ _ (by show w5.heap.size + 1 ≠ w5.heap.size + 2; omega)).trans HB11.out
          have x0 : ∀ w', Tr.Old W12 w' → w'.cell? ⟨w5.heap.size, 0, none⟩ = some (.int .i64 i) := fun w' h => (Below.cell h.out (p := ⟨w5.heap.size, 0, none⟩) (lt_of_block hA12)).trans (Joins.cell_of_block hA12 0)
          have x1 : ∀ w', Tr.Old W12 w' → w'.cell? ⟨w5.heap.size, 1, none⟩ = some (.slice (some ⟨b1, o1, none⟩) 17 c1) := fun w' h => (Below.cell h.out (p := ⟨w5.heap.size, 1, none⟩) (lt_of_block hA12)).trans (Joins.cell_of_block hA12 1)
          have x2 : ∀ w', Tr.Old W12 w' → w'.cell? ⟨w5.heap.size, 2, none⟩ = some (.slice a2 lp.length c2) := fun w' h => (Below.cell h.out (p := ⟨w5.heap.size, 2, none⟩) (lt_of_block hA12)).trans (Joins.cell_of_block hA12 2)
          have y0 : ∀ w', Tr.Old W12 w' → w'.cell? ⟨w5.heap.size + 1, 0, none⟩ = some (.int .i64 (i + (n : Int))) := fun w' h => (Below.cell h.out (p := ⟨w5.heap.size + 1, 0, none⟩) (lt_of_block hB12)).trans (Joins.cell_of_block hB12 0)
          have y1 : ∀ w', Tr.Old W12 w' → w'.cell? ⟨w5.heap.size + 1, 1, none⟩ = some (.slice (some ⟨b1, o1, none⟩) 18 c1) := fun w' h => (Below.cell h.out (p := ⟨w5.heap.size + 1, 1, none⟩) (lt_of_block hB12)).trans (Joins.cell_of_block hB12 1)
          have y2 : ∀ w', Tr.Old W12 w' → w'.cell? ⟨w5.heap.size + 1, 2, none⟩ = some (.slice a2 lp.length c2) := fun w' h => (Below.cell h.out (p := ⟨w5.heap.size + 1, 2, none⟩) (lt_of_block hB12)).trans (Joins.cell_of_block hB12 2)
          have z0 : ∀ w', Tr.Old W12 w' → w'.cell? ⟨w5.heap.size + 2, 0, none⟩ = some (.int .i64 (i - (n : Int))) := fun w' h => (Below.cell h.out (p := ⟨w5.heap.size + 2, 0, none⟩) (lt_of_block hC12)).trans (Joins.cell_of_block hC12 0)
          have z1 : ∀ w', Tr.Old W12 w' → w'.cell? ⟨w5.heap.size + 2, 1, none⟩ = some (.slice (some ⟨b1, o1, none⟩) 18 c1) := fun w' h => (Below.cell h.out (p := ⟨w5.heap.size + 2, 1, none⟩) (lt_of_block hC12)).trans (Joins.cell_of_block hC12 1)
          have z2 : ∀ w', Tr.Old W12 w' → w'.cell? ⟨w5.heap.size + 2, 2, none⟩ = some (.slice a2 lp.length c2) := fun w' h => (Below.cell h.out (p := ⟨w5.heap.size + 2, 2, none⟩) (lt_of_block hC12)).trans (Joins.cell_of_block hC12 2)
          have hb412 : Below w4.heap.size w4 W12 := hO5.out.trans (hO12.out.mono hO5.out.size)
          have HVL : Hid (∀ w', Tr.Old W12 w' → Calls Tryd.prog 18 #[.string pb, .string m, .agg #[.int .i64 i, .slice (some ⟨b1, o1, none⟩) 17 c1, .slice a2 lp.length c2]] w' (BoolOut false w')) := fun w' h => by
            have hx := hb412.trans (h.out.mono hb412.size)
            have := verify_walk pb m (Sl.short_out HS.out m (by simp)) _ i (ls.take 17) lp w' ⟨_, _, rfl, (IsTx.cut HX.out H18.out 17 (by decide) (by decide)).below hx, HY.out.below hx⟩ (fun s h => HZ.out.1 s (List.mem_of_mem_take h)) HZ.out.2 (HT.out.below hx)
            rw [Sl.verify_len _ _ _ _ _ (by rw [Tr.bs_len, List.length_take, H18.out]; decide)] at this
            exact this
          have HVF : Hid (∀ w', Tr.Old W12 w' → Calls Tryd.prog 18 #[.string pb, .string m, .agg #[.int .i64 (i + (n : Int)), .slice (some ⟨b1, o1, none⟩) 18 c1, .slice a2 lp.length c2]] w' (BoolOut false w')) := fun w' h => by
            have hx := hb412.trans (h.out.mono hb412.size)
            have := verify_walk pb m (Sl.short_out HS.out m (by simp)) _ (i + (n : Int)) ls lp w' ⟨_, _, rfl, HX.out.below hx, HY.out.below hx⟩ HZ.out.1 HZ.out.2 (HT.out.below hx)
            rw [Sl.verify_high _ _ _ _ _ (by rw [Tr.bs_len, ← HNN.out]; omega)] at this
            exact this
          have HVB : Hid (∀ w', Tr.Old W12 w' → Calls Tryd.prog 18 #[.string pb, .string m, .agg #[.int .i64 (i - (n : Int)), .slice (some ⟨b1, o1, none⟩) 18 c1, .slice a2 lp.length c2]] w' (BoolOut false w')) := fun w' h => by
            have hx := hb412.trans (h.out.mono hb412.size)
            have := verify_walk pb m (Sl.short_out HS.out m (by simp)) _ (i - (n : Int)) ls lp w' ⟨_, _, rfl, HX.out.below hx, HY.out.below hx⟩ HZ.out.1 HZ.out.2 (HT.out.below hx)
            rw [Sl.verify_low _ _ _ _ _ (by omega)] at this
            exact this
          have hOO := Tr.Old.refl W12
          have HBE := Lib.hid (HB.out.trans (hb412.mono HB.out.size))
          clear hW12 hC12 hA12 hB12 hO12 hb412 HA11 HB11 HC11 cB0 fB0 r0 r1 r2 hO11 hO11d g0 g1 g2
          go_wp2_with fail
          refine (HVL.out _ hOO).mono ?_
          rintro e w13 ⟨rfl, hb⟩
          replace hOO := Tr.Old.step hb hOO
          clear hb
          go_wp2_with fail
          refine (HVF.out _ hOO).mono ?_
          rintro e w14 ⟨rfl, hb⟩
          replace hOO := Tr.Old.step hb hOO
          clear hb
          go_wp2_with fail
          refine (HVB.out _ hOO).mono ?_
          rintro e w15 ⟨rfl, hb⟩
          replace hOO := Tr.Old.step hb hOO
          clear hb
          go_wp2_with fail
          go_ret
          exact ⟨rfl, HBE.out.trans (hOO.out.mono HBE.out.size)⟩

theorem law_walk (pb m : ByteArray) (v : Value) (i : Int) (ls lp : List ByteArray) (w : World) (_hp : pb.size ≤ 9223372036854775807) (_hm : m.size ≤ 9223372036854775807) (hv : IsSeal w v i ls lp) (_hs : ∀ s ∈ ls, s.size ≤ 9223372036854775807) (_hq : ∀ s ∈ lp, s.size ≤ 9223372036854775807) (_h0 : -9223372036854775808 ≤ i) (_h1 : i ≤ 9223372036854775807) (ht : HasTab w) :
    Calls Tryd.prog 9 #[.string pb, .string m, v] w fun e w' => e = .returned (.bool true) ∧ Below w.heap.size w w' := by
  cases hs : Sl.short [pb, m] with
  | false => exact w_short pb m v i ls lp w hv ht hs
  | true =>
    cases hf : Sl.few ls lp with
    | false => exact w_few pb m v i ls lp w hv ht hs hf
    | true =>
      cases hn : Sl.verify pb.data.toList m.data.toList i (Tr.bs ls) (Tr.bs lp) with
      | false => exact w_no pb m v i ls lp w hv ht hs hf hn
      | true => exact w_main pb m v i ls lp w hv ht hs hf hn

set_option maxRecDepth 100000 in
/-- What the walk gives, for all arguments and every world that holds the tables. -/
theorem contract (H : Type) (enc : TypeId × Value → H) (W : World) (base : Nat) (args : Array Value) (ds gs : List (DataW H)) (before : List MemPlace)
    (hval : ∀ (j : Nat) t v, Tryd.f9.params[j]? = some t → args[j]? = some v → Value.okWide Tryd.prog W .any base t v)
    (hW : DataW.Whole enc Tryd.prog Tryd.f9.params.toList Rows.sealFormSpec.vars false W args.toList ds gs before) (hL : laidMetH Tryd.prog laidAll W) :
    Calls Tryd.prog 9 args W fun e W' => ∃ v, e = .returned v ∧ Rows.sealFormSpec.post enc Tryd.prog Tryd.f9 false true false false W args v W' := by
  have hW' := hW
  obtain ⟨p, q, hA0, hV, rfl, hfz, hnd⟩ := hW
  have hA : DataW.TrodAll enc Tryd.prog W 0 (fun _ => true) true Tryd.f9.params.toList args.toList ds p := hA0
  rw [Tryd.params9] at hA hval
  obtain ⟨v0, vs0, d0, ds0, p0, q0, hargs, rfl, rfl, h0, r0⟩ := trodAll_cons hA
  obtain ⟨v1, vs1, d1, ds1, p1, q1, rfl, rfl, rfl, h1, r1⟩ := trodAll_cons r0
  obtain ⟨v2, vs2, d2, ds2, p2, q2, rfl, rfl, rfl, h2, r2⟩ := trodAll_cons r1
  obtain ⟨rfl, rfl, rfl⟩ := trodAll_nil r2
  obtain rfl : args = #[v0, v1, v2] := by cases args; simp_all
  obtain ⟨rfl, rfl⟩ := trodVars_none hV
  obtain ⟨a0, rfl, _, _, g0⟩ := open_string Tryd.underlying9 (hval 0 9 v0 rfl rfl) h0
  obtain ⟨a1, rfl, _, _, g1⟩ := open_string Tryd.underlying9 (hval 1 9 v1 rfl rfl) h1
  obtain ⟨i2, l2, m2, t2, s2, u2, x2, y2⟩ := open_seal (hval 2 24 v2 rfl rfl) h2
  refine (law_walk a0 a1 v2 i2 l2 m2 W (le_of_max g0) (le_of_max g1) t2 s2 u2 x2 y2 (hasTab hL)).mono fun e W' ⟨he, hg⟩ => ?_
  subst he
  exact ⟨_, rfl, post_lawS rfl rfl rfl rfl rfl (by rw [Tryd.params9]; decide) hW' hg⟩

theorem laid_met (os : Os) : laidMet Tryd.prog Rows.sealFormRow.laid ((laidWorld os).forCall (fun _ _ => 0) ⟨#[], #[.string ⟨#[]⟩, .string ⟨#[]⟩, .agg #[.int .i64 0, .slice none 0 0, .slice none 0 0]], []⟩).memory :=
  laidMet_of_run' 8 (by kernel_rfl) (by kernel_rfl)
theorem reads (os : Os) {H : Type} (enc : TypeId × Value → H) : ∃ places, DataW.whole enc Tryd.prog ((laidWorld os).forCall (fun _ _ => 0) ⟨#[], #[.string ⟨#[]⟩, .string ⟨#[]⟩, .agg #[.int .i64 0, .slice none 0 0, .slice none 0 0]], []⟩).memory Tryd.f9.params.toList Rows.sealFormSpec.vars false #[Value.string ⟨#[]⟩, Value.string ⟨#[]⟩, Value.agg #[.int .i64 0, .slice none 0 0, .slice none 0 0]].toList 8 = some ([.lit (.string []), .lit (.string []), .agg [.lit (.int .i64 0), .nil, .nil]], [], places) :=
  ⟨[], by kernel_rfl⟩

set_option maxRecDepth 100000 in
theorem lifted (os : Os) (started : os.Started) (H : Type) (enc : TypeId × Value → H) (F : Stop.Interp) :
    ReturnsInHanded {} Tryd.checked os 9 .any ((OpenSpec.ofChange Rows.sealFormSpec).preRow enc Tryd.prog Tryd.f9 Rows.sealFormRow.domain false Rows.sealFormRow.laid) (((OpenSpec.ofChange Rows.sealFormSpec).at F).post enc Tryd.prog Tryd.f9 false true false false) := by
  obtain ⟨places, hx⟩ := reads os enc
  refine returnsInHanded_of_row (C := Tryd.checked) (s := OpenSpec.ofChange Rows.sealFormSpec) own started (by kernel_rfl) Tryd.func9
    (witness_row_at (enc := enc) (C := Tryd.checked) false (laidWorld os) #[.string ⟨#[]⟩, .string ⟨#[]⟩, .agg #[.int .i64 0, .slice none 0 0, .slice none 0 0]] rfl (by kernel_rfl) (by kernel_rfl) (by kernel_rfl)
      (OpenSpec.preRow_of_cond 8 hx (by kernel_rfl) (fun k hk => by cases hk) (by kernel_rfl) (laid_met os))) ?_
  intro W base args ds gs before hval hW _ _ _ hL _ _
  exact contract H enc W base args ds gs before hval hW hL

theorem said : Rows.SealFormSaid :=
  OpenClaim.holds_of_cond 9 Tryd.f9 rfl rfl rfl rfl rfl rfl rfl ⟨rfl, rfl, rfl, rfl, rfl⟩ rfl rfl rfl rfl rfl (by kernel_rfl) Tryd.func9 (by kernel_rfl)
    (of_decide_eq_true (by kernel_rfl)) (by unfold Func.isWrapper; first | (rw [if_pos (by decide +kernel)]; kernel_rfl) | (rw [if_neg (by decide +kernel)]; exact ⟨rfl, rfl⟩))
    (fun os started H enc _ F => by rw [OpenClaim.pre_eq_preRow]; exact lifted os started H enc F)

set_option maxRecDepth 100000 in
/-- No parameter wants a stand-in; the program's own looks are off: what the card asks. -/
theorem plain (f : FuncId) (fn : Func) (hf : Tryd.pinned.checked.prog.funcNamed "pandect/pandectlaw03.SealForm" = some f) (hfn : Tryd.pinned.checked.prog.funcs[f]? = some fn) :
    false = Tryd.pinned.checked.prog.looks [] ∧ ∀ (j : Nat) t, fn.params[j]? = some t → Tryd.pinned.checked.prog.wantsStandIn t = false := by
  obtain rfl : f = 9 := Option.some.inj ((show Tryd.prog.funcNamed "pandect/pandectlaw03.SealForm" = some 9 by kernel_rfl).symm.trans hf) |>.symm
  obtain rfl : fn = Tryd.f9 := (Option.some.inj (Tryd.func9.symm.trans hfn)).symm
  refine ⟨by kernel_rfl, fun j t ht => ?_⟩
  rw [Tryd.params9] at ht
  have hm := Array.mem_of_getElem? ht
  simp only [List.mem_toArray, List.mem_cons, List.not_mem_nil, or_false] at hm
  rcases hm with rfl | rfl | rfl
  · exact wants_string
  · exact wants_string
  · exact wants_seal

theorem card : Rows.SealFormCardSaid :=
  Claim7.holds_tied_plain_at .later [] _ _ _ _ said (fun _ h => by cases h) (by kernel_rfl) (fun _ h => by cases h) sealForm_row_tie rfl ⟨rfl, rfl⟩ (by kernel_rfl) rfl plain (by kernel_rfl)
end Go.Proofs.YtklfkhhefjjpaaaDoor.sealForm
