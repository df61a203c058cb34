import Derived.Test.YtklfkhhefjjpaaaDoorKLFrameS
import Derived.Test.YtklfkhhefjjpaaaDoorKSChecked
/-
  SealSound: for every secret, number, message and seal the call returns true and its arguments stay, where the three tables of the library hold what the program's text lays.
-/
namespace Go.Proofs.YtklfkhhefjjpaaaDoor.sealSound
open Go.ChangeShapes Go.WideShapes Go.ChangeAt Go.RowKit
open Go.WideMaps Go.WideElems
open Go.ChangeMaps (open_string shut_string)

set_option maxHeartbeats 4000000 in
set_option maxRecDepth 100000 in
theorem w_short (s m : ByteArray) (a : Nat) (ha : a ≤ 255) (v : Value) (i : Int) (ls lp : List ByteArray) (w : World) (hv : IsSeal w v i ls lp) (ht : HasTab w) (hs : Sl.short [s, m] = false) :
    Calls Tryd.prog 5 #[.string s, .int .u8 a, .string m, v] w fun e w' => e = .returned (.bool true) ∧ Below w.heap.size w w' := by
  obtain ⟨vs, vp, rfl, hx, hy⟩ := hv
  have hv : IsSeal w (.agg #[.int .i64 i, vs, vp]) i ls lp := ⟨vs, vp, rfl, hx, hy⟩
  obtain ⟨a1, c1, rfl, _, _, _⟩ := hx
  obtain ⟨a2, c2, rfl, _, _, _⟩ := hy
  obtain ⟨W, hW⟩ : ∃ W, W = w.alloc (.cells #[.int .i64 i, .slice a1 ls.length c1, .slice a2 lp.length c2] 24) := ⟨_, rfl⟩
  have hb1 : Below w.heap.size w W := by rw [hW]; exact (Below.refl w.heap.size w).alloc (Nat.le_refl _) _
  have hk : W.heap[w.heap.size]? = some (.cells #[.int .i64 i, .slice a1 ls.length c1, .slice a2 lp.length c2] 24 (0, 0)) := by rw [hW]; exact heap_alloc_new _ _
  have F : Hid (∀ w', Tr.Old W w' → w'.cell? ⟨w.heap.size, 0, none⟩ = some (.int .i64 i) ∧ w'.cell? ⟨w.heap.size, 1, none⟩ = some (.slice a1 ls.length c1) ∧ w'.cell? ⟨w.heap.size, 2, none⟩ = some (.slice a2 lp.length c2)) := fun w' h => seal_block h.out hk
  have HT := Lib.hid (ht.below hb1)
  have HV := Lib.hid (hv.below hb1)
  have HB := Lib.hid hb1
  have HS := Lib.hid hs
  obtain ⟨h, hh⟩ : ∃ h, h = a % 3 := ⟨_, rfl⟩
  have hh4 : h ≤ 2 := by omega
  have hh' : (a : Int) % 3 = (h : Int) := by omega
  clear hb1 ht hs hv hk hh
  go_enter Tryd.func5, Tryd.ntmps5
  go_wp2_with fail
  rw [← hW]
  clear hW
  refine (head_walk _ HT.out).mono ?_
  rintro e w1 ⟨rfl, hb⟩
  have HO : Hid (Tr.Old W w1) := hb
  obtain ⟨d0, d1, d2⟩ := F.out w1 HO.out
  clear hb
  go_wp2_with fail
  refine (short_false _ [s, m] _ (tx_two _ _ _) HS.out).mono ?_
  rintro e w2 ⟨rfl, rfl⟩
  replace HO : Hid (Tr.Old W (w1.alloc (.cells #[.string s, .string m] 9))) := Tr.Old.alloc _ HO.out
  clear d0 d1 d2
  obtain ⟨d0, d1, d2⟩ := F.out _ HO.out
  go_wp2_with fail
  go_ret
  exact ⟨rfl, HB.out.trans (HO.out.out.mono HB.out.size)⟩

set_option maxHeartbeats 4000000 in
set_option maxRecDepth 100000 in
theorem w_few (s m : ByteArray) (a : Nat) (ha : a ≤ 255) (v : Value) (i : Int) (ls lp : List ByteArray) (w : World) (hv : IsSeal w v i ls lp) (ht : HasTab w) (hs : Sl.short [s, m] = true) (hf : Sl.few ls lp = false) :
    Calls Tryd.prog 5 #[.string s, .int .u8 a, .string m, v] w fun e w' => e = .returned (.bool true) ∧ Below w.heap.size w w' := by
  obtain ⟨vs, vp, rfl, hx, hy⟩ := hv
  have hv : IsSeal w (.agg #[.int .i64 i, vs, vp]) i ls lp := ⟨vs, vp, rfl, hx, hy⟩
  obtain ⟨a1, c1, rfl, _, _, _⟩ := hx
  obtain ⟨a2, c2, rfl, _, _, _⟩ := hy
  obtain ⟨W, hW⟩ : ∃ W, W = w.alloc (.cells #[.int .i64 i, .slice a1 ls.length c1, .slice a2 lp.length c2] 24) := ⟨_, rfl⟩
  have hb1 : Below w.heap.size w W := by rw [hW]; exact (Below.refl w.heap.size w).alloc (Nat.le_refl _) _
  have hk : W.heap[w.heap.size]? = some (.cells #[.int .i64 i, .slice a1 ls.length c1, .slice a2 lp.length c2] 24 (0, 0)) := by rw [hW]; exact heap_alloc_new _ _
  have F : Hid (∀ w', Tr.Old W w' → w'.cell? ⟨w.heap.size, 0, none⟩ = some (.int .i64 i) ∧ w'.cell? ⟨w.heap.size, 1, none⟩ = some (.slice a1 ls.length c1) ∧ w'.cell? ⟨w.heap.size, 2, none⟩ = some (.slice a2 lp.length c2)) := fun w' h => seal_block h.out hk
  have HT := Lib.hid (ht.below hb1)
  have HV := Lib.hid (hv.below hb1)
  have HB := Lib.hid hb1
  have HS := Lib.hid hs
  obtain ⟨h, hh⟩ : ∃ h, h = a % 3 := ⟨_, rfl⟩
  have hh4 : h ≤ 2 := by omega
  have hh' : (a : Int) % 3 = (h : Int) := by omega
  have HF := Lib.hid hf
  clear hb1 ht hs hv hk hh hf
  go_enter Tryd.func5, Tryd.ntmps5
  go_wp2_with fail
  rw [← hW]
  clear hW
  refine (head_walk _ HT.out).mono ?_
  rintro e w1 ⟨rfl, hb⟩
  have HO : Hid (Tr.Old W w1) := hb
  obtain ⟨d0, d1, d2⟩ := F.out w1 HO.out
  clear hb
  go_wp2_with fail
  refine (short_true _ [s, m] _ (tx_two _ _ _) HS.out).mono ?_
  rintro e w2 ⟨rfl, rfl⟩
  replace HO : Hid (Tr.Old W (w1.alloc (.cells #[.string s, .string m] 9))) := Tr.Old.alloc _ HO.out
  clear d0 d1 d2
  obtain ⟨d0, d1, d2⟩ := F.out _ HO.out
  go_wp2_with fail
  refine (few03_false _ i ls lp _ (HV.out.below HO.out.out) HF.out).mono ?_
  rintro e w3 ⟨rfl, hb⟩
  replace HO : Hid (Tr.Old W w3) := Tr.Old.step hb HO.out
  clear hb d0 d1 d2
  go_wp2_with fail
  go_ret
  exact ⟨rfl, HB.out.trans (HO.out.out.mono HB.out.size)⟩

set_option maxHeartbeats 4000000 in
set_option maxRecDepth 100000 in
theorem w_no (s m : ByteArray) (a : Nat) (ha : a ≤ 255) (v : Value) (i : Int) (ls lp : List ByteArray) (w : World) (hv : IsSeal w v i ls lp) (ht : HasTab w) (hs : Sl.short [s, m] = true) (hf : Sl.few ls lp = true) (hn : Sl.verify (Sl.pub s.data.toList (a % 3)) m.data.toList i (Tr.bs ls) (Tr.bs lp) = false) :
    Calls Tryd.prog 5 #[.string s, .int .u8 a, .string m, v] w fun e w' => e = .returned (.bool true) ∧ Below w.heap.size w w' := by
  obtain ⟨vs, vp, rfl, hx, hy⟩ := hv
  have hv : IsSeal w (.agg #[.int .i64 i, vs, vp]) i ls lp := ⟨vs, vp, rfl, hx, hy⟩
  obtain ⟨a1, c1, rfl, _, _, _⟩ := hx
  obtain ⟨a2, c2, rfl, _, _, _⟩ := hy
  obtain ⟨W, hW⟩ : ∃ W, W = w.alloc (.cells #[.int .i64 i, .slice a1 ls.length c1, .slice a2 lp.length c2] 24) := ⟨_, rfl⟩
  have hb1 : Below w.heap.size w W := by rw [hW]; exact (Below.refl w.heap.size w).alloc (Nat.le_refl _) _
  have hk : W.heap[w.heap.size]? = some (.cells #[.int .i64 i, .slice a1 ls.length c1, .slice a2 lp.length c2] 24 (0, 0)) := by rw [hW]; exact heap_alloc_new _ _
  have F : Hid (∀ w', Tr.Old W w' → w'.cell? ⟨w.heap.size, 0, none⟩ = some (.int .i64 i) ∧ w'.cell? ⟨w.heap.size, 1, none⟩ = some (.slice a1 ls.length c1) ∧ w'.cell? ⟨w.heap.size, 2, none⟩ = some (.slice a2 lp.length c2)) := fun w' h => seal_block h.out hk
  have HT := Lib.hid (ht.below hb1)
  have HV := Lib.hid (hv.below hb1)
  have HB := Lib.hid hb1
  have HS := Lib.hid hs
  obtain ⟨h, hh⟩ : ∃ h, h = a % 3 := ⟨_, rfl⟩
  have hh4 : h ≤ 2 := by omega
  have hh' : (a : Int) % 3 = (h : Int) := by omega
  have HF := Lib.hid hf
  rw [← hh] at hn
  have HN := Lib.hid hn
  clear hb1 ht hs hv hk hh hf hn
  go_enter Tryd.func5, Tryd.ntmps5
  go_wp2_with fail
  rw [← hW]
  clear hW
  refine (head_walk _ HT.out).mono ?_
  rintro e w1 ⟨rfl, hb⟩
  have HO : Hid (Tr.Old W w1) := hb
  obtain ⟨d0, d1, d2⟩ := F.out w1 HO.out
  clear hb
  go_wp2_with fail
  refine (short_true _ [s, m] _ (tx_two _ _ _) HS.out).mono ?_
  rintro e w2 ⟨rfl, rfl⟩
  replace HO : Hid (Tr.Old W (w1.alloc (.cells #[.string s, .string m] 9))) := Tr.Old.alloc _ HO.out
  clear d0 d1 d2
  obtain ⟨d0, d1, d2⟩ := F.out _ HO.out
  go_wp2_with fail
  refine (few03_true _ i ls lp _ (HV.out.below HO.out.out) HF.out).mono ?_
  rintro e w3 ⟨rfl, hb⟩
  replace HO : Hid (Tr.Old W w3) := Tr.Old.step hb HO.out
  clear hb d0 d1 d2
  have hzs := Sl.short_out HS.out s (by simp)
  have hzm := Sl.short_out HS.out m (by simp)
  go_wp2_with fail
  refine (public_ok s hzs h (by omega) _ (HT.out.below HO.out.out)).mono ?_
  rintro e w4 ⟨r1, rfl, hr1, hz1, hb⟩
  replace HO : Hid (Tr.Old W w4) := Tr.Old.step hb HO.out
  obtain ⟨d0, d1, d2⟩ := F.out w4 HO.out
  clear hb
  go_wp2_with fail
  have hv4 := verify_walk r1 m hzm _ i ls lp w4 (HV.out.below HO.out.out) (fun s h => by have := (Sl.few_out HF.out).1 s h; omega) (fun s h => by have := (Sl.few_out HF.out).2.1 s h; omega) (HT.out.below HO.out.out)
  rw [hr1.out, HN.out] at hv4
  refine hv4.mono ?_
  rintro e w5 ⟨rfl, hb⟩
  replace HO : Hid (Tr.Old W w5) := Tr.Old.step hb HO.out
  clear hb hv4 d0 d1 d2
  go_wp2_with fail
  go_ret
  exact ⟨rfl, HB.out.trans (HO.out.out.mono HB.out.size)⟩

set_option maxHeartbeats 4000000 in
set_option maxRecDepth 100000 in
theorem w_main (s m : ByteArray) (a : Nat) (ha : a ≤ 255) (v : Value) (i : Nat) (ls lp : List ByteArray) (w : World) (hv : IsSeal w v i ls lp) (ht : HasTab w) (hs : Sl.short [s, m] = true) (hf : Sl.few ls lp = true) (hn : Sl.verify (Sl.pub s.data.toList (a % 3)) m.data.toList i (Tr.bs ls) (Tr.bs lp) = true) :
    Calls Tryd.prog 5 #[.string s, .int .u8 a, .string m, v] w fun e w' => e = .returned (.bool true) ∧ Below w.heap.size w w' := by
  obtain ⟨vs, vp, rfl, hx, hy⟩ := hv
  have hv : IsSeal w (.agg #[.int .i64 i, vs, vp]) i ls lp := ⟨vs, vp, rfl, hx, hy⟩
  obtain ⟨a1, c1, rfl, _, _, _⟩ := hx
  obtain ⟨a2, c2, rfl, _, _, _⟩ := hy
  obtain ⟨W, hW⟩ : ∃ W, W = w.alloc (.cells #[.int .i64 i, .slice a1 ls.length c1, .slice a2 lp.length c2] 24) := ⟨_, rfl⟩
  have hb1 : Below w.heap.size w W := by rw [hW]; exact (Below.refl w.heap.size w).alloc (Nat.le_refl _) _
  have hk : W.heap[w.heap.size]? = some (.cells #[.int .i64 i, .slice a1 ls.length c1, .slice a2 lp.length c2] 24 (0, 0)) := by rw [hW]; exact heap_alloc_new _ _
  have F : Hid (∀ w', Tr.Old W w' → w'.cell? ⟨w.heap.size, 0, none⟩ = some (.int .i64 i) ∧ w'.cell? ⟨w.heap.size, 1, none⟩ = some (.slice a1 ls.length c1) ∧ w'.cell? ⟨w.heap.size, 2, none⟩ = some (.slice a2 lp.length c2)) := fun w' h => seal_block h.out hk
  have HT := Lib.hid (ht.below hb1)
  have HV := Lib.hid (hv.below hb1)
  have HB := Lib.hid hb1
  have HS := Lib.hid hs
  obtain ⟨h, hh⟩ : ∃ h, h = a % 3 := ⟨_, rfl⟩
  have hh4 : h ≤ 2 := by omega
  have hh' : (a : Int) % 3 = (h : Int) := by omega
  have HF := Lib.hid hf
  rw [← hh] at hn
  have HN := Lib.hid hn
  have hacc := ((Sl.verify_accepts _ _ _ _ _).1 hn).2
  rw [Int.toNat_natCast] at hacc
  have h18 : ls.length = 18 := by rw [← Tr.bs_len]; exact hacc.1
  have h8 : lp.length ≤ 8 := by rw [← Tr.bs_len]; exact hacc.2.1
  have hzl : ∀ s ∈ ls, s.size ≤ 16 := fun s h => Sl.dig_size (List.all_eq_true.1 hacc.2.2.1 _ (List.mem_map.2 ⟨s, h, rfl⟩))
  have hzp : ∀ s ∈ lp, s.size ≤ 300 := fun s h => by have := (Sl.few_out hf).2.1 s h; omega
  have hi2 : i ≤ 1000 := by
    have h1 := hacc.2.2.2.2.1
    have h2 : 2 ^ (Tr.bs lp).length ≤ 2 ^ 8 := Nat.pow_le_pow_right (by decide) hacc.2.1
    have h3 : (2 : Nat) ^ 8 = 256 := by decide
    omega
  have HSD := Lib.hid (Sl.sound_shown s.data.toList h i m.data.toList (Tr.bs ls) (Tr.bs lp) hh4 hacc)
  have HLL := Lib.hid (And.intro h18 (And.intro h8 (And.intro hzl (And.intro hzp hi2))))
  clear hb1 ht hs hv hk hh hf hn hacc h18 h8 hzl hzp hi2
  go_enter Tryd.func5, Tryd.ntmps5
  go_wp2_with fail
  rw [← hW]
  clear hW
  refine (head_walk _ HT.out).mono ?_
  rintro e w1 ⟨rfl, hb⟩
  have HO : Hid (Tr.Old W w1) := hb
  obtain ⟨d0, d1, d2⟩ := F.out w1 HO.out
  clear hb
  go_wp2_with fail
  refine (short_true _ [s, m] _ (tx_two _ _ _) HS.out).mono ?_
  rintro e w2 ⟨rfl, rfl⟩
  replace HO : Hid (Tr.Old W (w1.alloc (.cells #[.string s, .string m] 9))) := Tr.Old.alloc _ HO.out
  clear d0 d1 d2
  obtain ⟨d0, d1, d2⟩ := F.out _ HO.out
  go_wp2_with fail
  refine (few03_true _ i ls lp _ (HV.out.below HO.out.out) HF.out).mono ?_
  rintro e w3 ⟨rfl, hb⟩
  replace HO : Hid (Tr.Old W w3) := Tr.Old.step hb HO.out
  clear hb d0 d1 d2
  have hzs := Sl.short_out HS.out s (by simp)
  have hzm := Sl.short_out HS.out m (by simp)
  go_wp2_with fail
  refine (public_ok s hzs h (by omega) _ (HT.out.below HO.out.out)).mono ?_
  rintro e w4 ⟨r1, rfl, hr1, hz1, hb⟩
  replace HO : Hid (Tr.Old W w4) := Tr.Old.step hb HO.out
  obtain ⟨d0, d1, d2⟩ := F.out w4 HO.out
  clear hb
  go_wp2_with fail
  have hv4 := verify_walk r1 m hzm _ i ls lp w4 (HV.out.below HO.out.out) (fun s h => by have := (Sl.few_out HF.out).1 s h; omega) (fun s h => by have := (Sl.few_out HF.out).2.1 s h; omega) (HT.out.below HO.out.out)
  rw [hr1.out, HN.out] at hv4
  refine hv4.mono ?_
  rintro e w5 ⟨rfl, hb⟩
  replace HO : Hid (Tr.Old W w5) := Tr.Old.step hb HO.out
  clear hb hv4 d0 d1 d2
  obtain ⟨d0, d1, d2⟩ := F.out w5 HO.out
  by_cases hk2 : i < 2 ^ h
  · have hsg := sign_ok s hzs h (by omega) i hk2 m hzm w5 (HT.out.below HO.out.out)
    have HSG := Lib.hid hsg
    have HK2 := Lib.hid hk2
    clear hsg hk2
    go_wp2_with fail
    refine HSG.out.mono ?_
    intro e w6 hso
    obtain ⟨a3, a4, c3, c4, ls2, lp2, rfl, u1, u2, u3, u4, u5, u6, hb⟩ := hso.seal
    clear hso
    replace HO : Hid (Tr.Old W w6) := Tr.Old.step hb HO.out
    have hb6 := (Below.refl w6.heap.size w6).alloc (Nat.le_refl _) (.cells #[.int .i64 i, .slice a3 ls2.length c3, .slice a4 lp2.length c4] 24)
    have HU : Hid (IsSeal (w6.alloc (.cells #[.int .i64 i, .slice a3 ls2.length c3, .slice a4 lp2.length c4] 24)) (.agg #[.int .i64 i, .slice a3 ls2.length c3, .slice a4 lp2.length c4]) i ls2 lp2) := ⟨_, _, rfl, u1.below hb6, u4.below hb6⟩
    replace HO : Hid (Tr.Old W (w6.alloc (.cells #[.int .i64 i, .slice a3 ls2.length c3, .slice a4 lp2.length c4] 24))) := Tr.Old.step hb6 HO.out
    have HEQ := Lib.hid (And.intro u2.out u5.out)
    obtain ⟨e0, e1, e2⟩ := F.out _ HO.out
    clear hb hb6 u1 u2 u3 u4 u5 u6 d0 d1 d2
    go_wp2_with fail
    have hsm := same03_walk _ _ i i ls2 lp2 ls lp _ HU.out (HV.out.below HO.out.out)
    obtain ⟨c, hc⟩ : ∃ c, c = Sl.same i i ls2 lp2 ls lp := ⟨_, rfl⟩
    rw [← hc] at hsm
    have HC := Lib.hid hc
    clear hc
    cases c with
    | true =>
      refine hsm.mono ?_
      clear hsm
      rintro e wx ⟨rfl, hb⟩
      replace HO : Hid (Tr.Old W wx) := Tr.Old.step hb HO.out
      clear hb
      go_wp2_with fail
      go_ret
      exact ⟨rfl, HB.out.trans (HO.out.out.mono HB.out.size)⟩
    | false =>
    refine hsm.mono ?_
    clear hsm
    rintro e wx ⟨rfl, hb⟩
    replace HO : Hid (Tr.Old W wx) := Tr.Old.step hb HO.out
    have HSH : Hid (Tr.Shown (Sl.made s.data.toList h 15 ++ Sl.checked m.data.toList i (Tr.bs ls) (Tr.bs lp))) := by
      rcases HSD.out with ⟨_, q1, q2⟩ | q
      · exfalso
        have := HC.out
        unfold Sl.same Dg.same at this
        rw [decide_eq_true rfl, decide_eq_true (show ls2.map (·.data.toList) = ls.map (·.data.toList) from HEQ.out.1.trans q1.symm), decide_eq_true (show lp2.map (·.data.toList) = lp.map (·.data.toList) from HEQ.out.2.trans q2.symm)] at this
        exact Bool.noConfusion this
      · exact q
    clear hb e0 e1 e2
    obtain ⟨pm, hpm⟩ : ∃ pm, pm = Sl.made s.data.toList h 15 := ⟨_, rfl⟩
    obtain ⟨pc, hpc⟩ : ∃ pc, pc = Sl.checked m.data.toList i (Tr.bs ls) (Tr.bs lp) := ⟨_, rfl⟩
    have HCK : Hid (∀ w', Tr.Old wx w' → Calls Tryd.prog 24 #[.string m, .agg #[.int .i64 i, .slice a1 ls.length c1, .slice a2 lp.length c2]] w' (OwnOut 10000 pc w')) := fun w' hw => by
      rw [hpc]
      exact checked_walk m hzm _ i HLL.out.2.2.2.2 ls lp w' (HV.out.below (HO.out.out.trans (hw.out.mono HO.out.out.size))) HLL.out.1 HLL.out.2.1 HLL.out.2.2.1 HLL.out.2.2.2.1
    have hl1 : pm.length ≤ 5000 := by rw [hpm]; exact Sl.made_len s.data.toList h 15 hh4 (by decide)
    have hl2 : pc.length ≤ 1000 := by rw [hpc]; exact Sl.checked_len _ _ _ _ (by rw [Tr.bs_len]; exact HLL.out.2.1)
    have HMD : Hid (∀ w', Calls Tryd.prog 23 #[.string s, .int .i64 h, .int .i64 15] w' (OwnOut 10000 pm w')) := fun w' => by rw [hpm]; exact made_walk s hzs h 15 hh4 (by decide) (by decide) w'
    rw [← hpm, ← hpc] at HSH
    have HL := Lib.hid (And.intro hl1 hl2)
    have y0 : ∀ w', Tr.Old wx w' → w'.cell? ⟨w.heap.size, 0, none⟩ = some (.int .i64 i) := fun w' h => (F.out w' (HO.out.out.trans (h.out.mono HO.out.out.size))).1
    have y1 : ∀ w', Tr.Old wx w' → w'.cell? ⟨w.heap.size, 1, none⟩ = some (.slice a1 ls.length c1) := fun w' h => (F.out w' (HO.out.out.trans (h.out.mono HO.out.out.size))).2.1
    have y2 : ∀ w', Tr.Old wx w' → w'.cell? ⟨w.heap.size, 2, none⟩ = some (.slice a2 lp.length c2) := fun w' h => (F.out w' (HO.out.out.trans (h.out.mono HO.out.out.size))).2.2
    have hO5 : Tr.Old wx wx.drew := Tr.Old.drew wx
    clear hpm hpc hl1 hl2
    go_wp2_with fail
    go_region_held3 (fun w' => Tr.Old wx w') (first | with_reducible assumption | exact Tr.Old.step (by with_reducible assumption) (by with_reducible assumption))
      (first
        | (go_at_call 23; (with_reducible refine (HMD.out _).mono ?_); intro e w6 ho6; obtain ⟨v6, rfl, hr6, hb6⟩ := ho6.row)
        | (go_at_call 24; (with_reducible refine (HCK.out _ (by with_reducible assumption)).mono ?_); intro e w7 ho7; obtain ⟨v7, rfl, hr7, hb7⟩ := ho7.row)
        | (refine step_rowg (by rfl) (.tmp 65) (.tmp 68) rfl (hr6.below hb7) rfl rfl hr7.tx (by have := HL.out; omega) (Nat.le_trans hb6.size hb7.size) ?_; intro v8 w8 hr8 hb8; have hO8 : Tr.Old wx w8 := (Below.trans ((Below.refl wx.heap.size wx).drew.trans hb6) (hb7.mono hb6.size)).trans hb8)
        | (go_at_call 22; (with_reducible refine (refshown_tx v8 _ hr8.tx (by decide) (by rw [List.length_append]; have := HL.out; omega) HSH.out).mono ?_); rintro e w9 ⟨rfl, hb9⟩))
    have HO9 := Lib.hid (Tr.Old.step hb9 hO8)
    clear hb6 hb7 hb8 hb9 hr6 hr7 hr8 ho6 ho7 hO8 hO5 y0 y1 y2
    go_wp2_with fail
    go_ret
    exact ⟨rfl, HB.out.trans ((HO.out.out.trans (HO9.out.out.mono HO.out.out.size)).mono HB.out.size)⟩
  · have hsg := sign_bad s hzs h (by omega) i (fun hq => hk2 (by have := hq.2; exact_mod_cast this)) m w5 (HT.out.below HO.out.out)
    have HSG := Lib.hid hsg
    have HSH : Hid (Tr.Shown (Sl.made s.data.toList h 15 ++ Sl.checked m.data.toList i (Tr.bs ls) (Tr.bs lp))) := by
      rcases HSD.out with ⟨q0, _, _⟩ | q
      · exact absurd q0 hk2
      · exact q
    clear hsg hk2
    go_wp2_with fail
    refine HSG.out.mono ?_
    intro e w6 hso
    obtain ⟨a3, a4, c3, c4, ls2, lp2, rfl, u1, u2, u3, u4, u5, u6, hb⟩ := hso.seal
    replace HO : Hid (Tr.Old W w6) := Tr.Old.step hb HO.out
    obtain ⟨wx, hwx⟩ : ∃ wx, wx = w6.alloc (.cells #[.int .i64 0, .slice a3 ls2.length c3, .slice a4 lp2.length c4] 24) := ⟨_, rfl⟩
    replace HO : Hid (Tr.Old W wx) := by rw [hwx]; exact Tr.Old.step ((Below.refl w6.heap.size w6).alloc (Nat.le_refl _) _) HO.out
    clear hso hb u1 u2 u3 u4 u5 u6 d0 d1 d2
    go_upto_region 13 with fail
    rw [← hwx]
    clear hwx
    obtain ⟨pm, hpm⟩ : ∃ pm, pm = Sl.made s.data.toList h 15 := ⟨_, rfl⟩
    obtain ⟨pc, hpc⟩ : ∃ pc, pc = Sl.checked m.data.toList i (Tr.bs ls) (Tr.bs lp) := ⟨_, rfl⟩
    have HCK : Hid (∀ w', Tr.Old wx w' → Calls Tryd.prog 24 #[.string m, .agg #[.int .i64 i, .slice a1 ls.length c1, .slice a2 lp.length c2]] w' (OwnOut 10000 pc w')) := fun w' hw => by
      rw [hpc]
      exact checked_walk m hzm _ i HLL.out.2.2.2.2 ls lp w' (HV.out.below (HO.out.out.trans (hw.out.mono HO.out.out.size))) HLL.out.1 HLL.out.2.1 HLL.out.2.2.1 HLL.out.2.2.2.1
    have hl1 : pm.length ≤ 5000 := by rw [hpm]; exact Sl.made_len s.data.toList h 15 hh4 (by decide)
    have hl2 : pc.length ≤ 1000 := by rw [hpc]; exact Sl.checked_len _ _ _ _ (by rw [Tr.bs_len]; exact HLL.out.2.1)
    have HMD : Hid (∀ w', Calls Tryd.prog 23 #[.string s, .int .i64 h, .int .i64 15] w' (OwnOut 10000 pm w')) := fun w' => by rw [hpm]; exact made_walk s hzs h 15 hh4 (by decide) (by decide) w'
    rw [← hpm, ← hpc] at HSH
    have HL := Lib.hid (And.intro hl1 hl2)
    have y0 : ∀ w', Tr.Old wx w' → w'.cell? ⟨w.heap.size, 0, none⟩ = some (.int .i64 i) := fun w' h => (F.out w' (HO.out.out.trans (h.out.mono HO.out.out.size))).1
    have y1 : ∀ w', Tr.Old wx w' → w'.cell? ⟨w.heap.size, 1, none⟩ = some (.slice a1 ls.length c1) := fun w' h => (F.out w' (HO.out.out.trans (h.out.mono HO.out.out.size))).2.1
    have y2 : ∀ w', Tr.Old wx w' → w'.cell? ⟨w.heap.size, 2, none⟩ = some (.slice a2 lp.length c2) := fun w' h => (F.out w' (HO.out.out.trans (h.out.mono HO.out.out.size))).2.2
    have hO5 : Tr.Old wx wx.drew := Tr.Old.drew wx
    clear hpm hpc hl1 hl2
    go_wp2_with fail
    go_region_held3 (fun w' => Tr.Old wx w') (first | with_reducible assumption | exact Tr.Old.step (by with_reducible assumption) (by with_reducible assumption))
      (first
        | (go_at_call 23; (with_reducible refine (HMD.out _).mono ?_); intro e w6 ho6; obtain ⟨v6, rfl, hr6, hb6⟩ := ho6.row)
        | (go_at_call 24; (with_reducible refine (HCK.out _ (by with_reducible assumption)).mono ?_); intro e w7 ho7; obtain ⟨v7, rfl, hr7, hb7⟩ := ho7.row)
        | (refine step_rowg (by rfl) (.tmp 65) (.tmp 68) rfl (hr6.below hb7) rfl rfl hr7.tx (by have := HL.out; omega) (Nat.le_trans hb6.size hb7.size) ?_; intro v8 w8 hr8 hb8; have hO8 : Tr.Old wx w8 := (Below.trans ((Below.refl wx.heap.size wx).drew.trans hb6) (hb7.mono hb6.size)).trans hb8)
        | (go_at_call 22; (with_reducible refine (refshown_tx v8 _ hr8.tx (by decide) (by rw [List.length_append]; have := HL.out; omega) HSH.out).mono ?_); rintro e w9 ⟨rfl, hb9⟩))
    have HO9 := Lib.hid (Tr.Old.step hb9 hO8)
    clear hb6 hb7 hb8 hb9 hr6 hr7 hr8 ho6 ho7 hO8 hO5 y0 y1 y2
    go_wp2_with fail
    go_ret
    exact ⟨rfl, HB.out.trans ((HO.out.out.trans (HO9.out.out.mono HO.out.out.size)).mono HB.out.size)⟩

theorem law_walk (s : ByteArray) (a : Nat) (m : ByteArray) (v : Value) (i : Int) (ls lp : List ByteArray) (w : World) (_hs : s.size ≤ 9223372036854775807) (ha : a ≤ 255) (_hm : m.size ≤ 9223372036854775807) (hv : IsSeal w v i ls lp) (_hl : ∀ s ∈ ls, s.size ≤ 9223372036854775807) (_hq : ∀ s ∈ lp, s.size ≤ 9223372036854775807) (_h0 : -9223372036854775808 ≤ i) (_h1 : i ≤ 9223372036854775807) (ht : HasTab w) :
    Calls Tryd.prog 5 #[.string s, .int .u8 a, .string m, v] w fun e w' => e = .returned (.bool true) ∧ Below w.heap.size w w' := by
  cases hs : Sl.short [s, m] with
  | false => exact w_short s m a ha v i ls lp w hv ht hs
  | true =>
    cases hf : Sl.few ls lp with
    | false => exact w_few s m a ha v i ls lp w hv ht hs hf
    | true =>
      cases hn : Sl.verify (Sl.pub s.data.toList (a % 3)) m.data.toList i (Tr.bs ls) (Tr.bs lp) with
      | false => exact w_no s m a ha v i ls lp w hv ht hs hf hn
      | true =>
        obtain ⟨k, rfl⟩ : ∃ k : Nat, i = (k : Int) := ⟨i.toNat, by have := ((Sl.verify_accepts _ _ _ _ _).1 hn).1; omega⟩
        exact w_main s m a ha v k ls lp w hv ht hs hf hn

set_option maxRecDepth 100000 in
/-- What the walk gives, for all arguments and every world that holds the tables. -/
theorem contract (H : Type) (enc : TypeId × Value → H) (W : World) (base : Nat) (args : Array Value) (ds gs : List (DataW H)) (before : List MemPlace)
    (hval : ∀ (j : Nat) t v, Tryd.f5.params[j]? = some t → args[j]? = some v → Value.okWide Tryd.prog W .any base t v)
    (hW : DataW.Whole enc Tryd.prog Tryd.f5.params.toList Rows.sealSoundSpec.vars false W args.toList ds gs before) (hL : laidMetH Tryd.prog laidAll W) :
    Calls Tryd.prog 5 args W fun e W' => ∃ v, e = .returned v ∧ Rows.sealSoundSpec.post enc Tryd.prog Tryd.f5 false true false false W args v W' := by
  have hW' := hW
  obtain ⟨p, q, hA0, hV, rfl, hfz, hnd⟩ := hW
  have hA : DataW.TrodAll enc Tryd.prog W 0 (fun _ => true) true Tryd.f5.params.toList args.toList ds p := hA0
  rw [Tryd.params5] at hA hval
  obtain ⟨v0, vs0, d0, ds0, p0, q0, hargs, rfl, rfl, h0, r0⟩ := trodAll_cons hA
  obtain ⟨v1, vs1, d1, ds1, p1, q1, rfl, rfl, rfl, h1, r1⟩ := trodAll_cons r0
  obtain ⟨v2, vs2, d2, ds2, p2, q2, rfl, rfl, rfl, h2, r2⟩ := trodAll_cons r1
  obtain ⟨v3, vs3, d3, ds3, p3, q3, rfl, rfl, rfl, h3, r3⟩ := trodAll_cons r2
  obtain ⟨rfl, rfl, rfl⟩ := trodAll_nil r3
  obtain rfl : args = #[v0, v1, v2, v3] := by cases args; simp_all
  obtain ⟨rfl, rfl⟩ := trodVars_none hV
  obtain ⟨a0, rfl, _, _, g0⟩ := open_string Tryd.underlying9 (hval 0 9 v0 rfl rfl) h0
  obtain ⟨z1, rfl, _, _, g1⟩ := open_int Tryd.underlying5 (hval 1 5 v1 rfl rfl) h1
  obtain ⟨n1, rfl⟩ := Int.eq_ofNat_of_zero_le (bounds_u8 g1).1
  obtain ⟨a2, rfl, _, _, g2⟩ := open_string Tryd.underlying9 (hval 2 9 v2 rfl rfl) h2
  obtain ⟨i3, l3, m3, t3, s3, u3, x3, y3⟩ := open_seal (hval 3 24 v3 rfl rfl) h3
  refine (law_walk a0 n1 a2 v3 i3 l3 m3 W (le_of_max g0) (Int.ofNat_le.1 (bounds_u8 g1).2) (le_of_max g2) t3 s3 u3 x3 y3 (hasTab hL)).mono fun e W' ⟨he, hg⟩ => ?_
  subst he
  exact ⟨_, rfl, post_lawS rfl rfl rfl rfl rfl (by rw [Tryd.params5]; decide) hW' hg⟩

theorem laid_met (os : Os) : laidMet Tryd.prog Rows.sealSoundRow.laid ((laidWorld os).forCall (fun _ _ => 0) ⟨#[], #[.string ⟨#[]⟩, .int .u8 0, .string ⟨#[]⟩, .agg #[.int .i64 0, .slice none 0 0, .slice none 0 0]], []⟩).memory :=
  laidMet_of_run' 8 (by kernel_rfl) (by kernel_rfl)
theorem reads (os : Os) {H : Type} (enc : TypeId × Value → H) : ∃ places, DataW.whole enc Tryd.prog ((laidWorld os).forCall (fun _ _ => 0) ⟨#[], #[.string ⟨#[]⟩, .int .u8 0, .string ⟨#[]⟩, .agg #[.int .i64 0, .slice none 0 0, .slice none 0 0]], []⟩).memory Tryd.f5.params.toList Rows.sealSoundSpec.vars false #[Value.string ⟨#[]⟩, Value.int .u8 0, Value.string ⟨#[]⟩, Value.agg #[.int .i64 0, .slice none 0 0, .slice none 0 0]].toList 8 = some ([.lit (.string []), .lit (.int .u8 0), .lit (.string []), .agg [.lit (.int .i64 0), .nil, .nil]], [], places) :=
  ⟨[], by kernel_rfl⟩

set_option maxRecDepth 100000 in
theorem lifted (os : Os) (started : os.Started) (H : Type) (enc : TypeId × Value → H) (F : Stop.Interp) :
    ReturnsInHanded {} Tryd.checked os 5 .any ((OpenSpec.ofChange Rows.sealSoundSpec).preRow enc Tryd.prog Tryd.f5 Rows.sealSoundRow.domain false Rows.sealSoundRow.laid) (((OpenSpec.ofChange Rows.sealSoundSpec).at F).post enc Tryd.prog Tryd.f5 false true false false) := by
  obtain ⟨places, hx⟩ := reads os enc
  refine returnsInHanded_of_row (C := Tryd.checked) (s := OpenSpec.ofChange Rows.sealSoundSpec) own started (by kernel_rfl) Tryd.func5
    (witness_row_at (enc := enc) (C := Tryd.checked) false (laidWorld os) #[.string ⟨#[]⟩, .int .u8 0, .string ⟨#[]⟩, .agg #[.int .i64 0, .slice none 0 0, .slice none 0 0]] rfl (by kernel_rfl) (by kernel_rfl) (by kernel_rfl)
      (OpenSpec.preRow_of_cond 8 hx (by kernel_rfl) (fun k hk => by cases hk) (by kernel_rfl) (laid_met os))) ?_
  intro W base args ds gs before hval hW _ _ _ hL _ _
  exact contract H enc W base args ds gs before hval hW hL

theorem said : Rows.SealSoundSaid :=
  OpenClaim.holds_of_cond 5 Tryd.f5 rfl rfl rfl rfl rfl rfl rfl ⟨rfl, rfl, rfl, rfl, rfl⟩ rfl rfl rfl rfl rfl (by kernel_rfl) Tryd.func5 (by kernel_rfl)
    (of_decide_eq_true (by kernel_rfl)) (by unfold Func.isWrapper; first | (rw [if_pos (by decide +kernel)]; kernel_rfl) | (rw [if_neg (by decide +kernel)]; exact ⟨rfl, rfl⟩))
    (fun os started H enc _ F => by rw [OpenClaim.pre_eq_preRow]; exact lifted os started H enc F)

set_option maxRecDepth 100000 in
/-- No parameter wants a stand-in; the program's own looks are off: what the card asks. -/
theorem plain (f : FuncId) (fn : Func) (hf : Tryd.pinned.checked.prog.funcNamed "pandect/pandectlaw03.SealSound" = some f) (hfn : Tryd.pinned.checked.prog.funcs[f]? = some fn) :
    false = Tryd.pinned.checked.prog.looks [] ∧ ∀ (j : Nat) t, fn.params[j]? = some t → Tryd.pinned.checked.prog.wantsStandIn t = false := by
  obtain rfl : f = 5 := Option.some.inj ((show Tryd.prog.funcNamed "pandect/pandectlaw03.SealSound" = some 5 by kernel_rfl).symm.trans hf) |>.symm
  obtain rfl : fn = Tryd.f5 := (Option.some.inj (Tryd.func5.symm.trans hfn)).symm
  refine ⟨by kernel_rfl, fun j t ht => ?_⟩
  rw [Tryd.params5] at ht
  have hm := Array.mem_of_getElem? ht
  simp only [List.mem_toArray, List.mem_cons, List.not_mem_nil, or_false] at hm
  rcases hm with rfl | rfl | rfl | rfl
  · exact wants_string
  · exact wants_u8
  · exact wants_string
  · exact wants_seal

theorem card : Rows.SealSoundCardSaid :=
  Claim7.holds_tied_plain_at .later [] _ _ _ _ said (fun _ h => by cases h) (by kernel_rfl) (fun _ h => by cases h) sealSound_row_tie rfl ⟨rfl, rfl⟩ (by kernel_rfl) rfl plain (by kernel_rfl)
end Go.Proofs.YtklfkhhefjjpaaaDoor.sealSound
