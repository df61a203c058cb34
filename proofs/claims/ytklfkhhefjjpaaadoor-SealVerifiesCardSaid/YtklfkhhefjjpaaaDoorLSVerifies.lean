/-
  SealVerifies: for every secret, numbers and message the call returns true and its arguments stay, where the three tables of the library hold what the program's text lays.
-/
import Derived.Test.YtklfkhhefjjpaaaDoorLFrameS
import Derived.Test.YtklfkhhefjjpaaaDoorSHead
import Derived.Test.YtklfkhhefjjpaaaDoorSFew
namespace Go.Proofs.YtklfkhhefjjpaaaDoor.sealVerifies
open Go.ChangeShapes Go.WideShapes Go.ChangeAt Go.RowKit
open Go.WideMaps Go.WideElems
open Go.ChangeMaps (open_string shut_string)

set_option maxHeartbeats 2000000 in
set_option maxRecDepth 100000 in
theorem w_short (s m : ByteArray) (a b : Nat) (w : World) (ht : HasTab w) (hs : Sl.short [s, m] = false) :
    Calls Tryd.prog 4 #[.string s, .int .u8 a, .int .u8 b, .string m] w fun e w' => e = .returned (.bool true) ∧ Below w.heap.size w w' := by
  have HT := Lib.hid ht
  have HS := Lib.hid hs
  clear ht hs
  go_enter Tryd.func4, Tryd.ntmps4
  go_wp2_with fail
  refine (head_walk _ HT.out).mono ?_
  rintro e w1 ⟨rfl, hb⟩
  have HB := Lib.hid hb
  clear hb
  go_wp2_with fail
  refine (short_false _ [s, m] _ (tx_two _ _ _) HS.out).mono ?_
  rintro e w2 ⟨rfl, rfl⟩
  go_wp2_with fail
  go_ret
  exact ⟨rfl, HB.out.alloc HB.out.size _⟩

set_option maxHeartbeats 2000000 in
set_option maxRecDepth 100000 in
theorem w_main (s m : ByteArray) (a b : Nat) (ha : a ≤ 255) (hb : b ≤ 255) (w : World) (ht : HasTab w) (hs : Sl.short [s, m] = true) :
    Calls Tryd.prog 4 #[.string s, .int .u8 a, .int .u8 b, .string m] w fun e w' => e = .returned (.bool true) ∧ Below w.heap.size w w' := by
  have HT := Lib.hid ht
  have HS := Lib.hid hs
  have hzs := Sl.short_out hs s (by simp)
  have hzm := Sl.short_out hs m (by simp)
  obtain ⟨h, hh⟩ : ∃ h, h = a % 4 := ⟨_, rfl⟩
  have hh4 : h ≤ 3 := by omega
  have hh' : (a : Int) % 4 = (h : Int) := by omega
  obtain ⟨N, hN, hN0, hN8, hsh⟩ := Sl.pow_facts h (by omega)
  obtain ⟨i, hi⟩ : ∃ i, i = b % N := ⟨_, rfl⟩
  have hiN : i < N := by rw [hi]; exact Nat.mod_lt _ hN0
  have hi' : (b : Int) % (N : Int) = (i : Int) := by rw [hi]; rfl
  have hNz : ((N : Int) == 0) = false := beq_eq_false_iff_ne.2 (by omega)
  have HN := Lib.hid hN
  have HIN := Lib.hid hiN
  clear ht hs hh hi hN hiN
  go_enter Tryd.func4, Tryd.ntmps4
  go_wp2_with fail
  refine (head_walk _ HT.out).mono ?_
  rintro e w1 ⟨rfl, hb⟩
  have HB := Lib.hid hb
  replace HT := Lib.hid (HT.out.below hb)
  clear hb
  go_wp2_with fail
  refine (short_true _ [s, m] _ (tx_two _ _ _) HS.out).mono ?_
  rintro e w2 ⟨rfl, rfl⟩
  replace HT := Lib.hid (HT.out.below ((Below.refl w1.heap.size w1).alloc (Nat.le_refl _) (.cells #[.string s, .string m] 9)))
  replace HB := Lib.hid (HB.out.alloc HB.out.size (.cells #[.string s, .string m] 9))
  go_wp2_with fail
  simp only [hh', hi', hsh]
  clear hh' hi' hsh hNz
  refine (public_ok s hzs h (by omega) _ HT.out).mono ?_
  rintro e w2 ⟨r1, rfl, hr1, hz1, hb⟩
  replace HB := Lib.hid (HB.out.trans (hb.mono HB.out.size))
  replace HT := Lib.hid (HT.out.below hb)
  clear hb
  have HSG : Hid (∀ (g : Nat) (w' : World), g ≤ 4 → i < 2 ^ g → HasTab w' → Calls Tryd.prog 15 #[.string s, .int .i64 g, .int .i64 i, .string m] w' (SealOut i (Sl.sig s.data.toList i m.data.toList) (Tr.path (Sl.keys s.data.toList g) i) 0 w')) := fun g w' hg hi hw => by
    exact sign_ok s hzs g (by omega) i hi m hzm w' hw
  go_wp2_with fail
  refine (HSG.out h w2 (by omega) (by rw [← HN.out]; exact HIN.out) HT.out).mono ?_
  intro e w3 hs
  obtain ⟨a1, a2, c1, c2, ls, lp, rfl, hx1, hx2, hx3, hx4, hx5, hx6, hb⟩ := hs.seal
  clear hs
  replace HB := Lib.hid (HB.out.trans (hb.mono HB.out.size))
  replace HT := Lib.hid (HT.out.below hb)
  have h18 : ls.length = 18 := by rw [Tr.len_of hx2, Sl.sig_length]
  have h2 : lp.length = h := by rw [Tr.len_of hx5, Sl.path_len _ _ _ (by rw [← HN.out]; exact HIN.out)]
  rw [h18] at hx1 ⊢
  rw [h2] at hx4 ⊢
  clear hb
  go_wp2_with fail
  have hb3 := (Below.refl w3.heap.size w3).alloc (Nat.le_refl _) (.cells #[.int .i64 i, .slice a1 18 c1, .slice a2 h c2] 24)
  have hk3 := heap_alloc_new w3 (.cells #[.int .i64 i, .slice a1 18 c1, .slice a2 h c2] 24)
  refine (HSG.out h _ (by omega) (by rw [← HN.out]; exact HIN.out) (HT.out.below hb3)).mono ?_
  intro e w4 hs
  obtain ⟨a3, a4, c3, c4, ls2, lp2, rfl, hy1, hy2, hy3, hy4, hy5, hy6, hb⟩ := hs.seal
  clear hs
  have hk4 := (hb.block _ (lt_of_block hk3)).trans hk3
  have hb34 := hb3.trans (hb.mono hb3.size)
  clear hb hk3 hb3
  go_wp2_with fail
  have hb4 := (Below.refl w4.heap.size w4).alloc (Nat.le_refl _) (.cells #[.int .i64 i, .slice a3 ls2.length c3, .slice a4 lp2.length c4] 24)
  have hk5 := heap_alloc_new w4 (.cells #[.int .i64 i, .slice a3 ls2.length c3, .slice a4 lp2.length c4] 24)
  have hsgn := HSG.out (h + 1) _ (by omega) (by rw [Nat.pow_succ, ← HN.out]; have := HIN.out; omega) (HT.out.below (hb34.trans (hb4.mono hb34.size)))
  rw [show ((h + 1 : Nat) : Int) = (h : Int) + 1 by omega] at hsgn
  refine hsgn.mono ?_
  clear hsgn
  intro e w5 hs
  obtain ⟨a5, a6, c5, c6, ls3, lp3, rfl, hu1, hu2, hu3, hu4, hu5, hu6, hb⟩ := hs.seal
  clear hs
  have hb45 := hb4.trans (hb.mono hb4.size)
  have hk45 := (hb45.block _ (lt_of_block hk4)).trans hk4
  have hk55 := (hb.block _ (lt_of_block hk5)).trans hk5
  have hlt3 := lt_of_block hk45
  have hlt4 := lt_of_block hk55
  have d0 := Joins.cell_of_block hk45 0
  have d1 := Joins.cell_of_block hk45 1
  have d2 := Joins.cell_of_block hk45 2
  have e0 := Joins.cell_of_block hk55 0
  have e1 := Joins.cell_of_block hk55 1
  have e2 := Joins.cell_of_block hk55 2
  have hk6 := heap_alloc_new w5 (.cells #[.int .i64 i, .slice a5 ls3.length c5, .slice a6 lp3.length c6] 24)
  have hb6 := (Below.refl w5.heap.size w5).alloc (Nat.le_refl _) (.cells #[.int .i64 i, .slice a5 ls3.length c5, .slice a6 lp3.length c6] 24)
  have hk46 := (hb6.block _ (lt_of_block hk45)).trans hk45
  have hb36 := hb34.trans ((hb45.trans (hb6.mono hb45.size)).mono hb34.size)
  have hb46 := hb45.trans (hb6.mono hb45.size)
  have HX1 := Lib.hid (hx1.below hb36)
  have HX4 := Lib.hid (hx4.below hb36)
  have HY1 := Lib.hid (hy1.below hb46)
  have HY4 := Lib.hid (hy4.below hb46)
  have HU1 := Lib.hid (hu1.below hb6)
  have HX := Lib.hid (And.intro hx2 (And.intro hx3 (And.intro hx5 hx6)))
  have HYU := Lib.hid (And.intro hy2 (And.intro hy5 hu2))
  have H18 := Lib.hid h18
  have H2 := Lib.hid h2
  replace HB := Lib.hid (HB.out.trans (hb36.mono HB.out.size))
  replace HT := Lib.hid (HT.out.below hb36)
  have HK46 := Lib.hid hk46
  have HK6 := Lib.hid hk6
  have hq1 : ((h : Int) != (h : Int)) = false := by simp
  have hq2 : ((i : Int) != (i : Int)) = false := by simp
  clear hb hb45 hb34 hb4 hk4 hk5 hk45 hk55 hk6 hb6 hk46 hb36 hb46 hx1 hx2 hx3 hx4 hx5 hx6 hy1 hy2 hy3 hy4 hy5 hy6 hu1 hu2 hu3 hu4 hu5 hu6 h18 h2
  go_wp2_with fail
  have hsame : Sl.same i i ls lp ls2 lp2 = true := by
    obtain ⟨q1, _, q2, _⟩ := HX.out
    obtain ⟨q3, q4, _⟩ := HYU.out
    unfold Sl.same Dg.same
    rw [decide_eq_true rfl, decide_eq_true (show ls.map (·.data.toList) = ls2.map (·.data.toList) from q1.out.trans q3.out.symm), decide_eq_true (show lp.map (·.data.toList) = lp2.map (·.data.toList) from q2.out.trans q4.out.symm)]
    rfl
  have hsm := same03_walk _ _ i i ls lp ls2 lp2 _ ⟨_, _, rfl, HX1.out, HX4.out⟩ ⟨_, _, rfl, HY1.out, HY4.out⟩
  rw [hsame] at hsm
  refine hsm.mono ?_
  clear hsm hsame
  rintro e w7 ⟨rfl, hb⟩
  have hk47 := (hb.block _ (lt_of_block HK46.out)).trans HK46.out
  have hk67 := (hb.block _ (lt_of_block HK6.out)).trans HK6.out
  replace HB := Lib.hid ((HB.out.trans (hb.mono HB.out.size)))
  replace HT := Lib.hid (HT.out.below hb)
  replace HX1 := Lib.hid (HX1.out.below hb)
  replace HX4 := Lib.hid (HX4.out.below hb)
  replace HU1 := Lib.hid (HU1.out.below hb)
  have y0 : ∀ w', Tr.Old w7 w' → w'.cell? ⟨w3.heap.size, 0, none⟩ = some (.int .i64 i) := fun w' h => (seal_block h.out hk47).1
  have y1 : ∀ w', Tr.Old w7 w' → w'.cell? ⟨w3.heap.size, 1, none⟩ = some (.slice a1 18 c1) := fun w' h => (seal_block h.out hk47).2.1
  have y2 : ∀ w', Tr.Old w7 w' → w'.cell? ⟨w3.heap.size, 2, none⟩ = some (.slice a2 h c2) := fun w' h => (seal_block h.out hk47).2.2
  have z1 : ∀ w', Tr.Old w7 w' → w'.cell? ⟨w5.heap.size, 1, none⟩ = some (.slice a5 ls3.length c5) := fun w' h => (seal_block h.out hk67).2.1
  have hO := Tr.Old.refl w7
  obtain ⟨k1, k2, b1, o1, rfl, hlt1, hcc1⟩ := HX1.out.laid H18.out (by decide)
  have HC1 : Hid (∀ j, j < 18 → w7.cell? ⟨b1, o1 + j, none⟩ = some (.string (ls.getD j ByteArray.empty))) := fun j hj => hcc1 j (by have := H18.out; omega)
  have HC2 : Hid (∀ k, k < h → ∃ b off, a2 = some ⟨b, off, none⟩ ∧ w7.cell? ⟨b, off + k, none⟩ = some (.string (lp.getD k ByteArray.empty))) := fun k hk => by
    obtain ⟨a, cap, e, _, _, hc⟩ := HX4.out
    cases e
    obtain ⟨b, off, e, hlt, hc⟩ := hc (by intro e; rw [e] at hk; simp at hk)
    exact ⟨b, off, e, hc k hk⟩
  have HD1 : Hid (∀ k, k < 18 → Dg.isDigest (ls.getD k ByteArray.empty).data.toList = true) := fun k hk => by
    have hl : k < ls.length := by rw [H18.out]; exact hk
    have h1 : (Tr.bs ls).all Dg.isDigest = true := by rw [HX.out.1.out]; exact Sl.sig_digests _ _ _
    rw [Dg.getD_eq ls k hl]
    exact List.all_eq_true.1 h1 _ (List.mem_map.2 ⟨_, List.getElem_mem _, rfl⟩)
  have HD2 : Hid (∀ k, k < h → Dg.isDigest (lp.getD k ByteArray.empty).data.toList = true) := fun k hk => by
    have hl : k < lp.length := by rw [H2.out]; exact hk
    have h1 : (Tr.bs lp).all Dg.isDigest = true := by rw [HX.out.2.2.1.out]; exact Tr.path_digests _ _ _ rfl
    rw [Dg.getD_eq lp k hl]
    exact List.all_eq_true.1 h1 _ (List.mem_map.2 ⟨_, List.getElem_mem _, rfl⟩)
  clear hb hk47 hk67 HK46 HK6 hcc1 HSG
  go_wp2_with fail
  go_loop [20] (fun i => ∃ k : Nat, k ≤ 18 ∧ i = .int .i64 k) (fun i => 18 - (intOf i).toNat)
  case atStart => exact ⟨0, Nat.zero_le _, rfl⟩
  case round =>
    obtain ⟨k, hk, rfl⟩ := hrel
    by_cases hlt : k < 18
    · obtain ⟨t, htk⟩ : ∃ t, t = ls.getD k ByteArray.empty := ⟨_, rfl⟩
      have hcell := HC1.out k hlt
      have hdt := HD1.out k hlt
      rw [← htk] at hcell hdt
      have htz := Sl.dig_size hdt
      have HDT := Lib.hid hdt
      clear htk hdt
      go_wp2_with fail
      refine (is_true t (by omega) HDT.out _).mono ?_
      rintro e w6 ⟨rfl, rfl⟩
      go_wp2_with fail
      go_round
      case rel => exact ⟨k + 1, by omega, by go_num⟩
      case measure => simp [intOf]; omega
    · have hk18 : k = 18 := by omega
      subst hk18
      clear hlt hk
      go_wp2_with fail
      go_loop [21] (fun i => ∃ k : Nat, k ≤ h ∧ i = .int .i64 k) (fun i => h - (intOf i).toNat)
      case atStart => exact ⟨0, Nat.zero_le _, rfl⟩
      case round =>
        obtain ⟨k, hk, rfl⟩ := hrel
        by_cases hlt : k < h
        · obtain ⟨t, htk⟩ : ∃ t, t = lp.getD k ByteArray.empty := ⟨_, rfl⟩
          obtain ⟨b2, o2, rfl, hcell⟩ := HC2.out k hlt
          have hdt := HD2.out k hlt
          rw [← htk] at hcell hdt
          have htz := Sl.dig_size hdt
          have HDT := Lib.hid hdt
          have hkh : (k : Int) < (h : Int) := by omega
          clear htk hdt
          go_wp2_with fail
          refine (is_true t (by omega) HDT.out _).mono ?_
          rintro e w6 ⟨rfl, rfl⟩
          go_wp2_with fail
          go_round
          case rel => exact ⟨k + 1, by omega, by go_num⟩
          case measure => simp [intOf]; omega
        · have hkh : ¬ (k : Int) < (h : Int) := by omega
          have hdp : Dg.isDigest r1.data.toList = true := by rw [hr1.out]; exact Tr.root_isDigest _
          have HDP := Lib.hid hdp
          clear hlt hk hdp
          go_wp2_with fail
          refine (is_true r1 (by omega) HDP.out _).mono ?_
          rintro e w6 ⟨rfl, rfl⟩
          go_wp2_with fail
          have hsm := same_any _ _ ls3 ls true _ HU1.out.texts HX1.out.texts HU1.out.len HX1.out.len (by
            unfold Dg.same
            exact decide_eq_true (show ls3.map (·.data.toList) = ls.map (·.data.toList) from HYU.out.2.2.out.trans HX.out.1.out.symm))
          refine hsm.mono ?_
          clear hsm
          rintro e w8 ⟨rfl, hb⟩
          have hO8 := Tr.Old.step hb hO
          have HB8 := Lib.hid hb
          clear hb
          go_wp2_with fail
          have hv := verify_walk r1 m hzm _ i ls lp w8 ⟨_, _, rfl, HX1.out.below HB8.out, HX4.out.below HB8.out⟩ (fun s h => by have := HX.out.2.1 s h; omega) (fun s h => by have := HX.out.2.2.2 s h; omega) (HT.out.below HB8.out)
          rw [hr1.out, HX.out.1.out, HX.out.2.2.1.out, Sl.verify_sig _ _ _ _ (by omega) (by rw [← HN.out]; exact HIN.out)] at hv
          refine hv.mono ?_
          clear hv
          rintro e w9 ⟨rfl, hb⟩
          go_wp2_with fail
          go_ret
          exact ⟨rfl, HB.out.trans ((HB8.out.trans (hb.mono HB8.out.size)).mono HB.out.size)⟩

theorem law_walk (s : ByteArray) (a b : Nat) (m : ByteArray) (w : World) (_hs : s.size ≤ 9223372036854775807) (ha : a ≤ 255) (hb : b ≤ 255) (_hm : m.size ≤ 9223372036854775807) (ht : HasTab w) :
    Calls Tryd.prog 4 #[.string s, .int .u8 a, .int .u8 b, .string m] w fun e w' => e = .returned (.bool true) ∧ Below w.heap.size w w' := by
  cases hs : Sl.short [s, m] with
  | false => exact w_short s m a b w ht hs
  | true => exact w_main s m a b ha hb w ht hs

set_option maxRecDepth 100000 in
/-- What the walk gives, for all arguments and every world that holds the tables. -/
theorem contract (H : Type) (enc : TypeId × Value → H) (W : World) (base : Nat) (args : Array Value) (ds gs : List (DataW H)) (before : List MemPlace)
    (hval : ∀ (j : Nat) t v, Tryd.f4.params[j]? = some t → args[j]? = some v → Value.okWide Tryd.prog W .any base t v)
    (hW : DataW.Whole enc Tryd.prog Tryd.f4.params.toList Rows.sealVerifiesSpec.vars false W args.toList ds gs before) (hL : laidMetH Tryd.prog laidAll W) :
    Calls Tryd.prog 4 args W fun e W' => ∃ v, e = .returned v ∧ Rows.sealVerifiesSpec.post enc Tryd.prog Tryd.f4 false true false false W args v W' := by
  have hW' := hW
  obtain ⟨p, q, hA0, hV, rfl, hfz, hnd⟩ := hW
  have hA : DataW.TrodAll enc Tryd.prog W 0 (fun _ => true) true Tryd.f4.params.toList args.toList ds p := hA0
  rw [Tryd.params4] at hA hval
  obtain ⟨v0, vs0, d0, ds0, p0, q0, hargs, rfl, rfl, h0, r0⟩ := trodAll_cons hA
  obtain ⟨v1, vs1, d1, ds1, p1, q1, rfl, rfl, rfl, h1, r1⟩ := trodAll_cons r0
  obtain ⟨v2, vs2, d2, ds2, p2, q2, rfl, rfl, rfl, h2, r2⟩ := trodAll_cons r1
  obtain ⟨v3, vs3, d3, ds3, p3, q3, rfl, rfl, rfl, h3, r3⟩ := trodAll_cons r2
  obtain ⟨rfl, rfl, rfl⟩ := trodAll_nil r3
  obtain rfl : args = #[v0, v1, v2, v3] := by cases args; simp_all
  obtain ⟨rfl, rfl⟩ := trodVars_none hV
  obtain ⟨a0, rfl, _, _, g0⟩ := open_string Tryd.underlying9 (hval 0 9 v0 rfl rfl) h0
  obtain ⟨z1, rfl, _, _, g1⟩ := open_int Tryd.underlying5 (hval 1 5 v1 rfl rfl) h1
  obtain ⟨n1, rfl⟩ := Int.eq_ofNat_of_zero_le (bounds_u8 g1).1
  obtain ⟨z2, rfl, _, _, g2⟩ := open_int Tryd.underlying5 (hval 2 5 v2 rfl rfl) h2
  obtain ⟨n2, rfl⟩ := Int.eq_ofNat_of_zero_le (bounds_u8 g2).1
  obtain ⟨a3, rfl, _, _, g3⟩ := open_string Tryd.underlying9 (hval 3 9 v3 rfl rfl) h3
  refine (law_walk a0 n1 n2 a3 W (le_of_max g0) (Int.ofNat_le.1 (bounds_u8 g1).2) (Int.ofNat_le.1 (bounds_u8 g2).2) (le_of_max g3) (hasTab hL)).mono fun e W' ⟨he, hg⟩ => ?_
  subst he
  exact ⟨_, rfl, post_lawS rfl rfl rfl rfl rfl (by rw [Tryd.params4]; decide) hW' hg⟩

theorem laid_met (os : Os) : laidMet Tryd.prog Rows.sealVerifiesRow.laid ((laidWorld os).forCall (fun _ _ => 0) ⟨#[], #[.string ⟨#[]⟩, .int .u8 0, .int .u8 0, .string ⟨#[]⟩], []⟩).memory :=
  laidMet_of_run' 8 (by kernel_rfl) (by kernel_rfl)
theorem reads (os : Os) {H : Type} (enc : TypeId × Value → H) : ∃ places, DataW.whole enc Tryd.prog ((laidWorld os).forCall (fun _ _ => 0) ⟨#[], #[.string ⟨#[]⟩, .int .u8 0, .int .u8 0, .string ⟨#[]⟩], []⟩).memory Tryd.f4.params.toList Rows.sealVerifiesSpec.vars false #[Value.string ⟨#[]⟩, Value.int .u8 0, Value.int .u8 0, Value.string ⟨#[]⟩].toList 8 = some ([.lit (.string []), .lit (.int .u8 0), .lit (.int .u8 0), .lit (.string [])], [], places) :=
  ⟨[], by kernel_rfl⟩

set_option maxRecDepth 100000 in
theorem lifted (os : Os) (started : os.Started) (H : Type) (enc : TypeId × Value → H) (F : Stop.Interp) :
    ReturnsInHanded {} Tryd.checked os 4 .any ((OpenSpec.ofChange Rows.sealVerifiesSpec).preRow enc Tryd.prog Tryd.f4 Rows.sealVerifiesRow.domain false Rows.sealVerifiesRow.laid) (((OpenSpec.ofChange Rows.sealVerifiesSpec).at F).post enc Tryd.prog Tryd.f4 false true false false) := by
  obtain ⟨places, hx⟩ := reads os enc
  refine returnsInHanded_of_row (C := Tryd.checked) (s := OpenSpec.ofChange Rows.sealVerifiesSpec) own started (by kernel_rfl) Tryd.func4
    (witness_row_at (enc := enc) (C := Tryd.checked) false (laidWorld os) #[.string ⟨#[]⟩, .int .u8 0, .int .u8 0, .string ⟨#[]⟩] rfl (by kernel_rfl) (by kernel_rfl) (by kernel_rfl)
      (OpenSpec.preRow_of_cond 8 hx (by kernel_rfl) (fun k hk => by cases hk) (by kernel_rfl) (laid_met os))) ?_
  intro W base args ds gs before hval hW _ _ _ hL _ _
  exact contract H enc W base args ds gs before hval hW hL

theorem said : Rows.SealVerifiesSaid :=
  OpenClaim.holds_of_cond 4 Tryd.f4 rfl rfl rfl rfl rfl rfl rfl ⟨rfl, rfl, rfl, rfl, rfl⟩ rfl rfl rfl rfl rfl (by kernel_rfl) Tryd.func4 (by kernel_rfl)
    (of_decide_eq_true (by kernel_rfl)) (by unfold Func.isWrapper; first | (rw [if_pos (by decide +kernel)]; kernel_rfl) | (rw [if_neg (by decide +kernel)]; exact ⟨rfl, rfl⟩))
    (fun os started H enc _ F => by rw [OpenClaim.pre_eq_preRow]; exact lifted os started H enc F)

set_option maxRecDepth 100000 in
/-- No parameter wants a stand-in; the program's own looks are off: what the card asks. -/
theorem plain (f : FuncId) (fn : Func) (hf : Tryd.pinned.checked.prog.funcNamed "pandect/pandectlaw03.SealVerifies" = some f) (hfn : Tryd.pinned.checked.prog.funcs[f]? = some fn) :
    false = Tryd.pinned.checked.prog.looks [] ∧ ∀ (j : Nat) t, fn.params[j]? = some t → Tryd.pinned.checked.prog.wantsStandIn t = false := by
  obtain rfl : f = 4 := Option.some.inj ((show Tryd.prog.funcNamed "pandect/pandectlaw03.SealVerifies" = some 4 by kernel_rfl).symm.trans hf) |>.symm
  obtain rfl : fn = Tryd.f4 := (Option.some.inj (Tryd.func4.symm.trans hfn)).symm
  refine ⟨by kernel_rfl, fun j t ht => ?_⟩
  rw [Tryd.params4] at ht
  have hm := Array.mem_of_getElem? ht
  simp only [List.mem_toArray, List.mem_cons, List.not_mem_nil, or_false] at hm
  rcases hm with rfl | rfl | rfl | rfl
  · exact wants_string
  · exact wants_u8
  · exact wants_u8
  · exact wants_string

theorem card : Rows.SealVerifiesCardSaid :=
  Claim7.holds_tied_plain_at .later [] _ _ _ _ said (fun _ h => by cases h) (by kernel_rfl) (fun _ h => by cases h) sealVerifies_row_tie rfl ⟨rfl, rfl⟩ (by kernel_rfl) rfl plain (by kernel_rfl)
end Go.Proofs.YtklfkhhefjjpaaaDoor.sealVerifies
