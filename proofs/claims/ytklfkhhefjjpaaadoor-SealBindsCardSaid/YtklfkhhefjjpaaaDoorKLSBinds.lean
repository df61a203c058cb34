import Derived.Test.YtklfkhhefjjpaaaDoorKLFrameS
import Derived.Test.YtklfkhhefjjpaaaDoorKSChecked
/-
  SealBinds: for every secret, numbers and two messages the call returns true and its arguments stay, where the three tables of the library hold what the program's text lays.
-/
namespace Go.Proofs.YtklfkhhefjjpaaaDoor.sealBinds
open Go.ChangeShapes Go.WideShapes Go.ChangeAt Go.RowKit
open Go.WideMaps Go.WideElems
open Go.ChangeMaps (open_string shut_string)

set_option maxHeartbeats 2000000 in
set_option maxRecDepth 100000 in
theorem w_short (s m o : ByteArray) (a b : Nat) (ha : a ≤ 255) (hb : b ≤ 255) (w : World) (ht : HasTab w) (hs : Sl.short [s, m, o] = false) :
    Calls Tryd.prog 6 #[.string s, .int .u8 a, .int .u8 b, .string m, .string o] w fun e w' => e = .returned (.bool true) ∧ Below w.heap.size w w' := by
  have HT := Lib.hid ht
  have HS := Lib.hid hs
  obtain ⟨h, hh⟩ : ∃ h, h = a % 3 := ⟨_, rfl⟩
  have hh4 : h ≤ 2 := by omega
  have hh' : (a : Int) % 3 = (h : Int) := by omega
  obtain ⟨N, hN, hN0, hN8, hsh⟩ := Sl.pow_facts h (by omega)
  have hNz : ((N : Int) == 0) = false := beq_eq_false_iff_ne.2 (by omega)
  clear ht hs hh hN
  go_enter Tryd.func6, Tryd.ntmps6
  go_wp2_with fail
  refine (head_walk _ HT.out).mono ?_
  rintro e w1 ⟨rfl, hb⟩
  have HB := Lib.hid hb
  clear hb
  go_wp2_with fail
  refine (short_false _ [s, m, o] _ (tx_three _ _ _ _) HS.out).mono ?_
  rintro e w2 ⟨rfl, rfl⟩
  go_wp2_with fail
  go_ret
  exact ⟨rfl, HB.out.alloc HB.out.size _⟩

set_option maxHeartbeats 2000000 in
set_option maxRecDepth 100000 in
theorem w_same (s m o : ByteArray) (a b : Nat) (ha : a ≤ 255) (hb : b ≤ 255) (w : World) (ht : HasTab w) (hs : Sl.short [s, m, o] = true) (hst : Dg.sum m.data.toList = Dg.sum o.data.toList) :
    Calls Tryd.prog 6 #[.string s, .int .u8 a, .int .u8 b, .string m, .string o] w fun e w' => e = .returned (.bool true) ∧ Below w.heap.size w w' := by
  have HT := Lib.hid ht
  have HS := Lib.hid hs
  have HST := Lib.hid hst
  have hzm := Sl.short_out hs m (by simp)
  have hzo := Sl.short_out hs o (by simp)
  obtain ⟨h, hh⟩ : ∃ h, h = a % 3 := ⟨_, rfl⟩
  have hh4 : h ≤ 2 := by omega
  have hh' : (a : Int) % 3 = (h : Int) := by omega
  obtain ⟨N, hN, hN0, hN8, hsh⟩ := Sl.pow_facts h (by omega)
  have hNz : ((N : Int) == 0) = false := beq_eq_false_iff_ne.2 (by omega)
  clear ht hs hh hN hst
  go_enter Tryd.func6, Tryd.ntmps6
  go_wp2_with fail
  refine (head_walk _ HT.out).mono ?_
  rintro e w1 ⟨rfl, hb⟩
  have HB := Lib.hid hb
  clear hb
  go_wp2_with fail
  refine (short_true _ [s, m, o] _ (tx_three _ _ _ _) HS.out).mono ?_
  rintro e w2 ⟨rfl, rfl⟩
  go_wp2_with fail
  refine (refsum_ex m (by omega) _).mono ?_
  rintro e w2 ⟨q1, rfl, _, hq1, rfl⟩
  go_wp2_with fail
  refine (refsum_ex o (by omega) _).mono ?_
  rintro e w2 ⟨q2, rfl, _, hq2, rfl⟩
  have hq : (q1.toList == q2.toList) = true := by
    rw [str_eq, hq1.out, hq2.out]
    exact decide_eq_true HST.out
  clear hq1 hq2
  go_wp2_with fail
  go_ret
  exact ⟨rfl, HB.out.alloc HB.out.size _⟩

set_option maxHeartbeats 2000000 in
set_option maxRecDepth 100000 in
theorem w_main (s m o : ByteArray) (a b : Nat) (ha : a ≤ 255) (hb : b ≤ 255) (w : World) (ht : HasTab w) (hs : Sl.short [s, m, o] = true) (hst : Dg.sum m.data.toList ≠ Dg.sum o.data.toList) :
    Calls Tryd.prog 6 #[.string s, .int .u8 a, .int .u8 b, .string m, .string o] w fun e w' => e = .returned (.bool true) ∧ Below w.heap.size w w' := by
  have HT := Lib.hid ht
  have HS := Lib.hid hs
  have HST := Lib.hid hst
  have hzs := Sl.short_out hs s (by simp)
  have hzm := Sl.short_out hs m (by simp)
  have hzo := Sl.short_out hs o (by simp)
  obtain ⟨h, hh⟩ : ∃ h, h = a % 3 := ⟨_, rfl⟩
  have hh4 : h ≤ 2 := by omega
  have hh' : (a : Int) % 3 = (h : Int) := by omega
  obtain ⟨N, hN, hN0, hN8, hsh⟩ := Sl.pow_facts h (by omega)
  obtain ⟨i, hi⟩ : ∃ i, i = b % N := ⟨_, rfl⟩
  have hiN : i < N := by rw [hi]; exact Nat.mod_lt _ hN0
  have hi' : (b : Int) % (N : Int) = (i : Int) := by rw [hi]; rfl
  have hNz : ((N : Int) == 0) = false := beq_eq_false_iff_ne.2 (by omega)
  have HN := Lib.hid hN
  have HIN := Lib.hid hiN
  clear ht hs hh hi hN hiN hst
  go_enter Tryd.func6, Tryd.ntmps6
  go_wp2_with fail
  refine (head_walk _ HT.out).mono ?_
  rintro e w1 ⟨rfl, hb⟩
  have HB := Lib.hid hb
  replace HT := Lib.hid (HT.out.below hb)
  clear hb
  go_wp2_with fail
  refine (short_true _ [s, m, o] _ (tx_three _ _ _ _) HS.out).mono ?_
  rintro e w2 ⟨rfl, rfl⟩
  replace HT := Lib.hid (HT.out.below ((Below.refl w1.heap.size w1).alloc (Nat.le_refl _) (.cells #[.string s, .string m, .string o] 9)))
  replace HB := Lib.hid (HB.out.alloc HB.out.size (.cells #[.string s, .string m, .string o] 9))
  go_wp2_with fail
  refine (refsum_ex m (by omega) _).mono ?_
  rintro e w2 ⟨q1, rfl, _, hq1, rfl⟩
  go_wp2_with fail
  refine (refsum_ex o (by omega) _).mono ?_
  rintro e w2 ⟨q2, rfl, _, hq2, rfl⟩
  have hq : (q1.toList == q2.toList) = false := by
    rw [str_eq, hq1.out, hq2.out]
    exact decide_eq_false HST.out
  clear hq1 hq2
  go_wp2_with fail
  try simp only [hh', hi', hsh]
  clear hh' hi' hsh hNz
  refine (public_ok s hzs h (by omega) _ HT.out).mono ?_
  rintro e w2 ⟨r1, rfl, hr1, hz1, hb⟩
  replace HB := Lib.hid (HB.out.trans (hb.mono HB.out.size))
  replace HT := Lib.hid (HT.out.below hb)
  clear hb
  go_wp2_with fail
  refine (sign_ok s hzs h (by omega) i (by rw [← HN.out]; exact HIN.out) m hzm w2 HT.out).mono ?_
  intro e w3 hs
  obtain ⟨a1, a2, c1, c2, ls, lp, rfl, hx1, hx2, hx3, hx4, hx5, hx6, hb⟩ := hs.seal
  clear hs
  replace HB := Lib.hid (HB.out.trans (hb.mono HB.out.size))
  replace HT := Lib.hid (HT.out.below hb)
  clear hb
  have HX := Lib.hid (And.intro hx2 (And.intro hx3 (And.intro hx5 hx6)))
  have HX1 := Lib.hid hx1
  have HX4 := Lib.hid hx4
  clear hx1 hx2 hx3 hx4 hx5 hx6
  go_wp2_with fail
  have hb3 := (Below.refl w3.heap.size w3).alloc (Nat.le_refl _) (.cells #[.int .i64 i, .slice a1 ls.length c1, .slice a2 lp.length c2] 24)
  replace HB := Lib.hid (HB.out.trans (hb3.mono HB.out.size))
  have hv := verify_walk r1 o hzo _ i ls lp _ ⟨_, _, rfl, HX1.out.below hb3, HX4.out.below hb3⟩ (fun s h => by have := HX.out.2.1 s h; omega) (fun s h => by have := HX.out.2.2.2 s h; omega) (HT.out.below hb3)
  rw [hr1.out, HX.out.1.out, HX.out.2.2.1.out] at hv
  obtain ⟨c, hc⟩ : ∃ c, c = Sl.verify (Sl.pub s.data.toList h) o.data.toList (i : Nat) (Sl.sig s.data.toList i m.data.toList) (Tr.path (Sl.keys s.data.toList h) i) := ⟨_, rfl⟩
  rw [← hc] at hv
  cases c with
  | false =>
    refine hv.mono ?_
    clear hv hc
    rintro e w5 ⟨rfl, hb⟩
    go_wp2_with fail
    go_ret
    exact ⟨rfl, HB.out.trans (hb.mono HB.out.size)⟩
  | true =>
    have hacc := ((Sl.verify_accepts _ _ _ _ _).1 hc.symm).2
    rw [Int.toNat_natCast] at hacc
    have HSH := Lib.hid (Sl.binds_shown s.data.toList h i m.data.toList o.data.toList hh4 (by rw [← HN.out]; exact HIN.out) HST.out hacc)
    refine hv.mono ?_
    clear hv hc hacc
    rintro e w5 ⟨rfl, hb⟩
    replace HB := Lib.hid (HB.out.trans (hb.mono HB.out.size))
    have hks := (hb.block _ (lt_of_block (heap_alloc_new w3 (.cells #[.int .i64 i, .slice a1 ls.length c1, .slice a2 lp.length c2] 24)))).trans (heap_alloc_new w3 (.cells #[.int .i64 i, .slice a1 ls.length c1, .slice a2 lp.length c2] 24))
    have y0 : ∀ w', Tr.Old w5 w' → w'.cell? ⟨w3.heap.size, 0, none⟩ = some (.int .i64 i) := fun w' h => (seal_block h.out hks).1
    have y1 : ∀ w', Tr.Old w5 w' → w'.cell? ⟨w3.heap.size, 1, none⟩ = some (.slice a1 ls.length c1) := fun w' h => (seal_block h.out hks).2.1
    have y2 : ∀ w', Tr.Old w5 w' → w'.cell? ⟨w3.heap.size, 2, none⟩ = some (.slice a2 lp.length c2) := fun w' h => (seal_block h.out hks).2.2
    have hbx := hb3.trans (hb.mono hb3.size)
    have h18 : ls.length = 18 := by rw [Tr.len_of HX.out.1, Sl.sig_length]
    have hlp : lp.length = h := by rw [Tr.len_of HX.out.2.2.1, Sl.path_len _ _ _ (by rw [← HN.out]; exact HIN.out)]
    have hi1000 : i ≤ 1000 := by have := HIN.out; omega
    have HCK : Hid (∀ w', Tr.Old w5 w' → Calls Tryd.prog 24 #[.string o, .agg #[.int .i64 i, .slice a1 ls.length c1, .slice a2 lp.length c2]] w' (OwnOut 10000 (Sl.checked o.data.toList i (Sl.sig s.data.toList i m.data.toList) (Tr.path (Sl.keys s.data.toList h) i)) w')) := fun w' hw => by
      have hx := hbx.trans (hw.out.mono hbx.size)
      have := checked_walk o hzo _ i hi1000 ls lp w' ⟨_, _, rfl, HX1.out.below hx, HX4.out.below hx⟩ h18 (by omega) HX.out.2.1 (fun s h => by have := HX.out.2.2.2 s h; omega)
      rw [HX.out.1.out, HX.out.2.2.1.out] at this
      exact this
    have hl1 : (Sl.made s.data.toList h 30).length ≤ 5000 := Sl.made_len s.data.toList h 30 hh4 (by decide)
    have hl2 : (Sl.checked o.data.toList i (Sl.sig s.data.toList i m.data.toList) (Tr.path (Sl.keys s.data.toList h) i)).length ≤ 1000 := Sl.checked_len _ _ _ _ (by rw [← HX.out.2.2.1.out, Tr.bs_len]; omega)
    obtain ⟨pm, hpm⟩ : ∃ pm, pm = Sl.made s.data.toList h 30 := ⟨_, rfl⟩
    obtain ⟨pc, hpc⟩ : ∃ pc, pc = Sl.checked o.data.toList i (Sl.sig s.data.toList i m.data.toList) (Tr.path (Sl.keys s.data.toList h) i) := ⟨_, rfl⟩
    have HMD : Hid (∀ w', Calls Tryd.prog 23 #[.string s, .int .i64 h, .int .i64 30] w' (OwnOut 10000 pm w')) := fun w' => by rw [hpm]; exact made_walk s hzs h 30 hh4 (by decide) (by decide) w'
    rw [← hpc] at HCK hl2 HSH
    rw [← hpm] at HSH hl1
    have HL := Lib.hid (And.intro hl1 hl2)
    have hO5 : Tr.Old w5 w5.drew := Tr.Old.drew w5
    clear hb hb3 hks hbx hpm hpc hl1 hl2 hlp h18 HX1 HX4 HX
    go_wp2_with fail
    go_region_held3 (fun w' => Tr.Old w5 w') (first | with_reducible assumption | exact Tr.Old.step (by with_reducible assumption) (by with_reducible assumption))
      (first
        | (go_at_call 23; (with_reducible refine (HMD.out _).mono ?_); intro e w6 ho6; obtain ⟨v6, rfl, hr6, hb6⟩ := ho6.row)
        | (go_at_call 24; (with_reducible refine (HCK.out _ (by with_reducible assumption)).mono ?_); intro e w7 ho7; obtain ⟨v7, rfl, hr7, hb7⟩ := ho7.row)
        | (refine step_rowg (by rfl) (.tmp 71) (.tmp 74) rfl (hr6.below hb7) rfl rfl hr7.tx (by have := HL.out; omega) (Nat.le_trans hb6.size hb7.size) ?_; intro v8 w8 hr8 hb8; have hO8 : Tr.Old w5 w8 := (Below.trans ((Below.refl w5.heap.size w5).drew.trans hb6) (hb7.mono hb6.size)).trans hb8)
        | (go_at_call 22; (with_reducible refine (refshown_tx v8 _ hr8.tx (by decide) (by rw [List.length_append]; have := HL.out; omega) HSH.out).mono ?_); rintro e w9 ⟨rfl, hb9⟩))
    have HO9 := Lib.hid (Tr.Old.step hb9 hO8)
    clear hb6 hb7 hb8 hb9 hr6 hr7 hr8 ho6 ho7 hO8 hO5 y0 y1 y2
    go_wp2_with fail
    go_ret
    exact ⟨rfl, HB.out.trans (HO9.out.out.mono HB.out.size)⟩

theorem law_walk (s : ByteArray) (a b : Nat) (m o : ByteArray) (w : World) (_hs : s.size ≤ 9223372036854775807) (ha : a ≤ 255) (hb : b ≤ 255) (_hm : m.size ≤ 9223372036854775807) (_ho : o.size ≤ 9223372036854775807) (ht : HasTab w) :
    Calls Tryd.prog 6 #[.string s, .int .u8 a, .int .u8 b, .string m, .string o] w fun e w' => e = .returned (.bool true) ∧ Below w.heap.size w w' := by
  cases hs : Sl.short [s, m, o] with
  | false => exact w_short s m o a b ha hb w ht hs
  | true =>
    by_cases hst : Dg.sum m.data.toList = Dg.sum o.data.toList
    · exact w_same s m o a b ha hb w ht hs hst
    · exact w_main s m o a b ha hb w ht hs hst

set_option maxRecDepth 100000 in
/-- What the walk gives, for all arguments and every world that holds the tables. -/
theorem contract (H : Type) (enc : TypeId × Value → H) (W : World) (base : Nat) (args : Array Value) (ds gs : List (DataW H)) (before : List MemPlace)
    (hval : ∀ (j : Nat) t v, Tryd.f6.params[j]? = some t → args[j]? = some v → Value.okWide Tryd.prog W .any base t v)
    (hW : DataW.Whole enc Tryd.prog Tryd.f6.params.toList Rows.sealBindsSpec.vars false W args.toList ds gs before) (hL : laidMetH Tryd.prog laidAll W) :
    Calls Tryd.prog 6 args W fun e W' => ∃ v, e = .returned v ∧ Rows.sealBindsSpec.post enc Tryd.prog Tryd.f6 false true false false W args v W' := by
  have hW' := hW
  obtain ⟨p, q, hA0, hV, rfl, hfz, hnd⟩ := hW
  have hA : DataW.TrodAll enc Tryd.prog W 0 (fun _ => true) true Tryd.f6.params.toList args.toList ds p := hA0
  rw [Tryd.params6] at hA hval
  obtain ⟨v0, vs0, d0, ds0, p0, q0, hargs, rfl, rfl, h0, r0⟩ := trodAll_cons hA
  obtain ⟨v1, vs1, d1, ds1, p1, q1, rfl, rfl, rfl, h1, r1⟩ := trodAll_cons r0
  obtain ⟨v2, vs2, d2, ds2, p2, q2, rfl, rfl, rfl, h2, r2⟩ := trodAll_cons r1
  obtain ⟨v3, vs3, d3, ds3, p3, q3, rfl, rfl, rfl, h3, r3⟩ := trodAll_cons r2
  obtain ⟨v4, vs4, d4, ds4, p4, q4, rfl, rfl, rfl, h4, r4⟩ := trodAll_cons r3
  obtain ⟨rfl, rfl, rfl⟩ := trodAll_nil r4
  obtain rfl : args = #[v0, v1, v2, v3, v4] := by cases args; simp_all
  obtain ⟨rfl, rfl⟩ := trodVars_none hV
  obtain ⟨a0, rfl, _, _, g0⟩ := open_string Tryd.underlying9 (hval 0 9 v0 rfl rfl) h0
  obtain ⟨z1, rfl, _, _, g1⟩ := open_int Tryd.underlying5 (hval 1 5 v1 rfl rfl) h1
  obtain ⟨n1, rfl⟩ := Int.eq_ofNat_of_zero_le (bounds_u8 g1).1
  obtain ⟨z2, rfl, _, _, g2⟩ := open_int Tryd.underlying5 (hval 2 5 v2 rfl rfl) h2
  obtain ⟨n2, rfl⟩ := Int.eq_ofNat_of_zero_le (bounds_u8 g2).1
  obtain ⟨a3, rfl, _, _, g3⟩ := open_string Tryd.underlying9 (hval 3 9 v3 rfl rfl) h3
  obtain ⟨a4, rfl, _, _, g4⟩ := open_string Tryd.underlying9 (hval 4 9 v4 rfl rfl) h4
  refine (law_walk a0 n1 n2 a3 a4 W (le_of_max g0) (Int.ofNat_le.1 (bounds_u8 g1).2) (Int.ofNat_le.1 (bounds_u8 g2).2) (le_of_max g3) (le_of_max g4) (hasTab hL)).mono fun e W' ⟨he, hg⟩ => ?_
  subst he
  exact ⟨_, rfl, post_lawS rfl rfl rfl rfl rfl (by rw [Tryd.params6]; decide) hW' hg⟩

theorem laid_met (os : Os) : laidMet Tryd.prog Rows.sealBindsRow.laid ((laidWorld os).forCall (fun _ _ => 0) ⟨#[], #[.string ⟨#[]⟩, .int .u8 0, .int .u8 0, .string ⟨#[]⟩, .string ⟨#[]⟩], []⟩).memory :=
  laidMet_of_run' 8 (by kernel_rfl) (by kernel_rfl)
theorem reads (os : Os) {H : Type} (enc : TypeId × Value → H) : ∃ places, DataW.whole enc Tryd.prog ((laidWorld os).forCall (fun _ _ => 0) ⟨#[], #[.string ⟨#[]⟩, .int .u8 0, .int .u8 0, .string ⟨#[]⟩, .string ⟨#[]⟩], []⟩).memory Tryd.f6.params.toList Rows.sealBindsSpec.vars false #[Value.string ⟨#[]⟩, Value.int .u8 0, Value.int .u8 0, Value.string ⟨#[]⟩, Value.string ⟨#[]⟩].toList 8 = some ([.lit (.string []), .lit (.int .u8 0), .lit (.int .u8 0), .lit (.string []), .lit (.string [])], [], places) :=
  ⟨[], by kernel_rfl⟩

set_option maxRecDepth 100000 in
theorem lifted (os : Os) (started : os.Started) (H : Type) (enc : TypeId × Value → H) (F : Stop.Interp) :
    ReturnsInHanded {} Tryd.checked os 6 .any ((OpenSpec.ofChange Rows.sealBindsSpec).preRow enc Tryd.prog Tryd.f6 Rows.sealBindsRow.domain false Rows.sealBindsRow.laid) (((OpenSpec.ofChange Rows.sealBindsSpec).at F).post enc Tryd.prog Tryd.f6 false true false false) := by
  obtain ⟨places, hx⟩ := reads os enc
  refine returnsInHanded_of_row (C := Tryd.checked) (s := OpenSpec.ofChange Rows.sealBindsSpec) own started (by kernel_rfl) Tryd.func6
    (witness_row_at (enc := enc) (C := Tryd.checked) false (laidWorld os) #[.string ⟨#[]⟩, .int .u8 0, .int .u8 0, .string ⟨#[]⟩, .string ⟨#[]⟩] rfl (by kernel_rfl) (by kernel_rfl) (by kernel_rfl)
      (OpenSpec.preRow_of_cond 8 hx (by kernel_rfl) (fun k hk => by cases hk) (by kernel_rfl) (laid_met os))) ?_
  intro W base args ds gs before hval hW _ _ _ hL _ _
  exact contract H enc W base args ds gs before hval hW hL

theorem said : Rows.SealBindsSaid :=
  OpenClaim.holds_of_cond 6 Tryd.f6 rfl rfl rfl rfl rfl rfl rfl ⟨rfl, rfl, rfl, rfl, rfl⟩ rfl rfl rfl rfl rfl (by kernel_rfl) Tryd.func6 (by kernel_rfl)
    (of_decide_eq_true (by kernel_rfl)) (by unfold Func.isWrapper; first | (rw [if_pos (by decide +kernel)]; kernel_rfl) | (rw [if_neg (by decide +kernel)]; exact ⟨rfl, rfl⟩))
    (fun os started H enc _ F => by rw [OpenClaim.pre_eq_preRow]; exact lifted os started H enc F)

set_option maxRecDepth 100000 in
/-- No parameter wants a stand-in; the program's own looks are off: what the card asks. -/
theorem plain (f : FuncId) (fn : Func) (hf : Tryd.pinned.checked.prog.funcNamed "pandect/pandectlaw03.SealBinds" = some f) (hfn : Tryd.pinned.checked.prog.funcs[f]? = some fn) :
    false = Tryd.pinned.checked.prog.looks [] ∧ ∀ (j : Nat) t, fn.params[j]? = some t → Tryd.pinned.checked.prog.wantsStandIn t = false := by
  obtain rfl : f = 6 := Option.some.inj ((show Tryd.prog.funcNamed "pandect/pandectlaw03.SealBinds" = some 6 by kernel_rfl).symm.trans hf) |>.symm
  obtain rfl : fn = Tryd.f6 := (Option.some.inj (Tryd.func6.symm.trans hfn)).symm
  refine ⟨by kernel_rfl, fun j t ht => ?_⟩
  rw [Tryd.params6] at ht
  have hm := Array.mem_of_getElem? ht
  simp only [List.mem_toArray, List.mem_cons, List.not_mem_nil, or_false] at hm
  rcases hm with rfl | rfl | rfl | rfl | rfl
  · exact wants_string
  · exact wants_u8
  · exact wants_u8
  · exact wants_string
  · exact wants_string

theorem card : Rows.SealBindsCardSaid :=
  Claim7.holds_tied_plain_at .later [] _ _ _ _ said (fun _ h => by cases h) (by kernel_rfl) (fun _ h => by cases h) sealBinds_row_tie rfl ⟨rfl, rfl⟩ (by kernel_rfl) rfl plain (by kernel_rfl)
end Go.Proofs.YtklfkhhefjjpaaaDoor.sealBinds
