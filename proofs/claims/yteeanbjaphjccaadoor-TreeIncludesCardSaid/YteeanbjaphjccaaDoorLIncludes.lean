/-
  TreeIncludes: for every list and number the call returns true and its arguments stay, where the three tables of the library hold what the program's text lays.
-/
import Derived.Test.YteeanbjaphjccaaDoorLFrameX
import Derived.Test.YteeanbjaphjccaaDoorTHead
import Derived.Test.YteeanbjaphjccaaDoorTDigits
import Derived.Test.YteeanbjaphjccaaDoorROwn
import Derived.Test.YteeanbjaphjccaaDoorTApp
import Derived.Deep.RegionHeld3
import Derived.Deep.DeepCutAuto
import Derived.Deep.QuietTactic
import Derived.BigQuiet
namespace Go.Proofs.YteeanbjaphjccaaDoor.treeIncludes
open Go.ChangeShapes Go.WideShapes Go.ChangeAt Go.RowKit
open Go.WideMaps Go.WideElems
open Go.ChangeMaps (open_string shut_string)

set_option maxHeartbeats 4000000 in
set_option maxRecDepth 100000 in
theorem w_main (b off cap : Nat) (l : List ByteArray) (n i : Nat) (hn : n ≤ 255) (hi : i = n % l.length) (h0 : 0 < l.length) (w : World) (hv : IsTx w (.slice (some ⟨b, off, none⟩) l.length cap) l) (hf : Tr.few l = true) (ht : HasTab w) :
    Calls Tryd.prog 4 #[.slice (some ⟨b, off, none⟩) l.length cap, .int .u8 n] w fun e w' => e = .returned (.bool true) ∧ Below w.heap.size w w' := by
  have HT := Lib.hid ht
  have HV := Lib.hid hv
  have HF := Lib.hid hf
  have HLS := Lib.hid (Tr.few_small hf)
  have HB := Lib.hid (Below.refl w.heap.size w)
  have hl20 := (Tr.few_out hf).1
  have hil : i < l.length := by rw [hi]; exact Nat.mod_lt n h0
  have hi' : (n : Int) % (l.length : Int) = (i : Int) := by rw [hi]; rfl
  have n0 : ((l.length : Int) == 0) = false := beq_eq_false_iff_ne.2 (by omega)
  clear ht hv hf hi
  go_enter Tryd.func4, Tryd.ntmps4
  go_wp2_with fail
  refine (head_walk w HT.out).mono ?_
  rintro e w1 ⟨rfl, hb⟩
  replace HB := Lib.hid (HB.out.trans (hb.mono HB.out.size))
  replace HT := Lib.hid (HT.out.below hb)
  replace HV := Lib.hid (HV.out.below hb)
  clear hb
  go_wp2_with fail
  refine (lawfew_true _ l w1 HV.out HF.out).mono ?_
  rintro e w2 ⟨rfl, rfl⟩
  go_wp2_with fail
  refine (path_ok _ l i _ HV.out HLS.out (Tr.few_len HF.out) hil HT.out).mono ?_
  rintro e w2 ⟨vp, lp, rfl, htp, hpp, hzp, hb⟩
  replace HB := Lib.hid (HB.out.trans (hb.mono HB.out.size))
  replace HT := Lib.hid (HT.out.below hb)
  replace HV := Lib.hid (HV.out.below hb)
  have HX := Lib.hid htp
  have HZ : Hid (∀ s ∈ lp, s.size ≤ 200) := fun s h => Nat.le_trans (hzp s h) (by omega)
  obtain ⟨ap, cp, rfl, hp1, hp2, _⟩ := htp
  clear hb hzp
  go_wp2_with fail
  obtain ⟨t, ht⟩ : ∃ t, t = l.getD i ByteArray.empty := ⟨_, rfl⟩
  have HTT := Lib.hid ht
  have hct : ∀ w', Tr.Old w2 w' → w'.cell? ⟨b, off + i, none⟩ = some (.string t) := fun w' h => by
    obtain ⟨a', cap', e, _, _, hc⟩ := HV.out
    cases e
    obtain ⟨b', off', e', hlt, hc⟩ := hc (by intro e; rw [e] at h0; simp at h0)
    cases e'
    rw [Below.cell h.out (p := ⟨b, off + i, none⟩) hlt, hc i hil, ht]
  have HCT := Lib.hid hct
  have tz : t.size ≤ 200 := by rw [ht, Dg.getD_eq l i hil]; exact HLS.out _ (List.getElem_mem _)
  have p1 : (0 : Int) ≤ (i : Int) := by omega
  have p2 : (i : Int) < (l.length : Int) := by omega
  clear ht
  have HRL : Hid (∀ w', Tr.Old w2 w' → Calls Tryd.prog 15 #[.slice (some ⟨b, off, none⟩) l.length cap] w' (Digs (Tr.root (Tr.bs l)) w')) := fun w' h => root_walk l _ _ (Tr.few_len HF.out) (HV.out.below h.out) HLS.out (HT.out.below h.out)
  have HRN : Hid (∀ w', Tr.Old w2 w' → Calls Tryd.prog 15 #[.slice none 0 0] w' (Digs (Tr.root (Tr.bs [])) w')) := fun w' h => root_walk [] _ _ (by simp) (IsTx.nil _) (by simp) (HT.out.below h.out)
  have HCK : Hid (∀ w' (r1 : ByteArray), Tr.Old w2 w' → Hid (r1.data.toList = Tr.root (Tr.bs l)) → Calls Tryd.prog 18 #[.string r1, .int .i64 l.length, .int .i64 i, .string t, .slice ap lp.length cp] w' (BoolOut true w')) := fun w' r1 h hr1 =>
    (check_walk r1 t tz l.length i _ lp _ (HT.out.below h.out) (HX.out.below h.out) HZ.out).mono fun _ _ h => by
      rw [hr1.out, hpp.out] at h
      have := Tr.check_path (l := Tr.bs l) (i := i) (d := t.data.toList) (by rw [Tr.bs_len]; exact hil) (by rw [Tr.bs_len]; omega) (by rw [HTT.out, Dg.getD_eq l i hil]; simp)
      rw [Tr.bs_len] at this
      rw [this] at h
      exact h
  go_region_held3 (fun w' => Tr.Old w2 w') (first | exact Tr.Old.drew w2 | exact Tr.Old.alloc _ (by with_reducible assumption) | exact Tr.Old.step (by with_reducible assumption) (by with_reducible assumption))
    (first
      | (go_at_call 15; (with_reducible refine (HRL.out _ (by with_reducible assumption)).mono ?_); rintro e w3 ⟨r1, rfl, hr1, hz1, hb⟩)
      | (go_at_call 18; (with_reducible refine (HCK.out _ r1 (by with_reducible assumption) hr1).mono ?_); rintro e w4 ⟨rfl, hb4⟩))
  rename_i hH4
  have hb42 := hH4.out
  replace HB := Lib.hid (HB.out.trans (hb42.mono HB.out.size))
  replace HT := Lib.hid (HT.out.below hb42)
  replace HV := Lib.hid (HV.out.below hb42)
  replace HX := Lib.hid (HX.out.below hb42)
  replace HRL : Hid (∀ w', Tr.Old w4 w' → Calls Tryd.prog 15 #[.slice (some ⟨b, off, none⟩) l.length cap] w' (Digs (Tr.root (Tr.bs l)) w')) := fun w' h => HRL.out w' (Tr.Old.of (hb42.trans (h.out.mono hb42.size)))
  replace HRN : Hid (∀ w', Tr.Old w4 w' → Calls Tryd.prog 15 #[.slice none 0 0] w' (Digs (Tr.root (Tr.bs [])) w')) := fun w' h => HRN.out w' (Tr.Old.of (hb42.trans (h.out.mono hb42.size)))
  replace hct : ∀ w', Tr.Old w4 w' → w'.cell? ⟨b, off + i, none⟩ = some (.string t) := fun w' h => HCT.out w' (Tr.Old.of (hb42.trans (h.out.mono hb42.size)))
  have HCT4 := Lib.hid hct
  have HCK4 : Hid (∀ w' (r1 : ByteArray) (vy : Value) (ly : List ByteArray), Tr.Old w4 w' → IsTx w' vy ly → (∀ s ∈ ly, s.size ≤ 200) → ly.length ≠ lp.length → Calls Tryd.prog 18 #[.string r1, .int .i64 l.length, .int .i64 i, .string t, vy] w' (BoolOut false w')) := fun w' r1 vy ly h hy hyz hne =>
    (check_walk r1 t tz l.length i vy ly _ (HT.out.below h.out) hy hyz).mono fun _ _ h => by
      rw [Tr.check_length (by rw [Tr.bs_len]; intro e; apply hne; rw [e, Tr.len_of hpp, Tr.path_length _ _ _ rfl, Tr.bs_len])] at h
      exact h
  clear HCK HCT hb42 hH4 hb hb4 hr1 hct
  have hPL : lp.length = Tr.plen l.length i := by rw [Tr.len_of hpp, Tr.path_length _ _ _ rfl, Tr.bs_len]
  have HPL := Lib.hid hPL
  clear hPL
  go_wp2_with fail
  go_loop [9, 10] (fun i j => ∃ d q : Nat, i = .int .i64 d ∧ j = .int .i64 q ∧ d + q ≤ 20 ∧ Hid (l.length < (q + 1) * 2 ^ d)) (fun _ j => (intOf j).toNat)
  case atStart => exact ⟨0, l.length, rfl, rfl, by omega, by show _ < _; omega⟩
  case round =>
    obtain ⟨d, q, rfl, rfl, hdq, hlt⟩ := hrel
    by_cases hq : (0 : Int) < q
    · go_wp2_with fail
      go_round
      case rel => exact ⟨d + 1, q / 2, by go_num, by go_num, by omega, Tr.digits_step hlt.out⟩
      case measure => simp [intOf]; omega
    · have hle : ¬ (d : Int) < (lp.length : Int) := by
        have hq0 : q = 0 := by omega
        rw [hq0] at hlt
        have h1 := Tr.plen_le d l.length i (Tr.digits_end hlt.out)
        have h2 := HPL.out
        omega
      have hdd : d ≤ 20 := by omega
      have hlp20 : lp.length ≤ 20 := by omega
      have hd1 : decide (d < lp.length) = false := decide_eq_false (by omega)
      have hd2 : decide ((d : Int) < (lp.length : Int)) = false := decide_eq_false hle
      clear hlt hdq
      obtain ⟨i0, hii, hz0, hz1', hz2⟩ := info_parts one_str
      have HI := Lib.hid hii
      have hct := HCT4.out
      clear hii
      go_upto_region 22 with fail
      go_cut [77] (fun x wx => x = .bool false ∧ Tr.Old w4 wx)
      case first =>
        go_region_held3 (fun w' => Tr.Old w4 w') (first | exact Tr.Old.drew w4 | exact Tr.Old.alloc _ (by with_reducible assumption) | exact Tr.Old.step (by with_reducible assumption) (by with_reducible assumption) | exact Tr.Old.of (by with_reducible assumption) | with_reducible assumption)
            (first
              | (go_at_call 15; (with_reducible refine (HRL.out _ (by with_reducible assumption)).mono ?_); rintro e w5 ⟨r5, rfl, hr5, hz5, hb5⟩)
              | (go_at_call 15; (with_reducible refine (HRN.out _ (by with_reducible assumption)).mono ?_); rintro e w6 ⟨r6, rfl, hr6, hz6, hb6⟩)
              | (have hs0 := Tr.Old.out (by with_reducible assumption : Tr.Old w4 _); refine step_append_e0 (by rfl) (.tmp 70) (.tmp 71) 22 rfl w4.heap.size 9 i0 (.string ⟨#[]⟩) 16 Tryd.underlying22 HI.out hz0 hz1' hz2 rfl _ rfl _ lp rfl (HX.out.below hs0) (by unfold maxLen; omega) (by omega) hs0.size ?_; intro v7 w7 hown7 hb7)
              | (have hs0 := Tr.Old.out (by with_reducible assumption : Tr.Old w4 _); refine step_append_e (by rfl) (.tmp 72) (.tmp 74) 22 rfl w4.heap.size 9 i0 (.string ⟨#[]⟩) 16 Tryd.underlying22 HI.out hz0 hz1' hz2 rfl v7 lp.length (Tr.cells lp) rfl (by first | exact hown7 | exact hown7.alloc _ | exact (OwnE.below hb6 hown7).alloc _ | exact (OwnE.below hb6 (OwnE.below hb5 hown7)).alloc _) _ [r6] rfl (by first | exact tx_one _ r6 | exact (tx_one _ r6).below hb7 | exact ((tx_one _ r6).below ((Below.refl _ _).alloc (Nat.le_refl _) _)).below hb7) (by simp) (by simp [maxLen]; omega) (by simp; omega) hs0.size ?_; intro v8 w8 hown8 hb8; have hO8 : Tr.Old w4 w8 := Tr.Old.of (Below.trans hs0 hb8))
              | (go_at_call 18; (with_reducible refine (HCK4.out _ r5 v8 (lp ++ [r6]) (by with_reducible assumption) (own_tx (own_snoc hown8)) (Tr.small_snoc HZ.out (by omega)) (by simp)).mono ?_); rintro e w9 ⟨rfl, hb9⟩))
        all_goals
          go_wp2_with fail
          go_meet
          exact ⟨rfl, by with_reducible assumption⟩
      case rest =>
        obtain ⟨rfl, hO⟩ := hcut
        have hbc := hO.out
        replace HB := Lib.hid (HB.out.trans (hbc.mono HB.out.size))
        have HX' := HX.out.below hbc
        have HRLc : Hid (∀ w', Tr.Old wc w' → Calls Tryd.prog 15 #[.slice (some ⟨b, off, none⟩) l.length cap] w' (Digs (Tr.root (Tr.bs l)) w')) := fun w' h => HRL.out w' (Tr.Old.of (hbc.trans (h.out.mono hbc.size)))
        have hctc : ∀ w', Tr.Old wc w' → w'.cell? ⟨b, off + i, none⟩ = some (.string t) := fun w' h => HCT4.out w' (Tr.Old.of (hbc.trans (h.out.mono hbc.size)))
        by_cases hl1 : l.length = 1
        · have hp0 : lp.length = 0 := by rw [HPL.out, hl1]; exact Tr.plen_one (Nat.le_refl _)
          have b1 : ((lp.length : Int) == 0) = true := beq_iff_eq.2 (by omega)
          have b2 : ((l.length : Int) == 1) = true := beq_iff_eq.2 (by omega)
          clear hl1 hp0 hct hctc hd1 hd2 hle hbc hO
          go_wp2_with fail
          go_quiet (fail)
          go_wp2_with fail
          go_ret
          exact ⟨rfl, below_drewN HB.out _⟩
        · have hpp0 : 0 < lp.length := by rw [HPL.out]; exact Tr.plen_pos (by omega)
          obtain ⟨q2, hq2⟩ : ∃ q2, lp.length = q2 + 1 := ⟨lp.length - 1, by omega⟩
          have b1 : ((lp.length : Int) == 0) = false := beq_eq_false_iff_ne.2 (by omega)
          have b2 : ((l.length : Int) == 1) = false := beq_eq_false_iff_ne.2 (by omega)
          have HTX : Hid (IsTx wc (.slice ap q2 cp) (lp.take q2)) := by
            obtain ⟨a', cap', e, g1, g2, hc⟩ := HX'
            cases e
            obtain ⟨b', off', rfl, hlt, hc⟩ := hc (by intro e; rw [e] at hpp0; simp at hpp0)
            exact IsTx.take g1 g2 hlt hc q2 (by omega)
          have HCKc : Hid (∀ w' (r1 : ByteArray), Tr.Old wc w' → Calls Tryd.prog 18 #[.string r1, .int .i64 l.length, .int .i64 i, .string t, .slice ap q2 cp] w' (BoolOut false w')) := fun w' r1 h =>
            HCK4.out w' r1 _ (lp.take q2) (Tr.Old.of (hbc.trans (h.out.mono hbc.size))) (HTX.out.below h.out) (fun s hs => HZ.out s (List.mem_of_mem_take hs)) (by rw [List.length_take]; omega)
          have c1 : q2 + 1 ≤ cp := by rw [← hq2]; exact hp1
          have s1 : (0 : Int) ≤ (q2 : Int) := by omega
          have s2 : (q2 : Int) ≤ (cp : Int) := by omega
          have s3 : IntKind.i64.wrap ((q2 : Int) + 1 - 1) = (q2 : Int) := by rw [show (q2 : Int) + 1 - 1 = (q2 : Int) by omega]; exact Tr.wrap_in _ (by omega) (by omega)
          have s4 : IntKind.i64.wrap (q2 : Int) = (q2 : Int) := Tr.wrap_in _ (by omega) (by omega)
          rw [hq2] at b1 ⊢
          clear hl1 hpp0 hq2 hct hd1 hd2 hle hbc hO HX'
          go_wp2_with fail
          go_region_held3 (fun w' => Tr.Old wc w') (first | exact Tr.Old.drew wc | exact Tr.Old.step (by with_reducible assumption) (by with_reducible assumption))
            (first
              | (go_at_call 15; (with_reducible refine (HRLc.out _ (by with_reducible assumption)).mono ?_); rintro e w5 ⟨r5, rfl, hr5, hz5, hb5⟩)
              | (go_at_call 18; (with_reducible refine (HCKc.out _ r5 (by with_reducible assumption)).mono ?_); rintro e w9 ⟨rfl, hb9⟩))
          all_goals
            rename_i hE
            have HE := Lib.hid (HB.out.trans (hE.out.mono HB.out.size))
            clear hE
            go_wp2_with fail
            go_ret
            exact ⟨rfl, HE.out⟩

theorem law_walk (v : Value) (l : List ByteArray) (n : Nat) (w : World) (hv : IsTx w v l) (_hs : ∀ s ∈ l, s.size ≤ 9223372036854775807) (hn : n ≤ 255) (ht : HasTab w) :
    Calls Tryd.prog 4 #[v, .int .u8 n] w fun e w' => e = .returned (.bool true) ∧ Below w.heap.size w w' := by
  cases hf : Tr.few l with
  | true =>
    have hv' := hv
    obtain ⟨a, cap, rfl, _, _, hc⟩ := hv
    by_cases h0 : l = []
    · subst h0
      have HT := Lib.hid ht
      have HV := Lib.hid hv'
      have HF := Lib.hid hf
      clear ht hv' hf
      go_enter Tryd.func4, Tryd.ntmps4
      go_wp2_with fail
      refine (head_walk w HT.out).mono ?_
      rintro e w1 ⟨rfl, hb⟩
      go_wp2_with fail
      refine (lawfew_true _ [] w1 (HV.out.below hb) HF.out).mono ?_
      rintro e w2 ⟨rfl, rfl⟩
      go_wp2_with fail
      go_ret
      exact ⟨rfl, hb⟩
    · obtain ⟨b, off, rfl, _, _⟩ := hc h0
      exact w_main b off cap l n _ hn rfl (by rcases Nat.eq_zero_or_pos l.length with h | h; exact absurd (List.length_eq_zero_iff.1 h) h0; exact h) w hv' hf ht
  | false =>
    have HT := Lib.hid ht
    have HV := Lib.hid hv
    have HF := Lib.hid hf
    clear ht hv hf
    go_enter Tryd.func4, Tryd.ntmps4
    go_wp2_with fail
    refine (head_walk w HT.out).mono ?_
    rintro e w1 ⟨rfl, hb⟩
    go_wp2_with fail
    refine (lawfew_false _ l w1 (HV.out.below hb) HF.out).mono ?_
    rintro e w2 ⟨rfl, rfl⟩
    go_wp2_with fail
    go_ret
    exact ⟨rfl, hb⟩

/-- What the walk gives, for all arguments and every world that holds the tables. -/
theorem contract (H : Type) (enc : TypeId × Value → H) (W : World) (base : Nat) (args : Array Value) (ds gs : List (DataW H)) (before : List MemPlace)
    (hval : ∀ (j : Nat) t v, Tryd.f4.params[j]? = some t → args[j]? = some v → Value.okWide Tryd.prog W .any base t v)
    (hW : DataW.Whole enc Tryd.prog Tryd.f4.params.toList Rows.treeIncludesSpec.vars false W args.toList ds gs before) (hL : laidMetH Tryd.prog laidAll W) :
    Calls Tryd.prog 4 args W fun e W' => ∃ v, e = .returned v ∧ Rows.treeIncludesSpec.post enc Tryd.prog Tryd.f4 false true false false W args v W' := by
  have hW' := hW
  obtain ⟨p, q, hA0, hV, rfl, hfz, hnd⟩ := hW
  have hA : DataW.TrodAll enc Tryd.prog W 0 (fun _ => true) true Tryd.f4.params.toList args.toList ds p := hA0
  rw [Tryd.params4] at hA hval
  obtain ⟨v0, vs0, d0, ds0, p0, q0, hargs, rfl, rfl, h0, r0⟩ := trodAll_cons hA
  obtain ⟨v1, vs1, d1, ds1, p1, q1, rfl, rfl, rfl, h1, r1⟩ := trodAll_cons r0
  obtain ⟨rfl, rfl, rfl⟩ := trodAll_nil r1
  obtain rfl : args = #[v0, v1] := by cases args; simp_all
  obtain ⟨rfl, rfl⟩ := trodVars_none hV
  obtain ⟨l0, t0, s0⟩ := open_tx (hval 0 22 v0 rfl rfl) h0
  obtain ⟨z1, rfl, _, _, g1⟩ := open_int Tryd.underlying5 (hval 1 5 v1 rfl rfl) h1
  obtain ⟨n1, rfl⟩ := Int.eq_ofNat_of_zero_le (bounds_u8 g1).1
  refine (law_walk v0 l0 n1 W t0 s0 (Int.ofNat_le.1 (bounds_u8 g1).2) (hasTab hL)).mono fun e W' ⟨he, hg⟩ => ?_
  subst he
  exact ⟨_, rfl, post_law rfl rfl rfl rfl rfl (by rw [Tryd.params4]; decide) hW' hg⟩

theorem laid_met (os : Os) : laidMet Tryd.prog Rows.treeIncludesRow.laid ((laidWorld os).forCall (fun _ _ => 0) ⟨#[], #[.slice none 0 0, .int .u8 0], []⟩).memory :=
  laidMet_of_run' 8 (by kernel_rfl) (by kernel_rfl)
theorem reads (os : Os) {H : Type} (enc : TypeId × Value → H) : ∃ places, DataW.whole enc Tryd.prog ((laidWorld os).forCall (fun _ _ => 0) ⟨#[], #[.slice none 0 0, .int .u8 0], []⟩).memory Tryd.f4.params.toList Rows.treeIncludesSpec.vars false #[Value.slice none 0 0, Value.int .u8 0].toList 8 = some ([.nil, .lit (.int .u8 0)], [], places) :=
  ⟨[], by kernel_rfl⟩

set_option maxRecDepth 100000 in
theorem lifted (os : Os) (started : os.Started) (H : Type) (enc : TypeId × Value → H) (F : Stop.Interp) :
    ReturnsInHanded {} Tryd.checked os 4 .any ((OpenSpec.ofChange Rows.treeIncludesSpec).preRow enc Tryd.prog Tryd.f4 Rows.treeIncludesRow.domain false Rows.treeIncludesRow.laid) (((OpenSpec.ofChange Rows.treeIncludesSpec).at F).post enc Tryd.prog Tryd.f4 false true false false) := by
  obtain ⟨places, hx⟩ := reads os enc
  refine returnsInHanded_of_row (C := Tryd.checked) (s := OpenSpec.ofChange Rows.treeIncludesSpec) own started (by kernel_rfl) Tryd.func4
    (witness_row_at (enc := enc) (C := Tryd.checked) false (laidWorld os) #[.slice none 0 0, .int .u8 0] rfl (by kernel_rfl) (by kernel_rfl) (by kernel_rfl)
      (OpenSpec.preRow_of_cond 8 hx (by kernel_rfl) (fun k hk => by cases hk) (by kernel_rfl) (laid_met os))) ?_
  intro W base args ds gs before hval hW _ _ _ hL _ _
  exact contract H enc W base args ds gs before hval hW hL

theorem said : Rows.TreeIncludesSaid :=
  OpenClaim.holds_of_cond 4 Tryd.f4 rfl rfl rfl rfl rfl rfl rfl ⟨rfl, rfl, rfl, rfl, rfl⟩ rfl rfl rfl rfl rfl (by kernel_rfl) Tryd.func4 (by kernel_rfl)
    (of_decide_eq_true (by kernel_rfl)) (by unfold Func.isWrapper; first | (rw [if_pos (by decide +kernel)]; kernel_rfl) | (rw [if_neg (by decide +kernel)]; exact ⟨rfl, rfl⟩))
    (fun os started H enc _ F => by rw [OpenClaim.pre_eq_preRow]; exact lifted os started H enc F)

/-- No parameter wants a stand-in; the program's own looks are off: what the card asks. -/
theorem plain (f : FuncId) (fn : Func) (hf : Tryd.pinned.checked.prog.funcNamed "pandect/pandectlaw02.TreeIncludes" = some f) (hfn : Tryd.pinned.checked.prog.funcs[f]? = some fn) :
    false = Tryd.pinned.checked.prog.looks [] ∧ ∀ (j : Nat) t, fn.params[j]? = some t → Tryd.pinned.checked.prog.wantsStandIn t = false := by
  obtain rfl : f = 4 := Option.some.inj ((show Tryd.prog.funcNamed "pandect/pandectlaw02.TreeIncludes" = some 4 by kernel_rfl).symm.trans hf) |>.symm
  obtain rfl : fn = Tryd.f4 := (Option.some.inj (Tryd.func4.symm.trans hfn)).symm
  refine ⟨by kernel_rfl, fun j t ht => ?_⟩
  rw [Tryd.params4] at ht
  have hm := Array.mem_of_getElem? ht
  simp only [List.mem_toArray, List.mem_cons, List.not_mem_nil, or_false] at hm
  rcases hm with rfl | rfl
  · exact wants_texts
  · exact wants_u8

theorem card : Rows.TreeIncludesCardSaid :=
  Claim7.holds_tied_plain_at .later [] _ _ _ _ said (fun _ h => by cases h) (by kernel_rfl) (fun _ h => by cases h) treeIncludes_row_tie rfl ⟨rfl, rfl⟩ (by kernel_rfl) rfl plain (by kernel_rfl)
end Go.Proofs.YteeanbjaphjccaaDoor.treeIncludes
