/-
  DigestLists: for every two lists and two texts the call returns true and its arguments stay, where the three tables of the library hold what the program's text lays.
-/
import Derived.Test.YtddfkffaecgjiaaDoorLFrame
import Derived.Test.YtddfkffaecgjiaaDoorRSame
import Derived.Test.YtddfkffaecgjiaaDoorDBlock
import Derived.Deep.RegionHeld3
import Derived.Deep.DeepCutAuto
namespace Go.Proofs.YtddfkffaecgjiaaDoor
open Go.RowKit
theorem texts_one (w : World) (x : ByteArray) : IsTexts (w.alloc (.cells #[.string x] 9)) (.slice (some ⟨w.heap.size, 0, none⟩) 1 1) [x] := by
  refine ⟨_, _, rfl, fun _ => ⟨_, _, rfl, by simp, fun j hj => ?_⟩⟩
  match j, hj with
  | 0, _ => exact World.cell?_alloc_at _ _ _ _ rfl
namespace Dg
open Go.Lib (decDigits)
theorem mix_texts (o two : ByteArray) (q n : Nat) : Hid ((o.extract 0 q ++ two.extract q n).data.toList = o.data.toList.take q ++ (two.data.toList.take n).drop q) := by
  show _ = _
  rw [ByteArray.data_append, Array.toList_append, cut_data, Lib.extract_data, List.drop_take]
theorem one_small (o : ByteArray) (h : o.size ≤ 18) : (join ([o].map (·.data.toList))).length ≤ 140737488355328 := by
  have h3 := nDigits_le o.data.toList.length (by rw [len_data]; omega)
  have hn := len_data o
  rw [List.map_cons, List.map_nil, join_one, List.length_append, Lib.decDigits_length, List.length_cons]
  omega
theorem law_lists (o t one two : ByteArray) (q n : Nat) (hq : q = min n 6) (ho : o.data.toList = one.data.toList.take n) (ht : t.data.toList = o.data.toList.take q ++ (two.data.toList.take n).drop q)
    (h1 : n ≤ one.size) (h2 : n ≤ two.size) (h9 : n ≤ 9) :
    sum (join ([o].map (·.data.toList))) = sum (join ([t].map (·.data.toList))) ↔ o.data.toList = t.data.toList := by
  have lo : o.data.toList.length = n := by rw [ho, List.length_take, len_data]; omega
  have lt : t.data.toList.length = n := by
    rw [ht, List.length_append, List.length_take, List.length_drop, List.length_take, lo, len_data]; omega
  rw [List.map_cons, List.map_nil, List.map_cons, List.map_nil, join_one, join_one, lo, lt]
  by_cases h6 : n ≤ 6
  · have e : q = n := by omega
    have et : t.data.toList = o.data.toList := by
      rw [ht, e, List.take_of_length_le (by omega), List.drop_of_length_le (by rw [List.length_take, len_data]; omega), List.append_nil]
    rw [et]; simp
  · have e : q = 6 := by omega
    have hd : decDigits n = [UInt8.ofNat (48 + n)] := dec_small (by omega)
    have ht6 : t.data.toList.take 6 = o.data.toList.take 6 := by
      rw [ht, e, List.take_append_of_le_length (by rw [List.length_take]; omega), List.take_take]; simp
    have so : decDigits n ++ 58 :: o.data.toList = (decDigits n ++ 58 :: o.data.toList.take 6) ++ o.data.toList.drop 6 ++ [] := by simp
    have st : decDigits n ++ 58 :: t.data.toList = (decDigits n ++ 58 :: o.data.toList.take 6) ++ t.data.toList.drop 6 ++ [] := by
      rw [← ht6]; simp
    rw [so, st, block_iff _ _ _ _ 1 (by rw [hd]; simp only [List.length_append, List.length_cons, List.length_nil, List.length_take, lo]; omega) (by rw [List.length_drop, List.length_drop, lo, lt]) (by rw [List.length_drop]; omega) (by rw [hd]; simp [lo]; unfold M; omega)]
    constructor
    · intro h
      have a := List.take_append_drop 6 o.data.toList
      have b := List.take_append_drop 6 t.data.toList
      rw [ht6, ← h, a] at b
      exact b
    · intro h; rw [h]
end Dg
end Go.Proofs.YtddfkffaecgjiaaDoor
namespace Go.Proofs.YtddfkffaecgjiaaDoor.digestLists
open Go.ChangeShapes Go.WideShapes Go.ChangeAt Go.RowKit
open Go.WideMaps Go.WideElems
open Go.ChangeMaps (open_string shut_string)

set_option maxHeartbeats 4000000 in
set_option maxRecDepth 100000 in
theorem law_walk (v1 : Value) (l : List ByteArray) (v2 : Value) (m : List ByteArray) (one two : ByteArray) (w : World) (hv1 : IsTexts w v1 l) (_hs1 : ∀ s ∈ l, s.size ≤ 9223372036854775807) (hl1 : l.length ≤ 9223372036854775807)
    (hv2 : IsTexts w v2 m) (_hs2 : ∀ s ∈ m, s.size ≤ 9223372036854775807) (hl2 : m.length ≤ 9223372036854775807) (ho : one.size ≤ 9223372036854775807) (htw : two.size ≤ 9223372036854775807) (ht : HasTab w) :
    Calls Tryd.prog 9 #[v1, v2, .string one, .string two] w fun e w' => e = .returned (.bool true) ∧ Below w.heap.size w w' := by
  have HT := Lib.hid ht
  have HV1 := Lib.hid hv1
  have HV2 := Lib.hid hv2
  clear ht hv1 hv2 _hs1 _hs2
  cases hf1 : Dg.few l 200 with
  | false =>
    have HF1 := Lib.hid hf1
    clear hf1
    go_enter Tryd.func9, Tryd.ntmps9
    go_wp2_with fail
    refine (head_walk w HT.out).mono ?_
    rintro e w1 ⟨rfl, hb1⟩
    go_wp2_with fail
    refine (few_false v1 l w1 (HV1.out.below hb1) hl1 HF1.out).mono ?_
    rintro e w2 ⟨rfl, rfl⟩
    go_wp2_with fail
    go_ret
    exact ⟨rfl, hb1⟩
  | true =>
    have HF1 := Lib.hid hf1
    clear hf1
    cases hf2 : Dg.few m 200 with
    | false =>
      have HF2 := Lib.hid hf2
      clear hf2
      go_enter Tryd.func9, Tryd.ntmps9
      go_wp2_with fail
      refine (head_walk w HT.out).mono ?_
      rintro e w1 ⟨rfl, hb1⟩
      go_wp2_with fail
      refine (few_true v1 l w1 (HV1.out.below hb1) hl1 HF1.out).mono ?_
      rintro e w2 ⟨rfl, rfl⟩
      go_wp2_with fail
      refine (few_false v2 m w1 (HV2.out.below hb1) hl2 HF2.out).mono ?_
      rintro e w2 ⟨rfl, rfl⟩
      go_wp2_with fail
      go_ret
      exact ⟨rfl, hb1⟩
    | true =>
      have HF2 := Lib.hid hf2
      clear hf2
      obtain ⟨sb, hsb⟩ : ∃ sb, sb = Dg.same l m := ⟨_, rfl⟩
      have HSB := Lib.hid hsb
      have hbne : (sb != sb) = false := by cases sb <;> rfl
      have hj1 := Dg.few_join l HF1.out
      have hj2 := Dg.few_join m HF2.out
      clear hsb
      go_enter Tryd.func9, Tryd.ntmps9
      go_wp2_with fail
      refine (head_walk w HT.out).mono ?_
      rintro e w1 ⟨rfl, hb1⟩
      go_wp2_with fail
      refine (few_true v1 l w1 (HV1.out.below hb1) hl1 HF1.out).mono ?_
      rintro e w2 ⟨rfl, rfl⟩
      go_wp2_with fail
      refine (few_true v2 m w1 (HV2.out.below hb1) hl2 HF2.out).mono ?_
      rintro e w2 ⟨rfl, rfl⟩
      go_wp2_with fail
      refine (refjoined_any v1 l w1 (HV1.out.below hb1) HF1.out).mono ?_
      rintro e w2 ⟨ra, rfl, hra, hsa, hb2⟩
      have b2 := hb1.trans (hb2.mono hb1.size)
      go_wp2_with fail
      refine (refjoined_any v2 m w2 (HV2.out.below b2) HF2.out).mono ?_
      rintro e w3 ⟨rb, rfl, hrb, hsb, hb3⟩
      have b3 := b2.trans (hb3.mono b2.size)
      go_wp2_with fail
      refine (list_ex v1 l w3 (HV1.out.below b3) (by omega) hl1 (HT.out.below b3)).mono ?_
      rintro e w4 ⟨r1, rfl, hr1, hz1, hb4⟩
      have b4 := b3.trans (hb4.mono b3.size)
      go_wp2_with fail
      refine (sum_ex ra (by omega) w4).mono ?_
      rintro e w5 ⟨r2, rfl, hr2, hz2, hb5⟩
      have b5 := b4.trans (hb5.mono b4.size)
      have q12 := eq_true hr1 hr2 (by rw [hra.out])
      have qab : (ra.toList == rb.toList) = sb := same_texts hra hrb HSB.out
      go_wp2_with fail
      refine (same_walk v1 v2 l m w5 (HV1.out.below b5) (HV2.out.below b5) hl1 hl2).mono ?_
      rintro e w6 ⟨rfl, hb6⟩
      have b6 := b5.trans (hb6.mono b5.size)
      rw [← HSB.out]
      go_upto_region 8 with fail
      go_cut [59] (fun x wx => x = .bool false ∧ Below w.heap.size w wx)
      case first =>
        by_cases ha7 : (ra.size : Int) ≤ 7
        · by_cases hb7 : (rb.size : Int) ≤ 7
          · go_wp2_with fail
            refine (list_ex v1 l w6 (HV1.out.below b6) (by omega) hl1 (HT.out.below b6)).mono ?_
            rintro e w7 ⟨r3, rfl, hr3, hz3, hb7'⟩
            have b7 := b6.trans (hb7'.mono b6.size)
            go_wp2_with fail
            refine (list_ex v2 m w7 (HV2.out.below b7) (by omega) hl2 (HT.out.below b7)).mono ?_
            rintro e w8 ⟨r4, rfl, hr4, hz4, hb8⟩
            have b8 := b7.trans (hb8.mono b7.size)
            have q34 : (r3.toList == r4.toList) = sb := short_texts hr3 hr4 (short_of hra ha7) (short_of hrb hb7) HSB.out
            go_wp2_with fail
            refine (same_walk v1 v2 l m w8 (HV1.out.below b8) (HV2.out.below b8) hl1 hl2).mono ?_
            rintro e w9 ⟨rfl, hb9⟩
            have b9 := b8.trans (hb9.mono b8.size)
            rw [← HSB.out]
            go_wp2_with fail
            go_meet
            exact ⟨rfl, b9⟩
          · go_wp2_with fail
            go_meet
            exact ⟨rfl, b6⟩
        · go_wp2_with fail
          go_meet
          exact ⟨rfl, b6⟩
      case rest =>
        obtain ⟨rfl, hbel⟩ := hcut
        clear b6 b5 b4 b3 b2 hb1 hb2 hb3 hb4 hb5 hb6 q12 qab hr1 hr2
        go_upto_region 10 with fail
        go_cut [12] (fun x wx => ∃ n : Nat, x = .int .i64 n ∧ Hid (n = min (min one.size two.size) 9) ∧ Below w.heap.size w wx)
        case first =>
          go_wp2_with fail
          all_goals
            go_meet
            exact ⟨(min (min one.size two.size) 9), Dg.val_int (by omega), rfl, hbel⟩
        case rest =>
          obtain ⟨n, rfl, HN, hbel2⟩ := hcut
          have hna : n ≤ one.size := by have := HN.out; omega
          have hnb : n ≤ two.size := by have := HN.out; omega
          have hn9 : n ≤ 9 := by have := HN.out; omega
          go_upto_region 11 with fail
          go_cut [2] (fun x wx => ∃ o : ByteArray, x = .string o ∧ Hid (o.data.toList = one.data.toList.take n) ∧ n ≤ o.size ∧ o.size ≤ 9 ∧ Below w.heap.size w wx)
          case first =>
            go_wp2_with fail
            go_meet
            exact ⟨_, rfl, Dg.cut_data one n, by rw [Lib.size_eq, Dg.cut_data, List.length_take, Dg.len_data]; omega, Nat.le_trans (Dg.cut_le one n) hn9, hbel2⟩
          case rest =>
            obtain ⟨o, rfl, HO, hno, ho9, hbel3⟩ := hcut
            obtain ⟨q, hq⟩ : ∃ q, q = min n 6 := ⟨_, rfl⟩
            have hqi : min (n : Int) 6 = (q : Int) := by omega
            have hqn : q ≤ n := by omega
            have HQ := Lib.hid hq
            clear hq
            go_upto_region 12 with fail
            go_cut [3] (fun x wx => ∃ t : ByteArray, x = .string t ∧ Hid (t.data.toList = o.data.toList.take q ++ (two.data.toList.take n).drop q) ∧ Below w.heap.size w wx)
            case first =>
              have p0 : (0 : Int) ≤ (q : Int) := by omega
              have p1 : (q : Int) ≤ (o.size : Int) := by omega
              have p2 : (n : Int) ≤ (two.size : Int) := by omega
              have p3 : (q : Int) ≤ (n : Int) := by omega
              go_quiet (fail)
              go_wp2_with fail
              go_meet
              exact ⟨_, rfl, Dg.mix_texts o two q n, below_drewN hbel3 _⟩
            case rest =>
              obtain ⟨t, rfl, HT2, hbel4⟩ := hcut
              have ht9 : t.size ≤ 18 := by
                have e := HT2.out
                rw [Lib.size_eq, e, List.length_append, List.length_take, List.length_drop, List.length_take]
                omega
              clear hbel3 hbel2 hbel
              go_wp2_with fail
              have d1 := hbel4.alloc hbel4.size (.cells #[.string o] 9)
              refine (list_ex _ [o] _ (texts_one _ o) (Dg.one_small o (by omega)) (by simp) (HT.out.below d1)).mono ?_
              rintro e w7 ⟨r3, rfl, hr3, hz3, hb7⟩
              have d2 := d1.trans (hb7.mono d1.size)
              go_wp2_with fail
              have d3 := d2.alloc d2.size (.cells #[.string t] 9)
              refine (list_ex _ [t] _ (texts_one _ t) (Dg.one_small t (by omega)) (by simp) (HT.out.below d3)).mono ?_
              rintro e w8 ⟨r4, rfl, hr4, hz4, hb8⟩
              have d4 := d3.trans (hb8.mono d3.size)
              have HQ2 := Lib.hid (same_iff (x := o) (y := t) hr3 hr4 (Dg.law_lists o t one two q n HQ.out HO.out HT2.out (by omega) (by omega) (by omega)))
              clear hr3 hr4 hb7 hb8
              go_wp2_with fail
              go_ret
              exact ⟨Dg.ret_bool HQ2.out, d4⟩

/-- What the walk gives, for all arguments and every world that holds the tables. -/
theorem contract (H : Type) (enc : TypeId × Value → H) (W : World) (base : Nat) (args : Array Value) (ds gs : List (DataW H)) (before : List MemPlace)
    (hval : ∀ (j : Nat) t v, Tryd.f9.params[j]? = some t → args[j]? = some v → Value.okWide Tryd.prog W .any base t v)
    (hW : DataW.Whole enc Tryd.prog Tryd.f9.params.toList Rows.digestListsSpec.vars false W args.toList ds gs before) (hL : laidMetH Tryd.prog laidAll W) :
    Calls Tryd.prog 9 args W fun e W' => ∃ v, e = .returned v ∧ Rows.digestListsSpec.post enc Tryd.prog Tryd.f9 false true false false W args v W' := by
  have hW' := hW
  obtain ⟨p, q, hA0, hV, rfl, hfz, hnd⟩ := hW
  have hA : DataW.TrodAll enc Tryd.prog W 0 (fun _ => true) true Tryd.f9.params.toList args.toList ds p := hA0
  rw [Tryd.params9] at hA hval
  obtain ⟨v0, vs0, d0, ds0, p0, q0, hargs, rfl, rfl, h0, r0⟩ := trodAll_cons hA
  obtain ⟨v1, vs1, d1, ds1, p1, q1, rfl, rfl, rfl, h1, r1⟩ := trodAll_cons r0
  obtain ⟨v2, vs2, d2, ds2, p2, q2, rfl, rfl, rfl, h2, r2⟩ := trodAll_cons r1
  obtain ⟨v3, vs3, d3, ds3, p3, q3, rfl, rfl, rfl, h3, r3⟩ := trodAll_cons r2
  obtain ⟨rfl, rfl, rfl⟩ := trodAll_nil r3
  obtain rfl : args = #[v0, v1, v2, v3] := by cases args; simp_all
  obtain ⟨rfl, rfl⟩ := trodVars_none hV
  obtain ⟨l0, t0, s0, m0⟩ := open_texts (hval 0 22 v0 rfl rfl) h0
  obtain ⟨l1, t1, s1, m1⟩ := open_texts (hval 1 22 v1 rfl rfl) h1
  obtain ⟨a2, rfl, _, _, g2⟩ := open_string Tryd.underlying9 (hval 2 9 v2 rfl rfl) h2
  obtain ⟨a3, rfl, _, _, g3⟩ := open_string Tryd.underlying9 (hval 3 9 v3 rfl rfl) h3
  refine (law_walk v0 l0 v1 l1 a2 a3 W t0 s0 m0 t1 s1 m1 (le_of_max g2) (le_of_max g3) (hasTab hL)).mono fun e W' ⟨he, hg⟩ => ?_
  subst he
  exact ⟨_, rfl, post_law rfl rfl rfl rfl rfl (by rw [Tryd.params9]; decide) hW' hg⟩

theorem laid_met (os : Os) : laidMet Tryd.prog Rows.digestListsRow.laid ((laidWorld os).forCall (fun _ _ => 0) ⟨#[], #[.slice none 0 0, .slice none 0 0, .string ⟨#[]⟩, .string ⟨#[]⟩], []⟩).memory :=
  laidMet_of_run' 8 (by kernel_rfl) (by kernel_rfl)
theorem reads (os : Os) {H : Type} (enc : TypeId × Value → H) : ∃ places, DataW.whole enc Tryd.prog ((laidWorld os).forCall (fun _ _ => 0) ⟨#[], #[.slice none 0 0, .slice none 0 0, .string ⟨#[]⟩, .string ⟨#[]⟩], []⟩).memory Tryd.f9.params.toList Rows.digestListsSpec.vars false #[Value.slice none 0 0, Value.slice none 0 0, Value.string ⟨#[]⟩, Value.string ⟨#[]⟩].toList 8 = some ([.nil, .nil, .lit (.string []), .lit (.string [])], [], places) :=
  ⟨[], by kernel_rfl⟩

set_option maxRecDepth 100000 in
theorem lifted (os : Os) (started : os.Started) (H : Type) (enc : TypeId × Value → H) (F : Stop.Interp) :
    ReturnsInHanded {} Tryd.checked os 9 .any ((OpenSpec.ofChange Rows.digestListsSpec).preRow enc Tryd.prog Tryd.f9 Rows.digestListsRow.domain false Rows.digestListsRow.laid) (((OpenSpec.ofChange Rows.digestListsSpec).at F).post enc Tryd.prog Tryd.f9 false true false false) := by
  obtain ⟨places, hx⟩ := reads os enc
  refine returnsInHanded_of_row (C := Tryd.checked) (s := OpenSpec.ofChange Rows.digestListsSpec) own started (by kernel_rfl) Tryd.func9
    (witness_row_at (enc := enc) (C := Tryd.checked) false (laidWorld os) #[.slice none 0 0, .slice none 0 0, .string ⟨#[]⟩, .string ⟨#[]⟩] rfl (by kernel_rfl) (by kernel_rfl) (by kernel_rfl)
      (OpenSpec.preRow_of_cond 8 hx (by kernel_rfl) (fun k hk => by cases hk) (by kernel_rfl) (laid_met os))) ?_
  intro W base args ds gs before hval hW _ _ _ hL _ _
  exact contract H enc W base args ds gs before hval hW hL

theorem said : Rows.DigestListsSaid :=
  OpenClaim.holds_of_cond 9 Tryd.f9 rfl rfl rfl rfl rfl rfl rfl ⟨rfl, rfl, rfl, rfl, rfl⟩ rfl rfl rfl rfl rfl (by kernel_rfl) Tryd.func9 (by kernel_rfl)
    (of_decide_eq_true (by kernel_rfl)) (by unfold Func.isWrapper; first | (rw [if_pos (by decide +kernel)]; kernel_rfl) | (rw [if_neg (by decide +kernel)]; exact ⟨rfl, rfl⟩))
    (fun os started H enc _ F => by rw [OpenClaim.pre_eq_preRow]; exact lifted os started H enc F)

/-- No parameter wants a stand-in; the program's own looks are off: what the card asks. -/
theorem plain (f : FuncId) (fn : Func) (hf : Tryd.pinned.checked.prog.funcNamed "pandect/pandectlaw01.DigestLists" = some f) (hfn : Tryd.pinned.checked.prog.funcs[f]? = some fn) :
    false = Tryd.pinned.checked.prog.looks [] ∧ ∀ (j : Nat) t, fn.params[j]? = some t → Tryd.pinned.checked.prog.wantsStandIn t = false := by
  obtain rfl : f = 9 := Option.some.inj ((show Tryd.prog.funcNamed "pandect/pandectlaw01.DigestLists" = some 9 by kernel_rfl).symm.trans hf) |>.symm
  obtain rfl : fn = Tryd.f9 := (Option.some.inj (Tryd.func9.symm.trans hfn)).symm
  refine ⟨by kernel_rfl, fun j t ht => ?_⟩
  rw [Tryd.params9] at ht
  have hm := Array.mem_of_getElem? ht
  simp only [List.mem_toArray, List.mem_cons, List.not_mem_nil, or_false] at hm
  rcases hm with rfl | rfl | rfl | rfl
  · exact wants_texts
  · exact wants_texts
  · exact wants_string
  · exact wants_string

theorem card : Rows.DigestListsCardSaid :=
  Claim7.holds_tied_plain_at .later [] _ _ _ _ said (fun _ h => by cases h) (by kernel_rfl) (fun _ h => by cases h) digestLists_row_tie rfl ⟨rfl, rfl⟩ (by kernel_rfl) rfl plain (by kernel_rfl)
end Go.Proofs.YtddfkffaecgjiaaDoor.digestLists
