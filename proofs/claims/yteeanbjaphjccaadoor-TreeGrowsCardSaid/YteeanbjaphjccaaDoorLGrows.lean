/-
  TreeGrows: for every list and number the call returns true and its arguments stay, where the three tables of the library hold what the program's text lays.
-/
import Derived.Test.YteeanbjaphjccaaDoorLFrameX
import Derived.Test.YteeanbjaphjccaaDoorTHead
import Derived.Test.YteeanbjaphjccaaDoorTDigits
namespace Go.Proofs.YteeanbjaphjccaaDoor
open Go.RowKit
theorem Tr.rem_at (n k : Nat) : (n : Int) % (k : Int) = ((n % k : Nat) : Int) := rfl
theorem IsTx.take_any {w : World} {a : Option Addr} {cap : Nat} {ss : List ByteArray} (h : IsTx w (.slice a ss.length cap) ss) (k : Nat) (hk : k ≤ ss.length) : IsTx w (.slice a k cap) (ss.take k) := by
  obtain ⟨a', cap', e, h1, h2, hc⟩ := h
  cases e
  by_cases h0 : ss = []
  · subst h0
    have : k = 0 := by simpa using hk
    subst this
    exact ⟨a, cap, rfl, Nat.zero_le _, h2, fun h => absurd rfl h⟩
  · obtain ⟨b, off, rfl, hb, hc⟩ := hc h0
    exact IsTx.take h1 h2 hb hc k hk
theorem IsTx.cap {w : World} {a : Option Addr} {n cap : Nat} {ss : List ByteArray} (h : IsTx w (.slice a n cap) ss) : n = ss.length ∧ ss.length ≤ cap := by
  obtain ⟨a', cap', e, h1, h2, hc⟩ := h
  cases e
  exact ⟨rfl, h1⟩
theorem Tr.small_take {ss : List ByteArray} {n : Nat} (h : ∀ s ∈ ss, s.size ≤ n) (k : Nat) : ∀ s ∈ ss.take k, s.size ≤ n := fun s hs => h s (List.mem_of_mem_take hs)
end Go.Proofs.YteeanbjaphjccaaDoor
namespace Go.Proofs.YteeanbjaphjccaaDoor.treeGrows
open Go.ChangeShapes Go.WideShapes Go.ChangeAt Go.RowKit
open Go.WideMaps Go.WideElems
open Go.ChangeMaps (open_string shut_string)

set_option maxHeartbeats 4000000 in
set_option maxRecDepth 100000 in
theorem walk_zero (a : Option Addr) (cap : Nat) (l : List ByteArray) (n m : Nat) (hn : n ≤ 255) (hm : m = n % (l.length + 1)) (h0 : m = 0) (w : World) (hv : IsTx w (.slice a l.length cap) l) (hf : Tr.few l = true) (ht : HasTab w) :
    Calls Tryd.prog 7 #[.slice a l.length cap, .int .u8 n] w fun e w' => e = .returned (.bool true) ∧ Below w.heap.size w w' := by
  have HT := Lib.hid ht
  have HV := Lib.hid hv
  have HF := Lib.hid hf
  have HB := Lib.hid (Below.refl w.heap.size w)
  have hl20 := (Tr.few_out hf).1
  have hcap := hv.cap.2
  have hml : m ≤ l.length := by rw [hm]; have := Nat.mod_lt n (show 0 < l.length + 1 by omega); omega
  have hm' : (n : Int) % ((l.length : Int) + 1) = (m : Int) := by rw [hm]; exact Tr.rem_at n (l.length + 1)
  subst h0
  rw [Int.natCast_zero] at hm'
  have p1 : (0 : Int) ≤ (0 : Int) := by omega
  have p2 : ((0 : Nat) : Int) ≤ (cap : Int) := by omega
  clear ht hv hf hm
  go_enter Tryd.func7, Tryd.ntmps7
  go_wp2_with fail
  refine (head_walk w HT.out).mono ?_
  rintro e w1 ⟨rfl, hb⟩
  replace HB := Lib.hid (HB.out.trans (hb.mono HB.out.size))
  replace HT := Lib.hid (HT.out.below hb)
  replace HV := Lib.hid (HV.out.below hb)
  clear hb
  go_wp2_with fail
  refine (lawfew_true _ l w1 HV.out HF.out).mono ?_
  rintro e w2 ⟨rfl, rfl⟩
  go_wp2_with fail
  refine (link_zero _ l _ HV.out).mono ?_
  rintro e w2 ⟨vx, lx, rfl, htx, hpx, hzx, hb⟩
  replace HB := Lib.hid (HB.out.trans (hb.mono HB.out.size))
  replace HT := Lib.hid (HT.out.below hb)
  replace HV := Lib.hid (HV.out.below hb)
  have HX := Lib.hid htx
  have HZ : Hid (∀ s ∈ lx, s.size ≤ 200) := fun s h => Nat.le_trans (hzx s h) (by omega)
  have HP : Hid (Tr.bs lx = []) := hpx
  obtain ⟨ax, cx, rfl, hx1, hx2, _⟩ := htx
  clear hb hzx hpx
  go_wp2_with fail
  go_loop [9, 10] (fun i j => ∃ d q : Nat, i = .int .i64 d ∧ j = .int .i64 q ∧ d + q ≤ 20 ∧ Hid (l.length < (q + 1) * 2 ^ d)) (fun _ j => (intOf j).toNat)
  case atStart => exact ⟨0, l.length, rfl, rfl, by omega, by show _ < _; omega⟩
  case round =>
    obtain ⟨d, q, rfl, rfl, hdq, hlt⟩ := hrel
    by_cases hq : (0 : Int) < q
    · go_wp2_with fail
      go_round
      case rel => exact ⟨d + 1, q / 2, by go_num, by go_num, by omega, Tr.digits_step hlt.out⟩
      case measure => simp [intOf]; omega
    · have HD : Hid (l.length ≤ 2 ^ d) := by
        have : q = 0 := by omega
        rw [this] at hlt
        exact Tr.digits_end hlt.out
      clear hlt
      have hdd : d ≤ 20 := by omega
      have hle : (lx.length : Int) ≤ (d : Int) + 1 := by
        have h1 := Tr.len_of HP.out
        rw [List.length_nil] at h1
        omega
      have hx0 : ((lx.length : Int) == 0) = true := by
        have h1 := Tr.len_of HP.out
        rw [List.length_nil] at h1
        exact beq_iff_eq.2 (by omega)
      clear hdq HD
      go_wp2_with fail
      refine (root_walk (l.take 0) _ _ (by rw [List.length_take]; omega) (HV.out.take_any 0 (by omega)) (Tr.small_take (Tr.few_small HF.out) 0) HT.out).mono ?_
      rintro e w3 ⟨r1, rfl, hr1, hz1, hb⟩
      replace HB := Lib.hid (HB.out.trans (hb.mono HB.out.size))
      replace HT := Lib.hid (HT.out.below hb)
      replace HV := Lib.hid (HV.out.below hb)
      replace HX := Lib.hid (HX.out.below hb)
      clear hb
      go_wp2_with fail
      refine (root_walk l _ _ (Tr.few_len HF.out) HV.out (Tr.few_small HF.out) HT.out).mono ?_
      rintro e w4 ⟨r2, rfl, hr2, hz2, hb⟩
      replace HB := Lib.hid (HB.out.trans (hb.mono HB.out.size))
      replace HT := Lib.hid (HT.out.below hb)
      replace HX := Lib.hid (HX.out.below hb)
      clear hb
      go_wp2_with fail
      refine ((ext_walk r1 r2 0 l.length _ lx _ HT.out HX.out (by omega) (by omega) HZ.out).mono fun _ _ h => boolOut (c := true) h (by
        rw [hr1.out, hr2.out, HP.out, Tr.bs_take]
        have := Tr.ext_link0 (l := Tr.bs l) (by rw [Tr.bs_len]; omega)
        rw [Tr.bs_len] at this
        exact this)).mono ?_
      rintro e w5 ⟨rfl, hb⟩
      replace HB := Lib.hid (HB.out.trans (hb.mono HB.out.size))
      clear hb hr1 hr2
      go_wp2_with fail
      go_ret
      exact ⟨rfl, HB.out⟩

set_option maxHeartbeats 4000000 in
set_option maxRecDepth 100000 in
theorem walk_pos (a : Option Addr) (cap : Nat) (l : List ByteArray) (n m : Nat) (hn : n ≤ 255) (hm : m = n % (l.length + 1)) (h0 : 0 < m) (w : World) (hv : IsTx w (.slice a l.length cap) l) (hf : Tr.few l = true) (ht : HasTab w) :
    Calls Tryd.prog 7 #[.slice a l.length cap, .int .u8 n] w fun e w' => e = .returned (.bool true) ∧ Below w.heap.size w w' := by
  have HT := Lib.hid ht
  have HV := Lib.hid hv
  have HF := Lib.hid hf
  have HB := Lib.hid (Below.refl w.heap.size w)
  have hl20 := (Tr.few_out hf).1
  have hcap := hv.cap.2
  have hml : m ≤ l.length := by rw [hm]; have := Nat.mod_lt n (show 0 < l.length + 1 by omega); omega
  have hm' : (n : Int) % ((l.length : Int) + 1) = (m : Int) := by rw [hm]; exact Tr.rem_at n (l.length + 1)
  have p1 : (0 : Int) ≤ (m : Int) := by omega
  have p2 : (m : Int) ≤ (cap : Int) := by omega
  clear ht hv hf hm
  go_enter Tryd.func7, Tryd.ntmps7
  go_wp2_with fail
  refine (head_walk w HT.out).mono ?_
  rintro e w1 ⟨rfl, hb⟩
  replace HB := Lib.hid (HB.out.trans (hb.mono HB.out.size))
  replace HT := Lib.hid (HT.out.below hb)
  replace HV := Lib.hid (HV.out.below hb)
  clear hb
  go_wp2_with fail
  refine (lawfew_true _ l w1 HV.out HF.out).mono ?_
  rintro e w2 ⟨rfl, rfl⟩
  go_wp2_with fail
  refine (link_ok _ l m _ HV.out (Tr.few_small HF.out) (Tr.few_len HF.out) h0 hml HT.out).mono ?_
  rintro e w2 ⟨vx, lx, rfl, htx, hpx, hzx, hb⟩
  replace HB := Lib.hid (HB.out.trans (hb.mono HB.out.size))
  replace HT := Lib.hid (HT.out.below hb)
  replace HV := Lib.hid (HV.out.below hb)
  have HX := Lib.hid htx
  have HZ : Hid (∀ s ∈ lx, s.size ≤ 200) := fun s h => Nat.le_trans (hzx s h) (by omega)
  have HP : Hid (Tr.bs lx = Tr.link (Tr.bs l) m true) := hpx
  obtain ⟨ax, cx, rfl, hx1, hx2, _⟩ := htx
  clear hb hzx hpx
  go_wp2_with fail
  go_loop [9, 10] (fun i j => ∃ d q : Nat, i = .int .i64 d ∧ j = .int .i64 q ∧ d + q ≤ 20 ∧ Hid (l.length < (q + 1) * 2 ^ d)) (fun _ j => (intOf j).toNat)
  case atStart => exact ⟨0, l.length, rfl, rfl, by omega, by show _ < _; omega⟩
  case round =>
    obtain ⟨d, q, rfl, rfl, hdq, hlt⟩ := hrel
    by_cases hq : (0 : Int) < q
    · go_wp2_with fail
      go_round
      case rel => exact ⟨d + 1, q / 2, by go_num, by go_num, by omega, Tr.digits_step hlt.out⟩
      case measure => simp [intOf]; omega
    · have HD : Hid (l.length ≤ 2 ^ d) := by
        have : q = 0 := by omega
        rw [this] at hlt
        exact Tr.digits_end hlt.out
      clear hlt
      have hdd : d ≤ 20 := by omega
      have hle : (lx.length : Int) ≤ (d : Int) + 1 := by
        have h1 := Tr.len_of HP.out
        rw [Tr.link_length _ _ _ _ rfl, Tr.bs_len] at h1
        have h2 := Tr.llen_le d l.length m true HD.out
        omega
      have m0 : ((m : Int) == 0) = false := beq_eq_false_iff_ne.2 (by omega)
      by_cases hml2 : m = l.length
      · have hx0 : ((lx.length : Int) == 0) = true := by
          have h1 := Tr.len_of HP.out
          rw [Tr.link_length _ _ _ _ rfl, Tr.bs_len, Tr.llen_all hml2] at h1
          exact beq_iff_eq.2 (by simp at h1; simp [h1])
        have m1 : ((m : Int) == (l.length : Int)) = true := beq_iff_eq.2 (by omega)
        clear hml2
        clear hdq HD
        go_wp2_with fail
        refine (root_walk (l.take m) _ _ (by rw [List.length_take]; omega) (HV.out.take_any m (by omega)) (Tr.small_take (Tr.few_small HF.out) m) HT.out).mono ?_
        rintro e w3 ⟨r1, rfl, hr1, hz1, hb⟩
        replace HB := Lib.hid (HB.out.trans (hb.mono HB.out.size))
        replace HT := Lib.hid (HT.out.below hb)
        replace HV := Lib.hid (HV.out.below hb)
        replace HX := Lib.hid (HX.out.below hb)
        clear hb
        go_wp2_with fail
        refine (root_walk l _ _ (Tr.few_len HF.out) HV.out (Tr.few_small HF.out) HT.out).mono ?_
        rintro e w4 ⟨r2, rfl, hr2, hz2, hb⟩
        replace HB := Lib.hid (HB.out.trans (hb.mono HB.out.size))
        replace HT := Lib.hid (HT.out.below hb)
        replace HX := Lib.hid (HX.out.below hb)
        clear hb
        go_wp2_with fail
        refine ((ext_walk r1 r2 m l.length _ lx _ HT.out HX.out (by omega) (by omega) HZ.out).mono fun _ _ h => boolOut (c := true) h (by
          rw [hr1.out, hr2.out, HP.out, Tr.bs_take]
          have := Tr.ext_link (l := Tr.bs l) (m := m) h0 (by rw [Tr.bs_len]; exact hml) (by rw [Tr.bs_len]; omega)
          rw [Tr.bs_len] at this
          exact this)).mono ?_
        rintro e w5 ⟨rfl, hb⟩
        replace HB := Lib.hid (HB.out.trans (hb.mono HB.out.size))
        clear hb hr1 hr2
        go_wp2_with fail
        go_ret
        exact ⟨rfl, HB.out⟩
      · have hx0 : ((lx.length : Int) == 0) = false := by
          have h1 := Tr.len_of HP.out
          rw [Tr.link_length _ _ _ _ rfl, Tr.bs_len] at h1
          have h2 := Tr.llen_pos (n := l.length) (m := m) (whole := true) (by omega) hml2
          exact beq_eq_false_iff_ne.2 (by omega)
        have m1 : ((m : Int) == (l.length : Int)) = false := beq_eq_false_iff_ne.2 (by omega)
        clear hml2
        clear hdq HD
        go_wp2_with fail
        refine (root_walk (l.take m) _ _ (by rw [List.length_take]; omega) (HV.out.take_any m (by omega)) (Tr.small_take (Tr.few_small HF.out) m) HT.out).mono ?_
        rintro e w3 ⟨r1, rfl, hr1, hz1, hb⟩
        replace HB := Lib.hid (HB.out.trans (hb.mono HB.out.size))
        replace HT := Lib.hid (HT.out.below hb)
        replace HV := Lib.hid (HV.out.below hb)
        replace HX := Lib.hid (HX.out.below hb)
        clear hb
        go_wp2_with fail
        refine (root_walk l _ _ (Tr.few_len HF.out) HV.out (Tr.few_small HF.out) HT.out).mono ?_
        rintro e w4 ⟨r2, rfl, hr2, hz2, hb⟩
        replace HB := Lib.hid (HB.out.trans (hb.mono HB.out.size))
        replace HT := Lib.hid (HT.out.below hb)
        replace HX := Lib.hid (HX.out.below hb)
        clear hb
        go_wp2_with fail
        refine ((ext_walk r1 r2 m l.length _ lx _ HT.out HX.out (by omega) (by omega) HZ.out).mono fun _ _ h => boolOut (c := true) h (by
          rw [hr1.out, hr2.out, HP.out, Tr.bs_take]
          have := Tr.ext_link (l := Tr.bs l) (m := m) h0 (by rw [Tr.bs_len]; exact hml) (by rw [Tr.bs_len]; omega)
          rw [Tr.bs_len] at this
          exact this)).mono ?_
        rintro e w5 ⟨rfl, hb⟩
        replace HB := Lib.hid (HB.out.trans (hb.mono HB.out.size))
        clear hb hr1 hr2
        go_wp2_with fail
        go_ret
        exact ⟨rfl, HB.out⟩

theorem law_walk (v : Value) (l : List ByteArray) (n : Nat) (w : World) (hv : IsTx w v l) (_hs : ∀ s ∈ l, s.size ≤ 9223372036854775807) (hn : n ≤ 255) (ht : HasTab w) :
    Calls Tryd.prog 7 #[v, .int .u8 n] w fun e w' => e = .returned (.bool true) ∧ Below w.heap.size w w' := by
  cases hf : Tr.few l with
  | true =>
    have hv' := hv
    obtain ⟨a, cap, rfl, _⟩ := hv
    by_cases h0 : n % (l.length + 1) = 0
    · exact walk_zero a cap l n _ hn rfl h0 w hv' hf ht
    · exact walk_pos a cap l n _ hn rfl (by omega) w hv' hf ht
  | false =>
    have HT := Lib.hid ht
    have HV := Lib.hid hv
    have HF := Lib.hid hf
    clear ht hv hf
    go_enter Tryd.func7, Tryd.ntmps7
    go_wp2_with fail
    refine (head_walk w HT.out).mono ?_
    rintro e w1 ⟨rfl, hb⟩
    go_wp2_with fail
    refine (lawfew_false _ l w1 (HV.out.below hb) HF.out).mono ?_
    rintro e w2 ⟨rfl, rfl⟩
    go_wp2_with fail
    go_ret
    exact ⟨rfl, hb⟩

/-- What the walk gives, for all arguments and every world that holds the tables. -/
theorem contract (H : Type) (enc : TypeId × Value → H) (W : World) (base : Nat) (args : Array Value) (ds gs : List (DataW H)) (before : List MemPlace)
    (hval : ∀ (j : Nat) t v, Tryd.f7.params[j]? = some t → args[j]? = some v → Value.okWide Tryd.prog W .any base t v)
    (hW : DataW.Whole enc Tryd.prog Tryd.f7.params.toList Rows.treeGrowsSpec.vars false W args.toList ds gs before) (hL : laidMetH Tryd.prog laidAll W) :
    Calls Tryd.prog 7 args W fun e W' => ∃ v, e = .returned v ∧ Rows.treeGrowsSpec.post enc Tryd.prog Tryd.f7 false true false false W args v W' := by
  have hW' := hW
  obtain ⟨p, q, hA0, hV, rfl, hfz, hnd⟩ := hW
  have hA : DataW.TrodAll enc Tryd.prog W 0 (fun _ => true) true Tryd.f7.params.toList args.toList ds p := hA0
  rw [Tryd.params7] at hA hval
  obtain ⟨v0, vs0, d0, ds0, p0, q0, hargs, rfl, rfl, h0, r0⟩ := trodAll_cons hA
  obtain ⟨v1, vs1, d1, ds1, p1, q1, rfl, rfl, rfl, h1, r1⟩ := trodAll_cons r0
  obtain ⟨rfl, rfl, rfl⟩ := trodAll_nil r1
  obtain rfl : args = #[v0, v1] := by cases args; simp_all
  obtain ⟨rfl, rfl⟩ := trodVars_none hV
  obtain ⟨l0, t0, s0⟩ := open_tx (hval 0 22 v0 rfl rfl) h0
  obtain ⟨z1, rfl, _, _, g1⟩ := open_int Tryd.underlying5 (hval 1 5 v1 rfl rfl) h1
  obtain ⟨n1, rfl⟩ := Int.eq_ofNat_of_zero_le (bounds_u8 g1).1
  refine (law_walk v0 l0 n1 W t0 s0 (Int.ofNat_le.1 (bounds_u8 g1).2) (hasTab hL)).mono fun e W' ⟨he, hg⟩ => ?_
  subst he
  exact ⟨_, rfl, post_law rfl rfl rfl rfl rfl (by rw [Tryd.params7]; decide) hW' hg⟩

theorem laid_met (os : Os) : laidMet Tryd.prog Rows.treeGrowsRow.laid ((laidWorld os).forCall (fun _ _ => 0) ⟨#[], #[.slice none 0 0, .int .u8 0], []⟩).memory :=
  laidMet_of_run' 8 (by kernel_rfl) (by kernel_rfl)
theorem reads (os : Os) {H : Type} (enc : TypeId × Value → H) : ∃ places, DataW.whole enc Tryd.prog ((laidWorld os).forCall (fun _ _ => 0) ⟨#[], #[.slice none 0 0, .int .u8 0], []⟩).memory Tryd.f7.params.toList Rows.treeGrowsSpec.vars false #[Value.slice none 0 0, Value.int .u8 0].toList 8 = some ([.nil, .lit (.int .u8 0)], [], places) :=
  ⟨[], by kernel_rfl⟩

set_option maxRecDepth 100000 in
theorem lifted (os : Os) (started : os.Started) (H : Type) (enc : TypeId × Value → H) (F : Stop.Interp) :
    ReturnsInHanded {} Tryd.checked os 7 .any ((OpenSpec.ofChange Rows.treeGrowsSpec).preRow enc Tryd.prog Tryd.f7 Rows.treeGrowsRow.domain false Rows.treeGrowsRow.laid) (((OpenSpec.ofChange Rows.treeGrowsSpec).at F).post enc Tryd.prog Tryd.f7 false true false false) := by
  obtain ⟨places, hx⟩ := reads os enc
  refine returnsInHanded_of_row (C := Tryd.checked) (s := OpenSpec.ofChange Rows.treeGrowsSpec) own started (by kernel_rfl) Tryd.func7
    (witness_row_at (enc := enc) (C := Tryd.checked) false (laidWorld os) #[.slice none 0 0, .int .u8 0] rfl (by kernel_rfl) (by kernel_rfl) (by kernel_rfl)
      (OpenSpec.preRow_of_cond 8 hx (by kernel_rfl) (fun k hk => by cases hk) (by kernel_rfl) (laid_met os))) ?_
  intro W base args ds gs before hval hW _ _ _ hL _ _
  exact contract H enc W base args ds gs before hval hW hL

theorem said : Rows.TreeGrowsSaid :=
  OpenClaim.holds_of_cond 7 Tryd.f7 rfl rfl rfl rfl rfl rfl rfl ⟨rfl, rfl, rfl, rfl, rfl⟩ rfl rfl rfl rfl rfl (by kernel_rfl) Tryd.func7 (by kernel_rfl)
    (of_decide_eq_true (by kernel_rfl)) (by unfold Func.isWrapper; first | (rw [if_pos (by decide +kernel)]; kernel_rfl) | (rw [if_neg (by decide +kernel)]; exact ⟨rfl, rfl⟩))
    (fun os started H enc _ F => by rw [OpenClaim.pre_eq_preRow]; exact lifted os started H enc F)

/-- No parameter wants a stand-in; the program's own looks are off: what the card asks. -/
theorem plain (f : FuncId) (fn : Func) (hf : Tryd.pinned.checked.prog.funcNamed "pandect/pandectlaw02.TreeGrows" = some f) (hfn : Tryd.pinned.checked.prog.funcs[f]? = some fn) :
    false = Tryd.pinned.checked.prog.looks [] ∧ ∀ (j : Nat) t, fn.params[j]? = some t → Tryd.pinned.checked.prog.wantsStandIn t = false := by
  obtain rfl : f = 7 := Option.some.inj ((show Tryd.prog.funcNamed "pandect/pandectlaw02.TreeGrows" = some 7 by kernel_rfl).symm.trans hf) |>.symm
  obtain rfl : fn = Tryd.f7 := (Option.some.inj (Tryd.func7.symm.trans hfn)).symm
  refine ⟨by kernel_rfl, fun j t ht => ?_⟩
  rw [Tryd.params7] at ht
  have hm := Array.mem_of_getElem? ht
  simp only [List.mem_toArray, List.mem_cons, List.not_mem_nil, or_false] at hm
  rcases hm with rfl | rfl
  · exact wants_texts
  · exact wants_u8

theorem card : Rows.TreeGrowsCardSaid :=
  Claim7.holds_tied_plain_at .later [] _ _ _ _ said (fun _ h => by cases h) (by kernel_rfl) (fun _ h => by cases h) treeGrows_row_tie rfl ⟨rfl, rfl⟩ (by kernel_rfl) rfl plain (by kernel_rfl)
end Go.Proofs.YteeanbjaphjccaaDoor.treeGrows
