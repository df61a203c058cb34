/-
  TreeRoots: for every two lists the call returns true and its arguments stay, where the three tables of the library hold what the program's text lays.
-/
import Derived.Test.YteeanbjaphjccaaDoorLFrameX
import Derived.Test.YteeanbjaphjccaaDoorTHead
import Derived.Test.YteeanbjaphjccaaDoorTFew
import Derived.Test.YteeanbjaphjccaaDoorRTexts
import Derived.Test.YteeanbjaphjccaaDoorRShown
namespace Go.Proofs.YteeanbjaphjccaaDoor.treeRoots
open Go.ChangeShapes Go.WideShapes Go.ChangeAt Go.RowKit
open Go.WideMaps Go.WideElems
open Go.ChangeMaps (open_string shut_string)

set_option maxHeartbeats 4000000 in
set_option maxRecDepth 100000 in
theorem w_few1 (a b : List ByteArray) (v1 v2 : Value) (w : World) (hv1 : IsTx w v1 a) (hv2 : IsTx w v2 b) (ht : HasTab w) (hf1 : Tr.few a = false) :
    Calls Tryd.prog 6 #[v1, v2] w fun e w' => e = .returned (.bool true) ∧ Below w.heap.size w w' := by
  have HB := Lib.hid (Below.refl w.heap.size w)
  have HT := Lib.hid ht
  have HV1 := Lib.hid hv1
  have HV2 := Lib.hid hv2
  have HF1 := Lib.hid hf1
  obtain ⟨a1, c1, rfl, _, _, _⟩ := hv1
  obtain ⟨a2, c2, rfl, _, _, _⟩ := hv2
  clear ht hf1
  go_enter Tryd.func6, Tryd.ntmps6
  go_wp2_with fail
  refine (head_walk w HT.out).mono ?_
  rintro e w1 ⟨rfl, hb⟩
  replace HB := Lib.hid (HB.out.trans (hb.mono HB.out.size))
  replace HT := Lib.hid (HT.out.below hb)
  replace HV1 := Lib.hid (HV1.out.below hb)
  replace HV2 := Lib.hid (HV2.out.below hb)
  clear hb
  go_wp2_with fail
  refine (lawfew_false _ a w1 HV1.out HF1.out).mono ?_
  rintro e w2 ⟨rfl, rfl⟩
  go_wp2_with fail
  go_ret
  exact ⟨rfl, HB.out⟩

set_option maxHeartbeats 4000000 in
set_option maxRecDepth 100000 in
theorem w_few2 (a b : List ByteArray) (v1 v2 : Value) (w : World) (hv1 : IsTx w v1 a) (hv2 : IsTx w v2 b) (ht : HasTab w) (hf1 : Tr.few a = true) (hf2 : Tr.few b = false) :
    Calls Tryd.prog 6 #[v1, v2] w fun e w' => e = .returned (.bool true) ∧ Below w.heap.size w w' := by
  have HB := Lib.hid (Below.refl w.heap.size w)
  have HT := Lib.hid ht
  have HV1 := Lib.hid hv1
  have HV2 := Lib.hid hv2
  have HF1 := Lib.hid hf1
  have HF2 := Lib.hid hf2
  obtain ⟨a1, c1, rfl, _, _, _⟩ := hv1
  obtain ⟨a2, c2, rfl, _, _, _⟩ := hv2
  clear ht hf1 hf2
  go_enter Tryd.func6, Tryd.ntmps6
  go_wp2_with fail
  refine (head_walk w HT.out).mono ?_
  rintro e w1 ⟨rfl, hb⟩
  replace HB := Lib.hid (HB.out.trans (hb.mono HB.out.size))
  replace HT := Lib.hid (HT.out.below hb)
  replace HV1 := Lib.hid (HV1.out.below hb)
  replace HV2 := Lib.hid (HV2.out.below hb)
  clear hb
  go_wp2_with fail
  refine (lawfew_true _ a w1 HV1.out HF1.out).mono ?_
  rintro e w2 ⟨rfl, rfl⟩
  go_wp2_with fail
  refine (lawfew_false _ b w1 HV2.out HF2.out).mono ?_
  rintro e w2 ⟨rfl, rfl⟩
  go_wp2_with fail
  go_ret
  exact ⟨rfl, HB.out⟩

set_option maxHeartbeats 4000000 in
set_option maxRecDepth 100000 in
theorem w_len (a b : List ByteArray) (v1 v2 : Value) (w : World) (hv1 : IsTx w v1 a) (hv2 : IsTx w v2 b) (ht : HasTab w) (hf1 : Tr.few a = true) (hf2 : Tr.few b = true) (hl : a.length ≠ b.length) :
    Calls Tryd.prog 6 #[v1, v2] w fun e w' => e = .returned (.bool true) ∧ Below w.heap.size w w' := by
  have HB := Lib.hid (Below.refl w.heap.size w)
  have HT := Lib.hid ht
  have HV1 := Lib.hid hv1
  have HV2 := Lib.hid hv2
  have HF1 := Lib.hid hf1
  have HF2 := Lib.hid hf2
  have hq : ((a.length : Int) != (b.length : Int)) = true := by simp; omega
  obtain ⟨a1, c1, rfl, _, _, _⟩ := hv1
  obtain ⟨a2, c2, rfl, _, _, _⟩ := hv2
  clear ht hf1 hf2 hl
  go_enter Tryd.func6, Tryd.ntmps6
  go_wp2_with fail
  refine (head_walk w HT.out).mono ?_
  rintro e w1 ⟨rfl, hb⟩
  replace HB := Lib.hid (HB.out.trans (hb.mono HB.out.size))
  replace HT := Lib.hid (HT.out.below hb)
  replace HV1 := Lib.hid (HV1.out.below hb)
  replace HV2 := Lib.hid (HV2.out.below hb)
  clear hb
  go_wp2_with fail
  refine (lawfew_true _ a w1 HV1.out HF1.out).mono ?_
  rintro e w2 ⟨rfl, rfl⟩
  go_wp2_with fail
  refine (lawfew_true _ b w1 HV2.out HF2.out).mono ?_
  rintro e w2 ⟨rfl, rfl⟩
  go_wp2_with fail
  go_ret
  exact ⟨rfl, HB.out⟩

set_option maxHeartbeats 4000000 in
set_option maxRecDepth 100000 in
theorem w_same (a b : List ByteArray) (v1 v2 : Value) (w : World) (hv1 : IsTx w v1 a) (hv2 : IsTx w v2 b) (ht : HasTab w) (hf1 : Tr.few a = true) (hf2 : Tr.few b = true) (hl : a.length = b.length) (hsm : Dg.same a b = true) (hr : Tr.root (Tr.bs a) = Tr.root (Tr.bs b)) :
    Calls Tryd.prog 6 #[v1, v2] w fun e w' => e = .returned (.bool true) ∧ Below w.heap.size w w' := by
  have HB := Lib.hid (Below.refl w.heap.size w)
  have HT := Lib.hid ht
  have HV1 := Lib.hid hv1
  have HV2 := Lib.hid hv2
  have HF1 := Lib.hid hf1
  have HF2 := Lib.hid hf2
  have HSM := Lib.hid hsm
  have HR := Lib.hid hr
  have hq : ((a.length : Int) != (b.length : Int)) = false := by simp; omega
  obtain ⟨a1, c1, rfl, _, _, _⟩ := hv1
  obtain ⟨a2, c2, rfl, _, _, _⟩ := hv2
  clear ht hf1 hf2 hl hsm hr
  go_enter Tryd.func6, Tryd.ntmps6
  go_wp2_with fail
  refine (head_walk w HT.out).mono ?_
  rintro e w1 ⟨rfl, hb⟩
  replace HB := Lib.hid (HB.out.trans (hb.mono HB.out.size))
  replace HT := Lib.hid (HT.out.below hb)
  replace HV1 := Lib.hid (HV1.out.below hb)
  replace HV2 := Lib.hid (HV2.out.below hb)
  clear hb
  go_wp2_with fail
  refine (lawfew_true _ a w1 HV1.out HF1.out).mono ?_
  rintro e w2 ⟨rfl, rfl⟩
  go_wp2_with fail
  refine (lawfew_true _ b w1 HV2.out HF2.out).mono ?_
  rintro e w2 ⟨rfl, rfl⟩
  go_wp2_with fail
  refine (same_walk _ _ a b w1 HV1.out.texts HV2.out.texts HV1.out.len HV2.out.len).mono ?_
  rintro e w2 ⟨rfl, hb⟩
  rw [HSM.out]
  replace HB := Lib.hid (HB.out.trans (hb.mono HB.out.size))
  replace HT := Lib.hid (HT.out.below hb)
  replace HV1 := Lib.hid (HV1.out.below hb)
  replace HV2 := Lib.hid (HV2.out.below hb)
  clear hb
  go_wp2_with fail
  refine (root_walk a _ _ (Tr.few_len HF1.out) HV1.out (Tr.few_small HF1.out) HT.out).mono ?_
  rintro e w3 ⟨r1, rfl, hr1, hz1r, hb⟩
  replace HB := Lib.hid (HB.out.trans (hb.mono HB.out.size))
  replace HT := Lib.hid (HT.out.below hb)
  replace HV2 := Lib.hid (HV2.out.below hb)
  clear hb
  go_wp2_with fail
  refine (root_walk b _ _ (Tr.few_len HF2.out) HV2.out (Tr.few_small HF2.out) HT.out).mono ?_
  rintro e w4 ⟨r2, rfl, hr2, hz2r, hb⟩
  replace HB := Lib.hid (HB.out.trans (hb.mono HB.out.size))
  have q1 := eq_yes hr1 hr2 HR.out
  clear hb hr1 hr2
  go_wp2_with fail
  go_ret
  exact ⟨rfl, HB.out⟩

set_option maxHeartbeats 4000000 in
set_option maxRecDepth 100000 in
theorem w_differ (a b : List ByteArray) (v1 v2 : Value) (w : World) (hv1 : IsTx w v1 a) (hv2 : IsTx w v2 b) (ht : HasTab w) (hf1 : Tr.few a = true) (hf2 : Tr.few b = true) (hl : a.length = b.length) (hsm : Dg.same a b = false) (hr : Tr.root (Tr.bs a) ≠ Tr.root (Tr.bs b)) :
    Calls Tryd.prog 6 #[v1, v2] w fun e w' => e = .returned (.bool true) ∧ Below w.heap.size w w' := by
  have HB := Lib.hid (Below.refl w.heap.size w)
  have HT := Lib.hid ht
  have HV1 := Lib.hid hv1
  have HV2 := Lib.hid hv2
  have HF1 := Lib.hid hf1
  have HF2 := Lib.hid hf2
  have HSM := Lib.hid hsm
  have HR := Lib.hid hr
  have hq : ((a.length : Int) != (b.length : Int)) = false := by simp; omega
  obtain ⟨a1, c1, rfl, _, _, _⟩ := hv1
  obtain ⟨a2, c2, rfl, _, _, _⟩ := hv2
  clear ht hf1 hf2 hl hsm hr
  go_enter Tryd.func6, Tryd.ntmps6
  go_wp2_with fail
  refine (head_walk w HT.out).mono ?_
  rintro e w1 ⟨rfl, hb⟩
  replace HB := Lib.hid (HB.out.trans (hb.mono HB.out.size))
  replace HT := Lib.hid (HT.out.below hb)
  replace HV1 := Lib.hid (HV1.out.below hb)
  replace HV2 := Lib.hid (HV2.out.below hb)
  clear hb
  go_wp2_with fail
  refine (lawfew_true _ a w1 HV1.out HF1.out).mono ?_
  rintro e w2 ⟨rfl, rfl⟩
  go_wp2_with fail
  refine (lawfew_true _ b w1 HV2.out HF2.out).mono ?_
  rintro e w2 ⟨rfl, rfl⟩
  go_wp2_with fail
  refine (same_walk _ _ a b w1 HV1.out.texts HV2.out.texts HV1.out.len HV2.out.len).mono ?_
  rintro e w2 ⟨rfl, hb⟩
  rw [HSM.out]
  replace HB := Lib.hid (HB.out.trans (hb.mono HB.out.size))
  replace HT := Lib.hid (HT.out.below hb)
  replace HV1 := Lib.hid (HV1.out.below hb)
  replace HV2 := Lib.hid (HV2.out.below hb)
  clear hb
  go_wp2_with fail
  refine (root_walk a _ _ (Tr.few_len HF1.out) HV1.out (Tr.few_small HF1.out) HT.out).mono ?_
  rintro e w3 ⟨r1, rfl, hr1, hz1r, hb⟩
  replace HB := Lib.hid (HB.out.trans (hb.mono HB.out.size))
  replace HT := Lib.hid (HT.out.below hb)
  replace HV2 := Lib.hid (HV2.out.below hb)
  clear hb
  go_wp2_with fail
  refine (root_walk b _ _ (Tr.few_len HF2.out) HV2.out (Tr.few_small HF2.out) HT.out).mono ?_
  rintro e w4 ⟨r2, rfl, hr2, hz2r, hb⟩
  replace HB := Lib.hid (HB.out.trans (hb.mono HB.out.size))
  have q1 : (r1.toList == r2.toList) = false := by rw [str_eq, hr1.out, hr2.out]; exact decide_eq_false HR.out
  have q2 : (r1.toList != r2.toList) = true := by simp [bne, q1]
  clear hb hr1 hr2
  go_wp2_with fail
  go_ret
  exact ⟨rfl, HB.out⟩

set_option maxHeartbeats 4000000 in
set_option maxRecDepth 100000 in
theorem w_shown (a b : List ByteArray) (v1 v2 : Value) (w : World) (hv1 : IsTx w v1 a) (hv2 : IsTx w v2 b) (ht : HasTab w) (hf1 : Tr.few a = true) (hf2 : Tr.few b = true) (hl : a.length = b.length) (hsm : Dg.same a b = false) (hr : Tr.root (Tr.bs a) = Tr.root (Tr.bs b)) (hsh : Tr.Shown (Tr.texts (Tr.bs a) ++ Tr.texts (Tr.bs b))) :
    Calls Tryd.prog 6 #[v1, v2] w fun e w' => e = .returned (.bool true) ∧ Below w.heap.size w w' := by
  obtain ⟨i0, hii, hz0, hz1, hz2⟩ := info_parts one_str
  have HI := Lib.hid hii
  have HB := Lib.hid (Below.refl w.heap.size w)
  have HT := Lib.hid ht
  have HV1 := Lib.hid hv1
  have HV2 := Lib.hid hv2
  have HF1 := Lib.hid hf1
  have HF2 := Lib.hid hf2
  have HSM := Lib.hid hsm
  have HR := Lib.hid hr
  have HSH := Lib.hid hsh
  have hla := (Tr.few_out hf1).1
  have hlb := (Tr.few_out hf2).1
  obtain ⟨a1, c1, rfl, _, _, _⟩ := hv1
  obtain ⟨a2, c2, rfl, _, _, _⟩ := hv2
  have hq : ((a.length : Int) != (b.length : Int)) = false := by simp; omega
  clear hii ht hf1 hf2 hsm hr hsh hl
  go_enter Tryd.func6, Tryd.ntmps6
  go_wp2_with fail
  refine (head_walk w HT.out).mono ?_
  rintro e w1 ⟨rfl, hb⟩
  replace HB := Lib.hid (HB.out.trans (hb.mono HB.out.size))
  replace HT := Lib.hid (HT.out.below hb)
  replace HV1 := Lib.hid (HV1.out.below hb)
  replace HV2 := Lib.hid (HV2.out.below hb)
  clear hb
  go_wp2_with fail
  refine (lawfew_true _ a w1 HV1.out HF1.out).mono ?_
  rintro e w2 ⟨rfl, rfl⟩
  go_wp2_with fail
  refine (lawfew_true _ b w1 HV2.out HF2.out).mono ?_
  rintro e w2 ⟨rfl, rfl⟩
  go_wp2_with fail
  refine (same_walk _ _ a b w1 HV1.out.texts HV2.out.texts HV1.out.len HV2.out.len).mono ?_
  rintro e w2 ⟨rfl, hb⟩
  rw [HSM.out]
  replace HB := Lib.hid (HB.out.trans (hb.mono HB.out.size))
  replace HT := Lib.hid (HT.out.below hb)
  replace HV1 := Lib.hid (HV1.out.below hb)
  replace HV2 := Lib.hid (HV2.out.below hb)
  clear hb
  go_wp2_with fail
  refine (root_walk a _ _ (Tr.few_len HF1.out) HV1.out (Tr.few_small HF1.out) HT.out).mono ?_
  rintro e w3 ⟨r1, rfl, hr1, hz1r, hb⟩
  replace HB := Lib.hid (HB.out.trans (hb.mono HB.out.size))
  replace HT := Lib.hid (HT.out.below hb)
  replace HV1 := Lib.hid (HV1.out.below hb)
  replace HV2 := Lib.hid (HV2.out.below hb)
  clear hb
  go_wp2_with fail
  refine (root_walk b _ _ (Tr.few_len HF2.out) HV2.out (Tr.few_small HF2.out) HT.out).mono ?_
  rintro e w4 ⟨r2, rfl, hr2, hz2r, hb⟩
  replace HB := Lib.hid (HB.out.trans (hb.mono HB.out.size))
  replace HV1 := Lib.hid (HV1.out.below hb)
  replace HV2 := Lib.hid (HV2.out.below hb)
  have q1 := eq_yes hr1 hr2 HR.out
  have q2 : (r1.toList != r2.toList) = false := by simp [bne, q1]
  clear hb hr1 hr2
  go_wp2_with fail
  have HB4 := Lib.hid HB.out.size
  refine (reftexts_ind 20 a _ _ hla (by omega) HV1.out (Tr.few_small HF1.out)).mono ?_
  rintro e w5 ⟨v5, l5, rfl, ho5, hp5, hz5, hb⟩
  replace HB := Lib.hid (HB.out.trans (hb.mono HB.out.size))
  replace HV2 := Lib.hid (HV2.out.below hb)
  have HO5 := Lib.hid ho5
  clear hb ho5
  go_wp2_with fail
  refine (reftexts_ind 20 b _ _ hlb (by omega) HV2.out (Tr.few_small HF2.out)).mono ?_
  rintro e w6 ⟨v6, l6, rfl, ho6, hp6, hz6, hb⟩
  have HO56 := Lib.hid (own_at hb HO5.out)
  have HO6 := Lib.hid ho6
  have HB6 := Lib.hid (HB.out.trans (hb.mono HB.out.size))
  clear hb ho6
  have hc5 : l5.length ≤ 41 := by rw [Tr.len_of hp5]; have := Tr.texts_length 20 (Tr.bs a) (by rw [Tr.bs_len]; exact hla); rw [Tr.bs_len] at this; omega
  have hc6 : l6.length ≤ 41 := by rw [Tr.len_of hp6]; have := Tr.texts_length 20 (Tr.bs b) (by rw [Tr.bs_len]; exact hlb); rw [Tr.bs_len] at this; omega
  have hs0 := HB6.out.size
  rename_i hK
  dsimp only
  refine hK _ _ ?_
  refine wpList_append_txg (by rfl) (.tmp 43) (.tmp 45) 22 rfl w.heap.size 9 i0 (.string ⟨#[]⟩) 16 Tryd.underlying22 HI.out hz0 hz1 hz2 rfl v5 l5.length (Tr.cells l5) rfl (own_mono HO56.out HB4.out) v6 l6 rfl (own_tx HO6.out) (by unfold maxLen; omega) (by omega) hs0 ?_
  intro v7 w7 ho7 hg7
  have HB7 := Lib.hid (HB6.out.grown hg7 hs0 (fun k hk => Nat.le_trans HB4.out (HO56.out.lt k hk).1))
  have HT7 := Lib.hid (own_tx (own_app ho7))
  have hbs : Tr.bs (l5 ++ l6) = Tr.texts (Tr.bs a) ++ Tr.texts (Tr.bs b) := (Tr.bs_app hp5 hp6).out
  have HSH7 : Hid (Tr.Shown (Tr.bs (l5 ++ l6))) := by show Tr.Shown _; rw [hbs]; exact HSH.out
  have HZ7 : Hid (∀ s ∈ l5 ++ l6, s.size ≤ 1000000) := fun s h => by have := Tr.small_app hz5 hz6 s h; omega
  clear ho7 hg7 hbs hz5 hz6 hp5 hp6 hK
  go_wp2_with fail
  refine (refshown_walk v7 (l5 ++ l6) w7 HT7.out HZ7.out (by rw [List.length_append]; omega) HSH7.out).mono ?_
  rintro e w8 ⟨rfl, hb⟩
  replace HB := Lib.hid (HB7.out.trans (hb.mono HB7.out.size))
  clear hb
  go_wp2_with fail
  go_ret
  exact ⟨rfl, HB.out⟩

theorem law_walk (v1 : Value) (a : List ByteArray) (v2 : Value) (b : List ByteArray) (w : World) (hv1 : IsTx w v1 a) (_h1 : ∀ s ∈ a, s.size ≤ 9223372036854775807) (hv2 : IsTx w v2 b) (_h2 : ∀ s ∈ b, s.size ≤ 9223372036854775807) (ht : HasTab w) :
    Calls Tryd.prog 6 #[v1, v2] w fun e w' => e = .returned (.bool true) ∧ Below w.heap.size w w' := by
  cases hf1 : Tr.few a with
  | false => exact w_few1 a b v1 v2 w hv1 hv2 ht hf1
  | true =>
    cases hf2 : Tr.few b with
    | false => exact w_few2 a b v1 v2 w hv1 hv2 ht hf1 hf2
    | true =>
      by_cases hl : a.length = b.length
      · cases hs : Dg.same a b with
        | true => exact w_same a b v1 v2 w hv1 hv2 ht hf1 hf2 hl hs (by rw [show Tr.bs a = Tr.bs b from of_decide_eq_true hs])
        | false =>
          by_cases hr : Tr.root (Tr.bs a) = Tr.root (Tr.bs b)
          · rcases Tr.roots_bind b.length (Tr.bs a) (Tr.bs b) (by rw [Tr.bs_len, hl]) (Tr.bs_len b) hr with h | h
            · exact absurd h (of_decide_eq_false hs)
            · exact w_shown a b v1 v2 w hv1 hv2 ht hf1 hf2 hl hs hr h
          · exact w_differ a b v1 v2 w hv1 hv2 ht hf1 hf2 hl hs hr
      · exact w_len a b v1 v2 w hv1 hv2 ht hf1 hf2 hl

/-- What the walk gives, for all arguments and every world that holds the tables. -/
theorem contract (H : Type) (enc : TypeId × Value → H) (W : World) (base : Nat) (args : Array Value) (ds gs : List (DataW H)) (before : List MemPlace)
    (hval : ∀ (j : Nat) t v, Tryd.f6.params[j]? = some t → args[j]? = some v → Value.okWide Tryd.prog W .any base t v)
    (hW : DataW.Whole enc Tryd.prog Tryd.f6.params.toList Rows.treeRootsSpec.vars false W args.toList ds gs before) (hL : laidMetH Tryd.prog laidAll W) :
    Calls Tryd.prog 6 args W fun e W' => ∃ v, e = .returned v ∧ Rows.treeRootsSpec.post enc Tryd.prog Tryd.f6 false true false false W args v W' := by
  have hW' := hW
  obtain ⟨p, q, hA0, hV, rfl, hfz, hnd⟩ := hW
  have hA : DataW.TrodAll enc Tryd.prog W 0 (fun _ => true) true Tryd.f6.params.toList args.toList ds p := hA0
  rw [Tryd.params6] at hA hval
  obtain ⟨v0, vs0, d0, ds0, p0, q0, hargs, rfl, rfl, h0, r0⟩ := trodAll_cons hA
  obtain ⟨v1, vs1, d1, ds1, p1, q1, rfl, rfl, rfl, h1, r1⟩ := trodAll_cons r0
  obtain ⟨rfl, rfl, rfl⟩ := trodAll_nil r1
  obtain rfl : args = #[v0, v1] := by cases args; simp_all
  obtain ⟨rfl, rfl⟩ := trodVars_none hV
  obtain ⟨l0, t0, s0⟩ := open_tx (hval 0 22 v0 rfl rfl) h0
  obtain ⟨l1, t1, s1⟩ := open_tx (hval 1 22 v1 rfl rfl) h1
  refine (law_walk v0 l0 v1 l1 W t0 s0 t1 s1 (hasTab hL)).mono fun e W' ⟨he, hg⟩ => ?_
  subst he
  exact ⟨_, rfl, post_law rfl rfl rfl rfl rfl (by rw [Tryd.params6]; decide) hW' hg⟩

theorem laid_met (os : Os) : laidMet Tryd.prog Rows.treeRootsRow.laid ((laidWorld os).forCall (fun _ _ => 0) ⟨#[], #[.slice none 0 0, .slice none 0 0], []⟩).memory :=
  laidMet_of_run' 8 (by kernel_rfl) (by kernel_rfl)
theorem reads (os : Os) {H : Type} (enc : TypeId × Value → H) : ∃ places, DataW.whole enc Tryd.prog ((laidWorld os).forCall (fun _ _ => 0) ⟨#[], #[.slice none 0 0, .slice none 0 0], []⟩).memory Tryd.f6.params.toList Rows.treeRootsSpec.vars false #[Value.slice none 0 0, Value.slice none 0 0].toList 8 = some ([.nil, .nil], [], places) :=
  ⟨[], by kernel_rfl⟩

set_option maxRecDepth 100000 in
theorem lifted (os : Os) (started : os.Started) (H : Type) (enc : TypeId × Value → H) (F : Stop.Interp) :
    ReturnsInHanded {} Tryd.checked os 6 .any ((OpenSpec.ofChange Rows.treeRootsSpec).preRow enc Tryd.prog Tryd.f6 Rows.treeRootsRow.domain false Rows.treeRootsRow.laid) (((OpenSpec.ofChange Rows.treeRootsSpec).at F).post enc Tryd.prog Tryd.f6 false true false false) := by
  obtain ⟨places, hx⟩ := reads os enc
  refine returnsInHanded_of_row (C := Tryd.checked) (s := OpenSpec.ofChange Rows.treeRootsSpec) own started (by kernel_rfl) Tryd.func6
    (witness_row_at (enc := enc) (C := Tryd.checked) false (laidWorld os) #[.slice none 0 0, .slice none 0 0] rfl (by kernel_rfl) (by kernel_rfl) (by kernel_rfl)
      (OpenSpec.preRow_of_cond 8 hx (by kernel_rfl) (fun k hk => by cases hk) (by kernel_rfl) (laid_met os))) ?_
  intro W base args ds gs before hval hW _ _ _ hL _ _
  exact contract H enc W base args ds gs before hval hW hL

theorem said : Rows.TreeRootsSaid :=
  OpenClaim.holds_of_cond 6 Tryd.f6 rfl rfl rfl rfl rfl rfl rfl ⟨rfl, rfl, rfl, rfl, rfl⟩ rfl rfl rfl rfl rfl (by kernel_rfl) Tryd.func6 (by kernel_rfl)
    (of_decide_eq_true (by kernel_rfl)) (by unfold Func.isWrapper; first | (rw [if_pos (by decide +kernel)]; kernel_rfl) | (rw [if_neg (by decide +kernel)]; exact ⟨rfl, rfl⟩))
    (fun os started H enc _ F => by rw [OpenClaim.pre_eq_preRow]; exact lifted os started H enc F)

/-- No parameter wants a stand-in; the program's own looks are off: what the card asks. -/
theorem plain (f : FuncId) (fn : Func) (hf : Tryd.pinned.checked.prog.funcNamed "pandect/pandectlaw02.TreeRoots" = some f) (hfn : Tryd.pinned.checked.prog.funcs[f]? = some fn) :
    false = Tryd.pinned.checked.prog.looks [] ∧ ∀ (j : Nat) t, fn.params[j]? = some t → Tryd.pinned.checked.prog.wantsStandIn t = false := by
  obtain rfl : f = 6 := Option.some.inj ((show Tryd.prog.funcNamed "pandect/pandectlaw02.TreeRoots" = some 6 by kernel_rfl).symm.trans hf) |>.symm
  obtain rfl : fn = Tryd.f6 := (Option.some.inj (Tryd.func6.symm.trans hfn)).symm
  refine ⟨by kernel_rfl, fun j t ht => ?_⟩
  rw [Tryd.params6] at ht
  have hm := Array.mem_of_getElem? ht
  simp only [List.mem_toArray, List.mem_cons, List.not_mem_nil, or_false] at hm
  rcases hm with rfl | rfl
  · exact wants_texts
  · exact wants_texts

theorem card : Rows.TreeRootsCardSaid :=
  Claim7.holds_tied_plain_at .later [] _ _ _ _ said (fun _ h => by cases h) (by kernel_rfl) (fun _ h => by cases h) treeRoots_row_tie rfl ⟨rfl, rfl⟩ (by kernel_rfl) rfl plain (by kernel_rfl)
end Go.Proofs.YteeanbjaphjccaaDoor.treeRoots
