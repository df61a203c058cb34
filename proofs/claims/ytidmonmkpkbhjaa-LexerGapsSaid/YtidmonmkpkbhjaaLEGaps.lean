/-
  LexerGaps (P5.6): for every text without an error and every gaps, the text with the gaps and a line feed before it, after it, and after one of its tokens has the same tokens apart from offsets. No condition: the statement itself asks texts of at most 1500 bytes and gaps of at most 300; for other ones it says what the law's opening check answers.
-/
import Derived.Test.YtidmonmkpkbhjaaLFrameE
import Derived.Test.YtidmonmkpkbhjaaERefA
import Derived.Test.YtidmonmkpkbhjaaERefB
import Derived.Deep.RegionHeld3
import Derived.Deep.CutRange
import Derived.Laws.Strings
namespace Go.Proofs.Ytidmonmkpkbhjaa.lexerGaps
open Go.ChangeShapes Go.WideShapes Go.ChangeAt Go.RowKit
open Go.ChangeMaps (open_string shut_string)

theorem tx_app (a b : ByteArray) : Lx.tx (a ++ b) = Lx.tx a ++ Lx.tx b := by simp [Lx.tx, ByteArray.data_append]
theorem tx_nl : Lx.tx ⟨#[10]⟩ = [10] := rfl
/-- Behind the k-th token, or at the beginning. -/
theorem cut_at (s : Lx.T) (hx : (Lx.lex s 0).2 = none) (m : Nat) (hm : (m = 0 ∧ (Lx.lex s 0).1 = []) ∨ ∃ (i : Nat) (t : Lx.Tok), (Lx.lex s 0).1[i]? = some t ∧ m = t.at_ + t.text.length) :
    m ≤ s.length ∧ (Lx.lex (s.take m) 0).2 = none ∧ (Lx.lex (s.drop m) (s.take m).length).2 = none ∧ (Lx.lex s 0).1 = (Lx.lex (s.take m) 0).1 ++ (Lx.lex (s.drop m) (s.take m).length).1 := by
  rcases hm with ⟨rfl, h0⟩ | ⟨i, t, hi, rfl⟩
  · rw [List.take_zero, List.drop_zero]
    have h2 : Lx.lex ([] : Lx.T) 0 = ([], none) := Lx.lex_done rfl 0
    refine ⟨Nat.zero_le _, by rw [h2], hx, by rw [h2]; rfl⟩
  · obtain ⟨p, q, e1, e2, h1, h2⟩ := Lx.lex_cut _ s (Nat.le_refl _) 0 i t hi
    rw [Nat.zero_add] at e2 h2
    have hl := congrArg List.length e1
    rw [List.length_append] at hl
    have t1 : s.take (t.at_ + t.text.length) = p := by rw [← e2, e1, List.take_left]
    have t2 : s.drop (t.at_ + t.text.length) = q := by rw [← e2, e1, List.drop_left]
    rw [t1, t2]
    refine ⟨by omega, by rw [h1], by rw [h2]; exact hx, ?_⟩
    rw [h1, h2, List.take_append_drop]

set_option maxHeartbeats 4000000 in
set_option maxRecDepth 100000 in
theorem law_walk (s u : ByteArray) (y : Nat) (w : World) (hm : s.size ≤ 9223372036854775807) (hmu : u.size ≤ 9223372036854775807) (hy : y ≤ 65535) :
    Calls Try.prog 8 #[.string s, .string u, .int .u16 y] w fun e w' => e = .returned (.bool true) ∧ Below w.heap.size w w' := by
  by_cases hl : (1500 : Int) < s.size
  · go_enter Try.func8, Try.ntmps8
    go_wp2_with fail
    refine (head_walk w).mono ?_
    rintro e w1 ⟨rfl, hb1⟩
    go_wp2_with fail
    go_ret
    exact ⟨rfl, hb1⟩
  by_cases hl2 : (300 : Int) < u.size
  · go_enter Try.func8, Try.ntmps8
    go_wp2_with fail
    refine (head_walk w).mono ?_
    rintro e w1 ⟨rfl, hb1⟩
    go_wp2_with fail
    go_ret
    exact ⟨rfl, hb1⟩
  have HG := Lib.hid (refgaps_walk u (by omega))
  cases hgo : Lx.gapsOk (Lx.tx u) with
  | false =>
    rw [hgo] at HG
    clear hgo
    go_enter Try.func8, Try.ntmps8
    go_wp2_with fail
    refine (head_walk w).mono ?_
    rintro e w1 ⟨rfl, hb1⟩
    go_wp2_with fail
    refine (HG.out w1).mono ?_
    rintro e w2 ⟨rfl, hw⟩
    subst hw
    go_wp2_with fail
    go_ret
    exact ⟨rfl, hb1⟩
  | true =>
    rw [hgo] at HG
    have hgaps := (Lx.gapsOk_iff _).1 hgo
    have ht1 := Lx.tx_len s
    have ht2 := Lx.tx_len u
    cases hx : (Lx.lex (Lx.tx s) 0).2 with
    | some x =>
      obtain ⟨E, a⟩ := x
      have H1 := Lib.hid (lex_of s hm [] (E : Int) (a : Int) E rfl (Lx.full_no (by omega) (Prod.ext rfl hx)))
      have hE := (Lx.lex_errAt _ (Lx.tx s) (Nat.le_refl _) 0 (E, a) hx).2.2
      have hEi : (((E : Nat) : Int) != 0) = true := by rw [bne_iff_ne]; simp only at hE; omega
      clear hx hE ht1 ht2 hgaps hgo
      go_enter Try.func8, Try.ntmps8
      go_wp2_with fail
      refine (head_walk w).mono ?_
      rintro e w1 ⟨rfl, hb1⟩
      go_wp2_with fail
      refine (HG.out w1).mono ?_
      rintro e w2 ⟨rfl, hw⟩
      subst hw
      go_wp2_with fail
      refine (H1.out w1).mono ?_
      rintro e w2 ⟨v, rfl, _, hb2⟩
      have hb2 := hb1.trans (hb2.mono hb1.size)
      go_wp2_with fail
      go_ret
      exact ⟨rfl, hb2⟩
    | none =>
      obtain ⟨l, hA⟩ : ∃ l, l = (Lx.lex (Lx.tx s) 0).1 := ⟨_, rfl⟩
      have H1 := Lib.hid (lex_of s hm l 0 0 0 rfl (Lx.full_ok (by omega) (by rw [hA]; exact Prod.ext rfl hx)))
      -- the text with gaps, for a place m
      have HM : Hid (∀ m : Nat, ((m = 0 ∧ l = []) ∨ ∃ (i : Nat) (t : Lx.Tok), l[i]? = some t ∧ m = t.at_ + t.text.length) →
          m ≤ s.size ∧ ∃ r : List Lx.Tok, Lx.alike l r ∧ ∀ W : World, Calls Try.prog 12 #[.string (u ++ ⟨#[10]⟩ ++ s.extract 0 m ++ (u ++ ⟨#[10]⟩) ++ s.extract m s.size ++ ⟨#[10]⟩ ++ u)] W
            fun e w' => ∃ v, e = .returned (.tuple #[v, .int .i64 0, .int .i64 0]) ∧ Lx.IsL w' v r ∧ Below W.heap.size W w') := by
        intro m hmm
        rw [hA] at hmm
        obtain ⟨c1, c2, c3, c4⟩ := cut_at (Lx.tx s) hx m hmm
        rw [ht1] at c1
        have e1 : Lx.tx (s.extract 0 m) = (Lx.tx s).take m := by rw [Lx.extract_str, Lx.tx_str, List.drop_zero, Nat.sub_zero]
        have e2 : Lx.tx (s.extract m s.size) = (Lx.tx s).drop m := by rw [Lx.extract_str, Lx.tx_str, List.take_of_length_le (by rw [List.length_drop, ht1]; exact Nat.le_refl _)]
        have e3 : Lx.tx (u ++ ⟨#[10]⟩ ++ s.extract 0 m ++ (u ++ ⟨#[10]⟩) ++ s.extract m s.size ++ ⟨#[10]⟩ ++ u) = Lx.tx u ++ 10 :: ((Lx.tx s).take m ++ (Lx.tx u ++ 10 :: ((Lx.tx s).drop m ++ 10 :: Lx.tx u))) := by
          simp only [tx_app, e1, e2, tx_nl, List.append_assoc, List.cons_append, List.nil_append]
        obtain ⟨g1, g2⟩ := Lx.lex_gaps (Lx.tx u) ((Lx.tx s).take m) ((Lx.tx s).drop m) hgaps c2 c3 l (by rw [hA]; exact c4) 0
        rw [← e3] at g1 g2
        have hlen : (Lx.tx (u ++ ⟨#[10]⟩ ++ s.extract 0 m ++ (u ++ ⟨#[10]⟩) ++ s.extract m s.size ++ ⟨#[10]⟩ ++ u)).length ≤ 5000 := by
          rw [e3]
          simp only [List.length_append, List.length_cons, List.length_take, List.length_drop]
          omega
        exact ⟨c1, _, g2, lex_of _ (by rw [← Lx.tx_len]; omega) _ 0 0 0 rfl (Lx.full_ok hlen (Prod.ext rfl g1))⟩
      have hss : s.size ≤ 1500 := by omega
      have hus : u.size ≤ 300 := by omega
      have hAt : Hid (∀ (j : Nat) (t : Lx.Tok), l[j]? = some t → t.at_ + t.text.length ≤ 1500) := by
        intro j t ht
        obtain ⟨p, q, e1, e2, _⟩ := Lx.lex_cut _ (Lx.tx s) (Nat.le_refl _) 0 j t (by rw [← hA]; exact ht)
        have := congrArg List.length e1
        rw [List.length_append] at this
        omega
      have HLL : Hid (l.length ≤ 1500) := by show _ ≤ _; rw [hA]; have := (Lx.lex_good _ (Lx.tx s) (Nat.le_refl _) 0).2; omega
      clear hx ht1 ht2 hgaps hgo hA
      go_enter Try.func8, Try.ntmps8
      go_wp2_with fail
      refine (head_walk w).mono ?_
      rintro e w1 ⟨rfl, hb1⟩
      go_wp2_with fail
      refine (HG.out w1).mono ?_
      rintro e w2 ⟨rfl, hw⟩
      subst hw
      go_wp2_with fail
      refine (H1.out w1).mono ?_
      rintro e w2 ⟨v, rfl, i1, hb2⟩
      have hb2 := hb1.trans (hb2.mono hb1.size)
      have I1 := Lib.hid i1
      obtain ⟨n, hn⟩ : ∃ n, n = l.length := ⟨_, rfl⟩
      obtain ⟨ao, c1, hv⟩ := i1.form
      have HFC : Hid (0 < n → ∃ g, ao = some ⟨g, 0, none⟩ ∧ g < w2.heap.size ∧ n ≤ c1 ∧ ∀ i t, l[i]? = some t → w2.cell? ⟨g, i * 4, none⟩ = some (.int .i64 (t.kind : Nat)) ∧ w2.cell? ⟨g, i * 4 + 1, none⟩ = some (.string (Lx.str t.text)) ∧ w2.cell? ⟨g, i * 4 + 2, none⟩ = some (.int .i64 (t.n : Nat)) ∧ w2.cell? ⟨g, i * 4 + 3, none⟩ = some (.int .i64 (t.at_ : Nat))) := by
        intro h0
        obtain ⟨g, c, e1, e2, e3, hg, hc⟩ := i1.some (fun h => by rw [h] at hn; simp at hn; omega)
        rw [hv] at e1
        cases e1
        exact ⟨g, rfl, hg, by omega, hc⟩
      subst hv
      rw [← hn] at I1 ⊢
      have HN := Lib.hid hn
      have hll : n ≤ 1500 := by rw [hn]; exact HLL.out
      clear i1 hn H1 HG
      go_upto_if 43 with fail
      go_cut [11] from 12 to 57 (fun x wx => ∃ m : Nat, x = .int .i64 m ∧ Hid ((m = 0 ∧ l = []) ∨ ∃ (i : Nat) (t : Lx.Tok), l[i]? = some t ∧ m = t.at_ + t.text.length) ∧ Below w2.heap.size w2 wx)
      case first =>
        by_cases hn0 : 0 < n
        · have hni : (0 : Int) < (n : Int) := by omega
          obtain ⟨k, hk⟩ : ∃ k, k = y % n := ⟨_, rfl⟩
          have hkn : k < n := by rw [hk]; exact Nat.mod_lt _ hn0
          have hyk : ((y : Int) % (n : Int)) = (k : Int) := by rw [hk]; simp
          have hyt : (y : Int).tmod (n : Int) = (k : Int) := by rw [hk]; rw [Int.tmod_eq_emod_of_nonneg (by omega)]; simp
          have hn00 : ¬ (n : Int) = 0 := by omega
          obtain ⟨g, rfl, hg, hnc, hcl⟩ := HFC.out hn0
          have hkl : k < l.length := by rw [← HN.out]; exact hkn
          obtain ⟨t, ht⟩ : ∃ t, t = l[k] := ⟨_, rfl⟩
          have gt : l[k]? = some t := by rw [ht]; exact List.getElem?_eq_getElem hkl
          obtain ⟨p0, p1, p2, p3⟩ := hcl k t gt
          have hat := hAt.out k t gt
          have GT := Lib.hid gt
          obtain ⟨x, hx⟩ : ∃ x, x = Lx.str t.text := ⟨_, rfl⟩
          have hxs : x.size = t.text.length := by rw [hx, Lx.str_size]
          rw [← hx] at p1
          have HX := Lib.hid hxs
          have hxb : t.at_ + x.size ≤ 1500 := by omega
          have hki : (k : Int) < (n : Int) := by omega
          have hk0 : (0 : Int) ≤ (k : Int) := by omega
          clear hk gt ht hcl hat hx hxs hkl HM HFC
          go_wp2_with fail
          go_meet
          exact ⟨t.at_ + x.size, by simp, .inr ⟨k, t, GT.out, by rw [HX.out]⟩, (Below.refl _ _).alloc (Nat.le_refl _) _⟩
        · have hni : ¬ (0 : Int) < (n : Int) := by omega
          have HL0 : Hid (l = []) := List.length_eq_zero_iff.1 (by rw [← HN.out]; omega)
          go_wp2_with fail
          go_meet
          exact ⟨0, rfl, .inl ⟨rfl, HL0.out⟩, Below.refl _ _⟩
      case rest =>
        obtain ⟨m, rfl, hmm, hbc⟩ := hcut
        obtain ⟨hms, r, hal, hr⟩ := HM.out m hmm.out
        have HR := Lib.hid hr
        have HAL := Lib.hid hal
        have hmi : (m : Int) ≤ (s.size : Int) := by omega
        have hm0 : (0 : Int) ≤ (m : Int) := by omega
        clear hr hal hmm HM hAt HFC
        go_wp2_with fail
        have f1 : (9223372036854775807 < u.size + 1 + m) = False := _root_.eq_false (by omega)
        have f2 : (9223372036854775807 < u.size + 1 + m + (u.size + 1)) = False := _root_.eq_false (by omega)
        have f3 : (9223372036854775807 < u.size + 1 + m + (u.size + 1) + (s.size - m)) = False := _root_.eq_false (by omega)
        have f4 : (9223372036854775807 < u.size + 1 + m + (u.size + 1) + (s.size - m) + 1) = False := _root_.eq_false (by omega)
        have f5 : (9223372036854775807 < u.size + 1 + m + (u.size + 1) + (s.size - m) + 1 + u.size) = False := _root_.eq_false (by omega)
        go_region_held3 (fun w' => Below wc.heap.size wc w') (first | exact (Below.refl _ _).drew | assumption) (first | (go_at_call 12; (with_reducible refine (HR.out _).mono ?_); rintro e w5 ⟨v5, rfl, i5, hb5⟩; have hb6 := Below.trans ((Below.refl wc.heap.size wc).drew) (hb5.mono (Below.drew (Below.refl wc.heap.size wc)).size)))
        have HI5 := Lib.hid i5
        have hb7 := hb2.trans ((hbc.trans (hb6.mono hbc.size)).mono hb2.size)
        have HI1 := Lib.hid (I1.out.below (hbc.trans (hb6.mono hbc.size)))
        clear i5 hb5 hb6 HR f1 f2 f3 f4 f5
        go_wp2_with fail
        refine (alike_yes _ _ l r w5 HI1.out HI5.out HAL.out).mono ?_
        rintro e w6 ⟨rfl, hb8⟩
        go_wp2_with fail
        go_ret
        exact ⟨rfl, hb7.trans (hb8.mono hb7.size)⟩

set_option maxRecDepth 100000 in
/-- What the walk gives, for all arguments and every world that holds the tables. -/
theorem contract (H : Type) (enc : TypeId × Value → H) (W : World) (base : Nat) (args : Array Value) (ds gs : List (DataW H)) (before : List MemPlace)
    (hval : ∀ (j : Nat) t v, Try.f8.params[j]? = some t → args[j]? = some v → Value.okWide Try.prog W .any base t v)
    (hW : DataW.Whole enc Try.prog Try.f8.params.toList Rows.lexerGapsSpec.vars false W args.toList ds gs before) :
    Calls Try.prog 8 args W fun e W' => ∃ v, e = .returned v ∧ Rows.lexerGapsSpec.post enc Try.prog Try.f8 false true false false W args v W' := by
  have hW' := hW
  obtain ⟨p, q, hA0, hV, rfl, hfz, hnd⟩ := hW
  have hA : DataW.TrodAll enc Try.prog W 0 (fun _ => true) true Try.f8.params.toList args.toList ds p := hA0
  rw [Try.params8] at hA hval
  obtain ⟨v0, vs0, d0, ds0, p0, q0, hargs, rfl, rfl, h0, r0⟩ := trodAll_cons hA
  obtain ⟨v1, vs1, d1, ds1, p1, q1, rfl, rfl, rfl, h1, r1⟩ := trodAll_cons r0
  obtain ⟨v2, vs2, d2, ds2, p2, q2, rfl, rfl, rfl, h2, r2⟩ := trodAll_cons r1
  obtain ⟨rfl, rfl, rfl⟩ := trodAll_nil r2
  obtain rfl : args = #[v0, v1, v2] := by cases args; simp_all
  obtain ⟨rfl, rfl⟩ := trodVars_none hV
  obtain ⟨a0, rfl, _, _, g0⟩ := open_string Try.underlying9 (hval 0 9 v0 rfl rfl) h0
  obtain ⟨a1, rfl, _, _, g1⟩ := open_string Try.underlying9 (hval 1 9 v1 rfl rfl) h1
  obtain ⟨z2, rfl, _, _, g2⟩ := open_int Try.underlying34 (hval 2 34 v2 rfl rfl) h2
  obtain ⟨n2, rfl⟩ := Int.eq_ofNat_of_zero_le (bounds_u16 g2).1
  refine (law_walk a0 a1 n2 W (le_of_max g0) (le_of_max g1) (Int.ofNat_le.1 (bounds_u16 g2).2)).mono fun e W' ⟨he, hg⟩ => ?_
  subst he
  exact ⟨_, rfl, post_law rfl rfl rfl rfl rfl (by rw [Try.params8]; decide) hW' hg⟩

theorem laid_met (os : Os) : laidMet Try.prog Rows.lexerGapsRow.laid ((laidWorld os).forCall (fun _ _ => 0) ⟨#[], #[.string ⟨#[]⟩, .string ⟨#[]⟩, .int .u16 0], []⟩).memory :=
  laidMet_of_run' 8 (by kernel_rfl) (by kernel_rfl)
theorem reads (os : Os) {H : Type} (enc : TypeId × Value → H) : ∃ places, DataW.whole enc Try.prog ((laidWorld os).forCall (fun _ _ => 0) ⟨#[], #[.string ⟨#[]⟩, .string ⟨#[]⟩, .int .u16 0], []⟩).memory Try.f8.params.toList Rows.lexerGapsSpec.vars false #[Value.string ⟨#[]⟩, Value.string ⟨#[]⟩, Value.int .u16 0].toList 8 = some ([.lit (.string []), .lit (.string []), .lit (.int .u16 0)], [], places) :=
  ⟨[], by kernel_rfl⟩

set_option maxRecDepth 100000 in
theorem lifted (os : Os) (started : os.Started) (H : Type) (enc : TypeId × Value → H) (F : Stop.Interp) :
    ReturnsInHanded {} Try.checked os 8 .any ((OpenSpec.ofChange Rows.lexerGapsSpec).preRow enc Try.prog Try.f8 Rows.lexerGapsRow.domain false Rows.lexerGapsRow.laid) (((OpenSpec.ofChange Rows.lexerGapsSpec).at F).post enc Try.prog Try.f8 false true false false) := by
  obtain ⟨places, hx⟩ := reads os enc
  refine returnsInHanded_of_row (C := Try.checked) (s := OpenSpec.ofChange Rows.lexerGapsSpec) own started (by kernel_rfl) Try.func8
    (witness_row_at (enc := enc) (C := Try.checked) false (laidWorld os) #[.string ⟨#[]⟩, .string ⟨#[]⟩, .int .u16 0] rfl (by kernel_rfl) (by kernel_rfl) (by kernel_rfl)
      (OpenSpec.preRow_of_cond 8 hx (by kernel_rfl) (fun k hk => by cases hk) (by kernel_rfl) (laid_met os))) ?_
  intro W base args ds gs before hval hW _ _ _ hL _ _
  exact contract H enc W base args ds gs before hval hW

theorem said : Rows.LexerGapsSaid :=
  OpenClaim.holds_of_cond 8 Try.f8 rfl rfl rfl rfl rfl rfl rfl ⟨rfl, rfl, rfl, rfl, rfl⟩ rfl rfl rfl rfl rfl (by kernel_rfl) Try.func8 (by kernel_rfl)
    (of_decide_eq_true (by kernel_rfl)) (by unfold Func.isWrapper; first | (rw [if_pos (by decide +kernel)]; kernel_rfl) | (rw [if_neg (by decide +kernel)]; exact ⟨rfl, rfl⟩))
    (fun os started H enc _ F => by rw [OpenClaim.pre_eq_preRow]; exact lifted os started H enc F)

end Go.Proofs.Ytidmonmkpkbhjaa.lexerGaps
