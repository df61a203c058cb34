/-
  LexerParts (P5.4): for every two texts, of which the first one has no error, both with a line feed between them have the tokens of the first one and the shifted ones of the second one, or the shifted error of the second one; if the first one has an error, both together have one. No condition: the statement itself asks texts of at most 1500 bytes; for longer ones it says what the law's opening check answers.
-/
import Derived.Test.YtidmonmkpkbhjaaLFrameE
import Derived.Test.YtidmonmkpkbhjaaERefB
import Derived.Laws.Strings
namespace Go.Proofs.Ytidmonmkpkbhjaa.lexerParts
open Go.ChangeShapes Go.WideShapes Go.ChangeAt Go.RowKit
open Go.ChangeMaps (open_string shut_string)

theorem tx_join (s u : ByteArray) : Lx.tx (s ++ ⟨#[10]⟩ ++ u) = Lx.tx s ++ 10 :: Lx.tx u := by
  simp [Lx.tx, ByteArray.data_append]
theorem small_of (s : Lx.T) (d : Nat) (hs : s.length ≤ 3100) (hd : d ≤ 100000) : Lx.Small (Lx.lex s 0).1 d := by
  intro t ht
  obtain ⟨i, hi, e⟩ := List.getElem_of_mem ht
  obtain ⟨p, q, e1, e2, _⟩ := Lx.lex_cut _ s (Nat.le_refl _) 0 i t (by rw [List.getElem?_eq_getElem hi, e])
  have := congrArg List.length e1
  rw [List.length_append] at this
  exact ⟨by omega, hd⟩

set_option maxHeartbeats 4000000 in
set_option maxRecDepth 100000 in
theorem law_walk (s u : ByteArray) (w : World) (hm : s.size ≤ 9223372036854775807) (hmu : u.size ≤ 9223372036854775807) :
    Calls Try.prog 6 #[.string s, .string u] w fun e w' => e = .returned (.bool true) ∧ Below w.heap.size w w' := by
  by_cases hl : (1500 : Int) < s.size
  · go_enter Try.func6, Try.ntmps6
    go_wp2_with fail
    refine (head_walk w).mono ?_
    rintro e w1 ⟨rfl, hb1⟩
    go_wp2_with fail
    go_ret
    exact ⟨rfl, hb1⟩
  by_cases hl2 : (1500 : Int) < u.size
  · go_enter Try.func6, Try.ntmps6
    go_wp2_with fail
    refine (head_walk w).mono ?_
    rintro e w1 ⟨rfl, hb1⟩
    go_wp2_with fail
    go_ret
    exact ⟨rfl, hb1⟩
  have ht1 := Lx.tx_len s
  have ht2 := Lx.tx_len u
  have htj := tx_join s u
  obtain ⟨mid1, mid2⟩ := Lx.lex_mid _ [] (Lx.tx u) rfl (Lx.tx s) (Nat.le_refl _) 0
  rw [List.nil_append, ← htj] at mid1 mid2
  have hjl : (Lx.tx (s ++ ⟨#[10]⟩ ++ u)).length ≤ 5000 := by rw [htj, List.length_append, List.length_cons]; omega
  have hjs : (s ++ ⟨#[10]⟩ ++ u).size ≤ 9223372036854775807 := by rw [← Lx.tx_len]; omega
  have hcs : (s ++ ⟨#[10]⟩).size ≤ 9223372036854775807 := by rw [ByteArray.size_append]; show s.size + 1 ≤ _; omega
  have HJS := Lib.hid hjs
  have HCS := Lib.hid hcs
  cases hx : (Lx.lex (Lx.tx s) 0).2 with
  | some x =>
    obtain ⟨E, a⟩ := x
    have H1 := Lib.hid (lex_of s hm [] (E : Int) (a : Int) E rfl (Lx.full_no (by omega) (Prod.ext rfl hx)))
    have H3 := Lib.hid (lex_of _ hjs [] (E : Int) (a : Int) E rfl (Lx.full_no hjl (mid2 _ hx)))
    have H2 := Lib.hid (lex_ex u hmu)
    have hE := (Lx.lex_errAt _ (Lx.tx s) (Nat.le_refl _) 0 (E, a) hx).2.2
    have hEi : (((E : Nat) : Int) != 0) = true := by rw [bne_iff_ne]; simp only at hE; omega
    clear hx hE mid1 mid2 htj hjl ht1 ht2 hcs hjs
    obtain ⟨F, hF⟩ : ∃ F, F = Lx.full (Lx.tx u) := ⟨_, rfl⟩
    rw [← hF] at H2
    clear hF
    go_enter Try.func6, Try.ntmps6
    go_wp2_with fail
    refine (head_walk w).mono ?_
    rintro e w1 ⟨rfl, hb1⟩
    go_wp2_with fail
    refine (H1.out w1).mono ?_
    rintro e w2 ⟨v, rfl, _, hb2⟩
    have hb2 := hb1.trans (hb2.mono hb1.size)
    go_wp2_with fail
    refine (H2.out w2).mono ?_
    rintro e w3 ⟨v3, rfl, _, hb3⟩
    have hb3 := hb2.trans (hb3.mono hb2.size)
    go_wp2_with fail
    refine (H3.out w3).mono ?_
    rintro e w4 ⟨v4, rfl, _, hb4⟩
    have hb4 := hb3.trans (hb4.mono hb3.size)
    go_wp2_with fail
    go_ret
    exact ⟨rfl, hb4⟩
  | none =>
    have hj := mid1 hx
    have hsh := Lx.lex_any (Lx.tx u) (0 + (Lx.tx s).length + (([] : Lx.T).length + 1))
    have hd : 0 + (Lx.tx s).length + (([] : Lx.T).length + 1) = s.size + 1 := by rw [ht1]; simp
    rw [hd] at hj hsh
    have H1 := Lib.hid (lex_of s hm (Lx.lex (Lx.tx s) 0).1 0 0 0 rfl (Lx.full_ok (by omega) (Prod.ext rfl hx)))
    cases hy : (Lx.lex (Lx.tx u) 0).2 with
    | some y =>
      obtain ⟨E, a⟩ := y
      have hj2 : Lx.lex (Lx.tx (s ++ ⟨#[10]⟩ ++ u)) 0 = ((Lx.lex (Lx.tx s) 0).1 ++ (Lx.lex (Lx.tx u) (s.size + 1)).1, some (E, a + (s.size + 1))) := by rw [hj, hsh.2, hy]; rfl
      have hat := (Lx.lex_errAt _ (Lx.tx u) (Nat.le_refl _) 0 (E, a) hy)
      have H2 := Lib.hid (lex_of u hmu [] (E : Int) (a : Int) E rfl (Lx.full_no (by omega) (Prod.ext rfl hy)))
      have H3 := Lib.hid (lex_of _ hjs [] (E : Int) ((a : Int) + ((s.size : Int) + 1)) E rfl (by rw [Lx.full_no hjl hj2]; simp))
      have hE := hat.2.2
      have hal := hat.2.1
      have hEi : (((E : Nat) : Int) != 0) = true := by rw [bne_iff_ne]; simp only at hE; omega
      have hEe : (((E : Nat) : Int) == (E : Int)) = true := by rw [beq_iff_eq]
      have hal2 : a ≤ 1500 := by simp only at hal; omega
      have hsum : ((a : Int) + ((s.size : Int) + 1) == (a : Int) + (s.size : Int) + 1) = true := by rw [beq_iff_eq]; omega
      clear hx hy hE mid1 mid2 htj hjl ht1 ht2 hcs hjs hj hj2 hsh hd hat hal
      go_enter Try.func6, Try.ntmps6
      go_wp2_with fail
      refine (head_walk w).mono ?_
      rintro e w1 ⟨rfl, hb1⟩
      go_wp2_with fail
      refine (H1.out w1).mono ?_
      rintro e w2 ⟨v, rfl, _, hb2⟩
      have hb2 := hb1.trans (hb2.mono hb1.size)
      go_wp2_with fail
      refine (H2.out w2).mono ?_
      rintro e w3 ⟨v3, rfl, _, hb3⟩
      have hb3 := hb2.trans (hb3.mono hb2.size)
      go_wp2_with fail
      refine (H3.out w3).mono ?_
      rintro e w4 ⟨v4, rfl, _, hb4⟩
      have hb4 := hb3.trans (hb4.mono hb3.size)
      go_wp2_with fail
      go_ret
      exact ⟨rfl, hb4⟩
    | none =>
      have hsf := Lx.lex_shift _ (Lx.tx u) (Nat.le_refl _) 0 (s.size + 1)
      rw [Nat.zero_add] at hsf
      obtain ⟨A, hA⟩ : ∃ A, A = (Lx.lex (Lx.tx s) 0).1 := ⟨_, rfl⟩
      obtain ⟨B, hB⟩ : ∃ B, B = (Lx.lex (Lx.tx u) 0).1 := ⟨_, rfl⟩
      have hj2 : Lx.lex (Lx.tx (s ++ ⟨#[10]⟩ ++ u)) 0 = (A ++ B.map (Lx.Tok.shift (s.size + 1)), none) := by rw [hj, hsf, hy, hA, hB]; rfl
      have H2 := Lib.hid (lex_of u hmu B 0 0 0 rfl (Lx.full_ok (by omega) (by rw [hB]; exact Prod.ext rfl hy)))
      have H3 := Lib.hid (lex_of _ hjs _ 0 0 0 rfl (Lx.full_ok hjl hj2))
      rw [← hA] at H1
      have SA : Hid (Lx.Small A 0) := by rw [hA]; exact small_of _ _ (by omega) (by omega)
      have SB : Hid (Lx.Small B (s.size + 1)) := by rw [hB]; exact small_of _ _ (by omega) (by omega)
      have hla : A.length ≤ 1500 := by rw [hA]; have := (Lx.lex_good _ (Lx.tx s) (Nat.le_refl _) 0).2; omega
      have hlb : B.length ≤ 1500 := by rw [hB]; have := (Lx.lex_good _ (Lx.tx u) (Nat.le_refl _) 0).2; omega
      have hA0 : A.map (Lx.Tok.shift 0) = A := by
        have : Lx.Tok.shift 0 = id := by funext t; rfl
        rw [this, List.map_id]
      have HA0 := Lib.hid hA0
      clear hx hy mid1 mid2 htj hjl ht1 ht2 hcs hjs hj hj2 hsh hd hsf hA0 hA hB
      go_enter Try.func6, Try.ntmps6
      go_wp2_with fail
      refine (head_walk w).mono ?_
      rintro e w1 ⟨rfl, hb1⟩
      go_wp2_with fail
      refine (H1.out w1).mono ?_
      rintro e w2 ⟨v1, rfl, i1, hb2⟩
      go_wp2_with fail
      refine (H2.out w2).mono ?_
      rintro e w3 ⟨v2, rfl, i2, hb3⟩
      go_wp2_with fail
      refine (H3.out w3).mono ?_
      rintro e w4 ⟨v3, rfl, i3, hb4⟩
      have i1 := (i1.below hb3).below hb4
      have i2 := i2.below hb4
      have hb5 := hb1.trans ((hb2.trans ((hb3.trans (hb4.mono hb3.size)).mono hb2.size)).mono hb1.size)
      by_cases hne : A ++ B.map (Lx.Tok.shift (s.size + 1)) = []
      · obtain ⟨hA1, hB1⟩ := List.append_eq_nil_iff.1 hne
        have hB2 : B = [] := List.map_eq_nil_iff.1 hB1
        subst hA1 hB2
        obtain ⟨a1, c1, rfl⟩ := i1.form
        obtain ⟨a2, c2, rfl⟩ := i2.form
        obtain ⟨a3, c3, e3, hc3, hc4, _⟩ := i3
        simp only [List.length_nil, List.map_nil, List.append_nil] at e3 hc3
        subst e3
        have hc5 : (0 : Int) ≤ (c3 : Int) := by omega
        have I1 := Lib.hid i1
        have I2 := Lib.hid i2
        have HE : Hid (∀ (W : World) (a : Option Addr) (c : Nat), c ≤ 9223372036854775807 → Lx.IsLo W (.slice a 0 c) []) := fun W a c h => ⟨a, c, rfl, Nat.zero_le _, h, fun h => absurd rfl h⟩
        clear i1 i2 hne hB1
        go_wp2_with fail
        refine (same_yes _ _ [] 0 w4 I1.out (HE.out _ _ _ hc4) SA.out).mono ?_
        rintro e w5 ⟨rfl, hb6⟩
        have hb7 := hb5.trans (hb6.mono hb5.size)
        go_wp2_with fail
        all_goals
          refine (same_yes _ _ [] (s.size + 1) w5 (I2.out.below hb6) (HE.out _ _ _ (by omega)) SB.out).mono ?_
          rintro e w6 ⟨rfl, hb8⟩
          go_wp2_with fail
          go_ret
          exact ⟨rfl, hb7.trans (hb8.mono hb7.size)⟩
      · obtain ⟨g, c, rfl, hc1, hc2, hg, hcl⟩ := i3.some hne
        obtain ⟨P1, P2⟩ := Lx.parts hc1 hc2 hg hcl
        obtain ⟨a1, c1, rfl⟩ := i1.form
        obtain ⟨a2, c2, rfl⟩ := i2.form
        rw [List.length_append, List.length_map] at hc1 ⊢
        rw [List.length_map] at P2
        have HP1 := Lib.hid P1
        have HP2 := Lib.hid P2
        have I1 := Lib.hid i1
        have I2 := Lib.hid i2
        clear P1 P2 i1 i2 i3 hcl hne
        go_wp2_with fail
        refine (same_yes _ _ A 0 w4 I1.out (by rw [HA0.out]; exact HP1.out) SA.out).mono ?_
        rintro e w5 ⟨rfl, hb6⟩
        have hb7 := hb5.trans (hb6.mono hb5.size)
        by_cases hcA : c = A.length
        · have hB0 : B = [] := List.length_eq_zero_iff.1 (by omega)
          subst hB0
          have I20 : Hid (Lx.IsL w4 (.slice a2 0 c2) []) := I2.out
          have HE : Hid (∀ (W : World) (a : Option Addr) (c : Nat), c ≤ 9223372036854775807 → Lx.IsLo W (.slice a 0 c) []) := fun W a c h => ⟨a, c, rfl, Nat.zero_le _, h, fun h => absurd rfl h⟩
          simp only [List.length_nil] at hlb hc1 ⊢
          have hcAi : ((c : Int) == (A.length : Int)) = true := by rw [beq_iff_eq]; omega
          clear I2
          go_wp2_with fail
          refine (same_yes _ _ [] (s.size + 1) w5 (I20.out.below hb6) (HE.out _ _ _ (by omega)) SB.out).mono ?_
          rintro e w6 ⟨rfl, hb8⟩
          go_wp2_with fail
          go_ret
          exact ⟨rfl, hb7.trans (hb8.mono hb7.size)⟩
        · go_wp2_with fail
          refine (same_yes _ _ B (s.size + 1) w5 (I2.out.below hb6) ((HP2.out _ (fun _ => rfl)).below hb6) SB.out).mono ?_
          rintro e w6 ⟨rfl, hb8⟩
          go_wp2_with fail
          go_ret
          exact ⟨rfl, hb7.trans (hb8.mono hb7.size)⟩

set_option maxRecDepth 100000 in
/-- What the walk gives, for all arguments and every world that holds the tables. -/
theorem contract (H : Type) (enc : TypeId × Value → H) (W : World) (base : Nat) (args : Array Value) (ds gs : List (DataW H)) (before : List MemPlace)
    (hval : ∀ (j : Nat) t v, Try.f6.params[j]? = some t → args[j]? = some v → Value.okWide Try.prog W .any base t v)
    (hW : DataW.Whole enc Try.prog Try.f6.params.toList Rows.lexerPartsSpec.vars false W args.toList ds gs before) :
    Calls Try.prog 6 args W fun e W' => ∃ v, e = .returned v ∧ Rows.lexerPartsSpec.post enc Try.prog Try.f6 false true false false W args v W' := by
  have hW' := hW
  obtain ⟨p, q, hA0, hV, rfl, hfz, hnd⟩ := hW
  have hA : DataW.TrodAll enc Try.prog W 0 (fun _ => true) true Try.f6.params.toList args.toList ds p := hA0
  rw [Try.params6] at hA hval
  obtain ⟨v0, vs0, d0, ds0, p0, q0, hargs, rfl, rfl, h0, r0⟩ := trodAll_cons hA
  obtain ⟨v1, vs1, d1, ds1, p1, q1, rfl, rfl, rfl, h1, r1⟩ := trodAll_cons r0
  obtain ⟨rfl, rfl, rfl⟩ := trodAll_nil r1
  obtain rfl : args = #[v0, v1] := by cases args; simp_all
  obtain ⟨rfl, rfl⟩ := trodVars_none hV
  obtain ⟨a0, rfl, _, _, g0⟩ := open_string Try.underlying9 (hval 0 9 v0 rfl rfl) h0
  obtain ⟨a1, rfl, _, _, g1⟩ := open_string Try.underlying9 (hval 1 9 v1 rfl rfl) h1
  refine (law_walk a0 a1 W (le_of_max g0) (le_of_max g1)).mono fun e W' ⟨he, hg⟩ => ?_
  subst he
  exact ⟨_, rfl, post_law rfl rfl rfl rfl rfl (by rw [Try.params6]; decide) hW' hg⟩

theorem laid_met (os : Os) : laidMet Try.prog Rows.lexerPartsRow.laid ((laidWorld os).forCall (fun _ _ => 0) ⟨#[], #[.string ⟨#[]⟩, .string ⟨#[]⟩], []⟩).memory :=
  laidMet_of_run' 8 (by kernel_rfl) (by kernel_rfl)
theorem reads (os : Os) {H : Type} (enc : TypeId × Value → H) : ∃ places, DataW.whole enc Try.prog ((laidWorld os).forCall (fun _ _ => 0) ⟨#[], #[.string ⟨#[]⟩, .string ⟨#[]⟩], []⟩).memory Try.f6.params.toList Rows.lexerPartsSpec.vars false #[Value.string ⟨#[]⟩, Value.string ⟨#[]⟩].toList 8 = some ([.lit (.string []), .lit (.string [])], [], places) :=
  ⟨[], by kernel_rfl⟩

set_option maxRecDepth 100000 in
theorem lifted (os : Os) (started : os.Started) (H : Type) (enc : TypeId × Value → H) (F : Stop.Interp) :
    ReturnsInHanded {} Try.checked os 6 .any ((OpenSpec.ofChange Rows.lexerPartsSpec).preRow enc Try.prog Try.f6 Rows.lexerPartsRow.domain false Rows.lexerPartsRow.laid) (((OpenSpec.ofChange Rows.lexerPartsSpec).at F).post enc Try.prog Try.f6 false true false false) := by
  obtain ⟨places, hx⟩ := reads os enc
  refine returnsInHanded_of_row (C := Try.checked) (s := OpenSpec.ofChange Rows.lexerPartsSpec) own started (by kernel_rfl) Try.func6
    (witness_row_at (enc := enc) (C := Try.checked) false (laidWorld os) #[.string ⟨#[]⟩, .string ⟨#[]⟩] rfl (by kernel_rfl) (by kernel_rfl) (by kernel_rfl)
      (OpenSpec.preRow_of_cond 8 hx (by kernel_rfl) (fun k hk => by cases hk) (by kernel_rfl) (laid_met os))) ?_
  intro W base args ds gs before hval hW _ _ _ hL _ _
  exact contract H enc W base args ds gs before hval hW

theorem said : Rows.LexerPartsSaid :=
  OpenClaim.holds_of_cond 6 Try.f6 rfl rfl rfl rfl rfl rfl rfl ⟨rfl, rfl, rfl, rfl, rfl⟩ rfl rfl rfl rfl rfl (by kernel_rfl) Try.func6 (by kernel_rfl)
    (of_decide_eq_true (by kernel_rfl)) (by unfold Func.isWrapper; first | (rw [if_pos (by decide +kernel)]; kernel_rfl) | (rw [if_neg (by decide +kernel)]; exact ⟨rfl, rfl⟩))
    (fun os started H enc _ F => by rw [OpenClaim.pre_eq_preRow]; exact lifted os started H enc F)

end Go.Proofs.Ytidmonmkpkbhjaa.lexerParts
