/-
  LexerBeginnings (P5.5): for every text with an error, the text before its offset has none, and the text from there on has the same error at 0. No condition: the statement itself asks texts of at most 3000 bytes; for longer ones it says what the law's opening check answers.
-/
import Derived.Test.YtidmonmkpkbhjaaLFrameE
import Derived.Laws.Strings
namespace Go.Proofs.Ytidmonmkpkbhjaa.lexerBeginnings
open Go.ChangeShapes Go.WideShapes Go.ChangeAt Go.RowKit
open Go.ChangeMaps (open_string shut_string)

set_option maxHeartbeats 2000000 in
set_option maxRecDepth 100000 in
theorem law_walk (s : ByteArray) (w : World) (hm : s.size ≤ 9223372036854775807) :
    Calls Try.prog 7 #[.string s] w fun e w' => e = .returned (.bool true) ∧ Below w.heap.size w w' := by
  by_cases hl : (3000 : Int) < s.size
  · go_enter Try.func7, Try.ntmps7
    go_wp2_with fail
    refine (head_walk w).mono ?_
    rintro e w1 ⟨rfl, hb1⟩
    go_wp2_with fail
    go_ret
    exact ⟨rfl, hb1⟩
  · cases hx : (Lx.lex (Lx.tx s) 0).2 with
    | none =>
      have H1 := Lib.hid (lex_of s hm (Lx.lex (Lx.tx s) 0).1 0 0 0 rfl (Lx.full_ok (by rw [Lx.tx_len]; omega) (Prod.ext rfl hx)))
      clear hx
      go_enter Try.func7, Try.ntmps7
      go_wp2_with fail
      refine (head_walk w).mono ?_
      rintro e w1 ⟨rfl, hb1⟩
      go_wp2_with fail
      refine (H1.out w1).mono ?_
      rintro e w2 ⟨v, rfl, _, hb2⟩
      go_wp2_with fail
      go_ret
      exact ⟨rfl, hb1.trans (hb2.mono hb1.size)⟩
    | some x =>
      obtain ⟨E, a⟩ := x
      obtain ⟨p, q, e1, e2, hq, hp, hqq⟩ := Lx.lex_upto _ (Lx.tx s) (Nat.le_refl _) 0 E a hx
      have hE := (Lx.lex_errAt _ (Lx.tx s) (Nat.le_refl _) 0 (E, a) hx).2.2
      rw [Nat.zero_add] at e2
      have hlen := congrArg List.length e1
      rw [List.length_append, Lx.tx_len, ← e2] at hlen
      have hq0 : 0 < q.length := List.length_pos_iff.2 hq
      have hs := hqq 0
      have H1 := Lib.hid (lex_of s hm [] (E : Int) (a : Int) E rfl (Lx.full_no (by rw [Lx.tx_len]; omega) (Prod.ext rfl hx)))
      have t1 : Lx.tx (s.extract 0 a) = p := by rw [Lx.extract_str, Lx.tx_str, List.drop_zero, e1, e2, Nat.sub_zero, List.take_left]
      have t2 : Lx.tx (s.extract a s.size) = q := by rw [Lx.extract_str, Lx.tx_str, e1, e2, List.drop_left, List.take_of_length_le (by omega)]
      have H2 := Lib.hid (lex_of (s.extract 0 a) (by rw [← Lx.tx_len, t1]; omega) _ 0 0 0 rfl (Lx.full_ok (by rw [t1]; omega) (by rw [t1]; exact hp)))
      have H3 := Lib.hid (lex_of (s.extract a s.size) (by rw [← Lx.tx_len, t2]; omega) [] (E : Int) 0 E rfl (Lx.full_no (by rw [t2]; omega) (by rw [t2]; exact hqq 0)))
      have hEi : (((E : Nat) : Int) != 0) = true := by rw [bne_iff_ne]; simp only at hE; omega
      have hEe : (((E : Nat) : Int) == (E : Nat)) = true := by rw [beq_iff_eq]
      have ha : a < s.size := by omega
      clear hx e1 e2 hq hp hqq hs hlen t1 t2 hq0 hE
      go_enter Try.func7, Try.ntmps7
      go_wp2_with fail
      refine (head_walk w).mono ?_
      rintro e w1 ⟨rfl, hb1⟩
      go_wp2_with fail
      refine (H1.out w1).mono ?_
      rintro e w2 ⟨v, rfl, _, hb2⟩
      have hb2 := hb1.trans (hb2.mono hb1.size)
      go_wp2_with fail
      refine (H2.out w2).mono ?_
      rintro e w3 ⟨v3, rfl, _, hb3⟩
      have hb3 := hb2.trans (hb3.mono hb2.size)
      go_wp2_with fail
      refine (H3.out w3).mono ?_
      rintro e w4 ⟨v4, rfl, _, hb4⟩
      have hb4 := hb3.trans (hb4.mono hb3.size)
      go_wp2_with fail
      go_ret
      exact ⟨rfl, hb4⟩

set_option maxRecDepth 100000 in
/-- What the walk gives, for all arguments and every world that holds the tables. -/
theorem contract (H : Type) (enc : TypeId × Value → H) (W : World) (base : Nat) (args : Array Value) (ds gs : List (DataW H)) (before : List MemPlace)
    (hval : ∀ (j : Nat) t v, Try.f7.params[j]? = some t → args[j]? = some v → Value.okWide Try.prog W .any base t v)
    (hW : DataW.Whole enc Try.prog Try.f7.params.toList Rows.lexerBeginningsSpec.vars false W args.toList ds gs before) :
    Calls Try.prog 7 args W fun e W' => ∃ v, e = .returned v ∧ Rows.lexerBeginningsSpec.post enc Try.prog Try.f7 false true false false W args v W' := by
  have hW' := hW
  obtain ⟨p, q, hA0, hV, rfl, hfz, hnd⟩ := hW
  have hA : DataW.TrodAll enc Try.prog W 0 (fun _ => true) true Try.f7.params.toList args.toList ds p := hA0
  rw [Try.params7] at hA hval
  obtain ⟨v0, vs0, d0, ds0, p0, q0, hargs, rfl, rfl, h0, r0⟩ := trodAll_cons hA
  obtain ⟨rfl, rfl, rfl⟩ := trodAll_nil r0
  obtain rfl : args = #[v0] := by cases args; simp_all
  obtain ⟨rfl, rfl⟩ := trodVars_none hV
  obtain ⟨a0, rfl, _, _, g0⟩ := open_string Try.underlying9 (hval 0 9 v0 rfl rfl) h0
  refine (law_walk a0 W (le_of_max g0)).mono fun e W' ⟨he, hg⟩ => ?_
  subst he
  exact ⟨_, rfl, post_law rfl rfl rfl rfl rfl (by rw [Try.params7]; decide) hW' hg⟩

theorem laid_met (os : Os) : laidMet Try.prog Rows.lexerBeginningsRow.laid ((laidWorld os).forCall (fun _ _ => 0) ⟨#[], #[.string ⟨#[]⟩], []⟩).memory :=
  laidMet_of_run' 8 (by kernel_rfl) (by kernel_rfl)
theorem reads (os : Os) {H : Type} (enc : TypeId × Value → H) : ∃ places, DataW.whole enc Try.prog ((laidWorld os).forCall (fun _ _ => 0) ⟨#[], #[.string ⟨#[]⟩], []⟩).memory Try.f7.params.toList Rows.lexerBeginningsSpec.vars false #[Value.string ⟨#[]⟩].toList 8 = some ([.lit (.string [])], [], places) :=
  ⟨[], by kernel_rfl⟩

set_option maxRecDepth 100000 in
theorem lifted (os : Os) (started : os.Started) (H : Type) (enc : TypeId × Value → H) (F : Stop.Interp) :
    ReturnsInHanded {} Try.checked os 7 .any ((OpenSpec.ofChange Rows.lexerBeginningsSpec).preRow enc Try.prog Try.f7 Rows.lexerBeginningsRow.domain false Rows.lexerBeginningsRow.laid) (((OpenSpec.ofChange Rows.lexerBeginningsSpec).at F).post enc Try.prog Try.f7 false true false false) := by
  obtain ⟨places, hx⟩ := reads os enc
  refine returnsInHanded_of_row (C := Try.checked) (s := OpenSpec.ofChange Rows.lexerBeginningsSpec) own started (by kernel_rfl) Try.func7
    (witness_row_at (enc := enc) (C := Try.checked) false (laidWorld os) #[.string ⟨#[]⟩] rfl (by kernel_rfl) (by kernel_rfl) (by kernel_rfl)
      (OpenSpec.preRow_of_cond 8 hx (by kernel_rfl) (fun k hk => by cases hk) (by kernel_rfl) (laid_met os))) ?_
  intro W base args ds gs before hval hW _ _ _ hL _ _
  exact contract H enc W base args ds gs before hval hW

theorem said : Rows.LexerBeginningsSaid :=
  OpenClaim.holds_of_cond 7 Try.f7 rfl rfl rfl rfl rfl rfl rfl ⟨rfl, rfl, rfl, rfl, rfl⟩ rfl rfl rfl rfl rfl (by kernel_rfl) Try.func7 (by kernel_rfl)
    (of_decide_eq_true (by kernel_rfl)) (by unfold Func.isWrapper; first | (rw [if_pos (by decide +kernel)]; kernel_rfl) | (rw [if_neg (by decide +kernel)]; exact ⟨rfl, rfl⟩))
    (fun os started H enc _ F => by rw [OpenClaim.pre_eq_preRow]; exact lifted os started H enc F)

end Go.Proofs.Ytidmonmkpkbhjaa.lexerBeginnings
