/-
  LexerMatchesReference (P5.1): for every text, the tokens, the error and its offset agree with the reference. No condition: the statement itself asks texts of at most 21000 bytes; for longer ones it says what the law's opening check answers.
-/
import Derived.Test.YtidmonmkpkbhjaaLFrameE
import Derived.Test.YtidmonmkpkbhjaaERefB
import Derived.Test.YtidmonmkpkbhjaaERefL
import Derived.Laws.Strings
namespace Go.Proofs.Ytidmonmkpkbhjaa.lexerMatchesReference
open Go.ChangeShapes Go.WideShapes Go.ChangeAt Go.RowKit
open Go.ChangeMaps (open_string shut_string)

theorem small_of (s : Lx.T) (d : Nat) (hs : s.length ≤ 21000) (hd : d ≤ 100000) : Lx.Small (Lx.lex s 0).1 d := by
  intro t ht
  obtain ⟨i, hi, e⟩ := List.getElem_of_mem ht
  obtain ⟨p, q, e1, e2, _⟩ := Lx.lex_cut _ s (Nat.le_refl _) 0 i t (by rw [List.getElem?_eq_getElem hi, e])
  have := congrArg List.length e1
  rw [List.length_append] at this
  exact ⟨by omega, hd⟩
theorem small_full (s : Lx.T) (hs : s.length ≤ 21000) : Lx.Small (Lx.full s).1 0 := by
  unfold Lx.full
  by_cases h1 : 20000 < s.length
  · rw [if_pos h1]
    intro t ht; cases ht
  · rw [if_neg h1]
    dsimp only
    by_cases h2 : 5000 < (Lx.lex s 0).1.length
    · rw [if_pos h2]
      intro t ht; cases ht
    · rw [if_neg h2]
      cases h3 : (Lx.lex s 0).2 with
      | none => exact small_of s 0 hs (by decide)
      | some x => intro t ht; cases ht
theorem shift_zero (l : List Lx.Tok) : l.map (Lx.Tok.shift 0) = l := by
  induction l with
  | nil => rfl
  | cons t l ih => rw [List.map_cons, ih]; rfl

set_option maxHeartbeats 2000000 in
set_option maxRecDepth 100000 in
theorem law_walk (s : ByteArray) (w : World) (hm : s.size ≤ 9223372036854775807) :
    Calls Try.prog 3 #[.string s] w fun e w' => e = .returned (.bool true) ∧ Below w.heap.size w w' := by
  by_cases hl : (21000 : Int) < s.size
  · go_enter Try.func3, Try.ntmps3
    go_wp2_with fail
    refine (head_walk w).mono ?_
    rintro e w1 ⟨rfl, hb1⟩
    go_wp2_with fail
    go_ret
    exact ⟨rfl, hb1⟩
  · obtain ⟨F, hF⟩ : ∃ F, F = Lx.full (Lx.tx s) := ⟨_, rfl⟩
    have SA : Lx.Small F.1 0 := by rw [hF]; exact small_full _ (by rw [Lx.tx_len]; omega)
    have H1 := Lib.hid (lex_ex s hm)
    have H2 := Lib.hid (reflex_walk s hm)
    rw [← hF] at H1 H2
    obtain ⟨l, E, A⟩ := F
    have SA := Lib.hid SA
    clear hF
    go_enter Try.func3, Try.ntmps3
    go_wp2_with fail
    refine (head_walk w).mono ?_
    rintro e w1 ⟨rfl, hb1⟩
    go_wp2_with fail
    refine (H1.out w1).mono ?_
    rintro e w2 ⟨v, rfl, i1, hb2⟩
    have hb2 := hb1.trans (hb2.mono hb1.size)
    have I1 := Lib.hid i1
    clear i1
    go_wp2_with fail
    refine (H2.out w2).mono ?_
    rintro e w3 ⟨v3, rfl, i2, hb3⟩
    have I2 := Lib.hid i2.isL
    have I3 := Lib.hid (I1.out.below hb3)
    have hb3 := hb2.trans (hb3.mono hb2.size)
    clear i2
    go_wp2_with fail
    refine (same_yes _ _ l 0 w3 I3.out (by rw [shift_zero]; exact I2.out.lo) SA.out).mono ?_
    rintro e w4 ⟨rfl, hb4⟩
    go_wp2_with fail
    go_ret
    exact ⟨rfl, hb3.trans (hb4.mono hb3.size)⟩

set_option maxRecDepth 100000 in
/-- What the walk gives, for all arguments and every world that holds the tables. -/
theorem contract (H : Type) (enc : TypeId × Value → H) (W : World) (base : Nat) (args : Array Value) (ds gs : List (DataW H)) (before : List MemPlace)
    (hval : ∀ (j : Nat) t v, Try.f3.params[j]? = some t → args[j]? = some v → Value.okWide Try.prog W .any base t v)
    (hW : DataW.Whole enc Try.prog Try.f3.params.toList Rows.lexerMatchesReferenceSpec.vars false W args.toList ds gs before) :
    Calls Try.prog 3 args W fun e W' => ∃ v, e = .returned v ∧ Rows.lexerMatchesReferenceSpec.post enc Try.prog Try.f3 false true false false W args v W' := by
  have hW' := hW
  obtain ⟨p, q, hA0, hV, rfl, hfz, hnd⟩ := hW
  have hA : DataW.TrodAll enc Try.prog W 0 (fun _ => true) true Try.f3.params.toList args.toList ds p := hA0
  rw [Try.params3] at hA hval
  obtain ⟨v0, vs0, d0, ds0, p0, q0, hargs, rfl, rfl, h0, r0⟩ := trodAll_cons hA
  obtain ⟨rfl, rfl, rfl⟩ := trodAll_nil r0
  obtain rfl : args = #[v0] := by cases args; simp_all
  obtain ⟨rfl, rfl⟩ := trodVars_none hV
  obtain ⟨a0, rfl, _, _, g0⟩ := open_string Try.underlying9 (hval 0 9 v0 rfl rfl) h0
  refine (law_walk a0 W (le_of_max g0)).mono fun e W' ⟨he, hg⟩ => ?_
  subst he
  exact ⟨_, rfl, post_law rfl rfl rfl rfl rfl (by rw [Try.params3]; decide) hW' hg⟩

theorem laid_met (os : Os) : laidMet Try.prog Rows.lexerMatchesReferenceRow.laid ((laidWorld os).forCall (fun _ _ => 0) ⟨#[], #[.string ⟨#[]⟩], []⟩).memory :=
  laidMet_of_run' 8 (by kernel_rfl) (by kernel_rfl)
theorem reads (os : Os) {H : Type} (enc : TypeId × Value → H) : ∃ places, DataW.whole enc Try.prog ((laidWorld os).forCall (fun _ _ => 0) ⟨#[], #[.string ⟨#[]⟩], []⟩).memory Try.f3.params.toList Rows.lexerMatchesReferenceSpec.vars false #[Value.string ⟨#[]⟩].toList 8 = some ([.lit (.string [])], [], places) :=
  ⟨[], by kernel_rfl⟩

set_option maxRecDepth 100000 in
theorem lifted (os : Os) (started : os.Started) (H : Type) (enc : TypeId × Value → H) (F : Stop.Interp) :
    ReturnsInHanded {} Try.checked os 3 .any ((OpenSpec.ofChange Rows.lexerMatchesReferenceSpec).preRow enc Try.prog Try.f3 Rows.lexerMatchesReferenceRow.domain false Rows.lexerMatchesReferenceRow.laid) (((OpenSpec.ofChange Rows.lexerMatchesReferenceSpec).at F).post enc Try.prog Try.f3 false true false false) := by
  obtain ⟨places, hx⟩ := reads os enc
  refine returnsInHanded_of_row (C := Try.checked) (s := OpenSpec.ofChange Rows.lexerMatchesReferenceSpec) own started (by kernel_rfl) Try.func3
    (witness_row_at (enc := enc) (C := Try.checked) false (laidWorld os) #[.string ⟨#[]⟩] rfl (by kernel_rfl) (by kernel_rfl) (by kernel_rfl)
      (OpenSpec.preRow_of_cond 8 hx (by kernel_rfl) (fun k hk => by cases hk) (by kernel_rfl) (laid_met os))) ?_
  intro W base args ds gs before hval hW _ _ _ hL _ _
  exact contract H enc W base args ds gs before hval hW

theorem said : Rows.LexerMatchesReferenceSaid :=
  OpenClaim.holds_of_cond 3 Try.f3 rfl rfl rfl rfl rfl rfl rfl ⟨rfl, rfl, rfl, rfl, rfl⟩ rfl rfl rfl rfl rfl (by kernel_rfl) Try.func3 (by kernel_rfl)
    (of_decide_eq_true (by kernel_rfl)) (by unfold Func.isWrapper; first | (rw [if_pos (by decide +kernel)]; kernel_rfl) | (rw [if_neg (by decide +kernel)]; exact ⟨rfl, rfl⟩))
    (fun os started H enc _ F => by rw [OpenClaim.pre_eq_preRow]; exact lifted os started H enc F)

end Go.Proofs.Ytidmonmkpkbhjaa.lexerMatchesReference
