/-
  LexerAgain (P5.3): for every text without an error, its tokens, written with one blank after each, have the same tokens apart from offsets. No condition: the statement itself asks texts of at most 2000 bytes; for longer ones it says what the law's opening check answers.
-/
import Derived.Test.YtidmonmkpkbhjaaLFrameE
import Derived.Test.YtidmonmkpkbhjaaERefB
import Derived.Laws.Strings
namespace Go.Proofs.Ytidmonmkpkbhjaa.lexerAgain
open Go.ChangeShapes Go.WideShapes Go.ChangeAt Go.RowKit
open Go.ChangeMaps (open_string shut_string)

theorem written_len (m : Nat) : ∀ s : Lx.T, s.length ≤ m → ∀ a, (Lx.written (Lx.lex s a).1).length ≤ 2 * s.length := by
  induction m with
  | zero =>
    intro s hs a
    have : s = [] := List.length_eq_zero_iff.1 (by omega)
    subst this
    rw [Lx.lex_done rfl]
    exact Nat.le_refl _
  | succ m ih =>
    intro s hs a
    rcases Lx.lex_cases s with h | ⟨p, c, r, e, rfl, h1, h2, hc, hn⟩ | ⟨p, t, x, k, n, rfl, h1, h2, hg, hst⟩
    · rw [Lx.lex_done h]; exact Nat.zero_le _
    · rw [Lx.lex_err (h2 c r hc) hn]; exact Nat.zero_le _
    · rw [Lx.lex_tok (Lx.skip_tok h2 hg x) hg hst]
      have := ih x (Lx.tok_len hg hs) (a + p.length + t.length)
      have := hg.pos
      simp only [Lx.written, List.length_append, List.length_cons]
      omega
theorem written_mono : ∀ (l : List Lx.Tok) (k : Nat), (Lx.written (l.take k)).length ≤ (Lx.written l).length
  | [], k => by simp
  | t :: l, 0 => Nat.zero_le _
  | t :: l, k + 1 => by
    have := written_mono l k
    simp only [List.take_succ_cons, Lx.written, List.length_append, List.length_cons]
    omega

set_option maxHeartbeats 4000000 in
set_option maxRecDepth 100000 in
theorem law_walk (s : ByteArray) (w : World) (hm : s.size ≤ 9223372036854775807) :
    Calls Try.prog 5 #[.string s] w fun e w' => e = .returned (.bool true) ∧ Below w.heap.size w w' := by
  by_cases hl : (2000 : Int) < s.size
  · go_enter Try.func5, Try.ntmps5
    go_wp2_with fail
    refine (head_walk w).mono ?_
    rintro e w1 ⟨rfl, hb1⟩
    go_wp2_with fail
    go_ret
    exact ⟨rfl, hb1⟩
  have ht1 := Lx.tx_len s
  cases hx : (Lx.lex (Lx.tx s) 0).2 with
  | some x =>
    obtain ⟨E, a⟩ := x
    have H1 := Lib.hid (lex_of s hm [] (E : Int) (a : Int) E rfl (Lx.full_no (by omega) (Prod.ext rfl hx)))
    have hE := (Lx.lex_errAt _ (Lx.tx s) (Nat.le_refl _) 0 (E, a) hx).2.2
    have hEi : (((E : Nat) : Int) != 0) = true := by rw [bne_iff_ne]; simp only at hE; omega
    clear hx hE ht1
    go_enter Try.func5, Try.ntmps5
    go_wp2_with fail
    refine (head_walk w).mono ?_
    rintro e w1 ⟨rfl, hb1⟩
    go_wp2_with fail
    refine (H1.out w1).mono ?_
    rintro e w2 ⟨v, rfl, _, hb2⟩
    have hb2 := hb1.trans (hb2.mono hb1.size)
    go_wp2_with fail
    go_ret
    exact ⟨rfl, hb2⟩
  | none =>
    obtain ⟨l, hA⟩ : ∃ l, l = (Lx.lex (Lx.tx s) 0).1 := ⟨_, rfl⟩
    have hgood := (Lx.lex_good _ (Lx.tx s) (Nat.le_refl _) 0).1
    have hwl := written_len _ (Lx.tx s) (Nat.le_refl _) 0
    rw [← hA] at hgood hwl
    have H1 := Lib.hid (lex_of s hm l 0 0 0 rfl (Lx.full_ok (by omega) (by rw [hA]; exact Prod.ext rfl hx)))
    obtain ⟨hn, hal⟩ := Lx.lex_written l hgood 0
    obtain ⟨m, hM⟩ : ∃ m, m = (Lx.lex (Lx.written l) 0).1 := ⟨_, rfl⟩
    rw [← hM] at hal
    have H2 := Lib.hid (lex_of (Lx.str (Lx.written l)) (by rw [Lx.str_size]; omega) m 0 0 0 rfl (by rw [Lx.tx_str]; exact Lx.full_ok (by omega) (by rw [hM]; exact Prod.ext rfl hn)))
    have HAL := Lib.hid hal
    have HW : Hid (∀ k, (Lx.written (l.take k)).length ≤ 1000000) := fun k => by have := written_mono l k; omega
    have H24 : Hid (∀ t ∈ l, t.text.length ≤ 24) := fun t ht => (hgood t ht).small
    obtain ⟨y, hy⟩ : ∃ y, y = Lx.str (Lx.written l) := ⟨_, rfl⟩
    rw [← hy] at H2
    have HY := Lib.hid hy
    clear hx ht1 hgood hwl hn hal hM hA hy
    go_enter Try.func5, Try.ntmps5
    go_wp2_with fail
    refine (head_walk w).mono ?_
    rintro e w1 ⟨rfl, hb1⟩
    go_wp2_with fail
    refine (H1.out w1).mono ?_
    rintro e w2 ⟨v1, rfl, i1, hb2⟩
    have I1 := Lib.hid i1
    clear i1
    go_wp2_with fail
    refine (written_walk v1 l w2 I1.out HW.out H24.out).mono ?_
    rintro e w3 ⟨rfl, rfl⟩
    rw [← HY.out]
    go_wp2_with fail
    refine (H2.out w2).mono ?_
    rintro e w3 ⟨v2, rfl, i2, hb3⟩
    have I2 := Lib.hid i2
    have hb4 := hb1.trans ((hb2.trans (hb3.mono hb2.size)).mono hb1.size)
    have I3 := Lib.hid (I1.out.below hb3)
    clear i2 I1
    go_wp2_with fail
    refine (alike_yes v1 v2 l m w3 I3.out I2.out HAL.out).mono ?_
    rintro e w5 ⟨rfl, hb5⟩
    go_wp2_with fail
    go_ret
    exact ⟨rfl, hb4.trans (hb5.mono hb4.size)⟩

set_option maxRecDepth 100000 in
/-- What the walk gives, for all arguments and every world that holds the tables. -/
theorem contract (H : Type) (enc : TypeId × Value → H) (W : World) (base : Nat) (args : Array Value) (ds gs : List (DataW H)) (before : List MemPlace)
    (hval : ∀ (j : Nat) t v, Try.f5.params[j]? = some t → args[j]? = some v → Value.okWide Try.prog W .any base t v)
    (hW : DataW.Whole enc Try.prog Try.f5.params.toList Rows.lexerAgainSpec.vars false W args.toList ds gs before) :
    Calls Try.prog 5 args W fun e W' => ∃ v, e = .returned v ∧ Rows.lexerAgainSpec.post enc Try.prog Try.f5 false true false false W args v W' := by
  have hW' := hW
  obtain ⟨p, q, hA0, hV, rfl, hfz, hnd⟩ := hW
  have hA : DataW.TrodAll enc Try.prog W 0 (fun _ => true) true Try.f5.params.toList args.toList ds p := hA0
  rw [Try.params5] at hA hval
  obtain ⟨v0, vs0, d0, ds0, p0, q0, hargs, rfl, rfl, h0, r0⟩ := trodAll_cons hA
  obtain ⟨rfl, rfl, rfl⟩ := trodAll_nil r0
  obtain rfl : args = #[v0] := by cases args; simp_all
  obtain ⟨rfl, rfl⟩ := trodVars_none hV
  obtain ⟨a0, rfl, _, _, g0⟩ := open_string Try.underlying9 (hval 0 9 v0 rfl rfl) h0
  refine (law_walk a0 W (le_of_max g0)).mono fun e W' ⟨he, hg⟩ => ?_
  subst he
  exact ⟨_, rfl, post_law rfl rfl rfl rfl rfl (by rw [Try.params5]; decide) hW' hg⟩

theorem laid_met (os : Os) : laidMet Try.prog Rows.lexerAgainRow.laid ((laidWorld os).forCall (fun _ _ => 0) ⟨#[], #[.string ⟨#[]⟩], []⟩).memory :=
  laidMet_of_run' 8 (by kernel_rfl) (by kernel_rfl)
theorem reads (os : Os) {H : Type} (enc : TypeId × Value → H) : ∃ places, DataW.whole enc Try.prog ((laidWorld os).forCall (fun _ _ => 0) ⟨#[], #[.string ⟨#[]⟩], []⟩).memory Try.f5.params.toList Rows.lexerAgainSpec.vars false #[Value.string ⟨#[]⟩].toList 8 = some ([.lit (.string [])], [], places) :=
  ⟨[], by kernel_rfl⟩

set_option maxRecDepth 100000 in
theorem lifted (os : Os) (started : os.Started) (H : Type) (enc : TypeId × Value → H) (F : Stop.Interp) :
    ReturnsInHanded {} Try.checked os 5 .any ((OpenSpec.ofChange Rows.lexerAgainSpec).preRow enc Try.prog Try.f5 Rows.lexerAgainRow.domain false Rows.lexerAgainRow.laid) (((OpenSpec.ofChange Rows.lexerAgainSpec).at F).post enc Try.prog Try.f5 false true false false) := by
  obtain ⟨places, hx⟩ := reads os enc
  refine returnsInHanded_of_row (C := Try.checked) (s := OpenSpec.ofChange Rows.lexerAgainSpec) own started (by kernel_rfl) Try.func5
    (witness_row_at (enc := enc) (C := Try.checked) false (laidWorld os) #[.string ⟨#[]⟩] rfl (by kernel_rfl) (by kernel_rfl) (by kernel_rfl)
      (OpenSpec.preRow_of_cond 8 hx (by kernel_rfl) (fun k hk => by cases hk) (by kernel_rfl) (laid_met os))) ?_
  intro W base args ds gs before hval hW _ _ _ hL _ _
  exact contract H enc W base args ds gs before hval hW

theorem said : Rows.LexerAgainSaid :=
  OpenClaim.holds_of_cond 5 Try.f5 rfl rfl rfl rfl rfl rfl rfl ⟨rfl, rfl, rfl, rfl, rfl⟩ rfl rfl rfl rfl rfl (by kernel_rfl) Try.func5 (by kernel_rfl)
    (of_decide_eq_true (by kernel_rfl)) (by unfold Func.isWrapper; first | (rw [if_pos (by decide +kernel)]; kernel_rfl) | (rw [if_neg (by decide +kernel)]; exact ⟨rfl, rfl⟩))
    (fun os started H enc _ F => by rw [OpenClaim.pre_eq_preRow]; exact lifted os started H enc F)

end Go.Proofs.Ytidmonmkpkbhjaa.lexerAgain
