/-
  LexerWords (P5.8): for every name, and number from 0 to 9999999, they are one token each, and two with a symbol between them. No condition: for what is no name the statement says what the law's opening check answers.
-/
import Derived.Test.YtidmonmkpkbhjaaLFrameE
import Derived.Test.YtidmonmkpkbhjaaERefC
import Derived.Laws.Strings
import Derived.Deep.QuietTactic
import Derived.BigQuiet
namespace Go.Proofs.Ytidmonmkpkbhjaa.lexerWords
open Go.ChangeShapes Go.WideShapes Go.ChangeAt Go.RowKit
open Go.ChangeMaps (open_string shut_string)

theorem sym_of (k : Nat) (h : k < 13) : ∃ c, Lx.isOne c = true ∧ (⟨#[61, 59, 60, 62, 40, 41, 123, 125, 91, 93, 44, 46, 58]⟩ : ByteArray).extract k (k + 1) = Lx.str [c] := by
  have : k = 0 ∨ k = 1 ∨ k = 2 ∨ k = 3 ∨ k = 4 ∨ k = 5 ∨ k = 6 ∨ k = 7 ∨ k = 8 ∨ k = 9 ∨ k = 10 ∨ k = 11 ∨ k = 12 := by omega
  rcases this with rfl | rfl | rfl | rfl | rfl | rfl | rfl | rfl | rfl | rfl | rfl | rfl | rfl
  · exact ⟨61, by decide, rfl⟩
  · exact ⟨59, by decide, rfl⟩
  · exact ⟨60, by decide, rfl⟩
  · exact ⟨62, by decide, rfl⟩
  · exact ⟨40, by decide, rfl⟩
  · exact ⟨41, by decide, rfl⟩
  · exact ⟨123, by decide, rfl⟩
  · exact ⟨125, by decide, rfl⟩
  · exact ⟨91, by decide, rfl⟩
  · exact ⟨93, by decide, rfl⟩
  · exact ⟨44, by decide, rfl⟩
  · exact ⟨46, by decide, rfl⟩
  · exact ⟨58, by decide, rfl⟩

set_option maxHeartbeats 4000000 in
set_option maxRecDepth 100000 in
theorem law_walk (s : ByteArray) (N y : Nat) (w : World) (hm : s.size ≤ 9223372036854775807) (hN : N ≤ 18446744073709551615) (hy : y ≤ 255) :
    Calls Try.prog 10 #[.string s, .int .u64 N, .int .u8 y] w fun e w' => e = .returned (.bool true) ∧ Below w.heap.size w w' := by
  have HNM := Lib.hid (refname_walk s hm)
  cases hok : Lx.nameOk (Lx.tx s) with
  | false =>
    rw [hok] at HNM
    clear hok
    go_enter Try.func10, Try.ntmps10
    go_wp2_with fail
    refine (head_walk w).mono ?_
    rintro e w1 ⟨rfl, hb1⟩
    go_wp2_with fail
    refine (HNM.out w1).mono ?_
    rintro e w2 ⟨rfl, hw⟩
    subst hw
    go_wp2_with fail
    go_ret
    exact ⟨rfl, hb1⟩
  | true =>
    rw [hok] at HNM
    have hgood := Lx.nameOk_good hok
    have h24 := hgood.small
    rw [Lx.tx_len] at h24
    obtain ⟨n, hn⟩ : ∃ n, n = N % 10000000 := ⟨_, rfl⟩
    obtain ⟨k, hk⟩ : ∃ k, k = y % 13 := ⟨_, rfl⟩
    have hn7 : n < 10000000 := by rw [hn]; exact Nat.mod_lt _ (by decide)
    have hk13 : k < 13 := by rw [hk]; exact Nat.mod_lt _ (by decide)
    obtain ⟨c, hc1, hc2⟩ := sym_of k hk13
    have HD := Lib.hid (refdec_walk 6 n (by simpa using hn7) (by omega) (by omega))
    obtain ⟨d, hd⟩ : ∃ d, d = Lx.str (Lx.decF 6 n) := ⟨_, rfl⟩
    obtain ⟨q, hq⟩ : ∃ q, q = Lx.str [c] := ⟨_, rfl⟩
    rw [← hd] at HD
    have hdl : (Lx.decF 6 n).length ≤ 7 := (Lx.decF_facts 6 n (by simpa using hn7)).2.1
    have hds : d.size ≤ 7 := by rw [hd, Lx.str_size]; exact hdl
    have hqs : q.size = 1 := by rw [hq, Lx.str_size]; rfl
    have htx : Lx.tx (s ++ q ++ d) = Lx.tx s ++ (c :: Lx.dec n) := by
      rw [hd, hq]
      simp [Lx.tx, Lx.str, ByteArray.data_append, Lx.dec]
    have HL := Lib.hid (lex_of (s ++ q ++ d) (by rw [ByteArray.size_append, ByteArray.size_append]; omega) _ 0 0 0 rfl (Lx.full_ok (by rw [Lx.tx_len, ByteArray.size_append, ByteArray.size_append]; omega) (by rw [htx]; exact Lx.lex_words hgood hc1 hn7)))
    have HE := Lib.hid hc2
    rw [← hq] at HE
    have hNi : ((N : Int) % 10000000) = (n : Int) := by rw [hn]; omega
    have hyi : ((y : Int) % 13) = (k : Int) := by rw [hk]; omega
    have HQ := Lib.hid (And.intro hq (And.intro hd (Lx.tx_len s)))
    clear hok hgood hn hk hc1 hc2 hq hd hdl htx
    go_enter Try.func10, Try.ntmps10
    go_wp2_with fail
    refine (head_walk w).mono ?_
    rintro e w1 ⟨rfl, hb1⟩
    go_wp2_with fail
    refine (HNM.out w1).mono ?_
    rintro e w2 ⟨rfl, hw⟩
    subst hw
    go_wp2_with fail
    rw [HE.out]
    refine (HD.out w1).mono ?_
    rintro e w2 ⟨rfl, hw⟩
    subst hw
    go_wp2_with fail
    refine (HL.out w1).mono ?_
    rintro e w2 ⟨v, rfl, i1, hb2⟩
    have hb3 := hb1.trans (hb2.mono hb1.size)
    obtain ⟨g, cc, rfl, hcc1, hcc2, hg, hcl⟩ := i1.some (by simp)
    obtain ⟨hq, hd, hts⟩ := HQ.out
    have p00 : w2.cell? ⟨g, 0, none⟩ = some (.int .i64 1) := (hcl 0 _ rfl).1
    have p01 : w2.cell? ⟨g, 1, none⟩ = some (.string s) := by have := (hcl 0 _ rfl).2.1; rw [Lx.str_tx] at this; exact this
    have p02 : w2.cell? ⟨g, 2, none⟩ = some (.int .i64 0) := (hcl 0 _ rfl).2.2.1
    have p03 : w2.cell? ⟨g, 3, none⟩ = some (.int .i64 0) := (hcl 0 _ rfl).2.2.2
    have p10 : w2.cell? ⟨g, 4, none⟩ = some (.int .i64 3) := (hcl 1 _ rfl).1
    have p11 : w2.cell? ⟨g, 5, none⟩ = some (.string q) := by rw [hq]; exact (hcl 1 _ rfl).2.1
    have p20 : w2.cell? ⟨g, 8, none⟩ = some (.int .i64 2) := (hcl 2 _ rfl).1
    have p21 : w2.cell? ⟨g, 9, none⟩ = some (.string d) := by rw [hd]; exact (hcl 2 _ rfl).2.1
    have p22 : w2.cell? ⟨g, 10, none⟩ = some (.int .i64 (n : Nat)) := (hcl 2 _ rfl).2.2.1
    have p23 : w2.cell? ⟨g, 11, none⟩ = some (.int .i64 ((s.size : Int) + 1)) := by have := (hcl 2 _ rfl).2.2.2; rw [← hts]; exact this
    simp only [List.length_cons, List.length_nil, Nat.zero_add, Nat.reduceAdd] at hcc1 ⊢
    have HD2 : Hid (∀ W : World, Calls Try.prog 19 #[.int .i64 n] W fun e w' => e = .returned (.string d) ∧ w' = W) := fun W => (HD.out W).mono fun _ _ h => ⟨h.1, h.2.symm⟩
    clear hcl i1 hq hd hts HL hNi hyi
    go_wp2_with fail
    go_quiet ((go_at_call 19; exact Calls.quiet_of_same (HD2.out _)))
    go_wp2
    go_ret
    exact ⟨rfl, Lx.below_drewN hb3 _⟩

set_option maxRecDepth 100000 in
/-- What the walk gives, for all arguments and every world that holds the tables. -/
theorem contract (H : Type) (enc : TypeId × Value → H) (W : World) (base : Nat) (args : Array Value) (ds gs : List (DataW H)) (before : List MemPlace)
    (hval : ∀ (j : Nat) t v, Try.f10.params[j]? = some t → args[j]? = some v → Value.okWide Try.prog W .any base t v)
    (hW : DataW.Whole enc Try.prog Try.f10.params.toList Rows.lexerWordsSpec.vars false W args.toList ds gs before) :
    Calls Try.prog 10 args W fun e W' => ∃ v, e = .returned v ∧ Rows.lexerWordsSpec.post enc Try.prog Try.f10 false true false false W args v W' := by
  have hW' := hW
  obtain ⟨p, q, hA0, hV, rfl, hfz, hnd⟩ := hW
  have hA : DataW.TrodAll enc Try.prog W 0 (fun _ => true) true Try.f10.params.toList args.toList ds p := hA0
  rw [Try.params10] at hA hval
  obtain ⟨v0, vs0, d0, ds0, p0, q0, hargs, rfl, rfl, h0, r0⟩ := trodAll_cons hA
  obtain ⟨v1, vs1, d1, ds1, p1, q1, rfl, rfl, rfl, h1, r1⟩ := trodAll_cons r0
  obtain ⟨v2, vs2, d2, ds2, p2, q2, rfl, rfl, rfl, h2, r2⟩ := trodAll_cons r1
  obtain ⟨rfl, rfl, rfl⟩ := trodAll_nil r2
  obtain rfl : args = #[v0, v1, v2] := by cases args; simp_all
  obtain ⟨rfl, rfl⟩ := trodVars_none hV
  obtain ⟨a0, rfl, _, _, g0⟩ := open_string Try.underlying9 (hval 0 9 v0 rfl rfl) h0
  obtain ⟨z1, rfl, _, _, g1⟩ := open_int Try.underlying36 (hval 1 36 v1 rfl rfl) h1
  obtain ⟨n1, rfl⟩ := Int.eq_ofNat_of_zero_le (bounds_u64 g1).1
  obtain ⟨z2, rfl, _, _, g2⟩ := open_int Try.underlying5 (hval 2 5 v2 rfl rfl) h2
  obtain ⟨n2, rfl⟩ := Int.eq_ofNat_of_zero_le (bounds_u8 g2).1
  refine (law_walk a0 n1 n2 W (le_of_max g0) (Int.ofNat_le.1 (bounds_u64 g1).2) (Int.ofNat_le.1 (bounds_u8 g2).2)).mono fun e W' ⟨he, hg⟩ => ?_
  subst he
  exact ⟨_, rfl, post_law rfl rfl rfl rfl rfl (by rw [Try.params10]; decide) hW' hg⟩

theorem laid_met (os : Os) : laidMet Try.prog Rows.lexerWordsRow.laid ((laidWorld os).forCall (fun _ _ => 0) ⟨#[], #[.string ⟨#[]⟩, .int .u64 0, .int .u8 0], []⟩).memory :=
  laidMet_of_run' 8 (by kernel_rfl) (by kernel_rfl)
theorem reads (os : Os) {H : Type} (enc : TypeId × Value → H) : ∃ places, DataW.whole enc Try.prog ((laidWorld os).forCall (fun _ _ => 0) ⟨#[], #[.string ⟨#[]⟩, .int .u64 0, .int .u8 0], []⟩).memory Try.f10.params.toList Rows.lexerWordsSpec.vars false #[Value.string ⟨#[]⟩, Value.int .u64 0, Value.int .u8 0].toList 8 = some ([.lit (.string []), .lit (.int .u64 0), .lit (.int .u8 0)], [], places) :=
  ⟨[], by kernel_rfl⟩

set_option maxRecDepth 100000 in
theorem lifted (os : Os) (started : os.Started) (H : Type) (enc : TypeId × Value → H) (F : Stop.Interp) :
    ReturnsInHanded {} Try.checked os 10 .any ((OpenSpec.ofChange Rows.lexerWordsSpec).preRow enc Try.prog Try.f10 Rows.lexerWordsRow.domain false Rows.lexerWordsRow.laid) (((OpenSpec.ofChange Rows.lexerWordsSpec).at F).post enc Try.prog Try.f10 false true false false) := by
  obtain ⟨places, hx⟩ := reads os enc
  refine returnsInHanded_of_row (C := Try.checked) (s := OpenSpec.ofChange Rows.lexerWordsSpec) own started (by kernel_rfl) Try.func10
    (witness_row_at (enc := enc) (C := Try.checked) false (laidWorld os) #[.string ⟨#[]⟩, .int .u64 0, .int .u8 0] rfl (by kernel_rfl) (by kernel_rfl) (by kernel_rfl)
      (OpenSpec.preRow_of_cond 8 hx (by kernel_rfl) (fun k hk => by cases hk) (by kernel_rfl) (laid_met os))) ?_
  intro W base args ds gs before hval hW _ _ _ hL _ _
  exact contract H enc W base args ds gs before hval hW

theorem said : Rows.LexerWordsSaid :=
  OpenClaim.holds_of_cond 10 Try.f10 rfl rfl rfl rfl rfl rfl rfl ⟨rfl, rfl, rfl, rfl, rfl⟩ rfl rfl rfl rfl rfl (by kernel_rfl) Try.func10 (by kernel_rfl)
    (of_decide_eq_true (by kernel_rfl)) (by unfold Func.isWrapper; first | (rw [if_pos (by decide +kernel)]; kernel_rfl) | (rw [if_neg (by decide +kernel)]; exact ⟨rfl, rfl⟩))
    (fun os started H enc _ F => by rw [OpenClaim.pre_eq_preRow]; exact lifted os started H enc F)

end Go.Proofs.Ytidmonmkpkbhjaa.lexerWords
