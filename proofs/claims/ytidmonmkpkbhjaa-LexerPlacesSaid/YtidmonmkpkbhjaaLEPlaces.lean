/-
  LexerPlaces (P5.2): for every text without an error, the offsets of the tokens increase, each token stands at its offset, and before, between and after them there are only gaps. No condition: the statement itself asks texts of at most 3000 bytes; for longer ones it says what the law's opening check answers.
-/
import Derived.Test.YtidmonmkpkbhjaaLFrameE
import Derived.Test.YtidmonmkpkbhjaaERefA
import Derived.Deep.QuietTactic
import Derived.BigQuiet
import Derived.Laws.Strings
namespace Go.Proofs.Ytidmonmkpkbhjaa.lexerPlaces
open Go.ChangeShapes Go.WideShapes Go.ChangeAt Go.RowKit
open Go.ChangeMaps (open_string shut_string)

theorem below_drewN3 {B : Nat} {a w : World} (h : Below B a w) (q : Nat) : Below B a (w.drewN q) := ⟨h.os, h.tape, h.output, h.size, h.block⟩
/-- One token of the places. -/
theorem place_step (s : ByteArray) (e : Nat) (he : e ≤ s.size) (t : Lx.Tok) (l : List Lx.Tok) (h : Lx.Places ((Lx.tx s).drop e) e (t :: l)) :
    e ≤ t.at_ ∧ 0 < t.text.length ∧ t.at_ + t.text.length ≤ s.size ∧ s.extract t.at_ (t.at_ + t.text.length) = Lx.str t.text ∧ Lx.gapsOk (Lx.tx (s.extract e t.at_)) = true ∧
    Lx.Places ((Lx.tx s).drop (t.at_ + t.text.length)) (t.at_ + t.text.length) l := by
  obtain ⟨p, x, e1, e2, hg, hgd, hp⟩ := h
  have hl := congrArg List.length e1
  rw [List.length_drop, Lx.tx_len, List.length_append, List.length_append] at hl
  have hpos := hgd.pos
  have d1 : (Lx.tx s).drop t.at_ = t.text ++ x := by rw [e2, ← List.drop_drop, e1, List.drop_left]
  have d2 : (Lx.tx s).drop (t.at_ + t.text.length) = x := by rw [← List.drop_drop, d1, List.drop_left]
  refine ⟨by omega, hpos, by omega, ?_, ?_, by rw [d2]; exact hp⟩
  · rw [Lx.extract_str, d1, show t.at_ + t.text.length - t.at_ = t.text.length by omega, List.take_left]
  · rw [Lx.gapsOk_iff, Lx.extract_str, Lx.tx_str, e1, show t.at_ - e = p.length by omega, List.take_left]
    exact hg
theorem place_end (s : ByteArray) (e : Nat) (h : Lx.Places ((Lx.tx s).drop e) e []) : Lx.gapsOk (Lx.tx (s.extract e s.size)) = true := by
  rw [Lx.gapsOk_iff, Lx.extract_str, Lx.tx_str, List.take_of_length_le (by rw [List.length_drop, Lx.tx_len]; exact Nat.le_refl _)]
  exact h

set_option maxHeartbeats 4000000 in
set_option maxRecDepth 100000 in
theorem law_walk (s : ByteArray) (w : World) (hm : s.size ≤ 9223372036854775807) :
    Calls Try.prog 4 #[.string s] w fun e w' => e = .returned (.bool true) ∧ Below w.heap.size w w' := by
  by_cases hl : (3000 : Int) < s.size
  · go_enter Try.func4, Try.ntmps4
    go_wp2_with fail
    refine (head_walk w).mono ?_
    rintro e w1 ⟨rfl, hb1⟩
    go_wp2_with fail
    go_ret
    exact ⟨rfl, hb1⟩
  have ht1 := Lx.tx_len s
  cases hx : (Lx.lex (Lx.tx s) 0).2 with
  | some x =>
    obtain ⟨E, a⟩ := x
    have H1 := Lib.hid (lex_of s hm [] (E : Int) (a : Int) E rfl (Lx.full_no (by omega) (Prod.ext rfl hx)))
    have hE := (Lx.lex_errAt _ (Lx.tx s) (Nat.le_refl _) 0 (E, a) hx)
    have hEi : (((E : Nat) : Int) != 0) = true := by rw [bne_iff_ne]; have := hE.2.2; simp only at this; omega
    have ha : a < s.size := by have := hE.2.1; simp only at this; omega
    have hai : (a : Int) < (s.size : Int) := by omega
    have ha0 : (0 : Int) ≤ (a : Int) := by omega
    clear hx ht1 hE
    go_enter Try.func4, Try.ntmps4
    go_wp2_with fail
    refine (head_walk w).mono ?_
    rintro e w1 ⟨rfl, hb1⟩
    go_wp2_with fail
    refine (H1.out w1).mono ?_
    rintro e w2 ⟨v, rfl, i1, hb2⟩
    obtain ⟨a1, c1, rfl⟩ := i1.form
    simp only [List.length_nil]
    have hb2 := hb1.trans (hb2.mono hb1.size)
    clear i1
    go_wp2_with fail
    go_ret
    exact ⟨rfl, hb2⟩
  | none =>
    have hpl := Lx.lex_places _ (Lx.tx s) (Nat.le_refl _) 0 hx
    obtain ⟨l, hA⟩ : ∃ l, l = (Lx.lex (Lx.tx s) 0).1 := ⟨_, rfl⟩
    have H1 := Lib.hid (lex_of s hm l 0 0 0 rfl (Lx.full_ok (by omega) (by rw [hA]; exact Prod.ext rfl hx)))
    rw [← hA] at hpl
    have HPL : Hid (Lx.Places ((Lx.tx s).drop 0) 0 (l.drop 0)) := by rw [List.drop_zero, List.drop_zero]; exact hpl
    have hll : l.length ≤ 3000 := by rw [hA]; have := (Lx.lex_good _ (Lx.tx s) (Nat.le_refl _) 0).2; omega
    have HGW := Lib.hid (fun (u : ByteArray) (h : u.size < 9223372036854775807) => refgaps_walk u h)
    have HST := Lib.hid (fun e he t l h => place_step s e he t l h)
    have HEN := Lib.hid (fun e h => place_end s e h)
    have hss : s.size ≤ 3000 := by omega
    clear hx ht1 hA hpl
    go_enter Try.func4, Try.ntmps4
    go_wp2_with fail
    refine (head_walk w).mono ?_
    rintro e w1 ⟨rfl, hb1⟩
    go_wp2_with fail
    refine (H1.out w1).mono ?_
    rintro e w2 ⟨v, rfl, i1, hb2⟩
    have hb2 := hb1.trans (hb2.mono hb1.size)
    obtain ⟨n, hn⟩ : ∃ n, n = l.length := ⟨_, rfl⟩
    have HFC : Hid (∃ ao c, v = .slice ao n c ∧ (0 < n → ∃ g, ao = some ⟨g, 0, none⟩ ∧ g < w2.heap.size ∧ ∀ i t, l[i]? = some t → w2.cell? ⟨g, i * 4 + 1, none⟩ = some (.string (Lx.str t.text)) ∧ w2.cell? ⟨g, i * 4 + 3, none⟩ = some (.int .i64 (t.at_ : Nat)))) := by
      obtain ⟨ao, c, e1, _, _, e3⟩ := i1
      refine ⟨ao, c, by rw [hn]; exact e1, fun h0 => ?_⟩
      obtain ⟨g, e4, hg, hc⟩ := e3 (fun h => by rw [h] at hn; simp at hn; omega)
      exact ⟨g, e4, hg, fun i t ht => ⟨(hc i t ht).2.1, (hc i t ht).2.2.2⟩⟩
    obtain ⟨ao, c, rfl, HC0⟩ := HFC.out
    have HC := Lib.hid HC0
    rw [← hn] at hll
    have HN := Lib.hid hn
    clear i1 hn HFC HC0
    go_wp2_with fail
    go_loopw [7, 8] (fun ve v wr => ∃ k e : Nat, k ≤ n ∧ v = .int .i64 k ∧ e ≤ s.size ∧ ve = .int .i64 e ∧ Hid (Lx.Places ((Lx.tx s).drop e) e (l.drop k)) ∧ Below w2.heap.size w2 wr) (fun _ v _ => n - (intOf v).toNat)
    case atStart => exact ⟨0, 0, Nat.zero_le _, rfl, Nat.zero_le _, rfl, HPL, Below.refl _ _⟩
    case round =>
      obtain ⟨k, e, hk, rfl, he, rfl, hpl, hbw⟩ := hrel
      have hz2 := hbw.size
      by_cases hlt : k < n
      · have hkl : k < l.length := by rw [← HN.out]; exact hlt
        obtain ⟨t, ht⟩ : ∃ t, t = l[k] := ⟨_, rfl⟩
        have gt : l[k]? = some t := by rw [ht]; exact List.getElem?_eq_getElem hkl
        obtain ⟨g, rfl, hg, hcl⟩ := HC.out (by omega)
        obtain ⟨p1, p3⟩ := hcl k t gt
        have hdr : l.drop k = t :: l.drop (k + 1) := by rw [ht]; exact List.drop_eq_getElem_cons hkl
        obtain ⟨s1, s2, s3, s4, s5, s6⟩ := HST.out e he t _ (by rw [← hdr]; exact hpl.out)
        have r1 := (hbw.cell (p := ⟨g, k * 4 + 1, none⟩) hg).trans p1
        have r3 := (hbw.cell (p := ⟨g, k * 4 + 3, none⟩) hg).trans p3
        obtain ⟨x, hx⟩ : ∃ x, x = Lx.str t.text := ⟨_, rfl⟩
        have hxs : x.size = t.text.length := by rw [hx, Lx.str_size]
        obtain ⟨a, hta⟩ : ∃ a, a = t.at_ := ⟨_, rfl⟩
        rw [← hx] at r1 s4
        rw [← hta] at r3 s1 s3 s4 s5 s6
        rw [← hxs] at s2 s3 s4 s6
        have HPN : Hid (Lx.Places ((Lx.tx s).drop (a + x.size)) (a + x.size) (l.drop (k + 1))) := s6
        have HGC := Lib.hid (HGW.out (s.extract e a) (by rw [← Lx.tx_len, Lx.extract_str, Lx.tx_str, List.length_take, List.length_drop, Lx.tx_len]; omega))
        rw [s5] at HGC
        have HG2 : Hid (∀ W : World, Calls Try.prog 15 #[.string (s.extract e a)] W fun e w' => e = .returned (.bool true) ∧ w' = W) := fun W => (HGC.out W).mono fun _ _ h => ⟨h.1, h.2.symm⟩
        have d1 : decide ((a : Int) < (e : Int)) = false := by rw [decide_eq_false_iff_not]; omega
        have d2 : (((x.size : Nat) : Int) == 0) = false := by rw [beq_eq_false_iff_ne]; omega
        have d3 : decide ((s.size : Int) < (a : Int) + (x.size : Int)) = false := by rw [decide_eq_false_iff_not]; omega
        have d4 : ((s.extract a (a + x.size)).toList != x.toList) = false := by rw [s4]; simp
        have d5 : ((s.size : Int) < (a : Int) + (x.size : Int)) = False := _root_.eq_false (by omega)
        have d6 : IntKind.i64.wrap ((a : Int) + (x.size : Int)) = (a : Int) + (x.size : Int) := by rw [IntKind.wrap_i64]; omega
        have q1 : (a : Int) ≤ (a : Int) + (x.size : Int) := by omega
        have q2 : (a : Int) + (x.size : Int) ≤ (s.size : Int) := by omega
        have q3 : (0 : Int) ≤ (a : Int) := by omega
        have q4 : (e : Int) ≤ (a : Int) := by omega
        have q5 : (a : Int) ≤ (s.size : Int) := by omega
        have q6 : (0 : Int) ≤ (e : Int) := by omega
        have hki : (k : Int) < (n : Int) := by omega
        have d7 : (s.extract a (a + x.size)).toList = x.toList := by rw [s4]
        have d8 : ((a : Int) + (x.size : Int)).toNat = a + x.size := by omega
        clear ht gt hcl p1 p3 hdr d4 s5 s6 hx hxs hta hkl HC HGC hpl
        go_wp2_with fail
        go_quiet ((go_at_call 15; exact Calls.quiet_of_same (HG2.out _)))
        go_wp2_with fail
        clear d1 d2 d3 d5 d6 d7 d8 q1 q3 q4 q5 q6 s4
        go_roundw
        case rel => exact ⟨k + 1, a + x.size, by omega, by go_num, by omega, by go_num, HPN, below_drewN3 hbw _⟩
        case measure => simp [intOf]; omega
      · have hki : ¬ (k : Int) < (n : Int) := by omega
        have hdr : l.drop k = [] := List.drop_of_length_le (by rw [← HN.out]; omega)
        have hge := HEN.out e (by rw [← hdr]; exact hpl.out)
        have HGC := Lib.hid (HGW.out (s.extract e s.size) (by rw [← Lx.tx_len, Lx.extract_str, Lx.tx_str, List.length_take, List.length_drop, Lx.tx_len]; omega))
        rw [hge] at HGC
        clear hdr hge hpl HC
        have q5 : (e : Int) ≤ (s.size : Int) := by omega
        go_wp2_with fail
        refine (HGC.out wr).mono ?_
        rintro e2 w3 ⟨rfl, hw⟩
        subst hw
        go_wp2_with fail
        go_ret
        exact ⟨rfl, hb2.trans (hbw.mono hb2.size)⟩

set_option maxRecDepth 100000 in
/-- What the walk gives, for all arguments and every world that holds the tables. -/
theorem contract (H : Type) (enc : TypeId × Value → H) (W : World) (base : Nat) (args : Array Value) (ds gs : List (DataW H)) (before : List MemPlace)
    (hval : ∀ (j : Nat) t v, Try.f4.params[j]? = some t → args[j]? = some v → Value.okWide Try.prog W .any base t v)
    (hW : DataW.Whole enc Try.prog Try.f4.params.toList Rows.lexerPlacesSpec.vars false W args.toList ds gs before) :
    Calls Try.prog 4 args W fun e W' => ∃ v, e = .returned v ∧ Rows.lexerPlacesSpec.post enc Try.prog Try.f4 false true false false W args v W' := by
  have hW' := hW
  obtain ⟨p, q, hA0, hV, rfl, hfz, hnd⟩ := hW
  have hA : DataW.TrodAll enc Try.prog W 0 (fun _ => true) true Try.f4.params.toList args.toList ds p := hA0
  rw [Try.params4] at hA hval
  obtain ⟨v0, vs0, d0, ds0, p0, q0, hargs, rfl, rfl, h0, r0⟩ := trodAll_cons hA
  obtain ⟨rfl, rfl, rfl⟩ := trodAll_nil r0
  obtain rfl : args = #[v0] := by cases args; simp_all
  obtain ⟨rfl, rfl⟩ := trodVars_none hV
  obtain ⟨a0, rfl, _, _, g0⟩ := open_string Try.underlying9 (hval 0 9 v0 rfl rfl) h0
  refine (law_walk a0 W (le_of_max g0)).mono fun e W' ⟨he, hg⟩ => ?_
  subst he
  exact ⟨_, rfl, post_law rfl rfl rfl rfl rfl (by rw [Try.params4]; decide) hW' hg⟩

theorem laid_met (os : Os) : laidMet Try.prog Rows.lexerPlacesRow.laid ((laidWorld os).forCall (fun _ _ => 0) ⟨#[], #[.string ⟨#[]⟩], []⟩).memory :=
  laidMet_of_run' 8 (by kernel_rfl) (by kernel_rfl)
theorem reads (os : Os) {H : Type} (enc : TypeId × Value → H) : ∃ places, DataW.whole enc Try.prog ((laidWorld os).forCall (fun _ _ => 0) ⟨#[], #[.string ⟨#[]⟩], []⟩).memory Try.f4.params.toList Rows.lexerPlacesSpec.vars false #[Value.string ⟨#[]⟩].toList 8 = some ([.lit (.string [])], [], places) :=
  ⟨[], by kernel_rfl⟩

set_option maxRecDepth 100000 in
theorem lifted (os : Os) (started : os.Started) (H : Type) (enc : TypeId × Value → H) (F : Stop.Interp) :
    ReturnsInHanded {} Try.checked os 4 .any ((OpenSpec.ofChange Rows.lexerPlacesSpec).preRow enc Try.prog Try.f4 Rows.lexerPlacesRow.domain false Rows.lexerPlacesRow.laid) (((OpenSpec.ofChange Rows.lexerPlacesSpec).at F).post enc Try.prog Try.f4 false true false false) := by
  obtain ⟨places, hx⟩ := reads os enc
  refine returnsInHanded_of_row (C := Try.checked) (s := OpenSpec.ofChange Rows.lexerPlacesSpec) own started (by kernel_rfl) Try.func4
    (witness_row_at (enc := enc) (C := Try.checked) false (laidWorld os) #[.string ⟨#[]⟩] rfl (by kernel_rfl) (by kernel_rfl) (by kernel_rfl)
      (OpenSpec.preRow_of_cond 8 hx (by kernel_rfl) (fun k hk => by cases hk) (by kernel_rfl) (laid_met os))) ?_
  intro W base args ds gs before hval hW _ _ _ hL _ _
  exact contract H enc W base args ds gs before hval hW

theorem said : Rows.LexerPlacesSaid :=
  OpenClaim.holds_of_cond 4 Try.f4 rfl rfl rfl rfl rfl rfl rfl ⟨rfl, rfl, rfl, rfl, rfl⟩ rfl rfl rfl rfl rfl (by kernel_rfl) Try.func4 (by kernel_rfl)
    (of_decide_eq_true (by kernel_rfl)) (by unfold Func.isWrapper; first | (rw [if_pos (by decide +kernel)]; kernel_rfl) | (rw [if_neg (by decide +kernel)]; exact ⟨rfl, rfl⟩))
    (fun os started H enc _ F => by rw [OpenClaim.pre_eq_preRow]; exact lifted os started H enc F)

end Go.Proofs.Ytidmonmkpkbhjaa.lexerPlaces
