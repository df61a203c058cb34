/-
  LexerLongest (P5.7): for every text without an error, the bytes of two tokens that follow each other directly are no single token together. No condition: the statement itself asks texts of at most 3000 bytes; for longer ones it says what the law's opening check answers.
-/
import Derived.Test.YtidmonmkpkbhjaaLFrameE
import Derived.Deep.RegionHeld3
import Derived.Deep.QuietTactic
import Derived.BigQuiet
import Derived.Laws.Strings
namespace Go.Proofs.Ytidmonmkpkbhjaa.lexerLongest
open Go.ChangeShapes Go.WideShapes Go.ChangeAt Go.RowKit
open Go.ChangeMaps (open_string shut_string)

theorem tx_two (a b : Lx.T) : Lx.tx (Lx.str a ++ Lx.str b) = a ++ b := by
  simp [Lx.tx, Lx.str, ByteArray.data_append]
theorem below_drewN3 {B : Nat} {a w : World} (h : Below B a w) (q : Nat) : Below B a (w.drewN q) := ⟨h.os, h.tape, h.output, h.size, h.block⟩
/-- Two neighbours, together. -/
theorem pair (s : Lx.T) (j : Nat) (y z : Lx.Tok) (hy : (Lx.lex s 0).1[j]? = some y) (hz : (Lx.lex s 0).1[j + 1]? = some z) (h : y.at_ + y.text.length = z.at_) :
    (Lx.full (y.text ++ z.text)).2.1 = 0 → (Lx.full (y.text ++ z.text)).1.length ≠ 1 := by
  obtain ⟨g1, g2, hs⟩ := Lx.places_adjacent j hy hz h
  have h1 := g1.small
  have h2 := g2.small
  rw [Lx.full_small (by rw [List.length_append]; omega)]
  have ht := Lx.lex_two g1 g2 hs 0
  cases hx : (Lx.lex (y.text ++ z.text) 0).2 with
  | none => intro _; exact ht hx
  | some x =>
    have := (Lx.lex_errAt _ (y.text ++ z.text) (Nat.le_refl _) 0 x hx).2.2
    intro h0
    simp only at h0
    omega

set_option maxHeartbeats 4000000 in
set_option maxRecDepth 100000 in
theorem law_walk (s : ByteArray) (w : World) (hm : s.size ≤ 9223372036854775807) :
    Calls Try.prog 9 #[.string s] w fun e w' => e = .returned (.bool true) ∧ Below w.heap.size w w' := by
  by_cases hl : (3000 : Int) < s.size
  · go_enter Try.func9, Try.ntmps9
    go_wp2_with fail
    refine (head_walk w).mono ?_
    rintro e w1 ⟨rfl, hb1⟩
    go_wp2_with fail
    go_ret
    exact ⟨rfl, hb1⟩
  have ht1 := Lx.tx_len s
  cases hx : (Lx.lex (Lx.tx s) 0).2 with
  | some x =>
    obtain ⟨E, a⟩ := x
    have H1 := Lib.hid (lex_of s hm [] (E : Int) (a : Int) E rfl (Lx.full_no (by omega) (Prod.ext rfl hx)))
    clear hx ht1
    go_enter Try.func9, Try.ntmps9
    go_wp2_with fail
    refine (head_walk w).mono ?_
    rintro e w1 ⟨rfl, hb1⟩
    go_wp2_with fail
    refine (H1.out w1).mono ?_
    rintro e w2 ⟨v, rfl, i1, hb2⟩
    obtain ⟨a1, c1, rfl⟩ := i1.form
    simp only [List.length_nil]
    have hb2 := hb1.trans (hb2.mono hb1.size)
    clear i1
    go_wp2_with fail
    go_loopw [7] (fun v wr => v = .int .i64 1 ∧ wr = w2) (fun _ _ => 0)
    case atStart => exact ⟨rfl, rfl⟩
    case round =>
      obtain ⟨rfl, rfl⟩ := hrel
      go_wp2_with fail
      go_ret
      exact ⟨rfl, hb2⟩
  | none =>
    obtain ⟨l, hA⟩ : ∃ l, l = (Lx.lex (Lx.tx s) 0).1 := ⟨_, rfl⟩
    have H1 := Lib.hid (lex_of s hm l 0 0 0 rfl (Lx.full_ok (by omega) (by rw [hA]; exact Prod.ext rfl hx)))
    have hP := Lib.hid (fun j y z => pair (Lx.tx s) j y z)
    have hG := Lib.hid ((Lx.lex_good _ (Lx.tx s) (Nat.le_refl _) 0).1)
    have hAt : Hid (∀ (j : Nat) (t : Lx.Tok), l[j]? = some t → t.at_ + t.text.length ≤ 3000) := by
      intro j t ht
      obtain ⟨p, q, e1, e2, _⟩ := Lx.lex_cut _ (Lx.tx s) (Nat.le_refl _) 0 j t (by rw [← hA]; exact ht)
      have := congrArg List.length e1
      rw [List.length_append] at this
      omega
    rw [← hA] at hP hG
    have hll : l.length ≤ 3000 := by rw [hA]; have := (Lx.lex_good _ (Lx.tx s) (Nat.le_refl _) 0).2; omega
    clear hx ht1 hA
    go_enter Try.func9, Try.ntmps9
    go_wp2_with fail
    refine (head_walk w).mono ?_
    rintro e w1 ⟨rfl, hb1⟩
    go_wp2_with fail
    refine (H1.out w1).mono ?_
    rintro e w2 ⟨v, rfl, i1, hb2⟩
    have hb2 := hb1.trans (hb2.mono hb1.size)
    by_cases hne : l = []
    · subst hne
      obtain ⟨a1, c1, rfl⟩ := i1.form
      simp only [List.length_nil]
      clear i1 hP hG hAt
      go_wp2_with fail
      go_loopw [7] (fun v wr => v = .int .i64 1 ∧ wr = w2) (fun _ _ => 0)
      case atStart => exact ⟨rfl, rfl⟩
      case round =>
        obtain ⟨rfl, rfl⟩ := hrel
        go_wp2_with fail
        go_ret
        exact ⟨rfl, hb2⟩
    · obtain ⟨g, c, rfl, hc1, hc2, hg, hcl⟩ := i1.some hne
      have HC := Lib.hid hcl
      have hn0 : 0 < l.length := List.length_pos_iff.2 hne
      obtain ⟨n, hn⟩ : ∃ n, n = l.length := ⟨_, rfl⟩
      rw [← hn] at hc1 hn0 hll ⊢
      have HN := Lib.hid hn
      clear hcl i1 hne hn
      go_wp2_with fail
      go_loopw [7] (fun v wr => ∃ j : Nat, j < n ∧ v = .int .i64 ((j : Int) + 1) ∧ Below w2.heap.size w2 wr) (fun v _ => n - (intOf v).toNat)
      case atStart => exact ⟨0, hn0, rfl, Below.refl _ _⟩
      case round =>
        obtain ⟨j, hj, rfl, hbw⟩ := hrel
        have hz2 := hbw.size
        by_cases hlt : j + 1 < n
        · have hj1 : j < l.length := by rw [← HN.out]; omega
          have hj2 : j + 1 < l.length := by rw [← HN.out]; omega
          obtain ⟨y, hy⟩ : ∃ y, y = l[j] := ⟨_, rfl⟩
          obtain ⟨z, hz⟩ : ∃ z, z = l[j + 1] := ⟨_, rfl⟩
          have gy : l[j]? = some y := by rw [hy]; exact List.getElem?_eq_getElem hj1
          have gz : l[j + 1]? = some z := by rw [hz]; exact List.getElem?_eq_getElem hj2
          have hp := hP.out j y z gy gz
          obtain ⟨_, p1, _, p3⟩ := HC.out j y gy
          obtain ⟨_, q1, _, q3⟩ := HC.out (j + 1) z gz
          have r1 := (hbw.cell (p := ⟨g, j * 4 + 1, none⟩) hg).trans p1
          have r3 := (hbw.cell (p := ⟨g, j * 4 + 3, none⟩) hg).trans p3
          have s1 := (hbw.cell (p := ⟨g, (j + 1) * 4 + 1, none⟩) hg).trans q1
          have s3 := (hbw.cell (p := ⟨g, (j + 1) * 4 + 3, none⟩) hg).trans q3
          have hay := hAt.out j y gy
          have haz := hAt.out (j + 1) z gz
          have hys : (Lx.str y.text).size = y.text.length := Lx.str_size _
          have hzs : (Lx.str z.text).size = z.text.length := Lx.str_size _
          have htt := tx_two y.text z.text
          have HL := Lib.hid (lex_ex (Lx.str y.text ++ Lx.str z.text) (by rw [ByteArray.size_append]; omega))
          rw [htt] at HL
          obtain ⟨F, hF⟩ : ∃ F, F = Lx.full (y.text ++ z.text) := ⟨_, rfl⟩
          rw [← hF] at HL hp
          obtain ⟨ys, hys2⟩ : ∃ ys, ys = Lx.str y.text := ⟨_, rfl⟩
          obtain ⟨zs, hzs2⟩ : ∃ zs, zs = Lx.str z.text := ⟨_, rfl⟩
          rw [← hys2] at r1 hys HL
          rw [← hzs2] at s1 hzs HL
          have h0j : (0 : Int) ≤ (j : Int) := by omega
          have hji : (j : Int) + 1 < (n : Int) := by omega
          have hjm : (j : Int) < (n : Int) := by omega
          have hgw : g < wr.heap.size := Nat.lt_of_lt_of_le hg hz2
          have hys1 : ys.size ≤ 3000 := by omega
          have hzs1 : zs.size ≤ 3000 := by omega
          have HP := Lib.hid hp
          clear hy hz gy gz p1 p3 q1 q3 htt hF hys2 hzs2 hj1 hj2 hp
          by_cases hadj : y.at_ + y.text.length = z.at_
          · have HP2 := Lib.hid (HP.out hadj)
            have hai : (((y.at_ : Nat) : Int) + (ys.size : Int) != (z.at_ : Int)) = false := by rw [bne_eq_false_iff_eq]; omega
            go_wp2_with fail
            go_quiet (fail)
            rename_i nq
            go_wp2_with fail
            obtain ⟨W, hW⟩ : ∃ W, W = wr.drewN nq := ⟨_, rfl⟩
            have hbW : Below w2.heap.size w2 W := by rw [hW]; exact below_drewN3 hbw _
            have hgW : g < W.heap.size := by rw [hW]; exact hgw
            have t1 : W.cell? ⟨g, j * 4 + 1, none⟩ = some (.string ys) := by rw [hW]; exact r1
            have t2 : W.cell? ⟨g, (j + 1) * 4 + 1, none⟩ = some (.string zs) := by rw [hW]; exact s1
            rw [← hW]
            have hS0 : W.drew.cell? ⟨g, j * 4 + 1, none⟩ = some (.string ys) ∧ W.drew.cell? ⟨g, (j + 1) * 4 + 1, none⟩ = some (.string zs) ∧ Below W.heap.size W W.drew := ⟨t1, t2, (Below.refl _ _).drew⟩
            have HKEEP : Hid (∀ A B : World, Below W.heap.size W A → Below A.heap.size A B → B.cell? ⟨g, j * 4 + 1, none⟩ = some (.string ys) ∧ B.cell? ⟨g, (j + 1) * 4 + 1, none⟩ = some (.string zs) ∧ Below W.heap.size W B) := fun A B h1 h2 =>
              have h3 := h1.trans (h2.mono h1.size)
              ⟨(h3.cell (p := ⟨g, j * 4 + 1, none⟩) hgW).trans t1, (h3.cell (p := ⟨g, (j + 1) * 4 + 1, none⟩) hgW).trans t2, h3⟩
            clear hW r1 r3 s1 s3 t1 t2 hbw hai hadj hz2 hgw
            have hw1 : IntKind.i64.wrap ((j : Int) + 1 - 1) = (j : Int) := by rw [IntKind.wrap_i64]; omega
            have hw2 : IntKind.i64.wrap (j : Int) = (j : Int) := by rw [IntKind.wrap_i64]; omega
            have hw3 : ((j : Int) + 1).toNat = j + 1 := by omega
            have hw4 : (0 : Int) ≤ (j : Int) + 1 := by omega
            have hw5 : ((n : Int) ≤ (j : Int)) = False := _root_.eq_false (by omega)
            have hw6 : ((n : Int) ≤ (j : Int) + 1) = False := _root_.eq_false (by omega)
            have hw7 : ((j : Int) + 1 < 0) = False := _root_.eq_false (by omega)
            have hw8 : (9223372036854775807 < y.text.length + z.text.length) = False := _root_.eq_false (by omega)
            go_region_held3 (fun w' => w'.cell? ⟨g, j * 4 + 1, none⟩ = some (.string ys) ∧ w'.cell? ⟨g, (j + 1) * 4 + 1, none⟩ = some (.string zs) ∧ Below W.heap.size W w') (first | exact hS0 | assumption)
              (first
                | (go_at_call 12; (with_reducible refine (HL.out _).mono ?_); rintro e w4 ⟨v4, rfl, i4, hb4⟩; have hS4 := HKEEP.out _ _ (Below.drew (Below.refl _ W)) hb4))
            have hb6 : Below w2.heap.size w2 w4 := hbW.trans (hS4.2.2.mono hbW.size)
            obtain ⟨a4, c4, rfl⟩ := i4.form
            obtain ⟨N, hN⟩ : ∃ N, N = F.1.length := ⟨_, rfl⟩
            obtain ⟨E, hE⟩ : ∃ E, E = F.2.1 := ⟨_, rfl⟩
            obtain ⟨G, hG2⟩ : ∃ G, G = F.2.2 := ⟨_, rfl⟩
            have hpp := HP2.out
            rw [← hN, ← hE] at hpp
            rw [← hN, ← hE, ← hG2]
            clear hN hE hG2 i4 hS4 hb4 hS0 HKEEP HL HP HP2
            by_cases hE0 : E = 0
            · have hEi : (((E : Nat) : Int) == 0) = true := by rw [beq_iff_eq]; omega
              have hNi : (((N : Nat) : Int) == 1) = false := by rw [beq_eq_false_iff_ne]; have := hpp hE0; omega
              clear hpp hE0 hw1 hw2 hw3 hw4 hw5 hw6 hw7 hw8
              go_wp2_with fail
              go_roundw
              case rel => exact ⟨j + 1, by omega, by go_num, hb6⟩
              case measure => simp [intOf]; omega
            · have hEi : (((E : Nat) : Int) == 0) = false := by rw [beq_eq_false_iff_ne]; omega
              clear hpp hE0 hw1 hw2 hw3 hw4 hw5 hw6 hw7 hw8
              go_wp2_with fail
              go_roundw
              case rel => exact ⟨j + 1, by omega, by go_num, hb6⟩
              case measure => simp [intOf]; omega
          · have hai : (((y.at_ : Nat) : Int) + (ys.size : Int) != (z.at_ : Int)) = true := by rw [bne_iff_ne]; omega
            go_wp2_with fail
            go_quiet (fail)
            go_wp2_with fail
            go_roundw
            case rel => exact ⟨j + 1, by omega, by go_num, below_drewN3 hbw _⟩
            case measure => simp [intOf]; omega
        · have hji : ¬ (j : Int) + 1 < (n : Int) := by omega
          go_wp2_with fail
          go_ret
          exact ⟨rfl, hb2.trans (hbw.mono hb2.size)⟩

set_option maxRecDepth 100000 in
/-- What the walk gives, for all arguments and every world that holds the tables. -/
theorem contract (H : Type) (enc : TypeId × Value → H) (W : World) (base : Nat) (args : Array Value) (ds gs : List (DataW H)) (before : List MemPlace)
    (hval : ∀ (j : Nat) t v, Try.f9.params[j]? = some t → args[j]? = some v → Value.okWide Try.prog W .any base t v)
    (hW : DataW.Whole enc Try.prog Try.f9.params.toList Rows.lexerLongestSpec.vars false W args.toList ds gs before) :
    Calls Try.prog 9 args W fun e W' => ∃ v, e = .returned v ∧ Rows.lexerLongestSpec.post enc Try.prog Try.f9 false true false false W args v W' := by
  have hW' := hW
  obtain ⟨p, q, hA0, hV, rfl, hfz, hnd⟩ := hW
  have hA : DataW.TrodAll enc Try.prog W 0 (fun _ => true) true Try.f9.params.toList args.toList ds p := hA0
  rw [Try.params9] at hA hval
  obtain ⟨v0, vs0, d0, ds0, p0, q0, hargs, rfl, rfl, h0, r0⟩ := trodAll_cons hA
  obtain ⟨rfl, rfl, rfl⟩ := trodAll_nil r0
  obtain rfl : args = #[v0] := by cases args; simp_all
  obtain ⟨rfl, rfl⟩ := trodVars_none hV
  obtain ⟨a0, rfl, _, _, g0⟩ := open_string Try.underlying9 (hval 0 9 v0 rfl rfl) h0
  refine (law_walk a0 W (le_of_max g0)).mono fun e W' ⟨he, hg⟩ => ?_
  subst he
  exact ⟨_, rfl, post_law rfl rfl rfl rfl rfl (by rw [Try.params9]; decide) hW' hg⟩

theorem laid_met (os : Os) : laidMet Try.prog Rows.lexerLongestRow.laid ((laidWorld os).forCall (fun _ _ => 0) ⟨#[], #[.string ⟨#[]⟩], []⟩).memory :=
  laidMet_of_run' 8 (by kernel_rfl) (by kernel_rfl)
theorem reads (os : Os) {H : Type} (enc : TypeId × Value → H) : ∃ places, DataW.whole enc Try.prog ((laidWorld os).forCall (fun _ _ => 0) ⟨#[], #[.string ⟨#[]⟩], []⟩).memory Try.f9.params.toList Rows.lexerLongestSpec.vars false #[Value.string ⟨#[]⟩].toList 8 = some ([.lit (.string [])], [], places) :=
  ⟨[], by kernel_rfl⟩

set_option maxRecDepth 100000 in
theorem lifted (os : Os) (started : os.Started) (H : Type) (enc : TypeId × Value → H) (F : Stop.Interp) :
    ReturnsInHanded {} Try.checked os 9 .any ((OpenSpec.ofChange Rows.lexerLongestSpec).preRow enc Try.prog Try.f9 Rows.lexerLongestRow.domain false Rows.lexerLongestRow.laid) (((OpenSpec.ofChange Rows.lexerLongestSpec).at F).post enc Try.prog Try.f9 false true false false) := by
  obtain ⟨places, hx⟩ := reads os enc
  refine returnsInHanded_of_row (C := Try.checked) (s := OpenSpec.ofChange Rows.lexerLongestSpec) own started (by kernel_rfl) Try.func9
    (witness_row_at (enc := enc) (C := Try.checked) false (laidWorld os) #[.string ⟨#[]⟩] rfl (by kernel_rfl) (by kernel_rfl) (by kernel_rfl)
      (OpenSpec.preRow_of_cond 8 hx (by kernel_rfl) (fun k hk => by cases hk) (by kernel_rfl) (laid_met os))) ?_
  intro W base args ds gs before hval hW _ _ _ hL _ _
  exact contract H enc W base args ds gs before hval hW

theorem said : Rows.LexerLongestSaid :=
  OpenClaim.holds_of_cond 9 Try.f9 rfl rfl rfl rfl rfl rfl rfl ⟨rfl, rfl, rfl, rfl, rfl⟩ rfl rfl rfl rfl rfl (by kernel_rfl) Try.func9 (by kernel_rfl)
    (of_decide_eq_true (by kernel_rfl)) (by unfold Func.isWrapper; first | (rw [if_pos (by decide +kernel)]; kernel_rfl) | (rw [if_neg (by decide +kernel)]; exact ⟨rfl, rfl⟩))
    (fun os started H enc _ F => by rw [OpenClaim.pre_eq_preRow]; exact lifted os started H enc F)

end Go.Proofs.Ytidmonmkpkbhjaa.lexerLongest
