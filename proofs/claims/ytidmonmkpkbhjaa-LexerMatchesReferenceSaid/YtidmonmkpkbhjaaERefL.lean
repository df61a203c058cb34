/-
  The walk of the reference's Lex.
-/
import Derived.Test.YtidmonmkpkbhjaaERefN
import Derived.Test.YtidmonmkpkbhjaaEFull
import Derived.Test.YtidmonmkpkbhjaaELexW
namespace Go.Proofs.Ytidmonmkpkbhjaa
open Go.RowKit

namespace Lx
/-- At a byte that is no gap: what the reference's next says, and what comes behind it. -/
theorem ref_next (s : ByteArray) (i : Nat) (hi : i < s.size) (hg : isGap s[i] = false) :
    (∃ e, refRes (next s[i] ((tx s).drop (i + 1))) i = (⟨0, [], 0, 0⟩, e) ∧ e ≠ 0 ∧ items ((tx s).drop i) i = [(noTok i, e)]) ∨
    (∃ t : Tok, refRes (next s[i] ((tx s).drop (i + 1))) i = (t, 0) ∧ t.at_ = i ∧ 0 < t.text.length ∧ i + t.text.length ≤ s.size ∧ items ((tx s).drop i) i = (t, 0) :: items ((tx s).drop (i + t.text.length)) (i + t.text.length)) := by
  rcases items_step s i hi hg with ⟨e, h1, h2, h3⟩ | ⟨t, h1, h2, h3, h4, h5⟩
  · exact .inl ⟨e, ref_err h1 h2, h2, h3⟩
  · refine .inr ⟨t, ?_, h2, h3, h4, h5⟩
    cases hn : next s[i] ((tx s).drop (i + 1)) with
    | tok k u n => rw [hn] at h1; exact h1
    | err e =>
      rw [hn] at h1
      have := congrArg (fun y => y.1.text.length) h1
      simp only [res, List.length_nil] at this
      omega
end Lx

set_option maxHeartbeats 4000000 in
set_option maxRecDepth 100000 in
theorem reflex_long (s : ByteArray) (hs : 20000 < s.size) (hm : s.size ≤ 9223372036854775807) (w : World) :
    Calls Try.prog 13 #[.string s] w (Lx.LexOut (Lx.full (Lx.tx s)) w) := by
  rw [Lx.full_long (by rw [Lx.tx_len]; exact hs)]
  have hsi : (20000 : Int) < (s.size : Int) := by omega
  go_enter Try.func13, Try.ntmps13
  go_wp2_with fail
  go_ret3
  exact ⟨_, rfl, Lx.OwnT.nil _ _, Below.refl _ _⟩

set_option maxHeartbeats 4000000 in
set_option maxRecDepth 100000 in
theorem reflex_short (s : ByteArray) (hs : s.size ≤ 20000) (w : World) :
    Calls Try.prog 13 #[.string s] w (Lx.LexOut (Lx.full (Lx.tx s)) w) := by
  have hsi : ¬ (20000 : Int) < (s.size : Int) := by omega
  obtain ⟨F, hF⟩ : ∃ F, F = Lx.full (Lx.tx s) := ⟨_, rfl⟩
  rw [← hF]
  have HF := Lib.hid hF
  have HG0 := Lib.hid (refgap_walk s (by omega) 0 (Nat.zero_le _) w)
  have hge := Lx.gEnd_le s 0 (Nat.zero_le _)
  have HI0 := Lib.hid (Lx.items_skip s 0 (Nat.zero_le _))
  have HH0 := Lib.hid (Lx.gEnd_head s 0 (Nat.zero_le _))
  obtain ⟨q0, hq0⟩ : ∃ q, q = Lx.gEnd s 0 := ⟨_, rfl⟩
  rw [← hq0] at HG0 hge HI0
  have HQ0 := Lib.hid hq0
  have hge := hge.2
  clear hF hq0
  go_enter Try.func13, Try.ntmps13
  go_wp2_with fail
  refine HG0.out.mono ?_
  rintro e w1 ⟨rfl, hw⟩
  subst hw
  go_wp2_with fail
  go_loopw [5, 6] (fun lv av wr => ∃ (pre : List (Lx.Tok × Nat)) (q : Nat), q ≤ s.size ∧ pre.length ≤ 5000 ∧ av = .int .i64 q ∧ Hid (∀ y ∈ pre, y.2 = 0) ∧ Hid (∀ h : q < s.size, Lx.isGap s[q] = false) ∧ Hid (Lx.items (Lx.tx s) 0 = pre ++ Lx.items ((Lx.tx s).drop q) q) ∧ Hid (Lx.OwnT w.heap.size (pre.map (·.1)) lv wr) ∧ Below w.heap.size w wr) (fun _ av _ => s.size - (intOf av).toNat)
  case atStart =>
    refine ⟨[], q0, hge, by simp, rfl, (by intro y hy; cases hy), ?_, ?_, Lx.OwnT.nil _ _, Below.refl _ _⟩
    · intro h
      have := HQ0.out
      subst this
      exact HH0.out h
    · show _ = _
      rw [List.nil_append, ← HI0.out, List.drop_zero]
  case round =>
    obtain ⟨pre, q, hq, h5, rfl, hp0, hgp, hit, hown, hbw⟩ := hrel
    by_cases hlt : q < s.size
    · have hqi : (q : Int) < (s.size : Int) := by omega
      have HN := Lib.hid (fun W => refnext_walk s (by omega) q hlt W)
      rcases Lx.ref_next s q hlt (hgp.out hlt) with ⟨e, h1, he, h2⟩ | ⟨t, h1, hta, ht0, htl, h2⟩
      · rw [h1] at HN
        have hFe : F = ([], e, (q : Int)) := HF.out.trans (Lx.full_err (by rw [Lx.tx_len]; exact hs) (rest := []) (by rw [List.append_nil, hit.out, h2]) (E := e) (A := q) ⟨pre, (Lx.noTok q, e), rfl, hp0.out, h5, .inl ⟨he, rfl⟩, rfl⟩)
        have hei : (((e : Nat) : Int) != 0) = true := by rw [bne_iff_ne]; omega
        have hz := hbw.size
        clear HF h1 h2 hit hgp hp0 he
        subst hFe
        go_wp2_with fail
        refine (HN.out _).mono ?_
        rintro e1 w2 ⟨rfl, hb2⟩
        go_wp2_with fail
        go_ret3
        exact ⟨_, rfl, Lx.OwnT.nil _ _, (hbw.trans (hb2.mono hz)).alloc (by have := hb2.size; omega) _⟩
      · rw [h1] at HN
        have HT := Lib.hid (And.intro hta (And.intro h2 hit.out))
        have hz := hbw.size
        have hno := hown.out.lt
        obtain ⟨⟨ga, gc⟩, hform⟩ := hown.out.form
        rw [List.length_map] at hform
        dsimp only at hform
        subst hform
        by_cases h50 : pre.length = 5000
        · have h50i : (((pre.length : Nat) : Int) == 5000) = true := by rw [beq_iff_eq]; omega
          have hFe : F = ([], 2, (q : Int)) := HF.out.trans (Lx.full_err (by rw [Lx.tx_len]; exact hs) (pre := pre ++ [(t, 0)]) (rest := Lx.items ((Lx.tx s).drop (q + t.text.length)) (q + t.text.length)) (by rw [hit.out, h2, List.append_assoc]; rfl) (E := 2) (A := q) ⟨pre, (t, 0), rfl, hp0.out, h5, .inr ⟨rfl, h50, rfl⟩, hta.symm⟩)
          clear HF h1 h2 hit hgp hp0 hta hno
          subst hFe
          go_wp2_with fail
          refine (HN.out _).mono ?_
          rintro e1 w2 ⟨rfl, hb2⟩
          go_wp2_with fail
          go_ret3
          exact ⟨_, rfl, Lx.OwnT.nil _ _, (hbw.trans (hb2.mono hz)).alloc (by have := hb2.size; omega) _⟩
        · have h50i : (((pre.length : Nat) : Int) == 5000) = false := by rw [beq_eq_false_iff_ne]; omega
          have hp5 : pre.length + 1 ≤ 5000 := by omega
          have HP := Lib.hid (And.intro hp0.out hown.out)
          obtain ⟨n, hn⟩ : ∃ n, n = t.text.length := ⟨_, rfl⟩
          have hqn : q + n ≤ s.size := by omega
          have hn0 : 0 < n := by omega
          have HGG := Lib.hid (fun W => refgap_walk s (by omega) (q + n) hqn W)
          have hgl := Lx.gEnd_le s (q + n) hqn
          have HI1 := Lib.hid (Lx.items_skip s (q + n) hqn)
          have HH1 := Lib.hid (Lx.gEnd_head s (q + n) hqn)
          obtain ⟨q1, hq1⟩ : ∃ z, z = Lx.gEnd s (q + n) := ⟨_, rfl⟩
          rw [← hq1] at hgl HI1
          have HQ1 := Lib.hid hq1
          obtain ⟨x, hx⟩ : ∃ x, x = Lx.str t.text := ⟨_, rfl⟩
          have hxs : x.size = n := by rw [hx, Lx.str_size, hn]
          have HX := Lib.hid hx
          have HNN := Lib.hid hn
          simp only [← hq1] at HGG
          rw [Int.natCast_add] at HGG
          clear h1 h2 hit hgp hp0 hta hown ht0 htl hn hq1 hx h5
          have hq1s := hgl.2
          have hq1q : q < q1 := by omega
          clear hgl
          go_wp2_with fail
          refine (HN.out _).mono ?_
          rintro e1 w2 ⟨rfl, hb2⟩
          unfold Lx.tokV
          rw [← HX.out]
          have hz2 := hb2.size
          have HB2 := Lib.hid hb2
          have HBW := Lib.hid hbw
          have HNO := Lib.hid hno
          clear hb2 hbw hno
          have hb0 := HBW.out.trans (HB2.out.mono hz)
          have HB0 := Lib.hid hb0
          have hz3 := hb0.size
          clear hb0
          go_wp2_with (at_builtin; refine wpList_append_tok _ rfl _ _ rfl w.heap.size (pre.map (·.1)) _ rfl (HP.out.2.below ((HB2.out.alloc HB2.out.size _).alloc (by simp; omega) _)) t (w2.heap.size + 1) (0, 0) 30 rfl (by rw [← HX.out]; have := heap_alloc_new (w2.alloc (.cells #[.int .i64 (t.kind : Nat), .string x, .int .i64 (t.n : Nat), .int .i64 (t.at_ : Nat)] 30)) (.cells #[.int .i64 (t.kind : Nat), .string x, .int .i64 (t.n : Nat), .int .i64 (t.at_ : Nat)] 30); simpa using this) (by rw [List.length_map]; omega) (by simp; omega) ?_)
          intro g c w6 h1 h2
          have hne : some w2.heap.size ≠ (Value.slice ga pre.length gc).ownBlock := fun e => by
            obtain ⟨_, cs, fr, hc⟩ := HNO.out _ e.symm
            have := (Array.getElem?_eq_some_iff.1 hc).1
            omega
          have k7 : w6.heap[w2.heap.size]? = some (.cells #[.int .i64 (t.kind : Nat), .string x, .int .i64 (t.n : Nat), .int .i64 (t.at_ : Nat)] 30 (0, 0)) :=
            (h2.block w2.heap.size (by simp; omega) hne).trans ((Below.heap_alloc (w2.alloc (.cells #[.int .i64 (t.kind : Nat), .string x, .int .i64 (t.n : Nat), .int .i64 (t.at_ : Nat)] 30)) _ _ (by simp)).trans (heap_alloc_new _ _))
          have c7 := Joins.cell_of_block k7 1
          have H1 := Lib.hid h1
          have H2 := Lib.hid h2
          clear k7 h1 h2 hne
          go_wp2_with fail
          refine (HGG.out w6).mono ?_
          rintro e1 w8 ⟨rfl, hw⟩
          subst hw
          go_wp2_with fail
          go_roundw
          case rel =>
            refine ⟨pre ++ [(t, 0)], q1, hq1s, by rw [List.length_append, List.length_singleton]; exact hp5, rfl, ?_, ?_, ?_, ?_, ?_⟩
            · intro y hy
              rcases List.mem_append.1 hy with hy | hy
              · exact HP.out.1 y hy
              · rw [List.mem_singleton] at hy; rw [hy]
            · intro h
              have := HQ1.out
              subst this
              exact HH1.out h
            · exact HT.out.2.2.trans (by rw [HT.out.2.1, ← HNN.out, HI1.out, List.append_assoc]; rfl)
            · show Lx.OwnT _ _ _ _
              rw [List.map_append]
              exact H1.out
            · exact ((HB0.out.alloc HB0.out.size _).alloc (by simp; omega) _).grown H2.out (by simp; omega) (fun k e => (HNO.out k e).1)
          case measure => simp [intOf]; omega
    · have hqi : ¬ (q : Int) < (s.size : Int) := by omega
      have hFe : F = (pre.map (·.1), 0, 0) := HF.out.trans (Lx.full_done (by rw [Lx.tx_len]; exact hs) (xs := pre) (by rw [hit.out, Lx.items_end s q (by omega), List.append_nil]) hp0.out h5)
      clear HF hit hgp hp0
      subst hFe
      have hz := hbw.size
      go_wp2_with fail
      go_ret3
      exact ⟨_, rfl, hown.out, hbw⟩

/-- The reference's Lex answers as the arithmetic says. -/
theorem reflex_walk (s : ByteArray) (hm : s.size ≤ 9223372036854775807) (w : World) :
    Calls Try.prog 13 #[.string s] w (Lx.LexOut (Lx.full (Lx.tx s)) w) := by
  by_cases h : s.size ≤ 20000
  · exact reflex_short s h w
  · exact reflex_long s (by omega) hm w
end Go.Proofs.Ytidmonmkpkbhjaa
