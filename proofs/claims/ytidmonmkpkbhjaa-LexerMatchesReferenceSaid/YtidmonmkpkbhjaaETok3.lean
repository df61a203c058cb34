/-
  The walk of the program's token.
-/
import Derived.Test.YtidmonmkpkbhjaaETok2
namespace Go.Proofs.Ytidmonmkpkbhjaa
open Go.RowKit

namespace Lx
theorem tok_res_two {s : ByteArray} {i : Nat} (hi : i < s.size) (h1 : isLetter s[i] = false) (h2 : isDigit s[i] = false) (h3 : isTwo s[i] = true) (h4 : headEq ((tx s).drop (i + 1)) = true) :
    res (next s[i] ((tx s).drop (i + 1))) i = (⟨3, ((tx s).drop i).take 2, 0, i⟩, 0) ∧ i + 2 ≤ s.size := by
  unfold next
  rw [if_neg (by rw [h1]; decide), if_neg (by rw [h2]; decide), if_pos (by rw [h3, h4]; rfl)]
  have hn : i + 1 < s.size := by
    rcases Nat.lt_or_ge (i + 1) s.size with h | h
    · exact h
    · rw [drop_end s (i + 1) h] at h4; cases h4
  rw [drop_at s i hi, drop_at s (i + 1) hn] at *
  have h61 : s[i + 1] = 61 := by simpa [headEq] using h4
  rw [h61]
  exact ⟨rfl, by omega⟩
theorem tok_res_one {s : ByteArray} {i : Nat} (hi : i < s.size) (h1 : isLetter s[i] = false) (h2 : isDigit s[i] = false) (h3 : (isTwo s[i] && headEq ((tx s).drop (i + 1))) = false) (h4 : isOne s[i] = true) :
    res (next s[i] ((tx s).drop (i + 1))) i = (⟨3, ((tx s).drop i).take 1, 0, i⟩, 0) := by
  unfold next
  rw [if_neg (by rw [h1]; decide), if_neg (by rw [h2]; decide), if_neg (by rw [h3]; decide), if_pos h4, drop_at s i hi]
  rfl
theorem tok_res_err {c : UInt8} {r : T} {i : Nat} (h1 : isLetter c = false) (h2 : isDigit c = false) (h3 : (isTwo c && headEq r) = false) (h4 : isOne c = false) :
    res (next c r) i = (noTok i, 3) := by
  unfold next
  rw [if_neg (by rw [h1]; decide), if_neg (by rw [h2]; decide), if_neg (by rw [h3]; decide), if_neg (by rw [h4]; decide)]
  rfl
end Lx

set_option maxHeartbeats 4000000 in
set_option maxRecDepth 100000 in
theorem token_walk (B : Nat) (s : ByteArray) (hs : s.size < 9223372036854775807) (i : Nat) (hi : i < s.size) (w : World) (h : Lx.Src B s w) :
    Calls Try.prog 28 #[.pointer (some ⟨B, 0, none⟩), .int .i64 i] w (Lx.TokOut (Lx.res (Lx.next s[i] ((Lx.tx s).drop (i + 1))) i) w) := by
  have hB := h.lt
  have HS := Lib.hid h
  have ha : Below w.heap.size w (w.alloc tok0) := (Below.refl _ _).alloc (Nat.le_refl _) _
  have HK0 := Lib.hid (heap_alloc_new w tok0)
  have hsm := hi
  obtain ⟨c, hc⟩ : ∃ c, c = s[i] := ⟨_, rfl⟩
  obtain ⟨r, hr⟩ : ∃ r, r = (Lx.tx s).drop (i + 1) := ⟨_, rfl⟩
  have hdr : (Lx.tx s).drop i = c :: r := by rw [Lx.drop_at s i hi, ← hc, ← hr]
  have H1 := Lib.hid (fun h1 h2 h3 h4 => Lx.tok_res_two (s := s) (i := i) hi h1 h2 h3 h4)
  have H2 := Lib.hid (fun h1 h2 h3 h4 => Lx.tok_res_one (s := s) (i := i) hi h1 h2 h3 h4)
  rw [← hc, ← hr] at H1 H2 ⊢
  obtain ⟨R, hR⟩ : ∃ R, R = Lx.res (Lx.next c r) i := ⟨_, rfl⟩
  rw [← hR] at H1 H2 ⊢
  have HR := Lib.hid hR
  have HD := Lib.hid hdr
  have HRR := Lib.hid hr
  clear h hc hr hdr hR
  go_enter Try.func28, Try.ntmps28
  go_wp2_with fail
  refine (has_walk Lx.mask_letter B s (by omega) i (by omega) _ (HS.out.below ha hB)).mono ?_
  rintro e w2 ⟨rfl, hb2⟩
  have HB2 := Lib.hid (ha.trans (hb2.mono ha.size))
  have HK2 := Lib.hid ((hb2.block w.heap.size (by simp)).trans HK0.out)
  rw [HD.out]
  clear hb2 ha HK0
  cases q1 : Lx.isLetter c with
  | true =>
    rw [show Lx.hd Lx.isLetter (c :: r) = true from q1]
    have HE := Lib.hid (Lx.name_res HD.out q1)
    clear q1
    have hz := HB2.out.size
    go_wp2_with fail
    refine (name_walk B s hs i (by omega) w2 (HS.out.below HB2.out hB)).mono ?_
    rintro e w3 ⟨rfl, hb3⟩
    rw [← HE.out, ← HR.out]
    have HB3 := Lib.hid (HB2.out.trans (hb3.mono hz))
    have HK3 := Lib.hid ((hb3.block w.heap.size (Array.getElem?_eq_some_iff.1 HK2.out).1).trans HK2.out)
    obtain ⟨⟨g0, g1, g2, g3⟩, f0, f1, f2, f3⟩ := tok_facts HK3.out
    clear hb3
    go_wp2_with fail
    refine bodyPost_ret (tok_results rfl _ _ w.heap.size _ _ _ _ _ _ _ rfl rfl (tok_set HK3.out _ _ _ _)) rfl ?_
    exact ⟨rfl, tok_below HB3.out (Nat.le_refl _) _ _ _ _⟩
  | false =>
    rw [show Lx.hd Lx.isLetter (c :: r) = false from q1]
    have Q1 := Lib.hid q1
    clear q1
    have hz := HB2.out.size
    go_wp2_with fail
    refine (has_walk Lx.mask_digit B s (by omega) i (by omega) w2 (HS.out.below HB2.out hB)).mono ?_
    rintro e w3 ⟨rfl, hb3⟩
    have HB3 := Lib.hid (HB2.out.trans (hb3.mono hz))
    have HK3 := Lib.hid ((hb3.block w.heap.size (Array.getElem?_eq_some_iff.1 HK2.out).1).trans HK2.out)
    rw [HD.out]
    clear hb3 hz HB2 HK2
    have hz := HB3.out.size
    cases q2 : Lx.isDigit c with
    | true =>
      rw [show Lx.hd Lx.isDigit (c :: r) = true from q2]
      have HE := Lib.hid (Lx.num_res HD.out q2)
      clear q2
      go_wp2_with fail
      refine (number_walk B s hs i (by omega) w3 (HS.out.below HB3.out hB)).mono ?_
      rintro e w4 ⟨rfl, hb4⟩
      rw [← HE.out, ← HR.out]
      have HB4 := Lib.hid (HB3.out.trans (hb4.mono hz))
      have HK4 := Lib.hid ((hb4.block w.heap.size (Array.getElem?_eq_some_iff.1 HK3.out).1).trans HK3.out)
      obtain ⟨⟨g0, g1, g2, g3⟩, f0, f1, f2, f3⟩ := tok_facts HK4.out
      clear hb4
      go_wp2_with fail
      refine bodyPost_ret (tok_results rfl _ _ w.heap.size _ _ _ _ _ _ _ rfl rfl (tok_set HK4.out _ _ _ _)) rfl ?_
      exact ⟨rfl, tok_below HB4.out (Nat.le_refl _) _ _ _ _⟩
    | false =>
      rw [show Lx.hd Lx.isDigit (c :: r) = false from q2]
      have Q2 := Lib.hid q2
      clear q2
      have HT : Hid (∀ t : Bool, Lx.isTwo c = t → Lx.hd Lx.isTwo (c :: r) = t) := fun t ht => ht
      go_wp2_with fail
      refine (has_walk Lx.mask_two B s (by omega) i (by omega) w3 (HS.out.below HB3.out hB)).mono ?_
      rintro e w4 ⟨rfl, hb4⟩
      have HB4 := Lib.hid (HB3.out.trans (hb4.mono hz))
      have HK4 := Lib.hid ((hb4.block w.heap.size (Array.getElem?_eq_some_iff.1 HK3.out).1).trans HK3.out)
      rw [HD.out]
      clear hb4 hz HB3 HK3
      have hz := HB4.out.size
      have c1 := (HS.out.below HB4.out hB).text
      have hi1 : (i : Int) + 1 ≤ (s.size : Int) := by omega
      cases q3 : Lx.isTwo c with
      | true =>
        rw [HT.out _ q3]
        have Q3 := Lib.hid q3
        clear q3
        go_wp2_with fail
        have e1 : Lx.tx (s.extract (i + 1) s.size) = r := by
          rw [HRR.out, Lx.extract_str, Lx.tx_str, List.take_of_length_le (by rw [List.length_drop, Lx.tx_len]; exact Nat.le_refl _)]
        refine (prefix_walk _ _ e1 w4).mono ?_
        rintro e w5 ⟨rfl, rfl⟩
        clear e1
        cases q4 : Lx.headEq r with
        | true =>
          obtain ⟨hres, hle⟩ := H1.out Q1.out Q2.out Q3.out q4
          have HE := Lib.hid hres
          obtain ⟨⟨g0, g1, g2, g3⟩, f0, f1, f2, f3⟩ := tok_facts HK4.out
          clear q4 hres
          go_wp2_with fail
          refine bodyPost_ret (tok_results rfl _ _ w.heap.size _ _ _ _ (.int .i64 0) _ _ rfl rfl (tok_set HK4.out _ _ _ _)) rfl ?_
          refine ⟨?_, tok_below HB4.out (Nat.le_refl _) _ _ _ _⟩
          rw [HE.out, Lx.extract_str, show i + 2 - i = 2 by omega]; rfl
        | false =>
          have Q4 := Lib.hid q4
          clear q4
          go_wp2_with fail
          refine (has_walk Lx.mask_one B s (by omega) i (by omega) w4 (HS.out.below HB4.out hB)).mono ?_
          rintro e w6 ⟨rfl, hb6⟩
          have HB6 := Lib.hid (HB4.out.trans (hb6.mono hz))
          have HK6 := Lib.hid ((hb6.block w.heap.size (Array.getElem?_eq_some_iff.1 HK4.out).1).trans HK4.out)
          rw [HD.out]
          clear hb6
          have c1 := (HS.out.below HB6.out hB).text
          obtain ⟨⟨g0, g1, g2, g3⟩, f0, f1, f2, f3⟩ := tok_facts HK6.out
          cases q5 : Lx.isOne c with
          | true =>
            have hres := H2.out Q1.out Q2.out (by rw [Q4.out, Bool.and_false]) q5
            have HE := Lib.hid hres
            rw [show Lx.hd Lx.isOne (c :: r) = true from q5]
            clear q5 hres
            go_wp2_with fail
            refine bodyPost_ret (tok_results rfl _ _ w.heap.size _ _ _ _ (.int .i64 0) _ _ rfl rfl (tok_set HK6.out _ _ _ _)) rfl ?_
            refine ⟨?_, tok_below HB6.out (Nat.le_refl _) _ _ _ _⟩
            rw [HE.out, Lx.extract_str, show i + 1 - i = 1 by omega]; rfl
          | false =>
            have HE := Lib.hid (HR.out.trans (Lx.tok_res_err Q1.out Q2.out (by rw [Q4.out, Bool.and_false]) q5))
            rw [show Lx.hd Lx.isOne (c :: r) = false from q5]
            clear q5
            go_wp2_with fail
            refine bodyPost_ret (tok_results rfl _ _ w.heap.size _ _ _ _ (.int .i64 3) _ _ rfl rfl (tok_set HK6.out _ _ _ _)) rfl ?_
            exact ⟨by rw [HE.out]; rfl, tok_below HB6.out (Nat.le_refl _) _ _ _ _⟩
      | false =>
        rw [HT.out _ q3]
        have Q3 := Lib.hid q3
        clear q3
        go_wp2_with fail
        refine (has_walk Lx.mask_one B s (by omega) i (by omega) w4 (HS.out.below HB4.out hB)).mono ?_
        rintro e w6 ⟨rfl, hb6⟩
        have HB6 := Lib.hid (HB4.out.trans (hb6.mono hz))
        have HK6 := Lib.hid ((hb6.block w.heap.size (Array.getElem?_eq_some_iff.1 HK4.out).1).trans HK4.out)
        rw [HD.out]
        clear hb6
        have c1 := (HS.out.below HB6.out hB).text
        obtain ⟨⟨g0, g1, g2, g3⟩, f0, f1, f2, f3⟩ := tok_facts HK6.out
        cases q5 : Lx.isOne c with
        | true =>
          have hres := H2.out Q1.out Q2.out (by rw [Q3.out, Bool.false_and]) q5
          have HE := Lib.hid hres
          rw [show Lx.hd Lx.isOne (c :: r) = true from q5]
          clear q5 hres
          go_wp2_with fail
          refine bodyPost_ret (tok_results rfl _ _ w.heap.size _ _ _ _ (.int .i64 0) _ _ rfl rfl (tok_set HK6.out _ _ _ _)) rfl ?_
          refine ⟨?_, tok_below HB6.out (Nat.le_refl _) _ _ _ _⟩
          rw [HE.out, Lx.extract_str, show i + 1 - i = 1 by omega]; rfl
        | false =>
          have HE := Lib.hid (HR.out.trans (Lx.tok_res_err Q1.out Q2.out (by rw [Q3.out, Bool.false_and]) q5))
          rw [show Lx.hd Lx.isOne (c :: r) = false from q5]
          clear q5
          go_wp2_with fail
          refine bodyPost_ret (tok_results rfl _ _ w.heap.size _ _ _ _ (.int .i64 3) _ _ rfl rfl (tok_set HK6.out _ _ _ _)) rfl ?_
          exact ⟨by rw [HE.out]; rfl, tok_below HB6.out (Nat.le_refl _) _ _ _ _⟩
end Go.Proofs.Ytidmonmkpkbhjaa
