/-
  The walks of calendar.twoDigits, Text, number and Parse.
-/
import Derived.Test.YthikonibmpngmaaDoorCAdd2
import Derived.Test.YthikonibmpngmaaDoorCText
namespace Go.Proofs.YthikonibmpngmaaDoor
open Go.RowKit

theorem Cal.dec_four {y : Nat} (h : 1000 ≤ y ∧ y ≤ 9999) : Lib.decDigits y = Cal.four y := by
  rw [Lib.decDigits, dif_neg (by omega), Lib.decDigits, dif_neg (by omega), Lib.decDigits, dif_neg (by omega), Lib.decDigits, dif_pos (by omega)]
  simp only [Cal.four, Cal.dig, List.cons_append, List.nil_append, List.cons.injEq, and_true]
  refine ⟨?_, ?_, ?_, ?_⟩ <;> congr 1 <;> omega
theorem Cal.dec_two {y : Nat} (h : 10 ≤ y ∧ y ≤ 99) : Lib.decDigits y = Cal.two y := by
  rw [Lib.decDigits, dif_neg (by omega), Lib.decDigits, dif_pos (by omega)]
  simp only [Cal.two, Cal.dig, List.cons_append, List.nil_append, List.cons.injEq, and_true]
  refine ⟨?_, ?_⟩ <;> congr 1 <;> omega
theorem Cal.dec_one {y : Nat} (h : y < 10) : [(48 : UInt8)] ++ Lib.decDigits y = Cal.two y := by
  rw [Lib.decDigits, dif_pos h]
  simp only [Cal.two, Cal.dig, List.cons_append, List.nil_append, List.cons.injEq, and_true]
  refine ⟨?_, ?_⟩
  · rw [show ((y : Int) / 10 % 10).toNat = 0 by omega]; rfl
  · congr 1; omega

theorem take_snoc (s : ByteArray) (k : Nat) (h : k < s.size) : s.data.toList.take (k + 1) = s.data.toList.take k ++ [s[k]] := by
  rw [List.take_succ_eq_append_getElem (by simpa using h)]; rfl
/-- A text, behind some new memory. -/
def TextOut (l : List UInt8) (w : World) (e : Ending) (w' : World) : Prop := ∃ s : ByteArray, e = .returned (.string s) ∧ Hid (s.data.toList = l) ∧ Below w.heap.size w w'

set_option maxHeartbeats 1000000 in
set_option maxRecDepth 100000 in
theorem two_walk (n : Nat) (hn : n ≤ 99) (w : World) (ht : HasTab w) : Calls Tryd.prog 43 #[.int .i64 n] w (TextOut (Cal.two n) w) := by
  have HI := Lib.hid (itoa_walk n (by omega) w ht)
  clear ht
  obtain ⟨a, ha⟩ : ∃ a, a = str (Lib.decDigits n) := ⟨_, rfl⟩
  rw [← ha] at HI
  have HA := Lib.hid ha
  clear ha
  by_cases h : n < 10
  · have hz : a.size ≤ 2 := by rw [HA.out, str_size, Lib.decDigits_one h]; simp
    go_enter Tryd.func43, Tryd.ntmps43
    go_wp2_with fail
    refine HI.out.mono ?_
    rintro e w' ⟨rfl, hb⟩
    go_wp2
    go_ret
    refine ⟨_, rfl, ?_, hb⟩
    show _ = _
    rw [HA.out, ← Cal.dec_one h]
    simp
  · go_enter Tryd.func43, Tryd.ntmps43
    go_wp2_with fail
    refine HI.out.mono ?_
    rintro e w' ⟨rfl, hb⟩
    go_wp2
    go_ret
    refine ⟨_, rfl, ?_, hb⟩
    show _ = _
    rw [HA.out, ← Cal.dec_two (by omega)]

/-- The text of a day; the empty one of other numbers. -/
def Cal.TextR (n : Int) (l : List UInt8) : Prop := (0 ≤ n ∧ n ≤ 1000000 ∧ ∃ y m d, Cal.IsDate n y m d ∧ l = Cal.txt y m d) ∨ (¬ (0 ≤ n ∧ n ≤ 1000000) ∧ l = [])
theorem Cal.TextR.uniq {n : Int} {l l' : List UInt8} (h : Cal.TextR n l) (h' : Cal.TextR n l') : l = l' := by
  rcases h with ⟨h1, h2, y, m, d, h3, h4⟩ | ⟨h1, h2⟩ <;> rcases h' with ⟨g1, g2, y', m', d', g3, g4⟩ | ⟨g1, g2⟩
  · obtain ⟨rfl, rfl, rfl⟩ := h3.inj g3; rw [h4, g4]
  · exact absurd ⟨h1, h2⟩ g1
  · exact absurd ⟨g1, g2⟩ h1
  · rw [h2, g2]
def TextD (P : List UInt8 → Prop) (w : World) (e : Ending) (w' : World) : Prop := ∃ s : ByteArray, e = .returned (.string s) ∧ Hid (P s.data.toList) ∧ s.size ≤ 10 ∧ Below w.heap.size w w'

set_option maxHeartbeats 1000000 in
set_option maxRecDepth 100000 in
theorem text_no (n : Int) (h : ¬ (0 ≤ n ∧ n ≤ 1000000)) (w : World) : Calls Tryd.prog 21 #[.int .i64 n] w (TextD (Cal.TextR n) w) := by
  have HC := Lib.hid (date_no n w h)
  have HN := Lib.hid h
  clear h
  go_enter Tryd.func21, Tryd.ntmps21
  go_wp2_with fail
  refine HC.out.mono ?_
  rintro e w' ⟨rfl, rfl⟩
  go_wp2
  go_ret
  exact ⟨_, rfl, .inr ⟨HN.out, rfl⟩, by decide, Below.refl _ _⟩

set_option maxHeartbeats 1000000 in
set_option maxRecDepth 100000 in
theorem text_ok (n : Int) (h0 : 0 ≤ n) (h1 : n ≤ 1000000) (w : World) (ht : HasTab w) : Calls Tryd.prog 21 #[.int .i64 n] w (TextD (Cal.TextR n) w) := by
  have HC := Lib.hid (date_ok n w h0 h1 ht)
  have HT := Lib.hid ht
  have HN := Lib.hid (And.intro h0 h1)
  clear h0 h1 ht
  go_enter Tryd.func21, Tryd.ntmps21
  go_wp2_with fail
  refine HC.out.mono ?_
  rintro e w' ⟨y, m, d, er, rfl, ⟨hd, rfl⟩, rfl⟩
  have HD := Lib.hid hd
  obtain ⟨y1, y2, ⟨m1, m2, d1, d2⟩, _⟩ := hd
  have hl := Cal.len_bd y m
  obtain ⟨a, rfl⟩ := Int.eq_ofNat_of_zero_le (show 0 ≤ y by omega)
  obtain ⟨b, rfl⟩ := Int.eq_ofNat_of_zero_le (show 0 ≤ m by omega)
  obtain ⟨c, rfl⟩ := Int.eq_ofNat_of_zero_le (show 0 ≤ d by omega)
  go_wp2_with fail
  refine (itoa_walk a (by omega) w HT.out).mono ?_
  rintro e w1 ⟨rfl, hb1⟩
  obtain ⟨s1, hs1⟩ : ∃ s, s = str (Lib.decDigits a) := ⟨_, rfl⟩
  rw [← hs1]
  have HS1 := Lib.hid hs1
  have HB1 := Lib.hid hb1
  have hz1 : s1.size ≤ 4 := by rw [hs1, str_size, Cal.dec_four (by omega)]; exact Nat.le_refl _
  clear hs1 hb1
  go_wp2_with fail
  refine (two_walk b (by omega) w1 (HT.out.below HB1.out)).mono ?_
  rintro e w2 ⟨s2, rfl, hs2, hb2⟩
  have hz2 : s2.size ≤ 2 := by rw [Lib.size_eq, hs2.out]; exact Nat.le_refl _
  have HB2 := Lib.hid (HB1.out.trans (hb2.mono HB1.out.size))
  clear hb2
  go_wp2_with fail
  refine (two_walk c (by omega) w2 (HT.out.below HB2.out)).mono ?_
  rintro e w3 ⟨s3, rfl, hs3, hb3⟩
  have hz3 : s3.size ≤ 2 := by rw [Lib.size_eq, hs3.out]; exact Nat.le_refl _
  have HB3 := Lib.hid (HB2.out.trans (hb3.mono HB2.out.size))
  clear hb3
  go_wp2
  go_ret
  have e1 : s1.data.toList = Cal.four a := by rw [HS1.out, str_toList, Cal.dec_four (by omega)]
  have ht : (s1 ++ ⟨#[45]⟩ ++ s2 ++ ⟨#[45]⟩ ++ s3 : ByteArray).data.toList = Cal.txt a b c := by
    simp [e1, hs2.out, hs3.out, Cal.txt]
  exact ⟨_, rfl, .inl ⟨HN.out.1, HN.out.2, a, b, c, HD.out, ht⟩, by rw [Lib.size_eq, ht, Cal.txt_length]; exact Nat.le_refl _, HB3.out⟩

theorem text_walk (n : Int) (w : World) (ht : HasTab w) : Calls Tryd.prog 21 #[.int .i64 n] w (TextD (Cal.TextR n) w) := by
  by_cases h : 0 ≤ n ∧ n ≤ 1000000
  · exact text_ok n h.1 h.2 w ht
  · exact text_no n h w

set_option maxHeartbeats 1000000 in
set_option maxRecDepth 100000 in
theorem number_walk (s : ByteArray) (hs : s.size ≤ 4) (w : World) : Calls Tryd.prog 36 #[.string s] w fun e w' => e = .returned (.int .i64 (Cal.numb s.data.toList)) ∧ w = w' := by
  obtain ⟨n, hn⟩ : ∃ n, n = s.size := ⟨_, rfl⟩
  have HN := Lib.hid hn
  go_enter Tryd.func36, Tryd.ntmps36
  go_wp2
  go_loop [3, 7] (fun t i => ∃ k : Nat, k ≤ s.size ∧ i = .int .i64 k ∧ t = .int .i64 (Cal.numb (s.data.toList.take k))) (fun _ i => s.size - (intOf i).toNat)
  case atStart => exact ⟨0, Nat.zero_le _, rfl, rfl⟩
  case round =>
    obtain ⟨k, hk, rfl, rfl⟩ := hrel
    have hnb := Cal.numb_bd (s.data.toList.take k) (by rw [List.length_take, ← Lib.size_eq]; omega)
    obtain ⟨t, ht⟩ : ∃ t, t = Cal.numb (s.data.toList.take k) := ⟨_, rfl⟩
    rw [← ht] at hnb ⊢
    have HT := Lib.hid ht
    clear ht
    by_cases hlt : k < s.size
    · have hc := s[k].toNat_lt
      have HX := Lib.hid (show Cal.numb (s.data.toList.take (k + 1)) = 10 * t + Cal.low s[k] by
        rw [take_snoc s k hlt, HT.out]; simp [Cal.numb, List.foldl_append])
      go_wp2
      go_round
      case rel =>
        exact ⟨k + 1, by omega, by go_num, by rw [HX.out]; unfold Cal.low; congr 1; omega⟩
      case measure => simp [intOf]; omega
    · obtain rfl : k = s.size := by omega
      go_wp2
      go_ret
      exact ⟨by rw [HT.out, List.take_of_length_le (by rw [← Lib.size_eq]; exact Nat.le_refl _)]; rfl, rfl⟩
end Go.Proofs.YthikonibmpngmaaDoor
