/-
  The walks of the reference's digits and Text.
-/
import Derived.Test.YthikonibmpngmaaDoorCRefDate
import Derived.Test.YthikonibmpngmaaDoorCTextW
namespace Go.Proofs.YthikonibmpngmaaDoor
open Go.RowKit

/-- The last k decimal digits. -/
def Cal.digs (n : Nat) : Nat → List UInt8
  | 0 => []
  | k + 1 => Cal.dig ((n / 10 ^ k : Nat) : Int) :: Cal.digs n k
theorem Cal.digs_length (n k : Nat) : (Cal.digs n k).length = k := by
  induction k with
  | zero => rfl
  | succ k ih => simp [Cal.digs, ih]
theorem Cal.digs_four (n : Nat) : Cal.digs n 4 = Cal.four n := by
  simp only [Cal.digs, Cal.four]
  simp
theorem Cal.digs_two (n : Nat) : Cal.digs n 2 = Cal.two n := by
  simp only [Cal.digs, Cal.two]
  simp

theorem ten_at (q : Nat) : ((⟨#[48, 49, 50, 51, 52, 53, 54, 55, 56, 57]⟩ : ByteArray).extract (q % 10) (q % 10 + 1)).data.toList = [Cal.dig (q : Int)] := by
  have h : ∀ r : Nat, r < 10 → ((⟨#[48, 49, 50, 51, 52, 53, 54, 55, 56, 57]⟩ : ByteArray).extract r (r + 1)).data.toList = [UInt8.ofNat (48 + r)] := by decide
  rw [h _ (Nat.mod_lt _ (by decide)), Cal.dig, show ((q : Int) % 10).toNat = q % 10 by omega]

set_option maxHeartbeats 1000000 in
set_option maxRecDepth 100000 in
theorem refdigits_walk (n : Nat) (hn : n ≤ 9999) (wd : Nat) (hw : wd ≤ 4) (w : World) : Calls Tryd.prog 44 #[.int .i64 n, .int .i64 wd] w fun e w' => (∃ s : ByteArray, e = .returned (.string s) ∧ Hid (s.data.toList = Cal.digs n wd)) ∧ w = w' := by
  go_enter Tryd.func44, Tryd.ntmps44
  go_wp2_with fail
  go_loop [0, 5, 6] (fun q s i => ∃ k : Nat, ∃ t : ByteArray, k ≤ wd ∧ i = .int .i64 k ∧ q = .int .i64 (n / 10 ^ k : Nat) ∧ s = .string t ∧ Hid (t.data.toList = Cal.digs n k)) (fun _ _ i => wd - (intOf i).toNat)
  case atStart => exact ⟨0, ⟨#[]⟩, Nat.zero_le _, rfl, by simp, rfl, rfl⟩
  case round =>
    obtain ⟨k, t, hk, rfl, rfl, rfl, ht⟩ := hrel
    have hz : t.size = k := by rw [Lib.size_eq, ht.out, Cal.digs_length]
    have hq : n / 10 ^ k ≤ 9999 := Nat.le_trans (Nat.div_le_self _ _) hn
    obtain ⟨q, hqq⟩ : ∃ q, q = n / 10 ^ k := ⟨_, rfl⟩
    rw [← hqq] at hq ⊢
    have HQ := Lib.hid hqq
    clear hqq
    by_cases hlt : k < wd
    · go_wp2
      have e10 : n / 10 ^ (k + 1) = q / 10 := by rw [HQ.out, Nat.pow_succ, Nat.div_div_eq_div_mul]
      go_round
      case rel =>
        refine ⟨k + 1, _, by omega, by go_num, by rw [e10]; go_num, rfl, ?_⟩
        show _ = _
        rw [Cal.digs, ← HQ.out, ← ht.out]
        have := ten_at q
        simp only [ByteArray.data_append, Array.toList_append, this, List.cons_append, List.nil_append]
      case measure => simp [intOf]; omega
    · obtain rfl : k = wd := by omega
      go_wp2
      go_ret
      exact ⟨⟨_, rfl, ht⟩, rfl⟩

set_option maxHeartbeats 1000000 in
set_option maxRecDepth 100000 in
theorem reftext_no (n : Int) (h : ¬ (0 ≤ n ∧ n ≤ 1000000)) (w : World) : Calls Tryd.prog 22 #[.int .i64 n] w (TextD (Cal.TextR n) w) := by
  have HC := Lib.hid (refdate_no n w h)
  have HN := Lib.hid h
  clear h
  go_enter Tryd.func22, Tryd.ntmps22
  go_wp2_with fail
  refine HC.out.mono ?_
  rintro e w' ⟨rfl, rfl⟩
  go_wp2
  go_ret
  exact ⟨_, rfl, .inr ⟨HN.out, rfl⟩, by decide, Below.refl _ _⟩

set_option maxHeartbeats 1000000 in
set_option maxRecDepth 100000 in
theorem reftext_ok (n : Int) (h0 : 0 ≤ n) (h1 : n ≤ 1000000) (w : World) : Calls Tryd.prog 22 #[.int .i64 n] w (TextD (Cal.TextR n) w) := by
  have HC := Lib.hid (refdate_ok n w h0 h1)
  have HN := Lib.hid (And.intro h0 h1)
  clear h0 h1
  go_enter Tryd.func22, Tryd.ntmps22
  go_wp2_with fail
  refine HC.out.mono ?_
  rintro e w' ⟨y, m, d, er, rfl, ⟨hd, rfl⟩, hb⟩
  have HB := Lib.hid hb
  clear hb
  have HD := Lib.hid hd
  obtain ⟨y1, y2, ⟨m1, m2, d1, d2⟩, _⟩ := hd
  have hl := Cal.len_bd y m
  obtain ⟨a, rfl⟩ := Int.eq_ofNat_of_zero_le (show 0 ≤ y by omega)
  obtain ⟨b, rfl⟩ := Int.eq_ofNat_of_zero_le (show 0 ≤ m by omega)
  obtain ⟨c, rfl⟩ := Int.eq_ofNat_of_zero_le (show 0 ≤ d by omega)
  go_wp2_with fail
  refine (refdigits_walk a (by omega) 4 (by decide) _).mono ?_
  rintro e w1 ⟨⟨s1, rfl, hs1⟩, rfl⟩
  have hz1 : s1.size ≤ 4 := by rw [Lib.size_eq, hs1.out, Cal.digs_length]; exact Nat.le_refl _
  go_wp2_with fail
  refine (refdigits_walk b (by omega) 2 (by decide) _).mono ?_
  rintro e w2 ⟨⟨s2, rfl, hs2⟩, rfl⟩
  have hz2 : s2.size ≤ 2 := by rw [Lib.size_eq, hs2.out, Cal.digs_length]; exact Nat.le_refl _
  go_wp2_with fail
  refine (refdigits_walk c (by omega) 2 (by decide) _).mono ?_
  rintro e w3 ⟨⟨s3, rfl, hs3⟩, rfl⟩
  have hz3 : s3.size ≤ 2 := by rw [Lib.size_eq, hs3.out, Cal.digs_length]; exact Nat.le_refl _
  go_wp2
  go_ret
  have ht : (s1 ++ ⟨#[45]⟩ ++ s2 ++ ⟨#[45]⟩ ++ s3 : ByteArray).data.toList = Cal.txt a b c := by
    simp [hs1.out, hs2.out, hs3.out, Cal.txt, Cal.digs_four, Cal.digs_two]
  exact ⟨_, rfl, .inl ⟨HN.out.1, HN.out.2, a, b, c, HD.out, ht⟩, by rw [Lib.size_eq, ht, Cal.txt_length]; exact Nat.le_refl _, HB.out⟩

theorem reftext_walk (n : Int) (w : World) : Calls Tryd.prog 22 #[.int .i64 n] w (TextD (Cal.TextR n) w) := by
  by_cases h : 0 ≤ n ∧ n ≤ 1000000
  · exact reftext_ok n h.1 h.2 w
  · exact reftext_no n h w
end Go.Proofs.YthikonibmpngmaaDoor
