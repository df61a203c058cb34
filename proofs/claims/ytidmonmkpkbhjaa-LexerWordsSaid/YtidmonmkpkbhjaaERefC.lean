/-
  The walks of the reference's Name and Decimal.
-/
import Derived.Test.YtidmonmkpkbhjaaETok2
namespace Go.Proofs.Ytidmonmkpkbhjaa
open Go.RowKit

namespace Lx
/-- Whether a text is a name. -/
def nameOk (s : T) : Bool := s.all isWord && decide (0 < s.length) && decide (s.length ≤ 24) && hd isLetter s
theorem nameOk_good {s : T} (h : nameOk s = true) : Good 1 s 0 := by
  unfold nameOk at h
  simp only [Bool.and_eq_true, decide_eq_true_eq] at h
  refine good_name h.1.1.1 (fun e => by rw [e] at h; simp at h) h.1.2 (fun c r e => ?_)
  have := h.2
  rw [e] at this
  exact this
end Lx

set_option maxHeartbeats 4000000 in
set_option maxRecDepth 100000 in
theorem refname_walk (u : ByteArray) (hu : u.size ≤ 9223372036854775807) (w : World) :
    Calls Try.prog 18 #[.string u] w fun e w' => e = .returned (.bool (Lx.nameOk (Lx.tx u))) ∧ w = w' := by
  obtain ⟨z, hz⟩ : ∃ z, z = Lx.nameOk (Lx.tx u) := ⟨_, rfl⟩
  rw [← hz]
  have HZ := Lib.hid hz
  have HALL : Hid (∀ k (hk : k < u.size), ((Lx.tx u).drop k).all Lx.isWord = (Lx.isWord u[k] && ((Lx.tx u).drop (k + 1)).all Lx.isWord)) := fun k hk => by
    rw [Lx.drop_at u k hk, List.all_cons]
  clear hz
  go_enter Try.func18, Try.ntmps18
  go_wp2_with fail
  go_loop [3] (fun i => ∃ k : Nat, k ≤ u.size ∧ i = .int .i64 k ∧ Hid ((Lx.tx u).all Lx.isWord = ((Lx.tx u).drop k).all Lx.isWord)) (fun i => u.size - (intOf i).toNat)
  case atStart => exact ⟨0, Nat.zero_le _, rfl, by show _ = _; rw [List.drop_zero]⟩
  case round =>
    obtain ⟨k, hk, rfl, hd⟩ := hrel
    by_cases hlt : k < u.size
    · have hki : (k : Int) < (u.size : Int) := by omega
      cases hq : Lx.isWord u[k] with
      | true =>
        have HW := Lib.hid (refword_walk u[k] w)
        rw [hq] at HW
        have HD : Hid ((Lx.tx u).all Lx.isWord = ((Lx.tx u).drop (k + 1)).all Lx.isWord) := by show _ = _; rw [hd.out, HALL.out k hlt, hq, Bool.true_and]
        clear hq hd
        go_wp2_with fail
        refine HW.out.mono ?_
        rintro e w2 ⟨rfl, hw⟩
        subst hw
        go_wp2_with fail
        go_round
        case rel => exact ⟨k + 1, by omega, by go_num, HD⟩
        case measure => simp [intOf]; omega
      | false =>
        have HW := Lib.hid (refword_walk u[k] w)
        rw [hq] at HW
        have hzf : z = false := by
          rw [HZ.out]; unfold Lx.nameOk
          rw [hd.out, HALL.out k hlt, hq]; rfl
        subst hzf
        clear hq hd
        go_wp2_with fail
        refine HW.out.mono ?_
        rintro e w2 ⟨rfl, hw⟩
        subst hw
        go_wp2_with fail
        go_ret
        exact ⟨rfl, rfl⟩
    · have hki : ¬ (k : Int) < (u.size : Int) := by omega
      have hall : (Lx.tx u).all Lx.isWord = true := by rw [hd.out, Lx.drop_end u k (by omega)]; rfl
      have HA := Lib.hid hall
      clear hd hall
      by_cases h0 : 0 < u.size
      · by_cases h24 : u.size ≤ 24
        · have hzl : z = Lx.isLetter u[0] := by
            rw [HZ.out]; unfold Lx.nameOk
            have := Lx.drop_at u 0 h0
            rw [List.drop_zero] at this
            rw [HA.out, Lx.tx_len, decide_eq_true h0, decide_eq_true h24, this]; rfl
          have HL := Lib.hid (refletter_walk u[0] w)
          rw [← hzl] at HL
          clear hzl
          have h0i : (0 : Int) < (u.size : Int) := by omega
          have h24i : (u.size : Int) ≤ 24 := by omega
          go_wp2_with fail
          refine HL.out.mono ?_
          rintro e w2 ⟨rfl, hw⟩
          subst hw
          go_wp2_with fail
          go_ret
          exact ⟨rfl, rfl⟩
        · have hzf : z = false := by
            rw [HZ.out]; unfold Lx.nameOk
            rw [Lx.tx_len, decide_eq_false h24]; simp
          subst hzf
          have h0i : (0 : Int) < (u.size : Int) := by omega
          have h24i : ¬ (u.size : Int) ≤ 24 := by omega
          go_wp2_with fail
          go_ret
          exact ⟨rfl, rfl⟩
      · have hzf : z = false := by
          rw [HZ.out]; unfold Lx.nameOk
          rw [Lx.tx_len, decide_eq_false h0]; simp
        subst hzf
        have h0i : ¬ (0 : Int) < (u.size : Int) := by omega
        go_wp2_with fail
        go_ret
        exact ⟨rfl, rfl⟩

namespace Lx
theorem digit_str (n : Nat) (h : n < 10) : (⟨#[48, 49, 50, 51, 52, 53, 54, 55, 56, 57]⟩ : ByteArray).extract n (n + 1) = str [UInt8.ofNat (48 + n)] := by
  have : n = 0 ∨ n = 1 ∨ n = 2 ∨ n = 3 ∨ n = 4 ∨ n = 5 ∨ n = 6 ∨ n = 7 ∨ n = 8 ∨ n = 9 := by omega
  rcases this with rfl | rfl | rfl | rfl | rfl | rfl | rfl | rfl | rfl | rfl <;> rfl
theorem str_app (a b : T) : str a ++ str b = str (a ++ b) := by
  apply ByteArray.ext
  simp [str, ByteArray.data_append]
theorem decF_digit (f n : Nat) (h : n < 10) : decF f n = [UInt8.ofNat (48 + n)] := by
  cases f with
  | zero => rfl
  | succ f => rw [decF, if_pos h]
end Lx

set_option maxHeartbeats 2000000 in
set_option maxRecDepth 100000 in
theorem refdec_small (n : Nat) (h : n < 10) (w : World) :
    Calls Try.prog 19 #[.int .i64 n] w fun e w' => e = .returned (.string (Lx.str [UInt8.ofNat (48 + n)])) ∧ w = w' := by
  have HS := Lib.hid (Lx.digit_str n h)
  have hi : (n : Int) < 10 := by omega
  go_enter Try.func19, Try.ntmps19
  go_wp2_with fail
  go_ret
  exact ⟨by rw [← HS.out]; rfl, rfl⟩
set_option maxHeartbeats 2000000 in
set_option maxRecDepth 100000 in
theorem refdec_walk : ∀ (f n : Nat), n < 10 ^ (f + 1) → n < 1000000000 → f < 9 → ∀ w : World,
    Calls Try.prog 19 #[.int .i64 n] w fun e w' => e = .returned (.string (Lx.str (Lx.decF f n))) ∧ w = w'
  | 0, n, h, _, _, w => by
    have h10 : n < 10 := by simpa using h
    rw [Lx.decF_digit 0 n h10]
    exact refdec_small n h10 w
  | f + 1, n, h, hn, hf, w => by
    by_cases h10 : n < 10
    · rw [Lx.decF_digit (f + 1) n h10]
      exact refdec_small n h10 w
    · have H1 := Lib.hid (refdec_walk f (n / 10) (by rw [Nat.pow_succ] at h; omega) (by omega) (by omega))
      have H2 := Lib.hid (refdec_small (n % 10) (Nat.mod_lt _ (by decide)))
      have hl1 : (Lx.decF f (n / 10)).length ≤ f + 1 := (Lx.decF_facts f (n / 10) (by rw [Nat.pow_succ] at h; omega)).2.1
      have HX : Hid (Lx.str (Lx.decF f (n / 10)) ++ Lx.str [UInt8.ofNat (48 + n % 10)] = Lx.str (Lx.decF (f + 1) n)) := by
        show _ = _
        rw [Lx.str_app, Lx.decF, if_neg h10]
      obtain ⟨a, ha⟩ : ∃ a, a = Lx.str (Lx.decF f (n / 10)) := ⟨_, rfl⟩
      obtain ⟨b, hb⟩ : ∃ b, b = Lx.str [UInt8.ofNat (48 + n % 10)] := ⟨_, rfl⟩
      obtain ⟨z, hz⟩ : ∃ z, z = Lx.str (Lx.decF (f + 1) n) := ⟨_, rfl⟩
      have has : a.size ≤ 9 := by rw [ha, Lx.str_size]; omega
      have hbs : b.size = 1 := by rw [hb, Lx.str_size]; rfl
      rw [← ha] at H1
      rw [← hb] at H2
      rw [← ha, ← hb, ← hz] at HX
      rw [← hz]
      have hi : ¬ (n : Int) < 10 := by omega
      clear ha hb hz hl1 h
      go_enter Try.func19, Try.ntmps19
      go_wp2_with fail
      refine (H1.out w).mono ?_
      rintro e w1 ⟨rfl, hw⟩
      subst hw
      go_wp2_with fail
      refine (H2.out w).mono ?_
      rintro e w1 ⟨rfl, hw⟩
      subst hw
      go_wp2_with fail
      go_ret
      exact ⟨by rw [← HX.out]; rfl, rfl⟩
end Go.Proofs.Ytidmonmkpkbhjaa
