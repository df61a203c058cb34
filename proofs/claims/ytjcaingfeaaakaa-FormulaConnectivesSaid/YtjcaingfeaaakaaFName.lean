/-
  The walk of fact.isName.
-/
import Derived.Test.YtjcaingfeaaakaaFBound
import Derived.Test.YtjcaingfeaaakaaLxBase
namespace Go.Proofs.Ytjcaingfeaaakaa
open Go.RowKit

namespace Fc
open Lx
/-- Whether a text is a name. -/
def isNm (s : T) : Bool := s.all isWord && decide (0 < s.length) && decide (s.length ≤ 24) && hd isLetter s
theorem isNm_iff (s : T) : isNm s = true ↔ Lx.Good 1 s 0 := by
  unfold isNm
  simp only [Bool.and_eq_true, decide_eq_true_eq]
  constructor
  · intro h
    refine good_name h.1.1.1 (fun e => by rw [e] at h; simp at h) h.1.2 (fun c r e => ?_)
    have := h.2
    rw [e] at this
    exact this
  · intro h
    obtain ⟨c, r, rfl, h1, h2, h3⟩ := (good1 s).1 h
    exact ⟨⟨⟨by rw [List.all_cons, letter_word h1, h2]; rfl, by simp⟩, h3⟩, h1⟩
theorem isNm_at (u : ByteArray) (h0 : 0 < u.size) (h24 : u.size ≤ 24) : isNm (tx u) = (isLetter u[0] && (tx u).all isWord) := by
  unfold isNm
  have := drop_at u 0 h0
  rw [List.drop_zero] at this
  rw [tx_len, decide_eq_true h0, decide_eq_true h24, Bool.and_true, Bool.and_true, Bool.and_comm]
  congr 1
  rw [this]; rfl
end Fc

set_option maxHeartbeats 4000000 in
set_option maxRecDepth 100000 in
theorem isname_walk (u : ByteArray) (hu : u.size ≤ 9223372036854775807) (w : World) :
    Calls Try.prog 46 #[.string u] w fun e w' => e = .returned (.bool (Fc.isNm (Lx.tx u))) ∧ w = w' := by
  obtain ⟨z, hz⟩ : ∃ z, z = Fc.isNm (Lx.tx u) := ⟨_, rfl⟩
  rw [← hz]
  by_cases h0 : u.size = 0
  · have hue : u = ⟨#[]⟩ := by
      apply ByteArray.ext
      exact Array.eq_empty_of_size_eq_zero h0
    subst hue
    have hzf : z = false := by rw [hz]; rfl
    subst hzf
    clear hz h0 hu
    go_enter Try.func46, Try.ntmps46
    go_wp2_with fail
    go_ret
    exact ⟨rfl, rfl⟩
  have hp : 0 < u.size := by omega
  have hne : u.toList.isEmpty = false := by
    rw [Lib.toList_data]
    cases h : u.data.toList with
    | nil => exact absurd (show u.data.toList.length = 0 by rw [h]; rfl) h0
    | cons c r => rfl
  by_cases h24 : u.size ≤ 24
  · have hzz := Fc.isNm_at u hp h24
    rw [← hz] at hzz
    clear hz
    cases hl : Lx.isLetter u[0] with
    | false =>
      rw [hl, Bool.false_and] at hzz
      subst hzz
      have HL := Lib.hid (isletter_walk u[0] w)
      rw [hl] at HL
      clear hl
      have h24' : ¬ (24 : Int) < (u.size : Int) := by omega
      go_enter Try.func46, Try.ntmps46
      go_wp2_with (first | (refine HL.out.mono ?_; rintro e w1 ⟨rfl, rfl⟩))
      go_ret
      exact ⟨rfl, rfl⟩
    | true =>
      rw [hl, Bool.true_and] at hzz
      have HL := Lib.hid (isletter_walk u[0] w)
      rw [hl] at HL
      clear hl
      have HZ := Lib.hid hzz
      clear hzz
      have h24' : ¬ (24 : Int) < (u.size : Int) := by omega
      have HALL : Hid (∀ k (hk : k < u.size), ((Lx.tx u).drop k).all Lx.isWord = (Lx.isWord u[k] && ((Lx.tx u).drop (k + 1)).all Lx.isWord)) := fun k hk => by
        rw [Lx.drop_at u k hk, List.all_cons]
      go_enter Try.func46, Try.ntmps46
      go_wp2_with (first | (refine HL.out.mono ?_; rintro e w1 ⟨rfl, rfl⟩))
      clear HL h24' hne
      go_loop [20] (fun i => ∃ k : Nat, k ≤ u.size ∧ i = .int .i64 k ∧ Hid ((Lx.tx u).all Lx.isWord = ((Lx.tx u).drop k).all Lx.isWord)) (fun i => u.size - (intOf i).toNat)
      case atStart => exact ⟨0, Nat.zero_le _, rfl, by show _ = _; rw [List.drop_zero]⟩
      case round =>
        obtain ⟨k, hk, rfl, hd⟩ := hrel
        by_cases hlt : k < u.size
        · have hki : (k : Int) < (u.size : Int) := by omega
          have HD : Hid (Lx.isWord u[k] = true → (Lx.tx u).all Lx.isWord = ((Lx.tx u).drop (k + 1)).all Lx.isWord) := fun h => by rw [hd.out, HALL.out k hlt, h, Bool.true_and]
          have HF : Hid (Lx.isWord u[k] = false → z = false) := fun h => by rw [HZ.out, hd.out, HALL.out k hlt, h, Bool.false_and]
          have HL := Lib.hid (isletter_walk u[k] w)
          have HW := Lib.hid (Lx.word_iff u[k])
          have HG := Lib.hid (Lx.digit_iff u[k])
          cases hl : Lx.isLetter u[k] with
          | true =>
            rw [hl] at HL
            have HD2 := Lib.hid (HD.out (HW.out.2 (.inl (.inl hl))))
            clear hl hd HD HF HW HG
            go_wp2_with (first | (refine HL.out.mono ?_; rintro e w1 ⟨rfl, rfl⟩))
            go_round
            case rel => exact ⟨k + 1, by omega, by go_num, HD2⟩
            case measure => simp [intOf]; omega
          | false =>
            rw [hl] at HL
            have HW2 : Hid (Lx.isWord u[k] = true ↔ (48 ≤ u[k].toNat ∧ u[k].toNat ≤ 57) ∨ u[k].toNat = 95) := by
              show _ ↔ _
              rw [HW.out, hl, HG.out]; simp
            clear hl hd HW HG
            go_wp2_with (first | (refine HL.out.mono ?_; rintro e w1 ⟨rfl, rfl⟩))
            all_goals first
              | (go_round
                 case rel => exact ⟨k + 1, by omega, by go_num, HD.out (HW2.out.2 (by simp at *; omega))⟩
                 case measure => simp [intOf]; omega)
              | (have hzf := HF.out (by
                   cases hw : Lx.isWord u[k] with
                   | false => rfl
                   | true => exfalso; have := HW2.out.1 hw; simp at *; omega)
                 subst hzf
                 go_ret
                 exact ⟨rfl, rfl⟩)
        · have hki : ¬ (k : Int) < (u.size : Int) := by omega
          have hzt : z = true := by rw [HZ.out, hd.out, Lx.drop_end u k (by omega)]; rfl
          subst hzt
          clear hd
          go_wp2_with fail
          go_ret
          exact ⟨rfl, rfl⟩
  · have hzf : z = false := by rw [hz]; unfold Fc.isNm; rw [Lx.tx_len, decide_eq_false h24]; simp
    subst hzf
    have h24' : (24 : Int) < (u.size : Int) := by omega
    clear hz h24
    go_enter Try.func46, Try.ntmps46
    go_wp2_with fail
    go_ret
    exact ⟨rfl, rfl⟩
end Go.Proofs.Ytjcaingfeaaakaa
