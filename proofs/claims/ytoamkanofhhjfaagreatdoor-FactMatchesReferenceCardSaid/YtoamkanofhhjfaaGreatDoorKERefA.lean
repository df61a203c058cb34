import Derived.Test.YtoamkanofhhjfaaGreatDoorKELexEx
import Derived.Test.YtoamkanofhhjfaaGreatDoorKETok2
import Derived.Deep.QuietTactic
import Derived.BigQuiet
/-
  The walks of the reference's has, gap, Gaps, Name, Decimal, Same and Alike.
-/
namespace Go.Proofs.YtoamkanofhhjfaaGreatDoor
open Go.RowKit

namespace Lx
theorem drop_cons (s : ByteArray) (i : Nat) (h : i < s.size) : (tx s).drop i = s[i] :: (tx s).drop (i + 1) := drop_at s i h
end Lx

set_option maxHeartbeats 2000000 in
set_option maxRecDepth 100000 in
theorem refhas_walk (u : ByteArray) (hu : u.size ≤ 1000) (c : UInt8) (w : World) :
    Calls Tryz.prog 78 #[.string u, .int .u8 c.toNat] w fun e w' => e = .returned (.bool ((Lx.tx u).contains c)) ∧ w = w' := by
  obtain ⟨z, hz⟩ : ∃ z, z = (Lx.tx u).contains c := ⟨_, rfl⟩
  rw [← hz]
  have HZ := Lib.hid hz
  clear hz
  go_enter Tryz.func78, Tryz.ntmps78
  go_wp2_with fail
  go_loop [5] (fun i => ∃ k : Nat, k ≤ u.size ∧ i = .int .i64 k ∧ Hid (z = ((Lx.tx u).drop k).contains c)) (fun i => u.size - (intOf i).toNat)
  case atStart => exact ⟨0, Nat.zero_le _, rfl, by show _ = _; rw [HZ.out, List.drop_zero]⟩
  case round =>
    obtain ⟨k, hk, rfl, hz⟩ := hrel
    by_cases hlt : k < u.size
    · have hd := Lx.drop_at u k hlt
      by_cases hq : u[k] = c
      · have hzt : z = true := by rw [hz.out, hd, hq]; simp
        subst hzt
        have hqi : (((u[k].toNat : Nat) : Int) == (c.toNat : Nat)) = true := by rw [hq]; simp
        clear hz hd hq
        go_wp2_with fail
        go_ret
        exact ⟨rfl, rfl⟩
      · have hzn : Hid (z = ((Lx.tx u).drop (k + 1)).contains c) := by
          show _ = _
          rw [hz.out, hd, List.contains_cons, show (c == u[k]) = false by rw [beq_eq_false_iff_ne]; exact fun h => hq h.symm, Bool.false_or]
        have hqi : (((u[k].toNat : Nat) : Int) == (c.toNat : Nat)) = false := by
          rw [beq_eq_false_iff_ne]
          intro h
          exact hq (UInt8.toNat_inj.1 (by omega))
        clear hz hd hq
        go_wp2_with fail
        go_round
        case rel => exact ⟨k + 1, by omega, by go_num, hzn⟩
        case measure => simp [intOf]; omega
    · have hzf : z = false := by rw [hz.out, Lx.drop_end u k (by omega)]; rfl
      subst hzf
      clear hz
      go_wp2_with fail
      go_ret
      exact ⟨rfl, rfl⟩

namespace Lx
theorem has_blank (c : UInt8) : ([32, 9, 10] : T).contains c = isBlank c := by
  unfold isBlank; rw [Bool.eq_iff_iff]; simp [or_assoc]
theorem has_two (c : UInt8) : ([33, 60, 62] : T).contains c = isTwo c := by
  unfold isTwo; rw [Bool.eq_iff_iff]; simp [or_assoc]
theorem has_one (c : UInt8) : ([59, 44, 46, 58, 40, 41, 91, 93, 123, 125, 61, 60, 62] : T).contains c = isOne c := by
  unfold isOne; rw [Bool.eq_iff_iff]; simp [or_assoc]
/-- Where a comment ends. -/
theorem skip_true_nl {s : ByteArray} {i : Nat} (hi : i < s.size) (h : s[i] = 10) : skip true ((tx s).drop i) = skip false ((tx s).drop i) := by
  rw [drop_at s i hi, h, skip, if_pos rfl, skip, if_pos (by decide)]
theorem skip_true_no {s : ByteArray} {i : Nat} (hi : i < s.size) (h : s[i] ≠ 10) : skip true ((tx s).drop i) = skip true ((tx s).drop (i + 1)) := by
  rw [drop_at s i hi, skip, if_neg h]
end Lx

set_option maxHeartbeats 2000000 in
set_option maxRecDepth 100000 in
theorem refgap_walk (s : ByteArray) (hs : s.size < 9223372036854775807) (i : Nat) (hi : i ≤ s.size) (w : World) :
    Calls Tryz.prog 62 #[.string s, .int .i64 i] w fun e w' => e = .returned (.int .i64 ((Lx.gEnd s i : Nat) : Int)) ∧ w = w' := by
  obtain ⟨z, hz⟩ : ∃ z, z = Lx.gEnd s i := ⟨_, rfl⟩
  rw [← hz]
  have HZ := Lib.hid hz
  clear hz
  go_enter Tryz.func62, Tryz.ntmps62
  go_wp2_with fail
  go_loopw [1] (fun v wr => ∃ k : Nat, k ≤ s.size ∧ v = .int .i64 k ∧ Hid (z = Lx.gEnd s k) ∧ w = wr) (fun v _ => s.size - (intOf v).toNat)
  case atStart => exact ⟨i, hi, rfl, HZ, rfl⟩
  case round =>
    obtain ⟨k, hk, rfl, hz, rfl⟩ := hrel
    by_cases hlt : k < s.size
    · have HB := Lib.hid (refhas_walk ⟨#[32, 9, 10]⟩ (by decide) s[k] w)
      have hbl : (Lx.tx ⟨#[32, 9, 10]⟩).contains s[k] = Lx.isBlank s[k] := Lx.has_blank s[k]
      rw [hbl] at HB
      have hd := Lx.drop_at s k hlt
      cases hq : Lx.isBlank s[k] with
      | true =>
        rw [hq] at HB
        have HR : Hid (z = Lx.gEnd s (k + 1)) := by show _ = _; rw [hz.out, (Lx.gEnd_blank (by rw [hd]; exact hq)).2]
        clear hz hd hq hbl
        go_wp2_with fail
        refine HB.out.mono ?_
        rintro e w2 ⟨rfl, rfl⟩
        go_wp2_with fail
        go_roundw
        case rel => exact ⟨k + 1, by omega, by go_num, HR, trivial⟩
        case measure => simp [intOf]; omega
      | false =>
        rw [hq] at HB
        have HQ := Lib.hid hq
        clear hq hbl
        by_cases h35 : s[k] = 35
        · have h35i : (((s[k].toNat : Nat) : Int) == 35) = true := by rw [h35]; rfl
          have h10i : (((s[k].toNat : Nat) : Int) != 10) = true := by rw [h35]; rfl
          have hsk := (Lx.gEnd_hash (s := s) (i := k) (by rw [hd]; show (s[k] == 35) = true; rw [h35]; rfl)).2
          have hk1 : Lx.skip true ((Lx.tx s).drop (k + 1)) = Lx.skip true ((Lx.tx s).drop k) := (Lx.skip_true_no hlt (by rw [h35]; decide)).symm
          have HK : Hid (∀ j, j ≤ s.size → Lx.skip true ((Lx.tx s).drop j) = Lx.skip true ((Lx.tx s).drop k) → (∀ h : j < s.size, s[j] = 10) → z = Lx.gEnd s j) := by
            intro j hj h1 h2
            rw [hz.out]
            refine Lx.gEnd_same ?_
            rw [hsk, ← h1]
            rcases Nat.lt_or_ge j s.size with h | h
            · exact Lx.skip_true_nl h (h2 h)
            · rw [Lx.drop_end s j h]; rfl
          have HK1 := Lib.hid hk1
          have H10 : Hid (s[k] ≠ 10) := by show _ ≠ _; rw [h35]; decide
          clear hz hd hsk h35 hk1
          go_wp2_with fail
          refine HB.out.mono ?_
          rintro e w2 ⟨rfl, hw2⟩
          subst hw2
          go_wp2_with fail
          go_loopw [1] (fun v wx => ∃ j : Nat, k ≤ j ∧ j ≤ s.size ∧ v = .int .i64 j ∧ Hid (Lx.skip true ((Lx.tx s).drop j) = Lx.skip true ((Lx.tx s).drop k)) ∧ (j = k ∨ k < j) ∧ w = wx) (fun v _ => s.size - (intOf v).toNat)
          case atStart => exact ⟨k, Nat.le_refl _, hk, rfl, rfl, .inl rfl, rfl⟩
          case round =>
            obtain ⟨j, hkj, hj, rfl, hsj, hor, hw⟩ := hrel
            subst hw
            by_cases hjl : j < s.size
            · have hji : (j : Int) < (s.size : Int) := by omega
              by_cases h10 : s[j] = 10
              · have h10j : (((s[j].toNat : Nat) : Int) != 10) = false := by rw [h10]; rfl
                have hkj2 : k < j := by
                  rcases hor with rfl | h
                  · exact absurd h10 H10.out
                  · exact h
                have HR : Hid (z = Lx.gEnd s j) := HK.out j hj hsj.out (fun _ => h10)
                clear h10 hor hsj
                go_wp2_with fail
                go_roundw
                case rel => exact ⟨j, hj, rfl, HR, trivial⟩
                case measure => simp [intOf]; omega
              · have h10j : (((s[j].toNat : Nat) : Int) != 10) = true := by
                  rw [bne_iff_ne]
                  intro h
                  exact h10 (UInt8.toNat_inj.1 (by show s[j].toNat = 10; omega))
                have HS : Hid (Lx.skip true ((Lx.tx s).drop (j + 1)) = Lx.skip true ((Lx.tx s).drop k)) := by
                  show _ = _
                  rw [← Lx.skip_true_no hjl h10, hsj.out]
                clear h10 hor hsj
                go_wp2_with fail
                go_roundw
                case rel => exact ⟨j + 1, by omega, by omega, by go_num, HS, .inr (by omega), trivial⟩
                case measure => simp [intOf]; omega
            · have hji : ¬ (j : Int) < (s.size : Int) := by omega
              have HR : Hid (z = Lx.gEnd s j) := HK.out j hj hsj.out (fun h => absurd h hjl)
              clear hor hsj
              go_wp2_with fail
              go_roundw
              case rel => exact ⟨j, hj, rfl, HR, trivial⟩
              case measure => simp [intOf]; omega
        · have h35i : (((s[k].toNat : Nat) : Int) == 35) = false := by
            rw [beq_eq_false_iff_ne]
            intro h
            exact h35 (UInt8.toNat_inj.1 (by show s[k].toNat = 35; omega))
          have hke : z = k := by
            rw [hz.out]
            exact Lx.gEnd_stop hk (by rw [hd]; exact HQ.out) (by rw [hd]; show (s[k] == 35) = false; rw [beq_eq_false_iff_ne]; exact h35)
          clear hz hd h35
          subst hke
          go_wp2_with fail
          refine HB.out.mono ?_
          rintro e w2 ⟨rfl, hw2⟩
          subst hw2
          go_wp2_with fail
          go_ret
          exact ⟨rfl, rfl⟩
    · have hke : z = k := by
        rw [hz.out, show k = s.size by omega]
        unfold Lx.gEnd Lx.gapEnd
        rw [Lx.drop_end s s.size (Nat.le_refl _), Lx.skip, Lx.tx_len]; rfl
      clear hz
      subst hke
      go_wp2_with fail
      go_ret
      exact ⟨rfl, rfl⟩

namespace Lx
/-- Whether a text consists of gaps. -/
def gapsOk (s : T) : Bool := (skip false s).isEmpty
theorem gapsOk_iff (s : T) : gapsOk s = true ↔ gaps s := by unfold gapsOk gaps; rw [List.isEmpty_iff]
end Lx
end Go.Proofs.YtoamkanofhhjfaaGreatDoor
