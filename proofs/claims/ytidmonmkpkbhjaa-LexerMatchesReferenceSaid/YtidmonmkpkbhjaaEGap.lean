/-
  The walks of strings.IndexByte for a line feed, and of the program's gapEnd.
-/
import Derived.Test.YtidmonmkpkbhjaaESrc
import Derived.WalkMore
namespace Go.Proofs.Ytidmonmkpkbhjaa
open Go.RowKit

set_option maxHeartbeats 1000000 in
set_option maxRecDepth 100000 in
theorem liteindex_walk (s : ByteArray) (c : Int) (w : World) :
    Calls Try.prog 37 #[.string s, .int .u8 c] w fun e w' => e = .returned (.int .i64 (Lib.indexByte s.data.toList c.toNat.toUInt8)) ∧ w' = w := by
  go_enter Try.func37, Try.ntmps37
  go_wp2
  rw [run_callFunc_extern Try.func41 (by kernel_rfl) (by kernel_rfl) (by kernel_rfl) (e := Extern.BytealgIndexByte.indexByte) (by kernel_rfl), Lib.run_indexByteString]
  simp only [Result.andThen]
  rw [Oper.upon_value]
  go_wp2
  go_ret
  exact ⟨rfl, rfl⟩

namespace Lx
/-- How far the next line feed is, if there is one. -/
def feed : T → Option Nat
  | [] => none
  | c :: r => if c = 10 then some 0 else (feed r).map (· + 1)
theorem index_feed : ∀ l : T, Lib.indexByte l 10 = match feed l with | some n => (n : Int) | none => -1
  | [] => rfl
  | c :: r => by
    rw [Lib.indexByte, feed]
    by_cases hc : c = 10
    · subst hc; rfl
    · rw [if_neg hc, if_neg (by simpa using hc), index_feed r]
      cases feed r with
      | none => rfl
      | some n =>
        have : ((n : Int) == -1) = false := by rw [beq_eq_false_iff_ne]; omega
        simp [this]
theorem feed_none : ∀ l : T, feed l = none → skip true l = []
  | [], _ => rfl
  | c :: r, h => by
    rw [feed] at h
    rw [skip]
    split at h
    · cases h
    · rename_i hc
      rw [if_neg hc]
      exact feed_none r (by simpa using h)
theorem feed_some : ∀ (l : T) (n : Nat), feed l = some n → n < l.length ∧ skip true l = skip false (l.drop n)
  | [], _, h => by cases h
  | c :: r, n, h => by
    rw [feed] at h
    rw [skip]
    split at h
    · rename_i hc
      have : n = 0 := by simpa using h.symm
      subst this
      subst hc
      refine ⟨by simp, ?_⟩
      rw [if_pos rfl, List.drop_zero, skip, if_pos (by decide)]
    · rename_i hc
      rw [if_neg hc]
      cases hr : feed r with
      | none => rw [hr] at h; cases h
      | some k =>
        rw [hr] at h
        have : n = k + 1 := by simpa using h.symm
        subst this
        obtain ⟨h1, h2⟩ := feed_some r k hr
        exact ⟨by simp; omega, by rw [h2]; rfl⟩
/-- Where the gaps end: over a text. -/
abbrev gEnd (s : ByteArray) (i : Nat) : Nat := gapEnd (tx s) i
theorem gEnd_same {s : ByteArray} {i j : Nat} (h : skip false ((tx s).drop i) = skip false ((tx s).drop j)) : gEnd s i = gEnd s j := by
  unfold gEnd gapEnd; rw [h]
theorem gEnd_blank {s : ByteArray} {i : Nat} (h : hd isBlank ((tx s).drop i) = true) : i < s.size ∧ gEnd s i = gEnd s (i + 1) := by
  have hi : i < s.size := by
    rcases Nat.lt_or_ge i s.size with hi | hi
    · exact hi
    · rw [drop_end s i hi] at h; cases h
  refine ⟨hi, gEnd_same ?_⟩
  rw [drop_at s i hi] at h ⊢
  rw [skip, if_pos (show isBlank s[i] = true from h)]
theorem gEnd_hash {s : ByteArray} {i : Nat} (h : hd (fun c => c == 35) ((tx s).drop i) = true) : i < s.size ∧ skip false ((tx s).drop i) = skip true ((tx s).drop i) := by
  have hi : i < s.size := by
    rcases Nat.lt_or_ge i s.size with hi | hi
    · exact hi
    · rw [drop_end s i hi] at h; cases h
  refine ⟨hi, ?_⟩
  rw [drop_at s i hi] at h ⊢
  have h35 : s[i] = 35 := by simpa [hd] using h
  rw [h35, show skip false (35 :: (tx s).drop (i + 1)) = skip true ((tx s).drop (i + 1)) from by rw [skip, if_neg (by decide), if_pos rfl], show skip true (35 :: (tx s).drop (i + 1)) = skip true ((tx s).drop (i + 1)) from by rw [skip, if_neg (by decide)]]
theorem gEnd_stop {s : ByteArray} {i : Nat} (hi : i ≤ s.size) (h1 : hd isBlank ((tx s).drop i) = false) (h2 : hd (fun c => c == 35) ((tx s).drop i) = false) : gEnd s i = i := by
  have e : skip false ((tx s).drop i) = (tx s).drop i := by
    cases hx : (tx s).drop i with
    | nil => rfl
    | cons c r =>
      rw [hx] at h1 h2
      refine skip_gap ?_ r
      unfold isGap
      rw [show isBlank c = false from h1, show (c == 35) = false from h2]; rfl
  unfold gEnd gapEnd
  rw [e, List.length_drop, tx_len]; omega
theorem gEnd_none {s : ByteArray} {i : Nat} (h : hd (fun c => c == 35) ((tx s).drop i) = true) (hf : feed ((tx s).drop i) = none) : gEnd s i = s.size := by
  have := (gEnd_hash h).2
  unfold gEnd gapEnd
  rw [this, feed_none _ hf, tx_len]; rfl
theorem gEnd_some {s : ByteArray} {i n : Nat} (h : hd (fun c => c == 35) ((tx s).drop i) = true) (hf : feed ((tx s).drop i) = some n) : i + n < s.size ∧ 0 < n ∧ gEnd s i = gEnd s (i + n) := by
  obtain ⟨hi, h2⟩ := gEnd_hash h
  obtain ⟨h3, h4⟩ := feed_some _ n hf
  rw [List.length_drop, tx_len] at h3
  refine ⟨by omega, ?_, gEnd_same ?_⟩
  · rcases Nat.eq_zero_or_pos n with rfl | hn
    · exfalso
      rw [drop_at s i hi] at h hf
      have h35 : s[i] = 35 := by simpa [hd] using h
      rw [h35, feed, if_neg (by decide)] at hf
      cases hx : feed ((tx s).drop (i + 1)) with
      | none => rw [hx] at hf; cases hf
      | some k => rw [hx] at hf; simp at hf
    · exact hn
  · rw [h2, h4, List.drop_drop]
end Lx

set_option maxHeartbeats 1000000 in
set_option maxRecDepth 100000 in
theorem indexbyte_walk (s : ByteArray) (l : Lx.T) (hl : Lx.tx s = l) (w : World) :
    Calls Try.prog 33 #[.string s, .int .u8 10] w fun e w' => (∃ n : Nat, Hid (Lx.feed l = some n) ∧ n < l.length ∧ e = .returned (.int .i64 n) ∧ w = w') ∨ (Hid (Lx.feed l = none) ∧ e = .returned (.int .i64 (-1)) ∧ w = w') := by
  have HL := Lib.hid hl
  clear hl
  go_enter Try.func33, Try.ntmps33
  go_wp2_with fail
  refine (liteindex_walk _ _ w).mono ?_
  rintro e w' ⟨rfl, hw⟩
  subst hw
  have e1 : ((10 : Int).toNat.toUInt8) = 10 := rfl
  rw [e1, show s.data.toList = l from HL.out, Lx.index_feed]
  cases hf : Lx.feed l with
  | none =>
    have HF := Lib.hid hf
    clear hf
    go_wp2_with fail
    go_ret
    exact .inr ⟨HF, rfl, rfl⟩
  | some n =>
    have hn := (Lx.feed_some l n hf).1
    have HF := Lib.hid hf
    clear hf
    go_wp2_with fail
    go_ret
    exact .inl ⟨n, HF, hn, rfl, rfl⟩

set_option maxHeartbeats 2000000 in
set_option maxRecDepth 100000 in
theorem gapend_walk (B : Nat) (s : ByteArray) (hs : s.size < 9223372036854775807) (i : Nat) (hi2 : i ≤ s.size) (w : World) (h : Lx.Src B s w) :
    Calls Try.prog 27 #[.pointer (some ⟨B, 0, none⟩), .int .i64 i] w fun e w' => e = .returned (.int .i64 ((Lx.gEnd s i : Nat) : Int)) ∧ Below w.heap.size w w' := by
  have hB := h.lt
  have HS := Lib.hid h
  obtain ⟨z, hz⟩ : ∃ z, z = Lx.gEnd s i := ⟨_, rfl⟩
  rw [← hz]
  have HZ := Lib.hid hz
  clear h hz
  go_enter Try.func27, Try.ntmps27
  go_wp2_with fail
  go_step3
  go_wp2_with fail
  go_step3
  go_wp2_with fail
  go_loopw [1] (fun v wr => ∃ k : Nat, k ≤ s.size ∧ v = .int .i64 k ∧ Hid (z = Lx.gEnd s k) ∧ Below w.heap.size w wr) (fun v _ => s.size - (intOf v).toNat)
  case atStart => exact ⟨i, hi2, rfl, HZ, Below.refl _ _⟩
  case round =>
    obtain ⟨k, hk, rfl, hz, hb⟩ := hrel
    have hbs := hb.size
    go_wp2_with fail
    refine (has_walk Lx.mask_blank B s (by omega) k (by omega) wr (HS.out.below hb hB)).mono ?_
    rintro e w2 ⟨rfl, hb2⟩
    have hb3 := hb.trans (hb2.mono hb.size)
    cases hq : Lx.hd Lx.isBlank ((Lx.tx s).drop k) with
    | true =>
      obtain ⟨hlt, hr⟩ := Lx.gEnd_blank hq
      have HR : Hid (z = Lx.gEnd s (k + 1)) := by show _ = _; rw [hz.out, hr]
      clear hq hr hz
      go_wp2_with fail
      go_roundw
      case rel => exact ⟨k + 1, by omega, by go_num, HR, hb3⟩
      case measure => simp [intOf]; omega
    | false =>
      have hbs3 := hb3.size
      have HQ := Lib.hid hq
      clear hq
      go_wp2_with fail
      refine (has_walk Lx.mask_hash B s (by omega) k (by omega) w2 (HS.out.below hb3 hB)).mono ?_
      rintro e w4 ⟨rfl, hb4⟩
      have hb5 := hb3.trans (hb4.mono hb3.size)
      cases hq2 : Lx.hd (fun c => c == 35) ((Lx.tx s).drop k) with
      | false =>
        have hr := Lx.gEnd_stop hk HQ.out hq2
        have hzk : z = k := by rw [hz.out, hr]
        clear hq2 hr hz
        subst hzk
        go_wp2_with fail
        try rw [Exit.noGoto_ret]
        go_ret
        exact ⟨rfl, hb5⟩
      | true =>
        have hlt := (Lx.gEnd_hash hq2).1
        have HQ2 := Lib.hid hq2
        have c1 := (HS.out.below hb5 hB).text
        clear hq2
        go_wp2_with fail
        have e1 : Lx.tx (s.extract k s.size) = (Lx.tx s).drop k := by
          rw [Lx.extract_str, Lx.tx_str, List.take_of_length_le (by rw [List.length_drop, Lx.tx_len]; exact Nat.le_refl _)]
        refine (indexbyte_walk _ _ e1 w4).mono ?_
        rintro e w6 (⟨n, hf, hn, rfl, rfl⟩ | ⟨hf, rfl, rfl⟩)
        · obtain ⟨h1, h2, h3⟩ := Lx.gEnd_some HQ2.out hf.out
          have HR : Hid (z = Lx.gEnd s (k + n)) := by show _ = _; rw [hz.out, h3]
          clear hf h3 hz e1 hn
          go_wp2_with fail
          go_roundw
          case rel => exact ⟨k + n, by omega, by go_num, HR, hb5⟩
          case measure => simp [intOf]; omega
        · have hr := Lx.gEnd_none HQ2.out hf.out
          have hzk : z = s.size := by rw [hz.out, hr]
          clear hr hz hf e1
          subst hzk
          go_wp2_with fail
          try rw [Exit.noGoto_ret]
          go_ret
          exact ⟨rfl, hb5⟩
end Go.Proofs.Ytidmonmkpkbhjaa
