/-
  The reference of layer 7: what XMRefN, XMRefF, XMRefE, XMRefV and XMRefG hold, in one text (a claim has at most 60 files).
-/
import Derived.Test.YtjcaingfeaaakaaMRefA
import Derived.Test.YtjcaingfeaaakaaMWf
import Derived.Test.YtjcaingfeaaakaaMRefC
import Derived.Test.YtjcaingfeaaakaaMNode
import Derived.Test.YtjcaingfeaaakaaMFirst
import Derived.Deep.RegionHeld3
import Derived.Test.YtjcaingfeaaakaaMHas
import Derived.Test.YtjcaingfeaaakaaMRefB
import Derived.Test.YtjcaingfeaaakaaMHolds
/-
  The reference of layer 7: Name, formed.
-/
namespace Go.Proofs.Ytjcaingfeaaakaa
open Go.RowKit

set_option maxHeartbeats 4000000 in
set_option maxRecDepth 100000 in
theorem r7name_walk (x : Fm.T) (hx : x.length ≤ 9223372036854775807) (w : World) :
    Calls Try.prog 70 #[.string (Lx.str x)] w fun e w' => e = .returned (.bool (Fc.isNm x)) ∧ w = w' := by
  obtain ⟨u, hu⟩ : ∃ u, u = Lx.str x := ⟨_, rfl⟩
  have hxu : x = Lx.tx u := by rw [hu, Lx.tx_str]
  rw [← hu]
  have hus : u.size ≤ 9223372036854775807 := by rw [hu, Lx.str_size]; exact hx
  rw [hxu]
  clear hu hxu hx
  obtain ⟨z, hz⟩ : ∃ z, z = Fc.isNm (Lx.tx u) := ⟨_, rfl⟩
  rw [← hz]
  have HZ := Lib.hid hz
  have HALL : Hid (∀ k (hk : k < u.size), ((Lx.tx u).drop k).all Lx.isWord = (Lx.isWord u[k] && ((Lx.tx u).drop (k + 1)).all Lx.isWord)) := fun k hk => by
    rw [Lx.drop_at u k hk, List.all_cons]
  have HHD : Hid (∀ h : 0 < u.size, Lx.isLetter u[0] = false → z = false) := fun h hl => by
    rw [HZ.out]; unfold Fc.isNm
    have := Lx.drop_at u 0 h
    rw [List.drop_zero] at this
    rw [this]
    show (_ && Lx.isLetter u[0]) = false
    rw [hl, Bool.and_false]
  clear hz
  go_enter Try.func70, Try.ntmps70
  go_wp2_with fail
  go_loop [3] (fun i => ∃ k : Nat, k ≤ u.size ∧ i = .int .i64 k ∧ Hid ((Lx.tx u).all Lx.isWord = ((Lx.tx u).drop k).all Lx.isWord) ∧ Hid (0 < k → ∃ h : 0 < u.size, Lx.isLetter u[0] = true)) (fun i => u.size - (intOf i).toNat)
  case atStart => exact ⟨0, Nat.zero_le _, rfl, (by show _ = _; rw [List.drop_zero]), fun h => absurd h (by omega)⟩
  case round =>
    obtain ⟨k, hk, rfl, hd, hl0⟩ := hrel
    by_cases hlt : k < u.size
    · have hki : (k : Int) < (u.size : Int) := by omega
      obtain ⟨b, hb⟩ : ∃ b, b = u[k].toNat := ⟨_, rfl⟩
      have hb256 : b < 256 := by rw [hb]; exact u[k].toNat_lt
      have HL : Hid (Lx.isLetter u[k] = true ↔ (97 ≤ b ∧ b ≤ 122) ∨ (65 ≤ b ∧ b ≤ 90)) := by show _ ↔ _; rw [hb]; exact Lx.letter_iff _
      have HW : Hid (Lx.isWord u[k] = true ↔ ((97 ≤ b ∧ b ≤ 122) ∨ (65 ≤ b ∧ b ≤ 90)) ∨ (48 ≤ b ∧ b ≤ 57) ∨ b = 95) := by
        show _ ↔ _
        rw [Lx.word_iff, Lx.letter_iff, Lx.digit_iff, ← hb]; omega
      have HD : Hid (Lx.isWord u[k] = true → (Lx.tx u).all Lx.isWord = ((Lx.tx u).drop (k + 1)).all Lx.isWord) := fun h => by rw [hd.out, HALL.out k hlt, h, Bool.true_and]
      have HF : Hid (Lx.isWord u[k] = false → z = false) := fun h => by
        rw [HZ.out]; unfold Fc.isNm
        rw [hd.out, HALL.out k hlt, h]; rfl
      have HK0 : Hid (k = 0 → Lx.isLetter u[k] = false → z = false) := fun h0 h => by subst h0; exact HHD.out hlt h
      have HKL : Hid (Lx.isLetter u[k] = true → 0 < k + 1 → ∃ h : 0 < u.size, Lx.isLetter u[0] = true) := fun h _ => by
        by_cases h0 : k = 0
        · subst h0; exact ⟨hlt, h⟩
        · exact hl0.out (by omega)
      have HKN : Hid (0 < k → 0 < k + 1 → ∃ h : 0 < u.size, Lx.isLetter u[0] = true) := fun h _ => hl0.out h
      have HNL : Hid (¬ ((97 ≤ b ∧ b ≤ 122) ∨ (65 ≤ b ∧ b ≤ 90)) → Lx.isLetter u[k] = false) := fun h => by rw [Bool.eq_false_iff]; intro hh; exact h (HL.out.1 hh)
      have HNW : Hid (¬ (((97 ≤ b ∧ b ≤ 122) ∨ (65 ≤ b ∧ b ≤ 90)) ∨ (48 ≤ b ∧ b ≤ 57) ∨ b = 95) → Lx.isWord u[k] = false) := fun h => by rw [Bool.eq_false_iff]; intro hh; exact h (HW.out.1 hh)
      clear hd hl0 HALL HHD HZ
      by_cases c1 : 97 ≤ b ∧ b ≤ 122
      · have HD2 := Lib.hid (HD.out (HW.out.2 (.inl (.inl c1))))
        have HK2 := Lib.hid (HKL.out (HL.out.2 (.inl c1)))
        have e1 : (97 : Int) ≤ (b : Int) := by omega
        have e2 : (b : Int) ≤ 122 := by omega
        rw [hb] at e1 e2
        clear HL HW HD HF HK0 HKL HKN HNL HNW c1 hb
        go_wp2_with fail
        go_round
        case rel => exact ⟨k + 1, by omega, by go_num, HD2, HK2⟩
        case measure => simp [intOf]; omega
      by_cases c2 : 65 ≤ b ∧ b ≤ 90
      · have HD2 := Lib.hid (HD.out (HW.out.2 (.inl (.inr c2))))
        have HK2 := Lib.hid (HKL.out (HL.out.2 (.inr c2)))
        have e1 : ¬ (97 : Int) ≤ (b : Int) := by omega
        have e2 : (65 : Int) ≤ (b : Int) := by omega
        have e3 : (b : Int) ≤ 90 := by omega
        rw [hb] at e1 e2 e3
        clear HL HW HD HF HK0 HKL HKN HNL HNW c1 c2 hb
        go_wp2_with fail
        go_round
        case rel => exact ⟨k + 1, by omega, by go_num, HD2, HK2⟩
        case measure => simp [intOf]; omega
      · have hnl := HNL.out (by omega)
        by_cases hk0 : k = 0
        · have hzf := HK0.out hk0 hnl
          subst hzf
          subst hk0
          clear HL HW HD HF HK0 HKL HKN HNL HNW hnl
          rw [hb] at c1 c2
          clear hb
          go_wp2_with fail
          all_goals
            first
              | (go_ret
                 exact ⟨rfl, rfl⟩)
              | (exfalso; simp at *; try omega)
        · have hk0i : ¬ ((k : Nat) : Int) = 0 := by omega
          have HK2 := Lib.hid (HKN.out (by omega))
          by_cases c3 : (48 ≤ b ∧ b ≤ 57) ∨ b = 95
          · have HD2 := Lib.hid (HD.out (HW.out.2 (.inr c3)))
            clear HL HW HD HF HK0 HKL HKN HNL HNW hnl
            rw [hb] at c1 c2 c3
            clear hb
            go_wp2_with fail
            all_goals
              first
                | (go_round
                   case rel => exact ⟨k + 1, by omega, by go_num, HD2, HK2⟩
                   case measure => simp [intOf]; omega)
                | (exfalso; simp at *; try omega)
          · have hzf := HF.out (HNW.out (by omega))
            subst hzf
            clear HL HW HD HF HK0 HKL HKN HNL HNW hnl HK2
            rw [hb] at c1 c2 c3
            clear hb
            go_wp2_with fail
            all_goals
              first
                | (go_ret
                   exact ⟨rfl, rfl⟩)
                | (exfalso; simp at *; try omega)
    · have hki : ¬ (k : Int) < (u.size : Int) := by omega
      have hall : (Lx.tx u).all Lx.isWord = true := by rw [hd.out, Lx.drop_end u k (by omega)]; rfl
      have HA := Lib.hid hall
      clear hd hall
      by_cases h0 : 0 < u.size
      · have h0i : (0 : Int) < (u.size : Int) := by omega
        have hzz : z = decide ((u.size : Int) ≤ 24) := by
          rw [HZ.out]; unfold Fc.isNm
          obtain ⟨_, hl⟩ := hl0.out (by omega)
          have := Lx.drop_at u 0 h0
          rw [List.drop_zero] at this
          rw [HA.out, Lx.tx_len, decide_eq_true h0, this]
          show (_ && Lx.isLetter u[0]) = _
          rw [hl, Bool.and_true, Bool.true_and, Bool.true_and, Bool.eq_iff_iff, decide_eq_true_iff, decide_eq_true_iff]; omega
        have HZZ := Lib.hid hzz
        clear hzz hl0 HALL HHD HZ HA
        go_wp2_with fail
        go_ret
        refine ⟨Lx.ret_bool ?_, rfl⟩
        rw [HZZ.out]
        try (rw [Bool.eq_iff_iff]; simp)
      · have hzf : z = false := by
          rw [HZ.out]; unfold Fc.isNm
          rw [Lx.tx_len, decide_eq_false h0]; simp
        subst hzf
        have h0i : ¬ (0 : Int) < (u.size : Int) := by omega
        clear hl0 HALL HHD HZ HA
        go_wp2_with fail
        go_ret
        exact ⟨rfl, rfl⟩
end Go.Proofs.Ytjcaingfeaaakaa
/-
  The reference of layer 7: formed.
-/
namespace Go.Proofs.Ytjcaingfeaaakaa
open Go.RowKit

set_option maxHeartbeats 8000000 in
set_option maxRecDepth 100000 in
theorem r7formed_walk (f : Fm.Fo) (u : Value) (w : World) (hat : Fm.At w f u) :
    Calls Try.prog 60 #[Fm.fv f u] w fun e w' => e = .returned (.bool (Fm.wf Fc.isNm f)) ∧ Below w.heap.size w w' := by
  obtain ⟨ua, uc, hu, huc, _⟩ := hat.kidsAt.len
  have hsz := hat.sized
  obtain ⟨o, x, c, n, ks⟩ := f
  have hN := fun w => r7name_walk x hsz.2.1 w
  dsimp only [Fm.fv, Fm.Fo.op, Fm.Fo.name, Fm.Fo.cmp, Fm.Fo.num, Fm.Fo.kids] at hu huc hsz hN ⊢
  obtain ⟨m, hm⟩ : ∃ m, m = ks.length := ⟨_, rfl⟩
  obtain ⟨z, hz⟩ : ∃ z, z = Fm.wf Fc.isNm (.mk o x c n ks) := ⟨_, rfl⟩
  rw [← hm] at hu huc
  rw [← hz]
  subst hu
  have hxe : (Lx.str x).toList.isEmpty = x.isEmpty := by rw [Lib.toList_data]; rfl
  obtain ⟨s, hs⟩ : ∃ s, s = Lx.str x := ⟨_, rfl⟩
  obtain ⟨be, hbe⟩ : ∃ b, b = x.isEmpty := ⟨_, rfl⟩
  obtain ⟨bn, hbn⟩ : ∃ b, b = Fc.isNm x := ⟨_, rfl⟩
  rw [← hs] at hxe hN ⊢
  rw [← hbe] at hxe
  rw [← hbn] at hN
  have HN := Lib.hid hN
  clear hN hat hsz hs
  by_cases h12 : o = 1 ∨ o = 2
  · rw [Fm.wf_12 h12, ← hm, ← hbe] at hz
    have HZ := Lib.hid hz
    clear HN hm hbe hbn hz
    rcases h12 with rfl | rfl
    all_goals
      cases be
      all_goals
        go_enter Try.func60, Try.ntmps60
        go_wp2_with fail
        all_goals
          go_ret
          refine ⟨Lx.ret_bool ?_, (Below.refl _ _).alloc (Nat.le_refl _) _⟩
          rw [HZ.out, Bool.eq_iff_iff]
          simp [*]
          try omega
  by_cases h3 : o = 3
  · subst h3
    rw [Fm.wf_3, ← hm, ← hbn] at hz
    have HZ := Lib.hid hz
    clear h12 hm hbe hbn hz
    go_enter Try.func60, Try.ntmps60
    cases be
    all_goals
      go_wp2_with (first | (refine (HN.out _).mono ?_; rintro e w2 ⟨rfl, hw2⟩; subst hw2))
      all_goals
        go_ret
        refine ⟨Lx.ret_bool ?_, (Below.refl _ _).alloc (Nat.le_refl _) _⟩
        rw [HZ.out, Bool.eq_iff_iff]
        simp [*]
        try omega
  by_cases h4 : o = 4
  · subst h4
    rw [Fm.wf_4, ← hm, ← hbn] at hz
    have HZ := Lib.hid hz
    clear h12 hm hbe hbn hz h3
    go_enter Try.func60, Try.ntmps60
    cases be
    all_goals
      go_wp2_with (first | (refine (HN.out _).mono ?_; rintro e w2 ⟨rfl, hw2⟩; subst hw2))
      all_goals
        go_ret
        refine ⟨Lx.ret_bool ?_, (Below.refl _ _).alloc (Nat.le_refl _) _⟩
        rw [HZ.out, Bool.eq_iff_iff]
        simp [*]
        try omega
  by_cases h5 : o = 5
  · subst h5
    rw [Fm.wf_5, ← hm, ← hbe] at hz
    have HZ := Lib.hid hz
    clear HN h12 hm hbe hbn hz h3 h4
    cases be
    all_goals
      go_enter Try.func60, Try.ntmps60
      go_wp2_with fail
      all_goals
        go_ret
        refine ⟨Lx.ret_bool ?_, (Below.refl _ _).alloc (Nat.le_refl _) _⟩
        rw [HZ.out, Bool.eq_iff_iff]
        simp [*]
        try omega
  by_cases h67 : o = 6 ∨ o = 7
  · rw [Fm.wf_67 h67, ← hm, ← hbe] at hz
    have HZ := Lib.hid hz
    clear HN h12 hm hbe hbn hz h3 h4 h5
    rcases h67 with rfl | rfl
    all_goals
      cases be
      all_goals
        go_enter Try.func60, Try.ntmps60
        go_wp2_with fail
        all_goals
          go_ret
          refine ⟨Lx.ret_bool ?_, (Below.refl _ _).alloc (Nat.le_refl _) _⟩
          rw [HZ.out, Bool.eq_iff_iff]
          simp [*]
          try omega
  · have h1 : o ≠ 1 := by omega
    have h2 : o ≠ 2 := by omega
    have h6 : o ≠ 6 := by omega
    have h7 : o ≠ 7 := by omega
    rw [Fm.wf_no h1 h2 h3 h4 h5 h6 h7] at hz
    subst hz
    clear HN h12 h67 hm hbn hbe
    cases be
    all_goals
      go_enter Try.func60, Try.ntmps60
      go_wp2_with fail
      all_goals
        go_ret
        exact ⟨rfl, (Below.refl _ _).alloc (Nat.le_refl _) _⟩
end Go.Proofs.Ytjcaingfeaaakaa
/-
  The reference of layer 7: node.
-/
namespace Go.Proofs.Ytjcaingfeaaakaa
open Go.RowKit

namespace Fm
/-- The terms that there are, if all are, or those of a list. -/
abbrev orAll (b : Bool) (l : List T) (x : T) : Bool := b || has l x
theorem errsL_get {isN fs ts : T → Bool} : ∀ {ks : List Fo} {i : Nat} {k : Fo}, ks[i]? = some k → (∀ j, j < i → ∀ y, ks[j]? = some y → errs isN fs ts y = 0) → errs isN fs ts k ≠ 0 → errsL isN fs ts ks = errs isN fs ts k
  | [], _, _, h, _, _ => by simp at h
  | a :: ks, 0, k, h, _, hk => by
    obtain rfl : a = k := by simpa using h
    rw [errsL, if_pos hk]
  | a :: ks, i + 1, k, h, hj, hk => by
    rw [errsL, if_neg (not_not_intro (hj 0 (by omega) a rfl))]
    exact errsL_get (by simpa using h) (fun j hji y hy => hj (j + 1) (by omega) y (by simpa using hy)) hk
/-- The boxes of a formula and a domain, the first two blocks of a call. -/
def DBox (w : World) (f : Fo) (u dv : Value) (W : World) : Prop := W.heap[w.heap.size]? = some (.cells #[.int .i64 f.op, .string (Lx.str f.name), .int .i64 f.cmp, .int .i64 f.num, u] 24 (0, 0)) ∧ W.heap[w.heap.size + 1]? = some (.cells #[dv] 27 (0, 0)) ∧ Below w.heap.size w W
theorem DBox.next {w : World} {f : Fo} {u dv : Value} {W W' : World} (h : DBox w f u dv W) (hb : Below W.heap.size W W') : DBox w f u dv W' := ⟨(hb.block _ (Array.getElem?_eq_some_iff.1 h.1).1).trans h.1, (hb.block _ (Array.getElem?_eq_some_iff.1 h.2.1).1).trans h.2.1, h.2.2.trans (hb.mono h.2.2.size)⟩
theorem DBox.start (w : World) (f : Fo) (u dv : Value) : DBox w f u dv ((w.alloc (.cells #[.int .i64 f.op, .string (Lx.str f.name), .int .i64 f.cmp, .int .i64 f.num, u] 24)).alloc (.cells #[dv] 27)) :=
  ⟨blkK (heap_alloc_new _ _), blk1 _ _ _, ((Below.refl _ _).alloc (Nat.le_refl _) _).alloc (by simp) _⟩
end Fm

set_option maxHeartbeats 8000000 in
set_option maxRecDepth 100000 in
theorem r7node_walk : ∀ (s : Nat) (f : Fm.Fo) (u dv tv : Value) (d : List Fc.Fact) (l : List Fm.T) (al : Bool) (w : World), Fm.size f ≤ s → Fm.At w f u → Fc.IsF w dv d → Fm.IsT w tv l →
    Calls Try.prog 41 #[Fm.fv f u, .agg #[dv], tv, .bool al] w fun e w' => e = .returned (.int .i64 (Fm.errs Fc.isNm (Fm.fs d) (Fm.orAll al l) f : Nat)) ∧ Below w.heap.size w w' := by
  intro s
  induction s with
  | zero => intro f u dv tv d l al w hs; have := Fm.size_pos f; omega
  | succ s ih =>
    intro f u dv tv d l al w hs hat hd ht
    have hsz := Fm.size_eq f
    obtain ⟨va, vn, vc, hdv⟩ : ∃ a n c, dv = .slice a n c := by obtain ⟨a, c, e, _⟩ := hd.form; exact ⟨_, _, _, e⟩
    obtain ⟨ta, tn, tc, htv⟩ : ∃ a n c, tv = .slice a n c := by obtain ⟨a, c, _, _, e, _⟩ := ht.any; exact ⟨_, _, _, e⟩
    subst hdv htv
    have hfw := r7formed_walk f u
    have hnm := hat.sized.2.1
    obtain ⟨a, c0, g, o, rfl, hc1, hc2, hga, hcl⟩ := hat.kidsAt.any
    obtain ⟨m, hm⟩ : ∃ m, m = f.kids.length := ⟨_, rfl⟩
    rw [← hm] at hc1
    have HB0 := Lib.hid (Fm.DBox.start w f (.slice a f.kids.length c0) (.slice va vn vc))
    obtain ⟨p, x, c, n, ks⟩ := f
    dsimp only [Fm.fv, Fm.Fo.op, Fm.Fo.name, Fm.Fo.cmp, Fm.Fo.num, Fm.Fo.kids] at hsz hm hga hcl hnm hfw HB0 ⊢
    rw [← hm] at HB0 hfw ⊢
    obtain ⟨W2, hW2⟩ : ∃ W2, W2 = (w.alloc (.cells #[.int .i64 p, .string (Lx.str x), .int .i64 c, .int .i64 n, .slice a m c0] 24)).alloc (.cells #[.slice va vn vc] 27) := ⟨_, rfl⟩
    have hB2 : Fm.DBox w (.mk p x c n ks) (.slice a m c0) (.slice va vn vc) W2 := by rw [hW2]; exact HB0.out
    have hga2 : 0 < m → a = some ⟨g, o, none⟩ ∧ g < w.heap.size := fun h => hga (by rintro rfl; rw [hm] at h; simp at h)
    obtain ⟨z, hz⟩ : ∃ z, z = Fm.errs Fc.isNm (Fm.fs d) (Fm.orAll al l) (.mk p x c n ks) := ⟨_, rfl⟩
    rw [← hz]
    rw [Fm.errs, Fm.err1] at hz
    obtain ⟨b, hb⟩ : ∃ b, b = Fm.wf Fc.isNm (.mk p x c n ks) := ⟨_, rfl⟩
    obtain ⟨q, hq⟩ : ∃ q, q = Fc.idx d x := ⟨_, rfl⟩
    obtain ⟨t, htt⟩ : ∃ t, t = Fm.has l x := ⟨_, rfl⟩
    have hfs : Fm.fs d x = decide (0 ≤ q) := by rw [hq]
    have hor : Fm.orAll al l x = (al || t) := by rw [htt]
    rw [← hb, hfs, hor] at hz
    have HFW := Lib.hid (hfw W2 (by rw [hm]; exact hat.below hB2.2.2))
    rw [← hb] at HFW
    have HI : Hid (∀ W, Below w.heap.size w W → Calls Try.prog 61 #[.agg #[.slice va vn vc], .string (Lx.str x)] W fun e w' => e = .returned (.int .i64 q) ∧ Below W.heap.size W w') := fun W hW => by rw [hq]; exact r7index_walk _ d x W (hd.below hW)
    have HT : Hid (∀ W, Below w.heap.size w W → Calls Try.prog 31 #[.slice ta tn tc, .string (Lx.str x)] W fun e w' => e = .returned (.bool t) ∧ W = w') := fun W hW => by rw [htt]; exact r7in_walk _ l x W (ht.below hW)
    have HIH : Hid (∀ k ∈ ks, ∀ v W, Below w.heap.size w W → Fm.At W k v → Calls Try.prog 41 #[Fm.fv k v, .agg #[.slice va vn vc], .slice ta tn tc, .bool al] W fun e w' => e = .returned (.int .i64 (Fm.errs Fc.isNm (Fm.fs d) (Fm.orAll al l) k : Nat)) ∧ Below W.heap.size W w') := fun k hk v W hW hv => ih k v _ _ d l al W (by have := Fm.size_mem hk; omega) hv (hd.below hW) (ht.below hW)
    obtain ⟨E, hE⟩ : ∃ E : Fm.Fo → Nat, E = fun k => Fm.errs Fc.isNm (Fm.fs d) (Fm.orAll al l) k := ⟨_, rfl⟩
    obtain ⟨EL, hEL⟩ : ∃ EL : Nat, EL = Fm.errsL Fc.isNm (Fm.fs d) (Fm.orAll al l) ks := ⟨_, rfl⟩
    rw [← hEL] at hz
    have HEL : Hid (∀ i k, ks[i]? = some k → (∀ j, j < i → ∀ y, ks[j]? = some y → E y = 0) → E k ≠ 0 → EL = E k) := fun i k h1 h2 h3 => by rw [hEL]; subst hE; exact Fm.errsL_get h1 h2 h3
    have HEZ : Hid ((∀ y ∈ ks, E y = 0) → EL = 0) := fun h => by rw [hEL]; exact Fm.errsL_ok.2 (fun y hy => by have := h y hy; subst hE; exact this)
    have HIH2 : Hid (∀ k ∈ ks, ∀ v W, Below w.heap.size w W → Fm.At W k v → Calls Try.prog 41 #[Fm.fv k v, .agg #[.slice va vn vc], .slice ta tn tc, .bool al] W fun e w' => e = .returned (.int .i64 (E k : Nat)) ∧ Below W.heap.size W w') := fun k hk v W hW hv => by subst hE; exact HIH.out k hk v W hW hv
    have HZ := Lib.hid hz
    have HC := Lib.hid hcl
    have HG := Lib.hid hga2
    have HM := Lib.hid hm
    have HB2 := Lib.hid hB2
    have q0 := Joins.cell_of_block hB2.1 0
    have q1 := Joins.cell_of_block hB2.1 1
    have q2 := Joins.cell_of_block hB2.1 2
    have q3 := Joins.cell_of_block hB2.1 3
    have q4 := Joins.cell_of_block hB2.1 4
    dsimp only [Fm.Fo.op, Fm.Fo.name, Fm.Fo.cmp, Fm.Fo.num] at q0 q1 q2 q3 q4
    clear ih hs hat hd ht hsz hfw hnm hga hcl hB2 hga2 hz hb hq htt hfs hor HIH hE hEL HB0 hm
    go_enter Try.func41, Try.ntmps41
    go_wp2_with fail
    rw [← hW2]
    refine HFW.out.mono ?_
    rintro e w3 ⟨rfl, hb3⟩
    clear q0 q1 q2 q3 q4 HFW hW2
    have HB3 := Lib.hid (HB2.out.next hb3)
    clear hb3
    have q0 := Joins.cell_of_block HB3.out.1 0
    have q1 := Joins.cell_of_block HB3.out.1 1
    have q3 := Joins.cell_of_block HB3.out.1 3
    have q5 := Joins.cell_of_block HB3.out.2.1 0
    dsimp only [Fm.Fo.op, Fm.Fo.name, Fm.Fo.cmp, Fm.Fo.num] at q0 q1 q3
    cases b with
    | false =>
      have hz : z = 1 := by rw [HZ.out, if_pos rfl]; rfl
      subst hz
      clear HZ HI HT HEL HEZ HIH2 HC HG
      go_wp2_with fail
      go_ret
      exact ⟨rfl, HB3.out.2.2⟩
    | true =>
      have HZ2 : Hid (z = if (if p = 3 then if n < 0 ∨ 1000000 < n then 10 else if decide (0 ≤ q) = false then 7 else 0 else if p = 4 then if (al || t) = false then 7 else 0 else 0) ≠ 0 then (if p = 3 then if n < 0 ∨ 1000000 < n then 10 else if decide (0 ≤ q) = false then 7 else 0 else if p = 4 then if (al || t) = false then 7 else 0 else 0) else EL) := by
        show _ = _
        rw [HZ.out, if_neg (by decide : ¬ (true = false))]
      clear HZ
      by_cases h3 : p = 3
      · subst h3
        have HZ3 : Hid (z = if (if n < 0 ∨ 1000000 < n then 10 else if decide (0 ≤ q) = false then 7 else 0) ≠ 0 then (if n < 0 ∨ 1000000 < n then 10 else if decide (0 ≤ q) = false then 7 else 0) else EL) := by
          show _ = _
          rw [HZ2.out, if_pos rfl]
        clear HZ2
        by_cases hn : n < 0 ∨ 1000000 < n
        · have hz : z = 10 := by rw [HZ3.out, if_pos hn]; rfl
          subst hz
          clear HZ3 HI HT HEL HEZ HIH2 HC HG
          by_cases hn0 : n < 0
          · go_wp2_with fail
            go_ret
            exact ⟨rfl, HB3.out.2.2⟩
          · have hn1 : 1000000 < n := by omega
            go_wp2_with fail
            go_ret
            exact ⟨rfl, HB3.out.2.2⟩
        · have hn0 : ¬ n < 0 := by omega
          have hn1 : ¬ 1000000 < n := by omega
          have HZ4 : Hid (z = if (if decide (0 ≤ q) = false then 7 else 0) ≠ 0 then (if decide (0 ≤ q) = false then 7 else 0) else EL) := by
            show _ = _
            rw [HZ3.out, if_neg hn]
          clear hn HZ3
          go_wp2_with fail
          refine (HI.out _ HB3.out.2.2).mono ?_
          rintro e w4 ⟨rfl, hb4⟩
          have HB4 := Lib.hid (HB3.out.next hb4)
          have r0 := Joins.cell_of_block HB4.out.1 0
          dsimp only [Fm.Fo.op] at r0
          clear hb4 HI HT q0 q1 q3 q5
          by_cases hq : q < 0
          · have hz : z = 7 := by rw [HZ4.out, decide_eq_false (by omega)]; rfl
            subst hz
            clear HZ4 HEL HEZ HIH2 HC HG
            go_wp2_with fail
            go_ret
            exact ⟨rfl, HB4.out.2.2⟩
          · have HZE : Hid (z = EL) := by show _ = _; rw [HZ4.out, decide_eq_true (by omega)]; rfl
            have hqq : ¬ q < 0 := hq
            clear HZ4
            go_upto_region 7 with fail
            clear r0
            go_wp2_with fail
            go_loopw [9] (fun i wr => ∃ k : Nat, k ≤ m ∧ i = .int .i64 k ∧ Hid (∀ j, j < k → ∀ y, ks[j]? = some y → E y = 0) ∧ Hid (Fm.DBox w (.mk 3 x c n ks) (.slice a m c0) (.slice va vn vc) wr)) (fun i _ => m - (intOf i).toNat)
            case atStart => exact ⟨0, Nat.zero_le _, rfl, fun j hj => absurd hj (by omega), HB4⟩
            case round =>
              obtain ⟨k, hk, rfl, hd, hbx⟩ := hrel
              clear HB4
              have b4 := Joins.cell_of_block hbx.out.1 4
              have b5 := Joins.cell_of_block hbx.out.2.1 0
              by_cases hlt : k < m
              · have hki : (k : Int) < (m : Int) := by omega
                have hk0 : (0 : Int) ≤ (k : Int) := by omega
                obtain ⟨y, hy⟩ : ∃ y, ks[k]? = some y := ⟨_, List.getElem?_eq_getElem (by rw [← HM.out]; exact hlt)⟩
                obtain ⟨rfl, hg⟩ := HG.out (by omega)
                obtain ⟨v, p0, p1, p2, p3, p4, hv⟩ := HC.out k y hy
                have hbw := hbx.out.2.2
                have hgz : g < wr.heap.size := Nat.lt_of_lt_of_le hg hbw.size
                have hz0 : w.heap.size < wr.heap.size := (Array.getElem?_eq_some_iff.1 hbx.out.1).1
                have hz1 : w.heap.size + 1 < wr.heap.size := (Array.getElem?_eq_some_iff.1 hbx.out.2.1).1
                have e0 : ∀ w', Fc.Old wr w' → w'.cell? ⟨g, o + k * 5, none⟩ = some (.int .i64 y.op) := fun w' h => h.cell hgz ((hbw.cell (p := ⟨g, o + k * 5, none⟩) hg).trans p0)
                have e1 : ∀ w', Fc.Old wr w' → w'.cell? ⟨g, o + k * 5 + 1, none⟩ = some (.string (Lx.str y.name)) := fun w' h => h.cell hgz ((hbw.cell (p := ⟨g, o + k * 5 + 1, none⟩) hg).trans p1)
                have e2 : ∀ w', Fc.Old wr w' → w'.cell? ⟨g, o + k * 5 + 2, none⟩ = some (.int .i64 y.cmp) := fun w' h => h.cell hgz ((hbw.cell (p := ⟨g, o + k * 5 + 2, none⟩) hg).trans p2)
                have e3 : ∀ w', Fc.Old wr w' → w'.cell? ⟨g, o + k * 5 + 3, none⟩ = some (.int .i64 y.num) := fun w' h => h.cell hgz ((hbw.cell (p := ⟨g, o + k * 5 + 3, none⟩) hg).trans p3)
                have e4 : ∀ w', Fc.Old wr w' → w'.cell? ⟨g, o + k * 5 + 4, none⟩ = some v := fun w' h => h.cell hgz ((hbw.cell (p := ⟨g, o + k * 5 + 4, none⟩) hg).trans p4)
                have t0 : ∀ w', Fc.Old wr w' → w'.cell? ⟨w.heap.size, 4, none⟩ = some (.slice (some ⟨g, o, none⟩) m c0) := fun w' h => h.cell hz0 b4
                have t1 : ∀ w', Fc.Old wr w' → w'.cell? ⟨w.heap.size + 1, 0, none⟩ = some (.slice va vn vc) := fun w' h => h.cell hz1 b5
                obtain ⟨r, hr⟩ : ∃ r, r = E y := ⟨_, rfl⟩
                have HA : Hid (∀ W, Fc.Old wr W → Calls Try.prog 41 #[Fm.fv y v, .agg #[.slice va vn vc], .slice ta tn tc, .bool al] W fun e w' => e = .returned (.int .i64 (r : Nat)) ∧ Below W.heap.size W w') := fun W h => by
                  have hbb := hbw.trans (h.out.mono hbw.size)
                  rw [hr]
                  exact HIH2.out y (List.mem_of_getElem? hy) v W hbb (hv.below hbb)
                have HY := Lib.hid (And.intro hy hr)
                clear hy hv hbw p0 p1 p2 p3 p4 hr
                go_wp2_with fail
                clear b4 b5
                go_region_held3 (fun w' => Fc.Old wr w') (first | exact Fc.Old.drew wr | exact Fc.Old.step (by with_reducible assumption) (by with_reducible assumption) | with_reducible assumption)
                  (first
                    | (go_at_call 41; (with_reducible refine (HA.out _ (by with_reducible assumption)).mono ?_); rintro e w5 ⟨rfl, hb5⟩))
                have hO : Fc.Old wr w5 := by with_reducible assumption
                have HB5 := Lib.hid (hbx.out.next hO.out)
                clear e0 e1 e2 e3 e4 t0 t1 hb5 hO HA hbx
                by_cases hr0 : r = 0
                · subst hr0
                  have HD : Hid (∀ j, j < k + 1 → ∀ y, ks[j]? = some y → E y = 0) := fun j hj y2 hy2 => by
                    by_cases e : j = k
                    · subst e
                      rw [HY.out.1] at hy2
                      obtain rfl := Option.some.inj hy2
                      exact HY.out.2.symm
                    · exact hd.out j (by omega) y2 hy2
                  clear hd
                  go_wp2_with fail
                  go_roundw
                  case rel => exact ⟨k + 1, by omega, by go_num, HD, HB5⟩
                  case measure => simp [intOf]; omega
                · have hri : (((r : Nat) : Int) != 0) = true := by rw [bne_iff_ne]; omega
                  have hzr : z = r := by rw [HZE.out, HEL.out k y HY.out.1 hd.out (by rw [← HY.out.2]; exact hr0), ← HY.out.2]
                  subst hzr
                  clear hd hr0
                  go_wp2_with fail
                  go_ret
                  exact ⟨rfl, HB5.out.2.2⟩
              · obtain rfl : k = m := by omega
                have hki : ¬ (k : Int) < (k : Int) := by omega
                have hzt : z = 0 := by
                  rw [HZE.out]
                  refine HEZ.out fun y hy => ?_
                  obtain ⟨j, hj, e⟩ := List.getElem_of_mem hy
                  exact hd.out j (by rw [HM.out]; exact hj) y (by rw [List.getElem?_eq_getElem hj, e])
                subst hzt
                clear hd
                go_wp2_with fail
                go_ret
                exact ⟨rfl, hbx.out.2.2⟩
      · by_cases h4 : p = 4
        · subst h4
          have HZ3 : Hid (z = if (if (al || t) = false then 7 else 0) ≠ 0 then (if (al || t) = false then 7 else 0) else EL) := by
            show _ = _
            rw [HZ2.out, if_neg h3, if_pos rfl]
          clear HZ2 HI
          cases al with
          | true =>
            have HZE : Hid (z = EL) := by show _ = _; rw [HZ3.out]; rfl
            clear HZ3 HT
            go_upto_region 7 with fail
            clear q0 q1 q3 q5
            go_wp2_with fail
            go_loopw [9] (fun i wr => ∃ k : Nat, k ≤ m ∧ i = .int .i64 k ∧ Hid (∀ j, j < k → ∀ y, ks[j]? = some y → E y = 0) ∧ Hid (Fm.DBox w (.mk 4 x c n ks) (.slice a m c0) (.slice va vn vc) wr)) (fun i _ => m - (intOf i).toNat)
            case atStart => exact ⟨0, Nat.zero_le _, rfl, fun j hj => absurd hj (by omega), HB3⟩
            case round =>
              obtain ⟨k, hk, rfl, hd, hbx⟩ := hrel
              clear HB3
              have b4 := Joins.cell_of_block hbx.out.1 4
              have b5 := Joins.cell_of_block hbx.out.2.1 0
              by_cases hlt : k < m
              · have hki : (k : Int) < (m : Int) := by omega
                have hk0 : (0 : Int) ≤ (k : Int) := by omega
                obtain ⟨y, hy⟩ : ∃ y, ks[k]? = some y := ⟨_, List.getElem?_eq_getElem (by rw [← HM.out]; exact hlt)⟩
                obtain ⟨rfl, hg⟩ := HG.out (by omega)
                obtain ⟨v, p0, p1, p2, p3, p4, hv⟩ := HC.out k y hy
                have hbw := hbx.out.2.2
                have hgz : g < wr.heap.size := Nat.lt_of_lt_of_le hg hbw.size
                have hz0 : w.heap.size < wr.heap.size := (Array.getElem?_eq_some_iff.1 hbx.out.1).1
                have hz1 : w.heap.size + 1 < wr.heap.size := (Array.getElem?_eq_some_iff.1 hbx.out.2.1).1
                have e0 : ∀ w', Fc.Old wr w' → w'.cell? ⟨g, o + k * 5, none⟩ = some (.int .i64 y.op) := fun w' h => h.cell hgz ((hbw.cell (p := ⟨g, o + k * 5, none⟩) hg).trans p0)
                have e1 : ∀ w', Fc.Old wr w' → w'.cell? ⟨g, o + k * 5 + 1, none⟩ = some (.string (Lx.str y.name)) := fun w' h => h.cell hgz ((hbw.cell (p := ⟨g, o + k * 5 + 1, none⟩) hg).trans p1)
                have e2 : ∀ w', Fc.Old wr w' → w'.cell? ⟨g, o + k * 5 + 2, none⟩ = some (.int .i64 y.cmp) := fun w' h => h.cell hgz ((hbw.cell (p := ⟨g, o + k * 5 + 2, none⟩) hg).trans p2)
                have e3 : ∀ w', Fc.Old wr w' → w'.cell? ⟨g, o + k * 5 + 3, none⟩ = some (.int .i64 y.num) := fun w' h => h.cell hgz ((hbw.cell (p := ⟨g, o + k * 5 + 3, none⟩) hg).trans p3)
                have e4 : ∀ w', Fc.Old wr w' → w'.cell? ⟨g, o + k * 5 + 4, none⟩ = some v := fun w' h => h.cell hgz ((hbw.cell (p := ⟨g, o + k * 5 + 4, none⟩) hg).trans p4)
                have t0 : ∀ w', Fc.Old wr w' → w'.cell? ⟨w.heap.size, 4, none⟩ = some (.slice (some ⟨g, o, none⟩) m c0) := fun w' h => h.cell hz0 b4
                have t1 : ∀ w', Fc.Old wr w' → w'.cell? ⟨w.heap.size + 1, 0, none⟩ = some (.slice va vn vc) := fun w' h => h.cell hz1 b5
                obtain ⟨r, hr⟩ : ∃ r, r = E y := ⟨_, rfl⟩
                have HA : Hid (∀ W, Fc.Old wr W → Calls Try.prog 41 #[Fm.fv y v, .agg #[.slice va vn vc], .slice ta tn tc, .bool true] W fun e w' => e = .returned (.int .i64 (r : Nat)) ∧ Below W.heap.size W w') := fun W h => by
                  have hbb := hbw.trans (h.out.mono hbw.size)
                  rw [hr]
                  exact HIH2.out y (List.mem_of_getElem? hy) v W hbb (hv.below hbb)
                have HY := Lib.hid (And.intro hy hr)
                clear hy hv hbw p0 p1 p2 p3 p4 hr
                go_wp2_with fail
                clear b4 b5
                go_region_held3 (fun w' => Fc.Old wr w') (first | exact Fc.Old.drew wr | exact Fc.Old.step (by with_reducible assumption) (by with_reducible assumption) | with_reducible assumption)
                  (first
                    | (go_at_call 41; (with_reducible refine (HA.out _ (by with_reducible assumption)).mono ?_); rintro e w5 ⟨rfl, hb5⟩))
                have hO : Fc.Old wr w5 := by with_reducible assumption
                have HB5 := Lib.hid (hbx.out.next hO.out)
                clear e0 e1 e2 e3 e4 t0 t1 hb5 hO HA hbx
                by_cases hr0 : r = 0
                · subst hr0
                  have HD : Hid (∀ j, j < k + 1 → ∀ y, ks[j]? = some y → E y = 0) := fun j hj y2 hy2 => by
                    by_cases e : j = k
                    · subst e
                      rw [HY.out.1] at hy2
                      obtain rfl := Option.some.inj hy2
                      exact HY.out.2.symm
                    · exact hd.out j (by omega) y2 hy2
                  clear hd
                  go_wp2_with fail
                  go_roundw
                  case rel => exact ⟨k + 1, by omega, by go_num, HD, HB5⟩
                  case measure => simp [intOf]; omega
                · have hri : (((r : Nat) : Int) != 0) = true := by rw [bne_iff_ne]; omega
                  have hzr : z = r := by rw [HZE.out, HEL.out k y HY.out.1 hd.out (by rw [← HY.out.2]; exact hr0), ← HY.out.2]
                  subst hzr
                  clear hd hr0
                  go_wp2_with fail
                  go_ret
                  exact ⟨rfl, HB5.out.2.2⟩
              · obtain rfl : k = m := by omega
                have hki : ¬ (k : Int) < (k : Int) := by omega
                have hzt : z = 0 := by
                  rw [HZE.out]
                  refine HEZ.out fun y hy => ?_
                  obtain ⟨j, hj, e⟩ := List.getElem_of_mem hy
                  exact hd.out j (by rw [HM.out]; exact hj) y (by rw [List.getElem?_eq_getElem hj, e])
                subst hzt
                clear hd
                go_wp2_with fail
                go_ret
                exact ⟨rfl, hbx.out.2.2⟩
          | false =>
            cases t with
            | false =>
              have hz : z = 7 := by rw [HZ3.out]; rfl
              subst hz
              clear HZ3 HEL HEZ HIH2 HC HG
              go_wp2_with fail
              refine (HT.out _ HB3.out.2.2).mono ?_
              rintro e w4 ⟨rfl, hw4⟩
              subst hw4
              go_wp2_with fail
              go_ret
              exact ⟨rfl, HB3.out.2.2⟩
            | true =>
              have HZE : Hid (z = EL) := by show _ = _; rw [HZ3.out]; rfl
              clear HZ3
              go_wp2_with fail
              refine (HT.out _ HB3.out.2.2).mono ?_
              rintro e w4 ⟨rfl, hw4⟩
              subst hw4
              clear HT
              go_upto_region 7 with fail
              clear q0 q1 q3 q5
              go_wp2_with fail
              go_loopw [9] (fun i wr => ∃ k : Nat, k ≤ m ∧ i = .int .i64 k ∧ Hid (∀ j, j < k → ∀ y, ks[j]? = some y → E y = 0) ∧ Hid (Fm.DBox w (.mk 4 x c n ks) (.slice a m c0) (.slice va vn vc) wr)) (fun i _ => m - (intOf i).toNat)
              case atStart => exact ⟨0, Nat.zero_le _, rfl, fun j hj => absurd hj (by omega), HB3⟩
              case round =>
                obtain ⟨k, hk, rfl, hd, hbx⟩ := hrel
                clear HB3
                have b4 := Joins.cell_of_block hbx.out.1 4
                have b5 := Joins.cell_of_block hbx.out.2.1 0
                by_cases hlt : k < m
                · have hki : (k : Int) < (m : Int) := by omega
                  have hk0 : (0 : Int) ≤ (k : Int) := by omega
                  obtain ⟨y, hy⟩ : ∃ y, ks[k]? = some y := ⟨_, List.getElem?_eq_getElem (by rw [← HM.out]; exact hlt)⟩
                  obtain ⟨rfl, hg⟩ := HG.out (by omega)
                  obtain ⟨v, p0, p1, p2, p3, p4, hv⟩ := HC.out k y hy
                  have hbw := hbx.out.2.2
                  have hgz : g < wr.heap.size := Nat.lt_of_lt_of_le hg hbw.size
                  have hz0 : w.heap.size < wr.heap.size := (Array.getElem?_eq_some_iff.1 hbx.out.1).1
                  have hz1 : w.heap.size + 1 < wr.heap.size := (Array.getElem?_eq_some_iff.1 hbx.out.2.1).1
                  have e0 : ∀ w', Fc.Old wr w' → w'.cell? ⟨g, o + k * 5, none⟩ = some (.int .i64 y.op) := fun w' h => h.cell hgz ((hbw.cell (p := ⟨g, o + k * 5, none⟩) hg).trans p0)
                  have e1 : ∀ w', Fc.Old wr w' → w'.cell? ⟨g, o + k * 5 + 1, none⟩ = some (.string (Lx.str y.name)) := fun w' h => h.cell hgz ((hbw.cell (p := ⟨g, o + k * 5 + 1, none⟩) hg).trans p1)
                  have e2 : ∀ w', Fc.Old wr w' → w'.cell? ⟨g, o + k * 5 + 2, none⟩ = some (.int .i64 y.cmp) := fun w' h => h.cell hgz ((hbw.cell (p := ⟨g, o + k * 5 + 2, none⟩) hg).trans p2)
                  have e3 : ∀ w', Fc.Old wr w' → w'.cell? ⟨g, o + k * 5 + 3, none⟩ = some (.int .i64 y.num) := fun w' h => h.cell hgz ((hbw.cell (p := ⟨g, o + k * 5 + 3, none⟩) hg).trans p3)
                  have e4 : ∀ w', Fc.Old wr w' → w'.cell? ⟨g, o + k * 5 + 4, none⟩ = some v := fun w' h => h.cell hgz ((hbw.cell (p := ⟨g, o + k * 5 + 4, none⟩) hg).trans p4)
                  have t0 : ∀ w', Fc.Old wr w' → w'.cell? ⟨w.heap.size, 4, none⟩ = some (.slice (some ⟨g, o, none⟩) m c0) := fun w' h => h.cell hz0 b4
                  have t1 : ∀ w', Fc.Old wr w' → w'.cell? ⟨w.heap.size + 1, 0, none⟩ = some (.slice va vn vc) := fun w' h => h.cell hz1 b5
                  obtain ⟨r, hr⟩ : ∃ r, r = E y := ⟨_, rfl⟩
                  have HA : Hid (∀ W, Fc.Old wr W → Calls Try.prog 41 #[Fm.fv y v, .agg #[.slice va vn vc], .slice ta tn tc, .bool false] W fun e w' => e = .returned (.int .i64 (r : Nat)) ∧ Below W.heap.size W w') := fun W h => by
                    have hbb := hbw.trans (h.out.mono hbw.size)
                    rw [hr]
                    exact HIH2.out y (List.mem_of_getElem? hy) v W hbb (hv.below hbb)
                  have HY := Lib.hid (And.intro hy hr)
                  clear hy hv hbw p0 p1 p2 p3 p4 hr
                  go_wp2_with fail
                  clear b4 b5
                  go_region_held3 (fun w' => Fc.Old wr w') (first | exact Fc.Old.drew wr | exact Fc.Old.step (by with_reducible assumption) (by with_reducible assumption) | with_reducible assumption)
                    (first
                      | (go_at_call 41; (with_reducible refine (HA.out _ (by with_reducible assumption)).mono ?_); rintro e w5 ⟨rfl, hb5⟩))
                  have hO : Fc.Old wr w5 := by with_reducible assumption
                  have HB5 := Lib.hid (hbx.out.next hO.out)
                  clear e0 e1 e2 e3 e4 t0 t1 hb5 hO HA hbx
                  by_cases hr0 : r = 0
                  · subst hr0
                    have HD : Hid (∀ j, j < k + 1 → ∀ y, ks[j]? = some y → E y = 0) := fun j hj y2 hy2 => by
                      by_cases e : j = k
                      · subst e
                        rw [HY.out.1] at hy2
                        obtain rfl := Option.some.inj hy2
                        exact HY.out.2.symm
                      · exact hd.out j (by omega) y2 hy2
                    clear hd
                    go_wp2_with fail
                    go_roundw
                    case rel => exact ⟨k + 1, by omega, by go_num, HD, HB5⟩
                    case measure => simp [intOf]; omega
                  · have hri : (((r : Nat) : Int) != 0) = true := by rw [bne_iff_ne]; omega
                    have hzr : z = r := by rw [HZE.out, HEL.out k y HY.out.1 hd.out (by rw [← HY.out.2]; exact hr0), ← HY.out.2]
                    subst hzr
                    clear hd hr0
                    go_wp2_with fail
                    go_ret
                    exact ⟨rfl, HB5.out.2.2⟩
                · obtain rfl : k = m := by omega
                  have hki : ¬ (k : Int) < (k : Int) := by omega
                  have hzt : z = 0 := by
                    rw [HZE.out]
                    refine HEZ.out fun y hy => ?_
                    obtain ⟨j, hj, e⟩ := List.getElem_of_mem hy
                    exact hd.out j (by rw [HM.out]; exact hj) y (by rw [List.getElem?_eq_getElem hj, e])
                  subst hzt
                  clear hd
                  go_wp2_with fail
                  go_ret
                  exact ⟨rfl, hbx.out.2.2⟩
        · have HZE : Hid (z = EL) := by show _ = _; rw [HZ2.out, if_neg h3, if_neg h4]; rfl
          clear HZ2 HI HT
          go_upto_region 7 with fail
          clear q0 q1 q3 q5
          go_wp2_with fail
          go_loopw [9] (fun i wr => ∃ k : Nat, k ≤ m ∧ i = .int .i64 k ∧ Hid (∀ j, j < k → ∀ y, ks[j]? = some y → E y = 0) ∧ Hid (Fm.DBox w (.mk p x c n ks) (.slice a m c0) (.slice va vn vc) wr)) (fun i _ => m - (intOf i).toNat)
          case atStart => exact ⟨0, Nat.zero_le _, rfl, fun j hj => absurd hj (by omega), HB3⟩
          case round =>
            obtain ⟨k, hk, rfl, hd, hbx⟩ := hrel
            clear HB3
            have b4 := Joins.cell_of_block hbx.out.1 4
            have b5 := Joins.cell_of_block hbx.out.2.1 0
            by_cases hlt : k < m
            · have hki : (k : Int) < (m : Int) := by omega
              have hk0 : (0 : Int) ≤ (k : Int) := by omega
              obtain ⟨y, hy⟩ : ∃ y, ks[k]? = some y := ⟨_, List.getElem?_eq_getElem (by rw [← HM.out]; exact hlt)⟩
              obtain ⟨rfl, hg⟩ := HG.out (by omega)
              obtain ⟨v, p0, p1, p2, p3, p4, hv⟩ := HC.out k y hy
              have hbw := hbx.out.2.2
              have hgz : g < wr.heap.size := Nat.lt_of_lt_of_le hg hbw.size
              have hz0 : w.heap.size < wr.heap.size := (Array.getElem?_eq_some_iff.1 hbx.out.1).1
              have hz1 : w.heap.size + 1 < wr.heap.size := (Array.getElem?_eq_some_iff.1 hbx.out.2.1).1
              have e0 : ∀ w', Fc.Old wr w' → w'.cell? ⟨g, o + k * 5, none⟩ = some (.int .i64 y.op) := fun w' h => h.cell hgz ((hbw.cell (p := ⟨g, o + k * 5, none⟩) hg).trans p0)
              have e1 : ∀ w', Fc.Old wr w' → w'.cell? ⟨g, o + k * 5 + 1, none⟩ = some (.string (Lx.str y.name)) := fun w' h => h.cell hgz ((hbw.cell (p := ⟨g, o + k * 5 + 1, none⟩) hg).trans p1)
              have e2 : ∀ w', Fc.Old wr w' → w'.cell? ⟨g, o + k * 5 + 2, none⟩ = some (.int .i64 y.cmp) := fun w' h => h.cell hgz ((hbw.cell (p := ⟨g, o + k * 5 + 2, none⟩) hg).trans p2)
              have e3 : ∀ w', Fc.Old wr w' → w'.cell? ⟨g, o + k * 5 + 3, none⟩ = some (.int .i64 y.num) := fun w' h => h.cell hgz ((hbw.cell (p := ⟨g, o + k * 5 + 3, none⟩) hg).trans p3)
              have e4 : ∀ w', Fc.Old wr w' → w'.cell? ⟨g, o + k * 5 + 4, none⟩ = some v := fun w' h => h.cell hgz ((hbw.cell (p := ⟨g, o + k * 5 + 4, none⟩) hg).trans p4)
              have t0 : ∀ w', Fc.Old wr w' → w'.cell? ⟨w.heap.size, 4, none⟩ = some (.slice (some ⟨g, o, none⟩) m c0) := fun w' h => h.cell hz0 b4
              have t1 : ∀ w', Fc.Old wr w' → w'.cell? ⟨w.heap.size + 1, 0, none⟩ = some (.slice va vn vc) := fun w' h => h.cell hz1 b5
              obtain ⟨r, hr⟩ : ∃ r, r = E y := ⟨_, rfl⟩
              have HA : Hid (∀ W, Fc.Old wr W → Calls Try.prog 41 #[Fm.fv y v, .agg #[.slice va vn vc], .slice ta tn tc, .bool al] W fun e w' => e = .returned (.int .i64 (r : Nat)) ∧ Below W.heap.size W w') := fun W h => by
                have hbb := hbw.trans (h.out.mono hbw.size)
                rw [hr]
                exact HIH2.out y (List.mem_of_getElem? hy) v W hbb (hv.below hbb)
              have HY := Lib.hid (And.intro hy hr)
              clear hy hv hbw p0 p1 p2 p3 p4 hr
              go_wp2_with fail
              clear b4 b5
              go_region_held3 (fun w' => Fc.Old wr w') (first | exact Fc.Old.drew wr | exact Fc.Old.step (by with_reducible assumption) (by with_reducible assumption) | with_reducible assumption)
                (first
                  | (go_at_call 41; (with_reducible refine (HA.out _ (by with_reducible assumption)).mono ?_); rintro e w5 ⟨rfl, hb5⟩))
              have hO : Fc.Old wr w5 := by with_reducible assumption
              have HB5 := Lib.hid (hbx.out.next hO.out)
              clear e0 e1 e2 e3 e4 t0 t1 hb5 hO HA hbx
              by_cases hr0 : r = 0
              · subst hr0
                have HD : Hid (∀ j, j < k + 1 → ∀ y, ks[j]? = some y → E y = 0) := fun j hj y2 hy2 => by
                  by_cases e : j = k
                  · subst e
                    rw [HY.out.1] at hy2
                    obtain rfl := Option.some.inj hy2
                    exact HY.out.2.symm
                  · exact hd.out j (by omega) y2 hy2
                clear hd
                go_wp2_with fail
                go_roundw
                case rel => exact ⟨k + 1, by omega, by go_num, HD, HB5⟩
                case measure => simp [intOf]; omega
              · have hri : (((r : Nat) : Int) != 0) = true := by rw [bne_iff_ne]; omega
                have hzr : z = r := by rw [HZE.out, HEL.out k y HY.out.1 hd.out (by rw [← HY.out.2]; exact hr0), ← HY.out.2]
                subst hzr
                clear hd hr0
                go_wp2_with fail
                go_ret
                exact ⟨rfl, HB5.out.2.2⟩
            · obtain rfl : k = m := by omega
              have hki : ¬ (k : Int) < (k : Int) := by omega
              have hzt : z = 0 := by
                rw [HZE.out]
                refine HEZ.out fun y hy => ?_
                obtain ⟨j, hj, e⟩ := List.getElem_of_mem hy
                exact hd.out j (by rw [HM.out]; exact hj) y (by rw [List.getElem?_eq_getElem hj, e])
              subst hzt
              clear hd
              go_wp2_with fail
              go_ret
              exact ⟨rfl, hbx.out.2.2⟩
end Go.Proofs.Ytjcaingfeaaakaa
/-
  The reference of layer 7: Value.
-/
namespace Go.Proofs.Ytjcaingfeaaakaa
open Go.RowKit

namespace Fm
theorem node_cmp {x : T} {c n : Int} {ks : List Fo} (h : wf Fc.isNm (.mk 3 x c n ks) = true) : 1 ≤ c ∧ c ≤ 6 := by
  rw [wf_3] at h
  simp only [Bool.and_eq_true, decide_eq_true_iff] at h
  exact ⟨h.1.1.2, h.1.2⟩
theorem node_none {x : T} {c n : Int} {ks : List Fo} (h : wf Fc.isNm (.mk 2 x c n ks) = true) : ks = [] := by
  rw [wf_12 (.inr rfl)] at h
  simp only [Bool.and_eq_true, decide_eq_true_iff] at h
  exact List.length_eq_zero_iff.1 (by omega)
theorem any_at {p : Fo → Bool} {ks : List Fo} {i : Nat} {k : Fo} (h : ks[i]? = some k) (hp : p k = true) : ks.any p = true := List.any_eq_true.2 ⟨k, List.mem_of_getElem? h, hp⟩
theorem any_none {p : Fo → Bool} {ks : List Fo} (h : ∀ y ∈ ks, p y = false) : ks.any p = false := by rw [List.any_eq_false]; intro y hy; simpa using h y hy
end Fm

set_option maxHeartbeats 8000000 in
set_option maxRecDepth 100000 in
theorem r7value_walk : ∀ (s : Nat) (d : List Fc.Fact) (c : List Int) (l : List Fm.T) (ts : Fm.T → Bool) (f : Fm.Fo) (u dv cv tv : Value) (w : World), Fm.size f ≤ s → Fm.errs Fc.isNm (Fm.fs d) ts f = 0 → Fm.At w f u → Fc.IsF w dv d → Fc.IsN w cv c → c.length = d.length → Fm.IsT w tv l →
    Calls Try.prog 53 #[Fm.fv f u, .agg #[dv], cv, tv] w fun e w' => e = .returned (.bool (Fm.holds (Fm.val d c) (Fm.has l) f)) ∧ Below w.heap.size w w' := by
  intro s
  induction s with
  | zero => intro d c l ts f u dv cv tv w hs; have := Fm.size_pos f; omega
  | succ s ih =>
    intro d c l ts f u dv cv tv w hs he hat hd hc hlen ht
    obtain ⟨va, vn, vc, hdv⟩ : ∃ a n c, dv = .slice a n c := by obtain ⟨a, c, e, _⟩ := hd.form; exact ⟨_, _, _, e⟩
    obtain ⟨ca, cn, cc, hcv⟩ : ∃ a n c, cv = .slice a n c := by obtain ⟨a, c, _, _, e, _⟩ := hc.any; exact ⟨_, _, _, e⟩
    obtain ⟨ta, tn, tc, htv⟩ : ∃ a n c, tv = .slice a n c := by obtain ⟨a, c, _, _, e, _⟩ := ht.any; exact ⟨_, _, _, e⟩
    subst hdv hcv htv
    have hsz := Fm.size_eq f
    obtain ⟨a, c0, g, o, rfl, hc1, hc2, hga, hcl⟩ := hat.kidsAt.any
    obtain ⟨m, hm⟩ : ∃ m, m = f.kids.length := ⟨_, rfl⟩
    rw [← hm] at hc1
    have HB0 := Lib.hid (Fm.DBox.start w f (.slice a f.kids.length c0) (.slice va vn vc))
    obtain ⟨p, x, cm, n, ks⟩ := f
    obtain ⟨h1, h2⟩ := Fm.errs_ok.1 he
    obtain ⟨hwf, hi3, hk5, hop⟩ := Fm.node_ok h1
    have hke := Fm.errsL_ok.1 h2
    dsimp only [Fm.fv, Fm.Fo.op, Fm.Fo.name, Fm.Fo.cmp, Fm.Fo.num, Fm.Fo.kids] at hsz hm hga hcl HB0 ⊢
    rw [← hm] at HB0 ⊢
    obtain ⟨W2, hW2⟩ : ∃ W2, W2 = (w.alloc (.cells #[.int .i64 p, .string (Lx.str x), .int .i64 cm, .int .i64 n, .slice a m c0] 24)).alloc (.cells #[.slice va vn vc] 27) := ⟨_, rfl⟩
    have hB2 : Fm.DBox w (.mk p x cm n ks) (.slice a m c0) (.slice va vn vc) W2 := by rw [hW2]; exact HB0.out
    have hga2 : 0 < m → a = some ⟨g, o, none⟩ ∧ g < w.heap.size := fun h => hga (by rintro rfl; rw [hm] at h; simp at h)
    obtain ⟨z, hz⟩ : ∃ z, z = Fm.holds (Fm.val d c) (Fm.has l) (.mk p x cm n ks) := ⟨_, rfl⟩
    rw [← hz]
    rw [Fm.holds] at hz
    obtain ⟨E, hE⟩ : ∃ E : Fm.Fo → Bool, E = Fm.holds (Fm.val d c) (Fm.has l) := ⟨_, rfl⟩
    have HIH : Hid (∀ k ∈ ks, ∀ v W, Below w.heap.size w W → Fm.At W k v → Calls Try.prog 53 #[Fm.fv k v, .agg #[.slice va vn vc], .slice ca cn cc, .slice ta tn tc] W fun e w' => e = .returned (.bool (E k)) ∧ Below W.heap.size W w') := fun k hk v W hW hv => by
      subst hE
      exact ih d c l ts k v _ _ _ W (by have := Fm.size_mem hk; omega) (hke k hk) hv (hd.below hW) (hc.below hW) hlen (ht.below hW)
    have HI : Hid (∀ W, Below w.heap.size w W → Calls Try.prog 61 #[.agg #[.slice va vn vc], .string (Lx.str x)] W fun e w' => e = .returned (.int .i64 (Fc.idx d x)) ∧ Below W.heap.size W w') := fun W hW => r7index_walk _ d x W (hd.below hW)
    have HT : Hid (∀ W, Below w.heap.size w W → Calls Try.prog 31 #[.slice ta tn tc, .string (Lx.str x)] W fun e w' => e = .returned (.bool (Fm.has l x)) ∧ W = w') := fun W hW => r7in_walk _ l x W (ht.below hW)
    have HCV := Lib.hid (hc.below hB2.2.2)
    have HZ := Lib.hid hz
    have HAL : Hid (Fm.allL (Fm.val d c) (Fm.has l) ks = !(ks.any fun k => !(E k))) := by show _ = _; subst hE; exact Fm.allL_any _ _ _
    have HAN : Hid (Fm.anyL (Fm.val d c) (Fm.has l) ks = ks.any E) := by show _ = _; subst hE; exact Fm.anyL_any _ _ _
    have HC := Lib.hid hcl
    have HG := Lib.hid hga2
    have HM := Lib.hid hm
    have HB2 := Lib.hid hB2
    have HWF := Lib.hid hwf
    have q0 := Joins.cell_of_block hB2.1 0
    have q1 := Joins.cell_of_block hB2.1 1
    have q2 := Joins.cell_of_block hB2.1 2
    have q3 := Joins.cell_of_block hB2.1 3
    have q4 := Joins.cell_of_block hB2.1 4
    have q5 := Joins.cell_of_block hB2.2.1 0
    dsimp only [Fm.Fo.op, Fm.Fo.name, Fm.Fo.cmp, Fm.Fo.num] at q0 q1 q2 q3 q4
    have hlt1 : w.heap.size + 1 < W2.heap.size := (Array.getElem?_eq_some_iff.1 hB2.2.1).1
    have hlt0 : w.heap.size < W2.heap.size := by omega
    clear ih hs he hat hd hc ht hsz h1 h2 hwf hke hga hcl hB2 hga2 hz hE HB0 hm
    rcases hop with rfl | rfl | rfl | rfl | rfl | rfl | rfl
    · have hz : z = true := by rw [HZ.out, if_pos rfl]
      subst hz
      clear HZ HIH HI HT HCV HAL HAN HC HG HWF
      go_enter Try.func53, Try.ntmps53
      go_wp2_with fail
      go_ret
      exact ⟨rfl, by rw [← hW2]; exact HB2.out.2.2⟩
    · have hks := Fm.node_none HWF.out
      have hm0 : m = 0 := by rw [HM.out, hks]; rfl
      have hz : z = false := by rw [HZ.out]; rfl
      subst hz hm0
      clear HZ HIH HI HT HCV HAL HAN HC HG HWF
      go_enter Try.func53, Try.ntmps53
      go_upto_region 17 with fail
      rw [← hW2]
      clear hW2 q0 q1 q2 q3 q4 q5
      go_wp2_with fail
      go_loopw [10] (fun i wr => i = .int .i64 0 ∧ Hid (Fm.DBox w (.mk 2 x cm n ks) (.slice a 0 c0) (.slice va vn vc) wr)) (fun i _ => 0)
      case atStart => exact ⟨rfl, HB2⟩
      case round =>
        obtain ⟨rfl, hbx⟩ := hrel
        have b4 := Joins.cell_of_block hbx.out.1 4
        go_wp2_with fail
        go_ret
        exact ⟨rfl, hbx.out.2.2⟩
    · have hz : z = Fm.compares cm (Fm.val d c x) n := by rw [HZ.out]; rfl
      have hcm := Fm.node_cmp HWF.out
      have hix := Fc.idx_lt (d := d) (name := x)
      have h3 := hi3 rfl
      obtain ⟨i, hi⟩ : ∃ i : Nat, Fc.idx d x = (i : Int) := ⟨(Fc.idx d x).toNat, by omega⟩
      obtain ⟨a9, cap, g9, o9, e, hd1, hd2, hg, hcell⟩ := HCV.out.any
      obtain ⟨rfl, rfl, rfl⟩ : ca = a9 ∧ cn = c.length ∧ cc = cap := by cases e; exact ⟨rfl, rfl, rfl⟩
      have hil : i < c.length := by omega
      obtain ⟨rfl, hgl⟩ := hg (by rintro rfl; simp at hil)
      have hci := hcell i hil
      rw [Fm.val, hi, Int.toNat_natCast] at hz
      rw [hi] at HI
      obtain ⟨y, hy⟩ : ∃ y, y = c.getD i 0 := ⟨_, rfl⟩
      rw [← hy] at hz hci
      have HCMP : Hid (∀ W, Calls Try.prog 68 #[.int .i64 y, .int .i64 cm, .int .i64 n] W fun e w' => e = .returned (.bool z) ∧ W = w') := fun W => by rw [hz]; exact r7compare_walk y cm n W hcm
      obtain ⟨mc, hmc⟩ : ∃ m, m = c.length := ⟨_, rfl⟩
      rw [← hmc] at hil hd1
      have hilt : (i : Int) < (mc : Int) := by omega
      have hi0 : (0 : Int) ≤ (i : Int) := by omega
      have e0 : ∀ w', Fc.Old W2 w' → w'.cell? ⟨w.heap.size + 1, 0, none⟩ = some (.slice va vn vc) := fun w' h => h.cell hlt1 q5
      have e2 : ∀ w', Fc.Old W2 w' → w'.cell? ⟨w.heap.size, 1, none⟩ = some (.string (Lx.str x)) := fun w' h => h.cell hlt0 q1
      have e3 : ∀ w', Fc.Old W2 w' → w'.cell? ⟨w.heap.size, 2, none⟩ = some (.int .i64 cm) := fun w' h => h.cell hlt0 q2
      have e4 : ∀ w', Fc.Old W2 w' → w'.cell? ⟨w.heap.size, 3, none⟩ = some (.int .i64 n) := fun w' h => h.cell hlt0 q3
      have e5 : ∀ w', Fc.Old W2 w' → w'.cell? ⟨g9, o9 + i, none⟩ = some (.int .i64 y) := fun w' h => h.cell hgl hci
      have HII : Hid (∀ W, Fc.Old W2 W → Calls Try.prog 61 #[.agg #[.slice va vn vc], .string (Lx.str x)] W fun e w' => e = .returned (.int .i64 (i : Nat)) ∧ Below W.heap.size W w') := fun W h => HI.out W (HB2.out.2.2.trans (h.out.mono HB2.out.2.2.size))
      rw [← hmc]
      clear HZ HIH HI HT HCV HAL HAN HC HG HWF hz q1 q2 q3 q4 q5 hcell hci hy hmc hi hix h3 hlen hi3 hk5 hcm
      go_enter Try.func53, Try.ntmps53
      go_wp2_with fail
      rw [← hW2]
      clear hW2 q0
      go_region_held3 (fun w' => Fc.Old W2 w') (first | exact Fc.Old.drew W2 | exact Fc.Old.step (by with_reducible assumption) (by with_reducible assumption) | with_reducible assumption)
        (first
          | (go_at_call 61; (with_reducible refine (HII.out _ (by with_reducible assumption)).mono ?_); rintro e w5 ⟨rfl, hb5⟩)
          | (go_at_call 68; (with_reducible refine (HCMP.out _).mono ?_); rintro e w6 ⟨rfl, rfl⟩))
      have hO : Fc.Old W2 w5 := by with_reducible assumption
      go_wp2_with fail
      go_ret
      exact ⟨rfl, HB2.out.2.2.trans (hO.out.mono HB2.out.2.2.size)⟩
    · have hz : z = Fm.has l x := by rw [HZ.out]; rfl
      rw [← hz] at HT
      clear HZ HIH HI HCV HAL HAN HC HG HWF hz
      go_enter Try.func53, Try.ntmps53
      go_wp2_with fail
      rw [← hW2]
      refine (HT.out _ HB2.out.2.2).mono ?_
      rintro e w4 ⟨rfl, hw4⟩
      subst hw4
      go_wp2_with fail
      go_ret
      exact ⟨rfl, by rw [← hW2]; exact HB2.out.2.2⟩
    · obtain ⟨k, rfl⟩ : ∃ k, ks = [k] := by
        have := hk5 rfl
        match ks, this with
        | [k], _ => exact ⟨k, rfl⟩
      have hm1 : m = 1 := by rw [HM.out]; rfl
      subst hm1
      have hz : z = !(E k) := by
        rw [HZ.out]
        show (!(Fm.anyL _ _ [k])) = _
        rw [HAN.out]; simp
      obtain ⟨rfl, hgl⟩ := HG.out (by omega)
      obtain ⟨v, p0, p1, p2, p3, p4, hv⟩ := HC.out 0 k rfl
      obtain ⟨b, hb⟩ : ∃ b, b = E k := ⟨_, rfl⟩
      have hB := HB2.out.2.2
      have HR : Hid (∀ W, Fc.Old W2 W → Calls Try.prog 53 #[Fm.fv k v, .agg #[.slice va vn vc], .slice ca cn cc, .slice ta tn tc] W fun e w' => e = .returned (.bool b) ∧ Below W.heap.size W w') := fun W h => by
        have hbb := hB.trans (h.out.mono hB.size)
        rw [hb]; exact HIH.out k (List.mem_singleton.2 rfl) v W hbb (hv.below hbb)
      rw [← hb] at hz
      subst hz
      simp only [Nat.zero_mul, Nat.add_zero] at p0 p1 p2 p3 p4
      have hgz : g < W2.heap.size := Nat.lt_of_lt_of_le hgl hB.size
      have e0 : ∀ w', Fc.Old W2 w' → w'.cell? ⟨w.heap.size + 1, 0, none⟩ = some (.slice va vn vc) := fun w' h => h.cell hlt1 q5
      have e3 : ∀ w', Fc.Old W2 w' → w'.cell? ⟨w.heap.size, 4, none⟩ = some (.slice (some ⟨g, o, none⟩) 1 c0) := fun w' h => h.cell hlt0 q4
      have g0 : ∀ w', Fc.Old W2 w' → w'.cell? ⟨g, o, none⟩ = some (.int .i64 k.op) := fun w' h => h.cell hgz ((hB.cell (p := ⟨g, o, none⟩) hgl).trans p0)
      have g1 : ∀ w', Fc.Old W2 w' → w'.cell? ⟨g, o + 1, none⟩ = some (.string (Lx.str k.name)) := fun w' h => h.cell hgz ((hB.cell (p := ⟨g, o + 1, none⟩) hgl).trans p1)
      have g2 : ∀ w', Fc.Old W2 w' → w'.cell? ⟨g, o + 2, none⟩ = some (.int .i64 k.cmp) := fun w' h => h.cell hgz ((hB.cell (p := ⟨g, o + 2, none⟩) hgl).trans p2)
      have g3 : ∀ w', Fc.Old W2 w' → w'.cell? ⟨g, o + 3, none⟩ = some (.int .i64 k.num) := fun w' h => h.cell hgz ((hB.cell (p := ⟨g, o + 3, none⟩) hgl).trans p3)
      have g4 : ∀ w', Fc.Old W2 w' → w'.cell? ⟨g, o + 4, none⟩ = some v := fun w' h => h.cell hgz ((hB.cell (p := ⟨g, o + 4, none⟩) hgl).trans p4)
      clear HZ HIH HI HT HCV HAL HAN HC HG HWF q1 q2 q3 q4 q5 hb hlen hi3 hk5 p0 p1 p2 p3 p4 hv hB
      go_enter Try.func53, Try.ntmps53
      go_wp2_with fail
      rw [← hW2]
      clear hW2 q0
      go_region_held3 (fun w' => Fc.Old W2 w') (first | exact Fc.Old.drew W2 | exact Fc.Old.step (by with_reducible assumption) (by with_reducible assumption) | with_reducible assumption)
        (first
          | (go_at_call 53; (with_reducible refine (HR.out _ (by with_reducible assumption)).mono ?_); rintro e w5 ⟨rfl, hb5⟩))
      have hO : Fc.Old W2 w5 := by with_reducible assumption
      go_wp2_with fail
      go_ret
      exact ⟨rfl, HB2.out.2.2.trans (hO.out.mono HB2.out.2.2.size)⟩
    · have HZE : Hid (z = !(ks.any fun k => !(E k))) := by show _ = _; rw [HZ.out, ← HAL.out]; rfl
      clear HZ HI HT HCV HAL HAN HWF hi3 hk5
      go_enter Try.func53, Try.ntmps53
      go_upto_region 11 with fail
      rw [← hW2]
      clear hW2 q0 q1 q2 q3 q4 q5
      go_wp2_with fail
      go_loopw [9] (fun i wr => ∃ k : Nat, k ≤ m ∧ i = .int .i64 k ∧ Hid (∀ j, j < k → ∀ y, ks[j]? = some y → E y = true) ∧ Hid (Fm.DBox w (.mk 6 x cm n ks) (.slice a m c0) (.slice va vn vc) wr)) (fun i _ => m - (intOf i).toNat)
      case atStart => exact ⟨0, Nat.zero_le _, rfl, fun j hj => absurd hj (by omega), HB2⟩
      case round =>
        obtain ⟨k, hk, rfl, hd, hbx⟩ := hrel
        clear HB2
        have b4 := Joins.cell_of_block hbx.out.1 4
        have b5 := Joins.cell_of_block hbx.out.2.1 0
        by_cases hlt : k < m
        · have hki : (k : Int) < (m : Int) := by omega
          have hk0 : (0 : Int) ≤ (k : Int) := by omega
          obtain ⟨y, hy⟩ : ∃ y, ks[k]? = some y := ⟨_, List.getElem?_eq_getElem (by rw [← HM.out]; exact hlt)⟩
          obtain ⟨rfl, hg⟩ := HG.out (by omega)
          obtain ⟨v, p0, p1, p2, p3, p4, hv⟩ := HC.out k y hy
          have hbw := hbx.out.2.2
          have hgz : g < wr.heap.size := Nat.lt_of_lt_of_le hg hbw.size
          have hz0 : w.heap.size < wr.heap.size := (Array.getElem?_eq_some_iff.1 hbx.out.1).1
          have hz1 : w.heap.size + 1 < wr.heap.size := (Array.getElem?_eq_some_iff.1 hbx.out.2.1).1
          have e0 : ∀ w', Fc.Old wr w' → w'.cell? ⟨g, o + k * 5, none⟩ = some (.int .i64 y.op) := fun w' h => h.cell hgz ((hbw.cell (p := ⟨g, o + k * 5, none⟩) hg).trans p0)
          have e1 : ∀ w', Fc.Old wr w' → w'.cell? ⟨g, o + k * 5 + 1, none⟩ = some (.string (Lx.str y.name)) := fun w' h => h.cell hgz ((hbw.cell (p := ⟨g, o + k * 5 + 1, none⟩) hg).trans p1)
          have e2 : ∀ w', Fc.Old wr w' → w'.cell? ⟨g, o + k * 5 + 2, none⟩ = some (.int .i64 y.cmp) := fun w' h => h.cell hgz ((hbw.cell (p := ⟨g, o + k * 5 + 2, none⟩) hg).trans p2)
          have e3 : ∀ w', Fc.Old wr w' → w'.cell? ⟨g, o + k * 5 + 3, none⟩ = some (.int .i64 y.num) := fun w' h => h.cell hgz ((hbw.cell (p := ⟨g, o + k * 5 + 3, none⟩) hg).trans p3)
          have e4 : ∀ w', Fc.Old wr w' → w'.cell? ⟨g, o + k * 5 + 4, none⟩ = some v := fun w' h => h.cell hgz ((hbw.cell (p := ⟨g, o + k * 5 + 4, none⟩) hg).trans p4)
          have t0 : ∀ w', Fc.Old wr w' → w'.cell? ⟨w.heap.size, 4, none⟩ = some (.slice (some ⟨g, o, none⟩) m c0) := fun w' h => h.cell hz0 b4
          have t1 : ∀ w', Fc.Old wr w' → w'.cell? ⟨w.heap.size + 1, 0, none⟩ = some (.slice va vn vc) := fun w' h => h.cell hz1 b5
          obtain ⟨r, hr⟩ : ∃ r, r = E y := ⟨_, rfl⟩
          have HA : Hid (∀ W, Fc.Old wr W → Calls Try.prog 53 #[Fm.fv y v, .agg #[.slice va vn vc], .slice ca cn cc, .slice ta tn tc] W fun e w' => e = .returned (.bool r) ∧ Below W.heap.size W w') := fun W h => by
            have hbb := hbw.trans (h.out.mono hbw.size)
            rw [hr]
            exact HIH.out y (List.mem_of_getElem? hy) v W hbb (hv.below hbb)
          have HY := Lib.hid (And.intro hy hr)
          clear hy hv hbw p0 p1 p2 p3 p4 hr
          go_wp2_with fail
          clear b4 b5
          go_region_held3 (fun w' => Fc.Old wr w') (first | exact Fc.Old.drew wr | exact Fc.Old.step (by with_reducible assumption) (by with_reducible assumption) | with_reducible assumption)
            (first
              | (go_at_call 53; (with_reducible refine (HA.out _ (by with_reducible assumption)).mono ?_); rintro e w5 ⟨rfl, hb5⟩))
          have hO : Fc.Old wr w5 := by with_reducible assumption
          have HB5 := Lib.hid (hbx.out.next hO.out)
          clear e0 e1 e2 e3 e4 t0 t1 hb5 hO HA hbx
          cases r with
          | true =>
            have HD : Hid (∀ j, j < k + 1 → ∀ y, ks[j]? = some y → E y = true) := fun j hj y2 hy2 => by
              by_cases e : j = k
              · subst e
                rw [HY.out.1] at hy2
                obtain rfl := Option.some.inj hy2
                exact HY.out.2.symm
              · exact hd.out j (by omega) y2 hy2
            clear hd
            go_wp2_with fail
            go_roundw
            case rel => exact ⟨k + 1, by omega, by go_num, HD, HB5⟩
            case measure => simp [intOf]; omega
          | false =>
            have hzr : z = false := by
              rw [HZE.out, Fm.any_at HY.out.1 (by rw [← HY.out.2]; rfl)]; rfl
            subst hzr
            clear hd
            go_wp2_with fail
            go_ret
            exact ⟨rfl, HB5.out.2.2⟩
        · obtain rfl : k = m := by omega
          have hki : ¬ (k : Int) < (k : Int) := by omega
          have hzt : z = true := by
            rw [HZE.out, Fm.any_none (fun y hy => ?_)]
            · rfl
            · obtain ⟨j, hj, e⟩ := List.getElem_of_mem hy
              rw [hd.out j (by rw [HM.out]; exact hj) y (by rw [List.getElem?_eq_getElem hj, e])]; rfl
          subst hzt
          clear hd
          go_wp2_with fail
          go_ret
          exact ⟨rfl, hbx.out.2.2⟩
    · have HZE : Hid (z = ks.any E) := by show _ = _; rw [HZ.out, ← HAN.out]; rfl
      clear HZ HI HT HCV HAL HAN HWF hi3 hk5
      go_enter Try.func53, Try.ntmps53
      go_upto_region 17 with fail
      rw [← hW2]
      clear hW2 q0 q1 q2 q3 q4 q5
      go_wp2_with fail
      go_loopw [10] (fun i wr => ∃ k : Nat, k ≤ m ∧ i = .int .i64 k ∧ Hid (∀ j, j < k → ∀ y, ks[j]? = some y → E y = false) ∧ Hid (Fm.DBox w (.mk 7 x cm n ks) (.slice a m c0) (.slice va vn vc) wr)) (fun i _ => m - (intOf i).toNat)
      case atStart => exact ⟨0, Nat.zero_le _, rfl, fun j hj => absurd hj (by omega), HB2⟩
      case round =>
        obtain ⟨k, hk, rfl, hd, hbx⟩ := hrel
        clear HB2
        have b4 := Joins.cell_of_block hbx.out.1 4
        have b5 := Joins.cell_of_block hbx.out.2.1 0
        by_cases hlt : k < m
        · have hki : (k : Int) < (m : Int) := by omega
          have hk0 : (0 : Int) ≤ (k : Int) := by omega
          obtain ⟨y, hy⟩ : ∃ y, ks[k]? = some y := ⟨_, List.getElem?_eq_getElem (by rw [← HM.out]; exact hlt)⟩
          obtain ⟨rfl, hg⟩ := HG.out (by omega)
          obtain ⟨v, p0, p1, p2, p3, p4, hv⟩ := HC.out k y hy
          have hbw := hbx.out.2.2
          have hgz : g < wr.heap.size := Nat.lt_of_lt_of_le hg hbw.size
          have hz0 : w.heap.size < wr.heap.size := (Array.getElem?_eq_some_iff.1 hbx.out.1).1
          have hz1 : w.heap.size + 1 < wr.heap.size := (Array.getElem?_eq_some_iff.1 hbx.out.2.1).1
          have e0 : ∀ w', Fc.Old wr w' → w'.cell? ⟨g, o + k * 5, none⟩ = some (.int .i64 y.op) := fun w' h => h.cell hgz ((hbw.cell (p := ⟨g, o + k * 5, none⟩) hg).trans p0)
          have e1 : ∀ w', Fc.Old wr w' → w'.cell? ⟨g, o + k * 5 + 1, none⟩ = some (.string (Lx.str y.name)) := fun w' h => h.cell hgz ((hbw.cell (p := ⟨g, o + k * 5 + 1, none⟩) hg).trans p1)
          have e2 : ∀ w', Fc.Old wr w' → w'.cell? ⟨g, o + k * 5 + 2, none⟩ = some (.int .i64 y.cmp) := fun w' h => h.cell hgz ((hbw.cell (p := ⟨g, o + k * 5 + 2, none⟩) hg).trans p2)
          have e3 : ∀ w', Fc.Old wr w' → w'.cell? ⟨g, o + k * 5 + 3, none⟩ = some (.int .i64 y.num) := fun w' h => h.cell hgz ((hbw.cell (p := ⟨g, o + k * 5 + 3, none⟩) hg).trans p3)
          have e4 : ∀ w', Fc.Old wr w' → w'.cell? ⟨g, o + k * 5 + 4, none⟩ = some v := fun w' h => h.cell hgz ((hbw.cell (p := ⟨g, o + k * 5 + 4, none⟩) hg).trans p4)
          have t0 : ∀ w', Fc.Old wr w' → w'.cell? ⟨w.heap.size, 4, none⟩ = some (.slice (some ⟨g, o, none⟩) m c0) := fun w' h => h.cell hz0 b4
          have t1 : ∀ w', Fc.Old wr w' → w'.cell? ⟨w.heap.size + 1, 0, none⟩ = some (.slice va vn vc) := fun w' h => h.cell hz1 b5
          obtain ⟨r, hr⟩ : ∃ r, r = E y := ⟨_, rfl⟩
          have HA : Hid (∀ W, Fc.Old wr W → Calls Try.prog 53 #[Fm.fv y v, .agg #[.slice va vn vc], .slice ca cn cc, .slice ta tn tc] W fun e w' => e = .returned (.bool r) ∧ Below W.heap.size W w') := fun W h => by
            have hbb := hbw.trans (h.out.mono hbw.size)
            rw [hr]
            exact HIH.out y (List.mem_of_getElem? hy) v W hbb (hv.below hbb)
          have HY := Lib.hid (And.intro hy hr)
          clear hy hv hbw p0 p1 p2 p3 p4 hr
          go_wp2_with fail
          clear b4 b5
          go_region_held3 (fun w' => Fc.Old wr w') (first | exact Fc.Old.drew wr | exact Fc.Old.step (by with_reducible assumption) (by with_reducible assumption) | with_reducible assumption)
            (first
              | (go_at_call 53; (with_reducible refine (HA.out _ (by with_reducible assumption)).mono ?_); rintro e w5 ⟨rfl, hb5⟩))
          have hO : Fc.Old wr w5 := by with_reducible assumption
          have HB5 := Lib.hid (hbx.out.next hO.out)
          clear e0 e1 e2 e3 e4 t0 t1 hb5 hO HA hbx
          cases r with
          | false =>
            have HD : Hid (∀ j, j < k + 1 → ∀ y, ks[j]? = some y → E y = false) := fun j hj y2 hy2 => by
              by_cases e : j = k
              · subst e
                rw [HY.out.1] at hy2
                obtain rfl := Option.some.inj hy2
                exact HY.out.2.symm
              · exact hd.out j (by omega) y2 hy2
            clear hd
            go_wp2_with fail
            go_roundw
            case rel => exact ⟨k + 1, by omega, by go_num, HD, HB5⟩
            case measure => simp [intOf]; omega
          | true =>
            have hzr : z = true := by
              rw [HZE.out, Fm.any_at HY.out.1 (by exact HY.out.2.symm)]
            subst hzr
            clear hd
            go_wp2_with fail
            go_ret
            exact ⟨rfl, HB5.out.2.2⟩
        · obtain rfl : k = m := by omega
          have hki : ¬ (k : Int) < (k : Int) := by omega
          have hzt : z = false := by
            rw [HZE.out, Fm.any_none (fun y hy => ?_)]
            obtain ⟨j, hj, e⟩ := List.getElem_of_mem hy
            exact hd.out j (by rw [HM.out]; exact hj) y (by rw [List.getElem?_eq_getElem hj, e])
          subst hzt
          clear hd
          go_wp2_with fail
          go_ret
          exact ⟨rfl, hbx.out.2.2⟩
end Go.Proofs.Ytjcaingfeaaakaa
/-
  The reference of layer 7: Check, Formed, Fits, Holds.
-/
namespace Go.Proofs.Ytjcaingfeaaakaa
open Go.RowKit

set_option maxHeartbeats 2000000 in
set_option maxRecDepth 100000 in
theorem r7check_walk (f : Fm.Fo) (u v t : Value) (d : List Fc.Fact) (l : List Fm.T) (w : World) (hat : Fm.At w f u) (hs : Fm.size f ≤ 4611686018427387900) (hd : Fc.IsF w v d) (ht : Fm.IsT w t l) :
    Calls Try.prog 16 #[Fm.fv f u, .agg #[v], t] w fun e w' => e = .returned (.int .i64 (Fm.check Fc.isNm (Fm.fs d) (Fm.has l) f : Nat)) ∧ Below w.heap.size w w' := by
  rw [Fm.check_small]
  obtain ⟨ua, un, uc, hu⟩ : ∃ a n c, u = .slice a n c := by obtain ⟨a, c, e, _⟩ := hat.kidsAt.len; exact ⟨_, _, _, e⟩
  obtain ⟨va, vn, vc, hv⟩ : ∃ a n c, v = .slice a n c := by obtain ⟨a, c, e, _⟩ := hd.form; exact ⟨_, _, _, e⟩
  obtain ⟨ta, tn, tc, htt⟩ : ∃ a n c, t = .slice a n c := by obtain ⟨a, c, _, _, e, _⟩ := ht.any; exact ⟨_, _, _, e⟩
  subst hu hv htt
  obtain ⟨W2, hW2⟩ : ∃ W2, W2 = (w.alloc (.cells #[.int .i64 f.op, .string (Lx.str f.name), .int .i64 f.cmp, .int .i64 f.num, .slice ua un uc] 24)).alloc (.cells #[.slice va vn vc] 27) := ⟨_, rfl⟩
  have hB2 : Fm.DBox w f (.slice ua un uc) (.slice va vn vc) W2 := by rw [hW2]; exact Fm.DBox.start _ _ _ _
  have HL := Lib.hid (large_walk f _ W2 hs (hat.below hB2.2.2))
  obtain ⟨b, hb⟩ : ∃ b, b = Fm.small f := ⟨_, rfl⟩
  rw [← hb] at HL ⊢
  obtain ⟨E, hE⟩ : ∃ E, E = Fm.errs Fc.isNm (Fm.fs d) (Fm.has l) f := ⟨_, rfl⟩
  rw [← hE]
  have HN : Hid (∀ W, Below w.heap.size w W → Calls Try.prog 41 #[Fm.fv f (.slice ua un uc), .agg #[.slice va vn vc], .slice ta tn tc, .bool false] W fun e w' => e = .returned (.int .i64 (E : Nat)) ∧ Below W.heap.size W w') := fun W hW => by
    rw [hE]
    exact r7node_walk (Fm.size f) f _ _ _ d l false W (Nat.le_refl _) (hat.below hW) (hd.below hW) (ht.below hW)
  have HB2 := Lib.hid hB2
  clear hat hs hd ht hB2 hb hE
  go_enter Try.func16, Try.ntmps16
  go_wp2_with fail
  rw [← hW2]
  refine HL.out.mono ?_
  rintro e w3 ⟨rfl, hb3⟩
  have hb3' := HB2.out.next hb3
  have q0 := Joins.cell_of_block hb3'.1 0
  have q1 := Joins.cell_of_block hb3'.1 1
  have q2 := Joins.cell_of_block hb3'.1 2
  have q3 := Joins.cell_of_block hb3'.1 3
  have q4 := Joins.cell_of_block hb3'.1 4
  have q5 := Joins.cell_of_block hb3'.2.1 0
  have HB3 := Lib.hid hb3'
  clear hb3 hb3' HL HB2 hW2
  cases b with
  | false =>
    clear q0 q1 q2 q3 q4 q5 HN
    go_wp2_with fail
    go_ret
    exact ⟨rfl, HB3.out.2.2⟩
  | true =>
    go_wp2_with fail
    refine (HN.out _ HB3.out.2.2).mono ?_
    rintro e w4 ⟨rfl, hb4⟩
    have HB4 := Lib.hid (HB3.out.next hb4)
    clear hb4 q0 q1 q2 q3 q4 q5
    go_wp2_with fail
    go_ret
    exact ⟨rfl, HB4.out.2.2⟩

set_option maxHeartbeats 2000000 in
set_option maxRecDepth 100000 in
theorem r7formedf_walk (f : Fm.Fo) (u v : Value) (d : List Fc.Fact) (w : World) (hat : Fm.At w f u) (hs : Fm.size f ≤ 4611686018427387900) (hd : Fc.IsF w v d) :
    Calls Try.prog 51 #[Fm.fv f u, .agg #[v]] w fun e w' => e = .returned (.bool (decide (Fm.formed d f = 0))) ∧ Below w.heap.size w w' := by
  obtain ⟨z, hz⟩ : ∃ z, z = decide (Fm.formed d f = 0) := ⟨_, rfl⟩
  rw [← hz]
  rw [Fm.formed, Fm.check_small] at hz
  obtain ⟨ua, un, uc, hu⟩ : ∃ a n c, u = .slice a n c := by obtain ⟨a, c, e, _⟩ := hat.kidsAt.len; exact ⟨_, _, _, e⟩
  obtain ⟨va, vn, vc, hv⟩ : ∃ a n c, v = .slice a n c := by obtain ⟨a, c, e, _⟩ := hd.form; exact ⟨_, _, _, e⟩
  subst hu hv
  obtain ⟨W2, hW2⟩ : ∃ W2, W2 = (w.alloc (.cells #[.int .i64 f.op, .string (Lx.str f.name), .int .i64 f.cmp, .int .i64 f.num, .slice ua un uc] 24)).alloc (.cells #[.slice va vn vc] 27) := ⟨_, rfl⟩
  have hB2 : Fm.DBox w f (.slice ua un uc) (.slice va vn vc) W2 := by rw [hW2]; exact Fm.DBox.start _ _ _ _
  have HL := Lib.hid (large_walk f _ W2 hs (hat.below hB2.2.2))
  obtain ⟨b, hb⟩ : ∃ b, b = Fm.small f := ⟨_, rfl⟩
  rw [← hb] at HL hz
  obtain ⟨E, hE⟩ : ∃ E, E = Fm.errs Fc.isNm (Fm.fs d) (fun _ => true) f := ⟨_, rfl⟩
  rw [← hE] at hz
  have HN : Hid (∀ W, Below w.heap.size w W → Calls Try.prog 41 #[Fm.fv f (.slice ua un uc), .agg #[.slice va vn vc], .slice none 0 0, .bool true] W fun e w' => e = .returned (.int .i64 (E : Nat)) ∧ Below W.heap.size W w') := fun W hW => by
    rw [hE]
    exact r7node_walk (Fm.size f) f _ _ _ d [] true W (Nat.le_refl _) (hat.below hW) (hd.below hW) (Fm.IsT.nil W)
  have HB2 := Lib.hid hB2
  have HZ := Lib.hid hz
  clear hat hs hd hB2 hb hE hz
  go_enter Try.func51, Try.ntmps51
  go_wp2_with fail
  rw [← hW2]
  refine HL.out.mono ?_
  rintro e w3 ⟨rfl, hb3⟩
  have hb3' := HB2.out.next hb3
  have q0 := Joins.cell_of_block hb3'.1 0
  have q1 := Joins.cell_of_block hb3'.1 1
  have q2 := Joins.cell_of_block hb3'.1 2
  have q3 := Joins.cell_of_block hb3'.1 3
  have q4 := Joins.cell_of_block hb3'.1 4
  have q5 := Joins.cell_of_block hb3'.2.1 0
  have HB3 := Lib.hid hb3'
  clear hb3 hb3' HL HB2 hW2
  cases b with
  | false =>
    have hzf : z = false := by rw [HZ.out]; rfl
    subst hzf
    clear q0 q1 q2 q3 q4 q5 HN HZ
    go_wp2_with fail
    go_ret
    exact ⟨rfl, HB3.out.2.2⟩
  | true =>
    have hzf : z = decide (E = 0) := by rw [HZ.out]; rfl
    have HZ2 := Lib.hid hzf
    clear hzf HZ
    go_wp2_with fail
    refine (HN.out _ HB3.out.2.2).mono ?_
    rintro e w4 ⟨rfl, hb4⟩
    have HB4 := Lib.hid (HB3.out.next hb4)
    clear hb4 q0 q1 q2 q3 q4 q5
    go_wp2_with fail
    go_ret
    refine ⟨Lx.ret_bool ?_, HB4.out.2.2⟩
    rw [HZ2.out, Bool.eq_iff_iff]; simp

set_option maxHeartbeats 8000000 in
set_option maxRecDepth 100000 in
theorem r7fits_walk (v u : Value) (l : List Fc.Fact) (m : List Int) (w : World) (hv : Fc.IsF w v l) (hu : Fc.IsN w u m) :
    Calls Try.prog 52 #[.agg #[v], u] w fun e w' => e = .returned (.bool (Fc.within l m)) ∧ Below w.heap.size w w' := by
  obtain ⟨z, hz⟩ : ∃ z, z = Fc.within l m := ⟨_, rfl⟩
  rw [← hz]
  obtain ⟨a, c, g, o, rfl, hc1, hc2, hga, hcl⟩ := hv.any
  obtain ⟨a2, c2, g2, o2, rfl, hd1, hd2, hgb, hcm⟩ := hu.any
  have hga2 : 0 < l.length → a = some ⟨g, o, none⟩ ∧ g < w.heap.size := fun h => hga (by rintro rfl; simp at h)
  have hgb2 : 0 < m.length → a2 = some ⟨g2, o2, none⟩ ∧ g2 < w.heap.size := fun h => hgb (by rintro rfl; simp at h)
  obtain ⟨n, hn⟩ : ∃ n, n = l.length := ⟨_, rfl⟩
  obtain ⟨n2, hn2⟩ : ∃ n, n = m.length := ⟨_, rfl⟩
  rw [← hn] at hga2 ⊢
  rw [← hn2] at hgb2 hcm ⊢
  have HC := Lib.hid hcl
  have HM := Lib.hid hcm
  have HG := Lib.hid hga2
  have HG2 := Lib.hid hgb2
  have HL := Lib.hid (And.intro hn hn2)
  have HZ := Lib.hid hz
  have HB0 := Lib.hid (Boxed.start w (.slice a n c))
  have hnb : n ≤ 9223372036854775807 := by rw [hn]; omega
  have hnb2 : n2 ≤ 9223372036854775807 := by rw [hn2]; omega
  clear hv hu hcl hcm hga hgb hga2 hgb2 hz hc1 hc2 hd1 hd2 hn hn2
  go_enter Try.func52, Try.ntmps52
  by_cases hlen : n2 = n
  case neg =>
    have hzf : z = false := by
      rw [HZ.out, Bool.eq_false_iff]
      intro h
      have := Fc.within_len h
      rw [← HL.out.1, ← HL.out.2] at this; exact hlen this
    subst hzf
    have hne : ((n2 : Int) != (n : Int)) = true := by rw [bne_iff_ne]; omega
    go_wp2_with fail
    go_ret
    exact ⟨rfl, HB0.out.below⟩
  case pos =>
    subst hlen
    have hne : ((n2 : Int) != (n2 : Int)) = false := by simp
    have HPW : Hid (z = true ↔ Fc.WTo l m n2) := (by rw [HZ.out, HL.out.1, Fc.WTo.all (by rw [← HL.out.2, HL.out.1])] : z = true ↔ Fc.WTo l m n2)
    clear HZ
    go_wp2_with fail
    go_loopw [5] (fun i wr => ∃ k : Nat, k ≤ n2 ∧ i = .int .i64 k ∧ Hid (Fc.WTo l m k) ∧ Hid (Boxed w (.slice a n2 c) wr)) (fun i _ => n2 - (intOf i).toNat)
    case atStart => exact ⟨0, Nat.zero_le _, rfl, fun j hj => absurd hj (by omega), HB0.out⟩
    case round =>
      obtain ⟨k, hk, rfl, hd, hbw⟩ := hrel
      clear HB0
      by_cases hlt : k < n2
      · have hki : (k : Int) < (n2 : Int) := by omega
        have hk0 : (0 : Int) ≤ (k : Int) := by omega
        obtain ⟨f, hf⟩ : ∃ f, l[k]? = some f := ⟨_, List.getElem?_eq_getElem (by rw [← HL.out.1]; exact hlt)⟩
        obtain ⟨rfl, hg⟩ := HG.out (by omega)
        obtain ⟨rfl, hg2⟩ := HG2.out (by omega)
        obtain ⟨_, _, p2, p3⟩ := HC.out k f hf
        have hbd := hbw.out.below
        have b1 : wr.cell? ⟨w.heap.size, 0, none⟩ = some (.slice (some ⟨g, o, none⟩) n2 c) := hbw.out.cell
        have p2 : wr.cell? ⟨g, o + k * 4 + 2, none⟩ = some (.int .i64 f.lo) := (hbd.cell (p := ⟨g, o + k * 4 + 2, none⟩) hg).trans p2
        have p3 : wr.cell? ⟨g, o + k * 4 + 3, none⟩ = some (.int .i64 f.hi) := (hbd.cell (p := ⟨g, o + k * 4 + 3, none⟩) hg).trans p3
        obtain ⟨x, hx⟩ : ∃ x, m.getD k 0 = x := ⟨_, rfl⟩
        have p4 : wr.cell? ⟨g2, o2 + k, none⟩ = some (.int .i64 x) := by have := (hbd.cell (p := ⟨g2, o2 + k, none⟩) hg2).trans (HM.out k hlt); rwa [hx] at this
        have HD := Lib.hid (fun hb => hd.out.succ hf hx hb)
        have HK : Hid (z = true → f.lo ≤ x ∧ x ≤ f.hi) := fun h => by have := HPW.out.1 h k hlt f hf; rwa [hx] at this
        have HXW : Hid (∀ q, Boxed w (.slice (some ⟨g, o, none⟩) n2 c) (wr.drewN q)) := fun q => hbw.out.next (Joins.below_draws _ _ q)
        obtain ⟨lo, hlo⟩ : ∃ z, z = f.lo := ⟨_, rfl⟩
        obtain ⟨hi, hhi⟩ : ∃ z, z = f.hi := ⟨_, rfl⟩
        rw [← hlo] at p2 HD HK
        rw [← hhi] at p3 HD HK
        clear hf hx hd hbd hbw hlo hhi
        by_cases h1 : x < lo
        · have e1 : decide (x < lo) = true := decide_eq_true h1
          have hzf : z = false := by rw [Bool.eq_false_iff]; intro h; have := HK.out h; omega
          clear HPW HD HK
          subst hzf
          go_wp2_with fail
          go_quiet (fail)
          go_wp2_with fail
          go_ret
          exact ⟨rfl, (HXW.out _).below⟩
        · have e1 : decide (x < lo) = false := decide_eq_false h1
          by_cases h2 : hi < x
          · have e2 : decide (hi < x) = true := decide_eq_true h2
            have hzf : z = false := by rw [Bool.eq_false_iff]; intro h; have := HK.out h; omega
            clear HPW HD HK
            subst hzf
            go_wp2_with fail
            go_quiet (fail)
            go_wp2_with fail
            go_ret
            exact ⟨rfl, (HXW.out _).below⟩
          · have e2 : decide (hi < x) = false := decide_eq_false h2
            have HK2 := Lib.hid (HD.out ⟨by omega, by omega⟩)
            clear HD HK
            go_wp2_with fail
            go_quiet (fail)
            go_wp2_with fail
            go_roundw
            case rel => exact ⟨k + 1, by omega, by go_num, HK2, HXW.out _⟩
            case measure => simp [intOf]; omega
      · have hki : ¬ (k : Int) < (n2 : Int) := by omega
        have hzt := HPW.out.2 (by have := hd.out; rwa [show k = n2 by omega] at this)
        clear HPW hd
        subst hzt
        go_wp2_with fail
        go_ret
        exact ⟨rfl, hbw.out.below⟩

set_option maxHeartbeats 4000000 in
set_option maxRecDepth 100000 in
/-- Where the domain is valid the reference's Holds says what Holds does. -/
theorem r7holds_walk (f : Fm.Fo) (u v cv t : Value) (d : List Fc.Fact) (c : List Int) (l : List Fm.T) (w : World) (hat : Fm.At w f u) (hs : Fm.size f ≤ 4611686018427387900) (hd : Fc.IsF w v d) (hval : Fc.Valid d) (hc : Fc.IsN w cv c) (ht : Fm.IsT w t l) :
    Calls Try.prog 26 #[Fm.fv f u, .agg #[v], cv, t] w fun e w' => e = .returned (.bool (Fm.holdsB d c l f)) ∧ Below w.heap.size w w' := by
  obtain ⟨ua, un, uc, hu⟩ : ∃ a n c, u = .slice a n c := by obtain ⟨a, c, e, _⟩ := hat.kidsAt.len; exact ⟨_, _, _, e⟩
  obtain ⟨va, vn, vc, hv⟩ : ∃ a n c, v = .slice a n c := by obtain ⟨a, c, e, _⟩ := hd.form; exact ⟨_, _, _, e⟩
  obtain ⟨ta, tn, tc, htt⟩ : ∃ a n c, t = .slice a n c := by obtain ⟨a, c, _, _, e, _⟩ := ht.any; exact ⟨_, _, _, e⟩
  obtain ⟨ca, cn, cc, hcv⟩ : ∃ a n c, cv = .slice a n c := by obtain ⟨a, c, _, _, e, _⟩ := hc.any; exact ⟨_, _, _, e⟩
  subst hu hv htt hcv
  obtain ⟨W2, hW2⟩ : ∃ W2, W2 = (w.alloc (.cells #[.int .i64 f.op, .string (Lx.str f.name), .int .i64 f.cmp, .int .i64 f.num, .slice ua un uc] 24)).alloc (.cells #[.slice va vn vc] 27) := ⟨_, rfl⟩
  have hB2 : Fm.DBox w f (.slice ua un uc) (.slice va vn vc) W2 := by rw [hW2]; exact Fm.DBox.start _ _ _ _
  obtain ⟨z, hz⟩ : ∃ z, z = Fm.holdsB d c l f := ⟨_, rfl⟩
  obtain ⟨b, hbw⟩ : ∃ b, b = Fc.within d c := ⟨_, rfl⟩
  obtain ⟨q, hq⟩ : ∃ q, q = decide (Fm.formed d f = 0) := ⟨_, rfl⟩
  rw [← hz]
  have HF := Lib.hid (r7formedf_walk f _ _ d W2 (hat.below hB2.2.2) hs (hd.below hB2.2.2))
  rw [← hq] at HF
  have HFit : Hid (∀ W, Below w.heap.size w W → Calls Try.prog 52 #[.agg #[.slice va vn vc], .slice ca cn cc] W fun e w' => e = .returned (.bool b) ∧ Below W.heap.size W w') := fun W hW => by rw [hbw]; exact r7fits_walk _ _ d c W (hd.below hW) (hc.below hW)
  have HV : Hid (b = true → q = true → ∀ W, Below w.heap.size w W → Calls Try.prog 53 #[Fm.fv f (.slice ua un uc), .agg #[.slice va vn vc], .slice ca cn cc, .slice ta tn tc] W fun e w' => e = .returned (.bool z) ∧ Below W.heap.size W w') := fun h1 h2 W hW => by
    rw [hbw] at h1
    rw [hq, decide_eq_true_iff] at h2
    rw [hz, Fm.holdsB_yes ⟨hval, h1⟩ h2]
    exact r7value_walk (Fm.size f) d c l (fun _ => true) f _ _ _ _ W (Nat.le_refl _) (Fm.check_errs h2) (hat.below hW) (hd.below hW) (hc.below hW) (Fc.within_len h1) (ht.below hW)
  have HZ1 : Hid (b = false → z = false) := fun h => by rw [hz]; exact Fm.holdsB_nofit (fun hf => by rw [hbw] at h; rw [hf.2] at h; cases h)
  have HZ2 : Hid (q = false → z = false) := fun h => by rw [hz]; exact Fm.holdsB_bad (by rw [hq, decide_eq_false_iff_not] at h; exact h)
  have HB2 := Lib.hid hB2
  have q0 := Joins.cell_of_block hB2.1 0
  clear hat hs hd hc ht hB2 hz hbw hq hval q0
  go_enter Try.func26, Try.ntmps26
  go_wp2_with fail
  rw [← hW2]
  refine HF.out.mono ?_
  rintro e w3 ⟨rfl, hb3⟩
  have HB3 := Lib.hid (HB2.out.next hb3)
  clear hb3 HF HB2 hW2
  cases q with
  | false =>
    have hzf := HZ2.out rfl
    subst hzf
    clear HFit HV HZ1 HZ2
    go_wp2_with fail
    go_ret
    exact ⟨rfl, HB3.out.2.2⟩
  | true =>
    have q5 := Joins.cell_of_block HB3.out.2.1 0
    go_wp2_with fail
    refine (HFit.out _ HB3.out.2.2).mono ?_
    rintro e w4 ⟨rfl, hb4⟩
    have HB4 := Lib.hid (HB3.out.next hb4)
    clear hb4 q5 HFit HZ2
    cases b with
    | false =>
      have hzf := HZ1.out rfl
      subst hzf
      clear HV HZ1
      go_wp2_with fail
      go_ret
      exact ⟨rfl, HB4.out.2.2⟩
    | true =>
      have HVV := Lib.hid (HV.out (by first | rfl | trivial) (by first | rfl | trivial))
      have q0 := Joins.cell_of_block HB4.out.1 0
      have q1 := Joins.cell_of_block HB4.out.1 1
      have q2 := Joins.cell_of_block HB4.out.1 2
      have q3 := Joins.cell_of_block HB4.out.1 3
      have q4 := Joins.cell_of_block HB4.out.1 4
      have q5 := Joins.cell_of_block HB4.out.2.1 0
      clear HV HZ1
      go_wp2_with fail
      refine (HVV.out _ HB4.out.2.2).mono ?_
      rintro e w5 ⟨rfl, hb5⟩
      have HB5 := Lib.hid (HB4.out.next hb5)
      clear hb5 q0 q1 q2 q3 q4 q5
      go_wp2_with fail
      go_ret
      exact ⟨rfl, HB5.out.2.2⟩
end Go.Proofs.Ytjcaingfeaaakaa
