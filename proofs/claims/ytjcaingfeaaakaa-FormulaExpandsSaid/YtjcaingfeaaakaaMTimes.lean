/-
  The walks of pandectref07.Times and of the law's plain.
-/
import Derived.Test.YtjcaingfeaaakaaMRefA
import Derived.Test.YtjcaingfeaaakaaMTexts
namespace Go.Proofs.Ytjcaingfeaaakaa
open Go.RowKit

namespace Fm
mutual
/-- How often a term occurs, as the reference counts. -/
def tmo (x : T) : Fo → Nat
  | .mk o y _ _ ks => (if o = 4 ∧ y = x then 1 else 0) + tmoL x ks
def tmoL (x : T) : List Fo → Nat
  | [] => 0
  | k :: ks => tmo x k + tmoL x ks
end
theorem tmo_eq (x : T) (f : Fo) : tmo x f = (if f.op = 4 ∧ f.name = x then 1 else 0) + tmoL x f.kids := by obtain ⟨o, y, c, n, ks⟩ := f; rw [tmo]; rfl
theorem tmoL_append (x : T) : ∀ (a b : List Fo), tmoL x (a ++ b) = tmoL x a + tmoL x b
  | [], b => by rw [List.nil_append, tmoL]; omega
  | k :: a, b => by rw [List.cons_append, tmoL, tmoL, tmoL_append x a b]; omega
theorem tmoL_take (x : T) {ks : List Fo} {i : Nat} {k : Fo} (h : ks[i]? = some k) : tmoL x (ks.take (i + 1)) = tmoL x (ks.take i) + tmo x k := by
  obtain ⟨hi, rfl⟩ := List.getElem?_eq_some_iff.1 h
  rw [List.take_add_one, h, tmoL_append]
  simp [tmoL]
mutual
theorem tmo_le (x : T) : ∀ f, tmo x f ≤ size f
  | .mk o y _ _ ks => by rw [tmo, size]; have := tmoL_le x ks; split <;> omega
theorem tmoL_le (x : T) : ∀ ks, tmoL x ks ≤ sizeL ks
  | [] => by rw [tmoL]; omega
  | k :: ks => by rw [tmoL, sizeL]; have := tmo_le x k; have := tmoL_le x ks; omega
end
mutual
theorem tmo_times (x : T) : ∀ f, plain f = true → tmo x f = times x f
  | .mk o y cmp n ks, hp => by
    rw [tmo, times]
    rw [plain] at hp
    by_cases h4 : o = 4
    · rw [if_pos h4] at hp
      have hk : ks = [] := by
        cases ks with
        | nil => rfl
        | cons k ks => simp at hp
      subst hk
      rw [tmoL, timesL]
      split <;> rfl
    · rw [if_neg h4] at hp
      rw [if_neg (fun h => h4 h.1), if_neg (fun h => h4 h.1), tmoL_times x ks hp]
      omega
theorem tmoL_times (x : T) : ∀ ks, plainL ks = true → tmoL x ks = timesL x ks
  | [], _ => rfl
  | k :: ks, hp => by
    rw [plainL, Bool.and_eq_true] at hp
    rw [tmoL, timesL, tmo_times x k hp.1, tmoL_times x ks hp.2]
end
theorem plain_eq (f : Fo) : plain f = if f.op = 4 then f.kids.isEmpty && decide (f.cmp = 0) && decide (f.num = 0) else plainL f.kids := by obtain ⟨o, y, c, n, ks⟩ := f; rw [plain]; rfl
theorem plainL_all : ∀ {ks : List Fo}, (∀ k ∈ ks, plain k = true) → plainL ks = true
  | [], _ => rfl
  | k :: ks, h => by rw [plainL, h k (by simp), plainL_all (fun k hk => h k (by simp [hk]))]; rfl
theorem plainL_no : ∀ {ks : List Fo} {k : Fo}, k ∈ ks → plain k = false → plainL ks = false
  | y :: ks, k, h, hk => by
    rw [plainL]
    rcases List.mem_cons.1 h with rfl | h
    · rw [hk]; rfl
    · rw [plainL_no h hk, Bool.and_false]
end Fm

set_option maxHeartbeats 4000000 in
set_option maxRecDepth 100000 in
theorem times_walk : ∀ (s : Nat) (f : Fm.Fo) (u : Value) (x : Fm.T) (w : World), Fm.size f ≤ s → Fm.size f ≤ 1000000 → Fm.At w f u →
    Calls Try.prog 34 #[Fm.fv f u, .string (Lx.str x)] w fun e w' => e = .returned (.int .i64 (Fm.tmo x f : Nat)) ∧ Below w.heap.size w w' := by
  intro s
  induction s with
  | zero => intro f u x w hs; have := Fm.size_pos f; omega
  | succ s ih =>
    intro f u x w hs hm hat
    have hsz := Fm.size_eq f
    have htq := Fm.tmo_eq x f
    obtain ⟨a, c, g, o, rfl, hc1, hc2, hga, hcl⟩ := hat.kidsAt.any
    obtain ⟨K, hK⟩ : ∃ K, K = f.kids := ⟨_, rfl⟩
    rw [← hK] at hsz hc1 hga hcl htq
    obtain ⟨n, hn⟩ : ∃ n, n = K.length := ⟨_, rfl⟩
    have HB0 := Lib.hid (Fm.FBox.start w f (.slice a f.kids.length c))
    rw [← hK, ← hn] at HB0 ⊢
    have hga2 : 0 < n → a = some ⟨g, o, none⟩ ∧ g < w.heap.size := fun h => hga (by rintro rfl; rw [hn] at h; simp at h)
    rw [← hn] at hc1
    obtain ⟨z, hz⟩ : ∃ z, z = Fm.tmo x f := ⟨_, rfl⟩
    rw [← hz] at htq ⊢
    obtain ⟨b, hb⟩ : ∃ b : Nat, b = if f.op = 4 ∧ f.name = x then 1 else 0 := ⟨_, rfl⟩
    rw [← hb] at htq
    have hb1 : b ≤ 1 := by rw [hb]; split <;> omega
    have HZ := Lib.hid htq
    have HC := Lib.hid hcl
    have HG := Lib.hid hga2
    have HN := Lib.hid hn
    have HM := Lib.hid (show b + Fm.sizeL K ≤ 1000001 by omega)
    obtain ⟨sx, hsx⟩ : ∃ s, s = Lx.str x := ⟨_, rfl⟩
    have hx := Fm.str_eq f.name x
    rw [← hsx] at hx
    rw [← hsx]
    have HIH : Hid (∀ k ∈ K, ∀ v W, Fm.At W k v → Calls Try.prog 34 #[Fm.fv k v, .string sx] W fun e w' => e = .returned (.int .i64 (Fm.tmo x k : Nat)) ∧ Below W.heap.size W w') := fun k hk v W hv => by
      rw [hsx]
      exact ih k v x W (by have := Fm.size_mem hk; omega) (by have := Fm.size_mem hk; omega) hv
    have HEND : ∀ tmps : Array Value, True := fun _ => trivial
    have hcase : (b = 1 ∧ (f.op == 4) = true ∧ ((Lx.str f.name).toList == sx.toList) = true) ∨ (b = 0 ∧ (f.op == 4) = true ∧ ((Lx.str f.name).toList == sx.toList) = false) ∨ (b = 0 ∧ (f.op == 4) = false) := by
      by_cases h4 : f.op = 4
      · by_cases hnm : f.name = x
        · left; exact ⟨by rw [hb, if_pos ⟨h4, hnm⟩], by rw [beq_iff_eq]; exact h4, by rw [hx]; simpa using hnm⟩
        · right; left; exact ⟨by rw [hb, if_neg (fun h => hnm h.2)], by rw [beq_iff_eq]; exact h4, by rw [hx]; simpa using hnm⟩
      · right; right; exact ⟨by rw [hb, if_neg (fun h => h4 h.1)], by rw [beq_eq_false_iff_ne]; exact h4⟩
    have HCASE := Lib.hid hcase
    clear hat hcl hga hga2 hn hz hsz hK hs ih htq hb hsx hx hcase HEND hm
    have q0 := Joins.cell_of_block HB0.out.1 0
    have q1 := Joins.cell_of_block HB0.out.1 1
    rcases HCASE.out with ⟨rfl, h4, hnm⟩ | ⟨rfl, h4, hnm⟩ | ⟨rfl, h4⟩
    · clear HCASE
      go_enter Try.func34, Try.ntmps34
      go_wp2_with fail
      clear q0 q1
      go_loopw [5, 6] (fun v i wr => ∃ k r : Nat, k ≤ n ∧ i = .int .i64 k ∧ v = .int .i64 (r : Nat) ∧ Hid (r = 1 + Fm.tmoL x (K.take k)) ∧ Hid (Fm.FBox w f (.slice a n c) wr)) (fun _ i _ => n - (intOf i).toNat)
      case atStart => exact ⟨0, 1, Nat.zero_le _, rfl, rfl, (by rw [List.take_zero, Fm.tmoL] : 1 = 1 + Fm.tmoL x (K.take 0)), HB0.out⟩
      case round =>
        obtain ⟨k, r, hk, rfl, rfl, hd, hbx⟩ := hrel
        have q4 := hbx.out.c4
        by_cases hlt : k < n
        · have hki : (k : Int) < (n : Int) := by omega
          obtain ⟨y, hy⟩ : ∃ y, K[k]? = some y := ⟨_, List.getElem?_eq_getElem (by rw [← HN.out]; exact hlt)⟩
          obtain ⟨rfl, hg⟩ := HG.out (by omega)
          obtain ⟨v, p0, p1, p2, p3, p4, hv⟩ := HC.out k y hy
          have hbw := hbx.out.2
          have p0 := (hbw.cell (p := ⟨g, o + k * 5, none⟩) hg).trans p0
          have p1 := (hbw.cell (p := ⟨g, o + k * 5 + 1, none⟩) hg).trans p1
          have p2 := (hbw.cell (p := ⟨g, o + k * 5 + 2, none⟩) hg).trans p2
          have p3 := (hbw.cell (p := ⟨g, o + k * 5 + 3, none⟩) hg).trans p3
          have p4 := (hbw.cell (p := ⟨g, o + k * 5 + 4, none⟩) hg).trans p4
          have HA := Lib.hid (HIH.out y (List.mem_of_getElem? hy) v wr (hv.below hbw))
          obtain ⟨t, ht⟩ : ∃ t, t = Fm.tmo x y := ⟨_, rfl⟩
          rw [← ht] at HA
          have HY : Hid (r + t = 1 + Fm.tmoL x (K.take (k + 1))) := by
            show _ = _
            rw [ht, Fm.tmoL_take x hy]
            have := hd.out
            omega
          have hrt : r + t ≤ 1000001 := by
            have h1 := HY.out
            have h2 := Fm.tmoL_le x (K.take (k + 1))
            have h3 := Fm.sizeL_split K (k + 1)
            have h4 := HM.out
            omega
          clear hy hv hbw ht
          go_wp2_with fail
          refine HA.out.mono ?_
          rintro e w1 ⟨rfl, hb1⟩
          have HB1 := Lib.hid (hbx.out.next hb1)
          clear p0 p1 p2 p3 p4 q4 hb1 HA hd
          go_wp2_with fail
          go_roundw
          case rel => exact ⟨k + 1, r + t, by omega, by go_num, by go_num, HY, HB1⟩
          case measure => simp [intOf]; omega
        · obtain rfl : k = n := by omega
          have hki : ¬ (k : Int) < (k : Int) := by omega
          have hzr : z = r := by
            rw [HZ.out, hd.out, HN.out, List.take_length]
          subst hzr
          clear hd
          go_wp2_with fail
          go_ret
          exact ⟨rfl, hbx.out.2⟩
    · clear HCASE
      go_enter Try.func34, Try.ntmps34
      go_wp2_with fail
      clear q0 q1
      go_loopw [5, 6] (fun v i wr => ∃ k r : Nat, k ≤ n ∧ i = .int .i64 k ∧ v = .int .i64 (r : Nat) ∧ Hid (r = 0 + Fm.tmoL x (K.take k)) ∧ Hid (Fm.FBox w f (.slice a n c) wr)) (fun _ i _ => n - (intOf i).toNat)
      case atStart => exact ⟨0, 0, Nat.zero_le _, rfl, rfl, (by rw [List.take_zero, Fm.tmoL] : 0 = 0 + Fm.tmoL x (K.take 0)), HB0.out⟩
      case round =>
        obtain ⟨k, r, hk, rfl, rfl, hd, hbx⟩ := hrel
        have q4 := hbx.out.c4
        by_cases hlt : k < n
        · have hki : (k : Int) < (n : Int) := by omega
          obtain ⟨y, hy⟩ : ∃ y, K[k]? = some y := ⟨_, List.getElem?_eq_getElem (by rw [← HN.out]; exact hlt)⟩
          obtain ⟨rfl, hg⟩ := HG.out (by omega)
          obtain ⟨v, p0, p1, p2, p3, p4, hv⟩ := HC.out k y hy
          have hbw := hbx.out.2
          have p0 := (hbw.cell (p := ⟨g, o + k * 5, none⟩) hg).trans p0
          have p1 := (hbw.cell (p := ⟨g, o + k * 5 + 1, none⟩) hg).trans p1
          have p2 := (hbw.cell (p := ⟨g, o + k * 5 + 2, none⟩) hg).trans p2
          have p3 := (hbw.cell (p := ⟨g, o + k * 5 + 3, none⟩) hg).trans p3
          have p4 := (hbw.cell (p := ⟨g, o + k * 5 + 4, none⟩) hg).trans p4
          have HA := Lib.hid (HIH.out y (List.mem_of_getElem? hy) v wr (hv.below hbw))
          obtain ⟨t, ht⟩ : ∃ t, t = Fm.tmo x y := ⟨_, rfl⟩
          rw [← ht] at HA
          have HY : Hid (r + t = 0 + Fm.tmoL x (K.take (k + 1))) := by
            show _ = _
            rw [ht, Fm.tmoL_take x hy]
            have := hd.out
            omega
          have hrt : r + t ≤ 1000001 := by
            have h1 := HY.out
            have h2 := Fm.tmoL_le x (K.take (k + 1))
            have h3 := Fm.sizeL_split K (k + 1)
            have h4 := HM.out
            omega
          clear hy hv hbw ht
          go_wp2_with fail
          refine HA.out.mono ?_
          rintro e w1 ⟨rfl, hb1⟩
          have HB1 := Lib.hid (hbx.out.next hb1)
          clear p0 p1 p2 p3 p4 q4 hb1 HA hd
          go_wp2_with fail
          go_roundw
          case rel => exact ⟨k + 1, r + t, by omega, by go_num, by go_num, HY, HB1⟩
          case measure => simp [intOf]; omega
        · obtain rfl : k = n := by omega
          have hki : ¬ (k : Int) < (k : Int) := by omega
          have hzr : z = r := by
            rw [HZ.out, hd.out, HN.out, List.take_length]
          subst hzr
          clear hd
          go_wp2_with fail
          go_ret
          exact ⟨rfl, hbx.out.2⟩
    · clear HCASE
      go_enter Try.func34, Try.ntmps34
      go_wp2_with fail
      clear q0 q1
      go_loopw [5, 6] (fun v i wr => ∃ k r : Nat, k ≤ n ∧ i = .int .i64 k ∧ v = .int .i64 (r : Nat) ∧ Hid (r = 0 + Fm.tmoL x (K.take k)) ∧ Hid (Fm.FBox w f (.slice a n c) wr)) (fun _ i _ => n - (intOf i).toNat)
      case atStart => exact ⟨0, 0, Nat.zero_le _, rfl, rfl, (by rw [List.take_zero, Fm.tmoL] : 0 = 0 + Fm.tmoL x (K.take 0)), HB0.out⟩
      case round =>
        obtain ⟨k, r, hk, rfl, rfl, hd, hbx⟩ := hrel
        have q4 := hbx.out.c4
        by_cases hlt : k < n
        · have hki : (k : Int) < (n : Int) := by omega
          obtain ⟨y, hy⟩ : ∃ y, K[k]? = some y := ⟨_, List.getElem?_eq_getElem (by rw [← HN.out]; exact hlt)⟩
          obtain ⟨rfl, hg⟩ := HG.out (by omega)
          obtain ⟨v, p0, p1, p2, p3, p4, hv⟩ := HC.out k y hy
          have hbw := hbx.out.2
          have p0 := (hbw.cell (p := ⟨g, o + k * 5, none⟩) hg).trans p0
          have p1 := (hbw.cell (p := ⟨g, o + k * 5 + 1, none⟩) hg).trans p1
          have p2 := (hbw.cell (p := ⟨g, o + k * 5 + 2, none⟩) hg).trans p2
          have p3 := (hbw.cell (p := ⟨g, o + k * 5 + 3, none⟩) hg).trans p3
          have p4 := (hbw.cell (p := ⟨g, o + k * 5 + 4, none⟩) hg).trans p4
          have HA := Lib.hid (HIH.out y (List.mem_of_getElem? hy) v wr (hv.below hbw))
          obtain ⟨t, ht⟩ : ∃ t, t = Fm.tmo x y := ⟨_, rfl⟩
          rw [← ht] at HA
          have HY : Hid (r + t = 0 + Fm.tmoL x (K.take (k + 1))) := by
            show _ = _
            rw [ht, Fm.tmoL_take x hy]
            have := hd.out
            omega
          have hrt : r + t ≤ 1000001 := by
            have h1 := HY.out
            have h2 := Fm.tmoL_le x (K.take (k + 1))
            have h3 := Fm.sizeL_split K (k + 1)
            have h4 := HM.out
            omega
          clear hy hv hbw ht
          go_wp2_with fail
          refine HA.out.mono ?_
          rintro e w1 ⟨rfl, hb1⟩
          have HB1 := Lib.hid (hbx.out.next hb1)
          clear p0 p1 p2 p3 p4 q4 hb1 HA hd
          go_wp2_with fail
          go_roundw
          case rel => exact ⟨k + 1, r + t, by omega, by go_num, by go_num, HY, HB1⟩
          case measure => simp [intOf]; omega
        · obtain rfl : k = n := by omega
          have hki : ¬ (k : Int) < (k : Int) := by omega
          have hzr : z = r := by
            rw [HZ.out, hd.out, HN.out, List.take_length]
          subst hzr
          clear hd
          go_wp2_with fail
          go_ret
          exact ⟨rfl, hbx.out.2⟩
end Go.Proofs.Ytjcaingfeaaakaa
