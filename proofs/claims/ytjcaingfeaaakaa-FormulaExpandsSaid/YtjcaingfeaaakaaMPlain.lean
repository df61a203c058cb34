/-
  The walk of the law's plain.
-/
import Derived.Test.YtjcaingfeaaakaaMTimes
namespace Go.Proofs.Ytjcaingfeaaakaa
open Go.RowKit

set_option maxHeartbeats 4000000 in
set_option maxRecDepth 100000 in
theorem plain_walk : ∀ (s : Nat) (f : Fm.Fo) (u : Value) (w : World), Fm.size f ≤ s → Fm.size f ≤ 1000000 → Fm.At w f u →
    Calls Try.prog 33 #[Fm.fv f u] w fun e w' => e = .returned (.bool (Fm.plain f)) ∧ Below w.heap.size w w' := by
  intro s
  induction s with
  | zero => intro f u w hs; have := Fm.size_pos f; omega
  | succ s ih =>
    intro f u w hs hm hat
    have hsz := Fm.size_eq f
    have hpq := Fm.plain_eq f
    obtain ⟨a, c, g, o, rfl, hc1, hc2, hga, hcl⟩ := hat.kidsAt.any
    obtain ⟨K, hK⟩ : ∃ K, K = f.kids := ⟨_, rfl⟩
    rw [← hK] at hsz hc1 hga hcl hpq
    obtain ⟨n, hn⟩ : ∃ n, n = K.length := ⟨_, rfl⟩
    have HB0 := Lib.hid (Fm.FBox.start w f (.slice a f.kids.length c))
    rw [← hK, ← hn] at HB0 ⊢
    have hga2 : 0 < n → a = some ⟨g, o, none⟩ ∧ g < w.heap.size := fun h => hga (by rintro rfl; rw [hn] at h; simp at h)
    rw [← hn] at hc1
    obtain ⟨z, hz⟩ : ∃ z, z = Fm.plain f := ⟨_, rfl⟩
    rw [← hz] at hpq ⊢
    have HC := Lib.hid hcl
    have HG := Lib.hid hga2
    have HN := Lib.hid hn
    have hnb : n ≤ 1000000 := by have := Fm.len_sizeL K; omega
    have HIH : Hid (∀ k ∈ K, ∀ v W, Fm.At W k v → Calls Try.prog 33 #[Fm.fv k v] W fun e w' => e = .returned (.bool (Fm.plain k)) ∧ Below W.heap.size W w') := fun k hk v W hv => ih k v W (by have := Fm.size_mem hk; omega) (by have := Fm.size_mem hk; omega) hv
    have q0 := Joins.cell_of_block HB0.out.1 0
    have q2 := Joins.cell_of_block HB0.out.1 2
    have q3 := Joins.cell_of_block HB0.out.1 3
    have q4 := Joins.cell_of_block HB0.out.1 4
    by_cases h4 : f.op = 4
    · rw [if_pos h4] at hpq
      have h4q : (f.op == 4) = true := by rw [beq_iff_eq]; exact h4
      have hzz : z = ((decide (n = 0) && decide (f.cmp = 0)) && decide (f.num = 0)) := by
        rw [hpq, hn]
        cases K <;> simp
      have hi : decide ((n : Int) = 0) = decide (n = 0) := by rw [decide_eq_decide]; omega
      have HZ := Lib.hid hzz
      clear hat hcl hga hga2 hn hz hsz hK hs ih hpq hm h4 hzz
      by_cases e1 : n = 0
      · subst e1
        by_cases e2 : f.cmp = 0
        · have e2q : (f.cmp == 0) = true := by rw [beq_iff_eq]; exact e2
          have hzv : z = decide (f.num = 0) := by rw [HZ.out]; simp [e2]
          clear hi HZ e2
          go_enter Try.func33, Try.ntmps33
          go_wp2_with fail
          go_ret
          exact ⟨by rw [hzv]; rfl, HB0.out.2⟩
        · have e2q : (f.cmp == 0) = false := by rw [beq_eq_false_iff_ne]; exact e2
          have hzv : z = false := by rw [HZ.out]; simp [e2]
          clear hi HZ e2
          subst hzv
          go_enter Try.func33, Try.ntmps33
          go_wp2_with fail
          go_ret
          exact ⟨rfl, HB0.out.2⟩
      · have e1q : ((n : Int) == 0) = false := by rw [beq_eq_false_iff_ne]; omega
        have hzv : z = false := by rw [HZ.out]; simp [e1]
        clear hi HZ
        subst hzv
        go_enter Try.func33, Try.ntmps33
        go_wp2_with fail
        go_ret
        exact ⟨rfl, HB0.out.2⟩
    · rw [if_neg h4] at hpq
      have h4q : (f.op == 4) = false := by rw [beq_eq_false_iff_ne]; exact h4
      have HZ := Lib.hid hpq
      clear hat hcl hga hga2 hn hz hsz hK hs ih hpq hm h4 q2 q3 q4
      go_enter Try.func33, Try.ntmps33
      go_wp2_with fail
      clear q0
      go_loopw [3] (fun i wr => ∃ k : Nat, k ≤ n ∧ i = .int .i64 k ∧ Hid (∀ j, j < k → ∀ y, K[j]? = some y → Fm.plain y = true) ∧ Hid (Fm.FBox w f (.slice a n c) wr)) (fun i _ => n - (intOf i).toNat)
      case atStart => exact ⟨0, Nat.zero_le _, rfl, fun j hj => absurd hj (by omega), HB0.out⟩
      case round =>
        obtain ⟨k, hk, rfl, hd, hbx⟩ := hrel
        have q4 := hbx.out.c4
        by_cases hlt : k < n
        · have hki : (k : Int) < (n : Int) := by omega
          obtain ⟨y, hy⟩ : ∃ y, K[k]? = some y := ⟨_, List.getElem?_eq_getElem (by rw [← HN.out]; exact hlt)⟩
          obtain ⟨rfl, hg⟩ := HG.out (by omega)
          obtain ⟨v, p0, p1, p2, p3, p4, hv⟩ := HC.out k y hy
          have hbw := hbx.out.2
          have p0 := (hbw.cell (p := ⟨g, o + k * 5, none⟩) hg).trans p0
          have p1 := (hbw.cell (p := ⟨g, o + k * 5 + 1, none⟩) hg).trans p1
          have p2 := (hbw.cell (p := ⟨g, o + k * 5 + 2, none⟩) hg).trans p2
          have p3 := (hbw.cell (p := ⟨g, o + k * 5 + 3, none⟩) hg).trans p3
          have p4 := (hbw.cell (p := ⟨g, o + k * 5 + 4, none⟩) hg).trans p4
          have HA := Lib.hid (HIH.out y (List.mem_of_getElem? hy) v wr (hv.below hbw))
          obtain ⟨t, ht⟩ : ∃ t, t = Fm.plain y := ⟨_, rfl⟩
          rw [← ht] at HA
          cases t with
          | true =>
            have HD : Hid (∀ j, j < k + 1 → ∀ y, K[j]? = some y → Fm.plain y = true) := fun j hj y2 hy2 => by
              by_cases e : j = k
              · subst e
                rw [hy] at hy2
                obtain rfl := Option.some.inj hy2
                exact ht.symm
              · exact hd.out j (by omega) y2 hy2
            clear hy hv hbw ht
            go_wp2_with fail
            refine HA.out.mono ?_
            rintro e w1 ⟨rfl, hb1⟩
            have HB1 := Lib.hid (hbx.out.next hb1)
            clear p0 p1 p2 p3 p4 q4 hb1 HA hd
            go_wp2_with fail
            go_roundw
            case rel => exact ⟨k + 1, by omega, by go_num, HD, HB1⟩
            case measure => simp [intOf]; omega
          | false =>
            have hzv : z = false := by rw [HZ.out]; exact Fm.plainL_no (List.mem_of_getElem? hy) ht.symm
            subst hzv
            clear hy hv hbw ht hd
            go_wp2_with fail
            refine HA.out.mono ?_
            rintro e w1 ⟨rfl, hb1⟩
            have HB1 := Lib.hid (hbx.out.next hb1)
            clear p0 p1 p2 p3 p4 q4 hb1 HA
            go_wp2_with fail
            go_ret
            exact ⟨rfl, HB1.out.2⟩
        · obtain rfl : k = n := by omega
          have hki : ¬ (k : Int) < (k : Int) := by omega
          have hzv : z = true := by
            rw [HZ.out]
            exact Fm.plainL_all fun y hy => by
              obtain ⟨j, hj, e⟩ := List.getElem_of_mem hy
              exact hd.out j (by rw [HN.out]; exact hj) y (by rw [List.getElem?_eq_getElem hj, e])
          subst hzv
          clear hd
          go_wp2_with fail
          go_ret
          exact ⟨rfl, hbx.out.2⟩
end Go.Proofs.Ytjcaingfeaaakaa
