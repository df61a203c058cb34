/-
  The walk of the law's named.
-/
import Derived.Test.YtjcaingfeaaakaaMRefA
import Derived.Test.YtjcaingfeaaakaaMTexts
namespace Go.Proofs.Ytjcaingfeaaakaa
open Go.RowKit

namespace Fm
/-- Whether a formula has a test of a fact. -/
abbrev nmd (x : T) (f : Fo) : Bool := decide (x ∈ tested f)
theorem mem_testedL {x : T} : ∀ {l : List Fo}, x ∈ testedL l ↔ ∃ k ∈ l, x ∈ tested k
  | [] => by simp [testedL]
  | k :: l => by rw [testedL, List.mem_append, mem_testedL]; simp
theorem tested_eq (f : Fo) (x : T) : x ∈ tested f ↔ (f.op = 3 ∧ f.name = x) ∨ x ∈ testedL f.kids := by
  obtain ⟨o, y, c, n, ks⟩ := f
  rw [tested, List.mem_append]
  show _ ↔ (o = 3 ∧ y = x) ∨ x ∈ testedL ks
  by_cases h : o = 3
  · simp [h, eq_comm]
  · simp [h]
end Fm

set_option maxHeartbeats 4000000 in
set_option maxRecDepth 100000 in
theorem named_walk (x : Fm.T) (sx : ByteArray) (hsx : sx = Lx.str x) : ∀ (s : Nat) (f : Fm.Fo) (u : Value) (w : World), Fm.size f ≤ s → Fm.size f ≤ 1000000 → Fm.At w f u →
    Calls Try.prog 32 #[Fm.fv f u, .string sx] w fun e w' => e = .returned (.bool (Fm.nmd x f)) ∧ Below w.heap.size w w' := by
  intro s
  induction s with
  | zero => intro f u w hs; have := Fm.size_pos f; omega
  | succ s ih =>
    intro f u w hs hm hat
    have hsz := Fm.size_eq f
    have hpq := Fm.tested_eq f x
    obtain ⟨a, c, g, o, rfl, hc1, hc2, hga, hcl⟩ := hat.kidsAt.any
    obtain ⟨K, hK⟩ : ∃ K, K = f.kids := ⟨_, rfl⟩
    rw [← hK] at hsz hc1 hga hcl hpq
    obtain ⟨n, hn⟩ : ∃ n, n = K.length := ⟨_, rfl⟩
    have HB0 := Lib.hid (Fm.FBox.start w f (.slice a f.kids.length c))
    rw [← hK, ← hn] at HB0 ⊢
    have hga2 : 0 < n → a = some ⟨g, o, none⟩ ∧ g < w.heap.size := fun h => hga (by rintro rfl; rw [hn] at h; simp at h)
    rw [← hn] at hc1
    obtain ⟨z, hz⟩ : ∃ z, z = Fm.nmd x f := ⟨_, rfl⟩
    rw [← hz]
    have hnq := Fm.str_eq f.name x
    rw [← hsx] at hnq
    have HC := Lib.hid hcl
    have HG := Lib.hid hga2
    have HN := Lib.hid hn
    have hnb : n ≤ 1000000 := by have := Fm.len_sizeL K; omega
    have HIH : Hid (∀ k ∈ K, ∀ v W, Fm.At W k v → Calls Try.prog 32 #[Fm.fv k v, .string sx] W fun e w' => e = .returned (.bool (Fm.nmd x k)) ∧ Below W.heap.size W w') := fun k hk v W hv => ih k v W (by have := Fm.size_mem hk; omega) (by have := Fm.size_mem hk; omega) hv
    have q0 := Joins.cell_of_block HB0.out.1 0
    have q1 := Joins.cell_of_block HB0.out.1 1
    have q4 := Joins.cell_of_block HB0.out.1 4
    by_cases h : f.op = 3 ∧ f.name = x
    · have h3q : (f.op == 3) = true := by rw [beq_iff_eq]; exact h.1
      rw [decide_eq_true h.2] at hnq
      obtain rfl : z = true := by rw [hz]; exact decide_eq_true (hpq.2 (.inl h))
      clear hat hcl hga hga2 hn hz hsz hK hs ih hpq hm h hsx
      go_enter Try.func32, Try.ntmps32
      go_wp2_with fail
      go_ret
      exact ⟨rfl, HB0.out.2⟩
    · have hzl : z = decide (x ∈ Fm.testedL K) := by
        rw [hz, decide_eq_decide, hpq]
        exact ⟨fun e => e.resolve_left h, .inr⟩
      have HZ := Lib.hid hzl
      have hgo : (f.op == 3) = false ∨ ((f.op == 3) = true ∧ ((Lx.str f.name).toList == sx.toList) = false) := by
        by_cases h3 : f.op = 3
        · exact .inr ⟨by rw [beq_iff_eq]; exact h3, by rw [hnq]; exact decide_eq_false fun e => h ⟨h3, e⟩⟩
        · exact .inl (by rw [beq_eq_false_iff_ne]; exact h3)
      clear hat hcl hga hga2 hn hz hsz hK hs ih hpq hm h hsx hnq hzl
      rcases hgo with h3q | ⟨h3q, hnq⟩
      all_goals
        go_enter Try.func32, Try.ntmps32
        go_wp2_with fail
        clear q0 q1
        go_loopw [5] (fun i wr => ∃ k : Nat, k ≤ n ∧ i = .int .i64 k ∧ Hid (∀ j, j < k → ∀ y, K[j]? = some y → Fm.nmd x y = false) ∧ Hid (Fm.FBox w f (.slice a n c) wr)) (fun i _ => n - (intOf i).toNat)
        case atStart => exact ⟨0, Nat.zero_le _, rfl, fun j hj => absurd hj (by omega), HB0.out⟩
        case round =>
          obtain ⟨k, hk, rfl, hd, hbx⟩ := hrel
          have q4 := hbx.out.c4
          by_cases hlt : k < n
          · have hki : (k : Int) < (n : Int) := by omega
            obtain ⟨y, hy⟩ : ∃ y, K[k]? = some y := ⟨_, List.getElem?_eq_getElem (by rw [← HN.out]; exact hlt)⟩
            obtain ⟨rfl, hg⟩ := HG.out (by omega)
            obtain ⟨v, p0, p1, p2, p3, p4, hv⟩ := HC.out k y hy
            have hbw := hbx.out.2
            have p0 := (hbw.cell (p := ⟨g, o + k * 5, none⟩) hg).trans p0
            have p1 := (hbw.cell (p := ⟨g, o + k * 5 + 1, none⟩) hg).trans p1
            have p2 := (hbw.cell (p := ⟨g, o + k * 5 + 2, none⟩) hg).trans p2
            have p3 := (hbw.cell (p := ⟨g, o + k * 5 + 3, none⟩) hg).trans p3
            have p4 := (hbw.cell (p := ⟨g, o + k * 5 + 4, none⟩) hg).trans p4
            have HA := Lib.hid (HIH.out y (List.mem_of_getElem? hy) v wr (hv.below hbw))
            obtain ⟨t, ht⟩ : ∃ t, t = Fm.nmd x y := ⟨_, rfl⟩
            rw [← ht] at HA
            cases t with
            | false =>
              have HD : Hid (∀ j, j < k + 1 → ∀ y, K[j]? = some y → Fm.nmd x y = false) := fun j hj y2 hy2 => by
                by_cases e : j = k
                · subst e
                  rw [hy] at hy2
                  obtain rfl := Option.some.inj hy2
                  exact ht.symm
                · exact hd.out j (by omega) y2 hy2
              clear hy hv hbw ht
              go_wp2_with fail
              refine HA.out.mono ?_
              rintro e w1 ⟨rfl, hb1⟩
              have HB1 := Lib.hid (hbx.out.next hb1)
              clear p0 p1 p2 p3 p4 q4 hb1 HA hd
              go_wp2_with fail
              go_roundw
              case rel => exact ⟨k + 1, by omega, by go_num, HD, HB1⟩
              case measure => simp [intOf]; omega
            | true =>
              have hzv : z = true := by
                rw [HZ.out]
                exact decide_eq_true (Fm.mem_testedL.2 ⟨y, List.mem_of_getElem? hy, of_decide_eq_true ht.symm⟩)
              subst hzv
              clear hy hv hbw ht hd
              go_wp2_with fail
              refine HA.out.mono ?_
              rintro e w1 ⟨rfl, hb1⟩
              have HB1 := Lib.hid (hbx.out.next hb1)
              clear p0 p1 p2 p3 p4 q4 hb1 HA
              go_wp2_with fail
              go_ret
              exact ⟨rfl, HB1.out.2⟩
          · obtain rfl : k = n := by omega
            have hki : ¬ (k : Int) < (k : Int) := by omega
            have hzv : z = false := by
              rw [HZ.out]
              refine decide_eq_false fun h => ?_
              obtain ⟨y, hy, h2⟩ := Fm.mem_testedL.1 h
              obtain ⟨j, hj, e⟩ := List.getElem_of_mem hy
              have := hd.out j (by rw [HN.out]; exact hj) y (by rw [List.getElem?_eq_getElem hj, e])
              exact absurd h2 (of_decide_eq_false this)
            subst hzv
            clear hd
            go_wp2_with fail
            go_ret
            exact ⟨rfl, hbx.out.2⟩
end Go.Proofs.Ytjcaingfeaaakaa
