/-
  The reference of layer 7: count, Small, Size, large; a formula in a box of the call's own.
-/
import Derived.Test.YtjcaingfeaaakaaMSmall
import Derived.Deep.QuietTactic
import Derived.BigQuiet
namespace Go.Proofs.Ytjcaingfeaaakaa
open Go.RowKit

namespace Fm
/-- The box of a formula that is the first block of a call. -/
def FBox (w : World) (f : Fo) (u : Value) (W : World) : Prop := W.heap[w.heap.size]? = some (.cells #[.int .i64 f.op, .string (Lx.str f.name), .int .i64 f.cmp, .int .i64 f.num, u] 24 (0, 0)) ∧ Below w.heap.size w W
theorem FBox.start (w : World) (f : Fo) (u : Value) : FBox w f u (w.alloc (.cells #[.int .i64 f.op, .string (Lx.str f.name), .int .i64 f.cmp, .int .i64 f.num, u] 24)) := ⟨heap_alloc_new _ _, (Below.refl _ _).alloc (Nat.le_refl _) _⟩
theorem FBox.next {w : World} {f : Fo} {u : Value} {W W' : World} (h : FBox w f u W) (hb : Below W.heap.size W W') : FBox w f u W' := ⟨(hb.block _ (Array.getElem?_eq_some_iff.1 h.1).1).trans h.1, h.2.trans (hb.mono h.2.size)⟩
theorem FBox.lt {w : World} {f : Fo} {u : Value} {W : World} (h : FBox w f u W) : w.heap.size < W.heap.size := (Array.getElem?_eq_some_iff.1 h.1).1
theorem FBox.c4 {w : World} {f : Fo} {u : Value} {W : World} (h : FBox w f u W) : W.cell? ⟨w.heap.size, 4, none⟩ = some u := Joins.cell_of_block h.1 4
theorem FBox.drew {w : World} {f : Fo} {u : Value} {W : World} (h : FBox w f u W) (q : Nat) : FBox w f u (W.drewN q) := ⟨h.1, Lx.below_drewN h.2 q⟩
theorem minN_step {a b m : Nat} (h : a ≤ m) : a + min b (m - a + 1) = min (a + b) (m + 1) := by omega
end Fm

set_option maxHeartbeats 4000000 in
set_option maxRecDepth 100000 in
theorem count_walk : ∀ (s : Nat) (f : Fm.Fo) (u : Value) (m : Nat) (w : World), Fm.size f ≤ s → m ≤ 1000 → Fm.At w f u →
    Calls Try.prog 35 #[Fm.fv f u, .int .i64 (m : Nat)] w fun e w' => e = .returned (.int .i64 ((min (Fm.size f) (m + 1) : Nat) : Int)) ∧ Below w.heap.size w w' := by
  intro s
  induction s with
  | zero => intro f u m w hs; have := Fm.size_pos f; omega
  | succ s ih =>
    intro f u m w hs hm hat
    have hsz := Fm.size_eq f
    obtain ⟨a, c, g, o, rfl, hc1, hc2, hga, hcl⟩ := hat.kidsAt.any
    obtain ⟨K, hK⟩ : ∃ K, K = f.kids := ⟨_, rfl⟩
    rw [← hK] at hsz hc1 hga hcl
    obtain ⟨n, hn⟩ : ∃ n, n = K.length := ⟨_, rfl⟩
    have HB0 := Lib.hid (Fm.FBox.start w f (.slice a f.kids.length c))
    rw [← hK, ← hn] at HB0 ⊢
    have hga2 : 0 < n → a = some ⟨g, o, none⟩ ∧ g < w.heap.size := fun h => hga (by rintro rfl; rw [hn] at h; simp at h)
    rw [← hn] at hc1
    obtain ⟨z, hz⟩ : ∃ z, z = min (Fm.size f) (m + 1) := ⟨_, rfl⟩
    rw [← hz]
    rw [hsz] at hz
    have HZ := Lib.hid hz
    have HC := Lib.hid hcl
    have HG := Lib.hid hga2
    have HN := Lib.hid hn
    have HIH : Hid (∀ k ∈ K, ∀ v (r : Nat) W, r ≤ 1000 → Fm.At W k v → Calls Try.prog 35 #[Fm.fv k v, .int .i64 (r : Nat)] W fun e w' => e = .returned (.int .i64 ((min (Fm.size k) (r + 1) : Nat) : Int)) ∧ Below W.heap.size W w') := fun k hk v r W hr hv => ih k v r W (by have := Fm.size_mem hk; omega) hr hv
    clear hat hcl hga hga2 hn hz hsz hK hs ih
    go_enter Try.func35, Try.ntmps35
    go_wp2_with fail
    go_loopw [5, 6] (fun v i wr => ∃ k r : Nat, k ≤ n ∧ i = .int .i64 k ∧ v = .int .i64 (r : Nat) ∧ r ≤ m + 1 ∧ Hid (r = min (1 + Fm.sizeL (K.take k)) (m + 1)) ∧ Hid (Fm.FBox w f (.slice a n c) wr)) (fun _ i _ => n - (intOf i).toNat)
    case atStart => exact ⟨0, 1, Nat.zero_le _, rfl, rfl, by omega, (by rw [List.take_zero, Fm.sizeL]; omega : 1 = min (1 + Fm.sizeL (K.take 0)) (m + 1)), HB0.out⟩
    case round =>
      obtain ⟨k, r, hk, rfl, rfl, hr, hd, hbx⟩ := hrel
      have q4 := hbx.out.c4
      by_cases hlt : k < n
      · have hki : (k : Int) < (n : Int) := by omega
        by_cases hrm : r ≤ m
        · have hri : (r : Int) ≤ (m : Int) := by omega
          obtain ⟨x, hx⟩ : ∃ x, K[k]? = some x := ⟨_, List.getElem?_eq_getElem (by rw [← HN.out]; exact hlt)⟩
          obtain ⟨rfl, hg⟩ := HG.out (by omega)
          obtain ⟨v, p0, p1, p2, p3, p4, hv⟩ := HC.out k x hx
          have hbw := hbx.out.2
          have p0 := (hbw.cell (p := ⟨g, o + k * 5, none⟩) hg).trans p0
          have p1 := (hbw.cell (p := ⟨g, o + k * 5 + 1, none⟩) hg).trans p1
          have p2 := (hbw.cell (p := ⟨g, o + k * 5 + 2, none⟩) hg).trans p2
          have p3 := (hbw.cell (p := ⟨g, o + k * 5 + 3, none⟩) hg).trans p3
          have p4 := (hbw.cell (p := ⟨g, o + k * 5 + 4, none⟩) hg).trans p4
          have HA := Lib.hid (HIH.out x (List.mem_of_getElem? hx) v (m - r) wr (by omega) (hv.below hbw))
          obtain ⟨y, hy⟩ : ∃ y, y = min (Fm.size x) (m - r + 1) := ⟨_, rfl⟩
          have hsub : (m : Int) - (r : Int) = ((m - r : Nat) : Int) := by omega
          rw [← hy, ← hsub] at HA
          have HY : Hid (r + y = min (1 + Fm.sizeL (K.take (k + 1))) (m + 1)) := by
            show _ = _
            rw [hy, Fm.minN_step hrm, Fm.sizeL_take hx]
            have := hd.out
            omega
          have hyb : y ≤ m - r + 1 := by omega
          clear hx hv hbw hy hsub
          go_wp2_with fail
          refine HA.out.mono ?_
          rintro e w1 ⟨rfl, hb1⟩
          have HB1 := Lib.hid (hbx.out.next hb1)
          clear p0 p1 p2 p3 p4 q4 hb1 HA hd
          go_wp2_with fail
          go_roundw
          case rel => exact ⟨k + 1, r + y, by omega, by go_num, by go_num, by omega, HY, HB1⟩
          case measure => simp [intOf]; omega
        · have hri : ¬ (r : Int) ≤ (m : Int) := by omega
          have hzr : z = r := by
            rw [HZ.out]
            have h1 := hd.out
            have h2 := Fm.sizeL_split K k
            omega
          subst hzr
          clear hd
          go_wp2_with fail
          go_ret
          exact ⟨rfl, hbx.out.2⟩
      · obtain rfl : k = n := by omega
        have hki : ¬ (k : Int) < (k : Int) := by omega
        have hzr : z = r := by
          rw [HZ.out, hd.out, HN.out, List.take_length]
        subst hzr
        clear hd
        go_wp2_with fail
        go_ret
        exact ⟨rfl, hbx.out.2⟩

set_option maxHeartbeats 1000000 in
set_option maxRecDepth 100000 in
theorem small_walk (f : Fm.Fo) (u : Value) (m : Nat) (w : World) (hm : m ≤ 1000) (hat : Fm.At w f u) :
    Calls Try.prog 11 #[Fm.fv f u, .int .i64 (m : Nat)] w fun e w' => e = .returned (.bool (decide (Fm.size f ≤ m))) ∧ Below w.heap.size w w' := by
  obtain ⟨ua, un, uc, hu⟩ : ∃ a n c, u = .slice a n c := by obtain ⟨a, c, e, _⟩ := hat.kidsAt.len; exact ⟨_, _, _, e⟩
  subst hu
  have HB0 := Lib.hid (Fm.FBox.start w f (.slice ua un uc))
  have HC := Lib.hid (count_walk (Fm.size f) f _ m _ (Nat.le_refl _) hm (hat.below HB0.out.2))
  obtain ⟨y, hy⟩ : ∃ y, y = min (Fm.size f) (m + 1) := ⟨_, rfl⟩
  rw [← hy] at HC
  have hym : decide (Fm.size f ≤ m) = decide (y ≤ m) := by rw [Bool.eq_iff_iff, decide_eq_true_iff, decide_eq_true_iff]; omega
  rw [hym]
  clear hy hym hat
  go_enter Try.func11, Try.ntmps11
  go_wp2_with fail
  refine HC.out.mono ?_
  rintro e w1 ⟨rfl, hb1⟩
  have HX := Lib.hid (HB0.out.next hb1).2
  clear hb1
  go_wp2_with fail
  go_ret
  exact ⟨rfl, HX.out⟩
end Go.Proofs.Ytjcaingfeaaakaa
