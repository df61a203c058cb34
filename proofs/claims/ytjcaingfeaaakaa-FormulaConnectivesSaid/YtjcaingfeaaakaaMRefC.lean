/-
  The reference of layer 7: In, Names, Index, Compare.
-/
import Derived.Test.YtjcaingfeaaakaaMAny
import Derived.Test.YtjcaingfeaaakaaMTexts
namespace Go.Proofs.Ytjcaingfeaaakaa
open Go.RowKit

set_option maxHeartbeats 2000000 in
set_option maxRecDepth 100000 in
theorem r7in_walk (v : Value) (l : List Fm.T) (x : Fm.T) (w : World) (hv : Fm.IsT w v l) :
    Calls Try.prog 31 #[v, .string (Lx.str x)] w fun e w' => e = .returned (.bool (Fm.has l x)) ∧ w = w' := by
  obtain ⟨a, c, g, o, rfl, hc1, hc2, hga, hcl⟩ := hv.any
  obtain ⟨n, hn⟩ : ∃ n, n = l.length := ⟨_, rfl⟩
  obtain ⟨z, hz⟩ : ∃ z, z = Fm.has l x := ⟨_, rfl⟩
  have hga : 0 < n → a = some ⟨g, o, none⟩ ∧ g < w.heap.size := fun h => hga (by rintro rfl; rw [hn] at h; simp at h)
  rw [← hn, ← hz]
  have HC := Lib.hid hcl
  have HN := Lib.hid hn
  have HZ := Lib.hid hz
  have HG := Lib.hid hga
  have hnc : n ≤ c := by rw [hn]; exact hc1
  obtain ⟨sx, hsx⟩ : ∃ s, s = Lx.str x := ⟨_, rfl⟩
  rw [← hsx]
  have HX := Lib.hid hsx
  clear hv hcl hn hz hga hc1 hsx
  go_enter Try.func31, Try.ntmps31
  go_wp2_with fail
  go_loop [5] (fun i => ∃ k : Nat, k ≤ n ∧ i = .int .i64 k ∧ Hid (∀ j, j < k → ∀ y, l[j]? = some y → y ≠ x)) (fun i => n - (intOf i).toNat)
  case atStart => exact ⟨0, Nat.zero_le _, rfl, fun j hj => absurd hj (by omega)⟩
  case round =>
    obtain ⟨k, hk, rfl, hd⟩ := hrel
    by_cases hlt : k < n
    · have hkl : k < l.length := by rw [← HN.out]; exact hlt
      obtain ⟨y, hy⟩ : ∃ y, l[k]? = some y := ⟨_, List.getElem?_eq_getElem hkl⟩
      obtain ⟨rfl, hg⟩ := HG.out (by omega)
      have p0 := HC.out k y hy
      have hki : (k : Int) < (n : Int) := by omega
      have hkm : (k : Int) + 1 ≤ 9223372036854775807 := by omega
      obtain ⟨s, hs⟩ : ∃ s, s = Lx.str y := ⟨_, rfl⟩
      rw [← hs] at p0
      by_cases he : y = x
      · have hzk : z = true := by rw [HZ.out, decide_eq_true_iff, ← he]; exact List.mem_of_getElem? hy
        subst hzk
        have hq : (s.toList == sx.toList) = true := by rw [HX.out, hs, Fm.str_eq]; simpa using he
        clear he hy hd hs
        go_wp2_with fail
        go_ret
        exact ⟨rfl, rfl⟩
      · have hq : (s.toList == sx.toList) = false := by rw [HX.out, hs, Fm.str_eq]; simpa using he
        have HD : Hid (∀ j, j < k + 1 → ∀ y, l[j]? = some y → y ≠ x) := fun j hj y2 hy2 => by
          by_cases e : j = k
          · subst e
            rw [hy] at hy2
            obtain rfl := Option.some.inj hy2
            exact he
          · exact hd.out j (by omega) y2 hy2
        clear he hy hd hs
        go_wp2_with fail
        go_round
        case rel => exact ⟨k + 1, by omega, by go_num, HD⟩
        case measure => simp [intOf]; omega
    · obtain rfl : k = n := by omega
      have hki : ¬ (k : Int) < (k : Int) := by omega
      have hzk : z = false := by
        rw [HZ.out, decide_eq_false_iff_not]
        intro h
        obtain ⟨j, hj, e⟩ := List.getElem_of_mem h
        exact hd.out j (by rw [HN.out]; exact hj) _ (List.getElem?_eq_getElem hj) e
      subst hzk
      clear hd
      go_wp2_with fail
      go_ret
      exact ⟨rfl, rfl⟩

set_option maxHeartbeats 4000000 in
set_option maxRecDepth 100000 in
theorem r7names_walk (v v2 : Value) (l l2 : List Fm.T) (w : World) (hv : Fm.IsT w v l) (hv2 : Fm.IsT w v2 l2) :
    Calls Try.prog 17 #[v, v2] w fun e w' => e = .returned (.bool (decide (l = l2))) ∧ Below w.heap.size w w' := by
  obtain ⟨z, hz⟩ : ∃ z, z = decide (l = l2) := ⟨_, rfl⟩
  rw [← hz]
  obtain ⟨a, c, g, o, rfl, hc1, hc2, hga, hcl⟩ := hv.any
  obtain ⟨a2, c2, g2, o2, rfl, hd1, hd2, hgb, hcm⟩ := hv2.any
  by_cases hlen : l.length = l2.length
  · obtain ⟨n, hn⟩ : ∃ n, n = l.length := ⟨_, rfl⟩
    have hga : 0 < n → a = some ⟨g, o, none⟩ ∧ g < w.heap.size := fun h => hga (by rintro rfl; rw [hn] at h; simp at h)
    have hgb : 0 < n → a2 = some ⟨g2, o2, none⟩ ∧ g2 < w.heap.size := fun h => hgb (by rintro rfl; rw [hn, hlen] at h; simp at h)
    have HN := Lib.hid (And.intro hn (hn.trans hlen))
    have hnc : n ≤ c := by rw [hn]; exact hc1
    have hnd : n ≤ c2 := by rw [hn, hlen]; exact hd1
    have HZ := Lib.hid hz
    rw [← hlen, ← hn]
    have HC := Lib.hid hcl
    have HM := Lib.hid hcm
    have HG := Lib.hid hga
    have HG2 := Lib.hid hgb
    clear hv hv2 hcl hcm hn hz hga hgb hc1 hd1 hlen
    go_enter Try.func17, Try.ntmps17
    go_wp2_with fail
    go_loopw [5] (fun i wr => ∃ k : Nat, k ≤ n ∧ i = .int .i64 k ∧ Hid (∀ j : Nat, j < k → l[j]? = l2[j]?) ∧ Hid (Below w.heap.size w wr)) (fun i _ => n - (intOf i).toNat)
    case atStart => exact ⟨0, Nat.zero_le _, rfl, fun j hj => absurd hj (by omega), Below.refl _ _⟩
    case round =>
      obtain ⟨k, hk, rfl, hd, hbw⟩ := hrel
      by_cases hlt : k < n
      · obtain ⟨x, hx⟩ : ∃ x, l[k]? = some x := ⟨_, List.getElem?_eq_getElem (by rw [← HN.out.1]; exact hlt)⟩
        obtain ⟨y, hy⟩ : ∃ y, l2[k]? = some y := ⟨_, List.getElem?_eq_getElem (by rw [← HN.out.2]; exact hlt)⟩
        obtain ⟨rfl, hg⟩ := HG.out (by omega)
        obtain ⟨rfl, hg2⟩ := HG2.out (by omega)
        have p0 := (hbw.out.cell (p := ⟨g, o + k, none⟩) hg).trans (HC.out k x hx)
        have q0 := (hbw.out.cell (p := ⟨g2, o2 + k, none⟩) hg2).trans (HM.out k y hy)
        have hki : (k : Int) < (n : Int) := by omega
        have hk0 : (0 : Int) ≤ (k : Int) := by omega
        have hkm : (k : Int) + 1 ≤ 9223372036854775807 := by omega
        obtain ⟨s, hs⟩ : ∃ s, s = Lx.str x := ⟨_, rfl⟩
        obtain ⟨t, ht⟩ : ∃ s, s = Lx.str y := ⟨_, rfl⟩
        rw [← hs] at p0
        rw [← ht] at q0
        have HXW : Hid (∀ q, Below w.heap.size w (wr.drewN q)) := fun q => Lx.below_drewN hbw.out q
        by_cases he : x = y
        · have hq : (s.toList == t.toList) = true := by rw [hs, ht, Fm.str_eq]; simpa using he
          have hq2 : (s.toList != t.toList) = false := by rw [bne, hq]; rfl
          have HD : Hid (∀ j : Nat, j < k + 1 → l[j]? = l2[j]?) := fun j hj => by
            by_cases e : j = k
            · subst e; rw [hx, hy, he]
            · exact hd.out j (by omega)
          clear he hd hs ht hx hy hbw
          go_wp2_with fail
          go_quiet (fail)
          go_wp2_with fail
          go_roundw
          case rel => exact ⟨k + 1, by omega, by go_num, HD, HXW.out _⟩
          case measure => simp [intOf]; omega
        · have hq : (s.toList == t.toList) = false := by rw [hs, ht, Fm.str_eq]; simpa using he
          have hq2 : (s.toList != t.toList) = true := by rw [bne, hq]; rfl
          have hzf : z = false := by
            rw [HZ.out, decide_eq_false_iff_not]
            rintro rfl
            rw [hx] at hy
            exact he (Option.some.inj hy)
          subst hzf
          clear he hd hs ht hx hy hbw
          go_wp2_with fail
          go_quiet (fail)
          go_wp2_with fail
          go_ret
          exact ⟨rfl, HXW.out _⟩
      · obtain rfl : k = n := by omega
        have hki : ¬ (k : Int) < (k : Int) := by omega
        have hzt : z = true := by
          rw [HZ.out, decide_eq_true_iff]
          apply List.ext_getElem?
          intro j
          by_cases hj : j < k
          · exact hd.out j hj
          · rw [List.getElem?_eq_none (by rw [← HN.out.1]; omega), List.getElem?_eq_none (by rw [← HN.out.2]; omega)]
        subst hzt
        clear hd
        go_wp2_with fail
        go_ret
        exact ⟨rfl, hbw.out⟩
  · have hzf : z = false := by
      rw [hz, decide_eq_false_iff_not]
      rintro rfl
      exact hlen rfl
    subst hzf
    have hne : (((l.length : Nat) : Int) != (l2.length : Nat)) = true := by rw [bne_iff_ne]; omega
    clear hv hv2 hcl hcm hz hga hgb hc1 hd1 hlen
    go_enter Try.func17, Try.ntmps17
    go_wp2_with fail
    go_ret
    exact ⟨rfl, Below.refl _ _⟩

namespace Fm
/-- None of the first facts has the name. -/
def NotTo (l : List Fc.Fact) (name : T) (k : Nat) : Prop := ∀ j, j < k → ∀ g, l[j]? = some g → g.name ≠ name
theorem NotTo.succ {l : List Fc.Fact} {name : T} {k : Nat} {f : Fc.Fact} (h : NotTo l name k) (hf : l[k]? = some f) (hn : f.name ≠ name) : NotTo l name (k + 1) := by
  intro j hj g hg
  by_cases hjk : j = k
  · subst hjk; rw [hf] at hg; obtain rfl := Option.some.inj hg; exact hn
  · exact h j (by omega) g hg
end Fm

set_option maxHeartbeats 4000000 in
set_option maxRecDepth 100000 in
theorem r7index_walk (v : Value) (l : List Fc.Fact) (x : Fm.T) (w : World) (hv : Fc.IsF w v l) :
    Calls Try.prog 61 #[.agg #[v], .string (Lx.str x)] w fun e w' => e = .returned (.int .i64 (Fc.idx l x)) ∧ Below w.heap.size w w' := by
  obtain ⟨a, c, g, o, rfl, hn1, hn2, hga, hcl⟩ := hv.any
  obtain ⟨z, hz⟩ : ∃ z, z = Fc.idx l x := ⟨_, rfl⟩
  obtain ⟨n, hn⟩ : ∃ n, n = l.length := ⟨_, rfl⟩
  rw [← hn] at hn1 ⊢
  rw [← hz]
  have HZ := Lib.hid hz
  have HN := Lib.hid hn
  have HG : Hid (0 < n → a = some ⟨g, o, none⟩ ∧ g < w.heap.size) := (fun h => hga (by rintro rfl; rw [hn] at h; simp at h) : 0 < n → a = some ⟨g, o, none⟩ ∧ g < w.heap.size)
  have HC := Lib.hid hcl
  have hnb : n ≤ 9223372036854775807 := Nat.le_trans hn1 hn2
  have HB0 := Lib.hid (Boxed.start w (.slice a n c))
  obtain ⟨u, hu⟩ : ∃ u, u = Lx.str x := ⟨_, rfl⟩
  rw [← hu]
  have HU := Lib.hid hu
  clear hv hga hcl hn hn1 hn2 hz hu
  go_enter Try.func61, Try.ntmps61
  go_wp2_with fail
  go_loopw [5] (fun i wr => ∃ k : Nat, k ≤ n ∧ i = .int .i64 k ∧ Hid (Fm.NotTo l x k) ∧ Hid (Boxed w (.slice a n c) wr)) (fun i _ => n - (intOf i).toNat)
  case atStart => exact ⟨0, Nat.zero_le _, rfl, fun j hj => absurd hj (by omega), HB0⟩
  case round =>
    obtain ⟨k, hk, rfl, hq, hb⟩ := hrel
    clear HB0
    have b1 := hb.out.cell
    by_cases hlt : k < n
    · have hki : (k : Int) < (n : Int) := by omega
      have hk0 : (0 : Int) ≤ (k : Int) := by omega
      obtain ⟨rfl, hgl⟩ := HG.out (by omega)
      obtain ⟨f, hf⟩ : ∃ f, l[k]? = some f := ⟨_, List.getElem?_eq_getElem (by rw [← HN.out]; exact hlt)⟩
      obtain ⟨q0, _, _, _⟩ := HC.out k f hf
      have p0 := (hb.out.below.cell (p := ⟨g, o + k * 4, none⟩) hgl).trans q0
      obtain ⟨s, hs⟩ : ∃ s, s = Lx.str f.name := ⟨_, rfl⟩
      rw [← hs] at p0
      by_cases hfn : f.name = x
      · have heq : (s.toList == u.toList) = true := by rw [hs, HU.out, Fm.str_eq]; simpa using hfn
        have hzk : z = (k : Int) := by rw [HZ.out]; exact Fc.idx_of hf hfn hq.out
        clear q0 hs hq hf
        subst hzk
        go_wp2_with fail
        go_ret
        exact ⟨rfl, hb.out.below⟩
      · have heq : (s.toList == u.toList) = false := by rw [hs, HU.out, Fm.str_eq]; simpa using hfn
        have HK := Lib.hid (hq.out.succ hf hfn)
        clear q0 hs hq hf
        go_wp2_with fail
        go_roundw
        case rel => exact ⟨k + 1, by omega, by go_num, HK, hb⟩
        case measure => simp [intOf]; omega
    · have hki : ¬ (k : Int) < (n : Int) := by omega
      have hzk : z = -1 := by rw [HZ.out]; exact Fc.idx_not (by have := hq.out; rw [show k = n by omega, HN.out] at this; exact this)
      clear hq
      subst hzk
      go_wp2_with fail
      go_ret
      exact ⟨rfl, hb.out.below⟩

set_option maxHeartbeats 2000000 in
set_option maxRecDepth 100000 in
theorem r7compare_walk (a h b : Int) (w : World) (hh : 1 ≤ h ∧ h ≤ 6) :
    Calls Try.prog 68 #[.int .i64 a, .int .i64 h, .int .i64 b] w fun e w' => e = .returned (.bool (Fm.compares h a b)) ∧ w = w' := by
  obtain ⟨z, hz⟩ : ∃ z, z = Fm.compares h a b := ⟨_, rfl⟩
  rw [← hz]
  unfold Fm.compares at hz
  have hc : h = 1 ∨ h = 2 ∨ h = 3 ∨ h = 4 ∨ h = 5 ∨ h = 6 := by omega
  rcases hc with rfl | rfl | rfl | rfl | rfl | rfl
  all_goals
    go_enter Try.func68, Try.ntmps68
    go_wp2_with fail
    go_ret
    refine ⟨Lx.ret_bool ?_, rfl⟩
    first | rfl | (rw [Bool.eq_iff_iff]; simp)
end Go.Proofs.Ytjcaingfeaaakaa
