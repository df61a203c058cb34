import Derived.Test.YtoamkanofhhjfaaGreatDoorKFFits
import Derived.Test.YtoamkanofhhjfaaGreatDoorKFOrder
import Derived.BigQuiet
/-
  The walks of pandectref06.Equal and Less.
-/
namespace Go.Proofs.YtoamkanofhhjfaaGreatDoor
open Go.RowKit

namespace Fc
/-- The first values are equal. -/
def EqTo (l m : List Int) (k : Nat) : Prop := ∀ j, j < k → l.getD j 0 = m.getD j 0
theorem EqTo.succ {l m : List Int} {k : Nat} (h : EqTo l m k) (e : l.getD k 0 = m.getD k 0) : EqTo l m (k + 1) := fun j hj => by
  by_cases hk : j = k
  · subst hk; exact e
  · exact h j (by omega)
theorem EqTo.all {l m : List Int} (hl : l.length = m.length) (h : EqTo l m l.length) : l = m := by
  apply List.ext_getElem hl
  intro i h1 h2
  have := h i h1
  rwa [List.getD_eq_getElem?_getD, List.getD_eq_getElem?_getD, List.getElem?_eq_getElem h1, List.getElem?_eq_getElem h2] at this
theorem IsN.both {w : World} {v : Value} {l : List Int} (h : IsN w v l) : ∃ a c g o, v = .slice a l.length c ∧ l.length ≤ 9223372036854775807 ∧ (0 < l.length → a = Option.some ⟨g, o, none⟩) ∧ ∀ w', Below w.heap.size w w' → ∀ i, i < l.length → w'.cell? ⟨g, o + i, none⟩ = Option.some (.int .i64 (l.getD i 0)) := by
  obtain ⟨a, c, g, o, e, h1, h2, h3, h4⟩ := h.any
  refine ⟨a, c, g, o, e, Nat.le_trans h1 h2, fun hp => (h3 (by rintro rfl; simp at hp)).1, fun w' hb i hi => ?_⟩
  have hg := (h3 (by rintro rfl; simp at hi)).2
  exact (hb.cell (p := ⟨g, o + i, none⟩) hg).trans (h4 i hi)
end Fc

set_option maxHeartbeats 4000000 in
set_option maxRecDepth 100000 in
theorem equal_walk (v u : Value) (l m : List Int) (w : World) (hv : Fc.IsN w v l) (hu : Fc.IsN w u m) :
    Calls Tryz.prog 23 #[v, u] w (Fc.Says (l = m) w) := by
  obtain ⟨P, hP⟩ : ∃ P : Prop, P = (l = m) := ⟨_, rfl⟩
  rw [← hP]
  obtain ⟨a, c, g, o, rfl, hnb, ha, hc⟩ := hv.both
  obtain ⟨a2, c2, g2, o2, rfl, hnb2, ha2, hc2⟩ := hu.both
  clear hv hu
  by_cases hlen : l.length = m.length
  · obtain ⟨n, hn⟩ : ∃ n, n = l.length := ⟨_, rfl⟩
    rw [← hn] at hlen ha hc hnb ⊢
    rw [← hlen] at ha2 hc2 ⊢
    have HP : Hid ((P ↔ Fc.EqTo l m n) ∧ n = l.length) := (by
      refine ⟨?_, hn⟩
      rw [hP]
      exact ⟨fun e j _ => by rw [e], fun h => Fc.EqTo.all (by rw [← hn, ← hlen]) (by rw [← hn]; exact h)⟩ : (P ↔ Fc.EqTo l m n) ∧ n = l.length)
    have HA := Lib.hid (And.intro ha ha2)
    have HC := Lib.hid (And.intro hc hc2)
    clear ha ha2 hc hc2 hP hlen hn hnb2
    go_enter Tryz.func23, Tryz.ntmps23
    go_wp2_with fail
    go_loopw [5] (fun i wr => ∃ k : Nat, k ≤ n ∧ i = .int .i64 k ∧ Hid (Fc.EqTo l m k) ∧ Hid (Below w.heap.size w wr)) (fun i _ => n - (intOf i).toNat)
    case atStart => exact ⟨0, Nat.zero_le _, rfl, fun j hj => absurd hj (by omega), Below.refl _ _⟩
    case round =>
      obtain ⟨k, hk, rfl, hq, hb⟩ := hrel
      by_cases hlt : k < n
      · have hki : (k : Int) < (n : Int) := by omega
        have hwr : wrap64 ((k : Int) + 1) = (k : Int) + 1 := by unfold wrap64; omega
        have hk0 : (0 : Int) ≤ (k : Int) := by omega
        obtain rfl := HA.out.1 (by omega)
        obtain rfl := HA.out.2 (by omega)
        obtain ⟨x, hx⟩ : ∃ x, l.getD k 0 = x := ⟨_, rfl⟩
        obtain ⟨y, hy⟩ : ∃ y, m.getD k 0 = y := ⟨_, rfl⟩
        have c0 := HC.out.1 wr.drew hb.out.drew k hlt
        have c1 := HC.out.2 wr.drew hb.out.drew k hlt
        rw [hx] at c0
        rw [hy] at c1
        have HK : Hid ((P → x = y) ∧ (x = y → Fc.EqTo l m (k + 1))) := (⟨fun h => by rw [← hx, ← hy]; exact (HP.out.1.1 h) k hlt, fun e => hq.out.succ (by rw [hx, hy, e])⟩ : (P → x = y) ∧ (x = y → Fc.EqTo l m (k + 1)))
        have HB1 := Lib.hid hb.out.drew
        clear hx hy hq
        by_cases hxy : x = y
        · have HN := Lib.hid (HK.out.2 hxy)
          subst hxy
          go_upto_region 6 with fail
          go_region
          all_goals
            go_wp2_with fail
            go_roundw
            case rel => exact ⟨k + 1, by omega, by go_num, HN, HB1⟩
            case measure => simp [intOf]; omega
        · have hno := Lib.hid (show ¬ P from fun h => hxy (HK.out.1 h))
          go_upto_region 6 with fail
          go_region
          all_goals
            go_wp2_with fail
            go_ret
            exact Fc.Says.no hno.out (HB1.out)
      · have hki : ¬ (k : Int) < (n : Int) := by omega
        have hyes := Lib.hid (show P from HP.out.1.2 (by have := hq.out; rwa [show k = n by omega] at this))
        clear hq
        go_wp2_with fail
        go_ret
        exact Fc.Says.yes hyes.out (hb.out)
  · have hno := Lib.hid (show ¬ P from fun h => by rw [hP] at h; exact hlen (by rw [h]))
    have hi : ¬ ((l.length : Int) = (m.length : Int)) := by omega
    clear ha ha2 hc hc2 hP hlen
    go_enter Tryz.func23, Tryz.ntmps23
    go_wp2_with fail
    go_ret
    exact Fc.Says.no hno.out (Below.refl _ _)
end Go.Proofs.YtoamkanofhhjfaaGreatDoor
