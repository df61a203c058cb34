/-
  The walk of the law's few.
-/
import Derived.Test.YtjcaingfeaaakaaFFits
import Derived.Test.YtjcaingfeaaakaaMTexts
namespace Go.Proofs.Ytjcaingfeaaakaa
open Go.RowKit

namespace Fm
/-- What few says. -/
def Few (d : List Fc.Fact) (c : List Int) (l : List T) : Prop := (∀ t ∈ l, t.length ≤ 60) ∧ d.length ≤ 40 ∧ c.length ≤ 60 ∧ l.length ≤ 40
end Fm

set_option maxHeartbeats 4000000 in
set_option maxRecDepth 100000 in
theorem few_walk (v cv t : Value) (d : List Fc.Fact) (c : List Int) (l : List Fm.T) (w : World) (hd : Fc.IsF w v d) (hc : Fc.IsN w cv c) (ht : Fm.IsT w t l) :
    Calls Try.prog 12 #[.agg #[v], cv, t] w (Fc.Says (Fm.Few d c l) w) := by
  obtain ⟨P, hP⟩ : ∃ P : Prop, P = Fm.Few d c l := ⟨_, rfl⟩
  rw [← hP]
  obtain ⟨va, vc, rfl, hv1, hv2⟩ := hd.form
  obtain ⟨ca, cc, _, _, rfl, hc1, hc2, _⟩ := hc.any
  obtain ⟨a, k0, g, o, rfl, hn1, hn2, hga, hcl⟩ := ht.any
  obtain ⟨n, hn⟩ : ∃ n, n = l.length := ⟨_, rfl⟩
  obtain ⟨nd, hnd⟩ : ∃ n, n = d.length := ⟨_, rfl⟩
  obtain ⟨nc, hnc⟩ : ∃ n, n = c.length := ⟨_, rfl⟩
  rw [← hn] at hn1
  have HP : Hid (P ↔ (∀ t ∈ l, t.length ≤ 60) ∧ nd ≤ 40 ∧ nc ≤ 60 ∧ n ≤ 40) := by rw [hP, hn, hnd, hnc]; exact Iff.rfl
  have HG : Hid (0 < n → a = some ⟨g, o, none⟩ ∧ g < w.heap.size) := (fun h => hga (by rintro rfl; rw [hn] at h; simp at h) : 0 < n → a = some ⟨g, o, none⟩ ∧ g < w.heap.size)
  have HC := Lib.hid hcl
  have HN := Lib.hid hn
  have hnb : n ≤ 9223372036854775807 := Nat.le_trans hn1 hn2
  rw [← hn, ← hnd, ← hnc]
  have HB0 := Lib.hid (Boxed.start w (.slice va nd vc))
  have hndb : nd ≤ 9223372036854775807 := by omega
  have hncb : nc ≤ 9223372036854775807 := by omega
  clear hd hc ht hga hcl hP hn hn1 hn2 hv1 hv2 hc1 hc2 hnd hnc
  go_enter Try.func12, Try.ntmps12
  go_wp2_with fail
  go_loopw [7] (fun i wr => ∃ k : Nat, k ≤ n ∧ i = .int .i64 k ∧ Hid (∀ j, j < k → ∀ t, l[j]? = some t → t.length ≤ 60) ∧ Hid (Boxed w (.slice va nd vc) wr)) (fun i _ => n - (intOf i).toNat)
  case atStart => exact ⟨0, Nat.zero_le _, rfl, fun j hj => absurd hj (by omega), HB0⟩
  case round =>
    obtain ⟨k, hk, rfl, hq, hb⟩ := hrel
    clear HB0
    have b1 := hb.out.cell
    by_cases hlt : k < n
    · have hki : (k : Int) < (n : Int) := by omega
      have hk0 : (0 : Int) ≤ (k : Int) := by omega
      have hkm : (k : Int) + 1 ≤ 9223372036854775807 := by omega
      obtain ⟨rfl, hgl⟩ := HG.out (by omega)
      obtain ⟨f, hf⟩ : ∃ f, l[k]? = some f := ⟨_, List.getElem?_eq_getElem (by rw [← HN.out]; exact hlt)⟩
      have p0 := (hb.out.below.cell (p := ⟨g, o + k, none⟩) hgl).trans (HC.out k f hf)
      obtain ⟨s, hs⟩ : ∃ s, s = Lx.str f := ⟨_, rfl⟩
      rw [← hs] at p0
      have hsz : s.size = f.length := by rw [hs, Fc.str_size]
      by_cases h60 : s.size ≤ 60
      · have h60i : ¬ (60 : Int) < (s.size : Int) := by omega
        have HK1 : Hid (∀ j, j < k + 1 → ∀ t, l[j]? = some t → t.length ≤ 60) := fun j hj t ht => by
          by_cases e : j = k
          · subst e; rw [hf] at ht; obtain rfl := Option.some.inj ht; omega
          · exact hq.out j (by omega) t ht
        clear hs hsz hf hq
        go_wp2_with fail
        go_roundw
        case rel => exact ⟨k + 1, by omega, by go_num, HK1, hb⟩
        case measure => simp [intOf]; omega
      · have h60i : (60 : Int) < (s.size : Int) := by omega
        have hno := Lib.hid (show ¬ P from fun hp => h60 (by rw [hsz]; exact (HP.out.1 hp).1 f (List.mem_of_getElem? hf)))
        clear hs hsz hf hq
        go_wp2_with fail
        go_ret
        exact Fc.Says.no hno.out hb.out.below
    · obtain rfl : k = n := by omega
      have hki : ¬ (k : Int) < (k : Int) := by omega
      have hall : ∀ t ∈ l, t.length ≤ 60 := fun t ht => by
        obtain ⟨j, hj, e⟩ := List.getElem_of_mem ht
        exact hq.out j (by rw [HN.out]; exact hj) t (by rw [List.getElem?_eq_getElem hj, e])
      have HALL := Lib.hid hall
      clear hq hall
      by_cases h1 : nd ≤ 40
      · have h1i : (nd : Int) ≤ 40 := by omega
        by_cases h2 : nc ≤ 60
        · have h2i : (nc : Int) ≤ 60 := by omega
          by_cases h3 : k ≤ 40
          · have h3i : (k : Int) ≤ 40 := by omega
            have hyes := Lib.hid (HP.out.2 ⟨HALL.out, h1, h2, h3⟩)
            go_wp2_with fail
            go_ret
            exact Fc.Says.yes hyes.out hb.out.below
          · have h3i : ¬ (k : Int) ≤ 40 := by omega
            have hno := Lib.hid (show ¬ P from fun hp => h3 (HP.out.1 hp).2.2.2)
            go_wp2_with fail
            go_ret
            exact Fc.Says.no hno.out hb.out.below
        · have h2i : ¬ (nc : Int) ≤ 60 := by omega
          have hno := Lib.hid (show ¬ P from fun hp => h2 (HP.out.1 hp).2.2.1)
          go_wp2_with fail
          go_ret
          exact Fc.Says.no hno.out hb.out.below
      · have h1i : ¬ (nd : Int) ≤ 40 := by omega
        have hno := Lib.hid (show ¬ P from fun hp => h1 (HP.out.1 hp).2.1)
        go_wp2_with fail
        go_ret
        exact Fc.Says.no hno.out hb.out.below
end Go.Proofs.Ytjcaingfeaaakaa
