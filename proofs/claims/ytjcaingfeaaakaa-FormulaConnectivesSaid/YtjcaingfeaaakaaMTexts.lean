/-
  Slices of texts that are read; the walks of slices.Index and slices.Contains.
-/
import Derived.Test.YtjcaingfeaaakaaMMem
import Derived.Test.YtjcaingfeaaakaaFFits
namespace Go.Proofs.Ytjcaingfeaaakaa
open Go.RowKit

namespace Fm
open Lx
/-- A slice of texts that is read. -/
def IsT (w : World) (v : Value) (l : List T) : Prop := ∃ a c, v = .slice a l.length c ∧ l.length ≤ c ∧ c ≤ 9223372036854775807 ∧ (∀ t ∈ l, t.length ≤ 9223372036854775807) ∧
  (l ≠ [] → ∃ g o, a = some ⟨g, o, none⟩ ∧ g < w.heap.size ∧ ∀ i t, l[i]? = some t → w.cell? ⟨g, o + i, none⟩ = some (.string (str t)))
theorem IsT.below {w w' : World} {v : Value} {l : List T} (h : IsT w v l) (hb : Below w.heap.size w w') : IsT w' v l := by
  obtain ⟨a, c, e, h1, h2, h4, h3⟩ := h
  refine ⟨a, c, e, h1, h2, h4, fun hne => ?_⟩
  obtain ⟨g, o, e2, hg, hc⟩ := h3 hne
  exact ⟨g, o, e2, Nat.lt_of_lt_of_le hg hb.size, fun i t ht => (hb.cell (p := ⟨g, o + i, none⟩) hg).trans (hc i t ht)⟩
theorem IsT.nil (w : World) : IsT w (.slice none 0 0) [] := ⟨none, 0, rfl, Nat.le_refl _, by decide, by simp, fun h => absurd rfl h⟩
theorem IsT.any {w : World} {v : Value} {l : List T} (h : IsT w v l) : ∃ a c g o, v = .slice a l.length c ∧ l.length ≤ c ∧ c ≤ 9223372036854775807 ∧ (l ≠ [] → a = some ⟨g, o, none⟩ ∧ g < w.heap.size) ∧ ∀ i t, l[i]? = some t → w.cell? ⟨g, o + i, none⟩ = some (.string (str t)) := by
  obtain ⟨a, c, e, h1, h2, _, h3⟩ := h
  by_cases hne : l = []
  · subst hne; exact ⟨a, c, 0, 0, e, h1, h2, fun h => absurd rfl h, by simp⟩
  · obtain ⟨g, o, rfl, hg, hc⟩ := h3 hne
    exact ⟨_, c, g, o, e, h1, h2, fun _ => ⟨rfl, hg⟩, hc⟩
theorem IsT.sizes {w : World} {v : Value} {l : List T} (h : IsT w v l) : ∀ t ∈ l, t.length ≤ 9223372036854775807 := by obtain ⟨_, _, _, _, _, h, _⟩ := h; exact h
/-- Whether a list has a text. -/
abbrev has (l : List T) (x : T) : Bool := decide (x ∈ l)
/-- The index of a text, -1 if there is none. -/
def ix (l : List T) (x : T) : Int := match l.findIdx? (· == x) with | some i => (i : Int) | none => -1
theorem ix_of {l : List T} {x : T} {i : Nat} (h : l[i]? = some x) (hj : ∀ j, j < i → ∀ y, l[j]? = some y → y ≠ x) : ix l x = i := by
  unfold ix
  have : l.findIdx? (· == x) = some i := by
    rw [List.findIdx?_eq_some_iff_getElem]
    obtain ⟨hi, e⟩ := List.getElem?_eq_some_iff.1 h
    exact ⟨hi, by simp [e], fun j hji => by have := hj j hji l[j] (List.getElem?_eq_getElem (by omega)); simpa using this⟩
  rw [this]
theorem ix_not {l : List T} {x : T} (h : x ∉ l) : ix l x = -1 := by
  unfold ix
  have : l.findIdx? (· == x) = none := by
    rw [List.findIdx?_eq_none_iff]
    intro y hy
    rw [beq_eq_false_iff_ne]
    rintro rfl
    exact h hy
  rw [this]
theorem ix_ge {l : List T} {x : T} : (0 ≤ ix l x ↔ x ∈ l) ∧ -1 ≤ ix l x := by
  unfold ix
  cases h : l.findIdx? (· == x) with
  | none =>
    rw [List.findIdx?_eq_none_iff] at h
    refine ⟨⟨fun h => absurd h (by decide), fun hx => ?_⟩, by decide⟩
    have := h x hx
    simp at this
  | some i =>
    rw [List.findIdx?_eq_some_iff_getElem] at h
    obtain ⟨hi, he, _⟩ := h
    refine ⟨⟨fun _ => ?_, fun _ => by show (0 : Int) ≤ (i : Int); omega⟩, by show (-1 : Int) ≤ (i : Int); omega⟩
    have : l[i] = x := by simpa using he
    rw [← this]; exact List.getElem_mem _
theorem str_eq (t u : T) : ((str t).toList == (str u).toList) = decide (t = u) := by
  rw [Bool.eq_iff_iff, decide_eq_true_iff, Fc.name_eq, tx_str]
end Fm

set_option maxHeartbeats 2000000 in
set_option maxRecDepth 100000 in
theorem sindex_walk (v : Value) (l : List Fm.T) (x : Fm.T) (w : World) (hv : Fm.IsT w v l) :
    Calls Try.prog 59 #[v, .string (Lx.str x)] w fun e w' => e = .returned (.int .i64 (Fm.ix l x)) ∧ w = w' := by
  obtain ⟨a, c, g, o, rfl, hc1, hc2, hga, hcl⟩ := hv.any
  obtain ⟨n, hn⟩ : ∃ n, n = l.length := ⟨_, rfl⟩
  obtain ⟨z, hz⟩ : ∃ z, z = Fm.ix l x := ⟨_, rfl⟩
  have hga : 0 < n → a = some ⟨g, o, none⟩ ∧ g < w.heap.size := fun h => hga (by rintro rfl; rw [hn] at h; simp at h)
  rw [← hn, ← hz]
  have HC := Lib.hid hcl
  have HN := Lib.hid hn
  have HZ := Lib.hid hz
  have HG := Lib.hid hga
  have hnc : n ≤ c := by rw [hn]; exact hc1
  obtain ⟨sx, hsx⟩ : ∃ s, s = Lx.str x := ⟨_, rfl⟩
  rw [← hsx]
  have HX := Lib.hid hsx
  clear hv hcl hn hz hga hc1 hsx
  go_enter Try.func59, Try.ntmps59
  go_wp2_with fail
  go_loop [8] (fun i => ∃ k : Nat, k ≤ n ∧ i = .int .i64 k ∧ Hid (∀ j, j < k → ∀ y, l[j]? = some y → y ≠ x)) (fun i => n - (intOf i).toNat)
  case atStart => exact ⟨0, Nat.zero_le _, rfl, fun j hj => absurd hj (by omega)⟩
  case round =>
    obtain ⟨k, hk, rfl, hd⟩ := hrel
    by_cases hlt : k < n
    · have hkl : k < l.length := by rw [← HN.out]; exact hlt
      obtain ⟨y, hy⟩ : ∃ y, l[k]? = some y := ⟨_, List.getElem?_eq_getElem hkl⟩
      obtain ⟨rfl, hg⟩ := HG.out (by omega)
      have p0 := HC.out k y hy
      have hki : (k : Int) < (n : Int) := by omega
      have hkm : (k : Int) + 1 ≤ 9223372036854775807 := by omega
      obtain ⟨s, hs⟩ : ∃ s, s = Lx.str y := ⟨_, rfl⟩
      rw [← hs] at p0
      by_cases he : x = y
      · have hzk : z = (k : Int) := by rw [HZ.out]; subst he; exact Fm.ix_of hy hd.out
        subst hzk
        have hq : (sx.toList == s.toList) = true := by rw [HX.out, hs, Fm.str_eq]; simpa using he
        clear he hy hd hs
        go_wp2_with fail
        go_ret
        exact ⟨rfl, rfl⟩
      · have hq : (sx.toList == s.toList) = false := by rw [HX.out, hs, Fm.str_eq]; simpa using he
        have HD : Hid (∀ j, j < k + 1 → ∀ y, l[j]? = some y → y ≠ x) := fun j hj y2 hy2 => by
          by_cases e : j = k
          · subst e
            rw [hy] at hy2
            obtain rfl := Option.some.inj hy2
            exact fun h => he h.symm
          · exact hd.out j (by omega) y2 hy2
        clear he hy hd hs
        go_wp2_with fail
        go_round
        case rel => exact ⟨k + 1, by omega, by go_num, HD⟩
        case measure => simp [intOf]; omega
    · obtain rfl : k = n := by omega
      have hki : ¬ (k : Int) < (k : Int) := by omega
      have hzk : z = -1 := by
        rw [HZ.out]
        refine Fm.ix_not fun h => ?_
        obtain ⟨j, hj, e⟩ := List.getElem_of_mem h
        exact hd.out j (by rw [HN.out]; exact hj) _ (List.getElem?_eq_getElem hj) e
      subst hzk
      clear hd
      go_wp2_with fail
      go_ret
      exact ⟨rfl, rfl⟩

set_option maxHeartbeats 1000000 in
set_option maxRecDepth 100000 in
theorem contains_walk (v : Value) (l : List Fm.T) (x : Fm.T) (w : World) (hv : Fm.IsT w v l) :
    Calls Try.prog 39 #[v, .string (Lx.str x)] w fun e w' => e = .returned (.bool (Fm.has l x)) ∧ w = w' := by
  have HI := Lib.hid (sindex_walk v l x w hv)
  have hz := (Fm.ix_ge (l := l) (x := x)).1
  obtain ⟨z, hzz⟩ : ∃ z, z = Fm.ix l x := ⟨_, rfl⟩
  rw [← hzz] at HI hz
  obtain ⟨b, hb⟩ : ∃ b, b = Fm.has l x := ⟨_, rfl⟩
  have hbz : b = decide (0 ≤ z) := by rw [hb, Bool.eq_iff_iff, decide_eq_true_iff, decide_eq_true_iff, hz]
  rw [← hb]
  clear hz hzz hb hv
  subst hbz
  go_enter Try.func39, Try.ntmps39
  go_wp2_with (first | (refine HI.out.mono ?_; rintro e w1 ⟨rfl, rfl⟩))
  go_ret
  exact ⟨rfl, rfl⟩
end Go.Proofs.Ytjcaingfeaaakaa
