import Derived.Test.YthhfcijgcpnfcaaDoorKDEx
import Derived.WalkKit
import Derived.WalkSpells
import Derived.WalkLawsBesides
import Derived.Lib.Hide
/-
  The walk of the reference's Few: at most thirty texts of at most some bytes.
-/
namespace Go.Proofs.YthhfcijgcpnfcaaDoor
open Go.RowKit
namespace Dg
/-- At most thirty texts of at most some bytes. -/
def few (l : List ByteArray) (most : Nat) : Bool := l.all (fun s => decide (s.size ≤ most)) && decide (l.length ≤ 30)
def fewTo (l : List ByteArray) (most k : Nat) : Prop := (l.take k).all (fun s => decide (s.size ≤ most)) = true
theorem getD_eq (l : List ByteArray) (k : Nat) (h : k < l.length) : l.getD k ByteArray.empty = l[k] := by
  rw [List.getD_eq_getElem?_getD, List.getElem?_eq_getElem h]; rfl
theorem fewTo_succ (l : List ByteArray) (most k : Nat) (h : k < l.length) (hk : fewTo l most k) (hb : (l.getD k ByteArray.empty).size ≤ most) : fewTo l most (k + 1) := by
  unfold fewTo at *
  rw [getD_eq l k h] at hb
  rw [List.take_succ_eq_append_getElem h, List.all_append, hk]; simp [hb]
theorem few_no (l : List ByteArray) (most k : Nat) (h : k < l.length) (hb : most < (l.getD k ByteArray.empty).size) : few l most = false := by
  rw [getD_eq l k h] at hb
  have : l.all (fun s => decide (s.size ≤ most)) = false := by
    rw [List.all_eq_false]
    exact ⟨l[k], List.getElem_mem _, by simp; omega⟩
  unfold few
  rw [this, Bool.false_and]
theorem few_yes (l : List ByteArray) (most : Nat) (hk : fewTo l most l.length) : few l most = decide ((l.length : Int) ≤ 30) := by
  unfold fewTo at hk
  rw [List.take_length] at hk
  unfold few
  rw [hk, Bool.true_and]
  exact decide_eq_decide.2 (by omega)
end Dg

theorem Dg.nDigits_le (u : Nat) (h : u < 1000) : Lib.nDigits u ≤ 3 := by
  by_cases h1 : u < 10
  · rw [Lib.nDigits_small h1]; omega
  · rw [Lib.nDigits_big h1]
    by_cases h2 : u / 10 < 10
    · rw [Lib.nDigits_small h2]; omega
    · rw [Lib.nDigits_big h2, Lib.nDigits_small (by omega)]; decide
theorem Dg.few_mono {l : List ByteArray} {a b : Nat} (hab : a ≤ b) (h : Dg.few l a = true) : Dg.few l b = true := by
  unfold Dg.few at *
  rw [Bool.and_eq_true, List.all_eq_true] at *
  exact ⟨fun s hs => by have := h.1 s hs; rw [decide_eq_true_eq] at *; omega, h.2⟩
/-- A short list has a short joined text. -/
theorem Dg.few_join3 (l : List ByteArray) (h : Dg.few l 300 = true) : (Dg.join (l.map (·.data.toList))).length ≤ 10000 := by
  unfold Dg.few at h
  rw [Bool.and_eq_true, List.all_eq_true, decide_eq_true_eq] at h
  obtain ⟨h1, h2⟩ := h
  have key : ∀ l : List ByteArray, (∀ s ∈ l, s.size ≤ 300) → (Dg.join (l.map (·.data.toList))).length ≤ l.length * 330 := by
    intro l
    induction l with
    | nil => intro _; simp [Dg.join]
    | cons t l ih =>
      intro h
      have ht := h t (by simp)
      have ih' := ih (fun s hs => h s (by simp [hs]))
      have hd : (Lib.decDigits t.data.toList.length).length ≤ 21 := by
        have := Dg.nDigits_le t.data.toList.length (by rw [Dg.len_data]; omega)
        rw [Lib.decDigits_length]; omega
      have hn := Dg.len_data t
      simp only [List.map_cons, Dg.join, List.length_append, List.length_cons]
      omega
  have := key l (fun s hs => by simpa using h1 s hs)
  omega
theorem Dg.few_join (l : List ByteArray) (h : Dg.few l 200 = true) : (Dg.join (l.map (·.data.toList))).length ≤ 10000 := Dg.few_join3 l (Dg.few_mono (by decide) h)
end Go.Proofs.YthhfcijgcpnfcaaDoor
