/-
  The walk of the reference's Few: at most thirty texts of at most some bytes.
-/
import Derived.Test.YteeanbjaphjccaaDoorDJoin
import Derived.WalkKit
import Derived.WalkSpells
import Derived.WalkLawsBesides
import Derived.Lib.Hide
namespace Go.Proofs.YteeanbjaphjccaaDoor
open Go.RowKit
namespace Dg
/-- At most thirty texts of at most some bytes. -/
def few (l : List ByteArray) (most : Nat) : Bool := l.all (fun s => decide (s.size ≤ most)) && decide (l.length ≤ 30)
def fewTo (l : List ByteArray) (most k : Nat) : Prop := (l.take k).all (fun s => decide (s.size ≤ most)) = true
theorem getD_eq (l : List ByteArray) (k : Nat) (h : k < l.length) : l.getD k ByteArray.empty = l[k] := by
  rw [List.getD_eq_getElem?_getD, List.getElem?_eq_getElem h]; rfl
theorem fewTo_succ (l : List ByteArray) (most k : Nat) (h : k < l.length) (hk : fewTo l most k) (hb : (l.getD k ByteArray.empty).size ≤ most) : fewTo l most (k + 1) := by
  unfold fewTo at *
  rw [getD_eq l k h] at hb
  rw [List.take_succ_eq_append_getElem h, List.all_append, hk]; simp [hb]
theorem few_no (l : List ByteArray) (most k : Nat) (h : k < l.length) (hb : most < (l.getD k ByteArray.empty).size) : few l most = false := by
  rw [getD_eq l k h] at hb
  have : l.all (fun s => decide (s.size ≤ most)) = false := by
    rw [List.all_eq_false]
    exact ⟨l[k], List.getElem_mem _, by simp; omega⟩
  unfold few
  rw [this, Bool.false_and]
theorem few_yes (l : List ByteArray) (most : Nat) (hk : fewTo l most l.length) : few l most = decide ((l.length : Int) ≤ 30) := by
  unfold fewTo at hk
  rw [List.take_length] at hk
  unfold few
  rw [hk, Bool.true_and]
  exact decide_eq_decide.2 (by omega)
end Dg

set_option maxHeartbeats 1000000 in
set_option maxRecDepth 100000 in
theorem few_walk (v : Value) (l : List ByteArray) (most : Nat) (w : World) (hv : IsTexts w v l) (hl : l.length ≤ 9223372036854775807) :
    Calls Tryd.prog 27 #[v, .int .i64 most] w fun e w' => e = .returned (.bool (Dg.few l most)) ∧ w = w' := by
  obtain ⟨a, cap, rfl, hne⟩ := hv
  by_cases h0 : l = []
  · subst h0
    go_enter Tryd.func27, Tryd.ntmps27
    go_wp2_with fail
    refine wp_loop_rounds 1 ?_
    rw [rounds_succ]
    go_wp2_with fail
    go_ret
    exact ⟨rfl, rfl⟩
  · obtain ⟨b, off, rfl, _, hc⟩ := hne h0
    clear hne h0
    go_enter Tryd.func27, Tryd.ntmps27
    go_wp2_with fail
    go_loop [5] (fun i => ∃ k : Nat, k ≤ l.length ∧ i = .int .i64 k ∧ Dg.fewTo l most k) (fun i => l.length - (intOf i).toNat)
    case atStart => exact ⟨0, Nat.zero_le _, rfl, rfl⟩
    case round =>
      obtain ⟨k, hk, rfl, hto⟩ := hrel
      by_cases hlt : k < l.length
      · obtain ⟨t, htk⟩ : ∃ t, t = l.getD k ByteArray.empty := ⟨_, rfl⟩
        have hcell : w.cell? ⟨b, off + k, none⟩ = some (.string t) := by rw [hc k hlt, htk]
        have HT := Lib.hid htk
        clear hc htk
        by_cases hm : (most : Int) < t.size
        · go_wp2_with fail
          go_ret
          exact ⟨by rw [Dg.few_no l most k hlt (by rw [← HT.out]; omega)]; rfl, rfl⟩
        · go_wp2_with fail
          go_round
          case rel => exact ⟨k + 1, by omega, by go_num, Dg.fewTo_succ l most k hlt hto (by rw [← HT.out]; omega)⟩
          case measure => simp [intOf]; omega
      · have hke : Hid (k = l.length) := by show _ = _; omega
        clear hc
        go_wp2_with fail
        go_ret
        exact ⟨by rw [Dg.few_yes l most (hke.out ▸ hto)]; rfl, rfl⟩
theorem few_true (v : Value) (l : List ByteArray) (w : World) (hv : IsTexts w v l) (hl : l.length ≤ 9223372036854775807) (h : Dg.few l 200 = true) :
    Calls Tryd.prog 27 #[v, .int .i64 200] w fun e w' => e = .returned (.bool true) ∧ w = w' := by
  have := few_walk v l 200 w hv hl; rw [h] at this; exact this
theorem few_false (v : Value) (l : List ByteArray) (w : World) (hv : IsTexts w v l) (hl : l.length ≤ 9223372036854775807) (h : Dg.few l 200 = false) :
    Calls Tryd.prog 27 #[v, .int .i64 200] w fun e w' => e = .returned (.bool false) ∧ w = w' := by
  have := few_walk v l 200 w hv hl; rw [h] at this; exact this
theorem Dg.nDigits_le (u : Nat) (h : u < 1000) : Lib.nDigits u ≤ 3 := by
  by_cases h1 : u < 10
  · rw [Lib.nDigits_small h1]; omega
  · rw [Lib.nDigits_big h1]
    by_cases h2 : u / 10 < 10
    · rw [Lib.nDigits_small h2]; omega
    · rw [Lib.nDigits_big h2, Lib.nDigits_small (by omega)]; decide
/-- A short list has a short joined text. -/
theorem Dg.few_join (l : List ByteArray) (h : Dg.few l 200 = true) : (Dg.join (l.map (·.data.toList))).length ≤ 10000 := by
  unfold Dg.few at h
  rw [Bool.and_eq_true, List.all_eq_true, decide_eq_true_eq] at h
  obtain ⟨h1, h2⟩ := h
  have key : ∀ l : List ByteArray, (∀ s ∈ l, s.size ≤ 200) → (Dg.join (l.map (·.data.toList))).length ≤ l.length * 300 := by
    intro l
    induction l with
    | nil => intro _; simp [Dg.join]
    | cons t l ih =>
      intro h
      have ht := h t (by simp)
      have ih' := ih (fun s hs => h s (by simp [hs]))
      have hd : (Lib.decDigits t.data.toList.length).length ≤ 21 := by
        have := Dg.nDigits_le t.data.toList.length (by rw [Dg.len_data]; omega)
        rw [Lib.decDigits_length]; omega
      have hn := Dg.len_data t
      simp only [List.map_cons, Dg.join, List.length_append, List.length_cons]
      omega
  have := key l (fun s hs => by simpa using h1 s hs)
  omega
end Go.Proofs.YteeanbjaphjccaaDoor
