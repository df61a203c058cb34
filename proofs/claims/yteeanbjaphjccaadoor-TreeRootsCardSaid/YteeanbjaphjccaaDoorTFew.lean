/-
  The walk of the laws' few (stage 2): at most twenty texts of at most a hundred bytes.
-/
import Derived.Test.YteeanbjaphjccaaDoorTTx
namespace Go.Proofs.YteeanbjaphjccaaDoor
open Go.RowKit

/-- At most twenty texts of at most a hundred bytes. -/
def Tr.few (l : List ByteArray) : Bool := decide (l.length ≤ 20) && Dg.few l 100
theorem Tr.few_out {l : List ByteArray} (h : Tr.few l = true) : l.length ≤ 20 ∧ (∀ s ∈ l, s.size ≤ 100) := by
  unfold Tr.few Dg.few at h
  rw [Bool.and_eq_true, Bool.and_eq_true, decide_eq_true_eq, List.all_eq_true] at h
  exact ⟨h.1, fun s hs => by simpa using h.2.1 s hs⟩
theorem Tr.few_small {l : List ByteArray} (h : Tr.few l = true) : ∀ s ∈ l, s.size ≤ 200 := fun s hs => by have := (Tr.few_out h).2 s hs; omega
theorem Tr.few_len {l : List ByteArray} (h : Tr.few l = true) : l.length ≤ 4611686018427387904 := by have := (Tr.few_out h).1; omega

set_option maxHeartbeats 1000000 in
set_option maxRecDepth 100000 in
theorem lawfew_walk (v : Value) (l : List ByteArray) (w : World) (hv : IsTx w v l) :
    Calls Tryd.prog 10 #[v] w fun e w' => e = .returned (.bool (Tr.few l)) ∧ w = w' := by
  have HF := Lib.hid (few_walk v l 100 w hv.texts hv.len)
  obtain ⟨a, cap, rfl, h1, h2, _⟩ := hv
  by_cases h : l.length ≤ 20
  · have e : Tr.few l = Dg.few l 100 := by unfold Tr.few; rw [decide_eq_true h, Bool.true_and]
    rw [e]
    have hi : (l.length : Int) ≤ 20 := by omega
    clear e h
    go_enter Tryd.func10, Tryd.ntmps10
    go_wp2_with fail
    refine HF.out.mono ?_
    rintro e w1 ⟨rfl, rfl⟩
    go_wp2_with fail
    go_ret
    exact ⟨rfl, rfl⟩
  · have e : Tr.few l = false := by unfold Tr.few; rw [decide_eq_false h, Bool.false_and]
    rw [e]
    have hi : (20 : Int) < (l.length : Int) := by omega
    clear e h
    go_enter Tryd.func10, Tryd.ntmps10
    go_wp2_with fail
    go_ret
    exact ⟨rfl, rfl⟩
theorem lawfew_true (v : Value) (l : List ByteArray) (w : World) (hv : IsTx w v l) (h : Tr.few l = true) :
    Calls Tryd.prog 10 #[v] w fun e w' => e = .returned (.bool true) ∧ w = w' := by
  have := lawfew_walk v l w hv; rw [h] at this; exact this
theorem lawfew_false (v : Value) (l : List ByteArray) (w : World) (hv : IsTx w v l) (h : Tr.few l = false) :
    Calls Tryd.prog 10 #[v] w fun e w' => e = .returned (.bool false) ∧ w = w' := by
  have := lawfew_walk v l w hv; rw [h] at this; exact this
end Go.Proofs.YteeanbjaphjccaaDoor
