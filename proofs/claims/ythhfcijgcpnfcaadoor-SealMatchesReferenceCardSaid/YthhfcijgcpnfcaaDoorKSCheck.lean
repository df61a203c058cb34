import Derived.Test.YthhfcijgcpnfcaaDoorKSMade
import Derived.Test.YthhfcijgcpnfcaaDoorKTCheckFn
/-
  What C3 answers, as one condition and through the check of a path.
-/
namespace Go.Proofs.YthhfcijgcpnfcaaDoor.Sl
open Go.Proofs.YthhfcijgcpnfcaaDoor.Tr

/-- C3. -/
def verify (pb m : T) (i : Int) (sg q : List T) : Bool :=
  decide (sg.length = 18) && decide (q.length ≤ 8) && sg.all Dg.isDigest && q.all Dg.isDigest && decide (0 ≤ i) && decide (i < ((2 ^ q.length : Nat) : Int)) &&
    decide (up (2 ^ q.length) i.toNat (leaf (li (cends m sg))) q = pb)

theorem verify_accepts (pb m : T) (i : Int) (sg q : List T) : verify pb m i sg q = true ↔ 0 ≤ i ∧ Accepts pb m i.toNat sg q := by
  unfold verify Accepts
  simp only [Bool.and_eq_true, decide_eq_true_eq]
  constructor
  · rintro ⟨⟨⟨⟨⟨⟨h1, h2⟩, h3⟩, h4⟩, h5⟩, h6⟩, h7⟩
    exact ⟨h5, h1, h2, h3, h4, by omega, h7⟩
  · rintro ⟨h5, h1, h2, h3, h4, h6, h7⟩
    exact ⟨⟨⟨⟨⟨⟨h1, h2⟩, h3⟩, h4⟩, h5⟩, by omega⟩, h7⟩

theorem two_le_256 {p : Nat} (h : p ≤ 8) : 2 ^ p ≤ 256 := Nat.le_trans (Nat.pow_le_pow_right (by decide) h) (by decide)

/-- Through the check of the path. -/
theorem verify_check (pb m : T) (i : Int) (sg q : List T) (h18 : sg.length = 18) (h8 : q.length ≤ 8) (hd : sg.all Dg.isDigest = true) :
    verify pb m i sg q = Tr.check pb ((2 ^ q.length : Nat) : Int) i (li (cends m sg)) q := by
  have hp := two_le_256 h8
  unfold verify Tr.check
  rw [decide_eq_true h18, decide_eq_true h8, hd, decide_eq_true (p := ((2 ^ q.length : Nat) : Int) ≤ 1000000) (by omega), Int.toNat_natCast]
  by_cases h0 : 0 ≤ i
  · by_cases h1 : i < ((2 ^ q.length : Nat) : Int)
    · rw [plen_two q.length i.toNat (by omega), decide_eq_true h0, decide_eq_true h1]
      simp
    · rw [decide_eq_false h1]; simp
  · rw [decide_eq_false h0]; simp
theorem verify_len (pb m : T) (i : Int) (sg q : List T) (h : sg.length ≠ 18) : verify pb m i sg q = false := by unfold verify; rw [decide_eq_false h]; simp
theorem verify_long (pb m : T) (i : Int) (sg q : List T) (h : ¬ q.length ≤ 8) : verify pb m i sg q = false := by unfold verify; rw [decide_eq_false h]; simp
theorem verify_nodig (pb m : T) (i : Int) (sg q : List T) (h : sg.all Dg.isDigest = false) : verify pb m i sg q = false := by unfold verify; rw [h]; simp
theorem verify_low (pb m : T) (i : Int) (sg q : List T) (h : i < 0) : verify pb m i sg q = false := by unfold verify; rw [decide_eq_false (p := 0 ≤ i) (by omega)]; simp
theorem verify_high (pb m : T) (i : Int) (sg q : List T) (h : ((2 ^ q.length : Nat) : Int) ≤ i) : verify pb m i sg q = false := by
  unfold verify; rw [decide_eq_false (p := i < ((2 ^ q.length : Nat) : Int)) (by omega)]; simp

/-- P3.6: what is accepted. -/
theorem verify_form (pb m : T) (i : Int) (sg q : List T) (h : verify pb m i sg q = true) :
    sg.length = 18 ∧ q.length ≤ 8 ∧ 0 ≤ i ∧ i < ((2 ^ q.length : Nat) : Int) ∧ Dg.isDigest pb = true ∧ sg.all Dg.isDigest = true ∧ q.all Dg.isDigest = true := by
  obtain ⟨h0, h1, h2, h3, h4, h5, h6⟩ := (verify_accepts pb m i sg q).1 h
  refine ⟨h1, h2, h0, by omega, ?_, h3, h4⟩
  rw [← h6]
  by_cases hp : q.length = 0
  · rw [hp, up_one (by decide)]; exact Dg.sum_isDigest _
  · obtain ⟨p, e⟩ : ∃ p, q.length = p + 1 := ⟨q.length - 1, by omega⟩
    have h2 : 2 ≤ 2 ^ q.length := by rw [e, Nat.pow_succ]; have := Nat.two_pow_pos p; omega
    by_cases hh : i.toNat < half (2 ^ q.length)
    · rw [up_left h2 hh]; exact Dg.sum_isDigest _
    · rw [up_right h2 hh]; exact Dg.sum_isDigest _
end Go.Proofs.YthhfcijgcpnfcaaDoor.Sl
