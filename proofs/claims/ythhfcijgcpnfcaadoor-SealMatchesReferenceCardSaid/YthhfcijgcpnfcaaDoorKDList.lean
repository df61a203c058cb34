import Derived.Lib.ItoaNum
/-
  The joined text of a list: plain facts. No program in this text.
-/
namespace Go.Proofs.YthhfcijgcpnfcaaDoor.Dg
open Go.Lib (decDigits)
theorem dec_small {u : Nat} (h : u < 10) : decDigits u = [UInt8.ofNat (48 + u)] := by rw [decDigits, dif_pos h]
theorem dec_big {u : Nat} (h : ¬ u < 10) : decDigits u = decDigits (u / 10) ++ [UInt8.ofNat (48 + u % 10)] := by rw [decDigits, dif_neg h]
theorem dec_digit (u : Nat) : ∀ b ∈ decDigits u, 48 ≤ b.toNat ∧ b.toNat ≤ 57 := by
  induction u using Nat.strongRecOn with
  | _ u ih =>
    rw [decDigits]
    by_cases h : u < 10
    · rw [dif_pos h]
      intro b hb
      rw [List.mem_singleton] at hb
      subst hb
      rw [UInt8.toNat_ofNat']; omega
    · rw [dif_neg h]
      intro b hb
      rw [List.mem_append, List.mem_singleton] at hb
      rcases hb with hb | hb
      · exact ih (u / 10) (by omega) b hb
      · subst hb; rw [UInt8.toNat_ofNat']; omega

theorem dec_ne (u : Nat) : decDigits u ≠ [] := by
  rw [decDigits]; split <;> simp

theorem dec_inj (u : Nat) : ∀ v, decDigits u = decDigits v → u = v := by
  induction u using Nat.strongRecOn with
  | _ u ih =>
    intro v h
    have e8 : ∀ a b : Nat, a < 10 → b < 10 → UInt8.ofNat (48 + a) = UInt8.ofNat (48 + b) → a = b := by
      intro a b ha hb e
      have := congrArg UInt8.toNat e
      rw [UInt8.toNat_ofNat', UInt8.toNat_ofNat'] at this; omega
    by_cases hu : u < 10 <;> by_cases hv : v < 10
    · rw [dec_small hu, dec_small hv] at h
      exact e8 u v hu hv (by simpa using h)
    · rw [dec_small hu, dec_big hv] at h
      have := congrArg List.length h
      have h2 : 0 < (decDigits (v / 10)).length := List.length_pos_iff.2 (dec_ne _)
      rw [List.length_append, List.length_singleton, List.length_singleton] at this; omega
    · rw [dec_big hu, dec_small hv] at h
      have := congrArg List.length h
      have h2 : 0 < (decDigits (u / 10)).length := List.length_pos_iff.2 (dec_ne _)
      rw [List.length_append, List.length_singleton, List.length_singleton] at this; omega
    · rw [dec_big hu, dec_big hv] at h
      have h' := List.append_inj' h rfl
      have e1 := ih (u / 10) (by omega) (v / 10) h'.1
      have e2 := e8 (u % 10) (v % 10) (by omega) (by omega) (by simpa using h'.2)
      omega

/-- The joined text of a list. -/
def join : List (List UInt8) → List UInt8
  | [] => []
  | t :: l => decDigits t.length ++ (58 :: (t ++ join l))

theorem split_at (a b c d : List UInt8) (ha : ∀ x ∈ a, x ≠ 58) (hb : ∀ x ∈ b, x ≠ 58) (h : a ++ 58 :: c = b ++ 58 :: d) : a = b ∧ c = d := by
  induction a generalizing b with
  | nil =>
    cases b with
    | nil => simpa using h
    | cons y b =>
      simp only [List.nil_append, List.cons_append, List.cons.injEq] at h
      exact absurd h.1.symm (hb y (by simp))
  | cons x a ih =>
    cases b with
    | nil =>
      simp only [List.nil_append, List.cons_append, List.cons.injEq] at h
      exact absurd h.1 (ha x (by simp))
    | cons y b =>
      simp only [List.cons_append, List.cons.injEq] at h
      have := ih b (fun z hz => ha z (by simp [hz])) (fun z hz => hb z (by simp [hz])) h.2
      exact ⟨by rw [h.1, this.1], this.2⟩

theorem dec_ne58 (u : Nat) : ∀ x ∈ decDigits u, x ≠ 58 := by
  intro x hx e
  have := dec_digit u x hx
  rw [e] at this; simp at this

theorem join_inj : ∀ l m : List (List UInt8), join l = join m → l = m
  | [], [], _ => rfl
  | [], t :: m, h => by
    rw [join, join] at h
    have := congrArg List.length h
    simp at this
  | t :: l, [], h => by
    rw [join, join] at h
    have := congrArg List.length h
    simp at this
  | t :: l, u :: m, h => by
    rw [join, join] at h
    obtain ⟨e1, e2⟩ := split_at _ _ _ _ (dec_ne58 _) (dec_ne58 _) h
    have e3 := List.append_inj e2 (dec_inj _ _ e1)
    rw [e3.1, join_inj l m e3.2]

theorem join_append (l m : List (List UInt8)) : join (l ++ m) = join l ++ join m := by
  induction l with
  | nil => rfl
  | cons t l ih => simp [join, ih]
theorem join_one (t : List UInt8) : join [t] = decDigits t.length ++ 58 :: t := by simp [join]
end Go.Proofs.YthhfcijgcpnfcaaDoor.Dg
