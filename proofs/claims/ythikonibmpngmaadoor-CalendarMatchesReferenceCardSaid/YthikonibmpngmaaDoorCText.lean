/-
  The text of a day in bytes; what Parse answers; the number that bytes write.
-/
import Derived.Test.YthikonibmpngmaaDoorCMath
namespace Go.Proofs.YthikonibmpngmaaDoor

/-- A decimal digit's byte. -/
def Cal.dig (n : Int) : UInt8 := UInt8.ofNat (48 + (n % 10).toNat)
def Cal.two (n : Int) : List UInt8 := [Cal.dig (n / 10), Cal.dig n]
def Cal.four (n : Int) : List UInt8 := [Cal.dig (n / 1000), Cal.dig (n / 100), Cal.dig (n / 10), Cal.dig n]
def Cal.txt (y m d : Int) : List UInt8 := Cal.four y ++ ([45] ++ (Cal.two m ++ ([45] ++ Cal.two d)))
theorem Cal.dig_nat (n : Int) : (Cal.dig n).toNat = 48 + (n % 10).toNat := by
  unfold Cal.dig
  rw [UInt8.toNat_ofNat']
  have : (n % 10).toNat < 10 := by omega
  omega
theorem Cal.dig_inj {a b : Int} (h : Cal.dig a = Cal.dig b) : a % 10 = b % 10 := by
  have := congrArg UInt8.toNat h
  rw [Cal.dig_nat, Cal.dig_nat] at this
  omega
theorem Cal.txt_length (y m d : Int) : (Cal.txt y m d).length = 10 := rfl
theorem Cal.txt_inj {y m d y' m' d' : Int} (h : Cal.txt y m d = Cal.txt y' m' d') (hy : 0 ≤ y ∧ y ≤ 9999) (hm : 0 ≤ m ∧ m ≤ 99) (hd : 0 ≤ d ∧ d ≤ 99) (hy' : 0 ≤ y' ∧ y' ≤ 9999) (hm' : 0 ≤ m' ∧ m' ≤ 99) (hd' : 0 ≤ d' ∧ d' ≤ 99) : y = y' ∧ m = m' ∧ d = d' := by
  simp only [Cal.txt, Cal.four, Cal.two, List.cons_append, List.nil_append, List.cons.injEq, and_true, true_and] at h
  obtain ⟨h1, h2, h3, h4, h5, h6, h7, h8⟩ := h
  have := Cal.dig_inj h1
  have := Cal.dig_inj h2
  have := Cal.dig_inj h3
  have := Cal.dig_inj h4
  have := Cal.dig_inj h5
  have := Cal.dig_inj h6
  have := Cal.dig_inj h7
  have := Cal.dig_inj h8
  omega
theorem Cal.IsDate.bd {n y m d : Int} (h : Cal.IsDate n y m d) : (0 ≤ y ∧ y ≤ 9999) ∧ (0 ≤ m ∧ m ≤ 99) ∧ (0 ≤ d ∧ d ≤ 99) := by
  obtain ⟨a, b, ⟨c1, c2, c3, c4⟩, _⟩ := h
  have := Cal.len_bd y m
  omega
/-- What Parse answers of a text. -/
def Cal.ParseR (t : List UInt8) (v err : Int) : Prop :=
  (∃ y m d, Cal.IsDate v y m d ∧ v ≤ 1000000 ∧ t = Cal.txt y m d ∧ err = 0) ∨ ((∀ n y m d, Cal.IsDate n y m d → n ≤ 1000000 → t ≠ Cal.txt y m d) ∧ v = 0 ∧ err = 5)
theorem Cal.ParseR.uniq {t : List UInt8} {v e v' e' : Int} (h : Cal.ParseR t v e) (h' : Cal.ParseR t v' e') : v = v' ∧ e = e' := by
  rcases h with ⟨y, m, d, h1, hb, h2, h3⟩ | ⟨h1, h2, h3⟩ <;> rcases h' with ⟨y', m', d', g1, gb, g2, g3⟩ | ⟨g1, g2, g3⟩
  · obtain ⟨a1, a2, a3⟩ := h1.bd
    obtain ⟨b1, b2, b3⟩ := g1.bd
    obtain ⟨rfl, rfl, rfl⟩ := Cal.txt_inj (h2.symm.trans g2) a1 a2 a3 b1 b2 b3
    exact ⟨h1.2.2.2.symm.trans g1.2.2.2, by omega⟩
  · exact absurd h2 (g1 _ _ _ _ h1 hb)
  · exact absurd g2 (h1 _ _ _ _ g1 gb)
  · omega
/-- The number that bytes write (each byte less 48, in a byte). -/
def Cal.low (c : UInt8) : Int := ((c.toNat + 208) % 256 : Nat)
theorem Cal.low_bd (c : UInt8) : 0 ≤ Cal.low c ∧ Cal.low c ≤ 255 := by unfold Cal.low; omega
theorem Cal.low_dig (n : Int) : Cal.low (Cal.dig n) = n % 10 := by
  unfold Cal.low
  rw [Cal.dig_nat]
  omega
def Cal.numb (l : List UInt8) : Int := l.foldl (fun n c => 10 * n + Cal.low c) 0
theorem Cal.numb_four {y : Int} (h : 0 ≤ y ∧ y ≤ 9999) : Cal.numb (Cal.four y) = y := by
  simp only [Cal.numb, Cal.four, List.foldl_cons, List.foldl_nil, Cal.low_dig]
  omega
theorem Cal.numb_two {y : Int} (h : 0 ≤ y ∧ y ≤ 99) : Cal.numb (Cal.two y) = y := by
  simp only [Cal.numb, Cal.two, List.foldl_cons, List.foldl_nil, Cal.low_dig]
  omega
theorem Cal.foldl_bd (l : List UInt8) : ∀ (n : Int), 0 ≤ n → 0 ≤ l.foldl (fun n c => 10 * n + Cal.low c) n ∧ l.foldl (fun n c => 10 * n + Cal.low c) n ≤ (n + 29) * 10 ^ l.length := by
  induction l with
  | nil => intro n h; simp; omega
  | cons c l ih =>
    intro n h
    have hc := Cal.low_bd c
    have := ih (10 * n + Cal.low c) (by omega)
    simp only [List.foldl_cons, List.length_cons]
    refine ⟨this.1, Int.le_trans this.2 ?_⟩
    rw [Int.pow_succ, show (n + 29) * ((10 : Int) ^ l.length * 10) = ((n + 29) * 10) * 10 ^ l.length by rw [Int.mul_comm (10 ^ l.length) 10, Int.mul_assoc]]
    exact Int.mul_le_mul_of_nonneg_right (by omega) (Int.pow_nonneg (by omega))
theorem Cal.numb_bd (l : List UInt8) (h : l.length ≤ 4) : 0 ≤ Cal.numb l ∧ Cal.numb l ≤ 290000 := by
  have := Cal.foldl_bd l 0 (by omega)
  unfold Cal.numb
  refine ⟨this.1, Int.le_trans this.2 ?_⟩
  have e : (10 : Int) ^ l.length ≤ 10000 := by
    have h5 : l.length = 0 ∨ l.length = 1 ∨ l.length = 2 ∨ l.length = 3 ∨ l.length = 4 := by omega
    rcases h5 with h5 | h5 | h5 | h5 | h5 <;> rw [h5] <;> decide
  omega
/-- Earlier in the alphabet: as strings are compared. -/
def Cal.lex : List UInt8 → List UInt8 → Bool
  | [], [] => false
  | [], _ :: _ => true
  | _ :: _, [] => false
  | a :: l, b :: k => decide (a < b) || (decide (a = b) && Cal.lex l k)
end Go.Proofs.YthikonibmpngmaaDoor
