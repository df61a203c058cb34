
/-
  The digest in arithmetic: its state, its block, its finish and its list, over the bytes of a text, with no condition but what each fact names.
-/
namespace Go.Proofs.YthhfcijgcpnfcaaDoor.Dg
/-- 2^64. -/
def M : Nat := 18446744073709551616
def c1 : Nat := 6364136223846793005
def c2 : Nat := 3202034522624059733
def s0 : Nat := 1442695040888963407
def mix (x : Nat) : Nat := (((x * c1 % M) ^^^ (x * c1 % M) / 2147483648) * c2 % M) ^^^ (((x * c1 % M) ^^^ (x * c1 % M) / 2147483648) * c2 % M) / 1073741824

theorem xs_inv (x s : Nat) (hs : 22 ≤ s) (hx : x < 2 ^ 64) :
    (x ^^^ x >>> s) ^^^ (x ^^^ x >>> s) >>> s ^^^ (x ^^^ x >>> s) >>> (2 * s) = x := by
  have h3 : x >>> (3 * s) = 0 := by
    rw [Nat.shiftRight_eq_div_pow]
    exact Nat.div_eq_of_lt (Nat.lt_of_lt_of_le hx (Nat.pow_le_pow_right (by decide) (by omega)))
  simp only [Nat.shiftRight_xor_distrib, ← Nat.shiftRight_add]
  rw [show s + s = 2 * s from by omega, show s + 2 * s = 3 * s from by omega, h3]
  apply Nat.eq_of_testBit_eq
  intro i
  simp only [Nat.testBit_xor, Nat.zero_testBit]
  cases x.testBit i <;> cases (x >>> s).testBit i <;> cases (x >>> (2 * s)).testBit i <;> rfl

theorem xs_inj (x y s : Nat) (hs : 22 ≤ s) (hx : x < 2 ^ 64) (hy : y < 2 ^ 64) (h : x ^^^ x >>> s = y ^^^ y >>> s) : x = y := by
  rw [← xs_inv x s hs hx, ← xs_inv y s hs hy, h]

theorem mul_inj (c d x y : Nat) (hcd : c * d % M = 1) (hx : x < M) (hy : y < M) (h : x * c % M = y * c % M) : x = y := by
  have k : ∀ z, z < M → z * c % M * d % M = z := by
    intro z hz
    rw [Nat.mod_mul_mod, Nat.mul_assoc, ← Nat.mul_mod_mod, hcd, Nat.mul_one, Nat.mod_eq_of_lt hz]
  rw [← k x hx, ← k y hy, h]

theorem M_pow : M = 2 ^ 64 := by decide
theorem M_pos : 0 < M := by decide

theorem xs_lt (x k : Nat) (hx : x < M) : (x ^^^ x / k) < M := by
  rw [M_pow] at *
  exact Nat.xor_lt_two_pow hx (Nat.lt_of_le_of_lt (Nat.div_le_self _ _) hx)

theorem mix_lt (x : Nat) : mix x < M := xs_lt _ _ (Nat.mod_lt _ M_pos)

theorem xsd_inj (x y s : Nat) (hs : 22 ≤ s) (hx : x < M) (hy : y < M) (h : x ^^^ x / 2 ^ s = y ^^^ y / 2 ^ s) : x = y := by
  rw [M_pow] at *
  rw [← Nat.shiftRight_eq_div_pow, ← Nat.shiftRight_eq_div_pow] at h
  exact xs_inj x y s hs hx hy h

theorem mix_inj (x y : Nat) (hx : x < M) (hy : y < M) (h : mix x = mix y) : x = y := by
  have h1 := xsd_inj _ _ 30 (by decide) (Nat.mod_lt _ M_pos) (Nat.mod_lt _ M_pos) h
  have h2 := mul_inj c2 10706317138985569277 _ _ (by decide) (xs_lt _ _ (Nat.mod_lt _ M_pos)) (xs_lt _ _ (Nat.mod_lt _ M_pos)) h1
  have h3 := xsd_inj _ _ 31 (by decide) (Nat.mod_lt _ M_pos) (Nat.mod_lt _ M_pos) h2
  exact mul_inj c1 13877824140714322085 _ _ (by decide) hx hy h3

/-- The number of the eight bytes of a text from a place on; beyond the end they are 0. -/
def num (l : List UInt8) (at_ : Nat) : Nat → Nat
  | 0 => 0
  | n + 1 => num l at_ n * 256 + (l.getD (at_ + n) 0).toNat

theorem num_lt (l : List UInt8) (p n : Nat) : num l p n < 256 ^ n := by
  induction n with
  | zero => simp [num]
  | succ n ih =>
    have := (l.getD (p + n) 0).toNat_lt
    rw [num, Nat.pow_succ]
    omega

theorem num_inj (l m : List UInt8) (p q n : Nat) (h : num l p n = num m q n) : ∀ i, i < n → l.getD (p + i) 0 = m.getD (q + i) 0 := by
  induction n with
  | zero => intro i hi; omega
  | succ n ih =>
    rw [num, num] at h
    have a := (l.getD (p + n) 0).toNat_lt
    have b := (m.getD (q + n) 0).toNat_lt
    have h1 : num l p n = num m q n := by omega
    have h2 : (l.getD (p + n) 0).toNat = (m.getD (q + n) 0).toNat := by omega
    intro i hi
    by_cases e : i = n
    · subst e; exact UInt8.toNat_inj.1 h2
    · exact ih h1 i (by omega)

theorem num_congr (l m : List UInt8) (p q n : Nat) (h : ∀ i, i < n → l.getD (p + i) 0 = m.getD (q + i) 0) : num l p n = num m q n := by
  induction n with
  | zero => rfl
  | succ n ih => rw [num, num, ih (fun i hi => h i (by omega)), h n (by omega)]

/-- The state after the first blocks. -/
def state (l : List UInt8) : Nat → Nat
  | 0 => s0 ^^^ l.length
  | k + 1 => mix (state l k ^^^ num l (8 * k) 8)

theorem state_lt (l : List UInt8) (hl : l.length < M) (k : Nat) : state l k < M := by
  cases k with
  | zero => rw [M_pow] at *; exact Nat.xor_lt_two_pow (by decide) hl
  | succ k => exact mix_lt _

theorem xor_lt (a b : Nat) (ha : a < M) (hb : b < M) : a ^^^ b < M := by
  rw [M_pow] at *; exact Nat.xor_lt_two_pow ha hb

theorem num_lt8 (l : List UInt8) (p : Nat) : num l p 8 < M := num_lt l p 8

theorem xor_cancel_right (a b c : Nat) (h : a ^^^ c = b ^^^ c) : a = b := by
  have : (a ^^^ c) ^^^ c = (b ^^^ c) ^^^ c := by rw [h]
  simpa [Nat.xor_assoc] using this

theorem xor_cancel_left (a b c : Nat) (h : c ^^^ a = c ^^^ b) : a = b := by
  rw [Nat.xor_comm c a, Nat.xor_comm c b] at h; exact xor_cancel_right a b c h

/-- The whole digest as a number. -/
def sumN (l : List UInt8) : Nat := state l (l.length / 8 + 1)

theorem sumN_lt (l : List UInt8) : sumN l < M := mix_lt _

/-- Texts of one length whose blocks but one agree have one digest exactly if they agree in this one too. -/
theorem state_block (l m : List UInt8) (hn : l.length = m.length) (hl : l.length < M) (p : Nat)
    (h : ∀ k, k ≠ p → num l (8 * k) 8 = num m (8 * k) 8) (n : Nat) (hp : p < n) :
    state l n = state m n ↔ num l (8 * p) 8 = num m (8 * p) 8 := by
  have below : ∀ k, k ≤ p → state l k = state m k := by
    intro k
    induction k with
    | zero => intro _; rw [state, state, hn]
    | succ k ih => intro hk; rw [state, state, ih (by omega), h k (by omega)]
  have step : ∀ k, p < k → (state l k = state m k ↔ num l (8 * p) 8 = num m (8 * p) 8) := by
    intro k
    induction k with
    | zero => intro hk; omega
    | succ k ih =>
      intro hk
      have inj : state l (k + 1) = state m (k + 1) ↔ state l k ^^^ num l (8 * k) 8 = state m k ^^^ num m (8 * k) 8 :=
        ⟨fun e => mix_inj _ _ (xor_lt _ _ (state_lt l hl k) (num_lt8 l _)) (xor_lt _ _ (state_lt m (hn ▸ hl) k) (num_lt8 m _)) e, fun e => by rw [state, state, e]⟩
      rw [inj]
      by_cases e : k = p
      · subst e
        rw [below k (by omega)]
        exact ⟨fun x => xor_cancel_left _ _ _ x, fun x => by rw [x]⟩
      · rw [h k e]
        exact ⟨fun x => (ih (by omega)).1 (xor_cancel_right _ _ _ x), fun x => by rw [(ih (by omega)).2 x]⟩
  exact step n hp

/-- Hexadecimal digits. -/
def dig (d : Nat) : UInt8 := if d < 10 then UInt8.ofNat (48 + d) else UInt8.ofNat (87 + d)
def hexN (x : Nat) : Nat → List UInt8
  | 0 => []
  | n + 1 => hexN (x / 16) n ++ [dig (x % 16)]

theorem dig_inj (a b : Nat) (ha : a < 16) (hb : b < 16) (h : dig a = dig b) : a = b := by
  have : ∀ a b : Fin 16, dig a.1 = dig b.1 → a.1 = b.1 := by decide
  exact this ⟨a, ha⟩ ⟨b, hb⟩ h

theorem hexN_length (n : Nat) : ∀ x, (hexN x n).length = n := by
  induction n with
  | zero => intro x; rfl
  | succ n ih => intro x; simp [hexN, ih]

theorem hexN_inj (n : Nat) : ∀ x y, x < 16 ^ n → y < 16 ^ n → hexN x n = hexN y n → x = y := by
  induction n with
  | zero => intro x y hx hy _; simp at hx hy; omega
  | succ n ih =>
    intro x y hx hy h
    rw [hexN, hexN] at h
    have h' := List.append_inj' h rfl
    have e1 := ih (x / 16) (y / 16) (by rw [Nat.pow_succ] at hx; omega) (by rw [Nat.pow_succ] at hy; omega) h'.1
    have e2 := dig_inj (x % 16) (y % 16) (by omega) (by omega) (by simpa using h'.2)
    omega

def isHex (b : UInt8) : Bool := (48 ≤ b && b ≤ 57) || (97 ≤ b && b ≤ 102)

theorem dig_hex (a : Nat) (ha : a < 16) : isHex (dig a) = true := by
  have : ∀ a : Fin 16, isHex (dig a.1) = true := by decide
  exact this ⟨a, ha⟩

theorem hexN_all (n : Nat) : ∀ x, (hexN x n).all isHex = true := by
  induction n with
  | zero => intro x; rfl
  | succ n ih => intro x; simp only [hexN, List.all_append, ih, Bool.true_and]; simp [dig_hex (x % 16) (by omega)]

/-- The digest of a text. -/
def sum (l : List UInt8) : List UInt8 := hexN (sumN l) 16

theorem sum_inj (l m : List UInt8) : sum l = sum m ↔ sumN l = sumN m :=
  ⟨fun h => hexN_inj 16 _ _ (sumN_lt l) (sumN_lt m) h, fun h => by rw [sum, sum, h]⟩
theorem sum_length (l : List UInt8) : (sum l).length = 16 := hexN_length _ _

/-- The digest of the digest .. of a text. -/
def chain (l : List UInt8) : Nat → List UInt8
  | 0 => l
  | n + 1 => sum (chain l n)

theorem chain_add (l : List UInt8) (a b : Nat) : chain (chain l a) b = chain l (a + b) := by
  induction b with
  | zero => rfl
  | succ b ih => rw [chain, ih]; rfl

def isDigest (l : List UInt8) : Bool := l.length == 16 && l.all isHex

theorem sum_isDigest (l : List UInt8) : isDigest (sum l) = true := by
  have h2 : (sum l).all isHex = true := hexN_all 16 _
  unfold isDigest
  rw [sum_length, h2]; decide
theorem chain_isDigest (l : List UInt8) (n : Nat) : isDigest (chain l (n + 1)) = true := sum_isDigest _

theorem xor_low (a b : Nat) (h : b < 2 ^ 8) : (a * 2 ^ 8) ^^^ b = a * 256 + b := by
  have e : a * 256 + b = 2 ^ 8 * a + b := by omega
  rw [e, Nat.mul_comm]
  apply Nat.eq_of_testBit_eq
  intro i
  rw [Nat.testBit_xor, Nat.testBit_two_pow_mul_add _ h, Nat.testBit_two_pow_mul]
  by_cases hi : i < 8
  · have : ¬ 8 ≤ i := by omega
    simp [hi, this]
  · have hb : b.testBit i = false := Nat.testBit_lt_two_pow (Nat.lt_of_lt_of_le h (Nat.pow_le_pow_right (by decide) (by omega)))
    have : 8 ≤ i := by omega
    simp [hi, hb, this]
theorem short (l m : List UInt8) (hl : l.length ≤ 7) (hm : m.length ≤ 7) : sum l = sum m ↔ l = m := by
  rw [sum_inj]
  refine ⟨fun h => ?_, fun h => by rw [h]⟩
  have el : l.length / 8 = 0 := by omega
  have em : m.length / 8 = 0 := by omega
  rw [sumN, sumN, el, em] at h
  have h1 := mix_inj _ _ (xor_lt _ _ (state_lt l (by unfold M; omega) 0) (num_lt8 l _)) (xor_lt _ _ (state_lt m (by unfold M; omega) 0) (num_lt8 m _)) h
  rw [state, state, Nat.xor_assoc, Nat.xor_assoc] at h1
  have h2 := xor_cancel_left _ _ _ h1
  have low : ∀ l : List UInt8, l.length ≤ 7 → l.length ^^^ num l (8 * 0) 8 = num l 0 7 * 256 + l.length := by
    intro l hl
    have e : num l (8 * 0) 8 = num l 0 7 * 2 ^ 8 := by
      show num l 0 7 * 256 + (l.getD (0 + 7) 0).toNat = _
      rw [List.getD_eq_getElem?_getD, List.getElem?_eq_none (by omega)]; simp
    rw [e, Nat.xor_comm]
    have h8 : l.length < 2 ^ 8 := by omega
    exact xor_low _ _ h8
  rw [low l hl, low m hm] at h2
  have e1 : l.length = m.length := by omega
  have e2 : num l 0 7 = num m 0 7 := by omega
  apply List.ext_getElem e1
  intro i hi hi'
  have := num_inj l m 0 0 7 e2 i (by omega)
  simpa [List.getD_eq_getElem?_getD, hi, hi'] using this
end Go.Proofs.YthhfcijgcpnfcaaDoor.Dg
