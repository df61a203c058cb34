import Derived.Test.YthhfcijgcpnfcaaDoorKDMath
import Derived.Laws.Bits64
import Derived.Laws.Bits
/-
  Plain facts on numbers of 64 bits, in the walk's spelling. No program in this text.
-/
namespace Go.Proofs.YthhfcijgcpnfcaaDoor.Dg
open Go

theorem wrap_mul (x c : Nat) : IntKind.u64.wrap ((x : Int) * (c : Int)) = ((x * c % M : Nat) : Int) := by
  rw [IntKind.wrap_u64, Int.natCast_emod, Int.natCast_mul]; rfl

theorem xshift (a s : Nat) (ha : a < M) : bits .xor .u64 (a : Int) ((a : Int) / (s : Int)) = ((a ^^^ a / s : Nat) : Int) :=
  xorShift_u64 a s ha

theorem mixI (x : Nat) :
    bits .xor .u64 (IntKind.u64.wrap (bits .xor .u64 (IntKind.u64.wrap ((x : Int) * 6364136223846793005)) (IntKind.u64.wrap ((x : Int) * 6364136223846793005) / 2147483648) * 3202034522624059733))
      (IntKind.u64.wrap (bits .xor .u64 (IntKind.u64.wrap ((x : Int) * 6364136223846793005)) (IntKind.u64.wrap ((x : Int) * 6364136223846793005) / 2147483648) * 3202034522624059733) / 1073741824) = ((mix x : Nat) : Int) := by
  have e1 : IntKind.u64.wrap ((x : Int) * 6364136223846793005) = ((x * c1 % M : Nat) : Int) := wrap_mul x c1
  rw [e1]
  unfold mix
  have e2 := xshift (x * c1 % M) 2147483648 (Nat.mod_lt _ M_pos)
  rw [show ((2147483648 : Int)) = ((2147483648 : Nat) : Int) from rfl, e2]
  generalize (x * c1 % M) ^^^ (x * c1 % M) / 2147483648 = b at *
  have e3 : IntKind.u64.wrap ((b : Int) * 3202034522624059733) = ((b * c2 % M : Nat) : Int) := wrap_mul b c2
  rw [e3]
  exact xshift (b * c2 % M) 1073741824 (Nat.mod_lt _ M_pos)

theorem shl8 (a : Nat) (h : a * 256 < M) : IntKind.u64.wrap ((a : Int) * 256) = ((a * 256 : Nat) : Int) := by
  have := wrap_mul a 256
  rw [Nat.mod_eq_of_lt h] at this
  exact this

theorem bits_or_u64_nat (a b : Nat) (ha : a < 18446744073709551616) (hb : b < 18446744073709551616) :
    bits .or .u64 (a : Int) (b : Int) = ((a ||| b : Nat) : Int) := by
  have hx : a ||| b < 2 ^ 64 := Nat.or_lt_two_pow (by omega) (by omega)
  have h1 : (BitVec.ofInt 64 (a : Int)).toNat = a := by
    rw [BitVec.ofInt_natCast, BitVec.toNat_ofNat]; exact Nat.mod_eq_of_lt (by omega)
  have h2 : (BitVec.ofInt 64 (b : Int)).toNat = b := by
    rw [BitVec.ofInt_natCast, BitVec.toNat_ofNat]; exact Nat.mod_eq_of_lt (by omega)
  show IntKind.u64.wrap ((BitVec.ofInt 64 (a : Int) ||| BitVec.ofInt 64 (b : Int)).toNat : Int) = _
  rw [BitVec.toNat_or, h1, h2, IntKind.wrap_u64]
  omega

theorem or_low (a b : Nat) (hb : b < 256) (h : a * 256 + b < M) : bits .or .u64 ((a * 256 : Nat) : Int) (b : Int) = ((a * 256 + b : Nat) : Int) := by
  have h3 : a * 256 ||| b = a * 256 + b := by
    have e : a * 256 = 2 ^ 8 * a := by omega
    rw [e, Nat.two_pow_add_eq_or_of_lt (show b < 2 ^ 8 from hb)]
  have hA : a * 256 < M := Nat.lt_of_le_of_lt (Nat.le_add_right _ _) h
  have hB : b < M := Nat.lt_of_le_of_lt (Nat.le_add_left _ _) h
  rw [bits_or_u64_nat _ _ hA hB, h3]

/-- One step of digest.number. -/
theorem num_step (l : List UInt8) (k : Nat) (hk : k < 8) :
    bits .or .u64 (IntKind.u64.wrap ((num l 0 k : Nat) * 256)) (((l.getD k 0).toNat : Nat) : Int) = ((num l 0 (k + 1) : Nat) : Int) := by
  have hb := (l.getD k 0).toNat_lt
  have hn := num_lt l 0 k
  have hn' : num l 0 (k + 1) < M := Nat.lt_of_lt_of_le (num_lt l 0 (k + 1)) (Nat.le_trans (Nat.pow_le_pow_right (by decide) (show k + 1 ≤ 8 from hk)) (by decide))
  have e : num l 0 (k + 1) = num l 0 k * 256 + (l.getD k 0).toNat := by rw [num, Nat.zero_add]
  rw [e] at hn' ⊢
  rw [shl8 _ (Nat.lt_of_le_of_lt (Nat.le_add_right _ _) hn'), or_low _ _ hb hn']

theorem wrap_small (b : Nat) (h : b < M) : IntKind.u64.wrap (b : Int) = (b : Int) := by
  rw [IntKind.wrap_u64]
  exact Int.emod_eq_of_lt (Int.natCast_nonneg b) (Int.ofNat_lt.2 h)

theorem num_step' (l : List UInt8) (k : Nat) (hk : k < 8) (hl : k < l.length) :
    bits .or .u64 (IntKind.u64.wrap ((num l 0 k : Nat) * 256)) (IntKind.u64.wrap ((l[k].toNat : Nat) : Int)) = ((num l 0 (k + 1) : Nat) : Int) := by
  have h := num_step l k hk
  rw [show l.getD k 0 = l[k] from by simp [List.getD_eq_getElem?_getD, hl]] at h
  rw [wrap_small _ (Nat.lt_trans l[k].toNat_lt (by decide)), h]

theorem val_int {k : IntKind} {a b : Int} (h : a = b) : Value.int k a = Value.int k b := by rw [h]
theorem ret_int {k : IntKind} {a b : Int} (h : a = b) : Ending.returned (.int k a) = .returned (.int k b) := by rw [h]
theorem ret_str {a b : ByteArray} (h : a = b) : Ending.returned (.string a) = .returned (.string b) := by rw [h]
end Go.Proofs.YthhfcijgcpnfcaaDoor.Dg
