import Derived.Test.YthhfcijgcpnfcaaDoorProg
import Derived.Test.YthhfcijgcpnfcaaDoorKDBits
import Derived.WalkKit
import Derived.WalkSpells
import Derived.WalkLawsBesides
/-
  The walk of digest.hex: it makes the sixteen digits Dg.hexN x 16.
-/
namespace Go.Proofs.YthhfcijgcpnfcaaDoor
open Go.RowKit

namespace Dg
/-- The number after k rounds. -/
def hx (x k : Nat) : Nat := x * 16 ^ k % M
/-- Its first digit. -/
def hd (x k : Nat) : Nat := hx x k / 1152921504606846976

theorem hx_zero (x : Nat) (h : x < M) : hx x 0 = x := by
  unfold hx; rw [Nat.pow_zero, Nat.mul_one]; exact Nat.mod_eq_of_lt h
theorem hx_succ (x k : Nat) : IntKind.u64.wrap ((hx x k : Nat) * 16) = ((hx x (k + 1) : Nat) : Int) := by
  have h := wrap_mul (hx x k) 16
  refine h.trans (congrArg _ ?_)
  unfold hx
  rw [Nat.mod_mul_mod, Nat.mul_assoc, ← Nat.pow_succ]
theorem hd_eq (x k : Nat) (hk : k < 16) : hd x k = x / 16 ^ (15 - k) % 16 := by
  unfold hd hx
  have e : M = 16 ^ 15 * 16 := by decide
  have e2 : (1152921504606846976 : Nat) = 16 ^ 15 := by decide
  have e3 : 16 ^ 15 = 16 ^ (15 - k) * 16 ^ k := by rw [← Nat.pow_add]; congr 1; omega
  rw [e, e2, Nat.mod_mul_right_div_self]
  congr 1
  rw [e3, Nat.mul_div_mul_right _ _ (Nat.pow_pos (by decide))]
theorem hd_lt (x k : Nat) (hk : k < 16) : hd x k < 16 := by rw [hd_eq x k hk]; omega

/-- The sixteen cells after k rounds. -/
def hcell (x k j : Nat) : Value := if j < k then .int .u8 (dig (hd x j)).toNat else .int .u8 0
def hcells (x k : Nat) : Array Value := ((List.range 16).map (hcell x k)).toArray

theorem hcells_zero (x : Nat) : hcells x 0 = #[.int .u8 0, .int .u8 0, .int .u8 0, .int .u8 0, .int .u8 0, .int .u8 0, .int .u8 0, .int .u8 0, .int .u8 0, .int .u8 0, .int .u8 0, .int .u8 0, .int .u8 0, .int .u8 0, .int .u8 0, .int .u8 0] := rfl
theorem hcells_size (x k : Nat) : (hcells x k).size = 16 := by simp [hcells]
theorem hcells_get (x k j : Nat) (hj : j < 16) : (hcells x k)[j]? = some (hcell x k j) := by simp [hcells, hj]
theorem hcells_succ (x k : Nat) (hk : k < 16) : (hcells x k).setIfInBounds k (.int .u8 (dig (hd x k)).toNat) = hcells x (k + 1) := by
  apply Array.ext_getElem?
  intro j
  rw [Array.getElem?_setIfInBounds]
  by_cases hj : j < 16
  · by_cases e : k = j
    · subst e; rw [if_pos rfl, hcells_get x (k + 1) k hj, hcells_size, if_pos hj]; simp [hcell]
    · rw [if_neg e, hcells_get x k j hj, hcells_get x (k + 1) j hj]
      simp only [hcell]
      by_cases h : j < k
      · rw [if_pos h, if_pos (by omega)]
      · rw [if_neg h, if_neg (by omega)]
  · rw [if_neg (by omega)]
    rw [Array.getElem?_eq_none (by rw [hcells_size]; omega), Array.getElem?_eq_none (by rw [hcells_size]; omega)]

theorem hexN_get (n : Nat) : ∀ x j, j < n → (hexN x n)[j]? = some (dig (x / 16 ^ (n - 1 - j) % 16)) := by
  induction n with
  | zero => intro x j h; omega
  | succ n ih =>
    intro x j h
    rw [hexN]
    by_cases e : j = n
    · subst e
      rw [List.getElem?_append_right (by rw [hexN_length]; omega), hexN_length]; simp
    · rw [List.getElem?_append_left (by rw [hexN_length]; omega), ih _ _ (by omega), Nat.div_div_eq_div_mul]
      congr 3
      rw [Nat.mul_comm, ← Nat.pow_succ]; congr 2; omega

theorem hcells_full (x : Nat) : hcells x 16 = ((hexN x 16).map fun b => Value.int .u8 (b.toNat : Int)).toArray := by
  apply Array.ext_getElem?
  intro j
  by_cases hj : j < 16
  · rw [hcells_get x 16 j hj, List.getElem?_toArray, List.getElem?_map, hexN_get 16 x j hj, hcell, if_pos hj, hd_eq x j hj]
    simp
  · rw [Array.getElem?_eq_none (by rw [hcells_size]; omega), Array.getElem?_eq_none (by simp [hexN_length]; omega)]

/-- Sixteen digits as a constant string. -/
def hexText : ByteArray := ⟨#[48, 49, 50, 51, 52, 53, 54, 55, 56, 57, 97, 98, 99, 100, 101, 102]⟩
theorem hexText_get (d : Nat) (h : d < hexText.size) : hexText[d] = dig d := by
  have : ∀ d : Fin 16, hexText[d.1]'(by exact d.2) = dig d.1 := by decide
  exact this ⟨d, h⟩

theorem push_all (l : List UInt8) : ∀ s : ByteArray, ((l.map fun b => (b.toNat : Int)).foldl (fun r n => r.push (UInt8.ofNat n.toNat)) s).data.toList = s.data.toList ++ l := by
  induction l with
  | nil => intro s; simp
  | cons b l ih =>
    intro s
    simp only [List.map_cons, List.foldl_cons]
    rw [ih]
    have : UInt8.ofNat (b.toNat : Int).toNat = b := by simp
    rw [this]
    simp [ByteArray.push]

theorem str_ext (a b : ByteArray) (h : a.data.toList = b.data.toList) : a = b := by
  cases a; cases b; congr; simpa using congrArg List.toArray h
end Dg

/-- A list of bytes as a string. -/
abbrev str (l : List UInt8) : ByteArray := ⟨l.toArray⟩

theorem convHex (x : Nat) (w : World) : (convert 83 9 (.slice (some ⟨w.heap.size, 0, none⟩) 16 16)).run Tryd.prog (w.alloc (.cells (Dg.hcells x 16) 99)) = .ok (.string (str (Dg.hexN x 16))) (w.alloc (.cells (Dg.hcells x 16) 99)) := by
  rw [run_convert_bytes_string _ _ _ _ _ _ _ Tryd.underlying83 Tryd.underlying5 Tryd.underlying9]
  rw [run_bytesToString _ _ 16 16 ((Dg.hexN x 16).map fun b => (b.toNat : Int))]
  · have e : (((Dg.hexN x 16).map fun b => (b.toNat : Int)).foldl (fun r n => r.push (UInt8.ofNat n.toNat)) ByteArray.empty) = str (Dg.hexN x 16) := Dg.str_ext _ _ (by rw [Dg.push_all]; simp)
    rw [e]
  · have hl : (Dg.hcells x 16).toList.length = 16 := by simpa using Dg.hcells_size x 16
    have h := run_loadCells_list (P := Tryd.prog) (w.alloc (.cells (Dg.hcells x 16) 99)) ⟨w.heap.size, 0, none⟩ (Dg.hcells x 16).toList (fun j v hv => by
      have hadd : (⟨w.heap.size, 0, none⟩ : Addr).add j = ⟨w.heap.size, j, none⟩ := by unfold Addr.add; split <;> simp_all
      rw [hadd, World.cell?_alloc_at _ _ _ _ rfl]
      simpa using hv)
    rw [hl] at h
    rw [h, Array.toArray_toList, Dg.hcells_full]
    simp

set_option maxHeartbeats 400000 in
set_option maxRecDepth 100000 in
theorem hex_walk (x : Nat) (hx : x < Dg.M) (w : World) :
    Calls Tryd.prog 80 #[.int .u64 x] w fun e w' => e = .returned (.string (str (Dg.hexN x 16))) ∧ Below w.heap.size w w' := by
  have cv := convHex x w
  go_enter Tryd.func80, Tryd.ntmps80
  go_wp2
  go_loopw [0, 5] (fun y i wr => ∃ k : Nat, k ≤ 16 ∧ i = .int .i64 k ∧ y = .int .u64 (Dg.hx x k) ∧ wr = w.alloc (.cells (Dg.hcells x k) 99)) (fun _ i _ => 16 - (intOf i).toNat)
  case atStart => exact ⟨0, Nat.zero_le _, rfl, by rw [Dg.hx_zero x hx], rfl⟩
  case round =>
    obtain ⟨k, hk, rfl, rfl, rfl⟩ := hrel
    by_cases hlt : k < 16
    · have hb : ((Dg.hx x k : Nat) : Int) / 1152921504606846976 < 16 := by have := Dg.hd_lt x k hlt; unfold Dg.hd at this; omega
      have hv : Hid (Dg.hexText[Dg.hx x k / 1152921504606846976]'(Dg.hd_lt x k hlt) = Dg.dig (Dg.hd x k)) := Dg.hexText_get _ _
      have hc := Dg.hcells_get x k k hlt
      clear cv
      go_wp2
      go_roundw
      case rel => exact ⟨k + 1, by omega, by go_num, Dg.val_int (Dg.hx_succ x k), by rw [← Dg.hcells_succ x k hlt, ← hv.out]; rfl⟩
      case measure => simp [intOf]; omega
    · obtain rfl : k = 16 := by omega
      go_wp2
      go_ret
      exact ⟨rfl, (Below.refl _ _).alloc (Nat.le_refl _) _⟩
end Go.Proofs.YthhfcijgcpnfcaaDoor
