/-
  What walks over texts share: bytes of a text, names, what is kept through an iterator's step. (Split from the lexer's texts.)
-/
import Derived.Test.YtjcaingfeaaakaaProg
import Derived.Test.YtjcaingfeaaakaaELexEnd
import Derived.WalkKit
import Derived.WalkSpells
import Derived.WalkLawsBesides
import Derived.WalkSmall
import Derived.Lib.Hide
import Derived.Deep.Light
import Derived.Deep.QuietTactic
import Derived.BigQuiet
import Derived.Lib.Bytealg
import Derived.Lib.Strings
import Derived.Laws.Externs
import Derived.Lib.SmallJoins
import Derived.RangeFuncNested
namespace Go.Proofs.Ytjcaingfeaaakaa
open Go.RowKit

namespace Lx
theorem ret_bool {a b : Bool} (h : a = b) : Ending.returned (.bool a) = .returned (.bool b) := by rw [h]
theorem ret_u8 {a b : Nat} (h : b = a) : Ending.returned (.int .u8 (a : Nat)) = .returned (.int .u8 (b : Nat)) := by rw [h]
end Lx

theorem Lx.letter_iff (b : UInt8) : Lx.isLetter b = true ↔ (97 ≤ b.toNat ∧ b.toNat ≤ 122) ∨ (65 ≤ b.toNat ∧ b.toNat ≤ 90) := by
  unfold Lx.isLetter; simp
theorem Lx.digit_iff (b : UInt8) : Lx.isDigit b = true ↔ 48 ≤ b.toNat ∧ b.toNat ≤ 57 := by
  unfold Lx.isDigit; simp
theorem Lx.byte_eq (b : UInt8) (k : Nat) (hk : k < 256) : b = UInt8.ofNat k ↔ b.toNat = k := by
  constructor
  · rintro rfl; rw [UInt8.toNat_ofNat']; omega
  · intro h; rw [← h, UInt8.ofNat_toNat]
theorem Lx.word_iff (b : UInt8) : Lx.isWord b = true ↔ (Lx.isLetter b = true ∨ Lx.isDigit b = true) ∨ b.toNat = 95 := by
  unfold Lx.isWord
  simp only [Bool.or_eq_true, beq_iff_eq]
  rw [show (95 : UInt8) = UInt8.ofNat 95 from rfl, Lx.byte_eq b 95 (by decide)]

theorem Lx.below_drewN {B : Nat} {a w : World} (h : Below B a w) (q : Nat) : Below B a (w.drewN q) := ⟨h.os, h.tape, h.output, h.size, h.block⟩
namespace Lx
/-- The bytes of a text. -/
abbrev tx (s : ByteArray) : T := s.data.toList
theorem tx_len (s : ByteArray) : (tx s).length = s.size := (Lib.size_eq s).symm
/-- A list of bytes as a text. -/
def str (l : T) : ByteArray := ⟨l.toArray⟩
theorem str_tx (s : ByteArray) : str (tx s) = s := by unfold str; simp
theorem tx_str (l : T) : tx (str l) = l := by unfold str; simp
theorem str_size (l : T) : (str l).size = l.length := by rw [← tx_len, tx_str]
theorem extract_str (s : ByteArray) (a b : Nat) : s.extract a b = str (((tx s).drop a).take (b - a)) := Lib.extract_eq s a b
theorem drop_at (s : ByteArray) (i : Nat) (h : i < s.size) : (tx s).drop i = s[i] :: (tx s).drop (i + 1) := by
  rw [List.drop_eq_getElem_cons (by rw [tx_len]; exact h)]
  rfl
theorem drop_end (s : ByteArray) (i : Nat) (h : s.size ≤ i) : (tx s).drop i = [] := List.drop_of_length_le (by rw [tx_len]; exact h)
/-- Whether a text begins with a byte of a kind. -/
def hd (p : UInt8 → Bool) : T → Bool
  | [] => false
  | c :: _ => p c
end Lx
namespace Lx
theorem all_mem {p : UInt8 → Bool} {l : T} (h : l.all p = true) (k : Nat) (hk : k < l.length) : p l[k] = true :=
  List.all_eq_true.1 h _ (List.getElem_mem _)
theorem tx_get (s : ByteArray) (k : Nat) (h : k < s.size) : (tx s)[k]'(by rw [tx_len]; exact h) = s[k] := by rw [Array.getElem_toList]; rfl
theorem take_succ (s : ByteArray) (k : Nat) (h : k < s.size) : (tx s).take (k + 1) = (tx s).take k ++ [s[k]] := by
  rw [List.take_succ_eq_append_getElem (by rw [tx_len]; exact h), tx_get s k h]
end Lx
theorem cells_kept {W W' : World} {row : Option Nat} {k : Nat} {cs : Array Value} {t : TypeId} {fr : Nat × Nat} (h : W.heap[k]? = some (.cells cs t fr)) (hg : W.grownBy W' row) (hr : ∀ r, row = some r → ∃ o : Obj, W.heap[r]? = some o ∧ o.isCells = false) :
    W'.heap[k]? = some (.cells cs t fr) := (grownBy_keeps_cells hg hr h rfl).trans h

end Go.Proofs.Ytjcaingfeaaakaa
