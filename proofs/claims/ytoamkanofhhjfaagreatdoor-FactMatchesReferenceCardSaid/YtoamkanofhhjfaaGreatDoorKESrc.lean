import Derived.Test.YtoamkanofhhjfaaGreatDoorKECls
import Derived.Deep.QuietTactic
import Derived.BigQuiet
import Derived.Lib.Bytealg
import Derived.Lib.Strings
import Derived.Laws.Externs
/-
  The source of a text: the text and the classes of all bytes in one block; what reads it: has.
-/
namespace Go.Proofs.YtoamkanofhhjfaaGreatDoor
open Go.RowKit

namespace Lx
/-- The cells of a source. -/
def IsSrc (s : ByteArray) (cs : Array Value) : Prop := cs[0]? = some (.string s) ∧ ∀ n, n < 256 → cs[n + 1]? = some (.int .u8 (cls n : Nat))
/-- Block B is a source of the text s. -/
def Src (B : Nat) (s : ByteArray) (w : World) : Prop := ∃ cs, IsSrc s cs ∧ w.heap[B]? = some (.cells cs 123 (0, 0))
theorem Src.text {B : Nat} {s : ByteArray} {w : World} (h : Src B s w) : w.cell? ⟨B, 0, none⟩ = some (.string s) := by
  obtain ⟨cs, h1, h2⟩ := h
  rw [cell_of_row w B 0 cs _ _ h2]; exact h1.1
theorem Src.cls {B : Nat} {s : ByteArray} {w : World} (h : Src B s w) (n : Nat) (hn : n < 256) : w.cell? ⟨B, n + 1, none⟩ = some (.int .u8 (cls n : Nat)) := by
  obtain ⟨cs, h1, h2⟩ := h
  rw [cell_of_row w B (n + 1) cs _ _ h2]; exact h1.2 n hn
theorem Src.lt {B : Nat} {s : ByteArray} {w : World} (h : Src B s w) : B < w.heap.size := block_lt_of_cell h.text
theorem Src.below {B B' : Nat} {s : ByteArray} {w w' : World} (h : Src B s w) (hb : Below B' w w') (hB : B < B') : Src B s w' := by
  obtain ⟨cs, h1, h2⟩ := h
  exact ⟨cs, h1, (hb.block B hB).trans h2⟩
theorem Src.drew {B : Nat} {s : ByteArray} {w : World} (h : Src B s w) : Src B s w.drew := h
end Lx

theorem Lx.below_drewN {B : Nat} {a w : World} (h : Below B a w) (q : Nat) : Below B a (w.drewN q) := ⟨h.os, h.tape, h.output, h.size, h.block⟩
namespace Lx
/-- The bytes of a text. -/
abbrev tx (s : ByteArray) : T := s.data.toList
theorem tx_len (s : ByteArray) : (tx s).length = s.size := (Lib.size_eq s).symm
/-- A list of bytes as a text. -/
def str (l : T) : ByteArray := ⟨l.toArray⟩
theorem str_tx (s : ByteArray) : str (tx s) = s := by unfold str; simp
theorem tx_str (l : T) : tx (str l) = l := by unfold str; simp
theorem str_size (l : T) : (str l).size = l.length := by rw [← tx_len, tx_str]
theorem extract_str (s : ByteArray) (a b : Nat) : s.extract a b = str (((tx s).drop a).take (b - a)) := Lib.extract_eq s a b
theorem drop_at (s : ByteArray) (i : Nat) (h : i < s.size) : (tx s).drop i = s[i] :: (tx s).drop (i + 1) := by
  rw [List.drop_eq_getElem_cons (by rw [tx_len]; exact h)]
  rfl
theorem drop_end (s : ByteArray) (i : Nat) (h : s.size ≤ i) : (tx s).drop i = [] := List.drop_of_length_le (by rw [tx_len]; exact h)
/-- Whether a text begins with a byte of a kind. -/
def hd (p : UInt8 → Bool) : T → Bool
  | [] => false
  | c :: _ => p c
/-- What a set of classes m says of a byte. -/
def Mask (m : Int) (p : UInt8 → Bool) : Prop := ∀ c : UInt8, (bits BinOp.and IntKind.u8 ((cls c.toNat : Nat) : Int) m != 0) = p c
theorem mask_of {m : Int} {p : UInt8 → Bool} (h : ∀ n : Fin 256, (bits BinOp.and IntKind.u8 ((cls n.1 : Nat) : Int) m != 0) = p (UInt8.ofNat n.1)) : Mask m p := fun c => by
  have := h ⟨c.toNat, c.toNat_lt⟩
  simpa using this
theorem mask_blank : Mask 1 isBlank := mask_of (by decide +kernel)
theorem mask_hash : Mask 2 (fun c => c == 35) := mask_of (by decide +kernel)
theorem mask_letter : Mask 4 isLetter := mask_of (by decide +kernel)
theorem mask_digit : Mask 8 isDigit := mask_of (by decide +kernel)
theorem mask_two : Mask 64 isTwo := mask_of (by decide +kernel)
theorem mask_one : Mask 32 isOne := mask_of (by decide +kernel)
theorem mask_word : Mask 28 isWord := mask_of (by decide +kernel)
theorem mask_tail : Mask 20 (fun c => isLetter c || c == 95) := mask_of (by decide +kernel)
end Lx

set_option maxHeartbeats 1000000 in
set_option maxRecDepth 100000 in
theorem has_in (B : Nat) (s : ByteArray) (_hs : s.size ≤ 9223372036854775807) (i : Nat) (hi : i < s.size) (m : Int) (w : World) (h : Lx.Src B s w) :
    Calls Tryz.prog 93 #[.pointer (some ⟨B, 0, none⟩), .int .i64 i, .int .u8 m] w fun e w' => e = .returned (.bool (bits BinOp.and IntKind.u8 ((Lx.cls s[i].toNat : Nat) : Int) m != 0)) ∧ Below w.heap.size w w' := by
  have h1 := h.text
  have h2 := h.cls s[i].toNat s[i].toNat_lt
  have hii : (i : Int) < s.size := by omega
  have h3 : ((s[i].toNat : Nat) : Int) < 256 := by have := s[i].toNat_lt; omega
  have h4 : ((s[i].toNat : Nat) : Int).toNat = s[i].toNat := by omega
  rw [Nat.add_comm] at h2
  clear h
  go_enter Tryz.func93, Tryz.ntmps93
  go_wp2_with fail
  go_quiet (fail)
  go_wp2
  go_ret
  exact ⟨rfl, Lx.below_drewN (Below.refl _ _) _⟩

set_option maxHeartbeats 1000000 in
set_option maxRecDepth 100000 in
theorem has_out (B : Nat) (s : ByteArray) (_hs : s.size ≤ 9223372036854775807) (i : Nat) (hi : ¬ i < s.size) (_hi2 : i ≤ 9223372036854775807) (m : Int) (w : World) (h : Lx.Src B s w) :
    Calls Tryz.prog 93 #[.pointer (some ⟨B, 0, none⟩), .int .i64 i, .int .u8 m] w fun e w' => e = .returned (.bool false) ∧ Below w.heap.size w w' := by
  have h1 := h.text
  have hii : decide ((i : Int) < s.size) = false := by rw [decide_eq_false_iff_not]; omega
  clear h
  go_enter Tryz.func93, Tryz.ntmps93
  go_wp2_with fail
  go_quiet (fail)
  go_wp2
  go_ret
  exact ⟨rfl, Lx.below_drewN (Below.refl _ _) _⟩

theorem has_walk {m : Int} {p : UInt8 → Bool} (hm : Lx.Mask m p) (B : Nat) (s : ByteArray) (hs : s.size ≤ 9223372036854775807) (i : Nat) (hi2 : i ≤ 9223372036854775807) (w : World) (h : Lx.Src B s w) :
    Calls Tryz.prog 93 #[.pointer (some ⟨B, 0, none⟩), .int .i64 i, .int .u8 m] w fun e w' => e = .returned (.bool (Lx.hd p ((Lx.tx s).drop i))) ∧ Below w.heap.size w w' := by
  by_cases hi : i < s.size
  · refine (has_in B s hs i hi m w h).mono ?_
    rintro e w' ⟨rfl, hb⟩
    rw [hm, Lx.drop_at s i hi]
    exact ⟨rfl, hb⟩
  · refine (has_out B s hs i hi hi2 m w h).mono ?_
    rintro e w' ⟨rfl, hb⟩
    rw [Lx.drop_end s i (by omega)]
    exact ⟨rfl, hb⟩

namespace Lx
/-- How many bytes of a kind follow each other at an offset. -/
def run (p : UInt8 → Bool) (s : ByteArray) (i : Nat) : Nat := (((tx s).drop i).takeWhile p).length
theorem run_yes {p : UInt8 → Bool} {s : ByteArray} {i : Nat} (h : hd p ((tx s).drop i) = true) : i < s.size ∧ run p s i = run p s (i + 1) + 1 := by
  have hi : i < s.size := by
    rcases Nat.lt_or_ge i s.size with hi | hi
    · exact hi
    · rw [drop_end s i hi] at h; cases h
  refine ⟨hi, ?_⟩
  unfold run
  rw [drop_at s i hi] at h ⊢
  rw [List.takeWhile_cons, show p s[i] = true from h, if_pos rfl, List.length_cons]
theorem run_no {p : UInt8 → Bool} {s : ByteArray} {i : Nat} (h : hd p ((tx s).drop i) = false) : run p s i = 0 := by
  unfold run
  cases hx : (tx s).drop i with
  | nil => rfl
  | cons c r =>
    rw [hx] at h
    rw [List.takeWhile_cons, show p c = false from h]; rfl
theorem run_le (p : UInt8 → Bool) (s : ByteArray) (i : Nat) (hi : i ≤ s.size) : i + run p s i ≤ s.size := by
  unfold run
  have h1 : (((tx s).drop i).takeWhile p).length ≤ ((tx s).drop i).length := by
    have := congrArg List.length (List.takeWhile_append_dropWhile (p := p) (l := (tx s).drop i))
    rw [List.length_append] at this; omega
  rw [List.length_drop, tx_len] at h1; omega
end Lx

set_option maxHeartbeats 1000000 in
set_option maxRecDepth 100000 in
theorem runend_walk {m : Int} {p : UInt8 → Bool} (hm : Lx.Mask m p) (B : Nat) (s : ByteArray) (hs : s.size < 9223372036854775807) (i : Nat) (hi2 : i ≤ s.size) (w : World) (h : Lx.Src B s w) :
    Calls Tryz.prog 104 #[.pointer (some ⟨B, 0, none⟩), .int .i64 i, .int .u8 m] w fun e w' => e = .returned (.int .i64 ((i + Lx.run p s i : Nat) : Int)) ∧ Below w.heap.size w w' := by
  have HM := Lib.hid hm
  have hB := h.lt
  have HS := Lib.hid h
  obtain ⟨z, hz⟩ : ∃ z, z = i + Lx.run p s i := ⟨_, rfl⟩
  rw [← hz]
  have HZ := Lib.hid hz
  clear hm h hz
  go_enter Tryz.func104, Tryz.ntmps104
  go_wp2_with fail
  go_loopw [1] (fun v wr => ∃ k : Nat, k ≤ s.size ∧ v = .int .i64 k ∧ Hid (z = k + Lx.run p s k) ∧ Below w.heap.size w wr) (fun v _ => s.size - (intOf v).toNat)
  case atStart => exact ⟨i, hi2, rfl, HZ, Below.refl _ _⟩
  case round =>
    obtain ⟨k, hk, rfl, hz, hb⟩ := hrel
    have hbs := hb.size
    go_wp2_with fail
    refine (has_walk HM.out B s (by omega) k (by omega) wr (HS.out.below hb hB)).mono ?_
    rintro e w2 ⟨rfl, hb2⟩
    have hb3 := hb.trans (hb2.mono hb.size)
    cases hq : Lx.hd p ((Lx.tx s).drop k) with
    | true =>
      obtain ⟨hlt, hr⟩ := Lx.run_yes hq
      have HR : Hid (z = k + 1 + Lx.run p s (k + 1)) := by show _ = _; rw [hz.out, hr]; omega
      clear hq hr hz
      go_wp2_with fail
      go_roundw
      case rel => exact ⟨k + 1, by omega, by go_num, HR, hb3⟩
      case measure => simp [intOf]; omega
    | false =>
      have hr := Lx.run_no hq
      have hzk : z = k := by rw [hz.out, hr]; rfl
      clear hq hr hz
      subst hzk
      go_wp2_with fail
      go_ret
      exact ⟨rfl, hb3⟩
end Go.Proofs.YtoamkanofhhjfaaGreatDoor
