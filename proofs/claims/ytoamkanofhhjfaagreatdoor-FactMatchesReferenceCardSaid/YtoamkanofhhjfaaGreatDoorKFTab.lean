import Derived.Test.YtoamkanofhhjfaaGreatDoorShelf
import Derived.Test.YtoamkanofhhjfaaGreatDoorKFFits
import Derived.WalkKit
import Derived.WalkSpells
import Derived.WalkLawsBesides
import Derived.WalkSmall
import Derived.Lib.Hide
import Derived.Lib.LaidTab
/-
  What the texts of facts ask of the world: the library's table of powers of ten; decimal numerals; builders.
-/
namespace Go.Proofs.YtoamkanofhhjfaaGreatDoor
open Go.RowKit

/-- What the walks ask of the world: the library's table of powers of ten. -/
def HasTab (w : World) : Prop := Lib.TabIs Tryz.prog w "internal/strconv.uint64pow10" .u64 Lib.pow10Tab
theorem gTab : Tryz.prog.globalNamed "internal/strconv.uint64pow10" = some 0 := by kernel_rfl
theorem HasTab.lt {w : World} (h : HasTab w) : 0 < w.heap.size := by
  have h1 := h.cell gTab 0 (by decide)
  exact block_lt_of_cell h1
theorem HasTab.below {w w' : World} (h : HasTab w) (hb : Below w.heap.size w w') : HasTab w' := var?_below hb gTab h.lt h
theorem below_grow (w : World) (k : Nat) (os : Array Obj) : Below w.heap.size w (Sort.grow (w.drewN k) os) :=
  ⟨rfl, rfl, rfl, by simp [Sort.grow, World.drewN], fun j hj => Sort.heap_grow_old (w.drewN k) os hj⟩

theorem decF_digits : ∀ (k n : Nat), n < 10 ^ (k + 1) → Lib.decDigits n = Lx.decF k n
  | 0, n, h => by
    rw [Lib.decDigits, dif_pos (by simpa using h)]
    unfold Lx.decF
    rfl
  | k + 1, n, h => by
    rw [Lib.decDigits]
    unfold Lx.decF
    by_cases h10 : n < 10
    · rw [dif_pos h10, if_pos h10]
    · rw [dif_neg h10, if_neg h10, decF_digits k (n / 10) (by rw [Nat.pow_succ] at h; omega)]
theorem dec_digits {n : Nat} (h : n < 10000000) : Lib.decDigits n = Lx.dec n := decF_digits 6 n h

theorem itoa_walk (x : Int) (h0 : 0 ≤ x) (h1 : x ≤ 1000000) (w : World) (ht : HasTab w) :
    Calls Tryz.prog 50 #[.int .i64 x] w fun e w' => e = .returned (.string (Lx.str (Lx.dec x.toNat))) ∧ Below w.heap.size w w' := by
  refine (Tryz.strconv_Itoa x (by omega) (by omega) w ht).mono ?_
  rintro e w' ⟨rfl, k, os, rfl⟩
  have e1 : Lib.itoa x = Lx.dec x.toNat := by
    unfold Lib.itoa
    rw [if_neg (by omega), dec_digits (by omega)]
  exact ⟨by rw [e1]; rfl, below_grow w k os⟩

/-- A builder stays one while new blocks are laid behind the heap. -/
theorem builder_below {T e : TypeId} {B b : Nat} {bs : List Value} {w w' : World} (h : Lib.IsBuilder T e B b bs w) (hb : Below w.heap.size w w') : Lib.IsBuilder T e B b bs w' := by
  have hg : w.grownBy w' none := ⟨hb.os, hb.tape, hb.output, hb.size, fun k hk _ => hb.block k hk⟩
  rcases h with h | h
  · have hl := h.lt
    obtain ⟨h1, v, h2, h3, h4⟩ := h
    refine Or.inl ⟨h1, v, (hb.block b hl).trans h2, h3.kept hg ?_, h4⟩
    cases hv : v.ownBlock <;> simp
  · have hl := h.lt
    obtain ⟨h1, v, h2, h3, h4⟩ := h
    refine Or.inr ⟨h1, v, (hb.block b hl).trans h2, h3.kept hg ?_, h4⟩
    cases hv : v.ownBlock <;> simp
theorem str_add (a b : Lx.T) : Lx.str a ++ Lx.str b = Lx.str (a ++ b) := by
  apply ByteArray.ext
  show (Lx.str a ++ Lx.str b).data = _
  simp [Lx.str]
theorem builder_add {T e : TypeId} {B b : Nat} {w : World} {a t : Lx.T} (h : Lib.BuilderAt T e B b (.pointer (some ⟨b, 0, none⟩)) (Lib.byteCells a ++ Lib.strCells (Lx.str t)) w) : Lib.IsBuilder T e B b (Lib.byteCells (a ++ t)) w := by
  refine Or.inr ?_
  have e1 : Lib.byteCells (a ++ t) = Lib.byteCells a ++ Lib.strCells (Lx.str t) := by
    rw [Lib.byteCells_append, Lib.strCells_eq]
    simp [Lx.str]
  rw [e1]; exact h
end Go.Proofs.YtoamkanofhhjfaaGreatDoor
