/-
  The walk of seal.oneTimeKey: the digest of the list of the ends of 18 chains.
-/
import Derived.Test.YtklfkhhefjjpaaaDoorSStart
import Derived.Test.YtklfkhhefjjpaaaDoorROwn2
import Derived.Test.YtklfkhhefjjpaaaDoorTState
import Derived.WalkKit
import Derived.WalkSpells
import Derived.WalkLawsBesides
import Derived.WalkSmall
import Derived.Lib.Hide
namespace Go.Proofs.YtklfkhhefjjpaaaDoor
open Go.RowKit

/-- f 0, .., f (k - 1). -/
def Sl.upTo {α : Type} (f : Nat → α) (k : Nat) : List α := (List.range k).map f
theorem Sl.upTo_zero {α : Type} (f : Nat → α) : Sl.upTo f 0 = [] := rfl
theorem Sl.upTo_succ {α : Type} (f : Nat → α) (k : Nat) : Sl.upTo f (k + 1) = Sl.upTo f k ++ [f k] := by simp [Sl.upTo, List.range_succ]
theorem Sl.upTo_length {α : Type} (f : Nat → α) (k : Nat) : (Sl.upTo f k).length = k := by simp [Sl.upTo]

/-- The texts of a row that the call builds: those of f, up to k. -/
def Sl.Got (base : Nat) (f : Nat → Tr.T) (k S : Nat) (v : Value) (w : World) : Prop :=
  ∃ ps : List ByteArray, ps.length = k ∧ w.ownsRow base 9 1 v k (Tr.cells ps) ∧ Hid (Tr.bs ps = Sl.upTo f k) ∧ ∀ s ∈ ps, s.size ≤ S

theorem Sl.Got.nil {base S : Nat} {f : Nat → Tr.T} {v : Value} {w : World} (h : w.ownsRow base 9 1 v 0 []) : Sl.Got base f 0 S v w :=
  ⟨[], rfl, h, rfl, by simp⟩
theorem Sl.Got.below {base S k : Nat} {f : Nat → Tr.T} {v : Value} {w w' : World} (h : Sl.Got base f k S v w) (hb : Below w.heap.size w w') : Sl.Got base f k S v w' := by
  obtain ⟨ps, h1, h2, h3, h4⟩ := h
  exact ⟨ps, h1, own_below h2 hb, h3, h4⟩
theorem Sl.Got.lt {base S k : Nat} {f : Nat → Tr.T} {v : Value} {w : World} (h : Sl.Got base f k S v w) : ∀ j, v.ownBlock = some j → base ≤ j ∧ j < w.heap.size := by
  obtain ⟨ps, h1, h2, h3, h4⟩ := h
  exact h2.lt
/-- One text more. -/
theorem Sl.Got.push {base S k : Nat} {f : Nat → Tr.T} {v' : Value} {w' : World} {ps : List ByteArray} {r : ByteArray} (h1 : ps.length = k) (h3 : Hid (Tr.bs ps = Sl.upTo f k)) (h4 : ∀ s ∈ ps, s.size ≤ S)
    (hr : Hid (r.data.toList = f k)) (hz : r.size ≤ S) (ho : w'.ownsRow base 9 1 v' (k + [r].length) (Tr.cells ps ++ Tr.cells [r])) : Sl.Got base f (k + 1) S v' w' := by
  refine ⟨ps ++ [r], by simp [h1], ?_, ?_, Tr.small_snoc h4 hz⟩
  · rw [Tr.cells_snoc]; exact ho
  · rw [Sl.upTo_succ]; exact Tr.bs_snoc h3 hr
theorem Sl.Got.tx {base S k : Nat} {f : Nat → Tr.T} {v : Value} {w : World} (h : Sl.Got base f k S v w) : ∃ ps : List ByteArray, ps.length = k ∧ IsTx w v ps ∧ Hid (Tr.bs ps = Sl.upTo f k) ∧ ∀ s ∈ ps, s.size ≤ S := by
  obtain ⟨ps, h1, h2, h3, h4⟩ := h
  subst h1
  exact ⟨ps, rfl, own_tx h2, h3, h4⟩

set_option maxHeartbeats 2000000 in
set_option maxRecDepth 100000 in
theorem onekey_walk (b : Nat) (r : Nat → ByteArray) (l : Nat → Nat) (w : World) (hb : b < w.heap.size)
    (hc : ∀ j, j < 18 → w.cell? ⟨b, j * 2, none⟩ = some (.string (r j)) ∧ w.cell? ⟨b, j * 2 + 1, none⟩ = some (.int .i64 (l j : Nat))) (hr : ∀ j, j < 18 → (r j).size ≤ 16) (hl : ∀ j, j < 18 → l j ≤ 15) (ht : HasTab w) :
    Calls Tryd.prog 41 #[.slice (some ⟨b, 0, none⟩) 18 18] w (Digs (Tr.li (Sl.upTo (fun k => Dg.chain (r k).data.toList (l k)) 18)) w) := by
  obtain ⟨i0, hii, hz0, hz1, hz2⟩ := info_parts one_str
  have HI := Lib.hid hii
  have HT := Lib.hid ht
  have HC := Lib.hid hc
  have HR := Lib.hid hr
  have HL := Lib.hid hl
  clear hii ht hc hr hl
  go_enter Tryd.func41, Tryd.ntmps41
  go_wp2_with (at_make; refine wpList_make_own _ rfl _ _ 22 rfl w.heap.size 9 i0 (.string ⟨#[]⟩) 1 Tryd.underlying22 HI.out hz0 hz1 .i64 .i64 _ 18 rfl rfl rfl (by rw [hz2]; omega) (by unfold maxLen; omega) (Nat.le_refl _) ?_; intro w1 hown1 hgrow1)
  have hb1 : Below w.heap.size w w1 := (Below.refl _ _).grown hgrow1 (Nat.le_refl _) (fun _ h => by cases h)
  have HO := Lib.hid (Sl.Got.nil (S := 16) (f := fun k => Dg.chain (r k).data.toList (l k)) hown1)
  clear hown1 hgrow1
  go_wp2_with fail
  go_loopw [3, 11] (fun v i wr => ∃ k : Nat, k ≤ 18 ∧ i = .int .i64 k ∧ Sl.Got w.heap.size (fun k => Dg.chain (r k).data.toList (l k)) k 16 v wr ∧ Below w.heap.size w wr) (fun _ i _ => 18 - (intOf i).toNat)
  case atStart => exact ⟨0, Nat.zero_le _, rfl, HO.out, hb1⟩
  case round =>
    obtain ⟨k, hk, rfl, hgot, hbel⟩ := hrel
    have HG := Lib.hid hgot
    clear hgot
    have hgw : w.heap.size ≤ wr.heap.size := hbel.size
    by_cases hlt : k < 18
    · obtain ⟨t, htk⟩ : ∃ t, t = r k := ⟨_, rfl⟩
      obtain ⟨d, hdk⟩ : ∃ d, d = l k := ⟨_, rfl⟩
      have c1 : wr.cell? ⟨b, k * 2, none⟩ = some (.string t) := by rw [hbel.cell (p := ⟨b, k * 2, none⟩) hb, (HC.out k hlt).1, htk]
      have c2 : wr.cell? ⟨b, k * 2 + 1, none⟩ = some (.int .i64 (d : Nat)) := by rw [hbel.cell (p := ⟨b, k * 2 + 1, none⟩) hb, (HC.out k hlt).2, hdk]
      have hts : t.size ≤ 16 := by rw [htk]; exact HR.out k hlt
      have hds : d ≤ 15 := by rw [hdk]; exact HL.out k hlt
      have HK := Lib.hid (And.intro htk hdk)
      clear htk hdk
      have hb2 := hbel.alloc hgw (.cells #[.string t, .int .i64 (d : Nat)] 61)
      go_wp2_with fail
      refine (chain_digs t hts d (by omega) _).mono ?_
      rintro e w3 ⟨q, rfl, hq, hqz, hb3⟩
      have hb3' := hb2.trans (hb3.mono hb2.size)
      obtain ⟨ps, g1, g2, g3, g4⟩ := HG.out
      have HQ := Lib.hid (own_below (own_below g2 ((Below.refl _ wr).alloc (Nat.le_refl _) (.cells #[.string t, .int .i64 (d : Nat)] 61))) hb3)
      have hgt := HG.out.lt
      have H1 := Lib.hid g1
      clear hb2 hb3 g2 HG g1
      go_wp2_with (at_builtin; refine wpList_append_tx rfl (.tmp 15) (.tmp 21) 22 rfl w.heap.size 9 i0 (.string ⟨#[]⟩) 16 Tryd.underlying22 HI.out hz0 hz1 hz2 rfl _ k (Tr.cells ps) rfl (HQ.out.alloc _) _ [q] rfl (tx_one _ _) (by simp [maxLen]; omega) (by simp; omega) (by rw [heap_alloc_size]; have := hb3'.size; omega) ?_)
      intro v5 w5 ho5 hg5
      have hb5 : Below w.heap.size w w5 := (hb3'.alloc hb3'.size _).grown hg5 (by rw [heap_alloc_size]; have := hb3'.size; omega) (fun j hj => (hgt j hj).1)
      have HN := Lib.hid (Sl.Got.push (f := fun k => Dg.chain (r k).data.toList (l k)) H1.out g3 g4 (by show _ = _; rw [hq.out, HK.out.1, HK.out.2]) hqz ho5)
      clear ho5 hg5 hq g3
      go_wp2_with fail
      go_roundw
      case rel => exact ⟨k + 1, by omega, by go_num, HN.out, hb5⟩
      case measure => simp [intOf]; omega
    · have hk18 : k = 18 := by omega
      subst hk18
      obtain ⟨ps, g1, g2, g3, g4⟩ := HG.out.tx
      have H1 := Lib.hid g1
      clear g1
      go_wp2_with fail
      refine (list_digs _ ps wr g2.texts (fun s h => by have := g4 s h; omega) (by rw [H1.out]; omega) (HT.out.below hbel)).mono ?_
      rintro e w3 ⟨q, rfl, hq, hqz, hb3⟩
      have HX : Hid (q.data.toList = Tr.li (Sl.upTo (fun k => Dg.chain (r k).data.toList (l k)) 18)) := by show _ = _; rw [hq.out, g3.out]
      clear hq g3
      go_wp2_with fail
      go_ret
      exact ⟨q, rfl, HX, hqz, hbel.trans (hb3.mono hbel.size)⟩
end Go.Proofs.YtklfkhhefjjpaaaDoor
