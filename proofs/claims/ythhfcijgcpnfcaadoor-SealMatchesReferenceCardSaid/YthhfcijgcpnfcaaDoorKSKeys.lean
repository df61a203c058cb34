import Derived.Test.YthhfcijgcpnfcaaDoorKSStart
import Derived.Test.YthhfcijgcpnfcaaDoorKROwn2
import Derived.Test.YthhfcijgcpnfcaaDoorKTState
import Derived.WalkKit
import Derived.WalkSpells
import Derived.WalkLawsBesides
import Derived.WalkSmall
import Derived.Lib.Hide
import Derived.Lib.SmallJoins
/-
  The walk of seal.oneTimeKey: the digest of the list of the ends of 18 chains.
-/
namespace Go.Proofs.YthhfcijgcpnfcaaDoor
open Go.RowKit

/-- f 0, .., f (k - 1). -/
def Sl.upTo {α : Type} (f : Nat → α) (k : Nat) : List α := (List.range k).map f
theorem Sl.upTo_zero {α : Type} (f : Nat → α) : Sl.upTo f 0 = [] := rfl
theorem Sl.upTo_succ {α : Type} (f : Nat → α) (k : Nat) : Sl.upTo f (k + 1) = Sl.upTo f k ++ [f k] := by simp [Sl.upTo, List.range_succ]
theorem Sl.upTo_length {α : Type} (f : Nat → α) (k : Nat) : (Sl.upTo f k).length = k := by simp [Sl.upTo]

/-- The texts of a row that the call builds: those of f, up to k. -/
def Sl.Got (base : Nat) (f : Nat → Tr.T) (k S : Nat) (v : Value) (w : World) : Prop :=
  ∃ ps : List ByteArray, ps.length = k ∧ w.ownsRow base 9 1 v k (Tr.cells ps) ∧ Hid (Tr.bs ps = Sl.upTo f k) ∧ ∀ s ∈ ps, s.size ≤ S

theorem Sl.Got.nil {base S : Nat} {f : Nat → Tr.T} {v : Value} {w : World} (h : w.ownsRow base 9 1 v 0 []) : Sl.Got base f 0 S v w :=
  ⟨[], rfl, h, rfl, by simp⟩
theorem Sl.Got.below {base S k : Nat} {f : Nat → Tr.T} {v : Value} {w w' : World} (h : Sl.Got base f k S v w) (hb : Below w.heap.size w w') : Sl.Got base f k S v w' := by
  obtain ⟨ps, h1, h2, h3, h4⟩ := h
  exact ⟨ps, h1, own_below h2 hb, h3, h4⟩
theorem Sl.Got.lt {base S k : Nat} {f : Nat → Tr.T} {v : Value} {w : World} (h : Sl.Got base f k S v w) : ∀ j, v.ownBlock = some j → base ≤ j ∧ j < w.heap.size := by
  obtain ⟨ps, h1, h2, h3, h4⟩ := h
  exact h2.lt
/-- One text more. -/
theorem Sl.Got.push {base S k : Nat} {f : Nat → Tr.T} {v' : Value} {w' : World} {ps : List ByteArray} {r : ByteArray} (h1 : ps.length = k) (h3 : Hid (Tr.bs ps = Sl.upTo f k)) (h4 : ∀ s ∈ ps, s.size ≤ S)
    (hr : Hid (r.data.toList = f k)) (hz : r.size ≤ S) (ho : w'.ownsRow base 9 1 v' (k + [r].length) (Tr.cells ps ++ Tr.cells [r])) : Sl.Got base f (k + 1) S v' w' := by
  refine ⟨ps ++ [r], by simp [h1], ?_, ?_, Tr.small_snoc h4 hz⟩
  · rw [Tr.cells_snoc]; exact ho
  · rw [Sl.upTo_succ]; exact Tr.bs_snoc h3 hr
theorem Sl.Got.tx {base S k : Nat} {f : Nat → Tr.T} {v : Value} {w : World} (h : Sl.Got base f k S v w) : ∃ ps : List ByteArray, ps.length = k ∧ IsTx w v ps ∧ Hid (Tr.bs ps = Sl.upTo f k) ∧ ∀ s ∈ ps, s.size ≤ S := by
  obtain ⟨ps, h1, h2, h3, h4⟩ := h
  subst h1
  exact ⟨ps, rfl, own_tx h2, h3, h4⟩

set_option maxHeartbeats 2000000 in
set_option maxRecDepth 100000 in
theorem onekey_walk (b : Nat) (r : Nat → ByteArray) (l : Nat → Nat) (w : World) (hb : b < w.heap.size)
    (hc : ∀ j, j < 18 → w.cell? ⟨b, j * 2, none⟩ = some (.string (r j)) ∧ w.cell? ⟨b, j * 2 + 1, none⟩ = some (.int .i64 (l j : Nat))) (hr : ∀ j, j < 18 → (r j).size ≤ 16) (hl : ∀ j, j < 18 → l j ≤ 15) (ht : HasTab w) :
    Calls Tryd.prog 41 #[.slice (some ⟨b, 0, none⟩) 18 18] w (Digs (Tr.li (Sl.upTo (fun k => Dg.chain (r k).data.toList (l k)) 18)) w) := by
  obtain ⟨i0, hii, hz0, hz1, hz2⟩ := info_parts one_str
  have HI := Lib.hid hii
  have HT := Lib.hid ht
  have HC := Lib.hid hc
  have HR := Lib.hid hr
  have HL := Lib.hid hl
  clear hii ht hc hr hl
  go_enter Tryd.func41, Tryd.ntmps41
  go_wp2_with (at_make; refine wpList_make_own _ rfl _ _ 22 rfl w.heap.size 9 i0 (.string ⟨#[]⟩) 1 Tryd.underlying22 HI.out hz0 hz1 .i64 .i64 _ 18 rfl rfl rfl (by rw [hz2]; omega) (by unfold maxLen; omega) (Nat.le_refl _) ?_; intro w1 hown1 hgrow1)
  have hb1 : Below w.heap.size w w1 := (Below.refl _ _).grown hgrow1 (Nat.le_refl _) (fun _ h => by cases h)
  have HO := Lib.hid (Sl.Got.nil (S := 16) (f := fun k => Dg.chain (r k).data.toList (l k)) hown1)
  clear hown1 hgrow1
  go_wp2_with fail
  go_loopw [3, 11] (fun v i wr => ∃ k : Nat, k ≤ 18 ∧ i = .int .i64 k ∧ Sl.Got w.heap.size (fun k => Dg.chain (r k).data.toList (l k)) k 16 v wr ∧ Below w.heap.size w wr) (fun _ i _ => 18 - (intOf i).toNat)
  case atStart => exact ⟨0, Nat.zero_le _, rfl, HO.out, hb1⟩
  case round =>
    obtain ⟨k, hk, rfl, hgot, hbel⟩ := hrel
    have HG := Lib.hid hgot
    clear hgot
    have hgw : w.heap.size ≤ wr.heap.size := hbel.size
    by_cases hlt : k < 18
    · obtain ⟨t, htk⟩ : ∃ t, t = r k := ⟨_, rfl⟩
      obtain ⟨d, hdk⟩ : ∃ d, d = l k := ⟨_, rfl⟩
      have c1 : wr.cell? ⟨b, k * 2, none⟩ = some (.string t) := by rw [hbel.cell (p := ⟨b, k * 2, none⟩) hb, (HC.out k hlt).1, htk]
      have c2 : wr.cell? ⟨b, k * 2 + 1, none⟩ = some (.int .i64 (d : Nat)) := by rw [hbel.cell (p := ⟨b, k * 2 + 1, none⟩) hb, (HC.out k hlt).2, hdk]
      have hts : t.size ≤ 16 := by rw [htk]; exact HR.out k hlt
      have hds : d ≤ 15 := by rw [hdk]; exact HL.out k hlt
      have HK := Lib.hid (And.intro htk hdk)
      clear htk hdk
      have hb2 := hbel.alloc hgw (.cells #[.string t, .int .i64 (d : Nat)] 61)
      go_wp2_with fail
      refine (chain_digs t hts d (by omega) _).mono ?_
      rintro e w3 ⟨q, rfl, hq, hqz, hb3⟩
      have hb3' := hb2.trans (hb3.mono hb2.size)
      obtain ⟨ps, g1, g2, g3, g4⟩ := HG.out
      have HQ := Lib.hid (own_below (own_below g2 ((Below.refl _ wr).alloc (Nat.le_refl _) (.cells #[.string t, .int .i64 (d : Nat)] 61))) hb3)
      have hgt := HG.out.lt
      have H1 := Lib.hid g1
      clear hb2 hb3 g2 HG g1
      go_wp2_with (at_builtin; refine wpList_append_tx rfl (.tmp 15) (.tmp 21) 22 rfl w.heap.size 9 i0 (.string ⟨#[]⟩) 16 Tryd.underlying22 HI.out hz0 hz1 hz2 rfl _ k (Tr.cells ps) rfl (HQ.out.alloc _) _ [q] rfl (tx_one _ _) (by simp [maxLen]; omega) (by simp; omega) (by rw [heap_alloc_size]; have := hb3'.size; omega) ?_)
      intro v5 w5 ho5 hg5
      have hb5 : Below w.heap.size w w5 := (hb3'.alloc hb3'.size _).grown hg5 (by rw [heap_alloc_size]; have := hb3'.size; omega) (fun j hj => (hgt j hj).1)
      have HN := Lib.hid (Sl.Got.push (f := fun k => Dg.chain (r k).data.toList (l k)) H1.out g3 g4 (by show _ = _; rw [hq.out, HK.out.1, HK.out.2]) hqz ho5)
      clear ho5 hg5 hq g3
      go_wp2_with fail
      go_roundw
      case rel => exact ⟨k + 1, by omega, by go_num, HN.out, hb5⟩
      case measure => simp [intOf]; omega
    · have hk18 : k = 18 := by omega
      subst hk18
      obtain ⟨ps, g1, g2, g3, g4⟩ := HG.out.tx
      have H1 := Lib.hid g1
      clear g1
      go_wp2_with fail
      refine (list_digs _ ps wr g2.texts (fun s h => by have := g4 s h; omega) (by rw [H1.out]; omega) (HT.out.below hbel)).mono ?_
      rintro e w3 ⟨q, rfl, hq, hqz, hb3⟩
      have HX : Hid (q.data.toList = Tr.li (Sl.upTo (fun k => Dg.chain (r k).data.toList (l k)) 18)) := by show _ = _; rw [hq.out, g3.out]
      clear hq g3
      go_wp2_with fail
      go_ret
      exact ⟨q, rfl, HX, hqz, hbel.trans (hb3.mono hbel.size)⟩
end Go.Proofs.YthhfcijgcpnfcaaDoor
/-
  The walk of seal.oneTimeKeys: the list of the one-time keys of a secret.
-/
namespace Go.Proofs.YthhfcijgcpnfcaaDoor
open Go.RowKit

namespace Sl
/-- A start as a string. -/
def startB (s : Tr.T) (i k : Nat) : ByteArray := str (start s i k)
theorem startB_data (s : Tr.T) (i k : Nat) : (startB s i k).data.toList = start s i k := Dg.str_toList _
theorem startB_size (s : Tr.T) (i k : Nat) : (startB s i k).size ≤ 16 := by rw [Lib.size_eq, startB_data, start, Dg.sum_length]; exact Nat.le_refl _
theorem startB_of {s : Tr.T} {i k : Nat} {r : ByteArray} (h : Hid (r.data.toList = start s i k)) : r = startB s i k := Dg.str_ext _ _ (by rw [h.out, startB_data])

/-- The cells of 18 chains, of which those that p names are written. -/
def chCell (r : Nat → ByteArray) (l : Nat → Nat) (p : Nat → Bool) (j : Nat) : Value :=
  if j % 2 = 0 then .string (if p (j / 2) then r (j / 2) else ⟨#[]⟩) else .int .i64 (if p (j / 2) then (l (j / 2) : Nat) else 0)
def chs (r : Nat → ByteArray) (l : Nat → Nat) (p : Nat → Bool) : Array Value := ((List.range 36).map (chCell r l p)).toArray
theorem chs_size (r : Nat → ByteArray) (l : Nat → Nat) (p : Nat → Bool) : (chs r l p).size = 36 := by simp [chs]
theorem chs_get (r : Nat → ByteArray) (l : Nat → Nat) (p : Nat → Bool) (j : Nat) (h : j < 36) : (chs r l p)[j]? = some (chCell r l p j) := by simp [chs, h]
theorem chs_none (r : Nat → ByteArray) (l : Nat → Nat) : chs r l (fun _ => false) = #[.string ⟨#[]⟩, .int .i64 0, .string ⟨#[]⟩, .int .i64 0, .string ⟨#[]⟩, .int .i64 0, .string ⟨#[]⟩, .int .i64 0, .string ⟨#[]⟩, .int .i64 0, .string ⟨#[]⟩, .int .i64 0, .string ⟨#[]⟩, .int .i64 0, .string ⟨#[]⟩, .int .i64 0, .string ⟨#[]⟩, .int .i64 0, .string ⟨#[]⟩, .int .i64 0, .string ⟨#[]⟩, .int .i64 0, .string ⟨#[]⟩, .int .i64 0, .string ⟨#[]⟩, .int .i64 0, .string ⟨#[]⟩, .int .i64 0, .string ⟨#[]⟩, .int .i64 0, .string ⟨#[]⟩, .int .i64 0, .string ⟨#[]⟩, .int .i64 0, .string ⟨#[]⟩, .int .i64 0] := rfl
theorem chCell_even (r : Nat → ByteArray) (l : Nat → Nat) (p : Nat → Bool) (k : Nat) : chCell r l p (k * 2) = .string (if p k then r k else ⟨#[]⟩) := by
  unfold chCell
  rw [if_pos (by omega), show k * 2 / 2 = k by omega]
theorem chCell_odd (r : Nat → ByteArray) (l : Nat → Nat) (p : Nat → Bool) (k : Nat) : chCell r l p (k * 2 + 1) = .int .i64 (if p k then (l k : Nat) else 0) := by
  unfold chCell
  rw [if_neg (by omega), show (k * 2 + 1) / 2 = k by omega]
theorem chs_set (r : Nat → ByteArray) (l : Nat → Nat) (p : Nat → Bool) (k : Nat) (h : k < 18) :
    ((chs r l p).setIfInBounds (k * 2) (.string (r k))).setIfInBounds (k * 2 + 1) (.int .i64 (l k : Nat)) = chs r l (fun j => p j || j == k) := by
  apply Array.ext_getElem?
  intro j
  rw [Array.getElem?_setIfInBounds, Array.getElem?_setIfInBounds, Array.size_setIfInBounds, chs_size]
  by_cases hj : j < 36
  · rw [chs_get _ _ _ j hj, chs_get _ _ _ j hj]
    by_cases e1 : k * 2 + 1 = j
    · subst e1
      rw [if_pos rfl, if_pos hj, chCell_odd]; simp
    · rw [if_neg e1]
      by_cases e2 : k * 2 = j
      · subst e2
        rw [if_pos rfl, if_pos hj, chCell_even]; simp
      · rw [if_neg e2]
        have e3 : (j / 2 == k) = false := beq_eq_false_iff_ne.2 (by omega)
        simp only [chCell, e3, Bool.or_false]
  · rw [if_neg (by omega), if_neg (by omega), Array.getElem?_eq_none (by rw [chs_size]; omega), Array.getElem?_eq_none (by rw [chs_size]; omega)]
theorem chs_congr {r : Nat → ByteArray} {l : Nat → Nat} {p q : Nat → Bool} (h : ∀ j, j < 18 → p j = q j) : chs r l p = chs r l q := by
  apply Array.ext_getElem?
  intro j
  by_cases hj : j < 36
  · rw [chs_get _ _ _ j hj, chs_get _ _ _ j hj]
    simp only [chCell, h (j / 2) (by omega)]
  · rw [Array.getElem?_eq_none (by rw [chs_size]; omega), Array.getElem?_eq_none (by rw [chs_size]; omega)]

/-- Block b holds the 18 chains. -/
def Chs (b : Nat) (r : Nat → ByteArray) (l : Nat → Nat) (p : Nat → Bool) (w : World) : Prop := w.heap[b]? = some (.cells (chs r l p) 62 (0, 0))
theorem Chs.lt {b : Nat} {r : Nat → ByteArray} {l : Nat → Nat} {p : Nat → Bool} {w : World} (h : Chs b r l p w) : b < w.heap.size := (Array.getElem?_eq_some_iff.1 h).1
theorem Chs.even {b : Nat} {r : Nat → ByteArray} {l : Nat → Nat} {p : Nat → Bool} {w : World} (h : Chs b r l p w) (k : Nat) (hk : k < 18) : w.cell? ⟨b, k * 2, none⟩ = some (.string (if p k then r k else ⟨#[]⟩)) := by
  rw [Joins.cell_of_block h, chs_get _ _ _ _ (by omega), chCell_even]
theorem Chs.odd {b : Nat} {r : Nat → ByteArray} {l : Nat → Nat} {p : Nat → Bool} {w : World} (h : Chs b r l p w) (k : Nat) (hk : k < 18) : w.cell? ⟨b, k * 2 + 1, none⟩ = some (.int .i64 (if p k then (l k : Nat) else 0)) := by
  rw [Joins.cell_of_block h, chs_get _ _ _ _ (by omega), chCell_odd]
theorem Chs.free {b : Nat} {r : Nat → ByteArray} {l : Nat → Nat} {p : Nat → Bool} {w : World} (h : Chs b r l p w) (j : Nat) : w.frozen? ⟨b, j, none⟩ = false := Joins.unfrozen_of_block h j
theorem Chs.below {b : Nat} {r : Nat → ByteArray} {l : Nat → Nat} {p : Nat → Bool} {w w' : World} (h : Chs b r l p w) (hb : Below w.heap.size w w') : Chs b r l p w' := (hb.block b h.lt).trans h
theorem Chs.set {b : Nat} {r : Nat → ByteArray} {l : Nat → Nat} {p : Nat → Bool} {w : World} (h : Chs b r l p w) (k : Nat) (hk : k < 18) :
    Chs b r l (fun j => p j || j == k) ((w.setCell ⟨b, k * 2, none⟩ (.string (r k))).setCell ⟨b, k * 2 + 1, none⟩ (.int .i64 (l k : Nat))) := by
  unfold Chs
  rw [Joins.block_setCell (Joins.block_setCell h _) _, chs_set r l p k hk]
theorem Chs.all {b : Nat} {r : Nat → ByteArray} {l : Nat → Nat} {p : Nat → Bool} {w : World} (h : Chs b r l p w) (hp : ∀ j, j < 18 → p j = true) :
    ∀ j, j < 18 → w.cell? ⟨b, j * 2, none⟩ = some (.string (r j)) ∧ w.cell? ⟨b, j * 2 + 1, none⟩ = some (.int .i64 (l j : Nat)) := fun j hj => by
  rw [h.even j hj, h.odd j hj, hp j hj]
  exact ⟨rfl, rfl⟩
theorem Chs.new (w : World) (r : Nat → ByteArray) (l : Nat → Nat) : Chs w.heap.size r l (fun _ => false) (w.alloc (.cells (chs r l (fun _ => false)) 62)) := heap_alloc_new _ _
theorem Chs.congr {b : Nat} {r : Nat → ByteArray} {l : Nat → Nat} {p q : Nat → Bool} {w : World} (h : Chs b r l p w) (e : ∀ j, j < 18 → p j = q j) : Chs b r l q w := by
  unfold Chs at *
  rw [h, chs_congr e]

theorem key_of (s : Tr.T) (i : Nat) : Tr.li (upTo (fun k => Dg.chain (startB s i k).data.toList 15) 18) = key s i := by
  unfold key ends upTo
  simp only [startB_data]
theorem keys_of (s : Tr.T) (h : Nat) : upTo (key s) (2 ^ h) = keys s h := rfl
end Sl

/-- What a function answers that hands back texts which are those of a list. -/
def TxOut (S : Nat) (p : List Tr.T) (w : World) (e : Ending) (w' : World) : Prop :=
  ∃ (v : Value) (ps : List ByteArray), e = .returned v ∧ IsTx w' v ps ∧ Hid (Tr.bs ps = p) ∧ (∀ s ∈ ps, s.size ≤ S) ∧ Below w.heap.size w w'

set_option maxHeartbeats 2000000 in
set_option maxRecDepth 100000 in
theorem keys_walk (s : ByteArray) (hs : s.size ≤ 300) (h : Nat) (h8 : h ≤ 8) (w : World) (ht : HasTab w) :
    Calls Tryd.prog 28 #[.string s, .int .i64 h] w (TxOut 16 (Sl.keys s.data.toList h) w) := by
  obtain ⟨i0, hii, hz0, hz1, hz2⟩ := info_parts one_str
  have HI := Lib.hid hii
  have HT := Lib.hid ht
  have HS := Lib.hid hs
  obtain ⟨n, hn⟩ : ∃ n, n = 2 ^ h := ⟨_, rfl⟩
  have hn8 : n ≤ 256 := by rw [hn]; exact Nat.le_trans (Nat.pow_le_pow_right (by decide) h8) (by decide)
  have hsh : wrap64 ((2 : Int) ^ h) = (n : Int) := by
    have e : ((2 : Int) ^ h) = ((n : Nat) : Int) := by rw [hn]; simp
    rw [e]
    unfold wrap64; omega
  have HN := Lib.hid hn
  have HSH := Lib.hid hsh
  clear hii ht hs hn hsh
  go_enter Tryd.func28, Tryd.ntmps28
  go_wp2_with (at_make; refine wpList_make_own _ rfl _ _ 22 rfl w.heap.size 9 i0 (.string ⟨#[]⟩) 1 Tryd.underlying22 HI.out hz0 hz1 .i64 .i64 _ n rfl rfl HSH.out (by rw [hz2]; omega) (by unfold maxLen; omega) (Nat.le_refl _) ?_; intro w1 hown1 hgrow1)
  have hb1 : Below w.heap.size w w1 := (Below.refl _ _).grown hgrow1 (Nat.le_refl _) (fun _ h => by cases h)
  have HO := Lib.hid (Sl.Got.nil (S := 16) (f := Sl.key s.data.toList) hown1)
  clear hown1 hgrow1
  go_wp2_with fail
  simp only [HSH.out]
  go_loopw [5, 14] (fun v i wr => ∃ k : Nat, k ≤ n ∧ i = .int .i64 k ∧ Sl.Got w.heap.size (Sl.key s.data.toList) k 16 v wr ∧ Below w.heap.size w wr) (fun _ i _ => n - (intOf i).toNat)
  case atStart => exact ⟨0, Nat.zero_le _, rfl, HO.out, hb1⟩
  case round =>
    obtain ⟨k, hk, rfl, hgot, hbel⟩ := hrel
    have HG := Lib.hid hgot
    clear hgot
    obtain ⟨wa, rfl⟩ : ∃ x, x = wr := ⟨_, rfl⟩
    have hgw : w.heap.size ≤ wa.heap.size := hbel.size
    by_cases hlt : k < n
    · have hlt' : (k : Int) < (n : Int) := by omega
      go_wp2_with fail
      go_loopw [17] (fun i wq => ∃ j : Nat, j ≤ 18 ∧ i = .int .i64 j ∧ Sl.Chs wa.heap.size (Sl.startB s.data.toList k) (fun _ => 15) (fun x => decide (x < j)) wq ∧ Below wa.heap.size wa wq) (fun i _ => 18 - (intOf i).toNat)
      case atStart => exact ⟨0, Nat.zero_le _, rfl, (Sl.Chs.new wa _ _).congr (fun j _ => by simp), (Below.refl _ _).alloc (Nat.le_refl _) _⟩
      case round =>
        obtain ⟨j, hj, rfl, hchs, hbq⟩ := hrel
        have HH := Lib.hid hchs
        clear hchs
        have hgq : wa.heap.size < wr.heap.size := HH.out.lt
        by_cases hltj : j < 18
        · go_wp2_with fail
          refine (start_walk s HS.out k j (by omega) (by omega) wr (HT.out.below (hbel.trans (hbq.mono hgw)))).mono ?_
          rintro e w3 ⟨q, rfl, hq, hqz, hb3⟩
          obtain rfl := Sl.startB_of hq
          have HH3 := Lib.hid (HH.out.below hb3)
          have c1 := HH3.out.even j hltj
          have c2 := HH3.out.odd j hltj
          have f1 := HH3.out.free (j * 2)
          have f2 := HH3.out.free (j * 2 + 1)
          clear hq
          go_wp2_with fail
          have hset := HH3.out.set j hltj
          have hb4 := hbq.trans (hb3.mono hbq.size)
          have hb5 := (hb4.setCell (p := ⟨wa.heap.size, j * 2, none⟩) (Nat.le_refl _) (.string (Sl.startB s.data.toList k j))).setCell (p := ⟨wa.heap.size, j * 2 + 1, none⟩) (Nat.le_refl _) (.int .i64 15)
          go_roundw
          case rel => exact ⟨j + 1, by omega, by go_num, hset.congr (fun x _ => by rw [Bool.eq_iff_iff]; simp; omega), hb5⟩
          case measure => simp [intOf]; omega
        · have HA := Lib.hid (HH.out.all (fun x hx => by simp; omega))
          have HG2 := Lib.hid (HG.out.below hbq)
          have hb2 := hbel.trans (hbq.mono hgw)
          clear HG
          go_wp2_with fail
          refine (onekey_walk wa.heap.size (Sl.startB s.data.toList k) (fun _ => 15) wr hgq HA.out (fun x _ => Sl.startB_size _ _ _) (fun _ _ => Nat.le_refl _) (HT.out.below hb2)).mono ?_
          rintro e w3 ⟨q, rfl, hq, hqz, hb3⟩
          have hb3' := hb2.trans (hb3.mono hb2.size)
          obtain ⟨ps, g1, g2, g3, g4⟩ := (HG2.out.below hb3)
          have HQ := Lib.hid g2
          have hgt := g2.lt
          have H1 := Lib.hid g1
          clear hb2 hb3 g2 HG2 g1
          go_wp2_with (at_builtin; refine wpList_append_tx rfl (.tmp 28) (.tmp 31) 22 rfl w.heap.size 9 i0 (.string ⟨#[]⟩) 16 Tryd.underlying22 HI.out hz0 hz1 hz2 rfl _ k (Tr.cells ps) rfl (HQ.out.alloc _) _ [q] rfl (tx_one _ _) (by simp [maxLen]; omega) (by simp; omega) (by rw [heap_alloc_size]; have := hb3'.size; omega) ?_)
          intro v5 w5 ho5 hg5
          have hb5 : Below w.heap.size w w5 := (hb3'.alloc hb3'.size _).grown hg5 (by rw [heap_alloc_size]; have := hb3'.size; omega) (fun j hj => (hgt j hj).1)
          have HNX := Lib.hid (Sl.Got.push (f := Sl.key s.data.toList) H1.out g3 g4 (by show _ = _; rw [hq.out, Sl.key_of]) hqz ho5)
          clear ho5 hg5 hq g3
          go_wp2_with fail
          go_roundw
          case rel => exact ⟨k + 1, by omega, by go_num, HNX.out, hb5⟩
          case measure => simp [intOf]; omega
    · have hkn : k = n := by omega
      obtain ⟨ps, g1, g2, g3, g4⟩ := HG.out.tx
      have HX : Hid (Tr.bs ps = Sl.keys s.data.toList h) := by show _ = _; rw [g3.out, hkn, HN.out, Sl.keys_of]
      clear hkn g1 g3
      go_wp2_with fail
      go_ret
      exact ⟨_, ps, rfl, g2, HX, g4, hbel⟩
end Go.Proofs.YthhfcijgcpnfcaaDoor
