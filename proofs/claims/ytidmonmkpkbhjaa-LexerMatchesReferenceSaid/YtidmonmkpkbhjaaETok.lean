/-
  The walks of the program's value, name, number, HasPrefix and token.
-/
import Derived.Test.YtidmonmkpkbhjaaEGap
import Derived.Laws.ResultCell
import Derived.Lib.SmallJoins
namespace Go.Proofs.Ytidmonmkpkbhjaa
open Go.RowKit

namespace Lx
/-- A token as a value. -/
abbrev tokV (t : Tok) : Value := .agg #[.int .i64 (t.kind : Nat), .string (str t.text), .int .i64 (t.n : Nat), .int .i64 (t.at_ : Nat)]
theorem value_le (l : T) : value l < 10 ^ l.length ∨ l.all isDigit = false := by
  by_cases h : l.all isDigit = true
  · left
    have key : ∀ (l : T) (n k : Nat), l.all isDigit = true → n < 10 ^ k → l.foldl (fun n c => 10 * n + (c.toNat - 48)) n < 10 ^ (k + l.length) := by
      intro l
      induction l with
      | nil => intro n k _ h; simpa using h
      | cons c l ih =>
        intro n k h hn
        rw [List.all_cons, Bool.and_eq_true] at h
        have hc := (digit_iff c).1 h.1
        rw [List.foldl_cons, List.length_cons, show k + (l.length + 1) = (k + 1) + l.length by omega]
        refine ih _ _ h.2 ?_
        rw [Nat.pow_succ]; omega
    have := key l 0 0 h (by simp)
    rwa [Nat.zero_add] at this
  · right; simpa using h
end Lx

/-! ### A token as a result -/
theorem tok_size : (Try.prog.info? 30).map (·.size) = some 4 := by kernel_rfl
theorem tok_results {fn : Func} (hr : fn.results = #[.cell 4 30, .tmp 5]) (tmps : Array Value) (w : World) (g : Nat) (v0 v1 v2 v3 v : Value) (t : TypeId) (fr : Nat × Nat) (hp : tmps.getD 4 undef = .pointer (some ⟨g, 0, none⟩)) (hv : tmps.getD 5 undef = v) (hg : w.heap[g]? = some (.cells #[v0, v1, v2, v3] t fr)) :
    (results fn tmps).run Try.prog w = .ok (.tuple #[.agg #[v0, v1, v2, v3], v]) w := by
  rw [results_cell_tmp hr, hp, hv]
  simp [asAddr, run_loadVar_row w g t 30 #[v0, v1, v2, v3] fr _ hg Try.underlying30 rfl tok_size, Result.andThen]
theorem tok_set {w : World} {g : Nat} {a b c d : Value} {t : TypeId} {fr : Nat × Nat} (h : w.heap[g]? = some (.cells #[a, b, c, d] t fr)) (x y z u : Value) :
    ((((w.setCell ⟨g, 0, none⟩ x).setCell ⟨g, 1, none⟩ y).setCell ⟨g, 2, none⟩ z).setCell ⟨g, 3, none⟩ u).heap[g]? = some (.cells #[x, y, z, u] t fr) := by
  rw [Joins.block_setCell (Joins.block_setCell (Joins.block_setCell (Joins.block_setCell h x) y) z) u]; rfl
theorem tok_below {w0 w : World} {n g : Nat} (h : Below n w0 w) (hg : n ≤ g) (x y z u : Value) : Below n w0 ((((w.setCell ⟨g, 0, none⟩ x).setCell ⟨g, 1, none⟩ y).setCell ⟨g, 2, none⟩ z).setCell ⟨g, 3, none⟩ u) :=
  (((h.setCell (p := ⟨g, 0, none⟩) hg x).setCell (p := ⟨g, 1, none⟩) hg y).setCell (p := ⟨g, 2, none⟩) hg z).setCell (p := ⟨g, 3, none⟩) hg u
/-- The zero token, in its block. -/
abbrev tok0 : Obj := .cells #[.int .i64 0, .string ⟨#[]⟩, .int .i64 0, .int .i64 0] 30

theorem tok_facts {w : World} {g : Nat} (h : w.heap[g]? = some tok0) :
    (w.cell? ⟨g, 0, none⟩ = some (.int .i64 0) ∧ w.cell? ⟨g, 1, none⟩ = some (.string ⟨#[]⟩) ∧ w.cell? ⟨g, 2, none⟩ = some (.int .i64 0) ∧ w.cell? ⟨g, 3, none⟩ = some (.int .i64 0)) ∧
    w.frozen? ⟨g, 0, none⟩ = false ∧ w.frozen? ⟨g, 1, none⟩ = false ∧ w.frozen? ⟨g, 2, none⟩ = false ∧ w.frozen? ⟨g, 3, none⟩ = false :=
  ⟨⟨Joins.cell_of_block h 0, Joins.cell_of_block h 1, Joins.cell_of_block h 2, Joins.cell_of_block h 3⟩, Joins.unfrozen_of_block h 0, Joins.unfrozen_of_block h 1, Joins.unfrozen_of_block h 2, Joins.unfrozen_of_block h 3⟩

namespace Lx
/-- What a function answers that returns a token and an error. -/
def TokOut (x : Tok × Nat) (w : World) (e : Ending) (w' : World) : Prop :=
  e = .returned (.tuple #[tokV x.1, .int .i64 (x.2 : Nat)]) ∧ Below w.heap.size w w'
/-- No token, at an offset. -/
abbrev noTok (i : Nat) : Tok := ⟨0, [], 0, i⟩
/-- What next says, at an offset. -/
def res (x : Nx) (i : Nat) : Tok × Nat := match x with | .tok k t n => (⟨k, t, n, i⟩, 0) | .err e => (noTok i, e)
def nameR (s : ByteArray) (i : Nat) : Tok × Nat := if run isWord s i ≤ 24 then (⟨1, ((tx s).drop i).take (run isWord s i), 0, i⟩, 0) else (noTok i, 2)
def numR (s : ByteArray) (i : Nat) : Tok × Nat :=
  if run isDigit s i ≤ 7 ∧ hd (fun c => isLetter c || c == 95) ((tx s).drop (i + run isDigit s i)) = false
  then (⟨2, ((tx s).drop i).take (run isDigit s i), value (((tx s).drop i).take (run isDigit s i)), i⟩, 0) else (noTok i, 4)
theorem take_run (p : UInt8 → Bool) (s : ByteArray) (i : Nat) : ((tx s).drop i).take (run p s i) = ((tx s).drop i).takeWhile p := by
  unfold run
  have := List.takeWhile_append_dropWhile (p := p) (l := (tx s).drop i)
  generalize ((tx s).drop i).takeWhile p = a at this ⊢
  rw [← this, List.take_left]
theorem drop_run (p : UInt8 → Bool) (s : ByteArray) (i : Nat) : (tx s).drop (i + run p s i) = ((tx s).drop i).dropWhile p := by
  rw [← List.drop_drop]
  unfold run
  have := List.takeWhile_append_dropWhile (p := p) (l := (tx s).drop i)
  generalize ((tx s).drop i).takeWhile p = a at this ⊢
  generalize ((tx s).drop i).dropWhile p = b at this ⊢
  rw [← this, List.drop_left]
theorem name_res {s : ByteArray} {i : Nat} {c : UInt8} {r : T} (e : (tx s).drop i = c :: r) (h : isLetter c = true) : res (next c r) i = nameR s i := by
  unfold nameR
  rw [take_run]
  unfold run
  rw [e, List.takeWhile_cons, letter_word h]
  unfold next
  rw [if_pos h]
  simp only [if_true]
  split <;> rfl
theorem num_res {s : ByteArray} {i : Nat} {c : UInt8} {r : T} (e : (tx s).drop i = c :: r) (h : isDigit c = true) : res (next c r) i = numR s i := by
  unfold numR
  rw [take_run, drop_run]
  unfold run
  rw [e, List.takeWhile_cons, List.dropWhile_cons, h]
  unfold next
  rw [if_neg (by rw [digit_noletter h]; decide), if_pos h]
  simp only [if_true]
  have hh : headWord (r.dropWhile isDigit) = hd (fun c => isLetter c || c == 95) (r.dropWhile isDigit) := by
    have h2 := head_drop isDigit r
    cases hx : r.dropWhile isDigit with
    | nil => rfl
    | cons d y =>
      rw [hx] at h2
      have h3 : isDigit d = false := by simpa [noHead] using h2
      simp [headWord, hd, isWord, h3]
  rw [hh]
  split <;> rfl
end Lx

set_option maxHeartbeats 2000000 in
set_option maxRecDepth 100000 in
theorem name_walk (B : Nat) (s : ByteArray) (hs : s.size < 9223372036854775807) (i : Nat) (hi2 : i ≤ s.size) (w : World) (h : Lx.Src B s w) :
    Calls Try.prog 34 #[.pointer (some ⟨B, 0, none⟩), .int .i64 i] w (Lx.TokOut (Lx.nameR s i) w) := by
  have hB := h.lt
  have HS := Lib.hid h
  have hrl := Lx.run_le Lx.isWord s i hi2
  have ha : Below w.heap.size w (w.alloc tok0) := (Below.refl _ _).alloc (Nat.le_refl _) _
  have HK0 := Lib.hid (heap_alloc_new w tok0)
  clear h
  obtain ⟨R, hR⟩ : ∃ R, R = Lx.nameR s i := ⟨_, rfl⟩
  rw [← hR]
  unfold Lx.nameR at hR
  obtain ⟨q, hq⟩ : ∃ q, q = Lx.run Lx.isWord s i := ⟨_, rfl⟩
  rw [← hq] at hrl hR
  have HR := Lib.hid hR
  clear hR
  have HQ := Lib.hid hq
  clear hq
  go_enter Try.func34, Try.ntmps34
  go_wp2_with fail
  refine (runend_walk Lx.mask_word B s hs i hi2 _ (HS.out.below ha hB)).mono ?_
  rintro e w2 ⟨rfl, hb2⟩
  rw [← HQ.out]
  have c1 := ((HS.out.below ha hB).below hb2 (by simp; omega)).text
  have hk := (hb2.block w.heap.size (by simp)).trans HK0.out
  have hb3 := ha.trans (hb2.mono ha.size)
  have g0 := Joins.cell_of_block hk 0
  have g1 := Joins.cell_of_block hk 1
  have g2 := Joins.cell_of_block hk 2
  have g3 := Joins.cell_of_block hk 3
  have f0 := Joins.unfrozen_of_block hk 0
  have f1 := Joins.unfrozen_of_block hk 1
  have f2 := Joins.unfrozen_of_block hk 2
  have f3 := Joins.unfrozen_of_block hk 3
  have HK := Lib.hid hk
  have HB3 := Lib.hid hb3
  clear hk hb2 hb3 ha
  by_cases hlt : q ≤ 24
  · go_wp2_with fail
    refine bodyPost_ret (tok_results rfl _ _ w.heap.size _ _ _ _ (.int .i64 0) _ _ rfl rfl (tok_set HK.out _ _ _ _)) rfl ?_
    refine ⟨?_, tok_below HB3.out (Nat.le_refl _) _ _ _ _⟩
    rw [HR.out, if_pos hlt, Lx.extract_str, show i + q - i = q by omega]; rfl
  · go_wp2_with fail
    refine bodyPost_ret (tok_results rfl _ _ w.heap.size _ _ _ _ (.int .i64 2) _ _ rfl rfl (tok_set HK.out _ _ _ _)) rfl ?_
    exact ⟨by rw [HR.out, if_neg hlt]; rfl, tok_below HB3.out (Nat.le_refl _) _ _ _ _⟩
end Go.Proofs.Ytidmonmkpkbhjaa
