import Derived.Test.YtoamkanofhhjfaaGreatDoorKESrc
import Derived.WalkMore
import Derived.Laws.ResultCell
import Derived.Lib.SmallJoins
/-
  The walks of strings.IndexByte for a line feed, and of the program's gapEnd.
-/
namespace Go.Proofs.YtoamkanofhhjfaaGreatDoor
open Go.RowKit

set_option maxHeartbeats 1000000 in
set_option maxRecDepth 100000 in
theorem liteindex_walk (s : ByteArray) (c : Int) (w : World) :
    Calls Tryz.prog 103 #[.string s, .int .u8 c] w fun e w' => e = .returned (.int .i64 (Lib.indexByte s.data.toList c.toNat.toUInt8)) ∧ w' = w := by
  go_enter Tryz.func103, Tryz.ntmps103
  go_wp2
  rw [run_callFunc_extern Tryz.func109 (by kernel_rfl) (by kernel_rfl) (by kernel_rfl) (e := Extern.BytealgIndexByte.indexByte) (by kernel_rfl), Lib.run_indexByteString]
  simp only [Result.andThen]
  rw [Oper.upon_value]
  go_wp2
  go_ret
  exact ⟨rfl, rfl⟩

namespace Lx
/-- How far the next line feed is, if there is one. -/
def feed : T → Option Nat
  | [] => none
  | c :: r => if c = 10 then some 0 else (feed r).map (· + 1)
theorem index_feed : ∀ l : T, Lib.indexByte l 10 = match feed l with | some n => (n : Int) | none => -1
  | [] => rfl
  | c :: r => by
    rw [Lib.indexByte, feed]
    by_cases hc : c = 10
    · subst hc; rfl
    · rw [if_neg hc, if_neg (by simpa using hc), index_feed r]
      cases feed r with
      | none => rfl
      | some n =>
        have : ((n : Int) == -1) = false := by rw [beq_eq_false_iff_ne]; omega
        simp [this]
theorem feed_none : ∀ l : T, feed l = none → skip true l = []
  | [], _ => rfl
  | c :: r, h => by
    rw [feed] at h
    rw [skip]
    split at h
    · cases h
    · rename_i hc
      rw [if_neg hc]
      exact feed_none r (by simpa using h)
theorem feed_some : ∀ (l : T) (n : Nat), feed l = some n → n < l.length ∧ skip true l = skip false (l.drop n)
  | [], _, h => by cases h
  | c :: r, n, h => by
    rw [feed] at h
    rw [skip]
    split at h
    · rename_i hc
      have : n = 0 := by simpa using h.symm
      subst this
      subst hc
      refine ⟨by simp, ?_⟩
      rw [if_pos rfl, List.drop_zero, skip, if_pos (by decide)]
    · rename_i hc
      rw [if_neg hc]
      cases hr : feed r with
      | none => rw [hr] at h; cases h
      | some k =>
        rw [hr] at h
        have : n = k + 1 := by simpa using h.symm
        subst this
        obtain ⟨h1, h2⟩ := feed_some r k hr
        exact ⟨by simp; omega, by rw [h2]; rfl⟩
/-- Where the gaps end: over a text. -/
abbrev gEnd (s : ByteArray) (i : Nat) : Nat := gapEnd (tx s) i
theorem gEnd_same {s : ByteArray} {i j : Nat} (h : skip false ((tx s).drop i) = skip false ((tx s).drop j)) : gEnd s i = gEnd s j := by
  unfold gEnd gapEnd; rw [h]
theorem gEnd_blank {s : ByteArray} {i : Nat} (h : hd isBlank ((tx s).drop i) = true) : i < s.size ∧ gEnd s i = gEnd s (i + 1) := by
  have hi : i < s.size := by
    rcases Nat.lt_or_ge i s.size with hi | hi
    · exact hi
    · rw [drop_end s i hi] at h; cases h
  refine ⟨hi, gEnd_same ?_⟩
  rw [drop_at s i hi] at h ⊢
  rw [skip, if_pos (show isBlank s[i] = true from h)]
theorem gEnd_hash {s : ByteArray} {i : Nat} (h : hd (fun c => c == 35) ((tx s).drop i) = true) : i < s.size ∧ skip false ((tx s).drop i) = skip true ((tx s).drop i) := by
  have hi : i < s.size := by
    rcases Nat.lt_or_ge i s.size with hi | hi
    · exact hi
    · rw [drop_end s i hi] at h; cases h
  refine ⟨hi, ?_⟩
  rw [drop_at s i hi] at h ⊢
  have h35 : s[i] = 35 := by simpa [hd] using h
  rw [h35, show skip false (35 :: (tx s).drop (i + 1)) = skip true ((tx s).drop (i + 1)) from by rw [skip, if_neg (by decide), if_pos rfl], show skip true (35 :: (tx s).drop (i + 1)) = skip true ((tx s).drop (i + 1)) from by rw [skip, if_neg (by decide)]]
theorem gEnd_stop {s : ByteArray} {i : Nat} (hi : i ≤ s.size) (h1 : hd isBlank ((tx s).drop i) = false) (h2 : hd (fun c => c == 35) ((tx s).drop i) = false) : gEnd s i = i := by
  have e : skip false ((tx s).drop i) = (tx s).drop i := by
    cases hx : (tx s).drop i with
    | nil => rfl
    | cons c r =>
      rw [hx] at h1 h2
      refine skip_gap ?_ r
      unfold isGap
      rw [show isBlank c = false from h1, show (c == 35) = false from h2]; rfl
  unfold gEnd gapEnd
  rw [e, List.length_drop, tx_len]; omega
theorem gEnd_none {s : ByteArray} {i : Nat} (h : hd (fun c => c == 35) ((tx s).drop i) = true) (hf : feed ((tx s).drop i) = none) : gEnd s i = s.size := by
  have := (gEnd_hash h).2
  unfold gEnd gapEnd
  rw [this, feed_none _ hf, tx_len]; rfl
theorem gEnd_some {s : ByteArray} {i n : Nat} (h : hd (fun c => c == 35) ((tx s).drop i) = true) (hf : feed ((tx s).drop i) = some n) : i + n < s.size ∧ 0 < n ∧ gEnd s i = gEnd s (i + n) := by
  obtain ⟨hi, h2⟩ := gEnd_hash h
  obtain ⟨h3, h4⟩ := feed_some _ n hf
  rw [List.length_drop, tx_len] at h3
  refine ⟨by omega, ?_, gEnd_same ?_⟩
  · rcases Nat.eq_zero_or_pos n with rfl | hn
    · exfalso
      rw [drop_at s i hi] at h hf
      have h35 : s[i] = 35 := by simpa [hd] using h
      rw [h35, feed, if_neg (by decide)] at hf
      cases hx : feed ((tx s).drop (i + 1)) with
      | none => rw [hx] at hf; cases hf
      | some k => rw [hx] at hf; simp at hf
    · exact hn
  · rw [h2, h4, List.drop_drop]
end Lx

set_option maxHeartbeats 1000000 in
set_option maxRecDepth 100000 in
theorem indexbyte_walk (s : ByteArray) (l : Lx.T) (hl : Lx.tx s = l) (w : World) :
    Calls Tryz.prog 94 #[.string s, .int .u8 10] w fun e w' => (∃ n : Nat, Hid (Lx.feed l = some n) ∧ n < l.length ∧ e = .returned (.int .i64 n) ∧ w = w') ∨ (Hid (Lx.feed l = none) ∧ e = .returned (.int .i64 (-1)) ∧ w = w') := by
  have HL := Lib.hid hl
  clear hl
  go_enter Tryz.func94, Tryz.ntmps94
  go_wp2_with fail
  refine (liteindex_walk _ _ w).mono ?_
  rintro e w' ⟨rfl, hw⟩
  subst hw
  have e1 : ((10 : Int).toNat.toUInt8) = 10 := rfl
  rw [e1, show s.data.toList = l from HL.out, Lx.index_feed]
  cases hf : Lx.feed l with
  | none =>
    have HF := Lib.hid hf
    clear hf
    go_wp2_with fail
    go_ret
    exact .inr ⟨HF, rfl, rfl⟩
  | some n =>
    have hn := (Lx.feed_some l n hf).1
    have HF := Lib.hid hf
    clear hf
    go_wp2_with fail
    go_ret
    exact .inl ⟨n, HF, hn, rfl, rfl⟩

set_option maxHeartbeats 2000000 in
set_option maxRecDepth 100000 in
theorem gapend_walk (B : Nat) (s : ByteArray) (hs : s.size < 9223372036854775807) (i : Nat) (hi2 : i ≤ s.size) (w : World) (h : Lx.Src B s w) :
    Calls Tryz.prog 85 #[.pointer (some ⟨B, 0, none⟩), .int .i64 i] w fun e w' => e = .returned (.int .i64 ((Lx.gEnd s i : Nat) : Int)) ∧ Below w.heap.size w w' := by
  have hB := h.lt
  have HS := Lib.hid h
  obtain ⟨z, hz⟩ : ∃ z, z = Lx.gEnd s i := ⟨_, rfl⟩
  rw [← hz]
  have HZ := Lib.hid hz
  clear h hz
  go_enter Tryz.func85, Tryz.ntmps85
  go_wp2_with fail
  go_step3
  go_wp2_with fail
  go_step3
  go_wp2_with fail
  go_loopw [1] (fun v wr => ∃ k : Nat, k ≤ s.size ∧ v = .int .i64 k ∧ Hid (z = Lx.gEnd s k) ∧ Below w.heap.size w wr) (fun v _ => s.size - (intOf v).toNat)
  case atStart => exact ⟨i, hi2, rfl, HZ, Below.refl _ _⟩
  case round =>
    obtain ⟨k, hk, rfl, hz, hb⟩ := hrel
    have hbs := hb.size
    go_wp2_with fail
    refine (has_walk Lx.mask_blank B s (by omega) k (by omega) wr (HS.out.below hb hB)).mono ?_
    rintro e w2 ⟨rfl, hb2⟩
    have hb3 := hb.trans (hb2.mono hb.size)
    cases hq : Lx.hd Lx.isBlank ((Lx.tx s).drop k) with
    | true =>
      obtain ⟨hlt, hr⟩ := Lx.gEnd_blank hq
      have HR : Hid (z = Lx.gEnd s (k + 1)) := by show _ = _; rw [hz.out, hr]
      clear hq hr hz
      go_wp2_with fail
      go_roundw
      case rel => exact ⟨k + 1, by omega, by go_num, HR, hb3⟩
      case measure => simp [intOf]; omega
    | false =>
      have hbs3 := hb3.size
      have HQ := Lib.hid hq
      clear hq
      go_wp2_with fail
      refine (has_walk Lx.mask_hash B s (by omega) k (by omega) w2 (HS.out.below hb3 hB)).mono ?_
      rintro e w4 ⟨rfl, hb4⟩
      have hb5 := hb3.trans (hb4.mono hb3.size)
      cases hq2 : Lx.hd (fun c => c == 35) ((Lx.tx s).drop k) with
      | false =>
        have hr := Lx.gEnd_stop hk HQ.out hq2
        have hzk : z = k := by rw [hz.out, hr]
        clear hq2 hr hz
        subst hzk
        go_wp2_with fail
        try rw [Exit.noGoto_ret]
        go_ret
        exact ⟨rfl, hb5⟩
      | true =>
        have hlt := (Lx.gEnd_hash hq2).1
        have HQ2 := Lib.hid hq2
        have c1 := (HS.out.below hb5 hB).text
        clear hq2
        go_wp2_with fail
        have e1 : Lx.tx (s.extract k s.size) = (Lx.tx s).drop k := by
          rw [Lx.extract_str, Lx.tx_str, List.take_of_length_le (by rw [List.length_drop, Lx.tx_len]; exact Nat.le_refl _)]
        refine (indexbyte_walk _ _ e1 w4).mono ?_
        rintro e w6 (⟨n, hf, hn, rfl, rfl⟩ | ⟨hf, rfl, rfl⟩)
        · obtain ⟨h1, h2, h3⟩ := Lx.gEnd_some HQ2.out hf.out
          have HR : Hid (z = Lx.gEnd s (k + n)) := by show _ = _; rw [hz.out, h3]
          clear hf h3 hz e1 hn
          go_wp2_with fail
          go_roundw
          case rel => exact ⟨k + n, by omega, by go_num, HR, hb5⟩
          case measure => simp [intOf]; omega
        · have hr := Lx.gEnd_none HQ2.out hf.out
          have hzk : z = s.size := by rw [hz.out, hr]
          clear hr hz hf e1
          subst hzk
          go_wp2_with fail
          try rw [Exit.noGoto_ret]
          go_ret
          exact ⟨rfl, hb5⟩
end Go.Proofs.YtoamkanofhhjfaaGreatDoor
/-
  The walks of the program's value, name, number, HasPrefix and token.
-/
namespace Go.Proofs.YtoamkanofhhjfaaGreatDoor
open Go.RowKit

namespace Lx
/-- A token as a value. -/
abbrev tokV (t : Tok) : Value := .agg #[.int .i64 (t.kind : Nat), .string (str t.text), .int .i64 (t.n : Nat), .int .i64 (t.at_ : Nat)]
theorem value_le (l : T) : value l < 10 ^ l.length ∨ l.all isDigit = false := by
  by_cases h : l.all isDigit = true
  · left
    have key : ∀ (l : T) (n k : Nat), l.all isDigit = true → n < 10 ^ k → l.foldl (fun n c => 10 * n + (c.toNat - 48)) n < 10 ^ (k + l.length) := by
      intro l
      induction l with
      | nil => intro n k _ h; simpa using h
      | cons c l ih =>
        intro n k h hn
        rw [List.all_cons, Bool.and_eq_true] at h
        have hc := (digit_iff c).1 h.1
        rw [List.foldl_cons, List.length_cons, show k + (l.length + 1) = (k + 1) + l.length by omega]
        refine ih _ _ h.2 ?_
        rw [Nat.pow_succ]; omega
    have := key l 0 0 h (by simp)
    rwa [Nat.zero_add] at this
  · right; simpa using h
end Lx

/-! ### A token as a result -/
theorem tok_size : (Tryz.prog.info? 60).map (·.size) = some 4 := by kernel_rfl
theorem tok_results {fn : Func} (hr : fn.results = #[.cell 4 60, .tmp 5]) (tmps : Array Value) (w : World) (g : Nat) (v0 v1 v2 v3 v : Value) (t : TypeId) (fr : Nat × Nat) (hp : tmps.getD 4 undef = .pointer (some ⟨g, 0, none⟩)) (hv : tmps.getD 5 undef = v) (hg : w.heap[g]? = some (.cells #[v0, v1, v2, v3] t fr)) :
    (results fn tmps).run Tryz.prog w = .ok (.tuple #[.agg #[v0, v1, v2, v3], v]) w := by
  rw [results_cell_tmp hr, hp, hv]
  simp [asAddr, run_loadVar_row w g t 60 #[v0, v1, v2, v3] fr _ hg Tryz.underlying60 rfl tok_size, Result.andThen]
theorem tok_set {w : World} {g : Nat} {a b c d : Value} {t : TypeId} {fr : Nat × Nat} (h : w.heap[g]? = some (.cells #[a, b, c, d] t fr)) (x y z u : Value) :
    ((((w.setCell ⟨g, 0, none⟩ x).setCell ⟨g, 1, none⟩ y).setCell ⟨g, 2, none⟩ z).setCell ⟨g, 3, none⟩ u).heap[g]? = some (.cells #[x, y, z, u] t fr) := by
  rw [Joins.block_setCell (Joins.block_setCell (Joins.block_setCell (Joins.block_setCell h x) y) z) u]; rfl
theorem tok_below {w0 w : World} {n g : Nat} (h : Below n w0 w) (hg : n ≤ g) (x y z u : Value) : Below n w0 ((((w.setCell ⟨g, 0, none⟩ x).setCell ⟨g, 1, none⟩ y).setCell ⟨g, 2, none⟩ z).setCell ⟨g, 3, none⟩ u) :=
  (((h.setCell (p := ⟨g, 0, none⟩) hg x).setCell (p := ⟨g, 1, none⟩) hg y).setCell (p := ⟨g, 2, none⟩) hg z).setCell (p := ⟨g, 3, none⟩) hg u
/-- The zero token, in its block. -/
abbrev tok0 : Obj := .cells #[.int .i64 0, .string ⟨#[]⟩, .int .i64 0, .int .i64 0] 60

theorem tok_facts {w : World} {g : Nat} (h : w.heap[g]? = some tok0) :
    (w.cell? ⟨g, 0, none⟩ = some (.int .i64 0) ∧ w.cell? ⟨g, 1, none⟩ = some (.string ⟨#[]⟩) ∧ w.cell? ⟨g, 2, none⟩ = some (.int .i64 0) ∧ w.cell? ⟨g, 3, none⟩ = some (.int .i64 0)) ∧
    w.frozen? ⟨g, 0, none⟩ = false ∧ w.frozen? ⟨g, 1, none⟩ = false ∧ w.frozen? ⟨g, 2, none⟩ = false ∧ w.frozen? ⟨g, 3, none⟩ = false :=
  ⟨⟨Joins.cell_of_block h 0, Joins.cell_of_block h 1, Joins.cell_of_block h 2, Joins.cell_of_block h 3⟩, Joins.unfrozen_of_block h 0, Joins.unfrozen_of_block h 1, Joins.unfrozen_of_block h 2, Joins.unfrozen_of_block h 3⟩

namespace Lx
/-- What a function answers that returns a token and an error. -/
def TokOut (x : Tok × Nat) (w : World) (e : Ending) (w' : World) : Prop :=
  e = .returned (.tuple #[tokV x.1, .int .i64 (x.2 : Nat)]) ∧ Below w.heap.size w w'
/-- No token, at an offset. -/
abbrev noTok (i : Nat) : Tok := ⟨0, [], 0, i⟩
/-- What next says, at an offset. -/
def res (x : Nx) (i : Nat) : Tok × Nat := match x with | .tok k t n => (⟨k, t, n, i⟩, 0) | .err e => (noTok i, e)
def nameR (s : ByteArray) (i : Nat) : Tok × Nat := if run isWord s i ≤ 24 then (⟨1, ((tx s).drop i).take (run isWord s i), 0, i⟩, 0) else (noTok i, 2)
def numR (s : ByteArray) (i : Nat) : Tok × Nat :=
  if run isDigit s i ≤ 7 ∧ hd (fun c => isLetter c || c == 95) ((tx s).drop (i + run isDigit s i)) = false
  then (⟨2, ((tx s).drop i).take (run isDigit s i), value (((tx s).drop i).take (run isDigit s i)), i⟩, 0) else (noTok i, 4)
theorem take_run (p : UInt8 → Bool) (s : ByteArray) (i : Nat) : ((tx s).drop i).take (run p s i) = ((tx s).drop i).takeWhile p := by
  unfold run
  have := List.takeWhile_append_dropWhile (p := p) (l := (tx s).drop i)
  generalize ((tx s).drop i).takeWhile p = a at this ⊢
  rw [← this, List.take_left]
theorem drop_run (p : UInt8 → Bool) (s : ByteArray) (i : Nat) : (tx s).drop (i + run p s i) = ((tx s).drop i).dropWhile p := by
  rw [← List.drop_drop]
  unfold run
  have := List.takeWhile_append_dropWhile (p := p) (l := (tx s).drop i)
  generalize ((tx s).drop i).takeWhile p = a at this ⊢
  generalize ((tx s).drop i).dropWhile p = b at this ⊢
  rw [← this, List.drop_left]
theorem name_res {s : ByteArray} {i : Nat} {c : UInt8} {r : T} (e : (tx s).drop i = c :: r) (h : isLetter c = true) : res (next c r) i = nameR s i := by
  unfold nameR
  rw [take_run]
  unfold run
  rw [e, List.takeWhile_cons, letter_word h]
  unfold next
  rw [if_pos h]
  simp only [if_true]
  split <;> rfl
theorem num_res {s : ByteArray} {i : Nat} {c : UInt8} {r : T} (e : (tx s).drop i = c :: r) (h : isDigit c = true) : res (next c r) i = numR s i := by
  unfold numR
  rw [take_run, drop_run]
  unfold run
  rw [e, List.takeWhile_cons, List.dropWhile_cons, h]
  unfold next
  rw [if_neg (by rw [digit_noletter h]; decide), if_pos h]
  simp only [if_true]
  have hh : headWord (r.dropWhile isDigit) = hd (fun c => isLetter c || c == 95) (r.dropWhile isDigit) := by
    have h2 := head_drop isDigit r
    cases hx : r.dropWhile isDigit with
    | nil => rfl
    | cons d y =>
      rw [hx] at h2
      have h3 : isDigit d = false := by simpa [noHead] using h2
      simp [headWord, hd, isWord, h3]
  rw [hh]
  split <;> rfl
end Lx

set_option maxHeartbeats 2000000 in
set_option maxRecDepth 100000 in
theorem name_walk (B : Nat) (s : ByteArray) (hs : s.size < 9223372036854775807) (i : Nat) (hi2 : i ≤ s.size) (w : World) (h : Lx.Src B s w) :
    Calls Tryz.prog 95 #[.pointer (some ⟨B, 0, none⟩), .int .i64 i] w (Lx.TokOut (Lx.nameR s i) w) := by
  have hB := h.lt
  have HS := Lib.hid h
  have hrl := Lx.run_le Lx.isWord s i hi2
  have ha : Below w.heap.size w (w.alloc tok0) := (Below.refl _ _).alloc (Nat.le_refl _) _
  have HK0 := Lib.hid (heap_alloc_new w tok0)
  clear h
  obtain ⟨R, hR⟩ : ∃ R, R = Lx.nameR s i := ⟨_, rfl⟩
  rw [← hR]
  unfold Lx.nameR at hR
  obtain ⟨q, hq⟩ : ∃ q, q = Lx.run Lx.isWord s i := ⟨_, rfl⟩
  rw [← hq] at hrl hR
  have HR := Lib.hid hR
  clear hR
  have HQ := Lib.hid hq
  clear hq
  go_enter Tryz.func95, Tryz.ntmps95
  go_wp2_with fail
  refine (runend_walk Lx.mask_word B s hs i hi2 _ (HS.out.below ha hB)).mono ?_
  rintro e w2 ⟨rfl, hb2⟩
  rw [← HQ.out]
  have c1 := ((HS.out.below ha hB).below hb2 (by simp; omega)).text
  have hk := (hb2.block w.heap.size (by simp)).trans HK0.out
  have hb3 := ha.trans (hb2.mono ha.size)
  have g0 := Joins.cell_of_block hk 0
  have g1 := Joins.cell_of_block hk 1
  have g2 := Joins.cell_of_block hk 2
  have g3 := Joins.cell_of_block hk 3
  have f0 := Joins.unfrozen_of_block hk 0
  have f1 := Joins.unfrozen_of_block hk 1
  have f2 := Joins.unfrozen_of_block hk 2
  have f3 := Joins.unfrozen_of_block hk 3
  have HK := Lib.hid hk
  have HB3 := Lib.hid hb3
  clear hk hb2 hb3 ha
  by_cases hlt : q ≤ 24
  · go_wp2_with fail
    refine bodyPost_ret (tok_results rfl _ _ w.heap.size _ _ _ _ (.int .i64 0) _ _ rfl rfl (tok_set HK.out _ _ _ _)) rfl ?_
    refine ⟨?_, tok_below HB3.out (Nat.le_refl _) _ _ _ _⟩
    rw [HR.out, if_pos hlt, Lx.extract_str, show i + q - i = q by omega]; rfl
  · go_wp2_with fail
    refine bodyPost_ret (tok_results rfl _ _ w.heap.size _ _ _ _ (.int .i64 2) _ _ rfl rfl (tok_set HK.out _ _ _ _)) rfl ?_
    exact ⟨by rw [HR.out, if_neg hlt]; rfl, tok_below HB3.out (Nat.le_refl _) _ _ _ _⟩
end Go.Proofs.YtoamkanofhhjfaaGreatDoor
/-
  The walks of the program's value, number and HasPrefix.
-/
namespace Go.Proofs.YtoamkanofhhjfaaGreatDoor
open Go.RowKit

namespace Lx
theorem all_mem {p : UInt8 → Bool} {l : T} (h : l.all p = true) (k : Nat) (hk : k < l.length) : p l[k] = true :=
  List.all_eq_true.1 h _ (List.getElem_mem _)
theorem tx_get (s : ByteArray) (k : Nat) (h : k < s.size) : (tx s)[k]'(by rw [tx_len]; exact h) = s[k] := by rw [Array.getElem_toList]; rfl
theorem take_succ (s : ByteArray) (k : Nat) (h : k < s.size) : (tx s).take (k + 1) = (tx s).take k ++ [s[k]] := by
  rw [List.take_succ_eq_append_getElem (by rw [tx_len]; exact h), tx_get s k h]
theorem value_step {u : ByteArray} (hd : (tx u).all isDigit = true) (hl : u.size ≤ 7) (k : Nat) (hk : k < u.size) :
    48 ≤ u[k].toNat ∧ u[k].toNat ≤ 57 ∧ value ((tx u).take (k + 1)) = 10 * value ((tx u).take k) + (u[k].toNat - 48) ∧ value ((tx u).take k) < 10000000 := by
  have h1 := (digit_iff u[k]).1 (by rw [← tx_get u k hk]; exact all_mem hd k _)
  refine ⟨h1.1, h1.2, by rw [take_succ u k hk, value_snoc], ?_⟩
  rcases value_le ((tx u).take k) with h | h
  · refine Nat.lt_of_lt_of_le h ?_
    rw [List.length_take, tx_len]
    exact Nat.pow_le_pow_right (by decide) (show min k u.size ≤ 7 by omega)
  · exfalso
    have : ((tx u).take k).all isDigit = true := by
      rw [List.all_eq_true] at hd ⊢
      exact fun x hx => hd x (List.mem_of_mem_take hx)
    rw [this] at h; cases h
end Lx

set_option maxHeartbeats 1000000 in
set_option maxRecDepth 100000 in
theorem value_walk (u : ByteArray) (hd : (Lx.tx u).all Lx.isDigit = true) (hl : u.size ≤ 7) (w : World) :
    Calls Tryz.prog 105 #[.string u] w fun e w' => e = .returned (.int .i64 ((Lx.value (Lx.tx u) : Nat) : Int)) ∧ w = w' := by
  have HK := Lib.hid (fun k hk => Lx.value_step hd hl k hk)
  clear hd
  obtain ⟨z, hz⟩ : ∃ z, z = Lx.value (Lx.tx u) := ⟨_, rfl⟩
  rw [← hz]
  have HZ := Lib.hid hz
  clear hz
  go_enter Tryz.func105, Tryz.ntmps105
  go_wp2_with fail
  go_loop [3, 7] (fun v i => ∃ k n : Nat, k ≤ u.size ∧ i = .int .i64 k ∧ v = .int .i64 (n : Nat) ∧ Hid (n = Lx.value ((Lx.tx u).take k))) (fun _ i => u.size - (intOf i).toNat)
  case atStart => exact ⟨0, 0, Nat.zero_le _, rfl, rfl, rfl⟩
  case round =>
    obtain ⟨k, n, hk, rfl, rfl, hn⟩ := hrel
    by_cases hlt : k < u.size
    · obtain ⟨h1, h2, h3, h4⟩ := HK.out k hlt
      rw [← hn.out] at h3 h4
      obtain ⟨d, hd⟩ : ∃ d, d = u[k].toNat := ⟨_, rfl⟩
      rw [← hd] at h1 h2 h3
      have HN : Hid (10 * n + (d - 48) = Lx.value ((Lx.tx u).take (k + 1))) := h3.symm
      clear h3 hn
      go_wp2_with fail
      go_round
      case rel => exact ⟨k + 1, 10 * n + (d - 48), by omega, by go_num, by congr 1; omega, HN⟩
      case measure => simp [intOf]; omega
    · have hke : k = u.size := by omega
      subst hke
      have hzn : z = n := by rw [HZ.out, hn.out, List.take_of_length_le (by rw [Lx.tx_len]; exact Nat.le_refl _)]
      clear hn
      subst hzn
      go_wp2_with fail
      go_ret
      exact ⟨rfl, rfl⟩

theorem Lx.prefix_eq (u : ByteArray) (h : 1 ≤ u.size) : ((u.extract 0 1).toList == [61]) = Lx.headEq (Lx.tx u) := by
  have := Lib.hasPrefix_raw u ⟨#[61]⟩
  rw [decide_eq_true (show (⟨#[61]⟩ : ByteArray).size ≤ u.size from h), Bool.true_and] at this
  rw [Lib.toList_data ⟨#[61]⟩] at this
  refine Eq.trans this ?_
  show List.isPrefixOf [61] (Lx.tx u) = Lx.headEq (Lx.tx u)
  generalize Lx.tx u = l
  cases l with
  | nil => rfl
  | cons c r =>
    show List.isPrefixOf [61] (c :: r) = (c == 61)
    rw [List.isPrefixOf, List.isPrefixOf, Bool.and_true, Bool.beq_comm]

set_option maxHeartbeats 1000000 in
set_option maxRecDepth 100000 in
theorem liteprefix_walk (u : ByteArray) (w : World) :
    Calls Tryz.prog 106 #[.string u, .string ⟨#[61]⟩] w fun e w' => e = .returned (.bool (Lx.headEq (Lx.tx u))) ∧ w = w' := by
  by_cases hz : 1 ≤ u.size
  · have HP := Lib.hid (Lx.prefix_eq u hz)
    have hzi : (1 : Int) ≤ (u.size : Int) := by omega
    go_enter Tryz.func106, Tryz.ntmps106
    go_wp2_with fail
    go_ret
    exact ⟨Lx.ret_bool HP.out, rfl⟩
  · have hzi : ¬ (1 : Int) ≤ (u.size : Int) := by omega
    go_enter Tryz.func106, Tryz.ntmps106
    go_wp2_with fail
    go_ret
    refine ⟨Lx.ret_bool ?_, rfl⟩
    have : Lx.tx u = [] := List.length_eq_zero_iff.1 (by rw [Lx.tx_len]; omega)
    rw [this]; rfl
set_option maxHeartbeats 1000000 in
set_option maxRecDepth 100000 in
theorem prefix_walk (u : ByteArray) (l : Lx.T) (hl : Lx.tx u = l) (w : World) :
    Calls Tryz.prog 97 #[.string u, .string ⟨#[61]⟩] w fun e w' => e = .returned (.bool (Lx.headEq l)) ∧ w = w' := by
  subst hl
  go_enter Tryz.func97, Tryz.ntmps97
  go_wp2_with fail
  refine (liteprefix_walk u w).mono ?_
  rintro e w' ⟨rfl, rfl⟩
  go_wp2_with fail
  go_ret
  exact ⟨rfl, rfl⟩

set_option maxHeartbeats 2000000 in
set_option maxRecDepth 100000 in
theorem number_walk (B : Nat) (s : ByteArray) (hs : s.size < 9223372036854775807) (i : Nat) (hi2 : i ≤ s.size) (w : World) (h : Lx.Src B s w) :
    Calls Tryz.prog 96 #[.pointer (some ⟨B, 0, none⟩), .int .i64 i] w (Lx.TokOut (Lx.numR s i) w) := by
  have hB := h.lt
  have HS := Lib.hid h
  have hrl := Lx.run_le Lx.isDigit s i hi2
  have hu : (((Lx.tx s).drop i).take (Lx.run Lx.isDigit s i)).all Lx.isDigit = true ∧ (((Lx.tx s).drop i).take (Lx.run Lx.isDigit s i)).length = Lx.run Lx.isDigit s i := by
    rw [Lx.take_run]
    exact ⟨Lx.all_take _ _, rfl⟩
  have ha : Below w.heap.size w (w.alloc tok0) := (Below.refl _ _).alloc (Nat.le_refl _) _
  have HK0 := Lib.hid (heap_alloc_new w tok0)
  clear h
  obtain ⟨R, hR⟩ : ∃ R, R = Lx.numR s i := ⟨_, rfl⟩
  rw [← hR]
  unfold Lx.numR at hR
  obtain ⟨q, hq⟩ : ∃ q, q = Lx.run Lx.isDigit s i := ⟨_, rfl⟩
  rw [← hq] at hrl hR hu
  obtain ⟨l, hl⟩ : ∃ l, l = ((Lx.tx s).drop i).take q := ⟨_, rfl⟩
  rw [← hl] at hR hu
  have HL := Lib.hid hl
  have HR := Lib.hid hR
  have HQ := Lib.hid hq
  have HU := Lib.hid hu
  clear hq hR hl hu
  go_enter Tryz.func96, Tryz.ntmps96
  go_wp2_with fail
  refine (runend_walk Lx.mask_digit B s hs i hi2 _ (HS.out.below ha hB)).mono ?_
  rintro e w2 ⟨rfl, hb2⟩
  rw [← HQ.out]
  have hk := (hb2.block w.heap.size (by simp)).trans HK0.out
  have hb3 := ha.trans (hb2.mono ha.size)
  have HK := Lib.hid hk
  have HB3 := Lib.hid hb3
  clear hk hb2 hb3 ha
  by_cases hlt : q ≤ 7
  · have hzs := HB3.out.size
    go_wp2_with fail
    refine (has_walk Lx.mask_tail B s (by omega) (i + q) (by omega) w2 (HS.out.below HB3.out hB)).mono ?_
    rintro e w4 ⟨rfl, hb4⟩
    have HB5 := Lib.hid (HB3.out.trans (hb4.mono HB3.out.size))
    have hk := (hb4.block w.heap.size (Array.getElem?_eq_some_iff.1 HK.out).1).trans HK.out
    have HK2 := Lib.hid hk
    have c1 := (HS.out.below HB5.out hB).text
    have g0 := Joins.cell_of_block hk 0
    have g1 := Joins.cell_of_block hk 1
    have g2 := Joins.cell_of_block hk 2
    have g3 := Joins.cell_of_block hk 3
    have f0 := Joins.unfrozen_of_block hk 0
    have f1 := Joins.unfrozen_of_block hk 1
    have f2 := Joins.unfrozen_of_block hk 2
    have f3 := Joins.unfrozen_of_block hk 3
    clear hk hb4
    cases ht : Lx.hd (fun c => Lx.isLetter c || c == 95) ((Lx.tx s).drop (i + q)) with
    | true =>
      have HT := Lib.hid ht
      clear ht
      go_wp2_with fail
      refine bodyPost_ret (tok_results rfl _ _ w.heap.size _ _ _ _ (.int .i64 4) _ _ rfl rfl (tok_set HK2.out _ _ _ _)) rfl ?_
      exact ⟨by rw [HR.out, if_neg (by rw [HT.out]; simp)]; rfl, tok_below HB5.out (Nat.le_refl _) _ _ _ _⟩
    | false =>
      have HT := Lib.hid ht
      clear ht
      have e1 : s.extract i (i + q) = Lx.str l := by rw [Lx.extract_str, show i + q - i = q by omega, HL.out]
      have HE := Lib.hid e1
      have hsz : (Lx.str l).size ≤ 7 := by rw [Lx.str_size, HU.out.2]; omega
      have had : (Lx.tx (Lx.str l)).all Lx.isDigit = true := by rw [Lx.tx_str]; exact HU.out.1
      have HAD := Lib.hid had
      clear e1 had
      go_wp2_with fail
      rw [HE.out]
      refine (value_walk (Lx.str l) HAD.out hsz w4).mono ?_
      rintro e w5 ⟨rfl, rfl⟩
      rw [Lx.tx_str]
      go_wp2_with fail
      refine bodyPost_ret (tok_results rfl _ _ w.heap.size _ _ _ _ (.int .i64 0) _ _ rfl rfl (tok_set HK2.out _ _ _ _)) rfl ?_
      exact ⟨by rw [HR.out, if_pos ⟨hlt, HT.out⟩]; rfl, tok_below HB5.out (Nat.le_refl _) _ _ _ _⟩
  · have hk := HK.out
    have g0 := Joins.cell_of_block hk 0
    have g1 := Joins.cell_of_block hk 1
    have g2 := Joins.cell_of_block hk 2
    have g3 := Joins.cell_of_block hk 3
    have f0 := Joins.unfrozen_of_block hk 0
    have f1 := Joins.unfrozen_of_block hk 1
    have f2 := Joins.unfrozen_of_block hk 2
    have f3 := Joins.unfrozen_of_block hk 3
    clear hk
    go_wp2_with fail
    refine bodyPost_ret (tok_results rfl _ _ w.heap.size _ _ _ _ (.int .i64 4) _ _ rfl rfl (tok_set HK.out _ _ _ _)) rfl ?_
    exact ⟨by rw [HR.out, if_neg (fun h => hlt h.1)]; rfl, tok_below HB3.out (Nat.le_refl _) _ _ _ _⟩
end Go.Proofs.YtoamkanofhhjfaaGreatDoor
