import Derived.Test.YtoamkanofhhjfaaGreatDoorKETok2
import Derived.Maps.AppendAt
import Derived.OwnWalkIn
/-
  The tokens of a text and its error as one list; how they come one after the other.
-/
namespace Go.Proofs.YtoamkanofhhjfaaGreatDoor.Lx

/-- The tokens up to the end or the first error, and this. -/
def items (x : T) (a : Nat) : List (Tok × Nat) :=
  (lex x a).1.map (fun t => (t, 0)) ++ (match (lex x a).2 with | none => [] | some e => [(noTok e.2, e.1)])
theorem lex_skip (x : T) (a : Nat) : lex x a = lex (skip false x) (a + (x.length - (skip false x).length)) := by
  rcases lex_cases x with h | ⟨p, c, r, e, rfl, h1, h2, hc, hn⟩ | ⟨p, t, y, k, n, rfl, h1, h2, hg, hs⟩
  · rw [lex_done h, h]
    rw [lex_done (by rfl)]
  · rw [lex_err (h2 c r hc) hn, h2 c r hc]
    have := lex_err (p := []) (c := c) (r := r) (by rw [List.nil_append]; exact skip_gap hc r) hn (a + ((p ++ c :: r).length - (c :: r).length))
    rw [List.nil_append] at this
    rw [this, List.length_append, Nat.add_sub_cancel]
    rfl
  · have hk := skip_tok h2 hg y
    rw [lex_tok hk hg hs, hk]
    obtain ⟨c, r, e, hc⟩ := hg.head
    have := lex_tok (p := []) (t := t) (x := y) (by rw [List.nil_append, e]; exact skip_gap hc _) hg hs (a + ((p ++ (t ++ y)).length - (t ++ y).length))
    rw [List.nil_append] at this
    rw [this, show (p ++ (t ++ y)).length = p.length + (t ++ y).length from List.length_append, Nat.add_sub_cancel]
    rfl
theorem items_skip (s : ByteArray) (j : Nat) (hj : j ≤ s.size) : items ((tx s).drop j) j = items ((tx s).drop (gEnd s j)) (gEnd s j) := by
  obtain ⟨h1, h2, h3⟩ := gapEnd_drop (tx s) j (by rw [tx_len]; exact hj)
  unfold items
  rw [lex_skip ((tx s).drop j) j, h1]
  have : j + (((tx s).drop j).length - (skip false ((tx s).drop j)).length) = gEnd s j := by
    show _ = gapEnd (tx s) j
    rw [← h1]
    simp only [List.length_drop]
    omega
  rw [this]
theorem gEnd_le (s : ByteArray) (j : Nat) (hj : j ≤ s.size) : j ≤ gEnd s j ∧ gEnd s j ≤ s.size := by
  obtain ⟨h1, h2, h3⟩ := gapEnd_drop (tx s) j (by rw [tx_len]; exact hj)
  exact ⟨h2, by rw [tx_len] at h3; exact h3⟩
theorem items_end (s : ByteArray) (j : Nat) (hj : s.size ≤ j) : items ((tx s).drop j) j = [] := by
  unfold items
  rw [drop_end s j hj, lex_done (by rfl)]
  rfl
/-- Where the gaps end, none goes on. -/
theorem gEnd_head (s : ByteArray) (j : Nat) (hj : j ≤ s.size) (h : gEnd s j < s.size) : isGap s[gEnd s j] = false := by
  obtain ⟨h1, h2, h3⟩ := gapEnd_drop (tx s) j (by rw [tx_len]; exact hj)
  have := drop_at s (gEnd s j) h
  rw [h1] at this
  exact skip_head _ _ _ _ this
/-- At a byte that is no gap: what comes first, and what behind it. -/
theorem items_step (s : ByteArray) (i : Nat) (hi : i < s.size) (hg : isGap s[i] = false) :
    (∃ e, res (next s[i] ((tx s).drop (i + 1))) i = (noTok i, e) ∧ e ≠ 0 ∧ items ((tx s).drop i) i = [(noTok i, e)]) ∨
    (∃ t : Tok, res (next s[i] ((tx s).drop (i + 1))) i = (t, 0) ∧ t.at_ = i ∧ 0 < t.text.length ∧ i + t.text.length ≤ s.size ∧ items ((tx s).drop i) i = (t, 0) :: items ((tx s).drop (i + t.text.length)) (i + t.text.length)) := by
  have hd := drop_at s i hi
  cases hn : next s[i] ((tx s).drop (i + 1)) with
  | err e =>
    left
    have h := lex_err (p := []) (by rw [List.nil_append]; exact skip_gap hg ((tx s).drop (i + 1))) hn i
    rw [List.nil_append, ← hd] at h
    have hx := lex_errAt _ ((tx s).drop i) (Nat.le_refl _) i (e, i) (by rw [h]; rfl)
    refine ⟨e, rfl, by have := hx.2.2; simp only at this; omega, ?_⟩
    unfold items
    rw [h]; rfl
  | tok k t n =>
    right
    obtain ⟨x, e, hgd, hst⟩ := next_tok hn
    have h := lex_tok (p := []) (t := t) (x := x) (by rw [List.nil_append, ← e]; exact skip_gap hg _) hgd hst i
    rw [List.nil_append, ← e, ← hd] at h
    have hl : i + t.length ≤ s.size := by
      have := congrArg List.length e
      rw [← hd, List.length_append, List.length_drop, tx_len] at this; omega
    have hx : (tx s).drop (i + t.length) = x := by
      rw [← List.drop_drop, hd, e, List.drop_left]
    refine ⟨⟨k, t, n, i⟩, rfl, rfl, hgd.pos, hl, ?_⟩
    show _ = _ :: items ((tx s).drop (i + t.length)) (i + t.length)
    unfold items
    rw [h, hx]
    rfl
/-- The same, with one letter for what comes first. -/
theorem items_next (s : ByteArray) (i : Nat) (hi : i < s.size) (hg : isGap s[i] = false) (R : Tok × Nat) (hR : R = res (next s[i] ((tx s).drop (i + 1))) i) :
    (R.2 ≠ 0 ∧ items ((tx s).drop i) i = [R]) ∨
    (R.2 = 0 ∧ 0 < R.1.text.length ∧ i + R.1.text.length ≤ s.size ∧ items ((tx s).drop i) i = R :: items ((tx s).drop (i + R.1.text.length)) (i + R.1.text.length)) := by
  rcases items_step s i hi hg with ⟨e, h1, h2, h3⟩ | ⟨t, h1, h2, h3, h4, h5⟩
  · rw [h1] at hR; subst hR; exact .inl ⟨h2, h3⟩
  · rw [h1] at hR; subst hR; exact .inr ⟨rfl, h3, h4, h5⟩
theorem items_len (s : ByteArray) : (items (tx s) 0).length ≤ s.size + 1 := by
  unfold items
  have := (lex_good _ (tx s) (Nat.le_refl _) 0).2
  rw [tx_len] at this
  rw [List.length_append, List.length_map]
  have : ∀ o : Option (Nat × Nat), (match o with | none => [] | some e => [(noTok e.2, e.1)] : List (Tok × Nat)).length ≤ 1 := by
    intro o; cases o <;> simp
  have := this (lex (tx s) 0).2
  omega
end Go.Proofs.YtoamkanofhhjfaaGreatDoor.Lx
/-
  Lists of tokens in memory: a slice of them that a call owns; append of one token onto it.
-/
namespace Go.Proofs.YtoamkanofhhjfaaGreatDoor
open Go.RowKit

namespace Lx
/-- What the body of the range may not touch: texts in variables, sources, and tokens in blocks of their own. -/
def Kept (A B : World) : Prop := ∀ (k : Nat) (cs : Array Value) (t : TypeId) (fr : Nat × Nat), A.heap[k]? = some (.cells cs t fr) → (t = 9 ∨ t = 123 ∨ (t = 60 ∧ cs.size = 4)) → B.heap[k]? = some (.cells cs t fr)
theorem Kept.trans {A B C : World} (h : Kept A B) (k : Kept B C) : Kept A C := fun i cs t fr h1 h2 => k i cs t fr (h i cs t fr h1 h2) h2
/-- The cells of a token, and of a list of tokens. -/
def cellsT (t : Tok) : List Value := [.int .i64 (t.kind : Nat), .string (str t.text), .int .i64 (t.n : Nat), .int .i64 (t.at_ : Nat)]
def cellsL (l : List Tok) : List Value := l.flatMap cellsT
theorem cellsL_len (l : List Tok) : (cellsL l).length = l.length * 4 := by
  induction l with
  | nil => rfl
  | cons t l ih => rw [cellsL, List.flatMap_cons, List.length_append, ← cellsL, ih]; simp [cellsT]; omega
theorem cellsL_snoc (l : List Tok) (t : Tok) : cellsL (l ++ [t]) = cellsL l ++ cellsT t := by
  unfold cellsL; rw [List.flatMap_append]; simp
theorem cellsL_get : ∀ (l : List Tok) (i : Nat) (t : Tok), l[i]? = some t → ∀ j, j < 4 → (cellsL l)[i * 4 + j]? = (cellsT t)[j]?
  | [], i, t, h, j, hj => by simp at h
  | u :: l, 0, t, h, j, hj => by
    have : u = t := by simpa using h
    subst this
    rw [cellsL, List.flatMap_cons, List.getElem?_append_left (by simp [cellsT]; omega), Nat.zero_mul, Nat.zero_add]
  | u :: l, i + 1, t, h, j, hj => by
    rw [cellsL, List.flatMap_cons, List.getElem?_append_right (by simp [cellsT]; omega), show (i + 1) * 4 + j - (cellsT u).length = i * 4 + j by simp [cellsT]; omega]
    exact cellsL_get l i t (by simpa using h) j hj
/-- A slice of tokens that the call owns. -/
def OwnT (base : Nat) (l : List Tok) (v : Value) (w : World) : Prop := w.ownsRow base 60 4 v l.length (cellsL l) ∧ (l = [] → v = .slice none 0 0)
theorem OwnT.nil (w : World) (base : Nat) : OwnT base [] (.slice none 0 0) w := ⟨World.ownsRow_nil _ _ _ _, fun _ => rfl⟩
theorem own_below {w w' : World} {base : Nat} {e : TypeId} {size : Nat} {v : Value} {n : Nat} {xs : List Value} (h : w.ownsRow base e size v n xs) (hb : Below w.heap.size w w') : w'.ownsRow base e size v n xs := by
  refine ⟨h.1, ?_⟩
  rcases h.2 with hn | ⟨g, cap, cur, rfl, hb', hg, rest⟩
  · exact .inl hn
  · exact .inr ⟨g, cap, cur, rfl, hb', (hb.block g (Array.getElem?_eq_some_iff.1 hg).1).trans hg, rest⟩
theorem OwnT.below {base : Nat} {l : List Tok} {v : Value} {w w' : World} (h : OwnT base l v w) (hb : Below w.heap.size w w') : OwnT base l v w' := ⟨own_below h.1 hb, h.2⟩
theorem OwnT.set {base : Nat} {l : List Tok} {v : Value} {w : World} (h : OwnT base l v w) {a : Addr} (ha : a.block < base) (u : Value) : OwnT base l v (w.setCell a u) := ⟨ownsRow_setCell_below h.1 ha u, h.2⟩
end Lx

theorem token_info : (Tryz.prog.info? 60).map (fun i => (i.zero, i.size, i.bytes)) = some (some (.agg #[.int .i64 0, .string ⟨#[]⟩, .int .i64 0, .int .i64 0]), 4, 40) := by kernel_rfl

set_option maxRecDepth 100000 in
theorem run_append_tok (w : World) (base : Nat) (l : List Lx.Tok) (v : Value) (hown : Lx.OwnT base l v w) (t : Lx.Tok) (B : Nat) (fr : Nat × Nat) (ty : TypeId)
    (hB : w.heap[B]? = some (.cells #[.int .i64 (t.kind : Nat), .string (Lx.str t.text), .int .i64 (t.n : Nat), .int .i64 (t.at_ : Nat)] ty fr)) (hl : l.length < 1000000) (hbase : base ≤ w.heap.size) :
    ∃ v' w', (∀ u, (Builtin.append_ #[49, 49] u #[v, .slice (some ⟨B, 0, none⟩) 1 1]).run Tryz.prog w = .ok v' w') ∧ Lx.OwnT base (l ++ [t]) v' w' ∧ w.grownBy w' v.ownBlock ∧ Lx.Kept w w' ∧ (∃ g c, v' = .slice (some ⟨g, 0, none⟩) (l.length + 1) c) := by
  obtain ⟨i, hi, hz0, hz1, hz2⟩ := info_parts token_info
  obtain ⟨hrow, hnil⟩ := hown
  have hnews : ∀ j u, (Lx.cellsT t)[j]? = some u → w.cell? ((⟨B, 0, none⟩ : Addr).add j) = some u := by
    intro j u hu
    have hadd : (⟨B, 0, none⟩ : Addr).add j = ⟨B, j, none⟩ := by unfold Addr.add; split <;> simp_all
    rw [hadd, cell_of_row w B j _ _ _ hB, ← hu]
    simp [Lx.cellsT]
  have h1 : ∀ u ∈ Lx.cellsT t, u.oneCell' = true := by
    intro u hu
    simp only [Lx.cellsT, List.mem_cons, List.not_mem_nil, or_false] at hu
    rcases hu with rfl | rfl | rfl | rfl <;> rfl
  have key : ∀ u, ∃ v' w', (Builtin.append_ #[49, 49] u #[v, .slice (some ⟨B, 0, none⟩) 1 1]).run Tryz.prog w = .ok v' w' ∧ w'.ownsRow base 60 4 v' (l.length + 1) (Lx.cellsL l ++ Lx.cellsT t) ∧ w.grownBy w' v.ownBlock ∧
      (v' = .slice none 0 0 ↔ v = .slice none 0 0 ∧ 1 = 0) ∧ (v'.ownBlock = v.ownBlock ∨ v'.ownBlock = some w.heap.size) := fun u =>
    run_append_own_at (P := Tryz.prog) w base 49 u 60 i _ 4 40 Tryz.underlying49 hi hz0 hz1 hz2 rfl (by decide) v l.length (Lx.cellsL l) hrow ⟨B, 0, none⟩ 1 1 (Lx.cellsT t) rfl hnews h1 (by unfold maxLen; omega) (by omega) hbase
  obtain ⟨v', w', hr, h2, h3, h4, h5⟩ := key 49
  have hlast : (l ++ [t]).length = l.length + 1 := by simp
  obtain ⟨g', c', hg'⟩ : ∃ g c, v' = .slice (some ⟨g, 0, none⟩) (l.length + 1) c := by
    rcases h2.2 with ⟨_, h⟩ | ⟨g, c, _, h, _⟩
    · omega
    · exact ⟨g, c, h⟩
  refine ⟨v', w', fun u => ?_, ⟨?_, fun h => absurd h (by simp)⟩, h3, ?_, ⟨g', c', hg'⟩⟩
  · rw [← hr]; rfl
  · rw [hlast, Lx.cellsL_snoc]; exact h2
  · -- what is kept
    rcases hrow.2 with ⟨rfl, _⟩ | ⟨g, cap, cur, rfl, hbg, hg, hnc, hcm, hcs, htake⟩
    · intro k cs t2 fr2 hk _
      exact (h3.block k (Array.getElem?_eq_some_iff.1 hk).1 (by simp [Value.ownBlock])).trans hk
    · have hn1 : 1 ≤ l.length := by
        rcases Nat.eq_zero_or_pos l.length with h0 | h0
        · exact absurd (hnil (List.length_eq_zero_iff.1 h0)) (by simp)
        · exact h0
      by_cases hroom : l.length + 1 ≤ cap
      · intro k cs t2 fr2 hk ht
        refine (h3.block k (Array.getElem?_eq_some_iff.1 hk).1 ?_).trans hk
        intro e
        have e : k = g := by simpa [Value.ownBlock] using e
        subst e
        rw [hg] at hk
        have hk := Obj.cells.inj (Option.some.inj hk)
        obtain ⟨rfl, rfl, _⟩ := hk
        rcases ht with ht | ht | ⟨_, ht⟩
        · cases ht
        · cases ht
        · omega
      · have holds : ∀ j u, (Lx.cellsL l)[j]? = some u → w.cell? ((⟨g, 0, none⟩ : Addr).add j) = some u := hrow.cells (g := g) rfl
        have hr2 := run_append_grow (P := Tryz.prog) w 49 49 60 i _ Tryz.underlying49 hi hz0 ⟨g, 0, none⟩ l.length cap (Lx.cellsL l) (by rw [hz1, Lx.cellsL_len]) holds ⟨B, 0, none⟩ 1 1 (Lx.cellsT t) (by rw [hz1]; rfl) hnews (by omega) (by omega) (growslice_fits (by omega) (by rw [hz2]; omega))
        rw [hr2] at hr
        obtain ⟨_, rfl⟩ := (by simpa using hr : _ ∧ _)
        intro k cs t2 fr2 hk _
        exact (Below.heap_alloc w.drew _ k (Array.getElem?_eq_some_iff.1 hk).1).trans hk
/-- At the list of a region's operations, within a fence. -/
theorem wpListIn_append_tok {F : Fence} {n : Nat} (w : World) {ops : Array Oper} {rest : List Oper} {o : Oper} {a : Act} {Q : Exit → Act → World → Prop} (hg : o.guard = none) (s x : Operand)
    (hop : o.op = Op.call { callee := Callee.builtin Builtin.append, args := #[s, x], argTypes := #[49, 49] })
    (base : Nat) (l : List Lx.Tok) (v : Value) (hs : a.eval s = v) (hown : Lx.OwnT base l v w) (t : Lx.Tok) (B : Nat) (fr : Nat × Nat) (ty : TypeId) (hx : a.eval x = .slice (some ⟨B, 0, none⟩) 1 1)
    (hB : w.heap[B]? = some (.cells #[.int .i64 (t.kind : Nat), .string (Lx.str t.text), .int .i64 (t.n : Nat), .int .i64 (t.at_ : Nat)] ty fr)) (hl : l.length < 1000000) (hbase : base ≤ w.heap.size)
    (hK : ∀ g c w', Lx.OwnT base (l ++ [t]) (.slice (some ⟨g, 0, none⟩) (l.length + 1) c) w' → w.grownBy w' v.ownBlock → Lx.Kept w w' → wpListIn F n Tryz.prog ops Q rest (a.put o.dst (.slice (some ⟨g, 0, none⟩) (l.length + 1) c)) w') :
    wpListIn F n Tryz.prog ops Q (o :: rest) a w := by
  refine wpListIn_plain hg fun K hK' => ?_
  obtain ⟨v', w', hrun, r1, r2, r3, g, c, rfl⟩ := run_append_tok w base l v hown t B fr ty hB hl hbase
  unfold Oper.wpIn
  refine ⟨?_, ?_⟩
  · simp [Oper.about, hop, resolve, Target.leads, Sem.run_pure]
  · rw [Oper.semAt_plain F _ _ (by rw [hop]; intro c hc'; cases hc')]
    simp [execOp, hop, resolve, invoke, builtin, hs, hx, hrun, Result.andThen]
    exact hK' _ _ (hK g c w' r1 r2 r3)
/-- .. and in the plain walk. -/
theorem wpList_append_tok (w : World) {ops : Array Oper} {rest : List Oper} {o : Oper} {a : Act} {Q : Exit → Act → World → Prop} (hg : o.guard = none) (s x : Operand)
    (hop : o.op = Op.call { callee := Callee.builtin Builtin.append, args := #[s, x], argTypes := #[49, 49] })
    (base : Nat) (l : List Lx.Tok) (v : Value) (hs : a.eval s = v) (hown : Lx.OwnT base l v w) (t : Lx.Tok) (B : Nat) (fr : Nat × Nat) (ty : TypeId) (hx : a.eval x = .slice (some ⟨B, 0, none⟩) 1 1)
    (hB : w.heap[B]? = some (.cells #[.int .i64 (t.kind : Nat), .string (Lx.str t.text), .int .i64 (t.n : Nat), .int .i64 (t.at_ : Nat)] ty fr)) (hl : l.length < 1000000) (hbase : base ≤ w.heap.size)
    (hK : ∀ g c w', Lx.OwnT base (l ++ [t]) (.slice (some ⟨g, 0, none⟩) (l.length + 1) c) w' → w.grownBy w' v.ownBlock → wpList Tryz.prog ops Q rest (a.put o.dst (.slice (some ⟨g, 0, none⟩) (l.length + 1) c)) w') :
    wpList Tryz.prog ops Q (o :: rest) a w := by
  refine wpList_plain hg fun K hK' => ?_
  obtain ⟨v', w', hrun, r1, r2, _, g, c, rfl⟩ := run_append_tok w base l v hown t B fr ty hB hl hbase
  unfold Oper.wp
  simp [execOp, hop, resolve, invoke, builtin, hs, hx, hrun, Result.andThen]
  exact hK' _ _ (hK g c w' r1 r2)
theorem Lx.OwnT.form {base : Nat} {l : List Lx.Tok} {v : Value} {w : World} (h : Lx.OwnT base l v w) : ∃ L : Option Addr × Nat, v = .slice L.1 l.length L.2 := by
  rcases h.1.2 with ⟨h1, h2⟩ | ⟨g, cap, cur, h1, _⟩
  · exact ⟨(none, 0), by rw [h1, h2]⟩
  · exact ⟨(some ⟨g, 0, none⟩, cap), h1⟩
theorem Lx.OwnT.lt {base : Nat} {l : List Lx.Tok} {v : Value} {w : World} (h : Lx.OwnT base l v w) : ∀ j, v.ownBlock = some j → base ≤ j ∧ ∃ cs fr, w.heap[j]? = some (.cells cs 60 fr) := by
  intro j hj
  rcases h.1.2 with ⟨h1, h2⟩ | ⟨g, cap, cur, h1, h2, h3, _⟩
  · rw [h1] at hj; simp [Value.ownBlock] at hj
  · rw [h1] at hj
    have : g = j := by simpa [Value.ownBlock] using hj
    subst this
    exact ⟨h2, _, _, h3⟩
theorem Lx.OwnT.mono {base base' : Nat} {l : List Lx.Tok} {v : Value} {w : World} (h : Lx.OwnT base l v w) (hb : base' ≤ base) : Lx.OwnT base' l v w := by
  obtain ⟨⟨h1, h2⟩, h3⟩ := h
  refine ⟨⟨h1, ?_⟩, h3⟩
  rcases h2 with h2 | ⟨g, cap, cur, e, h4, rest⟩
  · exact .inl h2
  · exact .inr ⟨g, cap, cur, e, Nat.le_trans hb h4, rest⟩
end Go.Proofs.YtoamkanofhhjfaaGreatDoor
