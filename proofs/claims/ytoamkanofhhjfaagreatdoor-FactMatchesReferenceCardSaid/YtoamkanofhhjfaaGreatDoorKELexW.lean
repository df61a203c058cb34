import Derived.Test.YtoamkanofhhjfaaGreatDoorKELst
import Derived.Test.YtoamkanofhhjfaaGreatDoorKEIterC
import Derived.Lib.SmallJoins
/-
  What Lex answers, from the tokens and errors that came.
-/
namespace Go.Proofs.YtoamkanofhhjfaaGreatDoor.Lx

/-- The last of what came ends the range: its error, or one token too many. -/
def Ends (pre : List (Tok × Nat)) (E A : Nat) : Prop :=
  ∃ q x, pre = q ++ [x] ∧ (∀ y ∈ q, y.2 = 0) ∧ q.length ≤ 5000 ∧ ((x.2 ≠ 0 ∧ E = x.2) ∨ (x.2 = 0 ∧ q.length = 5000 ∧ E = 2)) ∧ A = x.1.at_
theorem items_get (s : T) (a k : Nat) (x : Tok × Nat) (h : (items s a)[k]? = some x) :
    (x.2 = 0 ∧ (lex s a).1[k]? = some x.1) ∨ (x.2 ≠ 0 ∧ k = (lex s a).1.length ∧ (lex s a).2 = some (x.2, x.1.at_)) := by
  unfold items at h
  by_cases hk : k < (lex s a).1.length
  · rw [List.getElem?_append_left (by rw [List.length_map]; exact hk), List.getElem?_map, List.getElem?_eq_getElem hk] at h
    have : x = ((lex s a).1[k], 0) := (Option.some.inj h).symm
    rw [this]
    exact .inl ⟨rfl, List.getElem?_eq_getElem hk⟩
  · rw [List.getElem?_append_right (by rw [List.length_map]; omega), List.length_map] at h
    cases he : (lex s a).2 with
    | none => rw [he] at h; simp at h
    | some e =>
      rw [he] at h
      have hx := lex_errAt _ s (Nat.le_refl _) a e he
      have h0 : k - (lex s a).1.length = 0 := by
        rcases Nat.eq_zero_or_pos (k - (lex s a).1.length) with h1 | h1
        · exact h1
        · rw [show k - (lex s a).1.length = (k - (lex s a).1.length - 1) + 1 by omega] at h; simp at h
      rw [h0] at h
      have : x = (noTok e.2, e.1) := by simpa using h.symm
      rw [this]
      exact .inr ⟨by have := hx.2.2; show e.1 ≠ 0; omega, by omega, rfl⟩
theorem full_err {s : T} (hs : s.length ≤ 20000) {pre rest : List (Tok × Nat)} (hi : items s 0 = pre ++ rest) {E A : Nat} (h : Ends pre E A) : full s = ([], E, (A : Int)) := by
  obtain ⟨q, x, rfl, hq, hq5, hx, rfl⟩ := h
  have hget : (items s 0)[q.length]? = some x := by rw [hi, List.append_assoc, List.getElem?_append_right (Nat.le_refl _), Nat.sub_self]; rfl
  unfold full
  rw [if_neg (by omega)]
  dsimp only
  rcases items_get s 0 q.length x hget with ⟨h0, h1⟩ | ⟨h0, h1, h2⟩
  · rcases hx with ⟨h3, _⟩ | ⟨_, h4, rfl⟩
    · exact absurd h0 h3
    · rw [h4] at h1
      have hl := (List.getElem?_eq_some_iff.1 h1).1
      rw [if_pos hl, List.getD_eq_getElem?_getD, List.getElem?_map, h1]; rfl
  · rcases hx with ⟨_, rfl⟩ | ⟨h3, _⟩
    · rw [if_neg (by omega), h2]
    · exact absurd h3 h0
theorem full_done {s : T} (hs : s.length ≤ 20000) {xs : List (Tok × Nat)} (hi : xs = items s 0) (h0 : ∀ y ∈ xs, y.2 = 0) (h5 : xs.length ≤ 5000) : full s = (xs.map (·.1), 0, 0) := by
  have he : (lex s 0).2 = none := by
    cases he : (lex s 0).2 with
    | none => rfl
    | some e =>
      exfalso
      have hx := lex_errAt _ s (Nat.le_refl _) 0 e he
      have : (noTok e.2, e.1) ∈ xs := by
        rw [hi]; unfold items; rw [he]; simp
      have := h0 _ this
      have h3 := hx.2.2
      simp only at this
      omega
  have hl : items s 0 = (lex s 0).1.map (fun t => (t, 0)) := by unfold items; rw [he]; simp
  rw [hl] at hi
  subst hi
  rw [List.length_map] at h5
  unfold full
  rw [if_neg (by omega)]
  dsimp only
  have hm : ((lex s 0).1.map (fun t => ((t, 0) : Tok × Nat))).map (·.1) = (lex s 0).1 := by rw [List.map_map]; exact List.map_id _
  rw [if_neg (by omega), he, hm]
theorem full_long {s : T} (hs : 20000 < s.length) : full s = ([], 2, -1) := by unfold full; rw [if_pos hs]
end Go.Proofs.YtoamkanofhhjfaaGreatDoor.Lx
/-
  The walk of lexer.Lex.
-/
namespace Go.Proofs.YtoamkanofhhjfaaGreatDoor
open Go.RowKit Go.Shelf

attribute [local go_sem] Oper.semAt_some

namespace Lx
/-- What Lex answers. -/
def LexOut (r : List Tok × Nat × Int) (w : World) (e : Ending) (w' : World) : Prop :=
  ∃ v, e = .returned (.tuple #[v, .int .i64 (r.2.1 : Nat), .int .i64 r.2.2]) ∧ OwnT w.heap.size r.1 v w' ∧ Below w.heap.size w w'
end Lx

theorem lex_results (tmps : Array Value) (w : World) (a b c : Nat) (v0 v1 v2 : Value) (h2 : tmps.getD 2 undef = .pointer (some ⟨a, 0, none⟩)) (h3 : tmps.getD 3 undef = .pointer (some ⟨b, 0, none⟩)) (h4 : tmps.getD 4 undef = .pointer (some ⟨c, 0, none⟩))
    (c0 : w.cell? ⟨a, 0, none⟩ = some v0) (c1 : w.cell? ⟨b, 0, none⟩ = some v1) (c2 : w.cell? ⟨c, 0, none⟩ = some v2) :
    (results Tryz.f53 tmps).run Tryz.prog w = .ok (.tuple #[v0, v1, v2]) w := by
  have h2' : tmps[2]?.getD undef = .pointer (some ⟨a, 0, none⟩) := by simpa using h2
  have h3' : tmps[3]?.getD undef = .pointer (some ⟨b, 0, none⟩) := by simpa using h3
  have h4' : tmps[4]?.getD undef = .pointer (some ⟨c, 0, none⟩) := by simpa using h4
  simp [results, Tryz.f53, h2', h3', h4', go_sem, c0, c1, c2]

/-- Three variables, made one after the other. -/
abbrev three (w : World) (v0 v1 v2 : Value) : World := ((w.alloc (.cells #[v0] 49)).alloc (.cells #[v1] 29)).alloc (.cells #[v2] 3)
theorem three_blocks (w : World) (v0 v1 v2 : Value) : (three w v0 v1 v2).heap[w.heap.size]? = some (.cells #[v0] 49 (0, 0)) ∧ (three w v0 v1 v2).heap[w.heap.size + 1]? = some (.cells #[v1] 29 (0, 0)) ∧
    (three w v0 v1 v2).heap[w.heap.size + 1 + 1]? = some (.cells #[v2] 3 (0, 0)) ∧ Below w.heap.size w (three w v0 v1 v2) ∧ (three w v0 v1 v2).heap.size = w.heap.size + 3 := by
  refine ⟨?_, ?_, ?_, ?_, by simp⟩
  · rw [Below.heap_alloc _ _ _ (by simp; omega), Below.heap_alloc _ _ _ (by simp)]; exact heap_alloc_new _ _
  · rw [Below.heap_alloc _ _ _ (by simp)]
    have := heap_alloc_new (w.alloc (.cells #[v0] 49)) (.cells #[v1] 29)
    simpa using this
  · have := heap_alloc_new ((w.alloc (.cells #[v0] 49)).alloc (.cells #[v1] 29)) (.cells #[v2] 3)
    simpa using this
  · exact (((Below.refl _ _).alloc (Nat.le_refl _) _).alloc (by simp) _).alloc (by simp; omega) _

set_option maxHeartbeats 2000000 in
set_option maxRecDepth 100000 in
theorem lex_long (s : ByteArray) (hs : 20000 < s.size) (hm : s.size ≤ 9223372036854775807) (w : World) :
    Calls Tryz.prog 53 #[.string s] w (Lx.LexOut (Lx.full (Lx.tx s)) w) := by
  rw [Lx.full_long (by rw [Lx.tx_len]; exact hs)]
  refine (callsIn_wide (n := 5)).1 (callsIn_of_wp_marks Tryz.func53 rfl trivial (wpIn_wide.2 ?_) rfl)
  simp only [Tryz.ntmps53, List.size_toArray, List.length_cons, List.length_nil, Nat.reduceAdd, Nat.reduceSub, Array.replicate_succ, Array.replicate_zero, List.push_toArray, List.append_toArray, List.nil_append, List.cons_append]
  go_wp2_with fail
  obtain ⟨k0, k1, k2, hb, _⟩ := three_blocks w (.slice none 0 0) (.int .i64 2) (.int .i64 (-1))
  refine ⟨_, lex_results _ _ _ _ _ _ _ _ rfl rfl rfl (Joins.cell_of_block k0 0) (Joins.cell_of_block k1 0) (Joins.cell_of_block k2 0), ?_⟩
  exact ⟨_, rfl, Lx.OwnT.nil _ _, hb⟩

/-! ### What is kept -/
theorem cells_kept {W W' : World} {row : Option Nat} {k : Nat} {cs : Array Value} {t : TypeId} {fr : Nat × Nat} (h : W.heap[k]? = some (.cells cs t fr)) (hg : W.grownBy W' row) (hr : ∀ r, row = some r → ∃ o : Obj, W.heap[r]? = some o ∧ o.isCells = false) :
    W'.heap[k]? = some (.cells cs t fr) := (grownBy_keeps_cells hg hr h rfl).trans h
theorem Lx.OwnT.kept {base : Nat} {l : List Lx.Tok} {v : Value} {W W' : World} {row : Option Nat} (h : Lx.OwnT base l v W) (hg : W.grownBy W' row) (hr : ∀ r, row = some r → ∃ o : Obj, W.heap[r]? = some o ∧ o.isCells = false) : Lx.OwnT base l v W' := by
  obtain ⟨⟨h1, h2⟩, h3⟩ := h
  refine ⟨⟨h1, ?_⟩, h3⟩
  rcases h2 with h2 | ⟨g, cap, cur, rfl, hb, hk, rest⟩
  · exact .inl h2
  · exact .inr ⟨g, cap, cur, rfl, hb, cells_kept hk hg hr, rest⟩
theorem Lx.kept_put {W : World} {l : Nat} {o o' : Obj} (h : W.heap[l]? = some o) (hc : o.isCells = false) : Lx.Kept W (W.putObj l o') := by
  intro k cs t fr hk _
  refine (World.putObj_heap_other ?_).trans hk
  rintro rfl
  rw [h] at hk
  cases hk; cases hc

namespace Lx
/-- While the range runs: n is the first block of the call. -/
def Inv (w : World) (B : Nat) (pre : List (Tok × Nat)) (W : World) : Prop :=
  ((∀ x ∈ pre, x.2 = 0) ∧ pre.length ≤ 5000) ∧
  (∃ v, W.heap[w.heap.size + 3]? = some (.cells #[v] 49 (0, 0)) ∧ OwnT B (pre.map (·.1)) v W) ∧
  W.heap[w.heap.size]? = some (.cells #[.slice none 0 0] 49 (0, 0)) ∧ W.heap[w.heap.size + 1]? = some (.cells #[.int .i64 0] 29 (0, 0)) ∧ W.heap[w.heap.size + 1 + 1]? = some (.cells #[.int .i64 0] 3 (0, 0)) ∧
  Below w.heap.size w W
theorem Inv.own (w : World) (B : Nat) (hB : w.heap.size ≤ B) : OwnFrom B (Inv w B) := by
  intro pre W W' row ⟨h1, ⟨v, h2, h3⟩, h4, h5, h6, h7⟩ hg hr
  have hr2 : ∀ r, row = some r → ∃ o : Obj, W.heap[r]? = some o ∧ o.isCells = false := fun r e => (hr r e).2
  exact ⟨h1, ⟨v, cells_kept h2 hg hr2, h3.kept hg hr2⟩, cells_kept h4 hg hr2, cells_kept h5 hg hr2, cells_kept h6 hg hr2, h7.grown hg h7.size (fun k e => Nat.le_trans hB (hr k e).1)⟩
/-- Where the range is left. -/
def Left (w : World) (c : Code) (pre : List (Tok × Nat)) (W : World) : Prop :=
  c = .ret ∧ ∃ E A : Nat, Ends pre E A ∧ W.heap[w.heap.size]? = some (.cells #[.slice none 0 0] 49 (0, 0)) ∧ W.heap[w.heap.size + 1]? = some (.cells #[.int .i64 (E : Nat)] 29 (0, 0)) ∧
    W.heap[w.heap.size + 1 + 1]? = some (.cells #[.int .i64 (A : Nat)] 3 (0, 0)) ∧ Below w.heap.size w W
theorem Left.own (w : World) (B : Nat) (hB : w.heap.size ≤ B) (c : Code) : OwnFrom B (Left w c) := by
  intro pre W W' row ⟨h0, E, A, h1, h4, h5, h6, h7⟩ hg hr
  have hr2 : ∀ r, row = some r → ∃ o : Obj, W.heap[r]? = some o ∧ o.isCells = false := fun r e => (hr r e).2
  exact ⟨h0, E, A, h1, cells_kept h4 hg hr2, cells_kept h5 hg hr2, cells_kept h6 hg hr2, h7.grown hg h7.size (fun k e => Nat.le_trans hB (hr k e).1)⟩
end Lx

/-- Behind the three stores. -/
abbrev stored (w W : World) (v : Value) (E A : Int) : World := ((W.setCell ⟨w.heap.size, 0, none⟩ v).setCell ⟨w.heap.size + 1, 0, none⟩ (.int .i64 E)).setCell ⟨w.heap.size + 1 + 1, 0, none⟩ (.int .i64 A)
theorem stored_facts {w W : World} {v0 v1 v2 : Value} (r0 : W.heap[w.heap.size]? = some (.cells #[v0] 49 (0, 0))) (r1 : W.heap[w.heap.size + 1]? = some (.cells #[v1] 29 (0, 0)))
    (r2 : W.heap[w.heap.size + 1 + 1]? = some (.cells #[v2] 3 (0, 0))) (hb : Below w.heap.size w W) (v : Value) (E A : Int) :
    (stored w W v E A).heap[w.heap.size]? = some (.cells #[v] 49 (0, 0)) ∧ (stored w W v E A).heap[w.heap.size + 1]? = some (.cells #[.int .i64 E] 29 (0, 0)) ∧
    (stored w W v E A).heap[w.heap.size + 1 + 1]? = some (.cells #[.int .i64 A] 3 (0, 0)) ∧ Below w.heap.size w (stored w W v E A) ∧ KeepsOthers W (stored w W v E A) := by
  have n01 : w.heap.size ≠ w.heap.size + 1 := by omega
  have n02 : w.heap.size ≠ w.heap.size + 1 + 1 := by omega
  have n12 : w.heap.size + 1 ≠ w.heap.size + 1 + 1 := by omega
  refine ⟨?_, ?_, ?_, ?_, ((KeepsOthers.setCell _ _ _).trans (KeepsOthers.setCell _ _ _)).trans (KeepsOthers.setCell _ _ _)⟩
  · rw [Below.heap_setCell _ _ _ _ n02, Below.heap_setCell _ _ _ _ n01, Joins.block_setCell r0]; rfl
  · rw [Below.heap_setCell _ _ _ _ n12, Joins.block_setCell ((Below.heap_setCell W ⟨w.heap.size, 0, none⟩ v _ n01.symm).trans r1)]; rfl
  · rw [Joins.block_setCell ((Below.heap_setCell _ ⟨w.heap.size + 1, 0, none⟩ _ _ n12.symm).trans ((Below.heap_setCell W ⟨w.heap.size, 0, none⟩ v _ n02.symm).trans r2))]; rfl
  · exact ((hb.setCell (p := ⟨w.heap.size, 0, none⟩) (Nat.le_refl _) _).setCell (p := ⟨w.heap.size + 1, 0, none⟩) (by show w.heap.size ≤ w.heap.size + 1; omega) _).setCell (p := ⟨w.heap.size + 1 + 1, 0, none⟩) (by show w.heap.size ≤ w.heap.size + 1 + 1; omega) _
theorem left_of {w W : World} {v0 v1 v2 : Value} (r0 : W.heap[w.heap.size]? = some (.cells #[v0] 49 (0, 0))) (r1 : W.heap[w.heap.size + 1]? = some (.cells #[v1] 29 (0, 0)))
    (r2 : W.heap[w.heap.size + 1 + 1]? = some (.cells #[v2] 3 (0, 0))) (hb : Below w.heap.size w W) (B : Nat) (pre : List (Lx.Tok × Nat)) (E A : Nat) (hE : Lx.Ends pre E A) :
    KeepsFrom B W (stored w W (.slice none 0 0) (E : Int) (A : Int)).drew ∧ Lx.Left w .ret pre (stored w W (.slice none 0 0) (E : Int) (A : Int)).drew := by
  obtain ⟨q0, q1, q2, q3, q4⟩ := stored_facts r0 r1 r2 hb (.slice none 0 0) (E : Int) (A : Int)
  exact ⟨(q4.trans (KeepsOthers.drew _)).from B, rfl, E, A, hE, q0, q1, q2, q3.drew⟩

/-- The closure has the contract of an iterator. -/
theorem tokens_stops (n : Nat) (hn : 2 ≤ n) (Bt : Nat) (s : ByteArray) (hs : s.size < 9223372036854775807) (w : World) (hB : w.heap[Bt]? = some (.cells #[.string s] 9 (0, 0))) :
    SeqStopsK Fence.wide n Tryz.prog 83 #[.pointer (some ⟨Bt, 0, none⟩)] Lx.enc Lx.Kept (fun xs => xs = Lx.items (Lx.tx s) 0) (fun pre => ∃ rest, Lx.items (Lx.tx s) 0 = pre ++ rest) (s.size + 2) w :=
  fun l J Jx W hW hJ _ hY h0 =>
    tokens1_in n hn l Bt s hs J Jx W (fun x A B hx hb => hJ x A B none hx (Lx.grown hb) (fun r e => by cases e)) hY h0 ((hW.block Bt (Array.getElem?_eq_some_iff.1 hB).1).trans hB)

set_option maxHeartbeats 4000000 in
set_option maxRecDepth 100000 in
theorem lex_short (s : ByteArray) (hs : s.size ≤ 20000) (w : World) :
    Calls Tryz.prog 53 #[.string s] w (Lx.LexOut (Lx.full (Lx.tx s)) w) := by
  have hsi : ¬ (20000 : Int) < (s.size : Int) := by omega
  refine (callsIn_wide (n := 5)).1 (callsIn_of_wp_marks Tryz.func53 rfl trivial (wpIn_wide.2 ?_) rfl)
  simp only [Tryz.ntmps53, List.size_toArray, List.length_cons, List.length_nil, Nat.reduceAdd, Nat.reduceSub, Array.replicate_succ, Array.replicate_zero, List.push_toArray, List.append_toArray, List.nil_append, List.cons_append]
  go_wp2_with fail
  refine (tokens_made s _).mono ?_
  rintro e w7 ⟨rfl, rfl⟩
  go_wp2_with fail
  obtain ⟨k0, k1, k2, hb3, hz3⟩ := three_blocks w (.slice none 0 0) (.int .i64 0) (.int .i64 0)
  obtain ⟨W3, hW3⟩ : ∃ W3, W3 = three w (.slice none 0 0) (.int .i64 0) (.int .i64 0) := ⟨_, rfl⟩
  have hW3' : ((w.alloc (.cells #[.slice none 0 0] 49)).alloc (.cells #[.int .i64 0] 29)).alloc (.cells #[.int .i64 0] 3) = W3 := hW3.symm
  rw [← hW3] at k0 k1 k2 hb3 hz3
  rw [hW3']
  clear hW3 hW3'
  obtain ⟨W5, hW5⟩ : ∃ W5, W5 = (W3.alloc (.cells #[.slice none 0 0] 49)).alloc (.cells #[.string s] 9) := ⟨_, rfl⟩
  have hz5 : W5.heap.size = w.heap.size + 5 := by rw [hW5]; simp; omega
  have hb5 : Below W3.heap.size W3 W5 := by rw [hW5]; exact ((Below.refl _ _).alloc (Nat.le_refl _) _).alloc (by simp) _
  have q3 : W5.heap[w.heap.size + 3]? = some (.cells #[.slice none 0 0] 49 (0, 0)) := by
    rw [hW5, Below.heap_alloc _ _ _ (by simp; omega), ← hz3]; exact heap_alloc_new _ _
  have q4 : W5.heap[w.heap.size + 3 + 1]? = some (.cells #[.string s] 9 (0, 0)) := by
    have := heap_alloc_new (W3.alloc (.cells #[.slice none 0 0] 49)) (.cells #[.string s] 9)
    rw [← hW5] at this
    simpa [hz3] using this
  have hinv : Lx.Inv w W5.heap.size [] W5 := by
    refine ⟨⟨by simp, by simp⟩, ⟨_, q3, Lx.OwnT.nil _ _⟩, (hb5.block _ (by omega)).trans k0, (hb5.block _ (by omega)).trans k1, (hb5.block _ (by omega)).trans k2, hb3.trans (hb5.mono (by omega))⟩
  rw [← hW5]
  clear hW5 hb5 hb3 k0 k1 k2 q3
  have hI := Lx.Inv.own w W5.heap.size (by omega)
  have hIx := Lx.Left.own w W5.heap.size (by omega)
  have hse := tokens_stops 4 (by omega) (w.heap.size + 3 + 1) s (by omega) W5 q4
  have hen := enters_of Tryz.func83 (by kernel_rfl) rfl
  refine (wpIn_wide (n := 5)).1 ?_
  refine wpIn_rangeFunc_ownH rfl (by omega) (gf := 83) (lb := #[.pointer (some ⟨w.heap.size + 3 + 1, 0, none⟩)]) rfl trivial hen hse (fun h k => h.trans k) (fun W l o o' _ h1 h2 _ => Lx.kept_put h1 h2) (Below.refl _ _) (fun _ => rfl) _ _ hI hIx hinv
    (fun x a' W => ∃ B : Nat, W.heap[B]? = some (.cells #[.int .i64 (x.1.kind : Nat), .string (Lx.str x.1.text), .int .i64 (x.1.n : Nat), .int .i64 (x.1.at_ : Nat)] 60 (0, 0)) ∧
      a' = { tmps := #[.string s, undef, .pointer (some ⟨w.heap.size, 0, none⟩), .pointer (some ⟨w.heap.size + 1, 0, none⟩), .pointer (some ⟨w.heap.size + 1 + 1, 0, none⟩), .pointer (some ⟨w.heap.size + 3, 0, none⟩), .pointer (some ⟨B, 0, none⟩), .int .i64 (x.2 : Nat), .string s, .int .i64 s.size, .bool false, .string s, .func (.func 83) #[] #[.pointer (some ⟨w.heap.size + 3 + 1, 0, none⟩)], Lx.tokV x.1, .int .i64 (x.2 : Nat), undef, undef, undef, undef, undef, undef, undef, undef, undef, undef, undef, undef, undef, undef, undef, undef, undef], defers := [] })
    ?ax ?assign ?body ?done ?stop
  case ax =>
    intro x a' u W W' row ⟨B, h, e⟩ hg hr
    exact ⟨B, cells_kept h hg (fun r e => (hr r e).2), e⟩
  case assign =>
    intro l pre x W K hi hK
    gi_wp2
    refine hK _ _ ((KeepsOthers.alloc W _).from _) (fun k cs t fr h _ => (Below.heap_alloc W _ k (Array.getElem?_eq_some_iff.1 h).1).trans h) (hI.alloc _ hi) ⟨W.heap.size, heap_alloc_new W _, rfl⟩
  case body =>
    rintro l pre x a' W hll ⟨rl, hrl⟩ ⟨⟨hp0, hp5⟩, ⟨v, hv, hown⟩, r0, r1, r2, hb⟩ ⟨B, hB, rfl⟩ hlt
    have hbase : W5.heap.size ≤ W.heap.size := Nat.le_trans hll (Nat.le_of_lt (Array.getElem?_eq_some_iff.1 hrl).1)
    clear hrl
    have c2 := Joins.cell_of_block r0 0
    have c3 := Joins.cell_of_block r1 0
    have c4 := Joins.cell_of_block r2 0
    have u2 := Joins.unfrozen_of_block r0 0
    have u3 := Joins.unfrozen_of_block r1 0
    have u4 := Joins.unfrozen_of_block r2 0
    have c5 := Joins.cell_of_block hv 0
    have u5 := Joins.unfrozen_of_block hv 0
    have b3 := Joins.cell_of_block hB 3
    by_cases hx0 : x.2 = 0
    · have hq : (((x.2 : Nat) : Int) == 0) = true := by rw [beq_iff_eq]; omega
      obtain ⟨⟨ga, gc⟩, hform⟩ := hown.form
      rw [List.length_map] at hform
      dsimp only at hform
      subst hform
      by_cases h50 : pre.length = 5000
      · have h50i : (((pre.length : Nat) : Int) == 5000) = true := by rw [beq_iff_eq]; omega
        have HL := Lib.hid (left_of r0 r1 r2 hb W5.heap.size (pre ++ [x]) 2 x.1.at_ ⟨pre, x, rfl, hp0, hp5, .inr ⟨hx0, h50, rfl⟩, rfl⟩)
        clear hown hp0 hp5 hlt hinv hI hIx hse hen
        gi_wp2
        gi_region
        all_goals
          gi_wp2
          exact HL.out
      · have h50i : (((pre.length : Nat) : Int) == 5000) = false := by rw [beq_eq_false_iff_ne]; omega
        have hq2 : (((x.2 : Nat) : Int) != 0) = false := by rw [bne_eq_false_iff_eq]; omega
        have b0 := Joins.cell_of_block hB 0
        have b1 := Joins.cell_of_block hB 1
        have b2 := Joins.cell_of_block hB 2
        have HO := Lib.hid hown
        have HP := Lib.hid (And.intro hp0 hp5)
        have HR := Lib.hid (And.intro hv (And.intro r0 (And.intro r1 r2)))
        have hno := HO.out.lt
        have hBl := (Array.getElem?_eq_some_iff.1 hB).1
        have hvl := (Array.getElem?_eq_some_iff.1 hv).1
        have hr2l := (Array.getElem?_eq_some_iff.1 r2).1
        have hzW : w.heap.size + 3 < W.heap.size := hvl
        have hne : ∀ k, k < w.heap.size + 5 → some k ≠ (Value.slice ga pre.length gc).ownBlock := fun k hk e => by have := (hno k e.symm).1; omega
        have HBL := Lib.hid hb
        have HBT := Lib.hid hbase
        clear hown hp0 hp5 hinv hI hIx hse hen hB hv r0 r1 r2 hno hb
        gi_wp2_with (gi_at_builtin; refine wpListIn_append_tok _ rfl _ _ rfl W5.heap.size (pre.map (·.1)) _ rfl (HO.out.below ((Below.refl _ _).alloc (Nat.le_refl _) _)) x.1 W.heap.size (0, 0) 60 rfl (heap_alloc_new _ _) (by rw [List.length_map]; omega) (by simp; omega) ?_)
        intro g c w6 h1 h2 h3
        have hblk : ∀ k, k < w.heap.size + 5 → k < W.heap.size → w6.heap[k]? = W.heap[k]? := fun k hk hk2 => (h2.block k (by simp; omega) (hne k hk)).trans (Below.heap_alloc W _ k hk2)
        have k3 := (hblk (w.heap.size + 3) (by omega) hzW).trans HR.out.1
        have c6 := Joins.cell_of_block k3 0
        have u6 := Joins.unfrozen_of_block k3 0
        have HK6 := Lib.hid k3
        have HBK := Lib.hid hblk
        have H1 := Lib.hid h1
        have H2 := Lib.hid h2
        have H3 := Lib.hid h3
        clear k3 hblk h1 h2 h3 c5 u5
        have HNO := Lib.hid (HO.out.lt)
        gi_wp2
        have hn3 : ∀ k, k < w.heap.size + 3 → (w6.setCell ⟨w.heap.size + 3, 0, none⟩ (.slice (some ⟨g, 0, none⟩) (pre.length + 1) c)).heap[k]? = W.heap[k]? := fun k hk =>
          (Below.heap_setCell _ _ _ _ (by show k ≠ w.heap.size + 3; omega)).trans (HBK.out k (by omega) (by omega))
        refine ⟨?_, ?_, ⟨?_, ?_⟩, ⟨_, Joins.block_setCell HK6.out _, ?_⟩, (hn3 _ (by omega)).trans HR.out.2.1, (hn3 _ (by omega)).trans HR.out.2.2.1, (hn3 _ (by omega)).trans HR.out.2.2.2, ?_⟩
        · refine (((KeepsOthers.alloc W _).trans (KeepsOthers.of_grownBy H2.out ?_)).trans (KeepsOthers.setCell _ _ _)).from _
          intro j o e hj
          obtain ⟨_, cs, fr, hc⟩ := HNO.out j e
          rw [Below.heap_alloc W _ j (Array.getElem?_eq_some_iff.1 hc).1, hc] at hj
          cases hj; rfl
        · refine (Lx.Kept.trans (fun k cs t fr h _ => (Below.heap_alloc W _ k (Array.getElem?_eq_some_iff.1 h).1).trans h) H3.out).trans ?_
          intro k cs t fr h ht
          refine (Below.heap_setCell _ _ _ _ ?_).trans h
          intro e
          have e : k = w.heap.size + 3 := e
          subst e
          rw [HK6.out] at h
          have h := Obj.cells.inj (Option.some.inj h)
          obtain ⟨_, rfl, _⟩ := h
          rcases ht with ht | ht | ⟨ht, _⟩ <;> cases ht
        · intro y hy
          rcases List.mem_append.1 hy with hy | hy
          · exact HP.out.1 y hy
          · rw [List.mem_singleton] at hy; rw [hy]; exact hx0
        · have := HP.out.2
          rw [List.length_append, List.length_singleton]; omega
        · have h1 := H1.out.set (a := ⟨w.heap.size + 3, 0, none⟩) (by show w.heap.size + 3 < _; omega) (.slice (some ⟨g, 0, none⟩) (pre.length + 1) c)
          rw [List.map_append]
          exact h1.mono (base' := w.heap.size + 5) (by omega)
        · exact ((HBL.out.alloc HBL.out.size _).grown H2.out (by simp; omega) (fun k e => by have := (HNO.out k e).1; omega)).setCell (p := ⟨w.heap.size + 3, 0, none⟩) (by show w.heap.size ≤ w.heap.size + 3; omega) _
    · have hq : (((x.2 : Nat) : Int) == 0) = false := by rw [beq_eq_false_iff_ne]; omega
      have hq2 : (((x.2 : Nat) : Int) != 0) = true := by rw [bne_iff_ne]; omega
      have HL := Lib.hid (left_of r0 r1 r2 hb W5.heap.size (pre ++ [x]) x.2 x.1.at_ ⟨pre, x, rfl, hp0, hp5, .inl ⟨hx0, rfl⟩, rfl⟩)
      clear hown hp0 hp5 hlt hinv hI hIx hse hen
      gi_wp2
      gi_region
      all_goals
        gi_wp2
        exact HL.out
  case done =>
    rintro D xs W hD hxs ⟨⟨hp0, hp5⟩, ⟨v, hv, hown⟩, r0, r1, r2, hb⟩ hK
    have hfull := Lx.full_done (by rw [Lx.tx_len]; exact hs) hxs hp0 hp5
    have HF := Lib.hid hfull
    clear hfull hxs hp0 hp5
    obtain ⟨N, hN⟩ : ∃ N, N = xs.length := ⟨_, rfl⟩
    have c2 := Joins.cell_of_block r0 0
    have c3 := Joins.cell_of_block r1 0
    have c4 := Joins.cell_of_block r2 0
    have u2 := Joins.unfrozen_of_block r0 0
    have u3 := Joins.unfrozen_of_block r1 0
    have u4 := Joins.unfrozen_of_block r2 0
    have c5 := Joins.cell_of_block hv 0
    obtain ⟨⟨ga, gc⟩, hform⟩ := hown.form
    rw [List.length_map, ← hN] at hform
    dsimp only at hform
    subst hform
    clear hN
    have HR := Lib.hid (stored_facts r0 r1 r2 hb (.slice ga N gc) 0 0)
    have HO := Lib.hid hown
    have HK := Lib.hid hK
    clear hinv hI hIx hse hen hown r0 r1 r2 hv hK
    go_wp2_with fail
    obtain ⟨r0, r1, r2, hb6, hko⟩ := HR.out
    have hKK := hko.same D _ HK.out rfl
    refine ⟨by simp, .inl ⟨_, _, rfl, run_takeDeferred hKK, ?_⟩⟩
    have n0 := cell_kept (Joins.cell_of_block r0 0) (grownBy_putObj' _ D (.deferred none)) (fun r e => by cases e; exact ⟨_, hKK, rfl⟩)
    have n1 := cell_kept (Joins.cell_of_block r1 0) (grownBy_putObj' _ D (.deferred none)) (fun r e => by cases e; exact ⟨_, hKK, rfl⟩)
    have n2 := cell_kept (Joins.cell_of_block r2 0) (grownBy_putObj' _ D (.deferred none)) (fun r e => by cases e; exact ⟨_, hKK, rfl⟩)
    refine ⟨_, lex_results _ _ _ _ _ _ _ _ rfl rfl rfl n0 n1 n2, ?_⟩
    rw [HF.out]
    refine ⟨_, rfl, ?_, hb6.trans (belowK_b (w := w) (Nat.le_refl _) _ D _ (.deferred none) (by omega) hKK rfl rfl)⟩
    have ho2 : Lx.OwnT W5.heap.size (xs.map (·.1)) (.slice ga N gc) (stored w W (.slice ga N gc) 0 0) := ((HO.out.set (by show w.heap.size < _; omega) _).set (by show w.heap.size + 1 < _; omega) _).set (by show w.heap.size + 1 + 1 < _; omega) _
    exact (ho2.kept (grownBy_putObj' _ D (.deferred none)) (fun r e => by cases e; exact ⟨_, hKK, rfl⟩)).mono (by omega)
  case stop =>
    rintro D c pre W hD ⟨rest, hsp⟩ ⟨rfl, E, A, hE, r0, r1, r2, hb⟩ hK
    rw [Lx.full_err (by rw [Lx.tx_len]; exact hs) hsp hE]
    have hD2 := (Array.getElem?_eq_some_iff.1 hK).1
    gi_wp2
    refine ⟨by simp, .inl ⟨_, _, rfl, run_takeDeferred hK, ?_⟩⟩
    have n0 : (W.putObj D (.deferred none)).cell? ⟨w.heap.size, 0, none⟩ = some (.slice none 0 0) := cell_kept (Joins.cell_of_block r0 0) (grownBy_putObj' _ D (.deferred none)) (fun r e => by cases e; exact ⟨_, hK, rfl⟩)
    have n1 : (W.putObj D (.deferred none)).cell? ⟨w.heap.size + 1, 0, none⟩ = some (.int .i64 (E : Nat)) := cell_kept (Joins.cell_of_block r1 0) (grownBy_putObj' _ D (.deferred none)) (fun r e => by cases e; exact ⟨_, hK, rfl⟩)
    have n2 : (W.putObj D (.deferred none)).cell? ⟨w.heap.size + 1 + 1, 0, none⟩ = some (.int .i64 (A : Nat)) := cell_kept (Joins.cell_of_block r2 0) (grownBy_putObj' _ D (.deferred none)) (fun r e => by cases e; exact ⟨_, hK, rfl⟩)
    refine ⟨_, lex_results _ _ _ _ _ _ _ _ rfl rfl rfl n0 n1 n2, ?_⟩
    exact ⟨_, rfl, Lx.OwnT.nil _ _, hb.trans (belowK_b (w := w) (Nat.le_refl _) W D _ (.deferred none) (by omega) hK rfl rfl)⟩
/-- lexer.Lex answers as the arithmetic says. -/
theorem lex_walk (s : ByteArray) (hm : s.size ≤ 9223372036854775807) (w : World) :
    Calls Tryz.prog 53 #[.string s] w (Lx.LexOut (Lx.full (Lx.tx s)) w) := by
  by_cases h : s.size ≤ 20000
  · exact lex_short s h w
  · exact lex_long s (by omega) hm w
end Go.Proofs.YtoamkanofhhjfaaGreatDoor
