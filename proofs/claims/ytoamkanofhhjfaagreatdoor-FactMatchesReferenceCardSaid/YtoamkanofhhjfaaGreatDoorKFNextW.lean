import Derived.Test.YtoamkanofhhjfaaGreatDoorKFNextA
import Derived.Test.YtoamkanofhhjfaaGreatDoorKEIterC
import Derived.Test.YtoamkanofhhjfaaGreatDoorKELexW
import Derived.Lib.SmallJoins
/-
  The walk of fact.Next.
-/
namespace Go.Proofs.YtoamkanofhhjfaaGreatDoor
open Go.RowKit Go.Shelf

attribute [local go_sem] Oper.semAt_some

namespace Fc
theorem IsF.any2 {w : World} {v : Value} {l : List Fact} (h : IsF w v l) : ∃ a c g o, v = .slice a l.length c ∧ l.length ≤ c ∧ c ≤ 9223372036854775807 ∧ (l ≠ [] → a = Option.some ⟨g, o, none⟩) ∧ g ≤ w.heap.size ∧ (l ≠ [] → g < w.heap.size) ∧ ∀ i f, l[i]? = Option.some f →
    w.cell? ⟨g, o + i * 4, none⟩ = Option.some (.string (Lx.str f.name)) ∧ w.cell? ⟨g, o + i * 4 + 1, none⟩ = Option.some (.int .i64 f.kind) ∧ w.cell? ⟨g, o + i * 4 + 2, none⟩ = Option.some (.int .i64 f.lo) ∧ w.cell? ⟨g, o + i * 4 + 3, none⟩ = Option.some (.int .i64 f.hi) := by
  by_cases hne : l = []
  · subst hne
    obtain ⟨a, c, e, h1, h2⟩ := h.form
    exact ⟨a, c, 0, 0, e, h1, h2, fun h => absurd rfl h, Nat.zero_le _, fun h => absurd rfl h, by simp⟩
  · obtain ⟨g, o, c, e, h1, h2, hg, hc⟩ := h.some hne
    exact ⟨_, c, g, o, e, h1, h2, fun _ => rfl, Nat.le_of_lt hg, fun _ => hg, hc⟩
/-- The values on the way. -/
theorem cur_bound {n : Nat} {d : List Fact} (hv : Valid d) (pre : List (Fin n)) : ∀ m : List Int, (∀ y ∈ m, 0 ≤ y ∧ y ≤ 1000000) → ∀ y ∈ cur d m pre, 0 ≤ y ∧ y ≤ 1000000 := by
  induction pre with
  | nil => intro m h; exact h
  | cons x r ih =>
    intro m h
    show ∀ y ∈ cur d (m.set x.1 (loAt d x.1)) r, _
    refine ih _ fun y hy => ?_
    rcases List.mem_or_eq_of_mem_set hy with hy | rfl
    · exact h y hy
    · unfold loAt
      rw [List.getD_eq_getElem?_getD]
      cases hx : d[x.1]? with
      | none => show (0 : Int) ≤ 0 ∧ (0 : Int) ≤ 1000000; omega
      | some f =>
        have hok := hv.1 f (List.mem_of_getElem? hx)
        have h1 := hok.low
        have h2 := hok.le
        have h3 := hok.high
        show (0 : Int) ≤ f.lo ∧ f.lo ≤ 1000000
        omega
theorem within_bound {d : List Fact} {m : List Int} (hv : Valid d) (hw : within d m = true) : ∀ y ∈ m, 0 ≤ y ∧ y ≤ 1000000 := by
  intro y hy
  obtain ⟨i, hi, rfl⟩ := List.getElem_of_mem hy
  have hl := within_len hw
  have hb := (within_get.1 hw).2 i d[i] m[i] (List.getElem?_eq_getElem (by omega)) (List.getElem?_eq_getElem hi)
  have hok := hv.1 d[i] (List.getElem_mem _)
  have h1 := hok.low
  have h3 := hok.high
  omega
/-- While the range runs: from n0 on lie the call's blocks, V holds the case. -/
def InvX (w : World) (B V base : Nat) (d : List Fact) (m : List Int) (n : Nat) (vv : Value) (pre : List (Fin n)) (W : World) : Prop :=
  Past d m pre ∧ W.heap[w.heap.size + 1]? = some (.cells #[.slice none 0 0] 26 (0, 0)) ∧ W.heap[w.heap.size + 1 + 1]? = some (.cells #[.bool false] 4 (0, 0)) ∧
  W.heap[V]? = some (.cells #[vv] 26 (0, 0)) ∧ OwnE W base 3 vv n (cellsN (cur d m pre)) ∧ Below w.heap.size w W ∧ B ≤ W.heap.size
theorem OwnE.kept {W W' : World} {base : Nat} {e : TypeId} {v : Value} {n : Nat} {xs : List Value} {row : Option Nat} (h : OwnE W base e v n xs) (hg : W.grownBy W' row) (hr : ∀ r, row = some r → ∃ o : Obj, W.heap[r]? = some o ∧ o.isCells = false) : OwnE W' base e v n xs := by
  refine h.imp ?_ id
  rintro ⟨h1, h2⟩
  refine ⟨h1, ?_⟩
  rcases h2 with h2 | ⟨g, cap, cur, rfl, hb, hk, rest⟩
  · exact .inl h2
  · exact .inr ⟨g, cap, cur, rfl, hb, cells_kept hk hg hr, rest⟩
theorem InvX.own (w : World) (V base B : Nat) (d : List Fact) (m : List Int) (n : Nat) (vv : Value) (hB : w.heap.size ≤ B) : OwnFrom B (InvX w B V base d m n vv) := by
  intro pre W W' row ⟨h1, h2, h3, h4, h5, h6, h7⟩ hg hr
  have hr2 : ∀ r, row = some r → ∃ o : Obj, W.heap[r]? = some o ∧ o.isCells = false := fun r e => (hr r e).2
  exact ⟨h1, cells_kept h2 hg hr2, cells_kept h3 hg hr2, cells_kept h4 hg hr2, OwnE.kept h5 hg hr2, h6.grown hg h6.size (fun k e => Nat.le_trans hB (hr k e).1), Nat.le_trans h7 hg.size⟩
/-- Where the range is left. -/
def LeftX (w : World) (base : Nat) (d : List Fact) (m : List Int) (n : Nat) (vv : Value) (c : Code) (pre : List (Fin n)) (W : World) : Prop :=
  c = .ret ∧ ∃ (p : List (Fin n)) (x : Fin n), pre = p ++ [x] ∧ Past d m p ∧ (cur d m p).getD x.1 0 < hiAt d x.1 ∧ W.heap[w.heap.size + 1]? = some (.cells #[vv] 26 (0, 0)) ∧ W.heap[w.heap.size + 1 + 1]? = some (.cells #[.bool true] 4 (0, 0)) ∧
    OwnE W base 3 vv n (cellsN ((cur d m p).set x.1 ((cur d m p).getD x.1 0 + 1))) ∧ Below w.heap.size w W
theorem LeftX.own (w : World) (base B : Nat) (d : List Fact) (m : List Int) (n : Nat) (vv : Value) (hB : w.heap.size ≤ B) (c : Code) : OwnFrom B (LeftX w base d m n vv c) := by
  intro pre W W' row ⟨h0, p, x, h1, h2, h3, h4, h5, h6, h7⟩ hg hr
  have hr2 : ∀ r, row = some r → ∃ o : Obj, W.heap[r]? = some o ∧ o.isCells = false := fun r e => (hr r e).2
  exact ⟨h0, p, x, h1, h2, h3, cells_kept h4 hg hr2, cells_kept h5 hg hr2, OwnE.kept h6 hg hr2, h7.grown hg h7.size (fun k e => Nat.le_trans hB (hr k e).1)⟩
theorem OwnE.mono {W : World} {base base' : Nat} {e : TypeId} {v : Value} {n : Nat} {xs : List Value} (h : OwnE W base e v n xs) (hb : base' ≤ base) : OwnE W base' e v n xs := by
  refine h.imp ?_ id
  rintro ⟨h1, h2⟩
  refine ⟨h1, ?_⟩
  rcases h2 with h2 | ⟨g, cap, cur, e, h4, rest⟩
  · exact .inl h2
  · exact .inr ⟨g, cap, cur, e, Nat.le_trans hb h4, rest⟩
/-- It is read. -/
theorem OwnE.isN {W : World} {base : Nat} {v : Value} {l : List Int} (h : OwnE W base 3 v l.length (cellsN l)) (hb : ∀ x ∈ l, -9223372036854775808 ≤ x ∧ x ≤ 9223372036854775807) : IsN W v l := by
  rcases h with h | ⟨h1, h2, b, rfl⟩
  · have hh := h
    rcases h.2 with ⟨h1, h2⟩ | ⟨g, cap, cur, rfl, h2, h3, h4, h5, _⟩
    · obtain rfl : l = [] := List.length_eq_zero_iff.1 h2
      exact ⟨none, 0, h1, Nat.le_refl _, by decide, by simp, fun h => absurd rfl h⟩
    · refine ⟨_, cap, rfl, h4, by unfold maxLen at h5; omega, hb, fun _ => ⟨g, 0, rfl, (Array.getElem?_eq_some_iff.1 h3).1, fun i hi => ?_⟩⟩
      rw [Nat.zero_add, hh.cellAt i (by omega), cellsN_get, List.getD_eq_getElem?_getD, List.getElem?_eq_getElem hi]; rfl
  · obtain rfl : l = [] := List.length_eq_zero_iff.1 h1
    exact ⟨b, 0, rfl, Nat.le_refl _, by decide, by simp, fun h => absurd rfl h⟩
theorem OwnE.form {W : World} {base : Nat} {e : TypeId} {v : Value} {n : Nat} {xs : List Value} (h : OwnE W base e v n xs) : ∃ a c, v = .slice a n c := by
  rcases h with ⟨_, ⟨h1, h2⟩ | ⟨g, cap, cur, h1, _⟩⟩ | ⟨h1, h2, b, rfl⟩
  · exact ⟨none, 0, by rw [h1, h2]⟩
  · exact ⟨_, _, h1⟩
  · exact ⟨b, 0, by rw [h1]⟩
/-- One value of a row that is there, and a store into it. -/
theorem OwnE.some {W : World} {base : Nat} {v : Value} {n : Nat} {xs : List Value} (h : OwnE W base 3 v n xs) (hn : 0 < n) : ∃ r c, v = .slice (Option.some ⟨r, 0, none⟩) n c ∧ base ≤ r ∧ r < W.heap.size ∧ W.ownsRow base 3 1 v n xs := by
  rcases h with h | ⟨h1, _⟩
  · have hh := h
    rcases h.2 with ⟨h1, h2⟩ | ⟨g, cap, cur, h1, h2, h3, _⟩
    · omega
    · exact ⟨g, cap, h1, h2, (Array.getElem?_eq_some_iff.1 h3).1, hh⟩
  · omega
/-- The three variables of the call. -/
abbrev nextB (w : World) (v : Value) : World := ((w.alloc (.cells #[v] 24)).alloc (.cells #[.slice none 0 0] 26)).alloc (.cells #[.bool false] 4)
theorem nextB_blocks (w : World) (v : Value) : (nextB w v).heap[w.heap.size]? = some (.cells #[v] 24 (0, 0)) ∧ (nextB w v).heap[w.heap.size + 1]? = some (.cells #[.slice none 0 0] 26 (0, 0)) ∧
    (nextB w v).heap[w.heap.size + 1 + 1]? = some (.cells #[.bool false] 4 (0, 0)) ∧ Below w.heap.size w (nextB w v) ∧ (nextB w v).heap.size = w.heap.size + 3 := by
  refine ⟨?_, ?_, ?_, ?_, by simp⟩
  · rw [Below.heap_alloc _ _ _ (by simp; omega), Below.heap_alloc _ _ _ (by simp)]; exact heap_alloc_new _ _
  · rw [Below.heap_alloc _ _ _ (by simp)]
    have := heap_alloc_new (w.alloc (.cells #[v] 24)) (.cells #[.slice none 0 0] 26)
    simpa using this
  · have := heap_alloc_new ((w.alloc (.cells #[v] 24)).alloc (.cells #[.slice none 0 0] 26)) (.cells #[.bool false] 4)
    simpa using this
  · exact (((Below.refl _ _).alloc (Nat.le_refl _) _).alloc (by simp) _).alloc (by simp; omega) _
/-- What Next answers. -/
def NextOut (r : Option (List Int)) (w : World) (e : Ending) (w' : World) : Prop :=
  (match r with | none => e = .returned (.tuple #[.slice none 0 0, .bool false]) | some c => ∃ v, e = .returned (.tuple #[v, .bool true]) ∧ OwnE w' w.heap.size 3 v c.length (cellsN c)) ∧ Below w.heap.size w w'
end Fc

theorem next_results (tmps : Array Value) (w : World) (b c : Nat) (v1 v2 : Value) (h4 : tmps.getD 4 undef = .pointer (some ⟨b, 0, none⟩)) (h5 : tmps.getD 5 undef = .pointer (some ⟨c, 0, none⟩))
    (c1 : w.cell? ⟨b, 0, none⟩ = some v1) (c2 : w.cell? ⟨c, 0, none⟩ = some v2) :
    (results Tryz.f10 tmps).run Tryz.prog w = .ok (.tuple #[v1, v2]) w := by
  have h4' : tmps[4]?.getD undef = .pointer (some ⟨b, 0, none⟩) := by simpa using h4
  have h5' : tmps[5]?.getD undef = .pointer (some ⟨c, 0, none⟩) := by simpa using h5
  simp [results, Tryz.f10, h4', h5', go_sem, c1, c2]

/-- Behind the two stores. -/
abbrev stored2 (w W : World) (v1 v2 : Value) : World := (W.setCell ⟨w.heap.size + 1, 0, none⟩ v1).setCell ⟨w.heap.size + 1 + 1, 0, none⟩ v2
theorem stored2_facts {w W : World} {v1 v2 : Value} (r1 : W.heap[w.heap.size + 1]? = some (.cells #[v1] 26 (0, 0))) (r2 : W.heap[w.heap.size + 1 + 1]? = some (.cells #[v2] 4 (0, 0)))
    (hb : Below w.heap.size w W) (u1 u2 : Value) :
    (stored2 w W u1 u2).heap[w.heap.size + 1]? = some (.cells #[u1] 26 (0, 0)) ∧ (stored2 w W u1 u2).heap[w.heap.size + 1 + 1]? = some (.cells #[u2] 4 (0, 0)) ∧
    Below w.heap.size w (stored2 w W u1 u2) ∧ KeepsOthers W (stored2 w W u1 u2) ∧ ∀ k, k ≠ w.heap.size + 1 → k ≠ w.heap.size + 1 + 1 → (stored2 w W u1 u2).heap[k]? = W.heap[k]? := by
  have n12 : w.heap.size + 1 ≠ w.heap.size + 1 + 1 := by omega
  refine ⟨?_, ?_, ?_, (KeepsOthers.setCell _ _ _).trans (KeepsOthers.setCell _ _ _), fun k h1 h2 => ?_⟩
  · rw [Below.heap_setCell _ _ _ _ n12, Joins.block_setCell r1]; rfl
  · rw [Joins.block_setCell ((Below.heap_setCell W ⟨w.heap.size + 1, 0, none⟩ u1 _ n12.symm).trans r2)]; rfl
  · exact (hb.setCell (p := ⟨w.heap.size + 1, 0, none⟩) (by show w.heap.size ≤ w.heap.size + 1; omega) _).setCell (p := ⟨w.heap.size + 1 + 1, 0, none⟩) (by show w.heap.size ≤ w.heap.size + 1 + 1; omega) _
  · rw [Below.heap_setCell _ _ _ _ h2, Below.heap_setCell _ _ _ _ h1]
theorem Fc.OwnE.stored2 {w W : World} {base : Nat} {e : TypeId} {v : Value} {n : Nat} {xs : List Value} (h : OwnE W base e v n xs) (hb : w.heap.size + 1 + 1 < base) (u1 u2 : Value) : OwnE (Go.Proofs.YtoamkanofhhjfaaGreatDoor.stored2 w W u1 u2) base e v n xs :=
  h.imp (fun h => ownsRow_setCell_below (ownsRow_setCell_below h (by show w.heap.size + 1 < base; omega) _) (by show w.heap.size + 1 + 1 < base; omega) _) id

theorem leftX_of {w W : World} {B B2 V base : Nat} {d : List Fc.Fact} {m : List Int} {n r cx : Nat} {pre : List (Fin n)} (x : Fin n) (y : Int) (hi : Fc.InvX w B V base d m n (.slice (some ⟨r, 0, none⟩) n cx) pre W)
    (hb3 : w.heap.size + 3 ≤ base) (hr : base ≤ r) (hy : (Fc.cur d m pre).getD x.1 0 = y) (hx : y < Fc.hiAt d x.1) :
    KeepsFrom B2 W (stored2 w (W.setCell ⟨r, x.1, none⟩ (.int .i64 (y + 1))) (.slice (some ⟨r, 0, none⟩) n cx) (.bool true)).drew ∧
    Fc.LeftX w base d m n (.slice (some ⟨r, 0, none⟩) n cx) .ret (pre ++ [x]) (stored2 w (W.setCell ⟨r, x.1, none⟩ (.int .i64 (y + 1))) (.slice (some ⟨r, 0, none⟩) n cx) (.bool true)).drew := by
  obtain ⟨hp, r1, r2, hV, hown, hb, hz⟩ := hi
  obtain ⟨_, _, e, _, _, hrow⟩ := Fc.OwnE.some hown (by have := x.2; omega)
  cases e
  have n1 : w.heap.size + 1 ≠ r := by omega
  have n2 : w.heap.size + 1 + 1 ≠ r := by omega
  have k1 := (Below.heap_setCell W ⟨r, x.1, none⟩ (.int .i64 (y + 1)) _ n1).trans r1
  have k2 := (Below.heap_setCell W ⟨r, x.1, none⟩ (.int .i64 (y + 1)) _ n2).trans r2
  have hb1 : Below w.heap.size w (W.setCell ⟨r, x.1, none⟩ (.int .i64 (y + 1))) := hb.setCell (p := ⟨r, x.1, none⟩) (by show w.heap.size ≤ r; omega) _
  have hr1 := (hrow.stored x.1 (.int .i64 (y + 1))).1
  rw [Fc.cellsN_set] at hr1
  obtain ⟨q1, q2, q3, q4, _⟩ := stored2_facts k1 k2 hb1 (.slice (some ⟨r, 0, none⟩) n cx) (.bool true)
  refine ⟨(((KeepsOthers.setCell _ _ _).trans q4).trans (KeepsOthers.drew _)).from _, rfl, pre, x, rfl, hp, by rw [hy]; exact hx, q1, q2, ?_, q3.drew⟩
  rw [hy]
  exact Fc.OwnE.stored2 (.inl hr1) (by omega) _ _
theorem invX_of {w W : World} {B B2 V base Bf g : Nat} {d : List Fc.Fact} {m : List Int} {n r cx : Nat} {pre : List (Fin n)} (x : Fin n) (y z : Int) (hi : Fc.InvX w B V base d m n (.slice (some ⟨r, 0, none⟩) n cx) pre W)
    (hb3 : w.heap.size + 3 ≤ base) (hr : base ≤ r) (hrV : r < V) (hBf : r < Bf) (hg : g < r) (hy : (Fc.cur d m pre).getD x.1 0 = y) (hx : ¬ y < Fc.hiAt d x.1) (hz : Fc.loAt d x.1 = z) :
    KeepsFrom B2 W (W.setCell ⟨r, x.1, none⟩ (.int .i64 z)).drew ∧ Fc.Kp2 Bf g W (W.setCell ⟨r, x.1, none⟩ (.int .i64 z)).drew ∧
    Fc.InvX w B V base d m n (.slice (some ⟨r, 0, none⟩) n cx) (pre ++ [x]) (W.setCell ⟨r, x.1, none⟩ (.int .i64 z)).drew := by
  obtain ⟨hp, r1, r2, hV, hown, hb, hzz⟩ := hi
  obtain ⟨_, _, e, _, _, hrow⟩ := Fc.OwnE.some hown (by have := x.2; omega)
  cases e
  have hk : ∀ k, k ≠ r → (W.setCell ⟨r, x.1, none⟩ (.int .i64 z)).heap[k]? = W.heap[k]? := fun k h => Below.heap_setCell W ⟨r, x.1, none⟩ (.int .i64 z) k h
  have hr1 := (hrow.stored x.1 (.int .i64 z)).1
  rw [Fc.cellsN_set, ← hz, ← Fc.cur_snoc] at hr1
  rw [hz] at hr1
  refine ⟨((KeepsOthers.setCell _ _ _).trans (KeepsOthers.drew _)).from _, ⟨hk _ (by omega), hk _ (by omega)⟩, hp.snoc (by rw [hy]; exact hx), (hk _ (by omega)).trans r1, (hk _ (by omega)).trans r2, (hk _ (by omega)).trans hV, .inl hr1, (hb.setCell (p := ⟨r, x.1, none⟩) (by show w.heap.size ≤ r; omega) _).drew, ?_⟩
  exact Nat.le_trans hzz (by show W.heap.size ≤ (W.setCell ⟨r, x.1, none⟩ (.int .i64 z)).heap.size; exact (KeepsOthers.setCell W ⟨r, x.1, none⟩ (.int .i64 z)).size)

set_option maxHeartbeats 4000000 in
set_option maxRecDepth 100000 in
theorem next_no (dv u : Value) (d : List Fc.Fact) (m : List Int) (w : World) (hF : Fc.IsF w dv d) (hu : Fc.IsN w u m) (hno : ¬ Fc.Fit d m) :
    Calls Tryz.prog 10 #[.agg #[dv], u] w (Fc.NextOut none w) := by
  obtain ⟨k0, k1, k2, hb, hz⟩ := Fc.nextB_blocks w dv
  have HFW := Lib.hid (fits_walk dv u d m _ (hF.below hb) (hu.below hb))
  obtain ⟨W, hW⟩ : ∃ W, W = Fc.nextB w dv := ⟨_, rfl⟩
  rw [← hW] at k0 k1 k2 hb hz HFW
  have HB := Lib.hid hb
  have HR := Lib.hid (And.intro k1 k2)
  have q0 := Joins.cell_of_block k0 0
  have HW : Hid (((w.alloc (.cells #[dv] 24)).alloc (.cells #[.slice none 0 0] 26)).alloc (.cells #[.bool false] 4) = W) := hW.symm
  clear hF hu k0 k1 k2 hb hW
  refine (callsIn_wide (n := 5)).1 (callsIn_of_wp_marks Tryz.func10 rfl trivial (wpIn_wide.2 ?_) rfl)
  simp only [Tryz.ntmps10, List.size_toArray, List.length_cons, List.length_nil, Nat.reduceAdd, Nat.reduceSub, Array.replicate_succ, Array.replicate_zero, List.push_toArray, List.append_toArray, List.nil_append, List.cons_append]
  go_upto_region 1 with fail
  rw [HW.out]
  clear HW
  go_wp2_with fail
  refine HFW.out.mono ?_
  rintro e w3 ⟨⟨b, rfl, hb⟩, hb3⟩
  obtain rfl : b = false := by cases b with | false => rfl | true => exact absurd (hb.1 rfl) hno
  have r1 := (hb3.block _ (by omega)).trans HR.out.1
  have r2 := (hb3.block _ (by omega)).trans HR.out.2
  have c4 := Joins.cell_of_block r1 0
  have c5 := Joins.cell_of_block r2 0
  have u4 := Joins.unfrozen_of_block r1 0
  have u5 := Joins.unfrozen_of_block r2 0
  have HS := Lib.hid (stored2_facts r1 r2 (HB.out.trans (hb3.mono HB.out.size)) (.slice none 0 0) (.bool false))
  clear hb hb3 HFW HB HR q0 r1 r2
  go_wp2_with fail
  obtain ⟨k1, k2, hb, _⟩ := HS.out
  refine ⟨_, next_results _ _ _ _ _ _ rfl rfl (Joins.cell_of_block k1 0) (Joins.cell_of_block k2 0), ?_⟩
  exact ⟨rfl, hb⟩

set_option maxHeartbeats 4000000 in
set_option maxRecDepth 100000 in
theorem next_walk (dv u : Value) (d : List Fc.Fact) (m : List Int) (w : World) (hF : Fc.IsF w dv d) (hu : Fc.IsN w u m) (hfit : Fc.Fit d m) :
    Calls Tryz.prog 10 #[.agg #[dv], u] w (Fc.NextOut (Fc.next d m) w) := by
  obtain ⟨k0, k1, k2, hb, hz⟩ := Fc.nextB_blocks w dv
  have HFW := Lib.hid (fits_walk dv u d m _ (hF.below hb) (hu.below hb))
  obtain ⟨n, hn⟩ : ∃ n, n = d.length := ⟨_, rfl⟩
  have hmn : m.length = n := by rw [hn]; exact Fc.within_len hfit.2
  have hn60 : n ≤ 60 := by rw [hn]; exact hfit.1.2.2
  obtain ⟨a, c, g, o, hdv, hc1, hc2, hga, hgl0, hgl, hcl⟩ := hF.any2
  rw [← hn] at hdv hc1
  subst hdv
  have HN := Lib.hid (And.intro hn hmn)
  have HG := Lib.hid (And.intro hga hgl)
  have HBND := Lib.hid (fun pre : List (Fin n) => Fc.cur_bound hfit.1 pre m (Fc.within_bound hfit.1 hfit.2))
  have HC := Lib.hid hcl
  obtain ⟨P, hP⟩ : ∃ P, P = Fc.NextOut (Fc.next d m) w := ⟨_, rfl⟩
  rw [← hP]
  have HP := Lib.hid hP
  obtain ⟨W, hW⟩ : ∃ W, W = Fc.nextB w (.slice a n c) := ⟨_, rfl⟩
  have HCW := Lib.hid (fun (w3 : World) (hb3 : Below w.heap.size w w3) => clone_walk u m w3 (hu.below hb3) (by omega))
  rw [← hW] at k0 k1 k2 hb hz HFW
  have HB := Lib.hid hb
  have HR := Lib.hid (And.intro k0 (And.intro k1 k2))
  have q0 := Joins.cell_of_block k0 0
  have HW : Hid (((w.alloc (.cells #[.slice a n c] 24)).alloc (.cells #[.slice none 0 0] 26)).alloc (.cells #[.bool false] 4) = W) := hW.symm
  clear hF hu k0 k1 k2 hb hW hn hmn hga hgl hcl hP
  refine (callsIn_wide (n := 5)).1 (callsIn_of_wp_marks Tryz.func10 rfl trivial (wpIn_wide.2 ?_) rfl)
  simp only [Tryz.ntmps10, List.size_toArray, List.length_cons, List.length_nil, Nat.reduceAdd, Nat.reduceSub, Array.replicate_succ, Array.replicate_zero, List.push_toArray, List.append_toArray, List.nil_append, List.cons_append]
  go_upto_region 1 with fail
  rw [HW.out]
  clear HW
  go_wp2_with fail
  refine HFW.out.mono ?_
  rintro e w3 ⟨⟨b, rfl, hb⟩, hb3⟩
  obtain rfl : b = true := hb.2 hfit
  have r0 := (hb3.block _ (by omega)).trans HR.out.1
  have r1 := (hb3.block _ (by omega)).trans HR.out.2.1
  have r2 := (hb3.block _ (by omega)).trans HR.out.2.2
  have hz3 : w.heap.size + 3 ≤ w3.heap.size := by rw [← hz]; exact hb3.size
  have hbb := HB.out.trans (hb3.mono HB.out.size)
  have HB3 := Lib.hid hbb
  have HR3 := Lib.hid (And.intro r0 (And.intro r1 r2))
  have HC3 := Lib.hid (HCW.out w3 hbb)
  clear hb hb3 HFW HB HR q0 r0 r1 r2 HCW hbb hz
  go_wp2_with fail
  refine HC3.out.mono ?_
  rintro e w4 ⟨⟨vv, rfl, ho⟩, hb4⟩
  rw [HN.out.2] at ho
  obtain ⟨ax, cx, rfl⟩ := Fc.OwnE.form ho
  have r0 := (hb4.block _ (by omega)).trans HR3.out.1
  have r1 := (hb4.block _ (by omega)).trans HR3.out.2.1
  have r2 := (hb4.block _ (by omega)).trans HR3.out.2.2
  have hz4 : w3.heap.size ≤ w4.heap.size := hb4.size
  have hbA : Below w4.heap.size w4 (w4.alloc (.cells #[.slice ax n cx] 26)) := (Below.refl _ _).alloc (Nat.le_refl _) _
  have hV : (w4.alloc (.cells #[.slice ax n cx] 26)).heap[w4.heap.size]? = some (.cells #[.slice ax n cx] 26 (0, 0)) := heap_alloc_new _ _
  have HVB : Hid (0 < n → ∃ r, ax = some ⟨r, 0, none⟩ ∧ w3.heap.size ≤ r ∧ r < w4.heap.size) := (fun hn => by
    obtain ⟨r, cr, e, h1, h2, _⟩ := Fc.OwnE.some ho hn
    cases e
    exact ⟨r, rfl, h1, h2⟩ : 0 < n → ∃ r, ax = some ⟨r, 0, none⟩ ∧ w3.heap.size ≤ r ∧ r < w4.heap.size)
  have hzA : (w4.alloc (.cells #[.slice ax n cx] 26)).heap.size = w4.heap.size + 1 := by simp
  have q0 := Joins.cell_of_block ((hbA.block _ (by omega)).trans r0) 0
  have HA := Lib.hid (And.intro ((hbA.block _ (by omega)).trans r1) (And.intro ((hbA.block _ (by omega)).trans r2) (And.intro hV (And.intro (OwnE.alloc (.cells #[.slice ax n cx] 26) ho) ((HB3.out.trans (hb4.mono HB3.out.size)).trans (hbA.mono (by omega)))))))
  obtain ⟨WA, hWA⟩ : ∃ WA, WA = w4.alloc (.cells #[.slice ax n cx] 26) := ⟨_, rfl⟩
  rw [← hWA] at q0 HA hzA
  have HWA : Hid (w4.alloc (.cells #[.slice ax n cx] 26) = WA) := hWA.symm
  clear r0 r1 r2 ho hb4 hbA hV hWA HB3 HR3 HC3
  go_upto_region 4 with fail
  rw [HWA.out]
  clear HWA
  go_wp2_with fail
  refine (backward_made a n c _).mono ?_
  rintro e w5 ⟨rfl, rfl⟩
  go_wp2_with fail
  obtain ⟨W5, hW5⟩ : ∃ W5, W5 = WA.alloc (.cells #[.slice a n c] 22) := ⟨_, rfl⟩
  have hz5 : W5.heap.size = w4.heap.size + 2 := by rw [hW5]; simp; omega
  have hb5 : Below WA.heap.size WA W5 := by rw [hW5]; exact (Below.refl _ _).alloc (Nat.le_refl _) _
  have hB5 : W5.heap[w4.heap.size + 1]? = some (.cells #[.slice a n c] 22 (0, 0)) := by
    have := heap_alloc_new WA (.cells #[.slice a n c] 22)
    rw [← hW5] at this
    rw [← hzA]
    exact this
  rw [← hW5]
  obtain ⟨j1, j2, j3, j4, j5⟩ := HA.out
  have hinv : Fc.InvX w W5.heap.size w4.heap.size w3.heap.size d m n (.slice ax n cx) [] W5 :=
    ⟨Fc.Past.nil _ _, (hb5.block _ (by omega)).trans j1, (hb5.block _ (by omega)).trans j2, (hb5.block _ (by omega)).trans j3, OwnE.below hb5 j4, j5.trans (hb5.mono (by omega)), Nat.le_refl _⟩
  have hI := Fc.InvX.own w w4.heap.size w3.heap.size W5.heap.size d m n (.slice ax n cx) (by omega)
  have hIx := Fc.LeftX.own w w3.heap.size W5.heap.size d m n (.slice ax n cx) (by omega)
  have hb05 : Below w.heap.size w W5 := j5.trans (hb5.mono (by omega))
  have hse := back_stops 4 (by omega) (w4.heap.size + 1) g o c a d n HN.out.1 W5 (by omega) hc1 hB5 (by omega) HG.out.1 (fun i f hf => by
    have hgg := HG.out.2 (by rintro rfl; simp at hf)
    obtain ⟨q0, q1, q2, q3⟩ := HC.out i f hf
    exact ⟨(hb05.cell (p := ⟨g, o + i * 4, none⟩) hgg).trans q0, (hb05.cell (p := ⟨g, o + i * 4 + 1, none⟩) hgg).trans q1, (hb05.cell (p := ⟨g, o + i * 4 + 2, none⟩) hgg).trans q2, (hb05.cell (p := ⟨g, o + i * 4 + 3, none⟩) hgg).trans q3⟩)
  have hen := enters_of Tryz.func67 (by kernel_rfl) rfl
  clear hW5 hb5 j1 j2 j3 j4 j5 HA q0 hb05 hB5
  refine (wpIn_wide (n := 5)).1 ?_
  refine wpIn_rangeFunc_ownH rfl (by omega) (gf := 67) (lb := #[.pointer (some ⟨w4.heap.size + 1, 0, none⟩)]) rfl trivial hen hse (fun h k => h.trans k) (fun W l o o' hl h2 _ _ => ⟨World.putObj_heap_other (by omega), World.putObj_heap_other (by omega)⟩) (Below.refl _ _) (fun _ => rfl) _ _ hI hIx hinv
    (fun x a' W => ∃ B : Nat, W.heap[B]? = some (.cells #[.string (Lx.str (d[x.1]?.getD ⟨[], 0, 0, 0⟩).name), .int .i64 (d[x.1]?.getD ⟨[], 0, 0, 0⟩).kind, .int .i64 (d[x.1]?.getD ⟨[], 0, 0, 0⟩).lo, .int .i64 (d[x.1]?.getD ⟨[], 0, 0, 0⟩).hi] 64 (0, 0)) ∧
      a' = { tmps := #[.agg #[.slice a n c], u, .pointer (some ⟨w.heap.size, 0, none⟩), undef, .pointer (some ⟨w.heap.size + 1, 0, none⟩), .pointer (some ⟨w.heap.size + 1 + 1, 0, none⟩), .pointer (some ⟨w4.heap.size, 0, none⟩), .int .i64 (x.1 : Nat), .pointer (some ⟨B, 0, none⟩), .agg #[.slice a n c], u, .bool true, .bool false, u, .slice ax n cx, .pointer (some ⟨w.heap.size, 0, none⟩), .slice a n c,
        .func (.func 67) #[] #[.pointer (some ⟨w4.heap.size + 1, 0, none⟩)], .int .i64 (x.1 : Nat), Fc.vF (d[x.1]?.getD ⟨[], 0, 0, 0⟩), undef, undef, undef, undef, undef, undef, undef, undef, undef, undef, undef, undef, undef, undef, undef, undef, undef, undef, undef], defers := [] })
    ?ax ?assign ?body ?done ?stop
  case ax =>
    intro x a' u W W' row ⟨B, h, e⟩ hg hr
    exact ⟨B, cells_kept h hg (fun r e => (hr r e).2), e⟩
  case assign =>
    intro l pre x W K hi hK
    have hWz := hi.2.2.2.2.2.2
    gi_wp2
    refine hK _ _ ((KeepsOthers.alloc W _).from _) ⟨Below.heap_alloc W _ _ (by omega), Below.heap_alloc W _ _ (by omega)⟩ (hI.alloc _ hi) ⟨W.heap.size, heap_alloc_new W _, rfl⟩
  case body =>
    rintro l pre x a' W hll ⟨rl, hrl⟩ hi ⟨B, hB, rfl⟩ hlt
    have HI := Lib.hid hi
    obtain ⟨hpast, r1, r2, hV, hown, hb, hBW⟩ := hi
    obtain ⟨f, hf⟩ : ∃ f, f = d[x.1]?.getD ⟨[], 0, 0, 0⟩ := ⟨_, rfl⟩
    rw [← hf] at hB ⊢
    have hhi : Fc.hiAt d x.1 = f.hi := by rw [hf]; unfold Fc.hiAt; rw [List.getD_eq_getElem?_getD]
    have hlo : Fc.loAt d x.1 = f.lo := by rw [hf]; unfold Fc.loAt; rw [List.getD_eq_getElem?_getD]
    have hxn := x.2
    obtain ⟨r, rfl, hr1, hr2⟩ := HVB.out (by omega)
    have hcl : (Fc.cur d m pre).length = n := by rw [Fc.cur_len, HN.out.2]
    obtain ⟨y, hy⟩ : ∃ y, (Fc.cur d m pre)[x.1]? = some y := ⟨_, List.getElem?_eq_getElem (by omega)⟩
    have hyd : (Fc.cur d m pre).getD x.1 0 = y := by rw [List.getD_eq_getElem?_getD, hy]; rfl
    have hyb := HBND.out pre y (List.mem_of_getElem? hy)
    obtain ⟨_, _, he, hr3, hr4, hrow⟩ := Fc.OwnE.some hown (by omega)
    cases he
    have cr := hrow.cellAt x.1 (by omega)
    rw [Fc.cellsN_get, hy, Option.map_some] at cr
    have ur := hrow.frozenAt x.1
    have cV := Joins.cell_of_block hV 0
    have b2 := Joins.cell_of_block hB 2
    have b3 := Joins.cell_of_block hB 3
    have hxi : (x.1 : Int) < (n : Int) := by omega
    have hx0 : (0 : Int) ≤ (x.1 : Int) := by omega
    have HHL := Lib.hid (fun h : y < f.hi => leftX_of (B2 := W5.heap.size) x y HI.out (by omega) hr1 hyd (by rw [hhi]; exact h))
    have HHI := Lib.hid (fun h : ¬ y < f.hi => invX_of (B2 := W5.heap.size) (Bf := w4.heap.size + 1) (g := g) x y f.lo HI.out (by omega) hr1 hr2 (by omega) (by omega) hyd (by rw [hhi]; exact h) hlo)
    obtain ⟨X, hX⟩ : ∃ X, X = x.1 := ⟨_, rfl⟩
    rw [← hX] at cr ur hxi hx0 HHL HHI ⊢
    have c4 := Joins.cell_of_block r1 0
    have c5 := Joins.cell_of_block r2 0
    have u4 := Joins.unfrozen_of_block r1 0
    have u5 := Joins.unfrozen_of_block r2 0
    have hVl := (Array.getElem?_eq_some_iff.1 hV).1
    clear hX hpast r1 r2 hV hown hb hf hhi hlo hcl hy hyd hrow hinv hI hIx hse hen hB
    have hmx : Tryz.prog.follows .mixedOrders = true := by kernel_rfl
    by_cases hx : y < f.hi
    · gi_wp2
      gi_region_with_o (fail)
      all_goals
        gi_wp2
        exact HHL.out hx
    · gi_wp2
      gi_region_with_o (fail)
      all_goals
        gi_wp2
        exact HHI.out hx
  case done =>
    rintro D xs W hD rfl ⟨hpast, r1, r2, hV, hown, hb, hBW⟩ hK
    have hnx := Fc.next_done HN.out.1 hfit.2 hpast
    have hPP := HP.out
    rw [hnx] at hPP
    have HPP := Lib.hid hPP
    have HS := Lib.hid (stored2_facts r1 r2 hb (.slice none 0 0) (.bool false))
    have HK := Lib.hid hK
    have c4 := Joins.cell_of_block r1 0
    have c5 := Joins.cell_of_block r2 0
    have u4 := Joins.unfrozen_of_block r1 0
    have u5 := Joins.unfrozen_of_block r2 0
    clear hinv hI hIx hse hen hown r1 r2 hV hK hpast hPP hnx hb HP
    go_wp2_with fail
    obtain ⟨r1, r2, hb6, hko, _⟩ := HS.out
    have hKK := hko.same D _ HK.out rfl
    refine ⟨by simp, .inl ⟨_, _, rfl, run_takeDeferred hKK, ?_⟩⟩
    have n1 := cell_kept (Joins.cell_of_block r1 0) (grownBy_putObj' _ D (.deferred none)) (fun r e => by cases e; exact ⟨_, hKK, rfl⟩)
    have n2 := cell_kept (Joins.cell_of_block r2 0) (grownBy_putObj' _ D (.deferred none)) (fun r e => by cases e; exact ⟨_, hKK, rfl⟩)
    refine ⟨_, next_results _ _ _ _ _ _ rfl rfl n1 n2, ?_⟩
    rw [HPP.out]
    exact ⟨rfl, hb6.trans (belowK_b (w := w) (Nat.le_refl _) _ D _ (.deferred none) (by omega) hKK rfl rfl)⟩
  case stop =>
    rintro D c pre W hD ⟨k, hk, hpre⟩
    have hk1 : n - 1 - k < n := by omega
    rintro ⟨rfl, p, x, hpx, hpast, hlt, r1, r2, hown, hb⟩ hK
    have hpk : p = Fc.down n k ∧ x = ⟨n - 1 - k, hk1⟩ := by
      rw [hpx, Fc.down_succ n k hk] at hpre
      obtain ⟨e1, e2⟩ := List.append_inj' hpre rfl
      exact ⟨e1, by simpa using e2⟩
    obtain ⟨rfl, rfl⟩ := hpk
    have hnx := Fc.next_left HN.out.1 hfit.2 hk hpast hlt
    obtain ⟨cc, hcc⟩ : ∃ cc, cc = (Fc.cur d m (Fc.down n k)).set (n - 1 - k) ((Fc.cur d m (Fc.down n k)).getD (n - 1 - k) 0 + 1) := ⟨_, rfl⟩
    have hccl : cc.length = n := by rw [hcc, List.length_set, Fc.cur_len, HN.out.2]
    have hPP := HP.out
    rw [hnx, ← hcc] at hPP
    have hown : OwnE W w3.heap.size 3 (.slice ax n cx) n (Fc.cellsN cc) := by rw [hcc]; exact hown
    have HPP := Lib.hid hPP
    have HOW := Lib.hid hown
    have HH := Lib.hid (And.intro r1 (And.intro r2 (And.intro hb hK)))
    have hD2 := (Array.getElem?_eq_some_iff.1 hK).1
    clear hinv hI hIx hse hen hown r1 r2 hK hpast hPP hnx hb HP hcc hpre hpx hlt
    gi_wp2
    obtain ⟨r1, r2, hb, hK⟩ := HH.out
    refine ⟨by simp, .inl ⟨_, _, rfl, run_takeDeferred hK, ?_⟩⟩
    have hg := grownBy_putObj' W D (.deferred none)
    have hrr : ∀ r, some D = some r → ∃ o : Obj, W.heap[r]? = some o ∧ o.isCells = false := fun r e => by cases e; exact ⟨_, hK, rfl⟩
    have n1 := cell_kept (Joins.cell_of_block r1 0) hg hrr
    have n2 := cell_kept (Joins.cell_of_block r2 0) hg hrr
    refine ⟨_, next_results _ _ _ _ _ _ rfl rfl n1 n2, ?_⟩
    rw [HPP.out]
    refine ⟨⟨_, rfl, ?_⟩, hb.trans (belowK_b (w := w) (Nat.le_refl _) W D _ (.deferred none) (by omega) hK rfl rfl)⟩
    have := Fc.OwnE.kept HOW.out hg hrr
    rw [hccl]
    exact Fc.OwnE.mono this (by omega)
end Go.Proofs.YtoamkanofhhjfaaGreatDoor
