/-
  Formulas that a call builds: worlds with blocks left out, rows of formulas, the walk of slices.Clone.
-/
import Derived.Test.YtjcaingfeaaakaaMSmall
import Derived.Test.YtjcaingfeaaakaaMRefA
import Derived.OwnWalk
import Derived.Laws.OwnMore
import Derived.Deep.AppendLies
import Derived.Deep.RegionHeld3
import Derived.Test.YtjcaingfeaaakaaFApp
namespace Go.Proofs.Ytjcaingfeaaakaa
open Go.RowKit

theorem fo_info : (Try.prog.info? 24).map (fun i => (i.zero, i.size, i.bytes)) = some (some (.agg #[.int .i64 0, .string ⟨#[]⟩, .int .i64 0, .int .i64 0, .slice none 0 0]), 5, 64) := by kernel_rfl

namespace Fm
open Lx
/-- A world in which some blocks hold nothing. -/
def era (p : Nat → Bool) (w : World) : World := { w with heap := w.heap.mapIdx fun k o => if p k then .deferred none else o }
theorem era_size (p : Nat → Bool) (w : World) : (era p w).heap.size = w.heap.size := by simp [era]
theorem era_get (p : Nat → Bool) (w : World) (k : Nat) : (era p w).heap[k]? = (w.heap[k]?).map fun o => if p k then .deferred none else o := by simp [era]
theorem era_cell {p : Nat → Bool} {w : World} {a : Addr} {v : Value} : (era p w).cell? a = some v ↔ p a.block = false ∧ w.cell? a = some v := by
  cases hp : p a.block with
  | true =>
    have : (era p w).cell? a = none := by
      unfold World.cell?
      rw [era_get, hp]
      cases w.heap[a.block]? <;> rfl
    rw [this]; simp
  | false =>
    have : (era p w).heap[a.block]? = w.heap[a.block]? := by rw [era_get, hp]; cases w.heap[a.block]? <;> simp
    rw [World.cell?_of_block this]; simp
mutual
/-- What is read is read wherever the cells are. -/
theorem At.incl {w w' : World} (hz : ∀ g i v, w.cell? ⟨g, i, none⟩ = some v → w'.cell? ⟨g, i, none⟩ = some v) : ∀ (f : Fo) (u : Value), At w f u → At w' f u
  | .mk o x c n ks, u, h => by
    rw [At] at h ⊢
    obtain ⟨hs, a, cap, e, h1, h2, h3⟩ := h
    refine ⟨hs, a, cap, e, h1, h2, fun hne => ?_⟩
    obtain ⟨g, i, e2, hg, hr⟩ := h3 hne
    have hr2 := Row.incl hz ks g i hr
    refine ⟨g, i, e2, ?_, hr2⟩
    cases ks with
    | nil => exact absurd rfl hne
    | cons k ks => rw [Row] at hr2; exact block_lt_of_cell hr2.1.1
theorem Row.incl {w w' : World} (hz : ∀ g i v, w.cell? ⟨g, i, none⟩ = some v → w'.cell? ⟨g, i, none⟩ = some v) : ∀ (ks : List Fo) (g i : Nat), Row w ks g i → Row w' ks g i
  | [], _, _, _ => by rw [Row]; trivial
  | k :: ks, g, i, h => by
    rw [Row] at h ⊢
    obtain ⟨⟨p0, p1, p2, p3⟩, ⟨u, p4, hu⟩, hr⟩ := h
    exact ⟨⟨hz _ _ _ p0, hz _ _ _ p1, hz _ _ _ p2, hz _ _ _ p3⟩, ⟨u, hz _ _ _ p4, At.incl hz k u hu⟩, Row.incl hz ks g (i + 5) hr⟩
end
theorem At.shown {p : Nat → Bool} {w : World} {f : Fo} {u : Value} (h : At (era p w) f u) : At w f u := At.incl (fun _ _ _ hv => (era_cell.1 hv).2) f u h
/-- From one part of a world to a greater part of another one. -/
theorem At.era {p q : Nat → Bool} {w w' : World} {f : Fo} {u : Value} (h : At (era p w) f u) (hpq : ∀ k, k < w.heap.size → p k = false → q k = false ∧ w'.heap[k]? = w.heap[k]?) : At (Fm.era q w') f u := by
  refine At.incl (fun g i v hv => ?_) f u h
  obtain ⟨h1, h2⟩ := era_cell.1 hv
  obtain ⟨h3, h4⟩ := hpq g (block_lt_of_cell h2) h1
  exact era_cell.2 ⟨h3, by rw [World.cell?_of_block (w := w) h4]; exact h2⟩
/-- The tree lies in blocks that the call has made. -/
def AtNew (base : Nat) (w : World) (f : Fo) (u : Value) : Prop := At (Fm.era (fun b => decide (b < base)) w) f u
theorem AtNew.at {base : Nat} {w : World} {f : Fo} {u : Value} (h : AtNew base w f u) : At w f u := At.shown h
/-- The cells of a formula in a block. -/
def Cells (w : World) (g i : Nat) (f : Fo) (u : Value) : Prop :=
  w.cell? ⟨g, i, none⟩ = some (.int .i64 f.op) ∧ w.cell? ⟨g, i + 1, none⟩ = some (.string (str f.name)) ∧ w.cell? ⟨g, i + 2, none⟩ = some (.int .i64 f.cmp) ∧ w.cell? ⟨g, i + 3, none⟩ = some (.int .i64 f.num) ∧ w.cell? ⟨g, i + 4, none⟩ = some u
theorem Cells.block {w w' : World} {g i : Nat} {f : Fo} {u : Value} (h : Cells w g i f u) (hb : w'.heap[g]? = w.heap[g]?) : Cells w' g i f u := by
  obtain ⟨h0, h1, h2, h3, h4⟩ := h
  have e : ∀ j, w'.cell? ⟨g, j, none⟩ = w.cell? ⟨g, j, none⟩ := fun j => World.cell?_of_block (w := w) hb
  exact ⟨(e _).trans h0, (e _).trans h1, (e _).trans h2, (e _).trans h3, (e _).trans h4⟩
def cellsF (f : Fo) (u : Value) : List Value := [.int .i64 f.op, .string (str f.name), .int .i64 f.cmp, .int .i64 f.num, u]
/-- The cells of the kids of a formula, as they lie in the world w. -/
theorem Row.cells {w : World} : ∀ (ks : List Fo) (g i : Nat), Row w ks g i → ∃ us : List Value, us.length = ks.length ∧ (∀ (j : Nat) (k : Fo) (u : Value), ks[j]? = some k → us[j]? = some u → At w k u) ∧
    ∃ cs : List Value, cs.length = ks.length * 5 ∧ (∀ (j : Nat) (v : Value), cs[j]? = some v → w.cell? ⟨g, i + j, none⟩ = some v) ∧ (∀ v ∈ cs, v.oneCell' = true) ∧ (∀ (j : Nat) (k : Fo) (u : Value), ks[j]? = some k → us[j]? = some u → cs[j * 5]? = some (.int .i64 k.op) ∧ cs[j * 5 + 1]? = some (.string (str k.name)) ∧ cs[j * 5 + 2]? = some (.int .i64 k.cmp) ∧ cs[j * 5 + 3]? = some (.int .i64 k.num) ∧ cs[j * 5 + 4]? = some u)
  | [], g, i, _ => ⟨[], rfl, by simp, [], rfl, by simp, by simp, by simp⟩
  | k :: ks, g, i, h => by
    rw [Row] at h
    obtain ⟨⟨p0, p1, p2, p3⟩, ⟨u, p4, hu⟩, hr⟩ := h
    obtain ⟨us, hl, hat, cs, hcl, hc, h1, hget⟩ := Row.cells ks g (i + 5) hr
    obtain ⟨ua, uc, hue, _, _⟩ := hu.kidsAt.len
    refine ⟨u :: us, by simp [hl], fun j y v hy hv => ?_, cellsF k u ++ cs, by simp [cellsF, hcl]; omega, fun j v hv => ?_, fun v hv => ?_, fun j y v hy hv => ?_⟩
    · cases j with
      | zero => obtain rfl : k = y := by simpa using hy
                obtain rfl : u = v := by simpa using hv
                exact hu
      | succ j => exact hat j y v (by simpa using hy) (by simpa using hv)
    · match j, hv with
      | 0, hv => obtain rfl : Value.int .i64 k.op = v := by simpa [cellsF] using hv
                 exact p0
      | 1, hv => obtain rfl : Value.string (str k.name) = v := by simpa [cellsF] using hv
                 exact p1
      | 2, hv => obtain rfl : Value.int .i64 k.cmp = v := by simpa [cellsF] using hv
                 exact p2
      | 3, hv => obtain rfl : Value.int .i64 k.num = v := by simpa [cellsF] using hv
                 exact p3
      | 4, hv => obtain rfl : u = v := by simpa [cellsF] using hv
                 exact p4
      | j + 5, hv =>
        have := hc j v (by rw [List.getElem?_append_right (by simp [cellsF])] at hv; simpa [cellsF] using hv)
        rwa [show i + (j + 5) = i + 5 + j by omega]
    · rcases List.mem_append.1 hv with hv | hv
      · simp only [cellsF, List.mem_cons, List.not_mem_nil, or_false] at hv
        rcases hv with rfl | rfl | rfl | rfl | rfl
        · rfl
        · rfl
        · rfl
        · rfl
        · rw [hue]; rfl
      · exact h1 v hv
    · cases j with
      | zero => obtain rfl : k = y := by simpa using hy
                obtain rfl : u = v := by simpa using hv
                refine ⟨rfl, rfl, rfl, rfl, rfl⟩
      | succ j =>
        obtain ⟨q0, q1, q2, q3, q4⟩ := hget j y v (by simpa using hy) (by simpa using hv)
        have e : ∀ r, (cellsF k u ++ cs)[(j + 1) * 5 + r]? = cs[j * 5 + r]? := fun r => by
          rw [List.getElem?_append_right (by simp [cellsF]; omega)]
          congr 1; simp [cellsF]; omega
        exact ⟨(e 0).trans q0, (e 1).trans q1, (e 2).trans q2, (e 3).trans q3, (e 4).trans q4⟩
end Fm

theorem run_append_empty {P : Program} (w : World) (t ty : TypeId) (base : Nat) (e : TypeId) (i : TypeInfo) (z : Value) (size bytes : Nat) (ht : P.underlying t = some (.slice e)) (hi : P.info? e = some i) (hz : i.zero = some z)
    (hsize : i.size = size) (hby : i.bytes = bytes) (hzs : z.cells.size = size) (hsz : 0 < size) (a0 : Option Addr)
    (ad : Addr) (m c : Nat) (news : List Value) (hl : news.length = m * size) (hnews : ∀ j u, news[j]? = some u → w.cell? (ad.add j) = some u) (h1 : ∀ u ∈ news, u.oneCell' = true)
    (hm : 0 < m) (h63 : m ≤ maxLen) (hbytes : m * bytes ≤ 140737488355328) (hbase : base ≤ w.heap.size) :
    ∃ g cap w', (Builtin.append_ #[t, t] ty #[.slice a0 0 0, .slice (some ad) m c]).run P w = .ok (.slice (some ⟨g, 0, none⟩) m cap) w' ∧ w'.ownsRow base e size (.slice (some ⟨g, 0, none⟩) m cap) m news ∧ Below w.heap.size w w' ∧ w.heap.size ≤ g := by
  obtain ⟨g, cap, w', r1, r2, r3, r4, _⟩ := run_append_lies (P := P) w t ty base e i z size bytes ht hi hz hsize hby hzs hsz (.slice none 0 0) 0 [] (World.ownsRow_nil _ _ _ _) ad m c news hl hnews h1 hm (by omega) (by rw [Nat.zero_add]; exact hbytes) hbase _ rfl
  rw [Nat.zero_add] at r1 r2
  rw [List.nil_append] at r2
  have hb : Below w.heap.size w w' := (Below.refl _ _).grown r3 (Nat.le_refl _) (fun k h => by cases h)
  have hg : w.heap.size ≤ g := by
    rcases r4 with h | h
    · cases h
    · omega
  refine ⟨g, cap, w', ?_, r2, hb, hg⟩
  cases a0 with
  | none => exact r1
  | some a =>
    have hn : ¬ m = 0 := by omega
    have hno : ¬ (281474976710656 < Builtin.nextslicecap m 0 * i.bytes) := by
      have := growslice_fits (need := m) (old := 0) (bytes := i.bytes) hm (by rw [hby]; exact hbytes)
      omega
    rw [← r1]
    simp [Builtin.append_, run_underlying ht, Builtin.lenOf, Builtin.firstCells, sizeOf, typeInfo, hi, hsize, Result.andThen, loadCells, loadCellsFrom, hn, hno]

namespace Fm
/-- What Clone of the kids of a formula answers: an empty slice, or a row of the call's own in block g that holds what the kids are. -/
def Cloned (base : Nat) (ks : List Fo) (w0 : World) (v : Value) (w : World) : Prop :=
  (ks = [] ∧ ∃ a c, v = .slice a 0 c ∧ c ≤ 9223372036854775807) ∨
  (ks ≠ [] ∧ ∃ g c cs, v = .slice (some ⟨g, 0, none⟩) ks.length c ∧ ks.length ≤ c ∧ c ≤ 9223372036854775807 ∧ base ≤ g ∧ w.heap[g]? = some (.cells cs 24 (0, 0)) ∧ ∀ j k, ks[j]? = some k → ∃ u, Cells w g (j * 5) k u ∧ At w0 k u)
end Fm

theorem eqK_some (ad : Addr) (n c : Nat) (w : World) : (binOp BinOp.eql 22 (.slice (some ad) n c) (.slice none 0 0)).run Try.prog w = .ok (.bool false) w := by kernel_rfl
theorem eqK_none (n c : Nat) (w : World) : (binOp BinOp.eql 22 (.slice none n c) (.slice none 0 0)).run Try.prog w = .ok (.bool true) w := by kernel_rfl
/-- At the list of a region's operations: the kids behind an empty slice. -/
theorem wpList_append_kids {ops : Array Oper} {rest : List Oper} {o : Oper} {a : Act} {Q : Exit → Act → World → Prop} (w : World) (hg : o.guard = none) (s x : Operand)
    (ho : o.op = .call { callee := .builtin .append, args := #[s, x], argTypes := #[22, 22] }) (a0 : Option Addr) (hs : a.eval s = .slice a0 0 0)
    (base : Nat) (ks : List Fm.Fo) (u : Value) (hv : a.eval x = u) (w0 : World) (hk : Fm.IsK w0 u ks) (hb0 : Below w0.heap.size w0 w) (hn : ks.length ≤ 1000000) (hbase : base ≤ w.heap.size)
    (h : ∀ v' w', Fm.Cloned base ks w0 v' w' → Below w.heap.size w w' → wpList Try.prog ops Q rest (a.put o.dst v') w') :
    wpList Try.prog ops Q (o :: rest) a w := by
  refine wpList_plain hg fun K hK' => ?_
  obtain ⟨i, hi, hz0, hz1, hz2⟩ := info_parts fo_info
  have key : ∃ v' w', (Builtin.append_ #[22, 22] o.type #[.slice a0 0 0, u]).run Try.prog w = .ok v' w' ∧ Fm.Cloned base ks w0 v' w' ∧ Below w.heap.size w w' := by
    obtain ⟨ax, cx, rfl, hc1, hc2, hc3⟩ := hk
    by_cases h0 : ks = []
    · subst h0
      exact ⟨_, _, run_append_none w _ _ 24 i Try.underlying22 hi a0 ax 0 0 cx (Nat.le_refl _), .inl ⟨rfl, a0, 0, rfl, by decide⟩, Below.refl _ _⟩
    · obtain ⟨g, off, rfl, hlt, hr⟩ := hc3 h0
      obtain ⟨us, hul, hat, cs, hcl, hc, h1, hget⟩ := hr.cells
      have hp : 0 < ks.length := by
        rcases Nat.eq_zero_or_pos ks.length with h | h
        · exact absurd (List.length_eq_zero_iff.1 h) h0
        · exact h
      obtain ⟨g', cap, w', r1, r2, r3, r4⟩ := run_append_empty (P := Try.prog) w 22 o.type base 24 i _ 5 64 Try.underlying22 hi hz0 hz1 hz2 rfl (by decide) a0 ⟨g, off, none⟩ ks.length cx cs hcl (fun j v hv => by rw [Go.WideShapes.add_plain]; exact (hb0.cell (p := ⟨g, off + j, none⟩) hlt).trans (hc j v hv)) h1 hp (by unfold maxLen; omega) (by omega) hbase
      refine ⟨_, w', r1, .inr ⟨h0, g', cap, ?_⟩, r3⟩
      have r2' := r2
      rcases r2.2 with ⟨_, h⟩ | ⟨g2, cap2, cur, e, hb', hg', hn', hcm, _, _⟩
      · omega
      · obtain ⟨rfl, rfl⟩ : g' = g2 ∧ cap = cap2 := by cases e; exact ⟨rfl, rfl⟩
        refine ⟨cur, rfl, hn', by unfold maxLen at hcm; omega, hb', hg', fun j k hj => ?_⟩
        have hjl := (List.getElem?_eq_some_iff.1 hj).1
        obtain ⟨uu, huu⟩ : ∃ uu, us[j]? = some uu := ⟨_, List.getElem?_eq_getElem (by omega)⟩
        obtain ⟨q0, q1, q2, q3, q4⟩ := hget j k uu hj huu
        exact ⟨uu, ⟨(World.ownsRow.cellAt r2' _ (by omega)).trans q0, (World.ownsRow.cellAt r2' _ (by omega)).trans q1, (World.ownsRow.cellAt r2' _ (by omega)).trans q2, (World.ownsRow.cellAt r2' _ (by omega)).trans q3, (World.ownsRow.cellAt r2' _ (by omega)).trans q4⟩, hat j k uu hj huu⟩
  obtain ⟨v', w', hr, h2, h3⟩ := key
  unfold Oper.wp execOp
  simp only [ho, resolve, invoke, builtin, Sem.run_bind, Sem.run_pure, Result.andThen_ok, List.map_toArray, List.map_cons, List.map_nil, hs, hv, hr]
  exact hK' _ _ (h v' w' h2 h3)

set_option maxHeartbeats 2000000 in
set_option maxRecDepth 100000 in
theorem fclone_walk (u : Value) (ks : List Fm.Fo) (w0 w : World) (hu : Fm.IsK w0 u ks) (hb0 : Below w0.heap.size w0 w) (hm : ks.length ≤ 1000000) :
    Calls Try.prog 45 #[u] w fun e w' => (∃ v, e = .returned v ∧ Fm.Cloned w.heap.size ks w0 v w') ∧ Below w.heap.size w w' := by
  have HU := Lib.hid hu
  obtain ⟨a, c, e, h1, h2, h3⟩ := hu
  subst e
  obtain ⟨n, hn⟩ : ∃ n, n = ks.length := ⟨_, rfl⟩
  rw [← hn] at HU ⊢
  have HN := Lib.hid hn
  cases a with
  | none =>
    have hm0 : ks = [] := by
      by_cases h0 : ks = []
      · exact h0
      · obtain ⟨_, _, h, _⟩ := h3 h0; cases h
    subst hm0
    obtain rfl : n = 0 := hn
    clear h3 HU
    have hq := fun w => eqK_none 0 c w
    go_enter Try.func45, Try.ntmps45
    go_wp2_with fail
    go_ret
    exact ⟨⟨_, rfl, .inl ⟨rfl, none, 0, rfl, by decide⟩⟩, Below.refl _ _⟩
  | some ad =>
    have hmm : ks.length ≤ 1000000 := hm
    clear h3
    go_enter Try.func45, Try.ntmps45
    have hq := fun w => eqK_some ad n c w
    clear hn
    go_wp2_with (first | (at_builtin; refine wpList_append_kids _ rfl _ _ rfl _ rfl w.heap.size ks _ rfl w0 HU.out (hb0.trans (((Below.refl w.heap.size w).alloc (Nat.le_refl _) _).mono hb0.size)) hmm (by simp) ?_; intro v9 w9 ho9 hb9))
    go_wp2_with fail
    go_ret
    exact ⟨⟨_, rfl, ho9⟩, ((Below.refl w.heap.size w).alloc (Nat.le_refl _) _).trans (hb9.mono (by simp))⟩

/-! ### A formula stored into a row -/
namespace Fm
open Lx
/-- Five stores. -/
abbrev set5 (w : World) (g i : Nat) (f : Fo) (u : Value) : World := ((((w.setCell ⟨g, i, none⟩ (.int .i64 f.op)).setCell ⟨g, i + 1, none⟩ (.string (str f.name))).setCell ⟨g, i + 2, none⟩ (.int .i64 f.cmp)).setCell ⟨g, i + 3, none⟩ (.int .i64 f.num)).setCell ⟨g, i + 4, none⟩ u
theorem set5_other {w : World} {g i k : Nat} {f : Fo} {u : Value} (h : k ≠ g) : (set5 w g i f u).heap[k]? = w.heap[k]? := by
  unfold set5
  rw [Below.heap_setCell _ _ _ _ h, Below.heap_setCell _ _ _ _ h, Below.heap_setCell _ _ _ _ h, Below.heap_setCell _ _ _ _ h, Below.heap_setCell _ _ _ _ h]
theorem set5_block {w : World} {g i : Nat} {f : Fo} {u : Value} {cs : Array Value} {t : TypeId} {fr : Nat × Nat} (h : w.heap[g]? = some (.cells cs t fr)) : ∃ cs', (set5 w g i f u).heap[g]? = some (.cells cs' t fr) ∧ cs'.size = cs.size :=
  ⟨_, Joins.block_setCell (Joins.block_setCell (Joins.block_setCell (Joins.block_setCell (Joins.block_setCell h _) _) _) _) _, by simp⟩
theorem set5_size (w : World) (g i : Nat) (f : Fo) (u : Value) : (set5 w g i f u).heap.size = w.heap.size := by simp [set5, World.setCell]
theorem sc_other {w : World} {g i j : Nat} {v : Value} (h : i ≠ j) : (w.setCell ⟨g, i, none⟩ v).cell? ⟨g, j, none⟩ = w.cell? ⟨g, j, none⟩ := by
  apply World.cell?_setCell_other
  intro e
  exact h (congrArg Addr.off e)
theorem sc_same {w : World} {g i : Nat} {x v : Value} (h : w.cell? ⟨g, i, none⟩ = some x) : (w.setCell ⟨g, i, none⟩ v).cell? ⟨g, i, none⟩ = some v := World.cell?_setCell_same' _ _ _ (by rw [h]; rfl)
theorem set5_far {w : World} {g i j : Nat} {f : Fo} {u : Value} (h : j < i ∨ i + 5 ≤ j) : (set5 w g i f u).cell? ⟨g, j, none⟩ = w.cell? ⟨g, j, none⟩ := by
  unfold set5
  rw [sc_other (by omega), sc_other (by omega), sc_other (by omega), sc_other (by omega), sc_other (by omega)]
theorem set5_cells {w : World} {g i : Nat} {f0 f : Fo} {u0 u : Value} (h : Cells w g i f0 u0) : Cells (set5 w g i f u) g i f u := by
  obtain ⟨h0, h1, h2, h3, h4⟩ := h
  unfold set5
  refine ⟨?_, ?_, ?_, ?_, ?_⟩
  · rw [sc_other (by omega), sc_other (by omega), sc_other (by omega), sc_other (by omega)]
    exact sc_same h0
  · rw [sc_other (by omega), sc_other (by omega), sc_other (by omega)]
    exact sc_same ((sc_other (by omega)).trans h1)
  · rw [sc_other (by omega), sc_other (by omega)]
    exact sc_same ((sc_other (by omega)).trans ((sc_other (by omega)).trans h2))
  · rw [sc_other (by omega)]
    exact sc_same ((sc_other (by omega)).trans ((sc_other (by omega)).trans ((sc_other (by omega)).trans h3)))
  · exact sc_same ((sc_other (by omega)).trans ((sc_other (by omega)).trans ((sc_other (by omega)).trans ((sc_other (by omega)).trans h4))))
/-- All blocks but one are as they were. -/
structure Off (g : Nat) (W w' : World) : Prop where
  os : w'.os = W.os
  tape : w'.tape = W.tape
  output : w'.output = W.output
  size : W.heap.size ≤ w'.heap.size
  block : ∀ k, k < W.heap.size → k ≠ g → w'.heap[k]? = W.heap[k]?
theorem Off.of {g : Nat} {W w' : World} (h : Below W.heap.size W w') : Off g W w' := ⟨h.os, h.tape, h.output, h.size, fun k hk _ => h.block k hk⟩
theorem Off.drew (g : Nat) (W : World) : Off g W W.drew := .of (Below.refl _ _).drew
theorem Off.step {g : Nat} {W w1 w2 : World} (hb : Below w1.heap.size w1 w2) (h : Off g W w1) : Off g W w2 := ⟨hb.os.trans h.os, hb.tape.trans h.tape, hb.output.trans h.output, Nat.le_trans h.size hb.size, fun k hk hn => (hb.block k (Nat.lt_of_lt_of_le hk h.size)).trans (h.block k hk hn)⟩
theorem Off.set {g i : Nat} {W w1 : World} (v : Value) (h : Off g W w1) : Off g W (w1.setCell ⟨g, i, none⟩ v) := ⟨h.os, h.tape, h.output, by simpa [World.setCell] using h.size, fun k hk hn => (Below.heap_setCell _ _ _ _ hn).trans (h.block k hk hn)⟩
theorem Off.cell {g : Nat} {W w' : World} (h : Off g W w') {k i : Nat} {v : Value} (hk : k < W.heap.size) (hn : k ≠ g) (hc : W.cell? ⟨k, i, none⟩ = some v) : w'.cell? ⟨k, i, none⟩ = some v := by rw [World.cell?_of_block (w := W) (h.block k hk hn)]; exact hc
theorem Off.below {g B : Nat} {W w' : World} (h : Off g W w') (hB : B ≤ g) (hz : B ≤ W.heap.size) : Below B W w' := ⟨h.os, h.tape, h.output, h.size, fun k hk => h.block k (by omega) (by omega)⟩
/-- A row of formulas in block g while it is filled: of the first i formulas what E makes of them. -/
def RowSt (w : World) (base g i : Nat) (E : Fo → Fo) (ks : List Fo) (W : World) : Prop :=
  (∃ cs, W.heap[g]? = some (.cells cs 24 (0, 0))) ∧ ∀ j k, ks[j]? = some k → (j < i → ∃ u, Cells W g (j * 5) (E k) u ∧ At (era (fun b => decide (b < base) || b == g) W) (E k) u) ∧ (i ≤ j → ∃ u, Cells W g (j * 5) k u ∧ At w k u)
theorem RowSt.next {w : World} {base g i : Nat} {E : Fo → Fo} {ks : List Fo} {W W' : World} (h : RowSt w base g i E ks W) (hb : Below W.heap.size W W') : RowSt w base g i E ks W' := by
  obtain ⟨⟨cs, hc⟩, h2⟩ := h
  have hg := hb.block g (Array.getElem?_eq_some_iff.1 hc).1
  refine ⟨⟨cs, hg.trans hc⟩, fun j k hj => ⟨fun hji => ?_, fun hij => ?_⟩⟩
  · obtain ⟨u, h3, h4⟩ := (h2 j k hj).1 hji
    exact ⟨u, h3.block hg, h4.era fun k hk hp => ⟨hp, hb.block k hk⟩⟩
  · obtain ⟨u, h3, h4⟩ := (h2 j k hj).2 hij
    exact ⟨u, h3.block hg, h4⟩
/-- One more is stored. -/
theorem RowSt.store {w : World} {base g i : Nat} {E : Fo → Fo} {ks : List Fo} {W W5 : World} {k : Fo} {u : Value} (h : RowSt w base g i E ks W) (hk : ks[i]? = some k) (hb : Below W.heap.size W W5) (hw : base ≤ W.heap.size)
    (hn : AtNew W.heap.size W5 (E k) u) : RowSt w base g (i + 1) E ks (set5 W5 g (i * 5) (E k) u) := by
  obtain ⟨⟨cs, hc⟩, h2⟩ := h.next hb
  have hgl : g < W.heap.size := (Array.getElem?_eq_some_iff.1 h.1.choose_spec).1
  have hera : ∀ (f : Fo) (v : Value), At (era (fun b => decide (b < base) || b == g) W5) f v → At (era (fun b => decide (b < base) || b == g) (set5 W5 g (i * 5) (E k) u)) f v := fun f v hv =>
    hv.era fun k hk hp => ⟨hp, set5_other (by simp at hp; omega)⟩
  refine ⟨?_, fun j y hj => ⟨fun hji => ?_, fun hij => ?_⟩⟩
  · obtain ⟨cs', h, _⟩ := set5_block (i := i * 5) (f := E k) (u := u) hc
    exact ⟨cs', h⟩
  · by_cases e : j = i
    · subst e
      rw [hk] at hj
      obtain rfl := Option.some.inj hj
      obtain ⟨u0, h3, _⟩ := (h2 j k hk).2 (Nat.le_refl _)
      refine ⟨u, set5_cells h3, hera _ _ (hn.era fun b hb' hp => ⟨?_, rfl⟩)⟩
      simp at hp ⊢
      omega
    · obtain ⟨v, h3, h4⟩ := (h2 j y hj).1 (by omega)
      obtain ⟨q0, q1, q2, q3, q4⟩ := h3
      exact ⟨v, ⟨(set5_far (by omega)).trans q0, (set5_far (by omega)).trans q1, (set5_far (by omega)).trans q2, (set5_far (by omega)).trans q3, (set5_far (by omega)).trans q4⟩, hera _ _ h4⟩
  · obtain ⟨v, h3, h4⟩ := (h2 j y hj).2 (by omega)
    obtain ⟨q0, q1, q2, q3, q4⟩ := h3
    exact ⟨v, ⟨(set5_far (by omega)).trans q0, (set5_far (by omega)).trans q1, (set5_far (by omega)).trans q2, (set5_far (by omega)).trans q3, (set5_far (by omega)).trans q4⟩, h4⟩
/-- The row is full. -/
theorem RowSt.full {w : World} {base g : Nat} {E : Fo → Fo} {ks : List Fo} {W : World} (h : RowSt w base g ks.length E ks W) (hg : base ≤ g) : Row (era (fun b => decide (b < base)) W) (ks.map E) g 0 := by
  refine Row.of fun j k hj => ?_
  rw [List.getElem?_map] at hj
  obtain ⟨y, hy, rfl⟩ : ∃ y, ks[j]? = some y ∧ E y = k := by
    cases hx : ks[j]? with
    | none => rw [hx] at hj; cases hj
    | some y => rw [hx] at hj; exact ⟨y, rfl, Option.some.inj hj⟩
  obtain ⟨u, ⟨q0, q1, q2, q3, q4⟩, h4⟩ := (h.2 j y hy).1 (List.getElem?_eq_some_iff.1 hy).1
  have e : ∀ i v, W.cell? ⟨g, i, none⟩ = some v → (era (fun b => decide (b < base)) W).cell? ⟨g, 0 + i, none⟩ = some v := fun i v h => by
    rw [Nat.zero_add]; exact era_cell.2 ⟨by simp; omega, h⟩
  refine ⟨⟨e _ _ q0, e _ _ q1, e _ _ q2, e _ _ q3⟩, u, e _ _ q4, h4.era fun b hb hp => ⟨?_, rfl⟩⟩
  simp at hp ⊢
  omega
/-- The state of a call that fills the row of a formula's kids: the formula's box, the result's box, the row. -/
structure KSt (w : World) (f : Fo) (v : Value) (E : Fo → Fo) (ks : List Fo) (va : Option Addr) (e b : Nat) (i : Nat) (W : World) : Prop where
  box : W.heap[e]? = some (.cells #[.int .i64 f.op, .string (Lx.str f.name), .int .i64 f.cmp, .int .i64 f.num, v] 24 (0, 0))
  out : W.heap[b]? = some (.cells #[.int .i64 0, .string ⟨#[]⟩, .int .i64 0, .int .i64 0, .slice none 0 0] 24 (0, 0))
  below : Below w.heap.size w W
  row : ks ≠ [] → ∃ g, va = some ⟨g, 0, none⟩ ∧ b < g ∧ RowSt w (b + 1) g i E ks W
theorem KSt.next {w : World} {f : Fo} {v : Value} {E : Fo → Fo} {ks : List Fo} {va : Option Addr} {e b i : Nat} {W W' : World} (h : KSt w f v E ks va e b i W) (hb : Below W.heap.size W W') : KSt w f v E ks va e b i W' :=
  ⟨(hb.block _ (Array.getElem?_eq_some_iff.1 h.box).1).trans h.box, (hb.block _ (Array.getElem?_eq_some_iff.1 h.out).1).trans h.out, h.below.trans (hb.mono h.below.size), fun hne => by
    obtain ⟨g, h1, h2, h3⟩ := h.row hne
    exact ⟨g, h1, h2, h3.next hb⟩⟩
theorem KSt.store {w : World} {f : Fo} {v : Value} {E : Fo → Fo} {ks : List Fo} {g e b i : Nat} {W W5 : World} {k : Fo} {u : Value} (h : KSt w f v E ks (some ⟨g, 0, none⟩) e b i W) (hk : ks[i]? = some k) (hb : Below W.heap.size W W5) (he : e < b) (hwb : w.heap.size ≤ b)
    (hn : AtNew W.heap.size W5 (E k) u) : KSt w f v E ks (some ⟨g, 0, none⟩) e b (i + 1) (set5 W5 g (i * 5) (E k) u) := by
  obtain ⟨g', h1, h2, h3⟩ := h.row (by rintro rfl; simp at hk)
  obtain rfl : g = g' := by cases h1; rfl
  have hx := h.next hb
  have hbl := (Array.getElem?_eq_some_iff.1 h.out).1
  refine ⟨(set5_other (by omega)).trans hx.box, (set5_other (by omega)).trans hx.out, ?_, fun _ => ⟨g, rfl, h2, h3.store hk hb (by omega) hn⟩⟩
  exact ((((hx.below.setCell (p := ⟨g, i * 5, none⟩) (by show w.heap.size ≤ g; omega) _).setCell (p := ⟨g, i * 5 + 1, none⟩) (by show w.heap.size ≤ g; omega) _).setCell (p := ⟨g, i * 5 + 2, none⟩) (by show w.heap.size ≤ g; omega) _).setCell (p := ⟨g, i * 5 + 3, none⟩) (by show w.heap.size ≤ g; omega) _).setCell (p := ⟨g, i * 5 + 4, none⟩) (by show w.heap.size ≤ g; omega) _
theorem KSt.start {w : World} {f : Fo} {E : Fo → Fo} {ks : List Fo} {va : Option Addr} {vc e b base : Nat} {u : Value} {W : World} (hcl : Cloned base ks w (.slice va ks.length vc) W) (hbase : b < base) (he : e < b) (hwe : w.heap.size ≤ e)
    (h0 : W.heap[e]? = some (.cells #[.int .i64 f.op, .string (Lx.str f.name), .int .i64 f.cmp, .int .i64 f.num, u] 24 (0, 0))) (h1 : W.heap[b]? = some (.cells #[.int .i64 0, .string ⟨#[]⟩, .int .i64 0, .int .i64 0, .slice none 0 0] 24 (0, 0))) (hb : Below w.heap.size w W) :
    KSt w f (.slice va ks.length vc) E ks va e b 0 (W.setCell ⟨e, 4, none⟩ (.slice va ks.length vc)) := by
  refine ⟨by rw [Joins.block_setCell h0]; rfl, (Below.heap_setCell _ _ _ _ (by show b ≠ e; omega)).trans h1, hb.setCell (p := ⟨e, 4, none⟩) hwe _, fun hne => ?_⟩
  rcases hcl with ⟨h, _⟩ | ⟨_, g, c, cs, hv, _, _, hg, hcs, hk⟩
  · exact absurd h hne
  · cases hv
    have hge : (W.setCell ⟨e, 4, none⟩ (.slice (some ⟨g, 0, none⟩) ks.length vc)).heap[g]? = W.heap[g]? := Below.heap_setCell _ _ _ _ (by show g ≠ e; omega)
    exact ⟨g, rfl, by omega, ⟨cs, hge.trans hcs⟩, fun j k hj => ⟨fun h => absurd h (by omega), fun _ => by obtain ⟨u, h3, h4⟩ := hk j k hj; exact ⟨u, h3.block hge, h4⟩⟩⟩
/-- The end: the formula with its new kids is stored as the result. -/
theorem KSt.done {w : World} {f : Fo} {E : Fo → Fo} {ks : List Fo} {va : Option Addr} {vc e b : Nat} {W : World} (h : KSt w f (.slice va ks.length vc) E ks va e b ks.length W) (hwb : w.heap.size ≤ b) (hs : Sized f) (hc : ks.length ≤ vc) (hc2 : vc ≤ 9223372036854775807) :
    AtNew w.heap.size (set5 W b 0 f (.slice va ks.length vc)) (.mk f.op f.name f.cmp f.num (ks.map E)) (.slice va ks.length vc) ∧ Cells (set5 W b 0 f (.slice va ks.length vc)) b 0 f (.slice va ks.length vc) ∧ Below w.heap.size w (set5 W b 0 f (.slice va ks.length vc)) := by
  have hcells : Cells W b 0 (.mk 0 [] 0 0 []) (.slice none 0 0) := ⟨Joins.cell_of_block h.out 0, Joins.cell_of_block h.out 1, Joins.cell_of_block h.out 2, Joins.cell_of_block h.out 3, Joins.cell_of_block h.out 4⟩
  refine ⟨?_, set5_cells hcells, ?_⟩
  · unfold AtNew
    rw [At]
    refine ⟨hs, va, vc, by simp, by simpa using hc, hc2, fun hne => ?_⟩
    have hne2 : ks ≠ [] := by rintro rfl; exact hne rfl
    obtain ⟨g, h1, h2, h3⟩ := h.row hne2
    have hrow := h3.full (by omega)
    have hincl : ∀ k i v, (Fm.era (fun b' => decide (b' < b + 1)) W).cell? ⟨k, i, none⟩ = some v → (Fm.era (fun b' => decide (b' < w.heap.size)) (set5 W b 0 f (.slice va ks.length vc))).cell? ⟨k, i, none⟩ = some v := fun k i v hv => by
      obtain ⟨p1, p2⟩ := era_cell.1 hv
      have hk : ¬ k < b + 1 := by simpa using p1
      refine era_cell.2 ⟨by simp; omega, ?_⟩
      rw [World.cell?_of_block (w := W) (set5_other (by show k ≠ b; omega))]; exact p2
    refine ⟨g, 0, h1, ?_, Row.incl hincl _ _ _ hrow⟩
    rw [era_size, set5_size]
    exact (Array.getElem?_eq_some_iff.1 h3.1.choose_spec).1
  · exact ((((h.below.setCell (p := ⟨b, 0, none⟩) hwb _).setCell (p := ⟨b, 0 + 1, none⟩) hwb _).setCell (p := ⟨b, 0 + 2, none⟩) hwb _).setCell (p := ⟨b, 0 + 3, none⟩) hwb _).setCell (p := ⟨b, 0 + 4, none⟩) hwb _
end Fm
end Go.Proofs.Ytjcaingfeaaakaa
