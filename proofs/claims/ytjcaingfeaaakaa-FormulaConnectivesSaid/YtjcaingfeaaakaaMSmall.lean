/-
  The walk of formula.isSmall.
-/
import Derived.Test.YtjcaingfeaaakaaMVisit
import Derived.Lib.SmallJoins
namespace Go.Proofs.Ytjcaingfeaaakaa
open Go.RowKit Go.Shelf

attribute [local go_sem] Oper.semAt_some

namespace Fm
theorem blkK {w : World} {k : Nat} {x o : Obj} (h : w.heap[k]? = some x) : (w.alloc o).heap[k]? = some x := (Below.heap_alloc w o k (Array.getElem?_eq_some_iff.1 h).1).trans h
theorem blk1 (w : World) (a b : Obj) : ((w.alloc a).alloc b).heap[w.heap.size + 1]? = some b := by have := heap_alloc_new (w.alloc a) b; simpa using this
theorem blk2 (w : World) (a b c : Obj) : (((w.alloc a).alloc b).alloc c).heap[w.heap.size + 1 + 1]? = some c := by have := heap_alloc_new ((w.alloc a).alloc b) c; simpa using this
theorem blk3 (w : World) (a b c d : Obj) : ((((w.alloc a).alloc b).alloc c).alloc d).heap[w.heap.size + 1 + 1 + 1]? = some d := by have := heap_alloc_new (((w.alloc a).alloc b).alloc c) d; simpa using this
mutual
theorem nds_le : ∀ (f : Fo) (d : Nat) (y : Nat × Fo), y ∈ nds d f → d ≤ y.1 ∧ y.1 + 1 ≤ d + depth f
  | .mk o x c n ks, d, y, h => by
    rw [nds, List.mem_cons] at h
    rw [depth]
    rcases h with rfl | h
    · exact ⟨Nat.le_refl _, by omega⟩
    · have := ndsL_le ks (d + 1) y h; omega
theorem ndsL_le : ∀ (ks : List Fo) (d : Nat) (y : Nat × Fo), y ∈ ndsL d ks → d ≤ y.1 ∧ y.1 + 1 ≤ d + depthL ks
  | [], d, y, h => by rw [ndsL] at h; cases h
  | k :: ks, d, y, h => by
    rw [ndsL, List.mem_append] at h
    rw [depthL]
    rcases h with h | h
    · have := nds_le k d y h; omega
    · have := ndsL_le ks d y h; omega
end
mutual
theorem nds_deep : ∀ (f : Fo) (d : Nat), ∃ y ∈ nds d f, y.1 + 1 = d + depth f
  | .mk o x c n ks, d => by
    rw [nds, depth]
    rcases ndsL_deep ks (d + 1) with ⟨h, _⟩ | ⟨y, hy, e⟩
    · exact ⟨_, List.mem_cons_self .., by rw [h]⟩
    · exact ⟨y, List.mem_cons_of_mem _ hy, by omega⟩
theorem ndsL_deep : ∀ (ks : List Fo) (d : Nat), (depthL ks = 0 ∧ ks = []) ∨ ∃ y ∈ ndsL d ks, y.1 + 1 = d + depthL ks
  | [], d => .inl ⟨by rw [depthL], rfl⟩
  | k :: ks, d => by
    rw [ndsL, depthL]
    obtain ⟨y, hy, e⟩ := nds_deep k d
    rcases ndsL_deep ks d with ⟨h, _⟩ | ⟨z, hz, e2⟩
    · exact .inr ⟨y, List.mem_append_left _ hy, by rw [h]; omega⟩
    · by_cases hk : depthL ks ≤ depth k
      · exact .inr ⟨y, List.mem_append_left _ hy, by omega⟩
      · exact .inr ⟨z, List.mem_append_right _ hz, by omega⟩
end
/-- Size and depth are within the limits. -/
def small (f : Fo) : Bool := decide (size f ≤ 200) && decide (depth f ≤ 20)
theorem small_yes {w0 : World} {f : Fo} {xs : List (Nd w0)} (h : xs.map Nd.er = nds 1 f) (h1 : xs.length ≤ 200) (h2 : ∀ x ∈ xs, x.d ≤ 20) : small f = true := by
  unfold small
  rw [Bool.and_eq_true, decide_eq_true_iff, decide_eq_true_iff, ← nds_len 1 f, ← h, List.length_map]
  refine ⟨h1, ?_⟩
  obtain ⟨y, hy, e⟩ := nds_deep f 1
  rw [← h] at hy
  obtain ⟨x, hx, rfl⟩ := List.mem_map.1 hy
  have := h2 x hx
  have e : x.d + 1 = 1 + depth f := e
  omega
theorem small_no {w0 : World} {f : Fo} {p : List (Nd w0)} {x : Nd w0} (h : (p ++ [x]).map Nd.er <+: nds 1 f) (h1 : 200 < p.length + 1 ∨ 20 < x.d) : small f = false := by
  unfold small
  rw [Bool.and_eq_false_iff, decide_eq_false_iff_not, decide_eq_false_iff_not]
  rcases h1 with h1 | h1
  · left
    have := h.length_le
    rw [nds_len, List.length_map, List.length_append] at this
    simp at this; omega
  · right
    have := nds_le f 1 (Nd.er x) (h.subset (by simp))
    have e : x.d + 1 ≤ 1 + depth f := this.2
    omega
/-- The world in which isSmall ranges. -/
abbrev smallB (w : World) (f : Fo) (u : Value) : World := (((w.alloc (.cells #[.int .i64 f.op, .string (Lx.str f.name), .int .i64 f.cmp, .int .i64 f.num, u] 24)).alloc (.cells #[.bool false] 4)).alloc (.cells #[.int .i64 0] 3)).alloc (.cells #[.int .i64 f.op, .string (Lx.str f.name), .int .i64 f.cmp, .int .i64 f.num, u] 24)
/-- While isSmall ranges. -/
def SInv (w : World) (pre : List (Nd w)) (W : World) : Prop :=
  (pre.length ≤ 200 ∧ ∀ x ∈ pre, x.d ≤ 20) ∧ W.heap[w.heap.size + 1]? = some (.cells #[.bool false] 4 (0, 0)) ∧ W.heap[w.heap.size + 1 + 1]? = some (.cells #[.int .i64 (pre.length : Nat)] 3 (0, 0)) ∧ Below w.heap.size w W
theorem SInv.own (w : World) (B : Nat) (hB : w.heap.size ≤ B) : OwnFrom B (SInv w) := by
  intro pre W W' row ⟨h1, h2, h3, h4⟩ hg hr
  have hr2 : ∀ r, row = some r → ∃ o : Obj, W.heap[r]? = some o ∧ o.isCells = false := fun r e => (hr r e).2
  exact ⟨h1, cells_kept h2 hg hr2, cells_kept h3 hg hr2, h4.grown hg h4.size (fun k e => Nat.le_trans hB (hr k e).1)⟩
def SLeft (w : World) (c : Code) (pre : List (Nd w)) (W : World) : Prop :=
  c = .ret ∧ (∃ p x, pre = p ++ [x] ∧ (200 < p.length + 1 ∨ 20 < x.d)) ∧ W.heap[w.heap.size + 1]? = some (.cells #[.bool false] 4 (0, 0)) ∧ Below w.heap.size w W
theorem SLeft.own (w : World) (B : Nat) (hB : w.heap.size ≤ B) (c : Code) : OwnFrom B (SLeft w c) := by
  intro pre W W' row ⟨h0, h1, h2, h4⟩ hg hr
  have hr2 : ∀ r, row = some r → ∃ o : Obj, W.heap[r]? = some o ∧ o.isCells = false := fun r e => (hr r e).2
  exact ⟨h0, h1, cells_kept h2 hg hr2, h4.grown hg h4.size (fun k e => Nat.le_trans hB (hr k e).1)⟩
end Fm

theorem issmall_results (tmps : Array Value) (w : World) (g : Nat) (b : Bool) (hp : tmps.getD 2 undef = .pointer (some ⟨g, 0, none⟩)) (h : w.cell? ⟨g, 0, none⟩ = some (.bool b)) :
    (results Try.f57 tmps).run Try.prog w = .ok (.bool b) w := by
  have hp' : tmps[2]?.getD undef = .pointer (some ⟨g, 0, none⟩) := by simpa using hp
  simp [results, Try.f57, hp', go_sem, h]

set_option maxHeartbeats 4000000 in
set_option maxRecDepth 100000 in
theorem issmall_walk (f : Fm.Fo) (u : Value) (w : World) (hat : Fm.At w f u) (hs : Fm.size f ≤ 4611686018427387900) :
    Calls Try.prog 57 #[Fm.fv f u] w fun e w' => e = .returned (.bool (Fm.small f)) ∧ Below w.heap.size w w' := by
  obtain ⟨ua, uc, hu, huc, _⟩ := hat.kidsAt.len
  obtain ⟨un, hun⟩ : ∃ n, n = f.kids.length := ⟨_, rfl⟩
  rw [← hun] at hu huc
  subst hu
  refine (callsIn_wide (n := 5)).1 (callsIn_of_wp_marks Try.func57 rfl trivial (wpIn_wide.2 ?_) rfl)
  simp only [Try.ntmps57, List.size_toArray, List.length_cons, List.length_nil, Nat.reduceAdd, Nat.reduceSub, Array.replicate_succ, Array.replicate_zero, List.push_toArray, List.append_toArray, List.nil_append, List.cons_append]
  go_wp2_with fail
  refine (nodes_made f _ _).mono ?_
  rintro e w7 ⟨rfl, rfl⟩
  go_wp2_with fail
  obtain ⟨W4, hW4⟩ : ∃ W4, W4 = Fm.smallB w f (.slice ua un uc) := ⟨_, rfl⟩
  have hz4 : W4.heap.size = w.heap.size + 4 := by rw [hW4]; simp
  have hb4 : Below w.heap.size w W4 := by rw [hW4]; exact ((((Below.refl _ _).alloc (Nat.le_refl _) _).alloc (by simp) _).alloc (by simp; omega) _).alloc (by simp; omega) _
  have k1 : W4.heap[w.heap.size + 1]? = some (.cells #[.bool false] 4 (0, 0)) := by rw [hW4]; exact Fm.blkK (Fm.blkK (Fm.blk1 _ _ _))
  have k2 : W4.heap[w.heap.size + 1 + 1]? = some (.cells #[.int .i64 0] 3 (0, 0)) := by rw [hW4]; exact Fm.blkK (Fm.blk2 _ _ _ _)
  have k3 : W4.heap[w.heap.size + 1 + 1 + 1]? = some (.cells #[.int .i64 f.op, .string (Lx.str f.name), .int .i64 f.cmp, .int .i64 f.num, .slice ua un uc] 24 (0, 0)) := by rw [hW4]; exact Fm.blk3 _ _ _ _ _
  dsimp only [Fm.smallB] at hW4
  rw [hun] at *
  rw [← hW4]
  have hinv : Fm.SInv w [] W4 := ⟨⟨by simp, by simp⟩, k1, k2, hb4⟩
  have hI := Fm.SInv.own w W4.heap.size (by omega)
  have hIx := Fm.SLeft.own w W4.heap.size (by omega)
  have hse := nodes_stops 4 w W4 (w.heap.size + 1 + 1 + 1) f _ hs hat hb4 k3
  have hen := enters_of Try.func55 (by kernel_rfl) rfl
  clear hW4 k1 k2 k3 hs hat
  refine (wpIn_wide (n := 5)).1 ?_
  refine wpIn_rangeFunc_ownG rfl (by omega) (gf := 55) (lb := #[.pointer (some ⟨w.heap.size + 1 + 1 + 1, 0, none⟩)]) rfl trivial hen hse (fun h k => h.trans k) (fun W l o o' hl h1 h2 _ => Fm.Kp.put W l o o' (by omega) h1 h2) (Below.refl _ _) (fun _ => rfl) _ _ hI hIx hinv
    (fun x => { tmps := #[Fm.fv f (.slice ua f.kids.length uc), .pointer (some ⟨w.heap.size, 0, none⟩), .pointer (some ⟨w.heap.size + 1, 0, none⟩), .pointer (some ⟨w.heap.size + 1 + 1, 0, none⟩), .int .i64 (x.d : Nat), Fm.fv f (.slice ua f.kids.length uc), .func (.func 55) #[] #[.pointer (some ⟨w.heap.size + 1 + 1 + 1, 0, none⟩)], .int .i64 (x.d : Nat), Fm.fv x.f x.u, undef, undef, undef, undef, undef, undef, undef, undef], defers := [] })
    ?assign ?body ?done ?stop
  case assign =>
    intro l x W K hK
    gi_wp2
    exact hK
  case body =>
    rintro l pre x W ⟨⟨h1, h2⟩, r1, r2, hb⟩ hlt
    have c2 := Joins.cell_of_block r2 0
    have u2 := Joins.unfrozen_of_block r2 0
    have c1 := Joins.cell_of_block r1 0
    have u1 := Joins.unfrozen_of_block r1 0
    obtain ⟨k, hk⟩ : ∃ k, k = pre.length := ⟨_, rfl⟩
    rw [← hk] at c2
    have hk2 : k ≤ 200 := by omega
    have hxd : (x.d : Int) ≤ 4611686018427387904 := by have := x.hd; omega
    have hno : (w.heap.size + 1 : Nat) ≠ w.heap.size + 1 + 1 := by omega
    have hs1 : Hid (∀ v, (W.setCell ⟨w.heap.size + 1 + 1, 0, none⟩ v).heap[w.heap.size + 1]? = some (.cells #[.bool false] 4 (0, 0))) := fun v => (Below.heap_setCell _ _ _ _ hno).trans r1
    have hs2 : Hid (∀ v, (W.setCell ⟨w.heap.size + 1 + 1, 0, none⟩ v).heap[w.heap.size + 1 + 1]? = some (.cells #[v] 3 (0, 0))) := fun v => by rw [Joins.block_setCell r2]; rfl
    have hs3 : Hid (∀ v, Below w.heap.size w (W.setCell ⟨w.heap.size + 1 + 1, 0, none⟩ v)) := fun v => hb.setCell (p := ⟨w.heap.size + 1 + 1, 0, none⟩) (by show w.heap.size ≤ w.heap.size + 1 + 1; omega) v
    have hs4 : Hid (∀ v, Fm.Kp w.heap.size W (W.setCell ⟨w.heap.size + 1 + 1, 0, none⟩ v)) := fun v => ⟨(Below.refl _ _).setCell (p := ⟨w.heap.size + 1 + 1, 0, none⟩) (by show w.heap.size ≤ w.heap.size + 1 + 1; omega) v, fun j cs fr hj => (Below.heap_setCell _ _ _ _ (by rintro rfl; rw [r2] at hj; cases hj)).trans hj⟩
    have c1' : ∀ v, (W.setCell ⟨w.heap.size + 1 + 1, 0, none⟩ v).cell? ⟨w.heap.size + 1, 0, none⟩ = some (.bool false) := fun v => Joins.cell_of_block (hs1.out v) 0
    have u1' : ∀ v, (W.setCell ⟨w.heap.size + 1 + 1, 0, none⟩ v).frozen? ⟨w.heap.size + 1, 0, none⟩ = false := fun v => Joins.unfrozen_of_block (hs1.out v) 0
    have c2' : ∀ v, (W.setCell ⟨w.heap.size + 1 + 1, 0, none⟩ v).cell? ⟨w.heap.size + 1 + 1, 0, none⟩ = some v := fun v => Joins.cell_of_block (hs2.out v) 0
    have HK := Lib.hid hk
    have HR := Lib.hid (And.intro h1 h2)
    clear hno r1 r2 hb h1 h2 hlt hI hIx hse hen hinv c1 u1 hk
    have HL : Hid (200 < k + 1 ∨ 20 < x.d → ∀ v, KeepsFrom (w.heap.size + 4) W ((W.setCell ⟨w.heap.size + 1 + 1, 0, none⟩ v).setCell ⟨w.heap.size + 1, 0, none⟩ (.bool false)) ∧ Fm.SLeft w .ret (pre ++ [x]) ((W.setCell ⟨w.heap.size + 1 + 1, 0, none⟩ v).setCell ⟨w.heap.size + 1, 0, none⟩ (.bool false))) := fun h v => by
      refine ⟨((KeepsOthers.setCell _ _ _).trans (KeepsOthers.setCell _ _ _)).from _, rfl, ⟨pre, x, rfl, by rw [← HK.out]; exact h⟩, ?_, ?_⟩
      · rw [Joins.block_setCell (hs1.out v)]; rfl
      · exact (hs3.out v).setCell (p := ⟨w.heap.size + 1, 0, none⟩) (by show w.heap.size ≤ w.heap.size + 1; omega) _
    have HN : Hid (¬ (200 < k + 1 ∨ 20 < x.d) → KeepsFrom (w.heap.size + 4) W (W.setCell ⟨w.heap.size + 1 + 1, 0, none⟩ (.int .i64 ((k : Int) + 1))) ∧ Fm.Kp w.heap.size W (W.setCell ⟨w.heap.size + 1 + 1, 0, none⟩ (.int .i64 ((k : Int) + 1))) ∧ Fm.SInv w (pre ++ [x]) (W.setCell ⟨w.heap.size + 1 + 1, 0, none⟩ (.int .i64 ((k : Int) + 1)))) := fun h => by
      refine ⟨(KeepsOthers.setCell _ _ _).from _, hs4.out _, ⟨?_, fun y hy => ?_⟩, hs1.out _, ?_, hs3.out _⟩
      · rw [List.length_append, ← HK.out]; simp; omega
      · rcases List.mem_append.1 hy with hy | hy
        · exact HR.out.2 y hy
        · rw [List.mem_singleton] at hy; subst hy; omega
      · rw [hs2.out, List.length_append, ← HK.out]; rfl
    by_cases hc : 200 < k + 1 ∨ 20 < x.d
    · have hci : 200 < (k : Int) + 1 ∨ 20 < (x.d : Int) := by omega
      have HL2 := Lib.hid (HL.out hc (.int .i64 ((k : Int) + 1)))
      clear HL HN hc
      rcases hci with hci | hci
      · gi_wp2
        exact HL2.out
      · by_cases hci2 : 200 < (k : Int) + 1
        · gi_wp2
          exact HL2.out
        · gi_wp2
          exact HL2.out
    · have hci1 : ¬ 200 < (k : Int) + 1 := by omega
      have hci2 : ¬ 20 < (x.d : Int) := by omega
      have HN2 := Lib.hid (HN.out hc)
      clear HL HN hc
      gi_wp2
      exact HN2.out
  case done =>
    rintro D xs W hD hxs ⟨⟨h1, h2⟩, r1, r2, hb⟩ hK
    have hsm := Fm.small_yes hxs h1 h2
    have c1 := Joins.cell_of_block r1 0
    have u1 := Joins.unfrozen_of_block r1 0
    have HK := Lib.hid hK
    have HB := Lib.hid (hb.setCell (p := ⟨w.heap.size + 1, 0, none⟩) (by show w.heap.size ≤ w.heap.size + 1; omega) (.bool true))
    have HR := Lib.hid r1
    clear hinv hI hIx hse hen r1 r2 hK hxs h1 h2 hb
    go_wp2_with fail
    have hKK := (KeepsOthers.setCell W ⟨w.heap.size + 1, 0, none⟩ (.bool true)).same D _ HK.out rfl
    refine ⟨by simp, .inl ⟨_, _, rfl, run_takeDeferred hKK, ?_⟩⟩
    have n1 : (W.setCell ⟨w.heap.size + 1, 0, none⟩ (.bool true)).cell? ⟨w.heap.size + 1, 0, none⟩ = some (.bool true) := World.cell?_setCell_same' _ _ _ (by rw [Joins.cell_of_block HR.out 0]; rfl)
    have n2 := cell_kept n1 (grownBy_putObj' _ D (.deferred none)) (fun r e => by cases e; exact ⟨_, hKK, rfl⟩)
    refine ⟨_, issmall_results _ _ _ _ rfl n2, ?_⟩
    exact ⟨rfl, HB.out.trans (belowK_b (w := w) (Nat.le_refl _) _ D _ (.deferred none) (by omega) hKK rfl rfl)⟩
  case stop =>
    rintro D c pre W hD hsp ⟨rfl, ⟨p, x, rfl, hx⟩, r1, hb⟩ hK
    have hsm := Fm.small_no hsp hx
    gi_wp2
    refine ⟨by simp, .inl ⟨_, _, rfl, run_takeDeferred hK, ?_⟩⟩
    have n1 := cell_kept (Joins.cell_of_block r1 0) (grownBy_putObj' _ D (.deferred none)) (fun r e => by cases e; exact ⟨_, hK, rfl⟩)
    refine ⟨_, issmall_results _ _ _ _ rfl n1, ?_⟩
    exact ⟨rfl, hb.trans (belowK_b (w := w) (Nat.le_refl _) W D _ (.deferred none) (by omega) hK rfl rfl)⟩
end Go.Proofs.Ytjcaingfeaaakaa
