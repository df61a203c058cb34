/-
  The walk of formula.Size.
-/
import Derived.Test.YtjcaingfeaaakaaMSmall
namespace Go.Proofs.Ytjcaingfeaaakaa
open Go.RowKit Go.Shelf

attribute [local go_sem] Oper.semAt_some

namespace Fm
/-- The greatest depth of some nodes. -/
def deep {w0 : World} (l : List (Nd w0)) : Nat := l.foldl (fun m x => max m x.d) 0
theorem deep_snoc {w0 : World} (l : List (Nd w0)) (x : Nd w0) : deep (l ++ [x]) = max (deep l) x.d := by unfold deep; rw [List.foldl_append]; rfl
theorem fold_le {w0 : World} : ∀ (l : List (Nd w0)) (a b : Nat), a ≤ b → (∀ x ∈ l, x.d ≤ b) → l.foldl (fun m x => max m x.d) a ≤ b
  | [], _, _, h, _ => h
  | x :: l, a, b, h, h2 => fold_le l (max a x.d) b (by have := h2 x (List.mem_cons_self ..); omega) (fun y hy => h2 y (List.mem_cons_of_mem _ hy))
theorem le_fold {w0 : World} : ∀ (l : List (Nd w0)) (a : Nat), a ≤ l.foldl (fun m x => max m x.d) a
  | [], _ => Nat.le_refl _
  | x :: l, a => Nat.le_trans (Nat.le_max_left a x.d) (le_fold l (max a x.d))
theorem mem_fold {w0 : World} : ∀ (l : List (Nd w0)) (a : Nat) (x : Nd w0), x ∈ l → x.d ≤ l.foldl (fun m x => max m x.d) a
  | y :: l, a, x, h => by
    rcases List.mem_cons.1 h with rfl | h
    · exact Nat.le_trans (Nat.le_max_right a x.d) (le_fold l _)
    · exact mem_fold l _ x h
theorem deep_le {w0 : World} (l : List (Nd w0)) : deep l ≤ 4611686018427387904 := fold_le l 0 _ (Nat.zero_le _) (fun x _ => x.hd)
theorem deep_all {w0 : World} {f : Fo} {xs : List (Nd w0)} (h : xs.map Nd.er = nds 1 f) : deep xs = depth f := by
  apply Nat.le_antisymm
  · refine fold_le xs 0 _ (Nat.zero_le _) fun x hx => ?_
    have := nds_le f 1 (Nd.er x) (by rw [← h]; exact List.mem_map.2 ⟨x, hx, rfl⟩)
    have e : x.d + 1 ≤ 1 + depth f := this.2
    omega
  · obtain ⟨y, hy, e⟩ := nds_deep f 1
    rw [← h] at hy
    obtain ⟨x, hx, rfl⟩ := List.mem_map.1 hy
    have := mem_fold xs 0 x hx
    have e : x.d + 1 = 1 + depth f := e
    unfold deep
    omega
/-- The world in which Size ranges. -/
abbrev sizeB (w : World) (f : Fo) (u : Value) : World := (((w.alloc (.cells #[.int .i64 f.op, .string (Lx.str f.name), .int .i64 f.cmp, .int .i64 f.num, u] 24)).alloc (.cells #[.int .i64 0] 3)).alloc (.cells #[.int .i64 0] 3)).alloc (.cells #[.int .i64 f.op, .string (Lx.str f.name), .int .i64 f.cmp, .int .i64 f.num, u] 24)
/-- While Size ranges. -/
def ZInv (w : World) (pre : List (Nd w)) (W : World) : Prop :=
  W.heap[w.heap.size + 1]? = some (.cells #[.int .i64 (pre.length : Nat)] 3 (0, 0)) ∧ W.heap[w.heap.size + 1 + 1]? = some (.cells #[.int .i64 (deep pre : Nat)] 3 (0, 0)) ∧ Below w.heap.size w W
theorem ZInv.own (w : World) (B : Nat) (hB : w.heap.size ≤ B) : OwnFrom B (ZInv w) := by
  intro pre W W' row ⟨h2, h3, h4⟩ hg hr
  have hr2 : ∀ r, row = some r → ∃ o : Obj, W.heap[r]? = some o ∧ o.isCells = false := fun r e => (hr r e).2
  exact ⟨cells_kept h2 hg hr2, cells_kept h3 hg hr2, h4.grown hg h4.size (fun k e => Nat.le_trans hB (hr k e).1)⟩
end Fm

set_option maxHeartbeats 4000000 in
set_option maxRecDepth 100000 in
theorem size_walk (f : Fm.Fo) (u : Value) (w : World) (hat : Fm.At w f u) (hs : Fm.size f ≤ 4611686018427387900) :
    Calls Try.prog 13 #[Fm.fv f u] w fun e w' => e = .returned (.tuple #[.int .i64 (Fm.size f : Nat), .int .i64 (Fm.depth f : Nat)]) ∧ Below w.heap.size w w' := by
  obtain ⟨ua, uc, hu, huc, _⟩ := hat.kidsAt.len
  obtain ⟨un, hun⟩ : ∃ n, n = f.kids.length := ⟨_, rfl⟩
  rw [← hun] at hu huc
  subst hu
  refine (callsIn_wide (n := 5)).1 (callsIn_of_wp_marks Try.func13 rfl trivial (wpIn_wide.2 ?_) rfl)
  simp only [Try.ntmps13, List.size_toArray, List.length_cons, List.length_nil, Nat.reduceAdd, Nat.reduceSub, Array.replicate_succ, Array.replicate_zero, List.push_toArray, List.append_toArray, List.nil_append, List.cons_append]
  go_wp2_with fail
  refine (nodes_made f _ _).mono ?_
  rintro e w7 ⟨rfl, rfl⟩
  go_wp2_with fail
  obtain ⟨W4, hW4⟩ : ∃ W4, W4 = Fm.sizeB w f (.slice ua un uc) := ⟨_, rfl⟩
  have hz4 : W4.heap.size = w.heap.size + 4 := by rw [hW4]; simp
  have hb4 : Below w.heap.size w W4 := by rw [hW4]; exact ((((Below.refl _ _).alloc (Nat.le_refl _) _).alloc (by simp) _).alloc (by simp; omega) _).alloc (by simp; omega) _
  have k1 : W4.heap[w.heap.size + 1]? = some (.cells #[.int .i64 0] 3 (0, 0)) := by rw [hW4]; exact Fm.blkK (Fm.blkK (Fm.blk1 _ _ _))
  have k2 : W4.heap[w.heap.size + 1 + 1]? = some (.cells #[.int .i64 0] 3 (0, 0)) := by rw [hW4]; exact Fm.blkK (Fm.blk2 _ _ _ _)
  have k3 : W4.heap[w.heap.size + 1 + 1 + 1]? = some (.cells #[.int .i64 f.op, .string (Lx.str f.name), .int .i64 f.cmp, .int .i64 f.num, .slice ua un uc] 24 (0, 0)) := by rw [hW4]; exact Fm.blk3 _ _ _ _ _
  dsimp only [Fm.sizeB] at hW4
  rw [hun] at *
  rw [← hW4]
  have hinv : Fm.ZInv w [] W4 := ⟨k1, k2, hb4⟩
  have hI := Fm.ZInv.own w W4.heap.size (by omega)
  have hse := nodes_stops 4 w W4 (w.heap.size + 1 + 1 + 1) f _ hs hat hb4 k3
  have hen := enters_of Try.func55 (by kernel_rfl) rfl
  have HS := Lib.hid hs
  clear hW4 k1 k2 k3 hs hat
  refine (wpIn_wide (n := 5)).1 ?_
  refine wpIn_rangeFunc_ownG rfl (by omega) (gf := 55) (lb := #[.pointer (some ⟨w.heap.size + 1 + 1 + 1, 0, none⟩)]) rfl trivial hen hse (fun h k => h.trans k) (fun W l o o' hl h1 h2 _ => Fm.Kp.put W l o o' (by omega) h1 h2) (Below.refl _ _) (fun _ => rfl) _ (fun _ _ _ => False) hI (fun _ _ _ _ _ h _ _ => h) hinv
    (fun x => { tmps := #[Fm.fv f (.slice ua f.kids.length uc), .pointer (some ⟨w.heap.size, 0, none⟩), .int .i64 0, .int .i64 0, .pointer (some ⟨w.heap.size + 1, 0, none⟩), .pointer (some ⟨w.heap.size + 1 + 1, 0, none⟩), .int .i64 (x.d : Nat), Fm.fv f (.slice ua f.kids.length uc), .func (.func 55) #[] #[.pointer (some ⟨w.heap.size + 1 + 1 + 1, 0, none⟩)], .int .i64 (x.d : Nat), Fm.fv x.f x.u, undef, undef, undef, undef, undef, undef, undef], defers := [] })
    ?assign ?body ?done ?stop
  case assign =>
    intro l x W K hK
    gi_wp2
    exact hK
  case body =>
    rintro l pre x W ⟨r1, r2, hb⟩ hlt
    have c2 := Joins.cell_of_block r2 0
    have u2 := Joins.unfrozen_of_block r2 0
    have c1 := Joins.cell_of_block r1 0
    have u1 := Joins.unfrozen_of_block r1 0
    obtain ⟨k, hk⟩ : ∃ k, k = pre.length := ⟨_, rfl⟩
    obtain ⟨m, hm⟩ : ∃ m, m = Fm.deep pre := ⟨_, rfl⟩
    rw [← hk] at c1
    rw [← hm] at c2
    have hk2 : (k : Int) + 1 ≤ 9223372036854775807 := by have := HS.out; omega
    have hno : (w.heap.size + 1 + 1 : Nat) ≠ w.heap.size + 1 := by omega
    have hs1 : Hid (∀ v, (W.setCell ⟨w.heap.size + 1, 0, none⟩ v).heap[w.heap.size + 1 + 1]? = some (.cells #[.int .i64 (m : Nat)] 3 (0, 0))) := fun v => by rw [hm]; exact (Below.heap_setCell _ _ _ _ hno).trans r2
    have hs2 : Hid (∀ v, (W.setCell ⟨w.heap.size + 1, 0, none⟩ v).heap[w.heap.size + 1]? = some (.cells #[v] 3 (0, 0))) := fun v => by rw [Joins.block_setCell r1]; rfl
    have c2' : ∀ v, (W.setCell ⟨w.heap.size + 1, 0, none⟩ v).cell? ⟨w.heap.size + 1 + 1, 0, none⟩ = some (.int .i64 (m : Nat)) := fun v => Joins.cell_of_block (hs1.out v) 0
    have u2' : ∀ v, (W.setCell ⟨w.heap.size + 1, 0, none⟩ v).frozen? ⟨w.heap.size + 1 + 1, 0, none⟩ = false := fun v => Joins.unfrozen_of_block (hs1.out v) 0
    have HN : Hid (∀ z : Int, z = ((max m x.d : Nat) : Int) → KeepsFrom (w.heap.size + 4) W ((W.setCell ⟨w.heap.size + 1, 0, none⟩ (.int .i64 ((k : Int) + 1))).setCell ⟨w.heap.size + 1 + 1, 0, none⟩ (.int .i64 z)) ∧ Fm.Kp w.heap.size W ((W.setCell ⟨w.heap.size + 1, 0, none⟩ (.int .i64 ((k : Int) + 1))).setCell ⟨w.heap.size + 1 + 1, 0, none⟩ (.int .i64 z)) ∧ Fm.ZInv w (pre ++ [x]) ((W.setCell ⟨w.heap.size + 1, 0, none⟩ (.int .i64 ((k : Int) + 1))).setCell ⟨w.heap.size + 1 + 1, 0, none⟩ (.int .i64 z))) := fun z hz => by
      refine ⟨((KeepsOthers.setCell _ _ _).trans (KeepsOthers.setCell _ _ _)).from _, ⟨((Below.refl _ _).setCell (p := ⟨w.heap.size + 1, 0, none⟩) (by show w.heap.size ≤ w.heap.size + 1; omega) _).setCell (p := ⟨w.heap.size + 1 + 1, 0, none⟩) (by show w.heap.size ≤ w.heap.size + 1 + 1; omega) _, fun j cs fr hj => ?_⟩, ?_, ?_, (hb.setCell (p := ⟨w.heap.size + 1, 0, none⟩) (by show w.heap.size ≤ w.heap.size + 1; omega) _).setCell (p := ⟨w.heap.size + 1 + 1, 0, none⟩) (by show w.heap.size ≤ w.heap.size + 1 + 1; omega) _⟩
      · refine (Below.heap_setCell _ _ _ _ (by rintro rfl; rw [r2] at hj; cases hj)).trans ((Below.heap_setCell _ _ _ _ (by rintro rfl; rw [r1] at hj; cases hj)).trans hj)
      · rw [Below.heap_setCell _ _ _ _ hno.symm, hs2.out, List.length_append, ← hk]; rfl
      · rw [Joins.block_setCell (hs1.out _), hz, Fm.deep_snoc, ← hm]; rfl
    have hm2 : (m : Int) ≤ 4611686018427387904 := by rw [hm]; have := Fm.deep_le pre; omega
    clear hno r1 r2 hb hI hse hen hinv hk hm hlt
    by_cases hc : (m : Int) < (x.d : Int)
    · have HN2 := Lib.hid (HN.out (x.d : Int) (by omega))
      clear HN
      clear hs1 hs2 HS c2' u2'
      gi_wp2
      exact HN2.out
    · have HN2 := Lib.hid (HN.out (m : Int) (by omega))
      clear HN
      gi_wp2
      exact HN2.out
  case done =>
    rintro D xs W hD hxs ⟨r1, r2, hb⟩ hK
    have c1 := Joins.cell_of_block r1 0
    have c2 := Joins.cell_of_block r2 0
    have HK := Lib.hid hK
    have HB := Lib.hid hb
    have hl : xs.length = Fm.size f := by rw [← Fm.nds_len 1 f, ← hxs, List.length_map]
    rw [hl] at c1
    rw [Fm.deep_all hxs] at c2
    clear hinv hI hse hen r1 r2 hK hxs hb hl
    go_wp2_with fail
    go_quiet (fail)
    go_wp2_with fail
    refine ⟨by simp, .inl ⟨_, _, rfl, run_takeDeferred (w := W.drewN nq) HK.out, ?_⟩⟩
    refine ⟨_, results_tmp2 rfl _ _ _, ?_⟩
    exact ⟨rfl, (Lx.below_drewN HB.out nq).trans (belowK_b (w := w) (Nat.le_refl _) (W.drewN nq) D _ (.deferred none) (by omega) HK.out rfl rfl)⟩
  case stop =>
    rintro D c pre W hD hsp h hK
    exact h.elim
end Go.Proofs.Ytjcaingfeaaakaa
