/-
  The reference of layer 7: Expand. Rows of formulas that grow by append.
-/
import Derived.Test.YtjcaingfeaaakaaMExpand
import Derived.Test.YtjcaingfeaaakaaMRow
namespace Go.Proofs.Ytjcaingfeaaakaa
open Go.RowKit

namespace Fm
open Lx
def cellsL : List Fo → List Value → List Value
  | k :: ks, u :: us => cellsF k u ++ cellsL ks us
  | _, _ => []
theorem cellsL_len : ∀ (ks : List Fo) (us : List Value), us.length = ks.length → (cellsL ks us).length = ks.length * 5
  | [], _, _ => by rw [cellsL]; · rfl
                   · intro _ _ _ _ h; cases h
  | k :: ks, [], h => by simp at h
  | k :: ks, u :: us, h => by rw [cellsL, List.length_append, cellsL_len ks us (by simpa using h)]; simp [cellsF]; omega
theorem cellsL_get : ∀ (ks : List Fo) (us : List Value) (j : Nat) (k : Fo) (u : Value), us.length = ks.length → ks[j]? = some k → us[j]? = some u → ∀ r, r < 5 → (cellsL ks us)[j * 5 + r]? = (cellsF k u)[r]?
  | [], _, j, k, u, _, h, _, r, _ => by simp at h
  | y :: ks, [], j, k, u, h, _, _, r, _ => by simp at h
  | y :: ks, v :: us, 0, k, u, hl, h1, h2, r, hr => by
    obtain rfl : y = k := by simpa using h1
    obtain rfl : v = u := by simpa using h2
    rw [cellsL, Nat.zero_mul, Nat.zero_add, List.getElem?_append_left (by simp [cellsF]; omega)]
  | y :: ks, v :: us, j + 1, k, u, hl, h1, h2, r, hr => by
    rw [cellsL, List.getElem?_append_right (by simp [cellsF]; omega), show (j + 1) * 5 + r - (cellsF y v).length = j * 5 + r by simp [cellsF]; omega]
    exact cellsL_get ks us j k u (by simpa using hl) (by simpa using h1) (by simpa using h2) r hr
theorem cellsL_snoc : ∀ (ks : List Fo) (us : List Value) (k : Fo) (u : Value), us.length = ks.length → cellsL (ks ++ [k]) (us ++ [u]) = cellsL ks us ++ cellsF k u
  | [], [], k, u, _ => by simp [cellsL]
  | [], _ :: _, _, _, h => by simp at h
  | _ :: _, [], _, _, h => by simp at h
  | y :: ks, v :: us, k, u, h => by rw [List.cons_append, List.cons_append, cellsL, cellsL, cellsL_snoc ks us k u (by simpa using h), List.append_assoc]
/-- A row of formulas that the call owns, from block base on; their trees lie outside of it and of the blocks from lo to base. -/
def OwnK (base lo : Nat) (ks : List Fo) (v : Value) (W : World) : Prop :=
  ∃ us : List Value, us.length = ks.length ∧ W.ownsRow base 24 5 v ks.length (cellsL ks us) ∧ ∀ (j : Nat) (k : Fo) (u : Value), ks[j]? = some k → us[j]? = some u → At (Fm.era (fun b => (decide (lo ≤ b) && decide (b < base)) || some b == v.ownBlock) W) k u
theorem OwnK.nil (base lo : Nat) (W : World) : OwnK base lo [] (.slice none 0 0) W := ⟨[], rfl, World.ownsRow_nil _ _ _ _, by simp⟩
theorem OwnK.form {base lo : Nat} {ks : List Fo} {v : Value} {W : World} (h : OwnK base lo ks v W) : ∃ a c, v = .slice a ks.length c ∧ ks.length ≤ c ∧ c ≤ 9223372036854775807 := by
  obtain ⟨us, _, h2, _⟩ := h
  rcases h2.2 with ⟨e1, e2⟩ | ⟨g, cap, cur, e1, _, _, e2, e3, _⟩
  · exact ⟨none, 0, by rw [e1, e2], by omega, by decide⟩
  · exact ⟨_, _, e1, e2, by unfold maxLen at e3; omega⟩
theorem OwnK.lt {base lo : Nat} {ks : List Fo} {v : Value} {W : World} (h : OwnK base lo ks v W) : ∀ k, some k = v.ownBlock → base ≤ k ∧ ∃ cs, W.heap[k]? = some (.cells cs 24 (0, 0)) := by
  obtain ⟨us, _, h2, _⟩ := h
  rcases h2.2 with ⟨rfl, _⟩ | ⟨g, cap, cur, rfl, hb, hg, _⟩
  · intro k hk; simp [Value.ownBlock] at hk
  · intro k hk
    obtain rfl : k = g := by simpa [Value.ownBlock] using hk
    exact ⟨hb, cur, hg⟩
theorem own_block {W W' : World} {base : Nat} {e : TypeId} {size : Nat} {v : Value} {n : Nat} {xs : List Value} (h : W.ownsRow base e size v n xs) (hb : ∀ k, some k = v.ownBlock → W'.heap[k]? = W.heap[k]?) : W'.ownsRow base e size v n xs := by
  refine ⟨h.1, ?_⟩
  rcases h.2 with hn | ⟨g, cap, cur, rfl, hb', hg, rest⟩
  · exact .inl hn
  · exact .inr ⟨g, cap, cur, rfl, hb', (hb g rfl).trans hg, rest⟩
/-- It stays where blocks outside of lo to base do. -/
theorem OwnK.keep {base lo : Nat} {ks : List Fo} {v : Value} {W W' : World} (h : OwnK base lo ks v W) (_ : lo ≤ base) (hb : ∀ k, k < W.heap.size → (k < lo ∨ base ≤ k) → W'.heap[k]? = W.heap[k]?) : OwnK base lo ks v W' := by
  have hlt := h.lt
  obtain ⟨us, h1, h2, h3⟩ := h
  refine ⟨us, h1, own_block h2 fun k hk => ?_, fun j k u hj hu => (h3 j k u hj hu).era fun b hb2 hp => ⟨hp, hb b hb2 ?_⟩⟩
  · obtain ⟨h4, cs, h5⟩ := hlt k hk
    exact hb k (Array.getElem?_eq_some_iff.1 h5).1 (.inr h4)
  · simp at hp; omega
theorem OwnK.below {base lo : Nat} {ks : List Fo} {v : Value} {W W' : World} (h : OwnK base lo ks v W) (hlo : lo ≤ base) (hb : Below W.heap.size W W') : OwnK base lo ks v W' := h.keep hlo fun k hk _ => hb.block k hk
end Fm

theorem run_append_k (w : World) (base lo : Nat) (ks : List Fm.Fo) (v : Value) (hown : Fm.OwnK base lo ks v w) (f : Fm.Fo) (u : Value) (B : Nat) (fr : Nat × Nat) (ty : TypeId)
    (hB : w.heap[B]? = some (.cells #[.int .i64 f.op, .string (Lx.str f.name), .int .i64 f.cmp, .int .i64 f.num, u] ty fr)) (hl : ks.length < 1000000) (hbase : base ≤ w.heap.size) (hlo : lo ≤ base)
    (C : Nat) (hC : base ≤ C) (hat : Fm.At (Fm.era (fun b => decide (lo ≤ b) && decide (b < C)) w) f u) (hvC : ∀ k, some k = v.ownBlock → k < C) :
    ∃ g c w', (∀ t, (Builtin.append_ #[22, 22] t #[v, .slice (some ⟨B, 0, none⟩) 1 1]).run Try.prog w = .ok (.slice (some ⟨g, 0, none⟩) (ks.length + 1) c) w') ∧ Fm.OwnK base lo (ks ++ [f]) (.slice (some ⟨g, 0, none⟩) (ks.length + 1) c) w' ∧ w.grownBy w' v.ownBlock := by
  obtain ⟨i, hi, hz0, hz1, hz2⟩ := info_parts fo_info
  have hlt := hown.lt
  obtain ⟨us, h1, h2, h3⟩ := hown
  obtain ⟨ua, uc, hue, _, _⟩ := hat.kidsAt.len
  have hnews : ∀ j x, (Fm.cellsF f u)[j]? = some x → w.cell? ((⟨B, 0, none⟩ : Addr).add j) = some x := World.news_of_block hB
  have hone : ∀ x ∈ Fm.cellsF f u, x.oneCell' = true := by
    intro x hx
    simp only [Fm.cellsF, List.mem_cons, List.not_mem_nil, or_false] at hx
    rcases hx with rfl | rfl | rfl | rfl | rfl
    · rfl
    · rfl
    · rfl
    · rfl
    · rw [hue]; rfl
  obtain ⟨g, c, w', hr, r2, r3, r4, r5⟩ := run_append_lies (P := Try.prog) w 22 22 base 24 i _ 5 64 Try.underlying22 hi hz0 hz1 hz2 rfl (by decide) v ks.length (Fm.cellsL ks us) h2 ⟨B, 0, none⟩ 1 1 (Fm.cellsF f u) rfl hnews hone (by decide) (by unfold maxLen; omega) (by omega) hbase _ rfl
  have e : (ks ++ [f]).length = ks.length + 1 := by simp
  refine ⟨g, c, w', fun t => by rw [← hr]; rfl, ⟨us ++ [u], by simp [h1], ?_, fun j k x hj hx => ?_⟩, r3⟩
  · rw [e, Fm.cellsL_snoc ks us f u h1]; exact r2
  · -- the trees lie as they lay
    have hblk : ∀ b, b < w.heap.size → some b ≠ v.ownBlock → w'.heap[b]? = w.heap[b]? := fun b hb hn => r3.block b hb hn
    have hgg : ∀ b, b < w.heap.size → some b ≠ v.ownBlock → b ≠ g := fun b hb hn e => by
      rcases r4 with h | h
      · exact hn (by rw [h, e])
      · omega
    by_cases hjl : j < ks.length
    · rw [List.getElem?_append_left hjl] at hj
      rw [List.getElem?_append_left (by omega)] at hx
      refine (h3 j k x hj hx).era fun b hb hp => ?_
      simp at hp
      have hn : some b ≠ v.ownBlock := hp.2
      refine ⟨?_, hblk b hb hn⟩
      have := hgg b hb hn
      simp [Value.ownBlock]
      exact ⟨hp.1, this⟩
    · have hje : j = ks.length := by have := (List.getElem?_eq_some_iff.1 hj).1; rw [e] at this; omega
      subst hje
      rw [List.getElem?_append_right (Nat.le_refl _), Nat.sub_self] at hj
      rw [List.getElem?_append_right (by omega), h1, Nat.sub_self] at hx
      obtain rfl : f = k := by simpa using hj
      obtain rfl : u = x := by simpa using hx
      refine hat.era fun b hb hp => ?_
      simp at hp
      have hn : some b ≠ v.ownBlock := fun e => by have h6 := hvC b e; have h7 := (hlt b e).1; have := hp (by omega); omega
      refine ⟨?_, hblk b hb hn⟩
      have := hgg b hb hn
      simp [Value.ownBlock]
      exact ⟨fun h => by have := hp h; omega, this⟩
/-- At a step of a region that draws its order. -/
theorem step_append_k {ops : Array Oper} {o : Oper} {a : Act} {w : World} {K : Act → World → Prop} {Q : Exit → Act → World → Prop} {E : Prop} (hw : Region.wanted o (yielded ops a.tmps) = true) (s x : Operand)
    (ho : o.op = .call { callee := .builtin .append, args := #[s, x], argTypes := #[22, 22] }) (base lo : Nat) (ks : List Fm.Fo) (v : Value) (hs : a.eval s = v) (hown : Fm.OwnK base lo ks v w) (f : Fm.Fo) (u : Value) (B : Nat) (fr : Nat × Nat) (ty : TypeId)
    (hv : a.eval x = .slice (some ⟨B, 0, none⟩) 1 1) (hB : w.heap[B]? = some (.cells #[.int .i64 f.op, .string (Lx.str f.name), .int .i64 f.cmp, .int .i64 f.num, u] ty fr)) (hl : ks.length < 1000000) (hbase : base ≤ w.heap.size) (hlo : lo ≤ base)
    (C : Nat) (hC : base ≤ C) (hat : Fm.At (Fm.era (fun b => decide (lo ≤ b) && decide (b < C)) w) f u) (hvC : ∀ k, some k = v.ownBlock → k < C)
    (h : ∀ g c w', Fm.OwnK base lo (ks ++ [f]) (.slice (some ⟨g, 0, none⟩) (ks.length + 1) c) w' → w.grownBy w' v.ownBlock → K (a.put o.dst (.slice (some ⟨g, 0, none⟩) (ks.length + 1) c)) w') :
    if Region.wanted o (yielded ops a.tmps) = true then Oper.wp Try.prog o a w K Q else E := by
  rw [if_pos hw]
  obtain ⟨g, c, w', hr, h2, h3⟩ := run_append_k w base lo ks v hown f u B fr ty hB hl hbase hlo C hC hat hvC
  unfold Oper.wp execOp
  simp only [ho, resolve, invoke, builtin, Sem.run_bind, Sem.run_pure, Result.andThen_ok, List.map_toArray, List.map_cons, List.map_nil, hs, hv, hr]
  exact h g c w' h2 h3
end Go.Proofs.Ytjcaingfeaaakaa
