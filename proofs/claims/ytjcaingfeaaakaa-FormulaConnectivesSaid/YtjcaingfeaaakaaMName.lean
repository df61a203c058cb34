/-
  The walks of formula.isName and formula.hasOnlyKids.
-/
import Derived.Test.YtjcaingfeaaakaaMTexts
namespace Go.Proofs.Ytjcaingfeaaakaa
open Go.RowKit

namespace Fm
theorem valid_one (x : T) : Fc.Valid [⟨x, 1, 0, 1⟩] ↔ Fc.isNm x = true := by
  rw [Fc.valid_iff, Fc.isNm_iff]
  constructor
  · intro h
    exact (h.2 0 (by simp) _ rfl).1
  · intro h
    refine ⟨by simp, fun i hi f hf => ?_⟩
    have hi0 : i = 0 := by simpa using hi
    subst hi0
    obtain rfl : (⟨x, 1, 0, 1⟩ : Fc.Fact) = f := by simpa using hf
    exact ⟨h, .inl ⟨rfl, rfl, rfl⟩, by rw [Fc.idx_of (i := 0) rfl rfl (fun j hj => absurd hj (by omega))]; omega⟩
end Fm

set_option maxHeartbeats 1000000 in
set_option maxRecDepth 100000 in
theorem fisname_walk (x : Fm.T) (hx : x.length ≤ 9223372036854775807) (w : World) :
    Calls Try.prog 73 #[.string (Lx.str x)] w fun e w' => e = .returned (.bool (Fc.isNm x)) ∧ Below w.heap.size w w' := by
  have HV : Hid (∀ W v, Fc.IsF W v [⟨x, 1, 0, 1⟩] → Calls Try.prog 24 #[.agg #[v]] W fun e w' => e = .returned (.bool (Fc.isNm x)) ∧ Below W.heap.size W w') := fun W v h => by
    refine (valid_walk v _ W h).mono ?_
    rintro e w' ⟨⟨b, rfl, hb⟩, hb2⟩
    refine ⟨?_, hb2⟩
    have : b = Fc.isNm x := by rw [Bool.eq_iff_iff, hb, Fm.valid_one]
    rw [this]
  obtain ⟨b, hb⟩ : ∃ b, b = Fc.isNm x := ⟨_, rfl⟩
  rw [← hb] at HV ⊢
  clear hb
  have hk := heap_alloc_new w (.cells #[.string (Lx.str x), .int .i64 1, .int .i64 0, .int .i64 1] 52)
  have HF : Hid (Fc.IsF (w.alloc (.cells #[.string (Lx.str x), .int .i64 1, .int .i64 0, .int .i64 1] 52)) (.slice (some ⟨w.heap.size, 0, none⟩) 1 1) [⟨x, 1, 0, 1⟩]) := by
    refine ⟨_, 1, rfl, Nat.le_refl _, by decide, fun f hf => ?_, fun _ => ⟨w.heap.size, 0, rfl, by simp, fun i f hf => ?_⟩⟩
    · obtain rfl : f = ⟨x, 1, 0, 1⟩ := by simpa using hf
      refine ⟨hx, ?_, ?_, ?_⟩ <;> (dsimp only; omega)
    · have hi0 : i = 0 := by have := (List.getElem?_eq_some_iff.1 hf).1; simpa using this
      subst hi0
      obtain rfl : (⟨x, 1, 0, 1⟩ : Fc.Fact) = f := by simpa using hf
      exact ⟨Joins.cell_of_block hk 0, Joins.cell_of_block hk 1, Joins.cell_of_block hk 2, Joins.cell_of_block hk 3⟩
  have HC := Lib.hid (HV.out _ _ HF.out)
  have HB := Lib.hid ((Below.refl w.heap.size w).alloc (Nat.le_refl _) (.cells #[.string (Lx.str x), .int .i64 1, .int .i64 0, .int .i64 1] 52))
  clear hk HV HF
  go_enter Try.func73, Try.ntmps73
  go_wp2_with fail
  refine HC.out.mono ?_
  rintro e w2 ⟨rfl, hb2⟩
  go_wp2_with fail
  go_ret
  exact ⟨rfl, HB.out.trans (hb2.mono HB.out.size)⟩

set_option maxHeartbeats 1000000 in
set_option maxRecDepth 100000 in
theorem onlykids_walk (f : Fm.Fo) (u : Value) (w : World) :
    Calls Try.prog 72 #[Fm.fv f u] w fun e w' => e = .returned (.bool (f.name.isEmpty && decide (f.cmp = 0) && decide (f.num = 0))) ∧ Below w.heap.size w w' := by
  obtain ⟨op, x, c, n, ks⟩ := f
  have HB := Lib.hid ((Below.refl w.heap.size w).alloc (Nat.le_refl _) (.cells #[.int .i64 op, .string (Lx.str x), .int .i64 c, .int .i64 n, u] 24))
  have hxe : (Lx.str x).toList.isEmpty = x.isEmpty := by
    rw [Lib.toList_data]; rfl
  obtain ⟨s, hs⟩ : ∃ s, s = Lx.str x := ⟨_, rfl⟩
  dsimp only [Fm.fv, Fm.Fo.op, Fm.Fo.name, Fm.Fo.cmp, Fm.Fo.num]
  rw [← hs] at hxe HB ⊢
  obtain ⟨b, hb⟩ : ∃ b, b = x.isEmpty := ⟨_, rfl⟩
  rw [← hb] at hxe ⊢
  clear hs hb
  cases b with
  | false =>
    go_enter Try.func72, Try.ntmps72
    go_wp2_with fail
    go_ret
    exact ⟨rfl, HB.out⟩
  | true =>
    by_cases hc : c = 0
    · by_cases hn : n = 0
      · subst hc hn
        go_enter Try.func72, Try.ntmps72
        go_wp2_with fail
        go_ret
        exact ⟨rfl, HB.out⟩
      · subst hc
        go_enter Try.func72, Try.ntmps72
        go_wp2_with fail
        go_ret
        exact ⟨by simp [hn], HB.out⟩
    · go_enter Try.func72, Try.ntmps72
      go_wp2_with fail
      go_ret
      exact ⟨by simp [hc], HB.out⟩
end Go.Proofs.Ytjcaingfeaaakaa
