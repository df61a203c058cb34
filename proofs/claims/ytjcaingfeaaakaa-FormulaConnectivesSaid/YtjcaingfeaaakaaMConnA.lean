/-
  P7.2 in arithmetic; nodes that both makes of formulas in a block.
-/
import Derived.Test.YtjcaingfeaaakaaMPartsA
namespace Go.Proofs.Ytjcaingfeaaakaa
open Go.RowKit

namespace Fm
open Lx
abbrev fNot (f : Fo) : Fo := .mk 5 [] 0 0 [f]
abbrev fTwo (o : Int) (f g : Fo) : Fo := .mk o [] 0 0 [f, g]
theorem formed_not {d : List Fc.Fact} {f : Fo} (h : formed d f = 0) (hs : size f ≤ 199) (hd : depth f ≤ 19) : formed d (fNot f) = 0 := by
  show check _ _ _ _ = 0
  unfold check
  have h1 : size (fNot f) = 1 + (size f + 0) := by rw [fNot, size, sizeL, sizeL]
  have h2 : depth (fNot f) = 1 + max (depth f) 0 := by rw [fNot, depth, depthL, depthL]
  rw [if_neg (by omega)]
  refine errs_ok.2 ⟨?_, errsL_ok.2 fun k hk => ?_⟩
  · rw [err1, wf]; simp
  · rw [List.mem_singleton] at hk; subst hk; exact check_errs h
theorem formed_two {d : List Fc.Fact} {f g : Fo} {o : Int} (ho : o = 6 ∨ o = 7) (hf : formed d f = 0) (hg : formed d g = 0) (hs : size f + size g ≤ 199) (hd : depth f ≤ 19) (hd2 : depth g ≤ 19) : formed d (fTwo o f g) = 0 := by
  show check _ _ _ _ = 0
  unfold check
  have h1 : size (fTwo o f g) = 1 + (size f + (size g + 0)) := by rw [fTwo, size, sizeL, sizeL, sizeL]
  have h2 : depth (fTwo o f g) = 1 + max (depth f) (max (depth g) 0) := by rw [fTwo, depth, depthL, depthL, depthL]
  rw [if_neg (by omega)]
  refine errs_ok.2 ⟨?_, errsL_ok.2 fun k hk => ?_⟩
  · rw [err1, wf]; rcases ho with rfl | rfl <;> simp
  · simp only [List.mem_cons, List.not_mem_nil, or_false] at hk
    rcases hk with rfl | rfl
    · exact check_errs hf
    · exact check_errs hg
theorem holds_not (v : T → Int) (ts : T → Bool) (f : Fo) : holds v ts (fNot f) = !holds v ts f := by
  rw [fNot, holds, anyL, anyL]; simp
theorem holds_and (v : T → Int) (ts : T → Bool) (f g : Fo) : holds v ts (fTwo 6 f g) = (holds v ts f && holds v ts g) := by
  rw [fTwo, holds, allL, allL, allL]; simp
theorem holds_or (v : T → Int) (ts : T → Bool) (f g : Fo) : holds v ts (fTwo 7 f g) = (holds v ts f || holds v ts g) := by
  rw [fTwo, holds, anyL, anyL, anyL]; simp
/-- What the law asks of two good formulas. -/
theorem conn {f g : Fo} {d : List Fc.Fact} {c : List Int} {l : List T} (hf : Good f d c) (hg : Good g d c) :
    holdsB d c l (fNot f) = !holdsB d c l f ∧ holdsB d c l (fTwo 6 f g) = (holdsB d c l f && holdsB d c l g) ∧ holdsB d c l (fTwo 7 f g) = (holdsB d c l f || holdsB d c l g) ∧
    holdsB d c l (fNot (fTwo 6 f g)) = !(holdsB d c l f && holdsB d c l g) ∧ holdsB d c l (fTwo 7 (fNot f) (fNot g)) = !(holdsB d c l f && holdsB d c l g) := by
  have h1 : formed d f = 0 := good_any hf _ fun _ => rfl
  have h2 : formed d g = 0 := good_any hg _ fun _ => rfl
  have s1 := hf.2.1
  have s2 := hg.2.1
  have e1 := hf.2.2.1
  have e2 := hg.2.2.1
  have sn : ∀ k : Fo, size (fNot k) = 1 + (size k + 0) := fun k => by rw [fNot, size, sizeL, sizeL]
  have dn : ∀ k : Fo, depth (fNot k) = 1 + max (depth k) 0 := fun k => by rw [fNot, depth, depthL, depthL]
  have st : size (fTwo 6 f g) = 1 + (size f + (size g + 0)) := by rw [fTwo, size, sizeL, sizeL, sizeL]
  have dt : depth (fTwo 6 f g) = 1 + max (depth f) (max (depth g) 0) := by rw [fTwo, depth, depthL, depthL, depthL]
  have k1 := formed_not h1 (by omega) (by omega)
  have k2 := formed_not h2 (by omega) (by omega)
  have k6 := formed_two (.inl rfl) h1 h2 (by omega) (by omega) (by omega)
  have k7 := formed_two (.inr rfl) h1 h2 (by omega) (by omega) (by omega)
  have k8 := formed_not k6 (by rw [st]; omega) (by rw [dt]; omega)
  have k9 := formed_two (.inr rfl) k1 k2 (by rw [sn, sn]; omega) (by rw [dn]; omega) (by rw [dn]; omega)
  refine ⟨?_, ?_, ?_, ?_, ?_⟩
  · rw [holdsB_yes hf.1 k1, holdsB_yes hf.1 h1, holds_not]
  · rw [holdsB_yes hf.1 k6, holdsB_yes hf.1 h1, holdsB_yes hf.1 h2, holds_and]
  · rw [holdsB_yes hf.1 k7, holdsB_yes hf.1 h1, holdsB_yes hf.1 h2, holds_or]
  · rw [holdsB_yes hf.1 k8, holdsB_yes hf.1 h1, holdsB_yes hf.1 h2, holds_not, holds_and]
  · rw [holdsB_yes hf.1 k9, holdsB_yes hf.1 h1, holdsB_yes hf.1 h2, holds_or, holds_not, holds_not, Bool.not_and]
end Fm

theorem both_one (o : Int) (ho : Fm.I64 o) (Y : World) (b : Nat) (f : Fm.Fo) (u : Value) (hat : Fm.At Y f u) (hk : Y.heap[b]? = some (.cells #[.int .i64 f.op, .string (Lx.str f.name), .int .i64 f.cmp, .int .i64 f.num, u] 24 (0, 0))) :
    Calls Try.prog 28 #[.int .i64 o, .slice (some ⟨b, 0, none⟩) 1 1] Y fun e v => e = .returned (.agg #[.int .i64 o, .string (Lx.str []), .int .i64 0, .int .i64 0, .slice (some ⟨b, 0, none⟩) 1 1]) ∧ Below Y.heap.size Y v ∧ Fm.At v (.mk o [] 0 0 [f]) (.slice (some ⟨b, 0, none⟩) 1 1) :=
  (both_walk o _ 1 1 Y).mono fun e v h => ⟨h.1, h.2, Fm.at_iff.2 ⟨Fm.sized_mk ho _, Fm.IsK.of_block (ks := [f]) (us := [u]) rfl ((h.2.block b (Array.getElem?_eq_some_iff.1 hk).1).trans hk) (by simp) fun j y x hj hx => by
    have : j = 0 := by have := (List.getElem?_eq_some_iff.1 hj).1; simp at this; exact this
    subst this
    simp at hj hx
    subst hj hx
    exact hat.below h.2⟩⟩
theorem both_two (o : Int) (ho : Fm.I64 o) (Y : World) (b : Nat) (f g : Fm.Fo) (u x : Value) (hat : Fm.At Y f u) (hatg : Fm.At Y g x) (hk : Y.heap[b]? = some (.cells #[.int .i64 f.op, .string (Lx.str f.name), .int .i64 f.cmp, .int .i64 f.num, u, .int .i64 g.op, .string (Lx.str g.name), .int .i64 g.cmp, .int .i64 g.num, x] 24 (0, 0))) :
    Calls Try.prog 28 #[.int .i64 o, .slice (some ⟨b, 0, none⟩) 2 2] Y fun e v => e = .returned (.agg #[.int .i64 o, .string (Lx.str []), .int .i64 0, .int .i64 0, .slice (some ⟨b, 0, none⟩) 2 2]) ∧ Below Y.heap.size Y v ∧ Fm.At v (.mk o [] 0 0 [f, g]) (.slice (some ⟨b, 0, none⟩) 2 2) :=
  (both_walk o _ 2 2 Y).mono fun e v h => ⟨h.1, h.2, Fm.at_iff.2 ⟨Fm.sized_mk ho _, Fm.IsK.of_block (ks := [f, g]) (us := [u, x]) rfl ((h.2.block b (Array.getElem?_eq_some_iff.1 hk).1).trans hk) (by simp) fun j y z hj hz => by
    have hj2 : j < 2 := (List.getElem?_eq_some_iff.1 hj).1
    rcases (by omega : j = 0 ∨ j = 1) with rfl | rfl
    · simp at hj hz
      subst hj hz
      exact hat.below h.2
    · simp at hj hz
      subst hj hz
      exact hatg.below h.2⟩⟩
end Go.Proofs.Ytjcaingfeaaakaa
