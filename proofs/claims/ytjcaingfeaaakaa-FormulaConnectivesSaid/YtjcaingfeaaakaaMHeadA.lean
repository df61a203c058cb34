/-
  The law's head: examples in arithmetic, formulas that a call makes, test and both.
-/
import Derived.Test.YtjcaingfeaaakaaMRefX
import Derived.Test.YtjcaingfeaaakaaMTerms
import Derived.Test.YtjcaingfeaaakaaMSame
import Derived.Test.YtjcaingfeaaakaaMHolds
import Derived.KernelRfl
namespace Go.Proofs.Ytjcaingfeaaakaa
open Go.RowKit

namespace Fm
open Lx
instance (f : Fo) : Decidable (Sized f) := by unfold Sized I64; exact inferInstance
def tst (x : T) (cmp n : Int) : Fo := .mk 3 x cmp n []
def hAge : T := [97, 103, 101]
def hMem : T := [109, 101, 109, 98, 101, 114]
def hAd : T := [97, 100, 117, 108, 116]
def hD : List Fc.Fact := [⟨hAge, 2, 0, 150⟩, ⟨hMem, 1, 0, 1⟩]
def hA : Fo := .mk 4 hAd 0 0 []
def hN : Fo := .mk 5 [] 0 0 [tst hMem 1 1]
def hF : Fo := .mk 6 [] 0 0 [tst hAge 6 18, hN]
def hY : Fo := tst hAge 3 18
theorem hd_fit : Fc.Fit hD [20, 0] := by
  refine ⟨⟨?_, by decide, by decide⟩, by decide⟩
  intro f hf
  simp only [hD, List.mem_cons, List.not_mem_nil, or_false] at hf
  rcases hf with rfl | rfl
  · exact ⟨(Fc.good1 _).2 ⟨97, [103, 101], rfl, by decide, by decide, by decide⟩, by decide, by decide, by decide, by decide, by decide⟩
  · exact ⟨(Fc.good1 _).2 ⟨109, [101, 109, 98, 101, 114], rfl, by decide, by decide, by decide⟩, by decide, by decide, by decide, by decide, by decide⟩
theorem hd_h1 : holdsB hD [20, 0] [] hF = true := (holdsB_yes hd_fit (by kernel_rfl)).trans (by kernel_rfl)
theorem hd_h2 : holdsB hD [20, 0] [hAd] hA = true := (holdsB_yes hd_fit (by kernel_rfl)).trans (by kernel_rfl)
theorem hd_h3 : holdsB hD [20, 0] [] hA = false := (holdsB_yes hd_fit (by kernel_rfl)).trans (by kernel_rfl)
theorem hd_h4 : holdsB hD [20, 0] [] hY = false := (holdsB_yes hd_fit (by kernel_rfl)).trans (by kernel_rfl)
theorem hd_c1 : check Fc.isNm (fs hD) (has []) (tst hAge 1 1000001) = 10 := by kernel_rfl
theorem hd_c2 : check Fc.isNm (fs hD) (has []) hA = 7 := by kernel_rfl
theorem hd_c3 : check Fc.isNm (fs hD) (has []) hF = 0 := by kernel_rfl
theorem hd_c4 : check Fc.isNm (fs hD) (has []) (.mk 6 [] 0 0 [hF]) = 1 := by kernel_rfl
theorem hd_t : tms (.mk 7 [] 0 0 [hA, hF, hA]) = [hAd] := by kernel_rfl
theorem hd_s1 : sameB hF hF = true := by kernel_rfl
theorem hd_s2 : sameB hF hA = false := by kernel_rfl
theorem hd_x : expand hAd hY hA = hY := by kernel_rfl

theorem At.leaf {w : World} {f : Fo} (hs : Sized f) (hk : f.kids = []) : At w f (.slice none 0 0) := at_iff.2 ⟨hs, by rw [hk]; exact IsK.nil w⟩
/-- The kids in a block that was just built. -/
theorem IsK.of_block {w : World} {ks : List Fo} {us : List Value} {g : Nat} {ty : TypeId} {fr : Nat × Nat} (hl : us.length = ks.length) (hb : w.heap[g]? = some (.cells (cellsL ks us).toArray ty fr)) (hm : ks.length ≤ 1000000)
    (h : ∀ (j : Nat) (k : Fo) (u : Value), ks[j]? = some k → us[j]? = some u → At w k u) : IsK w (.slice (some ⟨g, 0, none⟩) ks.length ks.length) ks := by
  refine ⟨_, _, rfl, Nat.le_refl _, by omega, fun _ => ⟨g, 0, rfl, (Array.getElem?_eq_some_iff.1 hb).1, Row.of fun j k hj => ?_⟩⟩
  obtain ⟨u, hu⟩ : ∃ u, us[j]? = some u := ⟨_, List.getElem?_eq_getElem (by rw [hl]; exact (List.getElem?_eq_some_iff.1 hj).1)⟩
  have e : ∀ r, r < 5 → w.cell? ⟨g, j * 5 + r, none⟩ = (cellsF k u)[r]? := fun r hr => by
    rw [Joins.cell_of_block hb, List.getElem?_toArray]; exact cellsL_get ks us j k u hl hj hu r hr
  simp only [Nat.zero_add]
  exact ⟨⟨e 0 (by omega), e 1 (by omega), e 2 (by omega), e 3 (by omega)⟩, u, e 4 (by omega), h j k u hj hu⟩
end Fm

theorem below_al {W w : World} (h : Below W.heap.size W w) (o : Obj) : Below W.heap.size W (w.alloc o) := h.alloc h.size o
theorem below_put {W w : World} (h : Below W.heap.size W w) (o : Obj) (g i : Nat) (hg : g = w.heap.size) (v : Value) : Below W.heap.size W ((w.alloc o).setCell ⟨g, i, none⟩ v) := (h.alloc h.size o).setCell (p := ⟨g, i, none⟩) (by rw [hg]; exact h.size) v
theorem below_step {W w1 w2 : World} (hb : Below w1.heap.size w1 w2) (h : Below W.heap.size W w1) : Below W.heap.size W w2 := h.trans (hb.mono h.size)
theorem below_set {W w : World} {g i : Nat} (hg : W.heap.size ≤ g) (h : Below W.heap.size W w) (v : Value) : Below W.heap.size W (w.setCell ⟨g, i, none⟩ v) := h.setCell (p := ⟨g, i, none⟩) hg v
theorem leaf_any {w w' : World} {f : Fm.Fo} {a : Option Addr} {c : Nat} (h : Fm.At w f (.slice a 0 c)) (hk : f.kids = []) : Fm.At w' f (.slice a 0 c) := by
  obtain ⟨_, _, e, h1, h2⟩ := h.kidsAt.len
  rw [hk] at e
  cases e
  rw [hk] at h1
  exact Fm.at_iff.2 ⟨h.sized, by rw [hk]; exact ⟨_, _, rfl, h1, h2, fun h => absurd rfl h⟩⟩
theorem cells_alloc {w : World} {f : Fm.Fo} {u : Value} : Fm.Cells (w.alloc (.cells #[.int .i64 f.op, .string (Lx.str f.name), .int .i64 f.cmp, .int .i64 f.num, u] 24)) w.heap.size 0 f u := by
  have hk := heap_alloc_new w (.cells #[.int .i64 f.op, .string (Lx.str f.name), .int .i64 f.cmp, .int .i64 f.num, u] 24)
  exact ⟨Joins.cell_of_block hk 0, Joins.cell_of_block hk 1, Joins.cell_of_block hk 2, Joins.cell_of_block hk 3, Joins.cell_of_block hk 4⟩
theorem isT_one (w : World) (x : Fm.T) (hx : x.length ≤ 9223372036854775807) : Fm.IsT (w.alloc (.cells #[.string (Lx.str x)] 9)) (.slice (some ⟨w.heap.size, 0, none⟩) 1 1) [x] := by
  have hk := heap_alloc_new w (.cells #[.string (Lx.str x)] 9)
  refine ⟨_, 1, rfl, Nat.le_refl _, by decide, by simpa using hx, fun _ => ⟨_, 0, rfl, (Array.getElem?_eq_some_iff.1 hk).1, fun i t ht => ?_⟩⟩
  have : i = 0 := by have := (List.getElem?_eq_some_iff.1 ht).1; simp at this; exact this
  subst this
  simp at ht
  subst ht
  exact Joins.cell_of_block hk 0
theorem test_results (tmps : Array Value) (w : World) (g : Nat) (f : Fm.Fo) (u : Value) (hp : tmps.getD 6 undef = .pointer (some ⟨g, 0, none⟩)) (h : Fm.Cells w g 0 f u) :
    (results Try.f30 tmps).run Try.prog w = .ok (Fm.fv f u) w := by
  have hp' : tmps[6]?.getD undef = .pointer (some ⟨g, 0, none⟩) := by simpa using hp
  obtain ⟨h0, h1, h2, h3, h4⟩ := h
  simp only [Nat.zero_add] at h1 h2 h3 h4
  simp [results, Try.f30, hp', go_sem, h0, h1, h2, h3, h4]
theorem both_results (tmps : Array Value) (w : World) (g : Nat) (f : Fm.Fo) (u : Value) (hp : tmps.getD 4 undef = .pointer (some ⟨g, 0, none⟩)) (h : Fm.Cells w g 0 f u) :
    (results Try.f28 tmps).run Try.prog w = .ok (Fm.fv f u) w := by
  have hp' : tmps[4]?.getD undef = .pointer (some ⟨g, 0, none⟩) := by simpa using hp
  obtain ⟨h0, h1, h2, h3, h4⟩ := h
  simp only [Nat.zero_add] at h1 h2 h3 h4
  simp [results, Try.f28, hp', go_sem, h0, h1, h2, h3, h4]

theorem test_walk (x : Fm.T) (c n : Int) (w : World) :
    Calls Try.prog 30 #[.string (Lx.str x), .int .i64 c, .int .i64 n] w fun e w' => e = .returned (Fm.fv (Fm.tst x c n) (.slice none 0 0)) ∧ Below w.heap.size w w' := by
  go_enter Try.func30, Try.ntmps30
  go_wp2_with fail
  have hk := heap_alloc_new w (.cells #[.int .i64 ((Fm.tst x c n)).op, .string (Lx.str ((Fm.tst x c n)).name), .int .i64 ((Fm.tst x c n)).cmp, .int .i64 ((Fm.tst x c n)).num, (.slice none 0 0)] 24)
  exact bodyPost_ret (test_results _ _ w.heap.size (Fm.tst x c n) (.slice none 0 0) rfl ⟨Joins.cell_of_block hk 0, Joins.cell_of_block hk 1, Joins.cell_of_block hk 2, Joins.cell_of_block hk 3, Joins.cell_of_block hk 4⟩) rfl ⟨rfl, (Below.refl _ _).alloc (Nat.le_refl _) _⟩
theorem both_walk (o : Int) (a : Option Addr) (m k : Nat) (w : World) :
    Calls Try.prog 28 #[.int .i64 o, .slice a m k] w fun e w' => e = .returned (.agg #[.int .i64 o, .string (Lx.str []), .int .i64 0, .int .i64 0, .slice a m k]) ∧ Below w.heap.size w w' := by
  go_enter Try.func28, Try.ntmps28
  go_wp2_with fail
  have hk := heap_alloc_new w (.cells #[.int .i64 ((Fm.Fo.mk o [] 0 0 [])).op, .string (Lx.str ((Fm.Fo.mk o [] 0 0 [])).name), .int .i64 ((Fm.Fo.mk o [] 0 0 [])).cmp, .int .i64 ((Fm.Fo.mk o [] 0 0 [])).num, (.slice a m k)] 24)
  exact bodyPost_ret (both_results _ _ w.heap.size (Fm.Fo.mk o [] 0 0 []) (.slice a m k) rfl ⟨Joins.cell_of_block hk 0, Joins.cell_of_block hk 1, Joins.cell_of_block hk 2, Joins.cell_of_block hk 3, Joins.cell_of_block hk 4⟩) rfl ⟨rfl, (Below.refl _ _).alloc (Nat.le_refl _) _⟩
end Go.Proofs.Ytjcaingfeaaakaa
