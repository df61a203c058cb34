import Derived.Test.YtoamkanofhhjfaaGreatDoorKFBnds
import Derived.Test.YtoamkanofhhjfaaGreatDoorKELexEx
/-
  The walk of newReader, and of Parse's closure.
-/
namespace Go.Proofs.YtoamkanofhhjfaaGreatDoor
open Go.RowKit

namespace Fc
open Lx
/-- How newReader ends. -/
def NewOut (r : List Tok × Nat × Int) (e : Nat) (w : World) (en : Ending) (w' : World) : Prop :=
  Below w.heap.size w w' ∧ ((r.2.1 = 0 ∧ ∃ R, en = .returned (.pointer (some ⟨R, 0, none⟩)) ∧ w.heap.size ≤ R ∧ IsR R w' e r.1) ∨
    (r.2.1 ≠ 0 ∧ en = .panicked [{ v := .iface 87 (.agg #[.int .i64 (r.2.1 : Nat), .int .i64 r.2.2]), recovered := false }]))
theorem OwnT.isT {base R : Nat} {l : List Tok} {v : Value} {w : World} (h : OwnT base l v w) (hR : w.heap.size ≤ R) : IsT R w v l := by
  obtain ⟨a, c, e, h1, h2, h3⟩ := h.isL
  refine ⟨a, c, e, h1, h2, fun hne => ?_⟩
  obtain ⟨g, e2, hg, hc⟩ := h3 hne
  exact ⟨g, 0, e2, by omega, fun i t ht => by rw [Nat.zero_add]; exact hc i t ht⟩
end Fc

set_option maxHeartbeats 4000000 in
set_option maxRecDepth 100000 in
theorem newreader_walk (s : ByteArray) (hm : s.size ≤ 9223372036854775807) (w : World) :
    Calls Tryz.prog 29 #[.string s] w (Fc.NewOut (Lx.full (Lx.tx s)) s.size w) := by
  have HL := Lib.hid (lex_walk s hm w)
  revert HL
  generalize Lx.full (Lx.tx s) = r
  intro HL
  obtain ⟨l, E, A⟩ := r
  obtain ⟨x, hx⟩ : ∃ x : Int, x = (E : Nat) := ⟨_, rfl⟩
  have HLL : Hid (Calls Tryz.prog 53 #[.string s] w fun e w' => ∃ v, e = .returned (.tuple #[v, .int .i64 x, .int .i64 A]) ∧ Lx.OwnT w.heap.size l v w' ∧ Below w.heap.size w w') := by
    show Calls _ _ _ _ _
    rw [hx]; exact HL.out
  clear HL
  have HXE := Lib.hid hx
  clear hx
  obtain ⟨P, hP⟩ : ∃ P, P = Fc.NewOut (l, E, A) s.size w := ⟨_, rfl⟩
  have HP := Lib.hid hP
  rw [← hP]
  clear hP
  go_enter Tryz.func29, Tryz.ntmps29
  go_wp2_with fail
  refine HLL.out.mono ?_
  rintro en w1 ⟨v, rfl, hown, hb⟩
  have HO := Lib.hid (And.intro hown hb)
  obtain ⟨⟨ga, gc⟩, hform⟩ := hown.form
  dsimp only at hform
  subst hform
  clear hown hb HLL
  by_cases hE : E = 0
  · have hxe : x = 0 := by rw [HXE.out]; omega
    subst hxe
    have HN := Lib.hid hE
    clear hE
    go_wp2_with (first | (refine (require_yes 0 A _).mono ?_; rintro en w2 ⟨rfl, rfl⟩))
    have hbA : Below w1.heap.size w1 (w1.alloc (.cells #[.slice ga l.length gc, .int .i64 (s.size : Nat)] 91)) := (Below.refl _ _).alloc (Nat.le_refl _) _
    show P (Ending.returned (.pointer (some ⟨w1.heap.size, 0, none⟩))) (w1.alloc (.cells #[.slice ga l.length gc, .int .i64 (s.size : Nat)] 91))
    rw [HP.out]
    exact ⟨HO.out.2.trans (hbA.mono HO.out.2.size), .inl ⟨HN.out, w1.heap.size, rfl, HO.out.2.size, _, heap_alloc_new _ _, (Fc.OwnT.isT HO.out.1 (Nat.le_refl _)).below hbA⟩⟩
  · have hxe : (x == 0) = false := by rw [beq_eq_false_iff_ne, HXE.out]; omega
    have HN := Lib.hid hE
    clear hE
    go_wp2_with fail
    refine (require_no x A _).mono ?_
    rintro en w2 ⟨rfl, rfl⟩
    refine ⟨rfl, ?_⟩
    rw [HP.out, HXE.out]
    exact ⟨HO.out.2, .inr ⟨HN.out, rfl⟩⟩
end Go.Proofs.YtoamkanofhhjfaaGreatDoor
