/-
  The walk of formula.Check; the functions that say which terms there are.
-/
import Derived.Test.YtjcaingfeaaakaaMFirst
import Derived.Laws.EntriesVeiled
namespace Go.Proofs.Ytjcaingfeaaakaa
open Go.RowKit

set_option maxHeartbeats 1000000 in
set_option maxRecDepth 100000 in
theorem check1_says (v : Value) (l : List Fm.T) (B : Nat) (w : World) (hv : Fm.IsT w v l) (hB : w.heap[B]? = some (.cells #[v] 30 (0, 0))) :
    Fm.Says 38 #[.pointer (some ⟨B, 0, none⟩)] (Fm.has l) w := by
  intro W x hW hx
  obtain ⟨a, c, g, o, rfl, _, _, _, _⟩ := hv.any
  have hc := Joins.cell_of_block ((hW.block B (Array.getElem?_eq_some_iff.1 hB).1).trans hB) 0
  have HC := Lib.hid (contains_walk _ l x W (hv.below hW))
  clear hv hB hW
  show Calls _ _ #[.string (Lx.str x), .pointer (some ⟨B, 0, none⟩)] _ _
  go_enter Try.func38, Try.ntmps38
  go_wp2_with (first | (refine HC.out.mono ?_; rintro e w1 ⟨rfl, rfl⟩))
  go_ret
  exact ⟨rfl, Below.refl _ _⟩

set_option maxHeartbeats 1000000 in
set_option maxRecDepth 100000 in
theorem holds1_says (w : World) : Fm.Says 49 #[] (fun _ => true) w := by
  intro W x hW hx
  show Calls _ _ #[.string (Lx.str x)] _ _
  go_enter Try.func49, Try.ntmps49
  go_wp2_with fail
  go_ret
  exact ⟨rfl, Below.refl _ _⟩

set_option maxHeartbeats 2000000 in
set_option maxRecDepth 100000 in
theorem check_walk (f : Fm.Fo) (u v t : Value) (d : List Fc.Fact) (l : List Fm.T) (w : World) (hat : Fm.At w f u) (hs : Fm.size f ≤ 4611686018427387900) (hd : Fc.IsF w v d) (ht : Fm.IsT w t l) :
    Calls Try.prog 15 #[Fm.fv f u, .agg #[v], t] w fun e w' => e = .returned (.int .i64 (Fm.check Fc.isNm (Fm.fs d) (Fm.has l) f : Nat)) ∧ Below w.heap.size w w' := by
  obtain ⟨ua, un, uc, hu⟩ : ∃ a n c, u = .slice a n c := by obtain ⟨a, c, e, _⟩ := hat.kidsAt.len; exact ⟨_, _, _, e⟩
  obtain ⟨va, vn, vc, hv⟩ : ∃ a n c, v = .slice a n c := by obtain ⟨a, c, e, _⟩ := hd.form; exact ⟨_, _, _, e⟩
  obtain ⟨ta, tn, tc, htt⟩ : ∃ a n c, t = .slice a n c := by obtain ⟨a, c, _, _, e, _⟩ := ht.any; exact ⟨_, _, _, e⟩
  subst hu hv htt
  obtain ⟨W3, hW3⟩ : ∃ W3, W3 = ((w.alloc (.cells #[.int .i64 f.op, .string (Lx.str f.name), .int .i64 f.cmp, .int .i64 f.num, .slice ua un uc] 24)).alloc (.cells #[.slice va vn vc] 27)).alloc (.cells #[.slice ta tn tc] 30) := ⟨_, rfl⟩
  have hb3 : Below w.heap.size w W3 := by rw [hW3]; exact (((Below.refl _ _).alloc (Nat.le_refl _) _).alloc (by simp) _).alloc (by simp; omega) _
  have k2 : W3.heap[w.heap.size + 1 + 1]? = some (.cells #[.slice ta tn tc] 30 (0, 0)) := by rw [hW3]; exact Fm.blk2 _ _ _ _
  have HF := Lib.hid (first_walk f _ _ d 38 #[.pointer (some ⟨w.heap.size + 1 + 1, 0, none⟩)] (Fm.has l) W3 (hat.below hb3) hs (hd.below hb3) (enters_of Try.func38 (by kernel_rfl) rfl) (check1_says _ l _ W3 (ht.below hb3) k2))
  have HB := Lib.hid hb3
  obtain ⟨z, hz⟩ : ∃ z, z = Fm.check Fc.isNm (Fm.fs d) (Fm.has l) f := ⟨_, rfl⟩
  rw [← hz] at HF ⊢
  have hmf : ∀ (fn : Fn) (first cap : Array Value) (w : World), (Instr.makeFunc fn first cap).run Try.prog w = .ok (.func fn first cap) w := fun _ _ _ _ => rfl
  clear hz hat hs hd ht hb3 k2
  go_enter Try.func15, Try.ntmps15
  go_wp2_with fail
  rw [← hW3]
  refine HF.out.mono ?_
  rintro e w4 ⟨rfl, hb4⟩
  have HX := Lib.hid (HB.out.trans (hb4.mono HB.out.size))
  clear hb4
  go_wp2_with fail
  go_ret
  exact ⟨rfl, HX.out⟩
end Go.Proofs.Ytjcaingfeaaakaa
