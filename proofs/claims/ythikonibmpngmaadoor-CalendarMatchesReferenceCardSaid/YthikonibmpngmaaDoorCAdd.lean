/-
  The walks of calendar.workLater, monthsLater, isTerm, firstStep and Add.
-/
import Derived.Test.YthikonibmpngmaaDoorCSet
import Derived.OneCell
namespace Go.Proofs.YthikonibmpngmaaDoor
open Go.RowKit Go.Maps

/-- The two captured variables of the closure that counts working days. -/
def LeftSt (W0 : World) (bo bl b n : Nat) (cl : List Int) (k : Int) (W : World) : Prop :=
  W.cell? ⟨bo, 0, none⟩ = some (Cal.openFn b) ∧ W.heap[bl]? = some (.cells #[.int .i64 k] 3 (0, 0)) ∧ IsSet W b n cl ∧ Below W0.heap.size W0 W

set_option maxHeartbeats 1000000 in
set_option maxRecDepth 100000 in
theorem count_walk (W0 : World) (bo bl b n : Nat) (cl : List Int) (k d : Int) (hk : 0 ≤ k ∧ k ≤ 1000000) (w : World) (hbl : W0.heap.size ≤ bl) (hbo : bo ≠ bl) (hb : b ≠ bl) (h : LeftSt W0 bo bl b n cl k w) :
    Calls Tryd.prog 53 #[.int .i64 d, .pointer (some ⟨bo, 0, none⟩), .pointer (some ⟨bl, 0, none⟩)] w
      fun e w' => e = .returned (.bool (decide (k - (if Cal.opn cl d = true then 1 else 0) = 0))) ∧ LeftSt W0 bo bl b n cl (k - if Cal.opn cl d = true then 1 else 0) w' := by
  obtain ⟨h1, h2, h3, h4⟩ := h
  have HC := Lib.hid (open_walk b n cl d w h3)
  have c2 := cell_of_one h2
  have f2 := free_of_one h2
  have H2 := Lib.hid h2
  have H3 := Lib.hid h3
  have H4 := Lib.hid h4
  have H1 := Lib.hid h1
  have HB := Lib.hid (And.intro hbl (And.intro hbo hb))
  clear h2 h3 h4 hbl hb
  cases ho : Cal.opn cl d
  · rw [ho] at HC
    simp only [Bool.false_eq_true, if_false, Int.sub_zero]
    clear ho
    obtain ⟨z, hz⟩ : ∃ z, z = decide (k = 0) := ⟨_, rfl⟩
    have hz' : (k == 0) = z := by rw [hz]; rfl
    rw [← hz]
    clear hz
    go_enter Tryd.func53, Tryd.ntmps53
    go_wp2_with fail
    refine HC.out.mono ?_
    rintro e w' ⟨rfl, rfl⟩
    go_wp2
    go_ret
    exact ⟨rfl, H1.out, H2.out, H3.out, H4.out⟩
  · rw [ho] at HC
    simp only [if_true]
    clear ho
    obtain ⟨z, hz⟩ : ∃ z, z = decide (k - 1 = 0) := ⟨_, rfl⟩
    have hz' : (k - 1 == 0) = z := by rw [hz]; rfl
    rw [← hz]
    clear hz
    go_enter Tryd.func53, Tryd.ntmps53
    go_wp2_with fail
    refine HC.out.mono ?_
    rintro e w' ⟨rfl, rfl⟩
    go_wp2
    go_ret
    refine ⟨rfl, ?_, one_setCell H2.out, H3.out.setCell HB.out.2.2 _, H4.out.setCell (p := ⟨bl, 0, none⟩) HB.out.1 _⟩
    rw [World.cell?_setCell_other _ _ _ _ (by simp)]
    exact H1.out

theorem enters_open : Enters Tryd.prog 39 := enters_of Tryd.func39 (by kernel_rfl) rfl
theorem enters_count : Enters Tryd.prog 53 := enters_of Tryd.func53 (by kernel_rfl) rfl

theorem next_open (b n : Nat) (cl : List Int) (a : Int) (ha : 0 ≤ a) (w : World) (h : IsSet w b n cl) :
    Calls Tryd.prog 40 #[.int .i64 a, Cal.openFn b] w (Two (Cal.Next (Cal.opn cl) a) w) := by
  refine (next_walk _ enters_open #[.map (some b)] #[] (Cal.opn cl) a ha (fun _ w' => w = w') w rfl ?_).mono ?_
  · rintro d w1 _ _ rfl _
    refine (open_walk b n cl d w h).mono ?_
    rintro e w' ⟨rfl, rfl⟩
    exact ⟨rfl, rfl⟩
  · rintro e w' ⟨v, er, rfl, hN, _, rfl⟩
    exact ⟨v, er, rfl, hN, rfl⟩

theorem next_count (W0 : World) (bo bl b n : Nat) (cl : List Int) (a k : Int) (ha : 0 ≤ a) (hk : 1 ≤ k ∧ k ≤ 1000000) (w : World) (hbl : W0.heap.size ≤ bl) (hbo : bo ≠ bl) (hb : b ≠ bl) (h : LeftSt W0 bo bl b n cl k w) :
    Calls Tryd.prog 40 #[.int .i64 (a + 1), .func (.func 53) #[] #[.pointer (some ⟨bo, 0, none⟩), .pointer (some ⟨bl, 0, none⟩)]] w
      (TwoB (Cal.WorkL (Cal.opn cl) a k) (Below W0.heap.size W0)) := by
  refine (next_walk _ enters_count #[] #[.pointer (some ⟨bo, 0, none⟩), .pointer (some ⟨bl, 0, none⟩)] (fun x => decide (Cal.cnt (Cal.opn cl) a (x - a).toNat = k)) (a + 1) (by omega)
    (fun d w' => LeftSt W0 bo bl b n cl (k - Cal.cnt (Cal.opn cl) a (d - 1 - a).toNat) w') w ?_ ?_).mono ?_
  · rw [show a + 1 - 1 - a = 0 by omega]
    simpa [Cal.cnt] using h
  · intro d w1 hd1 hd2 hst hno
    have hlt := Cal.cnt_lt (Cal.opn cl) a k hk.1 (d - 1 - a).toNat (fun j h1 h2 => by
      have := hno (a + j) (by omega) (by omega)
      rw [show (a + (j : Int) - a).toNat = j by omega] at this
      simpa using this)
    have hge := (Cal.cnt_bd (Cal.opn cl) a (d - 1 - a).toNat).1
    have hs := Cal.cnt_step (Cal.opn cl) a d hd1
    refine (count_walk W0 bo bl b n cl _ d (by omega) w1 hbl hbo hb hst).mono ?_
    rintro e w' ⟨rfl, h'⟩
    rw [show k - Cal.cnt (Cal.opn cl) a (d - 1 - a).toNat - (if Cal.opn cl d = true then 1 else 0) = k - Cal.cnt (Cal.opn cl) a (d - a).toNat by omega] at h' ⊢
    refine ⟨?_, by rw [show d + 1 - 1 - a = d - a by omega]; exact h'⟩
    congr 2
    rw [decide_eq_decide]
    omega
  · rintro e w' ⟨v, er, rfl, hN, d, hst⟩
    refine ⟨v, er, rfl, ?_, hst.2.2.2⟩
    rw [Cal.WorkL, if_neg (by omega)]
    exact hN

set_option maxHeartbeats 1000000 in
set_option maxRecDepth 100000 in
theorem worklater_walk (b m : Nat) (cl : List Int) (a k : Int) (ha : 0 ≤ a ∧ a ≤ 1000000) (hk : 0 ≤ k ∧ k ≤ 1000000) (w : World) (h : IsSet w b m cl) :
    Calls Tryd.prog 50 #[.int .i64 a, .int .i64 k, Cal.openFn b] w (TwoB (Cal.WorkL (Cal.opn cl) a k) (Below w.heap.size w)) := by
  by_cases hk0 : k = 0
  · subst hk0
    clear h
    go_enter Tryd.func50, Tryd.ntmps50
    go_wp2
    go_ret2
    exact ⟨a, 0, rfl, by rw [Cal.WorkL, if_pos rfl]; exact ⟨rfl, rfl⟩, (Below.refl _ _).alloc (Nat.le_refl _) _⟩
  · have hst : LeftSt w w.heap.size (w.heap.size + 1) b m cl k ((w.alloc (.cells #[Cal.openFn b] 50)).alloc (.cells #[.int .i64 k] 3)) := by
      refine ⟨?_, ?_, (h.alloc _).alloc _, ((Below.refl _ _).alloc (Nat.le_refl _) _).alloc (by simp) _⟩
      · rw [World.cell?_alloc_lt _ _ _ (by simp)]; exact World.cell?_alloc_at _ _ _ _ rfl
      · have := heap_alloc_new (w.alloc (.cells #[Cal.openFn b] 50)) (.cells #[.int .i64 k] 3); simpa using this
    have HC := Lib.hid (next_count w w.heap.size (w.heap.size + 1) b m cl a k ha.1 (by omega) _ (by omega) (by omega) (by have := h.lt; omega) hst)
    have hk1 : (k == 0) = false := by simpa using hk0
    clear hst h hk0
    go_enter Tryd.func50, Tryd.ntmps50
    go_wp2_with fail
    refine HC.out.mono ?_
    rintro e w' ⟨v, er, rfl, hW, hb⟩
    have HW := Lib.hid hW
    have HB := Lib.hid hb
    clear hW hb
    go_wp2
    go_ret2
    exact ⟨v, er, rfl, HW.out, HB.out⟩
end Go.Proofs.YthikonibmpngmaaDoor
