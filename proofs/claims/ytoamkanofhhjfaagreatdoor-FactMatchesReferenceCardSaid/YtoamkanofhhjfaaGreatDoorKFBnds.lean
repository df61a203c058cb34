import Derived.Test.YtoamkanofhhjfaaGreatDoorKFFits
import Derived.Test.YtoamkanofhhjfaaGreatDoorKELexEx
/-
  The reader of package fact: its state in memory, how a call of its methods ends; the walks of require, more, next, take and word.
-/
namespace Go.Proofs.YtoamkanofhhjfaaGreatDoor
open Go.RowKit

namespace Fc
open Lx
/-- Nothing has turned but block R; new blocks are there. -/
structure Rd (R : Nat) (w w' : World) : Prop where
  os : w'.os = w.os
  tape : w'.tape = w.tape
  output : w'.output = w.output
  size : w.heap.size ≤ w'.heap.size
  block : ∀ k, k < w.heap.size → k ≠ R → w'.heap[k]? = w.heap[k]?
theorem Rd.refl (R : Nat) (w : World) : Rd R w w := ⟨rfl, rfl, rfl, Nat.le_refl _, fun _ _ _ => rfl⟩
theorem Rd.trans {R : Nat} {a b c : World} (h : Rd R a b) (k : Rd R b c) : Rd R a c :=
  ⟨k.os.trans h.os, k.tape.trans h.tape, k.output.trans h.output, Nat.le_trans h.size k.size, fun i hi hn => (k.block i (Nat.lt_of_lt_of_le hi h.size) hn).trans (h.block i hi hn)⟩
theorem Rd.of (R : Nat) {a b : World} (h : Below a.heap.size a b) : Rd R a b := ⟨h.os, h.tape, h.output, h.size, fun k hk _ => h.block k hk⟩
theorem Rd.below {R B : Nat} {a b : World} (h : Rd R a b) (hB : B ≤ R) (hR : R < a.heap.size) : Below B a b := ⟨h.os, h.tape, h.output, h.size, fun k hk => h.block k (by omega) (by omega)⟩
theorem Rd.cell {R : Nat} {w w' : World} (h : Rd R w w') {p : Addr} (hp : p.block < w.heap.size) (hn : p.block ≠ R) : w'.cell? p = w.cell? p := World.cell?_of_block (w := w) (h.block p.block hp hn)
theorem Rd.put {R : Nat} {w : World} (i : Nat) (v : Value) : Rd R w (w.setCell ⟨R, i, none⟩ v) :=
  ⟨rfl, rfl, rfl, by simp [World.setCell], fun k _ hn => Below.heap_setCell _ _ _ _ (by exact hn)⟩

/-- Tokens that are read, in a block below R. -/
def IsT (R : Nat) (w : World) (v : Value) (l : List Tok) : Prop :=
  ∃ a c, v = .slice a l.length c ∧ l.length ≤ c ∧ c ≤ 9223372036854775807 ∧ (l ≠ [] → ∃ g o, a = some ⟨g, o, none⟩ ∧ g < R ∧ ∀ i t, l[i]? = some t →
    w.cell? ⟨g, o + i * 4, none⟩ = some (.int .i64 (t.kind : Nat)) ∧ w.cell? ⟨g, o + i * 4 + 1, none⟩ = some (.string (str t.text)) ∧ w.cell? ⟨g, o + i * 4 + 2, none⟩ = some (.int .i64 (t.n : Nat)) ∧ w.cell? ⟨g, o + i * 4 + 3, none⟩ = some (.int .i64 (t.at_ : Nat)))
theorem IsT.below {R : Nat} {w w' : World} {v : Value} {l : List Tok} (h : IsT R w v l) (hb : Below R w w') : IsT R w' v l := by
  obtain ⟨a, c, e, h1, h2, h3⟩ := h
  refine ⟨a, c, e, h1, h2, fun hne => ?_⟩
  obtain ⟨g, o, e2, hg, hc⟩ := h3 hne
  refine ⟨g, o, e2, hg, fun i t ht => ?_⟩
  obtain ⟨q0, q1, q2, q3⟩ := hc i t ht
  exact ⟨(hb.cell (p := ⟨g, o + i * 4, none⟩) hg).trans q0, (hb.cell (p := ⟨g, o + i * 4 + 1, none⟩) hg).trans q1, (hb.cell (p := ⟨g, o + i * 4 + 2, none⟩) hg).trans q2, (hb.cell (p := ⟨g, o + i * 4 + 3, none⟩) hg).trans q3⟩
/-- The reader at block R: the tokens that are left; e is where the text ends. -/
def IsR (R : Nat) (w : World) (e : Nat) (l : List Tok) : Prop := ∃ v, w.heap[R]? = some (.cells #[v, .int .i64 (e : Nat)] 91 (0, 0)) ∧ IsT R w v l
theorem IsR.lt {R : Nat} {w : World} {e : Nat} {l : List Tok} (h : IsR R w e l) : R < w.heap.size := by
  obtain ⟨v, h, _⟩ := h
  exact (Array.getElem?_eq_some_iff.1 h).1
theorem IsR.below {R : Nat} {w w' : World} {e : Nat} {l : List Tok} (h : IsR R w e l) (hb : Below w.heap.size w w') : IsR R w' e l := by
  have hlt := h.lt
  obtain ⟨v, h1, h2⟩ := h
  exact ⟨v, (hb.block R hlt).trans h1, h2.below (hb.mono (by omega))⟩
theorem IsR.old {R : Nat} {w w' : World} {e : Nat} {l : List Tok} (h : IsR R w e l) (hb : Old w w') : IsR R w' e l := h.below hb.out
/-- The value of a token. -/
abbrev vT (t : Tok) : Value := .agg #[.int .i64 (t.kind : Nat), .string (str t.text), .int .i64 (t.n : Nat), .int .i64 (t.at_ : Nat)]
/-- A panic with a failure. -/
def Fails (x : Nat × Nat) (e : Ending) : Prop := e = .panicked [{ v := .iface 87 (.agg #[.int .i64 (x.1 : Nat), .int .i64 (x.2 : Nat)]), recovered := false }]
/-- How a call ends that reads: with a value and the tokens that are left, or with a failure. -/
def Out {α : Type} (R e : Nat) (w : World) (x : Except (Nat × Nat) (α × List Tok)) (V : α → Value) (en : Ending) (w' : World) : Prop :=
  Rd R w w' ∧ match x with
  | .ok y => en = .returned (V y.1) ∧ IsR R w' e y.2
  | .error z => Fails z en
theorem Out.ok {α : Type} {R e : Nat} {w : World} {x : Except (Nat × Nat) (α × List Tok)} {V : α → Value} {en : Ending} {w' : World} {y : α} {r : List Tok} (h : Out R e w x V en w') (hx : x = .ok (y, r)) : en = .returned (V y) ∧ IsR R w' e r ∧ Rd R w w' := by
  subst hx; exact ⟨h.2.1, h.2.2, h.1⟩
theorem Out.no {α : Type} {R e : Nat} {w : World} {x : Except (Nat × Nat) (α × List Tok)} {V : α → Value} {en : Ending} {w' : World} {z : Nat × Nat} (h : Out R e w x V en w') (hx : x = .error z) : Fails z en ∧ Rd R w w' := by
  subst hx; exact ⟨h.2, h.1⟩
end Fc

set_option maxHeartbeats 1000000 in
set_option maxRecDepth 100000 in
theorem require_yes (x a : Int) (w : World) : Calls Tryz.prog 54 #[.bool true, .int .i64 x, .int .i64 a] w fun e w' => e = .returned (.tuple #[]) ∧ w = w' := by
  go_enter Tryz.func54, Tryz.ntmps54
  go_wp2_with fail
  first | go_end0 | refine bodyPost_ret (results_none rfl _ _ _) rfl ?_
  exact ⟨rfl, rfl⟩
set_option maxHeartbeats 1000000 in
set_option maxRecDepth 100000 in
theorem require_no (x a : Int) (w : World) : Calls Tryz.prog 54 #[.bool false, .int .i64 x, .int .i64 a] w fun e w' => e = .panicked [{ v := .iface 87 (.agg #[.int .i64 x, .int .i64 a]), recovered := false }] ∧ w = w' := by
  go_enter Tryz.func54, Tryz.ntmps54
  go_wp2_with fail
  exact ⟨rfl, rfl, rfl⟩

set_option maxHeartbeats 1000000 in
set_option maxRecDepth 100000 in
theorem more_walk (R e : Nat) (l : List Lx.Tok) (w : World) (h : Fc.IsR R w e l) : Calls Tryz.prog 58 #[.pointer (some ⟨R, 0, none⟩)] w fun en w' => en = .returned (.bool (decide (0 < l.length))) ∧ w = w' := by
  obtain ⟨v, h1, a, c, rfl, h2, h3, _⟩ := h
  have c0 := Joins.cell_of_block h1 0
  obtain ⟨n, hn⟩ : ∃ n, n = l.length := ⟨_, rfl⟩
  rw [← hn] at c0 ⊢
  clear h1 hn
  go_enter Tryz.func58, Tryz.ntmps58
  go_wp2_with fail
  go_ret
  exact ⟨rfl, rfl⟩
end Go.Proofs.YtoamkanofhhjfaaGreatDoor
/-
  The walk of the reader's next.
-/
namespace Go.Proofs.YtoamkanofhhjfaaGreatDoor
open Go.RowKit

namespace Fc
open Lx
/-- What next answers. -/
def nextT (e : Nat) : List Tok → Except (Nat × Nat) (Tok × List Tok)
  | [] => .error (6, e)
  | t :: r => .ok (t, r)
abbrev zeroT (w : World) : World := w.alloc (.cells #[.int .i64 0, .string ⟨#[]⟩, .int .i64 0, .int .i64 0] 60)
theorem zeroT_below (w : World) : Below w.heap.size w (zeroT w) := (Below.refl w.heap.size w).alloc (Nat.le_refl _) _
theorem IsT.tail' {R : Nat} {w : World} {g o n c : Nat} {t : Tok} {r : List Tok} (h : IsT R w (.slice (some ⟨g, o, none⟩) n c) (t :: r)) {A : Option Addr} (hA : r ≠ [] → A = some ⟨g, o + 4, none⟩) : IsT R w (.slice A r.length (c - 1)) r := by
  obtain ⟨a, c', e, h1, h2, h3⟩ := h
  obtain ⟨g', o', ha, hg, hc⟩ := h3 (by simp)
  injection e with e1 _ e2
  subst e2
  rw [ha] at e1
  injection e1 with e1
  injection e1 with e1 e3
  subst e1 e3
  refine ⟨_, _, rfl, by rw [List.length_cons] at h1; omega, by omega, fun hne => ⟨g, o + 4, hA hne, hg, fun i u hu => ?_⟩⟩
  have := hc (i + 1) u (by simpa using hu)
  rw [show o + (i + 1) * 4 = o + 4 + i * 4 by omega] at this
  exact this
/-- A way that is closed, and a goal in its place that is closed behind the region. -/
theorem shut {G D : Prop} (h : G) (_ : D) : G := h
end Fc

set_option maxHeartbeats 4000000 in
set_option maxRecDepth 100000 in
theorem next_none (R e : Nat) (w : World) (h : Fc.IsR R w e []) : Calls Tryz.prog 60 #[.pointer (some ⟨R, 0, none⟩)] w fun en w' => Fc.Fails (6, e) en ∧ Fc.Rd R w w' := by
  have hb0 := Fc.zeroT_below w
  obtain ⟨W, hW⟩ : ∃ W, W = w.alloc (.cells #[.int .i64 0, .string ⟨#[]⟩, .int .i64 0, .int .i64 0] 60) := ⟨_, rfl⟩
  have hb0 : Below w.heap.size w W := by rw [hW]; exact hb0
  have hlt := h.lt
  have hR := h.below hb0
  have HM : Hid (∀ w', Fc.Old W w' → Calls Tryz.prog 58 #[.pointer (some ⟨R, 0, none⟩)] w' fun en w'' => en = .returned (.bool false) ∧ w' = w'') := fun w' ho => more_walk R e [] w' (hR.old ho)
  have HQ := Lib.hid (require_no 6 (e : Int))
  have HB := Lib.hid hb0
  have hltW : R < W.heap.size := Nat.lt_of_lt_of_le hlt hb0.size
  obtain ⟨v, h1, _⟩ := hR
  have c1 : ∀ w', Fc.Old W w' → w'.cell? ⟨R, 1, none⟩ = some (.int .i64 (e : Nat)) := fun w' ho => ho.cell hltW (Joins.cell_of_block h1 1)
  clear h h1 hb0
  go_enter Tryz.func60, Tryz.ntmps60
  go_upto_region 1 with fail
  rw [← hW]
  clear hW
  have c1d : W.drew.cell? ⟨R, 1, none⟩ = some (.int .i64 (e : Nat)) := c1 _ (Fc.Old.drew W)
  go_region_with (first | (go_at_call 58; (with_reducible refine (HM.out _ (by first | exact Fc.Old.refl W | exact Fc.Old.drew W)).mono ?_); rintro en w5 ⟨rfl, rfl⟩) | (go_at_call 54; (with_reducible refine (HQ.out _).mono ?_); rintro en w6 ⟨rfl, rfl⟩; refine Fc.shut (D := wpAny Tryz.prog .any #[] (fun _ _ _ => True) 0 #[] { tmps := #[], defers := [] } W) ⟨rfl, rfl, Fc.Rd.of R (HB.out.drew)⟩ ?_))
  all_goals exact trivial


set_option maxHeartbeats 4000000 in
set_option maxRecDepth 100000 in
theorem next_some (R e : Nat) (t : Lx.Tok) (r : List Lx.Tok) (w : World) (h : Fc.IsR R w e (t :: r)) : Calls Tryz.prog 60 #[.pointer (some ⟨R, 0, none⟩)] w fun en w' => en = .returned (Fc.vT t) ∧ Fc.IsR R w' e r ∧ Fc.Rd R w w' := by
  have hb0 := Fc.zeroT_below w
  obtain ⟨W, hW⟩ : ∃ W, W = w.alloc (.cells #[.int .i64 0, .string ⟨#[]⟩, .int .i64 0, .int .i64 0] 60) := ⟨_, rfl⟩
  have hk2 : W.heap[w.heap.size]? = some (.cells #[.int .i64 0, .string ⟨#[]⟩, .int .i64 0, .int .i64 0] 60 (0, 0)) := by rw [hW]; exact heap_alloc_new _ _
  have hb0 : Below w.heap.size w W := by rw [hW]; exact hb0
  have hlt := h.lt
  have hR := h.below hb0
  have HM : Hid (∀ w', Fc.Old W w' → Calls Tryz.prog 58 #[.pointer (some ⟨R, 0, none⟩)] w' fun en w'' => en = .returned (.bool true) ∧ w' = w'') := fun w' ho => more_walk R e (t :: r) w' (hR.old ho)
  have HQ := Lib.hid (require_yes 6 (e : Int))
  have HB := Lib.hid hb0
  have hltW : R < W.heap.size := Nat.lt_of_lt_of_le hlt hb0.size
  obtain ⟨v, h1, hT⟩ := hR
  have c1 : ∀ w', Fc.Old W w' → w'.cell? ⟨R, 1, none⟩ = some (.int .i64 (e : Nat)) := fun w' ho => ho.cell hltW (Joins.cell_of_block h1 1)
  have HH := Lib.hid h1
  have HT := Lib.hid hT
  have HK2 := Lib.hid hk2
  obtain ⟨a, c, rfl, hl1, hl2, hl3⟩ := hT
  obtain ⟨g, o, rfl, hg, hc⟩ := hl3 (by simp)
  obtain ⟨p0, p1, p2, p3⟩ := hc 0 t rfl
  rw [Nat.zero_mul, Nat.add_zero] at p0 p1 p2 p3
  obtain ⟨n, hn⟩ : ∃ n, n = r.length := ⟨_, rfl⟩
  rw [List.length_cons, ← hn] at HH HT hl1
  have HL := Lib.hid (show n + 1 ≤ c ∧ n = r.length from ⟨hl1, hn⟩)
  obtain ⟨x, hx⟩ : ∃ x, x = Lx.str t.text := ⟨_, rfl⟩
  have HX := Lib.hid hx
  rw [← hx] at p1
  have HP : Hid (∀ w', Fc.Old W w' → w'.cell? ⟨R, 0, none⟩ = some (.slice (some ⟨g, o, none⟩) (n + 1) c) ∧ w'.cell? ⟨g, o, none⟩ = some (.int .i64 (t.kind : Nat)) ∧ w'.cell? ⟨g, o + 1, none⟩ = some (.string x) ∧ w'.cell? ⟨g, o + 2, none⟩ = some (.int .i64 (t.n : Nat)) ∧ w'.cell? ⟨g, o + 3, none⟩ = some (.int .i64 (t.at_ : Nat)) ∧ w'.frozen? ⟨R, 0, none⟩ = false) := fun w' ho => by
    have hgl : g < W.heap.size := by omega
    refine ⟨ho.cell hltW ?_, ho.cell hgl p0, ho.cell hgl p1, ho.cell hgl p2, ho.cell hgl p3, ?_⟩
    · exact Joins.cell_of_block HH.out 0
    · exact Joins.unfrozen_of_block ((ho.out.block R hltW).trans HH.out) 0
  clear h h1 hb0 hk2 hc hl3 p0 p1 p2 p3 hx hn
  go_enter Tryz.func60, Tryz.ntmps60
  go_upto_region 1 with fail
  rw [← hW]
  clear hW
  go_region_held3 (fun w' => Fc.Old W w') (first | exact Fc.Old.refl W | exact Fc.Old.drew W | exact Fc.Old.step (by with_reducible assumption) (by with_reducible assumption) | with_reducible assumption) (first | (go_at_call 58; (with_reducible refine (HM.out _ (by with_reducible assumption)).mono ?_); rintro en w5 ⟨rfl, rfl⟩) | (go_at_call 54; (with_reducible refine (HQ.out _).mono ?_); rintro en w6 ⟨rfl, rfl⟩))
  obtain ⟨W1, hW1⟩ : ∃ W1, W1 = W.drew := ⟨_, rfl⟩
  have ho1 : Fc.Old W W1 := by rw [hW1]; exact Fc.Old.drew W
  rw [← hW1]
  obtain ⟨q0, q1, q2, q3, q4, _⟩ := HP.out W1 ho1
  clear hW1 c1 HM HQ
  have hs1 := ho1.out.size
  go_upto_region 3 with fail
  obtain ⟨W2, hW2⟩ : ∃ W2, W2 = W1.alloc (.cells #[.int .i64 (t.kind : Nat), .string x, .int .i64 (t.n : Nat), .int .i64 (t.at_ : Nat)] 60) := ⟨_, rfl⟩
  have hb2 : Below W1.heap.size W1 W2 := by rw [hW2]; exact (Below.refl _ _).alloc (Nat.le_refl _) _
  have hk3 : W2.heap[W1.heap.size]? = some (.cells #[.int .i64 (t.kind : Nat), .string x, .int .i64 (t.n : Nat), .int .i64 (t.at_ : Nat)] 60 (0, 0)) := by rw [hW2]; exact heap_alloc_new _ _
  have ho2 : Fc.Old W W2 := Fc.Old.step hb2 ho1
  rw [← hW2]
  obtain ⟨u0, _, _, _, _, u5⟩ := HP.out W2 ho2
  clear hW2 q0 q1 q2 q3 q4
  go_upto_region 4 with fail
  obtain ⟨A, hA⟩ : ∃ A : Option Addr, A = if c = 1 then some ⟨g, o, none⟩ else some ⟨g, o + 4, none⟩ := ⟨_, rfl⟩
  have hA2 : r ≠ [] → A = some ⟨g, o + 4, none⟩ := fun hne => by
    rw [hA, if_neg]
    have h1 : 0 < r.length := List.length_pos_iff.2 hne
    have h2 := HL.out
    omega
  rw [← hA]
  obtain ⟨W3, hW3⟩ : ∃ W3, W3 = W2.setCell ⟨R, 0, none⟩ (.slice A n (c - 1)) := ⟨_, rfl⟩
  have hn2 : w.heap.size < W2.heap.size := Nat.lt_of_lt_of_le (Array.getElem?_eq_some_iff.1 HK2.out).1 ho2.out.size
  have e3 : W3.heap[W1.heap.size]? = some (.cells #[.int .i64 (t.kind : Nat), .string x, .int .i64 (t.n : Nat), .int .i64 (t.at_ : Nat)] 60 (0, 0)) := by rw [hW3, Below.heap_setCell _ _ _ _ (by show W1.heap.size ≠ R; omega)]; exact hk3
  have e2 : W3.heap[w.heap.size]? = some (.cells #[.int .i64 0, .string ⟨#[]⟩, .int .i64 0, .int .i64 0] 60 (0, 0)) := by rw [hW3, Below.heap_setCell _ _ _ _ (by show w.heap.size ≠ R; omega)]; exact (ho2.out.block _ (Array.getElem?_eq_some_iff.1 HK2.out).1).trans HK2.out
  have eR : W3.heap[R]? = some (.cells #[.slice A n (c - 1), .int .i64 (e : Nat)] 91 (0, 0)) := by rw [hW3, Joins.block_setCell ((ho2.out.block R hltW).trans HH.out)]; rfl
  have hr3 : Fc.Rd R w W3 := by rw [hW3]; exact (Fc.Rd.of R (HB.out.trans (ho2.out.mono HB.out.size))).trans (Fc.Rd.put 0 _)
  have hT3 : Fc.IsT R W3 (.slice A n (c - 1)) r := by
    rw [HL.out.2]
    have hbV : Below R W W2 := ho2.out.mono (Nat.le_of_lt hltW)
    have hbW : Below R W W3 := by rw [hW3]; exact hbV.setCell (p := ⟨R, 0, none⟩) (Nat.le_refl _) _
    exact (HT.out.below hbW).tail' hA2
  rw [← hW3]
  have HE := Lib.hid (And.intro e3 (And.intro e2 (And.intro eR (And.intro hr3 hT3))))
  have d0 := Joins.cell_of_block e3 0
  have d1 := Joins.cell_of_block e3 1
  have d2 := Joins.cell_of_block e3 2
  have d3 := Joins.cell_of_block e3 3
  have f0 := Joins.cell_of_block e2 0
  have f1 := Joins.cell_of_block e2 1
  have f2 := Joins.cell_of_block e2 2
  have f3 := Joins.cell_of_block e2 3
  have g0 := Joins.unfrozen_of_block e2 0
  have g1 := Joins.unfrozen_of_block e2 1
  have g2 := Joins.unfrozen_of_block e2 2
  have g3 := Joins.unfrozen_of_block e2 3
  clear hA hA2 hW3 u0 u5 hk3 hb2 ho2 ho1 e3 e2 eR hr3 hT3
  go_wp2_with fail
  obtain ⟨e3, e2, eR, hr3, hT3⟩ := HE.out
  obtain ⟨W4, hW4⟩ : ∃ W4, W4 = (((W3.setCell ⟨w.heap.size, 0, none⟩ (.int .i64 (t.kind : Nat))).setCell ⟨w.heap.size, 1, none⟩ (.string x)).setCell ⟨w.heap.size, 2, none⟩ (.int .i64 (t.n : Nat))).setCell ⟨w.heap.size, 3, none⟩ (.int .i64 (t.at_ : Nat)) := ⟨_, rfl⟩
  have e4 : W4.heap[w.heap.size]? = some (.cells #[.int .i64 (t.kind : Nat), .string x, .int .i64 (t.n : Nat), .int .i64 (t.at_ : Nat)] 60 (0, 0)) := by
    rw [hW4, Joins.block_setCell (Joins.block_setCell (Joins.block_setCell (Joins.block_setCell e2 _) _) _)]; rfl
  have hb4 : Below w.heap.size W3 W4 := by
    rw [hW4]
    exact ((((Below.refl _ _).setCell (p := ⟨w.heap.size, 0, none⟩) (Nat.le_refl _) _).setCell (p := ⟨w.heap.size, 1, none⟩) (Nat.le_refl _) _).setCell (p := ⟨w.heap.size, 2, none⟩) (Nat.le_refl _) _).setCell (p := ⟨w.heap.size, 3, none⟩) (Nat.le_refl _) _
  rw [← hW4]
  have k0 := Joins.cell_of_block e4 0
  have k1 := Joins.cell_of_block e4 1
  have k2 := Joins.cell_of_block e4 2
  have k3 := Joins.cell_of_block e4 3
  refine bodyPost_ret (v := .agg #[.int .i64 (t.kind : Nat), .string x, .int .i64 (t.n : Nat), .int .i64 (t.at_ : Nat)]) ?_ rfl ?_
  · simp [results, Tryz.f60, go_sem, k0, k1, k2, k3]
  · refine ⟨by rw [HX.out], ⟨_, (hb4.block R hlt).trans eR, hT3.below (hb4.mono (Nat.le_of_lt hlt))⟩, ?_⟩
    exact ⟨hb4.os.trans hr3.os, hb4.tape.trans hr3.tape, hb4.output.trans hr3.output, Nat.le_trans hr3.size hb4.size, fun k hk hn => (hb4.block k hk).trans (hr3.block k hk hn)⟩
end Go.Proofs.YtoamkanofhhjfaaGreatDoor
/-
  The walks of the reader's take and word.
-/
namespace Go.Proofs.YtoamkanofhhjfaaGreatDoor
open Go.RowKit

namespace Fc
open Lx
/-- A token in a variable. -/
def TokV (w : World) (k : Nat) (t : Tok) : Prop := w.heap[k]? = some (.cells #[.int .i64 (t.kind : Nat), .string (str t.text), .int .i64 (t.n : Nat), .int .i64 (t.at_ : Nat)] 60 (0, 0))
theorem TokV.lt {w : World} {k : Nat} {t : Tok} (h : TokV w k t) : k < w.heap.size := (Array.getElem?_eq_some_iff.1 h).1
theorem TokV.rd {w w' : World} {k R : Nat} {t : Tok} (h : TokV w k t) (hr : Rd R w w') (hn : k ≠ R) : TokV w' k t := (hr.block k h.lt hn).trans h
theorem TokV.new (w : World) (t : Tok) : TokV (w.alloc (.cells #[.int .i64 (t.kind : Nat), .string (str t.text), .int .i64 (t.n : Nat), .int .i64 (t.at_ : Nat)] 60)) w.heap.size t := heap_alloc_new _ _
theorem zeroT_block (w : World) : (zeroT w).heap[w.heap.size]? = some (.cells #[.int .i64 0, .string ⟨#[]⟩, .int .i64 0, .int .i64 0] 60 (0, 0)) := heap_alloc_new _ _
/-- Four cells are written. -/
abbrev put4 (w : World) (k : Nat) (a b c d : Value) : World := (((w.setCell ⟨k, 0, none⟩ a).setCell ⟨k, 1, none⟩ b).setCell ⟨k, 2, none⟩ c).setCell ⟨k, 3, none⟩ d
theorem put4_block {w : World} {k : Nat} {x0 x1 x2 x3 : Value} {T : TypeId} {fr : Nat × Nat} (h : w.heap[k]? = some (.cells #[x0, x1, x2, x3] T fr)) (a b c d : Value) : (put4 w k a b c d).heap[k]? = some (.cells #[a, b, c, d] T fr) := by
  rw [Joins.block_setCell (Joins.block_setCell (Joins.block_setCell (Joins.block_setCell h _) _) _)]; rfl
theorem put4_below (w : World) (k : Nat) (a b c d : Value) : Below k w (put4 w k a b c d) :=
  ((((Below.refl _ _).setCell (p := ⟨k, 0, none⟩) (Nat.le_refl _) _).setCell (p := ⟨k, 1, none⟩) (Nat.le_refl _) _).setCell (p := ⟨k, 2, none⟩) (Nat.le_refl _) _).setCell (p := ⟨k, 3, none⟩) (Nat.le_refl _) _
/-- Below what a call has made nothing but the reader turns. -/
theorem Rd.low {R B : Nat} {a b c : World} (h : Rd R a b) (hb : Below B b c) (hB : a.heap.size ≤ B) : Rd R a c :=
  ⟨hb.os.trans h.os, hb.tape.trans h.tape, hb.output.trans h.output, Nat.le_trans h.size hb.size, fun k hk hn => (hb.block k (by omega)).trans (h.block k hk hn)⟩
theorem IsR.low {R B : Nat} {w w' : World} {e : Nat} {l : List Tok} (h : IsR R w e l) (hb : Below B w w') (hB : R < B) : IsR R w' e l := by
  obtain ⟨v, h1, h2⟩ := h
  exact ⟨v, (hb.block R hB).trans h1, h2.below (hb.mono (by omega))⟩
theorem want_kind (k e : Nat) (t : Tok) (r : List Tok) : want k [] e (t :: r) = if t.kind = k then .ok (t, r) else .error (5, t.at_) := by
  show (if sees k [] (t :: r) = true then _ else _) = _
  unfold sees
  by_cases h : t.kind = k
  · rw [if_pos (by simp [h]), if_pos h]
  · rw [if_neg (by simp [h]), if_neg h]
/-- What word answers. -/
def wordT (e : Nat) (x : T) : List Tok → Except (Nat × Nat) (Unit × List Tok)
  | [] => .error (6, e)
  | t :: r => if t.text = x then .ok ((), r) else .error (5, t.at_)
end Fc

set_option maxHeartbeats 4000000 in
set_option maxRecDepth 100000 in
theorem take_walk (R e k : Nat) (hk : k ≤ 1000000) (l : List Lx.Tok) (w : World) (h : Fc.IsR R w e l) : Calls Tryz.prog 59 #[.pointer (some ⟨R, 0, none⟩), .int .i64 (k : Nat)] w (Fc.Out R e w (Fc.want k [] e l) Fc.vT) := by
  have hb0 := Fc.zeroT_below w
  have hz := Fc.zeroT_block w
  have hR := h.below hb0
  have hlt := h.lt
  cases l with
  | nil =>
    have HN := Lib.hid (next_none R e _ hR)
    have HB := Lib.hid hb0
    clear h hb0 hz hR
    go_enter Tryz.func59, Tryz.ntmps59
    go_wp2_with fail
    refine HN.out.mono ?_
    rintro en w1 ⟨rfl, hr⟩
    exact ⟨rfl, (Fc.Rd.of R HB.out).trans hr, rfl⟩
  | cons t r =>
    have HN := Lib.hid (next_some R e t r _ hR)
    have HB := Lib.hid hb0
    have HZ := Lib.hid hz
    obtain ⟨P, hP⟩ : ∃ P, P = Fc.Out R e w (Fc.want k [] e (t :: r)) Fc.vT := ⟨_, rfl⟩
    have HP := Lib.hid hP
    rw [← hP]
    clear h hb0 hz hR hP
    go_enter Tryz.func59, Tryz.ntmps59
    go_wp2_with fail
    refine HN.out.mono ?_
    rintro en w1 ⟨rfl, hr1, hrd⟩
    have hn1 : w1.heap[w.heap.size]? = some (.cells #[.int .i64 0, .string ⟨#[]⟩, .int .i64 0, .int .i64 0] 60 (0, 0)) := (hrd.block _ (Array.getElem?_eq_some_iff.1 HZ.out).1 (by omega)).trans HZ.out
    have hlt1 : w.heap.size < w1.heap.size := (Array.getElem?_eq_some_iff.1 hn1).1
    have hrdw := (Fc.Rd.of R HB.out).trans hrd
    have hbA : Below w1.heap.size w1 (w1.alloc (.cells #[.int .i64 (t.kind : Nat), .string (Lx.str t.text), .int .i64 (t.n : Nat), .int .i64 (t.at_ : Nat)] 60)) := (Below.refl _ _).alloc (Nat.le_refl _) _
    have hk5 := Fc.TokV.new w1 t
    have HF := Lib.hid (And.intro (hr1.below hbA) (And.intro ((hbA.block _ hlt1).trans hn1) (And.intro (hrdw.low hbA hrdw.size) hk5)))
    obtain ⟨W2, hW2⟩ : ∃ W2, W2 = w1.alloc (.cells #[.int .i64 (t.kind : Nat), .string (Lx.str t.text), .int .i64 (t.n : Nat), .int .i64 (t.at_ : Nat)] 60) := ⟨_, rfl⟩
    obtain ⟨x, hx⟩ : ∃ x, x = Lx.str t.text := ⟨_, rfl⟩
    clear hbA hk5 hr1 hrd hrdw hn1
    go_upto_region 2 with fail
    rw [← hW2] at HF ⊢
    clear hW2
    obtain ⟨i1, i2, i3, i4⟩ := HF.out
    have d0 := Joins.cell_of_block i4 0
    have d1 := Joins.cell_of_block i4 1
    have d2 := Joins.cell_of_block i4 2
    have d3 := Joins.cell_of_block i4 3
    have f0 := Joins.cell_of_block i2 0
    have f1 := Joins.cell_of_block i2 1
    have f2 := Joins.cell_of_block i2 2
    have f3 := Joins.cell_of_block i2 3
    have g0 := Joins.unfrozen_of_block i2 0
    have g1 := Joins.unfrozen_of_block i2 1
    have g2 := Joins.unfrozen_of_block i2 2
    have g3 := Joins.unfrozen_of_block i2 3
    rw [← hx] at d1
    clear i1 i2 i3 i4
    by_cases hkk : t.kind = k
    · subst hkk
      go_wp2_with (refine (require_yes 5 (t.at_ : Int) _).mono ?_; rintro en w3 ⟨rfl, rfl⟩)
      obtain ⟨i1, i2, i3, i4⟩ := HF.out
      have e4 := Fc.put4_block i2 (.int .i64 (t.kind : Nat)) (.string (Lx.str t.text)) (.int .i64 (t.n : Nat)) (.int .i64 (t.at_ : Nat))
      have hb4 := Fc.put4_below W2 w.heap.size (.int .i64 (t.kind : Nat)) (.string (Lx.str t.text)) (.int .i64 (t.n : Nat)) (.int .i64 (t.at_ : Nat))
      have k0 := Joins.cell_of_block e4 0
      have k1 := Joins.cell_of_block e4 1
      have k2 := Joins.cell_of_block e4 2
      have k3 := Joins.cell_of_block e4 3
      refine bodyPost_ret (v := Fc.vT t) ?_ rfl ?_
      · obtain ⟨W4, hW4⟩ : ∃ W4, W4 = Fc.put4 W2 w.heap.size (.int .i64 (t.kind : Nat)) (.string (Lx.str t.text)) (.int .i64 (t.n : Nat)) (.int .i64 (t.at_ : Nat)) := ⟨_, rfl⟩
        rw [← hW4] at k0 k1 k2 k3
        show _ = Result.ok _ (Fc.put4 W2 w.heap.size (.int .i64 (t.kind : Nat)) (.string (Lx.str t.text)) (.int .i64 (t.n : Nat)) (.int .i64 (t.at_ : Nat)))
        change (results _ _).run _ (Fc.put4 W2 w.heap.size (.int .i64 (t.kind : Nat)) (.string (Lx.str t.text)) (.int .i64 (t.n : Nat)) (.int .i64 (t.at_ : Nat))) = _
        rw [← hW4]
        simp [results, Tryz.f59, go_sem, k0, k1, k2, k3]
      · rw [HP.out, Fc.want_kind, if_pos rfl]
        exact ⟨i3.low hb4 (Nat.le_refl _), rfl, i1.low hb4 hlt⟩
    · have hki : ((t.kind : Int) == (k : Int)) = false := by rw [beq_eq_false_iff_ne]; omega
      go_wp2_with fail
      refine (require_no 5 (t.at_ : Int) _).mono ?_
      rintro en w3 ⟨rfl, rfl⟩
      obtain ⟨i1, i2, i3, i4⟩ := HF.out
      refine ⟨rfl, ?_⟩
      rw [HP.out, Fc.want_kind, if_neg hkk]
      exact ⟨i3, rfl⟩

set_option maxHeartbeats 4000000 in
set_option maxRecDepth 100000 in
theorem word_walk (R e : Nat) (u : ByteArray) (l : List Lx.Tok) (w : World) (h : Fc.IsR R w e l) : Calls Tryz.prog 61 #[.pointer (some ⟨R, 0, none⟩), .string u] w (Fc.Out R e w (Fc.wordT e (Lx.tx u) l) fun _ => .tuple #[]) := by
  have hlt := h.lt
  cases l with
  | nil =>
    have HN := Lib.hid (next_none R e _ h)
    clear h
    go_enter Tryz.func61, Tryz.ntmps61
    go_wp2_with fail
    refine HN.out.mono ?_
    rintro en w1 ⟨rfl, hr⟩
    exact ⟨rfl, hr, rfl⟩
  | cons t r =>
    have HN := Lib.hid (next_some R e t r _ h)
    obtain ⟨P, hP⟩ : ∃ P, P = Fc.Out R e w (Fc.wordT e (Lx.tx u) (t :: r)) (fun _ => .tuple #[]) := ⟨_, rfl⟩
    have HP := Lib.hid hP
    rw [← hP]
    clear h hP
    go_enter Tryz.func61, Tryz.ntmps61
    go_wp2_with fail
    refine HN.out.mono ?_
    rintro en w1 ⟨rfl, hr1, hrd⟩
    have hbA : Below w1.heap.size w1 (w1.alloc (.cells #[.int .i64 (t.kind : Nat), .string (Lx.str t.text), .int .i64 (t.n : Nat), .int .i64 (t.at_ : Nat)] 60)) := (Below.refl _ _).alloc (Nat.le_refl _) _
    have hk5 := Fc.TokV.new w1 t
    have HF := Lib.hid (And.intro (hr1.below hbA) (And.intro (hrd.low hbA hrd.size) hk5))
    obtain ⟨W2, hW2⟩ : ∃ W2, W2 = w1.alloc (.cells #[.int .i64 (t.kind : Nat), .string (Lx.str t.text), .int .i64 (t.n : Nat), .int .i64 (t.at_ : Nat)] 60) := ⟨_, rfl⟩
    obtain ⟨x, hx⟩ : ∃ x, x = Lx.str t.text := ⟨_, rfl⟩
    have HX := Lib.hid hx
    clear hbA hk5 hr1 hrd
    go_upto_region 1 with fail
    rw [← hW2] at HF ⊢
    clear hW2
    obtain ⟨i1, i3, i4⟩ := HF.out
    have d1 := Joins.cell_of_block i4 1
    have d3 := Joins.cell_of_block i4 3
    rw [← hx] at d1
    clear i1 i3 i4 hx
    by_cases hkk : t.text = Lx.tx u
    · have hki : (x.toList == u.toList) = true := by rw [HX.out]; exact (Fc.name_eq _ _).2 hkk
      go_wp2_with (refine (require_yes 5 (t.at_ : Int) _).mono ?_; rintro en w3 ⟨rfl, rfl⟩)
      first | go_end0 | refine bodyPost_ret (results_none rfl _ _ _) rfl ?_
      obtain ⟨i1, i3, i4⟩ := HF.out
      rw [HP.out, Fc.wordT, if_pos hkk]
      exact ⟨i3, rfl, i1⟩
    · have hki : (x.toList == u.toList) = false := by rw [HX.out, Bool.eq_false_iff]; intro h; exact hkk ((Fc.name_eq _ _).1 h)
      go_wp2_with fail
      refine (require_no 5 (t.at_ : Int) _).mono ?_
      rintro en w3 ⟨rfl, rfl⟩
      obtain ⟨i1, i3, i4⟩ := HF.out
      refine ⟨rfl, ?_⟩
      rw [HP.out, Fc.wordT, if_neg hkk]
      exact ⟨i3, rfl⟩
end Go.Proofs.YtoamkanofhhjfaaGreatDoor
/-
  The walks of the reader's bounds, flag, number and day.
-/
namespace Go.Proofs.YtoamkanofhhjfaaGreatDoor
open Go.RowKit

namespace Fc
open Lx
/-- What bounds answers. -/
def bnd (e : Nat) (name : T) (k : Int) (l : List Tok) : Except (Nat × Nat) (Fact × List Tok) :=
  (want 2 [] e l).bind fun lo =>
  if 1000000 < lo.1.n then .error (10, lo.1.at_) else
  (wordT e wTo lo.2).bind fun tq =>
  (want 2 [] e tq.2).bind fun hi =>
  if 1000000 < hi.1.n ∨ hi.1.n < lo.1.n then .error (10, hi.1.at_) else .ok (⟨name, k, lo.1.n, hi.1.n⟩, hi.2)
/-- A fact in a variable. -/
def FactV (w : World) (k : Nat) (f : Fact) : Prop := w.heap[k]? = some (.cells #[.string (str f.name), .int .i64 f.kind, .int .i64 f.lo, .int .i64 f.hi] 64 (0, 0))
abbrev zeroF (w : World) : World := w.alloc (.cells #[.string ⟨#[]⟩, .int .i64 0, .int .i64 0, .int .i64 0] 64)
theorem zeroF_below (w : World) : Below w.heap.size w (zeroF w) := (Below.refl w.heap.size w).alloc (Nat.le_refl _) _
theorem zeroF_block (w : World) : (zeroF w).heap[w.heap.size]? = some (.cells #[.string ⟨#[]⟩, .int .i64 0, .int .i64 0, .int .i64 0] 64 (0, 0)) := heap_alloc_new _ _
theorem bnd1 {e : Nat} {name : T} {k : Int} {l : List Tok} {z : Nat × Nat} (h : want 2 [] e l = .error z) : bnd e name k l = .error z := by unfold bnd; rw [h]; rfl
theorem bnd2 {e : Nat} {name : T} {k : Int} {l : List Tok} {lo : Tok × List Tok} (h : want 2 [] e l = .ok lo) (h2 : 1000000 < lo.1.n) : bnd e name k l = .error (10, lo.1.at_) := by
  unfold bnd; rw [h]; exact if_pos h2
theorem bnd3 {e : Nat} {name : T} {k : Int} {l : List Tok} {lo : Tok × List Tok} (h : want 2 [] e l = .ok lo) (h2 : ¬ 1000000 < lo.1.n) :
    bnd e name k l = (wordT e wTo lo.2).bind fun tq => (want 2 [] e tq.2).bind fun hi => if 1000000 < hi.1.n ∨ hi.1.n < lo.1.n then .error (10, hi.1.at_) else .ok (⟨name, k, lo.1.n, hi.1.n⟩, hi.2) := by
  unfold bnd; rw [h]; exact if_neg h2
end Fc

set_option maxHeartbeats 4000000 in
set_option maxRecDepth 100000 in
theorem flag_walk (p : Value) (u : ByteArray) (w : World) : Calls Tryz.prog 55 #[p, .string u] w fun en w' => en = .returned (.agg #[.string u, .int .i64 1, .int .i64 0, .int .i64 1]) ∧ Below w.heap.size w w' := by
  have hb4 := (Below.refl w.heap.size w).alloc (Nat.le_refl _) (.cells #[.string u, .int .i64 1, .int .i64 0, .int .i64 1] 64)
  have HB := Lib.hid hb4
  clear hb4
  go_enter Tryz.func55, Tryz.ntmps55
  go_wp2_with fail
  refine bodyPost_ret (v := .agg #[.string u, .int .i64 1, .int .i64 0, .int .i64 1]) ?_ rfl ?_
  · simp [results, Tryz.f55, go_sem]
  · exact ⟨rfl, HB.out⟩

set_option maxHeartbeats 8000000 in
set_option maxRecDepth 100000 in
theorem bounds_walk (R e : Nat) (u : ByteArray) (k : Int) (l : List Lx.Tok) (w : World) (h : Fc.IsR R w e l) :
    Calls Tryz.prog 77 #[.pointer (some ⟨R, 0, none⟩), .string u, .int .i64 k] w (Fc.Out R e w (Fc.bnd e (Lx.tx u) k l) Fc.vF) := by
  have hb0 := Fc.zeroF_below w
  have hz := Fc.zeroF_block w
  have hR := h.below hb0
  have hlt := h.lt
  have HT1 := Lib.hid (take_walk R e 2 (by decide) l _ hR)
  obtain ⟨P, hP⟩ : ∃ P, P = Fc.Out R e w (Fc.bnd e (Lx.tx u) k l) Fc.vF := ⟨_, rfl⟩
  have HP := Lib.hid hP
  have HZ := Lib.hid (And.intro hb0 hz)
  rw [← hP]
  clear h hb0 hz hR hP
  go_enter Tryz.func77, Tryz.ntmps77
  cases hx1 : Fc.want 2 [] e l with
  | error z =>
    have HX := Lib.hid hx1
    clear hx1
    go_wp2_with fail
    refine HT1.out.mono ?_
    rintro en w1 ho
    obtain ⟨hf, hrd⟩ := ho.no HX.out
    obtain rfl : en = _ := hf
    refine ⟨rfl, ?_⟩
    rw [HP.out, Fc.bnd1 HX.out]
    exact ⟨(Fc.Rd.of R HZ.out.1).trans hrd, rfl⟩
  | ok y =>
    obtain ⟨lo, l1⟩ := y
    have HX := Lib.hid hx1
    clear hx1
    go_wp2_with fail
    refine HT1.out.mono ?_
    rintro en w1 ho
    obtain ⟨rfl, hr1, hrd⟩ := ho.ok HX.out
    have hn1 := (hrd.block _ (Array.getElem?_eq_some_iff.1 HZ.out.2).1 (by omega)).trans HZ.out.2
    have hlt1 : w.heap.size < w1.heap.size := (Array.getElem?_eq_some_iff.1 hn1).1
    have hrdw := (Fc.Rd.of R HZ.out.1).trans hrd
    have hbA : Below w1.heap.size w1 (w1.alloc (.cells #[.int .i64 (lo.kind : Nat), .string (Lx.str lo.text), .int .i64 (lo.n : Nat), .int .i64 (lo.at_ : Nat)] 60)) := (Below.refl _ _).alloc (Nat.le_refl _) _
    have hk5 := Fc.TokV.new w1 lo
    have HF := Lib.hid (And.intro (hr1.below hbA) (And.intro ((hbA.block _ hlt1).trans hn1) (And.intro (hrdw.low hbA hrdw.size) hk5)))
    obtain ⟨W2, hW2⟩ : ∃ W2, W2 = w1.alloc (.cells #[.int .i64 (lo.kind : Nat), .string (Lx.str lo.text), .int .i64 (lo.n : Nat), .int .i64 (lo.at_ : Nat)] 60) := ⟨_, rfl⟩
    clear hbA hk5 hr1 hrd hrdw hn1 ho HT1 HZ
    go_upto_region 2 with fail
    rw [← hW2] at HF ⊢
    clear hW2
    obtain ⟨i1, i2, i3, i4⟩ := HF.out
    have d2 := Joins.cell_of_block i4 2
    have d3 := Joins.cell_of_block i4 3
    have HT2 := Lib.hid (word_walk R e ⟨#[116, 111]⟩ l1 _ i1)
    clear i1 i2 i3 i4
    by_cases hbig : 1000000 < lo.n
    · have hbi : ¬ ((lo.n : Int) ≤ 1000000) := by omega
      go_wp2_with fail
      refine (require_no 10 (lo.at_ : Int) _).mono ?_
      rintro en w3 ⟨rfl, rfl⟩
      refine ⟨rfl, ?_⟩
      rw [HP.out, Fc.bnd2 HX.out hbig]
      exact ⟨HF.out.2.2.1, rfl⟩
    have hbi : (lo.n : Int) ≤ 1000000 := by omega
    have HE := Lib.hid (Fc.bnd3 (name := Lx.tx u) (k := k) HX.out hbig)
    rw [HE.out] at HP
    clear HX HE
    cases hx2 : Fc.wordT e Fc.wTo l1 with
    | error z =>
      have HX := Lib.hid hx2
      clear hx2
      go_wp2_with (first | (refine (require_yes 10 (lo.at_ : Int) _).mono ?_; rintro en w3 ⟨rfl, rfl⟩))
      refine HT2.out.mono ?_
      rintro en w3 ho
      obtain ⟨hf, hrd⟩ := ho.no HX.out
      obtain rfl : en = _ := hf
      refine ⟨rfl, ?_⟩
      rw [HP.out, HX.out]
      exact ⟨HF.out.2.2.1.trans hrd, rfl⟩
    | ok y =>
      obtain ⟨tq, l2⟩ := y
      have HX := Lib.hid hx2
      clear hx2
      go_wp2_with (first | (refine (require_yes 10 (lo.at_ : Int) _).mono ?_; rintro en w3 ⟨rfl, rfl⟩))
      refine HT2.out.mono ?_
      rintro en w3 ho
      obtain ⟨rfl, hr3, hrd3⟩ := ho.ok HX.out
      rw [HX.out] at HP
      have HT3 := Lib.hid (take_walk R e 2 (by decide) l2 _ hr3)
      have HR3 := Lib.hid hrd3
      clear HX HT2 ho hr3 hrd3 d2 d3
      cases hx3 : Fc.want 2 [] e l2 with
      | error z =>
        have HX := Lib.hid hx3
        clear hx3
        go_wp2_with fail
        refine HT3.out.mono ?_
        rintro en w4 ho
        obtain ⟨hf, hrd⟩ := ho.no HX.out
        obtain rfl : en = _ := hf
        refine ⟨rfl, ?_⟩
        rw [HP.out]
        show Fc.Out R e w ((Fc.want 2 [] e l2).bind _) Fc.vF _ _
        rw [HX.out]
        exact ⟨(HF.out.2.2.1.trans HR3.out).trans hrd, rfl⟩
      | ok y =>
        obtain ⟨hi, l3⟩ := y
        have HX := Lib.hid hx3
        clear hx3
        go_wp2_with fail
        refine HT3.out.mono ?_
        rintro en w4 ho
        obtain ⟨rfl, hr4, hrd4⟩ := ho.ok HX.out
        have hrr := HR3.out.trans hrd4
        have hn4 := (hrr.block _ (Array.getElem?_eq_some_iff.1 HF.out.2.1).1 (by omega)).trans HF.out.2.1
        have hk4 := HF.out.2.2.2.rd hrr (by omega)
        have hrw4 := HF.out.2.2.1.trans hrr
        have hbA : Below w4.heap.size w4 (w4.alloc (.cells #[.int .i64 (hi.kind : Nat), .string (Lx.str hi.text), .int .i64 (hi.n : Nat), .int .i64 (hi.at_ : Nat)] 60)) := (Below.refl _ _).alloc (Nat.le_refl _) _
        have hk5 := Fc.TokV.new w4 hi
        have HG := Lib.hid (And.intro (hr4.below hbA) (And.intro ((hbA.block _ (Array.getElem?_eq_some_iff.1 hn4).1).trans hn4) (And.intro (hrw4.low hbA hrw4.size) (And.intro hk5 ((hbA.block _ hk4.lt).trans hk4)))))
        obtain ⟨W5, hW5⟩ : ∃ W5, W5 = w4.alloc (.cells #[.int .i64 (hi.kind : Nat), .string (Lx.str hi.text), .int .i64 (hi.n : Nat), .int .i64 (hi.at_ : Nat)] 60) := ⟨_, rfl⟩
        clear hbA hk5 hr4 hrd4 hrr hn4 hk4 hrw4 ho HT3 HR3
        go_upto_region 5 with fail
        rw [← hW5] at HG ⊢
        clear hW5 HF
        obtain ⟨i1, i2, i3, i4, i5⟩ := HG.out
        have d2 := Joins.cell_of_block i5 2
        have g2 := Joins.cell_of_block i4 2
        have g3 := Joins.cell_of_block i4 3
        have f0 := Joins.cell_of_block i2 0
        have f1 := Joins.cell_of_block i2 1
        have f2 := Joins.cell_of_block i2 2
        have f3 := Joins.cell_of_block i2 3
        have u0 := Joins.unfrozen_of_block i2 0
        have u1 := Joins.unfrozen_of_block i2 1
        have u2 := Joins.unfrozen_of_block i2 2
        have u3 := Joins.unfrozen_of_block i2 3
        clear i1 i2 i3 i4 i5
        have hbad : (1000000 < hi.n ∨ hi.n < lo.n) → P = Fc.Out R e w (.error (10, hi.at_)) Fc.vF := fun h => by
          rw [HP.out]
          show Fc.Out R e w ((Fc.want 2 [] e l2).bind _) Fc.vF = _
          rw [HX.out]
          show Fc.Out R e w (if _ then _ else _) Fc.vF = _
          rw [if_pos h]
        have hgood : ¬ (1000000 < hi.n ∨ hi.n < lo.n) → P = Fc.Out R e w (.ok (⟨Lx.tx u, k, (lo.n : Nat), (hi.n : Nat)⟩, l3)) Fc.vF := fun h => by
          rw [HP.out]
          show Fc.Out R e w ((Fc.want 2 [] e l2).bind _) Fc.vF = _
          rw [HX.out]
          show Fc.Out R e w (if _ then _ else _) Fc.vF = _
          rw [if_neg h]
        have HBad := Lib.hid hbad
        have HGood := Lib.hid hgood
        clear hbad hgood HP HX
        by_cases hlh : lo.n ≤ hi.n
        · have hli : (lo.n : Int) ≤ (hi.n : Int) := by omega
          by_cases hhm : hi.n ≤ 1000000
          · have hhi : (hi.n : Int) ≤ 1000000 := by omega
            have HP := Lib.hid (HGood.out (by omega))
            clear HBad HGood
            go_wp2_with (first | (refine (require_yes 10 (hi.at_ : Int) _).mono ?_; rintro en w6 ⟨rfl, rfl⟩))
            obtain ⟨i1, i2, i3, i4, i5⟩ := HG.out
            have e4 := Fc.put4_block i2 (.string u) (.int .i64 k) (.int .i64 (lo.n : Nat)) (.int .i64 (hi.n : Nat))
            have hb4 := Fc.put4_below W5 w.heap.size (.string u) (.int .i64 k) (.int .i64 (lo.n : Nat)) (.int .i64 (hi.n : Nat))
            have k0 := Joins.cell_of_block e4 0
            have k1 := Joins.cell_of_block e4 1
            have k2 := Joins.cell_of_block e4 2
            have k3 := Joins.cell_of_block e4 3
            refine bodyPost_ret (v := .agg #[.string u, .int .i64 k, .int .i64 (lo.n : Nat), .int .i64 (hi.n : Nat)]) ?_ rfl ?_
            · obtain ⟨W4, hW4⟩ : ∃ W4, W4 = Fc.put4 W5 w.heap.size (.string u) (.int .i64 k) (.int .i64 (lo.n : Nat)) (.int .i64 (hi.n : Nat)) := ⟨_, rfl⟩
              rw [← hW4] at k0 k1 k2 k3
              show (results _ _).run _ (Fc.put4 W5 w.heap.size (.string u) (.int .i64 k) (.int .i64 (lo.n : Nat)) (.int .i64 (hi.n : Nat))) = Result.ok _ (Fc.put4 W5 w.heap.size (.string u) (.int .i64 k) (.int .i64 (lo.n : Nat)) (.int .i64 (hi.n : Nat)))
              rw [← hW4]
              simp [results, Tryz.f77, go_sem, k0, k1, k2, k3]
            · rw [HP.out]
              refine ⟨i3.low hb4 (Nat.le_refl _), ?_, i1.low hb4 hlt⟩
              show _ = Ending.returned (.agg #[.string (Lx.str (Lx.tx u)), _, _, _])
              rw [Lx.str_tx]
          · have hhi : ¬ (hi.n : Int) ≤ 1000000 := by omega
            have HP := Lib.hid (HBad.out (by omega))
            clear HBad HGood
            go_wp2_with fail
            refine (require_no 10 (hi.at_ : Int) _).mono ?_
            rintro en w6 ⟨rfl, rfl⟩
            refine ⟨rfl, ?_⟩
            rw [HP.out]
            exact ⟨HG.out.2.2.1, rfl⟩
        · have hli : ¬ (lo.n : Int) ≤ (hi.n : Int) := by omega
          have HP := Lib.hid (HBad.out (by omega))
          clear HBad HGood
          go_wp2_with fail
          refine (require_no 10 (hi.at_ : Int) _).mono ?_
          rintro en w6 ⟨rfl, rfl⟩
          refine ⟨rfl, ?_⟩
          rw [HP.out]
          exact ⟨HG.out.2.2.1, rfl⟩
end Go.Proofs.YtoamkanofhhjfaaGreatDoor
