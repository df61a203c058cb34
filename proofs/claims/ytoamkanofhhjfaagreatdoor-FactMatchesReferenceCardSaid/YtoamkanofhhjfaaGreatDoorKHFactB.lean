import Derived.Test.YtoamkanofhhjfaaGreatDoorKFBnds
import Derived.Test.YtoamkanofhhjfaaGreatDoorKFCon
import Derived.Deep.QuietTactic
import Derived.BigQuiet
import Derived.Deep.RegionHeld3
import Derived.IntWalk
import Derived.Test.YtoamkanofhhjfaaGreatDoorKGIndex
import Derived.Test.YtoamkanofhhjfaaGreatDoorKFOwn
/-
  The reference's reader of facts: its state in memory; the walks of fault and sees.
-/
namespace Go.Proofs.YtoamkanofhhjfaaGreatDoor
open Go.RowKit

namespace Fc
open Lx
/-- The reader at block R: tokens, index, end, error, offset. -/
def RSt (R e : Nat) (lv : Value) (L : List Tok) (i : Nat) (E A : Int) (w : World) : Prop :=
  w.heap[R]? = some (.cells #[lv, .int .i64 i, .int .i64 e, .int .i64 E, .int .i64 A] 54 (0, 0)) ∧ IsT R w lv L ∧ i ≤ L.length
theorem RSt.lt {R e : Nat} {lv : Value} {L : List Tok} {i : Nat} {E A : Int} {w : World} (h : RSt R e lv L i E A w) : R < w.heap.size := (Array.getElem?_eq_some_iff.1 h.1).1
theorem RSt.below {R e : Nat} {lv : Value} {L : List Tok} {i : Nat} {E A : Int} {w w' : World} (h : RSt R e lv L i E A w) (hb : Below w.heap.size w w') : RSt R e lv L i E A w' :=
  ⟨(hb.block R h.lt).trans h.1, h.2.1.below (hb.mono (by have := h.lt; omega)), h.2.2⟩
/-- What the state stands for: the tokens that are left, or the first error. -/
def Sx (L : List Tok) (i : Nat) (E A : Int) : Except (Nat × Nat) (List Tok) → Prop
  | .ok r => E = 0 ∧ A = 0 ∧ r = L.drop i
  | .error z => E = (z.1 : Nat) ∧ z.1 ≠ 0 ∧ A = (z.2 : Nat)
def RX (R e : Nat) (lv : Value) (L : List Tok) (x : Except (Nat × Nat) (List Tok)) (w : World) : Prop := ∃ i E A, RSt R e lv L i E A w ∧ Sx L i E A x
theorem RX.below {R e : Nat} {lv : Value} {L : List Tok} {x : Except (Nat × Nat) (List Tok)} {w w' : World} (h : RX R e lv L x w) (hb : Below w.heap.size w w') : RX R e lv L x w' := by
  obtain ⟨i, E, A, h1, h2⟩ := h
  exact ⟨i, E, A, h1.below hb, h2⟩
end Fc

set_option maxHeartbeats 2000000 in
set_option maxRecDepth 100000 in
theorem reffault_walk (R e : Nat) (lv : Value) (L : List Lx.Tok) (i : Nat) (E A x y : Int) (w : World) (h : Fc.RSt R e lv L i E A w) :
    Calls Tryz.prog 37 #[.pointer (some ⟨R, 0, none⟩), .int .i64 x, .int .i64 y] w fun en w' => en = .returned (.tuple #[]) ∧ Fc.RSt R e lv L i (if E = 0 then x else E) (if E = 0 then y else A) w' ∧ Fc.Rd R w w' := by
  have c3 : w.cell? ⟨R, 3, none⟩ = some (.int .i64 E) := Joins.cell_of_block h.1 3
  have c4 : w.cell? ⟨R, 4, none⟩ = some (.int .i64 A) := Joins.cell_of_block h.1 4
  have H := Lib.hid h
  by_cases hE : E = 0
  · subst hE
    rw [if_pos rfl, if_pos rfl]
    have u3 : w.frozen? ⟨R, 3, none⟩ = false := Joins.unfrozen_of_block h.1 3
    have u4 : (w.setCell ⟨R, 3, none⟩ (.int .i64 x)).frozen? ⟨R, 4, none⟩ = false := Joins.unfrozen_of_block (Joins.block_setCell h.1 _) 4
    have c4 : (w.setCell ⟨R, 3, none⟩ (.int .i64 x)).cell? ⟨R, 4, none⟩ = some (.int .i64 A) := (Joins.cell_of_block (Joins.block_setCell h.1 _) 4)
    clear h
    go_enter Tryz.func37, Tryz.ntmps37
    go_wp2_with fail
    first | go_end0 | refine bodyPost_ret (results_none rfl _ _ _) rfl ?_
    refine ⟨rfl, ⟨?_, ?_, H.out.2.2⟩, ?_⟩
    · rw [Joins.block_setCell (Joins.block_setCell H.out.1 _)]; rfl
    · exact H.out.2.1.below (((Below.refl R w).setCell (p := ⟨R, 3, none⟩) (Nat.le_refl _) _).setCell (p := ⟨R, 4, none⟩) (Nat.le_refl _) _)
    · exact (Fc.Rd.put 3 _).trans (Fc.Rd.put 4 _)
  · have hEb : (E == 0) = false := beq_eq_false_iff_ne.2 hE
    rw [if_neg hE, if_neg hE]
    clear h
    go_enter Tryz.func37, Tryz.ntmps37
    go_wp2_with fail
    first | go_end0 | refine bodyPost_ret (results_none rfl _ _ _) rfl ?_
    exact ⟨rfl, H.out, Fc.Rd.refl _ _⟩

/-- A guard that hangs on an operation that was not wanted. -/
theorem guard_undef : Go.yielded.match_1 (fun _ => Option Bool) (some undef) (fun b => some b) (fun _ => none) = none := rfl
attribute [local go_sem] guard_undef

set_option maxHeartbeats 8000000 in
set_option maxRecDepth 100000 in
theorem refsees_walk (R e : Nat) (lv : Value) (L : List Lx.Tok) (i : Nat) (E A : Int) (k : Nat) (s : ByteArray) (w : World) (h : Fc.RSt R e lv L i E A w) (b : Bool) (hb : b = (decide (E = 0) && Fc.sees k (Lx.tx s) (L.drop i))) :
    Calls Tryz.prog 64 #[.pointer (some ⟨R, 0, none⟩), .int .i64 (k : Nat), .string s] w (Fc.Gives (.bool b) w) := by
  have c0 : w.cell? ⟨R, 0, none⟩ = some lv := Joins.cell_of_block h.1 0
  have c1 : w.cell? ⟨R, 1, none⟩ = some (.int .i64 i) := Joins.cell_of_block h.1 1
  have c3 : w.cell? ⟨R, 3, none⟩ = some (.int .i64 E) := Joins.cell_of_block h.1 3
  obtain ⟨_, hT, hi⟩ := h
  obtain ⟨a, c, rfl, hc1, hc2, hc3⟩ := hT
  by_cases hE : ¬ E = 0
  · have hEb : (E == 0) = false := beq_eq_false_iff_ne.2 hE
    rw [decide_eq_false hE, Bool.false_and] at hb
    subst hb
    clear hc3 hi hc1 hc2
    go_enter Tryz.func64, Tryz.ntmps64
    go_wp2_with fail
    go_quiet (fail)
    go_wp2_with fail
    go_ret
    exact ⟨rfl, Joins.below_draws _ _ _⟩
  obtain rfl : E = 0 := by omega
  rw [decide_eq_true rfl, Bool.true_and] at hb
  by_cases hlt : ¬ i < L.length
  · have hd : L.drop i = [] := List.drop_eq_nil_of_le (by omega)
    rw [hd] at hb
    have hb2 : b = false := hb
    clear hb
    subst hb2
    obtain ⟨n, hn⟩ : ∃ n, n = L.length := ⟨_, rfl⟩
    rw [← hn] at hlt c0
    have hli : decide ((i : Int) < (n : Int)) = false := decide_eq_false (by omega)
    have hln : decide (i < n) = false := decide_eq_false (by omega)
    clear hc3 hi hc1 hc2 hd hn hlt
    go_enter Tryz.func64, Tryz.ntmps64
    go_wp2_with fail
    go_quiet (fail)
    go_wp2_with fail
    go_ret
    exact ⟨rfl, Joins.below_draws _ _ _⟩
  have hlt : i < L.length := by omega
  obtain ⟨t, ht⟩ : ∃ t, L[i]? = some t := ⟨_, List.getElem?_eq_getElem hlt⟩
  have hd : L.drop i = t :: L.drop (i + 1) := by
    obtain ⟨_, rfl⟩ := List.getElem?_eq_some_iff.1 ht
    exact List.drop_eq_getElem_cons hlt
  rw [hd] at hb
  replace hb : b = (t.kind == k && (Lx.tx s == [] || t.text == Lx.tx s)) := hb
  obtain ⟨g, o, rfl, hg, hcl⟩ := hc3 (by rintro rfl; simp at hlt)
  obtain ⟨p0, p1, _, _⟩ := hcl i t ht
  obtain ⟨n, hn⟩ : ∃ n, n = L.length := ⟨_, rfl⟩
  rw [← hn] at hlt c0 hc1
  have hlii : (i : Int) < (n : Int) := by omega
  have hli0 : (0 : Int) ≤ (i : Int) := by omega
  have hli : decide ((i : Int) < (n : Int)) = true := decide_eq_true hlii
  have hln : decide (i < n) = true := decide_eq_true hlt
  obtain ⟨y, hy⟩ : ∃ y, y = Lx.str t.text := ⟨_, rfl⟩
  rw [← hy] at p1
  obtain ⟨kk, hkk⟩ : ∃ kk : Nat, kk = t.kind := ⟨_, rfl⟩
  rw [← hkk] at p0 hb
  have hsE : s.toList.isEmpty = (Lx.tx s == []) := by
    rw [Lib.toList_data]
    show s.data.toList.isEmpty = (s.data.toList == [])
    cases s.data.toList <;> rfl
  have hyE : (y.toList == s.toList) = (t.text == Lx.tx s) := by
    rw [hy, Lib.toList_data, Lib.toList_data]; rfl
  rw [← hsE, ← hyE] at hb
  clear hcl ht hd hn hy hkk hg hi hsE hyE hc3
  by_cases hk : ¬ kk = k
  · have e1 : ((kk : Int) == (k : Int)) = false := beq_eq_false_iff_ne.2 (by omega)
    have e2 : (kk == k) = false := beq_eq_false_iff_ne.2 hk
    have e3 : decide (kk = k) = false := decide_eq_false hk
    have hb2 : b = false := by rw [hb, beq_eq_false_iff_ne.2 hk]; rfl
    clear hb hk
    subst hb2
    go_enter Tryz.func64, Tryz.ntmps64
    go_wp2_with fail
    go_quiet (fail)
    go_wp2_with fail
    go_ret
    exact ⟨rfl, Joins.below_draws _ _ _⟩
  obtain rfl : kk = k := by omega
  have e1 : ((kk : Int) == (kk : Int)) = true := by simp
  cases hs : s.toList.isEmpty with
  | true =>
    have hb2 : b = true := by rw [hb, hs]; simp
    clear hb hk
    subst hb2
    go_enter Tryz.func64, Tryz.ntmps64
    go_wp2_with fail
    go_quiet (fail)
    go_wp2_with fail
    go_ret
    exact ⟨rfl, Joins.below_draws _ _ _⟩
  | false =>
    cases hys : (y.toList == s.toList) with
    | true =>
      have hb2 : b = true := by rw [hb, hs, hys]; simp
      clear hb hk
      subst hb2
      go_enter Tryz.func64, Tryz.ntmps64
      go_wp2_with fail
      go_quiet (fail)
      go_wp2_with fail
      go_ret
      exact ⟨rfl, Joins.below_draws _ _ _⟩
    | false =>
      have hb2 : b = false := by rw [hb, hs, hys]; simp
      clear hb hk
      subst hb2
      go_enter Tryz.func64, Tryz.ntmps64
      go_wp2_with fail
      go_quiet (fail)
      go_wp2_with fail
      go_ret
      exact ⟨rfl, Joins.below_draws _ _ _⟩
end Go.Proofs.YtoamkanofhhjfaaGreatDoor
/-
  The walk of the reference's take.
-/
namespace Go.Proofs.YtoamkanofhhjfaaGreatDoor
open Go.RowKit

namespace Fc
open Lx
/-- The empty token. -/
def zt : Tok := ⟨0, [], 0, 0⟩
/-- What take answers, and the state behind it. -/
def tk (k : Nat) (x : T) (e : Nat) : Except (Nat × Nat) (List Tok) → Tok × Except (Nat × Nat) (List Tok)
  | .error z => (zt, .error z)
  | .ok l => match want k x e l with
    | .ok y => (y.1, .ok y.2)
    | .error z => (zt, .error z)
theorem want_no {k : Nat} {x : T} {e : Nat} {t : Tok} {r : List Tok} (h : sees k x (t :: r) = false) : want k x e (t :: r) = .error (5, t.at_) := by
  show (if sees k x (t :: r) = true then Except.ok (t, r) else Except.error (5, t.at_)) = _
  rw [h]; rfl
theorem want_see {k : Nat} {x : T} {e : Nat} {t : Tok} {r : List Tok} (h : sees k x (t :: r) = true) : want k x e (t :: r) = .ok (t, r) := by
  show (if sees k x (t :: r) = true then Except.ok (t, r) else Except.error (5, t.at_)) = _
  rw [h]; rfl
/-- Where the next token is not the one: what fault leaves. -/
theorem tk_no {k : Nat} {x : T} {e : Nat} {L : List Tok} {i : Nat} {E A : Int} {st : Except (Nat × Nat) (List Tok)} (h : Sx L i E A st) (hb : (decide (E = 0) && sees k x (L.drop i)) = false) :
    (tk k x e st).1 = zt ∧ (∀ t, L[i]? = some t → Sx L i (if E = 0 then 5 else E) (if E = 0 then (t.at_ : Int) else A) (tk k x e st).2) ∧ (L.length ≤ i → Sx L i (if E = 0 then 6 else E) (if E = 0 then (e : Int) else A) (tk k x e st).2) := by
  cases st with
  | error z =>
    obtain ⟨h1, h2, h3⟩ := h
    have hE : ¬ E = 0 := by omega
    refine ⟨rfl, fun t _ => ?_, fun _ => ?_⟩
    · rw [if_neg hE, if_neg hE]; exact ⟨h1, h2, h3⟩
    · rw [if_neg hE, if_neg hE]; exact ⟨h1, h2, h3⟩
  | ok r =>
    obtain ⟨rfl, rfl, rfl⟩ := h
    rw [decide_eq_true rfl, Bool.true_and] at hb
    cases hd : L.drop i with
    | nil =>
      have hle : L.length ≤ i := by rw [List.drop_eq_nil_iff] at hd; exact hd
      refine ⟨rfl, fun t ht => ?_, fun _ => ?_⟩
      · rw [List.getElem?_eq_none hle] at ht; cases ht
      · rw [if_pos rfl, if_pos rfl]; exact ⟨rfl, by show 6 ≠ 0; decide, rfl⟩
    | cons t r =>
      rw [hd] at hb
      have hw := want_no (e := e) hb
      have hlt : i < L.length := by
        rcases Nat.lt_or_ge i L.length with h | h
        · exact h
        · rw [List.drop_eq_nil_of_le h] at hd; cases hd
      have ht0 : L[i]? = some t := by
        rw [List.drop_eq_getElem_cons hlt] at hd
        rw [List.getElem?_eq_getElem hlt, (List.cons.inj hd).1]
      unfold tk
      dsimp only
      rw [hw]
      refine ⟨rfl, fun u hu => ?_, fun h => absurd h (by omega)⟩
      rw [ht0] at hu
      obtain rfl := Option.some.inj hu
      rw [if_pos rfl, if_pos rfl]
      exact ⟨rfl, by show 5 ≠ 0; decide, rfl⟩
theorem tk_yes {k : Nat} {x : T} {e : Nat} {L : List Tok} {i : Nat} {E A : Int} {st : Except (Nat × Nat) (List Tok)} (h : Sx L i E A st) (hb : (decide (E = 0) && sees k x (L.drop i)) = true) :
    E = 0 ∧ A = 0 ∧ ∃ t, L[i]? = some t ∧ tk k x e st = (t, .ok (L.drop (i + 1))) := by
  rw [Bool.and_eq_true, decide_eq_true_iff] at hb
  obtain ⟨rfl, hb⟩ := hb
  cases st with
  | error z => obtain ⟨h1, h2, h3⟩ := h; omega
  | ok r =>
    obtain ⟨_, rfl, rfl⟩ := h
    refine ⟨rfl, rfl, ?_⟩
    rcases Nat.lt_or_ge i L.length with hlt | hge
    · have hd := List.drop_eq_getElem_cons hlt
      rw [hd] at hb
      refine ⟨L[i], List.getElem?_eq_getElem hlt, ?_⟩
      unfold tk
      dsimp only
      rw [hd, want_see hb]
    · rw [List.drop_eq_nil_of_le hge] at hb; cases hb
/-- Only the reader's error and offset may turn. -/
def Keep (R e : Nat) (lv : Value) (L : List Tok) (i : Nat) (W w' : World) : Prop := (∃ E A, RSt R e lv L i E A w') ∧ Rd R W w'
theorem Keep.out {R e : Nat} {lv : Value} {L : List Tok} {i : Nat} {W w' : World} (h : Keep R e lv L i W w') : (∃ E A, RSt R e lv L i E A w') ∧ Rd R W w' := h
end Fc

/-- The world of a region's beginning, or one behind its last call. -/
def Fc.OrPost (W : World) (Q : World → Prop) (w' : World) : Prop := w' = W.drew ∨ Q w'

set_option maxHeartbeats 8000000 in
set_option maxRecDepth 100000 in
theorem reftake_walk (R e : Nat) (lv : Value) (L : List Lx.Tok) (st : Except (Nat × Nat) (List Lx.Tok)) (k : Nat) (s : ByteArray) (w : World) (h : Fc.RX R e lv L st w) (hL : L.length ≤ 5000) :
    Calls Tryz.prog 36 #[.pointer (some ⟨R, 0, none⟩), .int .i64 (k : Nat), .string s] w fun en w' => en = .returned (Fc.vT (Fc.tk k (Lx.tx s) e st).1) ∧ Fc.RX R e lv L (Fc.tk k (Lx.tx s) e st).2 w' ∧ Fc.Rd R w w' := by
  obtain ⟨i, E, A, hR, hS⟩ := h
  obtain ⟨res, hres⟩ : ∃ res, res = Fc.tk k (Lx.tx s) e st := ⟨_, rfl⟩
  rw [← hres]
  obtain ⟨W1, hW1⟩ : ∃ W1, W1 = w.alloc (.cells #[.int .i64 0, .string ⟨#[]⟩, .int .i64 0, .int .i64 0] 60) := ⟨_, rfl⟩
  obtain ⟨n6, hn6⟩ : ∃ n6, n6 = w.heap.size := ⟨_, rfl⟩
  have hbW : Below w.heap.size w W1 := by rw [hW1]; exact (Below.refl _ _).alloc (Nat.le_refl _) _
  have hk6 : W1.heap[n6]? = some (.cells #[.int .i64 0, .string ⟨#[]⟩, .int .i64 0, .int .i64 0] 60 (0, 0)) := by rw [hW1, hn6]; exact heap_alloc_new _ _
  have hRn : R < n6 := by rw [hn6]; exact hR.lt
  obtain ⟨b, hb⟩ : ∃ b, b = (decide (E = 0) && Fc.sees k (Lx.tx s) (L.drop i)) := ⟨_, rfl⟩
  have hR1 := hR.below hbW
  have HSE := Lib.hid (refsees_walk R e lv L i E A k s W1 hR1 b hb)
  have HW : Hid (w.alloc (.cells #[.int .i64 0, .string ⟨#[]⟩, .int .i64 0, .int .i64 0] 60) = W1) := hW1.symm
  have HN6 := Lib.hid hn6
  have HB1 := Lib.hid hbW
  have HK6 := Lib.hid hk6
  have HR1 := Lib.hid hR1
  have HRES := Lib.hid hres
  clear hW1 hbW hk6 hR hR1 hres hn6
  cases b with
  | true =>
    obtain ⟨rfl, rfl, t, ht, htk⟩ := Fc.tk_yes (e := e) hS hb.symm
    have HT := Lib.hid (And.intro ht (HRES.out.trans htk))
    clear ht htk hS hb
    go_enter Tryz.func36, Tryz.ntmps36
    go_upto_region 1 with fail
    rw [HW.out, ← HN6.out]
    clear HW
    go_wp2_with fail
    refine HSE.out.mono ?_
    rintro en w2 ⟨rfl, hb2⟩
    have hR2 := HR1.out.below hb2
    have hi := hR2.2.2
    have c1 : w2.cell? ⟨R, 1, none⟩ = some (.int .i64 i) := Joins.cell_of_block hR2.1 1
    have u1 : w2.frozen? ⟨R, 1, none⟩ = false := Joins.unfrozen_of_block hR2.1 1
    have hi1 : wrap64 ((i : Int) + 1) = (i : Int) + 1 := by unfold wrap64; omega
    have HR2 := Lib.hid hR2
    have HB2 := Lib.hid hb2
    clear hb2 hR2 HSE
    go_upto_region 3 with fail
    obtain ⟨W3, hW3⟩ : ∃ W3, W3 = w2.setCell ⟨R, 1, none⟩ (.int .i64 ((i : Int) + 1)) := ⟨_, rfl⟩
    have hrd3 : Fc.Rd R w2 W3 := by rw [hW3]; exact Fc.Rd.put 1 _
    have hlt : i < L.length := (List.getElem?_eq_some_iff.1 HT.out.1).1
    have hR3 : Fc.RSt R e lv L (i + 1) 0 0 W3 := by
      refine ⟨?_, HR2.out.2.1.below (by rw [hW3]; exact (Below.refl R w2).setCell (p := ⟨R, 1, none⟩) (Nat.le_refl _) _), by omega⟩
      rw [hW3, Joins.block_setCell HR2.out.1]; rfl
    rw [← hW3]
    have hk63 : W3.heap[n6]? = some (.cells #[.int .i64 0, .string ⟨#[]⟩, .int .i64 0, .int .i64 0] 60 (0, 0)) :=
      (hrd3.block n6 (by have := HB2.out.size; have := (Array.getElem?_eq_some_iff.1 HK6.out).1; omega) (by omega)).trans ((HB2.out.block n6 (Array.getElem?_eq_some_iff.1 HK6.out).1).trans HK6.out)
    obtain ⟨a, c, rfl, hc1, hc2, hc3⟩ := hR3.2.1
    obtain ⟨g, o, rfl, hg, hcl⟩ := hc3 (by rintro rfl; simp at hlt)
    obtain ⟨p0, p1, p2, p3⟩ := hcl i t HT.out.1
    obtain ⟨n, hn⟩ : ∃ n, n = L.length := ⟨_, rfl⟩
    have hcR0 := Joins.cell_of_block hR3.1 0
    have hcR1 := Joins.cell_of_block hR3.1 1
    have r0 : W3.cell? ⟨R, 0, none⟩ = some (.slice (some ⟨g, o, none⟩) n c) := by rw [hn]; exact hcR0
    have r1 : W3.cell? ⟨R, 1, none⟩ = some (.int .i64 ((i : Int) + 1)) := hcR1
    have v0 : W3.cell? ⟨n6, 0, none⟩ = some (.int .i64 0) := Joins.cell_of_block hk63 0
    have v1 : W3.cell? ⟨n6, 1, none⟩ = some (.string ⟨#[]⟩) := Joins.cell_of_block hk63 1
    have v2 : W3.cell? ⟨n6, 2, none⟩ = some (.int .i64 0) := Joins.cell_of_block hk63 2
    have v3 : W3.cell? ⟨n6, 3, none⟩ = some (.int .i64 0) := Joins.cell_of_block hk63 3
    have u0 : W3.frozen? ⟨n6, 0, none⟩ = false := Joins.unfrozen_of_block hk63 0
    have u1 : W3.frozen? ⟨n6, 1, none⟩ = false := Joins.unfrozen_of_block hk63 1
    have u2 : W3.frozen? ⟨n6, 2, none⟩ = false := Joins.unfrozen_of_block hk63 2
    have u3 : W3.frozen? ⟨n6, 3, none⟩ = false := Joins.unfrozen_of_block hk63 3
    have hii : (i : Int) < (n : Int) := by omega
    have hi0 : (0 : Int) ≤ (i : Int) := by omega
    have hsub : wrap64 ((i : Int) + 1 - 1) = (i : Int) := by unfold wrap64; omega
    have hsub2 : wrap64 (i : Int) = (i : Int) := by unfold wrap64; omega
    have hsub3 : IntKind.i64.wrap (i : Int) = (i : Int) := IntWalk.i64_in _ (by omega)
    have hsub4 : IntKind.i64.wrap ((i : Int) + 1 - 1) = (i : Int) := (IntWalk.i64_in _ (by omega)).trans (by omega)
    have hin : i < n := by omega
    have hnc : n ≤ c := by rw [hn]; exact hc1
    have HR3 := Lib.hid hR3
    have HK63 := Lib.hid hk63
    have HRD3 := Lib.hid hrd3
    clear hW3 hrd3 hR3 hk63 hcl hc3 c1 hcR0 hcR1
    have hn6W3 : n6 < W3.heap.size := (Array.getElem?_eq_some_iff.1 HK63.out).1
    have hk64 := Joins.block_setCell (Joins.block_setCell (Joins.block_setCell (Joins.block_setCell HK63.out (.int .i64 (t.kind : Nat)) (i := 0)) (.string (Lx.str t.text)) (i := 1)) (.int .i64 (t.n : Nat)) (i := 2)) (.int .i64 (t.at_ : Nat)) (i := 3)
    have HB64 : Hid (Below n6 W3 ((((W3.setCell ⟨n6, 0, none⟩ (.int .i64 (t.kind : Nat))).setCell ⟨n6, 1, none⟩ (.string (Lx.str t.text))).setCell ⟨n6, 2, none⟩ (.int .i64 (t.n : Nat))).setCell ⟨n6, 3, none⟩ (.int .i64 (t.at_ : Nat))).drew) :=
      (((((Below.refl n6 W3).setCell (p := ⟨n6, 0, none⟩) (Nat.le_refl _) _).setCell (p := ⟨n6, 1, none⟩) (Nat.le_refl _) _).setCell (p := ⟨n6, 2, none⟩) (Nat.le_refl _) _).setCell (p := ⟨n6, 3, none⟩) (Nat.le_refl _) _).drew
    have HK64 := Lib.hid hk64
    clear hk64
    go_region
    all_goals
      clear r0 r1 v0 v1 v2 v3 u0 u1 u2 u3 p0 p1 p2 p3 hsub hsub2 hsub3 hsub4
      obtain ⟨W4, hW4⟩ : ∃ W4, W4 = ((((W3.setCell ⟨n6, 0, none⟩ (.int .i64 (t.kind : Nat))).setCell ⟨n6, 1, none⟩ (.string (Lx.str t.text))).setCell ⟨n6, 2, none⟩ (.int .i64 (t.n : Nat))).setCell ⟨n6, 3, none⟩ (.int .i64 (t.at_ : Nat))).drew := ⟨_, rfl⟩
      rw [← hW4] at HB64 ⊢
      have hk65 : W4.heap[n6]? = some (.cells #[.int .i64 (t.kind : Nat), .string (Lx.str t.text), .int .i64 (t.n : Nat), .int .i64 (t.at_ : Nat)] 60 (0, 0)) := by rw [hW4]; exact HK64.out
      have f0 := Joins.cell_of_block hk65 0
      have f1 := Joins.cell_of_block hk65 1
      have f2 := Joins.cell_of_block hk65 2
      have f3 := Joins.cell_of_block hk65 3
      clear hk65 hW4 HK64
      go_wp2_with fail
      refine bodyPost_ret (v := Fc.vT t) ?_ rfl ?_
      · simp [results, Tryz.f36, go_sem, f0, f1, f2, f3]
      · rw [HT.out.2]
        have hlt9 : n6 ≤ w.heap.size := by rw [HN6.out]; exact Nat.le_refl _
        have hR4 : Fc.RSt R e (.slice (some ⟨g, o, none⟩) L.length c) L (i + 1) 0 0 W4 := ⟨(HB64.out.block R hRn).trans HR3.out.1, HR3.out.2.1.below (HB64.out.mono (by omega)), HR3.out.2.2⟩
        refine ⟨rfl, ⟨i + 1, 0, 0, hR4, rfl, rfl, rfl⟩, ?_⟩
        have q1 : Fc.Rd R w w2 := Fc.Rd.of R (HB1.out.trans (HB2.out.mono HB1.out.size))
        have q2 : Fc.Rd R w W3 := q1.trans HRD3.out
        exact ⟨HB64.out.os.trans q2.os, HB64.out.tape.trans q2.tape, HB64.out.output.trans q2.output, Nat.le_trans q2.size HB64.out.size, fun j hj hjR => (HB64.out.block j (by rw [HN6.out]; exact hj)).trans (q2.block j hj hjR)⟩
  | false =>
    have HTK := Lib.hid (Fc.tk_no (e := e) hS hb.symm)
    clear hS hb
    go_enter Tryz.func36, Tryz.ntmps36
    go_upto_region 1 with fail
    rw [HW.out, ← HN6.out]
    clear HW
    go_wp2_with fail
    refine HSE.out.mono ?_
    rintro en w2 ⟨rfl, hb2⟩
    have hR2 := HR1.out.below hb2
    have hi := hR2.2.2
    have hk62 : w2.heap[n6]? = some (.cells #[.int .i64 0, .string ⟨#[]⟩, .int .i64 0, .int .i64 0] 60 (0, 0)) := (hb2.block n6 (Array.getElem?_eq_some_iff.1 HK6.out).1).trans HK6.out
    have HK62 := Lib.hid (And.intro (Array.getElem?_eq_some_iff.1 hk62).1 hk62)
    obtain ⟨a, c, rfl, hc1, hc2, hc3⟩ := hR2.2.1
    have c0 : w2.cell? ⟨R, 0, none⟩ = some (.slice a L.length c) := Joins.cell_of_block hR2.1 0
    have c1 : w2.cell? ⟨R, 1, none⟩ = some (.int .i64 i) := Joins.cell_of_block hR2.1 1
    have c2 : w2.cell? ⟨R, 2, none⟩ = some (.int .i64 e) := Joins.cell_of_block hR2.1 2
    have HR2 := Lib.hid hR2
    have HB2 := Lib.hid hb2
    have hi0 : (0 : Int) ≤ (i : Int) := by omega
    clear hb2 hR2 HSE hk62
    by_cases hlt : i < L.length
    · obtain ⟨t, ht⟩ : ∃ t, L[i]? = some t := ⟨_, List.getElem?_eq_getElem hlt⟩
      have HSX := Lib.hid (HTK.out.2.1 t ht)
      obtain ⟨g, o, rfl, hg, hcl⟩ := hc3 (by rintro rfl; simp at hlt)
      obtain ⟨_, _, _, p3⟩ := hcl i t ht
      have hlii : (i : Int) < (L.length : Int) := by omega
      have hli : decide ((i : Int) < (L.length : Int)) = true := decide_eq_true hlii
      have hln : decide (i < L.length) = true := decide_eq_true hlt
      have hcells : ∀ w', Fc.RSt R e (.slice (some ⟨g, o, none⟩) L.length c) L i (if E = 0 then 5 else E) (if E = 0 then (t.at_ : Int) else A) w' → w'.cell? ⟨g, o + i * 4 + 3, none⟩ = some (.int .i64 (t.at_ : Nat)) := fun w' h => by
        obtain ⟨_, ⟨a9, c9, e9, _, _, h9⟩, _⟩ := h
        obtain ⟨g9, o9, rfl, _, hcl9⟩ := h9 (by rintro rfl; simp at hlt)
        have e8 : (g = g9 ∧ o = o9) ∧ c = c9 := by simpa using e9
        obtain ⟨⟨rfl, rfl⟩, _⟩ := e8
        exact (hcl9 i t ht).2.2.2
      obtain ⟨Q, hQ⟩ : ∃ Q : World → Prop, Q = fun w' => Fc.RSt R e (.slice (some ⟨g, o, none⟩) L.length c) L i (if E = 0 then 5 else E) (if E = 0 then (t.at_ : Int) else A) w' ∧ Fc.Rd R w2 w' := ⟨_, rfl⟩
      have r0 : ∀ w', Fc.OrPost w2.drew Q w' → w'.cell? ⟨R, 0, none⟩ = some (.slice (some ⟨g, o, none⟩) L.length c) := by
        rintro w' (rfl | h)
        · exact c0
        · rw [hQ] at h; exact Joins.cell_of_block h.1.1 0
      have r1 : ∀ w', Fc.OrPost w2.drew Q w' → w'.cell? ⟨R, 1, none⟩ = some (.int .i64 i) := by
        rintro w' (rfl | h)
        · exact c1
        · rw [hQ] at h; exact Joins.cell_of_block h.1.1 1
      have s3 : ∀ w', Fc.OrPost w2.drew Q w' → w'.cell? ⟨g, o + i * 4 + 3, none⟩ = some (.int .i64 (t.at_ : Nat)) := by
        rintro w' (rfl | h)
        · exact p3
        · rw [hQ] at h; exact hcells w' h.1
      have HQ := Lib.hid hQ
      have HP5 : Hid (Calls Tryz.prog 37 #[.pointer (some ⟨R, 0, none⟩), .int .i64 5, .int .i64 (t.at_ : Nat)] w2.drew.drew fun en w'' => en = .returned (.tuple #[]) ∧ Q w'') := by
        refine (reffault_walk R e _ L i E A 5 (t.at_ : Nat) w2.drew.drew (HR2.out.below (Below.refl _ _).drew.drew)).mono ?_
        rintro en w'' ⟨h1, h2, h3⟩
        rw [hQ]
        exact ⟨h1, h2, (Fc.Rd.of R (Below.refl _ _).drew.drew).trans h3⟩
      clear hc3 hcl ht hc1 hc2 hcells hQ
      go_wp2_with fail
      go_region
      all_goals
        clear c0 c1 c2 p3
        go_wp2_with fail
        go_region_held3 (fun w' => Fc.OrPost w2.drew Q w') (first | exact .inl rfl | exact .inr (by with_reducible assumption)) (first | (go_at_call 37; (with_reducible refine HP5.out.mono ?_); rintro en5 w5 ⟨rfl, hq5⟩))
        have hP : Fc.RSt R e (.slice (some ⟨g, o, none⟩) L.length c) L i (if E = 0 then 5 else E) (if E = 0 then (t.at_ : Int) else A) w5 ∧ Fc.Rd R w2 w5 := by have := hq5; rw [HQ.out] at this; exact this
        clear r0 r1 s3 hq5 HP5 HQ hlii hli hln hi0
        have hk65 : w5.heap[n6]? = some (.cells #[.int .i64 0, .string ⟨#[]⟩, .int .i64 0, .int .i64 0] 60 (0, 0)) := (hP.2.block n6 HK62.out.1 (by omega)).trans HK62.out.2
        have v0 : w5.cell? ⟨n6, 0, none⟩ = some (.int .i64 0) := Joins.cell_of_block hk65 0
        have v1 : w5.cell? ⟨n6, 1, none⟩ = some (.string ⟨#[]⟩) := Joins.cell_of_block hk65 1
        have v2 : w5.cell? ⟨n6, 2, none⟩ = some (.int .i64 0) := Joins.cell_of_block hk65 2
        have v3 : w5.cell? ⟨n6, 3, none⟩ = some (.int .i64 0) := Joins.cell_of_block hk65 3
        have u0 : w5.frozen? ⟨n6, 0, none⟩ = false := Joins.unfrozen_of_block hk65 0
        have u1 : w5.frozen? ⟨n6, 1, none⟩ = false := Joins.unfrozen_of_block hk65 1
        have u2 : w5.frozen? ⟨n6, 2, none⟩ = false := Joins.unfrozen_of_block hk65 2
        have u3 : w5.frozen? ⟨n6, 3, none⟩ = false := Joins.unfrozen_of_block hk65 3
        have HK66 := Lib.hid (Joins.block_setCell (Joins.block_setCell (Joins.block_setCell (Joins.block_setCell hk65 (.int .i64 0) (i := 0)) (.string ⟨#[]⟩) (i := 1)) (.int .i64 0) (i := 2)) (.int .i64 0) (i := 3))
        have HB66 : Hid (Below n6 w5 ((((w5.setCell ⟨n6, 0, none⟩ (.int .i64 0)).setCell ⟨n6, 1, none⟩ (.string ⟨#[]⟩)).setCell ⟨n6, 2, none⟩ (.int .i64 0)).setCell ⟨n6, 3, none⟩ (.int .i64 0))) :=
          ((((Below.refl n6 w5).setCell (p := ⟨n6, 0, none⟩) (Nat.le_refl _) _).setCell (p := ⟨n6, 1, none⟩) (Nat.le_refl _) _).setCell (p := ⟨n6, 2, none⟩) (Nat.le_refl _) _).setCell (p := ⟨n6, 3, none⟩) (Nat.le_refl _) _
        have HP := Lib.hid hP
        clear hk65 hP
        go_upto_region 99 with fail
        obtain ⟨W4, hW4⟩ : ∃ W4, W4 = ((((w5.setCell ⟨n6, 0, none⟩ (.int .i64 0)).setCell ⟨n6, 1, none⟩ (.string ⟨#[]⟩)).setCell ⟨n6, 2, none⟩ (.int .i64 0)).setCell ⟨n6, 3, none⟩ (.int .i64 0)) := ⟨_, rfl⟩
        rw [← hW4] at HB66 ⊢
        have hk67 : W4.heap[n6]? = some (.cells #[.int .i64 0, .string ⟨#[]⟩, .int .i64 0, .int .i64 0] 60 (0, 0)) := by rw [hW4]; exact HK66.out
        have f0 := Joins.cell_of_block hk67 0
        have f1 := Joins.cell_of_block hk67 1
        have f2 := Joins.cell_of_block hk67 2
        have f3 := Joins.cell_of_block hk67 3
        refine bodyPost_ret (v := Fc.vT Fc.zt) ?_ rfl ?_
        · simp [results, Tryz.f36, go_sem, f0, f1, f2, f3]
          exact ⟨rfl, rfl, rfl, rfl⟩
        · have hR4 := HP.out.1
          have hR5 : Fc.RSt R e (.slice (some ⟨g, o, none⟩) L.length c) L i _ _ W4 := ⟨(HB66.out.block R hRn).trans hR4.1, hR4.2.1.below (HB66.out.mono (by omega)), hR4.2.2⟩
          refine ⟨by rw [HRES.out, HTK.out.1], ⟨i, _, _, hR5, by rw [HRES.out]; exact HSX.out⟩, ?_⟩
          have q1 : Fc.Rd R w w2 := Fc.Rd.of R (HB1.out.trans (HB2.out.mono HB1.out.size))
          have q2 : Fc.Rd R w w5 := q1.trans HP.out.2
          exact ⟨HB66.out.os.trans q2.os, HB66.out.tape.trans q2.tape, HB66.out.output.trans q2.output, Nat.le_trans q2.size HB66.out.size, fun j hj hjR => (HB66.out.block j (by rw [HN6.out]; exact hj)).trans (q2.block j hj hjR)⟩
    · have hge : L.length ≤ i := by omega
      have HSX := Lib.hid (HTK.out.2.2 hge)
      have hlii : ¬ (i : Int) < (L.length : Int) := by omega
      have hli : decide ((i : Int) < (L.length : Int)) = false := decide_eq_false hlii
      have hln : decide (i < L.length) = false := decide_eq_false hlt
      have HP5 : Hid (Calls Tryz.prog 37 #[.pointer (some ⟨R, 0, none⟩), .int .i64 6, .int .i64 (e : Nat)] w2.drew fun en w'' => en = .returned (.tuple #[]) ∧ Fc.RSt R e (.slice a L.length c) L i (if E = 0 then 6 else E) (if E = 0 then (e : Int) else A) w'' ∧ Fc.Rd R w2 w'') := by
        refine (reffault_walk R e _ L i E A 6 (e : Nat) w2.drew (HR2.out.below (Below.refl _ _).drew)).mono ?_
        rintro en w'' ⟨h1, h2, h3⟩
        exact ⟨h1, h2, (Fc.Rd.of R (Below.refl _ _).drew).trans h3⟩
      clear hc1 hc2 hc3 hge
      go_wp2_with fail
      go_region
      all_goals
        go_wp2_with fail
        refine HP5.out.mono ?_
        rintro en5 w5 ⟨rfl, hP⟩
        clear c0 c1 c2 HP5 hlii hli hln hi0 hlt
        have hk65 : w5.heap[n6]? = some (.cells #[.int .i64 0, .string ⟨#[]⟩, .int .i64 0, .int .i64 0] 60 (0, 0)) := (hP.2.block n6 HK62.out.1 (by omega)).trans HK62.out.2
        have v0 : w5.cell? ⟨n6, 0, none⟩ = some (.int .i64 0) := Joins.cell_of_block hk65 0
        have v1 : w5.cell? ⟨n6, 1, none⟩ = some (.string ⟨#[]⟩) := Joins.cell_of_block hk65 1
        have v2 : w5.cell? ⟨n6, 2, none⟩ = some (.int .i64 0) := Joins.cell_of_block hk65 2
        have v3 : w5.cell? ⟨n6, 3, none⟩ = some (.int .i64 0) := Joins.cell_of_block hk65 3
        have u0 : w5.frozen? ⟨n6, 0, none⟩ = false := Joins.unfrozen_of_block hk65 0
        have u1 : w5.frozen? ⟨n6, 1, none⟩ = false := Joins.unfrozen_of_block hk65 1
        have u2 : w5.frozen? ⟨n6, 2, none⟩ = false := Joins.unfrozen_of_block hk65 2
        have u3 : w5.frozen? ⟨n6, 3, none⟩ = false := Joins.unfrozen_of_block hk65 3
        have HK66 := Lib.hid (Joins.block_setCell (Joins.block_setCell (Joins.block_setCell (Joins.block_setCell hk65 (.int .i64 0) (i := 0)) (.string ⟨#[]⟩) (i := 1)) (.int .i64 0) (i := 2)) (.int .i64 0) (i := 3))
        have HB66 : Hid (Below n6 w5 ((((w5.setCell ⟨n6, 0, none⟩ (.int .i64 0)).setCell ⟨n6, 1, none⟩ (.string ⟨#[]⟩)).setCell ⟨n6, 2, none⟩ (.int .i64 0)).setCell ⟨n6, 3, none⟩ (.int .i64 0))) :=
          ((((Below.refl n6 w5).setCell (p := ⟨n6, 0, none⟩) (Nat.le_refl _) _).setCell (p := ⟨n6, 1, none⟩) (Nat.le_refl _) _).setCell (p := ⟨n6, 2, none⟩) (Nat.le_refl _) _).setCell (p := ⟨n6, 3, none⟩) (Nat.le_refl _) _
        have HP := Lib.hid hP
        clear hk65 hP
        go_upto_region 99 with fail
        obtain ⟨W4, hW4⟩ : ∃ W4, W4 = ((((w5.setCell ⟨n6, 0, none⟩ (.int .i64 0)).setCell ⟨n6, 1, none⟩ (.string ⟨#[]⟩)).setCell ⟨n6, 2, none⟩ (.int .i64 0)).setCell ⟨n6, 3, none⟩ (.int .i64 0)) := ⟨_, rfl⟩
        rw [← hW4] at HB66 ⊢
        have hk67 : W4.heap[n6]? = some (.cells #[.int .i64 0, .string ⟨#[]⟩, .int .i64 0, .int .i64 0] 60 (0, 0)) := by rw [hW4]; exact HK66.out
        have f0 := Joins.cell_of_block hk67 0
        have f1 := Joins.cell_of_block hk67 1
        have f2 := Joins.cell_of_block hk67 2
        have f3 := Joins.cell_of_block hk67 3
        refine bodyPost_ret (v := Fc.vT Fc.zt) ?_ rfl ?_
        · simp [results, Tryz.f36, go_sem, f0, f1, f2, f3]
          exact ⟨rfl, rfl, rfl, rfl⟩
        · have hR4 := HP.out.1
          have hR5 : Fc.RSt R e (.slice a L.length c) L i _ _ W4 := ⟨(HB66.out.block R hRn).trans hR4.1, hR4.2.1.below (HB66.out.mono (by omega)), hR4.2.2⟩
          refine ⟨by rw [HRES.out, HTK.out.1], ⟨i, _, _, hR5, by rw [HRES.out]; exact HSX.out⟩, ?_⟩
          have q1 : Fc.Rd R w w2 := Fc.Rd.of R (HB1.out.trans (HB2.out.mono HB1.out.size))
          have q2 : Fc.Rd R w w5 := q1.trans HP.out.2
          exact ⟨HB66.out.os.trans q2.os, HB66.out.tape.trans q2.tape, HB66.out.output.trans q2.output, Nat.le_trans q2.size HB66.out.size, fun j hj hjR => (HB66.out.block j (by rw [HN6.out]; exact hj)).trans (q2.block j hj hjR)⟩
end Go.Proofs.YtoamkanofhhjfaaGreatDoor
/-
  The reference's reader of facts: its methods' contracts, state by state.
-/
namespace Go.Proofs.YtoamkanofhhjfaaGreatDoor
open Go.RowKit

namespace Fc
open Lx
theorem RSt.low {R e : Nat} {lv : Value} {L : List Tok} {i : Nat} {E A : Int} {w w' : World} (h : RSt R e lv L i E A w) {B : Nat} (hb : Below B w w') (hB : R < B) : RSt R e lv L i E A w' :=
  ⟨(hb.block R hB).trans h.1, h.2.1.below (hb.mono (by omega)), h.2.2⟩
theorem RX.low {R e : Nat} {lv : Value} {L : List Tok} {x : Except (Nat × Nat) (List Tok)} {w w' : World} (h : RX R e lv L x w) {B : Nat} (hb : Below B w w') (hB : R < B) : RX R e lv L x w' := by
  obtain ⟨i, E, A, h1, h2⟩ := h
  exact ⟨i, E, A, h1.low hb hB, h2⟩
theorem RX.lt {R e : Nat} {lv : Value} {L : List Tok} {x : Except (Nat × Nat) (List Tok)} {w : World} (h : RX R e lv L x w) : R < w.heap.size := by
  obtain ⟨i, E, A, h1, h2⟩ := h
  exact h1.lt
theorem RX.err_ok {R e : Nat} {lv : Value} {L : List Tok} {l : List Tok} {w : World} (h : RX R e lv L (.ok l) w) : w.cell? ⟨R, 3, none⟩ = some (.int .i64 0) := by
  obtain ⟨i, E, A, h1, rfl, rfl, rfl⟩ := h
  exact Joins.cell_of_block h1.1 3
theorem RX.err_no {R e : Nat} {lv : Value} {L : List Tok} {z : Nat × Nat} {w : World} (h : RX R e lv L (.error z) w) : w.cell? ⟨R, 3, none⟩ = some (.int .i64 (z.1 : Nat)) ∧ (((z.1 : Nat) : Int) == 0) = false := by
  obtain ⟨i, E, A, h1, rfl, h2, rfl⟩ := h
  exact ⟨Joins.cell_of_block h1.1 3, beq_eq_false_iff_ne.2 (by omega)⟩
/-- The state behind a call: it stands for x; of the old blocks only R may have turned. -/
def Aft (R e : Nat) (lv : Value) (L : List Tok) (v : Value) (x : Except (Nat × Nat) (List Tok)) (w : World) (en : Ending) (w' : World) : Prop := en = .returned v ∧ RX R e lv L x w' ∧ Rd R w w'
/-- The index moved on. -/
theorem RX.inc {R e : Nat} {lv : Value} {L : List Tok} {l : List Tok} {w : World} (h : RX R e lv L (.ok l) w) (hl : l ≠ []) (hL : L.length ≤ 5000) :
    ∃ i : Nat, i ≤ 5000 ∧ w.cell? ⟨R, 1, none⟩ = some (.int .i64 i) ∧ w.frozen? ⟨R, 1, none⟩ = false ∧ RX R e lv L (.ok (l.drop 1)) (w.setCell ⟨R, 1, none⟩ (.int .i64 ((i : Int) + 1))) ∧ Rd R w (w.setCell ⟨R, 1, none⟩ (.int .i64 ((i : Int) + 1))) := by
  obtain ⟨i, E, A, h1, rfl, rfl, rfl⟩ := h
  have hlt : i < L.length := by
    rcases Nat.lt_or_ge i L.length with h | h
    · exact h
    · exact absurd (List.drop_eq_nil_of_le h) hl
  refine ⟨i, by omega, Joins.cell_of_block h1.1 1, Joins.unfrozen_of_block h1.1 1, ⟨i + 1, 0, 0, ⟨?_, h1.2.1.below ((Below.refl R w).setCell (p := ⟨R, 1, none⟩) (Nat.le_refl _) _), by omega⟩, rfl, rfl, by rw [List.drop_drop]⟩, Rd.put 1 _⟩
  rw [Joins.block_setCell h1.1]; rfl
end Fc
open Fc

theorem take_ok (R e : Nat) (lv : Value) (L l : List Lx.Tok) (k : Nat) (s : ByteArray) (w : World) (h : RX R e lv L (.ok l) w) (hL : L.length ≤ 5000) {t : Lx.Tok} {r : List Lx.Tok} (hw : want k (Lx.tx s) e l = .ok (t, r)) :
    Calls Tryz.prog 36 #[.pointer (some ⟨R, 0, none⟩), .int .i64 (k : Nat), .string s] w (Aft R e lv L (vT t) (.ok r) w) := by
  have := reftake_walk R e lv L (.ok l) k s w h hL
  unfold tk at this
  dsimp only at this
  rw [hw] at this
  exact this
theorem take_no (R e : Nat) (lv : Value) (L l : List Lx.Tok) (k : Nat) (s : ByteArray) (w : World) (h : RX R e lv L (.ok l) w) (hL : L.length ≤ 5000) {z : Nat × Nat} (hw : want k (Lx.tx s) e l = .error z) :
    Calls Tryz.prog 36 #[.pointer (some ⟨R, 0, none⟩), .int .i64 (k : Nat), .string s] w (Aft R e lv L (vT zt) (.error z) w) := by
  have := reftake_walk R e lv L (.ok l) k s w h hL
  unfold tk at this
  dsimp only at this
  rw [hw] at this
  exact this
theorem take_err (R e : Nat) (lv : Value) (L : List Lx.Tok) (z : Nat × Nat) (k : Nat) (s : ByteArray) (w : World) (h : RX R e lv L (.error z) w) (hL : L.length ≤ 5000) :
    Calls Tryz.prog 36 #[.pointer (some ⟨R, 0, none⟩), .int .i64 (k : Nat), .string s] w (Aft R e lv L (vT zt) (.error z) w) :=
  reftake_walk R e lv L (.error z) k s w h hL
theorem sees_ok (R e : Nat) (lv : Value) (L l : List Lx.Tok) (k : Nat) (s : ByteArray) (w : World) (h : RX R e lv L (.ok l) w) (b : Bool) (hb : b = sees k (Lx.tx s) l) :
    Calls Tryz.prog 64 #[.pointer (some ⟨R, 0, none⟩), .int .i64 (k : Nat), .string s] w (Aft R e lv L (.bool b) (.ok l) w) := by
  obtain ⟨i, E, A, h1, h2⟩ := h
  have h3 := h2
  obtain ⟨rfl, rfl, rfl⟩ := h3
  refine (refsees_walk R e lv L i 0 0 k s w h1 b (by rw [hb]; rfl)).mono ?_
  rintro en w' ⟨rfl, hb'⟩
  exact ⟨rfl, ⟨i, 0, 0, h1.below hb', h2⟩, Rd.of R hb'⟩
theorem sees_err (R e : Nat) (lv : Value) (L : List Lx.Tok) (z : Nat × Nat) (k : Nat) (s : ByteArray) (w : World) (h : RX R e lv L (.error z) w) :
    Calls Tryz.prog 64 #[.pointer (some ⟨R, 0, none⟩), .int .i64 (k : Nat), .string s] w (Aft R e lv L (.bool false) (.error z) w) := by
  obtain ⟨i, E, A, h1, h2⟩ := h
  have h3 := h2
  obtain ⟨rfl, hz, rfl⟩ := h3
  refine (refsees_walk R e lv L i _ _ k s w h1 false (by rw [decide_eq_false (by omega)]; rfl)).mono ?_
  rintro en w' ⟨rfl, hb'⟩
  exact ⟨rfl, ⟨i, _, _, h1.below hb', h2⟩, Rd.of R hb'⟩
theorem fault_ok (R e : Nat) (lv : Value) (L l : List Lx.Tok) (x y : Nat) (hx : x ≠ 0) (w : World) (h : RX R e lv L (.ok l) w) :
    Calls Tryz.prog 37 #[.pointer (some ⟨R, 0, none⟩), .int .i64 (x : Nat), .int .i64 (y : Nat)] w (Aft R e lv L (.tuple #[]) (.error (x, y)) w) := by
  obtain ⟨i, E, A, h1, rfl, rfl, rfl⟩ := h
  refine (reffault_walk R e lv L i 0 0 (x : Nat) (y : Nat) w h1).mono ?_
  rintro en w' ⟨h2, h3, h4⟩
  rw [if_pos rfl, if_pos rfl] at h3
  exact ⟨h2, ⟨i, _, _, h3, rfl, hx, rfl⟩, h4⟩
theorem fault_err (R e : Nat) (lv : Value) (L : List Lx.Tok) (z : Nat × Nat) (x y : Int) (w : World) (h : RX R e lv L (.error z) w) :
    Calls Tryz.prog 37 #[.pointer (some ⟨R, 0, none⟩), .int .i64 x, .int .i64 y] w (Aft R e lv L (.tuple #[]) (.error z) w) := by
  obtain ⟨i, E, A, h1, rfl, hz, rfl⟩ := h
  refine (reffault_walk R e lv L i _ _ x y w h1).mono ?_
  rintro en w' ⟨h2, h3, h4⟩
  have hE : ¬ ((z.1 : Nat) : Int) = 0 := by omega
  rw [if_neg hE, if_neg hE] at h3
  exact ⟨h2, ⟨i, _, _, h3, rfl, hz, rfl⟩, h4⟩
end Go.Proofs.YtoamkanofhhjfaaGreatDoor
/-
  The reference's reader of a fact: what is kept from step to step.
-/
namespace Go.Proofs.YtoamkanofhhjfaaGreatDoor
open Go.RowKit

namespace Fc
open Lx
/-- What holds at each step: the reader, the boxes of the domain and of the result. -/
structure FS (R e : Nat) (lv : Value) (L : List Tok) (dv : Value) (n3 n4 : Nat) (w0 : World) (x : Except (Nat × Nat) (List Tok)) (w : World) : Prop where
  rx : RX R e lv L x w
  fr : Rd R w0 w
  b3 : w.heap[n3]? = some (.cells #[dv] 24 (0, 0))
  b4 : w.heap[n4]? = some (.cells #[.slice none 0 0] 24 (0, 0))
  old : R < w0.heap.size ∧ w0.heap.size ≤ n3 ∧ n3 < n4
theorem FS.aft {R e : Nat} {lv : Value} {L : List Tok} {dv : Value} {n3 n4 : Nat} {w0 : World} {x y : Except (Nat × Nat) (List Tok)} {w w' : World} (h : FS R e lv L dv n3 n4 w0 x w) (h1 : RX R e lv L y w') (h2 : Rd R w w') : FS R e lv L dv n3 n4 w0 y w' := by
  have := h.old
  exact ⟨h1, h.fr.trans h2, (h2.block n3 (Array.getElem?_eq_some_iff.1 h.b3).1 (by omega)).trans h.b3, (h2.block n4 (Array.getElem?_eq_some_iff.1 h.b4).1 (by omega)).trans h.b4, h.old⟩
theorem FS.low {R e : Nat} {lv : Value} {L : List Tok} {dv : Value} {n3 n4 : Nat} {w0 : World} {x : Except (Nat × Nat) (List Tok)} {w w' : World} (h : FS R e lv L dv n3 n4 w0 x w) {B : Nat} (hb : Below B w w') (hB : n4 < B) : FS R e lv L dv n3 n4 w0 x w' := by
  have := h.old
  exact ⟨h.rx.low hb (by omega), h.fr.low hb (by omega), (hb.block n3 (by omega)).trans h.b3, (hb.block n4 hB).trans h.b4, h.old⟩
theorem FS.lt {R e : Nat} {lv : Value} {L : List Tok} {dv : Value} {n3 n4 : Nat} {w0 : World} {x : Except (Nat × Nat) (List Tok)} {w : World} (h : FS R e lv L dv n3 n4 w0 x w) : n4 < w.heap.size := (Array.getElem?_eq_some_iff.1 h.b4).1
theorem FS.next {R e : Nat} {lv : Value} {L : List Tok} {dv : Value} {n3 n4 : Nat} {w0 : World} {x : Except (Nat × Nat) (List Tok)} {w w' : World} (h : FS R e lv L dv n3 n4 w0 x w) (hb : Below w.heap.size w w') : FS R e lv L dv n3 n4 w0 x w' := h.low hb h.lt
/-- A token's box, behind the result's. -/
def TokB (n4 n : Nat) (t : Tok) (w : World) : Prop := n4 < n ∧ w.heap[n]? = some (.cells #[.int .i64 (t.kind : Nat), .string (str t.text), .int .i64 (t.n : Nat), .int .i64 (t.at_ : Nat)] 60 (0, 0))
theorem TokB.aft {R n4 n : Nat} {t : Tok} {w w' : World} (h : TokB n4 n t w) (h2 : Rd R w w') (hR : R < n4) : TokB n4 n t w' :=
  ⟨h.1, (h2.block n (Array.getElem?_eq_some_iff.1 h.2).1 (by have := h.1; omega)).trans h.2⟩
theorem TokB.next {n4 n : Nat} {t : Tok} {w w' : World} (h : TokB n4 n t w) (hb : Below w.heap.size w w') : TokB n4 n t w' := ⟨h.1, (hb.block n (Array.getElem?_eq_some_iff.1 h.2).1).trans h.2⟩
theorem TokB.new {n4 : Nat} (t : Tok) {w : World} (h : n4 < w.heap.size) : TokB n4 w.heap.size t (w.alloc (.cells #[.int .i64 (t.kind : Nat), .string (str t.text), .int .i64 (t.n : Nat), .int .i64 (t.at_ : Nat)] 60)) := ⟨h, heap_alloc_new _ _⟩
theorem TokB.text {n4 n : Nat} {t : Tok} {w : World} (h : TokB n4 n t w) : w.cell? ⟨n, 1, none⟩ = some (.string (str t.text)) := Joins.cell_of_block h.2 1
theorem TokB.num {n4 n : Nat} {t : Tok} {w : World} (h : TokB n4 n t w) : w.cell? ⟨n, 2, none⟩ = some (.int .i64 (t.n : Nat)) := Joins.cell_of_block h.2 2
theorem TokB.at' {n4 n : Nat} {t : Tok} {w : World} (h : TokB n4 n t w) : w.cell? ⟨n, 3, none⟩ = some (.int .i64 (t.at_ : Nat)) := Joins.cell_of_block h.2 3
/-- A fact's box. -/
def FB (n4 n : Nat) (f : Fact) (w : World) : Prop := n4 < n ∧ w.heap[n]? = some (.cells #[.string (str f.name), .int .i64 f.kind, .int .i64 f.lo, .int .i64 f.hi] 64 (0, 0))
theorem FB.aft {R n4 n : Nat} {f : Fact} {w w' : World} (h : FB n4 n f w) (h2 : Rd R w w') (hR : R < n4) : FB n4 n f w' :=
  ⟨h.1, (h2.block n (Array.getElem?_eq_some_iff.1 h.2).1 (by have := h.1; omega)).trans h.2⟩
theorem FB.next {n4 n : Nat} {f : Fact} {w w' : World} (h : FB n4 n f w) (hb : Below w.heap.size w w') : FB n4 n f w' := ⟨h.1, (hb.block n (Array.getElem?_eq_some_iff.1 h.2).1).trans h.2⟩
theorem FB.kind {n4 n : Nat} {f : Fact} {w : World} (h : FB n4 n f w) (k : Int) : FB n4 n ⟨f.name, k, f.lo, f.hi⟩ (w.setCell ⟨n, 1, none⟩ (.int .i64 k)) := ⟨h.1, by rw [Joins.block_setCell h.2]; rfl⟩
theorem FB.lo {n4 n : Nat} {f : Fact} {w : World} (h : FB n4 n f w) (k : Int) : FB n4 n ⟨f.name, f.kind, k, f.hi⟩ (w.setCell ⟨n, 2, none⟩ (.int .i64 k)) := ⟨h.1, by rw [Joins.block_setCell h.2]; rfl⟩
theorem FB.hi {n4 n : Nat} {f : Fact} {w : World} (h : FB n4 n f w) (k : Int) : FB n4 n ⟨f.name, f.kind, f.lo, k⟩ (w.setCell ⟨n, 3, none⟩ (.int .i64 k)) := ⟨h.1, by rw [Joins.block_setCell h.2]; rfl⟩
theorem TokB.set {n4 n m : Nat} {t : Tok} {w : World} (h : TokB n4 n t w) {i : Nat} {v : Value} (hm : n ≠ m) : TokB n4 n t (w.setCell ⟨m, i, none⟩ v) := ⟨h.1, (Below.heap_setCell _ _ _ _ hm).trans h.2⟩
theorem FS.set {R e : Nat} {lv : Value} {L : List Tok} {dv : Value} {n3 n4 : Nat} {w0 : World} {x : Except (Nat × Nat) (List Tok)} {w : World} (h : FS R e lv L dv n3 n4 w0 x w) {m i : Nat} {v : Value} (hm : n4 < m) : FS R e lv L dv n3 n4 w0 x (w.setCell ⟨m, i, none⟩ v) :=
  h.low (B := m) ((Below.refl m w).setCell (p := ⟨m, i, none⟩) (Nat.le_refl _) _) hm
/-- Below a base nothing has turned but R. -/
structure Fr (R base : Nat) (w w' : World) : Prop where
  os : w'.os = w.os
  tape : w'.tape = w.tape
  output : w'.output = w.output
  size : w.heap.size ≤ w'.heap.size
  block : ∀ k, k < base → k ≠ R → w'.heap[k]? = w.heap[k]?
/-- How reading a fact ends. -/
def FactOut (R e : Nat) (lv : Value) (L : List Tok) (base : Nat) (d : List Fact) (w0 : World) (x : Except (Nat × Nat) (Fact × List Tok)) (en : Ending) (w' : World) : Prop :=
  ∃ g c, en = .returned (.agg #[.slice (some ⟨g, 0, none⟩) (d.length + 1) c]) ∧ Fr R base w0 w' ∧ match x with
  | .ok y => RX R e lv L (.ok y.2) w' ∧ OwnF base (d ++ [y.1]) (.slice (some ⟨g, 0, none⟩) (d.length + 1) c) w'
  | .error z => RX R e lv L (.error z) w'
/-- The end: the fact is appended, the domain stored, and the result. -/
theorem fact_end {R e : Nat} {lv : Value} {L : List Tok} {dv : Value} {n3 n4 : Nat} {w0 : World} {x : Except (Nat × Nat) (List Tok)} {w w2 : World} {base g c : Nat} {d : List Fact} {f : Fact} {o : Obj}
    (h : FS R e lv L dv n3 n4 w0 x w) (hown : OwnF base d dv w0) (hbase : base ≤ w0.heap.size) (hR : R < base)
    (ho : OwnF base (d ++ [f]) (.slice (some ⟨g, 0, none⟩) (d.length + 1) c) w2) (hg : (w.alloc o).grownBy w2 dv.ownBlock) (v : Value) :
    w2.heap[n3]? = some (.cells #[dv] 24 (0, 0)) ∧ w2.heap[n4]? = some (.cells #[.slice none 0 0] 24 (0, 0)) ∧
    RX R e lv L x ((w2.setCell ⟨n3, 0, none⟩ v).setCell ⟨n4, 0, none⟩ v) ∧ Fr R base w0 ((w2.setCell ⟨n3, 0, none⟩ v).setCell ⟨n4, 0, none⟩ v) ∧
    (n3 ≠ g → n4 ≠ g → OwnF base (d ++ [f]) (.slice (some ⟨g, 0, none⟩) (d.length + 1) c) ((w2.setCell ⟨n3, 0, none⟩ v).setCell ⟨n4, 0, none⟩ v)) := by
  have h0 := h.old
  have hlt : ∀ j, dv.ownBlock = some j → base ≤ j ∧ j < w0.heap.size := by
    intro j hj
    rcases hown.1.2 with ⟨h1, h2⟩ | ⟨g2, cap, cur, h1, h2, h3, _⟩
    · rw [h1] at hj; simp [Value.ownBlock] at hj
    · rw [h1] at hj
      have : g2 = j := by simpa [Value.ownBlock] using hj
      subst this
      exact ⟨h2, (Array.getElem?_eq_some_iff.1 h3).1⟩
  have ha := h.next ((Below.refl w.heap.size w).alloc (Nat.le_refl _) o)
  have hb3 := (hg.block n3 (Array.getElem?_eq_some_iff.1 ha.b3).1 (fun e => by have := hlt n3 e.symm; omega)).trans ha.b3
  have hb4 := (hg.block n4 (Array.getElem?_eq_some_iff.1 ha.b4).1 (fun e => by have := hlt n4 e.symm; omega)).trans ha.b4
  have hB : Below base (w.alloc o) w2 := ((Below.refl (w.alloc o).heap.size (w.alloc o)).mono (by have := ha.lt; omega)).grown hg (by have := ha.lt; omega) (fun k e => (hlt k e).1)
  have hF : Below base (w.alloc o) ((w2.setCell ⟨n3, 0, none⟩ v).setCell ⟨n4, 0, none⟩ v) := (hB.setCell (p := ⟨n3, 0, none⟩) (by show base ≤ n3; omega) _).setCell (p := ⟨n4, 0, none⟩) (by show base ≤ n4; omega) _
  refine ⟨hb3, hb4, ha.rx.low hF hR, ⟨hF.os.trans ha.fr.os, hF.tape.trans ha.fr.tape, hF.output.trans ha.fr.output, Nat.le_trans ha.fr.size hF.size, fun k hk hkR => (hF.block k hk).trans (ha.fr.block k (by omega) hkR)⟩, fun h3 h4 => ?_⟩
  obtain ⟨⟨q1, q2⟩, q3⟩ := ho
  refine ⟨⟨q1, ?_⟩, q3⟩
  rcases q2 with ⟨hn, _⟩ | ⟨g2, cap, cur, e2, hb', hgc, rest⟩
  · cases hn
  · have e3 : g = g2 ∧ c = cap := by simpa using e2
    obtain ⟨rfl, rfl⟩ := e3
    exact .inr ⟨g, c, cur, by simp, hb', (Below.heap_setCell _ _ _ _ (by exact h4.symm)).trans ((Below.heap_setCell _ _ _ _ (by exact h3.symm)).trans hgc), rest⟩
/-- The row that append leaves is none of the boxes. -/
theorem row_apart {w2 : World} {base g c m n : Nat} {l : List Fact} {dv : Value} (ho : OwnF base l (.slice (some ⟨g, 0, none⟩) m c) w2) (hb : w2.heap[n]? = some (.cells #[dv] 24 (0, 0)) ∨ w2.heap[n]? = some (.cells #[.slice none 0 0] 24 (0, 0))) : n ≠ g := by
  rintro rfl
  rcases ho.1.2 with ⟨hn, _⟩ | ⟨g2, cap, cur, e2, _, hgc, _⟩
  · cases hn
  · have e3 : n = g2 ∧ m = l.length ∧ c = cap := by simpa using e2
    obtain ⟨rfl, _, rfl⟩ := e3
    rcases hb with hb | hb <;> (rw [hgc] at hb; injection hb with hb; injection hb with _ hb; exact absurd hb (by decide))
theorem tok_ne {n4 n m : Nat} {t : Tok} {f : Fact} {w : World} (h : TokB n4 n t w) (k : FB n4 m f w) : n ≠ m := by
  rintro rfl
  have := k.2
  rw [h.2] at this
  injection this with this
  injection this with _ this
  exact absurd this (by decide)
theorem idx_in {d : List Fact} {name : T} (h : name ∈ d.map (·.name)) : 0 ≤ idx d name := by
  cases hi : index d name with
  | none => exact absurd h (index_none_iff.1 hi)
  | some i => rw [idx_some hi]; omega
theorem idx_out {d : List Fact} {name : T} (h : name ∉ d.map (·.name)) : ¬ 0 ≤ idx d name := by
  rw [idx_none (index_none_iff.2 h)]; omega
end Fc
end Go.Proofs.YtoamkanofhhjfaaGreatDoor
