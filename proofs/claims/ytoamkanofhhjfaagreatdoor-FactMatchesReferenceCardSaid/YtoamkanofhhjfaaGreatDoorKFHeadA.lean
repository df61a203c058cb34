import Derived.Test.YtoamkanofhhjfaaGreatDoorKFNewR
import Derived.Defers
import Derived.Recover
import Derived.Laws.Pointers
import Derived.Test.YtoamkanofhhjfaaGreatDoorKFValues
import Derived.Test.YtoamkanofhhjfaaGreatDoorKFParsed
import Derived.KernelRfl
/-
  The deferred closure of parsed, which recovers a failure.
-/
namespace Go.Proofs.YtoamkanofhhjfaaGreatDoor
open Go.RowKit

theorem tac_yes (v : Value) (w : World) : (Instr.typeAssert (.iface 87 v) 20 87 true).run Tryz.prog w = .ok (.tuple #[v, .bool true]) w := by
  unfold Instr.typeAssert
  simp [go_sem]
theorem tac_nil (w : World) : (Instr.typeAssert .nilIface 20 87 true).run Tryz.prog w = .ok (.tuple #[.agg #[.int .i64 0, .int .i64 0], .bool false]) w := by kernel_rfl

set_option maxHeartbeats 400000 in
set_option maxRecDepth 100000 in
theorem catchc_panicking (p q : Nat) (hpq : p ≠ q) (E A : Int) (older : List PanicEntry) (w : World) (h0 : w.heap[p]? = some (.cells #[.int .i64 0] 29 (0, 0))) (h1 : w.heap[q]? = some (.cells #[.int .i64 0] 3 (0, 0))) :
    CallsD Tryz.prog 65 #[.pointer (some ⟨p, 0, none⟩), .pointer (some ⟨q, 0, none⟩)] (.panicking ({ v := .iface 87 (.agg #[.int .i64 E, .int .i64 A]), recovered := false } :: older)) w fun e u' w' =>
      e = .returned (.tuple #[]) ∧ u' = .panicking ({ v := .iface 87 (.agg #[.int .i64 E, .int .i64 A]), recovered := true } :: older) ∧
      w'.heap[p]? = some (.cells #[.int .i64 E] 29 (0, 0)) ∧ w'.heap[q]? = some (.cells #[.int .i64 A] 3 (0, 0)) ∧ ∀ B, B ≤ p → B ≤ q → B ≤ w.heap.size → Below B w w' := by
  have HT := Lib.hid (And.intro h0 h1)
  obtain ⟨Rp, hRp⟩ : ∃ Rp : Ending → FrameMode → World → Prop, Rp = fun e u' w' => e = .returned (.tuple #[]) ∧ u' = .panicking ({ v := .iface 87 (.agg #[.int .i64 E, .int .i64 A]), recovered := true } :: older) ∧
      w'.heap[p]? = some (.cells #[.int .i64 E] 29 (0, 0)) ∧ w'.heap[q]? = some (.cells #[.int .i64 A] 3 (0, 0)) ∧ ∀ B, B ≤ p → B ≤ q → B ≤ w.heap.size → Below B w w' := ⟨_, rfl⟩
  rw [← hRp]
  have HRp := Lib.hid hRp
  clear h0 h1 hRp
  refine callsD_of_wpS Tryz.func65 rfl fun c₀ cs hu => ?_
  simp only [Tryz.ntmps65, List.size_toArray, List.length_cons, List.length_nil, Nat.reduceAdd, Nat.reduceSub, Array.replicate_succ, Array.replicate_zero, List.push_toArray, List.append_toArray, List.nil_append, List.cons_append]
  apply wpS_seq
  apply wpS_region
  show wpOpsS _ _ _ [0, 1, 2, 3, 4, 5, 6, 7] _ _ _
  simp [wpOpsS, go_sem, recoverD, hu, tac_yes]
  refine wpS_seq ?_
  apply wpS_region
  show wpOpsS _ _ _ [0] _ _ _
  simp [wpOpsS, go_sem]
  refine wpS_cond (t := true) (by simp [Act.eval]) ?_
  simp only [if_true]
  refine wpS_of_wp ?_
  obtain ⟨h0, h1⟩ := HT.out
  have hlp := (Array.getElem?_eq_some_iff.1 h0).1
  have hlq := (Array.getElem?_eq_some_iff.1 h1).1
  obtain ⟨W, hW⟩ : ∃ W, W = w.alloc (.cells #[.int .i64 E, .int .i64 A] 87) := ⟨_, rfl⟩
  have hbW : Below w.heap.size w W := by rw [hW]; exact (Below.refl _ _).alloc (Nat.le_refl _) _
  have hk : W.heap[w.heap.size]? = some (.cells #[.int .i64 E, .int .i64 A] 87 (0, 0)) := by rw [hW]; exact heap_alloc_new _ _
  rw [← hW]
  have e0 : W.heap[p]? = some (.cells #[.int .i64 0] 29 (0, 0)) := (hbW.block p hlp).trans h0
  have e1 : W.heap[q]? = some (.cells #[.int .i64 0] 3 (0, 0)) := (hbW.block q hlq).trans h1
  have c0 := Joins.cell_of_block e0 0
  have u0 := Joins.unfrozen_of_block e0 0
  have c1 := Joins.cell_of_block e1 0
  have u1 := Joins.unfrozen_of_block e1 0
  have s0 := Joins.cell_of_block hk 0
  have s1 := Joins.cell_of_block hk 1
  have hqp : ¬ q = p := fun e => hpq e.symm
  have hpq' : ¬ p = q := hpq
  have hnp : ¬ p = w.heap.size := by omega
  have hnq : ¬ q = w.heap.size := by omega
  have hnp' : ¬ w.heap.size = p := by omega
  have hnq' : ¬ w.heap.size = q := by omega
  have f0 : (W.setCell ⟨p, 0, none⟩ (.int .i64 E)).heap[p]? = some (.cells #[.int .i64 E] 29 (0, 0)) := by rw [Joins.block_setCell e0]; rfl
  have f1 : (W.setCell ⟨p, 0, none⟩ (.int .i64 E)).heap[q]? = some (.cells #[.int .i64 0] 3 (0, 0)) := (Below.heap_setCell _ _ _ _ (by exact hpq.symm)).trans e1
  have g0 : ((W.setCell ⟨p, 0, none⟩ (.int .i64 E)).setCell ⟨q, 0, none⟩ (.int .i64 A)).heap[p]? = some (.cells #[.int .i64 E] 29 (0, 0)) := (Below.heap_setCell _ _ _ _ (by exact hpq)).trans f0
  have g1 : ((W.setCell ⟨p, 0, none⟩ (.int .i64 E)).setCell ⟨q, 0, none⟩ (.int .i64 A)).heap[q]? = some (.cells #[.int .i64 A] 3 (0, 0)) := by rw [Joins.block_setCell f1]; rfl
  have HG := Lib.hid (And.intro g0 (And.intro g1 hbW))
  clear e0 e1 f0 f1 g0 g1 hk hW h0 h1 hbW
  go_region
  all_goals
    refine ⟨rfl, _, rfl, .tuple #[], results_none rfl _ _ _, ?_⟩
    rw [HRp.out]
    obtain ⟨g0, g1, hb⟩ := HG.out
    exact ⟨rfl, rfl, g0, g1, fun B h1 h2 h3 => (((hb.mono h3).setCell (p := ⟨p, 0, none⟩) h1 _).setCell (p := ⟨q, 0, none⟩) h2 _).drew⟩

set_option maxHeartbeats 4000000 in
set_option maxRecDepth 100000 in
theorem catchc_idle (p q : Nat) (w : World) :
    CallsD Tryz.prog 65 #[.pointer (some ⟨p, 0, none⟩), .pointer (some ⟨q, 0, none⟩)] .returning w fun e u' w' => e = .returned (.tuple #[]) ∧ u' = .returning ∧ Below w.heap.size w w' := by
  have HB := Lib.hid ((Below.refl w.heap.size w).alloc (Nat.le_refl _) (.cells #[.int .i64 0, .int .i64 0] 87))
  refine callsD_of_wpS Tryz.func65 rfl fun c₀ cs hu => ?_
  simp only [Tryz.ntmps65, List.size_toArray, List.length_cons, List.length_nil, Nat.reduceAdd, Nat.reduceSub, Array.replicate_succ, Array.replicate_zero, List.push_toArray, List.append_toArray, List.nil_append, List.cons_append]
  apply wpS_seq
  apply wpS_region
  show wpOpsS _ _ _ [0, 1, 2, 3, 4, 5, 6, 7] _ _ _
  simp [wpOpsS, go_sem, recoverD, hu, tac_nil]
  refine wpS_seq ?_
  apply wpS_region
  show wpOpsS _ _ _ [0] _ _ _
  simp [wpOpsS, go_sem]
  refine wpS_cond (t := false) (by simp [Act.eval]) ?_
  simp only [Bool.false_eq_true, if_false]
  refine wpS_of_wp (wp_skip ?_)
  refine ⟨rfl, .returning, ?_, .tuple #[], results_none rfl _ _ _, rfl, rfl, HB.out⟩
  cases c₀
  simp_all
end Go.Proofs.YtoamkanofhhjfaaGreatDoor
/-
  The walk of ParseCase's closure.
-/
namespace Go.Proofs.YtoamkanofhhjfaaGreatDoor
open Go.RowKit

namespace Fc
open Lx
/-- What ParseCase answers for a valid domain: the values, or an error and an offset. -/
def caseT (d : List Fact) (s : T) : Except (Nat × Int) (List Int) :=
  if (full s).2.1 = 0 then wide (parseCase s.length d (full s).1) else .error ((full s).2.1, (full s).2.2)
/-- How the closure ends. -/
def ReadC (x : Except (Nat × Int) (List Int)) (w : World) (en : Ending) (w' : World) : Prop :=
  Below w.heap.size w w' ∧ match x with
  | .ok c => ∃ g, en = .returned (.slice (some ⟨g, 0, none⟩) c.length c.length) ∧ OwnN g c.length c w' ∧ w.heap.size ≤ g
  | .error z => en = .panicked [{ v := .iface 87 (.agg #[.int .i64 (z.1 : Nat), .int .i64 z.2]), recovered := false }]
/-- How ParseCase ends. -/
def ParsedC (x : Except (Nat × Int) (List Int)) (w : World) (en : Ending) (w' : World) : Prop :=
  Below w.heap.size w w' ∧ match x with
  | .ok c => ∃ g, en = .returned (.tuple #[.slice (some ⟨g, 0, none⟩) c.length c.length, .int .i64 0, .int .i64 0]) ∧ OwnN g c.length c w' ∧ w.heap.size ≤ g
  | .error z => en = .returned (.tuple #[.slice none 0 0, .int .i64 (z.1 : Nat), .int .i64 z.2])
theorem full_len (s : T) : (full s).1.length ≤ 5000 := by
  unfold full
  by_cases h : 20000 < s.length
  · rw [if_pos h]; simp
  · rw [if_neg h]
    dsimp only
    by_cases h2 : 5000 < (lex s 0).1.length
    · rw [if_pos h2]; simp
    · rw [if_neg h2]
      cases hx : (lex s 0).2 with
      | none => show (lex s 0).1.length ≤ 5000; omega
      | some z => simp
end Fc

set_option maxHeartbeats 8000000 in
set_option maxRecDepth 100000 in
theorem case1_walk (s : ByteArray) (hm : s.size ≤ 9223372036854775807) (B D : Nat) (dv : Value) (d : List Fc.Fact) (w : World) (hB : w.heap[B]? = some (.cells #[.string s] 9 (0, 0))) (hD : w.heap[D]? = some (.cells #[dv] 24 (0, 0)))
    (hF : Fc.IsF w dv d) (hvd : Fc.Valid d) :
    Calls Tryz.prog 34 #[.pointer (some ⟨B, 0, none⟩), .pointer (some ⟨D, 0, none⟩)] w (Fc.ReadC (Fc.caseT d (Lx.tx s)) w) := by
  obtain ⟨a, c, rfl, _, _⟩ := hF.form
  have HN0 : Hid (∀ w', Calls Tryz.prog 29 #[.string s] w' (Fc.NewOut (Lx.full (Lx.tx s)) s.size w')) := fun w' => newreader_walk s hm w'
  have HGD := Lib.hid (And.intro (Fc.full_good (Lx.tx s)) (Fc.full_len (Lx.tx s)))
  obtain ⟨x, hx⟩ : ∃ x, x = Fc.caseT d (Lx.tx s) := ⟨_, rfl⟩
  rw [← hx]
  unfold Fc.caseT at hx
  rw [Lx.tx_len] at hx
  revert HN0 hx HGD
  generalize Lx.full (Lx.tx s) = r
  intro HN0 HGD hx
  obtain ⟨l, E, A⟩ := r
  have HX := Lib.hid hx
  have hlB := (Array.getElem?_eq_some_iff.1 hB).1
  have hlD := (Array.getElem?_eq_some_iff.1 hD).1
  have c0 : w.drew.cell? ⟨B, 0, none⟩ = some (.string s) := Joins.cell_of_block hB 0
  have d0 : w.drew.cell? ⟨D, 0, none⟩ = some (.slice a d.length c) := Joins.cell_of_block hD 0
  obtain ⟨n, hn⟩ : ∃ n, n = d.length := ⟨_, rfl⟩
  rw [← hn] at d0 hF
  have HF := Lib.hid (And.intro hF (And.intro hvd (And.intro hlD d0)))
  obtain ⟨P, hP⟩ : ∃ P, P = Fc.ReadC x w := ⟨_, rfl⟩
  have HP := Lib.hid hP
  rw [← hP]
  have hdb : Below w.heap.size w w.drew := (Below.refl _ _).drew
  have HDB := Lib.hid hdb
  clear hx hB hD hP hn hF hvd hdb
  by_cases hE : E = 0
  · have HN : Hid (∀ w', Calls Tryz.prog 29 #[.string s] w' fun en w'' => ∃ R, en = .returned (.pointer (some ⟨R, 0, none⟩)) ∧ w'.heap.size ≤ R ∧ Fc.IsR R w'' s.size l ∧ Below w'.heap.size w' w'') := fun w' => (HN0.out w').mono fun en w'' h => by
      obtain ⟨hb, ⟨_, R, h1, h2, h3⟩ | ⟨h1, _⟩⟩ := h
      · exact ⟨R, h1, h2, h3, hb⟩
      · exact absurd hE h1
    obtain ⟨y, hy⟩ : ∃ y, y = Fc.parseCase s.size d l := ⟨_, rfl⟩
    have hxy : x = Fc.wide y := by
      rw [HX.out]
      show (if E = 0 then _ else _) = _
      rw [if_pos hE, ← hy]
    have HVL : Hid (∀ R w', Fc.IsR R w' s.size l → w.heap.size ≤ R → Below w.heap.size w w' → Calls Tryz.prog 35 #[.pointer (some ⟨R, 0, none⟩), .agg #[.slice a n c]] w' (Fc.CaseOut R w' y)) := fun R w' hr hR hb' => by
      rw [hy]
      exact values_walk R s.size (.slice a n c) d l w' hr (fun w'' hb'' => HF.out.1.below (hb'.trans (hb''.mono hR))) HF.out.2.1 HGD.out.1 HGD.out.2
    have HXY := Lib.hid hxy
    clear hy hxy HX HN0 hE
    cases y with
    | error z =>
      go_enter Tryz.func34, Tryz.ntmps34
      go_wp2_with fail
      go_region_with (first | (go_at_call 29; (with_reducible refine (HN.out _).mono ?_); rintro en w5 ⟨R, rfl, hR, hr, hb5⟩; have d5 : w5.cell? ⟨D, 0, none⟩ = some (.slice a n c) := (hb5.cell (p := ⟨D, 0, none⟩) HF.out.2.2.1).trans HF.out.2.2.2; have H5 := Lib.hid (And.intro hR (And.intro hr.lt (HDB.out.trans (hb5.mono (Nat.le_refl _))))); have HV5 := Lib.hid (HVL.out R w5 hr hR (HDB.out.trans (hb5.mono (Nat.le_refl _)))); clear hR hr hb5) | (go_at_call 35; (with_reducible refine HV5.out.mono ?_); rintro en w6 ⟨hrd, hf⟩; obtain rfl : en = _ := hf; refine Fc.shut (D := wpAny Tryz.prog .any #[] (fun _ _ _ => True) 0 #[] { tmps := #[], defers := [] } w) ⟨rfl, by rw [HP.out, HXY.out]; exact ⟨H5.out.2.2.trans (hrd.below H5.out.1 H5.out.2.1), rfl⟩⟩ ?_))
      all_goals exact trivial
    | ok cs =>
      go_enter Tryz.func34, Tryz.ntmps34
      go_wp2_with fail
      go_region_with (first | (go_at_call 29; (with_reducible refine (HN.out _).mono ?_); rintro en w5 ⟨R, rfl, hR, hr, hb5⟩; have d5 : w5.cell? ⟨D, 0, none⟩ = some (.slice a n c) := (hb5.cell (p := ⟨D, 0, none⟩) HF.out.2.2.1).trans HF.out.2.2.2; have H5 := Lib.hid (And.intro hR (And.intro hr.lt (HDB.out.trans (hb5.mono (Nat.le_refl _))))); have HV5 := Lib.hid (HVL.out R w5 hr hR (HDB.out.trans (hb5.mono (Nat.le_refl _)))); clear hR hr hb5) | (go_at_call 35; (with_reducible refine HV5.out.mono ?_); rintro en w6 ⟨hrd, gg, rfl, hog, hgg⟩; have H6 := Lib.hid (And.intro hrd (And.intro hog hgg)); clear hrd hog hgg))
      all_goals
        go_wp2_with fail
        refine bodyPost_ret (v := .slice (some ⟨gg, 0, none⟩) cs.length cs.length) ?_ rfl ?_
        · simp [results, Tryz.f34, Act.put, go_sem]
        rw [HP.out, HXY.out]
        exact ⟨H5.out.2.2.trans (H6.out.1.below H5.out.1 H5.out.2.1), gg, rfl, H6.out.2.1, Nat.le_trans H5.out.2.2.size H6.out.2.2⟩
  · have HN : Hid (∀ w', Calls Tryz.prog 29 #[.string s] w' fun en w'' => en = .panicked [{ v := .iface 87 (.agg #[.int .i64 (E : Nat), .int .i64 A]), recovered := false }] ∧ Below w'.heap.size w' w'') := fun w' => (HN0.out w').mono fun en w'' h => by
      obtain ⟨hb, ⟨h1, _⟩ | ⟨_, h2⟩⟩ := h
      · exact absurd h1 hE
      · exact ⟨h2, hb⟩
    have hpe : x = .error (E, A) := by
      rw [HX.out]
      show (if E = 0 then _ else _) = _
      rw [if_neg hE]
    have HPE := Lib.hid hpe
    clear hpe hE HX HN0
    go_enter Tryz.func34, Tryz.ntmps34
    go_wp2_with fail
    go_region_with (first | (go_at_call 29; (with_reducible refine (HN.out _).mono ?_); rintro en w6 ⟨rfl, hb6⟩; refine Fc.shut (D := wpAny Tryz.prog .any #[] (fun _ _ _ => True) 0 #[] { tmps := #[], defers := [] } w) ⟨rfl, by rw [HP.out, HPE.out]; exact ⟨HDB.out.trans (hb6.mono (Nat.le_refl _)), rfl⟩⟩ ?_))
    all_goals exact trivial
end Go.Proofs.YtoamkanofhhjfaaGreatDoor
/-
  The walks of parsed for cases, and of ParseCase.
-/
namespace Go.Proofs.YtoamkanofhhjfaaGreatDoor
open Go.RowKit

set_option maxHeartbeats 4000000 in
set_option maxRecDepth 100000 in
theorem parsedc_walk (x : Except (Nat × Int) (List Int)) (B D : Nat) (w : World) (hc : ∀ w', Below w.heap.size w w' → Calls Tryz.prog 34 #[.pointer (some ⟨B, 0, none⟩), .pointer (some ⟨D, 0, none⟩)] w' (Fc.ReadC x w')) :
    Calls Tryz.prog 33 #[.func (.func 34) #[] #[.pointer (some ⟨B, 0, none⟩), .pointer (some ⟨D, 0, none⟩)]] w (Fc.ParsedC x w) := by
  have hmf : ∀ (fn : Fn) (first cap : Array Value) (w : World), (Instr.makeFunc fn first cap).run Tryz.prog w = .ok (.func fn first cap) w := fun _ _ _ _ => rfl
  obtain ⟨W, hW⟩ : ∃ W, W = (w.alloc (.cells #[.int .i64 0] 29)).alloc (.cells #[.int .i64 0] 3) := ⟨_, rfl⟩
  have hb1 : Below w.heap.size w (w.alloc (.cells #[.int .i64 0] 29)) := (Below.refl _ _).alloc (Nat.le_refl _) _
  have hbw : Below w.heap.size w W := by rw [hW]; exact hb1.alloc (by simp) _
  have hs3 : W.heap.size = w.heap.size + 2 := by rw [hW]; simp
  have k1 : W.heap[w.heap.size]? = some (.cells #[.int .i64 0] 29 (0, 0)) := by rw [hW, Below.heap_alloc _ _ _ (by simp)]; exact heap_alloc_new _ _
  have k2 : W.heap[w.heap.size + 1]? = some (.cells #[.int .i64 0] 3 (0, 0)) := by
    rw [hW]
    have := heap_alloc_new (w.alloc (.cells #[.int .i64 0] 29)) (.cells #[.int .i64 0] 3)
    simpa using this
  have HC := Lib.hid (hc _ hbw)
  have HK := Lib.hid (And.intro k1 (And.intro k2 (And.intro hbw hs3)))
  obtain ⟨P, hP⟩ : ∃ P : Ending → World → Prop, P = Fc.ParsedC x w := ⟨_, rfl⟩
  have HP := Lib.hid hP
  rw [← hP]
  clear hc k1 k2 hbw hs3 hb1 hP
  go_enter_defers Tryz.func33, Tryz.ntmps33
  go_wp2_with fail
  rw [← hW]
  clear hW
  refine HC.out.mono ?_
  rintro en w2 ⟨hb, hres⟩
  obtain ⟨k1, k2, hbw, hsz⟩ := HK.out
  have e1 := (hb.block _ (Array.getElem?_eq_some_iff.1 k1).1).trans k1
  have e2 := (hb.block _ (Array.getElem?_eq_some_iff.1 k2).1).trans k2
  have hbw2 := hbw.trans (hb.mono hbw.size)
  clear k1 k2 hbw HC HK
  cases x with
  | error z =>
    obtain rfl : en = _ := hres
    refine leaves_cons (f := 65) (args := #[.pointer (some ⟨w.heap.size, 0, none⟩), .pointer (some ⟨w.heap.size + 1, 0, none⟩)]) (by simp) (by simp [go_sem]) ?_
    refine (catchc_panicking w.heap.size (w.heap.size + 1) (by omega) (z.1 : Nat) z.2 [] w2 e1 e2).mono ?_
    rintro e u' w3 ⟨rfl, rfl, g0, g1, hb3⟩
    have hb4 := hb3 w.heap.size (Nat.le_refl _) (by omega) hbw2.size
    have c1 := Joins.cell_of_block g0 0
    have c2 := Joins.cell_of_block g1 0
    have HF := Lib.hid (hbw2.trans hb4)
    clear g0 g1 hb3 hb4 e1 e2 hbw2
    simp [Leaves, settle, results, Tryz.results33, go_sem, c1, c2]
    rw [HP.out]
    exact ⟨HF.out, rfl⟩
  | ok cs =>
    obtain ⟨g, rfl, hown, hgs⟩ := hres
    have c1 := Joins.cell_of_block e1 0
    have c2 := Joins.cell_of_block e2 0
    have u1 := Joins.unfrozen_of_block e1 0
    have u2 := Joins.unfrozen_of_block e2 0
    have HF := Lib.hid (And.intro hown (And.intro hgs (And.intro e1 (And.intro e2 hbw2))))
    clear hown hgs e1 e2 hbw2
    go_wp2_with fail
    obtain ⟨hown, hgs, e1, e2, hbw2⟩ := HF.out
    have n01 : w.heap.size ≠ w.heap.size + 1 := by omega
    have g0 : ((w2.setCell ⟨w.heap.size, 0, none⟩ (.int .i64 0)).setCell ⟨w.heap.size + 1, 0, none⟩ (.int .i64 0)).heap[w.heap.size]? = some (.cells #[.int .i64 0] 29 (0, 0)) := by rw [Below.heap_setCell _ _ _ _ n01, Joins.block_setCell e1]; rfl
    have g1 : ((w2.setCell ⟨w.heap.size, 0, none⟩ (.int .i64 0)).setCell ⟨w.heap.size + 1, 0, none⟩ (.int .i64 0)).heap[w.heap.size + 1]? = some (.cells #[.int .i64 0] 3 (0, 0)) := by
      rw [Joins.block_setCell ((Below.heap_setCell w2 ⟨w.heap.size, 0, none⟩ _ _ n01.symm).trans e2)]; rfl
    have hb5 : Below w.heap.size w2 ((w2.setCell ⟨w.heap.size, 0, none⟩ (.int .i64 0)).setCell ⟨w.heap.size + 1, 0, none⟩ (.int .i64 0)) := ((Below.refl _ _).setCell (p := ⟨w.heap.size, 0, none⟩) (Nat.le_refl _) _).setCell (p := ⟨w.heap.size + 1, 0, none⟩) (by show w.heap.size ≤ w.heap.size + 1; omega) _
    have hog : Fc.OwnN g cs.length cs ((w2.setCell ⟨w.heap.size, 0, none⟩ (.int .i64 0)).setCell ⟨w.heap.size + 1, 0, none⟩ (.int .i64 0)) := hown.block ((Below.heap_setCell _ _ _ _ (by show g ≠ w.heap.size + 1; omega)).trans (Below.heap_setCell _ _ _ _ (by show g ≠ w.heap.size; omega)))
    obtain ⟨WS, hWS⟩ : ∃ WS, WS = (w2.setCell ⟨w.heap.size, 0, none⟩ (.int .i64 0)).setCell ⟨w.heap.size + 1, 0, none⟩ (.int .i64 0) := ⟨_, rfl⟩
    rw [← hWS] at g0 g1 hb5 hog ⊢
    have HG := Lib.hid (And.intro g0 (And.intro g1 (And.intro (hbw2.trans hb5) (And.intro hog hgs))))
    clear hWS g0 g1 hb5 hog hown hgs c1 c2 u1 u2 e1 e2 hbw2
    refine leaves_cons (f := 65) (args := #[.pointer (some ⟨w.heap.size, 0, none⟩), .pointer (some ⟨w.heap.size + 1, 0, none⟩)]) (by simp) (by simp [go_sem]) ?_
    refine (catchc_idle w.heap.size (w.heap.size + 1) WS).mono ?_
    rintro e u' w3 ⟨rfl, rfl, hb3⟩
    obtain ⟨g0, g1, hb5, hog, hgs⟩ := HG.out
    have c1 := Joins.cell_of_block ((hb3.block _ (Array.getElem?_eq_some_iff.1 g0).1).trans g0) 0
    have c2 := Joins.cell_of_block ((hb3.block _ (Array.getElem?_eq_some_iff.1 g1).1).trans g1) 0
    have HR := Lib.hid (And.intro (hb5.trans (hb3.mono hb5.size)) (And.intro (hog.block (hb3.block _ hog.lt)) (show w.heap.size ≤ g by omega)))
    clear g0 g1 hb5 hog hb3 HG hgs
    simp [Leaves, settle, results, Tryz.results33, go_sem, c1, c2]
    rw [HP.out]
    exact ⟨HR.out.1, g, rfl, HR.out.2.1, HR.out.2.2⟩

set_option maxHeartbeats 4000000 in
set_option maxRecDepth 100000 in
/-- fact.ParseCase of a domain that is not valid. -/
theorem parsecase_no (dv : Value) (d : List Fc.Fact) (s : ByteArray) (w : World) (hF : Fc.IsF w dv d) (hvd : ¬ Fc.Valid d) :
    Calls Tryz.prog 8 #[.agg #[dv], .string s] w fun en w' => en = .returned (.tuple #[.slice none 0 0, .int .i64 1, .int .i64 0]) ∧ Below w.heap.size w w' := by
  obtain ⟨a, c, rfl, _, _⟩ := hF.form
  obtain ⟨n, hn⟩ : ∃ n, n = d.length := ⟨_, rfl⟩
  rw [← hn] at hF ⊢
  have hb2 : Below w.heap.size w ((w.alloc (.cells #[.slice a n c] 24)).alloc (.cells #[.string s] 9)) := ((Below.refl w.heap.size w).alloc (Nat.le_refl _) _).alloc (by simp) _
  have HV := Lib.hid (valid_walk _ d _ (hF.below hb2))
  have HB := Lib.hid hb2
  clear hF hb2 hn
  go_enter Tryz.func8, Tryz.ntmps8
  go_wp2_with fail
  refine HV.out.mono ?_
  rintro en w3 ⟨⟨b, rfl, hb⟩, hb3⟩
  obtain rfl : b = false := by cases b with | false => rfl | true => exact absurd (hb.1 rfl) hvd
  clear hb HV
  go_wp2_with fail
  go_ret3
  exact ⟨rfl, HB.out.trans (hb3.mono HB.out.size)⟩

set_option maxHeartbeats 4000000 in
set_option maxRecDepth 100000 in
/-- .. and of one that is. -/
theorem parsecase_walk (dv : Value) (d : List Fc.Fact) (s : ByteArray) (hm : s.size ≤ 9223372036854775807) (w : World) (hF : Fc.IsF w dv d) (hvd : Fc.Valid d) :
    Calls Tryz.prog 8 #[.agg #[dv], .string s] w (Fc.ParsedC (Fc.caseT d (Lx.tx s)) w) := by
  have hmf : ∀ (fn : Fn) (first cap : Array Value) (w : World), (Instr.makeFunc fn first cap).run Tryz.prog w = .ok (.func fn first cap) w := fun _ _ _ _ => rfl
  obtain ⟨a, c, rfl, _, _⟩ := hF.form
  obtain ⟨n, hn⟩ : ∃ n, n = d.length := ⟨_, rfl⟩
  rw [← hn] at hF ⊢
  obtain ⟨W1, hW1⟩ : ∃ W1, W1 = w.alloc (.cells #[.slice a n c] 24) := ⟨_, rfl⟩
  have hb1 : Below w.heap.size w W1 := by rw [hW1]; exact (Below.refl _ _).alloc (Nat.le_refl _) _
  have k1 : W1.heap[w.heap.size]? = some (.cells #[.slice a n c] 24 (0, 0)) := by rw [hW1]; exact heap_alloc_new _ _
  have hs1 : W1.heap.size = w.heap.size + 1 := by rw [hW1]; simp
  obtain ⟨W2, hW2⟩ : ∃ W2, W2 = W1.alloc (.cells #[.string s] 9) := ⟨_, rfl⟩
  have hb2 : Below W1.heap.size W1 W2 := by rw [hW2]; exact (Below.refl _ _).alloc (Nat.le_refl _) _
  have k2 : W2.heap[w.heap.size]? = some (.cells #[.slice a n c] 24 (0, 0)) := (hb2.block _ (by omega)).trans k1
  have q2 : W2.heap[w.heap.size + 1]? = some (.cells #[.string s] 9 (0, 0)) := by rw [hW2, ← hs1]; exact heap_alloc_new _ _
  have hbw : Below w.heap.size w W2 := hb1.trans (hb2.mono hb1.size)
  have HV := Lib.hid (valid_walk _ d W2 (hF.below hbw))
  obtain ⟨x, hx⟩ : ∃ x, x = Fc.caseT d (Lx.tx s) := ⟨_, rfl⟩
  have HC : Hid (∀ w3, Below W2.heap.size W2 w3 → Calls Tryz.prog 33 #[.func (.func 34) #[] #[.pointer (some ⟨w.heap.size + 1, 0, none⟩), .pointer (some ⟨w.heap.size, 0, none⟩)]] w3 (Fc.ParsedC x w3)) := fun w3 hb3 =>
    parsedc_walk x (w.heap.size + 1) w.heap.size w3 (fun w' hb' => by
      have hb4 := hb3.trans (hb'.mono hb3.size)
      rw [hx]
      exact case1_walk s hm (w.heap.size + 1) w.heap.size _ d w' ((hb4.block _ (Array.getElem?_eq_some_iff.1 q2).1).trans q2) ((hb4.block _ (Array.getElem?_eq_some_iff.1 k2).1).trans k2) (hF.below (hbw.trans (hb4.mono hbw.size))) hvd)
  have HB := Lib.hid hbw
  rw [← hx]
  have hW : W2 = (w.alloc (.cells #[.slice a n c] 24)).alloc (.cells #[.string s] 9) := by rw [hW2, hW1]
  have c0 := Joins.cell_of_block k2 0
  clear hx hW1 hW2 hb1 hb2 k1 k2 q2 hs1 hbw hF hn
  go_enter Tryz.func8, Tryz.ntmps8
  go_upto_region 1 with fail
  rw [← hW]
  clear hW
  go_wp2_with fail
  refine HV.out.mono ?_
  rintro en w3 ⟨⟨b, rfl, hb⟩, hb3⟩
  obtain rfl : b = true := hb.2 hvd
  have HC3 := Lib.hid (HC.out w3 hb3)
  have HB3 := Lib.hid (HB.out.trans (hb3.mono HB.out.size))
  clear hb HV HC hb3 hvd
  go_wp2_with fail
  refine HC3.out.mono ?_
  rintro en w4 ⟨hb4, hres⟩
  have HB4 := Lib.hid (HB3.out.trans (hb4.mono HB3.out.size))
  have hsz := HB3.out.size
  clear hb4 HC3
  cases x with
  | error z =>
    obtain rfl : en = _ := hres
    go_wp2_with fail
    go_ret3
    exact ⟨HB4.out, rfl⟩
  | ok cs =>
    obtain ⟨g, rfl, hog, hgs⟩ := hres
    have HG := Lib.hid (And.intro hog (show w.heap.size ≤ g by omega))
    clear hog hgs
    go_wp2_with fail
    go_ret3
    exact ⟨HB4.out, g, rfl, HG.out.1, HG.out.2⟩
end Go.Proofs.YtoamkanofhhjfaaGreatDoor
/-
  The law's head in arithmetic: the chapter's examples.
-/
namespace Go.Proofs.YtoamkanofhhjfaaGreatDoor.Fc
open Lx

def h_p1 : T := [97, 103, 101, 32, 110, 117, 109, 98, 101, 114, 32, 48, 32, 116, 111, 32, 49, 53, 48, 59, 32, 109, 101, 109, 98, 101, 114, 32, 102, 108, 97, 103, 59]
def h_c1 : T := [109, 101, 109, 98, 101, 114, 32, 61, 32, 49, 44, 32, 97, 103, 101, 32, 61, 32, 51, 48]
def h_c2 : T := [97, 103, 101, 32, 61, 32, 49, 53, 49, 44, 32, 109, 101, 109, 98, 101, 114, 32, 61, 32, 49]
def h_c3 : T := [97, 103, 101, 32, 61, 32, 51, 48]
def h_p2 : T := [97, 103, 101, 32, 110, 117, 109, 98, 101, 114, 32, 53, 32, 116, 111, 32, 52, 59]
def h_t1 : T := [97, 103, 101, 32, 110, 117, 109, 98, 101, 114, 32, 48, 32, 116, 111, 32, 49, 53, 48, 59, 10, 109, 101, 109, 98, 101, 114, 32, 102, 108, 97, 103, 59, 10]
def h_t2 : T := [97, 103, 101, 32, 61, 32, 51, 48, 44, 32, 109, 101, 109, 98, 101, 114, 32, 61, 32, 49]
/-- The example's domain. -/
def hD : List Fact := [⟨[97, 103, 101], 2, 0, 150⟩, ⟨[109, 101, 109, 98, 101, 114], 1, 0, 1⟩]
theorem hd_p1 : parseT h_p1 = .ok hD := by kernel_rfl
theorem hd_c1 : caseT hD h_c1 = .ok [30, 1] := by kernel_rfl
theorem hd_c2 : caseT hD h_c2 = .error (10, 6) := by kernel_rfl
theorem hd_c3 : caseT hD h_c3 = .error (11, 8) := by kernel_rfl
theorem hd_p2 : parseT h_p2 = .error (10, 16) := by kernel_rfl
theorem hd_n1 : next hD [30, 1] = some [31, 0] := by kernel_rfl
theorem hd_n2 : next hD [150, 1] = none := by kernel_rfl
theorem hd_l : least hD = [0, 0] := by kernel_rfl
theorem hd_t1 : dtext hD = h_t1 := by kernel_rfl
theorem hd_t2 : ctext hD [30, 1] = h_t2 := by kernel_rfl
end Go.Proofs.YtoamkanofhhjfaaGreatDoor.Fc
