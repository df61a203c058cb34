import Derived.Test.YtoamkanofhhjfaaGreatDoorKFNewR
import Derived.Defers
import Derived.Recover
import Derived.Laws.Pointers
import Derived.Test.YtoamkanofhhjfaaGreatDoorKFDomain
/-
  The deferred closure of parsed, which recovers a failure.
-/
namespace Go.Proofs.YtoamkanofhhjfaaGreatDoor
open Go.RowKit

theorem ta_yes (v : Value) (w : World) : (Instr.typeAssert (.iface 87 v) 20 87 true).run Tryz.prog w = .ok (.tuple #[v, .bool true]) w := by
  unfold Instr.typeAssert
  simp [go_sem]
theorem ta_nil (w : World) : (Instr.typeAssert .nilIface 20 87 true).run Tryz.prog w = .ok (.tuple #[.agg #[.int .i64 0, .int .i64 0], .bool false]) w := by kernel_rfl

set_option maxHeartbeats 400000 in
set_option maxRecDepth 100000 in
theorem catch_panicking (p q : Nat) (hpq : p ≠ q) (E A : Int) (older : List PanicEntry) (w : World) (h0 : w.heap[p]? = some (.cells #[.int .i64 0] 29 (0, 0))) (h1 : w.heap[q]? = some (.cells #[.int .i64 0] 3 (0, 0))) :
    CallsD Tryz.prog 52 #[.pointer (some ⟨p, 0, none⟩), .pointer (some ⟨q, 0, none⟩)] (.panicking ({ v := .iface 87 (.agg #[.int .i64 E, .int .i64 A]), recovered := false } :: older)) w fun e u' w' =>
      e = .returned (.tuple #[]) ∧ u' = .panicking ({ v := .iface 87 (.agg #[.int .i64 E, .int .i64 A]), recovered := true } :: older) ∧
      w'.heap[p]? = some (.cells #[.int .i64 E] 29 (0, 0)) ∧ w'.heap[q]? = some (.cells #[.int .i64 A] 3 (0, 0)) ∧ ∀ B, B ≤ p → B ≤ q → B ≤ w.heap.size → Below B w w' := by
  have HT := Lib.hid (And.intro h0 h1)
  obtain ⟨Rp, hRp⟩ : ∃ Rp : Ending → FrameMode → World → Prop, Rp = fun e u' w' => e = .returned (.tuple #[]) ∧ u' = .panicking ({ v := .iface 87 (.agg #[.int .i64 E, .int .i64 A]), recovered := true } :: older) ∧
      w'.heap[p]? = some (.cells #[.int .i64 E] 29 (0, 0)) ∧ w'.heap[q]? = some (.cells #[.int .i64 A] 3 (0, 0)) ∧ ∀ B, B ≤ p → B ≤ q → B ≤ w.heap.size → Below B w w' := ⟨_, rfl⟩
  rw [← hRp]
  have HRp := Lib.hid hRp
  clear h0 h1 hRp
  refine callsD_of_wpS Tryz.func52 rfl fun c₀ cs hu => ?_
  simp only [Tryz.ntmps52, List.size_toArray, List.length_cons, List.length_nil, Nat.reduceAdd, Nat.reduceSub, Array.replicate_succ, Array.replicate_zero, List.push_toArray, List.append_toArray, List.nil_append, List.cons_append]
  apply wpS_seq
  apply wpS_region
  show wpOpsS _ _ _ [0, 1, 2, 3, 4, 5, 6, 7] _ _ _
  simp [wpOpsS, go_sem, recoverD, hu, ta_yes]
  refine wpS_seq ?_
  apply wpS_region
  show wpOpsS _ _ _ [0] _ _ _
  simp [wpOpsS, go_sem]
  refine wpS_cond (t := true) (by simp [Act.eval]) ?_
  simp only [if_true]
  refine wpS_of_wp ?_
  obtain ⟨h0, h1⟩ := HT.out
  have hlp := (Array.getElem?_eq_some_iff.1 h0).1
  have hlq := (Array.getElem?_eq_some_iff.1 h1).1
  obtain ⟨W, hW⟩ : ∃ W, W = w.alloc (.cells #[.int .i64 E, .int .i64 A] 87) := ⟨_, rfl⟩
  have hbW : Below w.heap.size w W := by rw [hW]; exact (Below.refl _ _).alloc (Nat.le_refl _) _
  have hk : W.heap[w.heap.size]? = some (.cells #[.int .i64 E, .int .i64 A] 87 (0, 0)) := by rw [hW]; exact heap_alloc_new _ _
  rw [← hW]
  have e0 : W.heap[p]? = some (.cells #[.int .i64 0] 29 (0, 0)) := (hbW.block p hlp).trans h0
  have e1 : W.heap[q]? = some (.cells #[.int .i64 0] 3 (0, 0)) := (hbW.block q hlq).trans h1
  have c0 := Joins.cell_of_block e0 0
  have u0 := Joins.unfrozen_of_block e0 0
  have c1 := Joins.cell_of_block e1 0
  have u1 := Joins.unfrozen_of_block e1 0
  have s0 := Joins.cell_of_block hk 0
  have s1 := Joins.cell_of_block hk 1
  have hqp : ¬ q = p := fun e => hpq e.symm
  have hpq' : ¬ p = q := hpq
  have hnp : ¬ p = w.heap.size := by omega
  have hnq : ¬ q = w.heap.size := by omega
  have hnp' : ¬ w.heap.size = p := by omega
  have hnq' : ¬ w.heap.size = q := by omega
  have f0 : (W.setCell ⟨p, 0, none⟩ (.int .i64 E)).heap[p]? = some (.cells #[.int .i64 E] 29 (0, 0)) := by rw [Joins.block_setCell e0]; rfl
  have f1 : (W.setCell ⟨p, 0, none⟩ (.int .i64 E)).heap[q]? = some (.cells #[.int .i64 0] 3 (0, 0)) := (Below.heap_setCell _ _ _ _ (by exact hpq.symm)).trans e1
  have g0 : ((W.setCell ⟨p, 0, none⟩ (.int .i64 E)).setCell ⟨q, 0, none⟩ (.int .i64 A)).heap[p]? = some (.cells #[.int .i64 E] 29 (0, 0)) := (Below.heap_setCell _ _ _ _ (by exact hpq)).trans f0
  have g1 : ((W.setCell ⟨p, 0, none⟩ (.int .i64 E)).setCell ⟨q, 0, none⟩ (.int .i64 A)).heap[q]? = some (.cells #[.int .i64 A] 3 (0, 0)) := by rw [Joins.block_setCell f1]; rfl
  have HG := Lib.hid (And.intro g0 (And.intro g1 hbW))
  clear e0 e1 f0 f1 g0 g1 hk hW h0 h1 hbW
  go_region
  all_goals
    refine ⟨rfl, _, rfl, .tuple #[], results_none rfl _ _ _, ?_⟩
    rw [HRp.out]
    obtain ⟨g0, g1, hb⟩ := HG.out
    exact ⟨rfl, rfl, g0, g1, fun B h1 h2 h3 => (((hb.mono h3).setCell (p := ⟨p, 0, none⟩) h1 _).setCell (p := ⟨q, 0, none⟩) h2 _).drew⟩

set_option maxHeartbeats 4000000 in
set_option maxRecDepth 100000 in
theorem catch_idle (p q : Nat) (w : World) :
    CallsD Tryz.prog 52 #[.pointer (some ⟨p, 0, none⟩), .pointer (some ⟨q, 0, none⟩)] .returning w fun e u' w' => e = .returned (.tuple #[]) ∧ u' = .returning ∧ Below w.heap.size w w' := by
  have HB := Lib.hid ((Below.refl w.heap.size w).alloc (Nat.le_refl _) (.cells #[.int .i64 0, .int .i64 0] 87))
  refine callsD_of_wpS Tryz.func52 rfl fun c₀ cs hu => ?_
  simp only [Tryz.ntmps52, List.size_toArray, List.length_cons, List.length_nil, Nat.reduceAdd, Nat.reduceSub, Array.replicate_succ, Array.replicate_zero, List.push_toArray, List.append_toArray, List.nil_append, List.cons_append]
  apply wpS_seq
  apply wpS_region
  show wpOpsS _ _ _ [0, 1, 2, 3, 4, 5, 6, 7] _ _ _
  simp [wpOpsS, go_sem, recoverD, hu, ta_nil]
  refine wpS_seq ?_
  apply wpS_region
  show wpOpsS _ _ _ [0] _ _ _
  simp [wpOpsS, go_sem]
  refine wpS_cond (t := false) (by simp [Act.eval]) ?_
  simp only [Bool.false_eq_true, if_false]
  refine wpS_of_wp (wp_skip ?_)
  refine ⟨rfl, .returning, ?_, .tuple #[], results_none rfl _ _ _, rfl, rfl, HB.out⟩
  cases c₀
  simp_all
end Go.Proofs.YtoamkanofhhjfaaGreatDoor
/-
  The walks of Parse's closure, of parsed and of Parse.
-/
namespace Go.Proofs.YtoamkanofhhjfaaGreatDoor
open Go.RowKit

namespace Fc
open Lx
/-- The same with an offset that is an int. -/
def wide {α : Type} : Except (Nat × Nat) α → Except (Nat × Int) α
  | .ok d => .ok d
  | .error z => .error (z.1, (z.2 : Int))
/-- What Parse answers: the facts, or an error and an offset. -/
def parseT (s : T) : Except (Nat × Int) (List Fact) :=
  if (full s).2.1 = 0 then wide (parse s.length (full s).1) else .error ((full s).2.1, (full s).2.2)
/-- How the closure ends. -/
def ReadD (x : Except (Nat × Int) (List Fact)) (w : World) (en : Ending) (w' : World) : Prop :=
  Below w.heap.size w w' ∧ match x with
  | .ok d => ∃ v, en = .returned (.agg #[v]) ∧ OwnF w.heap.size d v w' ∧ Valid d
  | .error z => en = .panicked [{ v := .iface 87 (.agg #[.int .i64 (z.1 : Nat), .int .i64 z.2]), recovered := false }]
/-- How Parse ends. -/
def ParsedD (x : Except (Nat × Int) (List Fact)) (w : World) (en : Ending) (w' : World) : Prop :=
  Below w.heap.size w w' ∧ match x with
  | .ok d => ∃ v, en = .returned (.tuple #[.agg #[v], .int .i64 0, .int .i64 0]) ∧ OwnF w.heap.size d v w' ∧ Valid d
  | .error z => en = .returned (.tuple #[.agg #[.slice none 0 0], .int .i64 (z.1 : Nat), .int .i64 z.2])
theorem full_good (s : T) : Goods (full s).1 := by
  unfold full
  by_cases h : 20000 < s.length
  · rw [if_pos h]; intro t ht; cases ht
  · rw [if_neg h]
    dsimp only
    by_cases h2 : 5000 < (lex s 0).1.length
    · rw [if_pos h2]; intro t ht; cases ht
    · rw [if_neg h2]
      cases hx : (lex s 0).2 with
      | none => exact (lex_good s.length s (Nat.le_refl _) 0).1
      | some z => intro t ht; cases ht
end Fc

set_option maxHeartbeats 4000000 in
set_option maxRecDepth 100000 in
theorem parse1_walk (s : ByteArray) (hm : s.size ≤ 9223372036854775807) (B : Nat) (w : World) (hB : w.heap[B]? = some (.cells #[.string s] 9 (0, 0))) :
    Calls Tryz.prog 28 #[.pointer (some ⟨B, 0, none⟩)] w (Fc.ReadD (Fc.parseT (Lx.tx s)) w) := by
  obtain ⟨W, hW⟩ : ∃ W, W = w.alloc (.cells #[.slice none 0 0] 24) := ⟨_, rfl⟩
  have hbW : Below w.heap.size w W := by rw [hW]; exact (Below.refl _ _).alloc (Nat.le_refl _) _
  have hk : W.heap[w.heap.size]? = some (.cells #[.slice none 0 0] 24 (0, 0)) := by rw [hW]; exact heap_alloc_new _ _
  have hlB := (Array.getElem?_eq_some_iff.1 hB).1
  have c0 := Joins.cell_of_block ((hbW.block B hlB).trans hB) 0
  have HN := Lib.hid (newreader_walk s hm W)
  have HGD := Lib.hid (Fc.full_good (Lx.tx s))
  obtain ⟨x, hx⟩ : ∃ x, x = Fc.parseT (Lx.tx s) := ⟨_, rfl⟩
  rw [← hx]
  unfold Fc.parseT at hx
  rw [Lx.tx_len] at hx
  revert HN hx HGD
  generalize Lx.full (Lx.tx s) = r
  intro HN HGD hx
  obtain ⟨l, E, A⟩ := r
  have HX := Lib.hid hx
  have HB := Lib.hid (And.intro hbW hk)
  obtain ⟨P, hP⟩ : ∃ P, P = Fc.ReadD x w := ⟨_, rfl⟩
  have HP := Lib.hid hP
  rw [← hP]
  clear hx hB hP hk
  go_enter Tryz.func28, Tryz.ntmps28
  go_upto_region 1 with fail
  rw [← hW]
  clear hW hbW
  go_wp2_with fail
  refine HN.out.mono ?_
  rintro en w2 ⟨hb2, ⟨hE, R, rfl, hR, hr⟩ | ⟨hE, rfl⟩⟩
  · have hD := domain_walk R s.size l HGD.out w2 hr
    obtain ⟨y, hy⟩ : ∃ y, y = Fc.parse s.size l := ⟨_, rfl⟩
    rw [← hy] at hD
    have hxy : x = Fc.wide y := by
      rw [HX.out]
      show (if E = 0 then _ else _) = _
      rw [if_pos hE, ← hy]
    have HXY := Lib.hid hxy
    have HD := Lib.hid hD
    have HR := Lib.hid (And.intro hR (And.intro hr.lt hb2))
    clear hD hr hR hb2 hxy hy HX HN
    go_wp2_with fail
    refine HD.out.mono ?_
    rintro en w3 ⟨hrd, hres⟩
    cases y with
    | error z =>
      obtain rfl : en = _ := hres
      refine ⟨rfl, ?_⟩
      rw [HP.out, HXY.out]
      exact ⟨HB.out.1.trans ((HR.out.2.2.trans (hrd.below HR.out.1 HR.out.2.1 |>.mono (Nat.le_refl _))).mono HB.out.1.size), rfl⟩
    | ok d =>
      obtain ⟨v, rfl, hown, hvd⟩ := hres
      obtain ⟨⟨a, c⟩, rfl⟩ := hown.form
      dsimp only at hown
      have hl2 : w.heap.size < w2.heap.size := Nat.lt_of_lt_of_le (Array.getElem?_eq_some_iff.1 HB.out.2).1 HR.out.2.2.size
      have hst : Fc.OwnF w.heap.size d (.slice a d.length c) (w3.setCell ⟨w.heap.size, 0, none⟩ (.slice a d.length c)) :=
        (hown.set (a := ⟨w.heap.size, 0, none⟩) hl2 _).mono (Nat.le_of_lt hl2)
      obtain ⟨n, hn⟩ : ∃ n, n = d.length := ⟨_, rfl⟩
      rw [← hn] at hst ⊢
      have hb3 : Below W.heap.size W w3 := HR.out.2.2.trans (hrd.below HR.out.1 HR.out.2.1)
      have hk3 := (hb3.block _ (Array.getElem?_eq_some_iff.1 HB.out.2).1).trans HB.out.2
      have f0 := Joins.cell_of_block hk3 0
      have u0 := Joins.unfrozen_of_block hk3 0
      have HF := Lib.hid (And.intro hst (And.intro hb3 hk3))
      have HVD := Lib.hid hvd
      clear hst hb3 hk3 hn hrd HD hown hl2 hvd
      go_wp2_with fail
      obtain ⟨hst, hb3, hk3⟩ := HF.out
      have hbs : Below w.heap.size w3 (w3.setCell ⟨w.heap.size, 0, none⟩ (.slice a n c)) := (Below.refl _ _).setCell (p := ⟨w.heap.size, 0, none⟩) (Nat.le_refl _) _
      refine bodyPost_ret (v := .agg #[.slice a n c]) ?_ rfl ?_
      · simp [results, Tryz.f28, go_sem, f0]
      · rw [HP.out, HXY.out]
        exact ⟨(HB.out.1.trans (hb3.mono HB.out.1.size)).trans hbs, _, rfl, hst, HVD.out⟩
  · refine ⟨rfl, ?_⟩
    rw [HP.out, HX.out]
    show Fc.ReadD (if E = 0 then _ else _) w _ _
    rw [if_neg hE]
    exact ⟨HB.out.1.trans (hb2.mono HB.out.1.size), rfl⟩
end Go.Proofs.YtoamkanofhhjfaaGreatDoor
/-
  The walks of parsed and of Parse.
-/
namespace Go.Proofs.YtoamkanofhhjfaaGreatDoor
open Go.RowKit

/-- The three results, made one after the other. -/
abbrev threeD (w : World) : World := ((w.alloc (.cells #[.slice none 0 0] 24)).alloc (.cells #[.int .i64 0] 29)).alloc (.cells #[.int .i64 0] 3)
theorem threeD_blocks (w : World) : (threeD w).heap[w.heap.size]? = some (.cells #[.slice none 0 0] 24 (0, 0)) ∧ (threeD w).heap[w.heap.size + 1]? = some (.cells #[.int .i64 0] 29 (0, 0)) ∧
    (threeD w).heap[w.heap.size + 1 + 1]? = some (.cells #[.int .i64 0] 3 (0, 0)) ∧ Below w.heap.size w (threeD w) ∧ (threeD w).heap.size = w.heap.size + 3 := by
  refine ⟨?_, ?_, ?_, ?_, by simp⟩
  · rw [Below.heap_alloc _ _ _ (by simp; omega), Below.heap_alloc _ _ _ (by simp)]; exact heap_alloc_new _ _
  · rw [Below.heap_alloc _ _ _ (by simp)]
    have := heap_alloc_new (w.alloc (.cells #[.slice none 0 0] 24)) (.cells #[.int .i64 0] 29)
    simpa using this
  · have := heap_alloc_new ((w.alloc (.cells #[.slice none 0 0] 24)).alloc (.cells #[.int .i64 0] 29)) (.cells #[.int .i64 0] 3)
    simpa using this
  · exact (((Below.refl _ _).alloc (Nat.le_refl _) _).alloc (by simp) _).alloc (by simp; omega) _

/-- Behind the three stores. -/
theorem storedD {w2 : World} {n : Nat} {x y z a : Value} {t0 t1 t2 : TypeId} (e0 : w2.heap[n]? = some (.cells #[x] t0 (0, 0))) (e1 : w2.heap[n + 1]? = some (.cells #[y] t1 (0, 0))) (e2 : w2.heap[n + 1 + 1]? = some (.cells #[z] t2 (0, 0))) :
    let WS := ((w2.setCell ⟨n, 0, none⟩ a).setCell ⟨n + 1, 0, none⟩ (.int .i64 0)).setCell ⟨n + 1 + 1, 0, none⟩ (.int .i64 0)
    WS.heap[n]? = some (.cells #[a] t0 (0, 0)) ∧ WS.heap[n + 1]? = some (.cells #[.int .i64 0] t1 (0, 0)) ∧ WS.heap[n + 1 + 1]? = some (.cells #[.int .i64 0] t2 (0, 0)) ∧ Below n w2 WS := by
  have n01 : n ≠ n + 1 := by omega
  have n02 : n ≠ n + 1 + 1 := by omega
  have n12 : n + 1 ≠ n + 1 + 1 := by omega
  refine ⟨?_, ?_, ?_, ?_⟩
  · rw [Below.heap_setCell _ _ _ _ n02, Below.heap_setCell _ _ _ _ n01, Joins.block_setCell e0]; rfl
  · rw [Below.heap_setCell _ _ _ _ n12, Joins.block_setCell ((Below.heap_setCell w2 ⟨n, 0, none⟩ a _ n01.symm).trans e1)]; rfl
  · rw [Joins.block_setCell ((Below.heap_setCell _ ⟨n + 1, 0, none⟩ _ _ n12.symm).trans ((Below.heap_setCell w2 ⟨n, 0, none⟩ a _ n02.symm).trans e2))]; rfl
  · exact (((Below.refl _ _).setCell (p := ⟨n, 0, none⟩) (Nat.le_refl _) _).setCell (p := ⟨n + 1, 0, none⟩) (by show n ≤ n + 1; omega) _).setCell (p := ⟨n + 1 + 1, 0, none⟩) (by show n ≤ n + 1 + 1; omega) _

set_option maxHeartbeats 4000000 in
set_option maxRecDepth 100000 in
theorem parsed_walk (x : Except (Nat × Int) (List Fc.Fact)) (B : Nat) (w : World) (hc : ∀ w', Below w.heap.size w w' → Calls Tryz.prog 28 #[.pointer (some ⟨B, 0, none⟩)] w' (Fc.ReadD x w')) :
    Calls Tryz.prog 27 #[.func (.func 28) #[] #[.pointer (some ⟨B, 0, none⟩)]] w (Fc.ParsedD x w) := by
  have hmf : ∀ (fn : Fn) (first cap : Array Value) (w : World), (Instr.makeFunc fn first cap).run Tryz.prog w = .ok (.func fn first cap) w := fun _ _ _ _ => rfl
  obtain ⟨k0, k1, k2, hb3, hs3⟩ := threeD_blocks w
  have HC := Lib.hid (hc _ hb3)
  obtain ⟨W, hW⟩ : ∃ W, W = threeD w := ⟨_, rfl⟩
  rw [← hW] at HC k0 k1 k2 hb3 hs3
  have HK := Lib.hid (And.intro k0 (And.intro k1 (And.intro k2 (And.intro hb3 hs3))))
  have hW2 : W = ((w.alloc (.cells #[.slice none 0 0] 24)).alloc (.cells #[.int .i64 0] 29)).alloc (.cells #[.int .i64 0] 3) := hW
  clear hc k0 k1 k2 hb3 hs3 hW
  go_enter_defers Tryz.func27, Tryz.ntmps27
  go_wp2_with fail
  rw [← hW2]
  clear hW2
  refine HC.out.mono ?_
  rintro en w2 ⟨hb, hres⟩
  obtain ⟨k0, k1, k2, hbw, hsz⟩ := HK.out
  have e0 := (hb.block _ (Array.getElem?_eq_some_iff.1 k0).1).trans k0
  have e1 := (hb.block _ (Array.getElem?_eq_some_iff.1 k1).1).trans k1
  have e2 := (hb.block _ (Array.getElem?_eq_some_iff.1 k2).1).trans k2
  have hbw2 := hbw.trans (hb.mono hbw.size)
  clear k0 k1 k2 hbw HC HK
  obtain ⟨P, hP⟩ : ∃ P, P = Fc.ParsedD x w := ⟨_, rfl⟩
  have HP := Lib.hid hP
  rw [← hP]
  clear hP
  cases x with
  | error z =>
    obtain rfl : en = _ := hres
    refine leaves_cons (f := 52) (args := #[.pointer (some ⟨w.heap.size + 1, 0, none⟩), .pointer (some ⟨w.heap.size + 1 + 1, 0, none⟩)]) (by simp) (by simp [go_sem]) ?_
    refine (catch_panicking (w.heap.size + 1) (w.heap.size + 1 + 1) (by omega) (z.1 : Nat) z.2 [] w2 e1 e2).mono ?_
    rintro e u' w3 ⟨rfl, rfl, g0, g1, hb3⟩
    have hb4 := hb3 (w.heap.size + 1) (Nat.le_refl _) (by omega) (by have := hbw2.size; have := (Array.getElem?_eq_some_iff.1 e1).1; omega)
    have f0 := (hb4.block _ (by omega)).trans e0
    have c0 := Joins.cell_of_block f0 0
    have c1 := Joins.cell_of_block g0 0
    have c2 := Joins.cell_of_block g1 0
    have HF := Lib.hid (hbw2.trans (hb4.mono (by omega)))
    clear f0 g0 g1 hb3 hb4 e0 e1 e2 hbw2
    simp [Leaves, settle, results, Tryz.results27, go_sem, c0, c1, c2]
    rw [HP.out]
    exact ⟨HF.out, rfl⟩
  | ok d =>
    obtain ⟨v, rfl, hv, hvd⟩ := hres
    obtain ⟨⟨a, c⟩, rfl⟩ := hv.form
    dsimp only at hv
    have HVD := Lib.hid hvd
    clear hvd
    obtain ⟨n, hn⟩ : ∃ n, n = d.length := ⟨_, rfl⟩
    have e0' := e0
    have c0 := Joins.cell_of_block e0 0
    have c1 := Joins.cell_of_block e1 0
    have c2 := Joins.cell_of_block e2 0
    have u0 := Joins.unfrozen_of_block e0 0
    have u1 := Joins.unfrozen_of_block e1 0
    have u2 := Joins.unfrozen_of_block e2 0
    have HF := Lib.hid (And.intro hv (And.intro e0 (And.intro e1 (And.intro e2 hbw2))))
    rw [← hn]
    have HN := Lib.hid hn
    clear hv e0 e1 e2 hbw2 hn e0'
    go_wp2_with fail
    obtain ⟨hv, e0, e1, e2, hbw2⟩ := HF.out
    obtain ⟨g0, g1, g2, hb5⟩ := storedD (a := .slice a n c) e0 e1 e2
    have hown : Fc.OwnF W.heap.size d (.slice a d.length c) _ := ((hv.set (a := ⟨w.heap.size, 0, none⟩) (by show w.heap.size < _; omega) (.slice a n c)).set (a := ⟨w.heap.size + 1, 0, none⟩) (by show w.heap.size + 1 < _; omega) (.int .i64 0)).set (a := ⟨w.heap.size + 1 + 1, 0, none⟩) (by show w.heap.size + 1 + 1 < _; omega) (.int .i64 0)
    obtain ⟨WS, hWS⟩ : ∃ WS, WS = ((w2.setCell ⟨w.heap.size, 0, none⟩ (.slice a n c)).setCell ⟨w.heap.size + 1, 0, none⟩ (.int .i64 0)).setCell ⟨w.heap.size + 1 + 1, 0, none⟩ (.int .i64 0) := ⟨_, rfl⟩
    rw [← hWS] at g0 g1 g2 hb5 hown ⊢
    have HG := Lib.hid (And.intro g0 (And.intro g1 (And.intro g2 (And.intro hb5 hown))))
    clear hWS g0 g1 g2 hb5 hown c0 c1 c2 u0 u1 u2 e0 e1 e2 hv hbw2
    refine leaves_cons (f := 52) (args := #[.pointer (some ⟨w.heap.size + 1, 0, none⟩), .pointer (some ⟨w.heap.size + 1 + 1, 0, none⟩)]) (by simp) (by simp [go_sem]) ?_
    refine (catch_idle (w.heap.size + 1) (w.heap.size + 1 + 1) WS).mono ?_
    rintro e u' w3 ⟨rfl, rfl, hb3⟩
    obtain ⟨g0, g1, g2, hb5, hown⟩ := HG.out
    have c0 := Joins.cell_of_block ((hb3.block _ (Array.getElem?_eq_some_iff.1 g0).1).trans g0) 0
    have c1 := Joins.cell_of_block ((hb3.block _ (Array.getElem?_eq_some_iff.1 g1).1).trans g1) 0
    have c2 := Joins.cell_of_block ((hb3.block _ (Array.getElem?_eq_some_iff.1 g2).1).trans g2) 0
    have HR := Lib.hid (And.intro ((HF.out.2.2.2.2.trans hb5).trans (hb3.mono (HF.out.2.2.2.2.trans hb5).size)) ((hown.below hb3).mono (by omega : w.heap.size ≤ W.heap.size)))
    clear g0 g1 g2 hb5 hown hb3 HG
    simp [Leaves, settle, results, Tryz.results27, go_sem, c0, c1, c2]
    refine ⟨HR.out.1, _, rfl, ?_, HVD.out⟩
    rw [HN.out]
    exact HR.out.2

set_option maxHeartbeats 4000000 in
set_option maxRecDepth 100000 in
/-- fact.Parse answers as the arithmetic says. -/
theorem parse_walk (s : ByteArray) (hm : s.size ≤ 9223372036854775807) (w : World) :
    Calls Tryz.prog 6 #[.string s] w (Fc.ParsedD (Fc.parseT (Lx.tx s)) w) := by
  have hmf : ∀ (fn : Fn) (first cap : Array Value) (w : World), (Instr.makeFunc fn first cap).run Tryz.prog w = .ok (.func fn first cap) w := fun _ _ _ _ => rfl
  obtain ⟨W1, hW1⟩ : ∃ W1, W1 = w.alloc (.cells #[.string s] 9) := ⟨_, rfl⟩
  have hb1 : Below w.heap.size w W1 := by rw [hW1]; exact (Below.refl _ _).alloc (Nat.le_refl _) _
  have k1 : W1.heap[w.heap.size]? = some (.cells #[.string s] 9 (0, 0)) := by rw [hW1]; exact heap_alloc_new _ _
  obtain ⟨W2, hW2⟩ : ∃ W2, W2 = W1.alloc (.cells #[.slice none 0 0] 24) := ⟨_, rfl⟩
  have hb2 : Below W1.heap.size W1 W2 := by rw [hW2]; exact (Below.refl _ _).alloc (Nat.le_refl _) _
  have hl1 := (Array.getElem?_eq_some_iff.1 k1).1
  have k2 : W2.heap[w.heap.size]? = some (.cells #[.string s] 9 (0, 0)) := (hb2.block _ hl1).trans k1
  have hs1 : W1.heap.size = w.heap.size + 1 := by rw [hW1]; simp
  have q2 : W2.heap[w.heap.size + 1]? = some (.cells #[.slice none 0 0] 24 (0, 0))  := by rw [hW2, ← hs1]; exact heap_alloc_new _ _
  have hl2 := (Array.getElem?_eq_some_iff.1 k2).1
  obtain ⟨x, hx⟩ : ∃ x, x = Fc.parseT (Lx.tx s) := ⟨_, rfl⟩
  have HC := Lib.hid (parsed_walk x w.heap.size W2 (fun w' hb => by rw [hx]; exact parse1_walk s hm w.heap.size w' ((hb.block _ hl2).trans k2)))
  have hs2 : W2.heap.size = w.heap.size + 1 + 1 := by rw [hW2, hW1]; simp
  have HB := Lib.hid (And.intro (hb1.trans (hb2.mono hb1.size)) (And.intro q2 hs2))
  rw [← hx]
  have hW : W2 = (w.alloc (.cells #[.string s] 9)).alloc (.cells #[.slice none 0 0] 24) := by rw [hW2, hW1]
  clear hx hW1 hW2 hb1 hb2 k1 k2 q2 hl1 hl2 hs1 hs2
  go_enter Tryz.func6, Tryz.ntmps6
  go_upto_region 1 with fail
  rw [← hW]
  clear hW
  go_wp2_with fail
  refine HC.out.mono ?_
  rintro en w3 ⟨hb3, hres⟩
  have k3 := (hb3.block _ (Array.getElem?_eq_some_iff.1 HB.out.2.1).1).trans HB.out.2.1
  have f0 := Joins.cell_of_block k3 0
  have u0 := Joins.unfrozen_of_block k3 0
  have HF := Lib.hid (HB.out.1.trans (hb3.mono HB.out.1.size))
  have hbs : ∀ v : Value, Below w.heap.size w3 (w3.setCell ⟨w.heap.size + 1, 0, none⟩ v) := fun v => (Below.refl _ _).setCell (p := ⟨w.heap.size + 1, 0, none⟩) (by show w.heap.size ≤ w.heap.size + 1; omega) _
  have HS := Lib.hid hbs
  clear hbs k3 hb3 HC
  cases x with
  | error z =>
    obtain rfl : en = _ := hres
    go_wp2_with fail
    refine bodyPost_ret (v := .tuple #[.agg #[.slice none 0 0], .int .i64 (z.1 : Nat), .int .i64 z.2]) ?_ rfl ?_
    · simp [results, Tryz.f6, go_sem, f0]
    · exact ⟨HF.out.trans (HS.out _), rfl⟩
  | ok d =>
    obtain ⟨v, rfl, hv, hvd⟩ := hres
    obtain ⟨⟨a, c⟩, rfl⟩ := hv.form
    dsimp only at hv
    have HV := Lib.hid (And.intro (hv.set (a := ⟨w.heap.size + 1, 0, none⟩) (by show w.heap.size + 1 < W2.heap.size; rw [HB.out.2.2]; omega) (.slice a d.length c)) hvd)
    clear hv hvd
    obtain ⟨n, hn⟩ : ∃ n, n = d.length := ⟨_, rfl⟩
    rw [← hn] at HV ⊢
    clear hn
    go_wp2_with fail
    refine bodyPost_ret (v := .tuple #[.agg #[.slice a n c], .int .i64 0, .int .i64 0]) ?_ rfl ?_
    · simp [results, Tryz.f6, go_sem, f0]
    · exact ⟨HF.out.trans (HS.out _), _, rfl, HV.out.1.mono (by rw [HB.out.2.2]; omega), HV.out.2⟩
end Go.Proofs.YtoamkanofhhjfaaGreatDoor
