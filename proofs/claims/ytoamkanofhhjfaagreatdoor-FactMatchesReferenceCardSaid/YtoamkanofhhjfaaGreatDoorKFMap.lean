import Derived.Test.YtoamkanofhhjfaaGreatDoorKFBnds
import Derived.Maps.OwnSet
import Derived.Maps.Views
import Derived.Laws.EntriesVeiled
/-
  The walks of the reader's number and day.
-/
namespace Go.Proofs.YtoamkanofhhjfaaGreatDoor
open Go.RowKit

set_option maxHeartbeats 4000000 in
set_option maxRecDepth 100000 in
theorem number_fact (R e : Nat) (u : ByteArray) (l : List Lx.Tok) (w : World) (h : Fc.IsR R w e l) :
    Calls Tryz.prog 56 #[.pointer (some ⟨R, 0, none⟩), .string u] w (Fc.Out R e w (Fc.bnd e (Lx.tx u) 2 l) Fc.vF) := by
  have hb0 := Fc.zeroF_below w
  have hz := Fc.zeroF_block w
  have hlt := h.lt
  have HT1 := Lib.hid (bounds_walk R e u 2 l _ (h.below hb0))
  obtain ⟨x, hx⟩ : ∃ x, x = Fc.bnd e (Lx.tx u) 2 l := ⟨_, rfl⟩
  rw [← hx] at HT1 ⊢
  have HZ := Lib.hid (And.intro hb0 hz)
  clear h hb0 hz hx
  go_enter Tryz.func56, Tryz.ntmps56
  go_wp2_with fail
  refine HT1.out.mono ?_
  rintro en w1 ho
  cases x with
  | error z =>
    obtain ⟨hf, hrd⟩ := ho.no rfl
    obtain rfl : en = _ := hf
    exact ⟨rfl, (Fc.Rd.of R HZ.out.1).trans hrd, rfl⟩
  | ok y =>
    obtain ⟨f, l1⟩ := y
    obtain ⟨rfl, hr1, hrd⟩ := ho.ok rfl
    have i2 := (hrd.block _ (Array.getElem?_eq_some_iff.1 HZ.out.2).1 (by omega)).trans HZ.out.2
    have hrdw := (Fc.Rd.of R HZ.out.1).trans hrd
    have HF := Lib.hid (And.intro hr1 (And.intro i2 hrdw))
    have u0 := Joins.unfrozen_of_block i2 0
    have u1 := Joins.unfrozen_of_block i2 1
    have u2 := Joins.unfrozen_of_block i2 2
    have u3 := Joins.unfrozen_of_block i2 3
    have f0 := Joins.cell_of_block i2 0
    have f1 := Joins.cell_of_block i2 1
    have f2 := Joins.cell_of_block i2 2
    have f3 := Joins.cell_of_block i2 3
    clear ho hr1 hrd i2 hrdw HT1 HZ
    go_wp2_with fail
    obtain ⟨i1, i2, i3⟩ := HF.out
    have e4 := Fc.put4_block i2 (.string (Lx.str f.name)) (.int .i64 f.kind) (.int .i64 f.lo) (.int .i64 f.hi)
    have hb4 := Fc.put4_below w1 w.heap.size (.string (Lx.str f.name)) (.int .i64 f.kind) (.int .i64 f.lo) (.int .i64 f.hi)
    have k0 := Joins.cell_of_block e4 0
    have k1 := Joins.cell_of_block e4 1
    have k2 := Joins.cell_of_block e4 2
    have k3 := Joins.cell_of_block e4 3
    refine bodyPost_ret (v := Fc.vF f) ?_ rfl ?_
    · obtain ⟨W4, hW4⟩ : ∃ W4, W4 = Fc.put4 w1 w.heap.size (.string (Lx.str f.name)) (.int .i64 f.kind) (.int .i64 f.lo) (.int .i64 f.hi) := ⟨_, rfl⟩
      rw [← hW4] at k0 k1 k2 k3
      show (results _ _).run _ (Fc.put4 w1 w.heap.size (.string (Lx.str f.name)) (.int .i64 f.kind) (.int .i64 f.lo) (.int .i64 f.hi)) = Result.ok _ (Fc.put4 w1 w.heap.size (.string (Lx.str f.name)) (.int .i64 f.kind) (.int .i64 f.lo) (.int .i64 f.hi))
      rw [← hW4]
      simp [results, Tryz.f56, go_sem, k0, k1, k2, k3]
    · exact ⟨i3.low hb4 (Nat.le_refl _), rfl, i1.low hb4 hlt⟩

set_option maxHeartbeats 4000000 in
set_option maxRecDepth 100000 in
theorem day_fact (R e : Nat) (u : ByteArray) (l : List Lx.Tok) (w : World) (h : Fc.IsR R w e l) :
    Calls Tryz.prog 57 #[.pointer (some ⟨R, 0, none⟩), .string u] w (Fc.Out R e w (Fc.bnd e (Lx.tx u) 3 l) Fc.vF) := by
  have hb0 := Fc.zeroF_below w
  have hz := Fc.zeroF_block w
  have hlt := h.lt
  have HT1 := Lib.hid (bounds_walk R e u 3 l _ (h.below hb0))
  obtain ⟨x, hx⟩ : ∃ x, x = Fc.bnd e (Lx.tx u) 3 l := ⟨_, rfl⟩
  rw [← hx] at HT1 ⊢
  have HZ := Lib.hid (And.intro hb0 hz)
  clear h hb0 hz hx
  go_enter Tryz.func57, Tryz.ntmps57
  go_wp2_with fail
  refine HT1.out.mono ?_
  rintro en w1 ho
  cases x with
  | error z =>
    obtain ⟨hf, hrd⟩ := ho.no rfl
    obtain rfl : en = _ := hf
    exact ⟨rfl, (Fc.Rd.of R HZ.out.1).trans hrd, rfl⟩
  | ok y =>
    obtain ⟨f, l1⟩ := y
    obtain ⟨rfl, hr1, hrd⟩ := ho.ok rfl
    have i2 := (hrd.block _ (Array.getElem?_eq_some_iff.1 HZ.out.2).1 (by omega)).trans HZ.out.2
    have hrdw := (Fc.Rd.of R HZ.out.1).trans hrd
    have HF := Lib.hid (And.intro hr1 (And.intro i2 hrdw))
    have u0 := Joins.unfrozen_of_block i2 0
    have u1 := Joins.unfrozen_of_block i2 1
    have u2 := Joins.unfrozen_of_block i2 2
    have u3 := Joins.unfrozen_of_block i2 3
    have f0 := Joins.cell_of_block i2 0
    have f1 := Joins.cell_of_block i2 1
    have f2 := Joins.cell_of_block i2 2
    have f3 := Joins.cell_of_block i2 3
    clear ho hr1 hrd i2 hrdw HT1 HZ
    go_wp2_with fail
    obtain ⟨i1, i2, i3⟩ := HF.out
    have e4 := Fc.put4_block i2 (.string (Lx.str f.name)) (.int .i64 f.kind) (.int .i64 f.lo) (.int .i64 f.hi)
    have hb4 := Fc.put4_below w1 w.heap.size (.string (Lx.str f.name)) (.int .i64 f.kind) (.int .i64 f.lo) (.int .i64 f.hi)
    have k0 := Joins.cell_of_block e4 0
    have k1 := Joins.cell_of_block e4 1
    have k2 := Joins.cell_of_block e4 2
    have k3 := Joins.cell_of_block e4 3
    refine bodyPost_ret (v := Fc.vF f) ?_ rfl ?_
    · obtain ⟨W4, hW4⟩ : ∃ W4, W4 = Fc.put4 w1 w.heap.size (.string (Lx.str f.name)) (.int .i64 f.kind) (.int .i64 f.lo) (.int .i64 f.hi) := ⟨_, rfl⟩
      rw [← hW4] at k0 k1 k2 k3
      show (results _ _).run _ (Fc.put4 w1 w.heap.size (.string (Lx.str f.name)) (.int .i64 f.kind) (.int .i64 f.lo) (.int .i64 f.hi)) = Result.ok _ (Fc.put4 w1 w.heap.size (.string (Lx.str f.name)) (.int .i64 f.kind) (.int .i64 f.lo) (.int .i64 f.hi))
      rw [← hW4]
      simp [results, Tryz.f57, go_sem, k0, k1, k2, k3]
    · exact ⟨i3.low hb4 (Nat.le_refl _), rfl, i1.low hb4 hlt⟩
end Go.Proofs.YtoamkanofhhjfaaGreatDoor
/-
  The reader's two maps: the kinds' functions, and the values that are given.
-/
namespace Go.Proofs.YtoamkanofhhjfaaGreatDoor
open Go.RowKit Go.Maps

theorem strKeyed : Keyed Tryz.prog 9 := string_keyed Tryz.underlying9
namespace Fc
open Lx
/-- The function value of a method of the reader at R. -/
abbrev kv (R f : Nat) : Value := .func (.func f) #[.pointer (some ⟨R, 0, none⟩)] #[]
/-- What a walk reads of these functions. -/
noncomputable def kElem (R : Nat) (v : Value) : Option (DataW Unit × List MemPlace) :=
  haveI := Classical.propDecidable
  if v = kv R 55 then some (.lit (.int .i64 1), []) else if v = kv R 56 then some (.lit (.int .i64 2), [])
  else if v = kv R 57 then some (.lit (.int .i64 3), []) else if v = .nilFunc then some (.lit (.int .i64 0), []) else none
theorem kElem_flag (R : Nat) : kElem R (kv R 55) = some (.lit (.int .i64 1), []) := by unfold kElem; simp
theorem kElem_number (R : Nat) : kElem R (kv R 56) = some (.lit (.int .i64 2), []) := by unfold kElem; simp
theorem kElem_day (R : Nat) : kElem R (kv R 57) = some (.lit (.int .i64 3), []) := by unfold kElem; simp
theorem kElem_nil (R : Nat) : kElem R .nilFunc = some (.lit (.int .i64 0), []) := by unfold kElem; simp
theorem kElem_inv {R : Nat} {v : Value} {n : Int} {ps : List MemPlace} (h : kElem R v = some (.lit (.int .i64 n), ps)) :
    v = if n = 1 then kv R 55 else if n = 2 then kv R 56 else if n = 3 then kv R 57 else .nilFunc := by
  unfold kElem at h
  split at h
  · rename_i e
    have : (1 : Int) = n := by simpa using congrArg (fun o : Option (DataW Unit × List MemPlace) => match o with | some (.lit (.int .i64 k), _) => k | _ => 0) h
    subst this; rw [if_pos rfl]; exact e
  · split at h
    · rename_i e
      have : (2 : Int) = n := by simpa using congrArg (fun o : Option (DataW Unit × List MemPlace) => match o with | some (.lit (.int .i64 k), _) => k | _ => 0) h
      subst this; rw [if_neg (by decide), if_pos rfl]; exact e
    · split at h
      · rename_i e
        have : (3 : Int) = n := by simpa using congrArg (fun o : Option (DataW Unit × List MemPlace) => match o with | some (.lit (.int .i64 k), _) => k | _ => 0) h
        subst this; rw [if_neg (by decide), if_neg (by decide), if_pos rfl]; exact e
      · split at h
        · rename_i e
          have : (0 : Int) = n := by simpa using congrArg (fun o : Option (DataW Unit × List MemPlace) => match o with | some (.lit (.int .i64 k), _) => k | _ => 0) h
          subst this; rw [if_neg (by decide), if_neg (by decide), if_neg (by decide)]; exact e
        · cases h
/-- The number of a kind's word. -/
def kno (x : T) : Int := if x = wFlag then 1 else if x = wNumber then 2 else if x = wDay then 3 else 0
/-- The function of a kind's word. -/
def kfn (R : Nat) (x : T) : Value := if x = wFlag then kv R 55 else if x = wNumber then kv R 56 else if x = wDay then kv R 57 else .nilFunc
theorem kfn_kno (R : Nat) (x : T) : (if kno x = 1 then kv R 55 else if kno x = 2 then kv R 56 else if kno x = 3 then kv R 57 else .nilFunc) = kfn R x := by
  unfold kno kfn
  by_cases c1 : x = wFlag
  · rw [if_pos c1, if_pos rfl, if_pos c1]
  · by_cases c2 : x = wNumber
    · rw [if_neg c1, if_pos c2, if_neg c1, if_pos c2, if_neg (by decide), if_pos rfl]
    · by_cases c3 : x = wDay
      · rw [if_neg c1, if_neg c2, if_pos c3, if_neg c1, if_neg c2, if_pos c3, if_neg (by decide), if_neg (by decide), if_pos rfl]
      · rw [if_neg c1, if_neg c2, if_neg c3, if_neg c1, if_neg c2, if_neg c3, if_neg (by decide), if_neg (by decide), if_neg (by decide)]
/-- Block b is the map of the kinds. -/
def IsK (R : Nat) (w : World) (b : Nat) : Prop :=
  ∃ D : DataW Unit, w.ownsMap Tryz.prog 9 (kElem R) b 3 D ∧ ∀ x : T, D.atKey (.string x) (.lit (.int .i64 0)) = .lit (.int .i64 (kno x)) ∧ Maps.has D (.string x) = decide (kno x ≠ 0)
theorem ownsMap_block {H : Type} {P : Program} {k : TypeId} {R : Value → Option (DataW H × List MemPlace)} {w w' : World} {b n : Nat} {D : DataW H} (h : w.ownsMap P k R b n D) (hb : w'.heap[b]? = w.heap[b]?) : w'.ownsMap P k R b n D := by
  obtain ⟨es, clock, h1, h2⟩ := h
  exact ⟨es, clock, hb.trans h1, h2⟩
theorem IsK.lt {R : Nat} {w : World} {b : Nat} (h : IsK R w b) : b < w.heap.size := by obtain ⟨D, h, _⟩ := h; exact h.lt
theorem IsK.block {R : Nat} {w w' : World} {b : Nat} (h : IsK R w b) (hb : w'.heap[b]? = w.heap[b]?) : IsK R w' b := by
  obtain ⟨D, h1, h2⟩ := h; exact ⟨D, ownsMap_block h1 hb, h2⟩
end Fc
theorem zeroFn (w : World) : (zeroValue 92).run Tryz.prog w = .ok .nilFunc w := by kernel_rfl
theorem Fc.IsK.look {R : Nat} {w : World} {b : Nat} (h : Fc.IsK R w b) (u : ByteArray) (hu : u.size ≤ maxLen) :
    (Instr.lookup 93 (.map (some b)) (.string u) true).run Tryz.prog w = .ok (.tuple #[Fc.kfn R (Lx.tx u), .bool (decide (Fc.kno (Lx.tx u) ≠ 0))]) w := by
  obtain ⟨D, h1, h2⟩ := h
  obtain ⟨v, ps, hrun, hv⟩ := h1.look_ok strKeyed Tryz.underlying93 (zeroFn w) (Fc.kElem_nil R) (Go.WideMaps.keyOf_string_mk Tryz.underlying9 hu)
  obtain ⟨q1, q2⟩ := h2 (Lx.tx u)
  rw [show u.data.toList = Lx.tx u from rfl] at hv hrun
  rw [q1] at hv
  rw [q2] at hrun
  rw [hrun, Fc.kElem_inv hv, Fc.kfn_kno]

/-- The three entries are made. -/
theorem Fc.IsK.made {R : Nat} (w : World) : ∃ w1 w2 w3 : World,
    (Instr.mapUpdate 93 (.map (some w.heap.size)) (.string ⟨#[102, 108, 97, 103]⟩) (Fc.kv R 55)).run Tryz.prog (w.alloc (.map #[] 0)) = .ok () w1 ∧
    (Instr.mapUpdate 93 (.map (some w.heap.size)) (.string ⟨#[110, 117, 109, 98, 101, 114]⟩) (Fc.kv R 56)).run Tryz.prog w1 = .ok () w2 ∧
    (Instr.mapUpdate 93 (.map (some w.heap.size)) (.string ⟨#[100, 97, 121]⟩) (Fc.kv R 57)).run Tryz.prog w2 = .ok () w3 ∧
    Fc.IsK R w3 w.heap.size ∧ Below w.heap.size w w3 := by
  have hs : ∀ u : ByteArray, u.size ≤ 6 → keyOf Tryz.prog 9 (.string u) = some (.string u.data.toList) := fun u hu => Go.WideMaps.keyOf_string_mk Tryz.underlying9 (by unfold maxLen; omega)
  have h0 := World.ownsMap_made w Tryz.prog 9 (Fc.kElem R)
  obtain ⟨w1, r1, o1, g1⟩ := h0.update strKeyed Tryz.underlying93 (by unfold maxLen; omega) (hs ⟨#[102, 108, 97, 103]⟩ (by decide)) (Fc.kElem_flag R)
  obtain ⟨w2, r2, o2, g2⟩ := o1.update strKeyed Tryz.underlying93 (by unfold maxLen; omega) (hs ⟨#[110, 117, 109, 98, 101, 114]⟩ (by decide)) (Fc.kElem_number R)
  obtain ⟨w3, r3, o3, g3⟩ := o2.update strKeyed Tryz.underlying93 (by unfold maxLen; omega) (hs ⟨#[100, 97, 121]⟩ (by decide)) (Fc.kElem_day R)
  have hb0 : Below w.heap.size w (w.alloc (.map #[] 0)) := (Below.refl _ _).alloc (Nat.le_refl _) _
  have hb1 := hb0.grown g1 hb0.size (fun k e => by cases e; exact Nat.le_refl _)
  have hb2 := hb1.grown g2 hb1.size (fun k e => by cases e; exact Nat.le_refl _)
  have hb3 := hb2.grown g3 hb2.size (fun k e => by cases e; exact Nat.le_refl _)
  refine ⟨w1, w2, w3, r1, r2, r3, ⟨_, o3, fun x => ?_⟩, hb3⟩
  have m0 : Maps.IsMap (DataW.map [] : DataW Unit) := ⟨[], rfl⟩
  have hk : ∀ l : List UInt8, WideAt.IsKeyLit (.string l) := fun _ => trivial
  show DataW.atKey (DataW.put (DataW.put (DataW.put (DataW.map []) (.string Fc.wFlag) _) (.string Fc.wNumber) _) (.string Fc.wDay) _) _ _ = _ ∧ Maps.has (DataW.put (DataW.put (DataW.put (DataW.map []) (.string Fc.wFlag) _) (.string Fc.wNumber) _) (.string Fc.wDay) _) _ = _
  have m1 := m0.put (.string Fc.wFlag) (.lit (.int .i64 1))
  have m2 := m1.put (.string Fc.wNumber) (.lit (.int .i64 2))
  have nfn : Fc.wNumber ≠ Fc.wFlag := by decide
  have nfd : Fc.wDay ≠ Fc.wFlag := by decide
  have nnd : Fc.wDay ≠ Fc.wNumber := by decide
  unfold Fc.kno
  by_cases c3 : x = Fc.wDay
  · subst c3
    rw [Maps.atKey_put_same m2 (hk _), Maps.has_put_same m2 (hk _), if_neg nfd, if_neg nnd, if_pos rfl]
    exact ⟨rfl, by decide⟩
  · have e3 : Lit.string x ≠ .string Fc.wDay := fun e => c3 (Lit.string.inj e)
    rw [Maps.atKey_put_other e3, Maps.has_put_other e3]
    by_cases c2 : x = Fc.wNumber
    · subst c2
      rw [Maps.atKey_put_same m1 (hk _), Maps.has_put_same m1 (hk _), if_neg nfn, if_pos rfl]
      exact ⟨rfl, by decide⟩
    · have e2 : Lit.string x ≠ .string Fc.wNumber := fun e => c2 (Lit.string.inj e)
      rw [Maps.atKey_put_other e2, Maps.has_put_other e2]
      by_cases c1 : x = Fc.wFlag
      · subst c1
        rw [Maps.atKey_put_same m0 (hk _), Maps.has_put_same m0 (hk _), if_pos rfl]
        exact ⟨rfl, by decide⟩
      · have e1 : Lit.string x ≠ .string Fc.wFlag := fun e => c1 (Lit.string.inj e)
        rw [Maps.atKey_put_other e1, Maps.has_put_other e1, if_neg c1, if_neg c2, if_neg c3]
        exact ⟨rfl, rfl⟩
end Go.Proofs.YtoamkanofhhjfaaGreatDoor
