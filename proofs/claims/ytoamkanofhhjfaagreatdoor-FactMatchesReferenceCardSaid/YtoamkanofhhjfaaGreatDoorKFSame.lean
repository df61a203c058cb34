import Derived.Test.YtoamkanofhhjfaaGreatDoorKFFits
import Derived.BigQuiet
import Derived.Laws.StructEq
/-
  The walks of pandectref06.Few and of the law's few.
-/
namespace Go.Proofs.YtoamkanofhhjfaaGreatDoor
open Go.RowKit

namespace Fc
/-- What few says. -/
def Few (l : List Fact) (most : Nat) : Prop := l.length ≤ most ∧ ∀ f ∈ l, f.name.length ≤ 100
/-- The first names are short. -/
def FewTo (l : List Fact) (k : Nat) : Prop := ∀ j, j < k → ∀ f, l[j]? = some f → f.name.length ≤ 100
theorem FewTo.all {l : List Fact} (h : FewTo l l.length) : ∀ f ∈ l, f.name.length ≤ 100 := by
  intro f hf
  obtain ⟨i, hi, rfl⟩ := List.getElem_of_mem hf
  exact h i hi _ (List.getElem?_eq_getElem hi)
theorem FewTo.succ {l : List Fact} {k : Nat} {f : Fact} (h : FewTo l k) (hf : l[k]? = some f) (hn : f.name.length ≤ 100) : FewTo l (k + 1) := by
  intro j hj g hg
  by_cases e : j = k
  · subst e; rw [hf] at hg; obtain rfl := Option.some.inj hg; exact hn
  · exact h j (by omega) g hg
end Fc

set_option maxHeartbeats 4000000 in
set_option maxRecDepth 100000 in
theorem reffew_walk (v : Value) (l : List Fc.Fact) (w : World) (hv : Fc.IsF w v l) :
    Calls Tryz.prog 26 #[.agg #[v], .int .i64 70] w (Fc.Says (Fc.Few l 70) w) := by
  obtain ⟨P, hP⟩ : ∃ P : Prop, P = Fc.Few l 70 := ⟨_, rfl⟩
  rw [← hP]
  obtain ⟨a, c, g, o, rfl, hn1, hn2, hga, hcl⟩ := hv.any
  obtain ⟨n, hn⟩ : ∃ n, n = l.length := ⟨_, rfl⟩
  have HS := Lib.hid hv.sized
  rw [← hn] at hn1 ⊢
  have HP : Hid ((P → n ≤ 70 ∧ ∀ f ∈ l, f.name.length ≤ 100) ∧ (n ≤ 70 → Fc.FewTo l n → P) ∧ n = l.length) := (by
    rw [hP]
    exact ⟨fun h => ⟨by rw [hn]; exact h.1, h.2⟩, fun h1 h2 => ⟨by rw [← hn]; exact h1, by rw [hn] at h2; exact h2.all⟩, hn⟩ : (P → n ≤ 70 ∧ ∀ f ∈ l, f.name.length ≤ 100) ∧ (n ≤ 70 → Fc.FewTo l n → P) ∧ n = l.length)
  have HG : Hid (0 < n → a = some ⟨g, o, none⟩ ∧ g < w.heap.size) := (fun h => hga (by rintro rfl; rw [hn] at h; simp at h) : 0 < n → a = some ⟨g, o, none⟩ ∧ g < w.heap.size)
  have HC := Lib.hid hcl
  have hnb : n ≤ 9223372036854775807 := Nat.le_trans hn1 hn2
  have HB0 := Lib.hid (Boxed.start w (.slice a n c))
  clear hv hga hcl hP hn hn1 hn2
  go_enter Tryz.func26, Tryz.ntmps26
  go_wp2_with fail
  go_loopw [5] (fun i wr => ∃ k : Nat, k ≤ n ∧ k ≤ 70 ∧ i = .int .i64 k ∧ Hid (Fc.FewTo l k) ∧ Hid (Boxed w (.slice a n c) wr)) (fun i _ => n - (intOf i).toNat)
  case atStart => exact ⟨0, Nat.zero_le _, Nat.zero_le _, rfl, fun j hj => absurd hj (by omega), HB0⟩
  case round =>
    obtain ⟨k, hk, hk7, rfl, hq, hb⟩ := hrel
    clear HB0
    have b1 := hb.out.cell
    by_cases hlt : k < n
    · have hki : (k : Int) < (n : Int) := by omega
      have hk0 : (0 : Int) ≤ (k : Int) := by omega
      by_cases hl7 : k < 70
      · have hki7 : (k : Int) < 70 := by omega
        obtain ⟨rfl, hgl⟩ := HG.out (by omega)
        obtain ⟨f, hf⟩ : ∃ f, l[k]? = some f := ⟨_, List.getElem?_eq_getElem (by rw [← HP.out.2.2]; exact hlt)⟩
        obtain ⟨q0, _, _, _⟩ := HC.out k f hf
        have p0 := (hb.out.below.cell (p := ⟨g, o + k * 4, none⟩) hgl).trans q0
        obtain ⟨s, hs⟩ : ∃ s, s = Lx.str f.name := ⟨_, rfl⟩
        rw [← hs] at p0
        have hsz : s.size = f.name.length := by rw [hs, Fc.str_size]
        have HK := Lib.hid (fun h : s.size ≤ 100 => hq.out.succ hf (by rw [← hsz]; exact h))
        have HN := Lib.hid (fun h : ¬ s.size ≤ 100 => show ¬ P from fun hp => h (by rw [hsz]; exact (HP.out.1 hp).2 f (List.mem_of_getElem? hf)))
        clear q0 hs hsz hf hq
        by_cases h100 : s.size ≤ 100
        · have h100i : ¬ (100 : Int) < (s.size : Int) := by omega
          have HK1 := Lib.hid (HK.out h100)
          go_wp2_with fail
          go_roundw
          case rel => exact ⟨k + 1, by omega, by omega, by go_num, HK1, hb⟩
          case measure => simp [intOf]; omega
        · have h100i : (100 : Int) < (s.size : Int) := by omega
          have hno := Lib.hid (HN.out h100)
          go_wp2_with fail
          go_ret
          exact Fc.Says.no hno.out hb.out.below
      · have hki7 : ¬ (k : Int) < 70 := by omega
        have hno := Lib.hid (show ¬ P from fun hp => by have := (HP.out.1 hp).1; omega)
        have hni : ¬ (n : Int) ≤ 70 := by omega
        clear hq
        go_wp2_with fail
        go_ret
        exact Fc.Says.no hno.out hb.out.below
    · have hki : ¬ (k : Int) < (n : Int) := by omega
      have hni : (n : Int) ≤ 70 := by omega
      have hyes := Lib.hid (show P from HP.out.2.1 (by omega) (by have := hq.out; rwa [show k = n by omega] at this))
      clear hq
      go_wp2_with fail
      go_ret
      exact Fc.Says.yes hyes.out hb.out.below

set_option maxHeartbeats 4000000 in
set_option maxRecDepth 100000 in
theorem few_walk (v u : Value) (l : List Fc.Fact) (m : List Int) (w : World) (hv : Fc.IsF w v l) (hu : Fc.IsN w u m) :
    Calls Tryz.prog 5 #[.agg #[v], u] w (Fc.Says (Fc.Few l 70 ∧ m.length ≤ 70) w) := by
  have HR := Lib.hid (fun w' hb => reffew_walk v l w' (hv.below hb))
  obtain ⟨a2, c2, _, _, rfl, h1, h2, h3, h4⟩ := hu.any
  obtain ⟨a, c, rfl, _, _⟩ := hv.form
  obtain ⟨n2, hn2⟩ : ∃ n, n = m.length := ⟨_, rfl⟩
  obtain ⟨n, hn⟩ : ∃ n, n = l.length := ⟨_, rfl⟩
  rw [← hn] at HR ⊢
  rw [← hn2] at h1 ⊢
  clear hv hu h3 h4 hn hn2
  obtain ⟨Q, hQ⟩ : ∃ Q : Prop, Q = Fc.Few l 70 := ⟨_, rfl⟩
  rw [← hQ] at HR ⊢
  clear hQ
  obtain ⟨P, hP⟩ : ∃ P : Prop, P = (Q ∧ n2 ≤ 70) := ⟨_, rfl⟩
  rw [← hP]
  have HP := Lib.hid hP
  have HB := Lib.hid (boxD_below w (.slice a n c))
  have HR1 := Lib.hid (HR.out _ HB.out)
  clear HR hP
  have key : ∀ b : Bool, (b = true ↔ Q) → ((b && decide ((n2 : Int) ≤ 70)) = true ↔ P) := fun b hb => by
    rw [HP.out, Bool.and_eq_true, decide_eq_true_iff, hb]
    constructor
    · rintro ⟨q, h⟩; exact ⟨q, by omega⟩
    · rintro ⟨q, h⟩; exact ⟨q, by omega⟩
  have KEY := Lib.hid key
  clear key
  go_enter Tryz.func5, Tryz.ntmps5
  go_wp2_with fail
  refine HR1.out.mono ?_
  rintro e w3 ⟨⟨b, rfl, hb⟩, hb3⟩
  have HK := Lib.hid (KEY.out b hb)
  have HB3 := Lib.hid (HB.out.trans (hb3.mono HB.out.size))
  clear KEY hb hb3 HR1
  cases b with
  | false =>
    go_wp2_with fail
    go_ret
    exact Fc.Says.no (fun hp => by have := HK.out.2 hp; simp at this) HB3.out
  | true =>
    by_cases hm : n2 ≤ 70
    · have hmi : (n2 : Int) ≤ 70 := by omega
      have hyes := Lib.hid (show P from HK.out.1 (by simp; omega))
      clear HK hm
      go_wp2_with fail
      go_ret
      exact Fc.Says.yes hyes.out HB3.out
    · have hmi : decide ((n2 : Int) ≤ 70) = false := decide_eq_false (by omega)
      have hno := Lib.hid (show ¬ P from fun hp => by have := HK.out.2 hp; simp at this; omega)
      clear HK hm
      go_wp2_with fail
      go_ret
      exact Fc.Says.no hno.out HB3.out
end Go.Proofs.YtoamkanofhhjfaaGreatDoor
/-
  The walk of pandectref06.Same.
-/
namespace Go.Proofs.YtoamkanofhhjfaaGreatDoor
open Go.RowKit

namespace Fc
/-- The first facts are equal. -/
def EqF (l m : List Fact) (k : Nat) : Prop := ∀ j, j < k → l[j]? = m[j]?
theorem EqF.succ {l m : List Fact} {k : Nat} (h : EqF l m k) (e : l[k]? = m[k]?) : EqF l m (k + 1) := fun j hj => by
  by_cases hk : j = k
  · subst hk; exact e
  · exact h j (by omega)
theorem EqF.all {l m : List Fact} (hl : l.length = m.length) (h : EqF l m l.length) : l = m := by
  apply List.ext_getElem?
  intro i
  by_cases hi : i < l.length
  · exact h i hi
  · rw [List.getElem?_eq_none (by omega), List.getElem?_eq_none (by omega)]
theorem IsF.both {w : World} {v : Value} {l : List Fact} (h : IsF w v l) : ∃ a c g o, v = .slice a l.length c ∧ l.length ≤ 9223372036854775807 ∧ (0 < l.length → a = Option.some ⟨g, o, none⟩) ∧ ∀ w', Below w.heap.size w w' → ∀ i f, l[i]? = Option.some f →
    w'.cell? ⟨g, o + i * 4, none⟩ = Option.some (.string (Lx.str f.name)) ∧ w'.cell? ⟨g, o + i * 4 + 1, none⟩ = Option.some (.int .i64 f.kind) ∧ w'.cell? ⟨g, o + i * 4 + 2, none⟩ = Option.some (.int .i64 f.lo) ∧ w'.cell? ⟨g, o + i * 4 + 3, none⟩ = Option.some (.int .i64 f.hi) := by
  obtain ⟨a, c, g, o, e, h1, h2, h3, h4⟩ := h.any
  refine ⟨a, c, g, o, e, Nat.le_trans h1 h2, fun hp => (h3 (by rintro rfl; simp at hp)).1, fun w' hb i f hf => ?_⟩
  have hg := (h3 (by rintro rfl; simp at hf)).2
  obtain ⟨q0, q1, q2, q3⟩ := h4 i f hf
  exact ⟨(hb.cell (p := ⟨g, o + i * 4, none⟩) hg).trans q0, (hb.cell (p := ⟨g, o + i * 4 + 1, none⟩) hg).trans q1, (hb.cell (p := ⟨g, o + i * 4 + 2, none⟩) hg).trans q2, (hb.cell (p := ⟨g, o + i * 4 + 3, none⟩) hg).trans q3⟩
/-- Two boxes. -/
abbrev box2 (w : World) (v u : Value) : World := (w.alloc (.cells #[v] 24)).alloc (.cells #[u] 24)
structure Box2 (w : World) (v u : Value) (wr : World) : Prop where
  below : Below w.heap.size w wr
  one : wr.cell? ⟨w.heap.size, 0, none⟩ = some v
  two : wr.cell? ⟨w.heap.size + 1, 0, none⟩ = some u
theorem Box2.start (w : World) (v u : Value) : Box2 w v u (box2 w v u) := by
  have h0 : (w.alloc (.cells #[v] 24)).heap[w.heap.size]? = some (.cells #[v] 24 (0, 0)) := heap_alloc_new _ _
  have h1 : (box2 w v u).heap[w.heap.size]? = some (.cells #[v] 24 (0, 0)) := (Below.heap_alloc _ _ _ (by simp)).trans h0
  have h2 : (box2 w v u).heap[w.heap.size + 1]? = some (.cells #[u] 24 (0, 0)) := by
    have := heap_alloc_new (w.alloc (.cells #[v] 24)) (.cells #[u] 24)
    simpa using this
  exact ⟨((Below.refl _ _).alloc (Nat.le_refl _) _).alloc (by simp) _, Joins.cell_of_block h1 0, Joins.cell_of_block h2 0⟩
theorem Box2.drew {w wr : World} {v u : Value} (h : Box2 w v u wr) : Box2 w v u wr.drew := ⟨h.below.drew, h.one, h.two⟩
end Fc

set_option maxRecDepth 100000 in
theorem fact_neq (s1 s2 : ByteArray) (k1 k2 l1 l2 h1 h2 : Int) (w : World) (hne : ¬ ((s1 = s2 ∧ k1 = k2) ∧ l1 = l2 ∧ h1 = h2)) :
    (binOp BinOp.neq 64 (.agg #[.string s1, .int .i64 k1, .int .i64 l1, .int .i64 h1]) (.agg #[.string s2, .int .i64 k2, .int .i64 l2, .int .i64 h2])).run Tryz.prog w = .ok (.bool true) w := by
  have u9 := Tryz.underlying9
  have u3 := Tryz.underlying3
  have hS : Tryz.prog.underlying 64 = some (.struct (Tryz.prog.fieldsOf 64)) := by kernel_rfl
  have hp : Tryz.prog.stoodInHeld 64 = false := by kernel_rfl
  rw [run_neq_struct, show (10000 : Nat) = 9999 + 1 from rfl, run_equalIn_agg _ 9999 _ _ _ hS hp]
  simp only [Program.fieldsOf, Tryz.underlying64]
  go_simp
  intro e1 e2 e3 e4
  refine hne ⟨⟨?_, e2⟩, e3, e4⟩
  rw [Lib.toList_data, Lib.toList_data] at e1
  exact ByteArray.ext (Array.toList_inj.1 e1)

set_option maxHeartbeats 4000000 in
set_option maxRecDepth 100000 in
theorem same_walk (v u : Value) (l m : List Fc.Fact) (w : World) (hv : Fc.IsF w v l) (hu : Fc.IsF w u m) :
    Calls Tryz.prog 22 #[.agg #[v], .agg #[u]] w (Fc.Says (l = m) w) := by
  obtain ⟨P, hP⟩ : ∃ P : Prop, P = (l = m) := ⟨_, rfl⟩
  rw [← hP]
  obtain ⟨a, c, g, o, rfl, hnb, ha, hc⟩ := hv.both
  obtain ⟨a2, c2, g2, o2, rfl, hnb2, ha2, hc2⟩ := hu.both
  clear hv hu
  by_cases hlen : l.length = m.length
  · obtain ⟨n, hn⟩ : ∃ n, n = l.length := ⟨_, rfl⟩
    rw [← hn] at hlen ha hnb ⊢
    rw [← hlen] at ha2 ⊢
    have HP : Hid ((P ↔ Fc.EqF l m n) ∧ n = l.length ∧ n = m.length) := (by
      refine ⟨?_, hn, hlen⟩
      rw [hP]
      exact ⟨fun e j _ => by rw [e], fun h => Fc.EqF.all (by rw [← hn, ← hlen]) (by rw [← hn]; exact h)⟩ : (P ↔ Fc.EqF l m n) ∧ n = l.length ∧ n = m.length)
    have HA := Lib.hid (And.intro ha ha2)
    have HC := Lib.hid (And.intro hc hc2)
    have HB0 := Lib.hid (Fc.Box2.start w (.slice a n c) (.slice a2 n c2))
    clear ha ha2 hc hc2 hP hlen hn hnb2
    go_enter Tryz.func22, Tryz.ntmps22
    go_wp2_with fail
    go_loopw [5] (fun i wr => ∃ k : Nat, k ≤ n ∧ i = .int .i64 k ∧ Hid (Fc.EqF l m k) ∧ Hid (Fc.Box2 w (.slice a n c) (.slice a2 n c2) wr)) (fun i _ => n - (intOf i).toNat)
    case atStart => exact ⟨0, Nat.zero_le _, rfl, fun j hj => absurd hj (by omega), HB0⟩
    case round =>
      obtain ⟨k, hk, rfl, hq, hb⟩ := hrel
      clear HB0
      have b1 := hb.out.one
      have b2 := hb.out.two
      by_cases hlt : k < n
      · have hki : (k : Int) < (n : Int) := by omega
        have hwr : wrap64 ((k : Int) + 1) = (k : Int) + 1 := by unfold wrap64; omega
        have hk0 : (0 : Int) ≤ (k : Int) := by omega
        obtain rfl := HA.out.1 (by omega)
        obtain rfl := HA.out.2 (by omega)
        obtain ⟨f, hf⟩ : ∃ f, l[k]? = some f := ⟨_, List.getElem?_eq_getElem (by rw [← HP.out.2.1]; exact hlt)⟩
        obtain ⟨h, hh⟩ : ∃ f, m[k]? = some f := ⟨_, List.getElem?_eq_getElem (by rw [← HP.out.2.2]; exact hlt)⟩
        obtain ⟨c0, c1, c2', c3⟩ := HC.out.1 wr.drew hb.out.below.drew k f hf
        obtain ⟨d0, d1, d2, d3⟩ := HC.out.2 wr.drew hb.out.below.drew k h hh
        have HK : Hid ((P → f = h) ∧ (f = h → Fc.EqF l m (k + 1))) := (⟨fun hp => by have := (HP.out.1.1 hp) k hlt; rw [hf, hh] at this; exact Option.some.inj this, fun e => hq.out.succ (by rw [hf, hh, e])⟩ : (P → f = h) ∧ (f = h → Fc.EqF l m (k + 1)))
        have e1 : wr.drew.cell? ⟨w.heap.size, 0, none⟩ = some (.slice (some ⟨g, o, none⟩) n c) := hb.out.drew.one
        have e2 : wr.drew.cell? ⟨w.heap.size + 1, 0, none⟩ = some (.slice (some ⟨g2, o2, none⟩) n c2) := hb.out.drew.two
        have HB1 := Lib.hid hb.out.drew
        clear hf hh hq
        obtain ⟨s1, hs1⟩ : ∃ s, s = Lx.str f.name := ⟨_, rfl⟩
        obtain ⟨s2, hs2⟩ : ∃ s, s = Lx.str h.name := ⟨_, rfl⟩
        rw [← hs1] at c0
        rw [← hs2] at d0
        have HE : Hid (f = h ↔ (s1 = s2 ∧ f.kind = h.kind) ∧ f.lo = h.lo ∧ f.hi = h.hi) := (by
          constructor
          · rintro rfl; exact ⟨⟨by rw [hs1, hs2], rfl⟩, rfl, rfl⟩
          · rintro ⟨⟨e1, e2⟩, e3, e4⟩
            have e5 : f.name = h.name := by rw [← Lx.tx_str f.name, ← Lx.tx_str h.name, ← hs1, ← hs2, e1]
            cases f; cases h; simp_all : f = h ↔ (s1 = s2 ∧ f.kind = h.kind) ∧ f.lo = h.lo ∧ f.hi = h.hi)
        clear hs1 hs2
        by_cases hxy : f = h
        · have HN := Lib.hid (HK.out.2 hxy)
          obtain ⟨⟨rfl, x1⟩, x2, x3⟩ := HE.out.1 hxy
          rw [← x1] at d1
          rw [← x2] at d2
          rw [← x3] at d3
          clear x1 x2 x3 hxy
          go_upto_region 6 with fail
          go_region
          all_goals
            go_wp2_with fail
            go_roundw
            case rel => exact ⟨k + 1, by omega, by go_num, HN, HB1⟩
            case measure => simp [intOf]; omega
        · have hno := Lib.hid (show ¬ P from fun hp => hxy (HK.out.1 hp))
          obtain ⟨k1, hk1⟩ : ∃ x, x = f.kind := ⟨_, rfl⟩
          obtain ⟨k2, hk2⟩ : ∃ x, x = h.kind := ⟨_, rfl⟩
          obtain ⟨l1, hl1⟩ : ∃ x, x = f.lo := ⟨_, rfl⟩
          obtain ⟨l2, hl2⟩ : ∃ x, x = h.lo := ⟨_, rfl⟩
          obtain ⟨h1, hh1⟩ : ∃ x, x = f.hi := ⟨_, rfl⟩
          obtain ⟨h2, hh2⟩ : ∃ x, x = h.hi := ⟨_, rfl⟩
          rw [← hk1, ← hl1, ← hh1, ← hk2, ← hl2, ← hh2] at HE
          rw [← hk1] at c1
          rw [← hl1] at c2'
          rw [← hh1] at c3
          rw [← hk2] at d1
          rw [← hl2] at d2
          rw [← hh2] at d3
          have hne : ¬ ((s1 = s2 ∧ k1 = k2) ∧ l1 = l2 ∧ h1 = h2) := fun e => hxy (HE.out.2 e)
          have hneq : ∀ w, (binOp BinOp.neq 64 (.agg #[.string s1, .int .i64 k1, .int .i64 l1, .int .i64 h1]) (.agg #[.string s2, .int .i64 k2, .int .i64 l2, .int .i64 h2])).run Tryz.prog w = .ok (.bool true) w :=
            fun w => fact_neq _ _ _ _ _ _ _ _ w hne
          clear hk1 hk2 hl1 hl2 hh1 hh2 HE HK hxy hne
          go_upto_region 6 with fail
          go_region
          all_goals
            go_wp2_with fail
            go_ret
            exact Fc.Says.no hno.out HB1.out.below
      · have hki : ¬ (k : Int) < (n : Int) := by omega
        have hyes := Lib.hid (show P from HP.out.1.2 (by have := hq.out; rwa [show k = n by omega] at this))
        clear hq
        go_wp2_with fail
        go_ret
        exact Fc.Says.yes hyes.out hb.out.below
  · have hno := Lib.hid (show ¬ P from fun h => by rw [hP] at h; exact hlen (by rw [h]))
    have hi : ¬ ((l.length : Int) = (m.length : Int)) := by omega
    have HB0 := Lib.hid (Fc.Box2.start w (.slice a l.length c) (.slice a2 m.length c2))
    clear ha ha2 hc hc2 hP hlen
    go_enter Tryz.func22, Tryz.ntmps22
    go_wp2_with fail
    go_ret
    exact Fc.Says.no hno.out HB0.out.below
end Go.Proofs.YtoamkanofhhjfaaGreatDoor
