import Derived.Test.YtoamkanofhhjfaaDoorKFFits
/-
  The walks of pandectref06.Few and of the law's few.
-/
namespace Go.Proofs.YtoamkanofhhjfaaDoor
open Go.RowKit

namespace Fc
/-- What few says. -/
def Few (l : List Fact) (most : Nat) : Prop := l.length ≤ most ∧ ∀ f ∈ l, f.name.length ≤ 100
/-- The first names are short. -/
def FewTo (l : List Fact) (k : Nat) : Prop := ∀ j, j < k → ∀ f, l[j]? = some f → f.name.length ≤ 100
theorem FewTo.all {l : List Fact} (h : FewTo l l.length) : ∀ f ∈ l, f.name.length ≤ 100 := by
  intro f hf
  obtain ⟨i, hi, rfl⟩ := List.getElem_of_mem hf
  exact h i hi _ (List.getElem?_eq_getElem hi)
theorem FewTo.succ {l : List Fact} {k : Nat} {f : Fact} (h : FewTo l k) (hf : l[k]? = some f) (hn : f.name.length ≤ 100) : FewTo l (k + 1) := by
  intro j hj g hg
  by_cases e : j = k
  · subst e; rw [hf] at hg; obtain rfl := Option.some.inj hg; exact hn
  · exact h j (by omega) g hg
end Fc

set_option maxHeartbeats 4000000 in
set_option maxRecDepth 100000 in
theorem reffew_walk (v : Value) (l : List Fc.Fact) (w : World) (hv : Fc.IsF w v l) :
    Calls Tryd.prog 23 #[.agg #[v], .int .i64 70] w (Fc.Says (Fc.Few l 70) w) := by
  obtain ⟨P, hP⟩ : ∃ P : Prop, P = Fc.Few l 70 := ⟨_, rfl⟩
  rw [← hP]
  obtain ⟨a, c, g, o, rfl, hn1, hn2, hga, hcl⟩ := hv.any
  obtain ⟨n, hn⟩ : ∃ n, n = l.length := ⟨_, rfl⟩
  have HS := Lib.hid hv.sized
  rw [← hn] at hn1 ⊢
  have HP : Hid ((P → n ≤ 70 ∧ ∀ f ∈ l, f.name.length ≤ 100) ∧ (n ≤ 70 → Fc.FewTo l n → P) ∧ n = l.length) := (by
    rw [hP]
    exact ⟨fun h => ⟨by rw [hn]; exact h.1, h.2⟩, fun h1 h2 => ⟨by rw [← hn]; exact h1, by rw [hn] at h2; exact h2.all⟩, hn⟩ : (P → n ≤ 70 ∧ ∀ f ∈ l, f.name.length ≤ 100) ∧ (n ≤ 70 → Fc.FewTo l n → P) ∧ n = l.length)
  have HG : Hid (0 < n → a = some ⟨g, o, none⟩ ∧ g < w.heap.size) := (fun h => hga (by rintro rfl; rw [hn] at h; simp at h) : 0 < n → a = some ⟨g, o, none⟩ ∧ g < w.heap.size)
  have HC := Lib.hid hcl
  have hnb : n ≤ 9223372036854775807 := Nat.le_trans hn1 hn2
  have HB0 := Lib.hid (Boxed.start w (.slice a n c))
  clear hv hga hcl hP hn hn1 hn2
  go_enter Tryd.func23, Tryd.ntmps23
  go_wp2_with fail
  go_loopw [5] (fun i wr => ∃ k : Nat, k ≤ n ∧ k ≤ 70 ∧ i = .int .i64 k ∧ Hid (Fc.FewTo l k) ∧ Hid (Boxed w (.slice a n c) wr)) (fun i _ => n - (intOf i).toNat)
  case atStart => exact ⟨0, Nat.zero_le _, Nat.zero_le _, rfl, fun j hj => absurd hj (by omega), HB0⟩
  case round =>
    obtain ⟨k, hk, hk7, rfl, hq, hb⟩ := hrel
    clear HB0
    have b1 := hb.out.cell
    by_cases hlt : k < n
    · have hki : (k : Int) < (n : Int) := by omega
      have hk0 : (0 : Int) ≤ (k : Int) := by omega
      by_cases hl7 : k < 70
      · have hki7 : (k : Int) < 70 := by omega
        obtain ⟨rfl, hgl⟩ := HG.out (by omega)
        obtain ⟨f, hf⟩ : ∃ f, l[k]? = some f := ⟨_, List.getElem?_eq_getElem (by rw [← HP.out.2.2]; exact hlt)⟩
        obtain ⟨q0, _, _, _⟩ := HC.out k f hf
        have p0 := (hb.out.below.cell (p := ⟨g, o + k * 4, none⟩) hgl).trans q0
        obtain ⟨s, hs⟩ : ∃ s, s = Lx.str f.name := ⟨_, rfl⟩
        rw [← hs] at p0
        have hsz : s.size = f.name.length := by rw [hs, Fc.str_size]
        have HK := Lib.hid (fun h : s.size ≤ 100 => hq.out.succ hf (by rw [← hsz]; exact h))
        have HN := Lib.hid (fun h : ¬ s.size ≤ 100 => show ¬ P from fun hp => h (by rw [hsz]; exact (HP.out.1 hp).2 f (List.mem_of_getElem? hf)))
        clear q0 hs hsz hf hq
        by_cases h100 : s.size ≤ 100
        · have h100i : ¬ (100 : Int) < (s.size : Int) := by omega
          have HK1 := Lib.hid (HK.out h100)
          go_wp2_with fail
          go_roundw
          case rel => exact ⟨k + 1, by omega, by omega, by go_num, HK1, hb⟩
          case measure => simp [intOf]; omega
        · have h100i : (100 : Int) < (s.size : Int) := by omega
          have hno := Lib.hid (HN.out h100)
          go_wp2_with fail
          go_ret
          exact Fc.Says.no hno.out hb.out.below
      · have hki7 : ¬ (k : Int) < 70 := by omega
        have hno := Lib.hid (show ¬ P from fun hp => by have := (HP.out.1 hp).1; omega)
        have hni : ¬ (n : Int) ≤ 70 := by omega
        clear hq
        go_wp2_with fail
        go_ret
        exact Fc.Says.no hno.out hb.out.below
    · have hki : ¬ (k : Int) < (n : Int) := by omega
      have hni : (n : Int) ≤ 70 := by omega
      have hyes := Lib.hid (show P from HP.out.2.1 (by omega) (by have := hq.out; rwa [show k = n by omega] at this))
      clear hq
      go_wp2_with fail
      go_ret
      exact Fc.Says.yes hyes.out hb.out.below

set_option maxHeartbeats 4000000 in
set_option maxRecDepth 100000 in
theorem few_walk (v u : Value) (l : List Fc.Fact) (m : List Int) (w : World) (hv : Fc.IsF w v l) (hu : Fc.IsN w u m) :
    Calls Tryd.prog 9 #[.agg #[v], u] w (Fc.Says (Fc.Few l 70 ∧ m.length ≤ 70) w) := by
  have HR := Lib.hid (fun w' hb => reffew_walk v l w' (hv.below hb))
  obtain ⟨a2, c2, _, _, rfl, h1, h2, h3, h4⟩ := hu.any
  obtain ⟨a, c, rfl, _, _⟩ := hv.form
  obtain ⟨n2, hn2⟩ : ∃ n, n = m.length := ⟨_, rfl⟩
  obtain ⟨n, hn⟩ : ∃ n, n = l.length := ⟨_, rfl⟩
  rw [← hn] at HR ⊢
  rw [← hn2] at h1 ⊢
  clear hv hu h3 h4 hn hn2
  obtain ⟨Q, hQ⟩ : ∃ Q : Prop, Q = Fc.Few l 70 := ⟨_, rfl⟩
  rw [← hQ] at HR ⊢
  clear hQ
  obtain ⟨P, hP⟩ : ∃ P : Prop, P = (Q ∧ n2 ≤ 70) := ⟨_, rfl⟩
  rw [← hP]
  have HP := Lib.hid hP
  have HB := Lib.hid (boxD_below w (.slice a n c))
  have HR1 := Lib.hid (HR.out _ HB.out)
  clear HR hP
  have key : ∀ b : Bool, (b = true ↔ Q) → ((b && decide ((n2 : Int) ≤ 70)) = true ↔ P) := fun b hb => by
    rw [HP.out, Bool.and_eq_true, decide_eq_true_iff, hb]
    constructor
    · rintro ⟨q, h⟩; exact ⟨q, by omega⟩
    · rintro ⟨q, h⟩; exact ⟨q, by omega⟩
  have KEY := Lib.hid key
  clear key
  go_enter Tryd.func9, Tryd.ntmps9
  go_wp2_with fail
  refine HR1.out.mono ?_
  rintro e w3 ⟨⟨b, rfl, hb⟩, hb3⟩
  have HK := Lib.hid (KEY.out b hb)
  have HB3 := Lib.hid (HB.out.trans (hb3.mono HB.out.size))
  clear KEY hb hb3 HR1
  cases b with
  | false =>
    go_wp2_with fail
    go_ret
    exact Fc.Says.no (fun hp => by have := HK.out.2 hp; simp at this) HB3.out
  | true =>
    by_cases hm : n2 ≤ 70
    · have hmi : (n2 : Int) ≤ 70 := by omega
      have hyes := Lib.hid (show P from HK.out.1 (by simp; omega))
      clear HK hm
      go_wp2_with fail
      go_ret
      exact Fc.Says.yes hyes.out HB3.out
    · have hmi : decide ((n2 : Int) ≤ 70) = false := decide_eq_false (by omega)
      have hno := Lib.hid (show ¬ P from fun hp => by have := HK.out.2 hp; simp at this; omega)
      clear HK hm
      go_wp2_with fail
      go_ret
      exact Fc.Says.no hno.out HB3.out
end Go.Proofs.YtoamkanofhhjfaaDoor
