import Derived.Test.YtoamkanofhhjfaaGreatDoorKFOrder
import Derived.Test.YtoamkanofhhjfaaGreatDoorKESrc
import Derived.Lib.SmallJoins
import Derived.Test.YtoamkanofhhjfaaGreatDoorProg
import Derived.WalkKit
import Derived.WalkSpells
import Derived.WalkLawsBesides
import Derived.WalkSmall
import Derived.Lib.Hide
import Derived.Deep.Light
import Derived.Test.YtoamkanofhhjfaaGreatDoorKETok2
/-
  Facts and cases in memory: slices that are read; the heads of a domain.
-/
namespace Go.Proofs.YtoamkanofhhjfaaGreatDoor
open Go.RowKit

namespace Fc
open Lx
/-- The four cells of a fact. -/
def cellsF (f : Fact) : List Value := [.string (str f.name), .int .i64 f.kind, .int .i64 f.lo, .int .i64 f.hi]
/-- What a fact's parts are, whatever it is. -/
def Sized (f : Fact) : Prop := f.name.length ≤ 9223372036854775807 ∧ (-9223372036854775808 ≤ f.kind ∧ f.kind ≤ 9223372036854775807) ∧ (-9223372036854775808 ≤ f.lo ∧ f.lo ≤ 9223372036854775807) ∧ (-9223372036854775808 ≤ f.hi ∧ f.hi ≤ 9223372036854775807)
/-- A slice of facts that is read. -/
def IsF (w : World) (v : Value) (l : List Fact) : Prop :=
  ∃ a c, v = .slice a l.length c ∧ l.length ≤ c ∧ c ≤ 9223372036854775807 ∧ (∀ f ∈ l, Sized f) ∧ (l ≠ [] → ∃ g o, a = some ⟨g, o, none⟩ ∧ g < w.heap.size ∧ ∀ i f, l[i]? = some f →
    w.cell? ⟨g, o + i * 4, none⟩ = some (.string (str f.name)) ∧ w.cell? ⟨g, o + i * 4 + 1, none⟩ = some (.int .i64 f.kind) ∧ w.cell? ⟨g, o + i * 4 + 2, none⟩ = some (.int .i64 f.lo) ∧ w.cell? ⟨g, o + i * 4 + 3, none⟩ = some (.int .i64 f.hi))
theorem IsF.nil (w : World) : IsF w (.slice none 0 0) [] := ⟨none, 0, rfl, Nat.le_refl _, by decide, by simp, by simp⟩
theorem IsF.below {w w' : World} {v : Value} {l : List Fact} (h : IsF w v l) (hb : Below w.heap.size w w') : IsF w' v l := by
  obtain ⟨a, c, e, h1, h2, h4, h3⟩ := h
  refine ⟨a, c, e, h1, h2, h4, fun hne => ?_⟩
  obtain ⟨g, o, e2, hg, hc⟩ := h3 hne
  refine ⟨g, o, e2, Nat.lt_of_lt_of_le hg hb.size, fun i t ht => ?_⟩
  obtain ⟨q0, q1, q2, q3⟩ := hc i t ht
  exact ⟨(hb.cell (p := ⟨g, o + i * 4, none⟩) hg).trans q0, (hb.cell (p := ⟨g, o + i * 4 + 1, none⟩) hg).trans q1, (hb.cell (p := ⟨g, o + i * 4 + 2, none⟩) hg).trans q2, (hb.cell (p := ⟨g, o + i * 4 + 3, none⟩) hg).trans q3⟩
theorem IsF.form {w : World} {v : Value} {l : List Fact} (h : IsF w v l) : ∃ a c, v = .slice a l.length c ∧ l.length ≤ c ∧ c ≤ 9223372036854775807 := by
  obtain ⟨a, c, e, h1, h2, _⟩ := h; exact ⟨a, c, e, h1, h2⟩
theorem IsF.some {w : World} {v : Value} {l : List Fact} (h : IsF w v l) (hne : l ≠ []) : ∃ g o c, v = .slice (Option.some ⟨g, o, none⟩) l.length c ∧ l.length ≤ c ∧ c ≤ 9223372036854775807 ∧ g < w.heap.size ∧ ∀ i f, l[i]? = Option.some f →
    w.cell? ⟨g, o + i * 4, none⟩ = Option.some (.string (str f.name)) ∧ w.cell? ⟨g, o + i * 4 + 1, none⟩ = Option.some (.int .i64 f.kind) ∧ w.cell? ⟨g, o + i * 4 + 2, none⟩ = Option.some (.int .i64 f.lo) ∧ w.cell? ⟨g, o + i * 4 + 3, none⟩ = Option.some (.int .i64 f.hi) := by
  obtain ⟨a, c, e, h1, h2, _, h3⟩ := h
  obtain ⟨g, o, rfl, hg, hc⟩ := h3 hne
  exact ⟨g, o, c, e, h1, h2, hg, hc⟩
theorem IsF.sized {w : World} {v : Value} {l : List Fact} (h : IsF w v l) : ∀ f ∈ l, Sized f := by
  obtain ⟨_, _, _, _, _, h4, _⟩ := h; exact h4
/-- One form for a slice of facts, empty or not: what a walk reads. -/
theorem IsF.any {w : World} {v : Value} {l : List Fact} (h : IsF w v l) : ∃ a c g o, v = .slice a l.length c ∧ l.length ≤ c ∧ c ≤ 9223372036854775807 ∧ (l ≠ [] → a = Option.some ⟨g, o, none⟩ ∧ g < w.heap.size) ∧ ∀ i f, l[i]? = Option.some f →
    w.cell? ⟨g, o + i * 4, none⟩ = Option.some (.string (str f.name)) ∧ w.cell? ⟨g, o + i * 4 + 1, none⟩ = Option.some (.int .i64 f.kind) ∧ w.cell? ⟨g, o + i * 4 + 2, none⟩ = Option.some (.int .i64 f.lo) ∧ w.cell? ⟨g, o + i * 4 + 3, none⟩ = Option.some (.int .i64 f.hi) := by
  by_cases hne : l = []
  · subst hne
    obtain ⟨a, c, e, h1, h2⟩ := h.form
    exact ⟨a, c, 0, 0, e, h1, h2, fun h => absurd rfl h, by simp⟩
  · obtain ⟨g, o, c, e, h1, h2, hg, hc⟩ := h.some hne
    exact ⟨_, c, g, o, e, h1, h2, fun _ => ⟨rfl, hg⟩, hc⟩

/-- A slice of numbers that is read. -/
def IsN (w : World) (v : Value) (l : List Int) : Prop :=
  ∃ (a : Option Addr) (cap : Nat), v = .slice a l.length cap ∧ l.length ≤ cap ∧ cap ≤ 9223372036854775807 ∧ (∀ x ∈ l, -9223372036854775808 ≤ x ∧ x ≤ 9223372036854775807) ∧
    (l ≠ [] → ∃ b off, a = some ⟨b, off, none⟩ ∧ b < w.heap.size ∧ ∀ i, i < l.length → w.cell? ⟨b, off + i, none⟩ = some (.int .i64 (l.getD i 0)))
theorem IsN.nil (w : World) : IsN w (.slice none 0 0) [] := ⟨none, 0, rfl, Nat.le_refl _, by decide, by simp, by simp⟩
theorem IsN.below {w w' : World} {v : Value} {l : List Int} (h : IsN w v l) (hb : Below w.heap.size w w') : IsN w' v l := by
  obtain ⟨a, cap, rfl, h1, h2, h3, h4⟩ := h
  refine ⟨a, cap, rfl, h1, h2, h3, fun hne => ?_⟩
  obtain ⟨b, off, rfl, hlt, hc⟩ := h4 hne
  exact ⟨b, off, rfl, Nat.lt_of_lt_of_le hlt hb.size, fun i hi => (hb.cell (p := ⟨b, off + i, none⟩) hlt).trans (hc i hi)⟩
theorem IsN.any {w : World} {v : Value} {l : List Int} (h : IsN w v l) : ∃ a c g o, v = .slice a l.length c ∧ l.length ≤ c ∧ c ≤ 9223372036854775807 ∧ (l ≠ [] → a = Option.some ⟨g, o, none⟩ ∧ g < w.heap.size) ∧ ∀ i, i < l.length → w.cell? ⟨g, o + i, none⟩ = Option.some (.int .i64 (l.getD i 0)) := by
  obtain ⟨a, c, e, h1, h2, _, h3⟩ := h
  by_cases hne : l = []
  · subst hne
    exact ⟨a, c, 0, 0, e, h1, h2, fun h => absurd rfl h, by simp⟩
  · obtain ⟨g, o, rfl, hg, hc⟩ := h3 hne
    exact ⟨_, c, g, o, e, h1, h2, fun _ => ⟨rfl, hg⟩, hc⟩
theorem IsN.bounds {w : World} {v : Value} {l : List Int} (h : IsN w v l) : ∀ x ∈ l, -9223372036854775808 ≤ x ∧ x ≤ 9223372036854775807 := by
  obtain ⟨_, _, _, _, _, h3, _⟩ := h; exact h3

/-! ### What valid domains are, in parts that a walk can find out -/
theorem good1 (t : T) : Lx.Good 1 t 0 ↔ ∃ c r, t = c :: r ∧ isLetter c = true ∧ r.all isWord = true ∧ (c :: r).length ≤ 24 := by
  constructor
  · rintro (⟨_, _, c, r, e, h1, h2, h3⟩ | ⟨h, _⟩ | ⟨h, _⟩)
    · subst e; exact ⟨c, r, rfl, h1, h2, h3⟩
    · cases h
    · cases h
  · rintro ⟨c, r, e, h1, h2, h3⟩
    subst e; exact .inl ⟨rfl, rfl, c, r, rfl, h1, h2, h3⟩
/-- What isBounded says. -/
def Bounded (f : Fact) : Prop := (f.kind = 1 ∧ f.lo = 0 ∧ f.hi = 1) ∨ ((f.kind = 2 ∨ f.kind = 3) ∧ 0 ≤ f.lo ∧ f.lo ≤ f.hi ∧ f.hi ≤ 1000000)
theorem ok_iff (f : Fact) : Ok f ↔ Lx.Good 1 f.name 0 ∧ Bounded f := by
  constructor
  · intro h
    refine ⟨h.name, ?_⟩
    rcases h.kind with k | k | k
    · exact .inl ⟨k, h.flag k⟩
    · exact .inr ⟨.inl k, h.low, h.le, h.high⟩
    · exact .inr ⟨.inr k, h.low, h.le, h.high⟩
  · rintro ⟨h1, ⟨k, h2, h3⟩ | ⟨k, h2, h3, h4⟩⟩
    · exact ⟨h1, by omega, by omega, by omega, .inl k, fun _ => ⟨h2, h3⟩⟩
    · exact ⟨h1, h2, h3, h4, .inr k, fun h => by rcases k with k | k <;> omega⟩
/-- The index of the first fact with a name, -1 if there is none. -/
def idx (d : List Fact) (name : T) : Int := match index d name with | some i => (i : Int) | none => -1
theorem idx_some {d : List Fact} {name : T} {i : Nat} (h : index d name = some i) : idx d name = i := by unfold idx; rw [h]
theorem idx_none {d : List Fact} {name : T} (h : index d name = none) : idx d name = -1 := by unfold idx; rw [h]
theorem index_none_iff {d : List Fact} {name : T} : index d name = none ↔ name ∉ d.map (·.name) := by
  unfold index
  rw [List.findIdx?_eq_none_iff]
  constructor
  · intro h hin
    obtain ⟨f, hf, rfl⟩ := List.mem_map.1 hin
    have := h f hf
    simp at this
  · intro h f hf
    rw [beq_eq_false_iff_ne]
    rintro rfl
    exact h (List.mem_map.2 ⟨f, hf, rfl⟩)
theorem index_some_iff {d : List Fact} {name : T} {i : Nat} : index d name = some i ↔ ∃ f, d[i]? = some f ∧ f.name = name ∧ ∀ j, j < i → ∀ g, d[j]? = some g → g.name ≠ name := by
  unfold index
  rw [List.findIdx?_eq_some_iff_getElem]
  constructor
  · rintro ⟨h, h1, h2⟩
    refine ⟨d[i], List.getElem?_eq_getElem h, by simpa using h1, fun j hj g hg => ?_⟩
    obtain ⟨hj2, rfl⟩ := List.getElem?_eq_some_iff.1 hg
    have := h2 j hj
    simpa using this
  · rintro ⟨f, hf, hn, h2⟩
    obtain ⟨h, rfl⟩ := List.getElem?_eq_some_iff.1 hf
    refine ⟨h, by simpa using hn, fun j hj => ?_⟩
    have := h2 j hj d[j] (List.getElem?_eq_getElem (by omega))
    simpa using this
theorem idx_lt {d : List Fact} {name : T} : -1 ≤ idx d name ∧ idx d name < (d.length : Int) := by
  cases h : index d name with
  | none => rw [idx_none h]; omega
  | some i =>
    rw [idx_some h]
    obtain ⟨f, hf, _⟩ := index_some_iff.1 h
    have := (List.getElem?_eq_some_iff.1 hf).1
    omega
/-- A fact that is as it must be, among all. -/
def OkAt (d : List Fact) (i : Nat) : Prop := ∀ f, d[i]? = some f → Lx.Good 1 f.name 0 ∧ Bounded f ∧ ¬ idx d f.name < i
theorem valid_iff (d : List Fact) : Valid d ↔ d.length ≤ 60 ∧ ∀ i, i < d.length → OkAt d i := by
  constructor
  · rintro ⟨h1, h2, h3⟩
    refine ⟨h3, fun i hi f hf => ?_⟩
    have hok := (ok_iff f).1 (h1 f (List.mem_of_getElem? hf))
    refine ⟨hok.1, hok.2, ?_⟩
    rw [idx_some (index_at h2 hf)]; omega
  · rintro ⟨h3, h⟩
    refine ⟨fun f hf => ?_, ?_, h3⟩
    · obtain ⟨i, hi, rfl⟩ := List.getElem_of_mem hf
      obtain ⟨a, b, _⟩ := h i hi _ (List.getElem?_eq_getElem hi)
      exact (ok_iff _).2 ⟨a, b⟩
    · refine List.pairwise_iff_getElem.2 fun i j hi hj hij e => ?_
      rw [List.length_map] at hi hj
      have e : d[i].name = d[j].name := by simpa using e
      obtain ⟨_, _, h3⟩ := h j hj _ (List.getElem?_eq_getElem hj)
      apply h3
      cases hx : index d d[j].name with
      | none => rw [idx_none hx]; omega
      | some k =>
        rw [idx_some hx]
        obtain ⟨_, _, _, hk⟩ := index_some_iff.1 hx
        have : ¬ i < k := fun hik => hk i hik _ (List.getElem?_eq_getElem (by omega)) e
        omega
end Fc
end Go.Proofs.YtoamkanofhhjfaaGreatDoor
/-
  The walks of fact.isLetter, isBounded and isValue.
-/
namespace Go.Proofs.YtoamkanofhhjfaaGreatDoor
open Go.RowKit

set_option maxHeartbeats 1000000 in
set_option maxRecDepth 100000 in
theorem isletter_walk (b : UInt8) (w : World) :
    Calls Tryz.prog 68 #[.int .u8 b.toNat] w fun e w' => e = .returned (.bool (Lx.isLetter b)) ∧ w = w' := by
  go_enter Tryz.func68, Tryz.ntmps68
  go_wp2
  all_goals
    go_ret
    exact ⟨Lx.ret_bool (by rw [Bool.eq_iff_iff, Lx.letter_iff]; simp; omega), rfl⟩

/-- A bool that says something, over a world of which nothing old has turned. -/
def Fc.Says (P : Prop) (w : World) (e : Ending) (w' : World) : Prop := (∃ b : Bool, e = .returned (.bool b) ∧ (b = true ↔ P)) ∧ Below w.heap.size w w'
/-- The value of a fact. -/
abbrev Fc.vF (f : Fc.Fact) : Value := .agg #[.string (Lx.str f.name), .int .i64 f.kind, .int .i64 f.lo, .int .i64 f.hi]

set_option maxHeartbeats 2000000 in
set_option maxRecDepth 100000 in
theorem isbounded_walk (s : ByteArray) (k lo hi : Int) (w : World) :
    Calls Tryz.prog 41 #[.agg #[.string s, .int .i64 k, .int .i64 lo, .int .i64 hi]] w (Fc.Says ((k = 1 ∧ lo = 0 ∧ hi = 1) ∨ ((k = 2 ∨ k = 3) ∧ 0 ≤ lo ∧ lo ≤ hi ∧ hi ≤ 1000000)) w) := by
  have HB := Lib.hid ((Below.refl w.heap.size w).alloc (Nat.le_refl _) (.cells #[.string s, .int .i64 k, .int .i64 lo, .int .i64 hi] 64))
  obtain ⟨P, hP⟩ : ∃ P : Prop, P = ((k = 1 ∧ lo = 0 ∧ hi = 1) ∨ ((k = 2 ∨ k = 3) ∧ 0 ≤ lo ∧ lo ≤ hi ∧ hi ≤ 1000000)) := ⟨_, rfl⟩
  rw [← hP]
  have HP := Lib.hid hP
  clear hP
  have hk : k = 1 ∨ k = 2 ∨ k = 3 ∨ (k ≠ 1 ∧ k ≠ 2 ∧ k ≠ 3) := by omega
  rcases hk with rfl | rfl | rfl | ⟨k1, k2, k3⟩
  all_goals
    go_enter Tryz.func41, Tryz.ntmps41
    go_wp2
  all_goals
    go_ret
    have HP2 := HP.out
    clear HP
    try subst_vars
    refine ⟨⟨_, rfl, ?_⟩, HB.out⟩
    clear HB
    simp
    try omega

set_option maxHeartbeats 2000000 in
set_option maxRecDepth 100000 in
theorem isvalue_walk (n : Int) (s : ByteArray) (k lo hi : Int) (w : World) :
    Calls Tryz.prog 43 #[.int .i64 n, .agg #[.string s, .int .i64 k, .int .i64 lo, .int .i64 hi]] w (Fc.Says (lo ≤ n ∧ n ≤ hi) w) := by
  have HB := Lib.hid ((Below.refl w.heap.size w).alloc (Nat.le_refl _) (.cells #[.string s, .int .i64 k, .int .i64 lo, .int .i64 hi] 64))
  obtain ⟨P, hP⟩ : ∃ P : Prop, P = (lo ≤ n ∧ n ≤ hi) := ⟨_, rfl⟩
  rw [← hP]
  have HP := Lib.hid hP
  clear hP
  go_enter Tryz.func43, Tryz.ntmps43
  go_wp2
  all_goals
    go_ret
    have HP2 := HP.out
    clear HP
    refine ⟨⟨_, rfl, ?_⟩, HB.out⟩
    rw [HP2]
    simp
    try omega
end Go.Proofs.YtoamkanofhhjfaaGreatDoor
/-
  The walk of fact.isName.
-/
namespace Go.Proofs.YtoamkanofhhjfaaGreatDoor
open Go.RowKit

namespace Fc
open Lx
/-- Whether a text is a name. -/
def isNm (s : T) : Bool := s.all isWord && decide (0 < s.length) && decide (s.length ≤ 24) && hd isLetter s
theorem isNm_iff (s : T) : isNm s = true ↔ Lx.Good 1 s 0 := by
  unfold isNm
  simp only [Bool.and_eq_true, decide_eq_true_eq]
  constructor
  · intro h
    refine good_name h.1.1.1 (fun e => by rw [e] at h; simp at h) h.1.2 (fun c r e => ?_)
    have := h.2
    rw [e] at this
    exact this
  · intro h
    obtain ⟨c, r, rfl, h1, h2, h3⟩ := (good1 s).1 h
    exact ⟨⟨⟨by rw [List.all_cons, letter_word h1, h2]; rfl, by simp⟩, h3⟩, h1⟩
theorem isNm_at (u : ByteArray) (h0 : 0 < u.size) (h24 : u.size ≤ 24) : isNm (tx u) = (isLetter u[0] && (tx u).all isWord) := by
  unfold isNm
  have := drop_at u 0 h0
  rw [List.drop_zero] at this
  rw [tx_len, decide_eq_true h0, decide_eq_true h24, Bool.and_true, Bool.and_true, Bool.and_comm]
  congr 1
  rw [this]; rfl
end Fc

set_option maxHeartbeats 4000000 in
set_option maxRecDepth 100000 in
theorem isname_walk (u : ByteArray) (hu : u.size ≤ 9223372036854775807) (w : World) :
    Calls Tryz.prog 40 #[.string u] w fun e w' => e = .returned (.bool (Fc.isNm (Lx.tx u))) ∧ w = w' := by
  obtain ⟨z, hz⟩ : ∃ z, z = Fc.isNm (Lx.tx u) := ⟨_, rfl⟩
  rw [← hz]
  by_cases h0 : u.size = 0
  · have hue : u = ⟨#[]⟩ := by
      apply ByteArray.ext
      exact Array.eq_empty_of_size_eq_zero h0
    subst hue
    have hzf : z = false := by rw [hz]; rfl
    subst hzf
    clear hz h0 hu
    go_enter Tryz.func40, Tryz.ntmps40
    go_wp2_with fail
    go_ret
    exact ⟨rfl, rfl⟩
  have hp : 0 < u.size := by omega
  have hne : u.toList.isEmpty = false := by
    rw [Lib.toList_data]
    cases h : u.data.toList with
    | nil => exact absurd (show u.data.toList.length = 0 by rw [h]; rfl) h0
    | cons c r => rfl
  by_cases h24 : u.size ≤ 24
  · have hzz := Fc.isNm_at u hp h24
    rw [← hz] at hzz
    clear hz
    cases hl : Lx.isLetter u[0] with
    | false =>
      rw [hl, Bool.false_and] at hzz
      subst hzz
      have HL := Lib.hid (isletter_walk u[0] w)
      rw [hl] at HL
      clear hl
      have h24' : ¬ (24 : Int) < (u.size : Int) := by omega
      go_enter Tryz.func40, Tryz.ntmps40
      go_wp2_with (first | (refine HL.out.mono ?_; rintro e w1 ⟨rfl, rfl⟩))
      go_ret
      exact ⟨rfl, rfl⟩
    | true =>
      rw [hl, Bool.true_and] at hzz
      have HL := Lib.hid (isletter_walk u[0] w)
      rw [hl] at HL
      clear hl
      have HZ := Lib.hid hzz
      clear hzz
      have h24' : ¬ (24 : Int) < (u.size : Int) := by omega
      have HALL : Hid (∀ k (hk : k < u.size), ((Lx.tx u).drop k).all Lx.isWord = (Lx.isWord u[k] && ((Lx.tx u).drop (k + 1)).all Lx.isWord)) := fun k hk => by
        rw [Lx.drop_at u k hk, List.all_cons]
      go_enter Tryz.func40, Tryz.ntmps40
      go_wp2_with (first | (refine HL.out.mono ?_; rintro e w1 ⟨rfl, rfl⟩))
      clear HL h24' hne
      go_loop [20] (fun i => ∃ k : Nat, k ≤ u.size ∧ i = .int .i64 k ∧ Hid ((Lx.tx u).all Lx.isWord = ((Lx.tx u).drop k).all Lx.isWord)) (fun i => u.size - (intOf i).toNat)
      case atStart => exact ⟨0, Nat.zero_le _, rfl, by show _ = _; rw [List.drop_zero]⟩
      case round =>
        obtain ⟨k, hk, rfl, hd⟩ := hrel
        by_cases hlt : k < u.size
        · have hki : (k : Int) < (u.size : Int) := by omega
          have HD : Hid (Lx.isWord u[k] = true → (Lx.tx u).all Lx.isWord = ((Lx.tx u).drop (k + 1)).all Lx.isWord) := fun h => by rw [hd.out, HALL.out k hlt, h, Bool.true_and]
          have HF : Hid (Lx.isWord u[k] = false → z = false) := fun h => by rw [HZ.out, hd.out, HALL.out k hlt, h, Bool.false_and]
          have HL := Lib.hid (isletter_walk u[k] w)
          have HW := Lib.hid (Lx.word_iff u[k])
          have HG := Lib.hid (Lx.digit_iff u[k])
          cases hl : Lx.isLetter u[k] with
          | true =>
            rw [hl] at HL
            have HD2 := Lib.hid (HD.out (HW.out.2 (.inl (.inl hl))))
            clear hl hd HD HF HW HG
            go_wp2_with (first | (refine HL.out.mono ?_; rintro e w1 ⟨rfl, rfl⟩))
            go_round
            case rel => exact ⟨k + 1, by omega, by go_num, HD2⟩
            case measure => simp [intOf]; omega
          | false =>
            rw [hl] at HL
            have HW2 : Hid (Lx.isWord u[k] = true ↔ (48 ≤ u[k].toNat ∧ u[k].toNat ≤ 57) ∨ u[k].toNat = 95) := by
              show _ ↔ _
              rw [HW.out, hl, HG.out]; simp
            clear hl hd HW HG
            go_wp2_with (first | (refine HL.out.mono ?_; rintro e w1 ⟨rfl, rfl⟩))
            all_goals first
              | (go_round
                 case rel => exact ⟨k + 1, by omega, by go_num, HD.out (HW2.out.2 (by simp at *; omega))⟩
                 case measure => simp [intOf]; omega)
              | (have hzf := HF.out (by
                   cases hw : Lx.isWord u[k] with
                   | false => rfl
                   | true => exfalso; have := HW2.out.1 hw; simp at *; omega)
                 subst hzf
                 go_ret
                 exact ⟨rfl, rfl⟩)
        · have hki : ¬ (k : Int) < (u.size : Int) := by omega
          have hzt : z = true := by rw [HZ.out, hd.out, Lx.drop_end u k (by omega)]; rfl
          subst hzt
          clear hd
          go_wp2_with fail
          go_ret
          exact ⟨rfl, rfl⟩
  · have hzf : z = false := by rw [hz]; unfold Fc.isNm; rw [Lx.tx_len, decide_eq_false h24]; simp
    subst hzf
    have h24' : (24 : Int) < (u.size : Int) := by omega
    clear hz h24
    go_enter Tryz.func40, Tryz.ntmps40
    go_wp2_with fail
    go_ret
    exact ⟨rfl, rfl⟩
end Go.Proofs.YtoamkanofhhjfaaGreatDoor
