import Derived.Test.YthhfcijgcpnfcaaDoorKSVerify
import Derived.Test.YthhfcijgcpnfcaaDoorKRSame
import Derived.Test.YthhfcijgcpnfcaaDoorKDFew
/-
  The walks of the law's short and of the reference's Few and Same (stage 3).
-/
namespace Go.Proofs.YthhfcijgcpnfcaaDoor
open Go.RowKit

namespace Sl
/-- Texts of at most 300 bytes. -/
def short (l : List ByteArray) : Bool := l.all fun s => decide (s.size ≤ 300)
def shortTo (l : List ByteArray) (k : Nat) : Prop := (l.take k).all (fun s => decide (s.size ≤ 300)) = true
theorem shortTo_succ {l : List ByteArray} {k : Nat} (h : k < l.length) (hk : shortTo l k) (hb : (l.getD k ByteArray.empty).size ≤ 300) : shortTo l (k + 1) := by
  unfold shortTo at *
  rw [Dg.getD_eq l k h] at hb
  rw [List.take_succ_eq_append_getElem h, List.all_append, hk]; simp [hb]
theorem short_no {l : List ByteArray} {k : Nat} (h : k < l.length) (hb : 300 < (l.getD k ByteArray.empty).size) : short l = false := by
  rw [Dg.getD_eq l k h] at hb
  unfold short
  rw [List.all_eq_false]
  exact ⟨l[k], List.getElem_mem _, by simp; omega⟩
theorem short_yes {l : List ByteArray} (hk : shortTo l l.length) : short l = true := by
  unfold shortTo at hk
  rw [List.take_length] at hk
  exact hk
theorem short_out {l : List ByteArray} (h : short l = true) : ∀ s ∈ l, s.size ≤ 300 := fun s hs => by simpa using List.all_eq_true.1 h s hs
/-- A seal of few short texts. -/
def few (ls lp : List ByteArray) : Bool := Dg.few ls 100 && Dg.few lp 100
theorem few_out {ls lp : List ByteArray} (h : few ls lp = true) : (∀ s ∈ ls, s.size ≤ 100) ∧ (∀ s ∈ lp, s.size ≤ 100) ∧ ls.length ≤ 30 ∧ lp.length ≤ 30 := by
  unfold few Dg.few at h
  simp only [Bool.and_eq_true, decide_eq_true_eq, List.all_eq_true] at h
  exact ⟨fun s hs => h.1.1 s hs, fun s hs => h.2.1 s hs, h.1.2, h.2.2⟩
theorem few_most {l : List ByteArray} {k : Nat} (h30 : ¬ k < 30) (hk : k ≤ l.length) (hne : k ≠ l.length) : Dg.few l 100 = false := by
  unfold Dg.few
  rw [decide_eq_false (p := l.length ≤ 30) (by omega), Bool.and_false]
end Sl

set_option maxHeartbeats 1000000 in
set_option maxRecDepth 100000 in
theorem short_walk (v : Value) (l : List ByteArray) (w : World) (hv : IsTx w v l) :
    Calls Tryd.prog 11 #[v] w fun e w' => e = .returned (.bool (Sl.short l)) ∧ w = w' := by
  obtain ⟨a, cap, rfl, h1, h2, hne⟩ := hv
  by_cases h0 : l = []
  · subst h0
    clear hne
    go_enter Tryd.func11, Tryd.ntmps11
    go_wp2_with fail
    refine wp_loop_rounds 1 ?_
    rw [rounds_succ]
    go_wp2_with fail
    go_ret
    exact ⟨rfl, rfl⟩
  · obtain ⟨b, off, rfl, _, hc⟩ := hne h0
    clear hne h0
    go_enter Tryd.func11, Tryd.ntmps11
    go_wp2_with fail
    go_loop [3] (fun i => ∃ k : Nat, k ≤ l.length ∧ i = .int .i64 k ∧ Sl.shortTo l k) (fun i => l.length - (intOf i).toNat)
    case atStart => exact ⟨0, Nat.zero_le _, rfl, rfl⟩
    case round =>
      obtain ⟨k, hk, rfl, hto⟩ := hrel
      by_cases hlt : k < l.length
      · obtain ⟨t, htk⟩ : ∃ t, t = l.getD k ByteArray.empty := ⟨_, rfl⟩
        have hcell : w.cell? ⟨b, off + k, none⟩ = some (.string t) := by rw [hc k hlt, htk]
        have HT := Lib.hid htk
        clear hc htk
        by_cases hm : (300 : Int) < t.size
        · go_wp2_with fail
          go_ret
          exact ⟨by rw [Sl.short_no hlt (by rw [← HT.out]; omega)]; rfl, rfl⟩
        · go_wp2_with fail
          go_round
          case rel => exact ⟨k + 1, by omega, by go_num, Sl.shortTo_succ hlt hto (by rw [← HT.out]; omega)⟩
          case measure => simp [intOf]; omega
      · have hke : Hid (k = l.length) := by show _ = _; omega
        clear hc
        go_wp2_with fail
        go_ret
        exact ⟨by rw [Sl.short_yes (hke.out ▸ hto)]; rfl, rfl⟩

set_option maxHeartbeats 2000000 in
set_option maxRecDepth 100000 in
theorem few03_walk (v : Value) (i : Int) (ls lp : List ByteArray) (w : World) (hv : IsSeal w v i ls lp) :
    Calls Tryd.prog 12 #[v] w fun e w' => e = .returned (.bool (Sl.few ls lp)) ∧ Below w.heap.size w w' := by
  obtain ⟨vs, vp, rfl, ⟨a1, c1, rfl, _, _, hs⟩, ⟨a2, c2, rfl, _, _, hp⟩⟩ := hv
  obtain ⟨W, hW⟩ : ∃ W, W = w.alloc (.cells #[.int .i64 i, .slice a1 ls.length c1, .slice a2 lp.length c2] 24) := ⟨_, rfl⟩
  have hb : Below w.heap.size w W := by rw [hW]; exact (Below.refl _ _).alloc (Nat.le_refl _) _
  have d1 : W.cell? ⟨w.heap.size, 1, none⟩ = some (.slice a1 ls.length c1) := by rw [hW]; exact World.cell?_alloc_at _ _ _ _ rfl
  have d2 : W.cell? ⟨w.heap.size, 2, none⟩ = some (.slice a2 lp.length c2) := by rw [hW]; exact World.cell?_alloc_at _ _ _ _ rfl
  have HS : Hid (∀ k, k < ls.length → ∃ b off, a1 = some ⟨b, off, none⟩ ∧ W.cell? ⟨b, off + k, none⟩ = some (.string (ls.getD k ByteArray.empty))) := fun k hk => by
    obtain ⟨b, off, e, hlt, hc⟩ := hs (by intro e; rw [e] at hk; simp at hk)
    exact ⟨b, off, e, (hb.cell (p := ⟨b, off + k, none⟩) hlt).trans (hc k hk)⟩
  have HP : Hid (∀ k, k < lp.length → ∃ b off, a2 = some ⟨b, off, none⟩ ∧ W.cell? ⟨b, off + k, none⟩ = some (.string (lp.getD k ByteArray.empty))) := fun k hk => by
    obtain ⟨b, off, e, hlt, hc⟩ := hp (by intro e; rw [e] at hk; simp at hk)
    exact ⟨b, off, e, (hb.cell (p := ⟨b, off + k, none⟩) hlt).trans (hc k hk)⟩
  have HB := Lib.hid hb
  clear hs hp hb
  go_enter Tryd.func12, Tryd.ntmps12
  go_wp2_with fail
  rw [← hW]
  clear hW
  go_loop [3] (fun j => ∃ k : Nat, k ≤ ls.length ∧ k ≤ 30 ∧ j = .int .i64 k ∧ Dg.fewTo ls 100 k) (fun j => 30 - (intOf j).toNat)
  case atStart => exact ⟨0, Nat.zero_le _, Nat.zero_le _, rfl, rfl⟩
  case round =>
    obtain ⟨k, hk, hk3, rfl, hto⟩ := hrel
    by_cases hgo : k < ls.length ∧ k < 30
    · obtain ⟨hlt, h30⟩ := hgo
      obtain ⟨b, off, rfl, hcell⟩ := HS.out k hlt
      obtain ⟨t, htk⟩ : ∃ t, t = ls.getD k ByteArray.empty := ⟨_, rfl⟩
      rw [← htk] at hcell
      have HT := Lib.hid htk
      clear htk
      by_cases hm : (100 : Int) < t.size
      · go_wp2_with fail
        go_ret
        exact ⟨by rw [Sl.few, Dg.few_no ls 100 k hlt (by rw [← HT.out]; omega), Bool.false_and]; rfl, HB.out⟩
      · go_wp2_with fail
        go_round
        case rel => exact ⟨k + 1, by omega, by omega, by go_num, Dg.fewTo_succ ls 100 k hlt hto (by rw [← HT.out]; omega)⟩
        case measure => simp [intOf]; omega
    · have hfs : Hid (Dg.few ls 100 = decide ((ls.length : Int) ≤ 30)) := by
        show _ = _
        by_cases hke : k = ls.length
        · exact Dg.few_yes ls 100 (hke ▸ hto)
        · rw [Sl.few_most (k := k) (by omega) hk hke]
          exact (decide_eq_false (by omega)).symm
      have hor : (¬ (k : Int) < (ls.length : Int)) ∨ ((k : Int) < (ls.length : Int) ∧ ¬ (k : Int) < 30) := by omega
      clear hgo hto hk hk3
      rcases hor with g1 | ⟨g1, g2⟩
      all_goals
        go_wp2_with fail
        go_loop [4] (fun j => ∃ k : Nat, k ≤ lp.length ∧ k ≤ 30 ∧ j = .int .i64 k ∧ Dg.fewTo lp 100 k) (fun j => 30 - (intOf j).toNat)
        case atStart => exact ⟨0, Nat.zero_le _, Nat.zero_le _, rfl, rfl⟩
        case round =>
          obtain ⟨k2, hk, hk3, rfl, hto⟩ := hrel
          by_cases hgo : k2 < lp.length ∧ k2 < 30
          · obtain ⟨hlt, h30⟩ := hgo
            obtain ⟨b, off, rfl, hcell⟩ := HP.out k2 hlt
            obtain ⟨t, htk⟩ : ∃ t, t = lp.getD k2 ByteArray.empty := ⟨_, rfl⟩
            rw [← htk] at hcell
            have HT := Lib.hid htk
            clear htk
            by_cases hm : (100 : Int) < t.size
            · go_wp2_with fail
              go_ret
              exact ⟨by rw [Sl.few, Dg.few_no lp 100 k2 hlt (by rw [← HT.out]; omega), Bool.and_false]; rfl, HB.out⟩
            · go_wp2_with fail
              go_round
              case rel => exact ⟨k2 + 1, by omega, by omega, by go_num, Dg.fewTo_succ lp 100 k2 hlt hto (by rw [← HT.out]; omega)⟩
              case measure => simp [intOf]; omega
          · have hfp : Hid (Dg.few lp 100 = decide ((lp.length : Int) ≤ 30)) := by
              show _ = _
              by_cases hke : k2 = lp.length
              · exact Dg.few_yes lp 100 (hke ▸ hto)
              · rw [Sl.few_most (k := k2) (by omega) hk hke]
                exact (decide_eq_false (by omega)).symm
            have hor2 : (¬ (k2 : Int) < (lp.length : Int)) ∨ ((k2 : Int) < (lp.length : Int) ∧ ¬ (k2 : Int) < 30) := by omega
            clear hgo hto hk hk3
            rcases hor2 with e1 | ⟨e1, e2⟩
            all_goals
              by_cases m1 : (ls.length : Int) ≤ 30
              · have HM := Lib.hid m1
                first
                  | (exfalso; omega)
                  | (go_wp2_with fail
                     go_ret
                     exact ⟨by rw [Sl.few, hfs.out, hfp.out, decide_eq_true HM.out, Bool.true_and]; rfl, HB.out⟩)
              · have HM := Lib.hid m1
                go_wp2_with fail
                go_ret
                exact ⟨by rw [Sl.few, hfs.out, decide_eq_false (by have := HM.out; omega), Bool.false_and]; rfl, HB.out⟩

theorem few03_true (v : Value) (i : Int) (ls lp : List ByteArray) (w : World) (hv : IsSeal w v i ls lp) (h : Sl.few ls lp = true) :
    Calls Tryd.prog 12 #[v] w fun e w' => e = .returned (.bool true) ∧ Below w.heap.size w w' := by
  have := few03_walk v i ls lp w hv; rw [h] at this; exact this
theorem few03_false (v : Value) (i : Int) (ls lp : List ByteArray) (w : World) (hv : IsSeal w v i ls lp) (h : Sl.few ls lp = false) :
    Calls Tryd.prog 12 #[v] w fun e w' => e = .returned (.bool false) ∧ Below w.heap.size w w' := by
  have := few03_walk v i ls lp w hv; rw [h] at this; exact this
theorem short_true (v : Value) (l : List ByteArray) (w : World) (hv : IsTx w v l) (h : Sl.short l = true) :
    Calls Tryd.prog 11 #[v] w fun e w' => e = .returned (.bool true) ∧ w = w' := by
  have := short_walk v l w hv; rw [h] at this; exact this
theorem short_false (v : Value) (l : List ByteArray) (w : World) (hv : IsTx w v l) (h : Sl.short l = false) :
    Calls Tryd.prog 11 #[v] w fun e w' => e = .returned (.bool false) ∧ w = w' := by
  have := short_walk v l w hv; rw [h] at this; exact this

theorem same_any (v1 v2 : Value) (a b : List ByteArray) (c : Bool) (w : World) (h1 : IsTexts w v1 a) (h2 : IsTexts w v2 b) (ha : a.length ≤ 9223372036854775807) (hb : b.length ≤ 9223372036854775807) (hc : Dg.same a b = c) :
    Calls Tryd.prog 21 #[v1, v2] w fun e w' => e = .returned (.bool c) ∧ Below w.heap.size w w' := by
  have := same_walk v1 v2 a b w h1 h2 ha hb; rw [hc] at this; exact this

/-- Two seals are the same. -/
def Sl.same (i j : Int) (l1 p1 l2 p2 : List ByteArray) : Bool := decide (i = j) && (Dg.same l1 l2 && Dg.same p1 p2)

set_option maxHeartbeats 2000000 in
set_option maxRecDepth 100000 in
theorem same03_walk (v1 v2 : Value) (i j : Int) (l1 p1 l2 p2 : List ByteArray) (w : World) (h1 : IsSeal w v1 i l1 p1) (h2 : IsSeal w v2 j l2 p2) :
    Calls Tryd.prog 17 #[v1, v2] w fun e w' => e = .returned (.bool (Sl.same i j l1 p1 l2 p2)) ∧ Below w.heap.size w w' := by
  obtain ⟨vs1, vp1, rfl, ⟨a1, c1, rfl, x1, x2, x3⟩, ⟨a2, c2, rfl, y1, y2, y3⟩⟩ := h1
  obtain ⟨vs2, vp2, rfl, ⟨a3, c3, rfl, z1, z2, z3⟩, ⟨a4, c4, rfl, u1, u2, u3⟩⟩ := h2
  have H1 : Hid (IsTexts w (.slice a1 l1.length c1) l1) := ⟨a1, c1, rfl, x3⟩
  have H2 : Hid (IsTexts w (.slice a2 p1.length c2) p1) := ⟨a2, c2, rfl, y3⟩
  have H3 : Hid (IsTexts w (.slice a3 l2.length c3) l2) := ⟨a3, c3, rfl, z3⟩
  have H4 : Hid (IsTexts w (.slice a4 p2.length c4) p2) := ⟨a4, c4, rfl, u3⟩
  have hb := beside_le (w := w) (.cells #[.int .i64 i, .slice a1 l1.length c1, .slice a2 p1.length c2] 24) (.cells #[.int .i64 j, .slice a3 l2.length c3, .slice a4 p2.length c4] 24)
  have HB := Lib.hid hb
  have hk1 : ((w.alloc (.cells #[.int .i64 i, .slice a1 l1.length c1, .slice a2 p1.length c2] 24)).alloc (.cells #[.int .i64 j, .slice a3 l2.length c3, .slice a4 p2.length c4] 24)).heap[w.heap.size]? = some (.cells #[.int .i64 i, .slice a1 l1.length c1, .slice a2 p1.length c2] 24 (0, 0)) := by
    rw [Below.heap_alloc _ _ _ (by simp)]; exact heap_alloc_new _ _
  have hk2 : ((w.alloc (.cells #[.int .i64 i, .slice a1 l1.length c1, .slice a2 p1.length c2] 24)).alloc (.cells #[.int .i64 j, .slice a3 l2.length c3, .slice a4 p2.length c4] 24)).heap[w.heap.size + 1]? = some (.cells #[.int .i64 j, .slice a3 l2.length c3, .slice a4 p2.length c4] 24 (0, 0)) := by
    have := heap_alloc_new (w.alloc (.cells #[.int .i64 i, .slice a1 l1.length c1, .slice a2 p1.length c2] 24)) (.cells #[.int .i64 j, .slice a3 l2.length c3, .slice a4 p2.length c4] 24)
    simpa using this
  obtain ⟨W, hW⟩ : ∃ W, W = ((w.alloc (.cells #[.int .i64 i, .slice a1 l1.length c1, .slice a2 p1.length c2] 24)).alloc (.cells #[.int .i64 j, .slice a3 l2.length c3, .slice a4 p2.length c4] 24)) := ⟨_, rfl⟩
  rw [← hW] at hk1 hk2 hb
  have d0 := Joins.cell_of_block hk1 0
  have d1 := Joins.cell_of_block hk1 1
  have d2 : ∀ w', Below W.heap.size W w' → w'.cell? ⟨w.heap.size, 2, none⟩ = some (.slice a2 p1.length c2) := fun w' h => (h.cell (p := ⟨w.heap.size, 2, none⟩) (lt_of_block hk1)).trans (Joins.cell_of_block hk1 2)
  have e0 := Joins.cell_of_block hk2 0
  have e1 := Joins.cell_of_block hk2 1
  have e2 : ∀ w', Below W.heap.size W w' → w'.cell? ⟨w.heap.size + 1, 2, none⟩ = some (.slice a4 p2.length c4) := fun w' h => (h.cell (p := ⟨w.heap.size + 1, 2, none⟩) (lt_of_block hk2)).trans (Joins.cell_of_block hk2 2)
  clear x3 y3 z3 u3 hk1 hk2
  go_enter Tryd.func17, Tryd.ntmps17
  have HS1 : Hid (∀ c w', Dg.same l1 l2 = c → Below W.heap.size W w' → Calls Tryd.prog 21 #[.slice a1 l1.length c1, .slice a3 l2.length c3] w' fun e w'' => e = .returned (.bool c) ∧ Below w'.heap.size w' w'') := fun c w' hc h =>
    same_any _ _ l1 l2 c w' (H1.out.below (hb.trans (h.mono hb.size))) (H3.out.below (hb.trans (h.mono hb.size))) (by omega) (by omega) hc
  have HS2 : Hid (∀ c w', Dg.same p1 p2 = c → Below W.heap.size W w' → Calls Tryd.prog 21 #[.slice a2 p1.length c2, .slice a4 p2.length c4] w' fun e w'' => e = .returned (.bool c) ∧ Below w'.heap.size w' w'') := fun c w' hc h =>
    same_any _ _ p1 p2 c w' (H2.out.below (hb.trans (h.mono hb.size))) (H4.out.below (hb.trans (h.mono hb.size))) (by omega) (by omega) hc
  have HBW := Lib.hid hb
  have HR : Hid (Below W.heap.size W W) := Below.refl _ _
  clear hb
  by_cases hij : i = j
  · subst hij
    cases hs : Dg.same l1 l2 with
    | true =>
      have HS := Lib.hid hs
      cases hp : Dg.same p1 p2 with
      | true =>
        have HP := Lib.hid hp
        clear hs hp
        go_wp2_with fail
        rw [← hW]
        clear hW
        refine (HS1.out true W HS.out HR.out).mono ?_
        rintro e w3 ⟨rfl, hb3⟩
        have g2 := d2 w3 hb3
        have g4 := e2 w3 hb3
        have HB3 := Lib.hid hb3
        clear hb3
        go_wp2_with fail
        refine (HS2.out true w3 HP.out HB3.out).mono ?_
        rintro e w4 ⟨rfl, hb4⟩
        go_wp2_with fail
        go_ret
        exact ⟨by rw [Sl.same, HS.out, HP.out, decide_eq_true rfl]; rfl, HBW.out.trans ((HB3.out.trans (hb4.mono HB3.out.size)).mono HBW.out.size)⟩
      | false =>
        have HP := Lib.hid hp
        clear hs hp
        go_wp2_with fail
        rw [← hW]
        clear hW
        refine (HS1.out true W HS.out HR.out).mono ?_
        rintro e w3 ⟨rfl, hb3⟩
        have g2 := d2 w3 hb3
        have g4 := e2 w3 hb3
        have HB3 := Lib.hid hb3
        clear hb3
        go_wp2_with fail
        refine (HS2.out false w3 HP.out HB3.out).mono ?_
        rintro e w4 ⟨rfl, hb4⟩
        go_wp2_with fail
        go_ret
        exact ⟨by rw [Sl.same, HS.out, HP.out, decide_eq_true rfl]; rfl, HBW.out.trans ((HB3.out.trans (hb4.mono HB3.out.size)).mono HBW.out.size)⟩
    | false =>
      have HS := Lib.hid hs
      clear hs
      go_wp2_with fail
      rw [← hW]
      clear hW
      refine (HS1.out false W HS.out HR.out).mono ?_
      rintro e w3 ⟨rfl, hb3⟩
      go_wp2_with fail
      go_ret
      exact ⟨by rw [Sl.same, HS.out, Bool.false_and, Bool.and_false]; rfl, HBW.out.trans (hb3.mono HBW.out.size)⟩
  · have hq : (i == j) = false := beq_eq_false_iff_ne.2 hij
    have HQ := Lib.hid hij
    clear hij
    go_wp2_with fail
    rw [← hW]
    go_ret
    exact ⟨by rw [Sl.same, decide_eq_false HQ.out, Bool.false_and]; rfl, HBW.out⟩
end Go.Proofs.YthhfcijgcpnfcaaDoor
