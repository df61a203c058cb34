import Derived.Test.YtoamkanofhhjfaaGreatDoorKRDecF
import Derived.Test.YtoamkanofhhjfaaGreatDoorKGCaseT
import Derived.Test.YtoamkanofhhjfaaGreatDoorKFNextA
/-
  The walk of the reference's Next.
-/
namespace Go.Proofs.YtoamkanofhhjfaaGreatDoor
open Go.RowKit

namespace Fc
/-- The values when those from j on are the least ones. -/
def from_ (l : List Fact) (m : List Int) (j : Nat) : List Int := m.take j ++ least (l.drop j)
theorem from_len {l : List Fact} {m : List Int} (h : m.length = l.length) (j : Nat) : (from_ l m j).length = m.length := by
  unfold from_; rw [List.length_append, least_len, List.length_take, List.length_drop]; omega
theorem from_all {l : List Fact} {m : List Int} {n : Nat} (h : m.length = n) (h2 : l.length = n) : from_ l m n = m := by
  unfold from_; rw [List.take_of_length_le (by omega), List.drop_eq_nil_of_le (by omega)]; simp [least]
theorem from_get {l : List Fact} {m : List Int} {k : Nat} {x : Int} (hx : m[k]? = some x) : (from_ l m (k + 1))[k]? = some x := by
  have hk := (List.getElem?_eq_some_iff.1 hx).1
  unfold from_
  rw [List.getElem?_append_left (by rw [List.length_take]; omega), List.getElem?_take_of_lt (by omega)]
  exact hx
theorem from_set {l : List Fact} {m : List Int} {k : Nat} {x : Int} (hx : m[k]? = some x) (y : Int) : (from_ l m (k + 1)).set k y = m.take k ++ y :: least (l.drop (k + 1)) := by
  have hk := (List.getElem?_eq_some_iff.1 hx).1
  unfold from_
  rw [List.take_add_one, hx, Option.toList_some, List.append_assoc, List.set_append_right _ _ (by rw [List.length_take]; omega)]
  rw [List.length_take, Nat.min_eq_left (by omega), Nat.sub_self]
  rfl
theorem from_down {l : List Fact} {m : List Int} {k : Nat} {x : Int} {f : Fact} (hx : m[k]? = some x) (hf : l[k]? = some f) : (from_ l m (k + 1)).set k f.lo = from_ l m k := by
  rw [from_set hx]
  obtain ⟨h, rfl⟩ := List.getElem?_eq_some_iff.1 hf
  unfold from_
  rw [List.drop_eq_getElem_cons h]
  rfl
theorem next_here {l : List Fact} {m : List Int} {k : Nat} {x : Int} {f : Fact} (hw : within l m = true) (hx : m[k]? = some x) (hf : l[k]? = some f) (hl : last (l.drop (k + 1)) (m.drop (k + 1)) = true) (h : x < f.hi) :
    next l m = some ((from_ l m (k + 1)).set k (x + 1)) := by
  have hk := (List.getElem?_eq_some_iff.1 hx).1
  have hk2 := (List.getElem?_eq_some_iff.1 hf).1
  have := next_at (d1 := l.take k) (c1 := m.take k) (f := f) (d2 := l.drop (k + 1)) (x := x) (c2 := m.drop (k + 1)) (by rw [List.length_take, List.length_take]; omega) (within_drop hw _) hl h
  have e1 : l.take k ++ f :: l.drop (k + 1) = l := by
    obtain ⟨_, rfl⟩ := List.getElem?_eq_some_iff.1 hf
    rw [← List.drop_eq_getElem_cons hk2, List.take_append_drop]
  have e2 : m.take k ++ x :: m.drop (k + 1) = m := by
    obtain ⟨_, rfl⟩ := List.getElem?_eq_some_iff.1 hx
    rw [← List.drop_eq_getElem_cons hk, List.take_append_drop]
  rw [e1, e2] at this
  rw [this, from_set hx]
/-- An answer of Next. -/
def GivesX (r : Option (List Int)) (w : World) (e : Ending) (w' : World) : Prop := (∃ v, e = .returned (.tuple #[v, .bool r.isSome]) ∧ IsN w' v (r.getD [])) ∧ Below w.heap.size w w'
end Fc

set_option maxHeartbeats 4000000 in
set_option maxRecDepth 100000 in
theorem refnext_no (v u : Value) (l : List Fc.Fact) (m : List Int) (w : World) (hv : Fc.IsF w v l) (hu : Fc.IsN w u m) (hno : ¬ Fc.Fit l m) :
    Calls Tryz.prog 11 #[.agg #[v], u] w (Fc.GivesX none w) := by
  obtain ⟨a, c, rfl, _, _⟩ := hv.form
  obtain ⟨a2, c2, _, _, rfl, _, _, h3, h4⟩ := hu.any
  obtain ⟨n, hn⟩ : ∃ n, n = l.length := ⟨_, rfl⟩
  obtain ⟨n2, hn2⟩ : ∃ n, n = m.length := ⟨_, rfl⟩
  rw [← hn] at hv ⊢
  rw [← hn2] at hu ⊢
  have HB0 := Lib.hid (Boxed.start w (.slice a n c))
  have HV := Lib.hid (reffits_is _ _ l m _ (hv.below HB0.out.below) (hu.below HB0.out.below) false (by simp [hno]))
  clear hv hn hu hn2 h3 h4
  go_enter Tryz.func11, Tryz.ntmps11
  go_wp2_with fail
  refine HV.out.mono ?_
  rintro e w1 ⟨rfl, hb1⟩
  have HX := Lib.hid (HB0.out.next hb1)
  clear hb1 HB0 HV
  go_wp2_with fail
  go_ret2
  exact ⟨⟨_, rfl, Fc.IsN.nil _⟩, HX.out.below⟩

set_option maxHeartbeats 8000000 in
set_option maxRecDepth 100000 in
theorem refnext06_walk (v u : Value) (l : List Fc.Fact) (m : List Int) (w : World) (hv : Fc.IsF w v l) (hu : Fc.IsN w u m) (hfit : Fc.Fit l m) :
    Calls Tryz.prog 11 #[.agg #[v], u] w (Fc.GivesX (Fc.next l m) w) := by
  obtain ⟨R, hR⟩ : ∃ R, R = Fc.next l m := ⟨_, rfl⟩
  rw [← hR]
  obtain ⟨i0, hi, hz0, hz1, hz2⟩ := info_parts int_info
  have HI := Lib.hid hi
  have HR := Lib.hid hR
  have HV : Hid (∀ w', Below w.heap.size w w' → Fc.IsF w' v l) := fun w' hb => hv.below hb
  have HU : Hid (∀ w', Below w.heap.size w w' → Fc.IsN w' u m) := fun w' hb => hu.below hb
  obtain ⟨a, c, g, o, rfl, hc1, hc2, hga, hcl⟩ := hv.any
  obtain ⟨a2, c2, g2, o2, rfl, hd1, hd2, hgb, hcm⟩ := hu.any
  obtain ⟨n, hn⟩ : ∃ n, n = m.length := ⟨_, rfl⟩
  have hnl : l.length = n := by rw [hn]; exact (Fc.within_len hfit.2).symm
  have hga2 : 0 < n → a = some ⟨g, o, none⟩ ∧ g < w.heap.size := fun h => hga (by rintro rfl; rw [← hnl] at h; simp at h)
  have hgb2 : 0 < n → a2 = some ⟨g2, o2, none⟩ ∧ g2 < w.heap.size := fun h => hgb (by rintro rfl; rw [hn] at h; simp at h)
  rw [← hn] at HU hcm ⊢
  rw [hnl] at HV ⊢
  have HC := Lib.hid hcl
  have HM := Lib.hid hcm
  have HN := Lib.hid (And.intro hn hnl)
  have HG := Lib.hid hga2
  have HG2 := Lib.hid hgb2
  have hnb : n ≤ 60 := by rw [← hnl]; exact hfit.1.2.2
  have HB0 := Lib.hid (Boxed.start w (.slice a n c))
  have HFT := Lib.hid hfit
  clear hv hu hcl hcm hn hnl hga hgb hga2 hgb2 hc1 hc2 hd1 hd2 hR hi
  go_enter Tryz.func11, Tryz.ntmps11
  go_wp2_with fail
  refine (reffits_is _ _ l m _ (HV.out _ HB0.out.below) (HU.out _ HB0.out.below) true (by simp [hfit])).mono ?_
  rintro e w1 ⟨rfl, hb1⟩
  have hx := HB0.out.next hb1
  have HX := Lib.hid hx
  have HLN : Hid (m.length = n) := HN.out.1.symm
  have HUA : Hid (∀ ob, Fc.IsN (w1.alloc ob) (.slice a2 n c2) m) := fun ob => HU.out _ (hx.next ((Below.refl _ _).alloc (Nat.le_refl _) ob)).below
  have HBS : Hid (∀ ob, w.heap.size + 1 ≤ (w1.alloc ob).heap.size) := fun ob => (hx.next ((Below.refl _ _).alloc (Nat.le_refl _) ob)).lt
  clear hb1 HB0 hx hfit HV HU
  go_wp2_with (first | (at_builtin; refine wpList_append_all _ rfl _ _ 26 rfl (w.heap.size + 1) 3 i0 (.int .i64 0) 8 Tryz.underlying26 HI.out hz0 hz1 hz2 rfl _ rfl _ m rfl (HUA.out _) (by rw [HLN.out]; unfold maxLen; omega) (by rw [HLN.out]; omega) (HBS.out _) ?_; intro v6 w6 ho6 hb6))
  have hb16 : Below w1.heap.size w1 w6 := ((Below.refl w1.heap.size w1).alloc (Nat.le_refl _) _).trans (hb6.mono (((Below.refl w1.heap.size w1).alloc (Nat.le_refl _) _).size))
  rw [HLN.out] at ho6
  obtain ⟨a6, c6, rfl⟩ := Fc.OwnE.form ho6
  have HO6 := Lib.hid ho6
  have HX6 := Lib.hid (HX.out.next hb16)
  have hn0 : (0 : Int) ≤ (n : Int) := by omega
  have hn6 : (n : Int) ≤ 60 := by omega
  clear hb6 ho6 hb16 HX HUA HBS HI hz0 hz1 hz2
  go_wp2_with fail
  go_loopw [7] (fun i wr => ∃ (j : Nat) (z : Int), j ≤ n ∧ i = .int .i64 z ∧ z = (j : Int) - 1 ∧ Hid (Fc.last (l.drop j) (m.drop j) = true) ∧ Hid (OwnE wr (w.heap.size + 1) 3 (.slice a6 n c6) n (Fc.cellsN (Fc.from_ l m j))) ∧ Hid (Boxed w (.slice a n c) wr)) (fun i _ => (intOf i + 1).toNat)
  case atStart => exact ⟨n, _, Nat.le_refl _, rfl, rfl, by show _ = _; rw [List.drop_eq_nil_of_le (by rw [HN.out.2]; exact Nat.le_refl _)]; rfl, by show OwnE _ _ _ _ _ _; rw [Fc.from_all HLN.out HN.out.2]; exact HO6.out, HX6.out⟩
  case round =>
    clear HX6 HO6
    obtain ⟨j, z, hj, rfl, hz, hlast, ho, hbw⟩ := hrel
    cases j with
    | zero =>
      obtain rfl : z = -1 := by omega
      have hR0 : R = none := by
        rw [HR.out, Fc.next_none HFT.out.2]
        have := hlast.out
        rwa [List.drop_zero, List.drop_zero] at this
      subst hR0
      have HXF := Lib.hid hbw.out.below
      clear hlast ho hbw hz hj
      go_wp2_with fail
      go_ret2
      exact ⟨⟨_, rfl, Fc.IsN.nil _⟩, HXF.out⟩
    | succ k =>
      obtain rfl : z = (k : Int) := by omega
      have hki : (k : Int) < (n : Int) := by omega
      have hk0 : (0 : Int) ≤ (k : Int) := by omega
      have hkn : k < n := by omega
      obtain ⟨⟨nm, kd, lo, hi⟩, hf⟩ : ∃ f, l[k]? = some f := ⟨_, List.getElem?_eq_getElem (by rw [HN.out.2]; exact hkn)⟩
      obtain ⟨x, hx⟩ : ∃ x, m[k]? = some x := ⟨_, List.getElem?_eq_getElem (by rw [← HN.out.1]; exact hkn)⟩
      have hxs := Fc.case_small HFT.out.1 HFT.out.2 x (List.mem_of_getElem? hx)
      have hbd := (Fc.within_get.1 HFT.out.2).2 k _ x hf hx
      dsimp only at hbd
      obtain ⟨rfl, hg⟩ := HG.out (by omega)
      obtain ⟨rfl, hg2⟩ := HG2.out (by omega)
      obtain ⟨_, _, p2, p3⟩ := HC.out k _ hf
      dsimp only at p2 p3
      have p5 := HM.out k hkn
      rw [List.getD_eq_getElem?_getD, hx, Option.getD_some] at p5
      obtain ⟨r, cx, he, hrb, hrl, hrow⟩ := Fc.OwnE.some ho.out (by omega)
      have he1 : a6 = some ⟨r, 0, none⟩ ∧ c6 = cx := by simpa using he
      obtain ⟨rfl, rfl⟩ := he1
      have hbq : ∀ q, Boxed w (.slice (some ⟨g, o, none⟩) n c) (wr.drewN q) := fun q => hbw.out.next (Joins.below_draws _ _ q)
      have b1 : ∀ q, (wr.drewN q).cell? ⟨w.heap.size, 0, none⟩ = some (.slice (some ⟨g, o, none⟩) n c) := fun q => (hbq q).cell
      have b10 : wr.cell? ⟨w.heap.size, 0, none⟩ = some (.slice (some ⟨g, o, none⟩) n c) := hbw.out.cell
      have p2 : ∀ q, (wr.drewN q).cell? ⟨g, o + k * 4 + 2, none⟩ = some (.int .i64 lo) := fun q => ((hbq q).below.cell (p := ⟨g, o + k * 4 + 2, none⟩) hg).trans p2
      have p3 : wr.cell? ⟨g, o + k * 4 + 3, none⟩ = some (.int .i64 hi) := (hbw.out.below.cell (p := ⟨g, o + k * 4 + 3, none⟩) hg).trans p3
      have p5 : wr.cell? ⟨g2, o2 + k, none⟩ = some (.int .i64 x) := (hbw.out.below.cell (p := ⟨g2, o2 + k, none⟩) hg2).trans p5
      have r5 : ∀ q, (wr.drewN q).cell? ⟨r, k, none⟩ = some (.int .i64 x) := fun q => by
        have : wr.cell? ⟨r, k, none⟩ = some (.int .i64 x) := by rw [hrow.cellAt k (by omega), Fc.cellsN_get, Fc.from_get hx]; rfl
        exact this
      have u5 : ∀ q, (wr.drewN q).frozen? ⟨r, k, none⟩ = false := fun q => hrow.frozenAt k
      have HSET : Hid (∀ q y, OwnE ((wr.drewN q).setCell ⟨r, k, none⟩ (.int .i64 y)) (w.heap.size + 1) 3 (.slice (some ⟨r, 0, none⟩) n c6) n (Fc.cellsN ((Fc.from_ l m (k + 1)).set k y))) := fun q y => by
        have hq : (wr.drewN q).ownsRow (w.heap.size + 1) 3 1 (.slice (some ⟨r, 0, none⟩) n c6) n (Fc.cellsN (Fc.from_ l m (k + 1))) := own_below hrow (Joins.below_draws _ _ q)
        have := (hq.stored k (.int .i64 y)).1
        rw [Fc.cellsN_set] at this
        exact .inl this
      have HBQ : Hid (∀ q y, Boxed w (.slice (some ⟨g, o, none⟩) n c) ((wr.drewN q).setCell ⟨r, k, none⟩ (.int .i64 y))) := fun q y =>
        Fc.boxed_low (b := r) (hbq q) ((Below.refl r (wr.drewN q)).setCell (p := ⟨r, k, none⟩) (Nat.le_refl _) _) (by omega)
      have HLS := Lib.hid hlast.out
      have HF := Lib.hid hf
      have HX := Lib.hid hx
      have hx1 : wrap64 (x + 1) = x + 1 := by unfold wrap64; omega
      clear hf hx hbq hlast ho hbw hrow hz he hg hg2
      by_cases hlt : x < hi
      · have e1 : decide (x < hi) = true := decide_eq_true hlt
        have hR1 : R = some ((Fc.from_ l m (k + 1)).set k (x + 1)) := by rw [HR.out]; exact Fc.next_here HFT.out.2 HX.out HF.out HLS.out hlt
        have HR1 := Lib.hid hR1
        have hlen : ((Fc.from_ l m (k + 1)).set k (x + 1)).length = n := by rw [List.length_set, Fc.from_len (by rw [HN.out.2, HLN.out]), HLN.out]
        have HNX : Hid (∀ q, Fc.IsN ((wr.drewN q).setCell ⟨r, k, none⟩ (.int .i64 (x + 1))) (.slice (some ⟨r, 0, none⟩) n c6) ((Fc.from_ l m (k + 1)).set k (x + 1))) := fun q => by
          have h1 := HSET.out q (x + 1)
          have h2 := Fc.OwnE.isN (l := (Fc.from_ l m (k + 1)).set k (x + 1)) (base := w.heap.size + 1) (by rw [hlen]; exact h1) (fun y hy => by
            obtain ⟨hw9, _⟩ := Fc.next_some (fun f hf => (HFT.out.1.1 f hf).le) HFT.out.2 (HR.out.symm.trans HR1.out)
            have := Fc.case_small HFT.out.1 hw9 y hy
            omega)
          exact h2
        clear hlen
        clear hR1 hbd
        go_wp2_with fail
        go_quiet (fail)
        go_wp2_with fail
        go_ret2
        rw [HR1.out]
        refine ⟨⟨_, rfl, ?_⟩, (HBQ.out _ _).below⟩
        rw [Option.getD_some]
        exact HNX.out _
      · have e1 : decide (x < hi) = false := decide_eq_false hlt
        have hxh : x = hi := by omega
        have HL2 : Hid (Fc.last (l.drop k) (m.drop k) = true) := by
          show _ = _
          rw [Fc.last_drop k _ x HF.out HX.out, HLS.out]
          simp [hxh]
        have HDN := Lib.hid (Fc.from_down HX.out HF.out)
        dsimp only at HDN
        have HS2 : Hid (∀ q, OwnE ((wr.drewN q).setCell ⟨r, k, none⟩ (.int .i64 lo)) (w.heap.size + 1) 3 (.slice (some ⟨r, 0, none⟩) n c6) n (Fc.cellsN (Fc.from_ l m k))) := fun q => by
          have := HSET.out q lo
          rw [HDN.out] at this
          exact this
        clear hbd hxh
        go_wp2_with fail
        go_quiet (fail)
        go_wp2_with fail
        go_roundw
        case rel => exact ⟨k, (k : Int) - 1, by omega, by go_num, rfl, HL2, HS2.out _, HBQ.out _ _⟩
        case measure => simp [intOf]
end Go.Proofs.YtoamkanofhhjfaaGreatDoor
/-
  The reference's ParseCase of a domain that is not valid; its Text and CaseText in short.
-/
namespace Go.Proofs.YtoamkanofhhjfaaGreatDoor
open Go.RowKit

set_option maxHeartbeats 4000000 in
set_option maxRecDepth 100000 in
theorem refparsecase_no (dv : Value) (d : List Fc.Fact) (s : ByteArray) (w : World) (hF : Fc.IsF w dv d) (hvd : ¬ Fc.Valid d) :
    Calls Tryz.prog 9 #[.agg #[dv], .string s] w (Fc.Gives (.tuple #[.slice none 0 0, .int .i64 1, .int .i64 0]) w) := by
  obtain ⟨a, c, rfl, _, _⟩ := hF.form
  obtain ⟨n, hn⟩ : ∃ n, n = d.length := ⟨_, rfl⟩
  rw [← hn] at hF ⊢
  have HB0 := Lib.hid (Boxed.start w (.slice a n c))
  have HV := Lib.hid (refvalid_is _ d _ (hF.below HB0.out.below) false (by simp [hvd]))
  clear hF hn
  go_enter Tryz.func9, Tryz.ntmps9
  go_wp2_with fail
  refine HV.out.mono ?_
  rintro e w1 ⟨rfl, hb1⟩
  have HX := Lib.hid (HB0.out.next hb1)
  clear hb1 HB0 HV
  go_wp2_with fail
  go_ret3
  exact ⟨rfl, HX.out.below⟩

set_option maxHeartbeats 4000000 in
set_option maxRecDepth 100000 in
theorem reftext_no (v : Value) (l : List Fc.Fact) (w : World) (hv : Fc.IsF w v l) (hno : ¬ Fc.Valid l) :
    Calls Tryz.prog 19 #[.agg #[v]] w (Fc.TextOut [] w) := by
  obtain ⟨a, c, rfl, _, _⟩ := hv.form
  obtain ⟨n, hn⟩ : ∃ n, n = l.length := ⟨_, rfl⟩
  rw [← hn] at hv ⊢
  have HB0 := Lib.hid (Boxed.start w (.slice a n c))
  have HV := Lib.hid (refvalid_is _ l _ (hv.below HB0.out.below) false (by simp [hno]))
  clear hv hn
  go_enter Tryz.func19, Tryz.ntmps19
  go_wp2_with fail
  refine HV.out.mono ?_
  rintro e w1 ⟨rfl, hb1⟩
  have HX := Lib.hid (HB0.out.next hb1)
  clear hb1 HB0 HV
  go_wp2_with fail
  go_ret
  exact ⟨rfl, HX.out.below⟩
set_option maxHeartbeats 4000000 in
set_option maxRecDepth 100000 in
theorem refcasetext_no (v u : Value) (l : List Fc.Fact) (m : List Int) (w : World) (hv : Fc.IsF w v l) (hu : Fc.IsN w u m) (hno : ¬ Fc.Fit l m) :
    Calls Tryz.prog 21 #[.agg #[v], u] w (Fc.TextOut [] w) := by
  obtain ⟨a, c, rfl, _, _⟩ := hv.form
  obtain ⟨a2, c2, _, _, rfl, _, _, h3, h4⟩ := hu.any
  obtain ⟨n, hn⟩ : ∃ n, n = l.length := ⟨_, rfl⟩
  obtain ⟨n2, hn2⟩ : ∃ n, n = m.length := ⟨_, rfl⟩
  rw [← hn] at hv ⊢
  rw [← hn2] at hu ⊢
  have HB0 := Lib.hid (Boxed.start w (.slice a n c))
  have HV := Lib.hid (reffits_is _ _ l m _ (hv.below HB0.out.below) (hu.below HB0.out.below) false (by simp [hno]))
  clear hv hn hu hn2 h3 h4
  go_enter Tryz.func21, Tryz.ntmps21
  go_wp2_with fail
  refine HV.out.mono ?_
  rintro e w1 ⟨rfl, hb1⟩
  have HX := Lib.hid (HB0.out.next hb1)
  clear hb1 HB0 HV
  go_wp2_with fail
  go_ret
  exact ⟨rfl, HX.out.below⟩
open Classical in
theorem reftext_is (v : Value) (d : List Fc.Fact) (w : World) (hF : Fc.IsF w v d) (s : ByteArray) (hs : s = Lx.str (if Fc.Valid d then Fc.dtext d else [])) :
    Calls Tryz.prog 19 #[.agg #[v]] w (Fc.Gives (.string s) w) := by
  subst hs
  by_cases h : Fc.Valid d
  · rw [if_pos h]; exact reftext_walk v d w hF h
  · rw [if_neg h]; exact reftext_no v d w hF h
open Classical in
theorem refcasetext_is (v u : Value) (d : List Fc.Fact) (m : List Int) (w : World) (hF : Fc.IsF w v d) (hu : Fc.IsN w u m) (s : ByteArray) (hs : s = Lx.str (if Fc.Fit d m then Fc.ctext d m else [])) :
    Calls Tryz.prog 21 #[.agg #[v], u] w (Fc.Gives (.string s) w) := by
  subst hs
  by_cases h : Fc.Fit d m
  · rw [if_pos h]; exact refcasetext_walk v u d m w hF hu h
  · rw [if_neg h]; exact refcasetext_no v u d m w hF hu h
end Go.Proofs.YtoamkanofhhjfaaGreatDoor
