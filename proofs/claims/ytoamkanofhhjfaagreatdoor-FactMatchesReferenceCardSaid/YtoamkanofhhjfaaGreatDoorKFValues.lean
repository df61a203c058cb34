import Derived.Test.YtoamkanofhhjfaaGreatDoorKFValue
import Derived.Test.YtoamkanofhhjfaaGreatDoorKFNextA
import Derived.Deep.LoopGhost
import Derived.Deep.DeepCutAuto
/-
  The walk of the reader's values.
-/
namespace Go.Proofs.YtoamkanofhhjfaaGreatDoor
open Go.RowKit

namespace Fc
open Lx
/-- How values ends. -/
def CaseOut (R : Nat) (w : World) (x : Except (Nat × Nat) (List Int)) (en : Ending) (w' : World) : Prop :=
  Rd R w w' ∧ match x with
  | .ok c => ∃ g, en = .returned (.slice (some ⟨g, 0, none⟩) c.length c.length) ∧ OwnN g c.length c w' ∧ w.heap.size ≤ g
  | .error z => Fails z en
/-- What the loop over the values keeps. -/
structure VsSt (R e b : Nat) (dv : Value) (d : List Fact) (v : List (Option Int)) (n : Nat) (w : World) (l : List Tok) (wr : World) : Prop where
  rb : Rb R b w wr
  rs : IsR R wr e l
  bx : wr.heap[w.heap.size]? = some (.cells #[dv] 24 (0, 0))
  gm : IsG d v n wr b
theorem VsSt.step {R e b n2 : Nat} {dv : Value} {d : List Fact} {v v2 : List (Option Int)} {n : Nat} {w wr w2 : World} {l l2 : List Tok} (h : VsSt R e b dv d v n w l wr) (hr : Rb R b wr w2) (h2 : IsR R w2 e l2) (hg : IsG d v2 n2 w2 b) (hR : R < w.heap.size) (hb : w.heap.size < b) : VsSt R e b dv d v2 n2 w l2 w2 :=
  ⟨h.rb.trans hr, h2, (hr.block _ (Array.getElem?_eq_some_iff.1 h.bx).1 (by omega) (by omega)).trans h.bx, hg⟩
theorem VsSt.low {R e b B : Nat} {dv : Value} {d : List Fact} {v : List (Option Int)} {n : Nat} {w wr w2 : World} {l : List Tok} (h : VsSt R e b dv d v n w l wr) (hb : Below B wr w2) (h1 : R < B) (h2 : b < B) (h3 : w.heap.size < B) : VsSt R e b dv d v n w l w2 :=
  ⟨⟨hb.os.trans h.rb.os, hb.tape.trans h.rb.tape, hb.output.trans h.rb.output, Nat.le_trans h.rb.size hb.size, fun k hk hn hm => (hb.block k (by omega)).trans (h.rb.block k hk hn hm)⟩, h.rs.low hb h1, (hb.block _ h3).trans h.bx, h.gm.block (hb.block b h2)⟩
/-- The case, filled up to an index. -/
def filled (v : List (Option Int)) (k : Nat) : List Int := (v.map fun o => o.getD 0).take k ++ List.replicate (v.length - k) 0
theorem filled_len (v : List (Option Int)) (k : Nat) (hk : k ≤ v.length) : (filled v k).length = v.length := by
  unfold filled; rw [List.length_append, List.length_take, List.length_map, List.length_replicate]; omega
theorem filled_zero (v : List (Option Int)) : filled v 0 = List.replicate v.length 0 := by unfold filled; rw [List.take_zero, Nat.sub_zero]; rfl
theorem filled_all (v : List (Option Int)) : filled v v.length = v.map fun o => o.getD 0 := by
  unfold filled
  rw [Nat.sub_self, List.take_of_length_le (by rw [List.length_map]; exact Nat.le_refl _)]
  simp
theorem filled_at (v : List (Option Int)) (k : Nat) (hk : k < v.length) : (filled v k)[k]? = some 0 := by
  unfold filled
  rw [List.getElem?_append_right (by rw [List.length_take]; omega), List.length_take, List.length_map, List.getElem?_replicate, if_pos (by omega)]
theorem filled_set (v : List (Option Int)) (k : Nat) (hk : k < v.length) (y : Int) (hy : v.getD k none = some y) : (filled v k).set k y = filled v (k + 1) := by
  have h1 : (filled v (k + 1)) = ((v.map fun o => o.getD 0).take k ++ [y]) ++ List.replicate (v.length - (k + 1)) 0 := by
    unfold filled
    congr 1
    rw [List.take_add_one, List.getElem?_map]
    rw [List.getD_eq_getElem?_getD, List.getElem?_eq_getElem hk] at hy
    have hy : v[k] = some y := by simpa using hy
    rw [List.getElem?_eq_getElem hk, hy]; rfl
  rw [h1]
  unfold filled
  have h2 : List.replicate (v.length - k) (0 : Int) = 0 :: List.replicate (v.length - (k + 1)) 0 := by
    rw [show v.length - k = (v.length - (k + 1)) + 1 by omega, List.replicate_succ]
  rw [h2, List.set_append_right _ _ (by rw [List.length_take]; omega), List.length_take, List.length_map, show k - min k v.length = 0 by omega, List.set_cons_zero, List.append_assoc]
  rfl
theorem Rb.low {R b : Nat} {w w' : World} (h : Rb R b w w') (hb : w.heap.size ≤ b) : Rd R w w' := ⟨h.os, h.tape, h.output, h.size, fun k h1 h2 => h.block k h1 h2 (by omega)⟩
end Fc

set_option maxHeartbeats 8000000 in
set_option maxRecDepth 100000 in
theorem values_walk (R e : Nat) (dv : Value) (d : List Fc.Fact) (l : List Lx.Tok) (w : World) (hr : Fc.IsR R w e l) (hF : ∀ w', Below R w w' → Fc.IsF w' dv d) (hvd : Fc.Valid d) (hgl : Fc.Goods l) (hl5 : l.length ≤ 5000) :
    Calls Tryz.prog 35 #[.pointer (some ⟨R, 0, none⟩), .agg #[dv]] w (Fc.CaseOut R w (Fc.parseCase e d l)) := by
  have hlt := hr.lt
  obtain ⟨a, c, g, o, hdv, hc1, hc2, hga, hcl⟩ := (hF w (Below.refl _ _)).any
  subst hdv
  have HF := Lib.hid hF
  have HV := Lib.hid hvd
  obtain ⟨nd, hnd⟩ : ∃ nd, nd = d.length := ⟨_, rfl⟩
  rw [← hnd] at hc1 HF ⊢
  have HND := Lib.hid hnd
  obtain ⟨P, hP⟩ : ∃ P, P = Fc.CaseOut R w (Fc.parseCase e d l) := ⟨_, rfl⟩
  have HP : Hid (P = Fc.CaseOut R w ((Fc.restV e d true (d.map fun _ => none) l).bind (Fc.doneV e))) := hP
  rw [← hP]
  obtain ⟨W1, hW1⟩ : ∃ W1, W1 = boxD w (.slice a nd c) := ⟨_, rfl⟩
  have hb1 : Below w.heap.size w W1 := by rw [hW1]; exact boxD_below _ _
  have hs1 : W1.heap.size = w.heap.size + 1 := by rw [hW1]; exact boxD_size _ _
  obtain ⟨b, hb⟩ : ∃ b, b = W1.heap.size := ⟨_, rfl⟩
  obtain ⟨W2, hW2⟩ : ∃ W2, W2 = W1.alloc (.map #[] 0) := ⟨_, rfl⟩
  have hmk : (Instr.makeMap 102 none).run Tryz.prog W1 = .ok (.map (some b)) W2 := by rw [hb, hW2]; rfl
  have hb2 : Below W1.heap.size W1 W2 := by rw [hW2]; exact (Below.refl _ _).alloc (Nat.le_refl _) _
  have hb12 := hb1.trans (hb2.mono hb1.size)
  have hbn : w.heap.size < b := by omega
  have hst : Fc.VsSt R e b (.slice a nd c) d (d.map fun _ => none) 0 w l W2 := by
    refine ⟨Fc.Rb.of b (Fc.Rd.of R hb12), hr.below hb12, ?_, ?_⟩
    · exact (hb2.block _ (by omega)).trans (by rw [hW1]; exact boxD_block _ _)
    · rw [hW2, hb]; exact Fc.IsG.made d W1
  have HS := Lib.hid hst
  have HGL := Lib.hid hgl
  have hW1' : W1 = w.alloc (.cells #[.slice a nd c] 24) := hW1
  clear hr hF hvd hgl hP hb1 hs1 hb hW2 hb2 hb12 hst hW1 hnd hga hcl
  go_enter Tryz.func35, Tryz.ntmps35
  go_upto_region 1 with fail
  rw [← hW1']
  clear hW1'
  have hm := more_walk R e l W2 HS.out.rs
  obtain ⟨mb, hmb⟩ : ∃ mb, mb = decide (0 < l.length) := ⟨_, rfl⟩
  rw [← hmb] at hm
  have HM := Lib.hid hm
  have HMB := Lib.hid hmb
  clear hm hmb
  go_upto_if 13 with (first | (refine HM.out.mono ?_; rintro en w1 ⟨rfl, rfl⟩))
  go_cut [] (fun wx => ∃ v n l', Hid (Fc.VsSt R e b (.slice a nd c) d v n w l' wx) ∧ Hid (Fc.Goods l') ∧ n + l'.length ≤ 5000 ∧ v.length = nd ∧ Hid (P = Fc.CaseOut R w ((Fc.restV e d false v l').bind (Fc.doneV e))))
  case first =>
    have q0 := Joins.cell_of_block HS.out.bx 0
    cases l with
    | nil =>
      obtain rfl : mb = false := HMB.out.trans (by simp)
      have HPN : Hid (P = Fc.CaseOut R w ((Fc.restV e d false (d.map fun _ => none) []).bind (Fc.doneV e))) := HP.out
      go_wp2_with fail
      go_meet
      exact ⟨_, 0, [], HS, HGL, by simp, by rw [List.length_map]; exact HND.out.symm, HPN⟩
    | cons t r =>
      have hp := HP.out
      rw [Fc.restV_first HGL.out] at hp
      obtain rfl : mb = true := HMB.out.trans (by simp)
      have HPV := Lib.hid hp
      have HVF := Lib.hid (value_fact R e b (.slice a nd c) d (d.map fun _ => none) 0 (t :: r) W2 HS.out.rs (fun w' hb' => HF.out w' ((HS.out.rb.below (Nat.le_refl R) (by omega) hlt).trans hb')) HV.out HS.out.gm (by rw [List.length_map]) (by omega) HGL.out (by omega))
      clear hp HP
      cases hx : Fc.valueP e d (d.map fun _ => none) (t :: r) with
      | error z =>
        have hpe : P = Fc.CaseOut R w (.error z) := by rw [HPV.out, hx]; rfl
        have HPE := Lib.hid (And.intro hpe hx)
        clear hpe hx
        go_wp2_with fail
        refine HVF.out.mono ?_
        rintro en w3 ho
        rw [HPE.out.2] at ho
        obtain ⟨hrb, hf⟩ := ho
        obtain rfl : en = _ := hf
        refine ⟨rfl, ?_⟩
        rw [HPE.out.1]
        exact ⟨(HS.out.rb.trans hrb).low (by omega), rfl⟩
      | ok y =>
        obtain ⟨v2, l2⟩ := y
        obtain ⟨y1, y2, y3⟩ := Fc.valueP_ok HGL.out hx
        have hpe : P = Fc.CaseOut R w ((Fc.restV e d false v2 l2).bind (Fc.doneV e)) := by rw [HPV.out, hx]; rfl
        have HPE := Lib.hid (And.intro hpe (And.intro hx (And.intro y1 (And.intro y2 y3))))
        clear hpe hx y1 y2 y3
        go_wp2_with fail
        refine HVF.out.mono ?_
        rintro en w3 ho
        rw [HPE.out.2.1] at ho
        obtain ⟨hrb, rfl, hr3, hg3⟩ := ho
        have HS3 := Lib.hid (HS.out.step hrb hr3 hg3 hlt hbn)
        clear hrb hr3 hg3
        go_wp2_with fail
        go_meet
        refine ⟨v2, 1, l2, HS3, HPE.out.2.2.1, ?_, ?_, HPE.out.1⟩
        · have := HPE.out.2.2.2.1
          show 1 + l2.length ≤ 5000
          have h5 : (t :: r).length ≤ 5000 := hl5
          have : l2.length < (t :: r).length := this
          omega
        · rw [HPE.out.2.2.2.2, List.length_map]; exact HND.out.symm
  case rest =>
    obtain ⟨v, n, l', HS', HG', hnl, hvl, HP'⟩ := hcut
    clear HS HP HM
    go_wp2_with fail
    go_loopg [] l'.length (fun k wr => ∃ v n l', l'.length = k ∧ Hid (Fc.VsSt R e b (.slice a nd c) d v n w l' wr) ∧ Hid (Fc.Goods l') ∧ n + l'.length ≤ 5000 ∧ v.length = nd ∧ Hid (P = Fc.CaseOut R w ((Fc.restV e d false v l').bind (Fc.doneV e))))
    case atStart => exact ⟨v, n, l', rfl, HS', HG', hnl, hvl, HP'⟩
    case round =>
      clear HS' HG' hnl hvl HP' v n l'
      obtain ⟨v, n, l', hlk, HS', HG', hnl, hvl, HP'⟩ := hrel
      have HM := Lib.hid (more_walk R e l' wr HS'.out.rs)
      have q0 := Joins.cell_of_block HS'.out.bx 0
      cases l' with
      | nil =>
        have hp : P = Fc.CaseOut R w (Fc.doneV e v) := by rw [HP'.out, Fc.restV_nil]; rfl
        have HPD := Lib.hid hp
        have hnd60 : nd ≤ 60 := by rw [HND.out]; exact HV.out.2.2
        have HVL := Lib.hid hvl
        clear hp hlk HP'
        obtain ⟨i0, hii, hz0, hz1, hz2⟩ := info_parts one_int
        have HI := Lib.hid hii
        clear hii hvl hnl
        go_upto_region 8 with (first | (refine HM.out.mono ?_; rintro en w1 ⟨rfl, rfl⟩) | (at_make; refine wpList_make_full _ rfl _ _ 26 rfl wr.heap.size 3 i0 (.int .i64 0) 1 Tryz.underlying26 HI.out hz0 hz1 .i64 .i64 (nd : Int) (nd : Int) nd rfl rfl rfl rfl (by rw [hz2]; omega) (by unfold maxLen; omega) (Nat.le_refl _) ?_; intro w2 hown hgrow))
        have hb2 : Below wr.heap.size wr w2 := (Below.refl _ _).grown hgrow (Nat.le_refl _) (fun _ h => by cases h)
        have hO : Fc.OwnN wr.heap.size nd (Fc.filled v 0) w2 := by
          refine ⟨by rw [Fc.filled_zero, List.length_replicate]; exact HVL.out, ?_⟩
          rw [Fc.filled_zero, HVL.out, ← Fc.cells_made]
          exact hown
        have hgc : b < wr.heap.size ∧ R < wr.heap.size ∧ w.heap.size < wr.heap.size := ⟨HS'.out.gm.lt, HS'.out.rs.lt, (Array.getElem?_eq_some_iff.1 HS'.out.bx).1⟩
        have HS2 := Lib.hid (HS'.out.low hb2 hgc.2.1 hgc.1 hgc.2.2)
        have HO := Lib.hid hO
        obtain ⟨gC, hgC⟩ : ∃ gC, gC = wr.heap.size := ⟨_, rfl⟩
        rw [← hgC] at HO hgc
        have q2 := Joins.cell_of_block HS2.out.bx 0
        clear hown hgrow hO hb2 hz0 hz1 hz2 HI HS' q0 HM
        rw [← hgC]
        clear hgC
        go_wp2_with fail
        go_loopw [33] (fun i wx => ∃ k : Nat, k ≤ nd ∧ i = .int .i64 k ∧ Hid (∀ j, j < k → (v.getD j none).isSome = true) ∧ Hid (Fc.VsSt R e b (.slice a nd c) d v n w [] wx) ∧ Hid (Fc.OwnN gC nd (Fc.filled v k) wx)) (fun i _ => nd - (intOf i).toNat)
        case atStart => exact ⟨0, Nat.zero_le _, rfl, fun j hj => absurd hj (by omega), HS2, HO⟩
        case round =>
          clear HS2 HO q2
          obtain ⟨k, hk, rfl, hsome, hsx, hox⟩ := hrel
          by_cases hlt2 : k < nd
          · have hki : (k : Int) < (nd : Int) := by omega
            have hk0 : (0 : Int) ≤ (k : Int) := by omega
            obtain ⟨f, hf⟩ : ∃ f, d[k]? = some f := ⟨_, List.getElem?_eq_getElem (by rw [← HND.out]; exact hlt2)⟩
            have hbx := hsx.out.rb.below (Nat.le_refl R) (by omega) hlt
            obtain ⟨_, _, g7, o7, hsl, _, _, hga7, hcl7⟩ := (HF.out wr hbx).any
            obtain ⟨rfl, hg7⟩ := hga7 (by rintro rfl; simp at hf)
            injection hsl with hsl1 hsl2 hsl3
            subst hsl1
            obtain ⟨p0, p1, p2, p3⟩ := hcl7 k f hf
            obtain ⟨sn, hsn⟩ : ∃ sn, sn = Lx.str f.name := ⟨_, rfl⟩
            rw [← hsn] at p0
            have hgo : Fc.gopt d v f.name = v.getD k none := by unfold Fc.gopt; rw [Fc.index_at HV.out.2.1 hf]; rfl
            have hbA : Below wr.heap.size wr (wr.alloc (.cells #[.string sn, .int .i64 f.kind, .int .i64 f.lo, .int .i64 f.hi] 64)) := (Below.refl _ _).alloc (Nat.le_refl _) _
            have hk8 : (wr.alloc (.cells #[.string sn, .int .i64 f.kind, .int .i64 f.lo, .int .i64 f.hi] 64)).heap[wr.heap.size]? = some (.cells #[.string sn, .int .i64 f.kind, .int .i64 f.lo, .int .i64 f.hi] 64 (0, 0)) := heap_alloc_new _ _
            have hst3 := hsx.out.step (Fc.Rb.of b (Fc.Rd.of R hbA)) (hsx.out.rs.below hbA) (hsx.out.gm.block (hbA.block _ hsx.out.gm.lt)) hlt hbn
            have hox3 := hox.out.block (hbA.block _ hox.out.lt)
            have hfs := (HV.out.sized f (List.mem_of_getElem? hf)).1
            have hfl : f.name.length ≤ 24 := by
              obtain ⟨c0, s0, e0, _, _, h4⟩ := (Fc.good1 _).1 (HV.out.1 f (List.mem_of_getElem? hf)).name
              rw [e0]; exact h4
            obtain ⟨W3, hW3⟩ : ∃ W3, W3 = wr.alloc (.cells #[.string sn, .int .i64 f.kind, .int .i64 f.lo, .int .i64 f.hi] 64) := ⟨_, rfl⟩
            rw [← hW3] at hk8 hst3 hox3
            have hlk := hst3.gm.look sn (by rw [hsn, Fc.str_size]; unfold maxLen; omega)
            rw [hsn, Lx.tx_str, hgo, ← hsn] at hlk
            have HS3 := Lib.hid hst3
            have HO3 := Lib.hid hox3
            have HK8 := Lib.hid hk8
            clear hbA hst3 hox3 hfs hfl hgo hf hsn hcl7 hga7 hsl2 hsl3 hbx
            go_upto_region 11 with fail
            rw [← hW3]
            clear hW3 p0 p1 p2 p3
            have e0 := Joins.cell_of_block hk8 0
            clear hk8
            obtain ⟨tv, htv, _⟩ := HS3.out.rs
            have hre := Joins.cell_of_block htv 1
            clear htv
            cases hvk : v.getD k none with
            | none =>
              rw [hvk] at hlk
              have hall : v.all Option.isSome = false := by
                rw [List.all_eq_false]
                have hkv : k < v.length := by rw [HVL.out]; exact hlt2
                refine ⟨v[k], List.getElem_mem _, ?_⟩
                rw [List.getD_eq_getElem?_getD, List.getElem?_eq_getElem hkv] at hvk
                have : v[k] = none := by simpa using hvk
                rw [this]; decide
              have hpe : P = Fc.CaseOut R w (.error (11, e)) := by rw [HPD.out]; unfold Fc.doneV; rw [if_neg (by rw [hall]; decide)]
              have HPE := Lib.hid hpe
              simp only [Option.getD_none, Option.isSome_none] at hlk
              clear hpe hall hvk hsome
              go_wp2_with fail
              refine (require_no 11 (e : Int) _).mono ?_
              rintro en w4 ⟨rfl, rfl⟩
              refine ⟨rfl, ?_⟩
              rw [HPE.out]
              exact ⟨HS3.out.rb.low (by omega), rfl⟩
            | some y =>
              rw [hvk] at hlk
              simp only [Option.getD_some, Option.isSome_some] at hlk
              have hkv : k < v.length := by rw [HVL.out]; exact hlt2
              have hcC := HO3.out.cell (Fc.filled_at v k hkv)
              have hfC := HO3.out.frozen k
              have hO4 := HO3.out.store k y
              rw [Fc.filled_set v k hkv y hvk] at hO4
              have hbC : Below gC W3 (W3.setCell ⟨gC, k, none⟩ (.int .i64 y)) := (Below.refl _ _).setCell (p := ⟨gC, k, none⟩) (Nat.le_refl _) _
              have HS4 := Lib.hid (HS3.out.low hbC hgc.2.1 hgc.1 hgc.2.2)
              have HO4 := Lib.hid hO4
              have HSO : Hid (∀ j, j < k + 1 → (v.getD j none).isSome = true) := fun j hj => by
                by_cases ej : j = k
                · rw [ej, hvk]; rfl
                · exact hsome.out j (by omega)
              clear hO4 hbC hvk hsome
              go_wp2_with (first | (refine (require_yes 11 (e : Int) _).mono ?_; rintro en w4 ⟨rfl, rfl⟩))
              go_roundw
              case rel => exact ⟨k + 1, by omega, by go_num, HSO, HS4, HO4⟩
              case measure => simp [intOf]; omega
          · obtain rfl : k = nd := by omega
            have hki : ¬ (k : Int) < (k : Int) := by omega
            have hall : v.all Option.isSome = true := by
              rw [List.all_eq_true]
              intro x hx
              obtain ⟨j, hj, rfl⟩ := List.getElem_of_mem hx
              have := hsome.out j (by rw [← HVL.out]; exact hj)
              rwa [List.getD_eq_getElem?_getD, List.getElem?_eq_getElem hj] at this
            have hpe : P = Fc.CaseOut R w (.ok (v.map fun o => o.getD 0)) := by rw [HPD.out]; unfold Fc.doneV; rw [if_pos hall]
            have HPE := Lib.hid hpe
            have hof := hox.out
            rw [← HVL.out, Fc.filled_all] at hof
            have HOF := Lib.hid hof
            clear hpe hall hsome hof
            go_wp2_with fail
            rw [HPE.out]
            refine ⟨hsx.out.rb.low (by omega), gC, ?_, ?_, by omega⟩
            · rw [List.length_map, HVL.out]
            · rw [List.length_map]; exact HOF.out
      | cons t r =>
        have hp := HP'.out
        rw [Fc.restV_more HG'.out] at hp
        have HPV := Lib.hid hp
        have hlk' : r.length + 1 = gk := hlk
        have HWD := Lib.hid (word_walk R e ⟨#[44]⟩ (t :: r) wr HS'.out.rs)
        clear hp HP' hlk
        cases hx1 : Fc.wordT e [44] (t :: r) with
        | error z =>
          have hpe : P = Fc.CaseOut R w (.error z) := by rw [HPV.out, hx1]; rfl
          have HPE := Lib.hid (And.intro hpe hx1)
          clear hpe hx1
          go_wp2_with (first | (refine HM.out.mono ?_; rintro en w1 ⟨rfl, rfl⟩))
          refine HWD.out.mono ?_
          rintro en w3 ho
          obtain ⟨hf, hrd⟩ := ho.no HPE.out.2
          obtain rfl : en = _ := hf
          refine ⟨rfl, ?_⟩
          rw [HPE.out.1]
          exact ⟨(HS'.out.rb.trans (Fc.Rb.of b hrd)).low (by omega), rfl⟩
        | ok y =>
          obtain ⟨u0, l1⟩ := y
          have hl1 : l1 = r := by
            have hx1 : (if t.text = [44] then Except.ok ((), r) else Except.error (5, t.at_) : Except (Nat × Nat) (Unit × List Lx.Tok)) = .ok (u0, l1) := hx1
            by_cases c : t.text = [44]
            · rw [if_pos c] at hx1
              exact (Prod.mk.inj (Except.ok.inj hx1)).2.symm
            · rw [if_neg c] at hx1; cases hx1
          subst hl1
          have HX1 := Lib.hid hx1
          have hp2 : P = Fc.CaseOut R w (((Fc.valueP e d v l1).bind fun x => Fc.restV e d false x.1 x.2).bind (Fc.doneV e)) := by rw [HPV.out, hx1]; rfl
          have HP2 := Lib.hid hp2
          have HG1 := Lib.hid HG'.out.tail
          clear hx1 hp2 HPV
          go_wp2_with (first | (refine HM.out.mono ?_; rintro en w1 ⟨rfl, rfl⟩))
          refine HWD.out.mono ?_
          rintro en w3 ho
          obtain ⟨rfl, hr3, hrd3⟩ := ho.ok HX1.out
          have hst3 := HS'.out.step (Fc.Rb.of b hrd3) hr3 (HS'.out.gm.block (hrd3.block _ HS'.out.gm.lt (by omega))) hlt hbn
          have HS3 := Lib.hid hst3
          have q3 := Joins.cell_of_block hst3.bx 0
          have HVF := Lib.hid (value_fact R e b (.slice a nd c) d v n l1 w3 HS3.out.rs (fun w' hb' => HF.out w' ((HS3.out.rb.below (Nat.le_refl R) (by omega) hlt).trans hb')) HV.out HS3.out.gm (by rw [hvl]; exact HND.out) (by omega) HG1.out (by omega))
          clear hr3 hrd3 ho hst3 HWD HM HX1 q0
          cases hx : Fc.valueP e d v l1 with
          | error z =>
            have hpe : P = Fc.CaseOut R w (.error z) := by rw [HP2.out, hx]; rfl
            have HPE := Lib.hid (And.intro hpe hx)
            clear hpe hx
            go_wp2_with fail
            refine HVF.out.mono ?_
            rintro en w4 ho
            rw [HPE.out.2] at ho
            obtain ⟨hrb, hf⟩ := ho
            obtain rfl : en = _ := hf
            refine ⟨rfl, ?_⟩
            rw [HPE.out.1]
            exact ⟨(HS3.out.rb.trans hrb).low (by omega), rfl⟩
          | ok y =>
            obtain ⟨v2, l2⟩ := y
            obtain ⟨y1, y2, y3⟩ := Fc.valueP_ok HG1.out hx
            have hpe : P = Fc.CaseOut R w ((Fc.restV e d false v2 l2).bind (Fc.doneV e)) := by rw [HP2.out, hx]; rfl
            have HPE := Lib.hid (And.intro hpe (And.intro hx y1))
            have y2' : l2.length < gk ∧ n + 1 + l2.length ≤ 5000 := by
              have : l2.length < l1.length := y2
              rw [List.length_cons] at hnl
              omega
            have y3' : v2.length = nd := by rw [← hvl]; exact y3
            clear hpe hx y1 y2 y3
            go_wp2_with fail
            refine HVF.out.mono ?_
            rintro en w4 ho
            rw [HPE.out.2.1] at ho
            obtain ⟨hrb, rfl, hr4, hg4⟩ := ho
            have HS4 := Lib.hid (HS3.out.step hrb hr4 hg4 hlt hbn)
            clear hrb hr4 hg4
            go_wp2_with fail
            go_roundg l2.length
            case measure => exact y2'.1
            case rel => exact ⟨v2, n + 1, l2, rfl, HS4, HPE.out.2.2, y2'.2, y3', HPE.out.1⟩
end Go.Proofs.YtoamkanofhhjfaaGreatDoor
