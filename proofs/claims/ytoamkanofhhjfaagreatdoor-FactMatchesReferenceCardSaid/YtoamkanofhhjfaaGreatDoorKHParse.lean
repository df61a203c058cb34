import Derived.Test.YtoamkanofhhjfaaGreatDoorKHFact
import Derived.Test.YtoamkanofhhjfaaGreatDoorKERefL
import Derived.Test.YtoamkanofhhjfaaGreatDoorKFParsed
import Derived.Test.YtoamkanofhhjfaaGreatDoorKFNewR
import Derived.Deep.LoopGhost
/-
  The walk of the reference's Parse.
-/
namespace Go.Proofs.YtoamkanofhhjfaaGreatDoor
open Go.RowKit

namespace Fc
open Lx
theorem RX.idx {R e : Nat} {lv : Value} {L r : List Tok} {w : World} (h : RX R e lv L (.ok r) w) : ∃ i : Nat, w.cell? ⟨R, 1, none⟩ = some (.int .i64 i) ∧ i ≤ L.length ∧ r = L.drop i := by
  obtain ⟨i, E, A, h1, _, _, h4⟩ := h
  exact ⟨i, Joins.cell_of_block h1.1 1, h1.2.2, h4⟩
theorem RX.bad {R e : Nat} {lv : Value} {L : List Tok} {z : Nat × Nat} {w : World} (h : RX R e lv L (.error z) w) : z.1 ≠ 0 ∧ w.cell? ⟨R, 4, none⟩ = some (.int .i64 (z.2 : Nat)) := by
  obtain ⟨i, E, A, h1, rfl, h2, rfl⟩ := h
  exact ⟨h2, Joins.cell_of_block h1.1 4⟩
/-- How many rounds are left. -/
def left : Except (Nat × Nat) (List Tok) → Nat
  | .ok r => r.length + 1
  | .error _ => 0
def cont (e : Nat) (d : List Fact) : Except (Nat × Nat) (List Tok) → Except (Nat × Nat) (List Fact)
  | .ok r => rest e d r
  | .error z => .error z
/-- What Parse's loop keeps: B2 the result's box, B9 the domain's. -/
structure PSt (R e : Nat) (lv : Value) (L : List Tok) (B2 B9 : Nat) (w0 : World) (x : Except (Nat × Nat) (List Tok)) (d : List Fact) (v : Value) (w : World) : Prop where
  rx : RX R e lv L x w
  below : Below w0.heap.size w0 w
  b2 : w.heap[B2]? = some (.cells #[.slice none 0 0] 24 (0, 0))
  b9 : w.heap[B9]? = some (.cells #[v] 24 (0, 0))
  own : ∀ r, x = .ok r → OwnF (B9 + 1) d v w
  form : ∃ a n c, v = .slice a n c
theorem PSt.next {R e : Nat} {lv : Value} {L : List Tok} {B2 B9 : Nat} {w0 : World} {x y : Except (Nat × Nat) (List Tok)} {d d2 : List Fact} {v v2 : Value} {w w2 : World} (h : PSt R e lv L B2 B9 w0 x d v w)
    (hf : Fr R (B9 + 1) w w2) (hB : w0.heap.size ≤ B2 ∧ B2 < R ∧ R < B9) (hrx : RX R e lv L y w2) (hown : ∀ r, y = .ok r → OwnF (B9 + 1) d2 v2 w2) (hform : ∃ a n c, v2 = .slice a n c) : PSt R e lv L B2 B9 w0 y d2 v2 (w2.setCell ⟨B9, 0, none⟩ v2) := by
  have hlt := (Array.getElem?_eq_some_iff.1 h.b9).1
  have hb9 := (hf.block B9 (by omega) (by omega)).trans h.b9
  have hb2 := (hf.block B2 (by omega) (by omega)).trans h.b2
  refine ⟨hrx.low (B := B9) ((Below.refl B9 w2).setCell (p := ⟨B9, 0, none⟩) (Nat.le_refl _) _) hB.2.2, ?_, ?_, ?_, fun r hr => (hown r hr).set (a := ⟨B9, 0, none⟩) (by show B9 < B9 + 1; omega) _, hform⟩
  · have h1 : Below w0.heap.size w w2 := ⟨hf.os, hf.tape, hf.output, hf.size, fun k hk => hf.block k (by omega) (by omega)⟩
    exact (h.below.trans h1).setCell (p := ⟨B9, 0, none⟩) (by show w0.heap.size ≤ B9; omega) _
  · exact (Below.heap_setCell _ _ _ _ (by show B2 ≠ B9; omega)).trans hb2
  · rw [Joins.block_setCell hb9]; rfl
end Fc

set_option maxHeartbeats 8000000 in
set_option maxRecDepth 100000 in
theorem refparse_walk (s : ByteArray) (hm : s.size ≤ 3000) (w : World) :
    Calls Tryz.prog 7 #[.string s] w (Fc.ParsedD (Fc.parseT (Lx.tx s)) w) := by
  obtain ⟨Y, hY⟩ : ∃ Y, Y = Fc.parseT (Lx.tx s) := ⟨_, rfl⟩
  rw [← hY]
  obtain ⟨W1, hW1⟩ : ∃ W1, W1 = w.alloc (.cells #[.slice none 0 0] 24) := ⟨_, rfl⟩
  obtain ⟨B2, hB2⟩ : ∃ n, n = w.heap.size := ⟨_, rfl⟩
  have hbW : Below w.heap.size w W1 := by rw [hW1]; exact (Below.refl _ _).alloc (Nat.le_refl _) _
  have hk2 : W1.heap[B2]? = some (.cells #[.slice none 0 0] 24 (0, 0)) := by rw [hW1, hB2]; exact heap_alloc_new _ _
  have HLX := Lib.hid (reflex_walk s (by omega) W1)
  have hfe := Fc.full_err (s := Lx.tx s) (by rw [Lx.tx_len]; omega)
  have hgood := Fc.full_good (Lx.tx s)
  have hflen := Fc.full_len (Lx.tx s)
  unfold Fc.parseT at hY
  rw [Lx.tx_len] at hY hfe
  revert HLX hY hfe hgood hflen
  generalize Lx.full (Lx.tx s) = r
  obtain ⟨L, E, A⟩ := r
  intro hY HLX hfe hgood hflen
  dsimp only at hY hfe hgood hflen
  have HY := Lib.hid hY
  have HFE := Lib.hid hfe
  have HGD := Lib.hid hgood
  have HB1 := Lib.hid (And.intro hbW hk2)
  have HB2 := Lib.hid hB2
  have HW1 : Hid (w.alloc (.cells #[.slice none 0 0] 24) = W1) := hW1.symm
  clear hY hfe hgood hbW hk2 hW1 hB2
  go_enter Tryz.func7, Tryz.ntmps7
  go_upto_region 1 with fail
  rw [HW1.out, ← HB2.out]
  clear HW1
  go_wp2_with fail
  refine HLX.out.mono ?_
  rintro en w2 ⟨lv, rfl, hO, hb2⟩
  have hk22 := (hb2.block B2 (Array.getElem?_eq_some_iff.1 HB1.out.2).1).trans HB1.out.2
  have hb02 := HB1.out.1.trans (hb2.mono HB1.out.1.size)
  dsimp only
  by_cases hE : E = 0
  case neg =>
    have e1 : (((E : Nat) : Int) != 0) = true := by rw [bne_iff_ne]; omega
    have hYE : Y = .error (E, A) := by rw [HY.out, if_neg hE]
    have c2 := Joins.cell_of_block hk22 0
    have u2 := Joins.unfrozen_of_block hk22 0
    have HE := Lib.hid hYE
    have HK := Lib.hid (And.intro hk22 hb02)
    clear hk22 hb02 hO hb2 hYE HFE
    go_wp2_with fail
    have k2 : (w2.setCell ⟨B2, 0, none⟩ (.slice none 0 0)).cell? ⟨B2, 0, none⟩ = some (.slice none 0 0) := Joins.cell_of_block (Joins.block_setCell HK.out.1 _) 0
    refine bodyPost_ret (v := .tuple #[.agg #[.slice none 0 0], .int .i64 (E : Nat), .int .i64 A]) ?_ rfl ?_
    · simp [results, Tryz.f7, go_sem, k2]
    · rw [HE.out]
      refine ⟨HK.out.2.setCell (p := ⟨B2, 0, none⟩) (by rw [HB2.out]; exact Nat.le_refl _) _, rfl⟩
  case pos =>
    subst hE
    obtain ⟨⟨lva, lvc⟩, hla⟩ := hO.form
    dsimp only at hla
    subst hla
    have hYP : Y = Fc.wide (Fc.parse s.size L) := by rw [HY.out, if_pos rfl]
    have e1 : (((0 : Nat) : Int) != 0) = false := rfl
    have HYP := Lib.hid hYP
    obtain ⟨W4, hW4⟩ : ∃ W, W = w2.alloc (.cells #[.slice lva L.length lvc, .int .i64 0, .int .i64 s.size, .int .i64 0, .int .i64 0] 54) := ⟨_, rfl⟩
    obtain ⟨R, hRe⟩ : ∃ n, n = w2.heap.size := ⟨_, rfl⟩
    have hb4 : Below w2.heap.size w2 W4 := by rw [hW4]; exact (Below.refl _ _).alloc (Nat.le_refl _) _
    have hR4 : Fc.RSt R s.size (.slice lva L.length lvc) L 0 0 0 W4 := by
      refine ⟨by rw [hW4, hRe]; exact heap_alloc_new _ _, ?_, Nat.zero_le _⟩
      have := (Fc.OwnT.isT hO (Nat.le_refl _)).below hb4
      rw [← hRe] at this
      exact this
    obtain ⟨W5, hW5⟩ : ∃ W, W = W4.alloc (.cells #[.slice none 0 0] 24) := ⟨_, rfl⟩
    obtain ⟨B9, hB9⟩ : ∃ n, n = w2.heap.size + 1 := ⟨_, rfl⟩
    have hs4 : W4.heap.size = w2.heap.size + 1 := by rw [hW4]; simp
    have hb5 : Below W4.heap.size W4 W5 := by rw [hW5]; exact (Below.refl _ _).alloc (Nat.le_refl _) _
    have hb25 : Below w2.heap.size w2 W5 := hb4.trans (hb5.mono hb4.size)
    have hord : w.heap.size ≤ B2 ∧ B2 < R ∧ R < B9 := ⟨by rw [HB2.out]; exact Nat.le_refl _, by rw [hRe]; exact (Array.getElem?_eq_some_iff.1 hk22).1, by omega⟩
    have hst : Fc.PSt R s.size (.slice lva L.length lvc) L B2 B9 w (.ok L) [] (.slice none 0 0) W5 := by
      refine ⟨⟨0, 0, 0, hR4.below hb5, rfl, rfl, rfl⟩, hb02.trans (hb25.mono hb02.size), (hb25.block B2 (Array.getElem?_eq_some_iff.1 hk22).1).trans hk22, by rw [hW5, hB9, ← hs4]; exact heap_alloc_new _ _, fun r _ => Fc.OwnF.nil _ _, ⟨_, _, _, rfl⟩⟩
    have HST := Lib.hid hst
    have HORD := Lib.hid hord
    have HWA : Hid ((w2.alloc (.cells #[.slice lva L.length lvc, .int .i64 0, .int .i64 s.size, .int .i64 0, .int .i64 0] 54)).alloc (.cells #[.slice none 0 0] 24) = W5) := by rw [← hW4]; exact hW5.symm
    have HRE := Lib.hid (And.intro hRe hB9)
    clear hYP hW4 hRe hb4 hR4 hW5 hB9 hs4 hb5 hb25 hord hst hk22 hb02 hb2 hO
    go_upto_region 6 with fail
    rw [HWA.out, ← HRE.out.2, ← HRE.out.1]
    clear HWA HRE HFE
    have hG0 : Hid (∀ r, (Except.ok L : Except (Nat × Nat) (List Lx.Tok)) = .ok r → Fc.Goods r) := fun r h => by cases h; exact HGD.out
    have hV0 : Hid (Fc.Valid []) := ⟨by simp, by simp, by simp⟩
    go_loopg [] (L.length + 1) (fun k wr => ∃ x d v, Fc.left x = k ∧ Hid (∀ r, x = .ok r → Fc.Goods r) ∧ Hid (Fc.Valid d) ∧ Hid (Fc.parse s.size L = Fc.cont s.size d x) ∧ Hid (Fc.PSt R s.size (.slice lva L.length lvc) L B2 B9 w x d v wr))
    case atStart => exact ⟨.ok L, [], _, rfl, hG0, hV0, rfl, HST⟩
    case round =>
      obtain ⟨x, d, v, hk, hg, hvd, hp, hst⟩ := hrel
      clear HST hG0 hV0
      cases x with
      | error z =>
        obtain ⟨c3, e0⟩ := hst.out.rx.err_no
        obtain ⟨hz, c4⟩ := hst.out.rx.bad
        have e2 : (((z.1 : Nat) : Int) != 0) = true := by rw [bne_iff_ne]; omega
        have b2 := Joins.cell_of_block hst.out.b2 0
        have u2 := Joins.unfrozen_of_block hst.out.b2 0
        have HPE : Hid (Y = .error (z.1, (z.2 : Int))) := by show Y = _; rw [HYP.out, hp.out]; rfl
        have HK := Lib.hid (And.intro hst.out.b2 hst.out.below)
        clear hk hg hvd hp hst hz
        obtain ⟨zE, zA⟩ := z
        dsimp only at c3 e0 c4 e2 HPE
        go_wp2_with fail
        go_region
        all_goals
          go_wp2_with fail
          have k2 : ((wr.setCell ⟨B2, 0, none⟩ (.slice none 0 0)).drew).cell? ⟨B2, 0, none⟩ = some (.slice none 0 0) := Joins.cell_of_block (Joins.block_setCell HK.out.1 _) 0
          refine bodyPost_ret (v := .tuple #[.agg #[.slice none 0 0], .int .i64 (zE : Nat), .int .i64 (zA : Nat)]) ?_ rfl ?_
          · have k3 : (wr.setCell ⟨B2, 0, none⟩ (.slice none 0 0)).cell? ⟨B2, 0, none⟩ = some (.slice none 0 0) := k2
            simp [results, Tryz.f7, go_sem, k3]
          · rw [HPE.out]
            refine ⟨(HK.out.2.setCell (p := ⟨B2, 0, none⟩) HORD.out.1 _).drew, rfl⟩
      | ok r =>
        have c3 := hst.out.rx.err_ok
        obtain ⟨i, c1, hi, hri⟩ := hst.out.rx.idx
        obtain ⟨va, vn, vc, rfl⟩ := hst.out.form
        have b9 := Joins.cell_of_block hst.out.b9 0
        have HG := Lib.hid (hg.out r rfl)
        cases r with
        | nil =>
          have hge : ¬ i < L.length := by
            intro h
            have := congrArg List.length hri
            rw [List.length_drop, List.length_nil] at this
            omega
          have hli : ¬ (i : Int) < (L.length : Int) := by omega
          have hln : decide (i < L.length) = false := decide_eq_false hge
          have b2 := Joins.cell_of_block hst.out.b2 0
          have u2 := Joins.unfrozen_of_block hst.out.b2 0
          have HPE : Hid (Y = .ok d) := by show Y = _; rw [HYP.out, hp.out]; rfl
          have HK := Lib.hid (And.intro hst.out.b2 hst.out.below)
          have HO9 := Lib.hid (hst.out.own [] rfl)
          have HVD := Lib.hid hvd.out
          clear hk hg hvd hp hst hri hge hi
          go_wp2_with fail
          have k2 : (wr.setCell ⟨B2, 0, none⟩ (.slice va vn vc)).cell? ⟨B2, 0, none⟩ = some (.slice va vn vc) := Joins.cell_of_block (Joins.block_setCell HK.out.1 _) 0
          refine bodyPost_ret (v := .tuple #[.agg #[.slice va vn vc], .int .i64 0, .int .i64 0]) ?_ rfl ?_
          · simp [results, Tryz.f7, go_sem, k2]
          · rw [HPE.out]
            refine ⟨HK.out.2.setCell (p := ⟨B2, 0, none⟩) HORD.out.1 _, _, rfl, ?_, HVD.out⟩
            exact (HO9.out.set (a := ⟨B2, 0, none⟩) (by show B2 < B9 + 1; have := HORD.out; omega) _).mono (by have := HORD.out; omega)
        | cons t r =>
          have hlt : i < L.length := by
            rcases Nat.lt_or_ge i L.length with h | h
            · exact h
            · rw [List.drop_eq_nil_of_le h] at hri; cases hri
          have hli : (i : Int) < (L.length : Int) := by omega
          have hln : decide (i < L.length) = true := decide_eq_true hlt
          have u9 := Joins.unfrozen_of_block hst.out.b9 0
          have HFW := Lib.hid (reffact_walk R s.size (.slice lva L.length lvc) L (t :: r) (B9 + 1) d (.slice va vn vc) wr hst.out.rx hflen (hst.out.own _ rfl) (Array.getElem?_eq_some_iff.1 hst.out.b9).1 (by have := HORD.out; omega) hvd.out)
          have hfp := Fc.factP_eq (e := s.size) HG.out hvd.out.2.2
          rw [hfp] at HFW
          have hstep := Fc.rest_step (e := s.size) HG.out hvd.out.2.2
          have HP2 : Hid (Fc.parse s.size L = (Fc.factP s.size d (t :: r)).bind fun f => Fc.rest s.size (d ++ [f.1]) f.2) := hp.out.trans hstep
          have HS := Lib.hid hst.out
          have HVD := Lib.hid hvd.out
          have HKK := Lib.hid hk
          clear hk hg hvd hp hst hri hi hfp hstep hlt
          go_wp2_with fail
          refine HFW.out.mono ?_
          rintro en w9 ⟨g9, c9, rfl, hfr, hx9⟩
          have d9 : w9.cell? ⟨B9, 0, none⟩ = some (.slice va vn vc) := Joins.cell_of_block ((hfr.block B9 (by omega) (by have := HORD.out; omega)).trans HS.out.b9) 0
          have f9 : w9.frozen? ⟨B9, 0, none⟩ = false := Joins.unfrozen_of_block ((hfr.block B9 (by omega) (by have := HORD.out; omega)).trans HS.out.b9) 0
          have HFR := Lib.hid hfr
          cases hfx : Fc.factP s.size d (t :: r) with
          | error z =>
            rw [hfx] at hx9
            have hps := HS.out.next hfr HORD.out (y := .error z) (d2 := d) (v2 := .slice (some ⟨g9, 0, none⟩) (d.length + 1) c9) hx9 (fun r h => by cases h) ⟨_, _, _, rfl⟩
            have HPS := Lib.hid hps
            have HPZ : Hid (Fc.parse s.size L = Fc.cont s.size d (.error z)) := by show _ = _; rw [HP2.out, hfx]; rfl
            clear hfx hx9 hfr hps b9 c1 c3 u9 HFW
            go_wp2_with fail
            go_roundg 0
            case measure => rw [← HKK.out]; exact Nat.succ_pos _
            case rel =>
              have HG0 : Hid (∀ r, (Except.error z : Except (Nat × Nat) (List Lx.Tok)) = .ok r → Fc.Goods r) := fun r h => by cases h
              exact ⟨.error z, d, _, rfl, HG0, HVD, HPZ, HPS⟩
          | ok y =>
            obtain ⟨f, r2⟩ := y
            rw [hfx] at hx9
            obtain ⟨v1, v2, v3⟩ := Fc.factP_ok HG.out HVD.out hfx
            have hps := HS.out.next hfr HORD.out (y := .ok r2) (d2 := d ++ [f]) (v2 := .slice (some ⟨g9, 0, none⟩) (d.length + 1) c9) hx9.1 (fun _ _ => hx9.2) ⟨_, _, _, rfl⟩
            have HPS := Lib.hid hps
            have HPZ : Hid (Fc.parse s.size L = Fc.cont s.size (d ++ [f]) (.ok r2)) := by show _ = _; rw [HP2.out, hfx]; rfl
            have HV1 := Lib.hid (And.intro v1 (And.intro v2 v3))
            clear hfx hx9 hfr hps b9 c1 c3 u9 HFW v1 v2 v3
            go_wp2_with fail
            go_roundg (r2.length + 1)
            case measure => rw [← HKK.out]; show r2.length + 1 < (t :: r).length + 1; have := HV1.out.2.2; omega
            case rel =>
              have HG0 : Hid (∀ r, (Except.ok r2 : Except (Nat × Nat) (List Lx.Tok)) = .ok r → Fc.Goods r) := fun r h => by cases h; exact HV1.out.2.1
              exact ⟨.ok r2, d ++ [f], _, rfl, HG0, HV1.out.1, HPZ, HPS⟩
end Go.Proofs.YtoamkanofhhjfaaGreatDoor
