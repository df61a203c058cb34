import Derived.Test.YtoamkanofhhjfaaGreatDoorKFGiven
import Derived.Deep.RegionHeld3
/-
  The walk of the reader's value.
-/
namespace Go.Proofs.YtoamkanofhhjfaaGreatDoor
open Go.RowKit

namespace Fc
open Lx
/-- Nothing has turned but the blocks R and b; new blocks are there. -/
structure Rb (R b : Nat) (w w' : World) : Prop where
  os : w'.os = w.os
  tape : w'.tape = w.tape
  output : w'.output = w.output
  size : w.heap.size ≤ w'.heap.size
  block : ∀ k, k < w.heap.size → k ≠ R → k ≠ b → w'.heap[k]? = w.heap[k]?
theorem Rb.of {R : Nat} (b : Nat) {w w' : World} (h : Rd R w w') : Rb R b w w' := ⟨h.os, h.tape, h.output, h.size, fun k h1 h2 _ => h.block k h1 h2⟩
theorem Rb.trans {R b : Nat} {a c d : World} (h : Rb R b a c) (k : Rb R b c d) : Rb R b a d :=
  ⟨k.os.trans h.os, k.tape.trans h.tape, k.output.trans h.output, Nat.le_trans h.size k.size, fun i hi hn hm => (k.block i (Nat.lt_of_lt_of_le hi h.size) hn hm).trans (h.block i hi hn hm)⟩
theorem Rb.below {R b B : Nat} {a c : World} (h : Rb R b a c) (hB : B ≤ R) (hb : B ≤ b) (hR : R < a.heap.size) : Below B a c := ⟨h.os, h.tape, h.output, h.size, fun k hk => h.block k (by omega) (by omega) (by omega)⟩
theorem Rb.map {R b : Nat} {w w' : World} (h : w.grownBy w' (some b)) : Rb R b w w' := ⟨h.os, h.tape, h.output, h.size, fun k hk _ hn => h.block k hk (fun e => hn (Option.some.inj e))⟩
/-- How value ends. -/
def VOut (R e b : Nat) (d : List Fact) (n : Nat) (w : World) (x : Except (Nat × Nat) (List (Option Int) × List Tok)) (en : Ending) (w' : World) : Prop :=
  Rb R b w w' ∧ match x with
  | .ok y => en = .returned (.tuple #[]) ∧ IsR R w' e y.2 ∧ IsG d y.1 (n + 1) w' b
  | .error z => Fails z en
theorem IsR.grown {R e b : Nat} {w w' : World} {l : List Tok} (h : IsR R w e l) (hg : w.grownBy w' (some b)) (hn : b ≠ R) (hRb : R < b) : IsR R w' e l := by
  have hlt := h.lt
  obtain ⟨v, h1, h2⟩ := h
  have hb : Below R w w' := ⟨hg.os, hg.tape, hg.output, hg.size, fun k hk => hg.block k (by omega) (fun e => by have := Option.some.inj e; omega)⟩
  exact ⟨v, (hg.block R hlt (fun e => hn (Option.some.inj e).symm)).trans h1, h2.below hb⟩
structure ValSt (R e b : Nat) (dv : Value) (d : List Fact) (v : List (Option Int)) (n : Nat) (w : World) (l : List Tok) (wr : World) : Prop where
  rd : Rd R w wr
  rs : IsR R wr e l
  bx : wr.heap[w.heap.size]? = some (.cells #[dv] 24 (0, 0))
  gm : IsG d v n wr b
theorem ValSt.step {R e b : Nat} {dv : Value} {d : List Fact} {v : List (Option Int)} {n : Nat} {w wr w2 : World} {l l2 : List Tok} (h : ValSt R e b dv d v n w l wr) (hr : Rd R wr w2) (h2 : IsR R w2 e l2) (hR : R < w.heap.size) (hb : b ≠ R) : ValSt R e b dv d v n w l2 w2 :=
  ⟨h.rd.trans hr, h2, (hr.block _ (Array.getElem?_eq_some_iff.1 h.bx).1 (by omega)).trans h.bx, h.gm.block (hr.block _ h.gm.lt hb)⟩
theorem ValSt.below {R e b : Nat} {dv : Value} {d : List Fact} {v : List (Option Int)} {n : Nat} {w wr w2 : World} {l : List Tok} (h : ValSt R e b dv d v n w l wr) (hb2 : Below wr.heap.size wr w2) (hR : R < w.heap.size) (hb : b ≠ R) : ValSt R e b dv d v n w l w2 :=
  h.step (Rd.of R hb2) (h.rs.below hb2) hR hb
end Fc

set_option maxHeartbeats 8000000 in
set_option maxRecDepth 100000 in
theorem value_fact (R e b : Nat) (dv : Value) (d : List Fc.Fact) (v : List (Option Int)) (n : Nat) (l : List Lx.Tok) (w : World) (hr : Fc.IsR R w e l) (hF : ∀ w', Below R w w' → Fc.IsF w' dv d) (hvd : Fc.Valid d)
    (hG : Fc.IsG d v n w b) (hvl : v.length = d.length) (hn : n ≤ 1000000) (hgl : Fc.Goods l) (hRb : R < b) :
    Calls Tryz.prog 66 #[.pointer (some ⟨R, 0, none⟩), .agg #[dv], .map (some b)] w (Fc.VOut R e b d n w (Fc.valueP e d v l)) := by
  have hlt := hr.lt
  have hbR : b ≠ R := by omega
  obtain ⟨a, c, g, o, hdv, hc1, hc2, hga, hcl⟩ := (hF w (Below.refl _ _)).any
  clear hcl
  subst hdv
  have HF := Lib.hid hF
  have HV := Lib.hid hvd
  obtain ⟨nd, hnd⟩ : ∃ nd, nd = d.length := ⟨_, rfl⟩
  rw [← hnd] at hc1 HF ⊢
  have HND := Lib.hid (And.intro hnd hvl)
  obtain ⟨P, hP⟩ : ∃ P, P = Fc.VOut R e b d n w (Fc.valueP e d v l) := ⟨_, rfl⟩
  have HP := Lib.hid hP
  rw [← hP]
  obtain ⟨W, hW⟩ : ∃ W, W = boxD w (.slice a nd c) := ⟨_, rfl⟩
  have hb0 : Below w.heap.size w W := by rw [hW]; exact boxD_below _ _
  have hst : Fc.ValSt R e b (.slice a nd c) d v n w l W := ⟨Fc.Rd.of R hb0, hr.below hb0, by rw [hW]; exact boxD_block _ _, hG.block (hb0.block _ hG.lt)⟩
  have HS := Lib.hid hst
  have HT1 := Lib.hid (take_walk R e 1 (by decide) l W hst.rs)
  have HGL := Lib.hid hgl
  have hW2 : W = w.alloc (.cells #[.slice a nd c] 24) := hW
  clear hr hF hvd hG hgl hP hb0 hst hW hnd hvl hga
  go_enter Tryz.func66, Tryz.ntmps66
  go_upto_region 1 with fail
  rw [← hW2]
  clear hW2
  cases hx1 : Fc.want 1 [] e l with
  | error z =>
    have HX := Lib.hid hx1
    clear hx1
    go_wp2_with fail
    refine HT1.out.mono ?_
    rintro en w1 ho
    obtain ⟨hf, hrd⟩ := ho.no HX.out
    obtain rfl : en = _ := hf
    refine ⟨rfl, ?_⟩
    rw [HP.out]
    unfold Fc.valueP
    rw [HX.out]
    exact ⟨Fc.Rb.of b (HS.out.rd.trans hrd), rfl⟩
  | ok y =>
    obtain ⟨nm, l1⟩ := y
    have HX := Lib.hid hx1
    have HG1 := Lib.hid (HGL.out.want hx1)
    have hnl : nm.text.length ≤ 24 := by
      obtain ⟨e1, k1, _⟩ := Fc.want_ok hx1
      have hgn := HGL.out nm (by rw [e1]; simp)
      obtain ⟨c, s, e2, _, _, h4⟩ := (Fc.good1 _).1 (Fc.good_one hgn k1)
      rw [e2]; exact h4
    clear hx1
    go_wp2_with fail
    refine HT1.out.mono ?_
    rintro en w1 ho
    obtain ⟨rfl, hr1, hrd⟩ := ho.ok HX.out
    have hst1 := HS.out.step hrd hr1 hlt hbR
    have hbA : Below w1.heap.size w1 (w1.alloc (.cells #[.int .i64 (nm.kind : Nat), .string (Lx.str nm.text), .int .i64 (nm.n : Nat), .int .i64 (nm.at_ : Nat)] 60)) := (Below.refl _ _).alloc (Nat.le_refl _) _
    have hst2 := hst1.below hbA hlt hbR
    have hk6 := Fc.TokV.new w1 nm
    obtain ⟨W2, hW2⟩ : ∃ W2, W2 = w1.alloc (.cells #[.int .i64 (nm.kind : Nat), .string (Lx.str nm.text), .int .i64 (nm.n : Nat), .int .i64 (nm.at_ : Nat)] 60) := ⟨_, rfl⟩
    rw [← hW2] at hst2 hk6
    obtain ⟨k6, hk6n⟩ : ∃ k6, k6 = w1.heap.size := ⟨_, rfl⟩
    rw [← hk6n] at hk6
    have hk6R : k6 ≠ R := by
      have h1 := (Array.getElem?_eq_some_iff.1 hst1.bx).1
      omega
    have HS2 := Lib.hid hst2
    have HK6 := Lib.hid hk6
    obtain ⟨x, hx⟩ : ∃ x, x = Lx.str nm.text := ⟨_, rfl⟩
    have HXX := Lib.hid hx
    obtain ⟨zi, hzi⟩ : ∃ zi, zi = Fc.idx d nm.text := ⟨_, rfl⟩
    have HI : Hid (∀ w', Below W2.heap.size W2 w' → Calls Tryz.prog 16 #[.agg #[.slice a nd c], .string x] w' fun en w'' => en = .returned (.int .i64 zi) ∧ Below w'.heap.size w' w'') := fun w' hb' => by
      have hbb := (HS2.out.rd.below (Nat.le_refl R) hlt).trans (hb'.mono (by have := HS2.out.rs.lt; omega))
      have := index_walk (.slice a nd c) d x w' (HF.out w' hbb)
      rw [hx, Lx.tx_str, ← hzi] at this
      rw [hx]; exact this
    have HZI := Lib.hid hzi
    clear hbA hst1 hst2 hr1 hrd ho HT1 HS hk6 hx hzi
    go_upto_region 2 with fail
    rw [← hW2, ← hk6n]
    clear hW2 hk6n
    have q0 := Joins.cell_of_block HS2.out.bx 0
    have hk6b := HK6.out
    unfold Fc.TokV at hk6b
    rw [← HXX.out] at hk6b
    have q1 := Joins.cell_of_block hk6b 1
    clear hk6b
    go_upto_region 3 with (first | (refine (HI.out _ (Below.refl _ _)).mono ?_; rintro en w3 ⟨rfl, hb3⟩))
    have HS3 := Lib.hid (HS2.out.below hb3 hlt hbR)
    have hk63 := HK6.out.rd (Fc.Rd.of R hb3) hk6R
    have HK63 := Lib.hid hk63
    unfold Fc.TokV at hk63
    rw [← HXX.out] at hk63
    have e1 := Joins.cell_of_block hk63 1
    have e3 := Joins.cell_of_block hk63 3
    clear hk63 hb3 HI HS2 HK6 q0 q1
    have hPv : Fc.valueP e d v l = (match Fc.index d nm.text with | none => .error (7, nm.at_) | some i => if (Fc.gopt d v nm.text).isSome then .error (9, nm.at_) else Fc.numP e (d.getD i ⟨[], 0, 0, 0⟩) i v l1) := by
      unfold Fc.valueP; rw [HX.out]; rfl
    have HPV := Lib.hid hPv
    clear hPv
    cases hix : Fc.index d nm.text with
    | none =>
      have hz : zi = -1 := by rw [HZI.out]; exact Fc.idx_none hix
      have hpe : Fc.valueP e d v l = .error (7, nm.at_) := by rw [HPV.out, hix]
      have HPE := Lib.hid hpe
      subst hz
      clear hpe hix HPV HZI
      go_wp2_with fail
      refine (require_no 7 (nm.at_ : Int) _).mono ?_
      rintro en w4 ⟨rfl, rfl⟩
      refine ⟨rfl, ?_⟩
      rw [HP.out, HPE.out]
      exact ⟨Fc.Rb.of b HS3.out.rd, rfl⟩
    | some i =>
      have hz : zi = (i : Int) := by rw [HZI.out]; exact Fc.idx_some hix
      obtain ⟨f, hf, hfn, _⟩ := Fc.index_some_iff.1 hix
      have hin : i < nd := by rw [HND.out.1]; exact (List.getElem?_eq_some_iff.1 hf).1
      have hpe : Fc.valueP e d v l = if (Fc.gopt d v nm.text).isSome then .error (9, nm.at_) else Fc.numP e f i v l1 := by
        rw [HPV.out, hix]
        dsimp only
        rw [show d.getD i ⟨[], 0, 0, 0⟩ = f by rw [List.getD_eq_getElem?_getD, hf]; rfl]
      have HPE := Lib.hid hpe
      have HIF := Lib.hid (And.intro hf (And.intro hfn hix))
      have hlk := HS3.out.gm.look x (by rw [HXX.out, Fc.str_size]; unfold maxLen; omega)
      rw [HXX.out, Lx.tx_str, ← HXX.out] at hlk
      obtain ⟨gv, hgv⟩ : ∃ gv, gv = (Fc.gopt d v nm.text).getD 0 := ⟨_, rfl⟩
      rw [← hgv] at hlk
      subst hz
      have hzi : decide (0 ≤ (i : Int)) = true := decide_eq_true (by omega)
      clear hpe hix HPV HZI hf hfn hgv
      cases hgs : (Fc.gopt d v nm.text).isSome with
      | true =>
        rw [hgs] at hlk
        have hp9 : Fc.valueP e d v l = .error (9, nm.at_) := by rw [HPE.out, if_pos hgs]
        have HP9 := Lib.hid hp9
        clear hp9 hgs HPE
        go_wp2_with (first | ((with_reducible refine (require_yes 7 (nm.at_ : Int) _).mono ?_); rintro en w4 ⟨rfl, rfl⟩))
        refine (require_no 9 (nm.at_ : Int) _).mono ?_
        rintro en w4 ⟨rfl, rfl⟩
        refine ⟨rfl, ?_⟩
        rw [HP.out, HP9.out]
        exact ⟨Fc.Rb.of b HS3.out.rd, rfl⟩
      | false =>
        rw [hgs] at hlk
        have hp9 : Fc.valueP e d v l = Fc.numP e f i v l1 := by rw [HPE.out, if_neg (by rw [hgs]; decide)]
        have HP9 := Lib.hid hp9
        have HWD := Lib.hid (word_walk R e ⟨#[61]⟩ l1 w3 HS3.out.rs)
        clear hp9 hgs HPE
        cases hx2 : Fc.wordT e [61] l1 with
        | error z =>
          have HX2 := Lib.hid hx2
          clear hx2
          go_wp2_with (first | ((with_reducible refine (require_yes 7 (nm.at_ : Int) _).mono ?_); rintro en w4 ⟨rfl, rfl⟩) | ((with_reducible refine (require_yes 9 (nm.at_ : Int) _).mono ?_); rintro en w4 ⟨rfl, rfl⟩))
          refine HWD.out.mono ?_
          rintro en w5 ho
          obtain ⟨hf, hrd⟩ := ho.no HX2.out
          obtain rfl : en = _ := hf
          refine ⟨rfl, ?_⟩
          rw [HP.out, HP9.out]
          unfold Fc.numP
          rw [HX2.out]
          exact ⟨Fc.Rb.of b (HS3.out.rd.trans hrd), rfl⟩
        | ok y =>
          obtain ⟨u0, l2⟩ := y
          have HX2 := Lib.hid hx2
          clear hx2
          go_wp2_with (first | ((with_reducible refine (require_yes 7 (nm.at_ : Int) _).mono ?_); rintro en w4 ⟨rfl, rfl⟩) | ((with_reducible refine (require_yes 9 (nm.at_ : Int) _).mono ?_); rintro en w4 ⟨rfl, rfl⟩))
          refine HWD.out.mono ?_
          rintro en w5 ho
          obtain ⟨rfl, hr5, hrd5⟩ := ho.ok HX2.out
          have HS5 := Lib.hid (HS3.out.step hrd5 hr5 hlt hbR)
          have HK65 := Lib.hid (HK63.out.rd hrd5 hk6R)
          have hpn : Fc.valueP e d v l = (Fc.want 2 [] e l2).bind fun x => if f.lo ≤ (x.1.n : Int) ∧ (x.1.n : Int) ≤ f.hi then .ok (v.set i (some (x.1.n : Int)), x.2) else .error (10, x.1.at_) := by
            rw [HP9.out]; unfold Fc.numP; rw [HX2.out]; rfl
          have HPN := Lib.hid hpn
          have HT2 := Lib.hid (take_walk R e 2 (by decide) l2 w5 HS5.out.rs)
          clear hr5 hrd5 ho hpn HP9 HX2 HWD HS3 HK63 e1 e3 hlk
          cases hx3 : Fc.want 2 [] e l2 with
          | error z =>
            have HX3 := Lib.hid hx3
            clear hx3
            go_wp2_with fail
            refine HT2.out.mono ?_
            rintro en w6 ho
            obtain ⟨hf, hrd⟩ := ho.no HX3.out
            obtain rfl : en = _ := hf
            refine ⟨rfl, ?_⟩
            rw [HP.out, HPN.out, HX3.out]
            exact ⟨Fc.Rb.of b (HS5.out.rd.trans hrd), rfl⟩
          | ok y =>
            obtain ⟨nu, l3⟩ := y
            have HX3 := Lib.hid hx3
            clear hx3
            go_wp2_with fail
            refine HT2.out.mono ?_
            rintro en w6 ho
            obtain ⟨rfl, hr6, hrd6⟩ := ho.ok HX3.out
            have hst6 := HS5.out.step hrd6 hr6 hlt hbR
            have hbA : Below w6.heap.size w6 (w6.alloc (.cells #[.int .i64 (nu.kind : Nat), .string (Lx.str nu.text), .int .i64 (nu.n : Nat), .int .i64 (nu.at_ : Nat)] 60)) := (Below.refl _ _).alloc (Nat.le_refl _) _
            have hst7 := hst6.below hbA hlt hbR
            have hk10 := Fc.TokV.new w6 nu
            have hk67 := (HK65.out.rd hrd6 hk6R).rd (Fc.Rd.of R hbA) hk6R
            obtain ⟨W7, hW7⟩ : ∃ W7, W7 = w6.alloc (.cells #[.int .i64 (nu.kind : Nat), .string (Lx.str nu.text), .int .i64 (nu.n : Nat), .int .i64 (nu.at_ : Nat)] 60) := ⟨_, rfl⟩
            rw [← hW7] at hst7 hk10 hk67
            obtain ⟨k10, hk10n⟩ : ∃ k10, k10 = w6.heap.size := ⟨_, rfl⟩
            rw [← hk10n] at hk10
            have hk10R : k10 ≠ R := by
              have h1 := (Array.getElem?_eq_some_iff.1 hst6.bx).1
              omega
            have HS7 := Lib.hid hst7
            have HK10 := Lib.hid hk10
            have HK67 := Lib.hid hk67
            have hpn : P = Fc.VOut R e b d n w (if f.lo ≤ (nu.n : Int) ∧ (nu.n : Int) ≤ f.hi then .ok (v.set i (some (nu.n : Int)), l3) else .error (10, nu.at_)) := by rw [HP.out, HPN.out, HX3.out]; rfl
            have HPQ := Lib.hid hpn
            clear hbA hst6 hst7 hr6 hrd6 ho HT2 hk67 hpn HPN HX3 HS5 HK65 HP
            go_upto_region 8 with fail
            rw [← hW7, ← hk10n]
            clear hW7 hk10n
            obtain ⟨_, _, g7, o7, hsl, _, _, hga7, hcl7⟩ := (HF.out W7 (HS7.out.rd.below (Nat.le_refl R) hlt)).any
            obtain ⟨rfl, hg7⟩ := hga7 (by rintro rfl; rw [HND.out.1] at hin; simp at hin)
            injection hsl with hsl1 hsl2 hsl3
            subst hsl1
            obtain ⟨p0, p1, p2, p3⟩ := hcl7 i f HIF.out.1
            obtain ⟨sn, hsn⟩ : ∃ sn, sn = Lx.str f.name := ⟨_, rfl⟩
            rw [← hsn] at p0
            have hini : (i : Int) < (nd : Int) := by omega
            have hi0 : (0 : Int) ≤ (i : Int) := by omega
            have hlb := (Array.getElem?_eq_some_iff.1 HS7.out.bx).1
            have hlk10 := HK10.out.lt
            have HIV := Lib.hid (fun w' => isvalue_walk (nu.n : Int) sn f.kind f.lo f.hi w')
            clear hcl7 hga7 hsn hsl2 hsl3
            by_cases hrg : f.lo ≤ (nu.n : Int) ∧ (nu.n : Int) ≤ f.hi
            · have r0 : ∀ w', Fc.Old W7 w' → w'.cell? ⟨k10, 2, none⟩ = some (.int .i64 (nu.n : Nat)) := fun w' h => h.cell hlk10 (Joins.cell_of_block HK10.out 2)
              have r1 : ∀ w', Fc.Old W7 w' → w'.cell? ⟨k10, 3, none⟩ = some (.int .i64 (nu.at_ : Nat)) := fun w' h => h.cell hlk10 (Joins.cell_of_block HK10.out 3)
              have r2 : ∀ w', Fc.Old W7 w' → w'.cell? ⟨w.heap.size, 0, none⟩ = some (.slice (some ⟨g7, o7, none⟩) nd c) := fun w' h => h.cell hlb (Joins.cell_of_block HS7.out.bx 0)
              have r3 : ∀ w', Fc.Old W7 w' → w'.cell? ⟨g7, o7 + i * 4, none⟩ = some (.string sn) := fun w' h => h.cell hg7 p0
              have r4 : ∀ w', Fc.Old W7 w' → w'.cell? ⟨g7, o7 + i * 4 + 1, none⟩ = some (.int .i64 f.kind) := fun w' h => h.cell hg7 p1
              have r5 : ∀ w', Fc.Old W7 w' → w'.cell? ⟨g7, o7 + i * 4 + 2, none⟩ = some (.int .i64 f.lo) := fun w' h => h.cell hg7 p2
              have r6 : ∀ w', Fc.Old W7 w' → w'.cell? ⟨g7, o7 + i * 4 + 3, none⟩ = some (.int .i64 f.hi) := fun w' h => h.cell hg7 p3
              have HQ := Lib.hid (require_yes 10 (nu.at_ : Int))
              clear hk10 p0 p1 p2 p3
              have HRG := Lib.hid hrg
              clear hrg
              go_region_held3 (fun w' => Fc.Old W7 w') (first | exact Fc.Old.drew W7 | exact Fc.Old.step (by with_reducible assumption) (by with_reducible assumption) | with_reducible assumption) (first | (go_at_call 43; (with_reducible refine (HIV.out _).mono ?_); rintro en w8 ⟨⟨b8, rfl, hb8⟩, hbb8⟩; obtain rfl : b8 = true := hb8.2 HRG.out; clear hb8) | (go_at_call 54; (with_reducible refine (HQ.out _).mono ?_); rintro en w9 ⟨rfl, rfl⟩))
              have hO : Fc.Old W7 w8 := by with_reducible assumption
              have HS8 := Lib.hid (HS7.out.below hO.out hlt hbR)
              have hk108 := HK10.out.rd (Fc.Rd.of R hO.out) hk10R
              have hk68 := HK67.out.rd (Fc.Rd.of R hO.out) hk6R
              unfold Fc.TokV at hk108 hk68
              rw [← HXX.out] at hk68
              have e1 := Joins.cell_of_block hk68 1
              have e2 := Joins.cell_of_block hk108 2
              obtain ⟨w9', hrun, hG9, hg9⟩ := HS8.out.gm.put (by unfold maxLen; omega) (by rw [HIF.out.2.1]; exact HIF.out.2.2) (by rw [HND.out.2, ← HND.out.1]; exact hin) x (by rw [HXX.out, Fc.str_size]; unfold maxLen; omega) (by rw [HXX.out, Lx.tx_str, HIF.out.2.1]) (nu.n : Int) (by
                have ok := HV.out.1 f (List.mem_of_getElem? HIF.out.1)
                have := ok.low; have := ok.high; have := HRG.out
                omega)
              have HG9 := Lib.hid (And.intro hG9 hg9)
              clear hG9 hg9 hk108 hk68 hO r0 r1 r2 r3 r4 r5 r6 HQ HIV
              go_wp2_with fail
              refine bodyPost_ret (results_none rfl _ _ _) rfl ?_
              rw [HPQ.out, if_pos HRG.out]
              have hrs := HS8.out.rs
              exact ⟨(Fc.Rb.of b HS8.out.rd).trans (Fc.Rb.map HG9.out.2), rfl, Fc.IsR.grown hrs HG9.out.2 hbR hRb, HG9.out.1⟩
            · have r0 : W7.drew.cell? ⟨k10, 2, none⟩ = some (.int .i64 (nu.n : Nat)) := Joins.cell_of_block HK10.out 2
              have r1 : W7.drew.cell? ⟨k10, 3, none⟩ = some (.int .i64 (nu.at_ : Nat)) := Joins.cell_of_block HK10.out 3
              have r2 : W7.drew.cell? ⟨w.heap.size, 0, none⟩ = some (.slice (some ⟨g7, o7, none⟩) nd c) := Joins.cell_of_block HS7.out.bx 0
              have r3 : W7.drew.cell? ⟨g7, o7 + i * 4, none⟩ = some (.string sn) := p0
              have r4 : W7.drew.cell? ⟨g7, o7 + i * 4 + 1, none⟩ = some (.int .i64 f.kind) := p1
              have r5 : W7.drew.cell? ⟨g7, o7 + i * 4 + 2, none⟩ = some (.int .i64 f.lo) := p2
              have r6 : W7.drew.cell? ⟨g7, o7 + i * 4 + 3, none⟩ = some (.int .i64 f.hi) := p3
              have HQ := Lib.hid (require_no 10 (nu.at_ : Int))
              have HRG := Lib.hid (And.intro hrg (And.intro hlk10 r1))
              clear hk10 p0 p1 p2 p3 hrg
              go_region_with (first | (go_at_call 43; (with_reducible refine (HIV.out _).mono ?_); rintro en w8 ⟨⟨b8, rfl, hb8⟩, hbb8⟩; obtain rfl : b8 = false := (by cases b8 with | false => rfl | true => exact absurd (hb8.1 rfl) HRG.out.1); have r18 : w8.cell? ⟨k10, 3, none⟩ = some (.int .i64 (nu.at_ : Nat)) := (hbb8.cell (p := ⟨k10, 3, none⟩) HRG.out.2.1).trans HRG.out.2.2; have HBB := Lib.hid hbb8; clear hb8 hbb8) | (go_at_call 54; (with_reducible refine (HQ.out _).mono ?_); rintro en w9 ⟨rfl, rfl⟩; refine Fc.shut (D := wpAny Tryz.prog .any #[] (fun _ _ _ => True) 0 #[] { tmps := #[], defers := [] } W7) ⟨rfl, by rw [HPQ.out, if_neg HRG.out.1]; exact ⟨Fc.Rb.of b (HS7.out.rd.trans (Fc.Rd.of R (Below.trans (Fc.Old.drew W7).out HBB.out))), rfl⟩⟩ ?_))
              all_goals exact trivial
end Go.Proofs.YtoamkanofhhjfaaGreatDoor
