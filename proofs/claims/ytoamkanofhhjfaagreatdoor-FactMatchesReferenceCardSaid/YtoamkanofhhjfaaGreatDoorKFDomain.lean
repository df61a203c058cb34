import Derived.Test.YtoamkanofhhjfaaGreatDoorKFGiven
import Derived.Test.YtoamkanofhhjfaaGreatDoorKFMap
import Derived.Test.YtoamkanofhhjfaaGreatDoorKFOwn
import Derived.Deep.LoopGhost
import Derived.Deep.RegionLaw
/-
  The walk of the reader's domain.
-/
namespace Go.Proofs.YtoamkanofhhjfaaGreatDoor
open Go.RowKit

namespace Fc
open Lx
/-- What the loop of domain keeps. -/
structure DomSt (R e b dn : Nat) (w : World) (d : List Fact) (l : List Tok) (wr : World) : Prop where
  rd : Rd R w wr
  rs : IsR R wr e l
  res : wr.heap[w.heap.size]? = some (.cells #[.slice none 0 0] 24 (0, 0))
  km : IsK R wr b
  dv : ∃ v, wr.heap[dn]? = some (.cells #[v] 24 (0, 0)) ∧ OwnF (dn + 1) d v wr
theorem DomSt.step {R e b dn : Nat} {w wr w2 : World} {d : List Fact} {l l2 : List Tok} (h : DomSt R e b dn w d l wr) (hr : Rd R wr w2) (h2 : IsR R w2 e l2) (hR : R < w.heap.size) (hb : w.heap.size < b) (hd : b < dn) : DomSt R e b dn w d l2 w2 := by
  obtain ⟨v, h5, h6⟩ := h.dv
  exact ⟨h.rd.trans hr, h2, (hr.block _ (Array.getElem?_eq_some_iff.1 h.res).1 (by omega)).trans h.res, h.km.block (hr.block _ h.km.lt (by omega)), v, (hr.block _ (Array.getElem?_eq_some_iff.1 h5).1 (by omega)).trans h5, h6.kept fun k hk hlt => hr.block k hlt (by omega)⟩
theorem DomSt.below {R e b dn : Nat} {w wr w2 : World} {d : List Fact} {l : List Tok} (h : DomSt R e b dn w d l wr) (hb2 : Below wr.heap.size wr w2) (hR : R < w.heap.size) (hb : w.heap.size < b) (hd : b < dn) : DomSt R e b dn w d l w2 :=
  h.step (Rd.of R hb2) (h.rs.below hb2) hR hb hd
/-- How domain ends. -/
def DomOut (R _e : Nat) (w : World) (x : Except (Nat × Nat) (List Fact)) (en : Ending) (w' : World) : Prop :=
  Rd R w w' ∧ match x with
  | .ok d => ∃ v, en = .returned (.agg #[v]) ∧ OwnF w.heap.size d v w' ∧ Valid d
  | .error z => Fails z en
end Fc

theorem enters_flag (args : Array Value) (w : World) : (callFunc 55 args).run Tryz.prog w = .ok (.enter 55 args) w := enters_of Tryz.func55 (by kernel_rfl) rfl args w
theorem enters_number (args : Array Value) (w : World) : (callFunc 56 args).run Tryz.prog w = .ok (.enter 56 args) w := enters_of Tryz.func56 (by kernel_rfl) rfl args w
theorem enters_day (args : Array Value) (w : World) : (callFunc 57 args).run Tryz.prog w = .ok (.enter 57 args) w := enters_of Tryz.func57 (by kernel_rfl) rfl args w
/-- The function of a kind that is known, and what it answers. -/
theorem kind_call (R e : Nat) (name : Lx.T) (x : ByteArray) (kd : Lx.Tok) (l2 : List Lx.Tok) (hx : x = Lx.str name) (hk : ¬ Fc.kno kd.text = 0) : ∃ f : Nat, (∀ (args : Array Value) (w : World), (callFunc f args).run Tryz.prog w = .ok (.enter f args) w) ∧ Fc.kfn R kd.text = Fc.kv R f ∧
    ∀ w', Fc.IsR R w' e l2 → Calls Tryz.prog f #[.pointer (some ⟨R, 0, none⟩), .string x] w' (Fc.Out R e w' (Fc.kindP e name (kd, l2)) Fc.vF) := by
  have hn : Lx.tx x = name := by rw [hx, Lx.tx_str]
  unfold Fc.kno at hk
  unfold Fc.kfn Fc.kindP
  by_cases q1 : kd.text = Fc.wFlag
  · refine ⟨_, enters_flag, by rw [if_pos q1], fun w' hr => ?_⟩
    rw [if_pos q1]
    refine (flag_walk _ x w').mono ?_
    rintro en w2 ⟨rfl, hb⟩
    refine ⟨Fc.Rd.of R hb, ?_, hr.below hb⟩
    show _ = Ending.returned (.agg #[.string (Lx.str name), .int .i64 1, .int .i64 0, .int .i64 1])
    rw [hx]
  rw [if_neg q1] at hk
  by_cases q2 : kd.text = Fc.wNumber
  · refine ⟨_, enters_number, by rw [if_neg q1, if_pos q2], fun w' hr => ?_⟩
    rw [if_neg q1, if_pos q2]
    have := number_fact R e x l2 w' hr
    rw [hn] at this
    exact this
  rw [if_neg q2] at hk
  by_cases q3 : kd.text = Fc.wDay
  · refine ⟨_, enters_day, by rw [if_neg q1, if_neg q2, if_pos q3], fun w' hr => ?_⟩
    rw [if_neg q1, if_neg q2, if_pos q3]
    have := day_fact R e x l2 w' hr
    rw [hn] at this
    exact this
  rw [if_neg q3] at hk
  exact absurd rfl hk

/-- The variable of the domain behind an append. -/
theorem dom_append {w w' : World} {v x : Value} {dn : Nat} (hg : w.grownBy w' v.ownBlock) (hl : ∀ j, v.ownBlock = some j → dn + 1 ≤ j) (hd : w.heap[dn]? = some (.cells #[x] 24 (0, 0))) : w'.heap[dn]? = some (.cells #[x] 24 (0, 0)) :=
  (hg.block dn (Array.getElem?_eq_some_iff.1 hd).1 (fun e => by have := hl dn e.symm; omega)).trans hd

/-- .. and what the loop keeps. -/
theorem dom_next {R e b dn : Nat} {w W8 w9 w10 : World} {d : List Fc.Fact} {l2 l3 : List Lx.Tok} {v v10 x : Value} {ff : Fc.Fact} (h : Fc.DomSt R e b dn w d l2 W8) (hdl : dn < W8.heap.size) (hbn : w.heap.size < b) (hbd : b < dn) (hlt : R < w.heap.size)
    (hr9 : Fc.IsR R w9 e l3) (hrd9 : Fc.Rd R W8.drew w9) (o : Obj) (hown : Fc.OwnF (dn + 1) (d ++ [ff]) v10 w10) (hg : (w9.alloc o).grownBy w10 v.ownBlock) (hN : ∀ j, v.ownBlock = some j → dn + 1 ≤ j) (h10 : w10.heap[dn]? = some (.cells #[x] 24 (0, 0))) :
    Fc.DomSt R e b dn w (d ++ [ff]) l3 (w10.setCell ⟨dn, 0, none⟩ v10) := by
  have hs9 : W8.heap.size ≤ w9.heap.size := hrd9.size
  have hbA : Below dn w9 (w9.alloc o) := ((Below.refl w9.heap.size w9).alloc (Nat.le_refl _) o).mono (by omega)
  have hb10 : Below dn w9 w10 := hbA.grown hg (by have := ((Below.refl w9.heap.size w9).alloc (Nat.le_refl _) o).size; omega) (fun k e => by have := hN k e; omega)
  have hbF : Below dn w9 (w10.setCell ⟨dn, 0, none⟩ v10) := hb10.setCell (p := ⟨dn, 0, none⟩) (Nat.le_refl _) _
  have hrw : Fc.Rd R W8 w9 := (Fc.Rd.of R (Fc.Old.drew W8).out).trans hrd9
  have hlow : Fc.Rd R w w9 := h.rd.trans hrw
  refine ⟨hlow.low hbF (by omega), hr9.low hbF (by omega), ?_, ?_, v10, ?_, ?_⟩
  · exact (hbF.block _ (by omega)).trans ((hrw.block _ (by omega) (by omega)).trans h.res)
  · exact h.km.block ((hbF.block _ (by omega)).trans (hrw.block _ h.km.lt (by omega)))
  · rw [Joins.block_setCell h10]; rfl
  · exact hown.set (by show dn < dn + 1; omega) _

set_option maxHeartbeats 8000000 in
set_option maxRecDepth 100000 in
theorem domain_walk (R e : Nat) (l : List Lx.Tok) (hg : Fc.Goods l) (w : World) (h : Fc.IsR R w e l) :
    Calls Tryz.prog 30 #[.pointer (some ⟨R, 0, none⟩)] w (Fc.DomOut R e w (Fc.parse e l)) := by
  have hmf : ∀ (fn : Fn) (first cap : Array Value) (w : World), (Instr.makeFunc fn first cap).run Tryz.prog w = .ok (.func fn first cap) w := fun _ _ _ _ => rfl
  obtain ⟨P, hP⟩ : ∃ P, P = Fc.DomOut R e w (Fc.parse e l) := ⟨_, rfl⟩
  rw [← hP]
  have HP0 : Hid (P = Fc.DomOut R e w (Fc.rest e [] l)) := hP
  have hlt := h.lt
  obtain ⟨W1, hW1⟩ : ∃ W1, W1 = w.alloc (.cells #[.slice none 0 0] 24) := ⟨_, rfl⟩
  have hb1 : Below w.heap.size w W1 := by rw [hW1]; exact (Below.refl _ _).alloc (Nat.le_refl _) _
  have hk1 : W1.heap[w.heap.size]? = some (.cells #[.slice none 0 0] 24 (0, 0)) := by rw [hW1]; exact heap_alloc_new _ _
  obtain ⟨w3, w4, W5, r3, r4, r5, hK, hb5⟩ := Fc.IsK.made (R := R) W1
  obtain ⟨b, hb⟩ : ∃ b, b = W1.heap.size := ⟨_, rfl⟩
  have hmk : (Instr.makeMap 93 none).run Tryz.prog W1 = .ok (.map (some b)) (W1.alloc (.map #[] 0)) := by rw [hb]; rfl
  obtain ⟨W2, hW2⟩ : ∃ W2, W2 = W1.alloc (.map #[] 0) := ⟨_, rfl⟩
  rw [← hW2] at r3 hmk
  rw [← hb] at r3 r4 r5 hK
  have hb15 := hb1.trans (hb5.mono hb1.size)
  have hbn : w.heap.size < b := by rw [hb]; exact (Array.getElem?_eq_some_iff.1 hk1).1
  obtain ⟨dn, hdn⟩ : ∃ dn, dn = W5.heap.size := ⟨_, rfl⟩
  have hbd : b < dn := by rw [hdn]; exact hK.lt
  have hst : Fc.DomSt R e b dn w [] l (W5.alloc (.cells #[.slice none 0 0] 24)) := by
    have hb6 : Below W5.heap.size W5 (W5.alloc (.cells #[.slice none 0 0] 24)) := (Below.refl _ _).alloc (Nat.le_refl _) _
    have hb16 := hb15.trans (hb6.mono hb15.size)
    refine ⟨Fc.Rd.of R hb16, h.below hb16, ?_, hK.block (hb6.block _ hK.lt), .slice none 0 0, ?_, Fc.OwnF.nil _ _⟩
    · exact (hb6.block _ (by rw [← hdn]; omega)).trans ((hb5.block _ (by rw [← hb]; exact hbn)).trans hk1)
    · rw [hdn]; exact heap_alloc_new _ _
  have HST := Lib.hid hst
  have HV0 : Hid (Fc.Valid []) := ⟨by simp, by simp, by simp⟩
  have HG0 := Lib.hid hg
  clear hP h hb1 hk1 hK hb5 hb15 hst hg hb hW2
  go_enter Tryz.func30, Tryz.ntmps30
  go_upto_region 1 with fail
  rw [← hW1]
  clear hW1
  go_upto_region 2 with fail
  clear r3 r4 r5 hmk
  have HDN := Lib.hid hdn
  clear hdn
  go_wp2_with fail
  rw [← HDN.out]
  go_loopg [] l.length (fun k wr => ∃ d l', l'.length = k ∧ Hid (Fc.Goods l') ∧ Hid (Fc.Valid d) ∧ Hid (P = Fc.DomOut R e w (Fc.rest e d l')) ∧ Hid (Fc.DomSt R e b dn w d l' wr))
  case atStart => exact ⟨[], l, rfl, HG0, HV0, HP0, HST⟩
  case round =>
    obtain ⟨d, l', hlk, hgl, hvd, hp, hst⟩ := hrel
    have HM := Lib.hid (more_walk R e l' wr hst.out.rs)
    cases l' with
    | nil =>
      have hpe : P = Fc.DomOut R e w (.ok d) := by rw [hp.out, Fc.rest_nil]
      have HPE := Lib.hid hpe
      clear hpe hp
      obtain ⟨v, hv, hown⟩ := hst.out.dv
      obtain ⟨⟨ga, gc⟩, rfl⟩ := hown.form
      obtain ⟨n, hn⟩ : ∃ n, n = d.length := ⟨_, rfl⟩
      have HF := Lib.hid (hown.set (a := ⟨w.heap.size, 0, none⟩) (by show w.heap.size < dn + 1; omega) (.slice ga d.length gc))
      rw [← hn] at hv HF
      have c0 := Joins.cell_of_block hv 0
      have f0 := Joins.cell_of_block hst.out.res 0
      have u0 := Joins.unfrozen_of_block hst.out.res 0
      clear hlk hown hv hn
      go_wp2_with (first | (refine HM.out.mono ?_; rintro en w1 ⟨rfl, rfl⟩))
      refine bodyPost_ret (v := .agg #[.slice ga n gc]) ?_ rfl ?_
      · simp [results, Tryz.f30, go_sem, f0]
      · rw [HPE.out]
        have hbs : Below w.heap.size wr (wr.setCell ⟨w.heap.size, 0, none⟩ (.slice ga n gc)) := (Below.refl _ _).setCell (p := ⟨w.heap.size, 0, none⟩) (Nat.le_refl _) _
        exact ⟨hst.out.rd.low hbs (Nat.le_refl _), _, rfl, HF.out.mono (by omega), hvd.out⟩
    | cons t r =>
      have hstep := Fc.rest_step (e := e) hgl.out hvd.out.2.2
      have hp2 := hp.out
      rw [hstep] at hp2
      obtain ⟨fp, hfp⟩ : ∃ fp, fp = Fc.factP e d (t :: r) := ⟨_, rfl⟩
      rw [← hfp] at hp2
      have HPP := Lib.hid hp2
      have HFP := Lib.hid hfp
      have HP := Lib.hid hfp
      have HTK := Lib.hid (take_walk R e 1 (by decide) (t :: r) wr hst.out.rs)
      have hlg : r.length < gk := by rw [← hlk]; simp
      clear hstep hp2 hlk hp hfp
      cases hx1 : Fc.want 1 [] e (t :: r) with
      | error z =>
        have hpe : P = Fc.DomOut R e w (.error z) := by rw [HPP.out, HP.out]; unfold Fc.factP; rw [hx1]; rfl
        have HPE := Lib.hid (And.intro hpe hx1)
        clear hpe hx1 HP
        go_wp2_with (first | (refine HM.out.mono ?_; rintro en w1 ⟨rfl, rfl⟩))
        refine HTK.out.mono ?_
        rintro en w1 ho
        obtain ⟨hf, hrd⟩ := ho.no HPE.out.2
        obtain rfl : en = _ := hf
        refine ⟨rfl, ?_⟩
        rw [HPE.out.1]
        exact ⟨hst.out.rd.trans hrd, rfl⟩
      | ok y =>
        obtain ⟨n, l1⟩ := y
        have hP1 : fp = ((if 0 ≤ Fc.idx d n.text then .error (9, n.at_) else if ¬ d.length < 60 then .error (2, n.at_) else (Fc.nextT e l1).bind fun kd => (Fc.kindP e n.text kd).bind fun f => (Fc.wordT e [59] f.2).bind fun z => .ok (f.1, z.2)) : Except (Nat × Nat) (Fc.Fact × List Lx.Tok)) := by
          rw [HP.out]; unfold Fc.factP; rw [hx1]; rfl
        have HX1 := Lib.hid hx1
        have HG1 := Lib.hid (hgl.out.want hx1)
        have hnl : n.text.length ≤ 24 := by
          have hgn := hgl.out t (by simp)
          obtain ⟨e1, k1, _⟩ := Fc.want_ok hx1
          obtain rfl := (List.cons.inj e1).1
          obtain ⟨c, s, e2, _, _, h4⟩ := (Fc.good1 _).1 (Fc.good_one hgn k1)
          rw [e2]; exact h4
        have HP1 := Lib.hid hP1
        clear hP1 hx1 HP
        go_wp2_with (first | (refine HM.out.mono ?_; rintro en w1 ⟨rfl, rfl⟩))
        refine HTK.out.mono ?_
        rintro en w1 ho
        obtain ⟨rfl, hr1, hrd⟩ := ho.ok HX1.out
        have hst1 := hst.out.step hrd hr1 hlt hbn hbd
        have hbA : Below w1.heap.size w1 (w1.alloc (.cells #[.int .i64 (n.kind : Nat), .string (Lx.str n.text), .int .i64 (n.n : Nat), .int .i64 (n.at_ : Nat)] 60)) := (Below.refl _ _).alloc (Nat.le_refl _) _
        have hst2 := hst1.below hbA hlt hbn hbd
        have hk5 := Fc.TokV.new w1 n
        obtain ⟨W4, hW4⟩ : ∃ W4, W4 = w1.alloc (.cells #[.int .i64 (n.kind : Nat), .string (Lx.str n.text), .int .i64 (n.n : Nat), .int .i64 (n.at_ : Nat)] 60) := ⟨_, rfl⟩
        rw [← hW4] at hst2 hk5
        obtain ⟨k5, hk5n⟩ : ∃ k5, k5 = w1.heap.size := ⟨_, rfl⟩
        rw [← hk5n] at hk5
        have hk5R : k5 ≠ R ∧ dn < k5 := by
          obtain ⟨v, hv, _⟩ := hst1.dv
          have h1 := (Array.getElem?_eq_some_iff.1 hv).1
          rw [hk5n]; omega
        obtain ⟨v, hv, hown⟩ := hst2.dv
        obtain ⟨⟨ga, gc⟩, rfl⟩ := hown.form
        have HIF := Lib.hid (hown.isF hvd.out.sized)
        have HS2 := Lib.hid hst2
        have HK5 := Lib.hid hk5
        have HVB := Lib.hid hv
        have HON := Lib.hid hown
        clear hbA hst1 hst2 hr1 hrd ho HTK HM hown
        go_upto_region 5 with fail
        rw [← hW4, ← hk5n]
        clear hW4 hk5n
        have hl5 := HK5.out.lt
        have hld := (Array.getElem?_eq_some_iff.1 hv).1
        obtain ⟨x, hx⟩ : ∃ x, x = Lx.str n.text := ⟨_, rfl⟩
        obtain ⟨nd, hnd⟩ : ∃ nd, nd = d.length := ⟨_, rfl⟩
        obtain ⟨zi, hzi⟩ : ∃ zi, zi = Fc.idx d n.text := ⟨_, rfl⟩
        rw [← hnd] at HIF HVB HON hv HP1
        rw [← hzi] at HP1
        unfold Fc.TokV at hk5
        rw [← hx] at hk5
        have HI : Hid (∀ w', Fc.Old W4 w' → Calls Tryz.prog 16 #[.agg #[.slice ga nd gc], .string x] w' fun en w'' => en = .returned (.int .i64 zi) ∧ Below w'.heap.size w' w'') := fun w' ho => by
          have := index_walk (.slice ga nd gc) d x w' (HIF.out.below ho.out)
          rw [hx, Lx.tx_str, ← hzi] at this
          rw [hx]; exact this
        have HND := Lib.hid hnd
        have HXX := Lib.hid hx
        clear hnd hx hzi
        by_cases hz0 : 0 ≤ zi
        · have hpe : P = Fc.DomOut R e w (.error (9, n.at_)) := by rw [HPP.out, HP1.out, if_pos hz0]; rfl
          have HPE := Lib.hid hpe
          clear hpe HP1
          have d0 : W4.drew.cell? ⟨dn, 0, none⟩ = some (.slice ga nd gc) := Joins.cell_of_block hv 0
          have d1 : W4.drew.cell? ⟨k5, 1, none⟩ = some (.string x) := Joins.cell_of_block hk5 1
          have d3 : W4.drew.cell? ⟨k5, 3, none⟩ = some (.int .i64 (n.at_ : Nat)) := Joins.cell_of_block hk5 3
          have HD3 := Lib.hid (And.intro hl5 d3)
          have HQ := Lib.hid (require_no 9 (n.at_ : Int))
          have hneg : decide (zi < 0) = false := decide_eq_false (by omega)
          clear hv hk5
          go_region_with (first | (go_at_call 16; (with_reducible refine (HI.out _ (Fc.Old.drew W4)).mono ?_); rintro en w5 ⟨rfl, hb5⟩; have d53 : w5.cell? ⟨k5, 3, none⟩ = some (.int .i64 (n.at_ : Nat)) := (hb5.cell (p := ⟨k5, 3, none⟩) HD3.out.1).trans HD3.out.2; have HB5 := Lib.hid hb5; clear hb5) | (go_at_call 54; (with_reducible refine (HQ.out _).mono ?_); rintro en w6 ⟨rfl, rfl⟩; refine Fc.shut (D := wpAny Tryz.prog .any #[] (fun _ _ _ => True) 0 #[] { tmps := #[], defers := [] } W4) ⟨rfl, by rw [HPE.out]; exact ⟨HS2.out.rd.trans (Fc.Rd.of R (Below.trans (Fc.Old.drew W4).out HB5.out)), rfl⟩⟩ ?_))
          all_goals exact trivial
        · have hP2 : fp = ((if ¬ nd < 60 then .error (2, n.at_) else (Fc.nextT e l1).bind fun kd => (Fc.kindP e n.text kd).bind fun f => (Fc.wordT e [59] f.2).bind fun z => .ok (f.1, z.2)) : Except (Nat × Nat) (Fc.Fact × List Lx.Tok)) := by rw [HP1.out, if_neg hz0]
          have HP2 := Lib.hid hP2
          clear hP2 HP1
          have d0 : ∀ w', Fc.Old W4 w' → w'.cell? ⟨dn, 0, none⟩ = some (.slice ga nd gc) := fun w' ho => ho.cell hld (Joins.cell_of_block hv 0)
          have d1 : ∀ w', Fc.Old W4 w' → w'.cell? ⟨k5, 1, none⟩ = some (.string x) := fun w' ho => ho.cell hl5 (Joins.cell_of_block hk5 1)
          have d3 : ∀ w', Fc.Old W4 w' → w'.cell? ⟨k5, 3, none⟩ = some (.int .i64 (n.at_ : Nat)) := fun w' ho => ho.cell hl5 (Joins.cell_of_block hk5 3)
          have HQ := Lib.hid (require_yes 9 (n.at_ : Int))
          have hneg : decide (zi < 0) = true := decide_eq_true (by omega)
          clear hv hk5 hz0
          go_region_held3 (fun w' => Fc.Old W4 w') (first | exact Fc.Old.drew W4 | exact Fc.Old.step (by with_reducible assumption) (by with_reducible assumption) | with_reducible assumption) (first | (go_at_call 16; (with_reducible refine (HI.out _ (by with_reducible assumption)).mono ?_); rintro en w5 ⟨rfl, hb5⟩) | (go_at_call 54; (with_reducible refine (HQ.out _).mono ?_); rintro en w6 ⟨rfl, rfl⟩))
          have hO : Fc.Old W4 w5 := by with_reducible assumption
          have hst5 := HS2.out.below hO.out hlt hbn hbd
          have hk55 := HK5.out.rd (Fc.Rd.of R hO.out) hk5R.1
          have hvb5 := (hO.out.block dn hld).trans HVB.out
          have c0 := Joins.cell_of_block hvb5 0
          have c3 := Joins.cell_of_block hk55 3
          have HS5 := Lib.hid hst5
          have HK55 := Lib.hid hk55
          have HVB5 := Lib.hid hvb5
          have HON5 := Lib.hid (show Fc.OwnF (dn + 1) d (.slice ga nd gc) w5 from HON.out.below hO.out)
          clear d0 d1 d3 hneg HQ HI hst5 hk55 hvb5 hO HIF HS2 HVB HON HK5 hl5 hld
          by_cases c2 : ¬ nd < 60
          · have hpe : P = Fc.DomOut R e w (.error (2, n.at_)) := by rw [HPP.out, HP2.out, if_pos c2]; rfl
            have HPE := Lib.hid hpe
            have c2i : ¬ (nd : Int) < 60 := by omega
            clear hpe HP2
            go_wp2_with fail
            refine (require_no 2 (n.at_ : Int) _).mono ?_
            rintro en w6 ⟨rfl, rfl⟩
            refine ⟨rfl, ?_⟩
            rw [HPE.out]
            exact ⟨HS5.out.rd, rfl⟩
          have hP3 : fp = ((Fc.nextT e l1).bind fun kd => (Fc.kindP e n.text kd).bind fun f => (Fc.wordT e [59] f.2).bind fun z => .ok (f.1, z.2) : Except (Nat × Nat) (Fc.Fact × List Lx.Tok)) := by rw [HP2.out, if_neg c2]
          have HP3 := Lib.hid hP3
          have c2i : (nd : Int) < 60 := by omega
          have c2n : nd < 60 := by omega
          clear hP3 HP2 c2
          cases l1 with
          | nil =>
            have HNX := Lib.hid (next_none R e w5 HS5.out.rs)
            go_wp2_with (first | (refine (require_yes 2 (n.at_ : Int) _).mono ?_; rintro en w6 ⟨rfl, rfl⟩))
            refine HNX.out.mono ?_
            rintro en w6 ⟨hf, hrd⟩
            obtain rfl : en = _ := hf
            refine ⟨rfl, ?_⟩
            rw [HPP.out, HP3.out]
            exact ⟨HS5.out.rd.trans hrd, rfl⟩
          | cons kd l2 =>
            have HNX := Lib.hid (next_some R e kd l2 w5 HS5.out.rs)
            have HG2 := Lib.hid HG1.out.tail
            have hkl : kd.text.length ≤ 24 := by
              have hgk := HG1.out kd (by simp)
              rcases hgk with ⟨_, _, c, s, e2, _, _, h4⟩ | ⟨_, _, c, s, e2, _, _, h4⟩ | ⟨_, _, ⟨c, e2, _⟩ | ⟨c, e2, _⟩⟩
              · exact h4
              · omega
              · rw [e2]; simp
              · rw [e2]; simp
            go_wp2_with (first | (refine (require_yes 2 (n.at_ : Int) _).mono ?_; rintro en w6 ⟨rfl, rfl⟩))
            refine HNX.out.mono ?_
            rintro en w7 ⟨rfl, hr7, hrd7⟩
            have hst7 := HS5.out.step hrd7 hr7 hlt hbn hbd
            have hbA : Below w7.heap.size w7 (w7.alloc (.cells #[.int .i64 (kd.kind : Nat), .string (Lx.str kd.text), .int .i64 (kd.n : Nat), .int .i64 (kd.at_ : Nat)] 60)) := (Below.refl _ _).alloc (Nat.le_refl _) _
            have hst8 := hst7.below hbA hlt hbn hbd
            have hk6 := Fc.TokV.new w7 kd
            have hk57 := HK55.out.rd hrd7 hk5R.1
            have hk58 := hk57.rd (Fc.Rd.of R hbA) hk5R.1
            have hv7 := (hrd7.block dn (Array.getElem?_eq_some_iff.1 HVB5.out).1 (by omega)).trans HVB5.out
            have hv8 := (hbA.block dn (Array.getElem?_eq_some_iff.1 hv7).1).trans hv7
            have hon8 : Fc.OwnF (dn + 1) d (.slice ga nd gc) (w7.alloc (.cells #[.int .i64 (kd.kind : Nat), .string (Lx.str kd.text), .int .i64 (kd.n : Nat), .int .i64 (kd.at_ : Nat)] 60)) := (HON5.out.kept fun k h1 h2 => hrd7.block k h2 (by omega)).below hbA
            obtain ⟨W8, hW8⟩ : ∃ W8, W8 = w7.alloc (.cells #[.int .i64 (kd.kind : Nat), .string (Lx.str kd.text), .int .i64 (kd.n : Nat), .int .i64 (kd.at_ : Nat)] 60) := ⟨_, rfl⟩
            obtain ⟨k6, hk6n⟩ : ∃ k6, k6 = w7.heap.size := ⟨_, rfl⟩
            rw [← hW8] at hst8 hk6 hk58 hv8 hon8
            rw [← hk6n] at hk6
            have hk56 : k5 < k6 := by rw [hk6n]; exact hk57.lt
            have HS8 := Lib.hid hst8
            have HK6 := Lib.hid hk6
            have HK58 := Lib.hid hk58
            have HV8 := Lib.hid hv8
            have HON8 := Lib.hid hon8
            clear hbA hst7 hst8 hr7 hrd7 HNX hk57 hk58 hv7 hv8 hon8 c0 c3
            go_upto_region 8 with fail
            rw [← hW8, ← hk6n]
            clear hW8 hk6n HS5 HK55 HVB5 HON5
            obtain ⟨y, hy⟩ : ∃ y, y = Lx.str kd.text := ⟨_, rfl⟩
            have hlk := HS8.out.km.look y (by rw [hy, Fc.str_size]; unfold maxLen; omega)
            rw [hy, Lx.tx_str, ← hy] at hlk
            unfold Fc.TokV at hk6
            rw [← hy] at hk6
            have e1 := Joins.cell_of_block hk6 1
            have e3 := Joins.cell_of_block hk6 3
            clear hk6
            by_cases hkn : Fc.kno kd.text = 0
            · have hpe : P = Fc.DomOut R e w (.error (5, kd.at_)) := by
                rw [HPP.out, HP3.out]
                show Fc.DomOut R e w (((Fc.kindP e n.text (kd, l2)).bind _).bind _) = _
                unfold Fc.kindP
                unfold Fc.kno at hkn
                by_cases q1 : kd.text = Fc.wFlag
                · rw [if_pos q1] at hkn; cases hkn
                rw [if_neg q1] at hkn ⊢
                by_cases q2 : kd.text = Fc.wNumber
                · rw [if_pos q2] at hkn; cases hkn
                rw [if_neg q2] at hkn ⊢
                by_cases q3 : kd.text = Fc.wDay
                · rw [if_pos q3] at hkn; cases hkn
                rw [if_neg q3]
                rfl
              have HPE := Lib.hid hpe
              rw [decide_eq_false (by simpa using hkn)] at hlk
              obtain ⟨kf, hkf⟩ : ∃ kf, kf = Fc.kfn R kd.text := ⟨_, rfl⟩
              rw [← hkf] at hlk
              clear hpe HP3 hkf hkn hy
              go_wp2_with fail
              refine (require_no 5 (kd.at_ : Int) _).mono ?_
              rintro en w6 ⟨rfl, rfl⟩
              refine ⟨rfl, ?_⟩
              rw [HPE.out]
              exact ⟨HS8.out.rd, rfl⟩
            · obtain ⟨f, hent, hkf, hcall⟩ := kind_call R e n.text x kd l2 HXX.out hkn
              have HCL := Lib.hid hcall
              rw [decide_eq_true (by simpa using hkn), hkf] at hlk
              have hP4 : fp = ((Fc.kindP e n.text (kd, l2)).bind fun f => (Fc.wordT e [59] f.2).bind fun z => .ok (f.1, z.2) : Except (Nat × Nat) (Fc.Fact × List Lx.Tok)) := by rw [HP3.out]; rfl
              have HP4 := Lib.hid hP4
              clear hP4 HP3 hkn hy hcall hkf
              obtain ⟨kk, hkk⟩ : ∃ kk, kk = Fc.kindP e n.text (kd, l2) := ⟨_, rfl⟩
              rw [← hkk] at HP4 HCL
              clear hkk
              have HV := HV8.out
              have hk5b := HK58.out
              unfold Fc.TokV at hk5b
              rw [← HXX.out] at hk5b
              go_wp2_with (first | (refine (require_yes 5 (kd.at_ : Int) _).mono ?_; rintro en w6 ⟨rfl, rfl⟩))
              have d0 : W8.drew.cell? ⟨dn, 0, none⟩ = some (.slice ga nd gc) := Joins.cell_of_block HV 0
              have d1 : W8.drew.cell? ⟨k5, 1, none⟩ = some (.string x) := Joins.cell_of_block hk5b 1
              have hRd : Fc.IsR R W8.drew e l2 := HS8.out.rs.below (Fc.Old.drew W8).out
              have HRD := Lib.hid hRd
              have hdl : dn < W8.heap.size := (Array.getElem?_eq_some_iff.1 HV).1
              clear HV hk5b hRd hlk e1 e3
              cases kk with
              | error z =>
                have hpe : P = Fc.DomOut R e w (.error z) := by rw [HPP.out, HP4.out]; rfl
                have HPE := Lib.hid hpe
                clear hpe HP4
                go_region_with (first | ((with_reducible refine (HCL.out _ HRD.out).mono ?_); rintro en w9 ho; obtain ⟨hf, hrd⟩ := ho.no rfl; obtain rfl : en = _ := hf; refine Fc.shut (D := wpAny Tryz.prog .any #[] (fun _ _ _ => True) 0 #[] { tmps := #[], defers := [] } W8) ⟨rfl, by rw [HPE.out]; exact ⟨HS8.out.rd.trans ((Fc.Rd.of R (Fc.Old.drew W8).out).trans hrd), rfl⟩⟩ ?_))
                all_goals exact trivial
              | ok yy =>
                obtain ⟨ff, l3⟩ := yy
                have hP5 : fp = ((Fc.wordT e [59] l3).bind fun z => .ok (ff, z.2) : Except (Nat × Nat) (Fc.Fact × List Lx.Tok)) := by rw [HP4.out]; rfl
                have HP5 := Lib.hid hP5
                clear hP5 HP4
                have hond : Fc.OwnF (dn + 1) d (.slice ga nd gc) W8.drew := HON8.out.below (Fc.Old.drew W8).out
                have HOD := Lib.hid (And.intro hond hdl)
                have HDD := Lib.hid d0
                have HND2 := Lib.hid (show d.length < 1000000 ∧ nd = d.length ∧ k5 ≠ dn from ⟨by have := HND.out; omega, HND.out, by omega⟩)
                clear hond
                go_region_law (first
                  | (refine step_append_fact (by rfl) (.tmp 50) (.tmp 55) rfl (dn + 1) d _ rfl (hon9 _) ff w9.heap.size (0, 0) _ rfl (heap_alloc_new w9 _) HND2.out.1 (hbs9 _) ?_; intro g c w10 hown10 hg10; have h10 := dom_append hg10 HN9.out (HF9.out _); have d10 := Joins.cell_of_block h10 0; have u10 := Joins.unfrozen_of_block h10 0; have HW10 := Lib.hid (And.intro hown10 (And.intro hg10 h10)); clear hown10 hg10 h10)
                  | (go_simp; (with_reducible refine (HCL.out _ HRD.out).mono ?_); rintro en w9 ho; obtain ⟨rfl, hr9, hrd9⟩ := ho.ok rfl; have hon9 : ∀ o, Fc.OwnF (dn + 1) d (.slice ga nd gc) (w9.alloc o) := fun o => (HOD.out.1.kept fun k h1 h2 => hrd9.block k h2 (by omega)).below ((Below.refl _ _).alloc (Nat.le_refl _) o); have hbs9 : ∀ o, dn + 1 ≤ (w9.alloc o).heap.size := fun o => Nat.le_trans HOD.out.2 (Nat.le_trans hrd9.size (Below.alloc (Below.refl w9.heap.size w9) (Nat.le_refl _) o).size); have d09 : w9.cell? ⟨dn, 0, none⟩ = some (.slice ga nd gc) := (hrd9.cell (p := ⟨dn, 0, none⟩) HOD.out.2 (by show dn ≠ R; omega)).trans HDD.out; have d09a : ∀ o, (w9.alloc o).cell? ⟨dn, 0, none⟩ = some (.slice ga nd gc) := fun o => (World.cell?_alloc_some w9 _ o (by rw [d09]; rfl)).trans d09; have HF9 : Hid (∀ o, (w9.alloc o).heap[dn]? = some (.cells #[.slice ga nd gc] 24 (0, 0))) := fun o => (Below.heap_alloc _ _ _ (Nat.lt_of_lt_of_le HOD.out.2 hrd9.size)).trans ((hrd9.block dn HOD.out.2 (by omega)).trans HV8.out); have HN9 := Lib.hid (HON8.out.lt); have HR9 := Lib.hid (And.intro hr9 hrd9); clear hr9 hrd9 ho))
                all_goals
                  have HW := Lib.hid (word_walk R e ⟨#[59]⟩ l3)
                  obtain ⟨q1, q2, q3⟩ := HW10.out
                  have hst10 := dom_next HS8.out HOD.out.2 hbn hbd hlt HR9.out.1 HR9.out.2 _ q1 q2 HN9.out q3
                  obtain ⟨WF, hWF⟩ : ∃ WF, WF = w10.setCell ⟨dn, 0, none⟩ (.slice (some ⟨g, 0, none⟩) (d.length + 1) c) := ⟨_, rfl⟩
                  rw [← hWF] at hst10 ⊢
                  have HS10 := Lib.hid hst10
                  clear hWF hst10 q1 q2 q3 HW10 d10 u10 d09 d09a hon9 hbs9 HF9 HN9 HR9 d0 d1
                  have HWW := Lib.hid (HW.out WF HS10.out.rs)
                  clear HW
                  cases hx4 : Fc.wordT e [59] l3 with
                  | error z =>
                    have hpe : P = Fc.DomOut R e w (.error z) := by rw [HPP.out, HP5.out, hx4]; rfl
                    have HPE := Lib.hid (And.intro hpe hx4)
                    clear hpe hx4
                    go_wp2_with fail
                    refine HWW.out.mono ?_
                    rintro en w11 ho
                    obtain ⟨hf, hrd⟩ := ho.no HPE.out.2
                    obtain rfl : en = _ := hf
                    refine ⟨rfl, ?_⟩
                    rw [HPE.out.1]
                    exact ⟨HS10.out.rd.trans hrd, rfl⟩
                  | ok z =>
                    obtain ⟨z, l4⟩ := z
                    have hfp2 : fp = .ok (ff, l4) := by rw [HP5.out, hx4]; rfl
                    have hpr : P = Fc.DomOut R e w (Fc.rest e (d ++ [ff]) l4) := by rw [HPP.out, hfp2]; rfl
                    obtain ⟨v1, v2, v3⟩ := Fc.factP_ok hgl.out hvd.out (HFP.out.symm.trans hfp2)
                    have HPR := Lib.hid (And.intro hpr (And.intro v1 (And.intro v2 hx4)))
                    have v4 : l4.length < gk := by rw [List.length_cons] at v3; omega
                    clear hfp2 hpr v1 v2 v3 hx4
                    go_wp2_with fail
                    refine HWW.out.mono ?_
                    rintro en w11 ho
                    obtain ⟨rfl, hr11, hrd11⟩ := ho.ok HPR.out.2.2.2
                    have hst11 := HS10.out.step hrd11 hr11 hlt hbn hbd
                    have HS11 := Lib.hid hst11
                    clear hst11 hr11 hrd11 ho
                    go_wp2_with fail
                    go_roundg l4.length
                    case measure => exact v4
                    case rel => exact ⟨d ++ [ff], l4, rfl, HPR.out.2.2.1, HPR.out.2.1, HPR.out.1, HS11.out⟩
end Go.Proofs.YtoamkanofhhjfaaGreatDoor
