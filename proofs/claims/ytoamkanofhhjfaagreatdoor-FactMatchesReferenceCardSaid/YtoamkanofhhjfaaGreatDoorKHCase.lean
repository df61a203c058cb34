import Derived.Test.YtoamkanofhhjfaaGreatDoorKHParse
import Derived.Test.YtoamkanofhhjfaaGreatDoorKGFits
import Derived.Test.YtoamkanofhhjfaaGreatDoorKFHeadA
/-
  The reference's ParseCase: what is kept from step to step.
-/
namespace Go.Proofs.YtoamkanofhhjfaaGreatDoor
open Go.RowKit

theorem one_boolC : (Tryz.prog.info? 4).map (fun i => (i.zero, i.size, i.bytes)) = some (some (.bool false), 1, 1) := by kernel_rfl
namespace Fc
open Lx
def cellsB (l : List Bool) : List Value := l.map Value.bool
theorem cellsB_get (l : List Bool) (k : Nat) : (cellsB l)[k]? = (l[k]?).map Value.bool := by unfold cellsB; rw [List.getElem?_map]
theorem cellsB_set (l : List Bool) (k : Nat) (x : Bool) : (cellsB l).set k (.bool x) = cellsB (l.set k x) := by unfold cellsB; rw [List.map_set]
theorem cellsB_made (n : Nat) : (madeCells (Value.bool false).cells (n * 1)).toList = cellsB (List.replicate n false) := by
  rw [show (Value.bool false).cells = #[.bool false] from rfl, toList_madeCells_one, Nat.mul_one]
  unfold cellsB
  rw [List.map_replicate]
/-- A row of truth values in block g. -/
def OwnB (g : Nat) (n : Nat) (l : List Bool) (w : World) : Prop := l.length = n ∧ w.ownsRow g 4 1 (.slice (some ⟨g, 0, none⟩) n n) n (cellsB l)
theorem OwnB.lt {g n : Nat} {l : List Bool} {w : World} (h : OwnB g n l w) : g < w.heap.size := by
  rcases h.2.2 with ⟨h, _⟩ | ⟨g2, _, _, h, _, hg, _⟩
  · cases h
  · cases h; exact (Array.getElem?_eq_some_iff.1 hg).1
theorem OwnB.cell {g n : Nat} {l : List Bool} {w : World} (h : OwnB g n l w) {k : Nat} {x : Bool} (hx : l[k]? = some x) : w.cell? ⟨g, k, none⟩ = some (.bool x) := by
  have hk : k < n := by rw [← h.1]; exact (List.getElem?_eq_some_iff.1 hx).1
  rw [h.2.cellAt k (by omega), cellsB_get, hx]; rfl
theorem OwnB.frozen {g n : Nat} {l : List Bool} {w : World} (h : OwnB g n l w) (k : Nat) : w.frozen? ⟨g, k, none⟩ = false := h.2.frozenAt k
theorem OwnB.store {g n : Nat} {l : List Bool} {w : World} (h : OwnB g n l w) (k : Nat) (x : Bool) : OwnB g n (l.set k x) (w.setCell ⟨g, k, none⟩ (.bool x)) := by
  refine ⟨by rw [List.length_set]; exact h.1, ?_⟩
  have := (h.2.stored k (.bool x)).1
  rw [cellsB_set] at this
  exact this
theorem OwnB.block {g n : Nat} {l : List Bool} {w w' : World} (h : OwnB g n l w) (hb : w'.heap[g]? = w.heap[g]?) : OwnB g n l w' := by
  obtain ⟨h0, h1, h2⟩ := h
  refine ⟨h0, h1, ?_⟩
  rcases h2 with hn | ⟨g2, cap, cur, e, hb', hg, rest⟩
  · exact .inl hn
  · refine .inr ⟨g2, cap, cur, e, hb', ?_, rest⟩
    cases e
    exact hb.trans hg
/-- The values, and which were seen. -/
def valsOf (v : List (Option Int)) : List Int := v.map fun o => o.getD 0
def seenOf (v : List (Option Int)) : List Bool := v.map Option.isSome
theorem valsOf_set (v : List (Option Int)) (i : Nat) (y : Int) : (valsOf v).set i y = valsOf (v.set i (some y)) := by unfold valsOf; rw [List.map_set]; rfl
theorem seenOf_set (v : List (Option Int)) (i : Nat) (y : Int) : (seenOf v).set i true = seenOf (v.set i (some y)) := by unfold seenOf; rw [List.map_set]; rfl
theorem seenOf_get {v : List (Option Int)} {i : Nat} (h : i < v.length) : (seenOf v)[i]? = some (v.getD i none).isSome := by
  unfold seenOf; rw [List.getElem?_map, List.getD_eq_getElem?_getD, List.getElem?_eq_getElem h]; rfl
/-- What holds at each step: the reader; the boxes of the domain, of the case and of what was seen. -/
structure CS (R e : Nat) (lv : Value) (L : List Tok) (B2 gC gS n : Nat) (w0 : World) (dv : Value) (x : Except (Nat × Nat) (List Tok)) (v : List (Option Int)) (w : World) : Prop where
  rx : RX R e lv L x w
  bl : Below w0.heap.size w0 w
  b2 : w.heap[B2]? = some (.cells #[dv] 24 (0, 0))
  oc : OwnN gC n (valsOf v) w
  os : OwnB gS n (seenOf v) w
  ord : w0.heap.size ≤ B2 ∧ B2 < R ∧ R < gC ∧ gC < gS
section
variable {R e : Nat} {lv : Value} {L : List Tok} {B2 gC gS n : Nat} {w0 : World} {dv : Value} {x y : Except (Nat × Nat) (List Tok)} {v : List (Option Int)} {w w' : World}
theorem CS.lt (h : CS R e lv L B2 gC gS n w0 dv x v w) : gS < w.heap.size := h.os.lt
theorem CS.low (h : CS R e lv L B2 gC gS n w0 dv x v w) {B : Nat} (hb : Below B w w') (hB : gS < B) : CS R e lv L B2 gC gS n w0 dv x v w' := by
  have := h.ord
  exact ⟨h.rx.low hb (by omega), h.bl.trans (hb.mono (by omega)), (hb.block B2 (by omega)).trans h.b2, h.oc.block (hb.block gC (by omega)), h.os.block (hb.block gS hB), h.ord⟩
theorem CS.next (h : CS R e lv L B2 gC gS n w0 dv x v w) (hb : Below w.heap.size w w') : CS R e lv L B2 gC gS n w0 dv x v w' := h.low hb h.lt
theorem CS.aft (h : CS R e lv L B2 gC gS n w0 dv x v w) (h1 : RX R e lv L y w') (h2 : Rd R w w') : CS R e lv L B2 gC gS n w0 dv y v w' := by
  have := h.ord
  have := h.lt
  exact ⟨h1, h.bl.trans (h2.below (by omega) h.rx.lt), (h2.block B2 (by omega) (by omega)).trans h.b2, h.oc.block (h2.block gC (by omega) (by omega)), h.os.block (h2.block gS (by omega) (by omega)), h.ord⟩
/-- A value is stored, and that it was seen. -/
theorem CS.store (h : CS R e lv L B2 gC gS n w0 dv x v w) (i : Nat) (z : Int) : CS R e lv L B2 gC gS n w0 dv x (v.set i (some z)) ((w.setCell ⟨gC, i, none⟩ (.int .i64 z)).setCell ⟨gS, i, none⟩ (.bool true)) := by
  have h0 := h.ord
  have hb : Below gC w ((w.setCell ⟨gC, i, none⟩ (.int .i64 z)).setCell ⟨gS, i, none⟩ (.bool true)) := ((Below.refl gC w).setCell (p := ⟨gC, i, none⟩) (Nat.le_refl _) _).setCell (p := ⟨gS, i, none⟩) (by show gC ≤ gS; omega) _
  refine ⟨h.rx.low hb h0.2.2.1, h.bl.trans (hb.mono (by omega)), (hb.block B2 (by omega)).trans h.b2, ?_, ?_, h.ord⟩
  · rw [← valsOf_set]
    exact (h.oc.store i z).block (Below.heap_setCell _ _ _ _ (by show gC ≠ gS; omega))
  · rw [← seenOf_set]
    exact (h.os.block (w' := w.setCell ⟨gC, i, none⟩ (.int .i64 z)) (Below.heap_setCell _ _ _ _ (by show gS ≠ gC; omega))).store i true
theorem CS.frozen (h : CS R e lv L B2 gC gS n w0 dv x v w) (i : Nat) (z : Value) : (w.setCell ⟨gC, i, none⟩ z).frozen? ⟨gS, i, none⟩ = false :=
  (h.os.block (w' := w.setCell ⟨gC, i, none⟩ z) (Below.heap_setCell _ _ _ _ (by have := h.ord; show gS ≠ gC; omega))).frozen i
theorem CS.cellS (h : CS R e lv L B2 gC gS n w0 dv x v w) (i k : Nat) (z : Value) : (w.setCell ⟨gC, i, none⟩ z).cell? ⟨gS, k, none⟩ = w.cell? ⟨gS, k, none⟩ :=
  World.cell?_of_block (w := w) (Below.heap_setCell _ _ _ _ (by have := h.ord; show gS ≠ gC; omega))
end
/-- A value behind its comma. -/
def named (e : Nat) (d : List Fact) (v : List (Option Int)) (l : List Tok) : Except (Nat × Nat) (List (Option Int) × List Tok) :=
  (want 1 [] e l).bind fun n => match index d n.1.text with
  | none => .error (7, n.1.at_)
  | some i => valueAt e d v n.1.at_ n.2 i
theorem value1_first (e : Nat) (d : List Fact) (v : List (Option Int)) (l : List Tok) : value1 e d true v l = named e d v l := rfl
theorem value1_more (e : Nat) (d : List Fact) (v : List (Option Int)) (l : List Tok) : value1 e d false v l = (want 3 [44] e l).bind fun z => named e d v z.2 := by
  show ((want 3 [44] e l).bind fun z => .ok ((), z.2)).bind _ = _
  cases want 3 [44] e l <;> rfl
def range1 (f : Fact) (i : Nat) (v : List (Option Int)) (x : Tok × List Tok) : Except (Nat × Nat) (List (Option Int) × List Tok) :=
  if f.lo ≤ x.1.n ∧ (x.1.n : Int) ≤ f.hi then .ok (v.set i (some (x.1.n : Int)), x.2) else .error (10, x.1.at_)
theorem range1_no {f : Fact} {i : Nat} {v : List (Option Int)} {x : Tok} {l : List Tok} (h : ¬ (f.lo ≤ x.n ∧ (x.n : Int) ≤ f.hi)) : range1 f i v (x, l) = .error (10, x.at_) := by unfold range1; rw [if_neg h]
theorem range1_yes {f : Fact} {i : Nat} {v : List (Option Int)} {x : Tok} {l : List Tok} (h : f.lo ≤ x.n ∧ (x.n : Int) ≤ f.hi) : range1 f i v (x, l) = .ok (v.set i (some (x.n : Int)), l) := by unfold range1; rw [if_pos h]
theorem named_no {e : Nat} {d : List Fact} {v : List (Option Int)} {l : List Tok} {z : Nat × Nat} (h : want 1 [] e l = .error z) : named e d v l = .error z := by unfold named; rw [h]; rfl
theorem named_none {e : Nat} {d : List Fact} {v : List (Option Int)} {l l2 : List Tok} {nm : Tok} (h : want 1 [] e l = .ok (nm, l2)) (hi : index d nm.text = none) : named e d v l = .error (7, nm.at_) := by
  unfold named; rw [h]; show (match index d nm.text with | none => _ | some i => _) = _; rw [hi]
theorem named_seen {e : Nat} {d : List Fact} {v : List (Option Int)} {l l2 : List Tok} {nm : Tok} {i : Nat} (h : want 1 [] e l = .ok (nm, l2)) (hi : index d nm.text = some i) (hs : (v.getD i none).isSome = true) : named e d v l = .error (9, nm.at_) := by
  unfold named; rw [h]; show (match index d nm.text with | none => _ | some i => _) = _; rw [hi]; show valueAt _ _ _ _ _ _ = _; unfold valueAt; rw [if_pos hs]
theorem named_go {e : Nat} {d : List Fact} {v : List (Option Int)} {l l2 : List Tok} {nm : Tok} {i : Nat} {f : Fact} (h : want 1 [] e l = .ok (nm, l2)) (hi : index d nm.text = some i) (hs : (v.getD i none).isSome = false) (hf : d[i]? = some f) :
    named e d v l = (want 3 [61] e l2).bind fun q => (want 2 [] e q.2).bind (range1 f i v) := by
  unfold named; rw [h]; show (match index d nm.text with | none => _ | some i => _) = _; rw [hi]; show valueAt _ _ _ _ _ _ = _; unfold valueAt; rw [if_neg (by rw [hs]; decide)]
  rw [hf]; rfl
/-- What is still to come in the loop over the tokens. -/
def contC (e : Nat) (d : List Fact) (L : List Tok) (x : Except (Nat × Nat) (List Tok)) (v : List (Option Int)) : Except (Nat × Nat) (List Int) :=
  match x with
  | .ok l => (restV e d (decide (l.length = L.length)) v l).bind (doneV e)
  | .error z => .error z
/-- What is still to come in the loop over what was seen. -/
def outC (e : Nat) (v : List (Option Int)) (k : Nat) (x : Except (Nat × Nat) (List Tok)) : Except (Nat × Nat) (List Int) :=
  match x with
  | .ok _ => if (v.drop k).all Option.isSome then .ok (valsOf v) else .error (11, e)
  | .error z => .error z
theorem outC_see {e : Nat} {v : List (Option Int)} {k : Nat} {x : Except (Nat × Nat) (List Tok)} (hk : k < v.length) (h : (v.getD k none).isSome = true) : outC e v k x = outC e v (k + 1) x := by
  cases x with
  | error z => rfl
  | ok l =>
    unfold outC
    rw [List.drop_eq_getElem_cons hk, List.all_cons]
    rw [List.getD_eq_getElem?_getD, List.getElem?_eq_getElem hk] at h
    have h : v[k].isSome = true := by simpa using h
    rw [h, Bool.true_and]
theorem outC_miss {e : Nat} {v : List (Option Int)} {k : Nat} {l : List Tok} (hk : k < v.length) (h : (v.getD k none).isSome = false) : outC e v k (.ok l) = .error (11, e) := by
  unfold outC
  rw [List.drop_eq_getElem_cons hk, List.all_cons]
  rw [List.getD_eq_getElem?_getD, List.getElem?_eq_getElem hk] at h
  have h : v[k].isSome = false := by simpa using h
  show (if (v[k].isSome && _) = true then _ else _) = _
  rw [h, Bool.false_and, if_neg (by decide)]
theorem outC_end {e : Nat} {v : List (Option Int)} {l : List Tok} : outC e v v.length (.ok l) = .ok (valsOf v) := by
  unfold outC
  rw [List.drop_of_length_le (Nat.le_refl _)]; rfl
end Fc
end Go.Proofs.YtoamkanofhhjfaaGreatDoor
/-
  The walk of the reference's ParseCase for a valid domain. (Written by wip/tools/gen_refcase.py.)
-/
namespace Go.Proofs.YtoamkanofhhjfaaGreatDoor
open Go.RowKit

set_option maxHeartbeats 40000000 in
set_option maxRecDepth 100000 in
theorem refparsecase_walk (dv : Value) (d : List Fc.Fact) (s : ByteArray) (hm : s.size ≤ 3000) (w : World) (hF : Fc.IsF w dv d) (hvd : Fc.Valid d) :
    Calls Tryz.prog 9 #[.agg #[dv], .string s] w (Fc.ParsedC (Fc.caseT d (Lx.tx s)) w) := by
  obtain ⟨a, c, rfl, _, _⟩ := hF.form
  obtain ⟨Y, hY⟩ : ∃ Y, Y = Fc.caseT d (Lx.tx s) := ⟨_, rfl⟩
  rw [← hY]
  obtain ⟨n, hn⟩ : ∃ n, n = d.length := ⟨_, rfl⟩
  rw [← hn] at hF ⊢
  have hn60 : n ≤ 60 := by rw [hn]; exact hvd.2.2
  have HND := Lib.hid hn
  obtain ⟨W1, hW1⟩ : ∃ W1, W1 = w.alloc (.cells #[.slice a n c] 24) := ⟨_, rfl⟩
  obtain ⟨B2, hB2⟩ : ∃ n, n = w.heap.size := ⟨_, rfl⟩
  have hbW : Below w.heap.size w W1 := by rw [hW1]; exact (Below.refl _ _).alloc (Nat.le_refl _) _
  have hk2 : W1.heap[B2]? = some (.cells #[.slice a n c] 24 (0, 0)) := by rw [hW1, hB2]; exact heap_alloc_new _ _
  have HLX : Hid (∀ w', Calls Tryz.prog 31 #[.string s] w' _) := fun w' => reflex_walk s (by omega) w'
  have hfe := Fc.full_err (s := Lx.tx s) (by rw [Lx.tx_len]; omega)
  have hgood := Fc.full_good (Lx.tx s)
  have hflen := Fc.full_len (Lx.tx s)
  unfold Fc.caseT at hY
  rw [Lx.tx_len] at hY hfe
  revert HLX hY hfe hgood hflen
  generalize Lx.full (Lx.tx s) = r
  obtain ⟨L, E, A⟩ := r
  intro hY HLX hfe hgood hflen
  dsimp only at hY hfe hgood hflen
  have HY := Lib.hid hY
  have HFE := Lib.hid hfe
  have HGD := Lib.hid hgood
  have HFL := Lib.hid hflen
  have HB1 := Lib.hid (And.intro hbW hk2)
  have HB2 := Lib.hid hB2
  have HF := Lib.hid hF
  have HVD := Lib.hid hvd
  have HW1 : Hid (w.alloc (.cells #[.slice a n c] 24) = W1) := hW1.symm
  have b2 := Joins.cell_of_block hk2 0
  have HVW := Lib.hid (refvalid_is (.slice a n c) d W1 (hF.below hbW) true (by simp [hvd]))
  clear hY hfe hgood hflen hbW hk2 hW1 hB2 hF hvd hn
  go_enter Tryz.func9, Tryz.ntmps9
  go_upto_region 1 with fail
  rw [HW1.out, ← HB2.out]
  clear HW1
  go_wp2_with fail
  refine HVW.out.mono ?_
  rintro en w1 ⟨rfl, hb1⟩
  clear b2 HVW
  go_wp2_with fail
  refine (HLX.out w1).mono ?_
  rintro en w2 ⟨lv, rfl, hO, hb2⟩
  have hb12 := hb1.trans (hb2.mono hb1.size)
  have hk22 := (hb12.block B2 (Array.getElem?_eq_some_iff.1 HB1.out.2).1).trans HB1.out.2
  have hb02 := HB1.out.1.trans (hb12.mono HB1.out.1.size)
  clear hb1 hb2 hb12 HLX
  dsimp only
  by_cases hE : E = 0
  case neg =>
    have e1 : (((E : Nat) : Int) != 0) = true := by rw [bne_iff_ne]; omega
    have hYE : Y = .error (E, A) := by rw [HY.out, if_neg hE]
    have HE := Lib.hid hYE
    have HK := Lib.hid hb02
    clear hk22 hb02 hO hYE HFE
    go_wp2_with fail
    refine bodyPost_ret (v := .tuple #[.slice none 0 0, .int .i64 (E : Nat), .int .i64 A]) (by simp [results, Tryz.f9, go_sem]) rfl ?_
    rw [HE.out]
    exact ⟨HK.out, rfl⟩
  case pos =>
    subst hE
    obtain ⟨⟨lva, lvc⟩, hla⟩ := hO.form
    dsimp only at hla
    subst hla
    obtain ⟨Q, hQ⟩ : ∃ Q, Q = Fc.parseCase s.size d L := ⟨_, rfl⟩
    have hYP : Y = Fc.wide Q := by rw [HY.out, if_pos rfl, hQ]
    have e1 : (((0 : Nat) : Int) != 0) = false := rfl
    have HYP := Lib.hid hYP
    have HQ0 : Hid (Q = Fc.contC s.size d L (.ok L) (d.map fun _ => none)) := by show Q = (Fc.restV s.size d (decide (L.length = L.length)) _ L).bind _; rw [hQ, Fc.parseCase_eq, decide_eq_true rfl]
    obtain ⟨W4, hW4⟩ : ∃ W, W = w2.alloc (.cells #[.slice lva L.length lvc, .int .i64 0, .int .i64 s.size, .int .i64 0, .int .i64 0] 54) := ⟨_, rfl⟩
    obtain ⟨R, hRe⟩ : ∃ n, n = w2.heap.size := ⟨_, rfl⟩
    have hb4 : Below w2.heap.size w2 W4 := by rw [hW4]; exact (Below.refl _ _).alloc (Nat.le_refl _) _
    have hR4 : Fc.RSt R s.size (.slice lva L.length lvc) L 0 0 0 W4 := by
      refine ⟨by rw [hW4, hRe]; exact heap_alloc_new _ _, ?_, Nat.zero_le _⟩
      have := (Fc.OwnT.isT hO (Nat.le_refl _)).below hb4
      rw [← hRe] at this
      exact this
    have hk4 := (hb4.block B2 (Array.getElem?_eq_some_iff.1 hk22).1).trans hk22
    have hb04 := hb02.trans (hb4.mono hb02.size)
    have hBR : B2 < R := by rw [hRe]; exact (Array.getElem?_eq_some_iff.1 hk22).1
    have HW4 : Hid (w2.alloc (.cells #[.slice lva L.length lvc, .int .i64 0, .int .i64 s.size, .int .i64 0, .int .i64 0] 54) = W4) := hW4.symm
    have HRE := Lib.hid hRe
    have HK4 := Lib.hid (And.intro hR4 (And.intro hk4 (And.intro hb04 hBR)))
    clear hYP hQ hW4 hRe hb4 hR4 hk4 hb04 hBR hk22 hb02 hO
    go_upto_region 7 with fail
    rw [HW4.out, ← HRE.out]
    clear HW4 HRE HFE e1
    have b2 := Joins.cell_of_block HK4.out.2.1 0
    obtain ⟨i0, hii, hz0, hz1, hz2⟩ := info_parts one_int
    have HI := Lib.hid hii
    clear hii
    go_upto_region 8 with (first | (at_make; refine wpList_make_full _ rfl _ _ 26 rfl W4.heap.size 3 i0 (.int .i64 0) 1 Tryz.underlying26 HI.out hz0 hz1 .i64 .i64 (n : Int) (n : Int) n rfl rfl rfl rfl (by rw [hz2]; omega) (by unfold maxLen; omega) (Nat.le_refl _) ?_; intro w5 hown hgrow))
    have hb5 : Below W4.heap.size W4 w5 := (Below.refl _ _).grown hgrow (Nat.le_refl _) (fun _ h => by cases h)
    have hO5 : Fc.OwnN W4.heap.size n (List.replicate n 0) w5 := ⟨List.length_replicate, by rw [← Fc.cells_made]; exact hown⟩
    obtain ⟨gC, hgC⟩ : ∃ gC, gC = W4.heap.size := ⟨_, rfl⟩
    rw [← hgC] at hO5
    have hk5 := (hb5.block B2 (Array.getElem?_eq_some_iff.1 HK4.out.2.1).1).trans HK4.out.2.1
    have hRC : R < gC := by rw [hgC]; exact HK4.out.1.lt
    have HK5 := Lib.hid (And.intro (HK4.out.1.below hb5) (And.intro hk5 (And.intro (HK4.out.2.2.1.trans (hb5.mono HK4.out.2.2.1.size)) (And.intro HK4.out.2.2.2 (And.intro hRC hO5)))))
    clear hown hgrow hb5 hO5 hk5 hRC hz0 hz1 hz2 HI b2 HK4
    rw [← hgC]
    clear hgC
    have b2 := Joins.cell_of_block HK5.out.2.1 0
    obtain ⟨i0, hii, hz0, hz1, hz2⟩ := info_parts one_boolC
    have HI := Lib.hid hii
    clear hii
    go_upto_region 9 with (first | (at_make; refine wpList_make_full _ rfl _ _ 58 rfl w5.heap.size 4 i0 (.bool false) 1 Tryz.underlying58 HI.out hz0 hz1 .i64 .i64 (n : Int) (n : Int) n rfl rfl rfl rfl (by rw [hz2]; omega) (by unfold maxLen; omega) (Nat.le_refl _) ?_; intro w6 hown hgrow))
    have hb6 : Below w5.heap.size w5 w6 := (Below.refl _ _).grown hgrow (Nat.le_refl _) (fun _ h => by cases h)
    have hO6 : Fc.OwnB w5.heap.size n (List.replicate n false) w6 := ⟨List.length_replicate, by rw [← Fc.cellsB_made]; exact hown⟩
    obtain ⟨gS, hgS⟩ : ∃ gS, gS = w5.heap.size := ⟨_, rfl⟩
    rw [← hgS] at hO6
    have hs0 : Fc.CS R s.size (.slice lva L.length lvc) L B2 gC gS n w (.slice a n c) (.ok L) (d.map fun _ => none) w6 := by
      have hOC := HK5.out.2.2.2.2.2
      have hlC := hOC.lt
      refine ⟨⟨0, 0, 0, HK5.out.1.below hb6, rfl, rfl, rfl⟩, HK5.out.2.2.1.trans (hb6.mono HK5.out.2.2.1.size), (hb6.block B2 (Array.getElem?_eq_some_iff.1 HK5.out.2.1).1).trans HK5.out.2.1, ?_, ?_, ⟨by rw [HB2.out]; exact Nat.le_refl _, HK5.out.2.2.2.1, HK5.out.2.2.2.2.1, by omega⟩⟩
      · have hv : Fc.valsOf (d.map fun _ => (none : Option Int)) = List.replicate n 0 := by unfold Fc.valsOf; rw [List.map_map, HND.out]; exact List.eq_replicate_iff.2 ⟨by simp, fun b hb => by obtain ⟨x, _, rfl⟩ := List.mem_map.1 hb; rfl⟩
        rw [hv]
        exact hOC.block (hb6.block gC hlC)
      · have hv : Fc.seenOf (d.map fun _ => (none : Option Int)) = List.replicate n false := by unfold Fc.seenOf; rw [List.map_map, HND.out]; exact List.eq_replicate_iff.2 ⟨by simp, fun b hb => by obtain ⟨x, _, rfl⟩ := List.mem_map.1 hb; rfl⟩
        rw [hv]
        exact hO6
    have HS0 := Lib.hid hs0
    have HC : Hid (R < gS) := (by have := hs0.ord; omega : R < gS)
    clear hown hgrow hb6 hO6 hz0 hz1 hz2 HI b2 HK5 hs0
    rw [← hgS]
    clear hgS
    have hG0 : Hid (∀ r, (Except.ok L : Except (Nat × Nat) (List Lx.Tok)) = .ok r → Fc.Goods r) := fun r h => by cases h; exact HGD.out
    have hv0 : (d.map fun _ => (none : Option Int)).length = n := by rw [List.length_map]; exact HND.out.symm
    go_loopg [] (L.length + 1) (fun k wr => ∃ x v, Fc.left x = k ∧ Hid (∀ r, x = .ok r → Fc.Goods r) ∧ v.length = n ∧ Hid (Q = Fc.contC s.size d L x v) ∧ Hid (Fc.CS R s.size (.slice lva L.length lvc) L B2 gC gS n w (.slice a n c) x v wr))
    case atStart => exact ⟨.ok L, _, rfl, hG0, hv0, HQ0, HS0⟩
    case round =>
      clear HS0 hG0 HQ0 hv0
      obtain ⟨x, v, hk, hg, hvl, hp, HS⟩ := hrel
      cases x with
      | error z =>
        obtain ⟨c3, e0⟩ := HS.out.rx.err_no
        have HQ : Hid (Q = Fc.outC s.size v 0 (.error z)) := hp
        clear hk hg hp
        go_wp2_with fail
        clear c3 e0
        go_loopw [16] (fun i wx => ∃ (k : Nat) (y : Except (Nat × Nat) (List Lx.Tok)), k ≤ n ∧ i = .int .i64 k ∧ Hid (Q = Fc.outC s.size v k y) ∧ Hid (Fc.CS R s.size (.slice lva L.length lvc) L B2 gC gS n w (.slice a n c) y v wx)) (fun i _ => n - (intOf i).toNat)
        case atStart => exact ⟨0, .error z, Nat.zero_le _, rfl, HQ, HS⟩
        case round =>
          clear HS HQ
          obtain ⟨k, y, hk, rfl, HQ, HS⟩ := hrel
          by_cases hlt : k < n
          · have hki : (k : Int) < (n : Int) := by omega
            have hk0 : (0 : Int) ≤ (k : Int) := by omega
            have hkv : k < v.length := by rw [hvl]; exact hlt
            have sc := HS.out.os.cell (Fc.seenOf_get hkv)
            cases hsv : (v.getD k none).isSome with
            | true =>
              rw [hsv] at sc
              replace HQ := Lib.hid (HQ.out.trans (Fc.outC_see hkv hsv))
              clear hsv
              go_wp2_with fail
              go_roundw
              case rel => exact ⟨k + 1, y, by omega, by go_num, HQ, HS⟩
              case measure => simp [intOf]; omega
            | false =>
              rw [hsv] at sc
              cases y with
              | error z =>
                replace HQ : Hid (Q = Fc.outC s.size v (k + 1) (.error z)) := HQ.out
                clear hsv
                go_wp2_with fail
                refine (fault_err R s.size (.slice lva L.length lvc) L z 11 (s.size : Nat) _ HS.out.rx).mono ?_
                rintro en8 w8 ⟨rfl, hrx, hrd⟩
                replace HS := Lib.hid (HS.out.aft hrx hrd)
                clear hrx hrd sc
                go_wp2_with fail
                go_roundw
                case rel => exact ⟨k + 1, .error z, by omega, by go_num, HQ, HS⟩
                case measure => simp [intOf]; omega
              | ok l =>
                replace HQ : Hid (Q = Fc.outC s.size v (k + 1) (.error (11, s.size))) := HQ.out.trans (Fc.outC_miss hkv hsv)
                clear hsv
                go_wp2_with fail
                refine (fault_ok R s.size (.slice lva L.length lvc) L l 11 s.size (by decide) _ HS.out.rx).mono ?_
                rintro en8 w8 ⟨rfl, hrx, hrd⟩
                replace HS := Lib.hid (HS.out.aft hrx hrd)
                clear hrx hrd sc
                go_wp2_with fail
                go_roundw
                case rel => exact ⟨k + 1, .error (11, s.size), by omega, by go_num, HQ, HS⟩
                case measure => simp [intOf]; omega
          · have hki : ¬ (k : Int) < (n : Int) := by omega
            have hkv : k = v.length := by omega
            cases y with
            | error z =>
              obtain ⟨c3, e0⟩ := HS.out.rx.err_no
              obtain ⟨hz, c4⟩ := HS.out.rx.bad
              have e2 : (((z.1 : Nat) : Int) != 0) = true := by rw [bne_iff_ne]; omega
              have HPE : Hid (Y = .error (z.1, (z.2 : Int))) := by show Y = _; rw [HYP.out, HQ.out]; rfl
              clear hz HQ hk hkv
              obtain ⟨zE, zA⟩ := z
              dsimp only at c3 e0 c4 e2 HPE
              go_wp2_with fail
              go_region
              all_goals
                go_wp2_with fail
                refine bodyPost_ret (v := .tuple #[.slice none 0 0, .int .i64 (zE : Nat), .int .i64 (zA : Nat)]) (by simp [results, Tryz.f9, go_sem]) rfl ?_
                rw [HPE.out]
                exact ⟨HS.out.bl.drew, rfl⟩
            | ok l =>
              have c3 := HS.out.rx.err_ok
              have HPE : Hid (Y = .ok (Fc.valsOf v)) := by show Y = _; rw [HYP.out, HQ.out, hkv, Fc.outC_end]; rfl
              clear HQ
              go_wp2_with fail
              refine bodyPost_ret (v := .tuple #[.slice (some ⟨gC, 0, none⟩) n n, .int .i64 0, .int .i64 0]) (by simp [results, Tryz.f9, go_sem]) rfl ?_
              rw [HPE.out]
              have hvn : (Fc.valsOf v).length = n := HS.out.oc.1
              refine ⟨HS.out.bl, gC, ?_, ?_, ?_⟩
              · rw [hvn]
              · rw [hvn]; exact HS.out.oc
              · have := HS.out.ord; omega
      | ok l =>
        have c3 := HS.out.rx.err_ok
        obtain ⟨i, c1, hi, hri⟩ := HS.out.rx.idx
        cases l with
        | nil =>
          have hge : ¬ i < L.length := by
            intro h
            have := congrArg List.length hri
            rw [List.length_drop, List.length_nil] at this
            omega
          have hli : ¬ (i : Int) < (L.length : Int) := by omega
          have hln : decide (i < L.length) = false := decide_eq_false hge
          have HQ : Hid (Q = Fc.outC s.size v 0 (.ok [])) := hp
          clear hk hg hp hri hge hi
          go_wp2_with fail
          clear c3 c1 hli hln
          go_loopw [16] (fun i wx => ∃ (k : Nat) (y : Except (Nat × Nat) (List Lx.Tok)), k ≤ n ∧ i = .int .i64 k ∧ Hid (Q = Fc.outC s.size v k y) ∧ Hid (Fc.CS R s.size (.slice lva L.length lvc) L B2 gC gS n w (.slice a n c) y v wx)) (fun i _ => n - (intOf i).toNat)
          case atStart => exact ⟨0, .ok [], Nat.zero_le _, rfl, HQ, HS⟩
          case round =>
            clear HS HQ
            obtain ⟨k, y, hk, rfl, HQ, HS⟩ := hrel
            by_cases hlt : k < n
            · have hki : (k : Int) < (n : Int) := by omega
              have hk0 : (0 : Int) ≤ (k : Int) := by omega
              have hkv : k < v.length := by rw [hvl]; exact hlt
              have sc := HS.out.os.cell (Fc.seenOf_get hkv)
              cases hsv : (v.getD k none).isSome with
              | true =>
                rw [hsv] at sc
                replace HQ := Lib.hid (HQ.out.trans (Fc.outC_see hkv hsv))
                clear hsv
                go_wp2_with fail
                go_roundw
                case rel => exact ⟨k + 1, y, by omega, by go_num, HQ, HS⟩
                case measure => simp [intOf]; omega
              | false =>
                rw [hsv] at sc
                cases y with
                | error z =>
                  replace HQ : Hid (Q = Fc.outC s.size v (k + 1) (.error z)) := HQ.out
                  clear hsv
                  go_wp2_with fail
                  refine (fault_err R s.size (.slice lva L.length lvc) L z 11 (s.size : Nat) _ HS.out.rx).mono ?_
                  rintro en8 w8 ⟨rfl, hrx, hrd⟩
                  replace HS := Lib.hid (HS.out.aft hrx hrd)
                  clear hrx hrd sc
                  go_wp2_with fail
                  go_roundw
                  case rel => exact ⟨k + 1, .error z, by omega, by go_num, HQ, HS⟩
                  case measure => simp [intOf]; omega
                | ok l =>
                  replace HQ : Hid (Q = Fc.outC s.size v (k + 1) (.error (11, s.size))) := HQ.out.trans (Fc.outC_miss hkv hsv)
                  clear hsv
                  go_wp2_with fail
                  refine (fault_ok R s.size (.slice lva L.length lvc) L l 11 s.size (by decide) _ HS.out.rx).mono ?_
                  rintro en8 w8 ⟨rfl, hrx, hrd⟩
                  replace HS := Lib.hid (HS.out.aft hrx hrd)
                  clear hrx hrd sc
                  go_wp2_with fail
                  go_roundw
                  case rel => exact ⟨k + 1, .error (11, s.size), by omega, by go_num, HQ, HS⟩
                  case measure => simp [intOf]; omega
            · have hki : ¬ (k : Int) < (n : Int) := by omega
              have hkv : k = v.length := by omega
              cases y with
              | error z =>
                obtain ⟨c3, e0⟩ := HS.out.rx.err_no
                obtain ⟨hz, c4⟩ := HS.out.rx.bad
                have e2 : (((z.1 : Nat) : Int) != 0) = true := by rw [bne_iff_ne]; omega
                have HPE : Hid (Y = .error (z.1, (z.2 : Int))) := by show Y = _; rw [HYP.out, HQ.out]; rfl
                clear hz HQ hk hkv
                obtain ⟨zE, zA⟩ := z
                dsimp only at c3 e0 c4 e2 HPE
                go_wp2_with fail
                go_region
                all_goals
                  go_wp2_with fail
                  refine bodyPost_ret (v := .tuple #[.slice none 0 0, .int .i64 (zE : Nat), .int .i64 (zA : Nat)]) (by simp [results, Tryz.f9, go_sem]) rfl ?_
                  rw [HPE.out]
                  exact ⟨HS.out.bl.drew, rfl⟩
              | ok l =>
                have c3 := HS.out.rx.err_ok
                have HPE : Hid (Y = .ok (Fc.valsOf v)) := by show Y = _; rw [HYP.out, HQ.out, hkv, Fc.outC_end]; rfl
                clear HQ
                go_wp2_with fail
                refine bodyPost_ret (v := .tuple #[.slice (some ⟨gC, 0, none⟩) n n, .int .i64 0, .int .i64 0]) (by simp [results, Tryz.f9, go_sem]) rfl ?_
                rw [HPE.out]
                have hvn : (Fc.valsOf v).length = n := HS.out.oc.1
                refine ⟨HS.out.bl, gC, ?_, ?_, ?_⟩
                · rw [hvn]
                · rw [hvn]; exact HS.out.oc
                · have := HS.out.ord; omega
        | cons t r =>
          have hlen : r.length + 1 = L.length - i := by
            have := congrArg List.length hri
            rw [List.length_drop, List.length_cons] at this
            exact this
          have hlt : i < L.length := by omega
          have HGD2 := Lib.hid (hg.out (t :: r) rfl)
          obtain ⟨X, hX⟩ : ∃ X, X = Fc.value1 s.size d (decide ((t :: r).length = L.length)) v (t :: r) := ⟨_, rfl⟩
          have HP2 : Hid (Q = (X.bind fun x => Fc.restV s.size d false x.1 x.2).bind (Fc.doneV s.size)) := by
            show Q = _
            rw [hp.out, hX, ← Fc.restV_step HGD2.out]; rfl
          have HX := Lib.hid hX
          have HX1 := Lib.hid hX
          have HTL : Hid ((t :: r).length ≤ L.length) := (by rw [List.length_cons]; omega : (t :: r).length ≤ L.length)
          have HKK := Lib.hid hk
          clear hX hp hg hk
          by_cases h0 : i = 0
          · subst h0
            have hli : (0 : Int) < (L.length : Int) := by omega
            have hln : decide (0 < L.length) = true := decide_eq_true hlt
            replace c1 := c1.trans (show some (Value.int .i64 ((0 : Nat) : Int)) = some (Value.int .i64 0) from rfl)
            replace HX : Hid (X = Fc.named s.size d v (t :: r)) := by
              show X = _
              rw [HX.out, decide_eq_true (by rw [List.length_cons]; omega)]; rfl
            clear hri hlen hi hlt
            go_wp2_with fail
            clear c3 c1 hli hln
            cases hw1 : Fc.want 1 [] s.size (t :: r) with
            | error z =>
              replace HX : Hid (X = .error z) := HX.out.trans (Fc.named_no hw1)
              refine (take_no R s.size (.slice lva L.length lvc) L _ 1 ⟨#[]⟩ _ HS.out.rx HFL.out hw1).mono ?_
              rintro en101 w101 ⟨rfl, hrx, hrd⟩
              replace HS := Lib.hid (HS.out.aft hrx hrd)
              clear hrx hrd
              clear hw1
              obtain ⟨t13, ht⟩ : ∃ t, t = Fc.zt := ⟨_, rfl⟩
              rw [← ht]
              clear ht
              obtain ⟨W102, hW⟩ : ∃ W, W = w101.alloc (.cells #[.int .i64 (t13.kind : Nat), .string (Lx.str t13.text), .int .i64 (t13.n : Nat), .int .i64 (t13.at_ : Nat)] 60) := ⟨_, rfl⟩
              obtain ⟨n13, hn⟩ : ∃ n, n = w101.heap.size := ⟨_, rfl⟩
              have hb : Below w101.heap.size w101 W102 := by rw [hW]; exact (Below.refl _ _).alloc (Nat.le_refl _) _
              have HT13 : Hid (Fc.TokB gS n13 t13 W102) := by rw [hW, hn]; exact Fc.TokB.new t13 HS.out.lt
              replace HS := Lib.hid (HS.out.next hb)
              have HW : Hid (w101.alloc (.cells #[.int .i64 (t13.kind : Nat), .string (Lx.str t13.text), .int .i64 (t13.n : Nat), .int .i64 (t13.at_ : Nat)] 60) = W102) := hW.symm
              have HN := Lib.hid hn
              clear hb hW hn
              go_upto_region 13 with fail
              rw [HW.out, ← HN.out]
              clear HW HN
              have b2 := Joins.cell_of_block HS.out.b2 0
              have s13 := HT13.out.text
              go_wp2_with fail
              clear b2 s13
              obtain ⟨zz, hzz⟩ : ∃ z, z = Fc.idx d t13.text := ⟨_, rfl⟩
              have hix := refindex_walk (.slice a n c) d (Lx.str t13.text) W102 (HF.out.below HS.out.bl)
              rw [Lx.tx_str, ← hzz] at hix
              refine hix.mono ?_
              rintro en103 w103 ⟨rfl, hb⟩
              replace HS := Lib.hid (HS.out.next hb)
              replace HT13 := Lib.hid (HT13.out.next hb)
              clear hb hix
              clear hzz
              obtain ⟨c3, e0⟩ := HS.out.rx.err_no
              go_wp2_with fail
              clear c3 e0
              refine (take_err R s.size (.slice lva L.length lvc) L z 3 ⟨#[61]⟩ _ HS.out.rx HFL.out).mono ?_
              rintro en104 w104 ⟨rfl, hrx, hrd⟩
              replace HS := Lib.hid (HS.out.aft hrx hrd)
              replace HT13 := Lib.hid (HT13.out.aft hrd HC.out)
              clear hrx hrd
              go_wp2_with fail
              refine (take_err R s.size (.slice lva L.length lvc) L z 2 ⟨#[]⟩ _ HS.out.rx HFL.out).mono ?_
              rintro en105 w105 ⟨rfl, hrx, hrd⟩
              replace HS := Lib.hid (HS.out.aft hrx hrd)
              replace HT13 := Lib.hid (HT13.out.aft hrd HC.out)
              clear hrx hrd
              obtain ⟨t15, ht⟩ : ∃ t, t = Fc.zt := ⟨_, rfl⟩
              rw [← ht]
              clear ht
              obtain ⟨W106, hW⟩ : ∃ W, W = w105.alloc (.cells #[.int .i64 (t15.kind : Nat), .string (Lx.str t15.text), .int .i64 (t15.n : Nat), .int .i64 (t15.at_ : Nat)] 60) := ⟨_, rfl⟩
              obtain ⟨n15, hn⟩ : ∃ n, n = w105.heap.size := ⟨_, rfl⟩
              have hb : Below w105.heap.size w105 W106 := by rw [hW]; exact (Below.refl _ _).alloc (Nat.le_refl _) _
              have HT15 : Hid (Fc.TokB gS n15 t15 W106) := by rw [hW, hn]; exact Fc.TokB.new t15 HS.out.lt
              replace HS := Lib.hid (HS.out.next hb)
              replace HT13 := Lib.hid (HT13.out.next hb)
              have HW : Hid (w105.alloc (.cells #[.int .i64 (t15.kind : Nat), .string (Lx.str t15.text), .int .i64 (t15.n : Nat), .int .i64 (t15.at_ : Nat)] 60) = W106) := hW.symm
              have HN := Lib.hid hn
              clear hb hW hn
              go_upto_region 20 with fail
              rw [HW.out, ← HN.out]
              clear HW HN
              obtain ⟨c3, e0⟩ := HS.out.rx.err_no
              have HSQ : Hid (∀ q, Fc.CS R s.size (.slice lva L.length lvc) L B2 gC gS n w (.slice a n c) (.error z) v (W106.drewN q)) := fun q => HS.out.next (Joins.below_draws _ _ q)
              have c3q : ∀ q, (W106.drewN q).cell? ⟨R, 3, none⟩ = some (.int .i64 (z.1 : Nat)) := fun q => (HSQ.out q).rx.err_no.1
              go_wp2_with fail
              go_quiet (fail)
              go_wp2_with fail
              replace HS := Lib.hid (HSQ.out nq)
              clear HSQ c3q c3 e0
              have HG0 : Hid (∀ r, (Except.error z : Except (Nat × Nat) (List Lx.Tok)) = .ok r → Fc.Goods r) := fun r h => by cases h
              have HPZ : Hid (Q = Fc.contC s.size d L (.error z) v) := by show Q = _; rw [HP2.out, HX.out]; rfl
              go_roundg 0
              case measure => rw [← HKK.out]; exact Nat.succ_pos _
              case rel => exact ⟨.error z, v, rfl, HG0, hvl, HPZ, HS⟩
            | ok y =>
              obtain ⟨nm, l2⟩ := y
              refine (take_ok R s.size (.slice lva L.length lvc) L _ 1 ⟨#[]⟩ _ HS.out.rx HFL.out hw1).mono ?_
              rintro en107 w107 ⟨rfl, hrx, hrd⟩
              replace HS := Lib.hid (HS.out.aft hrx hrd)
              clear hrx hrd
              replace hw1 := Lib.hid hw1
              obtain ⟨W108, hW⟩ : ∃ W, W = w107.alloc (.cells #[.int .i64 (nm.kind : Nat), .string (Lx.str nm.text), .int .i64 (nm.n : Nat), .int .i64 (nm.at_ : Nat)] 60) := ⟨_, rfl⟩
              obtain ⟨n13, hn⟩ : ∃ n, n = w107.heap.size := ⟨_, rfl⟩
              have hb : Below w107.heap.size w107 W108 := by rw [hW]; exact (Below.refl _ _).alloc (Nat.le_refl _) _
              have HT13 : Hid (Fc.TokB gS n13 nm W108) := by rw [hW, hn]; exact Fc.TokB.new nm HS.out.lt
              replace HS := Lib.hid (HS.out.next hb)
              have HW : Hid (w107.alloc (.cells #[.int .i64 (nm.kind : Nat), .string (Lx.str nm.text), .int .i64 (nm.n : Nat), .int .i64 (nm.at_ : Nat)] 60) = W108) := hW.symm
              have HN := Lib.hid hn
              clear hb hW hn
              go_upto_region 13 with fail
              rw [HW.out, ← HN.out]
              clear HW HN
              have b2 := Joins.cell_of_block HS.out.b2 0
              have s13 := HT13.out.text
              go_wp2_with fail
              clear b2 s13
              obtain ⟨zz, hzz⟩ : ∃ z, z = Fc.idx d nm.text := ⟨_, rfl⟩
              have hix := refindex_walk (.slice a n c) d (Lx.str nm.text) W108 (HF.out.below HS.out.bl)
              rw [Lx.tx_str, ← hzz] at hix
              refine hix.mono ?_
              rintro en109 w109 ⟨rfl, hb⟩
              replace HS := Lib.hid (HS.out.next hb)
              replace HT13 := Lib.hid (HT13.out.next hb)
              clear hb hix
              cases hxi : Fc.index d nm.text with
              | none =>
                replace HX : Hid (X = .error (7, nm.at_)) := HX.out.trans (Fc.named_none hw1.out hxi)
                have hz0 : zz < 0 := by rw [hzz, Fc.idx_none hxi]; omega
                have e1 : decide (zz < 0) = true := decide_eq_true hz0
                have c3 := HS.out.rx.err_ok
                have s13 := HT13.out.at'
                clear hzz hxi hw1
                go_wp2_with fail
                clear c3 s13 e1 hz0
                refine (fault_ok R s.size (.slice lva L.length lvc) L _ 7 nm.at_ (by decide) _ HS.out.rx).mono ?_
                rintro en110 w110 ⟨rfl, hrx, hrd⟩
                replace HS := Lib.hid (HS.out.aft hrx hrd)
                replace HT13 := Lib.hid (HT13.out.aft hrd HC.out)
                clear hrx hrd
                obtain ⟨z, hz⟩ : ∃ z : Nat × Nat, z = (7, nm.at_) := ⟨_, rfl⟩
                rw [← hz] at HS HX
                clear hz
                obtain ⟨c3, e0⟩ := HS.out.rx.err_no
                go_wp2_with fail
                clear c3 e0
                refine (take_err R s.size (.slice lva L.length lvc) L z 3 ⟨#[61]⟩ _ HS.out.rx HFL.out).mono ?_
                rintro en111 w111 ⟨rfl, hrx, hrd⟩
                replace HS := Lib.hid (HS.out.aft hrx hrd)
                replace HT13 := Lib.hid (HT13.out.aft hrd HC.out)
                clear hrx hrd
                go_wp2_with fail
                refine (take_err R s.size (.slice lva L.length lvc) L z 2 ⟨#[]⟩ _ HS.out.rx HFL.out).mono ?_
                rintro en112 w112 ⟨rfl, hrx, hrd⟩
                replace HS := Lib.hid (HS.out.aft hrx hrd)
                replace HT13 := Lib.hid (HT13.out.aft hrd HC.out)
                clear hrx hrd
                obtain ⟨t15, ht⟩ : ∃ t, t = Fc.zt := ⟨_, rfl⟩
                rw [← ht]
                clear ht
                obtain ⟨W113, hW⟩ : ∃ W, W = w112.alloc (.cells #[.int .i64 (t15.kind : Nat), .string (Lx.str t15.text), .int .i64 (t15.n : Nat), .int .i64 (t15.at_ : Nat)] 60) := ⟨_, rfl⟩
                obtain ⟨n15, hn⟩ : ∃ n, n = w112.heap.size := ⟨_, rfl⟩
                have hb : Below w112.heap.size w112 W113 := by rw [hW]; exact (Below.refl _ _).alloc (Nat.le_refl _) _
                have HT15 : Hid (Fc.TokB gS n15 t15 W113) := by rw [hW, hn]; exact Fc.TokB.new t15 HS.out.lt
                replace HS := Lib.hid (HS.out.next hb)
                replace HT13 := Lib.hid (HT13.out.next hb)
                have HW : Hid (w112.alloc (.cells #[.int .i64 (t15.kind : Nat), .string (Lx.str t15.text), .int .i64 (t15.n : Nat), .int .i64 (t15.at_ : Nat)] 60) = W113) := hW.symm
                have HN := Lib.hid hn
                clear hb hW hn
                go_upto_region 20 with fail
                rw [HW.out, ← HN.out]
                clear HW HN
                obtain ⟨c3, e0⟩ := HS.out.rx.err_no
                have HSQ : Hid (∀ q, Fc.CS R s.size (.slice lva L.length lvc) L B2 gC gS n w (.slice a n c) (.error z) v (W113.drewN q)) := fun q => HS.out.next (Joins.below_draws _ _ q)
                have c3q : ∀ q, (W113.drewN q).cell? ⟨R, 3, none⟩ = some (.int .i64 (z.1 : Nat)) := fun q => (HSQ.out q).rx.err_no.1
                go_wp2_with fail
                go_quiet (fail)
                go_wp2_with fail
                replace HS := Lib.hid (HSQ.out nq)
                clear HSQ c3q c3 e0
                have HG0 : Hid (∀ r, (Except.error z : Except (Nat × Nat) (List Lx.Tok)) = .ok r → Fc.Goods r) := fun r h => by cases h
                have HPZ : Hid (Q = Fc.contC s.size d L (.error z) v) := by show Q = _; rw [HP2.out, HX.out]; rfl
                go_roundg 0
                case measure => rw [← HKK.out]; exact Nat.succ_pos _
                case rel => exact ⟨.error z, v, rfl, HG0, hvl, HPZ, HS⟩
              | some i =>
                obtain ⟨f, hf, -⟩ := Fc.index_some_iff.1 hxi
                have hin : i < n := by rw [HND.out]; exact (List.getElem?_eq_some_iff.1 hf).1
                rw [Fc.idx_some hxi] at hzz
                subst hzz
                have hi0 : (0 : Int) ≤ (i : Int) := by omega
                have hii : (i : Int) < (n : Int) := by omega
                have hi1 : ¬ (i : Int) < 0 := by omega
                have e1 : decide ((i : Int) < 0) = false := decide_eq_false hi1
                have c3 := HS.out.rx.err_ok
                have hsc := HS.out.os.cell (Fc.seenOf_get (v := v) (i := i) (by rw [hvl]; exact hin))
                cases hsv : (v.getD i none).isSome with
                | true =>
                  replace HX : Hid (X = .error (9, nm.at_)) := HX.out.trans (Fc.named_seen hw1.out hxi hsv)
                  rw [hsv] at hsc
                  have s13 := HT13.out.at'
                  clear hsv hxi hf hw1
                  go_wp2_with fail
                  clear c3 hsc s13
                  refine (fault_ok R s.size (.slice lva L.length lvc) L _ 9 nm.at_ (by decide) _ HS.out.rx).mono ?_
                  rintro en114 w114 ⟨rfl, hrx, hrd⟩
                  replace HS := Lib.hid (HS.out.aft hrx hrd)
                  replace HT13 := Lib.hid (HT13.out.aft hrd HC.out)
                  clear hrx hrd
                  obtain ⟨z, hz⟩ : ∃ z : Nat × Nat, z = (9, nm.at_) := ⟨_, rfl⟩
                  rw [← hz] at HS HX
                  clear hz
                  obtain ⟨c3, e0⟩ := HS.out.rx.err_no
                  go_wp2_with fail
                  clear c3 e0
                  refine (take_err R s.size (.slice lva L.length lvc) L z 3 ⟨#[61]⟩ _ HS.out.rx HFL.out).mono ?_
                  rintro en115 w115 ⟨rfl, hrx, hrd⟩
                  replace HS := Lib.hid (HS.out.aft hrx hrd)
                  replace HT13 := Lib.hid (HT13.out.aft hrd HC.out)
                  clear hrx hrd
                  go_wp2_with fail
                  refine (take_err R s.size (.slice lva L.length lvc) L z 2 ⟨#[]⟩ _ HS.out.rx HFL.out).mono ?_
                  rintro en116 w116 ⟨rfl, hrx, hrd⟩
                  replace HS := Lib.hid (HS.out.aft hrx hrd)
                  replace HT13 := Lib.hid (HT13.out.aft hrd HC.out)
                  clear hrx hrd
                  obtain ⟨t15, ht⟩ : ∃ t, t = Fc.zt := ⟨_, rfl⟩
                  rw [← ht]
                  clear ht
                  obtain ⟨W117, hW⟩ : ∃ W, W = w116.alloc (.cells #[.int .i64 (t15.kind : Nat), .string (Lx.str t15.text), .int .i64 (t15.n : Nat), .int .i64 (t15.at_ : Nat)] 60) := ⟨_, rfl⟩
                  obtain ⟨n15, hn⟩ : ∃ n, n = w116.heap.size := ⟨_, rfl⟩
                  have hb : Below w116.heap.size w116 W117 := by rw [hW]; exact (Below.refl _ _).alloc (Nat.le_refl _) _
                  have HT15 : Hid (Fc.TokB gS n15 t15 W117) := by rw [hW, hn]; exact Fc.TokB.new t15 HS.out.lt
                  replace HS := Lib.hid (HS.out.next hb)
                  replace HT13 := Lib.hid (HT13.out.next hb)
                  have HW : Hid (w116.alloc (.cells #[.int .i64 (t15.kind : Nat), .string (Lx.str t15.text), .int .i64 (t15.n : Nat), .int .i64 (t15.at_ : Nat)] 60) = W117) := hW.symm
                  have HN := Lib.hid hn
                  clear hb hW hn
                  go_upto_region 20 with fail
                  rw [HW.out, ← HN.out]
                  clear HW HN
                  obtain ⟨c3, e0⟩ := HS.out.rx.err_no
                  have HSQ : Hid (∀ q, Fc.CS R s.size (.slice lva L.length lvc) L B2 gC gS n w (.slice a n c) (.error z) v (W117.drewN q)) := fun q => HS.out.next (Joins.below_draws _ _ q)
                  have c3q : ∀ q, (W117.drewN q).cell? ⟨R, 3, none⟩ = some (.int .i64 (z.1 : Nat)) := fun q => (HSQ.out q).rx.err_no.1
                  go_wp2_with fail
                  go_quiet (fail)
                  go_wp2_with fail
                  replace HS := Lib.hid (HSQ.out nq)
                  clear HSQ c3q c3 e0
                  have HG0 : Hid (∀ r, (Except.error z : Except (Nat × Nat) (List Lx.Tok)) = .ok r → Fc.Goods r) := fun r h => by cases h
                  have HPZ : Hid (Q = Fc.contC s.size d L (.error z) v) := by show Q = _; rw [HP2.out, HX.out]; rfl
                  go_roundg 0
                  case measure => rw [← HKK.out]; exact Nat.succ_pos _
                  case rel => exact ⟨.error z, v, rfl, HG0, hvl, HPZ, HS⟩
                | false =>
                  replace HX : Hid (X = (Fc.want 3 [61] s.size l2).bind fun q => (Fc.want 2 [] s.size q.2).bind (Fc.range1 f i v)) := HX.out.trans (Fc.named_go hw1.out hxi hsv hf)
                  rw [hsv] at hsc
                  have HFI := Lib.hid hf
                  clear hsv hxi hf hw1
                  go_wp2_with fail
                  clear c3 hsc
                  cases hw2 : Fc.want 3 [61] s.size l2 with
                  | error z =>
                    replace HX : Hid (X = .error z) := by rw [HX.out, hw2]; rfl
                    refine (take_no R s.size (.slice lva L.length lvc) L _ 3 ⟨#[61]⟩ _ HS.out.rx HFL.out hw2).mono ?_
                    rintro en118 w118 ⟨rfl, hrx, hrd⟩
                    replace HS := Lib.hid (HS.out.aft hrx hrd)
                    replace HT13 := Lib.hid (HT13.out.aft hrd HC.out)
                    clear hrx hrd
                    clear hw2
                    go_wp2_with fail
                    refine (take_err R s.size (.slice lva L.length lvc) L z 2 ⟨#[]⟩ _ HS.out.rx HFL.out).mono ?_
                    rintro en119 w119 ⟨rfl, hrx, hrd⟩
                    replace HS := Lib.hid (HS.out.aft hrx hrd)
                    replace HT13 := Lib.hid (HT13.out.aft hrd HC.out)
                    clear hrx hrd
                    obtain ⟨t15, ht⟩ : ∃ t, t = Fc.zt := ⟨_, rfl⟩
                    rw [← ht]
                    clear ht
                    obtain ⟨W120, hW⟩ : ∃ W, W = w119.alloc (.cells #[.int .i64 (t15.kind : Nat), .string (Lx.str t15.text), .int .i64 (t15.n : Nat), .int .i64 (t15.at_ : Nat)] 60) := ⟨_, rfl⟩
                    obtain ⟨n15, hn⟩ : ∃ n, n = w119.heap.size := ⟨_, rfl⟩
                    have hb : Below w119.heap.size w119 W120 := by rw [hW]; exact (Below.refl _ _).alloc (Nat.le_refl _) _
                    have HT15 : Hid (Fc.TokB gS n15 t15 W120) := by rw [hW, hn]; exact Fc.TokB.new t15 HS.out.lt
                    replace HS := Lib.hid (HS.out.next hb)
                    replace HT13 := Lib.hid (HT13.out.next hb)
                    have HW : Hid (w119.alloc (.cells #[.int .i64 (t15.kind : Nat), .string (Lx.str t15.text), .int .i64 (t15.n : Nat), .int .i64 (t15.at_ : Nat)] 60) = W120) := hW.symm
                    have HN := Lib.hid hn
                    clear hb hW hn
                    go_upto_region 20 with fail
                    rw [HW.out, ← HN.out]
                    clear HW HN
                    obtain ⟨c3, e0⟩ := HS.out.rx.err_no
                    have HSQ : Hid (∀ q, Fc.CS R s.size (.slice lva L.length lvc) L B2 gC gS n w (.slice a n c) (.error z) v (W120.drewN q)) := fun q => HS.out.next (Joins.below_draws _ _ q)
                    have c3q : ∀ q, (W120.drewN q).cell? ⟨R, 3, none⟩ = some (.int .i64 (z.1 : Nat)) := fun q => (HSQ.out q).rx.err_no.1
                    go_wp2_with fail
                    go_quiet (fail)
                    go_wp2_with fail
                    replace HS := Lib.hid (HSQ.out nq)
                    clear HSQ c3q c3 e0
                    have HG0 : Hid (∀ r, (Except.error z : Except (Nat × Nat) (List Lx.Tok)) = .ok r → Fc.Goods r) := fun r h => by cases h
                    have HPZ : Hid (Q = Fc.contC s.size d L (.error z) v) := by show Q = _; rw [HP2.out, HX.out]; rfl
                    go_roundg 0
                    case measure => rw [← HKK.out]; exact Nat.succ_pos _
                    case rel => exact ⟨.error z, v, rfl, HG0, hvl, HPZ, HS⟩
                  | ok y =>
                    obtain ⟨y1, l3⟩ := y
                    replace HX : Hid (X = (Fc.want 2 [] s.size l3).bind (Fc.range1 f i v)) := by rw [HX.out, hw2]; rfl
                    refine (take_ok R s.size (.slice lva L.length lvc) L _ 3 ⟨#[61]⟩ _ HS.out.rx HFL.out hw2).mono ?_
                    rintro en121 w121 ⟨rfl, hrx, hrd⟩
                    replace HS := Lib.hid (HS.out.aft hrx hrd)
                    replace HT13 := Lib.hid (HT13.out.aft hrd HC.out)
                    clear hrx hrd
                    clear hw2
                    go_wp2_with fail
                    cases hw3 : Fc.want 2 [] s.size l3 with
                    | error z =>
                      replace HX : Hid (X = .error z) := by rw [HX.out, hw3]; rfl
                      refine (take_no R s.size (.slice lva L.length lvc) L _ 2 ⟨#[]⟩ _ HS.out.rx HFL.out hw3).mono ?_
                      rintro en122 w122 ⟨rfl, hrx, hrd⟩
                      replace HS := Lib.hid (HS.out.aft hrx hrd)
                      replace HT13 := Lib.hid (HT13.out.aft hrd HC.out)
                      clear hrx hrd
                      clear hw3
                      obtain ⟨t15, ht⟩ : ∃ t, t = Fc.zt := ⟨_, rfl⟩
                      rw [← ht]
                      clear ht
                      obtain ⟨W123, hW⟩ : ∃ W, W = w122.alloc (.cells #[.int .i64 (t15.kind : Nat), .string (Lx.str t15.text), .int .i64 (t15.n : Nat), .int .i64 (t15.at_ : Nat)] 60) := ⟨_, rfl⟩
                      obtain ⟨n15, hn⟩ : ∃ n, n = w122.heap.size := ⟨_, rfl⟩
                      have hb : Below w122.heap.size w122 W123 := by rw [hW]; exact (Below.refl _ _).alloc (Nat.le_refl _) _
                      have HT15 : Hid (Fc.TokB gS n15 t15 W123) := by rw [hW, hn]; exact Fc.TokB.new t15 HS.out.lt
                      replace HS := Lib.hid (HS.out.next hb)
                      replace HT13 := Lib.hid (HT13.out.next hb)
                      have HW : Hid (w122.alloc (.cells #[.int .i64 (t15.kind : Nat), .string (Lx.str t15.text), .int .i64 (t15.n : Nat), .int .i64 (t15.at_ : Nat)] 60) = W123) := hW.symm
                      have HN := Lib.hid hn
                      clear hb hW hn
                      go_upto_region 20 with fail
                      rw [HW.out, ← HN.out]
                      clear HW HN
                      obtain ⟨c3, e0⟩ := HS.out.rx.err_no
                      have HSQ : Hid (∀ q, Fc.CS R s.size (.slice lva L.length lvc) L B2 gC gS n w (.slice a n c) (.error z) v (W123.drewN q)) := fun q => HS.out.next (Joins.below_draws _ _ q)
                      have c3q : ∀ q, (W123.drewN q).cell? ⟨R, 3, none⟩ = some (.int .i64 (z.1 : Nat)) := fun q => (HSQ.out q).rx.err_no.1
                      go_wp2_with fail
                      go_quiet (fail)
                      go_wp2_with fail
                      replace HS := Lib.hid (HSQ.out nq)
                      clear HSQ c3q c3 e0
                      have HG0 : Hid (∀ r, (Except.error z : Except (Nat × Nat) (List Lx.Tok)) = .ok r → Fc.Goods r) := fun r h => by cases h
                      have HPZ : Hid (Q = Fc.contC s.size d L (.error z) v) := by show Q = _; rw [HP2.out, HX.out]; rfl
                      go_roundg 0
                      case measure => rw [← HKK.out]; exact Nat.succ_pos _
                      case rel => exact ⟨.error z, v, rfl, HG0, hvl, HPZ, HS⟩
                    | ok y =>
                      obtain ⟨nx, l4⟩ := y
                      replace HX : Hid (X = Fc.range1 f i v (nx, l4)) := by rw [HX.out, hw3]; rfl
                      refine (take_ok R s.size (.slice lva L.length lvc) L _ 2 ⟨#[]⟩ _ HS.out.rx HFL.out hw3).mono ?_
                      rintro en124 w124 ⟨rfl, hrx, hrd⟩
                      replace HS := Lib.hid (HS.out.aft hrx hrd)
                      replace HT13 := Lib.hid (HT13.out.aft hrd HC.out)
                      clear hrx hrd
                      clear hw3
                      obtain ⟨W125, hW⟩ : ∃ W, W = w124.alloc (.cells #[.int .i64 (nx.kind : Nat), .string (Lx.str nx.text), .int .i64 (nx.n : Nat), .int .i64 (nx.at_ : Nat)] 60) := ⟨_, rfl⟩
                      obtain ⟨n15, hn⟩ : ∃ n, n = w124.heap.size := ⟨_, rfl⟩
                      have hb : Below w124.heap.size w124 W125 := by rw [hW]; exact (Below.refl _ _).alloc (Nat.le_refl _) _
                      have HT15 : Hid (Fc.TokB gS n15 nx W125) := by rw [hW, hn]; exact Fc.TokB.new nx HS.out.lt
                      replace HS := Lib.hid (HS.out.next hb)
                      replace HT13 := Lib.hid (HT13.out.next hb)
                      have HW : Hid (w124.alloc (.cells #[.int .i64 (nx.kind : Nat), .string (Lx.str nx.text), .int .i64 (nx.n : Nat), .int .i64 (nx.at_ : Nat)] 60) = W125) := hW.symm
                      have HN := Lib.hid hn
                      clear hb hW hn
                      go_upto_region 20 with fail
                      rw [HW.out, ← HN.out]
                      clear HW HN
                      have c3 := HS.out.rx.err_ok
                      have s15 := HT15.out.num
                      have b2 := Joins.cell_of_block HS.out.b2 0
                      obtain ⟨ra, rc, g, o, hsl, -, -, hga, hcl⟩ := (HF.out.below HS.out.bl).any
                      obtain ⟨rfl, hgl⟩ := hga (by rintro rfl; have := HFI.out; simp at this)
                      injection hsl with hs1 hs2 hs3
                      subst hs1
                      clear hs2 hs3 hga
                      obtain ⟨-, -, p2, p3⟩ := hcl i f HFI.out
                      clear hcl
                      obtain ⟨lo, hlo⟩ : ∃ x, x = f.lo := ⟨_, rfl⟩
                      obtain ⟨hi, hhi⟩ : ∃ x, x = f.hi := ⟨_, rfl⟩
                      rw [← hlo] at p2
                      rw [← hhi] at p3
                      have HSQ : Hid (∀ q, Fc.CS R s.size (.slice lva L.length lvc) L B2 gC gS n w (.slice (some ⟨g, o, none⟩) n c) (.ok l4) v (W125.drewN q)) := fun q => HS.out.next (Joins.below_draws _ _ q)
                      have HTQ : Hid (∀ q, Fc.TokB gS n15 nx (W125.drewN q)) := fun q => HT15.out.next (Joins.below_draws _ _ q)
                      have HLH := Lib.hid (And.intro hlo hhi)
                      clear hlo hhi
                      by_cases h1 : (nx.n : Int) < lo
                      · have q1 : decide ((nx.n : Int) < lo) = true := decide_eq_true h1
                        replace HX : Hid (X = .error (10, nx.at_)) := HX.out.trans (Fc.range1_no (by rw [← HLH.out.1]; omega))
                        have c3q : ∀ q, (W125.drewN q).cell? ⟨R, 3, none⟩ = some (.int .i64 0) := fun q => (HSQ.out q).rx.err_ok
                        have sq : ∀ q, (W125.drewN q).cell? ⟨n15, 3, none⟩ = some (.int .i64 (nx.at_ : Nat)) := fun q => (HTQ.out q).at'
                        go_wp2_with fail
                        go_quiet (fail)
                        clear c3 s15 b2 p2 p3
                        go_wp2_with fail
                        replace HS := Lib.hid (HSQ.out nq)
                        clear HSQ HTQ c3q sq HT13 HT15
                        refine (fault_ok R s.size (.slice lva L.length lvc) L _ 10 nx.at_ (by decide) _ HS.out.rx).mono ?_
                        rintro en126 w126 ⟨rfl, hrx, hrd⟩
                        replace HS := Lib.hid (HS.out.aft hrx hrd)
                        clear hrx hrd
                        obtain ⟨z, hz⟩ : ∃ z : Nat × Nat, z = (10, nx.at_) := ⟨_, rfl⟩
                        rw [← hz] at HS HX
                        clear hz
                        obtain ⟨c3, e0⟩ := HS.out.rx.err_no
                        go_wp2_with fail
                        clear c3 e0
                        have HG0 : Hid (∀ r, (Except.error z : Except (Nat × Nat) (List Lx.Tok)) = .ok r → Fc.Goods r) := fun r h => by cases h
                        have HPZ : Hid (Q = Fc.contC s.size d L (.error z) v) := by show Q = _; rw [HP2.out, HX.out]; rfl
                        go_roundg 0
                        case measure => rw [← HKK.out]; exact Nat.succ_pos _
                        case rel => exact ⟨.error z, v, rfl, HG0, hvl, HPZ, HS⟩
                      have q1 : decide ((nx.n : Int) < lo) = false := decide_eq_false h1
                      by_cases h2 : hi < (nx.n : Int)
                      · have q2 : decide (hi < (nx.n : Int)) = true := decide_eq_true h2
                        replace HX : Hid (X = .error (10, nx.at_)) := HX.out.trans (Fc.range1_no (by rw [← HLH.out.2]; omega))
                        have c3q : ∀ q, (W125.drewN q).cell? ⟨R, 3, none⟩ = some (.int .i64 0) := fun q => (HSQ.out q).rx.err_ok
                        have sq : ∀ q, (W125.drewN q).cell? ⟨n15, 3, none⟩ = some (.int .i64 (nx.at_ : Nat)) := fun q => (HTQ.out q).at'
                        go_wp2_with fail
                        go_quiet (fail)
                        clear c3 s15 b2 p2 p3
                        go_wp2_with fail
                        replace HS := Lib.hid (HSQ.out nq)
                        clear HSQ HTQ c3q sq HT13 HT15
                        refine (fault_ok R s.size (.slice lva L.length lvc) L _ 10 nx.at_ (by decide) _ HS.out.rx).mono ?_
                        rintro en127 w127 ⟨rfl, hrx, hrd⟩
                        replace HS := Lib.hid (HS.out.aft hrx hrd)
                        clear hrx hrd
                        obtain ⟨z, hz⟩ : ∃ z : Nat × Nat, z = (10, nx.at_) := ⟨_, rfl⟩
                        rw [← hz] at HS HX
                        clear hz
                        obtain ⟨c3, e0⟩ := HS.out.rx.err_no
                        go_wp2_with fail
                        clear c3 e0
                        have HG0 : Hid (∀ r, (Except.error z : Except (Nat × Nat) (List Lx.Tok)) = .ok r → Fc.Goods r) := fun r h => by cases h
                        have HPZ : Hid (Q = Fc.contC s.size d L (.error z) v) := by show Q = _; rw [HP2.out, HX.out]; rfl
                        go_roundg 0
                        case measure => rw [← HKK.out]; exact Nat.succ_pos _
                        case rel => exact ⟨.error z, v, rfl, HG0, hvl, HPZ, HS⟩
                      have q2 : decide (hi < (nx.n : Int)) = false := decide_eq_false h2
                      replace HX : Hid (X = .ok (v.set i (some (nx.n : Int)), l4)) := HX.out.trans (Fc.range1_yes (by rw [← HLH.out.1, ← HLH.out.2]; omega))
                      have c3q : ∀ q, (W125.drewN q).cell? ⟨R, 3, none⟩ = some (.int .i64 0) := fun q => (HSQ.out q).rx.err_ok
                      have sq : ∀ q, (W125.drewN q).cell? ⟨n15, 2, none⟩ = some (.int .i64 (nx.n : Nat)) := fun q => (HTQ.out q).num
                      obtain ⟨yv, hyv⟩ : ∃ x, (Fc.valsOf v)[i]? = some x := ⟨_, List.getElem?_eq_getElem (by rw [HS.out.oc.1]; exact hin)⟩
                      have oq : ∀ q, (W125.drewN q).cell? ⟨gC, i, none⟩ = some (.int .i64 yv) := fun q => (HSQ.out q).oc.cell hyv
                      have uq : ∀ q, (W125.drewN q).frozen? ⟨gC, i, none⟩ = false := fun q => (HSQ.out q).oc.frozen i
                      have hsc := Fc.seenOf_get (v := v) (i := i) (by rw [hvl]; exact hin)
                      have oq2 : ∀ q, ((W125.drewN q).setCell ⟨gC, i, none⟩ (.int .i64 (nx.n : Nat))).cell? ⟨gS, i, none⟩ = some (.bool (v.getD i none).isSome) := fun q => ((HSQ.out q).cellS i i _).trans ((HSQ.out q).os.cell hsc)
                      have uq2 : ∀ q, ((W125.drewN q).setCell ⟨gC, i, none⟩ (.int .i64 (nx.n : Nat))).frozen? ⟨gS, i, none⟩ = false := fun q => (HSQ.out q).frozen i _
                      go_wp2_with fail
                      go_quiet (fail)
                      clear c3 s15 b2 p2 p3
                      go_wp2_with fail
                      replace HS := Lib.hid ((HSQ.out nq).store i (nx.n : Int))
                      clear HSQ HTQ c3q sq HT13 HT15 oq uq oq2 uq2
                      obtain ⟨y1, y2, y3⟩ := Fc.value1_ok HGD2.out (HX1.out.symm.trans HX.out)
                      dsimp only at y1 y2 y3
                      have y4 : l4.length < L.length := by have := HTL.out; omega
                      have HPZ : Hid (Q = Fc.contC s.size d L (.ok l4) (v.set i (some (nx.n : Int)))) := by show Q = (Fc.restV s.size d (decide (l4.length = L.length)) _ l4).bind _; rw [HP2.out, HX.out, decide_eq_false (by omega)]; rfl
                      go_roundg (l4.length + 1)
                      case measure => rw [← HKK.out]; show l4.length + 1 < (t :: r).length + 1; omega
                      case rel =>
                        have HG0 : Hid (∀ r, (Except.ok l4 : Except (Nat × Nat) (List Lx.Tok)) = .ok r → Fc.Goods r) := fun r h => by cases h; exact y1
                        exact ⟨.ok l4, v.set i (some (nx.n : Int)), rfl, HG0, by rw [List.length_set]; exact hvl, HPZ, HS⟩
          · have hi0 : (0 : Int) < (i : Int) := by omega
            have hi2 : decide (0 < i) = true := decide_eq_true (by omega)
            have hli : (i : Int) < (L.length : Int) := by omega
            have hln : decide (i < L.length) = true := decide_eq_true hlt
            replace HX : Hid (X = (Fc.want 3 [44] s.size (t :: r)).bind fun z => Fc.named s.size d v z.2) := by
              show X = _
              rw [HX.out, decide_eq_false (by rw [List.length_cons]; omega)]; exact Fc.value1_more _ _ _ _
            clear hri hlen hi hlt h0
            go_wp2_with fail
            clear c3 c1 hli hln hi0 hi2
            cases hw0 : Fc.want 3 [44] s.size (t :: r) with
            | error z =>
              replace HX : Hid (X = .error z) := by rw [HX.out, hw0]; rfl
              refine (take_no R s.size (.slice lva L.length lvc) L _ 3 ⟨#[44]⟩ _ HS.out.rx HFL.out hw0).mono ?_
              rintro en128 w128 ⟨rfl, hrx, hrd⟩
              replace HS := Lib.hid (HS.out.aft hrx hrd)
              clear hrx hrd
              clear hw0
              go_wp2_with fail
              refine (take_err R s.size (.slice lva L.length lvc) L z 1 ⟨#[]⟩ _ HS.out.rx HFL.out).mono ?_
              rintro en129 w129 ⟨rfl, hrx, hrd⟩
              replace HS := Lib.hid (HS.out.aft hrx hrd)
              clear hrx hrd
              obtain ⟨t13, ht⟩ : ∃ t, t = Fc.zt := ⟨_, rfl⟩
              rw [← ht]
              clear ht
              obtain ⟨W130, hW⟩ : ∃ W, W = w129.alloc (.cells #[.int .i64 (t13.kind : Nat), .string (Lx.str t13.text), .int .i64 (t13.n : Nat), .int .i64 (t13.at_ : Nat)] 60) := ⟨_, rfl⟩
              obtain ⟨n13, hn⟩ : ∃ n, n = w129.heap.size := ⟨_, rfl⟩
              have hb : Below w129.heap.size w129 W130 := by rw [hW]; exact (Below.refl _ _).alloc (Nat.le_refl _) _
              have HT13 : Hid (Fc.TokB gS n13 t13 W130) := by rw [hW, hn]; exact Fc.TokB.new t13 HS.out.lt
              replace HS := Lib.hid (HS.out.next hb)
              have HW : Hid (w129.alloc (.cells #[.int .i64 (t13.kind : Nat), .string (Lx.str t13.text), .int .i64 (t13.n : Nat), .int .i64 (t13.at_ : Nat)] 60) = W130) := hW.symm
              have HN := Lib.hid hn
              clear hb hW hn
              go_upto_region 13 with fail
              rw [HW.out, ← HN.out]
              clear HW HN
              have b2 := Joins.cell_of_block HS.out.b2 0
              have s13 := HT13.out.text
              go_wp2_with fail
              clear b2 s13
              obtain ⟨zz, hzz⟩ : ∃ z, z = Fc.idx d t13.text := ⟨_, rfl⟩
              have hix := refindex_walk (.slice a n c) d (Lx.str t13.text) W130 (HF.out.below HS.out.bl)
              rw [Lx.tx_str, ← hzz] at hix
              refine hix.mono ?_
              rintro en131 w131 ⟨rfl, hb⟩
              replace HS := Lib.hid (HS.out.next hb)
              replace HT13 := Lib.hid (HT13.out.next hb)
              clear hb hix
              clear hzz
              obtain ⟨c3, e0⟩ := HS.out.rx.err_no
              go_wp2_with fail
              clear c3 e0
              refine (take_err R s.size (.slice lva L.length lvc) L z 3 ⟨#[61]⟩ _ HS.out.rx HFL.out).mono ?_
              rintro en132 w132 ⟨rfl, hrx, hrd⟩
              replace HS := Lib.hid (HS.out.aft hrx hrd)
              replace HT13 := Lib.hid (HT13.out.aft hrd HC.out)
              clear hrx hrd
              go_wp2_with fail
              refine (take_err R s.size (.slice lva L.length lvc) L z 2 ⟨#[]⟩ _ HS.out.rx HFL.out).mono ?_
              rintro en133 w133 ⟨rfl, hrx, hrd⟩
              replace HS := Lib.hid (HS.out.aft hrx hrd)
              replace HT13 := Lib.hid (HT13.out.aft hrd HC.out)
              clear hrx hrd
              obtain ⟨t15, ht⟩ : ∃ t, t = Fc.zt := ⟨_, rfl⟩
              rw [← ht]
              clear ht
              obtain ⟨W134, hW⟩ : ∃ W, W = w133.alloc (.cells #[.int .i64 (t15.kind : Nat), .string (Lx.str t15.text), .int .i64 (t15.n : Nat), .int .i64 (t15.at_ : Nat)] 60) := ⟨_, rfl⟩
              obtain ⟨n15, hn⟩ : ∃ n, n = w133.heap.size := ⟨_, rfl⟩
              have hb : Below w133.heap.size w133 W134 := by rw [hW]; exact (Below.refl _ _).alloc (Nat.le_refl _) _
              have HT15 : Hid (Fc.TokB gS n15 t15 W134) := by rw [hW, hn]; exact Fc.TokB.new t15 HS.out.lt
              replace HS := Lib.hid (HS.out.next hb)
              replace HT13 := Lib.hid (HT13.out.next hb)
              have HW : Hid (w133.alloc (.cells #[.int .i64 (t15.kind : Nat), .string (Lx.str t15.text), .int .i64 (t15.n : Nat), .int .i64 (t15.at_ : Nat)] 60) = W134) := hW.symm
              have HN := Lib.hid hn
              clear hb hW hn
              go_upto_region 20 with fail
              rw [HW.out, ← HN.out]
              clear HW HN
              obtain ⟨c3, e0⟩ := HS.out.rx.err_no
              have HSQ : Hid (∀ q, Fc.CS R s.size (.slice lva L.length lvc) L B2 gC gS n w (.slice a n c) (.error z) v (W134.drewN q)) := fun q => HS.out.next (Joins.below_draws _ _ q)
              have c3q : ∀ q, (W134.drewN q).cell? ⟨R, 3, none⟩ = some (.int .i64 (z.1 : Nat)) := fun q => (HSQ.out q).rx.err_no.1
              go_wp2_with fail
              go_quiet (fail)
              go_wp2_with fail
              replace HS := Lib.hid (HSQ.out nq)
              clear HSQ c3q c3 e0
              have HG0 : Hid (∀ r, (Except.error z : Except (Nat × Nat) (List Lx.Tok)) = .ok r → Fc.Goods r) := fun r h => by cases h
              have HPZ : Hid (Q = Fc.contC s.size d L (.error z) v) := by show Q = _; rw [HP2.out, HX.out]; rfl
              go_roundg 0
              case measure => rw [← HKK.out]; exact Nat.succ_pos _
              case rel => exact ⟨.error z, v, rfl, HG0, hvl, HPZ, HS⟩
            | ok y =>
              obtain ⟨y1, l1⟩ := y
              replace HX : Hid (X = Fc.named s.size d v l1) := by rw [HX.out, hw0]; rfl
              refine (take_ok R s.size (.slice lva L.length lvc) L _ 3 ⟨#[44]⟩ _ HS.out.rx HFL.out hw0).mono ?_
              rintro en135 w135 ⟨rfl, hrx, hrd⟩
              replace HS := Lib.hid (HS.out.aft hrx hrd)
              clear hrx hrd
              clear hw0
              go_wp2_with fail
              cases hw1 : Fc.want 1 [] s.size l1 with
              | error z =>
                replace HX : Hid (X = .error z) := HX.out.trans (Fc.named_no hw1)
                refine (take_no R s.size (.slice lva L.length lvc) L _ 1 ⟨#[]⟩ _ HS.out.rx HFL.out hw1).mono ?_
                rintro en136 w136 ⟨rfl, hrx, hrd⟩
                replace HS := Lib.hid (HS.out.aft hrx hrd)
                clear hrx hrd
                clear hw1
                obtain ⟨t13, ht⟩ : ∃ t, t = Fc.zt := ⟨_, rfl⟩
                rw [← ht]
                clear ht
                obtain ⟨W137, hW⟩ : ∃ W, W = w136.alloc (.cells #[.int .i64 (t13.kind : Nat), .string (Lx.str t13.text), .int .i64 (t13.n : Nat), .int .i64 (t13.at_ : Nat)] 60) := ⟨_, rfl⟩
                obtain ⟨n13, hn⟩ : ∃ n, n = w136.heap.size := ⟨_, rfl⟩
                have hb : Below w136.heap.size w136 W137 := by rw [hW]; exact (Below.refl _ _).alloc (Nat.le_refl _) _
                have HT13 : Hid (Fc.TokB gS n13 t13 W137) := by rw [hW, hn]; exact Fc.TokB.new t13 HS.out.lt
                replace HS := Lib.hid (HS.out.next hb)
                have HW : Hid (w136.alloc (.cells #[.int .i64 (t13.kind : Nat), .string (Lx.str t13.text), .int .i64 (t13.n : Nat), .int .i64 (t13.at_ : Nat)] 60) = W137) := hW.symm
                have HN := Lib.hid hn
                clear hb hW hn
                go_upto_region 13 with fail
                rw [HW.out, ← HN.out]
                clear HW HN
                have b2 := Joins.cell_of_block HS.out.b2 0
                have s13 := HT13.out.text
                go_wp2_with fail
                clear b2 s13
                obtain ⟨zz, hzz⟩ : ∃ z, z = Fc.idx d t13.text := ⟨_, rfl⟩
                have hix := refindex_walk (.slice a n c) d (Lx.str t13.text) W137 (HF.out.below HS.out.bl)
                rw [Lx.tx_str, ← hzz] at hix
                refine hix.mono ?_
                rintro en138 w138 ⟨rfl, hb⟩
                replace HS := Lib.hid (HS.out.next hb)
                replace HT13 := Lib.hid (HT13.out.next hb)
                clear hb hix
                clear hzz
                obtain ⟨c3, e0⟩ := HS.out.rx.err_no
                go_wp2_with fail
                clear c3 e0
                refine (take_err R s.size (.slice lva L.length lvc) L z 3 ⟨#[61]⟩ _ HS.out.rx HFL.out).mono ?_
                rintro en139 w139 ⟨rfl, hrx, hrd⟩
                replace HS := Lib.hid (HS.out.aft hrx hrd)
                replace HT13 := Lib.hid (HT13.out.aft hrd HC.out)
                clear hrx hrd
                go_wp2_with fail
                refine (take_err R s.size (.slice lva L.length lvc) L z 2 ⟨#[]⟩ _ HS.out.rx HFL.out).mono ?_
                rintro en140 w140 ⟨rfl, hrx, hrd⟩
                replace HS := Lib.hid (HS.out.aft hrx hrd)
                replace HT13 := Lib.hid (HT13.out.aft hrd HC.out)
                clear hrx hrd
                obtain ⟨t15, ht⟩ : ∃ t, t = Fc.zt := ⟨_, rfl⟩
                rw [← ht]
                clear ht
                obtain ⟨W141, hW⟩ : ∃ W, W = w140.alloc (.cells #[.int .i64 (t15.kind : Nat), .string (Lx.str t15.text), .int .i64 (t15.n : Nat), .int .i64 (t15.at_ : Nat)] 60) := ⟨_, rfl⟩
                obtain ⟨n15, hn⟩ : ∃ n, n = w140.heap.size := ⟨_, rfl⟩
                have hb : Below w140.heap.size w140 W141 := by rw [hW]; exact (Below.refl _ _).alloc (Nat.le_refl _) _
                have HT15 : Hid (Fc.TokB gS n15 t15 W141) := by rw [hW, hn]; exact Fc.TokB.new t15 HS.out.lt
                replace HS := Lib.hid (HS.out.next hb)
                replace HT13 := Lib.hid (HT13.out.next hb)
                have HW : Hid (w140.alloc (.cells #[.int .i64 (t15.kind : Nat), .string (Lx.str t15.text), .int .i64 (t15.n : Nat), .int .i64 (t15.at_ : Nat)] 60) = W141) := hW.symm
                have HN := Lib.hid hn
                clear hb hW hn
                go_upto_region 20 with fail
                rw [HW.out, ← HN.out]
                clear HW HN
                obtain ⟨c3, e0⟩ := HS.out.rx.err_no
                have HSQ : Hid (∀ q, Fc.CS R s.size (.slice lva L.length lvc) L B2 gC gS n w (.slice a n c) (.error z) v (W141.drewN q)) := fun q => HS.out.next (Joins.below_draws _ _ q)
                have c3q : ∀ q, (W141.drewN q).cell? ⟨R, 3, none⟩ = some (.int .i64 (z.1 : Nat)) := fun q => (HSQ.out q).rx.err_no.1
                go_wp2_with fail
                go_quiet (fail)
                go_wp2_with fail
                replace HS := Lib.hid (HSQ.out nq)
                clear HSQ c3q c3 e0
                have HG0 : Hid (∀ r, (Except.error z : Except (Nat × Nat) (List Lx.Tok)) = .ok r → Fc.Goods r) := fun r h => by cases h
                have HPZ : Hid (Q = Fc.contC s.size d L (.error z) v) := by show Q = _; rw [HP2.out, HX.out]; rfl
                go_roundg 0
                case measure => rw [← HKK.out]; exact Nat.succ_pos _
                case rel => exact ⟨.error z, v, rfl, HG0, hvl, HPZ, HS⟩
              | ok y =>
                obtain ⟨nm, l2⟩ := y
                refine (take_ok R s.size (.slice lva L.length lvc) L _ 1 ⟨#[]⟩ _ HS.out.rx HFL.out hw1).mono ?_
                rintro en142 w142 ⟨rfl, hrx, hrd⟩
                replace HS := Lib.hid (HS.out.aft hrx hrd)
                clear hrx hrd
                replace hw1 := Lib.hid hw1
                obtain ⟨W143, hW⟩ : ∃ W, W = w142.alloc (.cells #[.int .i64 (nm.kind : Nat), .string (Lx.str nm.text), .int .i64 (nm.n : Nat), .int .i64 (nm.at_ : Nat)] 60) := ⟨_, rfl⟩
                obtain ⟨n13, hn⟩ : ∃ n, n = w142.heap.size := ⟨_, rfl⟩
                have hb : Below w142.heap.size w142 W143 := by rw [hW]; exact (Below.refl _ _).alloc (Nat.le_refl _) _
                have HT13 : Hid (Fc.TokB gS n13 nm W143) := by rw [hW, hn]; exact Fc.TokB.new nm HS.out.lt
                replace HS := Lib.hid (HS.out.next hb)
                have HW : Hid (w142.alloc (.cells #[.int .i64 (nm.kind : Nat), .string (Lx.str nm.text), .int .i64 (nm.n : Nat), .int .i64 (nm.at_ : Nat)] 60) = W143) := hW.symm
                have HN := Lib.hid hn
                clear hb hW hn
                go_upto_region 13 with fail
                rw [HW.out, ← HN.out]
                clear HW HN
                have b2 := Joins.cell_of_block HS.out.b2 0
                have s13 := HT13.out.text
                go_wp2_with fail
                clear b2 s13
                obtain ⟨zz, hzz⟩ : ∃ z, z = Fc.idx d nm.text := ⟨_, rfl⟩
                have hix := refindex_walk (.slice a n c) d (Lx.str nm.text) W143 (HF.out.below HS.out.bl)
                rw [Lx.tx_str, ← hzz] at hix
                refine hix.mono ?_
                rintro en144 w144 ⟨rfl, hb⟩
                replace HS := Lib.hid (HS.out.next hb)
                replace HT13 := Lib.hid (HT13.out.next hb)
                clear hb hix
                cases hxi : Fc.index d nm.text with
                | none =>
                  replace HX : Hid (X = .error (7, nm.at_)) := HX.out.trans (Fc.named_none hw1.out hxi)
                  have hz0 : zz < 0 := by rw [hzz, Fc.idx_none hxi]; omega
                  have e1 : decide (zz < 0) = true := decide_eq_true hz0
                  have c3 := HS.out.rx.err_ok
                  have s13 := HT13.out.at'
                  clear hzz hxi hw1
                  go_wp2_with fail
                  clear c3 s13 e1 hz0
                  refine (fault_ok R s.size (.slice lva L.length lvc) L _ 7 nm.at_ (by decide) _ HS.out.rx).mono ?_
                  rintro en145 w145 ⟨rfl, hrx, hrd⟩
                  replace HS := Lib.hid (HS.out.aft hrx hrd)
                  replace HT13 := Lib.hid (HT13.out.aft hrd HC.out)
                  clear hrx hrd
                  obtain ⟨z, hz⟩ : ∃ z : Nat × Nat, z = (7, nm.at_) := ⟨_, rfl⟩
                  rw [← hz] at HS HX
                  clear hz
                  obtain ⟨c3, e0⟩ := HS.out.rx.err_no
                  go_wp2_with fail
                  clear c3 e0
                  refine (take_err R s.size (.slice lva L.length lvc) L z 3 ⟨#[61]⟩ _ HS.out.rx HFL.out).mono ?_
                  rintro en146 w146 ⟨rfl, hrx, hrd⟩
                  replace HS := Lib.hid (HS.out.aft hrx hrd)
                  replace HT13 := Lib.hid (HT13.out.aft hrd HC.out)
                  clear hrx hrd
                  go_wp2_with fail
                  refine (take_err R s.size (.slice lva L.length lvc) L z 2 ⟨#[]⟩ _ HS.out.rx HFL.out).mono ?_
                  rintro en147 w147 ⟨rfl, hrx, hrd⟩
                  replace HS := Lib.hid (HS.out.aft hrx hrd)
                  replace HT13 := Lib.hid (HT13.out.aft hrd HC.out)
                  clear hrx hrd
                  obtain ⟨t15, ht⟩ : ∃ t, t = Fc.zt := ⟨_, rfl⟩
                  rw [← ht]
                  clear ht
                  obtain ⟨W148, hW⟩ : ∃ W, W = w147.alloc (.cells #[.int .i64 (t15.kind : Nat), .string (Lx.str t15.text), .int .i64 (t15.n : Nat), .int .i64 (t15.at_ : Nat)] 60) := ⟨_, rfl⟩
                  obtain ⟨n15, hn⟩ : ∃ n, n = w147.heap.size := ⟨_, rfl⟩
                  have hb : Below w147.heap.size w147 W148 := by rw [hW]; exact (Below.refl _ _).alloc (Nat.le_refl _) _
                  have HT15 : Hid (Fc.TokB gS n15 t15 W148) := by rw [hW, hn]; exact Fc.TokB.new t15 HS.out.lt
                  replace HS := Lib.hid (HS.out.next hb)
                  replace HT13 := Lib.hid (HT13.out.next hb)
                  have HW : Hid (w147.alloc (.cells #[.int .i64 (t15.kind : Nat), .string (Lx.str t15.text), .int .i64 (t15.n : Nat), .int .i64 (t15.at_ : Nat)] 60) = W148) := hW.symm
                  have HN := Lib.hid hn
                  clear hb hW hn
                  go_upto_region 20 with fail
                  rw [HW.out, ← HN.out]
                  clear HW HN
                  obtain ⟨c3, e0⟩ := HS.out.rx.err_no
                  have HSQ : Hid (∀ q, Fc.CS R s.size (.slice lva L.length lvc) L B2 gC gS n w (.slice a n c) (.error z) v (W148.drewN q)) := fun q => HS.out.next (Joins.below_draws _ _ q)
                  have c3q : ∀ q, (W148.drewN q).cell? ⟨R, 3, none⟩ = some (.int .i64 (z.1 : Nat)) := fun q => (HSQ.out q).rx.err_no.1
                  go_wp2_with fail
                  go_quiet (fail)
                  go_wp2_with fail
                  replace HS := Lib.hid (HSQ.out nq)
                  clear HSQ c3q c3 e0
                  have HG0 : Hid (∀ r, (Except.error z : Except (Nat × Nat) (List Lx.Tok)) = .ok r → Fc.Goods r) := fun r h => by cases h
                  have HPZ : Hid (Q = Fc.contC s.size d L (.error z) v) := by show Q = _; rw [HP2.out, HX.out]; rfl
                  go_roundg 0
                  case measure => rw [← HKK.out]; exact Nat.succ_pos _
                  case rel => exact ⟨.error z, v, rfl, HG0, hvl, HPZ, HS⟩
                | some i =>
                  obtain ⟨f, hf, -⟩ := Fc.index_some_iff.1 hxi
                  have hin : i < n := by rw [HND.out]; exact (List.getElem?_eq_some_iff.1 hf).1
                  rw [Fc.idx_some hxi] at hzz
                  subst hzz
                  have hi0 : (0 : Int) ≤ (i : Int) := by omega
                  have hii : (i : Int) < (n : Int) := by omega
                  have hi1 : ¬ (i : Int) < 0 := by omega
                  have e1 : decide ((i : Int) < 0) = false := decide_eq_false hi1
                  have c3 := HS.out.rx.err_ok
                  have hsc := HS.out.os.cell (Fc.seenOf_get (v := v) (i := i) (by rw [hvl]; exact hin))
                  cases hsv : (v.getD i none).isSome with
                  | true =>
                    replace HX : Hid (X = .error (9, nm.at_)) := HX.out.trans (Fc.named_seen hw1.out hxi hsv)
                    rw [hsv] at hsc
                    have s13 := HT13.out.at'
                    clear hsv hxi hf hw1
                    go_wp2_with fail
                    clear c3 hsc s13
                    refine (fault_ok R s.size (.slice lva L.length lvc) L _ 9 nm.at_ (by decide) _ HS.out.rx).mono ?_
                    rintro en149 w149 ⟨rfl, hrx, hrd⟩
                    replace HS := Lib.hid (HS.out.aft hrx hrd)
                    replace HT13 := Lib.hid (HT13.out.aft hrd HC.out)
                    clear hrx hrd
                    obtain ⟨z, hz⟩ : ∃ z : Nat × Nat, z = (9, nm.at_) := ⟨_, rfl⟩
                    rw [← hz] at HS HX
                    clear hz
                    obtain ⟨c3, e0⟩ := HS.out.rx.err_no
                    go_wp2_with fail
                    clear c3 e0
                    refine (take_err R s.size (.slice lva L.length lvc) L z 3 ⟨#[61]⟩ _ HS.out.rx HFL.out).mono ?_
                    rintro en150 w150 ⟨rfl, hrx, hrd⟩
                    replace HS := Lib.hid (HS.out.aft hrx hrd)
                    replace HT13 := Lib.hid (HT13.out.aft hrd HC.out)
                    clear hrx hrd
                    go_wp2_with fail
                    refine (take_err R s.size (.slice lva L.length lvc) L z 2 ⟨#[]⟩ _ HS.out.rx HFL.out).mono ?_
                    rintro en151 w151 ⟨rfl, hrx, hrd⟩
                    replace HS := Lib.hid (HS.out.aft hrx hrd)
                    replace HT13 := Lib.hid (HT13.out.aft hrd HC.out)
                    clear hrx hrd
                    obtain ⟨t15, ht⟩ : ∃ t, t = Fc.zt := ⟨_, rfl⟩
                    rw [← ht]
                    clear ht
                    obtain ⟨W152, hW⟩ : ∃ W, W = w151.alloc (.cells #[.int .i64 (t15.kind : Nat), .string (Lx.str t15.text), .int .i64 (t15.n : Nat), .int .i64 (t15.at_ : Nat)] 60) := ⟨_, rfl⟩
                    obtain ⟨n15, hn⟩ : ∃ n, n = w151.heap.size := ⟨_, rfl⟩
                    have hb : Below w151.heap.size w151 W152 := by rw [hW]; exact (Below.refl _ _).alloc (Nat.le_refl _) _
                    have HT15 : Hid (Fc.TokB gS n15 t15 W152) := by rw [hW, hn]; exact Fc.TokB.new t15 HS.out.lt
                    replace HS := Lib.hid (HS.out.next hb)
                    replace HT13 := Lib.hid (HT13.out.next hb)
                    have HW : Hid (w151.alloc (.cells #[.int .i64 (t15.kind : Nat), .string (Lx.str t15.text), .int .i64 (t15.n : Nat), .int .i64 (t15.at_ : Nat)] 60) = W152) := hW.symm
                    have HN := Lib.hid hn
                    clear hb hW hn
                    go_upto_region 20 with fail
                    rw [HW.out, ← HN.out]
                    clear HW HN
                    obtain ⟨c3, e0⟩ := HS.out.rx.err_no
                    have HSQ : Hid (∀ q, Fc.CS R s.size (.slice lva L.length lvc) L B2 gC gS n w (.slice a n c) (.error z) v (W152.drewN q)) := fun q => HS.out.next (Joins.below_draws _ _ q)
                    have c3q : ∀ q, (W152.drewN q).cell? ⟨R, 3, none⟩ = some (.int .i64 (z.1 : Nat)) := fun q => (HSQ.out q).rx.err_no.1
                    go_wp2_with fail
                    go_quiet (fail)
                    go_wp2_with fail
                    replace HS := Lib.hid (HSQ.out nq)
                    clear HSQ c3q c3 e0
                    have HG0 : Hid (∀ r, (Except.error z : Except (Nat × Nat) (List Lx.Tok)) = .ok r → Fc.Goods r) := fun r h => by cases h
                    have HPZ : Hid (Q = Fc.contC s.size d L (.error z) v) := by show Q = _; rw [HP2.out, HX.out]; rfl
                    go_roundg 0
                    case measure => rw [← HKK.out]; exact Nat.succ_pos _
                    case rel => exact ⟨.error z, v, rfl, HG0, hvl, HPZ, HS⟩
                  | false =>
                    replace HX : Hid (X = (Fc.want 3 [61] s.size l2).bind fun q => (Fc.want 2 [] s.size q.2).bind (Fc.range1 f i v)) := HX.out.trans (Fc.named_go hw1.out hxi hsv hf)
                    rw [hsv] at hsc
                    have HFI := Lib.hid hf
                    clear hsv hxi hf hw1
                    go_wp2_with fail
                    clear c3 hsc
                    cases hw2 : Fc.want 3 [61] s.size l2 with
                    | error z =>
                      replace HX : Hid (X = .error z) := by rw [HX.out, hw2]; rfl
                      refine (take_no R s.size (.slice lva L.length lvc) L _ 3 ⟨#[61]⟩ _ HS.out.rx HFL.out hw2).mono ?_
                      rintro en153 w153 ⟨rfl, hrx, hrd⟩
                      replace HS := Lib.hid (HS.out.aft hrx hrd)
                      replace HT13 := Lib.hid (HT13.out.aft hrd HC.out)
                      clear hrx hrd
                      clear hw2
                      go_wp2_with fail
                      refine (take_err R s.size (.slice lva L.length lvc) L z 2 ⟨#[]⟩ _ HS.out.rx HFL.out).mono ?_
                      rintro en154 w154 ⟨rfl, hrx, hrd⟩
                      replace HS := Lib.hid (HS.out.aft hrx hrd)
                      replace HT13 := Lib.hid (HT13.out.aft hrd HC.out)
                      clear hrx hrd
                      obtain ⟨t15, ht⟩ : ∃ t, t = Fc.zt := ⟨_, rfl⟩
                      rw [← ht]
                      clear ht
                      obtain ⟨W155, hW⟩ : ∃ W, W = w154.alloc (.cells #[.int .i64 (t15.kind : Nat), .string (Lx.str t15.text), .int .i64 (t15.n : Nat), .int .i64 (t15.at_ : Nat)] 60) := ⟨_, rfl⟩
                      obtain ⟨n15, hn⟩ : ∃ n, n = w154.heap.size := ⟨_, rfl⟩
                      have hb : Below w154.heap.size w154 W155 := by rw [hW]; exact (Below.refl _ _).alloc (Nat.le_refl _) _
                      have HT15 : Hid (Fc.TokB gS n15 t15 W155) := by rw [hW, hn]; exact Fc.TokB.new t15 HS.out.lt
                      replace HS := Lib.hid (HS.out.next hb)
                      replace HT13 := Lib.hid (HT13.out.next hb)
                      have HW : Hid (w154.alloc (.cells #[.int .i64 (t15.kind : Nat), .string (Lx.str t15.text), .int .i64 (t15.n : Nat), .int .i64 (t15.at_ : Nat)] 60) = W155) := hW.symm
                      have HN := Lib.hid hn
                      clear hb hW hn
                      go_upto_region 20 with fail
                      rw [HW.out, ← HN.out]
                      clear HW HN
                      obtain ⟨c3, e0⟩ := HS.out.rx.err_no
                      have HSQ : Hid (∀ q, Fc.CS R s.size (.slice lva L.length lvc) L B2 gC gS n w (.slice a n c) (.error z) v (W155.drewN q)) := fun q => HS.out.next (Joins.below_draws _ _ q)
                      have c3q : ∀ q, (W155.drewN q).cell? ⟨R, 3, none⟩ = some (.int .i64 (z.1 : Nat)) := fun q => (HSQ.out q).rx.err_no.1
                      go_wp2_with fail
                      go_quiet (fail)
                      go_wp2_with fail
                      replace HS := Lib.hid (HSQ.out nq)
                      clear HSQ c3q c3 e0
                      have HG0 : Hid (∀ r, (Except.error z : Except (Nat × Nat) (List Lx.Tok)) = .ok r → Fc.Goods r) := fun r h => by cases h
                      have HPZ : Hid (Q = Fc.contC s.size d L (.error z) v) := by show Q = _; rw [HP2.out, HX.out]; rfl
                      go_roundg 0
                      case measure => rw [← HKK.out]; exact Nat.succ_pos _
                      case rel => exact ⟨.error z, v, rfl, HG0, hvl, HPZ, HS⟩
                    | ok y =>
                      obtain ⟨y1, l3⟩ := y
                      replace HX : Hid (X = (Fc.want 2 [] s.size l3).bind (Fc.range1 f i v)) := by rw [HX.out, hw2]; rfl
                      refine (take_ok R s.size (.slice lva L.length lvc) L _ 3 ⟨#[61]⟩ _ HS.out.rx HFL.out hw2).mono ?_
                      rintro en156 w156 ⟨rfl, hrx, hrd⟩
                      replace HS := Lib.hid (HS.out.aft hrx hrd)
                      replace HT13 := Lib.hid (HT13.out.aft hrd HC.out)
                      clear hrx hrd
                      clear hw2
                      go_wp2_with fail
                      cases hw3 : Fc.want 2 [] s.size l3 with
                      | error z =>
                        replace HX : Hid (X = .error z) := by rw [HX.out, hw3]; rfl
                        refine (take_no R s.size (.slice lva L.length lvc) L _ 2 ⟨#[]⟩ _ HS.out.rx HFL.out hw3).mono ?_
                        rintro en157 w157 ⟨rfl, hrx, hrd⟩
                        replace HS := Lib.hid (HS.out.aft hrx hrd)
                        replace HT13 := Lib.hid (HT13.out.aft hrd HC.out)
                        clear hrx hrd
                        clear hw3
                        obtain ⟨t15, ht⟩ : ∃ t, t = Fc.zt := ⟨_, rfl⟩
                        rw [← ht]
                        clear ht
                        obtain ⟨W158, hW⟩ : ∃ W, W = w157.alloc (.cells #[.int .i64 (t15.kind : Nat), .string (Lx.str t15.text), .int .i64 (t15.n : Nat), .int .i64 (t15.at_ : Nat)] 60) := ⟨_, rfl⟩
                        obtain ⟨n15, hn⟩ : ∃ n, n = w157.heap.size := ⟨_, rfl⟩
                        have hb : Below w157.heap.size w157 W158 := by rw [hW]; exact (Below.refl _ _).alloc (Nat.le_refl _) _
                        have HT15 : Hid (Fc.TokB gS n15 t15 W158) := by rw [hW, hn]; exact Fc.TokB.new t15 HS.out.lt
                        replace HS := Lib.hid (HS.out.next hb)
                        replace HT13 := Lib.hid (HT13.out.next hb)
                        have HW : Hid (w157.alloc (.cells #[.int .i64 (t15.kind : Nat), .string (Lx.str t15.text), .int .i64 (t15.n : Nat), .int .i64 (t15.at_ : Nat)] 60) = W158) := hW.symm
                        have HN := Lib.hid hn
                        clear hb hW hn
                        go_upto_region 20 with fail
                        rw [HW.out, ← HN.out]
                        clear HW HN
                        obtain ⟨c3, e0⟩ := HS.out.rx.err_no
                        have HSQ : Hid (∀ q, Fc.CS R s.size (.slice lva L.length lvc) L B2 gC gS n w (.slice a n c) (.error z) v (W158.drewN q)) := fun q => HS.out.next (Joins.below_draws _ _ q)
                        have c3q : ∀ q, (W158.drewN q).cell? ⟨R, 3, none⟩ = some (.int .i64 (z.1 : Nat)) := fun q => (HSQ.out q).rx.err_no.1
                        go_wp2_with fail
                        go_quiet (fail)
                        go_wp2_with fail
                        replace HS := Lib.hid (HSQ.out nq)
                        clear HSQ c3q c3 e0
                        have HG0 : Hid (∀ r, (Except.error z : Except (Nat × Nat) (List Lx.Tok)) = .ok r → Fc.Goods r) := fun r h => by cases h
                        have HPZ : Hid (Q = Fc.contC s.size d L (.error z) v) := by show Q = _; rw [HP2.out, HX.out]; rfl
                        go_roundg 0
                        case measure => rw [← HKK.out]; exact Nat.succ_pos _
                        case rel => exact ⟨.error z, v, rfl, HG0, hvl, HPZ, HS⟩
                      | ok y =>
                        obtain ⟨nx, l4⟩ := y
                        replace HX : Hid (X = Fc.range1 f i v (nx, l4)) := by rw [HX.out, hw3]; rfl
                        refine (take_ok R s.size (.slice lva L.length lvc) L _ 2 ⟨#[]⟩ _ HS.out.rx HFL.out hw3).mono ?_
                        rintro en159 w159 ⟨rfl, hrx, hrd⟩
                        replace HS := Lib.hid (HS.out.aft hrx hrd)
                        replace HT13 := Lib.hid (HT13.out.aft hrd HC.out)
                        clear hrx hrd
                        clear hw3
                        obtain ⟨W160, hW⟩ : ∃ W, W = w159.alloc (.cells #[.int .i64 (nx.kind : Nat), .string (Lx.str nx.text), .int .i64 (nx.n : Nat), .int .i64 (nx.at_ : Nat)] 60) := ⟨_, rfl⟩
                        obtain ⟨n15, hn⟩ : ∃ n, n = w159.heap.size := ⟨_, rfl⟩
                        have hb : Below w159.heap.size w159 W160 := by rw [hW]; exact (Below.refl _ _).alloc (Nat.le_refl _) _
                        have HT15 : Hid (Fc.TokB gS n15 nx W160) := by rw [hW, hn]; exact Fc.TokB.new nx HS.out.lt
                        replace HS := Lib.hid (HS.out.next hb)
                        replace HT13 := Lib.hid (HT13.out.next hb)
                        have HW : Hid (w159.alloc (.cells #[.int .i64 (nx.kind : Nat), .string (Lx.str nx.text), .int .i64 (nx.n : Nat), .int .i64 (nx.at_ : Nat)] 60) = W160) := hW.symm
                        have HN := Lib.hid hn
                        clear hb hW hn
                        go_upto_region 20 with fail
                        rw [HW.out, ← HN.out]
                        clear HW HN
                        have c3 := HS.out.rx.err_ok
                        have s15 := HT15.out.num
                        have b2 := Joins.cell_of_block HS.out.b2 0
                        obtain ⟨ra, rc, g, o, hsl, -, -, hga, hcl⟩ := (HF.out.below HS.out.bl).any
                        obtain ⟨rfl, hgl⟩ := hga (by rintro rfl; have := HFI.out; simp at this)
                        injection hsl with hs1 hs2 hs3
                        subst hs1
                        clear hs2 hs3 hga
                        obtain ⟨-, -, p2, p3⟩ := hcl i f HFI.out
                        clear hcl
                        obtain ⟨lo, hlo⟩ : ∃ x, x = f.lo := ⟨_, rfl⟩
                        obtain ⟨hi, hhi⟩ : ∃ x, x = f.hi := ⟨_, rfl⟩
                        rw [← hlo] at p2
                        rw [← hhi] at p3
                        have HSQ : Hid (∀ q, Fc.CS R s.size (.slice lva L.length lvc) L B2 gC gS n w (.slice (some ⟨g, o, none⟩) n c) (.ok l4) v (W160.drewN q)) := fun q => HS.out.next (Joins.below_draws _ _ q)
                        have HTQ : Hid (∀ q, Fc.TokB gS n15 nx (W160.drewN q)) := fun q => HT15.out.next (Joins.below_draws _ _ q)
                        have HLH := Lib.hid (And.intro hlo hhi)
                        clear hlo hhi
                        by_cases h1 : (nx.n : Int) < lo
                        · have q1 : decide ((nx.n : Int) < lo) = true := decide_eq_true h1
                          replace HX : Hid (X = .error (10, nx.at_)) := HX.out.trans (Fc.range1_no (by rw [← HLH.out.1]; omega))
                          have c3q : ∀ q, (W160.drewN q).cell? ⟨R, 3, none⟩ = some (.int .i64 0) := fun q => (HSQ.out q).rx.err_ok
                          have sq : ∀ q, (W160.drewN q).cell? ⟨n15, 3, none⟩ = some (.int .i64 (nx.at_ : Nat)) := fun q => (HTQ.out q).at'
                          go_wp2_with fail
                          go_quiet (fail)
                          clear c3 s15 b2 p2 p3
                          go_wp2_with fail
                          replace HS := Lib.hid (HSQ.out nq)
                          clear HSQ HTQ c3q sq HT13 HT15
                          refine (fault_ok R s.size (.slice lva L.length lvc) L _ 10 nx.at_ (by decide) _ HS.out.rx).mono ?_
                          rintro en161 w161 ⟨rfl, hrx, hrd⟩
                          replace HS := Lib.hid (HS.out.aft hrx hrd)
                          clear hrx hrd
                          obtain ⟨z, hz⟩ : ∃ z : Nat × Nat, z = (10, nx.at_) := ⟨_, rfl⟩
                          rw [← hz] at HS HX
                          clear hz
                          obtain ⟨c3, e0⟩ := HS.out.rx.err_no
                          go_wp2_with fail
                          clear c3 e0
                          have HG0 : Hid (∀ r, (Except.error z : Except (Nat × Nat) (List Lx.Tok)) = .ok r → Fc.Goods r) := fun r h => by cases h
                          have HPZ : Hid (Q = Fc.contC s.size d L (.error z) v) := by show Q = _; rw [HP2.out, HX.out]; rfl
                          go_roundg 0
                          case measure => rw [← HKK.out]; exact Nat.succ_pos _
                          case rel => exact ⟨.error z, v, rfl, HG0, hvl, HPZ, HS⟩
                        have q1 : decide ((nx.n : Int) < lo) = false := decide_eq_false h1
                        by_cases h2 : hi < (nx.n : Int)
                        · have q2 : decide (hi < (nx.n : Int)) = true := decide_eq_true h2
                          replace HX : Hid (X = .error (10, nx.at_)) := HX.out.trans (Fc.range1_no (by rw [← HLH.out.2]; omega))
                          have c3q : ∀ q, (W160.drewN q).cell? ⟨R, 3, none⟩ = some (.int .i64 0) := fun q => (HSQ.out q).rx.err_ok
                          have sq : ∀ q, (W160.drewN q).cell? ⟨n15, 3, none⟩ = some (.int .i64 (nx.at_ : Nat)) := fun q => (HTQ.out q).at'
                          go_wp2_with fail
                          go_quiet (fail)
                          clear c3 s15 b2 p2 p3
                          go_wp2_with fail
                          replace HS := Lib.hid (HSQ.out nq)
                          clear HSQ HTQ c3q sq HT13 HT15
                          refine (fault_ok R s.size (.slice lva L.length lvc) L _ 10 nx.at_ (by decide) _ HS.out.rx).mono ?_
                          rintro en162 w162 ⟨rfl, hrx, hrd⟩
                          replace HS := Lib.hid (HS.out.aft hrx hrd)
                          clear hrx hrd
                          obtain ⟨z, hz⟩ : ∃ z : Nat × Nat, z = (10, nx.at_) := ⟨_, rfl⟩
                          rw [← hz] at HS HX
                          clear hz
                          obtain ⟨c3, e0⟩ := HS.out.rx.err_no
                          go_wp2_with fail
                          clear c3 e0
                          have HG0 : Hid (∀ r, (Except.error z : Except (Nat × Nat) (List Lx.Tok)) = .ok r → Fc.Goods r) := fun r h => by cases h
                          have HPZ : Hid (Q = Fc.contC s.size d L (.error z) v) := by show Q = _; rw [HP2.out, HX.out]; rfl
                          go_roundg 0
                          case measure => rw [← HKK.out]; exact Nat.succ_pos _
                          case rel => exact ⟨.error z, v, rfl, HG0, hvl, HPZ, HS⟩
                        have q2 : decide (hi < (nx.n : Int)) = false := decide_eq_false h2
                        replace HX : Hid (X = .ok (v.set i (some (nx.n : Int)), l4)) := HX.out.trans (Fc.range1_yes (by rw [← HLH.out.1, ← HLH.out.2]; omega))
                        have c3q : ∀ q, (W160.drewN q).cell? ⟨R, 3, none⟩ = some (.int .i64 0) := fun q => (HSQ.out q).rx.err_ok
                        have sq : ∀ q, (W160.drewN q).cell? ⟨n15, 2, none⟩ = some (.int .i64 (nx.n : Nat)) := fun q => (HTQ.out q).num
                        obtain ⟨yv, hyv⟩ : ∃ x, (Fc.valsOf v)[i]? = some x := ⟨_, List.getElem?_eq_getElem (by rw [HS.out.oc.1]; exact hin)⟩
                        have oq : ∀ q, (W160.drewN q).cell? ⟨gC, i, none⟩ = some (.int .i64 yv) := fun q => (HSQ.out q).oc.cell hyv
                        have uq : ∀ q, (W160.drewN q).frozen? ⟨gC, i, none⟩ = false := fun q => (HSQ.out q).oc.frozen i
                        have hsc := Fc.seenOf_get (v := v) (i := i) (by rw [hvl]; exact hin)
                        have oq2 : ∀ q, ((W160.drewN q).setCell ⟨gC, i, none⟩ (.int .i64 (nx.n : Nat))).cell? ⟨gS, i, none⟩ = some (.bool (v.getD i none).isSome) := fun q => ((HSQ.out q).cellS i i _).trans ((HSQ.out q).os.cell hsc)
                        have uq2 : ∀ q, ((W160.drewN q).setCell ⟨gC, i, none⟩ (.int .i64 (nx.n : Nat))).frozen? ⟨gS, i, none⟩ = false := fun q => (HSQ.out q).frozen i _
                        go_wp2_with fail
                        go_quiet (fail)
                        clear c3 s15 b2 p2 p3
                        go_wp2_with fail
                        replace HS := Lib.hid ((HSQ.out nq).store i (nx.n : Int))
                        clear HSQ HTQ c3q sq HT13 HT15 oq uq oq2 uq2
                        obtain ⟨y1, y2, y3⟩ := Fc.value1_ok HGD2.out (HX1.out.symm.trans HX.out)
                        dsimp only at y1 y2 y3
                        have y4 : l4.length < L.length := by have := HTL.out; omega
                        have HPZ : Hid (Q = Fc.contC s.size d L (.ok l4) (v.set i (some (nx.n : Int)))) := by show Q = (Fc.restV s.size d (decide (l4.length = L.length)) _ l4).bind _; rw [HP2.out, HX.out, decide_eq_false (by omega)]; rfl
                        go_roundg (l4.length + 1)
                        case measure => rw [← HKK.out]; show l4.length + 1 < (t :: r).length + 1; omega
                        case rel =>
                          have HG0 : Hid (∀ r, (Except.ok l4 : Except (Nat × Nat) (List Lx.Tok)) = .ok r → Fc.Goods r) := fun r h => by cases h; exact y1
                          exact ⟨.ok l4, v.set i (some (nx.n : Int)), rfl, HG0, by rw [List.length_set]; exact hvl, HPZ, HS⟩
end Go.Proofs.YtoamkanofhhjfaaGreatDoor
