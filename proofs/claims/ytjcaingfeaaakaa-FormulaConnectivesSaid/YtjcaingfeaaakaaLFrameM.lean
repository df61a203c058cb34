/-
  What the laws' proofs of stage 7 share: from a reading of the rows to the walks' facts. (No table of the library is read.)
-/
import Derived.Test.YtjcaingfeaaakaaRows
import Derived.Test.YtjcaingfeaaakaaMHead
import Derived.Test.YtjcaingfeaaakaaMFew
import Derived.Lib.SmallJoins
import Derived.WalkKit
import Derived.WalkSpells
import Derived.WalkLawsBesides
import Derived.WalkSmall
import Derived.ProofKit
import Derived.OpenShut
import Derived.Deep.DeepHandedRow
import Derived.Lib.Hide
import Derived.Laws.Strings
namespace Go.Proofs.Ytjcaingfeaaakaa
open Go.ChangeShapes Go.WideShapes Go.ChangeAt Go.RowKit

theorem own : ownKnob Try.prog.godebug = none := by kernel_rfl
/-- A world for the witness. -/
noncomputable def laidWorld (os : Os) : World := World.holding Try.prog os ⟨#[], #[], []⟩

/-- The arguments read as they did, over a world of which nothing old has turned. -/
theorem trodAll_below {H : Type} {enc : TypeId × Value → H} {P : Program} (hl : laidOutB P = true) {W W' : World} (hb : Below W.heap.size W W') :
    ∀ (ts : List TypeId) (vs : List Value) (ds : List (DataW H)) (ps : List MemPlace), (∀ t ∈ ts, P.readableRec t = true ∧ t < P.types.size) →
      DataW.TrodAll enc P W 0 (fun _ => true) true ts vs ds ps → (∀ x ∈ ps, x.block < W.heap.size) → DataW.TrodAll enc P W' 0 (fun b => decide (b < W.heap.size)) true ts vs ds ps
  | [], [], [], _, _, h, _ => h
  | t :: ts, v :: vs, d :: ds, ps, hr, h, hlt => by
    obtain ⟨p, q, h1, h2, rfl⟩ := h
    exact ⟨p, q, Below.trod hl (hr t (by simp)).1 (hr t (by simp)).2 h1 hb (fun x hx => hlt x (by simp [hx])),
      trodAll_below hl hb ts vs ds q (fun u hu => hr u (by simp [hu])) h2 (fun x hx => hlt x (by simp [hx])), rfl⟩
  | [], [], _ :: _, _, _, h, _ => h.elim
  | [], _ :: _, _, _, _, h, _ => h.elim
  | _ :: _, [], _, _, _, h, _ => h.elim
  | _ :: _, _ :: _, [], _, _, h, _ => h.elim

theorem laidOut : laidOutB Try.prog = true := by kernel_rfl
/-- The parameters' types of this seat's laws. -/
def argTypes : List TypeId := [9, 5, 3, 30, 27, 29, 24]
theorem argTypes_read : ∀ t ∈ argTypes, Try.prog.readableRec t = true ∧ t < Try.prog.types.size := by
  intro t ht
  simp only [argTypes, List.mem_cons, List.not_mem_nil, or_false] at ht
  rcases ht with rfl | rfl | rfl | rfl | rfl | rfl | rfl
  · exact ⟨by kernel_rfl, of_decide_eq_true (by kernel_rfl)⟩
  · exact ⟨by kernel_rfl, of_decide_eq_true (by kernel_rfl)⟩
  · exact ⟨by kernel_rfl, of_decide_eq_true (by kernel_rfl)⟩
  · exact ⟨by kernel_rfl, of_decide_eq_true (by kernel_rfl)⟩
  · exact ⟨by kernel_rfl, of_decide_eq_true (by kernel_rfl)⟩
  · exact ⟨by kernel_rfl, of_decide_eq_true (by kernel_rfl)⟩
  · exact ⟨by kernel_rfl, of_decide_eq_true (by kernel_rfl)⟩

/-- The post of a law that returns true, over a world of which nothing old has turned. -/
theorem post_read {H : Type} {enc : TypeId × Value → H} {f : Func} {s : ChangeSpec} {W W' : World} {args : Array Value} {ds : List (DataW H)} {before : List MemPlace}
    (hr : f.resultTypes = #[4]) (hv : s.vars = []) (hfn : (s.fn H (ds ++ [])).results = [.lit (.bool true)]) (hsame : (s.fn H (ds ++ [])).args = ds) (hvs : (s.fn H (ds ++ [])).vars = [])
    (hts : ∀ t ∈ f.params.toList, Try.prog.readableRec t = true ∧ t < Try.prog.types.size)
    (hW : DataW.Whole enc Try.prog f.params.toList s.vars false W args.toList ds [] before)
    (hg : Below W.heap.size W W') :
    s.post enc Try.prog f false true false false W args (.bool true) W' := by
  have hW' := hW
  obtain ⟨p, q, hA, hV, rfl, _, _⟩ := hW
  rw [hv] at hV
  obtain ⟨_, rfl⟩ := trodVars_none hV
  refine ⟨ds, [], _, [], p, [], hW', ?_, ?_, ?_, hg.frame _, fun h => by cases h⟩
  · rw [hfn, hr]
    exact trodAll_cons_mk (shut_bool Try.underlying4 _) trodAll_mk0
  · rw [hsame]
    exact trodAll_below laidOut hg _ _ _ _ hts hA (fun x hx => hW'.lt x (by simp [hx]))
  · rw [hv, hvs]; exact rfl
theorem post_law {H : Type} {enc : TypeId × Value → H} {f : Func} {s : ChangeSpec} {W W' : World} {args : Array Value} {ds : List (DataW H)} {before : List MemPlace}
    (hr : f.resultTypes = #[4]) (hv : s.vars = []) (hfn : (s.fn H (ds ++ [])).results = [.lit (.bool true)]) (hsame : (s.fn H (ds ++ [])).args = ds) (hvs : (s.fn H (ds ++ [])).vars = [])
    (hts : ∀ t ∈ f.params.toList, t ∈ argTypes)
    (hW : DataW.Whole enc Try.prog f.params.toList s.vars false W args.toList ds [] before)
    (hg : Below W.heap.size W W') :
    s.post enc Try.prog f false true false false W args (.bool true) W' :=
  post_read hr hv hfn hsame hvs (fun t ht => argTypes_read t (hts t ht)) hW hg

theorem le_of_max {n : Nat} (h : n ≤ maxLen) : n ≤ 9223372036854775807 := by unfold maxLen at h; omega

theorem cellsInt : Try.prog.cellsOf 3 = 1 := by kernel_rfl
theorem nums_at {w : World} {a : Addr} {zs : List Int} (h : ∀ i, i < zs.length → w.cell? (a.add i) = some (.int .i64 (zs.getD i 0))) (hp : 0 < zs.length) :
    ∃ b off, a = ⟨b, off, none⟩ ∧ ∀ i, i < zs.length → w.cell? ⟨b, off + i, none⟩ = some (.int .i64 (zs.getD i 0)) := by
  obtain ⟨b, off, spot⟩ := a
  have hspot : spot = none := by simpa [Addr.add] using World.cell?_spot (h 0 hp)
  subst hspot
  exact ⟨b, off, rfl, fun j hj => by rw [← Go.WideShapes.add_plain]; exact h j hj⟩

set_option maxRecDepth 100000 in
theorem open_case {H : Type} {enc : TypeId × Value → H} {W : World} {base : Nat} {v : Value} {d : DataW H} {ps : List MemPlace} (hval : Value.okWide Try.prog W .any base 29 v)
    (h : DataW.Trod enc Try.prog W 0 (fun _ => true) true 29 v d ps) : ∃ l : List Int, Fc.IsN W v l := by
  obtain ⟨a0, len, cap, rfl⟩ := okWide_slice Try.underlying29 hval
  obtain ⟨fuel, hf⟩ := h
  rcases open_ints Try.underlying29 Try.underlying3 cellsInt hf with ⟨hcs, hx⟩ | ⟨a, len', cap', zs, hcs, _, hl, hm, hz, hx, hcell, hws⟩
  · simp [Value.cells] at hcs
    obtain ⟨rfl, rfl, rfl⟩ := hcs
    exact ⟨[], Fc.IsN.nil W⟩
  · simp [Value.cells] at hcs
    obtain ⟨rfl, rfl, rfl⟩ := hcs
    have hzl : len ≤ zs.length := by rw [hz]; split <;> omega
    have hlen : (zs.take len).length = len := by rw [List.length_take]; omega
    have hgd : ∀ j, j < len → (zs.take len).getD j 0 = zs.getD j 0 := by
      intro j hj
      rw [List.getD_eq_getElem?_getD, List.getD_eq_getElem?_getD, List.getElem?_take_of_lt hj]
    refine ⟨zs.take len, some a, cap, by rw [hlen], by rw [hlen]; exact hl, le_of_max hm, fun x hx => bounds_i64 (hws x (List.mem_of_mem_take hx)), fun hne => ?_⟩
    have hp : 0 < len := by
      rcases Nat.eq_zero_or_pos len with h0 | h0
      · subst h0; simp at hne
      · exact h0
    obtain ⟨b, off, rfl, hc⟩ := nums_at hcell (by omega)
    exact ⟨b, off, rfl, block_lt_of_cell (hc 0 (by omega)), fun j hj => by rw [hlen] at hj; rw [hgd j hj]; exact hc j (by omega)⟩

theorem cellsFact : Try.prog.cellsOf 52 = 4 := by kernel_rfl
theorem cellsFacts : Try.prog.cellsOf 25 = 1 := by kernel_rfl
theorem cellsStr : Try.prog.cellsOf 9 = 1 := by kernel_rfl
theorem cellsDomain : Try.prog.cellsOf 27 = 1 := by kernel_rfl

/-- The four cells of a fact, as it is read. -/
def FactAt (W : World) (a : Addr) (i : Nat) (f : Fc.Fact) : Prop :=
  Fc.Sized f ∧ W.cell? (a.add (i * 4)) = some (.string (Lx.str f.name)) ∧ W.cell? (a.add (i * 4 + 1)) = some (.int .i64 f.kind) ∧ W.cell? (a.add (i * 4 + 2)) = some (.int .i64 f.lo) ∧ W.cell? (a.add (i * 4 + 3)) = some (.int .i64 f.hi)

instance : Inhabited Fc.Fact := ⟨⟨[], 0, 0, 0⟩⟩

set_option maxRecDepth 100000 in
theorem fact_cells {H : Type} {enc : TypeId × Value → H} {W : World} {n i : Nat} {a : Addr} {cs : List Value} {y : DataW H × List MemPlace} (hc : W.cells? 0 (a.add (i * 4)) 4 = some cs)
    (hf : DataW.trod enc Try.prog W 0 (fun _ => true) true n 52 cs = some y) : ∃ f, FactAt W a i f := by
  obtain ⟨_, hlen, hcell⟩ := World.cells?_some hc
  obtain ⟨y0, y1, y2, y3, m, _, _, h0, h1, h2, h3⟩ := Joins.trod_struct4 Try.underlying52 hf
  match cs, hlen with
  | [c0, c1, c2, c3], _ =>
    have e0 := hcell 0 (by omega)
    have e1 := hcell 1 (by omega)
    have e2 := hcell 2 (by omega)
    have e3 := hcell 3 (by omega)
    rw [Deep.add_add] at e0 e1 e2 e3
    simp only [List.getElem?_cons_zero, List.getElem?_cons_succ, Nat.add_zero] at e0 e1 e2 e3
    have k0 : DataW.trod enc Try.prog W 0 (fun _ => true) true m 9 [c0] = some y0 := by simpa [cellsStr, cellsInt] using h0
    have k1 : DataW.trod enc Try.prog W 0 (fun _ => true) true m 3 [c1] = some y1 := by simpa [cellsStr, cellsInt] using h1
    have k2 : DataW.trod enc Try.prog W 0 (fun _ => true) true m 3 [c2] = some y2 := by simpa [cellsStr, cellsInt] using h2
    have k3 : DataW.trod enc Try.prog W 0 (fun _ => true) true m 3 [c3] = some y3 := by simpa [cellsStr, cellsInt] using h3
    obtain ⟨s, g0, _, z0⟩ := DataW.trod_string Try.underlying9 k0
    obtain ⟨i1, g1, _, z1⟩ := DataW.trod_int Try.underlying3 k1
    obtain ⟨i2, g2, _, z2⟩ := DataW.trod_int Try.underlying3 k2
    obtain ⟨i3, g3, _, z3⟩ := DataW.trod_int Try.underlying3 k3
    obtain rfl : c0 = .string s := by simpa using g0
    obtain rfl : c1 = .int .i64 i1 := by simpa using g1
    obtain rfl : c2 = .int .i64 i2 := by simpa using g2
    obtain rfl : c3 = .int .i64 i3 := by simpa using g3
    refine ⟨⟨Lx.tx s, i1, i2, i3⟩, ⟨?_, bounds_i64 z1, bounds_i64 z2, bounds_i64 z3⟩, ?_, e1, e2, e3⟩
    · rw [Lx.tx_len]; exact le_of_max z0
    · rw [Lx.str_tx]; exact e0

set_option maxRecDepth 100000 in
/-- A slice of facts in a cell. -/
theorem cell_facts {H : Type} {enc : TypeId × Value → H} {W : World} {n : Nat} {v : Value} {y : DataW H × List MemPlace} (hf : DataW.trod enc Try.prog W 0 (fun _ => true) true n 25 [v] = some y) :
    ∃ l : List Fc.Fact, Fc.IsF W v l := by
  rcases Deep.open_slice Try.underlying25 hf with ⟨hcs, _⟩ | ⟨a, len, cap, m, k, D, Pl, hcs, _, hl, hm, hmm, _, hx⟩
  · simp at hcs
    subst hcs
    exact ⟨[], Fc.IsF.nil W⟩
  · simp at hcs
    subst hcs
    rw [cellsFact] at hx
    have hlm : len ≤ m := by rw [hmm]; split <;> omega
    obtain ⟨F, hF⟩ := Deep.choose_lt (n := len) (p := fun i f => FactAt W a i f) (fun i hi => by
      obtain ⟨cs', h1, h2⟩ := hx i (by omega)
      exact fact_cells h1 h2)
    have hlen : ((List.range len).map F).length = len := by simp
    refine ⟨(List.range len).map F, some a, cap, by rw [hlen], by rw [hlen]; exact hl, le_of_max hm, fun f hf => ?_, fun hne => ?_⟩
    · obtain ⟨i, hi, rfl⟩ := List.mem_map.1 hf
      exact (hF i (List.mem_range.1 hi)).1
    · have hp : 0 < len := by
        rcases Nat.eq_zero_or_pos len with h0 | h0
        · subst h0; simp at hne
        · exact h0
      obtain ⟨b, off, spot⟩ := a
      have hspot : spot = none := by simpa [Addr.add] using World.cell?_spot (hF 0 hp).2.1
      subst hspot
      have h00 := (hF 0 hp).2.1
      rw [Go.WideShapes.add_plain] at h00
      refine ⟨b, off, rfl, block_lt_of_cell h00, fun i f hf => ?_⟩
      obtain ⟨hi, rfl⟩ : i < len ∧ F i = f := by
        rw [List.getElem?_map] at hf
        by_cases hi : i < len
        · rw [List.getElem?_range hi] at hf
          exact ⟨hi, by simpa using hf⟩
        · rw [List.getElem?_eq_none (by simp; omega)] at hf; cases hf
      obtain ⟨_, p0, p1, p2, p3⟩ := hF i hi
      rw [Go.WideShapes.add_plain] at p0 p1 p2 p3
      exact ⟨p0, p1, p2, p3⟩

set_option maxRecDepth 100000 in
theorem open_domain {H : Type} {enc : TypeId × Value → H} {W : World} {base : Nat} {v : Value} {d : DataW H} {ps : List MemPlace} (hval : Value.okWide Try.prog W .any base 27 v)
    (h : DataW.Trod enc Try.prog W 0 (fun _ => true) true 27 v d ps) : ∃ (u : Value) (l : List Fc.Fact), v = .agg #[u] ∧ Fc.IsF W u l := by
  obtain ⟨cs, rfl, hsz⟩ := okWide_struct Try.underlying27 hval
  rw [cellsDomain] at hsz
  obtain ⟨c0, rfl⟩ : ∃ c0, cs = #[c0] := by
    obtain ⟨l⟩ := cs
    match l, hsz with
    | [c0], _ => exact ⟨c0, rfl⟩
  obtain ⟨fuel, hf⟩ := h
  obtain ⟨y0, n, _, _, h0⟩ := trod_struct1 Try.underlying27 hf
  have k0 : DataW.trod enc Try.prog W 0 (fun _ => true) true n 25 [c0] = some y0 := by simpa [Value.cells, cellsFacts] using h0
  obtain ⟨l, hl⟩ := cell_facts k0
  exact ⟨c0, l, rfl, hl⟩
end Go.Proofs.Ytjcaingfeaaakaa
