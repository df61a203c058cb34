import Derived.Test.YtoamkanofhhjfaaGreatDoorCards
import Derived.Test.YtoamkanofhhjfaaGreatDoorTie
import Derived.Test.YtoamkanofhhjfaaGreatDoorKFTab
import Derived.Test.YtoamkanofhhjfaaGreatDoorKFName
import Derived.Lib.SmallJoins
import Derived.WalkKit
import Derived.WalkSpells
import Derived.WalkLawsBesides
import Derived.WalkSmall
import Derived.ProofKit
import Derived.OpenShut
import Derived.Deep.DeepHandedRow
import Derived.Lib.LaidTab
import Derived.Lib.Hide
/-
  What the laws' proofs of stage 6 share: the tables in the world of the witness; from a reading of the rows to the walks' facts.
-/
namespace Go.Proofs.YtoamkanofhhjfaaGreatDoor
open Go.ChangeShapes Go.WideShapes Go.ChangeAt Go.RowKit

theorem own : ownKnob Tryz.prog.godebug = none := by kernel_rfl
theorem gTabType : (Tryz.prog.globals[0]?).map (·.type) = some 138 := by kernel_rfl
theorem cellsTab : Tryz.prog.cellsOf 138 = 20 := by kernel_rfl
theorem cellsU64 : Tryz.prog.cellsOf 108 = 1 := by kernel_rfl

abbrev laidAll : List (String × DataW Unit) := [("math/bits.deBruijn32tab", Rows.laid_math_bits_deBruijn32tab), ("math/bits.deBruijn64tab", Rows.laid_math_bits_deBruijn64tab), ("internal/strconv.uint64pow10", Rows.laid_internal_strconv_uint64pow10)]

theorem tab_eq {H : Type} : (Rows.laid_internal_strconv_uint64pow10 : DataW H) = Lib.tabData .u64 Lib.pow10Tab := by kernel_rfl

theorem hasTab {W : World} (h : laidMetH Tryz.prog laidAll W) : HasTab W := by
  obtain ⟨ps, h1, _⟩ := h
  obtain ⟨_, _, _, _, _, q1, _, _, _, _, h2, _⟩ := h1
  obtain ⟨_, _, _, _, _, q2, _, _, _, _, h3, _⟩ := h2
  obtain ⟨g', t', cs, fuel, p, q, hg', ht', hvar, hd, _, _⟩ := h3
  obtain rfl := Option.some.inj (gTab.symm.trans hg')
  obtain rfl := Option.some.inj (gTabType.symm.trans ht')
  rw [tab_eq] at hd
  have := Lib.cells_of_tab Tryz.underlying138 Tryz.underlying108 cellsU64 cellsTab hd
  show W.var? Tryz.prog _ = _
  rw [hvar, ← this, Array.toArray_toList]

/-- What the three tables hold. -/
def cells32 : Array Value := (([0, 1, 28, 2, 29, 14, 24, 3, 30, 22, 20, 15, 25, 17, 4, 8, 31, 27, 13, 23, 21, 19, 16, 7, 26, 12, 18, 6, 11, 5, 10, 9] : List Int).map (Value.int .u8)).toArray
def cells64 : Array Value := (([0, 1, 56, 2, 57, 49, 28, 3, 61, 58, 42, 50, 38, 29, 17, 4, 62, 47, 59, 36, 45, 43, 51, 22, 53, 39, 33, 30, 24, 18, 12, 5, 63, 55, 48, 27, 60, 41, 37, 16, 46, 35, 44, 21, 52, 32, 23, 11, 54, 26, 40, 15, 34, 20, 31, 10, 25, 14, 19, 9, 13, 8, 7, 6] : List Int).map (Value.int .u8)).toArray
def cellsPow : Array Value := (([1, 10, 100, 1000, 10000, 100000, 1000000, 10000000, 100000000, 1000000000, 10000000000, 100000000000, 1000000000000, 10000000000000, 100000000000000, 1000000000000000, 10000000000000000, 100000000000000000, 1000000000000000000, 10000000000000000000] : List Int).map (Value.int .u64)).toArray

def putCells (cs : Array Value) : Obj → Obj
  | .cells _ t frozen => .cells cs t frozen
  | o => o

/-- A world for the witness: the settled one, the tables holding what the program's text lays. -/
noncomputable def laidWorld (os : Os) : World :=
  { World.holding Tryz.prog os ⟨#[], #[], []⟩ with heap := (((World.holding Tryz.prog os ⟨#[], #[], []⟩).heap.modify 0 (putCells cellsPow)).modify 2 (putCells cells32)).modify 3 (putCells cells64) }

/-- The arguments read as they did, over a world of which nothing old has turned. -/
theorem trodAll_below {H : Type} {enc : TypeId × Value → H} {P : Program} (hl : laidOutB P = true) {W W' : World} (hb : Below W.heap.size W W') :
    ∀ (ts : List TypeId) (vs : List Value) (ds : List (DataW H)) (ps : List MemPlace), (∀ t ∈ ts, P.readableRec t = true ∧ t < P.types.size) →
      DataW.TrodAll enc P W 0 (fun _ => true) true ts vs ds ps → (∀ x ∈ ps, x.block < W.heap.size) → DataW.TrodAll enc P W' 0 (fun b => decide (b < W.heap.size)) true ts vs ds ps
  | [], [], [], _, _, h, _ => h
  | t :: ts, v :: vs, d :: ds, ps, hr, h, hlt => by
    obtain ⟨p, q, h1, h2, rfl⟩ := h
    exact ⟨p, q, Below.trod hl (hr t (by simp)).1 (hr t (by simp)).2 h1 hb (fun x hx => hlt x (by simp [hx])),
      trodAll_below hl hb ts vs ds q (fun u hu => hr u (by simp [hu])) h2 (fun x hx => hlt x (by simp [hx])), rfl⟩
  | [], [], _ :: _, _, _, h, _ => h.elim
  | [], _ :: _, _, _, _, h, _ => h.elim
  | _ :: _, [], _, _, _, h, _ => h.elim
  | _ :: _, _ :: _, [], _, _, h, _ => h.elim

theorem laidOut : laidOutB Tryz.prog = true := by kernel_rfl
/-- The parameters' types of this seat's laws. -/
def argTypes : List TypeId := [9, 24, 26]
theorem argTypes_read : ∀ t ∈ argTypes, Tryz.prog.readableRec t = true ∧ t < Tryz.prog.types.size := by
  intro t ht
  simp only [argTypes, List.mem_cons, List.not_mem_nil, or_false] at ht
  rcases ht with rfl | rfl | rfl
  · exact ⟨by kernel_rfl, of_decide_eq_true (by kernel_rfl)⟩
  · exact ⟨by kernel_rfl, of_decide_eq_true (by kernel_rfl)⟩
  · exact ⟨by kernel_rfl, of_decide_eq_true (by kernel_rfl)⟩

/-- The post of a law that returns true, over a world of which nothing old has turned. -/
theorem post_read {H : Type} {enc : TypeId × Value → H} {f : Func} {s : ChangeSpec} {W W' : World} {args : Array Value} {ds : List (DataW H)} {before : List MemPlace}
    (hr : f.resultTypes = #[4]) (hv : s.vars = []) (hfn : (s.fn H (ds ++ [])).results = [.lit (.bool true)]) (hsame : (s.fn H (ds ++ [])).args = ds) (hvs : (s.fn H (ds ++ [])).vars = [])
    (hts : ∀ t ∈ f.params.toList, Tryz.prog.readableRec t = true ∧ t < Tryz.prog.types.size)
    (hW : DataW.Whole enc Tryz.prog f.params.toList s.vars false W args.toList ds [] before)
    (hg : Below W.heap.size W W') :
    s.post enc Tryz.prog f false true false false W args (.bool true) W' := by
  have hW' := hW
  obtain ⟨p, q, hA, hV, rfl, _, _⟩ := hW
  rw [hv] at hV
  obtain ⟨_, rfl⟩ := trodVars_none hV
  refine ⟨ds, [], _, [], p, [], hW', ?_, ?_, ?_, hg.frame _, fun h => by cases h⟩
  · rw [hfn, hr]
    exact trodAll_cons_mk (shut_bool Tryz.underlying4 _) trodAll_mk0
  · rw [hsame]
    exact trodAll_below laidOut hg _ _ _ _ hts hA (fun x hx => hW'.lt x (by simp [hx]))
  · rw [hv, hvs]; exact rfl
theorem post_law {H : Type} {enc : TypeId × Value → H} {f : Func} {s : ChangeSpec} {W W' : World} {args : Array Value} {ds : List (DataW H)} {before : List MemPlace}
    (hr : f.resultTypes = #[4]) (hv : s.vars = []) (hfn : (s.fn H (ds ++ [])).results = [.lit (.bool true)]) (hsame : (s.fn H (ds ++ [])).args = ds) (hvs : (s.fn H (ds ++ [])).vars = [])
    (hts : ∀ t ∈ f.params.toList, t ∈ argTypes)
    (hW : DataW.Whole enc Tryz.prog f.params.toList s.vars false W args.toList ds [] before)
    (hg : Below W.heap.size W W') :
    s.post enc Tryz.prog f false true false false W args (.bool true) W' :=
  post_read hr hv hfn hsame hvs (fun t ht => argTypes_read t (hts t ht)) hW hg

theorem le_of_max {n : Nat} (h : n ≤ maxLen) : n ≤ 9223372036854775807 := by unfold maxLen at h; omega

theorem wants_string : Tryz.prog.wantsStandIn 9 = false := by kernel_rfl
theorem wants_case : Tryz.prog.wantsStandIn 26 = false := by kernel_rfl
theorem wants_domain : Tryz.prog.wantsStandIn 24 = false := by kernel_rfl
theorem cellsInt : Tryz.prog.cellsOf 3 = 1 := by kernel_rfl
theorem nums_at {w : World} {a : Addr} {zs : List Int} (h : ∀ i, i < zs.length → w.cell? (a.add i) = some (.int .i64 (zs.getD i 0))) (hp : 0 < zs.length) :
    ∃ b off, a = ⟨b, off, none⟩ ∧ ∀ i, i < zs.length → w.cell? ⟨b, off + i, none⟩ = some (.int .i64 (zs.getD i 0)) := by
  obtain ⟨b, off, spot⟩ := a
  have hspot : spot = none := by simpa [Addr.add] using World.cell?_spot (h 0 hp)
  subst hspot
  exact ⟨b, off, rfl, fun j hj => by rw [← Go.WideShapes.add_plain]; exact h j hj⟩

set_option maxRecDepth 100000 in
theorem open_case {H : Type} {enc : TypeId × Value → H} {W : World} {base : Nat} {v : Value} {d : DataW H} {ps : List MemPlace} (hval : Value.okWide Tryz.prog W .any base 26 v)
    (h : DataW.Trod enc Tryz.prog W 0 (fun _ => true) true 26 v d ps) : ∃ l : List Int, Fc.IsN W v l := by
  obtain ⟨a0, len, cap, rfl⟩ := okWide_slice Tryz.underlying26 hval
  obtain ⟨fuel, hf⟩ := h
  rcases open_ints Tryz.underlying26 Tryz.underlying3 cellsInt hf with ⟨hcs, hx⟩ | ⟨a, len', cap', zs, hcs, _, hl, hm, hz, hx, hcell, hws⟩
  · simp [Value.cells] at hcs
    obtain ⟨rfl, rfl, rfl⟩ := hcs
    exact ⟨[], Fc.IsN.nil W⟩
  · simp [Value.cells] at hcs
    obtain ⟨rfl, rfl, rfl⟩ := hcs
    have hzl : len ≤ zs.length := by rw [hz]; split <;> omega
    have hlen : (zs.take len).length = len := by rw [List.length_take]; omega
    have hgd : ∀ j, j < len → (zs.take len).getD j 0 = zs.getD j 0 := by
      intro j hj
      rw [List.getD_eq_getElem?_getD, List.getD_eq_getElem?_getD, List.getElem?_take_of_lt hj]
    refine ⟨zs.take len, some a, cap, by rw [hlen], by rw [hlen]; exact hl, le_of_max hm, fun x hx => bounds_i64 (hws x (List.mem_of_mem_take hx)), fun hne => ?_⟩
    have hp : 0 < len := by
      rcases Nat.eq_zero_or_pos len with h0 | h0
      · subst h0; simp at hne
      · exact h0
    obtain ⟨b, off, rfl, hc⟩ := nums_at hcell (by omega)
    exact ⟨b, off, rfl, block_lt_of_cell (hc 0 (by omega)), fun j hj => by rw [hlen] at hj; rw [hgd j hj]; exact hc j (by omega)⟩
end Go.Proofs.YtoamkanofhhjfaaGreatDoor
/-
  What the laws' proofs of stage 6 share beside the frame: a domain read from an argument.
-/
namespace Go.Proofs.YtoamkanofhhjfaaGreatDoor
open Go.ChangeShapes Go.WideShapes Go.ChangeAt Go.RowKit

theorem cellsFact : Tryz.prog.cellsOf 64 = 4 := by kernel_rfl
theorem cellsFacts : Tryz.prog.cellsOf 22 = 1 := by kernel_rfl
theorem cellsStr : Tryz.prog.cellsOf 9 = 1 := by kernel_rfl
theorem cellsDomain : Tryz.prog.cellsOf 24 = 1 := by kernel_rfl

/-- The four cells of a fact, as it is read. -/
def FactAt (W : World) (a : Addr) (i : Nat) (f : Fc.Fact) : Prop :=
  Fc.Sized f ∧ W.cell? (a.add (i * 4)) = some (.string (Lx.str f.name)) ∧ W.cell? (a.add (i * 4 + 1)) = some (.int .i64 f.kind) ∧ W.cell? (a.add (i * 4 + 2)) = some (.int .i64 f.lo) ∧ W.cell? (a.add (i * 4 + 3)) = some (.int .i64 f.hi)

instance : Inhabited Fc.Fact := ⟨⟨[], 0, 0, 0⟩⟩

set_option maxRecDepth 100000 in
theorem fact_cells {H : Type} {enc : TypeId × Value → H} {W : World} {n i : Nat} {a : Addr} {cs : List Value} {y : DataW H × List MemPlace} (hc : W.cells? 0 (a.add (i * 4)) 4 = some cs)
    (hf : DataW.trod enc Tryz.prog W 0 (fun _ => true) true n 64 cs = some y) : ∃ f, FactAt W a i f := by
  obtain ⟨_, hlen, hcell⟩ := World.cells?_some hc
  obtain ⟨y0, y1, y2, y3, m, _, _, h0, h1, h2, h3⟩ := Joins.trod_struct4 Tryz.underlying64 hf
  match cs, hlen with
  | [c0, c1, c2, c3], _ =>
    have e0 := hcell 0 (by omega)
    have e1 := hcell 1 (by omega)
    have e2 := hcell 2 (by omega)
    have e3 := hcell 3 (by omega)
    rw [Deep.add_add] at e0 e1 e2 e3
    simp only [List.getElem?_cons_zero, List.getElem?_cons_succ, Nat.add_zero] at e0 e1 e2 e3
    have k0 : DataW.trod enc Tryz.prog W 0 (fun _ => true) true m 9 [c0] = some y0 := by simpa [cellsStr, cellsInt] using h0
    have k1 : DataW.trod enc Tryz.prog W 0 (fun _ => true) true m 3 [c1] = some y1 := by simpa [cellsStr, cellsInt] using h1
    have k2 : DataW.trod enc Tryz.prog W 0 (fun _ => true) true m 3 [c2] = some y2 := by simpa [cellsStr, cellsInt] using h2
    have k3 : DataW.trod enc Tryz.prog W 0 (fun _ => true) true m 3 [c3] = some y3 := by simpa [cellsStr, cellsInt] using h3
    obtain ⟨s, g0, _, z0⟩ := DataW.trod_string Tryz.underlying9 k0
    obtain ⟨i1, g1, _, z1⟩ := DataW.trod_int Tryz.underlying3 k1
    obtain ⟨i2, g2, _, z2⟩ := DataW.trod_int Tryz.underlying3 k2
    obtain ⟨i3, g3, _, z3⟩ := DataW.trod_int Tryz.underlying3 k3
    obtain rfl : c0 = .string s := by simpa using g0
    obtain rfl : c1 = .int .i64 i1 := by simpa using g1
    obtain rfl : c2 = .int .i64 i2 := by simpa using g2
    obtain rfl : c3 = .int .i64 i3 := by simpa using g3
    refine ⟨⟨Lx.tx s, i1, i2, i3⟩, ⟨?_, bounds_i64 z1, bounds_i64 z2, bounds_i64 z3⟩, ?_, e1, e2, e3⟩
    · rw [Lx.tx_len]; exact le_of_max z0
    · rw [Lx.str_tx]; exact e0

set_option maxRecDepth 100000 in
/-- A slice of facts in a cell. -/
theorem cell_facts {H : Type} {enc : TypeId × Value → H} {W : World} {n : Nat} {v : Value} {y : DataW H × List MemPlace} (hf : DataW.trod enc Tryz.prog W 0 (fun _ => true) true n 22 [v] = some y) :
    ∃ l : List Fc.Fact, Fc.IsF W v l := by
  rcases Deep.open_slice Tryz.underlying22 hf with ⟨hcs, _⟩ | ⟨a, len, cap, m, k, D, Pl, hcs, _, hl, hm, hmm, _, hx⟩
  · simp at hcs
    subst hcs
    exact ⟨[], Fc.IsF.nil W⟩
  · simp at hcs
    subst hcs
    rw [cellsFact] at hx
    have hlm : len ≤ m := by rw [hmm]; split <;> omega
    obtain ⟨F, hF⟩ := Deep.choose_lt (n := len) (p := fun i f => FactAt W a i f) (fun i hi => by
      obtain ⟨cs', h1, h2⟩ := hx i (by omega)
      exact fact_cells h1 h2)
    have hlen : ((List.range len).map F).length = len := by simp
    refine ⟨(List.range len).map F, some a, cap, by rw [hlen], by rw [hlen]; exact hl, le_of_max hm, fun f hf => ?_, fun hne => ?_⟩
    · obtain ⟨i, hi, rfl⟩ := List.mem_map.1 hf
      exact (hF i (List.mem_range.1 hi)).1
    · have hp : 0 < len := by
        rcases Nat.eq_zero_or_pos len with h0 | h0
        · subst h0; simp at hne
        · exact h0
      obtain ⟨b, off, spot⟩ := a
      have hspot : spot = none := by simpa [Addr.add] using World.cell?_spot (hF 0 hp).2.1
      subst hspot
      have h00 := (hF 0 hp).2.1
      rw [Go.WideShapes.add_plain] at h00
      refine ⟨b, off, rfl, block_lt_of_cell h00, fun i f hf => ?_⟩
      obtain ⟨hi, rfl⟩ : i < len ∧ F i = f := by
        rw [List.getElem?_map] at hf
        by_cases hi : i < len
        · rw [List.getElem?_range hi] at hf
          exact ⟨hi, by simpa using hf⟩
        · rw [List.getElem?_eq_none (by simp; omega)] at hf; cases hf
      obtain ⟨_, p0, p1, p2, p3⟩ := hF i hi
      rw [Go.WideShapes.add_plain] at p0 p1 p2 p3
      exact ⟨p0, p1, p2, p3⟩

set_option maxRecDepth 100000 in
theorem open_domain {H : Type} {enc : TypeId × Value → H} {W : World} {base : Nat} {v : Value} {d : DataW H} {ps : List MemPlace} (hval : Value.okWide Tryz.prog W .any base 24 v)
    (h : DataW.Trod enc Tryz.prog W 0 (fun _ => true) true 24 v d ps) : ∃ (u : Value) (l : List Fc.Fact), v = .agg #[u] ∧ Fc.IsF W u l := by
  obtain ⟨cs, rfl, hsz⟩ := okWide_struct Tryz.underlying24 hval
  rw [cellsDomain] at hsz
  obtain ⟨c0, rfl⟩ : ∃ c0, cs = #[c0] := by
    obtain ⟨l⟩ := cs
    match l, hsz with
    | [c0], _ => exact ⟨c0, rfl⟩
  obtain ⟨fuel, hf⟩ := h
  obtain ⟨y0, n, _, _, h0⟩ := trod_struct1 Tryz.underlying24 hf
  have k0 : DataW.trod enc Tryz.prog W 0 (fun _ => true) true n 22 [c0] = some y0 := by simpa [Value.cells, cellsFacts] using h0
  obtain ⟨l, hl⟩ := cell_facts k0
  exact ⟨c0, l, rfl, hl⟩
end Go.Proofs.YtoamkanofhhjfaaGreatDoor
