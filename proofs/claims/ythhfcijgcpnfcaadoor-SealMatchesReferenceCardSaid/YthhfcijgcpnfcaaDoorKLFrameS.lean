import Derived.Test.YthhfcijgcpnfcaaDoorKLFrameX
import Derived.Test.YthhfcijgcpnfcaaDoorKSVerify
import Derived.Lib.SmallJoins
/-
  What the laws' proofs of stage 3 share beside the frame: a seal read from an argument.
-/
namespace Go.Proofs.YthhfcijgcpnfcaaDoor
open Go.ChangeShapes Go.WideShapes Go.ChangeAt Go.RowKit

/-- The parameters' types of this stage's laws. -/
def argTypesS : List TypeId := [9, 5, 3, 22, 24]
theorem argTypesS_read : ∀ t ∈ argTypesS, Tryd.prog.readableRec t = true ∧ t < Tryd.prog.types.size := by
  intro t ht
  simp only [argTypesS, List.mem_cons, List.not_mem_nil, or_false] at ht
  rcases ht with rfl | rfl | rfl | rfl | rfl
  · exact ⟨by kernel_rfl, of_decide_eq_true (by kernel_rfl)⟩
  · exact ⟨by kernel_rfl, of_decide_eq_true (by kernel_rfl)⟩
  · exact ⟨by kernel_rfl, of_decide_eq_true (by kernel_rfl)⟩
  · exact ⟨by kernel_rfl, of_decide_eq_true (by kernel_rfl)⟩
  · exact ⟨by kernel_rfl, of_decide_eq_true (by kernel_rfl)⟩
theorem post_lawS {H : Type} {enc : TypeId × Value → H} {f : Func} {s : ChangeSpec} {W W' : World} {args : Array Value} {ds : List (DataW H)} {before : List MemPlace}
    (hr : f.resultTypes = #[4]) (hv : s.vars = []) (hfn : (s.fn H (ds ++ [])).results = [.lit (.bool true)]) (hsame : (s.fn H (ds ++ [])).args = ds) (hvs : (s.fn H (ds ++ [])).vars = [])
    (hts : ∀ t ∈ f.params.toList, t ∈ argTypesS)
    (hW : DataW.Whole enc Tryd.prog f.params.toList s.vars false W args.toList ds [] before)
    (hg : Below W.heap.size W W') :
    s.post enc Tryd.prog f false true false false W args (.bool true) W' :=
  post_read hr hv hfn hsame hvs (fun t ht => argTypesS_read t (hts t ht)) hW hg

theorem wants_seal : Tryd.prog.wantsStandIn 24 = false := by kernel_rfl
theorem cellsSeal : Tryd.prog.cellsOf 24 = 3 := by kernel_rfl

set_option maxRecDepth 100000 in
/-- A slice of texts in a cell. -/
theorem cell_tx {H : Type} {enc : TypeId × Value → H} {W : World} {n : Nat} {v : Value} {y : DataW H × List MemPlace} (hf : DataW.trod enc Tryd.prog W 0 (fun _ => true) true n 22 [v] = some y) :
    ∃ l : List ByteArray, IsTx W v l ∧ (∀ s ∈ l, s.size ≤ 9223372036854775807) := by
  rcases open_strings Tryd.underlying22 Tryd.underlying9 cellsText hf with ⟨hcs, hx⟩ | ⟨a, len, cap, ss, hcs, _, hl, hm, hz, hx, hcell, hws⟩
  · simp at hcs
    subst hcs
    exact ⟨[], IsTx.nil W, by simp⟩
  · simp at hcs
    subst hcs
    have hzl : len ≤ ss.length := by rw [hz]; split <;> omega
    have hlen : (ss.take len).length = len := by rw [List.length_take]; omega
    have hgd : ∀ j, j < len → (ss.take len).getD j ByteArray.empty = ss.getD j ByteArray.empty := by
      intro j hj
      rw [List.getD_eq_getElem?_getD, List.getD_eq_getElem?_getD, List.getElem?_take_of_lt hj]
    refine ⟨ss.take len, ⟨some a, cap, by rw [hlen], by rw [hlen]; exact hl, le_of_max hm, fun hne => ?_⟩, fun s hs => le_of_max (hws s (List.mem_of_mem_take hs))⟩
    have hp : 0 < len := by
      rcases Nat.eq_zero_or_pos len with h0 | h0
      · subst h0; simp at hne
      · exact h0
    obtain ⟨b, off, rfl, hc⟩ := texts_at hcell (by omega)
    exact ⟨b, off, rfl, block_lt_of_cell (hc 0 (by omega)), fun j hj => by rw [hlen] at hj; rw [hgd j hj]; exact hc j (by omega)⟩

set_option maxRecDepth 100000 in
theorem open_seal {H : Type} {enc : TypeId × Value → H} {W : World} {base : Nat} {v : Value} {d : DataW H} {ps : List MemPlace} (hval : Value.okWide Tryd.prog W .any base 24 v)
    (h : DataW.Trod enc Tryd.prog W 0 (fun _ => true) true 24 v d ps) :
    ∃ (i : Int) (ls lp : List ByteArray), IsSeal W v i ls lp ∧ (∀ s ∈ ls, s.size ≤ 9223372036854775807) ∧ (∀ s ∈ lp, s.size ≤ 9223372036854775807) ∧ -9223372036854775808 ≤ i ∧ i ≤ 9223372036854775807 := by
  obtain ⟨v0, v1, v2, y0, y1, y2, n, rfl, rfl, rfl, h0, h1, h2⟩ := Joins.open_agg3 Tryd.underlying24 (by kernel_rfl) cellsSeal hval h
  obtain ⟨i, e0, _, hwf⟩ := DataW.trod_int Tryd.underlying3 h0
  obtain rfl : v0 = .int .i64 i := by simpa using e0
  obtain ⟨ls, t1, s1⟩ := cell_tx h1
  obtain ⟨lp, t2, s2⟩ := cell_tx h2
  exact ⟨i, ls, lp, ⟨v1, v2, rfl, t1, t2⟩, s1, s2, (bounds_i64 hwf).1, (bounds_i64 hwf).2⟩
end Go.Proofs.YthhfcijgcpnfcaaDoor
