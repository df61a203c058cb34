/-
  What the laws' proofs of stage 7 share beside the frame: a formula, and texts, read from an argument.
-/
import Derived.Test.YtjcaingfeaaakaaLFrameM
import Derived.ChangeArms
import Derived.ChangeMaps5
namespace Go.Proofs.Ytjcaingfeaaakaa
open Go.ChangeShapes Go.WideShapes Go.ChangeAt Go.RowKit

theorem cellsFormula : Try.prog.cellsOf 24 = 5 := by kernel_rfl
theorem cellsKids : Try.prog.cellsOf 22 = 1 := by kernel_rfl
instance : Inhabited Fm.Fo := ⟨.mk 0 [] 0 0 []⟩

/-- A formula in five cells of a row. -/
def KidAt (W : World) (a : Addr) (i : Nat) (k : Fm.Fo) : Prop :=
  W.cell? (a.add (i * 5)) = some (.int .i64 k.op) ∧ W.cell? (a.add (i * 5 + 1)) = some (.string (Lx.str k.name)) ∧ W.cell? (a.add (i * 5 + 2)) = some (.int .i64 k.cmp) ∧ W.cell? (a.add (i * 5 + 3)) = some (.int .i64 k.num) ∧ ∃ u, W.cell? (a.add (i * 5 + 4)) = some u ∧ Fm.At W k u

set_option maxRecDepth 100000 in
set_option maxHeartbeats 1000000 in
theorem form_at {H : Type} {enc : TypeId × Value → H} {W : World} : ∀ (fuel : Nat) (cs : List Value) (y : DataW H × List MemPlace), DataW.trod enc Try.prog W 0 (fun _ => true) true fuel 24 cs = some y → ∃ f u, cs = Fm.cellsF f u ∧ Fm.At W f u := by
  intro fuel
  induction fuel using Nat.strongRecOn with
  | _ fuel ih =>
    intro cs y hf
    obtain ⟨xs, n, rfl, _, hl, hlen, hx⟩ := DataW.trod_struct Try.underlying24 hf
    rw [cellsFormula] at hl
    match xs, hlen with
    | [y0, y1, y2, y3, y4], _ =>
      match cs, hl with
      | [c0, c1, c2, c3, c4], _ =>
        have k0 : DataW.trod enc Try.prog W 0 (fun _ => true) true n 3 [c0] = some y0 := by simpa [cellsStr, cellsInt, cellsKids] using hx 0 _ rfl
        have k1 : DataW.trod enc Try.prog W 0 (fun _ => true) true n 9 [c1] = some y1 := by simpa [cellsStr, cellsInt, cellsKids] using hx 1 _ rfl
        have k2 : DataW.trod enc Try.prog W 0 (fun _ => true) true n 3 [c2] = some y2 := by simpa [cellsStr, cellsInt, cellsKids] using hx 2 _ rfl
        have k3 : DataW.trod enc Try.prog W 0 (fun _ => true) true n 3 [c3] = some y3 := by simpa [cellsStr, cellsInt, cellsKids] using hx 3 _ rfl
        have k4 : DataW.trod enc Try.prog W 0 (fun _ => true) true n 22 [c4] = some y4 := by simpa [cellsStr, cellsInt, cellsKids] using hx 4 _ rfl
        obtain ⟨i0, g0, _, z0⟩ := DataW.trod_int Try.underlying3 k0
        obtain ⟨s, g1, _, z1⟩ := DataW.trod_string Try.underlying9 k1
        obtain ⟨i2, g2, _, z2⟩ := DataW.trod_int Try.underlying3 k2
        obtain ⟨i3, g3, _, z3⟩ := DataW.trod_int Try.underlying3 k3
        obtain rfl : c0 = .int .i64 i0 := by simpa using g0
        obtain rfl : c1 = .string s := by simpa using g1
        obtain rfl : c2 = .int .i64 i2 := by simpa using g2
        obtain rfl : c3 = .int .i64 i3 := by simpa using g3
        have hk : ∃ ks, Fm.IsK W c4 ks := by
          rcases DataW.trod_slice Try.underlying22 k4 with ⟨hcs, _⟩ | ⟨a, len, cap, elems, rest, m, rfl, hcs, _, _, hlc, hcm, hel, hall, _⟩
          · obtain rfl : c4 = .slice none 0 0 := by simpa using hcs
            exact ⟨[], Fm.IsK.nil W⟩
          · obtain rfl : c4 = .slice (some a) len cap := by simpa using hcs
            rw [cellsFormula] at hall
            obtain ⟨F, hF⟩ := Deep.choose_lt (n := len) (p := fun i k => KidAt W a i k) (fun i hi => by
              have h1 := hall i hi
              rw [List.getElem?_eq_getElem (by omega)] at h1
              obtain ⟨cs', h2, h3⟩ := Option.bind_eq_some_iff.1 h1
              obtain ⟨k, u, rfl, hu⟩ := ih m (by omega) cs' _ h3
              obtain ⟨_, _, hcell⟩ := World.cells?_some h2
              have e0 := hcell 0 (by omega)
              have e1 := hcell 1 (by omega)
              have e2 := hcell 2 (by omega)
              have e3 := hcell 3 (by omega)
              have e4 := hcell 4 (by omega)
              rw [Deep.add_add] at e0 e1 e2 e3 e4
              simp only [Fm.cellsF, List.getElem?_cons_zero, List.getElem?_cons_succ, Nat.add_zero] at e0 e1 e2 e3 e4
              exact ⟨k, e0, e1, e2, e3, u, e4, hu⟩)
            have hlen2 : ((List.range len).map F).length = len := by simp
            refine ⟨(List.range len).map F, some a, cap, by rw [hlen2], by rw [hlen2]; exact hlc, le_of_max hcm, fun hne => ?_⟩
            have hp : 0 < len := by
              rcases Nat.eq_zero_or_pos len with h0 | h0
              · subst h0; simp at hne
              · exact h0
            obtain ⟨b, off, spot⟩ := a
            have hspot : spot = none := by simpa [Addr.add] using World.cell?_spot (hF 0 hp).1
            subst hspot
            have h00 := (hF 0 hp).1
            rw [Go.WideShapes.add_plain] at h00
            refine ⟨b, off, rfl, block_lt_of_cell h00, Fm.Row.of fun j k hj => ?_⟩
            obtain ⟨hi, rfl⟩ : j < len ∧ F j = k := by
              rw [List.getElem?_map] at hj
              by_cases hi : j < len
              · rw [List.getElem?_range hi] at hj
                exact ⟨hi, by simpa using hj⟩
              · rw [List.getElem?_eq_none (by simp; omega)] at hj; cases hj
            obtain ⟨p0, p1, p2, p3, u, p4, hu⟩ := hF j hi
            rw [Go.WideShapes.add_plain] at p0 p1 p2 p3 p4
            exact ⟨⟨p0, p1, p2, p3⟩, u, p4, hu⟩
        obtain ⟨ks, hks⟩ := hk
        refine ⟨.mk i0 (Lx.tx s) i2 i3 ks, c4, ?_, Fm.at_iff.2 ⟨⟨bounds_i64 z0, ?_, bounds_i64 z2, bounds_i64 z3⟩, hks⟩⟩
        · show _ = [Value.int .i64 i0, .string (Lx.str (Lx.tx s)), .int .i64 i2, .int .i64 i3, c4]
          rw [Lx.str_tx]
        · show (Lx.tx s).length ≤ _
          rw [Lx.tx_len]; exact le_of_max z1

set_option maxRecDepth 100000 in
theorem open_formula {H : Type} {enc : TypeId × Value → H} {W : World} {base : Nat} {v : Value} {d : DataW H} {ps : List MemPlace} (hval : Value.okWide Try.prog W .any base 24 v)
    (h : DataW.Trod enc Try.prog W 0 (fun _ => true) true 24 v d ps) : ∃ (f : Fm.Fo) (u : Value), v = Fm.fv f u ∧ Fm.At W f u := by
  obtain ⟨cs, rfl, hsz⟩ := okWide_struct Try.underlying24 hval
  obtain ⟨fuel, hf⟩ := h
  obtain ⟨f, u, he, ha⟩ := form_at fuel _ _ hf
  refine ⟨f, u, ?_, ha⟩
  have : cs.toList = Fm.cellsF f u := by simpa [Value.cells] using he
  rw [show cs = (Fm.cellsF f u).toArray by rw [← this, Array.toArray_toList]]
  rfl

set_option maxRecDepth 100000 in
theorem open_list {H : Type} {enc : TypeId × Value → H} {W : World} {base : Nat} {v : Value} {d : DataW H} {ps : List MemPlace} (hval : Value.okWide Try.prog W .any base 30 v)
    (h : DataW.Trod enc Try.prog W 0 (fun _ => true) true 30 v d ps) : ∃ l : List Fm.T, Fm.IsT W v l := by
  obtain ⟨a0, len, cap, rfl⟩ := okWide_slice Try.underlying30 hval
  obtain ⟨fuel, hf⟩ := h
  rcases DataW.trod_slice Try.underlying30 hf with ⟨hcs, _⟩ | ⟨a, len', cap', elems, rest, m, rfl, hcs, _, _, hlc, hcm, hel, hall, _⟩
  · simp [Value.cells] at hcs
    obtain ⟨rfl, rfl, rfl⟩ := hcs
    exact ⟨[], Fm.IsT.nil W⟩
  · simp [Value.cells] at hcs
    obtain ⟨rfl, rfl, rfl⟩ := hcs
    rw [cellsStr] at hall
    obtain ⟨F, hF⟩ := Deep.choose_lt (n := len) (p := fun i (t : Fm.T) => t.length ≤ 9223372036854775807 ∧ W.cell? (a.add i) = some (.string (Lx.str t))) (fun i hi => by
      have h1 := hall i hi
      rw [List.getElem?_eq_getElem (by omega)] at h1
      obtain ⟨cs', h2, h3⟩ := Option.bind_eq_some_iff.1 h1
      obtain ⟨s, g1, _, z1⟩ := DataW.trod_string Try.underlying9 h3
      subst g1
      obtain ⟨_, _, hcell⟩ := World.cells?_some h2
      have e0 := hcell 0 (by omega)
      rw [Deep.add_add] at e0
      simp only [List.getElem?_cons_zero, Nat.add_zero, Nat.mul_one] at e0
      exact ⟨Lx.tx s, by rw [Lx.tx_len]; exact le_of_max z1, by rw [Lx.str_tx]; exact e0⟩)
    have hlen2 : ((List.range len).map F).length = len := by simp
    refine ⟨(List.range len).map F, some a, cap, by rw [hlen2], by rw [hlen2]; exact hlc, le_of_max hcm, fun t ht => ?_, fun hne => ?_⟩
    · obtain ⟨i, hi, rfl⟩ := List.mem_map.1 ht
      exact (hF i (List.mem_range.1 hi)).1
    · have hp : 0 < len := by
        rcases Nat.eq_zero_or_pos len with h0 | h0
        · subst h0; simp at hne
        · exact h0
      obtain ⟨b, off, spot⟩ := a
      have hspot : spot = none := by simpa [Addr.add] using World.cell?_spot (hF 0 hp).2
      subst hspot
      have h00 := (hF 0 hp).2
      rw [Go.WideShapes.add_plain] at h00
      refine ⟨b, off, rfl, block_lt_of_cell h00, fun i t ht => ?_⟩
      obtain ⟨hi, rfl⟩ : i < len ∧ F i = t := by
        rw [List.getElem?_map] at ht
        by_cases hi : i < len
        · rw [List.getElem?_range hi] at ht
          exact ⟨hi, by simpa using ht⟩
        · rw [List.getElem?_eq_none (by simp; omega)] at ht; cases ht
      rw [← Go.WideShapes.add_plain]; exact (hF i hi).2
end Go.Proofs.Ytjcaingfeaaakaa
