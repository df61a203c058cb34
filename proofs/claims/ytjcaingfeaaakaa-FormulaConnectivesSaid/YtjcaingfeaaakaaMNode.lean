/-
  The walk of formula.nodeError.
-/
import Derived.Test.YtjcaingfeaaakaaMWf
namespace Go.Proofs.Ytjcaingfeaaakaa
open Go.RowKit

namespace Fm
/-- Whether a domain has a fact with a name. -/
abbrev fs (d : List Fc.Fact) (x : T) : Bool := decide (0 ≤ Fc.idx d x)
/-- A function value says which terms there are. -/
def Says (g : Nat) (lb : Array Value) (ts : T → Bool) (w : World) : Prop := ∀ (W : World) (x : T), Below w.heap.size w W → x.length ≤ 9223372036854775807 → Calls Try.prog g (#[.string (Lx.str x)] ++ lb) W fun e W' => e = .returned (.bool (ts x)) ∧ Below W.heap.size W W'
theorem Says.below {g : Nat} {lb : Array Value} {ts : T → Bool} {w w' : World} (h : Says g lb ts w) (hb : Below w.heap.size w w') : Says g lb ts w' := fun W x hW hx => h W x (hb.trans (hW.mono hb.size)) hx
end Fm

set_option maxHeartbeats 4000000 in
set_option maxRecDepth 100000 in
theorem nodeerr_walk (f : Fm.Fo) (u v : Value) (d : List Fc.Fact) (g : Nat) (lb : Array Value) (ts : Fm.T → Bool) (w : World) (hat : Fm.At w f u) (hd : Fc.IsF w v d) (hent : ∀ args w, (callFunc g args).run Try.prog w = .ok (.enter g args) w) (ht : Fm.Says g lb ts w) :
    Calls Try.prog 58 #[Fm.fv f u, .agg #[v], .func (.func g) #[] lb] w fun e w' => e = .returned (.int .i64 (Fm.err1 Fc.isNm (Fm.fs d) ts f : Nat)) ∧ Below w.heap.size w w' := by
  have hw := wf_walk f u
  have hsz := hat.sized
  obtain ⟨va, vc, hv0, _, _⟩ := hd.form
  obtain ⟨ua, uc, hu0, _, _⟩ := hat.kidsAt.len
  obtain ⟨o, x, c, n, ks⟩ := f
  obtain ⟨m, hm⟩ : ∃ m, m = ks.length := ⟨_, rfl⟩
  obtain ⟨md, hmd⟩ : ∃ m, m = d.length := ⟨_, rfl⟩
  dsimp only [Fm.Fo.kids] at hu0
  rw [← hm] at hu0
  rw [← hmd] at hv0
  subst hu0 hv0
  obtain ⟨z, hz⟩ : ∃ z, z = Fm.err1 Fc.isNm (Fm.fs d) ts (.mk o x c n ks) := ⟨_, rfl⟩
  obtain ⟨b, hb⟩ : ∃ b, b = Fm.wf Fc.isNm (.mk o x c n ks) := ⟨_, rfl⟩
  rw [← hz]
  rw [Fm.err1, ← hb] at hz
  dsimp only [Fm.fv, Fm.Fo.op, Fm.Fo.name, Fm.Fo.cmp, Fm.Fo.num] at hw ⊢
  -- the two boxes
  obtain ⟨W2, hW2⟩ : ∃ W2, W2 = (w.alloc (.cells #[.int .i64 o, .string (Lx.str x), .int .i64 c, .int .i64 n, .slice ua m uc] 24)).alloc (.cells #[.slice va md vc] 27) := ⟨_, rfl⟩
  have hb2 : Below w.heap.size w W2 := by rw [hW2]; exact ((Below.refl _ _).alloc (Nat.le_refl _) _).alloc (by simp) _
  have k0 : W2.heap[w.heap.size]? = some (.cells #[.int .i64 o, .string (Lx.str x), .int .i64 c, .int .i64 n, .slice ua m uc] 24 (0, 0)) := by
    rw [hW2, Below.heap_alloc _ _ _ (by simp)]; exact heap_alloc_new _ _
  have k1 : W2.heap[w.heap.size + 1]? = some (.cells #[.slice va md vc] 27 (0, 0)) := by
    rw [hW2]; have := heap_alloc_new (w.alloc (.cells #[.int .i64 o, .string (Lx.str x), .int .i64 c, .int .i64 n, .slice ua m uc] 24)) (.cells #[.slice va md vc] 27); simpa using this
  have HW := Lib.hid (hw W2 (hat.below hb2))
  rw [← hb] at HW
  have HI : Hid (∀ W, Below W2.heap.size W2 W → Calls Try.prog 48 #[.agg #[.slice va md vc], .string (Lx.str x)] W fun e w' => e = .returned (.int .i64 (Fc.idx d x)) ∧ Below W.heap.size W w') := fun W hW => by
    have := index_walk _ d (Lx.str x) W (hd.below (hb2.trans (hW.mono hb2.size)))
    rw [Lx.tx_str] at this
    exact this
  have HT : Hid (∀ W, Below W2.heap.size W2 W → Calls Try.prog g (#[.string (Lx.str x)] ++ lb) W fun e W' => e = .returned (.bool (ts x)) ∧ Below W.heap.size W W') := fun W hW => ht W x (hb2.trans (hW.mono hb2.size)) hsz.2.1
  have HB2 := Lib.hid hb2
  have HK : Hid (∀ W, Below W2.heap.size W2 W → W.heap[w.heap.size]? = some (.cells #[.int .i64 o, .string (Lx.str x), .int .i64 c, .int .i64 n, .slice ua m uc] 24 (0, 0)) ∧ W.heap[w.heap.size + 1]? = some (.cells #[.slice va md vc] 27 (0, 0))) := fun W hW =>
    ⟨(hW.block _ (Array.getElem?_eq_some_iff.1 k0).1).trans k0, (hW.block _ (Array.getElem?_eq_some_iff.1 k1).1).trans k1⟩
  have HZ := Lib.hid hz
  obtain ⟨t, htt⟩ : ∃ t, t = ts x := ⟨_, rfl⟩
  obtain ⟨q, hq⟩ : ∃ q, q = Fc.idx d x := ⟨_, rfl⟩
  have hfs : Fm.fs d x = decide (0 ≤ q) := by rw [hq]
  rw [← htt] at HT
  rw [← hq] at HI
  rw [hfs, ← htt] at HZ
  have q0 := Joins.cell_of_block k0 0
  have q1 := Joins.cell_of_block k0 1
  have q2 := Joins.cell_of_block k0 2
  have q3 := Joins.cell_of_block k0 3
  have q4 := Joins.cell_of_block k0 4
  have hlt : w.heap.size + 1 < W2.heap.size := (Array.getElem?_eq_some_iff.1 k1).1
  clear hw hat hd ht hz hb hfs htt hq hsz hb2 k0 k1 hm hmd
  go_enter Try.func58, Try.ntmps58
  go_wp2_with fail
  rw [← hW2]
  refine HW.out.mono ?_
  rintro e w3 ⟨rfl, hb3⟩
  clear q0 q1 q2 q3 q4
  obtain ⟨k0, k1⟩ := HK.out w3 hb3
  have q0 := Joins.cell_of_block k0 0
  have q1 := Joins.cell_of_block k0 1
  have q3 := Joins.cell_of_block k0 3
  have q5 := Joins.cell_of_block k1 0
  have HB3 := Lib.hid hb3
  have HBE : Hid (∀ w', Below w3.heap.size w3 w' → Below w.heap.size w w') := fun w' h => HB2.out.trans ((hb3.trans (h.mono hb3.size)).mono HB2.out.size)
  clear hb3 HK HW HB2 k0 k1
  cases b with
  | false =>
    have hz : z = 1 := by rw [HZ.out, if_pos rfl]
    subst hz
    clear HZ HI HT
    go_wp2_with fail
    go_ret
    exact ⟨rfl, HBE.out _ (Below.refl _ _)⟩
  | true =>
    have HZ2 : Hid (z = if o = 3 then if n < 0 ∨ 1000000 < n then 10 else if decide (0 ≤ q) = false then 7 else 0 else if o = 4 then if t = false then 7 else 0 else 0) := by
      show _ = _
      rw [HZ.out, if_neg (by decide)]
    clear HZ
    by_cases h3 : o = 3
    · subst h3
      by_cases hn : n < 0 ∨ 1000000 < n
      · have hz : z = 10 := by rw [HZ2.out, if_pos rfl, if_pos hn]
        subst hz
        clear HZ2 HI HT
        by_cases hn0 : n < 0
        · go_wp2_with fail
          go_ret
          exact ⟨rfl, HBE.out _ (Below.refl _ _)⟩
        · have hn1 : 1000000 < n := by omega
          go_wp2_with fail
          go_ret
          exact ⟨rfl, HBE.out _ (Below.refl _ _)⟩
      · have hn0 : ¬ n < 0 := by omega
        have hn1 : ¬ 1000000 < n := by omega
        have HZ3 : Hid (z = if decide (0 ≤ q) = false then 7 else 0) := by
          show _ = _
          rw [HZ2.out, if_pos rfl, if_neg hn]
        clear hn HZ2
        go_wp2_with fail
        refine (HI.out _ HB3.out).mono ?_
        rintro e w4 ⟨rfl, hb4⟩
        have HX := Lib.hid (HBE.out _ hb4)
        have r0 := (hb4.cell (p := ⟨w.heap.size, 0, none⟩) (block_lt_of_cell q0)).trans q0
        clear hb4 HI HT HBE HB3
        by_cases hq : q < 0
        · have hz : z = 7 := by rw [HZ3.out, decide_eq_false (by omega), if_pos rfl]
          subst hz
          go_wp2_with fail
          go_ret
          exact ⟨rfl, HX.out⟩
        · have hz : z = 0 := by rw [HZ3.out, decide_eq_true (by omega), if_neg (by decide)]
          subst hz
          go_wp2_with fail
          go_ret
          exact ⟨rfl, HX.out⟩
    · by_cases h4 : o = 4
      · subst h4
        clear HI
        cases t with
        | false =>
          have hz : z = 7 := by rw [HZ2.out, if_neg h3, if_pos rfl, if_pos rfl]
          subst hz
          clear HZ2
          go_wp2_with fail
          refine (HT.out _ HB3.out).mono ?_
          rintro e w4 ⟨rfl, hb4⟩
          have HX := Lib.hid (HBE.out _ hb4)
          go_wp2_with fail
          go_ret
          exact ⟨rfl, HX.out⟩
        | true =>
          have hz : z = 0 := by rw [HZ2.out, if_neg h3, if_pos rfl, if_neg (by decide)]
          subst hz
          clear HZ2
          go_wp2_with fail
          refine (HT.out _ HB3.out).mono ?_
          rintro e w4 ⟨rfl, hb4⟩
          have HX := Lib.hid (HBE.out _ hb4)
          go_wp2_with fail
          go_ret
          exact ⟨rfl, HX.out⟩
      · have hz : z = 0 := by rw [HZ2.out, if_neg h3, if_neg h4]
        subst hz
        clear HZ2 HI HT
        go_wp2_with fail
        go_ret
        exact ⟨rfl, HBE.out _ (Below.refl _ _)⟩
end Go.Proofs.Ytjcaingfeaaakaa
