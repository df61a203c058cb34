/-
  The walk of fact.Valid.
-/
import Derived.Test.YtjcaingfeaaakaaFIndex
namespace Go.Proofs.Ytjcaingfeaaakaa
open Go.RowKit

theorem Fc.isNm_str (f : Fc.Fact) : Fc.isNm (Lx.tx (Lx.str f.name)) = true ↔ Lx.Good 1 f.name 0 := by rw [Lx.tx_str]; exact Fc.isNm_iff _
theorem Fc.str_size (t : Lx.T) : (Lx.str t).size = t.length := by rw [← Lx.tx_len, Lx.tx_str]
theorem Fc.Says.no {P : Prop} (h : ¬ P) {w w' : World} (hb : Below w.heap.size w w') : Fc.Says P w (.returned (.bool false)) w' := ⟨⟨false, rfl, by simpa using h⟩, hb⟩
theorem Fc.Says.yes {P : Prop} (h : P) {w w' : World} (hb : Below w.heap.size w w') : Fc.Says P w (.returned (.bool true)) w' := ⟨⟨true, rfl, by simpa using h⟩, hb⟩

/-- The first facts are as they must be. -/
def Fc.OkTo (d : List Fc.Fact) (k : Nat) : Prop := ∀ j, j < k → Fc.OkAt d j
/-- The box of a domain. -/
abbrev boxD (w : World) (v : Value) : World := w.alloc (.cells #[v] 27)
theorem boxD_below (w : World) (v : Value) : Below w.heap.size w (boxD w v) := (Below.refl w.heap.size w).alloc (Nat.le_refl _) _
theorem boxD_block (w : World) (v : Value) : (boxD w v).heap[w.heap.size]? = some (.cells #[v] 27 (0, 0)) := heap_alloc_new _ _
theorem boxD_size (w : World) (v : Value) : (boxD w v).heap.size = w.heap.size + 1 := by show (w.heap.push _).size = _; simp
/-- Behind the box: what a round keeps. -/
structure Boxed (w : World) (v : Value) (wr : World) : Prop where
  below : Below w.heap.size w wr
  cell : wr.cell? ⟨w.heap.size, 0, none⟩ = some v
  lt : w.heap.size < wr.heap.size
theorem Boxed.start (w : World) (v : Value) : Boxed w v (boxD w v) := ⟨boxD_below w v, Joins.cell_of_block (boxD_block w v) 0, by rw [boxD_size]; omega⟩
theorem Boxed.next {w wr w2 : World} {v : Value} (h : Boxed w v wr) (hb : Below wr.heap.size wr w2) : Boxed w v w2 :=
  ⟨h.below.trans (hb.mono h.below.size), (hb.cell (p := ⟨w.heap.size, 0, none⟩) h.lt).trans h.cell, Nat.lt_of_lt_of_le h.lt hb.size⟩

set_option maxHeartbeats 4000000 in
set_option maxRecDepth 100000 in
theorem valid_walk (v : Value) (l : List Fc.Fact) (w : World) (hv : Fc.IsF w v l) :
    Calls Try.prog 24 #[.agg #[v]] w (Fc.Says (Fc.Valid l) w) := by
  obtain ⟨P, hP⟩ : ∃ P : Prop, P = Fc.Valid l := ⟨_, rfl⟩
  rw [← hP]
  have HP := Lib.hid (Fc.valid_iff l)
  rw [← hP] at HP
  clear hP
  have HV : Hid (∀ w', Below w.heap.size w w' → Fc.IsF w' v l) := fun w' hb => hv.below hb
  have HS := Lib.hid hv.sized
  obtain ⟨a, c, g, o, rfl, hc1, hc2, hga, hcl⟩ := hv.any
  obtain ⟨n, hn⟩ : ∃ n, n = l.length := ⟨_, rfl⟩
  have hga2 : 0 < n → a = some ⟨g, o, none⟩ ∧ g < w.heap.size := fun h => hga (by rintro rfl; rw [hn] at h; simp at h)
  rw [← hn] at HV HP ⊢
  have HC := Lib.hid hcl
  have HN := Lib.hid hn
  have HG := Lib.hid hga2
  have hnc : n ≤ c := by rw [hn]; exact hc1
  have HB0 := Lib.hid (Boxed.start w (.slice a n c))
  clear hv hcl hn hga hga2 hc1
  by_cases h60' : 60 < n
  · have h60i : (60 : Int) < (n : Int) := by omega
    have hno : ¬ P := fun h => by have := (HP.out.1 h).1; omega
    go_enter Try.func24, Try.ntmps24
    go_wp2_with fail
    go_ret
    exact Fc.Says.no hno HB0.out.below
  have h60 : n ≤ 60 := by omega
  clear h60'
  have h60i : ¬ (60 : Int) < (n : Int) := by omega
  go_enter Try.func24, Try.ntmps24
  go_wp2_with fail
  go_loopw [12] (fun i wr => ∃ k : Nat, k ≤ n ∧ i = .int .i64 k ∧ Hid (Fc.OkTo l k) ∧ Hid (Boxed w (.slice a n c) wr)) (fun i _ => n - (intOf i).toNat)
  case atStart => exact ⟨0, Nat.zero_le _, rfl, fun j hj => absurd hj (by omega), HB0.out⟩
  case round =>
    obtain ⟨k, hk, rfl, hd, hbw⟩ := hrel
    by_cases hlt : k < n
    · have hki : (k : Int) < (n : Int) := by omega
      obtain ⟨f, hf⟩ : ∃ f, l[k]? = some f := ⟨_, List.getElem?_eq_getElem (by rw [← HN.out]; exact hlt)⟩
      obtain ⟨rfl, hg⟩ := HG.out (by omega)
      obtain ⟨p0, p1, p2, p3⟩ := HC.out k f hf
      have p0 := (hbw.out.below.cell (p := ⟨g, o + k * 4, none⟩) hg).trans p0
      have p1 := (hbw.out.below.cell (p := ⟨g, o + k * 4 + 1, none⟩) hg).trans p1
      have p2 := (hbw.out.below.cell (p := ⟨g, o + k * 4 + 2, none⟩) hg).trans p2
      have p3 := (hbw.out.below.cell (p := ⟨g, o + k * 4 + 3, none⟩) hg).trans p3
      have HSf := HS.out f (List.mem_of_getElem? hf)
      obtain ⟨x, hx⟩ : ∃ x, x = Lx.str f.name := ⟨_, rfl⟩
      rw [← hx] at p0
      have hxs : x.size ≤ 9223372036854775807 := by rw [hx, Fc.str_size]; exact HSf.1
      obtain ⟨bn, hbn⟩ : ∃ b, b = Fc.isNm (Lx.tx x) := ⟨_, rfl⟩
      have H1 := Lib.hid (fun w => isname_walk x hxs w)
      rw [← hbn] at H1
      have hK1 : P → bn = true := fun h => by
        obtain ⟨q1, q2, q3⟩ := (HP.out.1 h).2 k (by omega) f hf
        rw [hbn, hx, Lx.tx_str]
        exact (Fc.isNm_iff _).2 q1
      have hK2 : P → Fc.Bounded f ∧ (k : Int) ≤ Fc.idx l (Lx.tx x) := fun h => by
        obtain ⟨q1, q2, q3⟩ := (HP.out.1 h).2 k (by omega) f hf
        rw [hx, Lx.tx_str]
        exact ⟨q2, by omega⟩
      have hD : bn = true → Fc.Bounded f → (k : Int) ≤ Fc.idx l (Lx.tx x) → Fc.OkTo l (k + 1) := fun q1 q2 q3 j hj => by
        by_cases e : j = k
        · subst e
          intro f2 hf2
          rw [hf] at hf2
          obtain rfl := Option.some.inj hf2
          rw [hbn, hx, Lx.tx_str] at q1
          rw [hx, Lx.tx_str] at q3
          exact ⟨(Fc.isNm_iff _).1 q1, q2, by omega⟩
        · exact hd.out j (by omega)
      clear hx hbn hf hd HSf hxs
      have HW1 : Hid (Below wr.heap.size wr (wr.alloc (.cells #[.string x, .int .i64 f.kind, .int .i64 f.lo, .int .i64 f.hi] 52))) := (Below.refl wr.heap.size wr).alloc (Nat.le_refl _) _
      have HN1 : Hid ((wr.alloc (.cells #[.string x, .int .i64 f.kind, .int .i64 f.lo, .int .i64 f.hi] 52)).heap[wr.heap.size]? = some (.cells #[.string x, .int .i64 f.kind, .int .i64 f.lo, .int .i64 f.hi] 52 (0, 0))) := heap_alloc_new _ _
      obtain ⟨zz, hz⟩ : ∃ z, z = Fc.idx l (Lx.tx x) := ⟨_, rfl⟩
      have H2 := Lib.hid (fun w' hb => index_walk _ l x w' (HV.out w' hb))
      rw [← hz] at hK2 hD H2
      have HK2 := Lib.hid hK2
      have HD := Lib.hid hD
      clear hz hK2 hD
      by_cases hbn : ¬ bn = true
      · have hno : ¬ P := fun h => hbn (hK1 h)
        obtain rfl : bn = false := by simpa using hbn
        clear hK1 hbn
        go_wp2_with (first | (refine (H1.out _).mono ?_; rintro e w1 ⟨rfl, rfl⟩))
        go_ret
        exact Fc.Says.no hno (hbw.out.next HW1.out).below
      obtain rfl : bn = true := by simpa using hbn
      have HDa := Lib.hid (HD.out rfl)
      clear hK1 hbn HD
      go_wp2_with fail
      refine (H1.out _).mono ?_
      rintro e w1 ⟨rfl, rfl⟩
      · clear p0 p1 p2 p3
        go_wp2_with fail
        refine (isbounded_walk x f.kind f.lo f.hi _).mono ?_
        rintro e w2 ⟨⟨b, rfl, hb⟩, hb2⟩
        have hb2' : Below wr.heap.size wr w2 := HW1.out.trans (hb2.mono HW1.out.size)
        have hbx := hbw.out.next hb2'
        have hn2 := (hb2.block wr.heap.size (Array.getElem?_eq_some_iff.1 HN1.out).1).trans HN1.out
        have q0 := Joins.cell_of_block hn2 0
        have q1 := hbx.cell
        have HX := Lib.hid hbx
        clear hn2 hb2 hb2' HW1 HN1
        cases b with
        | false =>
          have hno : ¬ P := fun h => by have := hb.2 (HK2.out h).1; cases this
          clear hbx
          go_wp2_with fail
          go_ret
          exact Fc.Says.no hno HX.out.below
        | true =>
          have hbd := hb.1 rfl
          have HI := Lib.hid (H2.out w2 hbx.below)
          have HDb := Lib.hid (HDa.out hbd)
          clear hbx HDa hb hbd
          by_cases hzk : zz < (k : Int)
          · have hno : ¬ P := fun h => by have := (HK2.out h).2; omega
            go_wp2_with (first | (refine HI.out.mono ?_; rintro e w3 ⟨rfl, hb3⟩))
            go_ret
            exact Fc.Says.no hno (HX.out.next hb3).below
          · have HDD := Lib.hid (HDb.out (by omega))
            go_wp2_with (first | (refine HI.out.mono ?_; rintro e w3 ⟨rfl, hb3⟩))
            go_roundw
            case rel => exact ⟨k + 1, by omega, by go_num, HDD, HX.out.next hb3⟩
            case measure => simp [intOf]; omega
    · have hki : ¬ (k : Int) < (n : Int) := by omega
      have hyes : P := HP.out.2 ⟨h60, fun j hj => hd.out j (by omega)⟩
      clear hd
      go_wp2_with fail
      go_ret
      exact Fc.Says.yes hyes hbw.out.below
end Go.Proofs.Ytjcaingfeaaakaa
