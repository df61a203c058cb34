import Derived.Test.YtoamkanofhhjfaaGreatDoorKFName
import Derived.Deep.RegionHeld3
import Derived.Deep.QuietTactic
import Derived.BigQuiet
/-
  The walks of fact.Index, with slices.IndexFunc and the closure.
-/
namespace Go.Proofs.YtoamkanofhhjfaaGreatDoor
open Go.RowKit

set_option maxHeartbeats 1000000 in
set_option maxRecDepth 100000 in
theorem index1_walk (s u : ByteArray) (k lo hi : Int) (B : Nat) (w : World) (hB : w.heap[B]? = some (.cells #[.string u] 9 (0, 0))) :
    Calls Tryz.prog 45 #[.agg #[.string s, .int .i64 k, .int .i64 lo, .int .i64 hi], .pointer (some ⟨B, 0, none⟩)] w fun e w' => e = .returned (.bool (s.toList == u.toList)) ∧ Below w.heap.size w w' := by
  have HB := Lib.hid ((Below.refl w.heap.size w).alloc (Nat.le_refl _) (.cells #[.string s, .int .i64 k, .int .i64 lo, .int .i64 hi] 64))
  have hlt := (Array.getElem?_eq_some_iff.1 hB).1
  have hc : (w.alloc (.cells #[.string s, .int .i64 k, .int .i64 lo, .int .i64 hi] 64)).cell? ⟨B, 0, none⟩ = some (.string u) := (HB.out.cell (p := ⟨B, 0, none⟩) hlt).trans (Joins.cell_of_block hB 0)
  clear hB
  go_enter Tryz.func45, Tryz.ntmps45
  go_wp2_with fail
  go_ret
  exact ⟨rfl, HB.out⟩

theorem Fc.name_eq (t : Lx.T) (u : ByteArray) : ((Lx.str t).toList == u.toList) = true ↔ t = Lx.tx u := by
  rw [Lib.toList_data, Lib.toList_data, beq_iff_eq]
  exact Iff.rfl
theorem Fc.idx_of {d : List Fc.Fact} {name : Lx.T} {i : Nat} {f : Fc.Fact} (h : d[i]? = some f) (hn : f.name = name) (hj : ∀ j, j < i → ∀ g, d[j]? = some g → g.name ≠ name) : Fc.idx d name = i :=
  Fc.idx_some (Fc.index_some_iff.2 ⟨f, h, hn, hj⟩)
theorem Fc.idx_not {d : List Fc.Fact} {name : Lx.T} (hj : ∀ j, j < d.length → ∀ g, d[j]? = some g → g.name ≠ name) : Fc.idx d name = -1 := by
  refine Fc.idx_none (Fc.index_none_iff.2 fun h => ?_)
  obtain ⟨f, hf, hn⟩ := List.mem_map.1 h
  obtain ⟨i, hi, rfl⟩ := List.getElem_of_mem hf
  exact hj i hi _ (List.getElem?_eq_getElem hi) hn

set_option maxHeartbeats 2000000 in
set_option maxRecDepth 100000 in
theorem indexfunc_walk (v : Value) (l : List Fc.Fact) (u : ByteArray) (B : Nat) (w : World) (hv : Fc.IsF w v l) (hB : w.heap[B]? = some (.cells #[.string u] 9 (0, 0))) :
    Calls Tryz.prog 44 #[v, .func (.func 45) #[] #[.pointer (some ⟨B, 0, none⟩)]] w fun e w' => e = .returned (.int .i64 (Fc.idx l (Lx.tx u))) ∧ Below w.heap.size w w' := by
  obtain ⟨a, c, g, o, rfl, hc1, hc2, hga, hcl⟩ := hv.any
  obtain ⟨n, hn⟩ : ∃ n, n = l.length := ⟨_, rfl⟩
  obtain ⟨z, hz⟩ : ∃ z, z = Fc.idx l (Lx.tx u) := ⟨_, rfl⟩
  have hga : 0 < n → a = some ⟨g, o, none⟩ ∧ g < w.heap.size := fun h => hga (by rintro rfl; rw [hn] at h; simp at h)
  rw [← hn, ← hz]
  have HC := Lib.hid hcl
  have HN := Lib.hid hn
  have HZ := Lib.hid hz
  have HG := Lib.hid hga
  have HB := Lib.hid hB
  have hblt := (Array.getElem?_eq_some_iff.1 hB).1
  have hnc : n ≤ c := by rw [hn]; exact hc1
  clear hv hcl hn hz hga hB hc1
  go_enter Tryz.func44, Tryz.ntmps44
  go_wp2_with fail
  go_loopw [8] (fun i wr => ∃ k : Nat, k ≤ n ∧ i = .int .i64 k ∧ Hid (∀ j, j < k → ∀ f, l[j]? = some f → f.name ≠ Lx.tx u) ∧ Below w.heap.size w wr) (fun i _ => n - (intOf i).toNat)
  case atStart => exact ⟨0, Nat.zero_le _, rfl, fun j hj => absurd hj (by omega), Below.refl _ _⟩
  case round =>
    obtain ⟨k, hk, rfl, hd, hbw⟩ := hrel
    by_cases hlt : k < n
    · have hkl : k < l.length := by rw [← HN.out]; exact hlt
      obtain ⟨f, hf⟩ : ∃ f, l[k]? = some f := ⟨_, List.getElem?_eq_getElem hkl⟩
      obtain ⟨rfl, hg⟩ := HG.out (by omega)
      obtain ⟨p0, p1, p2, p3⟩ := HC.out k f hf
      have p0 := (hbw.cell (p := ⟨g, o + k * 4, none⟩) hg).trans p0
      have p1 := (hbw.cell (p := ⟨g, o + k * 4 + 1, none⟩) hg).trans p1
      have p2 := (hbw.cell (p := ⟨g, o + k * 4 + 2, none⟩) hg).trans p2
      have p3 := (hbw.cell (p := ⟨g, o + k * 4 + 3, none⟩) hg).trans p3
      have hBw := (hbw.block B hblt).trans HB.out
      obtain ⟨x, hx⟩ : ∃ x, x = Lx.str f.name := ⟨_, rfl⟩
      rw [← hx] at p0
      have HI := Lib.hid (index1_walk x u f.kind f.lo f.hi B wr hBw)
      have hki : (k : Int) < (n : Int) := by omega
      clear hBw
      by_cases he : f.name = Lx.tx u
      · have hzk : z = (k : Int) := by rw [HZ.out]; exact Fc.idx_of hf he hd.out
        subst hzk
        have hq : (x.toList == u.toList) = true := by rw [hx]; exact (Fc.name_eq _ _).2 he
        rw [hq] at HI
        clear hq he hf hd hx
        go_wp2_with (first | (refine HI.out.mono ?_; rintro e w1 ⟨rfl, hb1⟩))
        go_ret
        exact ⟨rfl, hbw.trans (hb1.mono hbw.size)⟩
      · have hq : (x.toList == u.toList) = false := by rw [hx]; rw [Bool.eq_false_iff]; intro h; exact he ((Fc.name_eq _ _).1 h)
        rw [hq] at HI
        have HD : Hid (∀ j, j < k + 1 → ∀ f, l[j]? = some f → f.name ≠ Lx.tx u) := fun j hj f2 hf2 => by
          by_cases e : j = k
          · subst e; rw [hf] at hf2; rw [← Option.some.inj hf2]; exact he
          · exact hd.out j (by omega) f2 hf2
        clear hq he hf hd hx
        go_wp2_with (first | (refine HI.out.mono ?_; rintro e w1 ⟨rfl, hb1⟩))
        go_roundw
        case rel => exact ⟨k + 1, by omega, by go_num, HD, hbw.trans (hb1.mono hbw.size)⟩
        case measure => simp [intOf]; omega
    · have hki : ¬ (k : Int) < (n : Int) := by omega
      have hzk : z = -1 := by rw [HZ.out]; exact Fc.idx_not (fun j hj => hd.out j (by rw [← HN.out] at hj; omega))
      subst hzk
      clear hd
      go_wp2_with fail
      go_ret
      exact ⟨rfl, hbw⟩

set_option maxHeartbeats 2000000 in
set_option maxRecDepth 100000 in
theorem index_walk (v : Value) (l : List Fc.Fact) (u : ByteArray) (w : World) (hv : Fc.IsF w v l) :
    Calls Tryz.prog 16 #[.agg #[v], .string u] w fun e w' => e = .returned (.int .i64 (Fc.idx l (Lx.tx u))) ∧ Below w.heap.size w w' := by
  have hmf : ∀ (fn : Fn) (first cap : Array Value) (w : World), (Instr.makeFunc fn first cap).run Tryz.prog w = .ok (.func fn first cap) w := fun _ _ _ _ => rfl
  obtain ⟨a, c, rfl, _, _⟩ := hv.form
  obtain ⟨n, hn⟩ : ∃ n, n = l.length := ⟨_, rfl⟩
  obtain ⟨z, hz⟩ : ∃ z, z = Fc.idx l (Lx.tx u) := ⟨_, rfl⟩
  rw [← hn] at hv ⊢
  rw [← hz]
  have hb2 : Below w.heap.size w ((w.alloc (.cells #[.slice a n c] 24)).alloc (.cells #[.string u] 9)) := ((Below.refl w.heap.size w).alloc (Nat.le_refl _) _).alloc (by simp) _
  have hnew := heap_alloc_new (w.alloc (.cells #[.slice a n c] 24)) (.cells #[.string u] 9)
  have HI := Lib.hid (indexfunc_walk _ l u (w.heap.size + 1) _ (hv.below hb2) (by simpa using hnew))
  rw [← hz] at HI
  have HB := Lib.hid hb2
  clear hv hb2 hnew hz hn
  go_enter Tryz.func16, Tryz.ntmps16
  go_wp2_with (first | (refine HI.out.mono ?_; rintro e w1 ⟨rfl, hb1⟩))
  go_ret
  exact ⟨rfl, HB.out.trans (hb1.mono HB.out.size)⟩
end Go.Proofs.YtoamkanofhhjfaaGreatDoor
/-
  The walk of fact.Valid.
-/
namespace Go.Proofs.YtoamkanofhhjfaaGreatDoor
open Go.RowKit

theorem Fc.isNm_str (f : Fc.Fact) : Fc.isNm (Lx.tx (Lx.str f.name)) = true ↔ Lx.Good 1 f.name 0 := by rw [Lx.tx_str]; exact Fc.isNm_iff _
theorem Fc.str_size (t : Lx.T) : (Lx.str t).size = t.length := by rw [← Lx.tx_len, Lx.tx_str]
theorem Fc.Says.no {P : Prop} (h : ¬ P) {w w' : World} (hb : Below w.heap.size w w') : Fc.Says P w (.returned (.bool false)) w' := ⟨⟨false, rfl, by simpa using h⟩, hb⟩
theorem Fc.Says.yes {P : Prop} (h : P) {w w' : World} (hb : Below w.heap.size w w') : Fc.Says P w (.returned (.bool true)) w' := ⟨⟨true, rfl, by simpa using h⟩, hb⟩

/-- The first facts are as they must be. -/
def Fc.OkTo (d : List Fc.Fact) (k : Nat) : Prop := ∀ j, j < k → Fc.OkAt d j
/-- The box of a domain. -/
abbrev boxD (w : World) (v : Value) : World := w.alloc (.cells #[v] 24)
theorem boxD_below (w : World) (v : Value) : Below w.heap.size w (boxD w v) := (Below.refl w.heap.size w).alloc (Nat.le_refl _) _
theorem boxD_block (w : World) (v : Value) : (boxD w v).heap[w.heap.size]? = some (.cells #[v] 24 (0, 0)) := heap_alloc_new _ _
theorem boxD_size (w : World) (v : Value) : (boxD w v).heap.size = w.heap.size + 1 := by show (w.heap.push _).size = _; simp
/-- Behind the box: what a round keeps. -/
structure Boxed (w : World) (v : Value) (wr : World) : Prop where
  below : Below w.heap.size w wr
  cell : wr.cell? ⟨w.heap.size, 0, none⟩ = some v
  lt : w.heap.size < wr.heap.size
theorem Boxed.start (w : World) (v : Value) : Boxed w v (boxD w v) := ⟨boxD_below w v, Joins.cell_of_block (boxD_block w v) 0, by rw [boxD_size]; omega⟩
theorem Boxed.next {w wr w2 : World} {v : Value} (h : Boxed w v wr) (hb : Below wr.heap.size wr w2) : Boxed w v w2 :=
  ⟨h.below.trans (hb.mono h.below.size), (hb.cell (p := ⟨w.heap.size, 0, none⟩) h.lt).trans h.cell, Nat.lt_of_lt_of_le h.lt hb.size⟩

set_option maxHeartbeats 4000000 in
set_option maxRecDepth 100000 in
theorem valid_walk (v : Value) (l : List Fc.Fact) (w : World) (hv : Fc.IsF w v l) :
    Calls Tryz.prog 12 #[.agg #[v]] w (Fc.Says (Fc.Valid l) w) := by
  obtain ⟨P, hP⟩ : ∃ P : Prop, P = Fc.Valid l := ⟨_, rfl⟩
  rw [← hP]
  have HP := Lib.hid (Fc.valid_iff l)
  rw [← hP] at HP
  clear hP
  have HV : Hid (∀ w', Below w.heap.size w w' → Fc.IsF w' v l) := fun w' hb => hv.below hb
  have HS := Lib.hid hv.sized
  obtain ⟨a, c, g, o, rfl, hc1, hc2, hga, hcl⟩ := hv.any
  obtain ⟨n, hn⟩ : ∃ n, n = l.length := ⟨_, rfl⟩
  have hga2 : 0 < n → a = some ⟨g, o, none⟩ ∧ g < w.heap.size := fun h => hga (by rintro rfl; rw [hn] at h; simp at h)
  rw [← hn] at HV HP ⊢
  have HC := Lib.hid hcl
  have HN := Lib.hid hn
  have HG := Lib.hid hga2
  have hnc : n ≤ c := by rw [hn]; exact hc1
  have HB0 := Lib.hid (Boxed.start w (.slice a n c))
  clear hv hcl hn hga hga2 hc1
  by_cases h60' : 60 < n
  · have h60i : (60 : Int) < (n : Int) := by omega
    have hno : ¬ P := fun h => by have := (HP.out.1 h).1; omega
    go_enter Tryz.func12, Tryz.ntmps12
    go_wp2_with fail
    go_ret
    exact Fc.Says.no hno HB0.out.below
  have h60 : n ≤ 60 := by omega
  clear h60'
  have h60i : ¬ (60 : Int) < (n : Int) := by omega
  go_enter Tryz.func12, Tryz.ntmps12
  go_wp2_with fail
  go_loopw [12] (fun i wr => ∃ k : Nat, k ≤ n ∧ i = .int .i64 k ∧ Hid (Fc.OkTo l k) ∧ Hid (Boxed w (.slice a n c) wr)) (fun i _ => n - (intOf i).toNat)
  case atStart => exact ⟨0, Nat.zero_le _, rfl, fun j hj => absurd hj (by omega), HB0.out⟩
  case round =>
    obtain ⟨k, hk, rfl, hd, hbw⟩ := hrel
    by_cases hlt : k < n
    · have hki : (k : Int) < (n : Int) := by omega
      obtain ⟨f, hf⟩ : ∃ f, l[k]? = some f := ⟨_, List.getElem?_eq_getElem (by rw [← HN.out]; exact hlt)⟩
      obtain ⟨rfl, hg⟩ := HG.out (by omega)
      obtain ⟨p0, p1, p2, p3⟩ := HC.out k f hf
      have p0 := (hbw.out.below.cell (p := ⟨g, o + k * 4, none⟩) hg).trans p0
      have p1 := (hbw.out.below.cell (p := ⟨g, o + k * 4 + 1, none⟩) hg).trans p1
      have p2 := (hbw.out.below.cell (p := ⟨g, o + k * 4 + 2, none⟩) hg).trans p2
      have p3 := (hbw.out.below.cell (p := ⟨g, o + k * 4 + 3, none⟩) hg).trans p3
      have HSf := HS.out f (List.mem_of_getElem? hf)
      obtain ⟨x, hx⟩ : ∃ x, x = Lx.str f.name := ⟨_, rfl⟩
      rw [← hx] at p0
      have hxs : x.size ≤ 9223372036854775807 := by rw [hx, Fc.str_size]; exact HSf.1
      obtain ⟨bn, hbn⟩ : ∃ b, b = Fc.isNm (Lx.tx x) := ⟨_, rfl⟩
      have H1 := Lib.hid (fun w => isname_walk x hxs w)
      rw [← hbn] at H1
      have hK1 : P → bn = true := fun h => by
        obtain ⟨q1, q2, q3⟩ := (HP.out.1 h).2 k (by omega) f hf
        rw [hbn, hx, Lx.tx_str]
        exact (Fc.isNm_iff _).2 q1
      have hK2 : P → Fc.Bounded f ∧ (k : Int) ≤ Fc.idx l (Lx.tx x) := fun h => by
        obtain ⟨q1, q2, q3⟩ := (HP.out.1 h).2 k (by omega) f hf
        rw [hx, Lx.tx_str]
        exact ⟨q2, by omega⟩
      have hD : bn = true → Fc.Bounded f → (k : Int) ≤ Fc.idx l (Lx.tx x) → Fc.OkTo l (k + 1) := fun q1 q2 q3 j hj => by
        by_cases e : j = k
        · subst e
          intro f2 hf2
          rw [hf] at hf2
          obtain rfl := Option.some.inj hf2
          rw [hbn, hx, Lx.tx_str] at q1
          rw [hx, Lx.tx_str] at q3
          exact ⟨(Fc.isNm_iff _).1 q1, q2, by omega⟩
        · exact hd.out j (by omega)
      clear hx hbn hf hd HSf hxs
      have HW1 : Hid (Below wr.heap.size wr (wr.alloc (.cells #[.string x, .int .i64 f.kind, .int .i64 f.lo, .int .i64 f.hi] 64))) := (Below.refl wr.heap.size wr).alloc (Nat.le_refl _) _
      have HN1 : Hid ((wr.alloc (.cells #[.string x, .int .i64 f.kind, .int .i64 f.lo, .int .i64 f.hi] 64)).heap[wr.heap.size]? = some (.cells #[.string x, .int .i64 f.kind, .int .i64 f.lo, .int .i64 f.hi] 64 (0, 0))) := heap_alloc_new _ _
      obtain ⟨zz, hz⟩ : ∃ z, z = Fc.idx l (Lx.tx x) := ⟨_, rfl⟩
      have H2 := Lib.hid (fun w' hb => index_walk _ l x w' (HV.out w' hb))
      rw [← hz] at hK2 hD H2
      have HK2 := Lib.hid hK2
      have HD := Lib.hid hD
      clear hz hK2 hD
      by_cases hbn : ¬ bn = true
      · have hno : ¬ P := fun h => hbn (hK1 h)
        obtain rfl : bn = false := by simpa using hbn
        clear hK1 hbn
        go_wp2_with (first | (refine (H1.out _).mono ?_; rintro e w1 ⟨rfl, rfl⟩))
        go_ret
        exact Fc.Says.no hno (hbw.out.next HW1.out).below
      obtain rfl : bn = true := by simpa using hbn
      have HDa := Lib.hid (HD.out rfl)
      clear hK1 hbn HD
      go_wp2_with fail
      refine (H1.out _).mono ?_
      rintro e w1 ⟨rfl, rfl⟩
      · clear p0 p1 p2 p3
        go_wp2_with fail
        refine (isbounded_walk x f.kind f.lo f.hi _).mono ?_
        rintro e w2 ⟨⟨b, rfl, hb⟩, hb2⟩
        have hb2' : Below wr.heap.size wr w2 := HW1.out.trans (hb2.mono HW1.out.size)
        have hbx := hbw.out.next hb2'
        have hn2 := (hb2.block wr.heap.size (Array.getElem?_eq_some_iff.1 HN1.out).1).trans HN1.out
        have q0 := Joins.cell_of_block hn2 0
        have q1 := hbx.cell
        have HX := Lib.hid hbx
        clear hn2 hb2 hb2' HW1 HN1
        cases b with
        | false =>
          have hno : ¬ P := fun h => by have := hb.2 (HK2.out h).1; cases this
          clear hbx
          go_wp2_with fail
          go_ret
          exact Fc.Says.no hno HX.out.below
        | true =>
          have hbd := hb.1 rfl
          have HI := Lib.hid (H2.out w2 hbx.below)
          have HDb := Lib.hid (HDa.out hbd)
          clear hbx HDa hb hbd
          by_cases hzk : zz < (k : Int)
          · have hno : ¬ P := fun h => by have := (HK2.out h).2; omega
            go_wp2_with (first | (refine HI.out.mono ?_; rintro e w3 ⟨rfl, hb3⟩))
            go_ret
            exact Fc.Says.no hno (HX.out.next hb3).below
          · have HDD := Lib.hid (HDb.out (by omega))
            go_wp2_with (first | (refine HI.out.mono ?_; rintro e w3 ⟨rfl, hb3⟩))
            go_roundw
            case rel => exact ⟨k + 1, by omega, by go_num, HDD, HX.out.next hb3⟩
            case measure => simp [intOf]; omega
    · have hki : ¬ (k : Int) < (n : Int) := by omega
      have hyes : P := HP.out.2 ⟨h60, fun j hj => hd.out j (by omega)⟩
      clear hd
      go_wp2_with fail
      go_ret
      exact Fc.Says.yes hyes hbw.out.below
end Go.Proofs.YtoamkanofhhjfaaGreatDoor
/-
  The walk of fact.Fits.
-/
namespace Go.Proofs.YtoamkanofhhjfaaGreatDoor
open Go.RowKit

def Fc.Old (w w' : World) : Prop := Below w.heap.size w w'
theorem Fc.Old.out {w w' : World} (h : Fc.Old w w') : Below w.heap.size w w' := h
theorem Fc.Old.of {w w' : World} (h : Below w.heap.size w w') : Fc.Old w w' := h
theorem Fc.Old.refl (w : World) : Fc.Old w w := Below.refl _ _
theorem Fc.Old.step {w w1 w2 : World} (hb : Below w1.heap.size w1 w2) (h : Fc.Old w w1) : Fc.Old w w2 := Below.trans h.out (hb.mono h.out.size)
theorem Fc.Old.alloc {w w1 : World} (o : Obj) (h : Fc.Old w w1) : Fc.Old w (w1.alloc o) := Below.alloc h.out h.out.size o
theorem Fc.Old.drew (w : World) : Fc.Old w w.drew := (Below.refl _ _).drew
theorem Fc.Old.cell {w w' : World} (h : Fc.Old w w') {g i : Nat} {v : Value} (hg : g < w.heap.size) (hc : w.cell? ⟨g, i, none⟩ = some v) : w'.cell? ⟨g, i, none⟩ = some v := (h.out.cell (p := ⟨g, i, none⟩) hg).trans hc

/-- What Fits says. -/
def Fc.Fit (l : List Fc.Fact) (c : List Int) : Prop := Fc.Valid l ∧ Fc.within l c = true
/-- The first values are within the bounds. -/
def Fc.WTo (l : List Fc.Fact) (c : List Int) (k : Nat) : Prop := ∀ j, j < k → ∀ f, l[j]? = some f → f.lo ≤ c.getD j 0 ∧ c.getD j 0 ≤ f.hi
theorem Fc.WTo.all {l : List Fc.Fact} {c : List Int} (hl : c.length = l.length) : Fc.WTo l c l.length ↔ Fc.within l c = true := by
  rw [Fc.within_get]
  constructor
  · intro h
    refine ⟨hl, fun i f x hf hx => ?_⟩
    have := h i (List.getElem?_eq_some_iff.1 hf).1 f hf
    rwa [List.getD_eq_getElem?_getD, hx] at this
  · rintro ⟨_, h⟩ j hj f hf
    have hx : c[j]? = some (c.getD j 0) := by
      rw [List.getD_eq_getElem?_getD, List.getElem?_eq_getElem (by omega)]; rfl
    exact h j f _ hf hx
theorem Fc.WTo.succ {l : List Fc.Fact} {c : List Int} {k : Nat} {f : Fc.Fact} {x : Int} (h : Fc.WTo l c k) (hf : l[k]? = some f) (hx : c.getD k 0 = x) (hb : f.lo ≤ x ∧ x ≤ f.hi) : Fc.WTo l c (k + 1) := by
  intro j hj g hg
  by_cases e : j = k
  · subst e
    rw [hf] at hg
    obtain rfl := Option.some.inj hg
    rw [hx]; exact hb
  · exact h j (by omega) g hg

set_option maxHeartbeats 4000000 in
set_option maxRecDepth 100000 in
theorem fits_walk (v u : Value) (l : List Fc.Fact) (m : List Int) (w : World) (hv : Fc.IsF w v l) (hu : Fc.IsN w u m) :
    Calls Tryz.prog 14 #[.agg #[v], u] w (Fc.Says (Fc.Fit l m) w) := by
  obtain ⟨P, hP⟩ : ∃ P : Prop, P = Fc.Fit l m := ⟨_, rfl⟩
  rw [← hP]
  have HV : Hid (∀ w', Below w.heap.size w w' → Fc.IsF w' v l) := fun w' hb => hv.below hb
  obtain ⟨a, c, g, o, rfl, hc1, hc2, hga, hcl⟩ := hv.any
  obtain ⟨a2, c2, g2, o2, rfl, hd1, hd2, hgb, hcm⟩ := hu.any
  have hga2 : 0 < l.length → a = some ⟨g, o, none⟩ ∧ g < w.heap.size := fun h => hga (by rintro rfl; simp at h)
  have hgb2 : 0 < m.length → a2 = some ⟨g2, o2, none⟩ ∧ g2 < w.heap.size := fun h => hgb (by rintro rfl; simp at h)
  have HC := Lib.hid hcl
  have HM := Lib.hid hcm
  have HG := Lib.hid hga2
  have HG2 := Lib.hid hgb2
  clear hv hu hcl hcm hga hgb hga2 hgb2
  by_cases hlen : m.length = l.length
  · have HP : Hid (P ↔ Fc.Valid l ∧ Fc.WTo l m l.length) := (by rw [hP, Fc.WTo.all hlen]; rfl : P ↔ Fc.Valid l ∧ Fc.WTo l m l.length)
    clear hP
    obtain ⟨n, hn⟩ : ∃ n, n = l.length := ⟨_, rfl⟩
    rw [hlen, ← hn] at HG2 HM hd1 ⊢
    rw [← hn] at hc1 HG HP HV
    have HL := Lib.hid hn
    have HB0 := Lib.hid (Boxed.start w (.slice a n c))
    have HVW := Lib.hid (fun w' hb => valid_walk _ l w' (HV.out w' hb))
    clear hlen hn HV
    by_cases hvl : Fc.Valid l
    · go_enter Tryz.func14, Tryz.ntmps14
      go_wp2_with fail
      refine (HVW.out _ HB0.out.below).mono ?_
      rintro e w1 ⟨⟨b, rfl, hb⟩, hb1⟩
      obtain rfl : b = true := hb.2 hvl
      have HX := HB0.out.next hb1
      have q1 := HX.cell
      have HB1 := Lib.hid HX
      clear HVW HB0 hb hb1 HX
      go_wp2_with fail
      go_loopw [21] (fun i wr => ∃ k : Nat, k ≤ n ∧ i = .int .i64 k ∧ Hid (Fc.WTo l m k) ∧ Hid (Boxed w (.slice a n c) wr)) (fun i _ => n - (intOf i).toNat)
      case atStart => exact ⟨0, Nat.zero_le _, rfl, fun j hj => absurd hj (by omega), HB1.out⟩
      case round =>
        obtain ⟨k, hk, rfl, hd, hbw⟩ := hrel
        by_cases hlt : k < n
        · have hki : (k : Int) < (n : Int) := by omega
          obtain ⟨f, hf⟩ : ∃ f, l[k]? = some f := ⟨_, List.getElem?_eq_getElem (by rw [← HL.out]; exact hlt)⟩
          obtain ⟨rfl, hg⟩ := HG.out (by omega)
          obtain ⟨rfl, hg2⟩ := HG2.out (by omega)
          obtain ⟨p0, p1, p2, p3⟩ := HC.out k f hf
          have p0 := (hbw.out.below.cell (p := ⟨g, o + k * 4, none⟩) hg).trans p0
          have p1 := (hbw.out.below.cell (p := ⟨g, o + k * 4 + 1, none⟩) hg).trans p1
          have p2 := (hbw.out.below.cell (p := ⟨g, o + k * 4 + 2, none⟩) hg).trans p2
          have p3 := (hbw.out.below.cell (p := ⟨g, o + k * 4 + 3, none⟩) hg).trans p3
          obtain ⟨x, hx⟩ : ∃ x, m.getD k 0 = x := ⟨_, rfl⟩
          have p4 := (hbw.out.below.cell (p := ⟨g2, o2 + k, none⟩) hg2).trans (HM.out k hlt)
          rw [hx] at p4
          have HD := Lib.hid (fun hb => hd.out.succ hf hx hb)
          have HK : Hid (P → f.lo ≤ x ∧ x ≤ f.hi) := fun h => by have := (HP.out.1 h).2 k hlt f hf; rwa [hx] at this
          obtain ⟨s, hs⟩ : ∃ s, s = Lx.str f.name := ⟨_, rfl⟩
          rw [← hs] at p0
          have hz := hbw.out.below.size
          have hg3 : g2 < wr.heap.size := by omega
          clear hf hx hd hs
          go_wp2_with fail
          obtain ⟨W, hW⟩ : ∃ W, W = wr.alloc (.cells #[.string s, .int .i64 f.kind, .int .i64 f.lo, .int .i64 f.hi] 64) := ⟨_, rfl⟩
          have hk0 : W.heap[wr.heap.size]? = some (.cells #[.string s, .int .i64 f.kind, .int .i64 f.lo, .int .i64 f.hi] 64 (0, 0)) := by rw [hW]; exact heap_alloc_new _ _
          have hbW : Below wr.heap.size wr W := by rw [hW]; exact (Below.refl _ _).alloc (Nat.le_refl _) _
          rw [← hW]
          have hlt0 : wr.heap.size < W.heap.size := (Array.getElem?_eq_some_iff.1 hk0).1
          have hlt2 : g2 < W.heap.size := by omega
          have r0 : ∀ w', Fc.Old W w' → w'.cell? ⟨wr.heap.size, 0, none⟩ = some (.string s) := fun w' h => h.cell hlt0 (Joins.cell_of_block hk0 0)
          have r1 : ∀ w', Fc.Old W w' → w'.cell? ⟨wr.heap.size, 1, none⟩ = some (.int .i64 f.kind) := fun w' h => h.cell hlt0 (Joins.cell_of_block hk0 1)
          have r2 : ∀ w', Fc.Old W w' → w'.cell? ⟨wr.heap.size, 2, none⟩ = some (.int .i64 f.lo) := fun w' h => h.cell hlt0 (Joins.cell_of_block hk0 2)
          have r3 : ∀ w', Fc.Old W w' → w'.cell? ⟨wr.heap.size, 3, none⟩ = some (.int .i64 f.hi) := fun w' h => h.cell hlt0 (Joins.cell_of_block hk0 3)
          have r4 : ∀ w', Fc.Old W w' → w'.cell? ⟨g2, o2 + k, none⟩ = some (.int .i64 x) := fun w' h => h.cell hlt2 ((hbW.cell (p := ⟨g2, o2 + k, none⟩) hg3).trans p4)
          have HXW := Lib.hid (hbw.out.next hbW)
          clear hW hk0 hbW p0 p1 p2 p3 p4 hz
          have HIV := Lib.hid (fun w' => isvalue_walk x s f.kind f.lo f.hi w')
          go_region_held3 (fun w' => Fc.Old W w') (first | exact Fc.Old.drew W | exact Fc.Old.step (by with_reducible assumption) (by with_reducible assumption) | with_reducible assumption) (first | (go_at_call 43; (with_reducible refine (HIV.out _).mono ?_); rintro e w5 ⟨⟨b5, rfl, hb5⟩, hbb5⟩))
          have hO : Fc.Old W w5 := by with_reducible assumption
          have HX5 := Lib.hid (HXW.out.next hO.out)
          cases b5 with
          | true =>
            have HDD := Lib.hid (HD.out (hb5.1 rfl))
            clear hb5 r0 r1 r2 r3 r4
            go_wp2_with fail
            go_roundw
            case rel => exact ⟨k + 1, by omega, by go_num, HDD, HX5.out⟩
            case measure => simp [intOf]; omega
          | false =>
            have hno : ¬ P := fun h => by have := hb5.2 (HK.out h); cases this
            clear hb5 r0 r1 r2 r3 r4
            go_wp2_with fail
            go_ret
            exact Fc.Says.no hno HX5.out.below
        · have hki : ¬ (k : Int) < (n : Int) := by omega
          have hyes : P := HP.out.2 ⟨hvl, by have := hd.out; rwa [show k = n by omega] at this⟩
          clear hd
          go_wp2_with fail
          go_ret
          exact Fc.Says.yes hyes hbw.out.below
    · have hno : ¬ P := fun h => hvl (HP.out.1 h).1
      go_enter Tryz.func14, Tryz.ntmps14
      go_wp2_with fail
      refine (HVW.out _ HB0.out.below).mono ?_
      rintro e w1 ⟨⟨b, rfl, hb⟩, hb1⟩
      obtain rfl : b = false := by cases b with | false => rfl | true => exact absurd (hb.1 rfl) hvl
      clear hb HVW
      go_wp2_with fail
      go_ret
      exact Fc.Says.no hno (HB0.out.next hb1).below
  · have hno : ¬ P := fun h => by
      rw [hP] at h
      exact hlen (Fc.within_len h.2)
    have HB0 := Lib.hid (Boxed.start w (.slice a l.length c))
    have hleni : ¬ ((m.length : Int) = (l.length : Int)) := by omega
    clear hlen hP
    go_enter Tryz.func14, Tryz.ntmps14
    go_wp2_with fail
    go_ret
    exact Fc.Says.no hno HB0.out.below
end Go.Proofs.YtoamkanofhhjfaaGreatDoor
