/-
  The walks of fact.Index, with slices.IndexFunc and the closure.
-/
import Derived.Test.YtjcaingfeaaakaaFName
namespace Go.Proofs.Ytjcaingfeaaakaa
open Go.RowKit

set_option maxHeartbeats 1000000 in
set_option maxRecDepth 100000 in
theorem index1_walk (s u : ByteArray) (k lo hi : Int) (B : Nat) (w : World) (hB : w.heap[B]? = some (.cells #[.string u] 9 (0, 0))) :
    Calls Try.prog 64 #[.agg #[.string s, .int .i64 k, .int .i64 lo, .int .i64 hi], .pointer (some ⟨B, 0, none⟩)] w fun e w' => e = .returned (.bool (s.toList == u.toList)) ∧ Below w.heap.size w w' := by
  have HB := Lib.hid ((Below.refl w.heap.size w).alloc (Nat.le_refl _) (.cells #[.string s, .int .i64 k, .int .i64 lo, .int .i64 hi] 52))
  have hlt := (Array.getElem?_eq_some_iff.1 hB).1
  have hc : (w.alloc (.cells #[.string s, .int .i64 k, .int .i64 lo, .int .i64 hi] 52)).cell? ⟨B, 0, none⟩ = some (.string u) := (HB.out.cell (p := ⟨B, 0, none⟩) hlt).trans (Joins.cell_of_block hB 0)
  clear hB
  go_enter Try.func64, Try.ntmps64
  go_wp2_with fail
  go_ret
  exact ⟨rfl, HB.out⟩

theorem Fc.name_eq (t : Lx.T) (u : ByteArray) : ((Lx.str t).toList == u.toList) = true ↔ t = Lx.tx u := by
  rw [Lib.toList_data, Lib.toList_data, beq_iff_eq]
  exact Iff.rfl
theorem Fc.idx_of {d : List Fc.Fact} {name : Lx.T} {i : Nat} {f : Fc.Fact} (h : d[i]? = some f) (hn : f.name = name) (hj : ∀ j, j < i → ∀ g, d[j]? = some g → g.name ≠ name) : Fc.idx d name = i :=
  Fc.idx_some (Fc.index_some_iff.2 ⟨f, h, hn, hj⟩)
theorem Fc.idx_not {d : List Fc.Fact} {name : Lx.T} (hj : ∀ j, j < d.length → ∀ g, d[j]? = some g → g.name ≠ name) : Fc.idx d name = -1 := by
  refine Fc.idx_none (Fc.index_none_iff.2 fun h => ?_)
  obtain ⟨f, hf, hn⟩ := List.mem_map.1 h
  obtain ⟨i, hi, rfl⟩ := List.getElem_of_mem hf
  exact hj i hi _ (List.getElem?_eq_getElem hi) hn

set_option maxHeartbeats 2000000 in
set_option maxRecDepth 100000 in
theorem indexfunc_walk (v : Value) (l : List Fc.Fact) (u : ByteArray) (B : Nat) (w : World) (hv : Fc.IsF w v l) (hB : w.heap[B]? = some (.cells #[.string u] 9 (0, 0))) :
    Calls Try.prog 63 #[v, .func (.func 64) #[] #[.pointer (some ⟨B, 0, none⟩)]] w fun e w' => e = .returned (.int .i64 (Fc.idx l (Lx.tx u))) ∧ Below w.heap.size w w' := by
  obtain ⟨a, c, g, o, rfl, hc1, hc2, hga, hcl⟩ := hv.any
  obtain ⟨n, hn⟩ : ∃ n, n = l.length := ⟨_, rfl⟩
  obtain ⟨z, hz⟩ : ∃ z, z = Fc.idx l (Lx.tx u) := ⟨_, rfl⟩
  have hga : 0 < n → a = some ⟨g, o, none⟩ ∧ g < w.heap.size := fun h => hga (by rintro rfl; rw [hn] at h; simp at h)
  rw [← hn, ← hz]
  have HC := Lib.hid hcl
  have HN := Lib.hid hn
  have HZ := Lib.hid hz
  have HG := Lib.hid hga
  have HB := Lib.hid hB
  have hblt := (Array.getElem?_eq_some_iff.1 hB).1
  have hnc : n ≤ c := by rw [hn]; exact hc1
  clear hv hcl hn hz hga hB hc1
  go_enter Try.func63, Try.ntmps63
  go_wp2_with fail
  go_loopw [8] (fun i wr => ∃ k : Nat, k ≤ n ∧ i = .int .i64 k ∧ Hid (∀ j, j < k → ∀ f, l[j]? = some f → f.name ≠ Lx.tx u) ∧ Below w.heap.size w wr) (fun i _ => n - (intOf i).toNat)
  case atStart => exact ⟨0, Nat.zero_le _, rfl, fun j hj => absurd hj (by omega), Below.refl _ _⟩
  case round =>
    obtain ⟨k, hk, rfl, hd, hbw⟩ := hrel
    by_cases hlt : k < n
    · have hkl : k < l.length := by rw [← HN.out]; exact hlt
      obtain ⟨f, hf⟩ : ∃ f, l[k]? = some f := ⟨_, List.getElem?_eq_getElem hkl⟩
      obtain ⟨rfl, hg⟩ := HG.out (by omega)
      obtain ⟨p0, p1, p2, p3⟩ := HC.out k f hf
      have p0 := (hbw.cell (p := ⟨g, o + k * 4, none⟩) hg).trans p0
      have p1 := (hbw.cell (p := ⟨g, o + k * 4 + 1, none⟩) hg).trans p1
      have p2 := (hbw.cell (p := ⟨g, o + k * 4 + 2, none⟩) hg).trans p2
      have p3 := (hbw.cell (p := ⟨g, o + k * 4 + 3, none⟩) hg).trans p3
      have hBw := (hbw.block B hblt).trans HB.out
      obtain ⟨x, hx⟩ : ∃ x, x = Lx.str f.name := ⟨_, rfl⟩
      rw [← hx] at p0
      have HI := Lib.hid (index1_walk x u f.kind f.lo f.hi B wr hBw)
      have hki : (k : Int) < (n : Int) := by omega
      clear hBw
      by_cases he : f.name = Lx.tx u
      · have hzk : z = (k : Int) := by rw [HZ.out]; exact Fc.idx_of hf he hd.out
        subst hzk
        have hq : (x.toList == u.toList) = true := by rw [hx]; exact (Fc.name_eq _ _).2 he
        rw [hq] at HI
        clear hq he hf hd hx
        go_wp2_with (first | (refine HI.out.mono ?_; rintro e w1 ⟨rfl, hb1⟩))
        go_ret
        exact ⟨rfl, hbw.trans (hb1.mono hbw.size)⟩
      · have hq : (x.toList == u.toList) = false := by rw [hx]; rw [Bool.eq_false_iff]; intro h; exact he ((Fc.name_eq _ _).1 h)
        rw [hq] at HI
        have HD : Hid (∀ j, j < k + 1 → ∀ f, l[j]? = some f → f.name ≠ Lx.tx u) := fun j hj f2 hf2 => by
          by_cases e : j = k
          · subst e; rw [hf] at hf2; rw [← Option.some.inj hf2]; exact he
          · exact hd.out j (by omega) f2 hf2
        clear hq he hf hd hx
        go_wp2_with (first | (refine HI.out.mono ?_; rintro e w1 ⟨rfl, hb1⟩))
        go_roundw
        case rel => exact ⟨k + 1, by omega, by go_num, HD, hbw.trans (hb1.mono hbw.size)⟩
        case measure => simp [intOf]; omega
    · have hki : ¬ (k : Int) < (n : Int) := by omega
      have hzk : z = -1 := by rw [HZ.out]; exact Fc.idx_not (fun j hj => hd.out j (by rw [← HN.out] at hj; omega))
      subst hzk
      clear hd
      go_wp2_with fail
      go_ret
      exact ⟨rfl, hbw⟩

set_option maxHeartbeats 2000000 in
set_option maxRecDepth 100000 in
theorem index_walk (v : Value) (l : List Fc.Fact) (u : ByteArray) (w : World) (hv : Fc.IsF w v l) :
    Calls Try.prog 48 #[.agg #[v], .string u] w fun e w' => e = .returned (.int .i64 (Fc.idx l (Lx.tx u))) ∧ Below w.heap.size w w' := by
  have hmf : ∀ (fn : Fn) (first cap : Array Value) (w : World), (Instr.makeFunc fn first cap).run Try.prog w = .ok (.func fn first cap) w := fun _ _ _ _ => rfl
  obtain ⟨a, c, rfl, _, _⟩ := hv.form
  obtain ⟨n, hn⟩ : ∃ n, n = l.length := ⟨_, rfl⟩
  obtain ⟨z, hz⟩ : ∃ z, z = Fc.idx l (Lx.tx u) := ⟨_, rfl⟩
  rw [← hn] at hv ⊢
  rw [← hz]
  have hb2 : Below w.heap.size w ((w.alloc (.cells #[.slice a n c] 27)).alloc (.cells #[.string u] 9)) := ((Below.refl w.heap.size w).alloc (Nat.le_refl _) _).alloc (by simp) _
  have hnew := heap_alloc_new (w.alloc (.cells #[.slice a n c] 27)) (.cells #[.string u] 9)
  have HI := Lib.hid (indexfunc_walk _ l u (w.heap.size + 1) _ (hv.below hb2) (by simpa using hnew))
  rw [← hz] at HI
  have HB := Lib.hid hb2
  clear hv hb2 hnew hz hn
  go_enter Try.func48, Try.ntmps48
  go_wp2_with (first | (refine HI.out.mono ?_; rintro e w1 ⟨rfl, hb1⟩))
  go_ret
  exact ⟨rfl, HB.out.trans (hb1.mono HB.out.size)⟩
end Go.Proofs.Ytjcaingfeaaakaa
