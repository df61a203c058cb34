/-
  The walks of slices.IndexFunc and slices.ContainsFunc over formulas, and of formula.compares.
-/
import Derived.Test.YtjcaingfeaaakaaMMem
import Derived.Test.YtjcaingfeaaakaaFFits
import Derived.Deep.QuietTactic
import Derived.BigQuiet
namespace Go.Proofs.Ytjcaingfeaaakaa
open Go.RowKit

namespace Fm
/-- A function value says something of each of some formulas. -/
def Asks (g : Nat) (fst cap : Array Value) (p : Fo → Bool) (ks : List Fo) (w : World) : Prop :=
  ∀ (W : World) (k : Fo) (u : Value), Below w.heap.size w W → k ∈ ks → At W k u → Calls Try.prog g (fst ++ #[fv k u] ++ cap) W fun e W' => e = .returned (.bool (p k)) ∧ Below W.heap.size W W'
/-- The index of the first formula of which it says so, -1 if there is none. -/
def fix (p : Fo → Bool) (ks : List Fo) : Int := match ks.findIdx? p with | some i => (i : Int) | none => -1
theorem fix_of {p : Fo → Bool} {ks : List Fo} {i : Nat} {k : Fo} (h : ks[i]? = some k) (hp : p k = true) (hj : ∀ j, j < i → ∀ y, ks[j]? = some y → p y = false) : fix p ks = i := by
  unfold fix
  have : ks.findIdx? p = some i := by
    rw [List.findIdx?_eq_some_iff_getElem]
    obtain ⟨hi, rfl⟩ := List.getElem?_eq_some_iff.1 h
    exact ⟨hi, hp, fun j hji => by have := hj j hji ks[j] (List.getElem?_eq_getElem (by omega)); simpa using this⟩
  rw [this]
theorem fix_not {p : Fo → Bool} {ks : List Fo} (h : ∀ y ∈ ks, p y = false) : fix p ks = -1 := by
  unfold fix
  have : ks.findIdx? p = none := by
    rw [List.findIdx?_eq_none_iff]
    intro y hy; simpa using h y hy
  rw [this]
theorem fix_any {p : Fo → Bool} {ks : List Fo} : decide (0 ≤ fix p ks) = ks.any p := by
  unfold fix
  cases h : ks.findIdx? p with
  | none =>
    rw [List.findIdx?_eq_none_iff] at h
    have : ks.any p = false := by rw [List.any_eq_false]; intro y hy; simpa using h y hy
    rw [this]; rfl
  | some i =>
    rw [List.findIdx?_eq_some_iff_getElem] at h
    obtain ⟨hi, he, _⟩ := h
    have : ks.any p = true := List.any_eq_true.2 ⟨_, List.getElem_mem hi, he⟩
    rw [this, decide_eq_true_iff]
    show (0 : Int) ≤ (i : Int)
    omega
end Fm

set_option maxHeartbeats 2000000 in
set_option maxRecDepth 100000 in
theorem findex_walk (v : Value) (ks : List Fm.Fo) (g : Nat) (fst cap : Array Value) (p : Fm.Fo → Bool) (w : World) (hv : Fm.IsK w v ks) (hent : ∀ args w, (callFunc g args).run Try.prog w = .ok (.enter g args) w) (hp : Fm.Asks g fst cap p ks w) :
    Calls Try.prog 71 #[v, .func (.func g) fst cap] w fun e w' => e = .returned (.int .i64 (Fm.fix p ks)) ∧ Below w.heap.size w w' := by
  obtain ⟨a, c, b, o, rfl, hc1, hc2, hga, hcl⟩ := hv.any
  obtain ⟨n, hn⟩ : ∃ n, n = ks.length := ⟨_, rfl⟩
  obtain ⟨z, hz⟩ : ∃ z, z = Fm.fix p ks := ⟨_, rfl⟩
  have hga : 0 < n → a = some ⟨b, o, none⟩ ∧ b < w.heap.size := fun h => hga (by rintro rfl; rw [hn] at h; simp at h)
  rw [← hn, ← hz]
  have HC := Lib.hid hcl
  have HN := Lib.hid hn
  have HZ := Lib.hid hz
  have HG := Lib.hid hga
  have HP := Lib.hid hp
  have hnc : n ≤ c := by rw [hn]; exact hc1
  clear hv hcl hn hz hga hc1 hp
  go_enter Try.func71, Try.ntmps71
  go_wp2_with fail
  go_loopw [8] (fun i wr => ∃ k : Nat, k ≤ n ∧ i = .int .i64 k ∧ Hid (∀ j, j < k → ∀ y, ks[j]? = some y → p y = false) ∧ Hid (Below w.heap.size w wr)) (fun i _ => n - (intOf i).toNat)
  case atStart => exact ⟨0, Nat.zero_le _, rfl, fun j hj => absurd hj (by omega), Below.refl _ _⟩
  case round =>
    obtain ⟨k, hk, rfl, hd, hbw⟩ := hrel
    by_cases hlt : k < n
    · have hkl : k < ks.length := by rw [← HN.out]; exact hlt
      obtain ⟨y, hy⟩ : ∃ y, ks[k]? = some y := ⟨_, List.getElem?_eq_getElem hkl⟩
      obtain ⟨rfl, hg⟩ := HG.out (by omega)
      obtain ⟨u, p0, p1, p2, p3, p4, hu⟩ := HC.out k y hy
      have p0 := (hbw.out.cell (p := ⟨b, o + k * 5, none⟩) hg).trans p0
      have p1 := (hbw.out.cell (p := ⟨b, o + k * 5 + 1, none⟩) hg).trans p1
      have p2 := (hbw.out.cell (p := ⟨b, o + k * 5 + 2, none⟩) hg).trans p2
      have p3 := (hbw.out.cell (p := ⟨b, o + k * 5 + 3, none⟩) hg).trans p3
      have p4 := (hbw.out.cell (p := ⟨b, o + k * 5 + 4, none⟩) hg).trans p4
      have HA := Lib.hid (HP.out wr y u hbw.out (List.mem_of_getElem? hy) (hu.below hbw.out))
      have hki : (k : Int) < (n : Int) := by omega
      have hkm : (k : Int) + 1 ≤ 9223372036854775807 := by omega
      have HY := Lib.hid hy
      obtain ⟨q, hq⟩ : ∃ q, q = p y := ⟨_, rfl⟩
      rw [← hq] at HA
      clear hy hu
      go_wp2_with fail
      refine HA.out.mono ?_
      rintro e w1 ⟨rfl, hb1⟩
      have HB1 := Lib.hid (hbw.out.trans (hb1.mono hbw.out.size))
      clear p0 p1 p2 p3 p4 hb1
      cases q with
      | true =>
        have hzk : z = (k : Int) := by rw [HZ.out]; exact Fm.fix_of HY.out hq.symm hd.out
        subst hzk
        clear hq hd
        go_wp2_with fail
        go_ret
        exact ⟨rfl, HB1.out⟩
      | false =>
        have HD : Hid (∀ j, j < k + 1 → ∀ y, ks[j]? = some y → p y = false) := fun j hj y2 hy2 => by
          by_cases e : j = k
          · subst e
            rw [HY.out] at hy2
            obtain rfl := Option.some.inj hy2
            exact hq.symm
          · exact hd.out j (by omega) y2 hy2
        clear hq hd
        go_wp2_with fail
        go_roundw
        case rel => exact ⟨k + 1, by omega, by go_num, HD, HB1⟩
        case measure => simp [intOf]; omega
    · obtain rfl : k = n := by omega
      have hki : ¬ (k : Int) < (k : Int) := by omega
      have hzk : z = -1 := by
        rw [HZ.out]
        refine Fm.fix_not fun y hy => ?_
        obtain ⟨j, hj, e⟩ := List.getElem_of_mem hy
        exact hd.out j (by rw [HN.out]; exact hj) _ (by rw [List.getElem?_eq_getElem hj, e])
      subst hzk
      clear hd
      go_wp2_with fail
      go_ret
      exact ⟨rfl, hbw.out⟩

set_option maxHeartbeats 1000000 in
set_option maxRecDepth 100000 in
theorem fcontains_walk (v : Value) (ks : List Fm.Fo) (g : Nat) (fst cap : Array Value) (p : Fm.Fo → Bool) (w : World) (hv : Fm.IsK w v ks) (hent : ∀ args w, (callFunc g args).run Try.prog w = .ok (.enter g args) w) (hp : Fm.Asks g fst cap p ks w) :
    Calls Try.prog 66 #[v, .func (.func g) fst cap] w fun e w' => e = .returned (.bool (ks.any p)) ∧ Below w.heap.size w w' := by
  have HI := Lib.hid (findex_walk v ks g fst cap p w hv hent hp)
  rw [← Fm.fix_any]
  obtain ⟨z, hzz⟩ : ∃ z, z = Fm.fix p ks := ⟨_, rfl⟩
  rw [← hzz] at HI ⊢
  clear hzz hv hp
  go_enter Try.func66, Try.ntmps66
  go_wp2_with (first | (refine HI.out.mono ?_; rintro e w1 ⟨rfl, hb1⟩))
  go_ret
  exact ⟨rfl, hb1⟩

set_option maxHeartbeats 2000000 in
set_option maxRecDepth 100000 in
theorem compares_walk (a h b : Int) (w : World) :
    Calls Try.prog 65 #[.int .i64 a, .int .i64 h, .int .i64 b] w fun e w' => e = .returned (.bool (Fm.compares h a b)) ∧ w = w' := by
  obtain ⟨z, hz⟩ : ∃ z, z = Fm.compares h a b := ⟨_, rfl⟩
  rw [← hz]
  unfold Fm.compares at hz
  by_cases h1 : h = 1
  · subst h1
    rw [if_pos rfl] at hz
    go_enter Try.func65, Try.ntmps65
    go_wp2_with fail
    go_ret
    refine ⟨Lx.ret_bool ?_, rfl⟩
    rw [hz, Bool.eq_iff_iff]; simp
  rw [if_neg h1] at hz
  by_cases h2 : h = 2
  · subst h2
    rw [if_pos rfl] at hz
    go_enter Try.func65, Try.ntmps65
    go_wp2_with fail
    go_ret
    refine ⟨Lx.ret_bool ?_, rfl⟩
    rw [hz, Bool.eq_iff_iff]; simp
  rw [if_neg h2] at hz
  by_cases h3 : h = 3
  · subst h3
    rw [if_pos rfl] at hz
    go_enter Try.func65, Try.ntmps65
    go_wp2_with fail
    go_ret
    refine ⟨Lx.ret_bool ?_, rfl⟩
    rw [hz, Bool.eq_iff_iff]
  rw [if_neg h3] at hz
  by_cases h4 : h = 4
  · subst h4
    rw [if_pos rfl] at hz
    go_enter Try.func65, Try.ntmps65
    go_wp2_with fail
    go_ret
    refine ⟨Lx.ret_bool ?_, rfl⟩
    rw [hz, Bool.eq_iff_iff]
  rw [if_neg h4] at hz
  by_cases h5 : h = 5
  · subst h5
    rw [if_pos rfl] at hz
    go_enter Try.func65, Try.ntmps65
    go_wp2_with fail
    go_ret
    refine ⟨Lx.ret_bool ?_, rfl⟩
    rw [hz, Bool.eq_iff_iff]
  rw [if_neg h5] at hz
  by_cases h6 : h = 6
  · subst h6
    rw [if_pos rfl] at hz
    go_enter Try.func65, Try.ntmps65
    go_wp2_with fail
    go_ret
    refine ⟨Lx.ret_bool ?_, rfl⟩
    rw [hz, Bool.eq_iff_iff]
  rw [if_neg h6] at hz
  subst hz
  go_enter Try.func65, Try.ntmps65
  go_wp2_with fail
  go_ret
  exact ⟨rfl, rfl⟩
end Go.Proofs.Ytjcaingfeaaakaa
