/-
  The walks of the reference's Same and Alike, and of the law's written.
-/
import Derived.Test.YtidmonmkpkbhjaaERead
import Derived.Test.YtidmonmkpkbhjaaETok2
import Derived.Deep.QuietTactic
import Derived.BigQuiet
import Derived.Lib.SmallJoins
namespace Go.Proofs.Ytidmonmkpkbhjaa
open Go.RowKit

namespace Lx
theorem get_of (l : List Tok) (k : Nat) (h : k < l.length) : l[k]? = some l[k] := List.getElem?_eq_getElem h
theorem below_drewN2 {B : Nat} {a w : World} (h : Below B a w) (q : Nat) : Below B a (w.drewN q) := ⟨h.os, h.tape, h.output, h.size, h.block⟩
/-- Offsets within what an int holds. -/
def Small (l : List Tok) (d : Nat) : Prop := ∀ t ∈ l, t.at_ ≤ 100000 ∧ d ≤ 100000
end Lx

set_option maxHeartbeats 4000000 in
set_option maxRecDepth 100000 in
/-- Lists that are equal but for the offsets, which are greater by d. -/
theorem same_yes (va vb : Value) (l : List Lx.Tok) (d : Nat) (w : World) (ha : Lx.IsL w va l) (hb : Lx.IsLo w vb (l.map (Lx.Tok.shift d))) (hs : Lx.Small l d) :
    Calls Try.prog 14 #[va, .int .i64 d, vb] w fun e w' => e = .returned (.bool true) ∧ Below w.heap.size w w' := by
  by_cases hne : l = []
  · subst hne
    obtain ⟨a1, c1, e1⟩ := ha.form
    obtain ⟨a2, c2, e2⟩ := hb.form
    simp only [List.length_nil, List.map_nil] at e1 e2
    subst e1 e2
    clear ha hb
    go_enter Try.func14, Try.ntmps14
    go_wp2_with fail
    go_loopw [7] (fun v wr => v = .int .i64 0 ∧ wr = w) (fun _ _ => 0)
    case atStart => exact ⟨rfl, rfl⟩
    case round =>
      obtain ⟨rfl, rfl⟩ := hrel
      go_wp2_with fail
      go_ret
      exact ⟨rfl, Below.refl _ _⟩
  · obtain ⟨g1, c1, rfl, hc1, hm1, hg1, hcl1⟩ := ha.some hne
    obtain ⟨g2, o2, c2, rfl, hc2, hm2, hg2, hcl2⟩ := hb.some (by simpa using hne)
    rw [List.length_map] at hc2 ⊢
    have H1 := Lib.hid hcl1
    have H2 := Lib.hid hcl2
    have HS := Lib.hid hs
    obtain ⟨n, hn⟩ : ∃ n, n = l.length := ⟨_, rfl⟩
    rw [← hn] at hc1 hc2 ⊢
    have HN := Lib.hid hn
    clear ha hb hcl1 hcl2 hs hne hn
    go_enter Try.func14, Try.ntmps14
    go_wp2_with fail
    go_loopw [7] (fun v wr => ∃ k : Nat, k ≤ n ∧ v = .int .i64 k ∧ Below w.heap.size w wr) (fun v _ => n - (intOf v).toNat)
    case atStart => exact ⟨0, Nat.zero_le _, rfl, Below.refl _ _⟩
    case round =>
      obtain ⟨k, hk, rfl, hbw⟩ := hrel
      by_cases hlt : k < n
      · have hkl : k < l.length := by rw [← HN.out]; exact hlt
        obtain ⟨t, ht⟩ : ∃ t, t = l[k] := ⟨_, rfl⟩
        have hget : l[k]? = some t := by rw [ht]; exact Lx.get_of l k hkl
        obtain ⟨p0, p1, p2, p3⟩ := H1.out k t hget
        obtain ⟨q0, q1, q2, q3⟩ := H2.out k (Lx.Tok.shift d t) (by rw [List.getElem?_map, hget]; rfl)
        have hsm := HS.out t (by rw [ht]; exact List.getElem_mem _)
        have p0 := (hbw.cell (p := ⟨g1, k * 4, none⟩) hg1).trans p0
        have p1 := (hbw.cell (p := ⟨g1, k * 4 + 1, none⟩) hg1).trans p1
        have p2 := (hbw.cell (p := ⟨g1, k * 4 + 2, none⟩) hg1).trans p2
        have p3 := (hbw.cell (p := ⟨g1, k * 4 + 3, none⟩) hg1).trans p3
        have hgw1 : g1 < wr.heap.size := Nat.lt_of_lt_of_le hg1 hbw.size
        have hgw2 : g2 < wr.heap.size := Nat.lt_of_lt_of_le hg2 hbw.size
        have hz := hbw.size
        have q0 := (hbw.cell (p := ⟨g2, o2 + k * 4, none⟩) hg2).trans q0
        have q1 := (hbw.cell (p := ⟨g2, o2 + k * 4 + 1, none⟩) hg2).trans q1
        have q2 := (hbw.cell (p := ⟨g2, o2 + k * 4 + 2, none⟩) hg2).trans q2
        have q3 := (hbw.cell (p := ⟨g2, o2 + k * 4 + 3, none⟩) hg2).trans q3
        obtain ⟨x, hx⟩ : ∃ x, x = Lx.str t.text := ⟨_, rfl⟩
        obtain ⟨a, hta⟩ : ∃ a, a = t.at_ := ⟨_, rfl⟩
        simp only [Lx.Tok.shift] at q0 q1 q2 q3
        rw [← hx] at p1 q1
        rw [← hta] at p3 q3 hsm
        rw [Int.natCast_add] at q3
        clear hx hta ht hget hkl
        go_wp2_with fail
        obtain ⟨W, hW⟩ : ∃ W, W = wr.alloc (.cells #[.int .i64 (t.kind : Nat), .string x, .int .i64 (t.n : Nat), .int .i64 ((a : Int) + (d : Int))] 30) := ⟨_, rfl⟩
        have hk0 : W.heap[wr.heap.size]? = some (.cells #[.int .i64 (t.kind : Nat), .string x, .int .i64 (t.n : Nat), .int .i64 ((a : Int) + (d : Int))] 30 (0, 0)) := by rw [hW]; exact heap_alloc_new _ _
        have hbW : Below wr.heap.size wr W := by rw [hW]; exact (Below.refl _ _).alloc (Nat.le_refl _) _
        rw [← hW]
        have s0 := Joins.cell_of_block hk0 0
        have s1 := Joins.cell_of_block hk0 1
        have s2 := Joins.cell_of_block hk0 2
        have s3 := Joins.cell_of_block hk0 3
        have r0 := (hbW.cell (p := ⟨g2, o2 + k * 4, none⟩) hgw2).trans q0
        have r1 := (hbW.cell (p := ⟨g2, o2 + k * 4 + 1, none⟩) hgw2).trans q1
        have r2 := (hbW.cell (p := ⟨g2, o2 + k * 4 + 2, none⟩) hgw2).trans q2
        have r3 := (hbW.cell (p := ⟨g2, o2 + k * 4 + 3, none⟩) hgw2).trans q3
        have hbn := hbw.trans (hbW.mono hz)
        clear hW hk0 hbW p0 p1 p2 p3 q0 q1 q2 q3
        have hki : (k : Int) < (n : Int) := by omega
        go_quiet (fail)
        go_wp2_with fail
        go_roundw
        case rel => exact ⟨k + 1, by omega, by go_num, Lx.below_drewN2 hbn _⟩
        case measure => simp [intOf]; omega
      · go_wp2_with fail
        go_ret
        exact ⟨rfl, hbw⟩

set_option maxHeartbeats 4000000 in
set_option maxRecDepth 100000 in
/-- Lists that are equal apart from offsets. -/
theorem alike_yes (va vb : Value) (l m : List Lx.Tok) (w : World) (ha : Lx.IsL w va l) (hb : Lx.IsL w vb m) (hal : Lx.alike l m) :
    Calls Try.prog 17 #[va, vb] w fun e w' => e = .returned (.bool true) ∧ Below w.heap.size w w' := by
  have hlen := Lx.alike_take hal
  have hkey : ∀ (k : Nat) (t u : Lx.Tok), l[k]? = some t → m[k]? = some u → t.kind = u.kind ∧ t.text = u.text ∧ t.n = u.n := by
    intro k t u ht hu
    have := congrArg (fun x => x[k]?) hal
    simp only [List.getElem?_map, ht, hu, Option.map_some] at this
    have := Option.some.inj this
    simpa using this
  by_cases hne : l = []
  · subst hne
    have hm0 : m = [] := List.length_eq_zero_iff.1 (by rw [← hlen]; rfl)
    subst hm0
    obtain ⟨a1, c1, e1⟩ := ha.form
    obtain ⟨a2, c2, e2⟩ := hb.form
    simp only [List.length_nil] at e1 e2
    subst e1 e2
    clear ha hb hal hlen hkey
    go_enter Try.func17, Try.ntmps17
    go_wp2_with fail
    go_loopw [5] (fun v wr => v = .int .i64 0 ∧ wr = w) (fun _ _ => 0)
    case atStart => exact ⟨rfl, rfl⟩
    case round =>
      obtain ⟨rfl, rfl⟩ := hrel
      go_wp2_with fail
      go_ret
      exact ⟨rfl, Below.refl _ _⟩
  · have hme : m ≠ [] := fun h => hne (List.length_eq_zero_iff.1 (by rw [hlen, h]; rfl))
    obtain ⟨g1, c1, rfl, hc1, hm1, hg1, hcl1⟩ := ha.some hne
    obtain ⟨g2, c2, rfl, hc2, hm2, hg2, hcl2⟩ := hb.some hme
    rw [← hlen] at hc2 ⊢
    have H1 := Lib.hid hcl1
    have H2 := Lib.hid hcl2
    have HK := Lib.hid hkey
    obtain ⟨n, hn⟩ : ∃ n, n = l.length := ⟨_, rfl⟩
    rw [← hn] at hc1 hc2 hlen ⊢
    have HN := Lib.hid hn
    have HM := Lib.hid hlen
    clear ha hb hcl1 hcl2 hne hme hn hlen hal hkey
    go_enter Try.func17, Try.ntmps17
    go_wp2_with fail
    go_loopw [5] (fun v wr => ∃ k : Nat, k ≤ n ∧ v = .int .i64 k ∧ Below w.heap.size w wr) (fun v _ => n - (intOf v).toNat)
    case atStart => exact ⟨0, Nat.zero_le _, rfl, Below.refl _ _⟩
    case round =>
      obtain ⟨k, hk, rfl, hbw⟩ := hrel
      by_cases hlt : k < n
      · have hkl : k < l.length := by rw [← HN.out]; exact hlt
        have hkm : k < m.length := by rw [← HM.out]; exact hlt
        obtain ⟨t, ht⟩ : ∃ t, t = l[k] := ⟨_, rfl⟩
        obtain ⟨u, hu⟩ : ∃ u, u = m[k] := ⟨_, rfl⟩
        have hget : l[k]? = some t := by rw [ht]; exact Lx.get_of l k hkl
        have hget2 : m[k]? = some u := by rw [hu]; exact Lx.get_of m k hkm
        obtain ⟨p0, p1, p2, _⟩ := H1.out k t hget
        obtain ⟨q0, q1, q2, _⟩ := H2.out k u hget2
        obtain ⟨e1, e2, e3⟩ := HK.out k t u hget hget2
        rw [← e1] at q0
        rw [← e2] at q1
        rw [← e3] at q2
        have r0 := (hbw.cell (p := ⟨g1, k * 4, none⟩) hg1).trans p0
        have r1 := (hbw.cell (p := ⟨g1, k * 4 + 1, none⟩) hg1).trans p1
        have r2 := (hbw.cell (p := ⟨g1, k * 4 + 2, none⟩) hg1).trans p2
        have s0 := (hbw.cell (p := ⟨g2, k * 4, none⟩) hg2).trans q0
        have s1 := (hbw.cell (p := ⟨g2, k * 4 + 1, none⟩) hg2).trans q1
        have s2 := (hbw.cell (p := ⟨g2, k * 4 + 2, none⟩) hg2).trans q2
        obtain ⟨x, hx⟩ : ∃ x, x = Lx.str t.text := ⟨_, rfl⟩
        rw [← hx] at r1 s1
        obtain ⟨kk, hkk⟩ : ∃ kk : Nat, kk = t.kind := ⟨_, rfl⟩
        obtain ⟨nn, hnn⟩ : ∃ nn : Nat, nn = t.n := ⟨_, rfl⟩
        rw [← hkk] at r0 s0
        rw [← hnn] at r2 s2
        clear hx ht hu hget hget2 hkl hkm p0 p1 p2 q0 q1 q2 e1 e2 e3 hkk hnn
        have hki : (k : Int) < (n : Int) := by omega
        have d1 : ((kk : Int) != (kk : Int)) = false := by simp
        have d2 : ((nn : Int) != (nn : Int)) = false := by simp
        go_wp2_with fail
        go_quiet (fail)
        go_wp2_with fail
        go_roundw
        case rel => exact ⟨k + 1, by omega, by go_num, Lx.below_drewN2 hbw _⟩
        case measure => simp [intOf]; omega
      · go_wp2_with fail
        go_ret
        exact ⟨rfl, hbw⟩

namespace Lx
theorem written_snoc (l : List Tok) (t : Tok) : written (l ++ [t]) = written l ++ (t.text ++ [32]) := by
  induction l with
  | nil => simp [written]
  | cons u l ih => rw [List.cons_append, written, written, ih]; simp
theorem written_take (l : List Tok) (k : Nat) (t : Tok) (h : l[k]? = some t) : written (l.take (k + 1)) = written (l.take k) ++ (t.text ++ [32]) := by
  obtain ⟨hk, e⟩ := List.getElem?_eq_some_iff.1 h
  rw [List.take_succ_eq_append_getElem hk, written_snoc, e]
end Lx

set_option maxHeartbeats 4000000 in
set_option maxRecDepth 100000 in
/-- The law's written. -/
theorem written_walk (va : Value) (l : List Lx.Tok) (w : World) (ha : Lx.IsL w va l) (hsz : ∀ k, (Lx.written (l.take k)).length ≤ 1000000) (ht24 : ∀ t ∈ l, t.text.length ≤ 24) :
    Calls Try.prog 16 #[va] w fun e w' => e = .returned (.string (Lx.str (Lx.written l))) ∧ w = w' := by
  obtain ⟨z, hz⟩ : ∃ z, z = Lx.str (Lx.written l) := ⟨_, rfl⟩
  rw [← hz]
  by_cases hne : l = []
  · subst hne
    obtain ⟨a1, c1, e1⟩ := ha.form
    simp only [List.length_nil] at e1
    subst e1
    have hz0 : z = ⟨#[]⟩ := by rw [hz]; rfl
    subst hz0
    clear ha hz hsz ht24
    go_enter Try.func16, Try.ntmps16
    go_wp2_with fail
    go_loop [3, 4] (fun v i => v = .string ⟨#[]⟩ ∧ i = .int .i64 0) (fun _ _ => 0)
    case atStart => exact ⟨rfl, rfl⟩
    case round =>
      obtain ⟨rfl, rfl⟩ := hrel
      go_wp2_with fail
      go_ret
      exact ⟨rfl, rfl⟩
  · obtain ⟨g1, c1, rfl, hc1, hm1, hg1, hcl1⟩ := ha.some hne
    have H1 := Lib.hid hcl1
    have HZ := Lib.hid hz
    have HS := Lib.hid hsz
    have HT := Lib.hid ht24
    obtain ⟨n, hn⟩ : ∃ n, n = l.length := ⟨_, rfl⟩
    rw [← hn] at hc1 ⊢
    have HN := Lib.hid hn
    clear ha hcl1 hne hn hz hsz ht24
    go_enter Try.func16, Try.ntmps16
    go_wp2_with fail
    go_loop [3, 4] (fun v i => ∃ (k : Nat) (x : ByteArray), k ≤ n ∧ i = .int .i64 k ∧ v = .string x ∧ Hid (x = Lx.str (Lx.written (l.take k)))) (fun _ i => n - (intOf i).toNat)
    case atStart => exact ⟨0, ⟨#[]⟩, Nat.zero_le _, rfl, rfl, rfl⟩
    case round =>
      obtain ⟨k, x, hk, rfl, rfl, hx⟩ := hrel
      by_cases hlt : k < n
      · have hkl : k < l.length := by rw [← HN.out]; exact hlt
        obtain ⟨t, ht⟩ : ∃ t, t = l[k] := ⟨_, rfl⟩
        have hget : l[k]? = some t := by rw [ht]; exact Lx.get_of l k hkl
        obtain ⟨_, p1, _, _⟩ := H1.out k t hget
        obtain ⟨y, hy⟩ : ∃ y, y = Lx.str t.text := ⟨_, rfl⟩
        rw [← hy] at p1
        have h24 := HT.out t (by rw [ht]; exact List.getElem_mem _)
        have hxs : x.size ≤ 1000000 := by rw [hx.out, Lx.str_size]; exact HS.out k
        have hys : y.size ≤ 24 := by rw [hy, Lx.str_size]; exact h24
        have HX : Hid (x ++ (y ++ ⟨#[32]⟩) = Lx.str (Lx.written (l.take (k + 1)))) := by
          show _ = _
          rw [Lx.written_take l k t hget, hx.out, hy]
          apply ByteArray.ext
          simp [Lx.str, ByteArray.data_append]
        clear ht hget hkl hy h24 hx
        have hki : (k : Int) < (n : Int) := by omega
        go_wp2_with fail
        go_round
        case rel => exact ⟨k + 1, _, by omega, by go_num, rfl, HX⟩
        case measure => simp [intOf]; omega
      · have hxz : z = x := by rw [HZ.out, hx.out, List.take_of_length_le (by rw [← HN.out]; omega)]
        subst hxz
        clear hx
        go_wp2_with fail
        go_ret
        exact ⟨rfl, rfl⟩
end Go.Proofs.Ytidmonmkpkbhjaa
