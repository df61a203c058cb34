/-
  The reference of layer 7: Size and large.
-/
import Derived.Test.YtjcaingfeaaakaaMRefA
namespace Go.Proofs.Ytjcaingfeaaakaa
open Go.RowKit

namespace Fm
theorem depthL_take {ks : List Fo} {i : Nat} {k : Fo} (h : ks[i]? = some k) : depthL (ks.take (i + 1)) = max (depthL (ks.take i)) (depth k) := by
  obtain ⟨hi, rfl⟩ := List.getElem?_eq_some_iff.1 h
  rw [List.take_succ_eq_append_getElem hi, depthL_append, depthL, depthL]; omega
where depthL_append : ∀ (a b : List Fo), depthL (a ++ b) = max (depthL a) (depthL b)
  | [], b => by rw [depthL]; simp
  | k :: a, b => by rw [List.cons_append, depthL, depthL, depthL_append a b]; omega
theorem depth_le_size : ∀ (s : Nat) (f : Fo), size f ≤ s → depth f ≤ size f := by
  intro s
  induction s with
  | zero => intro f h; have := size_pos f; omega
  | succ s ih =>
    intro f h
    rw [depth_eq, size_eq] at *
    have : ∀ ks : List Fo, (∀ k ∈ ks, depth k ≤ size k) → depthL ks ≤ sizeL ks := by
      intro ks
      induction ks with
      | nil => intro _; rw [depthL]; omega
      | cons k ks ihk =>
        intro hk
        rw [depthL, sizeL]
        have h1 := hk k (List.mem_cons_self ..)
        have h2 := ihk (fun j hj => hk j (List.mem_cons_of_mem _ hj))
        omega
    have := this f.kids (fun k hk => ih k (by have := size_mem hk; omega))
    omega
end Fm

set_option maxHeartbeats 4000000 in
set_option maxRecDepth 100000 in
theorem refsize_walk : ∀ (s : Nat) (f : Fm.Fo) (u : Value) (w : World), Fm.size f ≤ s → Fm.size f ≤ 4611686018427387900 → Fm.At w f u →
    Calls Try.prog 14 #[Fm.fv f u] w fun e w' => e = .returned (.tuple #[.int .i64 (Fm.size f : Nat), .int .i64 (Fm.depth f : Nat)]) ∧ Below w.heap.size w w' := by
  intro s
  induction s with
  | zero => intro f u w hs; have := Fm.size_pos f; omega
  | succ s ih =>
    intro f u w hs hb hat
    have hdp := Fm.depth_eq f
    have hsz := Fm.size_eq f
    obtain ⟨a, c, g, o, rfl, hc1, hc2, hga, hcl⟩ := hat.kidsAt.any
    obtain ⟨K, hK⟩ : ∃ K, K = f.kids := ⟨_, rfl⟩
    rw [← hK] at hsz hc1 hga hcl
    obtain ⟨n, hn⟩ : ∃ n, n = K.length := ⟨_, rfl⟩
    have HB0 := Lib.hid (Fm.FBox.start w f (.slice a f.kids.length c))
    rw [← hK, ← hn] at HB0 ⊢
    have hga2 : 0 < n → a = some ⟨g, o, none⟩ ∧ g < w.heap.size := fun h => hga (by rintro rfl; rw [hn] at h; simp at h)
    rw [← hn] at hc1
    have HC := Lib.hid hcl
    have HG := Lib.hid hga2
    have HN := Lib.hid hn
    rw [← hK] at hdp
    rw [hsz, hdp]
    rw [hsz] at hb
    have hdb : Fm.depthL K ≤ Fm.sizeL K := by have := Fm.depth_le_size _ f (Nat.le_refl _); omega
    have HIH : Hid (∀ k ∈ K, ∀ v W, Fm.At W k v → Calls Try.prog 14 #[Fm.fv k v] W fun e w' => e = .returned (.tuple #[.int .i64 (Fm.size k : Nat), .int .i64 (Fm.depth k : Nat)]) ∧ Below W.heap.size W w') := fun k hk v W hv => ih k v W (by have := Fm.size_mem hk; omega) (by have := Fm.size_mem hk; omega) hv
    obtain ⟨S, hS⟩ : ∃ S, S = Fm.sizeL K := ⟨_, rfl⟩
    obtain ⟨D, hD⟩ : ∃ D, D = Fm.depthL K := ⟨_, rfl⟩
    rw [← hS, ← hD] at hdb ⊢
    rw [← hS] at hb
    have HS := Lib.hid (And.intro hS hD)
    clear hat hcl hga hga2 hn hsz hK hs ih hdp hS hD
    go_enter Try.func14, Try.ntmps14
    go_wp2_with fail
    go_loopw [4, 5, 6] (fun v t i wr => ∃ k r d : Nat, k ≤ n ∧ i = .int .i64 k ∧ v = .int .i64 (r : Nat) ∧ t = .int .i64 (d : Nat) ∧ r ≤ 1 + S ∧ d ≤ S ∧ Hid (r = 1 + Fm.sizeL (K.take k) ∧ d = Fm.depthL (K.take k)) ∧ Hid (Fm.FBox w f (.slice a n c) wr)) (fun _ _ i _ => n - (intOf i).toNat)
    case atStart => exact ⟨0, 1, 0, Nat.zero_le _, rfl, rfl, rfl, by omega, by omega, (by rw [List.take_zero, Fm.sizeL, Fm.depthL]; exact ⟨rfl, rfl⟩ : 1 = 1 + Fm.sizeL (K.take 0) ∧ 0 = Fm.depthL (K.take 0)), HB0.out⟩
    case round =>
      obtain ⟨k, r, d, hk, rfl, rfl, rfl, hr, hd, hq, hbx⟩ := hrel
      have q4 := hbx.out.c4
      by_cases hlt : k < n
      · have hki : (k : Int) < (n : Int) := by omega
        obtain ⟨x, hx⟩ : ∃ x, K[k]? = some x := ⟨_, List.getElem?_eq_getElem (by rw [← HN.out]; exact hlt)⟩
        obtain ⟨rfl, hg⟩ := HG.out (by omega)
        obtain ⟨v, p0, p1, p2, p3, p4, hv⟩ := HC.out k x hx
        have hbw := hbx.out.2
        have p0 := (hbw.cell (p := ⟨g, o + k * 5, none⟩) hg).trans p0
        have p1 := (hbw.cell (p := ⟨g, o + k * 5 + 1, none⟩) hg).trans p1
        have p2 := (hbw.cell (p := ⟨g, o + k * 5 + 2, none⟩) hg).trans p2
        have p3 := (hbw.cell (p := ⟨g, o + k * 5 + 3, none⟩) hg).trans p3
        have p4 := (hbw.cell (p := ⟨g, o + k * 5 + 4, none⟩) hg).trans p4
        have HA := Lib.hid (HIH.out x (List.mem_of_getElem? hx) v wr (hv.below hbw))
        obtain ⟨y, hy⟩ : ∃ y, y = Fm.size x := ⟨_, rfl⟩
        obtain ⟨e, he⟩ : ∃ e, e = Fm.depth x := ⟨_, rfl⟩
        rw [← hy, ← he] at HA
        have h3 := Fm.sizeL_take hx
        have h4 := Fm.depthL_take hx
        have h5 := Fm.sizeL_split K (k + 1)
        have h6 := Fm.depth_le_size _ x (Nat.le_refl _)
        have h7 := hq.out
        have h8 := HS.out
        have HY : Hid (∀ q : Nat, q = max d e → r + y = 1 + Fm.sizeL (K.take (k + 1)) ∧ q = Fm.depthL (K.take (k + 1))) := fun q hq => by omega
        have hyb : r + y ≤ 1 + S := by omega
        have heb : e ≤ S := by omega
        clear hx hv hbw hy he h3 h4 h5 h6 h7 h8
        go_wp2_with fail
        refine HA.out.mono ?_
        rintro e1 w1 ⟨rfl, hb1⟩
        have HB1 := Lib.hid (hbx.out.next hb1)
        clear p0 p1 p2 p3 p4 q4 hb1 HA
        by_cases hde : (d : Int) < (e : Int)
        · have HY2 := Lib.hid (HY.out e (by omega))
          clear HY hq
          go_wp2_with fail
          go_roundw
          case rel => exact ⟨k + 1, r + y, e, by omega, by go_num, by go_num, rfl, by omega, by omega, HY2, HB1⟩
          case measure => simp [intOf]; omega
        · have HY2 := Lib.hid (HY.out d (by omega))
          clear HY hq
          go_wp2_with fail
          go_roundw
          case rel => exact ⟨k + 1, r + y, d, by omega, by go_num, by go_num, rfl, by omega, by omega, HY2, HB1⟩
          case measure => simp [intOf]; omega
      · obtain rfl : k = n := by omega
        have hki : ¬ (k : Int) < (k : Int) := by omega
        have hzr : r = 1 + S ∧ d = D := by
          have h1 := hq.out
          rw [HN.out, List.take_length] at h1
          have h2 := HS.out
          omega
        obtain ⟨rfl, rfl⟩ := hzr
        clear hq
        go_wp2_with fail
        go_ret2
        refine ⟨?_, hbx.out.2⟩
        simp
        omega

set_option maxHeartbeats 1000000 in
set_option maxRecDepth 100000 in
theorem large_walk (f : Fm.Fo) (u : Value) (w : World) (hb : Fm.size f ≤ 4611686018427387900) (hat : Fm.At w f u) :
    Calls Try.prog 40 #[Fm.fv f u] w fun e w' => e = .returned (.bool (!Fm.small f)) ∧ Below w.heap.size w w' := by
  obtain ⟨ua, un, uc, hu⟩ : ∃ a n c, u = .slice a n c := by obtain ⟨a, c, e, _⟩ := hat.kidsAt.len; exact ⟨_, _, _, e⟩
  subst hu
  have HB0 := Lib.hid (Fm.FBox.start w f (.slice ua un uc))
  have HC := Lib.hid (refsize_walk (Fm.size f) f _ _ (Nat.le_refl _) hb (hat.below HB0.out.2))
  unfold Fm.small
  obtain ⟨S, hS⟩ : ∃ S, S = Fm.size f := ⟨_, rfl⟩
  obtain ⟨D, hD⟩ : ∃ D, D = Fm.depth f := ⟨_, rfl⟩
  rw [← hS, ← hD] at HC
  obtain ⟨b, hbb⟩ : ∃ b, b = (!(decide (Fm.size f ≤ 200) && decide (Fm.depth f ≤ 20))) := ⟨_, rfl⟩
  rw [← hbb]
  rw [← hS, ← hD] at hbb
  have HBB := Lib.hid hbb
  clear hS hD hat hbb
  go_enter Try.func40, Try.ntmps40
  go_wp2_with fail
  refine HC.out.mono ?_
  rintro e w1 ⟨rfl, hb1⟩
  have HX := Lib.hid (HB0.out.next hb1).2
  clear hb1
  by_cases h1 : 200 < (S : Int)
  · go_wp2_with fail
    go_ret
    refine ⟨Lx.ret_bool ?_, HX.out⟩
    rw [HBB.out, Bool.eq_iff_iff]; simp; omega
  · go_wp2_with fail
    go_ret
    refine ⟨Lx.ret_bool ?_, HX.out⟩
    rw [HBB.out, Bool.eq_iff_iff]; simp; omega
end Go.Proofs.Ytjcaingfeaaakaa
