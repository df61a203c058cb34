import Derived.Test.YthhfcijgcpnfcaaDoorKSVerify
import Derived.Test.YthhfcijgcpnfcaaDoorKSSign
import Derived.Test.YthhfcijgcpnfcaaDoorKSFew
/-
  The walk of the law's fixed examples (stage 3): they hold.
-/
namespace Go.Proofs.YthhfcijgcpnfcaaDoor
open Go.RowKit

namespace Sl
/-- Verify accepts what Sign makes. -/
theorem verify_sig (s : Tr.T) (h i : Nat) (m : Tr.T) (h8 : h ≤ 8) (hi : i < 2 ^ h) : verify (pub s h) m i (sig s i m) (Tr.path (keys s h) i) = true :=
  (verify_accepts _ _ _ _ _).2 ⟨by omega, by simpa using (verifies s h i m h8 hi).2⟩
theorem path_len (s : Tr.T) (h i : Nat) (hi : i < 2 ^ h) : (Tr.path (keys s h) i).length = h := by rw [Tr.path_length _ (keys s h) i rfl, keys_length, Tr.plen_two h i hi]
theorem verify_empty (m : Tr.T) (i : Int) (sg q : List Tr.T) : verify [] m i sg q = false := by
  cases h : verify [] m i sg q with
  | false => rfl
  | true =>
    have := (verify_form _ _ _ _ _ h).2.2.2.2.1
    simp [Dg.isDigest] at this
theorem pow_facts (h : Nat) (h8 : h ≤ 8) : ∃ N : Nat, N = 2 ^ h ∧ 0 < N ∧ N ≤ 256 ∧ wrap64 ((2 : Int) ^ h) = (N : Int) := by
  obtain ⟨N, hN⟩ : ∃ N, N = 2 ^ h := ⟨_, rfl⟩
  have h0 : 0 < N := by rw [hN]; exact Nat.two_pow_pos _
  have hn8 : N ≤ 256 := by rw [hN]; exact Nat.le_trans (Nat.pow_le_pow_right (by decide) h8) (by decide)
  refine ⟨N, hN, h0, hn8, ?_⟩
  have e : ((2 : Int) ^ h) = (N : Int) := by rw [hN]; simp
  rw [e]
  unfold wrap64; omega
end Sl

/-- A slice of texts that isn't empty, laid open. -/
theorem IsTx.laid {w : World} {a : Option Addr} {n c : Nat} {l : List ByteArray} (h : IsTx w (.slice a n c) l) (hn : l.length = n) (h0 : 0 < n) :
    n ≤ c ∧ c ≤ 9223372036854775807 ∧ ∃ b off, a = some ⟨b, off, none⟩ ∧ b < w.heap.size ∧ ∀ j, j < l.length → w.cell? ⟨b, off + j, none⟩ = some (.string (l.getD j ByteArray.empty)) := by
  obtain ⟨a', cap, e, h1, h2, hc⟩ := h
  cases e
  obtain ⟨b, off, e, hlt, hx⟩ := hc (by intro e; rw [e] at h0; simp at h0)
  exact ⟨h1, h2, b, off, e, hlt, hx⟩

theorem IsTx.cut {w : World} {b o n c : Nat} {l : List ByteArray} (h : IsTx w (.slice (some ⟨b, o, none⟩) n c) l) (hn : l.length = n) (k : Nat) (hk : k ≤ n) (h0 : 0 < n) : IsTx w (.slice (some ⟨b, o, none⟩) k c) (l.take k) := by
  obtain ⟨h1, h2, b', o', e, hlt, hc⟩ := h.laid hn h0
  cases e
  exact IsTx.take (by omega) h2 hlt hc k (by omega)

theorem SealOut.seal {i : Int} {sg pt : List Tr.T} {err : Int} {w : World} {e : Ending} {w' : World} (h : SealOut i sg pt err w e w') :
    ∃ (a1 a2 : Option Addr) (c1 c2 : Nat) (ls lp : List ByteArray), e = .returned (.tuple #[.agg #[.int .i64 i, .slice a1 ls.length c1, .slice a2 lp.length c2], .int .i64 err]) ∧
      IsTx w' (.slice a1 ls.length c1) ls ∧ Hid (Tr.bs ls = sg) ∧ (∀ s ∈ ls, s.size ≤ 16) ∧ IsTx w' (.slice a2 lp.length c2) lp ∧ Hid (Tr.bs lp = pt) ∧ (∀ s ∈ lp, s.size ≤ 16) ∧ Below w.heap.size w w' := by
  obtain ⟨vs, vp, ls, lp, rfl, h1, h2, h3, h4, h5, h6, h7⟩ := h
  have h1' := h1
  have h4' := h4
  obtain ⟨a1, c1, rfl, _⟩ := h1'
  obtain ⟨a2, c2, rfl, _⟩ := h4'
  exact ⟨a1, a2, c1, c2, ls, lp, rfl, h1, h2, h3, h4, h5, h6, h7⟩

theorem seal_block {w w' : World} {g : Nat} {x y z : Value} (hb : Below w.heap.size w w') (hk : w.heap[g]? = some (.cells #[x, y, z] 24 (0, 0))) :
    w'.cell? ⟨g, 0, none⟩ = some x ∧ w'.cell? ⟨g, 1, none⟩ = some y ∧ w'.cell? ⟨g, 2, none⟩ = some z := by
  have := (hb.block _ (lt_of_block hk)).trans hk
  exact ⟨Joins.cell_of_block this 0, Joins.cell_of_block this 1, Joins.cell_of_block this 2⟩

set_option maxHeartbeats 4000000 in
set_option maxRecDepth 100000 in
theorem head_walk (w : World) (ht : HasTab w) :
    Calls Tryd.prog 10 #[] w fun e w' => e = .returned (.bool true) ∧ Below w.heap.size w w' := by
  have HT := Lib.hid ht
  have HB := Lib.hid (Below.refl w.heap.size w)
  clear ht
  obtain ⟨S, hS⟩ : ∃ S, S = (⟨#[115, 101, 99, 114, 101, 116]⟩ : ByteArray).data.toList := ⟨_, rfl⟩
  obtain ⟨M, hM⟩ : ∃ M, M = (⟨#[109, 101, 115, 115, 97, 103, 101]⟩ : ByteArray).data.toList := ⟨_, rfl⟩
  have HPU : Hid (∀ w', HasTab w' → Calls Tryd.prog 13 #[.string ⟨#[115, 101, 99, 114, 101, 116]⟩, .int .i64 2] w' (PairOut (Sl.pub S 2) 0 w')) := fun w' hw => by
    rw [hS]; exact public_ok _ (by decide) 2 (by decide) w' hw
  have HSI : Hid (∀ w', HasTab w' → Calls Tryd.prog 15 #[.string ⟨#[115, 101, 99, 114, 101, 116]⟩, .int .i64 2, .int .i64 3, .string ⟨#[109, 101, 115, 115, 97, 103, 101]⟩] w' (SealOut 3 (Sl.sig S 3 M) (Tr.path (Sl.keys S 2) 3) 0 w')) := fun w' hw => by
    rw [hS, hM]; exact sign_ok _ (by decide) 2 (by decide) 3 (by decide) _ (by decide) w' hw
  have HSB : Hid (∀ w', HasTab w' → Calls Tryd.prog 15 #[.string ⟨#[115, 101, 99, 114, 101, 116]⟩, .int .i64 2, .int .i64 4, .string ⟨#[109, 101, 115, 115, 97, 103, 101]⟩] w' (SealOut 0 [] [] 1 w')) := fun w' hw =>
    sign_bad _ (by decide) 2 (by decide) 4 (by decide) _ w' hw
  have HVE : Hid (∀ w' (pb : ByteArray) v i ls lp, HasTab w' → IsSeal w' v i ls lp → (∀ s ∈ ls, s.size ≤ 16) → (∀ s ∈ lp, s.size ≤ 16) → Calls Tryd.prog 18 #[.string pb, .string ⟨#[109, 101, 115, 115, 97, 103, 101]⟩, v] w' (BoolOut (Sl.verify pb.data.toList M i (Tr.bs ls) (Tr.bs lp)) w')) := fun w' pb v i ls lp hw hv h1 h2 => by
    rw [hM]; exact verify_walk pb _ (by decide) v i ls lp w' hv (fun s h => by have := h1 s h; omega) (fun s h => by have := h2 s h; omega) hw
  clear hS hM
  go_enter Tryd.func10, Tryd.ntmps10
  go_wp2_with fail
  refine (HPU.out w HT.out).mono ?_
  rintro e w1 ⟨r1, rfl, hr1, hz1, hb⟩
  replace HB := Lib.hid (HB.out.trans (hb.mono HB.out.size))
  replace HT := Lib.hid (HT.out.below hb)
  clear hb
  go_wp2_with fail
  refine (public_no _ 9 (by decide) w1).mono ?_
  rintro e w2 ⟨r2, rfl, _, _, hb⟩
  replace HB := Lib.hid (HB.out.trans (hb.mono HB.out.size))
  replace HT := Lib.hid (HT.out.below hb)
  clear hb
  go_wp2_with fail
  refine (HSI.out w2 HT.out).mono ?_
  intro e w3 hs
  obtain ⟨a1, a2, c1, c2, ls, lp, rfl, hx1, hx2, hx3, hx4, hx5, hx6, hb⟩ := hs.seal
  clear hs
  replace HB := Lib.hid (HB.out.trans (hb.mono HB.out.size))
  replace HT := Lib.hid (HT.out.below hb)
  have h18 : ls.length = 18 := by rw [Tr.len_of hx2, Sl.sig_length]
  have h2 : lp.length = 2 := by rw [Tr.len_of hx5, Sl.path_len _ _ _ (by decide)]
  rw [h18] at hx1 ⊢
  rw [h2] at hx4 ⊢
  obtain ⟨k1, k2, b1, o1, rfl, hlt1, hcc1⟩ := hx1.laid h18 (by decide)
  obtain ⟨k3, k4, b2, o2, rfl, hlt2, hcc2⟩ := hx4.laid h2 (by decide)
  have HX1 := Lib.hid hx1
  have HX4 := Lib.hid hx4
  have HZ3 := Lib.hid hx3
  have HZ6 := Lib.hid hx6
  have H18 := Lib.hid h18
  have H2 := Lib.hid h2
  have HD1 : Hid (IsTx w3 (.slice (some ⟨b1, o1 + 1, none⟩) 17 (c1 - 1)) (ls.drop 1)) := IsTx.drop (by omega) k2 hlt1 hcc1 1 17 (c1 - 1) (by omega) (by omega)
  have HD2 : Hid (IsTx w3 (.slice (some ⟨b2, o2, none⟩) 1 c2) (lp.take 1)) := IsTx.take (by omega) k4 hlt2 hcc2 1 (by omega)
  clear hb hx1 hx4 hx3 hx6 h18 h2 hcc1 hcc2
  go_wp2_with fail
  have hb3 := (Below.refl w3.heap.size w3).alloc (Nat.le_refl _) (.cells #[.int .i64 3, .slice (some ⟨b1, o1, none⟩) 18 c1, .slice (some ⟨b2, o2, none⟩) 2 c2] 24)
  refine (HSB.out _ (HT.out.below hb3)).mono ?_
  intro e w4 hs
  obtain ⟨a1, a2, c3, c4, ls2, lp2, rfl, hy1, hy2, hy3, hy4, hy5, hy6, hb⟩ := hs.seal
  clear hs hy1 hy2 hy3 hy4 hy5 hy6
  have hblk : w4.heap[w3.heap.size]? = some (.cells #[.int .i64 3, .slice (some ⟨b1, o1, none⟩) 18 c1, .slice (some ⟨b2, o2, none⟩) 2 c2] 24 (0, 0)) := (hb.block _ (by simp)).trans (heap_alloc_new _ _)
  have d0 : w4.cell? ⟨w3.heap.size, 0, none⟩ = some (.int .i64 3) := Joins.cell_of_block hblk 0
  have d1 : w4.cell? ⟨w3.heap.size, 1, none⟩ = some (.slice (some ⟨b1, o1, none⟩) 18 c1) := Joins.cell_of_block hblk 1
  have d2 : w4.cell? ⟨w3.heap.size, 2, none⟩ = some (.slice (some ⟨b2, o2, none⟩) 2 c2) := Joins.cell_of_block hblk 2
  have hlt4 := lt_of_block hblk
  have hb34 := hb3.trans (hb.mono hb3.size)
  replace HB := Lib.hid (HB.out.trans (hb34.mono HB.out.size))
  replace HT := Lib.hid (HT.out.below hb34)
  have HB34 := Lib.hid hb34
  have x1 : ∀ p q r : Obj, (((w4.alloc p).alloc q).alloc r).cell? ⟨w3.heap.size, 1, none⟩ = some (.slice (some ⟨b1, o1, none⟩) 18 c1) := fun p q r => by
    rw [World.cell?_alloc_lt _ _ _ (by simp; omega), World.cell?_alloc_lt _ _ _ (by simp; omega), World.cell?_alloc_lt _ _ _ (by simp; omega), d1]
  clear hblk hb hb3 hb34
  go_upto_region 11 with fail
  obtain ⟨W6, hW6⟩ : ∃ W6, W6 = (((w4.alloc (.cells #[.int .i64 0, .slice a1 ls2.length c3, .slice a2 lp2.length c4] 24)).alloc (.cells #[.int .i64 3, .slice (some ⟨b1, o1, none⟩) 18 c1, .slice (some ⟨b2, o2, none⟩) 1 c2] 24)).alloc (.cells #[.int .i64 3, .slice (some ⟨b1, o1 + 1, none⟩) 17 (c1 - 1), .slice (some ⟨b2, o2, none⟩) 2 c2] 24)) := ⟨_, rfl⟩
  rw [← hW6]
  have hb6 : Below w4.heap.size w4 W6 := by rw [hW6]; exact beside_le3 _ _ _
  have hs6 : W6.heap.size = w4.heap.size + 3 := by rw [hW6]; simp
  have y0 : ∀ w', Tr.Old W6 w' → w'.cell? ⟨w3.heap.size, 0, none⟩ = some (.int .i64 3) := fun w' h => (Below.cell (hb6.trans (h.out.mono hb6.size)) (p := ⟨w3.heap.size, 0, none⟩) hlt4).trans d0
  have y1 : ∀ w', Tr.Old W6 w' → w'.cell? ⟨w3.heap.size, 1, none⟩ = some (.slice (some ⟨b1, o1, none⟩) 18 c1) := fun w' h => (Below.cell (hb6.trans (h.out.mono hb6.size)) (p := ⟨w3.heap.size, 1, none⟩) hlt4).trans d1
  have y2 : ∀ w', Tr.Old W6 w' → w'.cell? ⟨w3.heap.size, 2, none⟩ = some (.slice (some ⟨b2, o2, none⟩) 2 c2) := fun w' h => (Below.cell (hb6.trans (h.out.mono hb6.size)) (p := ⟨w3.heap.size, 2, none⟩) hlt4).trans d2
  have k9 : W6.heap[w4.heap.size + 1]? = some (.cells #[.int .i64 3, .slice (some ⟨b1, o1, none⟩) 18 c1, .slice (some ⟨b2, o2, none⟩) 1 c2] 24 (0, 0)) := by
    have := heap_alloc_new (w4.alloc (.cells #[.int .i64 0, .slice a1 ls2.length c3, .slice a2 lp2.length c4] 24)) (.cells #[.int .i64 3, .slice (some ⟨b1, o1, none⟩) 18 c1, .slice (some ⟨b2, o2, none⟩) 1 c2] 24)
    rw [hW6, Below.heap_alloc _ _ _ (by simp)]; simpa using this
  have k10 : W6.heap[w4.heap.size + 1 + 1]? = some (.cells #[.int .i64 3, .slice (some ⟨b1, o1 + 1, none⟩) 17 (c1 - 1), .slice (some ⟨b2, o2, none⟩) 2 c2] 24 (0, 0)) := by
    have := heap_alloc_new ((w4.alloc (.cells #[.int .i64 0, .slice a1 ls2.length c3, .slice a2 lp2.length c4] 24)).alloc (.cells #[.int .i64 3, .slice (some ⟨b1, o1, none⟩) 18 c1, .slice (some ⟨b2, o2, none⟩) 1 c2] 24)) (.cells #[.int .i64 3, .slice (some ⟨b1, o1 + 1, none⟩) 17 (c1 - 1), .slice (some ⟨b2, o2, none⟩) 2 c2] 24)
    rw [hW6]; simpa using this
  have s0 : ∀ w', Tr.Old W6 w' → w'.cell? ⟨w4.heap.size + 1, 0, none⟩ = some (.int .i64 3) := fun w' h => (Below.cell h.out (p := ⟨w4.heap.size + 1, 0, none⟩) (lt_of_block k9)).trans (Joins.cell_of_block k9 0)
  have s1 : ∀ w', Tr.Old W6 w' → w'.cell? ⟨w4.heap.size + 1, 1, none⟩ = some (.slice (some ⟨b1, o1, none⟩) 18 c1) := fun w' h => (Below.cell h.out (p := ⟨w4.heap.size + 1, 1, none⟩) (lt_of_block k9)).trans (Joins.cell_of_block k9 1)
  have s2 : ∀ w', Tr.Old W6 w' → w'.cell? ⟨w4.heap.size + 1, 2, none⟩ = some (.slice (some ⟨b2, o2, none⟩) 1 c2) := fun w' h => (Below.cell h.out (p := ⟨w4.heap.size + 1, 2, none⟩) (lt_of_block k9)).trans (Joins.cell_of_block k9 2)
  have t0 : ∀ w', Tr.Old W6 w' → w'.cell? ⟨w4.heap.size + 1 + 1, 0, none⟩ = some (.int .i64 3) := fun w' h => (Below.cell h.out (p := ⟨w4.heap.size + 1 + 1, 0, none⟩) (lt_of_block k10)).trans (Joins.cell_of_block k10 0)
  have t1 : ∀ w', Tr.Old W6 w' → w'.cell? ⟨w4.heap.size + 1 + 1, 1, none⟩ = some (.slice (some ⟨b1, o1 + 1, none⟩) 17 (c1 - 1)) := fun w' h => (Below.cell h.out (p := ⟨w4.heap.size + 1 + 1, 1, none⟩) (lt_of_block k10)).trans (Joins.cell_of_block k10 1)
  have t2 : ∀ w', Tr.Old W6 w' → w'.cell? ⟨w4.heap.size + 1 + 1, 2, none⟩ = some (.slice (some ⟨b2, o2, none⟩) 2 c2) := fun w' h => (Below.cell h.out (p := ⟨w4.heap.size + 1 + 1, 2, none⟩) (lt_of_block k10)).trans (Joins.cell_of_block k10 2)
  have hO := Tr.Old.refl W6
  have hb36 := HB34.out.trans (hb6.mono HB34.out.size)
  have H36 := Lib.hid hb36
  have hp36 := Lib.hid (HB.out.trans (hb6.mono HB.out.size))
  have HT6 := Lib.hid (HT.out.below hb6)
  have hsg : Tr.bs ls = Sl.sig S 3 M := hx2.out
  have hpt : Tr.bs lp = Tr.path (Sl.keys S 2) 3 := hx5.out
  have HV1 : Hid (∀ w', Tr.Old W6 w' → Calls Tryd.prog 18 #[.string r1, .string ⟨#[109, 101, 115, 115, 97, 103, 101]⟩, .agg #[.int .i64 3, .slice (some ⟨b1, o1, none⟩) 18 c1, .slice (some ⟨b2, o2, none⟩) 2 c2]] w' (BoolOut true w')) := fun w' h => by
    have hx := hb36.trans (h.out.mono hb36.size)
    have := HVE.out w' r1 _ 3 ls lp (HT6.out.below h.out) ⟨_, _, rfl, HX1.out.below hx, HX4.out.below hx⟩ HZ3.out HZ6.out
    rw [hr1.out, hsg, hpt, show ((3 : Int)) = ((3 : Nat) : Int) from rfl, Sl.verify_sig S 2 3 M (by decide) (by decide)] at this
    exact this
  have HV2 : Hid (∀ w', Tr.Old W6 w' → Calls Tryd.prog 18 #[.string r1, .string ⟨#[109, 101, 115, 115, 97, 103, 101]⟩, .agg #[.int .i64 3, .slice (some ⟨b1, o1, none⟩) 18 c1, .slice (some ⟨b2, o2, none⟩) 1 c2]] w' (BoolOut false w')) := fun w' h => by
    have hx := hb36.trans (h.out.mono hb36.size)
    have := HVE.out w' r1 _ 3 ls (lp.take 1) (HT6.out.below h.out) ⟨_, _, rfl, HX1.out.below hx, HD2.out.below hx⟩ HZ3.out (fun s hs => HZ6.out s (List.mem_of_mem_take hs))
    rw [Sl.verify_high _ _ _ _ _ (by rw [Tr.bs_len, List.length_take, H2.out]; decide)] at this
    exact this
  have HV3 : Hid (∀ w', Tr.Old W6 w' → Calls Tryd.prog 18 #[.string r1, .string ⟨#[109, 101, 115, 115, 97, 103, 101]⟩, .agg #[.int .i64 3, .slice (some ⟨b1, o1 + 1, none⟩) 17 (c1 - 1), .slice (some ⟨b2, o2, none⟩) 2 c2]] w' (BoolOut false w')) := fun w' h => by
    have hx := hb36.trans (h.out.mono hb36.size)
    have := HVE.out w' r1 _ 3 (ls.drop 1) lp (HT6.out.below h.out) ⟨_, _, rfl, HD1.out.below hx, HX4.out.below hx⟩ (fun s hs => HZ3.out s (List.mem_of_mem_drop hs)) HZ6.out
    rw [Sl.verify_len _ _ _ _ _ (by rw [Tr.bs_len, List.length_drop, H18.out]; decide)] at this
    exact this
  have HV4 : Hid (∀ w', Tr.Old W6 w' → Calls Tryd.prog 18 #[.string ⟨#[]⟩, .string ⟨#[109, 101, 115, 115, 97, 103, 101]⟩, .agg #[.int .i64 3, .slice (some ⟨b1, o1, none⟩) 18 c1, .slice (some ⟨b2, o2, none⟩) 2 c2]] w' (BoolOut false w')) := fun w' h => by
    have hx := hb36.trans (h.out.mono hb36.size)
    have := HVE.out w' ⟨#[]⟩ _ 3 ls lp (HT6.out.below h.out) ⟨_, _, rfl, HX1.out.below hx, HX4.out.below hx⟩ HZ3.out HZ6.out
    rw [Sl.verify_empty] at this
    exact this
  clear hW6 d0 d1 d2 x1 hb6 k9 k10 hb36 hsg hpt HPU HSI HSB HVE HX1 HX4 HD1 HD2
  go_wp2_with fail
  refine (HV1.out _ hO).mono ?_
  rintro e w7 ⟨rfl, hb⟩
  replace hO := Tr.Old.step hb hO
  clear hb
  go_wp2_with fail
  refine (HV2.out _ hO).mono ?_
  rintro e w8 ⟨rfl, hb⟩
  replace hO := Tr.Old.step hb hO
  clear hb
  go_wp2_with fail
  refine (HV3.out _ hO).mono ?_
  rintro e w9 ⟨rfl, hb⟩
  replace hO := Tr.Old.step hb hO
  clear hb
  go_wp2_with fail
  refine (HV4.out _ hO).mono ?_
  rintro e w10 ⟨rfl, hb⟩
  replace hO := Tr.Old.step hb hO
  clear hb
  go_wp2_with fail
  go_ret
  exact ⟨rfl, hp36.out.trans (hO.out.mono hp36.out.size)⟩
end Go.Proofs.YthhfcijgcpnfcaaDoor
