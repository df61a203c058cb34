/-
  FormulaSizes (P7.6, P7.8): for every two formulas and name, size and depth are those of the kids and one more, expanding replaces one node by the second formula's size for each occurrence, expanding a term by itself changes nothing, and a formula is the same as itself. No condition: the statement itself asks at most 200 nodes and names of at most 60 bytes; for others it says what the law's opening check answers.
-/
import Derived.Test.YtjcaingfeaaakaaLFrameK
import Derived.Test.YtjcaingfeaaakaaMSizesA
import Derived.Deep.RegionHeld3
import Derived.Deep.CutRange
namespace Go.Proofs.Ytjcaingfeaaakaa.formulaSizes
open Go.ChangeShapes Go.WideShapes Go.ChangeAt Go.RowKit
open Go.ChangeMaps (open_string shut_string)

set_option maxHeartbeats 16000000 in
set_option maxRecDepth 100000 in
theorem law_walk (f : Fm.Fo) (u : Value) (by_ : Fm.Fo) (ub : Value) (nm : ByteArray) (w : World) (hat : Fm.At w f u) (hby : Fm.At w by_ ub) (hnm : nm.size ≤ 9223372036854775807) :
    Calls Try.prog 8 #[Fm.fv f u, Fm.fv by_ ub, .string nm] w fun e w' => e = .returned (.bool true) ∧ Below w.heap.size w w' := by
  obtain ⟨x, rfl⟩ : ∃ x, nm = Lx.str x := ⟨Lx.tx nm, (Lx.str_tx nm).symm⟩
  obtain ⟨a, c, g, o, hu, hc1, hc2, hga, hcl⟩ := hat.kidsAt.any
  obtain ⟨ba, bn, bc, hub⟩ : ∃ a n c, ub = .slice a n c := by obtain ⟨a, c, e, _⟩ := hby.kidsAt.len; exact ⟨_, _, _, e⟩
  obtain ⟨K, hK⟩ : ∃ K, K = f.kids := ⟨_, rfl⟩
  rw [← hK] at hu hc1 hga hcl
  obtain ⟨n, hn⟩ : ∃ n, n = K.length := ⟨_, rfl⟩
  rw [← hn] at hu hc1
  subst hu hub
  have hga2 : 0 < n → a = some ⟨g, o, none⟩ ∧ g < w.heap.size := fun h => hga (by rintro rfl; rw [hn] at h; simp at h)
  obtain ⟨W2, hW2⟩ : ∃ W2, W2 = (w.alloc (.cells #[.int .i64 f.op, .string (Lx.str f.name), .int .i64 f.cmp, .int .i64 f.num, .slice a n c] 24)).alloc (.cells #[.int .i64 by_.op, .string (Lx.str by_.name), .int .i64 by_.cmp, .int .i64 by_.num, .slice ba bn bc] 24) := ⟨_, rfl⟩
  have hb2 : Below w.heap.size w W2 := by rw [hW2]; exact ((Below.refl _ _).alloc (Nat.le_refl _) _).alloc (by simp) _
  have k0 : W2.heap[w.heap.size]? = some (.cells #[.int .i64 f.op, .string (Lx.str f.name), .int .i64 f.cmp, .int .i64 f.num, .slice a n c] 24 (0, 0)) := by rw [hW2]; exact Fm.blkK (heap_alloc_new _ _)
  have k1 : W2.heap[w.heap.size + 1]? = some (.cells #[.int .i64 by_.op, .string (Lx.str by_.name), .int .i64 by_.cmp, .int .i64 by_.num, .slice ba bn bc] 24 (0, 0)) := by rw [hW2]; exact Fm.blk1 _ _ _
  have hl0 := (Array.getElem?_eq_some_iff.1 k0).1
  have hl1 := (Array.getElem?_eq_some_iff.1 k1).1
  have HQ : Hid (∀ w', Below W2.heap.size W2 w' → (w'.cell? ⟨w.heap.size, 0, none⟩ = some (.int .i64 f.op) ∧ w'.cell? ⟨w.heap.size, 1, none⟩ = some (.string (Lx.str f.name)) ∧ w'.cell? ⟨w.heap.size, 2, none⟩ = some (.int .i64 f.cmp) ∧ w'.cell? ⟨w.heap.size, 3, none⟩ = some (.int .i64 f.num) ∧ w'.cell? ⟨w.heap.size, 4, none⟩ = some (.slice a n c)) ∧
      (w'.cell? ⟨w.heap.size + 1, 0, none⟩ = some (.int .i64 by_.op) ∧ w'.cell? ⟨w.heap.size + 1, 1, none⟩ = some (.string (Lx.str by_.name)) ∧ w'.cell? ⟨w.heap.size + 1, 2, none⟩ = some (.int .i64 by_.cmp) ∧ w'.cell? ⟨w.heap.size + 1, 3, none⟩ = some (.int .i64 by_.num) ∧ w'.cell? ⟨w.heap.size + 1, 4, none⟩ = some (.slice ba bn bc))) := fun w' h =>
    ⟨⟨(h.cell (p := ⟨w.heap.size, 0, none⟩) hl0).trans (Joins.cell_of_block k0 0), (h.cell (p := ⟨w.heap.size, 1, none⟩) hl0).trans (Joins.cell_of_block k0 1), (h.cell (p := ⟨w.heap.size, 2, none⟩) hl0).trans (Joins.cell_of_block k0 2), (h.cell (p := ⟨w.heap.size, 3, none⟩) hl0).trans (Joins.cell_of_block k0 3), (h.cell (p := ⟨w.heap.size, 4, none⟩) hl0).trans (Joins.cell_of_block k0 4)⟩,
     ⟨(h.cell (p := ⟨w.heap.size + 1, 0, none⟩) hl1).trans (Joins.cell_of_block k1 0), (h.cell (p := ⟨w.heap.size + 1, 1, none⟩) hl1).trans (Joins.cell_of_block k1 1), (h.cell (p := ⟨w.heap.size + 1, 2, none⟩) hl1).trans (Joins.cell_of_block k1 2), (h.cell (p := ⟨w.heap.size + 1, 3, none⟩) hl1).trans (Joins.cell_of_block k1 3), (h.cell (p := ⟨w.heap.size + 1, 4, none⟩) hl1).trans (Joins.cell_of_block k1 4)⟩⟩
  have HA : Hid (∀ w', Below W2.heap.size W2 w' → Fm.At w' f (.slice a n c) ∧ Fm.At w' by_ (.slice ba bn bc) ∧ Below w.heap.size w w') := fun w' h => by
    have hb := hb2.trans (h.mono hb2.size)
    exact ⟨hat.below hb, hby.below hb, hb⟩
  have HKID := Lib.hid (And.intro hcl (And.intro hga2 (And.intro hn hK)))
  have hsx : (Lx.str x).size = x.length := Fc.str_size x
  obtain ⟨sx, hsxe⟩ : ∃ s, s = Lx.str x := ⟨_, rfl⟩
  rw [← hsxe] at hsx hnm ⊢
  have HSX := Lib.hid hsxe
  clear hat hby hb2 k0 k1 hl0 hl1 hcl hga hga2 hn hK hsxe
  go_enter Try.func8, Try.ntmps8
  go_wp2_with fail
  rw [← hW2]
  clear hW2
  refine (head_walk W2).mono ?_
  rintro e w3 ⟨rfl, hb3⟩
  obtain ⟨⟨f0, f1, f2, f3, f4⟩, b0, b1, b2, b3, b4⟩ := HQ.out w3 hb3
  have HSM := Lib.hid (small_walk f _ 200 w3 (by decide) (HA.out w3 hb3).1)
  go_wp2_with fail
  refine HSM.out.mono ?_
  rintro e w4 ⟨rfl, hb4⟩
  have hb4 := below_step hb4 hb3
  clear f0 f1 f2 f3 f4 b0 b1 b2 b3 b4 HSM hb3
  by_cases hs : Fm.size f ≤ 200
  case neg =>
    have HF := Lib.hid (HA.out w4 hb4).2.2
    rw [decide_eq_false hs]
    go_wp2_with fail
    go_ret
    exact ⟨rfl, HF.out⟩
  rw [decide_eq_true hs]
  obtain ⟨⟨f0, f1, f2, f3, f4⟩, b0, b1, b2, b3, b4⟩ := HQ.out w4 hb4
  have HSM := Lib.hid (small_walk by_ _ 200 w4 (by decide) (HA.out w4 hb4).2.1)
  go_wp2_with fail
  refine HSM.out.mono ?_
  rintro e w5 ⟨rfl, hb5⟩
  have hb5 := below_step hb5 hb4
  clear f0 f1 f2 f3 f4 b0 b1 b2 b3 b4 HSM hb4
  by_cases hsb : Fm.size by_ ≤ 200
  case neg =>
    have HF := Lib.hid (HA.out w5 hb5).2.2
    rw [decide_eq_false hsb]
    go_wp2_with fail
    go_ret
    exact ⟨rfl, HF.out⟩
  rw [decide_eq_true hsb]
  by_cases h60 : sx.size ≤ 60
  case neg =>
    have h60i : (60 : Int) < (sx.size : Int) := by omega
    have HF := Lib.hid (HA.out w5 hb5).2.2
    go_wp2_with fail
    go_ret
    exact ⟨rfl, HF.out⟩
  have h60i : ¬ (60 : Int) < (sx.size : Int) := by omega
  obtain ⟨⟨f0, f1, f2, f3, f4⟩, b0, b1, b2, b3, b4⟩ := HQ.out w5 hb5
  have HSZ := Lib.hid (size_walk f _ w5 (HA.out w5 hb5).1 (by omega))
  have HSB := Lib.hid (And.intro hs hsb)
  obtain ⟨N, hN⟩ : ∃ N, N = Fm.size f := ⟨_, rfl⟩
  obtain ⟨D, hD⟩ : ∃ D, D = Fm.depth f := ⟨_, rfl⟩
  rw [← hN, ← hD] at HSZ
  have hNb : N ≤ 200 := by omega
  have hDb : D ≤ 200 := by have := Fm.depth_le_size _ f (Nat.le_refl _); omega
  have HND : Hid (N = 1 + Fm.sizeL K ∧ D = 1 + Fm.depthL K ∧ N = Fm.size f) := ⟨by rw [hN, Fm.size_eq, HKID.out.2.2.2], by rw [hD, Fm.depth_eq, HKID.out.2.2.2], hN⟩
  clear hN hD hs hsb
  go_wp2_with fail
  refine HSZ.out.mono ?_
  rintro e w6 ⟨rfl, hb6⟩
  have hb6 := below_step hb6 hb5
  clear f0 f1 f2 f3 f4 b0 b1 b2 b3 b4 HSZ hb5 h60 h60i
  have HB6 := Lib.hid hb6
  clear hb6
  go_wp2_with fail
  go_loopw [10, 11, 12] (fun v t i wr => ∃ k r d : Nat, k ≤ n ∧ i = .int .i64 k ∧ v = .int .i64 (r : Nat) ∧ t = .int .i64 (d : Nat) ∧ r ≤ N ∧ d ≤ D ∧ Hid (r = 1 + Fm.sizeL (K.take k) ∧ d = Fm.depthL (K.take k)) ∧ Hid (Below W2.heap.size W2 wr)) (fun _ _ i _ => n - (intOf i).toNat)
  case atStart => exact ⟨0, 1, 0, Nat.zero_le _, rfl, rfl, rfl, by have := HND.out; omega, by omega, (by rw [List.take_zero, Fm.sizeL, Fm.depthL]; exact ⟨rfl, rfl⟩ : 1 = 1 + Fm.sizeL (K.take 0) ∧ 0 = Fm.depthL (K.take 0)), HB6.out⟩
  case round =>
    obtain ⟨k, r, d, hk, rfl, rfl, rfl, hr, hd, hq, hbx⟩ := hrel
    clear HB6
    obtain ⟨⟨f0, f1, f2, f3, f4⟩, b0, b1, b2, b3, b4⟩ := HQ.out wr hbx.out
    by_cases hlt : k < n
    · have hki : (k : Int) < (n : Int) := by omega
      obtain ⟨y, hy⟩ : ∃ y, K[k]? = some y := ⟨_, List.getElem?_eq_getElem (by rw [← HKID.out.2.2.1]; exact hlt)⟩
      obtain ⟨rfl, hg⟩ := HKID.out.2.1 (by omega)
      obtain ⟨v, p0, p1, p2, p3, p4, hv⟩ := HKID.out.1 k y hy
      have hbw := (HA.out wr hbx.out).2.2
      have p0 := (hbw.cell (p := ⟨g, o + k * 5, none⟩) hg).trans p0
      have p1 := (hbw.cell (p := ⟨g, o + k * 5 + 1, none⟩) hg).trans p1
      have p2 := (hbw.cell (p := ⟨g, o + k * 5 + 2, none⟩) hg).trans p2
      have p3 := (hbw.cell (p := ⟨g, o + k * 5 + 3, none⟩) hg).trans p3
      have p4 := (hbw.cell (p := ⟨g, o + k * 5 + 4, none⟩) hg).trans p4
      have h3 := Fm.sizeL_take hy
      have h4 := Fm.depthL_take hy
      have h5 := Fm.sizeL_split K (k + 1)
      have h6 := Fm.depth_mem (List.mem_of_getElem? hy)
      have h7 := hq.out
      have h8 := HND.out
      have h9 := Fm.size_mem (List.mem_of_getElem? hy)
      have HS := Lib.hid (size_walk y v wr (hv.below hbw) (by omega))
      obtain ⟨s, hs⟩ : ∃ s, s = Fm.size y := ⟨_, rfl⟩
      obtain ⟨t, ht⟩ : ∃ e, e = Fm.depth y := ⟨_, rfl⟩
      rw [← hs, ← ht] at HS
      have HY : Hid (∀ q : Nat, q = max d t → r + s = 1 + Fm.sizeL (K.take (k + 1)) ∧ q = Fm.depthL (K.take (k + 1))) := fun q hq => by omega
      have hsb : r + s ≤ N := by omega
      have htb : t ≤ D := by omega
      clear hy hv hbw hs ht h3 h4 h5 h6 h7 h8 h9
      go_wp2_with fail
      refine HS.out.mono ?_
      rintro e w1 ⟨rfl, hb1⟩
      have HB1 := Lib.hid (below_step hb1 hbx.out)
      clear p0 p1 p2 p3 p4 f0 f1 f2 f3 f4 b0 b1 b2 b3 b4 hb1 HS
      by_cases hde : (d : Int) < (t : Int)
      · have HY2 := Lib.hid (HY.out t (by omega))
        clear HY hq
        go_wp2_with fail
        go_roundw
        case rel => exact ⟨k + 1, r + s, t, by omega, by go_num, by go_num, rfl, by omega, by omega, HY2, HB1⟩
        case measure => simp [intOf]; omega
      · have HY2 := Lib.hid (HY.out d (by omega))
        clear HY hq
        go_wp2_with fail
        go_roundw
        case rel => exact ⟨k + 1, r + s, d, by omega, by go_num, by go_num, rfl, by omega, by omega, HY2, HB1⟩
        case measure => simp [intOf]; omega
    · obtain rfl : k = n := by omega
      have hki : ¬ (k : Int) < (k : Int) := by omega
      have hzr : r = N ∧ D = d + 1 := by
        have h1 := hq.out
        rw [HKID.out.2.2.1, List.take_length] at h1
        have h2 := HND.out
        omega
      obtain ⟨rfl, rfl⟩ := hzr
      have HSZ := Lib.hid (size_walk by_ _ wr (HA.out wr hbx.out).2.1 (by have := HSB.out; omega))
      obtain ⟨m, hm⟩ : ∃ m, m = Fm.size by_ := ⟨_, rfl⟩
      obtain ⟨md, hmd⟩ : ∃ m, m = Fm.depth by_ := ⟨_, rfl⟩
      rw [← hm, ← hmd] at HSZ
      have hmb : m ≤ 200 := by have := HSB.out; omega
      have HMM := Lib.hid hm
      clear hq hm hmd
      go_wp2_with fail
      refine HSZ.out.mono ?_
      rintro e w7 ⟨rfl, hb7⟩
      have hb7 := below_step hb7 hbx.out
      clear f0 f1 f2 f3 f4 b0 b1 b2 b3 b4 HSZ hbx
      obtain ⟨⟨f0, f1, f2, f3, f4⟩, b0, b1, b2, b3, b4⟩ := HQ.out w7 hb7
      obtain ⟨E, hE⟩ : ∃ E, E = Fm.expand x by_ f := ⟨_, rfl⟩
      have HX : Hid (Calls Try.prog 22 #[Fm.fv f (.slice a k c), .string sx, Fm.fv by_ (.slice ba bn bc)] w7 fun e w'' => (∃ a n c, e = .returned (Fm.fv E (.slice a n c)) ∧ Fm.At w'' E (.slice a n c)) ∧ Below w7.heap.size w7 w'') := (by
        rw [HSX.out, hE]
        exact (expand_walk (Fm.size f) f by_ _ _ x w7 (Nat.le_refl _) (by have := HSB.out; omega) (by have := HSB.out; omega) (HA.out w7 hb7).1 (HA.out w7 hb7).2.1).mono fun e w'' h => by
          obtain ⟨⟨u', h1, h2⟩, h3⟩ := h
          have h2 := h2.at
          obtain ⟨a', c', e', _⟩ := h2.kidsAt.len
          subst e'
          exact ⟨⟨_, _, _, h1, h2⟩, h3⟩)
      have HE := Lib.hid hE
      clear hE
      go_wp2_with fail
      refine HX.out.mono ?_
      rintro e w8 ⟨⟨ea, en, ec, rfl, hat8⟩, hb8⟩
      have hb8 := below_step hb8 hb7
      clear f0 f1 f2 f3 f4 b0 b1 b2 b3 b4 HX hb7
      go_upto_region 15 with fail
      obtain ⟨W9, hW9⟩ : ∃ W9, W9 = w8.alloc (.cells #[.int .i64 E.op, .string (Lx.str E.name), .int .i64 E.cmp, .int .i64 E.num, .slice ea en ec] 24) := ⟨_, rfl⟩
      have kE : W9.heap[w8.heap.size]? = some (.cells #[.int .i64 E.op, .string (Lx.str E.name), .int .i64 E.cmp, .int .i64 E.num, .slice ea en ec] 24 (0, 0)) := by rw [hW9]; exact heap_alloc_new _ _
      have hb9 : Below W2.heap.size W2 W9 := by rw [hW9]; exact below_al hb8 _
      have hat9 : Fm.At W9 E (.slice ea en ec) := by rw [hW9]; exact hat8.below ((Below.refl _ _).alloc (Nat.le_refl _) _)
      rw [← hW9]
      have g0 := Joins.cell_of_block kE 0
      have g1 := Joins.cell_of_block kE 1
      have g2 := Joins.cell_of_block kE 2
      have g3 := Joins.cell_of_block kE 3
      have g4 := Joins.cell_of_block kE 4
      have HSE := Lib.hid (size_walk E _ W9 hat9 (by rw [HE.out]; have h1 := Fm.size_expand_le x by_ f; have h2 := Nat.mul_le_mul HSB.out.1 HSB.out.2; omega))
      obtain ⟨X, hX⟩ : ∃ X, X = Fm.size E := ⟨_, rfl⟩
      obtain ⟨XD, hXD⟩ : ∃ X, X = Fm.depth E := ⟨_, rfl⟩
      rw [← hX, ← hXD] at HSE
      have HXX := Lib.hid hX
      clear hX hXD hW9 hb8 hat8 kE hat9
      go_wp2_with fail
      refine HSE.out.mono ?_
      rintro e w10 ⟨rfl, hb10⟩
      have hb10 := below_step hb10 hb9
      clear g0 g1 g2 g3 g4 HSE hb9
      go_upto_region 17 with fail
      obtain ⟨W11, hW11⟩ : ∃ W, W = w10.alloc (.cells #[.int .i64 4, .string sx, .int .i64 0, .int .i64 0, .slice none 0 0] 24) := ⟨_, rfl⟩
      have kT : W11.heap[w10.heap.size]? = some (.cells #[.int .i64 4, .string sx, .int .i64 0, .int .i64 0, .slice none 0 0] 24 (0, 0)) := by rw [hW11]; exact heap_alloc_new _ _
      have hb11 : Below W2.heap.size W2 W11 := by rw [hW11]; exact below_al hb10 _
      rw [← hW11]
      clear hW11 hb10
      obtain ⟨⟨f0, f1, f2, f3, f4⟩, b0, b1, b2, b3, b4⟩ := HQ.out W11 hb11
      obtain ⟨bb, hbb⟩ : ∃ b : Bool, b = (!(f.op == 4) || decide (k = 0)) := ⟨_, rfl⟩
      have HBB := Lib.hid hbb
      go_cut [21] from 80 to 88 (fun y wx => y = .bool bb ∧ wx = W11)
      case first =>
        by_cases h4 : f.op = 4
        · have h4q : (f.op == 4) = true := by rw [beq_iff_eq]; exact h4
          have h4n : (f.op != 4) = false := by simp [h4]
          have hk0 : ((k : Int) == 0) = decide (k = 0) := by
            by_cases e : k = 0
            · subst e; rfl
            · rw [decide_eq_false e, beq_eq_false_iff_ne]; omega
          have hbv : bb = decide (k = 0) := by rw [hbb, h4q]; rfl
          clear hbb h4
          go_wp2_with fail
          go_meet
          case rel => first | exact ⟨by rw [hbv], rfl⟩ | exact ⟨by rw [hbv, ← hk0], rfl⟩ | (refine ⟨?_, rfl⟩; rw [hbv]; simp)
        · have h4q : (f.op == 4) = false := by rw [beq_eq_false_iff_ne]; exact h4
          have h4n : (f.op != 4) = true := by simp [h4]
          have hbv : bb = true := by rw [hbb, h4q]; rfl
          clear hbb h4
          go_wp2_with fail
          go_meet
          case rel => exact ⟨by rw [hbv], rfl⟩
      case rest =>
        obtain ⟨rfl, rfl⟩ := hcut
        clear hbb f0 f1 f2 f3 f4 b0 b1 b2 b3 b4
        obtain ⟨⟨f0, f1, f2, f3, f4⟩, b0, b1, b2, b3, b4⟩ := HQ.out wc hb11
        have HSm := Lib.hid (same_walk (Fm.size f) f f _ _ wc (Nat.le_refl _) (HA.out wc hb11).1 (HA.out wc hb11).1)
        rw [Fm.same_refl] at HSm
        have hne : ((r : Int) != (r : Int)) = false := by simp
        go_wp2_with fail
        refine HSm.out.mono ?_
        rintro e w12 ⟨rfl, hb12⟩
        have hl11 := (Array.getElem?_eq_some_iff.1 kT).1
        have HT12 : Hid (∀ w', Below w12.heap.size w12 w' → w'.heap[w10.heap.size]? = some (.cells #[.int .i64 4, .string sx, .int .i64 0, .int .i64 0, .slice none 0 0] 24 (0, 0))) := fun w' h => ((hb12.trans (h.mono hb12.size)).block _ hl11).trans kT
        have hb12 := below_step hb12 hb11
        clear f0 f1 f2 f3 f4 b0 b1 b2 b3 b4 HSm hb11 hne kT hl11
        cases bb with
        | false =>
          have HF := Lib.hid (HA.out w12 hb12).2.2
          go_wp2_with fail
          go_ret
          exact ⟨rfl, HF.out⟩
        | true =>
          obtain ⟨⟨f0, f1, f2, f3, f4⟩, b0, b1, b2, b3, b4⟩ := HQ.out w12 hb12
          have HPL := Lib.hid (plain_walk (Fm.size f) f _ w12 (Nat.le_refl _) (by have := HSB.out; omega) (HA.out w12 hb12).1)
          obtain ⟨z, hz⟩ : ∃ z, z = Fm.plain f := ⟨_, rfl⟩
          rw [← hz] at HPL
          have HZ := Lib.hid hz
          clear hz
          go_wp2_with fail
          refine HPL.out.mono ?_
          rintro e w13 ⟨rfl, hb13⟩
          have hb1213 := hb13
          have hb13 := below_step hb13 hb12
          clear f0 f1 f2 f3 f4 b0 b1 b2 b3 b4 HPL
          cases z with
          | false =>
            have HF := Lib.hid (HA.out w13 hb13).2.2
            go_wp2_with fail
            go_ret
            exact ⟨rfl, HF.out⟩
          | true =>
            have hpl : Fm.plain f = true := HZ.out.symm
            obtain ⟨q, hq1, hq2, hq3⟩ := Fm.size_plain (x := x) (b := by_) hpl HSB.out.1 HSB.out.2
            rw [← HMM.out] at hq1
            rw [← HE.out, ← HXX.out, ← HND.out.2.2] at hq2
            obtain ⟨T, hT⟩ : ∃ T, T = Fm.tmo x f := ⟨_, rfl⟩
            rw [← hT] at hq1
            have hs1 : IntKind.i64.wrap ((m : Int) - 1) = (m : Int) - 1 := IntWalk.i64_in _ (by omega)
            have hs2 : IntKind.i64.wrap ((T : Int) * ((m : Int) - 1)) = (q : Int) := by rw [hq1]; exact IntWalk.i64_in _ (by omega)
            have hs3 : IntKind.i64.wrap ((r : Int) + (q : Int)) = (X : Int) := by rw [show (r : Int) + (q : Int) = (X : Int) by omega]; exact IntWalk.i64_in _ (by omega)
            have hxx : ((X : Int) == (X : Int)) = true := by simp
            have hself := Fm.expand_self x f hpl
            have HTm : Hid (∀ w', Below w13.heap.size w13 w' → Calls Try.prog 34 #[.agg #[.int .i64 f.op, .string (Lx.str f.name), .int .i64 f.cmp, .int .i64 f.num, .slice a k c], .string sx] w' fun e w'' => e = .returned (.int .i64 (T : Nat)) ∧ Below w'.heap.size w' w'') := fun w' h => by rw [hT, HSX.out]; exact times_walk (Fm.size f) f _ x w' (Nat.le_refl _) (by have := HSB.out; omega) (HA.out w' (below_step h hb13)).1
            have HX2 : Hid (∀ w', Below w13.heap.size w13 w' → Calls Try.prog 22 #[.agg #[.int .i64 f.op, .string (Lx.str f.name), .int .i64 f.cmp, .int .i64 f.num, .slice a k c], .string sx, .agg #[.int .i64 4, .string sx, .int .i64 0, .int .i64 0, .slice none 0 0]] w' fun e w'' => (∃ a n c, e = .returned (Fm.fv f (.slice a n c)) ∧ Fm.At w'' f (.slice a n c)) ∧ Below w'.heap.size w' w'') := fun w' h => by
              have hl : x.length ≤ 9223372036854775807 := by omega
              have hE2 := (expand_walk (Fm.size f) f (.mk 4 x 0 0 []) _ (.slice none 0 0) x w' (Nat.le_refl _) (by have := HSB.out; omega) (by rw [Fm.size, Fm.sizeL]; decide) (HA.out w' (below_step h hb13)).1 (Fm.At.leaf ⟨by show Fm.I64 4; unfold Fm.I64; decide, hl, by show Fm.I64 0; unfold Fm.I64; decide, by show Fm.I64 0; unfold Fm.I64; decide⟩ rfl)).mono fun e w'' h => (by
                obtain ⟨⟨u', h1, h2⟩, h3⟩ := h
                rw [hself] at h1 h2
                have h2 := h2.at
                obtain ⟨a', c', e', _⟩ := h2.kidsAt.len
                subst e'
                exact ⟨⟨_, _, _, h1, h2⟩, h3⟩ : (∃ a n c, e = .returned (Fm.fv f (.slice a n c)) ∧ Fm.At w'' f (.slice a n c)) ∧ Below w'.heap.size w' w'')
              rw [HSX.out]
              exact hE2
            have HS2 : Hid (∀ w' ga gn gc, Below w13.heap.size w13 w' → Fm.At w' f (.slice ga gn gc) → Calls Try.prog 20 #[Fm.fv f (.slice ga gn gc), .agg #[.int .i64 f.op, .string (Lx.str f.name), .int .i64 f.cmp, .int .i64 f.num, .slice a k c]] w' fun e w'' => e = .returned (.bool true) ∧ Below w'.heap.size w' w'') := fun w' ga gn gc h ha => by
              have := same_walk (Fm.size f) f f _ _ w' (Nat.le_refl _) ha (HA.out w' (below_step h hb13)).1
              rw [Fm.same_refl] at this
              exact this
            have f0 : ∀ w', Below w13.heap.size w13 w' → w'.cell? ⟨w.heap.size, 0, none⟩ = some (.int .i64 f.op) := fun w' h => (HQ.out w' (below_step h hb13)).1.1
            have f1 : ∀ w', Below w13.heap.size w13 w' → w'.cell? ⟨w.heap.size, 1, none⟩ = some (.string (Lx.str f.name)) := fun w' h => (HQ.out w' (below_step h hb13)).1.2.1
            have f2 : ∀ w', Below w13.heap.size w13 w' → w'.cell? ⟨w.heap.size, 2, none⟩ = some (.int .i64 f.cmp) := fun w' h => (HQ.out w' (below_step h hb13)).1.2.2.1
            have f3 : ∀ w', Below w13.heap.size w13 w' → w'.cell? ⟨w.heap.size, 3, none⟩ = some (.int .i64 f.num) := fun w' h => (HQ.out w' (below_step h hb13)).1.2.2.2.1
            have f4 : ∀ w', Below w13.heap.size w13 w' → w'.cell? ⟨w.heap.size, 4, none⟩ = some (.slice a k c) := fun w' h => (HQ.out w' (below_step h hb13)).1.2.2.2.2
            have t0 : ∀ w', Below w13.heap.size w13 w' → w'.cell? ⟨w10.heap.size, 0, none⟩ = some (.int .i64 4) := fun w' h => Joins.cell_of_block (HT12.out w' (below_step h hb1213)) 0
            have t1 : ∀ w', Below w13.heap.size w13 w' → w'.cell? ⟨w10.heap.size, 1, none⟩ = some (.string sx) := fun w' h => Joins.cell_of_block (HT12.out w' (below_step h hb1213)) 1
            have t2 : ∀ w', Below w13.heap.size w13 w' → w'.cell? ⟨w10.heap.size, 2, none⟩ = some (.int .i64 0) := fun w' h => Joins.cell_of_block (HT12.out w' (below_step h hb1213)) 2
            have t3 : ∀ w', Below w13.heap.size w13 w' → w'.cell? ⟨w10.heap.size, 3, none⟩ = some (.int .i64 0) := fun w' h => Joins.cell_of_block (HT12.out w' (below_step h hb1213)) 3
            have t4 : ∀ w', Below w13.heap.size w13 w' → w'.cell? ⟨w10.heap.size, 4, none⟩ = some (.slice none 0 0) := fun w' h => Joins.cell_of_block (HT12.out w' (below_step h hb1213)) 4
            have HFAR : Hid (∀ w', Below w13.heap.size w13 w' → Below w.heap.size w w') := fun w' h => (HA.out w' (below_step h hb13)).2.2
            clear hq1 hq2 hq3 hT hself hpl hb12 hb13 hb1213
            go_upto_region 22 with fail
            go_region_held3 (fun w' => Below w13.heap.size w13 w') (first | exact (Below.refl _ _).drew | exact Below.refl _ _ | with_reducible assumption | exact below_step (by with_reducible assumption) (by with_reducible assumption))
              (first
                | (go_at_call 34; (with_reducible refine (HTm.out _ (by first | exact (Below.refl _ _).drew | with_reducible assumption)).mono ?_); rintro e v1 ⟨rfl, hv1⟩; have s1 := below_step (W := w13) hv1 (by first | exact (Below.refl _ _).drew | with_reducible assumption))
                | (go_at_call 22; (with_reducible refine (HX2.out _ (by with_reducible assumption)).mono ?_); rintro e v2 ⟨⟨xa, xn, xc, rfl, hxa⟩, hv2⟩; have s2 := below_step (W := w13) hv2 (by with_reducible assumption))
                | (go_at_call 20; (with_reducible refine (HS2.out _ _ _ _ (by with_reducible assumption) (by with_reducible assumption)).mono ?_); rintro e v3 ⟨rfl, hv3⟩; have s3 := below_step (W := w13) hv3 (by with_reducible assumption)))
            all_goals go_wp2_with fail
            all_goals go_ret
            exact ⟨rfl, HFAR.out _ s3⟩

set_option maxRecDepth 100000 in
/-- What the walk gives, for all arguments and every world that holds the tables. -/
theorem contract (H : Type) (enc : TypeId × Value → H) (W : World) (base : Nat) (args : Array Value) (ds gs : List (DataW H)) (before : List MemPlace)
    (hval : ∀ (j : Nat) t v, Try.f8.params[j]? = some t → args[j]? = some v → Value.okWide Try.prog W .any base t v)
    (hW : DataW.Whole enc Try.prog Try.f8.params.toList Rows.formulaSizesSpec.vars false W args.toList ds gs before) :
    Calls Try.prog 8 args W fun e W' => ∃ v, e = .returned v ∧ Rows.formulaSizesSpec.post enc Try.prog Try.f8 false true false false W args v W' := by
  have hW' := hW
  obtain ⟨p, q, hA0, hV, rfl, hfz, hnd⟩ := hW
  have hA : DataW.TrodAll enc Try.prog W 0 (fun _ => true) true Try.f8.params.toList args.toList ds p := hA0
  rw [Try.params8] at hA hval
  obtain ⟨v0, vs0, d0, ds0, p0, q0, hargs, rfl, rfl, h0, r0⟩ := trodAll_cons hA
  obtain ⟨v1, vs1, d1, ds1, p1, q1, rfl, rfl, rfl, h1, r1⟩ := trodAll_cons r0
  obtain ⟨v2, vs2, d2, ds2, p2, q2, rfl, rfl, rfl, h2, r2⟩ := trodAll_cons r1
  obtain ⟨rfl, rfl, rfl⟩ := trodAll_nil r2
  obtain rfl : args = #[v0, v1, v2] := by cases args; simp_all
  obtain ⟨rfl, rfl⟩ := trodVars_none hV
  obtain ⟨f0, u0, rfl, t0⟩ := open_formula (hval 0 24 v0 rfl rfl) h0
  obtain ⟨f1, u1, rfl, t1⟩ := open_formula (hval 1 24 v1 rfl rfl) h1
  obtain ⟨a2, rfl, _, _, g2⟩ := open_string Try.underlying9 (hval 2 9 v2 rfl rfl) h2
  refine (law_walk f0 u0 f1 u1 a2 W t0 t1 (le_of_max g2)).mono fun e W' ⟨he, hg⟩ => ?_
  subst he
  exact ⟨_, rfl, post_law rfl rfl rfl rfl rfl (by rw [Try.params8]; decide) hW' hg⟩

theorem laid_met (os : Os) : laidMet Try.prog Rows.formulaSizesRow.laid ((laidWorld os).forCall (fun _ _ => 0) ⟨#[], #[.agg #[.int .i64 0, .string ⟨#[]⟩, .int .i64 0, .int .i64 0, .slice none 0 0], .agg #[.int .i64 0, .string ⟨#[]⟩, .int .i64 0, .int .i64 0, .slice none 0 0], .string ⟨#[]⟩], []⟩).memory :=
  laidMet_of_run' 8 (by kernel_rfl) (by kernel_rfl)
theorem reads (os : Os) {H : Type} (enc : TypeId × Value → H) : ∃ places, DataW.whole enc Try.prog ((laidWorld os).forCall (fun _ _ => 0) ⟨#[], #[.agg #[.int .i64 0, .string ⟨#[]⟩, .int .i64 0, .int .i64 0, .slice none 0 0], .agg #[.int .i64 0, .string ⟨#[]⟩, .int .i64 0, .int .i64 0, .slice none 0 0], .string ⟨#[]⟩], []⟩).memory Try.f8.params.toList Rows.formulaSizesSpec.vars false #[Value.agg #[.int .i64 0, .string ⟨#[]⟩, .int .i64 0, .int .i64 0, .slice none 0 0], Value.agg #[.int .i64 0, .string ⟨#[]⟩, .int .i64 0, .int .i64 0, .slice none 0 0], Value.string ⟨#[]⟩].toList 8 = some ([.agg [.lit (.int .i64 0), .lit (.string []), .lit (.int .i64 0), .lit (.int .i64 0), .nil], .agg [.lit (.int .i64 0), .lit (.string []), .lit (.int .i64 0), .lit (.int .i64 0), .nil], .lit (.string [])], [], places) :=
  ⟨[], by kernel_rfl⟩

set_option maxRecDepth 100000 in
theorem lifted (os : Os) (started : os.Started) (H : Type) (enc : TypeId × Value → H) (F : Stop.Interp) :
    ReturnsInHanded {} Try.checked os 8 .any ((OpenSpec.ofChange Rows.formulaSizesSpec).preRow enc Try.prog Try.f8 Rows.formulaSizesRow.domain false Rows.formulaSizesRow.laid) (((OpenSpec.ofChange Rows.formulaSizesSpec).at F).post enc Try.prog Try.f8 false true false false) := by
  obtain ⟨places, hx⟩ := reads os enc
  refine returnsInHanded_of_row (C := Try.checked) (s := OpenSpec.ofChange Rows.formulaSizesSpec) own started (by kernel_rfl) Try.func8
    (witness_row_at (enc := enc) (C := Try.checked) false (laidWorld os) #[.agg #[.int .i64 0, .string ⟨#[]⟩, .int .i64 0, .int .i64 0, .slice none 0 0], .agg #[.int .i64 0, .string ⟨#[]⟩, .int .i64 0, .int .i64 0, .slice none 0 0], .string ⟨#[]⟩] rfl (by kernel_rfl) (by kernel_rfl) (by kernel_rfl)
      (OpenSpec.preRow_of_cond 8 hx (by kernel_rfl) (fun k hk => by cases hk) (by kernel_rfl) (laid_met os))) ?_
  intro W base args ds gs before hval hW _ _ _ hL _ _
  exact contract H enc W base args ds gs before hval hW

theorem said : Rows.FormulaSizesSaid :=
  OpenClaim.holds_of_cond 8 Try.f8 rfl rfl rfl rfl rfl rfl rfl ⟨rfl, rfl, rfl, rfl, rfl⟩ rfl rfl rfl rfl rfl (by kernel_rfl) Try.func8 (by kernel_rfl)
    (of_decide_eq_true (by kernel_rfl)) (by unfold Func.isWrapper; first | (rw [if_pos (by decide +kernel)]; kernel_rfl) | (rw [if_neg (by decide +kernel)]; exact ⟨rfl, rfl⟩))
    (fun os started H enc _ F => by rw [OpenClaim.pre_eq_preRow]; exact lifted os started H enc F)

end Go.Proofs.Ytjcaingfeaaakaa.formulaSizes
