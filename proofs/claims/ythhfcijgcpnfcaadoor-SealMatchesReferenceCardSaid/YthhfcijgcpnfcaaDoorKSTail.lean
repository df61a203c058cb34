import Derived.Test.YthhfcijgcpnfcaaDoorKSRefA
import Derived.Test.YthhfcijgcpnfcaaDoorKSKeys
import Derived.Test.YthhfcijgcpnfcaaDoorKSStart
import Derived.Test.YthhfcijgcpnfcaaDoorKRJoin
import Derived.Test.YthhfcijgcpnfcaaDoorKRShown
import Derived.Test.YthhfcijgcpnfcaaDoorKSHead
import Derived.Test.YthhfcijgcpnfcaaDoorKSFew
/-
  The walk of the reference's Made.
-/
namespace Go.Proofs.YthhfcijgcpnfcaaDoor
open Go.RowKit

namespace Sl
def mF (s : Tr.T) (n i k : Nat) : List Tr.T := (List.range k).flatMap fun k => startT s i k :: chained (start s i k) n
def mE (s : Tr.T) (i k : Nat) : List Tr.T := upTo (fun k => Dg.chain (start s i k) 15) k
def mO (s : Tr.T) (n i : Nat) : List Tr.T := (List.range i).flatMap (madeKey s n)
def mL (s : Tr.T) (i : Nat) : List Tr.T := upTo (fun i => Tr.leaf (key s i)) i
theorem mF_succ (s : Tr.T) (n i k : Nat) : mF s n i (k + 1) = mF s n i k ++ [startT s i k] ++ chained (start s i k) n := by simp [mF, List.range_succ]
theorem mO_succ (s : Tr.T) (n i : Nat) : mO s n (i + 1) = mO s n i ++ mF s n i 18 ++ [Dg.join (ends s i), Dg.join [Tr.wLeaf, key s i]] := by simp [mO, List.range_succ, mF, madeKey]
theorem mE_succ (s : Tr.T) (i k : Nat) : mE s i (k + 1) = mE s i k ++ [Dg.chain (start s i k) 15] := upTo_succ _ _
theorem mL_succ (s : Tr.T) (i : Nat) : mL s (i + 1) = mL s i ++ [Tr.leaf (key s i)] := upTo_succ _ _
theorem mF_len (s : Tr.T) (n i : Nat) (hn : n ≤ 30) : ∀ k, (mF s n i k).length ≤ k * 32
  | 0 => by simp [mF]
  | k + 1 => by have := mF_len s n i hn k; rw [mF_succ, List.length_append, List.length_append, chained_length, List.length_singleton]; omega
theorem mO_len (s : Tr.T) (n : Nat) (hn : n ≤ 30) : ∀ i, (mO s n i).length ≤ i * 600
  | 0 => by simp [mO]
  | i + 1 => by have := mO_len s n hn i; have := mF_len s n i hn 18; rw [mO_succ, List.length_append, List.length_append, List.length_cons, List.length_singleton]; omega
theorem chained_get (x : Tr.T) (n j : Nat) (h : j ≤ n) : (chained x n).getD j [] = Dg.chain x j := by
  have : j < n + 1 := by omega
  simp [chained, List.getD_eq_getElem?_getD, this]
def pX (l : List Tr.T) (t : Nat) : List Tr.T := upTo (fun t => Dg.join [Tr.wNode, l.getD (2 * t) [], l.getD (2 * t + 1) []]) t
def pN (l : List Tr.T) (t : Nat) : List Tr.T := upTo (fun t => Tr.node (l.getD (2 * t) []) (l.getD (2 * t + 1) [])) t
theorem upTo_front {α : Type} (f : Nat → α) (k : Nat) : upTo f (k + 1) = f 0 :: upTo (fun j => f (j + 1)) k := by
  simp [upTo, List.range_succ_eq_map, Function.comp_def]
theorem over_pairs : ∀ (c : Nat) (l : List Tr.T), l.length = 2 * c → over l = pN l c ∧ overT l = pX l c
  | 0, l, h => by
    have : l = [] := List.length_eq_zero_iff.1 (by omega)
    subst this; exact ⟨rfl, rfl⟩
  | c + 1, [], h => by simp at h
  | c + 1, [a], h => by simp at h; omega
  | c + 1, a :: b :: l, h => by
    have i := over_pairs c l (by simp at h; omega)
    rw [pN, upTo_front, pX, upTo_front, over, overT, i.1, i.2]
    refine ⟨?_, ?_⟩
    · rfl
    · rfl
theorem pX_succ (l : List Tr.T) (t : Nat) : pX l (t + 1) = pX l t ++ [Dg.join [Tr.wNode, l.getD (2 * t) [], l.getD (2 * t + 1) []]] := upTo_succ _ _
theorem pN_succ (l : List Tr.T) (t : Nat) : pN l (t + 1) = pN l t ++ [Tr.node (l.getD (2 * t) []) (l.getD (2 * t + 1) [])] := upTo_succ _ _
theorem pN_len (l : List Tr.T) (t : Nat) : (pN l t).length = t := upTo_length _ _
theorem pX_len (l : List Tr.T) (t : Nat) : (pX l t).length = t := upTo_length _ _
theorem tower_one (l : List Tr.T) (h : l.length = 2 ^ 0) : tower 1 l = [] := by
  rw [tower, if_neg (by simp at h; omega)]
theorem tower_step (l : List Tr.T) (j : Nat) (h : l.length = 2 ^ (j + 1)) : tower (j + 2) l = pX l (2 ^ j) ++ tower (j + 1) (pN l (2 ^ j)) := by
  have h1 : l.length = 2 * 2 ^ j := by rw [h, Nat.pow_succ, Nat.mul_comm]
  have h2 : 0 < 2 ^ j := Nat.two_pow_pos j
  rw [tower, if_pos (by omega), (over_pairs _ l h1).1, (over_pairs _ l h1).2]
theorem made_parts (s : Tr.T) (h n : Nat) : made s h n = mO s n (2 ^ h) ++ tower (h + 1) (mL s (2 ^ h)) := rfl
theorem tower_len : ∀ (j : Nat) (l : List Tr.T), l.length = 2 ^ j → (tower (j + 1) l).length ≤ l.length
  | 0, l, h => by rw [tower_one l h]; exact Nat.zero_le _
  | j + 1, l, h => by
    have i := tower_len j (pN l (2 ^ j)) (pN_len _ _)
    rw [pN_len] at i
    rw [tower_step l j h, List.length_append, pX_len, h, Nat.pow_succ]
    omega
theorem Row.cell_at {B S : Nat} {p : List Tr.T} {b off N cap : Nat} {w : World} {x : ByteArray} (h : Row B S p (.slice (some ⟨b, off, none⟩) N cap) w) (j : Nat) (hj : j < p.length) (hx : Hid (x.data.toList = p.getD j [])) :
    w.cell? ⟨b, off + j, none⟩ = some (.string x) := by
  obtain ⟨b', off', cap', e, _, r, hc, hr, _⟩ := h.tx.at j hj
  cases e
  have : r = x := by
    apply ByteArray.ext
    apply Array.ext'
    rw [hr.out, hx.out]
  rw [hc, this]
theorem Row.alloc {B S : Nat} {p : List Tr.T} {v : Value} {w : World} (o : Obj) (h : Row B S p v w) : Row B S p v (w.alloc o) := h.below ((Below.refl _ _).alloc (Nat.le_refl _) o)
def lenOf : Value → Nat
  | .slice _ n _ => n
  | _ => 0
theorem few_leaf {a : ByteArray} (ha : a.size ≤ 300) : Dg.few [(⟨#[108, 101, 97, 102]⟩ : ByteArray), a] 300 = true := by
  unfold Dg.few
  rw [Bool.and_eq_true, List.all_eq_true, decide_eq_true_eq]
  exact ⟨fun s hs => by simpa using Tr.all_two (n := 300) (by decide) ha s hs, by simp⟩
theorem few_all {l : List ByteArray} {n : Nat} (h : ∀ s ∈ l, s.size ≤ n) (hn : n ≤ 300) (hl : l.length ≤ 30) : Dg.few l 300 = true := by
  unfold Dg.few
  rw [Bool.and_eq_true, List.all_eq_true, decide_eq_true_eq]
  exact ⟨fun s hs => by have := h s hs; simp; omega, hl⟩
end Sl

set_option maxHeartbeats 4000000 in
set_option maxRecDepth 100000 in
theorem made_walk (s : ByteArray) (hs : s.size ≤ 300) (h n : Nat) (hh : h ≤ 2) (hn15 : 15 ≤ n) (hn : n ≤ 30) (w : World) :
    Calls Tryd.prog 23 #[.string s, .int .i64 h, .int .i64 n] w (OwnOut 10000 (Sl.made s.data.toList h n) w) := by
  obtain ⟨M, hM⟩ : ∃ M, M = 2 ^ h := ⟨_, rfl⟩
  have hM4 : M ≤ 4 := by rw [hM]; exact Nat.le_trans (Nat.pow_le_pow_right (by decide) hh) (by decide)
  rw [Sl.made_parts, ← hM]
  have HM := Lib.hid hM
  have HS := Lib.hid hs
  have HOL := Lib.hid (Sl.mO_len s.data.toList n hn)
  have HFL := Lib.hid (fun i => Sl.mF_len s.data.toList n i hn)
  clear hM hs
  go_enter Tryd.func23, Tryd.ntmps23
  go_wp2_with fail
  go_loopw [7, 8, 9] (fun v7 v8 i wr => ∃ k : Nat, k ≤ M ∧ i = .int .i64 k ∧ Sl.R3 w.heap.size 10000 16 16 (Sl.mO s.data.toList n k) (Sl.mL s.data.toList k) [] v7 v8 (.slice none 0 0) wr ∧ Below w.heap.size w wr) (fun _ _ i _ => M - (intOf i).toNat)
  case atStart => exact ⟨0, Nat.zero_le _, rfl, Sl.R3.nil _ _ _ _ _, Below.refl _ _⟩
  case round =>
    obtain ⟨i, hi, rfl, h3, hb⟩ := hrel
    have H3 := Lib.hid h3
    clear h3
    go_wp2_with fail
    refine (refpow_walk h (by omega) wr).mono ?_
    rintro e w1 ⟨m, rfl, _, hm, rfl⟩
    obtain rfl : m = M := by rw [hm.out, HM.out]
    by_cases hlt : i < m
    · clear hm hi
      go_wp2_with fail
      obtain ⟨wa, rfl⟩ : ∃ x, x = wr := ⟨_, rfl⟩
      go_loopw [7, 10, 11] (fun v7 v10 k wr => ∃ j : Nat, j ≤ 18 ∧ k = .int .i64 j ∧ Sl.R3 w.heap.size 10000 16 16 (Sl.mO s.data.toList n i ++ Sl.mF s.data.toList n i j) (Sl.mL s.data.toList i) (Sl.mE s.data.toList i j) v7 u8 v10 wr ∧ Below w.heap.size w wr) (fun _ _ k _ => 18 - (intOf k).toNat)
      case atStart => exact ⟨0, Nat.zero_le _, rfl, H3.out.again (by simp [Sl.mF]) rfl rfl, hb⟩
      case round =>
        obtain ⟨j, hj, rfl, h4, hb4⟩ := hrel
        have H4 := Lib.hid h4
        have HB4 := Lib.hid hb4
        clear h4 hb4
        by_cases hj18 : j < 18
        · go_wp2_with fail
          refine (decimal_walk i (by omega) wr).mono ?_
          rintro e w1 ⟨rfl, rfl⟩
          obtain ⟨a, ha⟩ : ∃ a, a = str (Lib.decDigits i) := ⟨_, rfl⟩
          rw [← ha]
          have HA := Lib.hid ha
          clear ha
          go_wp2_with fail
          refine (decimal_walk j (by omega) wr).mono ?_
          rintro e w1 ⟨rfl, rfl⟩
          obtain ⟨b, hb⟩ : ∃ b, b = str (Lib.decDigits j) := ⟨_, rfl⟩
          rw [← hb]
          have HBB := Lib.hid hb
          clear hb
          go_wp2_with fail
          have hfew : Dg.few [s, a, b] 300 = true := Sl.few_three HS.out (by rw [HA.out]; exact Sl.dec_size i (by omega)) (by rw [HBB.out]; exact Sl.dec_size j (by omega))
          refine (refjoined_any3 _ [s, a, b] _ (tx_three wr _ _ _).texts hfew).mono ?_
          clear hfew
          rintro e w2 ⟨r, rfl, hr, hz, hb2⟩
          have hb12 : Below wr.heap.size wr w2 := ((Below.refl _ _).alloc (Nat.le_refl _) _).trans (hb2.mono (by simp))
          have H5 := Lib.hid (H4.out.below hb12)
          have HB5 := Lib.hid (HB4.out.trans (hb12.mono (by exact HB4.out.size)))
          have HR : Hid (r.data.toList = Sl.startT s.data.toList i j) := by
            show _ = _
            rw [hr.out, Sl.startT, HA.out, HBB.out]; simp
          clear hb2 hb12 hr
          have HLEN : Hid ((Sl.mO s.data.toList n i ++ Sl.mF s.data.toList n i j).length ≤ 10000) := by
            show _ ≤ _
            have h1 := HOL.out i
            have h2 := HFL.out i j
            rw [List.length_append]; omega
          have hs5 : w.heap.size ≤ (w2.alloc (.cells #[.string r] 9)).heap.size := by rw [heap_alloc_size]; have := HB5.out.size; omega
          go_wp2_with (at_builtin; refine wpList_row rfl (.tmp 35) (.tmp 37) rfl (H5.out.alloc _) rfl rfl (Sl.Tx.one w2 r _ HR hz) (by have := HLEN.out; simp at this ⊢; omega) hs5 ?_)
          intro v6 w6 h6 hb6 _
          have H6 := Lib.hid h6
          have HB6 := Lib.hid ((HB5.out.alloc (by exact HB5.out.size) (.cells #[.string r] 9)).trans hb6)
          clear h6 hb6 hs5
          go_wp2_with fail
          refine (refsum_walk r (by omega) w6).mono ?_
          rintro e w7 ⟨rfl, rfl⟩
          obtain ⟨q, hq⟩ : ∃ q, q = str (Dg.sum r.data.toList) := ⟨_, rfl⟩
          rw [← hq]
          have hqz : q.size ≤ 16 := by rw [hq, Dg.str_size, Dg.sum_length]; exact Nat.le_refl _
          have HQ : Hid (q.data.toList = Sl.start s.data.toList i j) := by
            show _ = _
            rw [hq, Dg.str_toList, HR.out]; rfl
          clear hq
          go_wp2_with fail
          refine (refchained_walk q hqz n (by omega) w6).mono ?_
          rintro e w7 ⟨v13, ps, rfl, hown, hps, hpz, hb7⟩
          rw [HQ.out] at hps
          have hrow : Sl.Row w6.heap.size 16 (Sl.chained (Sl.start s.data.toList i j) n) v13 w7 := ⟨ps, hown, hps, hpz⟩
          have hap := H6.out.r1.later hrow (Nat.le_refl _)
          have H7 := Lib.hid (H6.out.below hb7)
          have HB7 := Lib.hid (HB6.out.trans (hb7.mono (by exact HB6.out.size)))
          have HROW := Lib.hid hrow
          have HAP := Lib.hid hap
          clear hown hps hpz hb7 hrow hap
          have hs7 : w.heap.size ≤ w7.heap.size := by exact HB7.out.size
          go_wp2_with (at_builtin; refine wpList_row rfl (.tmp 43) (.tmp 44) rfl H7.out rfl rfl (HROW.out.tx.mono (by decide)) (by have := HLEN.out; rw [List.length_append, Sl.chained_length]; simp at this ⊢; omega) hs7 ?_)
          intro v8 w8 h8 hb8 hk8
          have HROW8 := hk8 _ _ _ _ HROW.out HAP.out
          obtain ⟨N, hN⟩ : ∃ N, N = n + 1 := ⟨_, rfl⟩
          obtain ⟨bb, off, cap, rfl, hcap, x, hxc, hx, hxz⟩ := HROW8.tx.at 15 (by rw [Sl.chained_length]; omega)
          rw [Sl.chained_get _ _ _ hn15] at hx
          rw [Sl.chained_length, ← hN] at hcap ⊢
          have hN15 : (15 : Int) < (N : Int) := by omega
          have H8 := Lib.hid (h8.again (Sl.mF_succ _ _ _ _ ▸ (by simp : _ = Sl.mO s.data.toList n i ++ (Sl.mF s.data.toList n i j ++ [Sl.startT s.data.toList i j] ++ Sl.chained (Sl.start s.data.toList i j) n))) rfl rfl)
          have HB8 := Lib.hid (HB7.out.trans hb8)
          have hs8 : w.heap.size ≤ (w8.alloc (.cells #[.string x] 9)).heap.size := by rw [heap_alloc_size]; have := HB8.out.size; omega
          have HN := Lib.hid hN
          clear h8 hb8 hk8 HROW8 hN hs7
          go_wp2_with (at_builtin; refine wpList_row rfl (.tmp 46) (.tmp 50) rfl (H8.out.swap13.alloc _) rfl rfl (Sl.Tx.one w8 x _ hx hxz) (by rw [Sl.mE, Sl.upTo_length]; simp; omega) hs8 ?_)
          intro v9 w9 h9 hb9 _
          have H9 := Lib.hid (h9.swap13.again rfl rfl (Sl.mE_succ _ _ _).symm)
          have HB9 := Lib.hid ((HB8.out.alloc HB8.out.size (.cells #[.string x] 9)).trans hb9)
          clear h9 hb9 hs8
          go_wp2_with fail
          first | go_roundw | go_round
          case rel => exact ⟨j + 1, by omega, by go_num, H9.out, HB9.out⟩
          case measure => simp [intOf]; omega
        · obtain rfl : j = 18 := by omega
          clear hj18 hj
          have HLEN : Hid ((Sl.mO s.data.toList n i ++ Sl.mF s.data.toList n i 18).length ≤ 10000) := by
            show _ ≤ _
            have h1 := HOL.out i
            have h2 := HFL.out i 18
            rw [List.length_append]; omega
          obtain ⟨es, hes, hem, hel, hez⟩ := H4.out.r3.tx.texts
          rw [Sl.mE, Sl.upTo_length] at hel
          go_wp2_with fail
          refine (refjoined_any3 _ es _ hes (Sl.few_all hez (by decide) (by omega))).mono ?_
          rintro e w2 ⟨r, rfl, hr, hz, hb2⟩
          rw [hem] at hr
          have HR : Hid (r.data.toList = Dg.join (Sl.ends s.data.toList i)) := hr
          have H5 := Lib.hid (H4.out.no3.below hb2 : Sl.R3 _ _ _ 16 _ _ _ _ _ _ _)
          have HB5 := Lib.hid (HB4.out.trans (hb2.mono HB4.out.size))
          clear hb2 hr hes hem hez hel
          go_wp2_with fail
          refine (refsum_walk r (by omega) w2).mono ?_
          rintro e w3 ⟨rfl, rfl⟩
          obtain ⟨q, hq⟩ : ∃ q, q = str (Dg.sum r.data.toList) := ⟨_, rfl⟩
          rw [← hq]
          have hqz : q.size ≤ 16 := by rw [hq, Dg.str_size, Dg.sum_length]; exact Nat.le_refl _
          have HQ : Hid (q.data.toList = Sl.key s.data.toList i) := by
            show _ = _
            rw [hq, Dg.str_toList, HR.out]; rfl
          clear hq
          go_wp2_with fail
          refine (refjoined_any3 _ [⟨#[108, 101, 97, 102]⟩, q] _ (tx_two w2 _ _).texts (Sl.few_leaf (by omega))).mono ?_
          rintro e w3 ⟨r2, rfl, hr2, hz2, hb3⟩
          have hb23 : Below w2.heap.size w2 w3 := ((Below.refl _ _).alloc (Nat.le_refl _) _).trans (hb3.mono (by simp))
          have HR2 : Hid (r2.data.toList = Dg.join [Tr.wLeaf, Sl.key s.data.toList i]) := by
            show _ = _
            rw [hr2.out, ← HQ.out]; rfl
          have H6 := Lib.hid (H5.out.below hb23)
          have HB6 := Lib.hid (HB5.out.trans (hb23.mono HB5.out.size))
          clear hb23 hb3 hr2
          have hs6 : w.heap.size ≤ (w3.alloc (.cells #[.string r, .string r2] 9)).heap.size := by rw [heap_alloc_size]; have := HB6.out.size; omega
          go_wp2_with (at_builtin; refine wpList_row rfl (.tmp 58) (.tmp 61) rfl (H6.out.alloc _) rfl rfl (Sl.Tx.two w3 r r2 _ _ HR HR2 hz hz2) (by have := HLEN.out; simp at this ⊢; omega) hs6 ?_)
          intro v7 w7 h7 hb7 _
          have H7 := Lib.hid (h7.again (q1 := Sl.mO s.data.toList n (i + 1)) (by rw [Sl.mO_succ, List.append_assoc]) rfl rfl)
          have HB7 := Lib.hid ((HB6.out.alloc HB6.out.size (.cells #[.string r, .string r2] 9)).trans hb7)
          clear h7 hb7 hs6
          go_wp2_with fail
          refine (refsum_walk r2 (by omega) w7).mono ?_
          rintro e w8 ⟨rfl, rfl⟩
          obtain ⟨q2, hq2⟩ : ∃ q, q = str (Dg.sum r2.data.toList) := ⟨_, rfl⟩
          rw [← hq2]
          have hqz2 : q2.size ≤ 16 := by rw [hq2, Dg.str_size, Dg.sum_length]; exact Nat.le_refl _
          have HQ2 : Hid (q2.data.toList = Tr.leaf (Sl.key s.data.toList i)) := by
            show _ = _
            rw [hq2, Dg.str_toList, HR2.out]; rfl
          clear hq2
          have hs7 : w.heap.size ≤ (w7.alloc (.cells #[.string q2] 9)).heap.size := by rw [heap_alloc_size]; have := HB7.out.size; omega
          go_wp2_with (at_builtin; refine wpList_row rfl (.tmp 63) (.tmp 66) rfl (H7.out.swap12.alloc _) rfl rfl (Sl.Tx.one w7 q2 _ HQ2 hqz2) (by rw [Sl.mL, Sl.upTo_length]; simp; omega) hs7 ?_)
          intro v8 w8 h8 hb8 _
          have H8 := Lib.hid (h8.swap12.again rfl (Sl.mL_succ _ _).symm rfl)
          have HB8 := Lib.hid ((HB7.out.alloc HB7.out.size (.cells #[.string q2] 9)).trans hb8)
          clear h8 hb8 hs7
          go_wp2_with fail
          first | go_roundw | go_round
          case rel => exact ⟨i + 1, by omega, by go_num, H8.out, HB8.out⟩
          case measure => simp [intOf]; omega
    · have hik : i = m := by omega
      subst hik
      clear hlt hi
      have HLM : Hid ((Sl.mO s.data.toList n i ++ Sl.tower (h + 1) (Sl.mL s.data.toList i)).length ≤ 10000) := by
        show _ ≤ _
        have h1 := HOL.out i
        have h2 := Sl.tower_len h (Sl.mL s.data.toList i) (by rw [Sl.mL, Sl.upTo_length]; exact HM.out)
        have h3 : (Sl.mL s.data.toList i).length = i := Sl.upTo_length _ _
        rw [List.length_append]; omega
      go_wp2_with fail
      obtain ⟨wa, rfl⟩ : ∃ x, x = wr := ⟨_, rfl⟩
      go_loopw [7, 8] (fun v7 v8 wr => ∃ (j : Nat) (p lv : List Tr.T), lv.length ≤ 4 ∧ Hid (lv.length = 2 ^ j) ∧ Hid (p ++ Sl.tower (j + 1) lv = Sl.mO s.data.toList n i ++ Sl.tower (h + 1) (Sl.mL s.data.toList i)) ∧ Sl.R3 w.heap.size 10000 16 16 p lv [] v7 v8 (.slice none 0 0) wr ∧ Below w.heap.size w wr) (fun _ v8 _ => Sl.lenOf v8)
      case atStart => exact ⟨h, _, _, by rw [Sl.mL, Sl.upTo_length]; exact hM4, by rw [Sl.mL, Sl.upTo_length]; exact HM.out, rfl, H3.out, hb⟩
      case round =>
        obtain ⟨j, p, lv, hl4, hl2, hpe, h4, hb4⟩ := hrel
        obtain ⟨a8, c8, rfl⟩ := h4.r2.form
        obtain ⟨N, hN⟩ : ∃ N, N = lv.length := ⟨_, rfl⟩
        have HROWN : Hid (∀ w', Sl.Row w.heap.size 16 lv (.slice a8 lv.length c8) w' → Sl.Row w.heap.size 16 lv (.slice a8 N c8) w') := fun _ h => by rw [hN]; exact h
        have H4 : Hid (Sl.R3 w.heap.size 10000 16 16 p lv [] u7 (.slice a8 N c8) (.slice none 0 0) wr) := by rw [hN]; exact h4
        have HB4 := Lib.hid hb4
        rw [← hN] at hl4 ⊢
        have HN := Lib.hid hN
        clear h4 hb4 hN
        by_cases hN1 : (1 : Int) < (N : Int)
        · have hj0 : 0 < j := by
            rcases Nat.eq_zero_or_pos j with h0 | h0
            · have e := hl2.out
              rw [h0] at e
              have := HN.out
              omega
            · exact h0
          obtain ⟨d, rfl⟩ : ∃ d, j = d + 1 := ⟨j - 1, by omega⟩
          obtain ⟨c, hc⟩ : ∃ c, c = 2 ^ d := ⟨_, rfl⟩
          have hNc : N = 2 * c := by rw [HN.out, hl2.out, Nat.pow_succ, hc, Nat.mul_comm]
          have hpe2 := hpe.out
          rw [Sl.tower_step _ _ hl2.out, ← hc] at hpe2
          have HPE := Lib.hid hpe2
          have HPL : Hid (p.length ≤ 10000) := by
            show _ ≤ _
            have := congrArg List.length hpe2
            have := HLM.out
            rw [← hpe2, List.length_append] at this
            omega
          have HC := Lib.hid hc
          have HNC := Lib.hid hNc
          clear hpe2 hpe hc hNc hj0
          go_wp2_with fail
          obtain ⟨wb, rfl⟩ : ∃ x, x = wr := ⟨_, rfl⟩
          go_loopw [7, 16, 17] (fun v7 v16 k wr => ∃ u t : Nat, u ≤ N ∧ k = .int .i64 u ∧ Hid (u = 2 * t) ∧ Sl.R3 w.heap.size 10000 16 16 (p ++ Sl.pX lv t) lv (Sl.pN lv t) v7 (.slice a8 N c8) v16 wr ∧ Below w.heap.size w wr) (fun _ _ k _ => N - (intOf k).toNat)
          case atStart => exact ⟨0, 0, Nat.zero_le _, rfl, rfl, H4.out.again (by simp [Sl.pX, Sl.upTo]) rfl rfl, HB4.out⟩
          case round =>
            obtain ⟨u, t, hu, rfl, hut, h5, hb5⟩ := hrel
            have H5 := Lib.hid h5
            have HB5 := Lib.hid hb5
            clear h5 hb5
            by_cases hlt : (u : Int) + 1 < (N : Int)
            · obtain ⟨b8, o8, c8', e8, _, x, _, hx, hxz⟩ := H5.out.r2.tx.at u (by rw [← HN.out]; omega)
              obtain ⟨b9, o9, c9', e9, _, y, _, hy, hyz⟩ := H5.out.r2.tx.at (u + 1) (by rw [← HN.out]; omega)
              obtain rfl : a8 = some ⟨b8, o8, none⟩ := by injection e8
              clear e8 e9
              have k1 : ∀ w', Sl.Row w.heap.size 16 lv (.slice (some ⟨b8, o8, none⟩) N c8) w' → w'.cell? ⟨b8, o8 + u, none⟩ = some (.string x) := fun w' h => h.cell_at u (by rw [← HN.out]; omega) hx
              have k2 : ∀ w', Sl.Row w.heap.size 16 lv (.slice (some ⟨b8, o8, none⟩) N c8) w' → w'.cell? ⟨b8, o8 + (u + 1), none⟩ = some (.string y) := fun w' h => h.cell_at (u + 1) (by rw [← HN.out]; omega) hy
              have hS0 : Sl.Row w.heap.size 16 lv (.slice (some ⟨b8, o8, none⟩) N c8) wr.drew := H5.out.r2.below (Below.refl _ _).drew
              have HLX : Hid ((p ++ Sl.pX lv t).length ≤ 100000) := by
                show _ ≤ _
                rw [List.length_append, Sl.pX_len]
                have := HPL.out
                have := hut.out
                omega
              have q0 : (0 : Int) ≤ (u : Int) := by omega
              have q1 : (u : Int) < (N : Int) := by omega
              have q2 : (0 : Int) ≤ (u : Int) + 1 := by omega
              have q3 := Tr.wrap_in ((u : Int) + 1) (by omega) (by omega)
              go_wp2_with fail
              go_region_held3 (fun w' => Sl.Row w.heap.size 16 lv (.slice (some ⟨b8, o8, none⟩) N c8) w') (first | with_reducible assumption | exact Sl.Row.alloc _ (by with_reducible assumption) | exact Sl.Row.below (by with_reducible assumption) (by with_reducible assumption))
                (first
                  | (go_at_call 49; (with_reducible refine (refnode3_walk x y (Nat.le_trans hxz (by decide)) (Nat.le_trans hyz (by decide)) _).mono ?_); rintro e w3 ⟨r, rfl, hr, hz, hb3⟩)
                  | (have hb23 := (Below.refl wr.heap.size wr).drew.trans hb3; have hs3 : w.heap.size ≤ (w3.alloc (.cells #[.string r] 9)).heap.size := (by rw [heap_alloc_size]; have := HB5.out.size; have := hb23.size; omega); refine step_row rfl (.tmp 78) (.tmp 89) rfl ((H5.out.below hb23).alloc _) rfl rfl (Sl.Tx.one w3 r _ hr hz) (by rw [List.length_singleton]; have := HLX.out; omega) hs3 ?_; intro v6 w6 h6 hb6 _; have hS6 := h6.r2))
              have H6 : Hid (Sl.R3 w.heap.size 10000 16 16 (p ++ Sl.pX lv (t + 1)) lv (Sl.pN lv t) v6 (.slice (some ⟨b8, o8, none⟩) N c8) u16 w6) := h6.again (by
                rw [Sl.pX_succ, ← List.append_assoc, hx.out, hy.out, hut.out]) rfl rfl
              have HB6 := Lib.hid (((HB5.out.drew.trans (hb3.mono (by have := HB5.out.size; exact this))).alloc (by have := HB5.out.size; have := hb3.size; simp at this; omega) (.cells #[.string r] 9)).trans hb6)
              have hS7 : Sl.Row w.heap.size 16 lv (.slice (some ⟨b8, o8, none⟩) N c8) w6.drew := hS6.below (Below.refl _ _).drew
              clear h6 hb6 hS6 hb23 hs3 hb3 hr hz hS0
              go_wp2_with fail
              go_region_held3 (fun w' => Sl.Row w.heap.size 16 lv (.slice (some ⟨b8, o8, none⟩) N c8) w') (first | with_reducible assumption | exact Sl.Row.alloc _ (by with_reducible assumption) | exact Sl.Row.below (by with_reducible assumption) (by with_reducible assumption))
                (first
                  | (go_at_call 49; (with_reducible refine (refnode3_walk x y (Nat.le_trans hxz (by decide)) (Nat.le_trans hyz (by decide)) _).mono ?_); rintro e w3 ⟨r, rfl, hr, hz, hb3⟩)
                  | (have hb23 := (Below.refl w6.heap.size w6).drew.trans hb3; have hs3 : w.heap.size ≤ (w3.alloc (.cells #[.string q] 9)).heap.size := (by rw [heap_alloc_size]; have := HB6.out.size; have := hb23.size; omega); refine step_row rfl (.tmp 91) (.tmp 103) rfl ((H6.out.below hb23).swap13.alloc _) rfl rfl (Sl.Tx.one w3 q _ hq hqz) (by rw [Sl.pN_len, List.length_singleton]; have := hut.out; omega) hs3 ?_; intro v7 w7 h7 hb7 _; have hS8 := h7.r2)
                  | (go_at_call 25; (with_reducible refine (refsum_ex r hz _).mono ?_); rintro e w4 ⟨q, rfl, hqz, hq, rfl⟩))
              have H7 : Hid (Sl.R3 w.heap.size 10000 16 16 (p ++ Sl.pX lv (t + 1)) lv (Sl.pN lv (t + 1)) v6 (.slice (some ⟨b8, o8, none⟩) N c8) v7 w7) := h7.swap13.again rfl rfl (by
                rw [Sl.pN_succ, hr.out, hx.out, hy.out, hut.out]; rfl)
              have HB7 := Lib.hid (((HB6.out.drew.trans (hb3.mono (by have := HB6.out.size; exact this))).alloc (by have := HB6.out.size; have := hb3.size; simp at this; omega) (.cells #[.string q] 9)).trans hb7)
              clear h7 hb7 hS8 hb23 hs3 hb3 hr hz hq hS7
              go_wp2_with fail
              first | go_roundw | go_round
              case rel => exact ⟨u + 2, t + 1, by have := HNC.out; have := hut.out; omega, by go_num, by show _ = _; have := hut.out; omega, H7.out, HB7.out⟩
              case measure => simp [intOf]; omega
            · go_wp2_with fail
              first | go_roundw | go_round
              case rel =>
                have htc : t = c := by have := hut.out; have := HNC.out; omega
                refine ⟨d, p ++ Sl.pX lv t, Sl.pN lv t, ?_, ?_, ?_, ?_, HB5.out⟩
                · rw [Sl.pN_len]; have := hut.out; omega
                · rw [Sl.pN_len, htc]; exact HC.out
                · show _ = _
                  rw [htc, List.append_assoc]; exact HPE.out
                · exact ⟨H5.out.r1, H5.out.r3, Sl.Row.nil _ _ _, H5.out.a13, Sl.apart_symm (.inl rfl), Sl.apart_symm (.inl rfl)⟩
              case measure =>
                obtain ⟨a9, c9, rfl⟩ := H5.out.r3.form
                show (Sl.pN lv t).length < N
                rw [Sl.pN_len]
                have := hut.out
                omega
        · go_wp2_with fail
          go_ret
          obtain rfl : j = 0 := by
            rcases Nat.eq_zero_or_pos j with h0 | h0
            · exact h0
            · have e := hl2.out
              have : 2 ^ 1 ≤ 2 ^ j := Nat.pow_le_pow_right (by decide) h0
              have := HN.out
              omega
          refine H4.out.r1.out ?_ HB4.out
          have e := hpe.out
          rw [Sl.tower_one _ hl2.out, List.append_nil] at e
          exact e
end Go.Proofs.YthhfcijgcpnfcaaDoor
/-
  The ends of the laws that show two texts with one digest: append of two whole lists under a guard, and Shown.
-/
namespace Go.Proofs.YthhfcijgcpnfcaaDoor
open Go.RowKit

/-- append of a whole list onto a row, where the operation is guarded. -/
theorem wpList_rowg {ops : Array Oper} {rest : List Oper} {o : Oper} {a : Act} {w : World} {Q : Exit → Act → World → Prop} (hw : Region.wanted o (yielded ops a.tmps) = true) (s x : Operand)
    (ho : o.op = .call { callee := .builtin .append, args := #[s, x], argTypes := #[22, 22] }) {B S : Nat} {p q : List Tr.T} {v vx : Value} (h : Sl.Row B S p v w)
    (hs : a.eval s = v) (hv : a.eval x = vx) (hx : Sl.Tx S q vx w) (hl : p.length + q.length ≤ 1000000) (hB : B ≤ w.heap.size)
    (hK : ∀ v' w', Sl.Row B S (p ++ q) v' w' → Below B w w' → wpList Tryd.prog ops Q rest (a.put o.dst v') w') : wpList Tryd.prog ops Q (o :: rest) a w :=
  wpList_step fun K hKK => by
    rw [if_pos hw]
    have h3 : Sl.R3 B S S S p [] [] v (.slice none 0 0) (.slice none 0 0) w := ⟨h, Sl.Row.nil _ _ _, Sl.Row.nil _ _ _, Sl.apart_symm (.inl rfl), Sl.apart_symm (.inl rfl), Sl.apart_symm (.inl rfl)⟩
    obtain ⟨v', w', hr, h2, h3, _⟩ := run_row_push o.type h3 hx hl hB
    unfold Oper.wp execOp
    simp only [ho, resolve, invoke, builtin, Sem.run_bind, Sem.run_pure, Result.andThen_ok, List.map_toArray, List.map_cons, List.map_nil, hs, hv, hr]
    exact hKK _ _ (hK v' w' h2.r1 h3)

theorem refshown_tx {S : Nat} {p : List Tr.T} (v : Value) (w : World) (h : Sl.Tx S p v w) (hS : S ≤ 1000000) (hl : p.length ≤ 100000) (hsh : Tr.Shown p) :
    Calls Tryd.prog 22 #[v] w fun e w' => e = .returned (.bool true) ∧ Below w.heap.size w w' := by
  obtain ⟨ps, h1, h2, h3⟩ := h
  exact refshown_walk v ps w h1 (fun s hs => Nat.le_trans (h3 s hs) hS) (by rw [Tr.len_of h2]; exact hl) (by rw [h2.out]; exact hsh)

theorem Sl.made_len (s : Tr.T) (h n : Nat) (hh : h ≤ 2) (hn : n ≤ 30) : (Sl.made s h n).length ≤ 5000 := by
  have h4 : 2 ^ h ≤ 4 := Nat.le_trans (Nat.pow_le_pow_right (by decide) hh) (by decide)
  have h1 := Sl.mO_len s n hn (2 ^ h)
  have h3 : (Sl.mL s (2 ^ h)).length = 2 ^ h := Sl.upTo_length _ _
  have h2 := Sl.tower_len h (Sl.mL s (2 ^ h)) h3
  rw [Sl.made_parts, List.length_append]
  omega

theorem OwnOut.row {S : Nat} {p : List Tr.T} {w : World} {e : Ending} {w' : World} (h : OwnOut S p w e w') : ∃ v, e = .returned v ∧ Sl.Row w.heap.size S p v w' ∧ Below w.heap.size w w' := by
  obtain ⟨v, ps, h1, h2, h3, h4, h5⟩ := h
  exact ⟨v, h1, ⟨ps, h2, h3, h4⟩, h5⟩
end Go.Proofs.YthhfcijgcpnfcaaDoor
