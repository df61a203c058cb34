import Derived.Test.YthhfcijgcpnfcaaDoorKSDigRef
import Derived.Test.YthhfcijgcpnfcaaDoorKSTail
/-
  The walk of the reference's Checked.
-/
namespace Go.Proofs.YthhfcijgcpnfcaaDoor
open Go.RowKit

namespace Sl
def cF (m : Tr.T) (sg : List Tr.T) (k : Nat) : List Tr.T := (List.range k).flatMap fun k => chained (sg.getD k []) (15 - dg m k)
def cE (m : Tr.T) (sg : List Tr.T) (k : Nat) : List Tr.T := upTo (fun k => Dg.chain (sg.getD k []) (15 - dg m k)) k
theorem cF_succ (m : Tr.T) (sg : List Tr.T) (k : Nat) : cF m sg (k + 1) = cF m sg k ++ chained (sg.getD k []) (15 - dg m k) := by simp [cF, List.range_succ]
theorem cE_succ (m : Tr.T) (sg : List Tr.T) (k : Nat) : cE m sg (k + 1) = cE m sg k ++ [Dg.chain (sg.getD k []) (15 - dg m k)] := upTo_succ _ _
theorem cF_len (m : Tr.T) (sg : List Tr.T) : ∀ k, (cF m sg k).length ≤ k * 16
  | 0 => by simp [cF]
  | k + 1 => by have := cF_len m sg k; rw [cF_succ, List.length_append, chained_length]; omega
theorem cE_all (m : Tr.T) (sg : List Tr.T) : cE m sg 18 = cends m sg := rfl
theorem ctexts_len (x : List Tr.T) : ∀ (d : Tr.T) (i : Nat), (Tr.ctexts d i x).length = x.length := by
  induction x with
  | nil => intro d i; rfl
  | cons a x ih => intro d i; rw [Tr.ctexts, List.length_cons, ih, List.length_cons]
theorem take_snoc (q : List Tr.T) (k : Nat) (h : k < q.length) : q.take (k + 1) = q.take k ++ [q.getD k []] := by
  rw [List.take_succ_eq_append_getElem h, List.getD_eq_getElem?_getD, List.getElem?_eq_getElem h]; rfl
end Sl

set_option maxHeartbeats 4000000 in
set_option maxRecDepth 100000 in
theorem checked_walk (m : ByteArray) (hm : m.size ≤ 300) (v : Value) (i : Nat) (hi : i ≤ 1000) (ls lp : List ByteArray) (w : World) (hv : IsSeal w v i ls lp) (h18 : ls.length = 18) (h8 : lp.length ≤ 8) (hzs : ∀ s ∈ ls, s.size ≤ 16) (hzp : ∀ s ∈ lp, s.size ≤ 300) :
    Calls Tryd.prog 24 #[.string m, v] w (OwnOut 10000 (Sl.checked m.data.toList i (Tr.bs ls) (Tr.bs lp)) w) := by
  obtain ⟨vs, vp, rfl, ⟨a1, c1, rfl, x1, x2, hs⟩, ⟨a2, c2, rfl, y1, y2, hp⟩⟩ := hv
  obtain ⟨b1, o1, rfl, hb1, hc1⟩ := hs (by intro e; rw [e] at h18; cases h18)
  have HS : Hid (∀ k, k < 18 → w.cell? ⟨b1, o1 + k, none⟩ = some (.string (ls.getD k ByteArray.empty))) := fun k hk => hc1 k (by omega)
  have HP : Hid (∀ k, k < lp.length → ∃ b off, a2 = some ⟨b, off, none⟩ ∧ b < w.heap.size ∧ w.cell? ⟨b, off + k, none⟩ = some (.string (lp.getD k ByteArray.empty))) := fun k hk => by
    obtain ⟨b, off, e, hlt, hc⟩ := hp (by intro e; rw [e] at hk; simp at hk)
    exact ⟨b, off, e, hlt, hc k hk⟩
  have HZS : Hid (∀ k, k < 18 → (ls.getD k ByteArray.empty).size ≤ 16) := fun k hk => by rw [Dg.getD_eq ls k (by omega)]; exact hzs _ (List.getElem_mem _)
  have HZP : Hid (∀ k, k < lp.length → (lp.getD k ByteArray.empty).size ≤ 300) := fun k hk => by rw [Dg.getD_eq lp k hk]; exact hzp _ (List.getElem_mem _)
  have H18 := Lib.hid h18
  have h8' : (lp.length : Int) ≤ 8 := by omega
  rw [h18] at x1 ⊢
  obtain ⟨np, hnp⟩ : ∃ np, np = lp.length := ⟨_, rfl⟩
  rw [← hnp] at h8 h8' y1 HP HZP ⊢
  have HNP := Lib.hid hnp
  have HBW : Hid (b1 < w.heap.size) := hb1
  clear hs hp hc1 hzs hzp h18 hnp hb1
  go_enter Tryd.func24, Tryd.ntmps24
  go_wp2_with fail
  have hk0 := heap_alloc_new w (.cells #[.int .i64 i, .slice (some ⟨b1, o1, none⟩) 18 c1, .slice a2 np c2] 24)
  have hbA := (Below.refl w.heap.size w).alloc (Nat.le_refl _) (.cells #[.int .i64 i, .slice (some ⟨b1, o1, none⟩) 18 c1, .slice a2 np c2] 24)
  refine (refdigits_out m (by omega) _).mono ?_
  rintro e w2 ⟨v5, rfl, hd, hb⟩
  obtain ⟨gd, cd, rfl, hgd, hgl⟩ := World.ownsRow.form hd (by decide)
  have hb02 := hbA.trans (hb.mono hbA.size)
  have hks := (hb.block _ (lt_of_block hk0)).trans hk0
  have F : Hid (∀ w', Tr.Old w2 w' → w'.cell? ⟨w.heap.size, 0, none⟩ = some (.int .i64 i) ∧ w'.cell? ⟨w.heap.size, 1, none⟩ = some (.slice (some ⟨b1, o1, none⟩) 18 c1) ∧ w'.cell? ⟨w.heap.size, 2, none⟩ = some (.slice a2 np c2)) := fun w' h => seal_block h.out hks
  have FS : Hid (∀ w', Tr.Old w2 w' → ∀ k, k < 18 → w'.cell? ⟨b1, o1 + k, none⟩ = some (.string (ls.getD k ByteArray.empty))) := fun w' h k hk => by
    rw [(hb02.trans (h.out.mono hb02.size)).cell (p := ⟨b1, o1 + k, none⟩) HBW.out]; exact HS.out k hk
  have FP : Hid (∀ k, k < np → ∃ b off, a2 = some ⟨b, off, none⟩ ∧ ∀ w', Tr.Old w2 w' → w'.cell? ⟨b, off + k, none⟩ = some (.string (lp.getD k ByteArray.empty))) := fun k hk => by
    obtain ⟨b, off, e, hlt, hc⟩ := HP.out k hk
    exact ⟨b, off, e, fun w' h => by rw [(hb02.trans (h.out.mono hb02.size)).cell (p := ⟨b, off + k, none⟩) hlt]; exact hc⟩
  have FD : Hid (∀ w', Tr.Old w2 w' → ∀ k, k < 18 → w'.cell? ⟨gd, k, none⟩ = some (.int .i64 (Sl.dg m.data.toList k : Nat))) := fun w' h k hk => by
    rw [h.out.cell (p := ⟨gd, k, none⟩) hgl, World.ownsRow.cellAt hd k (by omega)]
    simp [Sl.ints, Sl.upTo, hk]
  have HB2 := Lib.hid hb02
  clear hd hb hks hk0 hbA hb02 HS HP hgd hgl HBW
  go_wp2_with fail
  go_loopw [6, 7, 8] (fun v6 v7 k wr => ∃ j : Nat, j ≤ 18 ∧ k = .int .i64 j ∧ Sl.R3 w2.heap.size 10000 16 16 (Sl.cF m.data.toList (Tr.bs ls) j) [] (Sl.cE m.data.toList (Tr.bs ls) j) v6 (.slice none 0 0) v7 wr ∧ Tr.Old w2 wr) (fun _ _ k _ => 18 - (intOf k).toNat)
  case atStart => exact ⟨0, Nat.zero_le _, rfl, Sl.R3.nil _ _ _ _ _, Tr.Old.refl _⟩
  case round =>
    obtain ⟨j, hj, rfl, h3, hO⟩ := hrel
    have H3 := Lib.hid h3
    have HO := Lib.hid hO
    obtain ⟨f0, f1, f2⟩ := F.out wr hO
    clear h3
    by_cases hlt : j < 18
    · obtain ⟨x, hx⟩ : ∃ x, x = ls.getD j ByteArray.empty := ⟨_, rfl⟩
      obtain ⟨d, hd⟩ : ∃ d, d = Sl.dg m.data.toList j := ⟨_, rfl⟩
      have hd15 : d ≤ 15 := by rw [hd]; exact Sl.dg_le _ _ hlt
      obtain ⟨n, hn⟩ : ∃ n, n = 15 - d := ⟨_, rfl⟩
      have hnd : (15 : Int) - (d : Int) = (n : Int) := by omega
      have hn15 : n ≤ 15 := by omega
      have hxz : x.size ≤ 16 := by rw [hx]; exact HZS.out j hlt
      have HXC : Hid (Sl.chained x.data.toList n = Sl.chained ((Tr.bs ls).getD j []) (15 - Sl.dg m.data.toList j)) := by
        show _ = _
        rw [hn, hd, hx, Sl.list_get ls j (by rw [H18.out]; exact hlt)]
      have HXE : Hid (Dg.chain x.data.toList n = Dg.chain ((Tr.bs ls).getD j []) (15 - Sl.dg m.data.toList j)) := by
        show _ = _
        rw [hn, hd, hx, Sl.list_get ls j (by rw [H18.out]; exact hlt)]
      have g1 : ∀ w', Tr.Old w2 w' → w'.cell? ⟨w.heap.size, 1, none⟩ = some (.slice (some ⟨b1, o1, none⟩) 18 c1) := fun w' h => (F.out w' h).2.1
      have g2 : ∀ w', Tr.Old w2 w' → w'.cell? ⟨b1, o1 + j, none⟩ = some (.string x) := fun w' h => by rw [hx]; exact FS.out w' h j hlt
      have g3 : ∀ w', Tr.Old w2 w' → w'.cell? ⟨gd, j, none⟩ = some (.int .i64 d) := fun w' h => by rw [hd]; exact FD.out w' h j hlt
      have G3 := Lib.hid g3
      have hOd : Tr.Old w2 wr.drew := Below.drew hO
      have hwn := Tr.wrap_in (n : Int) (by omega) (by omega)
      have q0 : (0 : Int) ≤ (j : Int) := by omega
      have q1 : (j : Int) < 18 := by omega
      clear hx hd hn f0 f2 hO
      go_wp2_with fail
      go_region_held3 (fun w' => Tr.Old w2 w') (first | with_reducible assumption | exact Tr.Old.step (by with_reducible assumption) (by with_reducible assumption))
        (first
          | (go_at_call 48; (with_reducible refine (refchained_walk x hxz n (Nat.le_trans hn15 (by decide)) _).mono ?_); intro e w3 ho; obtain ⟨v9, rfl, hr9, hb3⟩ := ho.row))
      have hb23 : Below wr.heap.size wr w3 := (Below.refl wr.heap.size wr).drew.trans hb3
      have hap := H3.out.r1.later hr9 (Nat.le_refl _)
      have H4 := Lib.hid (H3.out.below hb23)
      have HO4 : Hid (Tr.Old w2 w3) := Tr.Old.step hb23 HO.out
      have HR9 := Lib.hid hr9
      have HAP := Lib.hid hap
      have hs4 : w2.heap.size ≤ w3.heap.size := HO4.out.out.size
      have HLEN : Hid ((Sl.cF m.data.toList (Tr.bs ls) j).length ≤ 10000) := by
        show _ ≤ _
        have := Sl.cF_len m.data.toList (Tr.bs ls) j
        omega
      clear ho hr9 hb3 hb23 hap g1 g2 hOd
      go_wp2_with (at_builtin; refine wpList_row rfl (.tmp 40) (.tmp 41) rfl H4.out rfl rfl (HR9.out.tx.mono (by decide)) (by rw [Sl.chained_length]; have := HLEN.out; omega) hs4 ?_)
      intro v6 w4 h5 hb5 hk5
      have HROW := hk5 _ _ _ _ HR9.out HAP.out
      obtain ⟨N, hN⟩ : ∃ N, N = n + 1 := ⟨_, rfl⟩
      obtain ⟨bb, off, cap, rfl, hcap, y, hyc, hy, hyz⟩ := HROW.tx.at n (by rw [Sl.chained_length]; omega)
      rw [Sl.chained_get _ _ _ (Nat.le_refl _), HXE.out] at hy
      obtain ⟨te, hte⟩ : ∃ te, te = Dg.chain ((Tr.bs ls).getD j []) (15 - Sl.dg m.data.toList j) := ⟨_, rfl⟩
      rw [← hte] at hy
      have HTE := Lib.hid hte
      clear hte
      rw [Sl.chained_length, ← hN] at hcap ⊢
      rw [HXC.out] at h5
      have p1 : (0 : Int) ≤ (n : Int) := by omega
      have p2 : (n : Int) < (N : Int) := by omega
      have H5 := Lib.hid (h5.again (Sl.cF_succ _ _ _).symm rfl rfl)
      have HO5 : Hid (Tr.Old w2 w4) := HO4.out.out.trans hb5
      have g3' := G3.out w4 HO5.out
      have hs5 : w2.heap.size ≤ (w4.alloc (.cells #[.string y] 9)).heap.size := by rw [heap_alloc_size]; have := HO5.out.out.size; omega
      have HN := Lib.hid hN
      clear h5 hb5 hk5 HROW hN hs4 g3
      go_wp2_with (at_builtin; refine wpList_row rfl (.tmp 43) (.tmp 52) rfl (H5.out.swap13.alloc _) rfl rfl (Sl.Tx.one w4 y _ hy hyz) (by rw [Sl.cE, Sl.upTo_length]; simp; omega) hs5 ?_)
      intro v7 w5 h6 hb6 _
      have H6 := Lib.hid (h6.swap13.again (q3 := Sl.cE m.data.toList (Tr.bs ls) (j + 1)) rfl rfl (by rw [Sl.cE_succ, HTE.out]))
      have HO6 : Hid (Tr.Old w2 w5) := (Below.alloc HO5.out.out HO5.out.out.size (.cells #[.string y] 9)).trans hb6
      clear h6 hb6 hs5
      go_wp2_with fail
      go_round
      case rel => exact ⟨j + 1, by omega, by go_num, H6.out, HO6.out⟩
      case measure => simp [intOf]; omega
    · obtain rfl : j = 18 := by omega
      clear hlt hj
      have HLEN : Hid ((Sl.cF m.data.toList (Tr.bs ls) 18).length ≤ 1000) := by
        show _ ≤ _
        have := Sl.cF_len m.data.toList (Tr.bs ls) 18
        omega
      obtain ⟨ce, hce⟩ : ∃ ce, ce = Sl.cends m.data.toList (Tr.bs ls) := ⟨_, rfl⟩
      obtain ⟨ky, hky⟩ : ∃ ky, ky = Tr.li ce := ⟨_, rfl⟩
      obtain ⟨lf, hlf⟩ : ∃ lf, lf = Tr.leaf ky := ⟨_, rfl⟩
      obtain ⟨P, hP⟩ : ∃ P, P = Sl.cF m.data.toList (Tr.bs ls) 18 := ⟨_, rfl⟩
      have HALL : Hid (Sl.checked m.data.toList i (Tr.bs ls) (Tr.bs lp) = P ++ [Dg.join ce, Dg.join [Tr.wLeaf, ky]] ++ Tr.ctexts lf i (Tr.bs lp)) := by
        show _ = _
        rw [hP, hlf, hky, hce]; rfl
      rw [Sl.cE_all, ← hce, ← hP] at H3
      rw [← hP] at HLEN
      have HKY : Hid (Dg.sum (Dg.join ce) = ky) := by show _ = _; rw [hky]; rfl
      have HLF : Hid (Dg.sum (Dg.join [Tr.wLeaf, ky]) = lf) := by show _ = _; rw [hlf]; rfl
      have hcl : ce.length = 18 := by rw [hce]; simp [Sl.cends]
      obtain ⟨q, hq⟩ : ∃ q, q = Tr.bs lp := ⟨_, rfl⟩
      have hql : q.length = np := by rw [hq, Tr.bs_len, HNP.out]
      have HQG : Hid (∀ k, k < np → (lp.getD k ByteArray.empty).data.toList = q.getD k []) := fun k hk => by rw [hq]; exact Sl.list_get lp k (by rw [← HNP.out]; exact hk)
      have HALQ : Hid (Sl.checked m.data.toList i (Tr.bs ls) (Tr.bs lp) = P ++ [Dg.join ce, Dg.join [Tr.wLeaf, ky]] ++ Tr.ctexts lf i q) := by show _ = _; rw [HALL.out, hq]
      have HQL := Lib.hid hql
      clear hce hky hlf hP HALL hq hql f0 f1 f2
      obtain ⟨es, hes, hem, hel, hez⟩ := H3.out.r3.tx.texts
      rw [hcl] at hel
      go_wp2_with fail
      refine (refjoined_any3 _ es _ hes (Sl.few_all hez (by decide) (by omega))).mono ?_
      rintro e w3 ⟨r, rfl, hr, hz, hb2⟩
      rw [hem] at hr
      have HR : Hid (r.data.toList = Dg.join ce) := hr
      have H5 := Lib.hid (H3.out.no3.below hb2 : Sl.R3 _ _ _ 16 _ _ _ _ _ _ _)
      have HO5 : Hid (Tr.Old w2 w3) := Tr.Old.step hb2 HO.out
      clear hb2 hr hes hem hez hel hO
      go_wp2_with fail
      refine (refsum_ex r hz w3).mono ?_
      rintro e w4 ⟨q1, rfl, hqz, hq1, rfl⟩
      rw [HR.out, HKY.out] at hq1
      go_wp2_with fail
      refine (refjoined_any3 _ [⟨#[108, 101, 97, 102]⟩, q1] _ (tx_two w3 _ _).texts (Sl.few_leaf (by omega))).mono ?_
      rintro e w4 ⟨r2, rfl, hr2, hz2, hb3⟩
      have hb23 : Below w3.heap.size w3 w4 := ((Below.refl _ _).alloc (Nat.le_refl _) _).trans (hb3.mono (by simp))
      have HR2 : Hid (r2.data.toList = Dg.join [Tr.wLeaf, ky]) := by
        show _ = _
        rw [hr2.out, ← hq1.out]; rfl
      have H6 := Lib.hid (H5.out.below hb23)
      have HO6 : Hid (Tr.Old w2 w4) := Tr.Old.step hb23 HO5.out
      clear hb23 hb3 hr2 hq1
      have hs6 : w2.heap.size ≤ (w4.alloc (.cells #[.string r, .string r2] 9)).heap.size := by rw [heap_alloc_size]; have := HO6.out.out.size; omega
      go_wp2_with (at_builtin; refine wpList_row rfl (.tmp 60) (.tmp 63) rfl (H6.out.alloc _) rfl rfl (Sl.Tx.two w4 r r2 _ _ HR HR2 hz hz2) (by have := HLEN.out; simp; omega) hs6 ?_)
      intro v6 w5 h7 hb7 _
      have H7 : Hid (Sl.R3 w2.heap.size 10000 16 16 (P ++ [Dg.join ce, Dg.join [Tr.wLeaf, ky]] ++ Tr.ctexts lf i (q.take 0)) [] [] v6 (.slice none 0 0) (.slice none 0 0) w5) := h7.again (by rw [List.take_zero, Tr.ctexts, List.append_nil]) rfl rfl
      have HO7 : Hid (Tr.Old w2 w5) := (Below.alloc HO6.out.out HO6.out.out.size (.cells #[.string r, .string r2] 9)).trans hb7
      clear h7 hb7 hs6
      go_wp2_with fail
      refine (refsum_ex r2 hz2 w5).mono ?_
      rintro e w6 ⟨at0, rfl, haz, hat, rfl⟩
      rw [HR2.out, HLF.out] at hat
      obtain ⟨f0, f1, f2⟩ := F.out w5 HO7.out
      go_wp2_with fail
      go_loopw [6, 12, 13, 14] (fun v6 a x k wr => ∃ (j u : Nat) (t : ByteArray), j ≤ np ∧ k = .int .i64 j ∧ x = .int .i64 u ∧ u ≤ 1000 ∧ Hid (u = i / 2 ^ j) ∧ a = .string t ∧ t.size ≤ 16 ∧ Hid (t.data.toList = Tr.climb lf i (q.take j)) ∧ Sl.R3 w2.heap.size 10000 16 16 (P ++ [Dg.join ce, Dg.join [Tr.wLeaf, ky]] ++ Tr.ctexts lf i (q.take j)) [] [] v6 (.slice none 0 0) (.slice none 0 0) wr ∧ Tr.Old w2 wr) (fun _ _ _ k _ => np - (intOf k).toNat)
      case atStart => exact ⟨0, i, at0, Nat.zero_le _, rfl, rfl, hi, by (show i = i / 2 ^ 0; rw [Nat.pow_zero, Nat.div_one]), rfl, haz, hat, H7.out, HO7.out⟩
      case round =>
        obtain ⟨j, u, t, hj, rfl, rfl, hu, hui, rfl, htz, ht, h8, hO8⟩ := hrel
        have H8 := Lib.hid h8
        have HO8 := Lib.hid hO8
        obtain ⟨y0, y1, y2⟩ := F.out wr hO8
        clear h8 hO8 f0 f1 f2
        by_cases hlt : j < np
        · obtain ⟨b8, o8, rfl, hc8⟩ := FP.out j hlt
          obtain ⟨x, hx⟩ : ∃ x, x = lp.getD j ByteArray.empty := ⟨_, rfl⟩
          have hxz : x.size ≤ 300 := by rw [hx]; exact HZP.out j hlt
          have HXQ : Hid (x.data.toList = q.getD j []) := by show _ = _; rw [hx]; exact HQG.out j hlt
          rw [← hx] at hc8
          have HC8 := Lib.hid hc8
          have c8 := hc8 wr HO8.out
          have hlt' : (j : Int) < (np : Int) := by omega
          have hjl : j < q.length := by rw [HQL.out]; exact hlt
          have htl : (q.take j).length = j := by rw [List.length_take]; omega
          have HU2 : Hid (u / 2 = i / 2 ^ (j + 1)) := by show _ = _; rw [hui.out, Nat.pow_succ, Nat.div_div_eq_div_mul]
          have HLX : Hid ((P ++ [Dg.join ce, Dg.join [Tr.wLeaf, ky]] ++ Tr.ctexts lf i (q.take j)).length ≤ 10000) := by
            show _ ≤ _
            have h1 := HLEN.out
            have h2 := Sl.ctexts_len (q.take j) lf i
            rw [htl] at h2
            rw [List.length_append, List.length_append, h2]
            simp only [List.length_cons, List.length_nil]
            omega
          clear hx hc8
          by_cases hu2 : u % 2 = 1
          · obtain ⟨te, hte⟩ : ∃ te, te = Dg.join [Tr.wNode, q.getD j [], Tr.climb lf i (q.take j)] := ⟨_, rfl⟩
            have HC : Hid (Tr.ctexts lf i (q.take (j + 1)) = Tr.ctexts lf i (q.take j) ++ [te]) := by
              show _ = _
              rw [Sl.take_snoc q j hjl, Tr.ctexts_snoc, htl, ← hui.out, if_pos hu2, hte]
            have HCL : Hid (Dg.sum te = Tr.climb lf i (q.take (j + 1))) := by
              show _ = _
              rw [Sl.take_snoc q j hjl, Tr.climb_snoc, htl, ← hui.out, if_pos hu2, hte]; rfl
            have HTE := Lib.hid hte
            have hui2 : (u : Int) % 2 = 1 := by omega
            clear hte hjl htl
            go_wp2_with fail
            refine (refnode3_walk t x (by omega) hxz wr).mono ?_
            rintro e w3 ⟨r0, rfl, _, hz0, hb3⟩
            have HO3 : Hid (Tr.Old w2 w3) := Tr.Old.step hb3 HO8.out
            have H3' := Lib.hid (H8.out.below hb3)
            obtain ⟨z0, z1, z2⟩ := F.out w3 HO3.out
            have c9 := HC8.out w3 HO3.out
            clear hb3
            go_wp2_with fail
            refine (refnode3_walk x t hxz (by omega) w3).mono ?_
            rintro e w4 ⟨r, rfl, hr, hz, hb4⟩
            have HR : Hid (r.data.toList = te) := by show _ = _; rw [hr.out, HTE.out, HXQ.out, ht.out]
            have HO9 : Hid (Tr.Old w2 w4) := Tr.Old.step hb4 HO3.out
            have H9 := Lib.hid (H3'.out.below hb4)
            clear hr hb4 z0 z1 z2 c9 c8 y0 y1 y2
            have hs9 : w2.heap.size ≤ (w4.alloc (.cells #[.string r] 9)).heap.size := by rw [heap_alloc_size]; have := HO9.out.out.size; omega
            go_wp2_with (at_builtin; refine wpList_row rfl (.tmp 93) (.tmp 95) rfl (H9.out.alloc _) rfl rfl (Sl.Tx.one w4 r _ HR hz) (by have := HLX.out; simp at this ⊢; omega) hs9 ?_)
            intro v7 w5 hA hbA _
            have HA : Hid (Sl.R3 w2.heap.size 10000 16 16 (P ++ [Dg.join ce, Dg.join [Tr.wLeaf, ky]] ++ Tr.ctexts lf i (q.take (j + 1))) [] [] v7 (.slice none 0 0) (.slice none 0 0) w5) := hA.again (by rw [HC.out]; simp only [List.append_assoc, List.cons_append, List.nil_append]) rfl rfl
            have HOA : Hid (Tr.Old w2 w5) := (Below.alloc HO9.out.out HO9.out.out.size (.cells #[.string r] 9)).trans hbA
            clear hA hbA hs9
            go_wp2_with fail
            refine (refsum_ex r hz w5).mono ?_
            rintro e w6 ⟨q2, rfl, hq2z, hq2, rfl⟩
            rw [HR.out] at hq2
            have HQ2 : Hid (q2.data.toList = Tr.climb lf i (q.take (j + 1))) := by show _ = _; rw [hq2.out, HCL.out]
            clear hq2
            go_wp2_with fail
            go_round
            case rel => exact ⟨j + 1, u / 2, q2, by omega, by go_num, by go_num, by omega, HU2, rfl, hq2z, HQ2, HA.out, HOA.out⟩
            case measure => simp [intOf]; omega
          · obtain ⟨te, hte⟩ : ∃ te, te = Dg.join [Tr.wNode, Tr.climb lf i (q.take j), q.getD j []] := ⟨_, rfl⟩
            have HC : Hid (Tr.ctexts lf i (q.take (j + 1)) = Tr.ctexts lf i (q.take j) ++ [te]) := by
              show _ = _
              rw [Sl.take_snoc q j hjl, Tr.ctexts_snoc, htl, ← hui.out, if_neg hu2, hte]
            have HCL : Hid (Dg.sum te = Tr.climb lf i (q.take (j + 1))) := by
              show _ = _
              rw [Sl.take_snoc q j hjl, Tr.climb_snoc, htl, ← hui.out, if_neg hu2, hte]; rfl
            have HTE := Lib.hid hte
            have hui2 : (u : Int) % 2 = 0 := by omega
            clear hte hjl htl hu2
            go_wp2_with fail
            refine (refnode3_walk t x (by omega) hxz wr).mono ?_
            rintro e w4 ⟨r, rfl, hr, hz, hb4⟩
            have HR : Hid (r.data.toList = te) := by show _ = _; rw [hr.out, HTE.out, HXQ.out, ht.out]
            have HO9 : Hid (Tr.Old w2 w4) := Tr.Old.step hb4 HO8.out
            have H9 := Lib.hid (H8.out.below hb4)
            clear hr hb4 c8 y0 y1 y2
            have hs9 : w2.heap.size ≤ (w4.alloc (.cells #[.string r] 9)).heap.size := by rw [heap_alloc_size]; have := HO9.out.out.size; omega
            go_wp2_with (at_builtin; refine wpList_row rfl (.tmp 93) (.tmp 95) rfl (H9.out.alloc _) rfl rfl (Sl.Tx.one w4 r _ HR hz) (by have := HLX.out; simp at this ⊢; omega) hs9 ?_)
            intro v7 w5 hA hbA _
            have HA : Hid (Sl.R3 w2.heap.size 10000 16 16 (P ++ [Dg.join ce, Dg.join [Tr.wLeaf, ky]] ++ Tr.ctexts lf i (q.take (j + 1))) [] [] v7 (.slice none 0 0) (.slice none 0 0) w5) := hA.again (by rw [HC.out]; simp only [List.append_assoc, List.cons_append, List.nil_append]) rfl rfl
            have HOA : Hid (Tr.Old w2 w5) := (Below.alloc HO9.out.out HO9.out.out.size (.cells #[.string r] 9)).trans hbA
            clear hA hbA hs9
            go_wp2_with fail
            refine (refsum_ex r hz w5).mono ?_
            rintro e w6 ⟨q2, rfl, hq2z, hq2, rfl⟩
            rw [HR.out] at hq2
            have HQ2 : Hid (q2.data.toList = Tr.climb lf i (q.take (j + 1))) := by show _ = _; rw [hq2.out, HCL.out]
            clear hq2
            go_wp2_with fail
            go_round
            case rel => exact ⟨j + 1, u / 2, q2, by omega, by go_num, by go_num, by omega, HU2, rfl, hq2z, HQ2, HA.out, HOA.out⟩
            case measure => simp [intOf]; omega
        · have hjn : j = np := by omega
          subst hjn
          go_wp2_with fail
          go_ret
          refine (H8.out.r1.mono HB2.out.size).out ?_ (HB2.out.trans (HO8.out.out.mono HB2.out.size))
          rw [List.take_of_length_le (by have := HQL.out; omega)]
          rw [HALQ.out]

/-- append of a whole list onto a row, guarded, at a step of a region that draws its order. -/
theorem step_rowg {ops : Array Oper} {o : Oper} {a : Act} {w : World} {K : Act → World → Prop} {Q : Exit → Act → World → Prop} {E : Prop} (hw : Region.wanted o (yielded ops a.tmps) = true) (s x : Operand)
    (ho : o.op = .call { callee := .builtin .append, args := #[s, x], argTypes := #[22, 22] }) {B S : Nat} {p q : List Tr.T} {v vx : Value} (h : Sl.Row B S p v w)
    (hs : a.eval s = v) (hv : a.eval x = vx) (hx : Sl.Tx S q vx w) (hl : p.length + q.length ≤ 1000000) (hB : B ≤ w.heap.size)
    (hK : ∀ v' w', Sl.Row B S (p ++ q) v' w' → Below B w w' → K (a.put o.dst v') w') :
    if Region.wanted o (yielded ops a.tmps) = true then Oper.wp Tryd.prog o a w K Q else E := by
  rw [if_pos hw]
  have h3 : Sl.R3 B S S S p [] [] v (.slice none 0 0) (.slice none 0 0) w := ⟨h, Sl.Row.nil _ _ _, Sl.Row.nil _ _ _, Sl.apart_symm (.inl rfl), Sl.apart_symm (.inl rfl), Sl.apart_symm (.inl rfl)⟩
  obtain ⟨v', w', hr, h2, h3, _⟩ := run_row_push o.type h3 hx hl hB
  unfold Oper.wp execOp
  simp only [ho, resolve, invoke, builtin, Sem.run_bind, Sem.run_pure, Result.andThen_ok, List.map_toArray, List.map_cons, List.map_nil, hs, hv, hr]
  exact hK v' w' h2.r1 h3

theorem Sl.checked_len (m : Tr.T) (i : Nat) (sg q : List Tr.T) (hq : q.length ≤ 8) : (Sl.checked m i sg q).length ≤ 1000 := by
  have h1 := Sl.cF_len m sg 18
  have h2 := Sl.ctexts_len q (Tr.leaf (Tr.li (Sl.cends m sg))) i
  have e : Sl.checked m i sg q = Sl.cF m sg 18 ++ [Dg.join (Sl.cends m sg), Dg.join [Tr.wLeaf, Tr.li (Sl.cends m sg)]] ++ Tr.ctexts (Tr.leaf (Tr.li (Sl.cends m sg))) i q := rfl
  rw [e, List.length_append, List.length_append, h2]
  simp only [List.length_cons, List.length_nil]
  omega
end Go.Proofs.YthhfcijgcpnfcaaDoor
