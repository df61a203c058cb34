import Derived.Test.YthhfcijgcpnfcaaDoorKSRefA
import Derived.Test.YthhfcijgcpnfcaaDoorKSTail
import Derived.Test.YthhfcijgcpnfcaaDoorKRChain
import Derived.Test.YthhfcijgcpnfcaaDoorKRTree
import Derived.Test.YthhfcijgcpnfcaaDoorKSPub
import Derived.Test.YthhfcijgcpnfcaaDoorKSSign
import Derived.Test.YthhfcijgcpnfcaaDoorKSBad
import Derived.Test.YthhfcijgcpnfcaaDoorKRCheck1
import Derived.Test.YthhfcijgcpnfcaaDoorKSVerify
import Derived.Deep.QuietTactic
/-
  The walks of the reference's Start, Key, Keys and Public (stage 3).
-/
namespace Go.Proofs.YthhfcijgcpnfcaaDoor
open Go.RowKit

set_option maxHeartbeats 1000000 in
set_option maxRecDepth 100000 in
theorem refstart_walk (s : ByteArray) (hs : s.size ≤ 300) (i k : Nat) (hi : i < 1000) (hk : k < 1000) (w : World) :
    Calls Tryd.prog 38 #[.string s, .int .i64 i, .int .i64 k] w (Digs (Sl.start s.data.toList i k) w) := by
  have HS := Lib.hid hs
  clear hs
  go_enter Tryd.func38, Tryd.ntmps38
  go_wp2_with fail
  refine (decimal_walk i (by omega) w).mono ?_
  rintro e w1 ⟨rfl, rfl⟩
  obtain ⟨a, ha⟩ : ∃ a, a = str (Lib.decDigits i) := ⟨_, rfl⟩
  rw [← ha]
  have HA := Lib.hid ha
  clear ha
  go_wp2_with fail
  refine (decimal_walk k (by omega) w).mono ?_
  rintro e w1 ⟨rfl, rfl⟩
  obtain ⟨b, hb⟩ : ∃ b, b = str (Lib.decDigits k) := ⟨_, rfl⟩
  rw [← hb]
  have HBB := Lib.hid hb
  clear hb
  go_wp2_with fail
  have hfew : Dg.few [s, a, b] 300 = true := Sl.few_three HS.out (by rw [HA.out]; exact Sl.dec_size i (by omega)) (by rw [HBB.out]; exact Sl.dec_size k (by omega))
  have hb0 := (Below.refl w.heap.size w).alloc (Nat.le_refl _) (.cells #[.string s, .string a, .string b] 9)
  refine (reflist_ex3 _ [s, a, b] _ (tx_three w _ _ _).texts hfew).mono ?_
  clear hfew
  rintro e w2 ⟨r, rfl, hr, hb1⟩
  go_wp2_with fail
  go_ret
  have HX : Hid (r.data.toList = Sl.start s.data.toList i k) := by
    show _ = _
    rw [hr.out, Sl.start, Sl.startT, HA.out, HBB.out]; simp
  exact ⟨r, rfl, HX, by rw [Lib.size_eq, HX.out, Sl.start, Dg.sum_length]; exact Nat.le_refl _, hb0.trans (hb1.mono hb0.size)⟩

/-- A chain of at most 1000 links. -/
theorem refchain_ex (s : ByteArray) (hs : s.size ≤ 16) (n : Nat) (hn : n ≤ 1000) (w : World) :
    Calls Tryd.prog 37 #[.string s, .int .i64 n] w fun e w' => ∃ r : ByteArray, e = .returned (.string r) ∧ r.size ≤ 16 ∧ Hid (r.data.toList = Dg.chain s.data.toList n) ∧ w = w' :=
  (refchain_walk s (by omega) n (by omega) w).mono fun _ _ ⟨h, hw⟩ => by
    rw [show (min (n : Int) 1000).toNat = n by omega] at h
    refine ⟨_, h, ?_, Dg.str_toList _, hw⟩
    cases n with
    | zero => rw [Dg.chain, Dg.str_data]; exact hs
    | succ n => rw [Dg.chain, Dg.str_size, Dg.sum_length]; exact Nat.le_refl _

set_option maxHeartbeats 2000000 in
set_option maxRecDepth 100000 in
theorem refkey_walk (s : ByteArray) (hs : s.size ≤ 300) (i : Nat) (hi : i < 1000) (w : World) :
    Calls Tryd.prog 60 #[.string s, .int .i64 i] w (Digs (Sl.key s.data.toList i) w) := by
  have HS := Lib.hid hs
  clear hs
  go_enter Tryd.func60, Tryd.ntmps60
  go_wp2_with fail
  go_loopw [5, 6] (fun v k wr => ∃ j : Nat, j ≤ 18 ∧ k = .int .i64 j ∧ Sl.R3 w.heap.size 16 16 16 (Sl.mE s.data.toList i j) [] [] v (.slice none 0 0) (.slice none 0 0) wr ∧ Below w.heap.size w wr) (fun _ k _ => 18 - (intOf k).toNat)
  case atStart => exact ⟨0, Nat.zero_le _, rfl, Sl.R3.nil _ _ _ _ _, Below.refl _ _⟩
  case round =>
    obtain ⟨j, hj, rfl, h3, hb⟩ := hrel
    have H3 := Lib.hid h3
    have HB := Lib.hid hb
    clear h3 hb
    by_cases hlt : j < 18
    · go_wp2_with fail
      refine (refstart_walk s HS.out i j hi (by omega) wr).mono ?_
      rintro e w1 ⟨r, rfl, hr, hz, hb1⟩
      go_wp2_with fail
      refine (refchain_ex r hz 15 (by decide) w1).mono ?_
      rintro e w2 ⟨q, rfl, hqz, hq, rfl⟩
      obtain ⟨te, hte⟩ : ∃ te, te = Dg.chain (Sl.start s.data.toList i j) 15 := ⟨_, rfl⟩
      rw [hr.out, ← hte] at hq
      have HTE := Lib.hid hte
      have H4 := Lib.hid (H3.out.below hb1)
      have HB4 := Lib.hid (HB.out.trans (hb1.mono HB.out.size))
      have hs4 : w.heap.size ≤ (w1.alloc (.cells #[.string q] 9)).heap.size := by rw [heap_alloc_size]; have := HB4.out.size; omega
      clear hte hb1
      go_wp2_with (at_builtin; refine wpList_row rfl (.tmp 11) (.tmp 17) rfl (H4.out.alloc _) rfl rfl (Sl.Tx.one w1 q _ hq hqz) (by rw [Sl.mE, Sl.upTo_length]; simp; omega) hs4 ?_)
      intro v' w' h5 hb5 _
      have H5 := Lib.hid (h5.again (q1 := Sl.mE s.data.toList i (j + 1)) (by rw [Sl.mE_succ, HTE.out]) rfl rfl)
      have HB5 := Lib.hid ((HB4.out.alloc HB4.out.size (.cells #[.string q] 9)).trans hb5)
      clear h5 hb5 hs4
      go_wp2_with fail
      go_round
      case rel => exact ⟨j + 1, by omega, by go_num, H5.out, HB5.out⟩
      case measure => simp [intOf]; omega
    · obtain rfl : j = 18 := by omega
      obtain ⟨es, hes, hem, hel, hez⟩ := H3.out.r1.tx.texts
      rw [Sl.mE, Sl.upTo_length] at hel
      go_wp2_with fail
      refine (reflist_ex3 _ es _ hes (Sl.few_all hez (by decide) (by omega))).mono ?_
      rintro e w2 ⟨r, rfl, hr, hb2⟩
      rw [hem] at hr
      go_wp2_with fail
      go_ret
      have HX : Hid (r.data.toList = Sl.key s.data.toList i) := hr
      exact ⟨r, rfl, HX, by rw [Lib.size_eq, hr.out, Dg.sum_length]; exact Nat.le_refl _, HB.out.trans (hb2.mono HB.out.size)⟩

theorem Sl.keys_upTo (s : Tr.T) (h : Nat) : Sl.upTo (Sl.key s) (2 ^ h) = Sl.keys s h := rfl

set_option maxHeartbeats 2000000 in
set_option maxRecDepth 100000 in
theorem refkeys_walk (s : ByteArray) (hs : s.size ≤ 300) (h : Nat) (h8 : h ≤ 8) (w : World) :
    Calls Tryd.prog 30 #[.string s, .int .i64 h] w (OwnOut 16 (Sl.keys s.data.toList h) w) := by
  obtain ⟨M, hM⟩ : ∃ M, M = 2 ^ h := ⟨_, rfl⟩
  have hM4 : M ≤ 256 := by rw [hM]; exact Nat.le_trans (Nat.pow_le_pow_right (by decide) h8) (by decide)
  rw [← Sl.keys_upTo, ← hM]
  have HM := Lib.hid hM
  have HS := Lib.hid hs
  clear hM hs
  go_enter Tryd.func30, Tryd.ntmps30
  go_wp2_with fail
  go_loopw [5, 6] (fun v k wr => ∃ j : Nat, j ≤ M ∧ k = .int .i64 j ∧ Sl.R3 w.heap.size 16 16 16 (Sl.upTo (Sl.key s.data.toList) j) [] [] v (.slice none 0 0) (.slice none 0 0) wr ∧ Below w.heap.size w wr) (fun _ k _ => M - (intOf k).toNat)
  case atStart => exact ⟨0, Nat.zero_le _, rfl, Sl.R3.nil _ _ _ _ _, Below.refl _ _⟩
  case round =>
    obtain ⟨j, hj, rfl, h3, hb⟩ := hrel
    have H3 := Lib.hid h3
    have HB := Lib.hid hb
    clear h3 hb
    go_wp2_with fail
    refine (refpow_walk h (by omega) wr).mono ?_
    rintro e w1 ⟨m, rfl, _, hm, rfl⟩
    obtain rfl : m = M := by rw [hm.out, HM.out]
    by_cases hlt : j < m
    · clear hm
      go_wp2_with fail
      refine (refkey_walk s HS.out j (by omega) wr).mono ?_
      rintro e w1 ⟨q, rfl, hq, hqz, hb1⟩
      obtain ⟨te, hte⟩ : ∃ te, te = Sl.key s.data.toList j := ⟨_, rfl⟩
      rw [← hte] at hq
      have HTE := Lib.hid hte
      have H4 := Lib.hid (H3.out.below hb1)
      have HB4 := Lib.hid (HB.out.trans (hb1.mono HB.out.size))
      have hs4 : w.heap.size ≤ (w1.alloc (.cells #[.string q] 9)).heap.size := by rw [heap_alloc_size]; have := HB4.out.size; omega
      clear hte hb1
      go_wp2_with (at_builtin; refine wpList_row rfl (.tmp 13) (.tmp 17) rfl (H4.out.alloc _) rfl rfl (Sl.Tx.one w1 q _ hq hqz) (by rw [Sl.upTo_length]; simp; omega) hs4 ?_)
      intro v' w' h5 hb5 _
      have H5 := Lib.hid (h5.again (q1 := Sl.upTo (Sl.key s.data.toList) (j + 1)) (by rw [Sl.upTo_succ, HTE.out]) rfl rfl)
      have HB5 := Lib.hid ((HB4.out.alloc HB4.out.size (.cells #[.string q] 9)).trans hb5)
      clear h5 hb5 hs4
      go_wp2_with fail
      go_round
      case rel => exact ⟨j + 1, by omega, by go_num, H5.out, HB5.out⟩
      case measure => simp [intOf]; omega
    · have hjm : j = m := by omega
      subst hjm
      go_wp2_with fail
      go_ret
      exact H3.out.r1.out rfl HB.out

set_option maxHeartbeats 1000000 in
set_option maxRecDepth 100000 in
theorem refpub_no (s : ByteArray) (h : Int) (hn : ¬ (0 ≤ h ∧ h ≤ 8)) (w : World) :
    Calls Tryd.prog 14 #[.string s, .int .i64 h] w (PairOut [] 1 w) := by
  by_cases h0 : h < 0
  · clear hn
    go_enter Tryd.func14, Tryd.ntmps14
    go_wp2_with fail
    go_ret2
    exact ⟨⟨#[]⟩, rfl, rfl, by decide, Below.refl _ _⟩
  · have h8 : 8 < h := by omega
    clear hn
    go_enter Tryd.func14, Tryd.ntmps14
    go_wp2_with fail
    go_ret2
    exact ⟨⟨#[]⟩, rfl, rfl, by decide, Below.refl _ _⟩

set_option maxHeartbeats 1000000 in
set_option maxRecDepth 100000 in
theorem refpub_ok (s : ByteArray) (hs : s.size ≤ 300) (h : Nat) (h8 : h ≤ 8) (w : World) :
    Calls Tryd.prog 14 #[.string s, .int .i64 h] w (PairOut (Sl.pub s.data.toList h) 0 w) := by
  have HK := Lib.hid (refkeys_walk s hs h h8 w)
  have hh : (h : Int) ≤ 8 := by omega
  have h0 : ¬ (h : Int) < 0 := by omega
  clear hs
  go_enter Tryd.func14, Tryd.ntmps14
  go_wp2_with fail
  refine HK.out.mono ?_
  rintro e w1 ⟨v, ps, rfl, hown, hps, hz, hb1⟩
  have HO := Lib.hid (own_tx hown)
  have HPS := Lib.hid hps.out
  have hpl : ps.length ≤ 256 := by
    rw [Tr.len_of hps, Sl.keys_length]
    exact Nat.le_trans (Nat.pow_le_pow_right (by decide) h8) (by decide)
  have HPL := Lib.hid hpl
  have HZ := Lib.hid hz
  clear hown hps hpl hz
  go_wp2_with fail
  refine (refroot_walk ps v w1 (by have := HPL.out; omega) HO.out (fun s h => by have := HZ.out s h; omega)).mono ?_
  rintro e w2 ⟨r, rfl, hr, hrz, hb2⟩
  go_wp2_with fail
  go_ret2
  exact ⟨r, rfl, by show _ = _; rw [hr.out, HPS.out]; rfl, hrz, hb1.trans (hb2.mono hb1.size)⟩
end Go.Proofs.YthhfcijgcpnfcaaDoor
/-
  The walk of the reference's Sign where it refuses (stage 3).
-/
namespace Go.Proofs.YthhfcijgcpnfcaaDoor
open Go.RowKit

theorem refsign_results (tmps : Array Value) (w : World) (g : Nat) (v0 v1 v2 v : Value) (t : TypeId) (fr : Nat × Nat) (hp : tmps.getD 8 undef = .pointer (some ⟨g, 0, none⟩)) (hv : tmps.getD 9 undef = v) (hg : w.heap[g]? = some (.cells #[v0, v1, v2] t fr)) :
    (results Tryd.f16 tmps).run Tryd.prog w = .ok (.tuple #[.agg #[v0, v1, v2], v]) w := by
  rw [results_cell_tmp rfl, hp, hv]
  simp [asAddr, run_loadVar_row w g t 24 #[v0, v1, v2] fr _ hg Tryd.underlying24 rfl seal_size, Result.andThen]

set_option maxHeartbeats 2000000 in
set_option maxRecDepth 100000 in
theorem refsign_no (s : ByteArray) (h i : Int) (m : ByteArray) (hn : ¬ (0 ≤ h ∧ h ≤ 8)) (w : World) :
    Calls Tryd.prog 16 #[.string s, .int .i64 h, .int .i64 i, .string m] w (SealOut 0 [] [] 1 w) := by
  have hk := heap_alloc_new w (.cells #[.int .i64 0, .slice none 0 0, .slice none 0 0] 24)
  have hb := (Below.refl w.heap.size w).alloc (Nat.le_refl _) (.cells #[.int .i64 0, .slice none 0 0, .slice none 0 0] 24)
  have HK := Lib.hid hk
  have HB := Lib.hid hb
  clear hk hb
  by_cases h0 : h < 0
  · clear hn
    go_enter Tryd.func16, Tryd.ntmps16
    go_wp2_with fail
    refine bodyPost_ret (refsign_results _ _ w.heap.size _ _ _ (.int .i64 1) _ _ rfl rfl HK.out) rfl ?_
    exact ⟨_, _, [], [], rfl, IsTx.nil _, rfl, by simp, IsTx.nil _, rfl, by simp, HB.out⟩
  · have h8 : 8 < h := by omega
    clear hn
    go_enter Tryd.func16, Tryd.ntmps16
    go_wp2_with fail
    refine bodyPost_ret (refsign_results _ _ w.heap.size _ _ _ (.int .i64 1) _ _ rfl rfl HK.out) rfl ?_
    exact ⟨_, _, [], [], rfl, IsTx.nil _, rfl, by simp, IsTx.nil _, rfl, by simp, HB.out⟩

set_option maxHeartbeats 2000000 in
set_option maxRecDepth 100000 in
theorem refsign_bad (s : ByteArray) (h : Nat) (h8 : h ≤ 8) (i : Int) (hi : ¬ (0 ≤ i ∧ i < ((2 ^ h : Nat) : Int))) (m : ByteArray) (w : World) :
    Calls Tryd.prog 16 #[.string s, .int .i64 h, .int .i64 i, .string m] w (SealOut 0 [] [] 1 w) := by
  have hk := heap_alloc_new w (.cells #[.int .i64 0, .slice none 0 0, .slice none 0 0] 24)
  have hb := (Below.refl w.heap.size w).alloc (Nat.le_refl _) (.cells #[.int .i64 0, .slice none 0 0, .slice none 0 0] 24)
  have HK := Lib.hid hk
  have HB := Lib.hid hb
  clear hk hb
  have g0 : ¬ (h : Int) < 0 := by omega
  have g8 : ¬ (8 : Int) < (h : Int) := by omega
  by_cases h0 : i < 0
  · clear hi
    go_enter Tryd.func16, Tryd.ntmps16
    go_wp2_with fail
    refine bodyPost_ret (refsign_results _ _ w.heap.size _ _ _ (.int .i64 1) _ _ rfl rfl HK.out) rfl ?_
    exact ⟨_, _, [], [], rfl, IsTx.nil _, rfl, by simp, IsTx.nil _, rfl, by simp, HB.out⟩
  · obtain ⟨M, hM⟩ : ∃ M, M = 2 ^ h := ⟨_, rfl⟩
    rw [← hM] at hi
    have hge : (M : Int) ≤ i := by omega
    have HM := Lib.hid hM
    clear hi hM
    go_enter Tryd.func16, Tryd.ntmps16
    go_wp2_with fail
    refine (refpow_walk h (by omega) _).mono ?_
    rintro e w1 ⟨n, rfl, _, hn, rfl⟩
    obtain rfl : n = M := by rw [hn.out, HM.out]
    go_wp2_with fail
    refine bodyPost_ret (refsign_results _ _ w.heap.size _ _ _ (.int .i64 1) _ _ rfl rfl HK.out) rfl ?_
    exact ⟨_, _, [], [], rfl, IsTx.nil _, rfl, by simp, IsTx.nil _, rfl, by simp, HB.out⟩
end Go.Proofs.YthhfcijgcpnfcaaDoor
/-
  The walk of the reference's Sign where it signs (stage 3).
-/
namespace Go.Proofs.YthhfcijgcpnfcaaDoor
open Go.RowKit

/-- All blocks of W are as they were, but that at g. -/
structure SSt (g : Nat) (W w' : World) : Prop where
  old : Below g W w'
  blk : ∀ b, b < W.heap.size → b ≠ g → w'.heap[b]? = W.heap[b]?
theorem SSt.refl (g : Nat) (W : World) : SSt g W W := ⟨Below.refl _ _, fun _ _ _ => rfl⟩
theorem SSt.lower {g B : Nat} {W w1 w2 : World} (hg : g < W.heap.size) (hB : W.heap.size ≤ B) (hb : Below B w1 w2) (h : SSt g W w1) : SSt g W w2 :=
  ⟨h.old.trans (hb.mono (by omega)), fun b hb1 hb2 => (hb.block b (by omega)).trans (h.blk b hb1 hb2)⟩
theorem SSt.step {g : Nat} {W w1 w2 : World} (hg : g < W.heap.size) (hb : Below w1.heap.size w1 w2) (h : SSt g W w1) : SSt g W w2 := h.lower hg h.old.size hb
theorem SSt.drew {g : Nat} {W w1 : World} (h : SSt g W w1) : SSt g W w1.drew := ⟨h.old.drew, h.blk⟩
theorem SSt.alloc {g : Nat} {W w1 : World} (hg : g < W.heap.size) (h : SSt g W w1) (o : Obj) : SSt g W (w1.alloc o) := h.step hg ((Below.refl _ _).alloc (Nat.le_refl _) o)
theorem SSt.store {g : Nat} {W w1 : World} (h : SSt g W w1) (j : Nat) (v : Value) : SSt g W (w1.setCell ⟨g, j, none⟩ v) :=
  ⟨h.old.setCell (p := ⟨g, j, none⟩) (Nat.le_refl _) v, fun b hb1 hb2 => (Below.heap_setCell w1 ⟨g, j, none⟩ v b hb2).trans (h.blk b hb1 hb2)⟩
theorem SSt.cell {g : Nat} {W w1 : World} (h : SSt g W w1) {p : Addr} (h1 : p.block < W.heap.size) (h2 : p.block ≠ g) : w1.cell? p = W.cell? p := World.cell?_of_block (h.blk _ h1 h2)
theorem SSt.below {g : Nat} {W w1 : World} (h : SSt g W w1) : Below g W w1 := h.old

/-- The variable in the making. -/
def Half (w : World) (g : Nat) (i : Int) (v : Value) : Prop := w.heap[g]? = some (.cells #[.int .i64 i, v, .slice none 0 0] 24 (0, 0))
theorem Half.below {w w' : World} {g : Nat} {i : Int} {v : Value} {B : Nat} (hB : g < B) (hb : Below B w w') (h : Half w g i v) : Half w' g i v := (hb.block _ hB).trans h
theorem Half.facts {w : World} {g : Nat} {i : Int} {v : Value} (h : Half w g i v) : w.cell? ⟨g, 1, none⟩ = some v ∧ w.frozen? ⟨g, 1, none⟩ = false ∧ w.cell? ⟨g, 2, none⟩ = some (.slice none 0 0) ∧ w.frozen? ⟨g, 2, none⟩ = false :=
  ⟨Joins.cell_of_block h 1, Joins.unfrozen_of_block h 1, Joins.cell_of_block h 2, Joins.unfrozen_of_block h 2⟩
theorem Half.store {w : World} {g : Nat} {i : Int} {v : Value} (h : Half w g i v) (u : Value) : Half (w.setCell ⟨g, 1, none⟩ u) g i u := by
  show _ = _
  rw [Joins.block_setCell h]; rfl

def Sl.sF (s : Tr.T) (i : Nat) (m : Tr.T) (k : Nat) : List Tr.T := Sl.upTo (fun k => Dg.chain (Sl.start s i k) (Sl.dg m k)) k
theorem Sl.sF_succ (s : Tr.T) (i : Nat) (m : Tr.T) (k : Nat) : Sl.sF s i m (k + 1) = Sl.sF s i m k ++ [Dg.chain (Sl.start s i k) (Sl.dg m k)] := Sl.upTo_succ _ _
theorem Sl.sF_all (s : Tr.T) (i : Nat) (m : Tr.T) : Sl.sF s i m 18 = Sl.sig s i m := rfl
theorem Sl.sF_len (s : Tr.T) (i : Nat) (m : Tr.T) (k : Nat) : (Sl.sF s i m k).length = k := Sl.upTo_length _ _

theorem Sl.Row.put {B S : Nat} {p : List Tr.T} {v : Value} {w : World} (h : Sl.Row B S p v w) {g : Nat} (hg : g < B) (j : Nat) (u : Value) : Sl.Row B S p v (w.setCell ⟨g, j, none⟩ u) :=
  h.kept (grown_put _ _ _ _) (by
    cases hv : v.ownBlock with
    | none => exact .inl rfl
    | some k => refine .inr fun e => ?_; have := (h.lt k hv).1; cases e; omega)
theorem row_nostr {w : World} {g : Nat} {i : Int} {a1 a2 : Option Addr} {n1 n2 c1 c2 : Nat} (h : w.heap[g]? = some (.cells #[.int .i64 i, .slice a1 n1 c1, .slice a2 n2 c2] 24 (0, 0))) : ∀ j s, w.cell? ⟨g, j, none⟩ ≠ some (.string s) := by
  intro j s
  rw [Joins.cell_of_block h j]
  match j with
  | 0 => exact fun e => by simp at e
  | 1 => exact fun e => by simp at e
  | 2 => exact fun e => by simp at e
  | j + 3 => exact fun e => by simp at e
/-- What stands after the append, for the store. -/
theorem half_push {B g : Nat} {i : Int} {v v' : Value} {S : Nat} {p q : List Tr.T} {W w1 w5 : World} (hB : B = W.heap.size) (hg : g < B) (hh : Half w1 g i v) (hs : SSt g W w1) (hr : Sl.Row B S p v' w5) (hb : Below B w1 w5) (e : p = q) :
    Sl.Row B S q v' (w5.setCell ⟨g, 1, none⟩ v') ∧ Half (w5.setCell ⟨g, 1, none⟩ v') g i v' ∧ SSt g W (w5.setCell ⟨g, 1, none⟩ v') ∧ SSt g W w5 ∧ w5.cell? ⟨g, 1, none⟩ = some v ∧ w5.frozen? ⟨g, 1, none⟩ = false := by
  subst hB e
  have h5 := hh.below hg hb
  have s5 := hs.lower hg (Nat.le_refl _) hb
  exact ⟨hr.put hg _ _, h5.store v', s5.store _ _, s5, h5.facts.1, h5.facts.2.1⟩

set_option maxHeartbeats 4000000 in
set_option maxRecDepth 100000 in
theorem refsign_ok (s : ByteArray) (hs : s.size ≤ 300) (h : Nat) (h8 : h ≤ 8) (i : Nat) (hi : i < 2 ^ h) (m : ByteArray) (hm : m.size ≤ 300) (w : World) :
    Calls Tryd.prog 16 #[.string s, .int .i64 h, .int .i64 i, .string m] w (SealOut i (Sl.sig s.data.toList i m.data.toList) (Tr.path (Sl.keys s.data.toList h) i) 0 w) := by
  have hi256 : i < 256 := Nat.lt_of_lt_of_le hi (Nat.le_trans (Nat.pow_le_pow_right (by decide) h8) (by decide))
  have HKY : Hid (∀ w', Calls Tryd.prog 30 #[.string s, .int .i64 h] w' (OwnOut 16 (Sl.keys s.data.toList h) w')) := fun w' => refkeys_walk s hs h h8 w'
  have HPT : Hid (∀ w' v ps, IsTx w' v ps → Hid (Tr.bs ps = Sl.keys s.data.toList h) → (∀ s ∈ ps, s.size ≤ 16) → Calls Tryd.prog 39 #[v, .int .i64 i] w' (TextsOut (Tr.path (Sl.keys s.data.toList h) i) 0 w')) := fun w' v ps hv hp hz => by
    have := refPath_ok v ps i w' hv (fun s hs => by have := hz s hs; omega) (by have := Sl.keys_len8 h8 hp; omega) (by rw [Tr.len_of hp, Sl.keys_length]; exact hi)
    rw [hp.out] at this
    exact this
  have HS := Lib.hid hs
  obtain ⟨M, hM⟩ : ∃ M, M = 2 ^ h := ⟨_, rfl⟩
  rw [← hM] at hi
  have HM := Lib.hid hM
  have g0 : ¬ (h : Int) < 0 := by omega
  have g8 : ¬ (8 : Int) < (h : Int) := by omega
  have g1 : ¬ (i : Int) < 0 := by omega
  have g2 : ¬ (M : Int) ≤ (i : Int) := by omega
  clear hs hM hi
  go_enter Tryd.func16, Tryd.ntmps16
  go_wp2_with fail
  refine (refpow_walk h (by omega) _).mono ?_
  rintro e w1 ⟨n, rfl, _, hn, rfl⟩
  obtain rfl : n = M := by rw [hn.out, HM.out]
  clear hn
  go_wp2_with fail
  obtain ⟨W1, hW1⟩ : ∃ W1, W1 = (w.alloc (.cells #[.int .i64 0, .slice none 0 0, .slice none 0 0] 24)).alloc (.cells #[.int .i64 i, .slice none 0 0, .slice none 0 0] 24) := ⟨_, rfl⟩
  rw [← hW1]
  have hb1 : Below w.heap.size w W1 := by rw [hW1]; exact beside_le _ _
  have hs1 : W1.heap.size = w.heap.size + 2 := by rw [hW1]; simp
  have hz1 : Zero W1 w.heap.size := by rw [hW1]; exact (Zero.one w).alloc _
  have hh1 : Half W1 (w.heap.size + 1) i (.slice none 0 0) := by
    rw [hW1]
    have := heap_alloc_new (w.alloc (.cells #[.int .i64 0, .slice none 0 0, .slice none 0 0] 24)) (.cells #[.int .i64 i, .slice none 0 0, .slice none 0 0] 24)
    show _ = _
    simpa using this
  clear hW1
  refine (refdigits_out m (by omega) W1).mono ?_
  rintro e W2 ⟨v5, rfl, hd, hb⟩
  obtain ⟨gd, cd, rfl, hgd, hgl⟩ := World.ownsRow.form hd (by decide)
  have FD : Hid (∀ w', SSt (w.heap.size + 1) W2 w' → ∀ k, k < 18 → w'.cell? ⟨gd, k, none⟩ = some (.int .i64 (Sl.dg m.data.toList k : Nat))) := fun w' h k hk => by
    rw [h.cell (p := ⟨gd, k, none⟩) hgl (by show gd ≠ _; omega), World.ownsRow.cellAt hd k (by omega)]
    simp [Sl.ints, Sl.upTo, hk]
  have HB2 : Hid (Below w.heap.size w W2) := hb1.trans (hb.mono hb1.size)
  have hh2 : Half W2 (w.heap.size + 1) i (.slice none 0 0) := hh1.below (by omega) hb
  have HZ2 : Hid (Zero W2 w.heap.size) := Zero.below hb hz1
  have hgW : w.heap.size + 1 < W2.heap.size := by have := hb.size; omega
  clear hd hb hb1 hz1 hh1 hgd hgl hs1
  go_wp2_with fail
  go_loopw [12] (fun k wr => ∃ j : Nat, j ≤ 18 ∧ k = .int .i64 j ∧ ∃ v, Sl.Row W2.heap.size 16 (Sl.sF s.data.toList i m.data.toList j) v wr ∧ Half wr (w.heap.size + 1) i v ∧ SSt (w.heap.size + 1) W2 wr) (fun k _ => 18 - (intOf k).toNat)
  case atStart => exact ⟨0, Nat.zero_le _, rfl, _, Sl.Row.nil _ _ _, hh2, SSt.refl _ _⟩
  case round =>
    obtain ⟨j, hj, rfl, v, hr, hh, hst⟩ := hrel
    have HR := Lib.hid hr
    have HH := Lib.hid hh
    have HST := Lib.hid hst
    clear hr
    by_cases hlt : j < 18
    · obtain ⟨d, hd⟩ : ∃ d, d = Sl.dg m.data.toList j := ⟨_, rfl⟩
      have hd15 : d ≤ 15 := by rw [hd]; exact Sl.dg_le _ _ hlt
      have l1 : ∀ w', SSt (w.heap.size + 1) W2 w' → w'.cell? ⟨gd, j, none⟩ = some (.int .i64 d) := fun w' h => by rw [hd]; exact FD.out w' h j hlt
      have k0 := hh.facts.1
      have HD := Lib.hid hd
      have q0 : (0 : Int) ≤ (j : Int) := by omega
      have q1 : (j : Int) < 18 := by omega
      have HE : Hid (∀ t, t = Dg.chain (Sl.start s.data.toList i j) d → Sl.sF s.data.toList i m.data.toList j ++ [t] = Sl.sF s.data.toList i m.data.toList (j + 1)) := fun t ht => by rw [Sl.sF_succ, ht, hd]
      have hL := Sl.sF_len s.data.toList i m.data.toList j
      have HL := Lib.hid hL
      have hdr : SSt (w.heap.size + 1) W2 wr.drew := hst.drew
      clear hd hh hst hL
      go_wp2_with fail
      have l0 := l1 wr HST.out
      go_region_law (first
          | (go_simp; go_at_call 38; (with_reducible refine (refstart_walk s HS.out i j (by omega) (by omega) _).mono ?_); rintro e w1 ⟨r, rfl, hr, hz, hb3⟩; have hb03 : Below wr.heap.size wr w1 := (Below.refl wr.heap.size wr).drew.trans hb3; have hst1 : SSt (w.heap.size + 1) W2 w1 := HST.out.step hgW hb03; have hh1 : Half w1 (w.heap.size + 1) i v := HH.out.below (by have := HST.out.old.size; omega) hb03; have k1 := hh1.facts.1; have l2 := l1 w1 hst1)
          | (go_simp; go_at_call 37; (with_reducible refine (refchain_ex r hz d (by omega) _).mono ?_); rintro e w2 ⟨q, rfl, hqz, hq, rfl⟩; obtain ⟨te, hte⟩ : ∃ te, te = Dg.chain (Sl.start s.data.toList i j) d := ⟨_, rfl⟩; rw [hr.out, ← hte] at hq; have HTE := Lib.hid hte; have hst2 := hst1.alloc hgW (.cells #[.string q] 9); have hh2 : Half (w1.alloc (.cells #[.string q] 9)) (w.heap.size + 1) i v := hh1.below (lt_of_block hh1) ((Below.refl _ _).alloc (Nat.le_refl _) _); have k2 := hh2.facts.1; clear hte)
          | (refine step_rowg (by rfl) (.tmp 41) (.tmp 51) rfl ((HR.out.below hb03).below ((Below.refl _ _).alloc (Nat.le_refl _) _)) rfl rfl (Sl.Tx.one w1 q _ hq hqz) (by rw [HL.out]; simp; omega) (by have := hst2.old.size; exact this) ?_; intro v' w5 h5 hb5; obtain ⟨a', cap', rfl⟩ : ∃ a c, v' = .slice a (j + 1) c := (by obtain ⟨a', c', e⟩ := h5.form; exact ⟨a', c', by rw [e, List.length_append, HL.out]; rfl⟩); obtain ⟨x1, x2, x3, x4, x5, x6⟩ := half_push rfl hgW hh2 hst2 h5 hb5 (HE.out _ HTE.out)))
      all_goals
        clear k0 k1 k2 l0 l1 l2 hst1 hst2 hh1 hh2 hb03 hb3 hb5 h5 x4 x5 x6
        go_wp2_with fail
        go_round
        case rel => exact ⟨j + 1, by omega, by go_num, _, x1, x2, x3⟩
        case measure => simp [intOf]; omega
    · obtain rfl : j = 18 := by omega
      clear hh hst
      go_wp2_with fail
      refine (HKY.out _).mono ?_
      rintro e w3 ⟨v3, ps3, rfl, hown, hps, hz, hb3⟩
      have HO := Lib.hid (own_tx hown)
      clear hown
      go_wp2_with fail
      refine (HPT.out _ _ ps3 HO.out hps hz).mono ?_
      rintro e w4 ⟨v4, ps4, rfl, hv4, hp4, hz4, hb4⟩
      have hb24 : Below wr.heap.size wr w4 := hb3.trans (hb4.mono hb3.size)
      have hwr := HST.out.old.size
      have hh4 : Half w4 (w.heap.size + 1) i v := HH.out.below (by omega) hb24
      have hst4 : SSt (w.heap.size + 1) W2 w4 := HST.out.step hgW hb24
      have hz0 : Zero w4 w.heap.size := by
        show _ = _
        rw [hst4.blk _ (by omega) (by omega)]; exact HZ2.out
      have hr4 := HR.out.below hb24
      obtain ⟨a1, c1, rfl⟩ : ∃ a c, v = .slice a 18 c := by obtain ⟨a', c', e⟩ := hr4.form; exact ⟨a', c', by rw [e, Sl.sF_len]⟩
      have hv4' := hv4
      obtain ⟨a4, c4, rfl, _, _, _⟩ := hv4'
      have HV4 := Lib.hid hv4
      have HR4 := Lib.hid hr4
      have HH4 := Lib.hid hh4
      have HZ0 := Lib.hid hz0
      have HB4 : Hid (Below w.heap.size w w4) := HB2.out.trans (hst4.old.mono (by omega))
      obtain ⟨f1, f2, f3, f4⟩ := hh4.facts
      have f0 : w4.cell? ⟨w.heap.size + 1, 0, none⟩ = some (.int .i64 i) := Joins.cell_of_block hh4 0
      obtain ⟨⟨u0, u1, u2⟩, y0, y1, y2⟩ := hz0.facts
      clear hv4 hr4 hh4 hz0 hst4 hb24 hb3 hb4 hps hz
      go_wp2_with fail
      have hfin := seal_set ((Below.heap_setCell w4 ⟨w.heap.size + 1, 2, none⟩ (.slice a4 ps4.length c4) w.heap.size (by show w.heap.size ≠ w.heap.size + 1; omega)).trans HZ0.out) (.int .i64 i) (.slice a1 18 c1) (.slice a4 ps4.length c4)
      refine bodyPost_ret (refsign_results _ _ w.heap.size _ _ _ (.int .i64 0) _ _ rfl rfl hfin) rfl ?_
      have hbf := seal_below (HB4.out.setCell (p := ⟨w.heap.size + 1, 2, none⟩) (by show w.heap.size ≤ w.heap.size + 1; omega) (.slice a4 ps4.length c4)) (Nat.le_refl _) (.int .i64 i) (.slice a1 18 c1) (.slice a4 ps4.length c4)
      obtain ⟨ls, t1, t2, t3⟩ := ((((HR4.out.put hgW 2 (.slice a4 ps4.length c4)).put (g := w.heap.size) (by omega) 0 (.int .i64 i)).put (g := w.heap.size) (by omega) 1 (.slice a1 18 c1)).put (g := w.heap.size) (by omega) 2 (.slice a4 ps4.length c4)).tx
      refine ⟨_, _, ls, ps4, rfl, t1, t2, t3, ?_, hp4, hz4, hbf⟩
      refine HV4.out.turned (w.heap.size + 1) w.heap.size (by simp) (row_nostr HH4.out) (row_nostr HZ0.out) fun b e1 e2 => ?_
      rw [heap_setCell_other _ ⟨w.heap.size, 2, none⟩ _ _ e2, heap_setCell_other _ ⟨w.heap.size, 1, none⟩ _ _ e2, heap_setCell_other _ ⟨w.heap.size, 0, none⟩ _ _ e2, heap_setCell_other _ ⟨w.heap.size + 1, 2, none⟩ _ _ e1]
end Go.Proofs.YthhfcijgcpnfcaaDoor
/-
  The walk of the reference's Verify (stage 3).
-/
namespace Go.Proofs.YthhfcijgcpnfcaaDoor
open Go.RowKit

theorem refpow_quiet (n M : Nat) (hn : n ≤ 30) (hM : M = 2 ^ n) (w : World) : Calls Tryd.prog 35 #[.int .i64 n] w fun e w' => e = .returned (.int .i64 M) ∧ w' = w :=
  (refpow_walk n hn w).mono fun _ _ ⟨m, he, _, hm, hw⟩ => ⟨by rw [he, hm.out, hM], hw.symm⟩
theorem Below.drewN (B : Nat) (w : World) (n : Nat) : Below B w (w.drewN n) := ⟨rfl, rfl, rfl, Nat.le_refl _, fun _ _ => rfl⟩

set_option maxHeartbeats 4000000 in
set_option maxRecDepth 100000 in
theorem refverify_bad (pb m : ByteArray) (v : Value) (i : Int) (ls lp : List ByteArray) (w : World) (hv : IsSeal w v i ls lp) (hn : ¬ (ls.length = 18 ∧ lp.length ≤ 8 ∧ 0 ≤ i ∧ i < ((2 ^ lp.length : Nat) : Int))) :
    Calls Tryd.prog 19 #[.string pb, .string m, v] w (BoolOut (Sl.verify pb.data.toList m.data.toList i (Tr.bs ls) (Tr.bs lp)) w) := by
  have e : Sl.verify pb.data.toList m.data.toList i (Tr.bs ls) (Tr.bs lp) = false := by
    by_cases h18 : ls.length = 18
    · by_cases h8 : lp.length ≤ 8
      · by_cases h0 : 0 ≤ i
        · exact Sl.verify_high _ _ _ _ _ (by rw [Tr.bs_len]; have : ¬ i < ((2 ^ lp.length : Nat) : Int) := fun h => hn ⟨h18, h8, h0, h⟩; omega)
        · exact Sl.verify_low _ _ _ _ _ (by omega)
      · exact Sl.verify_long _ _ _ _ _ (by rw [Tr.bs_len]; exact h8)
    · exact Sl.verify_len _ _ _ _ _ (by rw [Tr.bs_len]; exact h18)
  rw [e]
  clear e
  obtain ⟨vs, vp, rfl, ⟨a1, c1, rfl, _, _, _⟩, ⟨a2, c2, rfl, _, _, _⟩⟩ := hv
  obtain ⟨n1, e1⟩ : ∃ n1, n1 = ls.length := ⟨_, rfl⟩
  obtain ⟨np, e2⟩ : ∃ np, np = lp.length := ⟨_, rfl⟩
  obtain ⟨M, hM⟩ : ∃ M, M = 2 ^ np := ⟨_, rfl⟩
  rw [← e1, ← e2, ← hM] at hn
  rw [← e1, ← e2]
  have HM := Lib.hid hM
  have hc : ((n1 : Int) != 18) = true ∧ True ∧ True ∧ True ∨ ((n1 : Int) != 18) = false ∧ (8 : Int) < (np : Int) ∧ True ∧ True ∨ ((n1 : Int) != 18) = false ∧ ¬ (8 : Int) < (np : Int) ∧ i < 0 ∧ True ∨ ((n1 : Int) != 18) = false ∧ ¬ (8 : Int) < (np : Int) ∧ ¬ i < 0 ∧ (M : Int) ≤ i := by
    by_cases h18 : n1 = 18
    · have f1 : ((n1 : Int) != 18) = false := by rw [h18]; rfl
      by_cases h8 : np ≤ 8
      · by_cases h0 : 0 ≤ i
        · exact .inr (.inr (.inr ⟨f1, by omega, by omega, by have : ¬ i < (M : Int) := fun h => hn ⟨h18, h8, h0, h⟩; omega⟩))
        · exact .inr (.inr (.inl ⟨f1, by omega, by omega, trivial⟩))
      · exact .inr (.inl ⟨f1, by omega, trivial, trivial⟩)
    · exact .inl ⟨by simp; omega, trivial, trivial, trivial⟩
  obtain ⟨W, hW⟩ : ∃ W, W = w.alloc (.cells #[.int .i64 i, .slice a1 n1 c1, .slice a2 np c2] 24) := ⟨_, rfl⟩
  have hb : Below w.heap.size w W := by rw [hW]; exact (Below.refl _ _).alloc (Nat.le_refl _) _
  have hk : W.heap[w.heap.size]? = some (.cells #[.int .i64 i, .slice a1 n1 c1, .slice a2 np c2] 24 (0, 0)) := by rw [hW]; exact heap_alloc_new _ _
  have HB := Lib.hid hb
  obtain ⟨y0, y1, y2⟩ := seal_block (Below.refl _ _) hk
  clear hn hM hb hk e1 e2
  rcases hc with ⟨x1, x2, x3, x4⟩ | ⟨x1, x2, x3, x4⟩ | ⟨x1, x2, x3, x4⟩ | ⟨x1, x2, x3, x4⟩
  all_goals
    have X2 := Lib.hid x2
    go_enter Tryd.func19, Tryd.ntmps19
    go_wp2_with fail
    rw [← hW]
    clear hW
    go_quiet (first
      | (go_at_call 35; exact Calls.quiet_of_same (refpow_quiet np M (by have := X2.out; omega) HM.out _)))
    go_wp2_with fail
    go_ret
    exact ⟨rfl, HB.out.trans (Below.drewN _ _ _)⟩

theorem Sl.verify_pnodig (pb m : Tr.T) (i : Int) (sg q : List Tr.T) (h : q.all Dg.isDigest = false) : Sl.verify pb m i sg q = false := by unfold Sl.verify; rw [h]; simp

set_option maxHeartbeats 4000000 in
set_option maxRecDepth 100000 in
theorem refverify_ok (pb m : ByteArray) (hm : m.size ≤ 300) (v : Value) (i : Int) (ls lp : List ByteArray) (w : World) (hv : IsSeal w v i ls lp) (hz : ∀ s ∈ ls, s.size ≤ 300) (hzp : ∀ s ∈ lp, s.size ≤ 300) (h18 : ls.length = 18) (h8 : lp.length ≤ 8) (h0 : 0 ≤ i) (hi : i < ((2 ^ lp.length : Nat) : Int)) :
    Calls Tryd.prog 19 #[.string pb, .string m, v] w (BoolOut (Sl.verify pb.data.toList m.data.toList i (Tr.bs ls) (Tr.bs lp)) w) := by
  obtain ⟨vs, vp, rfl, hs, hp⟩ := hv
  have HP := Lib.hid hp
  obtain ⟨a1, c1, rfl, h11, h12, h13⟩ := hs
  obtain ⟨b1, o1, rfl, hb1, hc1⟩ := h13 (by intro e; rw [e] at h18; cases h18)
  obtain ⟨a2, c2, rfl, h21, h22, h23⟩ := hp
  have HS : Hid (∀ k, k < 18 → w.cell? ⟨b1, o1 + k, none⟩ = some (.string (ls.getD k ByteArray.empty))) := fun k hk => hc1 k (by omega)
  have HPP : Hid (∀ k, k < lp.length → ∃ b off, a2 = some ⟨b, off, none⟩ ∧ b < w.heap.size ∧ w.cell? ⟨b, off + k, none⟩ = some (.string (lp.getD k ByteArray.empty))) := fun k hk => by
    obtain ⟨b, off, e, hlt, hc⟩ := h23 (by intro e; rw [e] at hk; simp at hk)
    exact ⟨b, off, e, hlt, hc k hk⟩
  have HZS : Hid (∀ k, k < 18 → (ls.getD k ByteArray.empty).size ≤ 300) := fun k hk => by rw [Dg.getD_eq ls k (by omega)]; exact hz _ (List.getElem_mem _)
  have HZP : Hid (∀ k, k < lp.length → (lp.getD k ByteArray.empty).size ≤ 300) := fun k hk => by rw [Dg.getD_eq lp k hk]; exact hzp _ (List.getElem_mem _)
  have HZA := Lib.hid hzp
  have H18 := Lib.hid h18
  obtain ⟨np, hnp⟩ : ∃ np, np = lp.length := ⟨_, rfl⟩
  obtain ⟨M, hM⟩ : ∃ M, M = 2 ^ np := ⟨_, rfl⟩
  rw [← hnp, ← hM] at hi
  rw [← hnp] at h8 h21 HPP HZP ⊢
  rw [h18] at h11 ⊢
  have HM := Lib.hid hM
  have HNP := Lib.hid hnp
  have HI := Lib.hid (And.intro h0 hi)
  have HBW : Hid (b1 < w.heap.size) := hb1
  obtain ⟨ans, hans⟩ : ∃ ans, ans = Sl.verify pb.data.toList m.data.toList i (Tr.bs ls) (Tr.bs lp) := ⟨_, rfl⟩
  rw [← hans]
  have HANS := Lib.hid hans
  have h8' : ¬ (8 : Int) < (np : Int) := by omega
  have h0' : ¬ i < 0 := by omega
  have hi' : ¬ (M : Int) ≤ i := by omega
  obtain ⟨W, hW⟩ : ∃ W, W = w.alloc (.cells #[.int .i64 i, .slice (some ⟨b1, o1, none⟩) 18 c1, .slice a2 np c2] 24) := ⟨_, rfl⟩
  have hb : Below w.heap.size w W := by rw [hW]; exact (Below.refl _ _).alloc (Nat.le_refl _) _
  have hk : W.heap[w.heap.size]? = some (.cells #[.int .i64 i, .slice (some ⟨b1, o1, none⟩) 18 c1, .slice a2 np c2] 24 (0, 0)) := by rw [hW]; exact heap_alloc_new _ _
  have HB := Lib.hid hb
  have HK := Lib.hid hk
  obtain ⟨y0, y1, y2⟩ := seal_block (Below.refl _ _) hk
  clear hM hnp hc1 h13 h23 hz hzp h0 hi hb1 hans hb hk h18
  have X2 := Lib.hid h8
  go_enter Tryd.func19, Tryd.ntmps19
  go_wp2_with fail
  rw [← hW]
  clear hW
  go_quiet (first
    | (go_at_call 35; exact Calls.quiet_of_same (refpow_quiet np M (by have := X2.out; omega) HM.out _)))
  go_wp2_with fail
  obtain ⟨W1, hW1⟩ : ∃ W1, W1 = W.drewN nq := ⟨_, rfl⟩
  rw [← hW1]
  have hb1 : Below W.heap.size W W1 := by rw [hW1]; exact Below.drewN _ _ _
  clear hW1
  refine (refdigits_out m (by omega) W1).mono ?_
  rintro e W2 ⟨v5, rfl, hd, hb⟩
  obtain ⟨gd, cd, rfl, hgd, hgl⟩ := World.ownsRow.form hd (by decide)
  have hb12 : Below W.heap.size W W2 := hb1.trans (hb.mono hb1.size)
  have hb02 : Below w.heap.size w W2 := HB.out.trans (hb12.mono HB.out.size)
  have hks := (hb12.block _ (lt_of_block HK.out)).trans HK.out
  have F : Hid (∀ w', Tr.Old W2 w' → w'.cell? ⟨w.heap.size, 0, none⟩ = some (.int .i64 i) ∧ w'.cell? ⟨w.heap.size, 1, none⟩ = some (.slice (some ⟨b1, o1, none⟩) 18 c1) ∧ w'.cell? ⟨w.heap.size, 2, none⟩ = some (.slice a2 np c2)) := fun w' h => seal_block h.out hks
  have FS : Hid (∀ w', Tr.Old W2 w' → ∀ k, k < 18 → w'.cell? ⟨b1, o1 + k, none⟩ = some (.string (ls.getD k ByteArray.empty))) := fun w' h k hk => by
    rw [(hb02.trans (h.out.mono hb02.size)).cell (p := ⟨b1, o1 + k, none⟩) HBW.out]; exact HS.out k hk
  have FP : Hid (∀ k, k < np → ∃ b off, a2 = some ⟨b, off, none⟩ ∧ ∀ w', Tr.Old W2 w' → w'.cell? ⟨b, off + k, none⟩ = some (.string (lp.getD k ByteArray.empty))) := fun k hk => by
    obtain ⟨b, off, e, hlt, hc⟩ := HPP.out k hk
    exact ⟨b, off, e, fun w' h => by rw [(hb02.trans (h.out.mono hb02.size)).cell (p := ⟨b, off + k, none⟩) hlt]; exact hc⟩
  have FD : Hid (∀ w', Tr.Old W2 w' → ∀ k, k < 18 → w'.cell? ⟨gd, k, none⟩ = some (.int .i64 (Sl.dg m.data.toList k : Nat))) := fun w' h k hk => by
    rw [h.out.cell (p := ⟨gd, k, none⟩) hgl, World.ownsRow.cellAt hd k (by omega)]
    simp [Sl.ints, Sl.upTo, hk]
  have HB2 := Lib.hid hb02
  clear hd hb hks hb1 hb02 hb12 hgd hgl
  go_wp2_with fail
  go_loopw [8, 9] (fun v8 k wr => ∃ j : Nat, j ≤ 18 ∧ k = .int .i64 j ∧ Sl.Row W2.heap.size 16 (Sl.cE m.data.toList (Tr.bs ls) j) v8 wr ∧ Tr.Old W2 wr ∧ Hid (∀ q, q < j → Dg.isDigest (ls.getD q ByteArray.empty).data.toList = true)) (fun _ k _ => 18 - (intOf k).toNat)
  case atStart => exact ⟨0, Nat.zero_le _, rfl, Sl.Row.nil _ _ _, Tr.Old.refl _, fun q h => absurd h (Nat.not_lt_zero _)⟩
  case round =>
    obtain ⟨j, hj, rfl, hr, hO, hdg⟩ := hrel
    have HR := Lib.hid hr
    have HO := Lib.hid hO
    obtain ⟨f0, f1, f2⟩ := F.out wr hO
    clear hr y0 y1 y2 h8' h0' hi'
    by_cases hlt : j < 18
    · obtain ⟨x, hx⟩ : ∃ x, x = ls.getD j ByteArray.empty := ⟨_, rfl⟩
      have f3 : wr.cell? ⟨b1, o1 + j, none⟩ = some (.string x) := by rw [hx]; exact FS.out wr hO j hlt
      have hxz : x.size ≤ 300 := by rw [hx]; exact HZS.out j hlt
      have HX := Lib.hid hx
      have q0 : (0 : Int) ≤ (j : Int) := by omega
      have q1 : (j : Int) < 18 := by omega
      clear hx
      cases hdx : Dg.isDigest x.data.toList with
      | false =>
        have HD := Lib.hid hdx
        have hno : ans = false := by
          rw [HANS.out]
          exact Sl.verify_nodig _ _ _ _ _ (Sl.all_not j (by rw [H18.out]; exact hlt) (by rw [← HX.out]; exact HD.out))
        subst hno
        clear hdx
        go_wp2_with fail
        refine (refis_false x (by omega) HD.out wr).mono ?_
        rintro e w3 ⟨rfl, rfl⟩
        go_wp2_with fail
        go_ret
        exact ⟨rfl, HB2.out.trans (HO.out.out.mono HB2.out.size)⟩
      | true =>
        have HD := Lib.hid hdx
        obtain ⟨d, hd⟩ : ∃ d, d = Sl.dg m.data.toList j := ⟨_, rfl⟩
        have hd15 : d ≤ 15 := by rw [hd]; exact Sl.dg_le _ _ hlt
        obtain ⟨n, hn⟩ : ∃ n, n = 15 - d := ⟨_, rfl⟩
        have hnd : (15 : Int) - (d : Int) = (n : Int) := by omega
        have hn15 : n ≤ 15 := by omega
        have HXE : Hid (∀ t, t = Dg.chain x.data.toList n → Sl.cE m.data.toList (Tr.bs ls) j ++ [t] = Sl.cE m.data.toList (Tr.bs ls) (j + 1)) := fun t ht => by
          rw [Sl.cE_succ, ht, hn, hd, HX.out, Sl.list_get ls j (by rw [H18.out]; exact hlt)]
        have HDN : Hid (∀ q, q < j + 1 → Dg.isDigest (ls.getD q ByteArray.empty).data.toList = true) := fun q hq => by
          by_cases hqj : q = j
          · rw [hqj, ← HX.out]; exact HD.out
          · exact hdg.out q (by omega)
        have hxz6 : x.size ≤ 16 := Sl.dig_size HD.out
        have HL : Hid ((Sl.cE m.data.toList (Tr.bs ls) j).length = j) := Sl.upTo_length _ _
        have g1 : ∀ w', Tr.Old W2 w' → w'.cell? ⟨w.heap.size, 1, none⟩ = some (.slice (some ⟨b1, o1, none⟩) 18 c1) := fun w' h => (F.out w' h).2.1
        have g2 : ∀ w', Tr.Old W2 w' → w'.cell? ⟨b1, o1 + j, none⟩ = some (.string x) := fun w' h => by rw [HX.out]; exact FS.out w' h j hlt
        have g3 : ∀ w', Tr.Old W2 w' → w'.cell? ⟨gd, j, none⟩ = some (.int .i64 d) := fun w' h => by rw [hd]; exact FD.out w' h j hlt
        have hwn := Tr.wrap_in (n : Int) (by omega) (by omega)
        clear hdx hd hn
        go_wp2_with fail
        refine (refis_true x (by omega) HD.out wr).mono ?_
        rintro e w3 ⟨rfl, rfl⟩
        clear hxz
        have hOd : Tr.Old W2 wr.drew := Below.drew hO
        clear f0 f1 f2 f3 hO
        go_wp2_with fail
        go_region_held3 (fun w' => Tr.Old W2 w') (first | with_reducible assumption | exact Tr.Old.alloc _ (by with_reducible assumption))
          (first
            | (go_at_call 37; (with_reducible refine (refchain_ex x hxz6 n (Nat.le_trans hn15 (by decide)) _).mono ?_); rintro e w2 ⟨q, rfl, hqz, hq, rfl⟩; obtain ⟨te, hte⟩ : ∃ te, te = Dg.chain x.data.toList n := ⟨_, rfl⟩; rw [← hte] at hq; have HTE := Lib.hid hte; clear hte)
            | (refine step_rowg (by rfl) (.tmp 48) (.tmp 60) rfl (HR.out.below ((Below.refl wr.heap.size wr).drew.alloc (Nat.le_refl _) _)) rfl rfl (Sl.Tx.one wr.drew q _ hq hqz) (by rw [HL.out]; simp; omega) (by have := (Tr.Old.alloc (.cells #[.string q] 9) hOd).out.size; exact this) ?_; intro v' w5 h5 hb5; have hO5 : Tr.Old W2 w5 := (Tr.Old.alloc (.cells #[.string q] 9) hOd).out.trans hb5; have HR5 := Lib.hid (h5.again (HXE.out _ HTE.out))))
        all_goals
          clear g1 g2 g3 hOd hb5 h5 hwn
          go_wp2_with fail
          go_round
          case rel => exact ⟨j + 1, by omega, by go_num, HR5.out, hO5, HDN⟩
          case measure => simp [intOf]; omega
    · obtain rfl : j = 18 := by omega
      obtain ⟨W3, hW3⟩ : ∃ W3, W3 = wr := ⟨_, rfl⟩
      subst hW3
      have hall : (Tr.bs ls).all Dg.isDigest = true := Sl.all_of fun k hk => hdg.out k (by rw [H18.out] at hk; exact hk)
      have HALL := Lib.hid hall
      have hcl : (Sl.cends m.data.toList (Tr.bs ls)).length = 18 := by simp [Sl.cends]
      have HLI : Hid (∀ w', Tr.Old W3 w' → Calls Tryd.prog 44 #[u8] w' fun e w'' => ∃ r : ByteArray, e = .returned (.string r) ∧ r.size ≤ 16 ∧ Hid (r.data.toList = Tr.li (Sl.cends m.data.toList (Tr.bs ls))) ∧ Below w'.heap.size w' w'') := fun w' hw => by
        obtain ⟨es, hes, hem, hel, hez⟩ := (HR.out.below hw.out).tx.texts
        rw [Sl.cE_all] at hem hel
        rw [hcl] at hel
        refine (reflist_ex3 _ es _ hes (Sl.few_all hez (by decide) (by omega))).mono ?_
        rintro e w2 ⟨r, rfl, hr, hb2⟩
        exact ⟨r, rfl, by rw [Lib.size_eq, hr.out, Dg.sum_length]; exact Nat.le_refl _, by show _ = _; rw [hr.out, hem]; rfl, hb2⟩
      have hbw : Below w.heap.size w W3 := HB2.out.trans (HO.out.out.mono HB2.out.size)
      have HBR := Lib.hid hbw
      have HCK : Hid (∀ w' (r : ByteArray), Tr.Old W3 w' → r.size ≤ 16 → Hid (r.data.toList = Tr.li (Sl.cends m.data.toList (Tr.bs ls))) → Calls Tryd.prog 43 #[.string pb, .int .i64 M, .int .i64 i, .string r, .slice a2 np c2] w' (BoolOut ans w')) := fun w' r hw hz hr => by
        have hp : IsTx w (.slice a2 np c2) lp := by rw [HNP.out]; exact HP.out
        have := refcheck_walk3 pb r (by omega) (M : Int) i _ lp w' (hp.below (hbw.trans (hw.out.mono hbw.size))) HZA.out
        rw [HANS.out, Sl.verify_check _ _ _ _ _ (by rw [Tr.bs_len]; exact H18.out) (by rw [Tr.bs_len, ← HNP.out]; exact X2.out) hall, ← hr.out, Tr.bs_len, ← HNP.out, ← HM.out]
        exact this
      have z0 : ∀ w', Tr.Old W3 w' → w'.cell? ⟨w.heap.size, 0, none⟩ = some (.int .i64 i) := fun w' h => (F.out w' (Tr.Old.step h HO.out)).1
      have z2 : ∀ w', Tr.Old W3 w' → w'.cell? ⟨w.heap.size, 2, none⟩ = some (.slice a2 np c2) := fun w' h => (F.out w' (Tr.Old.step h HO.out)).2.2
      have HZ0 := Lib.hid z0
      have HZ2 := Lib.hid z2
      clear hall hcl hbw z0 z2 hlt hj f1
      go_wp2_with fail
      go_loopw [10] (fun k wr => ∃ j : Nat, j ≤ np ∧ k = .int .i64 j ∧ Hid (∀ q, q < j → Dg.isDigest (lp.getD q ByteArray.empty).data.toList = true) ∧ W3 = wr) (fun k _ => np - (intOf k).toNat)
      case atStart => exact ⟨0, Nat.zero_le _, rfl, fun q h => absurd h (Nat.not_lt_zero _), rfl⟩
      case round =>
        obtain ⟨j, hj, rfl, hdp, rfl⟩ := hrel
        by_cases hlt : j < np
        · obtain ⟨b, off, rfl, hcell⟩ := FP.out j hlt
          obtain ⟨x, hx⟩ : ∃ x, x = lp.getD j ByteArray.empty := ⟨_, rfl⟩
          have e1 := hcell W3 HO.out
          have hxz : x.size ≤ 300 := by rw [hx]; exact HZP.out j hlt
          rw [← hx] at e1
          have HX := Lib.hid hx
          have HLT := Lib.hid hlt
          have q0 : (0 : Int) ≤ (j : Int) := by omega
          have q1 : (j : Int) < (np : Int) := by omega
          clear hx hcell
          cases hdx : Dg.isDigest x.data.toList with
          | false =>
            have HD := Lib.hid hdx
            have hno : ans = false := by
              rw [HANS.out]
              exact Sl.verify_pnodig _ _ _ _ _ (Sl.all_not j (by rw [← HNP.out]; exact hlt) (by rw [← HX.out]; exact HD.out))
            subst hno
            clear hdx
            go_wp2_with fail
            refine (refis_false x (by omega) HD.out W3).mono ?_
            rintro e w3 ⟨rfl, rfl⟩
            go_wp2_with fail
            go_ret
            exact ⟨rfl, HBR.out⟩
          | true =>
            have HD := Lib.hid hdx
            have HDN : Hid (∀ q, q < j + 1 → Dg.isDigest (lp.getD q ByteArray.empty).data.toList = true) := fun q hq => by
              by_cases hqj : q = j
              · rw [hqj, ← HX.out]; exact HD.out
              · exact hdp.out q (by omega)
            clear hdx
            go_wp2_with fail
            refine (refis_true x (by omega) HD.out W3).mono ?_
            rintro e w3 ⟨rfl, rfl⟩
            go_wp2_with fail
            go_round
            case rel =>
              (repeat apply Exists.intro)
              first
                | exact ⟨⟨j + 1, by omega, by go_num, HDN, rfl⟩, rfl⟩
                | exact ⟨⟨j + 1, by omega, by go_num, HDN, trivial⟩, rfl⟩
            case measure => simp [intOf]; omega
        · have hOd : Tr.Old W3 W3.drew := Tr.Old.drew W3
          have z0 := HZ0.out
          have z2 := HZ2.out
          clear f0
          go_wp2_with fail
          go_region_held3 (fun w' => Tr.Old W3 w') (first | with_reducible assumption | exact Tr.Old.step (by with_reducible assumption) (by with_reducible assumption))
            (first
              | (go_at_call 35; (with_reducible refine (refpow_quiet np M (by have := X2.out; omega) HM.out _).mono ?_); rintro e w1 ⟨rfl, rfl⟩)
              | (go_at_call 44; (with_reducible refine (HLI.out _ (by with_reducible assumption)).mono ?_); rintro e w4 ⟨r, rfl, hrz, hr, hb4⟩)
              | (go_at_call 43; (with_reducible refine (HCK.out _ r (by with_reducible assumption) hrz hr).mono ?_); rintro e w5 ⟨rfl, hb5⟩))
          all_goals
            go_wp2_with fail
            go_ret
            exact ⟨rfl, HBR.out.trans ((((Below.refl W3.heap.size W3).drew.trans hb4).trans (hb5.mono ((Below.refl W3.heap.size W3).drew.trans hb4).size)).mono HBR.out.size)⟩

/-- The reference's Verify answers as the arithmetic says. -/
theorem refverify_walk (pb m : ByteArray) (hm : m.size ≤ 300) (v : Value) (i : Int) (ls lp : List ByteArray) (w : World) (hv : IsSeal w v i ls lp) (hz : ∀ s ∈ ls, s.size ≤ 300) (hzp : ∀ s ∈ lp, s.size ≤ 300) :
    Calls Tryd.prog 19 #[.string pb, .string m, v] w (BoolOut (Sl.verify pb.data.toList m.data.toList i (Tr.bs ls) (Tr.bs lp)) w) := by
  by_cases h : ls.length = 18 ∧ lp.length ≤ 8 ∧ 0 ≤ i ∧ i < ((2 ^ lp.length : Nat) : Int)
  · exact refverify_ok pb m hm v i ls lp w hv hz hzp h.1 h.2.1 h.2.2.1 h.2.2.2
  · exact refverify_bad pb m v i ls lp w hv h
end Go.Proofs.YthhfcijgcpnfcaaDoor
