/-
  TreeBinds: for every list, number, text and path the call returns true and its arguments stay, where the three tables of the library hold what the program's text lays.
-/
import Derived.Test.YteeanbjaphjccaaDoorLFrameX
import Derived.Test.YteeanbjaphjccaaDoorTHead
import Derived.Test.YteeanbjaphjccaaDoorTFew
import Derived.Test.YteeanbjaphjccaaDoorRTexts
import Derived.Test.YteeanbjaphjccaaDoorRShown
namespace Go.Proofs.YteeanbjaphjccaaDoor
open Go.RowKit
theorem Tr.check_true {root d : Tr.T} {n i : Nat} {ps : List Tr.T} (h : Tr.check root n i d ps = true) : ps.length = Tr.plen n i ∧ Tr.up n i (Tr.leaf d) ps = root := by
  unfold Tr.check at h
  rw [Int.toNat_natCast, Int.toNat_natCast] at h
  simp only [Bool.and_eq_true, decide_eq_true_eq] at h
  exact ⟨h.1.2, h.2⟩
end Go.Proofs.YteeanbjaphjccaaDoor
namespace Go.Proofs.YteeanbjaphjccaaDoor.treeBinds
open Go.ChangeShapes Go.WideShapes Go.ChangeAt Go.RowKit
open Go.WideMaps Go.WideElems
open Go.ChangeMaps (open_string shut_string)

set_option maxHeartbeats 4000000 in
set_option maxRecDepth 100000 in
theorem w_few1 (a : Option Addr) (cap : Nat) (l : List ByteArray) (n : Nat) (s : ByteArray) (pv : Value) (p : List ByteArray) (w : World) (hv : IsTx w (.slice a l.length cap) l) (hpv : IsTx w pv p) (ht : HasTab w) (hf1 : Tr.few l = false) :
    Calls Tryd.prog 5 #[.slice a l.length cap, .int .u8 n, .string s, pv] w fun e w' => e = .returned (.bool true) ∧ Below w.heap.size w w' := by
  have HB := Lib.hid (Below.refl w.heap.size w)
  have HT := Lib.hid ht
  have HV := Lib.hid hv
  have HP := Lib.hid hpv
  have HF1 := Lib.hid hf1
  obtain ⟨pa, pc, rfl, _, _, _⟩ := hpv
  clear ht hf1
  go_enter Tryd.func5, Tryd.ntmps5
  go_wp2_with fail
  refine (head_walk w HT.out).mono ?_
  rintro e w1 ⟨rfl, hb⟩
  replace HB := Lib.hid (HB.out.trans (hb.mono HB.out.size))
  replace HT := Lib.hid (HT.out.below hb)
  replace HV := Lib.hid (HV.out.below hb)
  replace HP := Lib.hid (HP.out.below hb)
  clear hb
  go_wp2_with fail
  refine (lawfew_false _ l w1 HV.out HF1.out).mono ?_
  rintro e w2 ⟨rfl, rfl⟩
  go_wp2_with fail
  go_ret
  exact ⟨rfl, HB.out⟩

set_option maxHeartbeats 4000000 in
set_option maxRecDepth 100000 in
theorem w_few2 (a : Option Addr) (cap : Nat) (l : List ByteArray) (n : Nat) (s : ByteArray) (pv : Value) (p : List ByteArray) (w : World) (hv : IsTx w (.slice a l.length cap) l) (hpv : IsTx w pv p) (ht : HasTab w) (hf1 : Tr.few l = true) (hf2 : Tr.few p = false) :
    Calls Tryd.prog 5 #[.slice a l.length cap, .int .u8 n, .string s, pv] w fun e w' => e = .returned (.bool true) ∧ Below w.heap.size w w' := by
  have HB := Lib.hid (Below.refl w.heap.size w)
  have HT := Lib.hid ht
  have HV := Lib.hid hv
  have HP := Lib.hid hpv
  have HF1 := Lib.hid hf1
  have HF2 := Lib.hid hf2
  obtain ⟨pa, pc, rfl, _, _, _⟩ := hpv
  clear ht hf1 hf2
  go_enter Tryd.func5, Tryd.ntmps5
  go_wp2_with fail
  refine (head_walk w HT.out).mono ?_
  rintro e w1 ⟨rfl, hb⟩
  replace HB := Lib.hid (HB.out.trans (hb.mono HB.out.size))
  replace HT := Lib.hid (HT.out.below hb)
  replace HV := Lib.hid (HV.out.below hb)
  replace HP := Lib.hid (HP.out.below hb)
  clear hb
  go_wp2_with fail
  refine (lawfew_true _ l w1 HV.out HF1.out).mono ?_
  rintro e w2 ⟨rfl, rfl⟩
  go_wp2_with fail
  refine (lawfew_false _ p w1 HP.out HF2.out).mono ?_
  rintro e w2 ⟨rfl, rfl⟩
  go_wp2_with fail
  go_ret
  exact ⟨rfl, HB.out⟩

set_option maxHeartbeats 4000000 in
set_option maxRecDepth 100000 in
theorem w_long (a : Option Addr) (cap : Nat) (l : List ByteArray) (n : Nat) (s : ByteArray) (pv : Value) (p : List ByteArray) (w : World) (hv : IsTx w (.slice a l.length cap) l) (hpv : IsTx w pv p) (ht : HasTab w) (hf1 : Tr.few l = true) (hf2 : Tr.few p = true) (hlong : (100 : Int) < s.size) :
    Calls Tryd.prog 5 #[.slice a l.length cap, .int .u8 n, .string s, pv] w fun e w' => e = .returned (.bool true) ∧ Below w.heap.size w w' := by
  have HB := Lib.hid (Below.refl w.heap.size w)
  have HT := Lib.hid ht
  have HV := Lib.hid hv
  have HP := Lib.hid hpv
  have HF1 := Lib.hid hf1
  have HF2 := Lib.hid hf2
  obtain ⟨pa, pc, rfl, _, _, _⟩ := hpv
  clear ht hf1 hf2
  go_enter Tryd.func5, Tryd.ntmps5
  go_wp2_with fail
  refine (head_walk w HT.out).mono ?_
  rintro e w1 ⟨rfl, hb⟩
  replace HB := Lib.hid (HB.out.trans (hb.mono HB.out.size))
  replace HT := Lib.hid (HT.out.below hb)
  replace HV := Lib.hid (HV.out.below hb)
  replace HP := Lib.hid (HP.out.below hb)
  clear hb
  go_wp2_with fail
  refine (lawfew_true _ l w1 HV.out HF1.out).mono ?_
  rintro e w2 ⟨rfl, rfl⟩
  go_wp2_with fail
  refine (lawfew_true _ p w1 HP.out HF2.out).mono ?_
  rintro e w2 ⟨rfl, rfl⟩
  go_wp2_with fail
  go_ret
  exact ⟨rfl, HB.out⟩

set_option maxHeartbeats 4000000 in
set_option maxRecDepth 100000 in
theorem w_nil (a : Option Addr) (cap : Nat) (l : List ByteArray) (n : Nat) (s : ByteArray) (pv : Value) (p : List ByteArray) (w : World) (hv : IsTx w (.slice a l.length cap) l) (hpv : IsTx w pv p) (ht : HasTab w) (hf1 : Tr.few l = true) (hf2 : Tr.few p = true) (hlong : ¬ (100 : Int) < s.size) (h0 : l.length = 0) :
    Calls Tryd.prog 5 #[.slice a l.length cap, .int .u8 n, .string s, pv] w fun e w' => e = .returned (.bool true) ∧ Below w.heap.size w w' := by
  have HB := Lib.hid (Below.refl w.heap.size w)
  have HT := Lib.hid ht
  have HV := Lib.hid hv
  have HP := Lib.hid hpv
  have HF1 := Lib.hid hf1
  have HF2 := Lib.hid hf2
  have n0 : ((l.length : Int) == 0) = true := beq_iff_eq.2 (by omega)
  obtain ⟨pa, pc, rfl, _, _, _⟩ := hpv
  clear ht hf1 hf2 h0
  go_enter Tryd.func5, Tryd.ntmps5
  go_wp2_with fail
  refine (head_walk w HT.out).mono ?_
  rintro e w1 ⟨rfl, hb⟩
  replace HB := Lib.hid (HB.out.trans (hb.mono HB.out.size))
  replace HT := Lib.hid (HT.out.below hb)
  replace HV := Lib.hid (HV.out.below hb)
  replace HP := Lib.hid (HP.out.below hb)
  clear hb
  go_wp2_with fail
  refine (lawfew_true _ l w1 HV.out HF1.out).mono ?_
  rintro e w2 ⟨rfl, rfl⟩
  go_wp2_with fail
  refine (lawfew_true _ p w1 HP.out HF2.out).mono ?_
  rintro e w2 ⟨rfl, rfl⟩
  go_wp2_with fail
  go_ret
  exact ⟨rfl, HB.out⟩

set_option maxHeartbeats 4000000 in
set_option maxRecDepth 100000 in
theorem w_equal (b off cap : Nat) (l : List ByteArray) (n : Nat) (s : ByteArray) (pv : Value) (p : List ByteArray) (w : World) (hv : IsTx w (.slice (some ⟨b, off, none⟩) l.length cap) l) (hpv : IsTx w pv p) (ht : HasTab w) (hn : n ≤ 255) (i : Nat) (hi : i = n % l.length) (h0 : 0 < l.length) (hf1 : Tr.few l = true) (hf2 : Tr.few p = true) (hsz : s.size ≤ 100) (he : s = l.getD i ByteArray.empty) :
    Calls Tryd.prog 5 #[.slice (some ⟨b, off, none⟩) l.length cap, .int .u8 n, .string s, pv] w fun e w' => e = .returned (.bool true) ∧ Below w.heap.size w w' := by
  have HB := Lib.hid (Below.refl w.heap.size w)
  have HT := Lib.hid ht
  have HV := Lib.hid hv
  have HP := Lib.hid hpv
  have HF1 := Lib.hid hf1
  have HF2 := Lib.hid hf2
  have HLS := Lib.hid (Tr.few_small hf1)
  have HPS := Lib.hid (Tr.few_small hf2)
  have hl20 := (Tr.few_out hf1).1
  have hil : i < l.length := by rw [hi]; exact Nat.mod_lt n h0
  have hi' : (n : Int) % (l.length : Int) = (i : Int) := by rw [hi]; rfl
  have n0 : ((l.length : Int) == 0) = false := beq_eq_false_iff_ne.2 (by omega)
  have g1 : ¬ (100 : Int) < s.size := by omega
  obtain ⟨t, htt⟩ : ∃ t, t = l.getD i ByteArray.empty := ⟨_, rfl⟩
  have HTT := Lib.hid htt
  have hct : ∀ w', Below w.heap.size w w' → w'.cell? ⟨b, off + i, none⟩ = some (.string t) := fun w' h => by
    obtain ⟨a', cap', e, _, _, hc⟩ := hv
    cases e
    obtain ⟨b', off', e', hlt, hc⟩ := hc (by intro e; rw [e] at h0; simp at h0)
    cases e'
    rw [Below.cell h (p := ⟨b, off + i, none⟩) hlt, hc i hil, htt]
  have HCT := Lib.hid hct
  have p1 : (0 : Int) ≤ (i : Int) := by omega
  have p2 : (i : Int) < (l.length : Int) := by omega
  have hq : (s.toList == t.toList) = true := by rw [he, htt]; simp
  obtain ⟨pa, pc, rfl, _, _, _⟩ := hpv
  clear ht hf1 hf2 hi he htt hct hv
  go_enter Tryd.func5, Tryd.ntmps5
  go_wp2_with fail
  refine (head_walk w HT.out).mono ?_
  rintro e w1 ⟨rfl, hb⟩
  replace HB := Lib.hid (HB.out.trans (hb.mono HB.out.size))
  replace HT := Lib.hid (HT.out.below hb)
  replace HV := Lib.hid (HV.out.below hb)
  replace HP := Lib.hid (HP.out.below hb)
  have hcell := HCT.out w1 hb
  clear hb
  go_wp2_with fail
  refine (lawfew_true _ l w1 HV.out HF1.out).mono ?_
  rintro e w2 ⟨rfl, rfl⟩
  go_wp2_with fail
  refine (lawfew_true _ p w1 HP.out HF2.out).mono ?_
  rintro e w2 ⟨rfl, rfl⟩
  go_wp2_with fail
  go_ret
  exact ⟨rfl, HB.out⟩

set_option maxHeartbeats 4000000 in
set_option maxRecDepth 100000 in
theorem w_no (b off cap : Nat) (l : List ByteArray) (n : Nat) (s : ByteArray) (pv : Value) (p : List ByteArray) (w : World) (hv : IsTx w (.slice (some ⟨b, off, none⟩) l.length cap) l) (hpv : IsTx w pv p) (ht : HasTab w) (hn : n ≤ 255) (i : Nat) (hi : i = n % l.length) (h0 : 0 < l.length) (hf1 : Tr.few l = true) (hf2 : Tr.few p = true) (hsz : s.size ≤ 100) (he : s ≠ l.getD i ByteArray.empty) (hck : Tr.check (Tr.root (Tr.bs l)) l.length i s.data.toList (Tr.bs p) = false) :
    Calls Tryd.prog 5 #[.slice (some ⟨b, off, none⟩) l.length cap, .int .u8 n, .string s, pv] w fun e w' => e = .returned (.bool true) ∧ Below w.heap.size w w' := by
  have HB := Lib.hid (Below.refl w.heap.size w)
  have HT := Lib.hid ht
  have HV := Lib.hid hv
  have HP := Lib.hid hpv
  have HF1 := Lib.hid hf1
  have HF2 := Lib.hid hf2
  have HLS := Lib.hid (Tr.few_small hf1)
  have HPS := Lib.hid (Tr.few_small hf2)
  have hl20 := (Tr.few_out hf1).1
  have hil : i < l.length := by rw [hi]; exact Nat.mod_lt n h0
  have hi' : (n : Int) % (l.length : Int) = (i : Int) := by rw [hi]; rfl
  have n0 : ((l.length : Int) == 0) = false := beq_eq_false_iff_ne.2 (by omega)
  have g1 : ¬ (100 : Int) < s.size := by omega
  obtain ⟨t, htt⟩ : ∃ t, t = l.getD i ByteArray.empty := ⟨_, rfl⟩
  have HTT := Lib.hid htt
  have hct : ∀ w', Below w.heap.size w w' → w'.cell? ⟨b, off + i, none⟩ = some (.string t) := fun w' h => by
    obtain ⟨a', cap', e, _, _, hc⟩ := hv
    cases e
    obtain ⟨b', off', e', hlt, hc⟩ := hc (by intro e; rw [e] at h0; simp at h0)
    cases e'
    rw [Below.cell h (p := ⟨b, off + i, none⟩) hlt, hc i hil, htt]
  have HCT := Lib.hid hct
  have p1 : (0 : Int) ≤ (i : Int) := by omega
  have p2 : (i : Int) < (l.length : Int) := by omega
  have hq : (s.toList == t.toList) = false := by
    rw [str_eq]
    exact decide_eq_false (fun h => he (by rw [← htt]; exact Dg.str_ext _ _ h))
  have HCK := Lib.hid hck
  obtain ⟨pa, pc, rfl, _, _, _⟩ := hpv
  clear ht hf1 hf2 hi he htt hct hv hck
  go_enter Tryd.func5, Tryd.ntmps5
  go_wp2_with fail
  refine (head_walk w HT.out).mono ?_
  rintro e w1 ⟨rfl, hb⟩
  replace HB := Lib.hid (HB.out.trans (hb.mono HB.out.size))
  replace HT := Lib.hid (HT.out.below hb)
  replace HV := Lib.hid (HV.out.below hb)
  replace HP := Lib.hid (HP.out.below hb)
  have hcell := HCT.out w1 hb
  clear hb
  go_wp2_with fail
  refine (lawfew_true _ l w1 HV.out HF1.out).mono ?_
  rintro e w2 ⟨rfl, rfl⟩
  go_wp2_with fail
  refine (lawfew_true _ p w1 HP.out HF2.out).mono ?_
  rintro e w2 ⟨rfl, rfl⟩
  go_wp2_with fail
  refine (root_walk l _ _ (Tr.few_len HF1.out) HV.out HLS.out HT.out).mono ?_
  rintro e w3 ⟨r1, rfl, hr1, hz1r, hb⟩
  replace HB := Lib.hid (HB.out.trans (hb.mono HB.out.size))
  replace HT := Lib.hid (HT.out.below hb)
  replace HV := Lib.hid (HV.out.below hb)
  replace HP := Lib.hid (HP.out.below hb)
  clear hb
  go_wp2_with fail
  refine ((check_walk r1 s (by omega) l.length i _ p _ HT.out HP.out HPS.out).mono fun _ _ h => boolOut (c := false) h (by rw [hr1.out]; exact HCK.out)).mono ?_
  rintro e w4 ⟨rfl, hb⟩
  replace HB := Lib.hid (HB.out.trans (hb.mono HB.out.size))
  replace HT := Lib.hid (HT.out.below hb)
  replace HV := Lib.hid (HV.out.below hb)
  replace HP := Lib.hid (HP.out.below hb)
  clear hb hr1
  go_wp2_with fail
  go_ret
  exact ⟨rfl, HB.out⟩

set_option maxHeartbeats 4000000 in
set_option maxRecDepth 100000 in
theorem w_main (b off cap : Nat) (l : List ByteArray) (n : Nat) (s : ByteArray) (pv : Value) (p : List ByteArray) (w : World) (hv : IsTx w (.slice (some ⟨b, off, none⟩) l.length cap) l) (hpv : IsTx w pv p) (ht : HasTab w) (hn : n ≤ 255) (i : Nat) (hi : i = n % l.length) (h0 : 0 < l.length) (hf1 : Tr.few l = true) (hf2 : Tr.few p = true) (hsz : s.size ≤ 100) (he : s ≠ l.getD i ByteArray.empty) (hck : Tr.check (Tr.root (Tr.bs l)) l.length i s.data.toList (Tr.bs p) = true) :
    Calls Tryd.prog 5 #[.slice (some ⟨b, off, none⟩) l.length cap, .int .u8 n, .string s, pv] w fun e w' => e = .returned (.bool true) ∧ Below w.heap.size w w' := by
  have HB := Lib.hid (Below.refl w.heap.size w)
  have HT := Lib.hid ht
  have HV := Lib.hid hv
  have HP := Lib.hid hpv
  have HF1 := Lib.hid hf1
  have HF2 := Lib.hid hf2
  have HLS := Lib.hid (Tr.few_small hf1)
  have HPS := Lib.hid (Tr.few_small hf2)
  have hl20 := (Tr.few_out hf1).1
  have hil : i < l.length := by rw [hi]; exact Nat.mod_lt n h0
  have hi' : (n : Int) % (l.length : Int) = (i : Int) := by rw [hi]; rfl
  have n0 : ((l.length : Int) == 0) = false := beq_eq_false_iff_ne.2 (by omega)
  have g1 : ¬ (100 : Int) < s.size := by omega
  obtain ⟨t, htt⟩ : ∃ t, t = l.getD i ByteArray.empty := ⟨_, rfl⟩
  have HTT := Lib.hid htt
  have hct : ∀ w', Below w.heap.size w w' → w'.cell? ⟨b, off + i, none⟩ = some (.string t) := fun w' h => by
    obtain ⟨a', cap', e, _, _, hc⟩ := hv
    cases e
    obtain ⟨b', off', e', hlt, hc⟩ := hc (by intro e; rw [e] at h0; simp at h0)
    cases e'
    rw [Below.cell h (p := ⟨b, off + i, none⟩) hlt, hc i hil, htt]
  have HCT := Lib.hid hct
  have p1 : (0 : Int) ≤ (i : Int) := by omega
  have p2 : (i : Int) < (l.length : Int) := by omega
  have hq : (s.toList == t.toList) = false := by
    rw [str_eq]
    exact decide_eq_false (fun h => he (by rw [← htt]; exact Dg.str_ext _ _ h))
  have HCK := Lib.hid hck
  obtain ⟨hpl, hup⟩ := Tr.check_true hck
  rw [Tr.bs_len] at hpl
  have hsh : Tr.Shown (Tr.texts (Tr.bs l) ++ Tr.ptexts l.length i s.data.toList (Tr.bs p)) := by
    rcases Tr.path_bind l.length (Tr.bs l) i s.data.toList (Tr.bs p) (Tr.bs_len l) (by rw [Tr.bs_len]; exact hil) hup with h | h
    · exact absurd (Dg.str_ext _ _ (by rw [h, Dg.getD_eq l i hil]; simp)) he
    · exact h
  have HSH := Lib.hid hsh
  have HPL := Lib.hid hpl
  obtain ⟨i0, hii, hz0, hz1, hz2⟩ := info_parts one_str
  have HI := Lib.hid hii
  obtain ⟨pa, pc, rfl, _, _, _⟩ := hpv
  clear ht hf1 hf2 hi he htt hct hv hck hsh hup hii hpl
  go_enter Tryd.func5, Tryd.ntmps5
  go_wp2_with fail
  refine (head_walk w HT.out).mono ?_
  rintro e w1 ⟨rfl, hb⟩
  replace HB := Lib.hid (HB.out.trans (hb.mono HB.out.size))
  replace HT := Lib.hid (HT.out.below hb)
  replace HV := Lib.hid (HV.out.below hb)
  replace HP := Lib.hid (HP.out.below hb)
  have hcell := HCT.out w1 hb
  clear hb
  go_wp2_with fail
  refine (lawfew_true _ l w1 HV.out HF1.out).mono ?_
  rintro e w2 ⟨rfl, rfl⟩
  go_wp2_with fail
  refine (lawfew_true _ p w1 HP.out HF2.out).mono ?_
  rintro e w2 ⟨rfl, rfl⟩
  go_wp2_with fail
  refine (root_walk l _ _ (Tr.few_len HF1.out) HV.out HLS.out HT.out).mono ?_
  rintro e w3 ⟨r1, rfl, hr1, hz1r, hb⟩
  replace HB := Lib.hid (HB.out.trans (hb.mono HB.out.size))
  replace HT := Lib.hid (HT.out.below hb)
  replace HV := Lib.hid (HV.out.below hb)
  replace HP := Lib.hid (HP.out.below hb)
  clear hb
  go_wp2_with fail
  refine ((check_walk r1 s (by omega) l.length i _ p _ HT.out HP.out HPS.out).mono fun _ _ h => boolOut (c := true) h (by rw [hr1.out]; exact HCK.out)).mono ?_
  rintro e w4 ⟨rfl, hb⟩
  replace HB := Lib.hid (HB.out.trans (hb.mono HB.out.size))
  replace HT := Lib.hid (HT.out.below hb)
  replace HV := Lib.hid (HV.out.below hb)
  replace HP := Lib.hid (HP.out.below hb)
  clear hb hr1
  go_wp2_with fail
  refine (path_ok _ l i _ HV.out HLS.out (Tr.few_len HF1.out) hil HT.out).mono ?_
  rintro e w5 ⟨vo, lo, rfl, hto, hpo, _, hb⟩
  replace HB := Lib.hid (HB.out.trans (hb.mono HB.out.size))
  replace HT := Lib.hid (HT.out.below hb)
  replace HV := Lib.hid (HV.out.below hb)
  replace HP := Lib.hid (HP.out.below hb)
  have hlo : lo.length = p.length := by rw [Tr.len_of hpo, Tr.path_length _ _ _ rfl, Tr.bs_len, HPL.out]
  obtain ⟨ao, co, rfl, _, _, _⟩ := hto
  have b1 : ((lo.length : Int) != (p.length : Int)) = false := by rw [hlo]; simp
  clear hb hlo
  go_wp2_with fail
  have HB4 := Lib.hid HB.out.size
  refine (reftexts_ind 20 l _ _ hl20 (by omega) HV.out HLS.out).mono ?_
  rintro e w6 ⟨v5, l5, rfl, ho5, hp5, hz5, hb⟩
  replace HB := Lib.hid (HB.out.trans (hb.mono HB.out.size))
  replace HT := Lib.hid (HT.out.below hb)
  replace HP := Lib.hid (HP.out.below hb)
  have HO5 := Lib.hid ho5
  clear hb ho5
  go_wp2_with fail
  refine (refptexts_ind l.length l.length i s p _ _ (Nat.le_refl _) (by omega) hil (by omega) HPL.out HPS.out HP.out).mono ?_
  rintro e w7 ⟨v6, l6, rfl, ho6, hp6, hz6, hb⟩
  have HO56 := Lib.hid (own_at hb HO5.out)
  have HO6 := Lib.hid ho6
  have HB6 := Lib.hid (HB.out.trans (hb.mono HB.out.size))
  clear hb ho6
  have hc5 : l5.length ≤ 41 := by rw [Tr.len_of hp5]; have := Tr.texts_length 20 (Tr.bs l) (by rw [Tr.bs_len]; exact hl20); rw [Tr.bs_len] at this; omega
  have hc6 : l6.length ≤ 41 := by rw [Tr.len_of hp6, Tr.ptexts_length _ _ _ _ _ (Nat.le_refl _)]; have := Tr.plen_le 20 l.length i (by omega); omega
  have hs0 := HB6.out.size
  rename_i hK
  dsimp only
  refine hK _ _ ?_
  refine wpList_append_txg (by rfl) (.tmp 74) (.tmp 80) 22 rfl w.heap.size 9 i0 (.string ⟨#[]⟩) 16 Tryd.underlying22 HI.out hz0 hz1 hz2 rfl v5 l5.length (Tr.cells l5) rfl (own_mono HO56.out HB4.out) v6 l6 rfl (own_tx HO6.out) (by unfold maxLen; omega) (by omega) hs0 ?_
  intro v7 w8 ho7 hg7
  have HB7 := Lib.hid (HB6.out.grown hg7 hs0 (fun k hk => Nat.le_trans HB4.out (HO56.out.lt k hk).1))
  have HT7 := Lib.hid (own_tx (own_app ho7))
  have hbs : Tr.bs (l5 ++ l6) = Tr.texts (Tr.bs l) ++ Tr.ptexts l.length i s.data.toList (Tr.bs p) := (Tr.bs_app hp5 hp6).out
  have HSH7 : Hid (Tr.Shown (Tr.bs (l5 ++ l6))) := by show Tr.Shown _; rw [hbs]; exact HSH.out
  have HZ7 : Hid (∀ s ∈ l5 ++ l6, s.size ≤ 1000000) := fun s h => by have := Tr.small_app hz5 hz6 s h; omega
  clear ho7 hg7 hbs hz5 hz6 hp5 hp6 hK
  go_wp2_with fail
  refine (refshown_walk v7 (l5 ++ l6) w8 HT7.out HZ7.out (by rw [List.length_append]; omega) HSH7.out).mono ?_
  rintro e w9 ⟨rfl, hb⟩
  replace HB := Lib.hid (HB7.out.trans (hb.mono HB7.out.size))
  clear hb
  go_wp2_with fail
  go_ret
  exact ⟨rfl, HB.out⟩


theorem law_walk (v : Value) (l : List ByteArray) (n : Nat) (s : ByteArray) (pv : Value) (p : List ByteArray) (w : World) (hv : IsTx w v l) (_h1 : ∀ s ∈ l, s.size ≤ 9223372036854775807) (hn : n ≤ 255) (_hs : s.size ≤ 9223372036854775807) (hpv : IsTx w pv p) (_h2 : ∀ s ∈ p, s.size ≤ 9223372036854775807) (ht : HasTab w) :
    Calls Tryd.prog 5 #[v, .int .u8 n, .string s, pv] w fun e w' => e = .returned (.bool true) ∧ Below w.heap.size w w' := by
  have hv' := hv
  obtain ⟨a, cap, rfl, _, _, hc⟩ := hv
  cases hf1 : Tr.few l with
  | false => exact w_few1 a cap l n s pv p w hv' hpv ht hf1
  | true =>
    cases hf2 : Tr.few p with
    | false => exact w_few2 a cap l n s pv p w hv' hpv ht hf1 hf2
    | true =>
      by_cases hsz : (100 : Int) < s.size
      · exact w_long a cap l n s pv p w hv' hpv ht hf1 hf2 hsz
      · by_cases h0 : l.length = 0
        · exact w_nil a cap l n s pv p w hv' hpv ht hf1 hf2 hsz h0
        · obtain ⟨b, off, rfl, _, _⟩ := hc (by intro e; rw [e] at h0; simp at h0)
          by_cases he : s = l.getD (n % l.length) ByteArray.empty
          · exact w_equal b off cap l n s pv p w hv' hpv ht hn _ rfl (by omega) hf1 hf2 (by omega) he
          · cases hck : Tr.check (Tr.root (Tr.bs l)) l.length (n % l.length : Nat) s.data.toList (Tr.bs p) with
            | false => exact w_no b off cap l n s pv p w hv' hpv ht hn _ rfl (by omega) hf1 hf2 (by omega) he hck
            | true => exact w_main b off cap l n s pv p w hv' hpv ht hn _ rfl (by omega) hf1 hf2 (by omega) he hck

/-- What the walk gives, for all arguments and every world that holds the tables. -/
theorem contract (H : Type) (enc : TypeId × Value → H) (W : World) (base : Nat) (args : Array Value) (ds gs : List (DataW H)) (before : List MemPlace)
    (hval : ∀ (j : Nat) t v, Tryd.f5.params[j]? = some t → args[j]? = some v → Value.okWide Tryd.prog W .any base t v)
    (hW : DataW.Whole enc Tryd.prog Tryd.f5.params.toList Rows.treeBindsSpec.vars false W args.toList ds gs before) (hL : laidMetH Tryd.prog laidAll W) :
    Calls Tryd.prog 5 args W fun e W' => ∃ v, e = .returned v ∧ Rows.treeBindsSpec.post enc Tryd.prog Tryd.f5 false true false false W args v W' := by
  have hW' := hW
  obtain ⟨p, q, hA0, hV, rfl, hfz, hnd⟩ := hW
  have hA : DataW.TrodAll enc Tryd.prog W 0 (fun _ => true) true Tryd.f5.params.toList args.toList ds p := hA0
  rw [Tryd.params5] at hA hval
  obtain ⟨v0, vs0, d0, ds0, p0, q0, hargs, rfl, rfl, h0, r0⟩ := trodAll_cons hA
  obtain ⟨v1, vs1, d1, ds1, p1, q1, rfl, rfl, rfl, h1, r1⟩ := trodAll_cons r0
  obtain ⟨v2, vs2, d2, ds2, p2, q2, rfl, rfl, rfl, h2, r2⟩ := trodAll_cons r1
  obtain ⟨v3, vs3, d3, ds3, p3, q3, rfl, rfl, rfl, h3, r3⟩ := trodAll_cons r2
  obtain ⟨rfl, rfl, rfl⟩ := trodAll_nil r3
  obtain rfl : args = #[v0, v1, v2, v3] := by cases args; simp_all
  obtain ⟨rfl, rfl⟩ := trodVars_none hV
  obtain ⟨l0, t0, s0⟩ := open_tx (hval 0 22 v0 rfl rfl) h0
  obtain ⟨z1, rfl, _, _, g1⟩ := open_int Tryd.underlying5 (hval 1 5 v1 rfl rfl) h1
  obtain ⟨n1, rfl⟩ := Int.eq_ofNat_of_zero_le (bounds_u8 g1).1
  obtain ⟨a2, rfl, _, _, g2⟩ := open_string Tryd.underlying9 (hval 2 9 v2 rfl rfl) h2
  obtain ⟨l3, t3, s3⟩ := open_tx (hval 3 22 v3 rfl rfl) h3
  refine (law_walk v0 l0 n1 a2 v3 l3 W t0 s0 (Int.ofNat_le.1 (bounds_u8 g1).2) (le_of_max g2) t3 s3 (hasTab hL)).mono fun e W' ⟨he, hg⟩ => ?_
  subst he
  exact ⟨_, rfl, post_law rfl rfl rfl rfl rfl (by rw [Tryd.params5]; decide) hW' hg⟩

theorem laid_met (os : Os) : laidMet Tryd.prog Rows.treeBindsRow.laid ((laidWorld os).forCall (fun _ _ => 0) ⟨#[], #[.slice none 0 0, .int .u8 0, .string ⟨#[]⟩, .slice none 0 0], []⟩).memory :=
  laidMet_of_run' 8 (by kernel_rfl) (by kernel_rfl)
theorem reads (os : Os) {H : Type} (enc : TypeId × Value → H) : ∃ places, DataW.whole enc Tryd.prog ((laidWorld os).forCall (fun _ _ => 0) ⟨#[], #[.slice none 0 0, .int .u8 0, .string ⟨#[]⟩, .slice none 0 0], []⟩).memory Tryd.f5.params.toList Rows.treeBindsSpec.vars false #[Value.slice none 0 0, Value.int .u8 0, Value.string ⟨#[]⟩, Value.slice none 0 0].toList 8 = some ([.nil, .lit (.int .u8 0), .lit (.string []), .nil], [], places) :=
  ⟨[], by kernel_rfl⟩

set_option maxRecDepth 100000 in
theorem lifted (os : Os) (started : os.Started) (H : Type) (enc : TypeId × Value → H) (F : Stop.Interp) :
    ReturnsInHanded {} Tryd.checked os 5 .any ((OpenSpec.ofChange Rows.treeBindsSpec).preRow enc Tryd.prog Tryd.f5 Rows.treeBindsRow.domain false Rows.treeBindsRow.laid) (((OpenSpec.ofChange Rows.treeBindsSpec).at F).post enc Tryd.prog Tryd.f5 false true false false) := by
  obtain ⟨places, hx⟩ := reads os enc
  refine returnsInHanded_of_row (C := Tryd.checked) (s := OpenSpec.ofChange Rows.treeBindsSpec) own started (by kernel_rfl) Tryd.func5
    (witness_row_at (enc := enc) (C := Tryd.checked) false (laidWorld os) #[.slice none 0 0, .int .u8 0, .string ⟨#[]⟩, .slice none 0 0] rfl (by kernel_rfl) (by kernel_rfl) (by kernel_rfl)
      (OpenSpec.preRow_of_cond 8 hx (by kernel_rfl) (fun k hk => by cases hk) (by kernel_rfl) (laid_met os))) ?_
  intro W base args ds gs before hval hW _ _ _ hL _ _
  exact contract H enc W base args ds gs before hval hW hL

theorem said : Rows.TreeBindsSaid :=
  OpenClaim.holds_of_cond 5 Tryd.f5 rfl rfl rfl rfl rfl rfl rfl ⟨rfl, rfl, rfl, rfl, rfl⟩ rfl rfl rfl rfl rfl (by kernel_rfl) Tryd.func5 (by kernel_rfl)
    (of_decide_eq_true (by kernel_rfl)) (by unfold Func.isWrapper; first | (rw [if_pos (by decide +kernel)]; kernel_rfl) | (rw [if_neg (by decide +kernel)]; exact ⟨rfl, rfl⟩))
    (fun os started H enc _ F => by rw [OpenClaim.pre_eq_preRow]; exact lifted os started H enc F)

/-- No parameter wants a stand-in; the program's own looks are off: what the card asks. -/
theorem plain (f : FuncId) (fn : Func) (hf : Tryd.pinned.checked.prog.funcNamed "pandect/pandectlaw02.TreeBinds" = some f) (hfn : Tryd.pinned.checked.prog.funcs[f]? = some fn) :
    false = Tryd.pinned.checked.prog.looks [] ∧ ∀ (j : Nat) t, fn.params[j]? = some t → Tryd.pinned.checked.prog.wantsStandIn t = false := by
  obtain rfl : f = 5 := Option.some.inj ((show Tryd.prog.funcNamed "pandect/pandectlaw02.TreeBinds" = some 5 by kernel_rfl).symm.trans hf) |>.symm
  obtain rfl : fn = Tryd.f5 := (Option.some.inj (Tryd.func5.symm.trans hfn)).symm
  refine ⟨by kernel_rfl, fun j t ht => ?_⟩
  rw [Tryd.params5] at ht
  have hm := Array.mem_of_getElem? ht
  simp only [List.mem_toArray, List.mem_cons, List.not_mem_nil, or_false] at hm
  rcases hm with rfl | rfl | rfl | rfl
  · exact wants_texts
  · exact wants_u8
  · exact wants_string
  · exact wants_texts

theorem card : Rows.TreeBindsCardSaid :=
  Claim7.holds_tied_plain_at .later [] _ _ _ _ said (fun _ h => by cases h) (by kernel_rfl) (fun _ h => by cases h) treeBinds_row_tie rfl ⟨rfl, rfl⟩ (by kernel_rfl) rfl plain (by kernel_rfl)
end Go.Proofs.YteeanbjaphjccaaDoor.treeBinds
