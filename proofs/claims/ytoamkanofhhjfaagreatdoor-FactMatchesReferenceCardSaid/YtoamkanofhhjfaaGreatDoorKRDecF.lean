import Derived.Test.YtoamkanofhhjfaaGreatDoorKGFits
import Derived.Test.YtoamkanofhhjfaaGreatDoorKFTab
import Derived.WalkKit
import Derived.WalkSpells
import Derived.WalkLawsBesides
import Derived.Lib.Hide
/-
  The walk of the reference's Least.
-/
namespace Go.Proofs.YtoamkanofhhjfaaGreatDoor
open Go.RowKit

/-- A call that answers a case. -/
def Fc.GivesN (c : List Int) (w : World) (e : Ending) (w' : World) : Prop := ∃ v, e = .returned v ∧ Fc.IsN w' v c ∧ Below w.heap.size w w'

set_option maxHeartbeats 4000000 in
set_option maxRecDepth 100000 in
theorem refleast_no (v : Value) (l : List Fc.Fact) (w : World) (hv : Fc.IsF w v l) (hno : ¬ Fc.Valid l) :
    Calls Tryz.prog 25 #[.agg #[v]] w (Fc.GivesN [] w) := by
  obtain ⟨a, c, rfl, _, _⟩ := hv.form
  obtain ⟨n, hn⟩ : ∃ n, n = l.length := ⟨_, rfl⟩
  rw [← hn] at hv ⊢
  have HB0 := Lib.hid (Boxed.start w (.slice a n c))
  have HV := Lib.hid (refvalid_is _ l _ (hv.below HB0.out.below) false (by simp [hno]))
  clear hv hn
  go_enter Tryz.func25, Tryz.ntmps25
  go_wp2_with fail
  refine HV.out.mono ?_
  rintro e w1 ⟨rfl, hb1⟩
  have HX := Lib.hid (HB0.out.next hb1)
  clear hb1 HB0 HV
  go_wp2_with fail
  go_ret
  exact ⟨_, rfl, Fc.IsN.nil _, HX.out.below⟩

set_option maxHeartbeats 4000000 in
set_option maxRecDepth 100000 in
theorem refleast_walk (v : Value) (l : List Fc.Fact) (w : World) (hv : Fc.IsF w v l) (hvl : Fc.Valid l) :
    Calls Tryz.prog 25 #[.agg #[v]] w (Fc.GivesN (Fc.least l) w) := by
  have HV : Hid (∀ w', Below w.heap.size w w' → Fc.IsF w' v l) := fun w' hb => hv.below hb
  have HSZ := Lib.hid hv.sized
  obtain ⟨a, c, g, o, rfl, hc1, hc2, hga, hcl⟩ := hv.any
  obtain ⟨n, hn⟩ : ∃ n, n = l.length := ⟨_, rfl⟩
  have hga2 : 0 < n → a = some ⟨g, o, none⟩ ∧ g < w.heap.size := fun h => hga (by rintro rfl; rw [hn] at h; simp at h)
  rw [← hn] at HV ⊢
  have HC := Lib.hid hcl
  have HN := Lib.hid hn
  have HG := Lib.hid hga2
  have hnb : n ≤ 60 := by rw [hn]; exact hvl.2.2
  have HB0 := Lib.hid (Boxed.start w (.slice a n c))
  have HVL := Lib.hid hvl
  clear hv hcl hn hga hga2 hc1 hc2
  go_enter Tryz.func25, Tryz.ntmps25
  go_wp2_with fail
  refine (refvalid_is _ l _ (HV.out _ HB0.out.below) true (by simp [hvl])).mono ?_
  rintro e w1 ⟨rfl, hb1⟩
  have hx := HB0.out.next hb1
  have q1 := hx.cell
  have HX := Lib.hid hx
  clear hb1 HB0 hx hvl HV
  go_wp2_with fail
  go_loopw [3, 4] (fun t i wr => ∃ k : Nat, k ≤ n ∧ i = .int .i64 k ∧ Hid (OwnE wr (w.heap.size + 1) 3 t k (Fc.cellsN (Fc.least (l.take k)))) ∧ Hid (Boxed w (.slice a n c) wr)) (fun _ i _ => n - (intOf i).toNat)
  case atStart => exact ⟨0, Nat.zero_le _, rfl, .inl (World.ownsRow_nil _ _ _ _), HX.out⟩
  case round =>
    obtain ⟨k, hk, rfl, ho, hbw⟩ := hrel
    clear HX q1
    have b1 := hbw.out.cell
    by_cases hlt : k < n
    · have hki : (k : Int) < (n : Int) := by omega
      have hk0 : (0 : Int) ≤ (k : Int) := by omega
      obtain ⟨⟨nm, kd, lo, hi⟩, hf⟩ : ∃ f, l[k]? = some f := ⟨_, List.getElem?_eq_getElem (by rw [← HN.out]; exact hlt)⟩
      obtain ⟨rfl, hg⟩ := HG.out (by omega)
      obtain ⟨_, _, p2, _⟩ := HC.out k _ hf
      dsimp only at p2
      have p2 := (hbw.out.below.cell (p := ⟨g, o + k * 4 + 2, none⟩) hg).trans p2
      have hsz := HSZ.out _ (List.mem_of_getElem? hf)
      have HLO := Lib.hid hsz.2.2.1
      have HST : Hid (Fc.cellsN (Fc.least (l.take (k + 1))) = Fc.cellsN (Fc.least (l.take k)) ++ [.int .i64 lo]) := by
        show _ = _
        unfold Fc.least Fc.cellsN
        rw [List.take_add_one, hf]
        simp
      have HO : Hid (∀ ob, OwnE (wr.alloc ob) (w.heap.size + 1) 3 _ k (Fc.cellsN (Fc.least (l.take k)))) := fun ob => ho.out.alloc ob
      have HBS : Hid (∀ ob, w.heap.size + 1 ≤ (wr.alloc ob).heap.size) := fun ob => (hbw.out.next ((Below.refl _ _).alloc (Nat.le_refl _) ob)).lt
      have HBX : Hid (∀ ob, Boxed w (.slice (some ⟨g, o, none⟩) n c) (wr.alloc ob)) := fun ob => hbw.out.next ((Below.refl _ _).alloc (Nat.le_refl _) ob)
      have hkm : k < 1000000 := by omega
      clear hf hsz ho hbw
      go_wp2_with (first | (at_builtin; refine wpList_append_num _ rfl (.tmp 15) (.tmp 22) rfl (w.heap.size + 1) _ _ _ rfl (HO.out _) lo wr.heap.size (0, 0) _ rfl (heap_alloc_new wr _) HLO.out hkm (HBS.out _) ?_; intro g2 c2 w2 ho hr))
      rw [← HST.out] at ho
      have hbx := Fc.boxed_low (HBX.out _) (hr.below (HBS.out _)) (by omega)
      go_roundw
      case rel => exact ⟨k + 1, by omega, by go_num, ho, hbx⟩
      case measure => simp [intOf]; omega
    · have hki : ¬ (k : Int) < (n : Int) := by omega
      obtain rfl : k = n := by omega
      have hN : Fc.IsN wr _ (Fc.least l) := Fc.OwnE.isN (l := Fc.least l) (base := w.heap.size + 1) (by
        have := ho.out
        rw [List.take_of_length_le (by rw [← HN.out]; exact Nat.le_refl _)] at this
        rw [Fc.least_len, ← HN.out]
        exact this) (fun y hy => by
          obtain ⟨f, hf, rfl⟩ := List.mem_map.1 hy
          exact (HSZ.out f hf).2.2.1)
      have HR := Lib.hid (And.intro hN hbw.out.below)
      clear ho hbw hN
      go_wp2_with fail
      go_ret
      exact ⟨_, rfl, HR.out.1, HR.out.2⟩
end Go.Proofs.YtoamkanofhhjfaaGreatDoor
/-
  The walks of the reference's digits and Decimal: the decimal numeral of a number from 0 to 1000000.
-/
namespace Go.Proofs.YtoamkanofhhjfaaGreatDoor
open Go.RowKit
open Go.Lib (decDigits)
open Lx (str)
namespace Dg
theorem dec_small {u : Nat} (h : u < 10) : decDigits u = [UInt8.ofNat (48 + u)] := by rw [decDigits, dif_pos h]
theorem dec_big {u : Nat} (h : ¬ u < 10) : decDigits u = decDigits (u / 10) ++ [UInt8.ofNat (48 + u % 10)] := by rw [decDigits, dif_neg h]
theorem ret_str {a b : ByteArray} (h : a = b) : Ending.returned (.string a) = .returned (.string b) := by rw [h]
theorem str_data (s : ByteArray) : str s.data.toList = s := Lx.str_tx s
/-- What is left to write: v's digits stand before acc, nothing where v is 0. -/
def left (v : Nat) (acc : List UInt8) : List UInt8 := if v = 0 then acc else decDigits v ++ acc
theorem left_start (n : Nat) : left (n / 10) [UInt8.ofNat (48 + n % 10)] = decDigits n := by
  unfold left
  by_cases h : n < 10
  · rw [if_pos (by omega), dec_small h, Nat.mod_eq_of_lt h]
  · rw [if_neg (by omega), dec_big h]
theorem left_step (v : Nat) (acc : List UInt8) (h : 0 < v)  : left (v / 10) (UInt8.ofNat (48 + v % 10) :: acc) = left v acc := by
  unfold left
  rw [if_neg (show ¬ v = 0 by omega)]
  by_cases h1 : v < 10
  · rw [if_pos (by omega), dec_small h1, Nat.mod_eq_of_lt h1]; rfl
  · rw [if_neg (by omega), dec_big h1]; simp
theorem ten_text (d : Nat) (h : d < 10) : ((⟨#[48, 49, 50, 51, 52, 53, 54, 55, 56, 57]⟩ : ByteArray).extract d (d + 1)).data.toList = [UInt8.ofNat (48 + d)] := by
  have : ∀ d : Fin 10, ((⟨#[48, 49, 50, 51, 52, 53, 54, 55, 56, 57]⟩ : ByteArray).extract d.1 (d.1 + 1)).data.toList = [UInt8.ofNat (48 + d.1)] := by decide +kernel
  exact this ⟨d, h⟩
theorem ten_size (d : Nat) (h : d < 10) : ((⟨#[48, 49, 50, 51, 52, 53, 54, 55, 56, 57]⟩ : ByteArray).extract d (d + 1)).size = 1 := by
  rw [Lib.size_eq, ten_text d h]; rfl
theorem left_init (n : Nat) : Hid (left (n / 10) ((⟨#[48, 49, 50, 51, 52, 53, 54, 55, 56, 57]⟩ : ByteArray).extract (n % 10) (n % 10 + 1)).data.toList = decDigits n) := by
  show _ = _
  rw [ten_text _ (by omega), left_start]
theorem left_next (v n : Nat) (r : ByteArray) (h : 0 < v) (hr : left v r.data.toList = decDigits n) :
    Hid (left (v / 10) ((⟨#[48, 49, 50, 51, 52, 53, 54, 55, 56, 57]⟩ : ByteArray).extract (v % 10) (v % 10 + 1) ++ r).data.toList = decDigits n) := by
  show _ = _
  rw [ByteArray.data_append, Array.toList_append, ten_text _ (by omega), List.singleton_append, left_step v _ h, hr]
theorem left_end (v n : Nat) (r : ByteArray) (h : v = 0) (hr : left v r.data.toList = decDigits n) : r = str (decDigits n) := by
  unfold left at hr
  rw [if_pos h] at hr
  rw [← hr, str_data]
end Dg

set_option maxHeartbeats 1000000 in
set_option maxRecDepth 100000 in
theorem digits_walk (n : Nat) (hn : n ≤ 1000000) (w : World) :
    Calls Tryz.prog 73 #[.int .u64 n] w fun e w' => e = .returned (.string (str (decDigits n))) ∧ w = w' := by
  go_enter Tryz.func73, Tryz.ntmps73
  go_wp2_with fail
  go_loop [0, 3] (fun x t => ∃ (v : Nat) (r : ByteArray), v ≤ 1000000 ∧ x = .int .u64 v ∧ t = .string r ∧ r.size + v ≤ n + 1 ∧ Hid (Dg.left v r.data.toList = decDigits n)) (fun x _ => (intOf x).toNat)
  case atStart =>
    exact ⟨n / 10, _, by omega, rfl, rfl, by have := Dg.ten_size (n % 10) (by omega); omega, Dg.left_init n⟩
  case round =>
    obtain ⟨v, r, hv, rfl, rfl, hsz, hr⟩ := hrel
    by_cases h0 : 0 < v
    · have h1 : (0 : Int) < v := by omega
      go_wp2_with fail
      go_round
      case rel => exact ⟨v / 10, _, by omega, rfl, rfl, by rw [ByteArray.size_append]; have := Dg.ten_size (v % 10) (by omega); omega, Dg.left_next v n r h0 hr.out⟩
      case measure => simp [intOf]; omega
    · have h1 : ¬ (0 : Int) < v := by omega
      have hv0 : Hid (v = 0) := by show _ = _; omega
      go_wp2_with fail
      go_ret
      exact ⟨Dg.ret_str (Dg.left_end v n r hv0.out hr.out), rfl⟩

set_option maxHeartbeats 1000000 in
set_option maxRecDepth 100000 in
theorem decimal_walk (n : Nat) (hn : n ≤ 1000000) (w : World) :
    Calls Tryz.prog 49 #[.int .i64 n] w fun e w' => e = .returned (.string (str (decDigits n))) ∧ w = w' := by
  have h0 : ¬ ((n : Int) < 0) := by omega
  go_enter Tryz.func49, Tryz.ntmps49
  go_wp2_with fail
  have e : IntKind.u64.wrap (n : Int) = (n : Int) := by rw [IntKind.wrap_u64]; exact Int.emod_eq_of_lt (Int.natCast_nonneg n) (by omega)
  try rw [e]
  refine (digits_walk n hn w).mono ?_
  rintro e w' ⟨rfl, rfl⟩
  go_wp2_with fail
  go_ret
  exact ⟨rfl, rfl⟩
/-- .. in the words of the lexer. -/
theorem decimal_is (x : Int) (h0 : 0 ≤ x) (h1 : x ≤ 1000000) (w : World) :
    Calls Tryz.prog 49 #[.int .i64 x] w fun e w' => e = .returned (.string (str (Lx.dec x.toNat))) ∧ w = w' := by
  obtain ⟨n, rfl⟩ := Int.eq_ofNat_of_zero_le h0
  have := decimal_walk n (by omega) w
  rw [dec_digits (by omega)] at this
  exact this
end Go.Proofs.YtoamkanofhhjfaaGreatDoor
