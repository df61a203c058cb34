import Derived.Test.YthhfcijgcpnfcaaDoorKRIs
import Derived.Test.YthhfcijgcpnfcaaDoorKDFew
import Derived.WalkKit
import Derived.WalkSpells
import Derived.WalkLawsBesides
import Derived.Lib.Hide
import Derived.WalkSmall
import Derived.Lib.AppendStr
import Derived.Deep.DeepCutAuto
import Derived.ProofKit
/-
  The walks of the reference's digits and Decimal: the decimal numeral of a number from 0 to 1000000.
-/
namespace Go.Proofs.YthhfcijgcpnfcaaDoor
open Go.RowKit
open Go.Lib (decDigits)
namespace Dg
/-- What is left to write: v's digits stand before acc, nothing where v is 0. -/
def left (v : Nat) (acc : List UInt8) : List UInt8 := if v = 0 then acc else decDigits v ++ acc
theorem left_start (n : Nat) : left (n / 10) [UInt8.ofNat (48 + n % 10)] = decDigits n := by
  unfold left
  by_cases h : n < 10
  · rw [if_pos (by omega), dec_small h, Nat.mod_eq_of_lt h]
  · rw [if_neg (by omega), dec_big h]
theorem left_step (v : Nat) (acc : List UInt8) (h : 0 < v)  : left (v / 10) (UInt8.ofNat (48 + v % 10) :: acc) = left v acc := by
  unfold left
  rw [if_neg (show ¬ v = 0 by omega)]
  by_cases h1 : v < 10
  · rw [if_pos (by omega), dec_small h1, Nat.mod_eq_of_lt h1]; rfl
  · rw [if_neg (by omega), dec_big h1]; simp
theorem ten_text (d : Nat) (h : d < 10) : ((⟨#[48, 49, 50, 51, 52, 53, 54, 55, 56, 57]⟩ : ByteArray).extract d (d + 1)).data.toList = [UInt8.ofNat (48 + d)] := by
  have : ∀ d : Fin 10, ((⟨#[48, 49, 50, 51, 52, 53, 54, 55, 56, 57]⟩ : ByteArray).extract d.1 (d.1 + 1)).data.toList = [UInt8.ofNat (48 + d.1)] := by decide +kernel
  exact this ⟨d, h⟩
theorem ten_size (d : Nat) (h : d < 10) : ((⟨#[48, 49, 50, 51, 52, 53, 54, 55, 56, 57]⟩ : ByteArray).extract d (d + 1)).size = 1 := by
  rw [Lib.size_eq, ten_text d h]; rfl
theorem left_init (n : Nat) : Hid (left (n / 10) ((⟨#[48, 49, 50, 51, 52, 53, 54, 55, 56, 57]⟩ : ByteArray).extract (n % 10) (n % 10 + 1)).data.toList = decDigits n) := by
  show _ = _
  rw [ten_text _ (by omega), left_start]
theorem left_next (v n : Nat) (r : ByteArray) (h : 0 < v) (hr : left v r.data.toList = decDigits n) :
    Hid (left (v / 10) ((⟨#[48, 49, 50, 51, 52, 53, 54, 55, 56, 57]⟩ : ByteArray).extract (v % 10) (v % 10 + 1) ++ r).data.toList = decDigits n) := by
  show _ = _
  rw [ByteArray.data_append, Array.toList_append, ten_text _ (by omega), List.singleton_append, left_step v _ h, hr]
theorem left_end (v n : Nat) (r : ByteArray) (h : v = 0) (hr : left v r.data.toList = decDigits n) : r = str (decDigits n) := by
  unfold left at hr
  rw [if_pos h] at hr
  rw [← hr, str_data]
end Dg

set_option maxHeartbeats 1000000 in
set_option maxRecDepth 100000 in
theorem digits_walk (n : Nat) (hn : n ≤ 1000000) (w : World) :
    Calls Tryd.prog 75 #[.int .u64 n] w fun e w' => e = .returned (.string (str (decDigits n))) ∧ w = w' := by
  go_enter Tryd.func75, Tryd.ntmps75
  go_wp2_with fail
  go_loop [0, 3] (fun x t => ∃ (v : Nat) (r : ByteArray), v ≤ 1000000 ∧ x = .int .u64 v ∧ t = .string r ∧ r.size + v ≤ n + 1 ∧ Hid (Dg.left v r.data.toList = decDigits n)) (fun x _ => (intOf x).toNat)
  case atStart =>
    exact ⟨n / 10, _, by omega, rfl, rfl, by have := Dg.ten_size (n % 10) (by omega); omega, Dg.left_init n⟩
  case round =>
    obtain ⟨v, r, hv, rfl, rfl, hsz, hr⟩ := hrel
    by_cases h0 : 0 < v
    · have h1 : (0 : Int) < v := by omega
      go_wp2_with fail
      go_round
      case rel => exact ⟨v / 10, _, by omega, rfl, rfl, by rw [ByteArray.size_append]; have := Dg.ten_size (v % 10) (by omega); omega, Dg.left_next v n r h0 hr.out⟩
      case measure => simp [intOf]; omega
    · have h1 : ¬ (0 : Int) < v := by omega
      have hv0 : Hid (v = 0) := by show _ = _; omega
      go_wp2_with fail
      go_ret
      exact ⟨Dg.ret_str (Dg.left_end v n r hv0.out hr.out), rfl⟩

set_option maxHeartbeats 1000000 in
set_option maxRecDepth 100000 in
theorem decimal_walk (n : Nat) (hn : n ≤ 1000000) (w : World) :
    Calls Tryd.prog 47 #[.int .i64 n] w fun e w' => e = .returned (.string (str (decDigits n))) ∧ w = w' := by
  have h0 : ¬ ((n : Int) < 0) := by omega
  go_enter Tryd.func47, Tryd.ntmps47
  go_wp2_with fail
  have e := Dg.wrap_small n (by unfold Dg.M; omega)
  try rw [e]
  refine (digits_walk n hn w).mono ?_
  rintro e w' ⟨rfl, rfl⟩
  go_wp2_with fail
  go_ret
  exact ⟨rfl, rfl⟩
end Go.Proofs.YthhfcijgcpnfcaaDoor
/-
  The walk of the reference's Joined: the joined text of a short list.
-/
namespace Go.Proofs.YthhfcijgcpnfcaaDoor
open Go.RowKit

theorem Dg.join_small (l : List ByteArray) (h : Dg.few l 300 = true) : (∀ s ∈ l, s.size ≤ 300) ∧ l.length ≤ 30 := by
  unfold Dg.few at h
  rw [Bool.and_eq_true, List.all_eq_true, decide_eq_true_eq] at h
  exact ⟨fun s hs => by simpa using h.1 s hs, h.2⟩

/-- The text of an owned row of bytes. -/
theorem conv_own (w : World) (B : Nat) (v : Value) (l : List UInt8) (h : w.ownsRow B 5 1 v l.length (Lib.byteCells l)) :
    (convert 83 9 v).run Tryd.prog w = .ok (.string (str l)) w := by
  have hb := h
  obtain ⟨_, h2⟩ := h
  rcases h2 with ⟨rfl, h0⟩ | ⟨g, cap, cur, rfl, _, _, _, _, _, _⟩
  · have : l = [] := List.length_eq_zero_iff.1 h0
    subst this
    exact run_convert_bytes_nil w _ _ Tryd.underlying83 Tryd.underlying5 0 0 _ Tryd.underlying9
  · have hc := hb.cells (g := g) rfl
    rw [run_convert_bytes_arg w _ _ Tryd.underlying83 Tryd.underlying5 g 0 l.length cap (l.map fun b => (b.toNat : Int)) (by simp) (by
      intro i hi
      have := hc i (.int .u8 (l[i].toNat : Int)) (by simp [Lib.byteCells, List.getElem?_eq_getElem hi])
      rw [Go.WideShapes.add_plain] at this
      rw [this]
      simp [List.getD_eq_getElem?_getD, List.getElem?_eq_getElem hi]) _ Tryd.underlying9]
    congr 2
    apply Dg.str_ext
    rw [strOfNums_data, List.map_map]
    have e : ((fun n : Int => UInt8.ofNat n.toNat) ∘ fun b : UInt8 => (b.toNat : Int)) = id := by funext b; simp
    rw [e, List.map_id]
set_option maxHeartbeats 1000000 in
set_option maxRecDepth 100000 in
theorem refjoined_walk (b off cap : Nat) (ss : List ByteArray) (hfew : Dg.few ss 300 = true) (w : World)
    (hc : ∀ j, j < ss.length → w.cell? ⟨b, off + j, none⟩ = some (.string (ss.getD j ByteArray.empty))) (hbw : b < w.heap.size) :
    Calls Tryd.prog 46 #[.slice (some ⟨b, off, none⟩) ss.length cap] w fun e w' => e = .returned (.string (str (Dg.join (ss.map (·.data.toList))))) ∧ Below w.heap.size w w' := by
  obtain ⟨i0, hi, hz0, hz1, hz2⟩ := info_parts one_u8
  have h30 := (Dg.join_small ss hfew).2
  have h200 := Lib.hid (Dg.join_small ss hfew).1
  have hjl := Dg.few_join3 ss hfew
  rw [← Dg.jn_all] at hjl ⊢
  have HF := Lib.hid hfew
  clear hfew
  have HI := Lib.hid hi
  clear hi
  go_enter Tryd.func46, Tryd.ntmps46
  go_wp2_with fail
  go_loop [3, 4] (fun x i => ∃ k N : Nat, k ≤ ss.length ∧ N ≤ 321 * k ∧ i = .int .i64 k ∧ x = .int .i64 N) (fun _ i => ss.length - (intOf i).toNat)
  case atStart => exact ⟨0, 0, Nat.zero_le _, Nat.zero_le _, rfl, rfl⟩
  case round =>
    obtain ⟨k, N, hk, hN, rfl, rfl⟩ := hrel
    by_cases hlt : k < ss.length
    · obtain ⟨t, htk⟩ : ∃ t, t = ss.getD k ByteArray.empty := ⟨_, rfl⟩
      have hcell : w.cell? ⟨b, off + k, none⟩ = some (.string t) := by rw [hc k hlt, htk]
      have hts : t.size ≤ 300 := by rw [htk, Dg.getD_eq ss k hlt]; exact h200.out _ (List.getElem_mem _)
      clear htk hc
      go_wp2_with fail
      go_round
      case rel => exact ⟨k + 1, N + (t.size + 21), by omega, by omega, by go_num, by go_num⟩
      case measure => simp [intOf]; omega
    · have hke : Hid (k = ss.length) := by show _ = _; omega
      go_upto_region 7 with (at_make; refine wpList_make_own _ rfl _ _ 83 rfl w.heap.size 5 i0 (.int .u8 0) 1 Tryd.underlying83 HI.out hz0 hz1 .i64 .i64 _ N rfl rfl rfl (by rw [hz2]; omega) (by unfold maxLen; omega) (Nat.le_refl _) ?_; intro w1 hown1 hgrow1)
      have HO := Lib.hid hown1
      have hb1 : Below w.heap.size w w1 := (Below.refl _ _).grown hgrow1 (Nat.le_refl _) (fun _ h => by cases h)
      clear hown1 hgrow1 hke
      go_wp2_with fail
      go_loopw [5, 6] (fun v i wr => ∃ k : Nat, k ≤ ss.length ∧ i = .int .i64 k ∧ wr.ownsRow w.heap.size 5 1 v (Dg.jn ss k).length (Lib.byteCells (Dg.jn ss k)) ∧ Below w.heap.size w wr) (fun _ i _ => ss.length - (intOf i).toNat)
      case atStart => exact ⟨0, Nat.zero_le _, rfl, by rw [Dg.jn_zero]; exact HO.out, hb1⟩
      case round =>
        obtain ⟨k, hk, rfl, hown, hbel⟩ := hrel
        have HW := Lib.hid hown
        clear hown
        have hgw : w.heap.size ≤ wr.heap.size := hbel.size
        by_cases hlt : k < ss.length
        · obtain ⟨t, htk⟩ : ∃ t, t = ss.getD k ByteArray.empty := ⟨_, rfl⟩
          have hcell : wr.cell? ⟨b, off + k, none⟩ = some (.string t) := by
            rw [hbel.cell (p := ⟨b, off + k, none⟩) hbw, hc k hlt, htk]
          have hts : t.size ≤ 300 := by rw [htk, Dg.getD_eq ss k hlt]; exact h200.out _ (List.getElem_mem _)
          have hjs := Dg.jn_succ ss k hlt t htk
          have hjk : (Dg.jn ss (k + 1)).length ≤ 10000 := Nat.le_trans (Dg.jn_le ss (k + 1) ss.length hlt) hjl
          have HJ := Lib.hid hjs
          rw [hjs] at hjk
          simp only [List.length_append, List.length_singleton, Dg.len_data] at hjk
          clear hjs htk hc
          go_upto_region 11 with (first
            | (go_at_call 47; refine (decimal_walk t.size (by omega) _).mono ?_; rintro e w2 ⟨rfl, rfl⟩)
            | (at_builtin; refine Lib.wpList_append_own_string _ rfl (.tmp 29) (.tmp 35) 83 9 rfl w.heap.size 5 i0 Tryd.underlying83 Tryd.underlying9 HI.out hz0 hz1 hz2 _ _ _ rfl HW.out (str (Lib.decDigits t.size)) rfl ?c1 ?c2 ?c3 ?_))
          case c1 => unfold maxLen; rw [Dg.str_size]; omega
          case c2 => rw [Dg.str_size]; omega
          case c3 => exact hgw
          intro v1 w2 hown1 hg1 _
          have HO1 := Lib.hid hown1
          have hb2 : Below w.heap.size w w2 := hbel.grown hg1 hgw (fun j hj => (HW.out.lt j hj).1)
          have hg2 : w.heap.size ≤ w2.heap.size := hb2.size
          have hcell2 : w2.cell? ⟨b, off + k, none⟩ = some (.string t) := by
            rw [hb2.cell (p := ⟨b, off + k, none⟩) hbw, ← hbel.cell (p := ⟨b, off + k, none⟩) hbw, hcell]
          clear hown1 hg1 hcell
          go_upto_region 12 with (at_builtin; refine wpList_append_own _ rfl (.tmp 37) (.tmp 38) 83 rfl w.heap.size 5 i0 (.int .u8 0) 1 1 Tryd.underlying83 HI.out hz0 hz1 hz2 rfl (by decide) v1 _ _ rfl (HO1.out.alloc _) ⟨w2.heap.size, 0, none⟩ 1 1 [.int .u8 58] rfl rfl ?d1 ?d2 ?d3 ?d4 ?d5 ?_)
          case d1 =>
            exact cell_one_new _ _ _
          case d2 => intro u hu; simp only [List.mem_singleton] at hu; subst hu; rfl
          case d3 => unfold maxLen; omega
          case d4 => omega
          case d5 => simp; omega
          intro v2 w3 hown2 hg2' _
          have HO2 := Lib.hid hown2
          have hb2a : Below w.heap.size w (w2.alloc (.cells #[.int .u8 58] 5)) := hb2.alloc hg2 _
          have hb3 : Below w.heap.size w w3 := hb2a.grown hg2' hb2a.size (fun j hj => (HO1.out.lt j hj).1)
          have hg3 : w.heap.size ≤ w3.heap.size := hb3.size
          have hcell3 : w3.cell? ⟨b, off + k, none⟩ = some (.string t) := by
            rw [hb3.cell (p := ⟨b, off + k, none⟩) hbw, ← hb2.cell (p := ⟨b, off + k, none⟩) hbw, hcell2]
          clear hown2 hg2' hcell2 hb2a
          go_upto_region 9 with (at_builtin; refine Lib.wpList_append_own_string _ rfl (.tmp 40) (.tmp 44) 83 9 rfl w.heap.size 5 i0 Tryd.underlying83 Tryd.underlying9 HI.out hz0 hz1 hz2 _ _ _ rfl HO2.out t rfl ?e1 ?e2 ?e3 ?_)
          case e1 => unfold maxLen; omega
          case e2 => omega
          case e3 => exact hg3
          intro v3 w4 hown3 hg3' _
          have HO3 := Lib.hid hown3
          have hb4 : Below w.heap.size w w4 := hb3.grown hg3' hg3 (fun j hj => (HO2.out.lt j hj).1)
          clear hown3 hg3' hcell3
          go_wp2_with fail
          go_roundw
          case rel =>
            refine ⟨k + 1, by omega, by go_num, ?_, hb4⟩
            have h := HO3.out
            rw [HJ.out]
            have e1 : (Dg.jn ss k ++ (Lib.decDigits t.size ++ ([58] ++ t.data.toList))).length = (Dg.jn ss k).length + (Lib.decDigits t.size).length + 1 + t.size := by
              simp only [List.length_append, List.length_singleton, Dg.len_data]; omega
            have e2 : Lib.byteCells (Dg.jn ss k ++ (Lib.decDigits t.size ++ ([58] ++ t.data.toList))) = Lib.byteCells (Dg.jn ss k) ++ Lib.strCells (str (Lib.decDigits t.size)) ++ [.int .u8 58] ++ Lib.strCells t := by
              rw [Lib.byteCells_append, Lib.byteCells_append, Lib.byteCells_append, Lib.strCells_eq t, Lib.strCells_eq, Dg.str_toList]
              simp [Lib.byteCells]
            rw [e1, e2]
            simpa using h
          case measure => simp [intOf]; omega
        · have hke : Hid (k = ss.length) := by show _ = _; omega
          have hcv := conv_own wr w.heap.size u5 (Dg.jn ss k) HW.out
          clear hc
          go_wp2_with fail
          go_ret
          exact ⟨Dg.ret_str (by rw [hke.out]), hbel⟩
end Go.Proofs.YthhfcijgcpnfcaaDoor
