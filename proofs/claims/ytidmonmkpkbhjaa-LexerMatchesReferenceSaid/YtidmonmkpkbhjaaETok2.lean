/-
  The walks of the program's value, number and HasPrefix.
-/
import Derived.Test.YtidmonmkpkbhjaaETok
namespace Go.Proofs.Ytidmonmkpkbhjaa
open Go.RowKit

namespace Lx
theorem all_mem {p : UInt8 → Bool} {l : T} (h : l.all p = true) (k : Nat) (hk : k < l.length) : p l[k] = true :=
  List.all_eq_true.1 h _ (List.getElem_mem _)
theorem tx_get (s : ByteArray) (k : Nat) (h : k < s.size) : (tx s)[k]'(by rw [tx_len]; exact h) = s[k] := by rw [Array.getElem_toList]; rfl
theorem take_succ (s : ByteArray) (k : Nat) (h : k < s.size) : (tx s).take (k + 1) = (tx s).take k ++ [s[k]] := by
  rw [List.take_succ_eq_append_getElem (by rw [tx_len]; exact h), tx_get s k h]
theorem value_step {u : ByteArray} (hd : (tx u).all isDigit = true) (hl : u.size ≤ 7) (k : Nat) (hk : k < u.size) :
    48 ≤ u[k].toNat ∧ u[k].toNat ≤ 57 ∧ value ((tx u).take (k + 1)) = 10 * value ((tx u).take k) + (u[k].toNat - 48) ∧ value ((tx u).take k) < 10000000 := by
  have h1 := (digit_iff u[k]).1 (by rw [← tx_get u k hk]; exact all_mem hd k _)
  refine ⟨h1.1, h1.2, by rw [take_succ u k hk, value_snoc], ?_⟩
  rcases value_le ((tx u).take k) with h | h
  · refine Nat.lt_of_lt_of_le h ?_
    rw [List.length_take, tx_len]
    exact Nat.pow_le_pow_right (by decide) (show min k u.size ≤ 7 by omega)
  · exfalso
    have : ((tx u).take k).all isDigit = true := by
      rw [List.all_eq_true] at hd ⊢
      exact fun x hx => hd x (List.mem_of_mem_take hx)
    rw [this] at h; cases h
end Lx

set_option maxHeartbeats 1000000 in
set_option maxRecDepth 100000 in
theorem value_walk (u : ByteArray) (hd : (Lx.tx u).all Lx.isDigit = true) (hl : u.size ≤ 7) (w : World) :
    Calls Try.prog 39 #[.string u] w fun e w' => e = .returned (.int .i64 ((Lx.value (Lx.tx u) : Nat) : Int)) ∧ w = w' := by
  have HK := Lib.hid (fun k hk => Lx.value_step hd hl k hk)
  clear hd
  obtain ⟨z, hz⟩ : ∃ z, z = Lx.value (Lx.tx u) := ⟨_, rfl⟩
  rw [← hz]
  have HZ := Lib.hid hz
  clear hz
  go_enter Try.func39, Try.ntmps39
  go_wp2_with fail
  go_loop [3, 7] (fun v i => ∃ k n : Nat, k ≤ u.size ∧ i = .int .i64 k ∧ v = .int .i64 (n : Nat) ∧ Hid (n = Lx.value ((Lx.tx u).take k))) (fun _ i => u.size - (intOf i).toNat)
  case atStart => exact ⟨0, 0, Nat.zero_le _, rfl, rfl, rfl⟩
  case round =>
    obtain ⟨k, n, hk, rfl, rfl, hn⟩ := hrel
    by_cases hlt : k < u.size
    · obtain ⟨h1, h2, h3, h4⟩ := HK.out k hlt
      rw [← hn.out] at h3 h4
      obtain ⟨d, hd⟩ : ∃ d, d = u[k].toNat := ⟨_, rfl⟩
      rw [← hd] at h1 h2 h3
      have HN : Hid (10 * n + (d - 48) = Lx.value ((Lx.tx u).take (k + 1))) := h3.symm
      clear h3 hn
      go_wp2_with fail
      go_round
      case rel => exact ⟨k + 1, 10 * n + (d - 48), by omega, by go_num, by congr 1; omega, HN⟩
      case measure => simp [intOf]; omega
    · have hke : k = u.size := by omega
      subst hke
      have hzn : z = n := by rw [HZ.out, hn.out, List.take_of_length_le (by rw [Lx.tx_len]; exact Nat.le_refl _)]
      clear hn
      subst hzn
      go_wp2_with fail
      go_ret
      exact ⟨rfl, rfl⟩

theorem Lx.prefix_eq (u : ByteArray) (h : 1 ≤ u.size) : ((u.extract 0 1).toList == [61]) = Lx.headEq (Lx.tx u) := by
  have := Lib.hasPrefix_raw u ⟨#[61]⟩
  rw [decide_eq_true (show (⟨#[61]⟩ : ByteArray).size ≤ u.size from h), Bool.true_and] at this
  rw [Lib.toList_data ⟨#[61]⟩] at this
  refine Eq.trans this ?_
  show List.isPrefixOf [61] (Lx.tx u) = Lx.headEq (Lx.tx u)
  generalize Lx.tx u = l
  cases l with
  | nil => rfl
  | cons c r =>
    show List.isPrefixOf [61] (c :: r) = (c == 61)
    rw [List.isPrefixOf, List.isPrefixOf, Bool.and_true, Bool.beq_comm]

set_option maxHeartbeats 1000000 in
set_option maxRecDepth 100000 in
theorem liteprefix_walk (u : ByteArray) (w : World) :
    Calls Try.prog 40 #[.string u, .string ⟨#[61]⟩] w fun e w' => e = .returned (.bool (Lx.headEq (Lx.tx u))) ∧ w = w' := by
  by_cases hz : 1 ≤ u.size
  · have HP := Lib.hid (Lx.prefix_eq u hz)
    have hzi : (1 : Int) ≤ (u.size : Int) := by omega
    go_enter Try.func40, Try.ntmps40
    go_wp2_with fail
    go_ret
    exact ⟨Lx.ret_bool HP.out, rfl⟩
  · have hzi : ¬ (1 : Int) ≤ (u.size : Int) := by omega
    go_enter Try.func40, Try.ntmps40
    go_wp2_with fail
    go_ret
    refine ⟨Lx.ret_bool ?_, rfl⟩
    have : Lx.tx u = [] := List.length_eq_zero_iff.1 (by rw [Lx.tx_len]; omega)
    rw [this]; rfl
set_option maxHeartbeats 1000000 in
set_option maxRecDepth 100000 in
theorem prefix_walk (u : ByteArray) (l : Lx.T) (hl : Lx.tx u = l) (w : World) :
    Calls Try.prog 36 #[.string u, .string ⟨#[61]⟩] w fun e w' => e = .returned (.bool (Lx.headEq l)) ∧ w = w' := by
  subst hl
  go_enter Try.func36, Try.ntmps36
  go_wp2_with fail
  refine (liteprefix_walk u w).mono ?_
  rintro e w' ⟨rfl, rfl⟩
  go_wp2_with fail
  go_ret
  exact ⟨rfl, rfl⟩

set_option maxHeartbeats 2000000 in
set_option maxRecDepth 100000 in
theorem number_walk (B : Nat) (s : ByteArray) (hs : s.size < 9223372036854775807) (i : Nat) (hi2 : i ≤ s.size) (w : World) (h : Lx.Src B s w) :
    Calls Try.prog 35 #[.pointer (some ⟨B, 0, none⟩), .int .i64 i] w (Lx.TokOut (Lx.numR s i) w) := by
  have hB := h.lt
  have HS := Lib.hid h
  have hrl := Lx.run_le Lx.isDigit s i hi2
  have hu : (((Lx.tx s).drop i).take (Lx.run Lx.isDigit s i)).all Lx.isDigit = true ∧ (((Lx.tx s).drop i).take (Lx.run Lx.isDigit s i)).length = Lx.run Lx.isDigit s i := by
    rw [Lx.take_run]
    exact ⟨Lx.all_take _ _, rfl⟩
  have ha : Below w.heap.size w (w.alloc tok0) := (Below.refl _ _).alloc (Nat.le_refl _) _
  have HK0 := Lib.hid (heap_alloc_new w tok0)
  clear h
  obtain ⟨R, hR⟩ : ∃ R, R = Lx.numR s i := ⟨_, rfl⟩
  rw [← hR]
  unfold Lx.numR at hR
  obtain ⟨q, hq⟩ : ∃ q, q = Lx.run Lx.isDigit s i := ⟨_, rfl⟩
  rw [← hq] at hrl hR hu
  obtain ⟨l, hl⟩ : ∃ l, l = ((Lx.tx s).drop i).take q := ⟨_, rfl⟩
  rw [← hl] at hR hu
  have HL := Lib.hid hl
  have HR := Lib.hid hR
  have HQ := Lib.hid hq
  have HU := Lib.hid hu
  clear hq hR hl hu
  go_enter Try.func35, Try.ntmps35
  go_wp2_with fail
  refine (runend_walk Lx.mask_digit B s hs i hi2 _ (HS.out.below ha hB)).mono ?_
  rintro e w2 ⟨rfl, hb2⟩
  rw [← HQ.out]
  have hk := (hb2.block w.heap.size (by simp)).trans HK0.out
  have hb3 := ha.trans (hb2.mono ha.size)
  have HK := Lib.hid hk
  have HB3 := Lib.hid hb3
  clear hk hb2 hb3 ha
  by_cases hlt : q ≤ 7
  · have hzs := HB3.out.size
    go_wp2_with fail
    refine (has_walk Lx.mask_tail B s (by omega) (i + q) (by omega) w2 (HS.out.below HB3.out hB)).mono ?_
    rintro e w4 ⟨rfl, hb4⟩
    have HB5 := Lib.hid (HB3.out.trans (hb4.mono HB3.out.size))
    have hk := (hb4.block w.heap.size (Array.getElem?_eq_some_iff.1 HK.out).1).trans HK.out
    have HK2 := Lib.hid hk
    have c1 := (HS.out.below HB5.out hB).text
    have g0 := Joins.cell_of_block hk 0
    have g1 := Joins.cell_of_block hk 1
    have g2 := Joins.cell_of_block hk 2
    have g3 := Joins.cell_of_block hk 3
    have f0 := Joins.unfrozen_of_block hk 0
    have f1 := Joins.unfrozen_of_block hk 1
    have f2 := Joins.unfrozen_of_block hk 2
    have f3 := Joins.unfrozen_of_block hk 3
    clear hk hb4
    cases ht : Lx.hd (fun c => Lx.isLetter c || c == 95) ((Lx.tx s).drop (i + q)) with
    | true =>
      have HT := Lib.hid ht
      clear ht
      go_wp2_with fail
      refine bodyPost_ret (tok_results rfl _ _ w.heap.size _ _ _ _ (.int .i64 4) _ _ rfl rfl (tok_set HK2.out _ _ _ _)) rfl ?_
      exact ⟨by rw [HR.out, if_neg (by rw [HT.out]; simp)]; rfl, tok_below HB5.out (Nat.le_refl _) _ _ _ _⟩
    | false =>
      have HT := Lib.hid ht
      clear ht
      have e1 : s.extract i (i + q) = Lx.str l := by rw [Lx.extract_str, show i + q - i = q by omega, HL.out]
      have HE := Lib.hid e1
      have hsz : (Lx.str l).size ≤ 7 := by rw [Lx.str_size, HU.out.2]; omega
      have had : (Lx.tx (Lx.str l)).all Lx.isDigit = true := by rw [Lx.tx_str]; exact HU.out.1
      have HAD := Lib.hid had
      clear e1 had
      go_wp2_with fail
      rw [HE.out]
      refine (value_walk (Lx.str l) HAD.out hsz w4).mono ?_
      rintro e w5 ⟨rfl, rfl⟩
      rw [Lx.tx_str]
      go_wp2_with fail
      refine bodyPost_ret (tok_results rfl _ _ w.heap.size _ _ _ _ (.int .i64 0) _ _ rfl rfl (tok_set HK2.out _ _ _ _)) rfl ?_
      exact ⟨by rw [HR.out, if_pos ⟨hlt, HT.out⟩]; rfl, tok_below HB5.out (Nat.le_refl _) _ _ _ _⟩
  · have hk := HK.out
    have g0 := Joins.cell_of_block hk 0
    have g1 := Joins.cell_of_block hk 1
    have g2 := Joins.cell_of_block hk 2
    have g3 := Joins.cell_of_block hk 3
    have f0 := Joins.unfrozen_of_block hk 0
    have f1 := Joins.unfrozen_of_block hk 1
    have f2 := Joins.unfrozen_of_block hk 2
    have f3 := Joins.unfrozen_of_block hk 3
    clear hk
    go_wp2_with fail
    refine bodyPost_ret (tok_results rfl _ _ w.heap.size _ _ _ _ (.int .i64 4) _ _ rfl rfl (tok_set HK.out _ _ _ _)) rfl ?_
    exact ⟨by rw [HR.out, if_neg (fun h => hlt h.1)]; rfl, tok_below HB3.out (Nat.le_refl _) _ _ _ _⟩
end Go.Proofs.Ytidmonmkpkbhjaa
