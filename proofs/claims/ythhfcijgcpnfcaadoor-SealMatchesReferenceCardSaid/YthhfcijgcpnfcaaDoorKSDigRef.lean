import Derived.Test.YthhfcijgcpnfcaaDoorKSRefA
import Derived.Test.YthhfcijgcpnfcaaDoorKSDigits
import Derived.Test.YthhfcijgcpnfcaaDoorKRIs
import Derived.Test.YthhfcijgcpnfcaaDoorKSKeys
/-
  The walks of the reference's Digit (its value) and Digits.
-/
namespace Go.Proofs.YthhfcijgcpnfcaaDoor
open Go.RowKit

theorem Sl.ret_int {a b : Int} (h : a = b) : Ending.returned (.int .i64 a) = .returned (.int .i64 b) := by rw [h]

set_option maxHeartbeats 1000000 in
set_option maxRecDepth 100000 in
theorem digit_hv (b : UInt8) (h : Dg.isHex b = true) (w : World) : Calls Tryd.prog 66 #[.int .u8 b.toNat] w fun e w' => ∃ d : Nat, e = .returned (.int .i64 d) ∧ d ≤ 15 ∧ Hid (d = Sl.hv b) ∧ w = w' := by
  have hle := Sl.hv_le b h
  have e : ∃ d : Nat, d = Sl.hv b ∧ ((b.toNat : Int) - 48 = (d : Int) ∧ (48 : Int) ≤ b.toNat ∧ (b.toNat : Int) ≤ 57 ∨ (b.toNat : Int) - 97 + 10 = (d : Int) ∧ (97 : Int) ≤ b.toNat ∧ (b.toNat : Int) ≤ 102) := by
    refine ⟨_, rfl, ?_⟩
    rcases Sl.hex_cases b h with h | h
    · left; rw [Sl.hv, if_pos (by omega)]; omega
    · right; rw [Sl.hv, if_neg (by omega)]; omega
  obtain ⟨d, hd, e⟩ := e
  rw [← hd] at hle
  have HD := Lib.hid hd
  clear h hd
  rcases e with ⟨g0, g1, g2⟩ | ⟨g0, g1, g2⟩
  · have G := Lib.hid g0
    clear g0
    go_enter Tryd.func66, Tryd.ntmps66
    go_wp2
    go_ret
    exact ⟨d, Sl.ret_int G.out, hle, HD, rfl⟩
  · have G := Lib.hid g0
    clear g0
    go_enter Tryd.func66, Tryd.ntmps66
    go_wp2
    go_ret
    exact ⟨d, Sl.ret_int G.out, hle, HD, rfl⟩

theorem one_int : (Tryd.prog.info? 3).map (fun i => (i.zero, i.size, i.bytes)) = some (some (.int .i64 0), 1, 8) := by kernel_rfl
def Sl.ints (m : Tr.T) (k : Nat) : List Value := Sl.upTo (fun j => Value.int .i64 (Sl.dg m j : Nat)) k
theorem Sl.ints_succ (m : Tr.T) (k : Nat) : Sl.ints m (k + 1) = Sl.ints m k ++ [.int .i64 (Sl.dg m k : Nat)] := Sl.upTo_succ _ _

/-- A slice of the 18 digits of a message. -/
def Sl.IsDigs (m : Tr.T) (B : Nat) (v : Value) (w : World) : Prop := w.ownsRow B 3 1 v 18 (Sl.ints m 18)

set_option maxHeartbeats 2000000 in
set_option maxRecDepth 100000 in
theorem refdigits_out (m : ByteArray) (hm : m.size ≤ 10000) (w : World) :
    Calls Tryd.prog 36 #[.string m] w fun e w' => ∃ v, e = .returned v ∧ Sl.IsDigs m.data.toList w.heap.size v w' ∧ Below w.heap.size w w' := by
  obtain ⟨i0, hii, hz0, hz1, hz2⟩ := info_parts one_int
  have HI := Lib.hid hii
  clear hii
  go_enter Tryd.func36, Tryd.ntmps36
  go_wp2_with fail
  refine (refsum_walk m (by omega) w).mono ?_
  rintro e w1 ⟨rfl, rfl⟩
  obtain ⟨r, hr⟩ : ∃ r, r = str (Dg.sum m.data.toList) := ⟨_, rfl⟩
  rw [← hr]
  replace hr : r.data.toList = Dg.sum m.data.toList := by rw [hr, Dg.str_toList]
  have hsz : r.size = 16 := by rw [Lib.size_eq, hr, Dg.sum_length]
  have HR : Hid (∀ k (hk : k < r.size), Dg.isHex r[k] = true ∧ Sl.hv r[k] = Sl.dg m.data.toList k ∧ Sl.rest (r.data.toList.take (k + 1)) = Sl.rest (r.data.toList.take k) + (15 - Sl.hv r[k])) := fun k hk => by
    have e : r[k] = (Dg.sum m.data.toList).getD k 0 := by
      rw [← hr, List.getD_eq_getElem?_getD, List.getElem?_eq_getElem (by rw [Dg.len_data]; exact hk), Dg.data_get r k hk]; rfl
    refine ⟨?_, ?_, ?_⟩
    · rw [← Dg.data_get r k hk]
      exact List.all_eq_true.1 (by rw [hr]; exact Sl.sum_hex _) _ (List.getElem_mem _)
    · rw [Sl.dg_low _ _ (by omega), e]
    · rw [Dg.take_succ r k hk, Sl.rest_snoc]
  have HE : Hid (Sl.rest (r.data.toList.take 16) = Sl.rest (Dg.sum m.data.toList)) := by
    show _ = _
    rw [List.take_of_length_le (by rw [Dg.len_data]; omega), hr]
  clear hr
  have hsz' : (r.size : Int) = 16 := by omega
  go_wp2_with fail
  go_loopw [4, 5, 6] (fun v c i wr => ∃ k cs : Nat, k ≤ 16 ∧ i = .int .i64 k ∧ c = .int .i64 cs ∧ cs ≤ 15 * k ∧ Hid (cs = Sl.rest (r.data.toList.take k)) ∧ wr.ownsRow w.heap.size 3 1 v k (Sl.ints m.data.toList k) ∧ Below w.heap.size w wr) (fun _ _ i _ => 16 - (intOf i).toNat)
  case atStart => exact ⟨0, 0, Nat.zero_le _, rfl, rfl, Nat.le_refl _, rfl, World.ownsRow_nil _ _ _ _, Below.refl _ _⟩
  case round =>
    obtain ⟨k, cs, hk, rfl, rfl, hcs, hce, ho, hb⟩ := hrel
    have HO := Lib.hid ho
    have HB := Lib.hid hb
    clear ho hb
    by_cases hlt : k < 16
    · have hks : k < r.size := by omega
      obtain ⟨g1, g2, g3⟩ := HR.out k hks
      have HG := Lib.hid g1
      have HD := Lib.hid g2
      have HS := Lib.hid g3
      clear g1 g2 g3
      go_wp2_with fail
      refine (digit_hv r[k] HG.out wr).mono ?_
      rintro e w3 ⟨d, rfl, hd15, hd, rfl⟩
      have hdd : Sl.dg m.data.toList k = d := by rw [← HD.out, hd.out]
      have HN : Hid (cs + (15 - d) = Sl.rest (r.data.toList.take (k + 1))) := by show _ = _; rw [HS.out, hce.out, hd.out]
      have hs0 : w.heap.size ≤ (wr.alloc (.cells #[.int .i64 d] 3)).heap.size := by rw [heap_alloc_size]; have := HB.out.size; omega
      have HDD := Lib.hid hdd
      clear hd hdd HD HS HG
      go_wp2_with (at_builtin; refine wpList_append_own _ rfl (.tmp 20) (.tmp 22) 58 rfl w.heap.size 3 i0 (.int .i64 0) 1 8 Tryd.underlying58 HI.out hz0 hz1 hz2 rfl (by decide) _ k (Sl.ints m.data.toList k) rfl (HO.out.alloc _) ⟨wr.heap.size, 0, none⟩ 1 1 [.int .i64 d] rfl rfl (cell_one_new _ _ _) (by intro u hu; simp only [List.mem_singleton] at hu; subst hu; rfl) (by unfold maxLen; omega) (by omega) hs0 ?_)
      intro v' w' ho' hg' _
      have HO' : Hid (w'.ownsRow w.heap.size 3 1 v' (k + 1) (Sl.ints m.data.toList (k + 1))) := by
        show w'.ownsRow _ _ _ _ _ _
        rw [Sl.ints_succ, HDD.out]; exact ho'
      have HB' := Lib.hid ((HB.out.alloc HB.out.size (.cells #[.int .i64 d] 3)).grown hg' hs0 (fun j hj => (HO.out.lt j hj).1))
      clear ho' hg' hs0
      go_wp2_with fail
      go_round
      case rel => exact ⟨k + 1, cs + (15 - d), by omega, by go_num, by rw [show ((cs + (15 - d) : Nat) : Int) = (cs : Int) + 15 - (d : Int) by omega], by omega, HN, HO'.out, HB'.out⟩
      case measure => simp [intOf]; omega
    · have hk16 : k = 16 := by omega
      subst hk16
      have hc16 : cs = Sl.rest (Dg.sum m.data.toList) := by rw [hce.out, HE.out]
      have hd16 : ((Sl.dg m.data.toList 16 : Nat) : Int) = (cs : Int) / 16 := by rw [Sl.dg_16, hc16]; omega
      have hd17 : ((Sl.dg m.data.toList 17 : Nat) : Int) = (cs : Int) % 16 := by rw [Sl.dg_17, hc16]; omega
      have HDD := Lib.hid (And.intro hd16 hd17)
      clear hc16 hd16 hd17
      have hs0 : w.heap.size ≤ (wr.alloc (.cells #[.int .i64 ((cs : Int) / 16), .int .i64 ((cs : Int) % 16)] 3)).heap.size := by rw [heap_alloc_size]; have := HB.out.size; omega
      go_wp2_with (at_builtin; refine wpList_append_own _ rfl (.tmp 28) (.tmp 33) 58 rfl w.heap.size 3 i0 (.int .i64 0) 1 8 Tryd.underlying58 HI.out hz0 hz1 hz2 rfl (by decide) _ 16 (Sl.ints m.data.toList 16) rfl (HO.out.alloc _) ⟨wr.heap.size, 0, none⟩ 2 2 [.int .i64 ((cs : Int) / 16), .int .i64 ((cs : Int) % 16)] rfl rfl (World.news_of_block (cs := #[.int .i64 ((cs : Int) / 16), .int .i64 ((cs : Int) % 16)]) (heap_alloc_new _ _)) (by intro u hu; simp only [List.mem_cons, List.not_mem_nil, or_false] at hu; rcases hu with rfl | rfl <;> rfl) (by unfold maxLen; omega) (by omega) hs0 ?_)
      intro v' w' ho' hg' _
      have HO' : Hid (w'.ownsRow w.heap.size 3 1 v' 18 (Sl.ints m.data.toList 18)) := by
        show w'.ownsRow _ _ _ _ _ _
        rw [Sl.ints_succ, Sl.ints_succ, List.append_assoc, HDD.out.1, HDD.out.2]; exact ho'
      have HB' := Lib.hid ((HB.out.alloc HB.out.size (.cells #[.int .i64 ((cs : Int) / 16), .int .i64 ((cs : Int) % 16)] 3)).grown hg' hs0 (fun j hj => (HO.out.lt j hj).1))
      clear ho' hg' hs0
      go_wp2_with fail
      go_ret
      exact ⟨v', rfl, HO'.out, HB'.out⟩
end Go.Proofs.YthhfcijgcpnfcaaDoor
