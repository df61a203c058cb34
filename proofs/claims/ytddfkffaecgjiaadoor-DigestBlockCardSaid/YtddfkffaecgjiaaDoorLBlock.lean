/-
  DigestBlock: for every text, place and two pieces the call returns true and its arguments stay, where the three tables of the library hold what the program's text lays.
-/
import Derived.Test.YtddfkffaecgjiaaDoorLFrame
import Derived.Deep.RegionHeld3
import Derived.Deep.DeepCutAuto
import Derived.Test.YtddfkffaecgjiaaDoorDBlock
namespace Go.Proofs.YtddfkffaecgjiaaDoor.Dg
open Go.RowKit
theorem rest_drop (s : ByteArray) (place n : Nat) : Hid ((s.extract (min (8 * (place : Int) + (n : Int)) (s.size : Int)).toNat s.size).data.toList = s.data.toList.drop (8 * place + n)) := by
  show _ = _
  rw [Lib.extract_to_end]
  rcases Nat.le_total (8 * place + n) s.size with h | h
  · congr 1; omega
  · rw [List.drop_of_length_le (by rw [len_data]; omega), List.drop_of_length_le (by rw [len_data]; omega)]
theorem rest_size (s : ByteArray) (k : Nat) (h : (s.size : Int) ≤ 2000) : (s.extract k s.size).size ≤ 2000 := by
  rw [Lib.size_eq, Lib.extract_to_end, List.length_drop, len_data]; omega
theorem head_size (s : ByteArray) (k : Nat) (h : (s.size : Int) ≤ 2000) : (s.extract 0 k).size ≤ 2000 := by
  rw [Lib.size_eq, cut_data, List.length_take, len_data]; omega
theorem cat_data (a b : ByteArray) : (a ++ b).data.toList = a.data.toList ++ b.data.toList := by
  rw [ByteArray.data_append, Array.toList_append]
theorem law_block (s a b r : ByteArray) (place n : Nat) (hp : 8 * place ≤ s.size) (hs : s.size ≤ 2000) (hna : n ≤ a.size) (hnb : n ≤ b.size) (h8 : n ≤ 8) (hr : r.size ≤ 2000) :
    sum (s.extract 0 (8 * place) ++ a.extract 0 n ++ r).data.toList = sum (s.extract 0 (8 * place) ++ b.extract 0 n ++ r).data.toList ↔ (a.extract 0 n).data.toList = (b.extract 0 n).data.toList := by
  have hpre : (s.extract 0 (8 * place)).data.toList.length = 8 * place := by rw [cut_data, List.length_take, len_data]; omega
  have hla : (a.extract 0 n).data.toList.length = n := by rw [cut_data, List.length_take, len_data]; omega
  have hlb : (b.extract 0 n).data.toList.length = n := by rw [cut_data, List.length_take, len_data]; omega
  have hlr := len_data r
  rw [cat_data, cat_data, cat_data, cat_data]
  exact block_iff _ _ _ _ place hpre (by omega) (by omega) (by rw [List.length_append, List.length_append]; unfold M; omega)
end Go.Proofs.YtddfkffaecgjiaaDoor.Dg
namespace Go.Proofs.YtddfkffaecgjiaaDoor.digestBlock
open Go.ChangeShapes Go.WideShapes Go.ChangeAt Go.RowKit
open Go.WideMaps Go.WideElems
open Go.ChangeMaps (open_string shut_string)

set_option maxHeartbeats 1000000 in
set_option maxRecDepth 100000 in
theorem law_walk (s : ByteArray) (place : Nat) (a b : ByteArray) (w : World) (hs : s.size ≤ 9223372036854775807) (hp : place ≤ 255) (ha : a.size ≤ 9223372036854775807) (hb : b.size ≤ 9223372036854775807) (ht : HasTab w) :
    Calls Tryd.prog 7 #[.string s, .int .u8 place, .string a, .string b] w fun e w' => e = .returned (.bool true) ∧ Below w.heap.size w w' := by
  have HT := Lib.hid ht
  clear ht
  by_cases hl : (2000 : Int) < s.size
  · go_enter Tryd.func7, Tryd.ntmps7
    go_upto_region 2 with (go_at_call 10; refine (head_walk w HT.out).mono ?_; rintro e w1 ⟨rfl, hb1⟩)
    go_cut [10] (fun x wx => ∃ n : Nat, x = .int .i64 n ∧ Hid (n = min (min a.size b.size) 8) ∧ Below w.heap.size w wx)
    case first =>
      go_wp2_with fail
      all_goals
        go_meet
        exact ⟨(min (min a.size b.size) 8), Dg.val_int (by omega), rfl, hb1⟩
    case rest =>
      obtain ⟨n, rfl, HN, hbel⟩ := hcut
      have hna : n ≤ a.size := by have := HN.out; omega
      have hnb : n ≤ b.size := by have := HN.out; omega
      go_wp2_with fail
      go_ret
      exact ⟨rfl, hbel⟩
  · by_cases hat : (s.size : Int) < 8 * (place : Int)
    · go_enter Tryd.func7, Tryd.ntmps7
      go_upto_region 2 with (go_at_call 10; refine (head_walk w HT.out).mono ?_; rintro e w1 ⟨rfl, hb1⟩)
      go_cut [10] (fun x wx => ∃ n : Nat, x = .int .i64 n ∧ Hid (n = min (min a.size b.size) 8) ∧ Below w.heap.size w wx)
      case first =>
        go_wp2_with fail
        all_goals
          go_meet
          exact ⟨(min (min a.size b.size) 8), Dg.val_int (by omega), rfl, hb1⟩
      case rest =>
        obtain ⟨n, rfl, HN, hbel⟩ := hcut
        have hna : n ≤ a.size := by have := HN.out; omega
        have hnb : n ≤ b.size := by have := HN.out; omega
        go_wp2_with fail
        go_ret
        exact ⟨rfl, hbel⟩
    · go_enter Tryd.func7, Tryd.ntmps7
      go_upto_region 2 with (go_at_call 10; refine (head_walk w HT.out).mono ?_; rintro e w1 ⟨rfl, hb1⟩)
      go_cut [10] (fun x wx => ∃ n : Nat, x = .int .i64 n ∧ Hid (n = min (min a.size b.size) 8) ∧ Below w.heap.size w wx)
      case first =>
        go_wp2_with fail
        all_goals
          go_meet
          exact ⟨(min (min a.size b.size) 8), Dg.val_int (by omega), rfl, hb1⟩
      case rest =>
        obtain ⟨n, rfl, HN, hbel⟩ := hcut
        have hna : n ≤ a.size := by have := HN.out; omega
        have hnb : n ≤ b.size := by have := HN.out; omega
        have hn8 : n ≤ 8 := by have := HN.out; omega
        go_upto_region 8 with fail
        go_cut [12] (fun x wx => ∃ r : ByteArray, x = .string r ∧ Hid (r.data.toList = s.data.toList.drop (8 * place + n)) ∧ r.size ≤ 2000 ∧ Below w.heap.size w wx)
        case first =>
          go_wp2_with fail
          go_meet
          exact ⟨_, rfl, Dg.rest_drop s place n, Dg.rest_size s _ hl, hbel⟩
        case rest =>
          obtain ⟨r, rfl, hr, hr2, hbel2⟩ := hcut
          clear hbel
          go_wp2_with fail
          have hsa : (s.extract 0 (8 * place)).size ≤ 2000 := Dg.head_size s _ hl
          have haa : (a.extract 0 n).size ≤ 8 := Nat.le_trans (Dg.cut_le a n) hn8
          have hbb : (b.extract 0 n).size ≤ 8 := Nat.le_trans (Dg.cut_le b n) hn8
          have hrr := hr2
          have p0 : (0 : Int) ≤ 8 * (place : Int) := by omega
          have p1 : 8 * (place : Int) ≤ (s.size : Int) := by omega
          have nA : (9223372036854775807 < min (8 * place) s.size + n) = False := _root_.eq_false (by omega)
          have nC : (9223372036854775807 < min (8 * place) s.size + n + r.size) = False := _root_.eq_false (by omega)
          have sA : (s.extract 0 (8 * place) ++ a.extract 0 n ++ r).size ≤ 9223372036854775807 := by rw [ByteArray.size_append, ByteArray.size_append]; omega
          have sB : (s.extract 0 (8 * place) ++ b.extract 0 n ++ r).size ≤ 9223372036854775807 := by rw [ByteArray.size_append, ByteArray.size_append]; omega
          have SA := Lib.hid sA
          have SB := Lib.hid sB
          clear sA sB hsa haa hbb
          have tn : (8 * (place : Int)).toNat = 8 * place := by omega
          go_region_held3 (fun _ => True) (exact trivial) (first | (go_at_call 12; refine (sum_ex _ (by first | (with_reducible exact SA.out) | (with_reducible exact SB.out)) _).mono ?_; rintro e w2 ⟨r1, rfl, hr1, hl1, hb2⟩))
          rename_i wa ra hra _ hba _
          have b3 := hbel2.drew.trans (hba.mono hbel2.size)
          have b4 := b3.trans (hb2.mono b3.size)
          have HQ := Lib.hid (same_iff (x := a.extract 0 n) (y := b.extract 0 n) hra hr1 (Dg.law_block s a b r place n (by omega) (by omega) (by omega) (by omega) (by omega) (by omega)))
          clear hra hr1 hba hb2 hbel2
          go_wp2_with fail
          go_ret
          exact ⟨Dg.ret_bool HQ.out, b4⟩

/-- What the walk gives, for all arguments and every world that holds the tables. -/
theorem contract (H : Type) (enc : TypeId × Value → H) (W : World) (base : Nat) (args : Array Value) (ds gs : List (DataW H)) (before : List MemPlace)
    (hval : ∀ (j : Nat) t v, Tryd.f7.params[j]? = some t → args[j]? = some v → Value.okWide Tryd.prog W .any base t v)
    (hW : DataW.Whole enc Tryd.prog Tryd.f7.params.toList Rows.digestBlockSpec.vars false W args.toList ds gs before) (hL : laidMetH Tryd.prog laidAll W) :
    Calls Tryd.prog 7 args W fun e W' => ∃ v, e = .returned v ∧ Rows.digestBlockSpec.post enc Tryd.prog Tryd.f7 false true false false W args v W' := by
  have hW' := hW
  obtain ⟨p, q, hA0, hV, rfl, hfz, hnd⟩ := hW
  have hA : DataW.TrodAll enc Tryd.prog W 0 (fun _ => true) true Tryd.f7.params.toList args.toList ds p := hA0
  rw [Tryd.params7] at hA hval
  obtain ⟨v0, vs0, d0, ds0, p0, q0, hargs, rfl, rfl, h0, r0⟩ := trodAll_cons hA
  obtain ⟨v1, vs1, d1, ds1, p1, q1, rfl, rfl, rfl, h1, r1⟩ := trodAll_cons r0
  obtain ⟨v2, vs2, d2, ds2, p2, q2, rfl, rfl, rfl, h2, r2⟩ := trodAll_cons r1
  obtain ⟨v3, vs3, d3, ds3, p3, q3, rfl, rfl, rfl, h3, r3⟩ := trodAll_cons r2
  obtain ⟨rfl, rfl, rfl⟩ := trodAll_nil r3
  obtain rfl : args = #[v0, v1, v2, v3] := by cases args; simp_all
  obtain ⟨rfl, rfl⟩ := trodVars_none hV
  obtain ⟨a0, rfl, _, _, g0⟩ := open_string Tryd.underlying9 (hval 0 9 v0 rfl rfl) h0
  obtain ⟨z1, rfl, _, _, g1⟩ := open_int Tryd.underlying5 (hval 1 5 v1 rfl rfl) h1
  obtain ⟨n1, rfl⟩ := Int.eq_ofNat_of_zero_le (bounds_u8 g1).1
  obtain ⟨a2, rfl, _, _, g2⟩ := open_string Tryd.underlying9 (hval 2 9 v2 rfl rfl) h2
  obtain ⟨a3, rfl, _, _, g3⟩ := open_string Tryd.underlying9 (hval 3 9 v3 rfl rfl) h3
  refine (law_walk a0 n1 a2 a3 W (le_of_max g0) (Int.ofNat_le.1 (bounds_u8 g1).2) (le_of_max g2) (le_of_max g3) (hasTab hL)).mono fun e W' ⟨he, hg⟩ => ?_
  subst he
  exact ⟨_, rfl, post_law rfl rfl rfl rfl rfl (by rw [Tryd.params7]; decide) hW' hg⟩

theorem laid_met (os : Os) : laidMet Tryd.prog Rows.digestBlockRow.laid ((laidWorld os).forCall (fun _ _ => 0) ⟨#[], #[.string ⟨#[]⟩, .int .u8 0, .string ⟨#[]⟩, .string ⟨#[]⟩], []⟩).memory :=
  laidMet_of_run' 8 (by kernel_rfl) (by kernel_rfl)
theorem reads (os : Os) {H : Type} (enc : TypeId × Value → H) : ∃ places, DataW.whole enc Tryd.prog ((laidWorld os).forCall (fun _ _ => 0) ⟨#[], #[.string ⟨#[]⟩, .int .u8 0, .string ⟨#[]⟩, .string ⟨#[]⟩], []⟩).memory Tryd.f7.params.toList Rows.digestBlockSpec.vars false #[Value.string ⟨#[]⟩, Value.int .u8 0, Value.string ⟨#[]⟩, Value.string ⟨#[]⟩].toList 8 = some ([.lit (.string []), .lit (.int .u8 0), .lit (.string []), .lit (.string [])], [], places) :=
  ⟨[], by kernel_rfl⟩

set_option maxRecDepth 100000 in
theorem lifted (os : Os) (started : os.Started) (H : Type) (enc : TypeId × Value → H) (F : Stop.Interp) :
    ReturnsInHanded {} Tryd.checked os 7 .any ((OpenSpec.ofChange Rows.digestBlockSpec).preRow enc Tryd.prog Tryd.f7 Rows.digestBlockRow.domain false Rows.digestBlockRow.laid) (((OpenSpec.ofChange Rows.digestBlockSpec).at F).post enc Tryd.prog Tryd.f7 false true false false) := by
  obtain ⟨places, hx⟩ := reads os enc
  refine returnsInHanded_of_row (C := Tryd.checked) (s := OpenSpec.ofChange Rows.digestBlockSpec) own started (by kernel_rfl) Tryd.func7
    (witness_row_at (enc := enc) (C := Tryd.checked) false (laidWorld os) #[.string ⟨#[]⟩, .int .u8 0, .string ⟨#[]⟩, .string ⟨#[]⟩] rfl (by kernel_rfl) (by kernel_rfl) (by kernel_rfl)
      (OpenSpec.preRow_of_cond 8 hx (by kernel_rfl) (fun k hk => by cases hk) (by kernel_rfl) (laid_met os))) ?_
  intro W base args ds gs before hval hW _ _ _ hL _ _
  exact contract H enc W base args ds gs before hval hW hL

theorem said : Rows.DigestBlockSaid :=
  OpenClaim.holds_of_cond 7 Tryd.f7 rfl rfl rfl rfl rfl rfl rfl ⟨rfl, rfl, rfl, rfl, rfl⟩ rfl rfl rfl rfl rfl (by kernel_rfl) Tryd.func7 (by kernel_rfl)
    (of_decide_eq_true (by kernel_rfl)) (by unfold Func.isWrapper; first | (rw [if_pos (by decide +kernel)]; kernel_rfl) | (rw [if_neg (by decide +kernel)]; exact ⟨rfl, rfl⟩))
    (fun os started H enc _ F => by rw [OpenClaim.pre_eq_preRow]; exact lifted os started H enc F)

/-- No parameter wants a stand-in; the program's own looks are off: what the card asks. -/
theorem plain (f : FuncId) (fn : Func) (hf : Tryd.pinned.checked.prog.funcNamed "pandect/pandectlaw01.DigestBlock" = some f) (hfn : Tryd.pinned.checked.prog.funcs[f]? = some fn) :
    false = Tryd.pinned.checked.prog.looks [] ∧ ∀ (j : Nat) t, fn.params[j]? = some t → Tryd.pinned.checked.prog.wantsStandIn t = false := by
  obtain rfl : f = 7 := Option.some.inj ((show Tryd.prog.funcNamed "pandect/pandectlaw01.DigestBlock" = some 7 by kernel_rfl).symm.trans hf) |>.symm
  obtain rfl : fn = Tryd.f7 := (Option.some.inj (Tryd.func7.symm.trans hfn)).symm
  refine ⟨by kernel_rfl, fun j t ht => ?_⟩
  rw [Tryd.params7] at ht
  have hm := Array.mem_of_getElem? ht
  simp only [List.mem_toArray, List.mem_cons, List.not_mem_nil, or_false] at hm
  rcases hm with rfl | rfl | rfl | rfl
  · exact wants_string
  · exact wants_u8
  · exact wants_string
  · exact wants_string

theorem card : Rows.DigestBlockCardSaid :=
  Claim7.holds_tied_plain_at .later [] _ _ _ _ said (fun _ h => by cases h) (by kernel_rfl) (fun _ h => by cases h) digestBlock_row_tie rfl ⟨rfl, rfl⟩ (by kernel_rfl) rfl plain (by kernel_rfl)
end Go.Proofs.YtddfkffaecgjiaaDoor.digestBlock
