import Derived.Test.YtoamkanofhhjfaaGreatDoorKETok2
import Derived.Test.YtoamkanofhhjfaaGreatDoorKEClsR
import Derived.Test.YtoamkanofhhjfaaGreatDoorKGIndex
import Derived.Test.YtoamkanofhhjfaaGreatDoorKFOrdA
import Derived.Deep.QuietTactic
import Derived.BigQuiet
/-
  The walk of the reference's Name.
-/
namespace Go.Proofs.YtoamkanofhhjfaaGreatDoor
open Go.RowKit

namespace Lx
/-- Whether a text is a name. -/
def nameOk (s : T) : Bool := s.all isWord && decide (0 < s.length) && decide (s.length ≤ 24) && hd isLetter s
theorem nameOk_good {s : T} (h : nameOk s = true) : Good 1 s 0 := by
  unfold nameOk at h
  simp only [Bool.and_eq_true, decide_eq_true_eq] at h
  refine good_name h.1.1.1 (fun e => by rw [e] at h; simp at h) h.1.2 (fun c r e => ?_)
  have := h.2
  rw [e] at this
  exact this
end Lx

set_option maxHeartbeats 4000000 in
set_option maxRecDepth 100000 in
theorem refname_walk (u : ByteArray) (hu : u.size ≤ 9223372036854775807) (w : World) :
    Calls Tryz.prog 42 #[.string u] w fun e w' => e = .returned (.bool (Lx.nameOk (Lx.tx u))) ∧ w = w' := by
  obtain ⟨z, hz⟩ : ∃ z, z = Lx.nameOk (Lx.tx u) := ⟨_, rfl⟩
  rw [← hz]
  have HZ := Lib.hid hz
  have HALL : Hid (∀ k (hk : k < u.size), ((Lx.tx u).drop k).all Lx.isWord = (Lx.isWord u[k] && ((Lx.tx u).drop (k + 1)).all Lx.isWord)) := fun k hk => by
    rw [Lx.drop_at u k hk, List.all_cons]
  clear hz
  go_enter Tryz.func42, Tryz.ntmps42
  go_wp2_with fail
  go_loop [3] (fun i => ∃ k : Nat, k ≤ u.size ∧ i = .int .i64 k ∧ Hid ((Lx.tx u).all Lx.isWord = ((Lx.tx u).drop k).all Lx.isWord)) (fun i => u.size - (intOf i).toNat)
  case atStart => exact ⟨0, Nat.zero_le _, rfl, by show _ = _; rw [List.drop_zero]⟩
  case round =>
    obtain ⟨k, hk, rfl, hd⟩ := hrel
    by_cases hlt : k < u.size
    · have hki : (k : Int) < (u.size : Int) := by omega
      cases hq : Lx.isWord u[k] with
      | true =>
        have HW := Lib.hid (refword_walk u[k] w)
        rw [hq] at HW
        have HD : Hid ((Lx.tx u).all Lx.isWord = ((Lx.tx u).drop (k + 1)).all Lx.isWord) := by show _ = _; rw [hd.out, HALL.out k hlt, hq, Bool.true_and]
        clear hq hd
        go_wp2_with fail
        refine HW.out.mono ?_
        rintro e w2 ⟨rfl, hw⟩
        subst hw
        go_wp2_with fail
        go_round
        case rel => exact ⟨k + 1, by omega, by go_num, HD⟩
        case measure => simp [intOf]; omega
      | false =>
        have HW := Lib.hid (refword_walk u[k] w)
        rw [hq] at HW
        have hzf : z = false := by
          rw [HZ.out]; unfold Lx.nameOk
          rw [hd.out, HALL.out k hlt, hq]; rfl
        subst hzf
        clear hq hd
        go_wp2_with fail
        refine HW.out.mono ?_
        rintro e w2 ⟨rfl, hw⟩
        subst hw
        go_wp2_with fail
        go_ret
        exact ⟨rfl, rfl⟩
    · have hki : ¬ (k : Int) < (u.size : Int) := by omega
      have hall : (Lx.tx u).all Lx.isWord = true := by rw [hd.out, Lx.drop_end u k (by omega)]; rfl
      have HA := Lib.hid hall
      clear hd hall
      by_cases h0 : 0 < u.size
      · by_cases h24 : u.size ≤ 24
        · have hzl : z = Lx.isLetter u[0] := by
            rw [HZ.out]; unfold Lx.nameOk
            have := Lx.drop_at u 0 h0
            rw [List.drop_zero] at this
            rw [HA.out, Lx.tx_len, decide_eq_true h0, decide_eq_true h24, this]; rfl
          have HL := Lib.hid (refletter_walk u[0] w)
          rw [← hzl] at HL
          clear hzl
          have h0i : (0 : Int) < (u.size : Int) := by omega
          have h24i : (u.size : Int) ≤ 24 := by omega
          go_wp2_with fail
          refine HL.out.mono ?_
          rintro e w2 ⟨rfl, hw⟩
          subst hw
          go_wp2_with fail
          go_ret
          exact ⟨rfl, rfl⟩
        · have hzf : z = false := by
            rw [HZ.out]; unfold Lx.nameOk
            rw [Lx.tx_len, decide_eq_false h24]; simp
          subst hzf
          have h0i : (0 : Int) < (u.size : Int) := by omega
          have h24i : ¬ (u.size : Int) ≤ 24 := by omega
          go_wp2_with fail
          go_ret
          exact ⟨rfl, rfl⟩
      · have hzf : z = false := by
          rw [HZ.out]; unfold Lx.nameOk
          rw [Lx.tx_len, decide_eq_false h0]; simp
        subst hzf
        have h0i : ¬ (0 : Int) < (u.size : Int) := by omega
        go_wp2_with fail
        go_ret
        exact ⟨rfl, rfl⟩
end Go.Proofs.YtoamkanofhhjfaaGreatDoor
/-
  The walks of the reference's Valid and Fits.
-/
namespace Go.Proofs.YtoamkanofhhjfaaGreatDoor
open Go.RowKit

namespace Fc
theorem nameOk_nm (s : Lx.T) : Lx.nameOk s = isNm s := rfl
theorem idx_le {l : List Fact} {k : Nat} {f : Fact} (h : l[k]? = some f) : idx l f.name ≤ (k : Int) := by
  cases hi : index l f.name with
  | none =>
    have := index_none_iff.1 hi
    exact absurd (List.mem_map.2 ⟨f, List.mem_of_getElem? h, rfl⟩) this
  | some i =>
    rw [idx_some hi]
    obtain ⟨g, _, _, hj⟩ := index_some_iff.1 hi
    by_cases hk : k < i
    · exact absurd rfl (hj k hk f h)
    · omega
/-- What is asked of a fact's numbers, one by one. -/
def Nums (kind lo hi : Int) : Prop := ¬ lo < 0 ∧ ¬ hi < lo ∧ ¬ 1000000 < hi ∧ ¬ kind < 1 ∧ ¬ 3 < kind ∧ (kind = 1 → lo = 0 ∧ hi = 1)
theorem nums_iff (f : Fact) : Bounded f ↔ Nums f.kind f.lo f.hi := by
  unfold Bounded Nums
  constructor
  · rintro (⟨h1, h2, h3⟩ | ⟨h1, h2, h3, h4⟩)
    · exact ⟨by omega, by omega, by omega, by omega, by omega, fun _ => ⟨h2, h3⟩⟩
    · exact ⟨by omega, by omega, by omega, by omega, by omega, fun h => by rcases h1 with h1 | h1 <;> omega⟩
  · rintro ⟨h1, h2, h3, h4, h5, h6⟩
    by_cases hk : f.kind = 1
    · exact .inl ⟨hk, h6 hk⟩
    · exact .inr ⟨by omega, by omega, by omega, by omega⟩
end Fc

set_option maxHeartbeats 8000000 in
set_option maxRecDepth 100000 in
theorem refvalid_walk (v : Value) (l : List Fc.Fact) (w : World) (hv : Fc.IsF w v l) :
    Calls Tryz.prog 13 #[.agg #[v]] w (Fc.Says (Fc.Valid l) w) := by
  obtain ⟨P, hP⟩ : ∃ P : Prop, P = Fc.Valid l := ⟨_, rfl⟩
  rw [← hP]
  have HP := Lib.hid (Fc.valid_iff l)
  rw [← hP] at HP
  clear hP
  have HV : Hid (∀ w', Below w.heap.size w w' → Fc.IsF w' v l) := fun w' hb => hv.below hb
  have HS := Lib.hid hv.sized
  obtain ⟨a, c, g, o, rfl, hc1, hc2, hga, hcl⟩ := hv.any
  obtain ⟨n, hn⟩ : ∃ n, n = l.length := ⟨_, rfl⟩
  have hga2 : 0 < n → a = some ⟨g, o, none⟩ ∧ g < w.heap.size := fun h => hga (by rintro rfl; rw [hn] at h; simp at h)
  rw [← hn] at HV HP ⊢
  have HC := Lib.hid hcl
  have HN := Lib.hid hn
  have HG := Lib.hid hga2
  have hnb : n ≤ 9223372036854775807 := by rw [hn]; omega
  have HB0 := Lib.hid (Boxed.start w (.slice a n c))
  clear hv hcl hn hga hga2 hc1 hc2
  go_enter Tryz.func13, Tryz.ntmps13
  go_wp2_with fail
  go_loopw [3] (fun i wr => ∃ k : Nat, k ≤ n ∧ i = .int .i64 k ∧ Hid (Fc.OkTo l k) ∧ Hid (Boxed w (.slice a n c) wr)) (fun i _ => n - (intOf i).toNat)
  case atStart => exact ⟨0, Nat.zero_le _, rfl, fun j hj => absurd hj (by omega), HB0.out⟩
  case round =>
    obtain ⟨k, hk, rfl, hd, hbw⟩ := hrel
    clear HB0
    have b1 := hbw.out.cell
    by_cases hlt : k < n
    · have hki : (k : Int) < (n : Int) := by omega
      have hk0 : (0 : Int) ≤ (k : Int) := by omega
      obtain ⟨⟨nm, kd, lo, hi⟩, hf⟩ : ∃ f, l[k]? = some f := ⟨_, List.getElem?_eq_getElem (by rw [← HN.out]; exact hlt)⟩
      obtain ⟨rfl, hg⟩ := HG.out (by omega)
      obtain ⟨p0, p1, p2, p3⟩ := HC.out k _ hf
      dsimp only at p0 p1 p2 p3
      have p0 := (hbw.out.below.cell (p := ⟨g, o + k * 4, none⟩) hg).trans p0
      have p1 := (hbw.out.below.cell (p := ⟨g, o + k * 4 + 1, none⟩) hg).trans p1
      have p2 := (hbw.out.below.cell (p := ⟨g, o + k * 4 + 2, none⟩) hg).trans p2
      have p3 := (hbw.out.below.cell (p := ⟨g, o + k * 4 + 3, none⟩) hg).trans p3
      have HSf := HS.out _ (List.mem_of_getElem? hf)
      obtain ⟨x, hx⟩ : ∃ x, x = Lx.str nm := ⟨_, rfl⟩
      rw [← hx] at p0
      have hxs : x.size ≤ 9223372036854775807 := by rw [hx, Fc.str_size]; exact HSf.1
      obtain ⟨bn, hbn⟩ : ∃ b, b = Lx.nameOk (Lx.tx x) := ⟨_, rfl⟩
      obtain ⟨zz, hz⟩ : ∃ z, z = Fc.idx l (Lx.tx x) := ⟨_, rfl⟩
      have hzle : zz ≤ (k : Int) := by rw [hz, hx, Lx.tx_str]; exact Fc.idx_le hf
      have HOK : Hid (P → bn = true ∧ zz = (k : Int) ∧ Fc.Nums kd lo hi) := fun h => by
        obtain ⟨q1, q2, q3⟩ := (HP.out.1 h).2 k hlt _ hf
        refine ⟨?_, ?_, (Fc.nums_iff _).1 q2⟩
        · rw [hbn, hx, Lx.tx_str, Fc.nameOk_nm]; exact (Fc.isNm_iff _).2 q1
        · rw [hz, hx, Lx.tx_str] at hzle ⊢
          dsimp only at q3
          omega
      have HD : Hid (bn = true → zz = (k : Int) → Fc.Nums kd lo hi → Fc.OkTo l (k + 1)) := fun q1 q2 q3 j hj => by
        by_cases e : j = k
        · subst e
          intro f2 hf2
          rw [hf] at hf2
          obtain rfl := Option.some.inj hf2
          rw [hbn, hx, Lx.tx_str, Fc.nameOk_nm] at q1
          rw [hz, hx, Lx.tx_str] at q2
          exact ⟨(Fc.isNm_iff _).1 q1, (Fc.nums_iff _).2 q3, by dsimp only; omega⟩
        · exact hd.out j (by omega)
      have H1 := Lib.hid (fun w => refname_walk x hxs w)
      rw [← hbn] at H1
      obtain ⟨W1, hW1⟩ : ∃ W1, W1 = wr.alloc (.cells #[.string x, .int .i64 kd, .int .i64 lo, .int .i64 hi] 64) := ⟨_, rfl⟩
      have hbW : Below wr.heap.size wr W1 := by rw [hW1]; exact (Below.refl _ _).alloc (Nat.le_refl _) _
      obtain ⟨n1, hn1⟩ : ∃ n1, n1 = wr.heap.size := ⟨_, rfl⟩
      have hk1 : W1.heap[n1]? = some (.cells #[.string x, .int .i64 kd, .int .i64 lo, .int .i64 hi] 64 (0, 0)) := by rw [hW1, hn1]; exact heap_alloc_new _ _
      have hx1 := hbw.out.next hbW
      have H2 : Hid (∀ w', Below w.heap.size w w' → Calls Tryz.prog 17 #[.agg #[.slice (some ⟨g, o, none⟩) n c], .string x] w' (Fc.Gives (.int .i64 zz) w')) := fun w' hb => by
        have := refindex_walk _ l x w' (HV.out w' hb)
        rw [← hz] at this
        exact this
      have HX1 := Lib.hid hx1
      have HK1 := Lib.hid hk1
      have HW : Hid (wr.alloc (.cells #[.string x, .int .i64 kd, .int .i64 lo, .int .i64 hi] 64) = W1) := hW1.symm
      have HN1 := Lib.hid hn1
      clear hx hbn hz hf hd HSf hxs hbW hx1 hk1 hW1 hn1 HC HS hzle
      go_upto_region 5 with fail
      rw [HW.out, ← HN1.out]
      clear HW HN1 hbw b1 p0 p1 p2 p3
      have b1 := HX1.out.cell
      have c0 := Joins.cell_of_block HK1.out 0
      have c1 := Joins.cell_of_block HK1.out 1
      have c2 := Joins.cell_of_block HK1.out 2
      have c3 := Joins.cell_of_block HK1.out 3
      cases bn with
      | false =>
        have hno : ¬ P := fun h => by have := (HOK.out h).1; cases this
        go_wp2_with fail
        refine (H1.out W1).mono ?_
        rintro e w1 ⟨rfl, rfl⟩
        go_wp2_with fail
        go_ret
        exact Fc.Says.no hno HX1.out.below
      | true =>
        go_wp2_with fail
        refine (H1.out W1).mono ?_
        rintro e w1 ⟨rfl, rfl⟩
        go_wp2_with fail
        refine (H2.out W1 HX1.out.below).mono ?_
        rintro e w2 ⟨rfl, hb2⟩
        have hx2 := HX1.out.next hb2
        have hk2 := (hb2.block n1 (Array.getElem?_eq_some_iff.1 HK1.out).1).trans HK1.out
        have HX2 := Lib.hid hx2
        clear b1 c0 c1 c2 c3 hb2 HK1 HX1 H1 H2
        have b2 := hx2.cell
        have c0 := Joins.cell_of_block hk2 0
        have c1 := Joins.cell_of_block hk2 1
        have c2 := Joins.cell_of_block hk2 2
        have c3 := Joins.cell_of_block hk2 3
        clear hx2 hk2
        by_cases h1 : zz ≠ (k : Int)
        · have e1 : (zz != (k : Int)) = true := by rw [bne_iff_ne]; exact h1
          have hno : ¬ P := fun h => by have hq := HOK.out h; unfold Fc.Nums at hq; omega
          go_wp2_with fail
          go_ret
          exact Fc.Says.no hno HX2.out.below
        have h1 : zz = (k : Int) := by omega
        have e1 : (zz != (k : Int)) = false := by rw [h1]; simp
        by_cases h2 : lo < 0
        · have e2 : decide (lo < 0) = true := decide_eq_true h2
          have hno : ¬ P := fun h => by have hq := HOK.out h; unfold Fc.Nums at hq; omega
          go_wp2_with fail
          go_ret
          exact Fc.Says.no hno HX2.out.below
        have e2 : decide (lo < 0) = false := decide_eq_false h2
        by_cases h3 : hi < lo
        · have e3 : decide (hi < lo) = true := decide_eq_true h3
          have hno : ¬ P := fun h => by have hq := HOK.out h; unfold Fc.Nums at hq; omega
          go_wp2_with fail
          go_ret
          exact Fc.Says.no hno HX2.out.below
        have e3 : decide (hi < lo) = false := decide_eq_false h3
        by_cases h4 : 1000000 < hi
        · have e4 : decide (1000000 < hi) = true := decide_eq_true h4
          have hno : ¬ P := fun h => by have hq := HOK.out h; unfold Fc.Nums at hq; omega
          go_wp2_with fail
          go_ret
          exact Fc.Says.no hno HX2.out.below
        have e4 : decide (1000000 < hi) = false := decide_eq_false h4
        by_cases h5 : kd < 1
        · have e5 : decide (kd < 1) = true := decide_eq_true h5
          have hno : ¬ P := fun h => by have hq := HOK.out h; unfold Fc.Nums at hq; omega
          go_wp2_with fail
          go_ret
          exact Fc.Says.no hno HX2.out.below
        have e5 : decide (kd < 1) = false := decide_eq_false h5
        by_cases h6 : 3 < kd
        · have e6 : decide (3 < kd) = true := decide_eq_true h6
          have hno : ¬ P := fun h => by have hq := HOK.out h; unfold Fc.Nums at hq; omega
          go_wp2_with fail
          go_ret
          exact Fc.Says.no hno HX2.out.below
        have e6 : decide (3 < kd) = false := decide_eq_false h6
        by_cases h7 : kd = 1
        · have e7 : (kd == 1) = true := by rw [beq_iff_eq]; exact h7
          by_cases h8 : lo ≠ 0
          · have e8 : (lo != 0) = true := by rw [bne_iff_ne]; exact h8
            have hno : ¬ P := fun h => by have hq := HOK.out h; unfold Fc.Nums at hq; omega
            go_wp2_with fail
            go_ret
            exact Fc.Says.no hno HX2.out.below
          have h8 : lo = 0 := by omega
          have e8 : (lo != 0) = false := by rw [h8]; rfl
          by_cases h9 : hi ≠ 1
          · have e9 : (hi != 1) = true := by rw [bne_iff_ne]; exact h9
            have hno : ¬ P := fun h => by have hq := HOK.out h; unfold Fc.Nums at hq; omega
            go_wp2_with fail
            go_ret
            exact Fc.Says.no hno HX2.out.below
          have h9 : hi = 1 := by omega
          have e9 : (hi != 1) = false := by rw [h9]; rfl
          have HK2 := Lib.hid (HD.out (by simp) (by omega) (by unfold Fc.Nums; omega))
          go_wp2_with fail
          go_roundw
          case rel => exact ⟨k + 1, by omega, by go_num, HK2, HX2⟩
          case measure => simp [intOf]; omega
        · have e7 : (kd == 1) = false := beq_eq_false_iff_ne.2 h7
          have HK2 := Lib.hid (HD.out (by simp) (by omega) (by unfold Fc.Nums; omega))
          go_wp2_with fail
          go_roundw
          case rel => exact ⟨k + 1, by omega, by go_num, HK2, HX2⟩
          case measure => simp [intOf]; omega
    · have hki : ¬ (k : Int) < (n : Int) := by omega
      by_cases h60 : n ≤ 60
      · have h60i : (n : Int) ≤ 60 := by omega
        have hyes := Lib.hid (show P from HP.out.2 ⟨h60, fun i hi => hd.out i (by omega)⟩)
        clear hd
        go_wp2_with fail
        go_ret
        exact Fc.Says.yes hyes.out hbw.out.below
      · have h60i : ¬ (n : Int) ≤ 60 := by omega
        have hno := Lib.hid (show ¬ P from fun h => h60 (HP.out.1 h).1)
        clear hd
        go_wp2_with fail
        go_ret
        exact Fc.Says.no hno.out hbw.out.below
end Go.Proofs.YtoamkanofhhjfaaGreatDoor
/-
  The walks of the reference's Fits and Least.
-/
namespace Go.Proofs.YtoamkanofhhjfaaGreatDoor
open Go.RowKit

theorem refvalid_is (v : Value) (l : List Fc.Fact) (w : World) (hv : Fc.IsF w v l) (b : Bool) (h : b = true ↔ Fc.Valid l) :
    Calls Tryz.prog 13 #[.agg #[v]] w (Fc.Gives (.bool b) w) :=
  (refvalid_walk v l w hv).mono fun _ _ hs => hs.gives b h

set_option maxHeartbeats 8000000 in
set_option maxRecDepth 100000 in
theorem reffits_walk (v u : Value) (l : List Fc.Fact) (m : List Int) (w : World) (hv : Fc.IsF w v l) (hu : Fc.IsN w u m) :
    Calls Tryz.prog 15 #[.agg #[v], u] w (Fc.Says (Fc.Fit l m) w) := by
  obtain ⟨P, hP⟩ : ∃ P : Prop, P = Fc.Fit l m := ⟨_, rfl⟩
  rw [← hP]
  have HV : Hid (∀ w', Below w.heap.size w w' → Fc.IsF w' v l) := fun w' hb => hv.below hb
  obtain ⟨a, c, g, o, rfl, hc1, hc2, hga, hcl⟩ := hv.any
  obtain ⟨a2, c2, g2, o2, rfl, hd1, hd2, hgb, hcm⟩ := hu.any
  have hga2 : 0 < l.length → a = some ⟨g, o, none⟩ ∧ g < w.heap.size := fun h => hga (by rintro rfl; simp at h)
  have hgb2 : 0 < m.length → a2 = some ⟨g2, o2, none⟩ ∧ g2 < w.heap.size := fun h => hgb (by rintro rfl; simp at h)
  obtain ⟨n, hn⟩ : ∃ n, n = l.length := ⟨_, rfl⟩
  obtain ⟨n2, hn2⟩ : ∃ n, n = m.length := ⟨_, rfl⟩
  rw [← hn] at hga2 HV ⊢
  rw [← hn2] at hgb2 hcm ⊢
  have HC := Lib.hid hcl
  have HM := Lib.hid hcm
  have HG := Lib.hid hga2
  have HG2 := Lib.hid hgb2
  have HL := Lib.hid (And.intro hn hn2)
  have HP := Lib.hid hP
  have HB0 := Lib.hid (Boxed.start w (.slice a n c))
  have hnb : n ≤ 9223372036854775807 := by rw [hn]; omega
  have hnb2 : n2 ≤ 9223372036854775807 := by rw [hn2]; omega
  clear hv hu hcl hcm hga hgb hga2 hgb2 hP hc1 hc2 hd1 hd2 hn hn2
  by_cases hvl : Fc.Valid l
  case neg =>
    have hno := Lib.hid (show ¬ P from fun h => by rw [HP.out] at h; exact hvl h.1)
    go_enter Tryz.func15, Tryz.ntmps15
    go_wp2_with fail
    refine (refvalid_is _ l _ (HV.out _ HB0.out.below) false (by simp [hvl])).mono ?_
    rintro e w1 ⟨rfl, hb1⟩
    have HX := Lib.hid (HB0.out.next hb1)
    clear hb1 HB0
    go_wp2_with fail
    go_ret
    exact Fc.Says.no hno.out HX.out.below
  case pos =>
    go_enter Tryz.func15, Tryz.ntmps15
    go_wp2_with fail
    refine (refvalid_is _ l _ (HV.out _ HB0.out.below) true (by simp [hvl])).mono ?_
    rintro e w1 ⟨rfl, hb1⟩
    have hx := HB0.out.next hb1
    have q1 := hx.cell
    have HX := Lib.hid hx
    clear hb1 HB0 hx
    by_cases hlen : n2 = n
    case neg =>
      have hno := Lib.hid (show ¬ P from fun h => by rw [HP.out] at h; have := Fc.within_len h.2; rw [← HL.out.1, ← HL.out.2] at this; exact hlen this)
      have hne : ((n2 : Int) != (n : Int)) = true := by rw [bne_iff_ne]; omega
      go_wp2_with fail
      go_ret
      exact Fc.Says.no hno.out HX.out.below
    case pos =>
      subst hlen
      have hne : ((n2 : Int) != (n2 : Int)) = false := by simp
      have HPW : Hid (P ↔ Fc.WTo l m n2) := (by rw [HP.out, HL.out.1, Fc.WTo.all (by rw [← HL.out.2, HL.out.1])]; exact ⟨fun h => h.2, fun h => ⟨hvl, h⟩⟩ : P ↔ Fc.WTo l m n2)
      clear HP
      go_wp2_with fail
      go_loopw [5] (fun i wr => ∃ k : Nat, k ≤ n2 ∧ i = .int .i64 k ∧ Hid (Fc.WTo l m k) ∧ Hid (Boxed w (.slice a n2 c) wr)) (fun i _ => n2 - (intOf i).toNat)
      case atStart => exact ⟨0, Nat.zero_le _, rfl, fun j hj => absurd hj (by omega), HX.out⟩
      case round =>
        obtain ⟨k, hk, rfl, hd, hbw⟩ := hrel
        clear HX q1
        by_cases hlt : k < n2
        · have hki : (k : Int) < (n2 : Int) := by omega
          have hk0 : (0 : Int) ≤ (k : Int) := by omega
          obtain ⟨f, hf⟩ : ∃ f, l[k]? = some f := ⟨_, List.getElem?_eq_getElem (by rw [← HL.out.1]; exact hlt)⟩
          obtain ⟨rfl, hg⟩ := HG.out (by omega)
          obtain ⟨rfl, hg2⟩ := HG2.out (by omega)
          obtain ⟨_, _, p2, p3⟩ := HC.out k f hf
          have hbd := hbw.out.below
          have b1 : wr.cell? ⟨w.heap.size, 0, none⟩ = some (.slice (some ⟨g, o, none⟩) n2 c) := hbw.out.cell
          have p2 : wr.cell? ⟨g, o + k * 4 + 2, none⟩ = some (.int .i64 f.lo) := (hbd.cell (p := ⟨g, o + k * 4 + 2, none⟩) hg).trans p2
          have p3 : wr.cell? ⟨g, o + k * 4 + 3, none⟩ = some (.int .i64 f.hi) := (hbd.cell (p := ⟨g, o + k * 4 + 3, none⟩) hg).trans p3
          obtain ⟨x, hx⟩ : ∃ x, m.getD k 0 = x := ⟨_, rfl⟩
          have p4 : wr.cell? ⟨g2, o2 + k, none⟩ = some (.int .i64 x) := by have := (hbd.cell (p := ⟨g2, o2 + k, none⟩) hg2).trans (HM.out k hlt); rwa [hx] at this
          have HD := Lib.hid (fun hb => hd.out.succ hf hx hb)
          have HK : Hid (P → f.lo ≤ x ∧ x ≤ f.hi) := fun h => by have := HPW.out.1 h k hlt f hf; rwa [hx] at this
          have HXW : Hid (∀ q, Boxed w (.slice (some ⟨g, o, none⟩) n2 c) (wr.drewN q)) := fun q => hbw.out.next (Joins.below_draws _ _ q)
          obtain ⟨lo, hlo⟩ : ∃ z, z = f.lo := ⟨_, rfl⟩
          obtain ⟨hi, hhi⟩ : ∃ z, z = f.hi := ⟨_, rfl⟩
          rw [← hlo] at p2 HD HK
          rw [← hhi] at p3 HD HK
          clear hf hx hd hbd hbw hlo hhi
          by_cases h1 : x < lo
          · have e1 : decide (x < lo) = true := decide_eq_true h1
            have hno := Lib.hid (show ¬ P from fun h => by have := HK.out h; omega)
            go_wp2_with fail
            go_quiet (fail)
            go_wp2_with fail
            go_ret
            exact Fc.Says.no hno.out (HXW.out _).below
          · have e1 : decide (x < lo) = false := decide_eq_false h1
            by_cases h2 : hi < x
            · have e2 : decide (hi < x) = true := decide_eq_true h2
              have hno := Lib.hid (show ¬ P from fun h => by have := HK.out h; omega)
              go_wp2_with fail
              go_quiet (fail)
              go_wp2_with fail
              go_ret
              exact Fc.Says.no hno.out (HXW.out _).below
            · have e2 : decide (hi < x) = false := decide_eq_false h2
              have HK2 := Lib.hid (HD.out ⟨by omega, by omega⟩)
              clear HD HK
              go_wp2_with fail
              go_quiet (fail)
              go_wp2_with fail
              go_roundw
              case rel => exact ⟨k + 1, by omega, by go_num, HK2, HXW.out _⟩
              case measure => simp [intOf]; omega
        · have hki : ¬ (k : Int) < (n2 : Int) := by omega
          have hyes := Lib.hid (show P from HPW.out.2 (by have := hd.out; rwa [show k = n2 by omega] at this))
          clear hd
          go_wp2_with fail
          go_ret
          exact Fc.Says.yes hyes.out hbw.out.below
end Go.Proofs.YtoamkanofhhjfaaGreatDoor
