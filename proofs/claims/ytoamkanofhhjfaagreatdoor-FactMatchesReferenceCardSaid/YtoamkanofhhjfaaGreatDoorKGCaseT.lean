import Derived.Test.YtoamkanofhhjfaaGreatDoorKGFits
import Derived.Test.YtoamkanofhhjfaaGreatDoorKRDecF
import Derived.Test.YtoamkanofhhjfaaGreatDoorKFCaseT
/-
  The walk of the reference's Text.
-/
namespace Go.Proofs.YtoamkanofhhjfaaGreatDoor
open Go.RowKit

namespace Fc
theorem dtext_take {l : List Fact} {k : Nat} {f : Fact} (h : l[k]? = some f) : dtext (l.take (k + 1)) = dtext (l.take k) ++ ftext f := by
  rw [List.take_add_one, h]
  exact dtext_snoc f _
end Fc

set_option maxHeartbeats 8000000 in
set_option maxRecDepth 100000 in
theorem reftext_walk (v : Value) (l : List Fc.Fact) (w : World) (hv : Fc.IsF w v l) (hvl : Fc.Valid l) :
    Calls Tryz.prog 19 #[.agg #[v]] w (Fc.TextOut (Fc.dtext l) w) := by
  obtain ⟨z, hz⟩ : ∃ z, z = Lx.str (Fc.dtext l) := ⟨_, rfl⟩
  unfold Fc.TextOut
  rw [← hz]
  have HV : Hid (∀ w', Below w.heap.size w w' → Fc.IsF w' v l) := fun w' hb => hv.below hb
  obtain ⟨a, c, g, o, rfl, hc1, hc2, hga, hcl⟩ := hv.any
  obtain ⟨n, hn⟩ : ∃ n, n = l.length := ⟨_, rfl⟩
  have hga2 : 0 < n → a = some ⟨g, o, none⟩ ∧ g < w.heap.size := fun h => hga (by rintro rfl; rw [hn] at h; simp at h)
  rw [← hn] at HV ⊢
  have HC := Lib.hid hcl
  have HN := Lib.hid hn
  have HG := Lib.hid hga2
  have HZ := Lib.hid hz
  have hnb : n ≤ 60 := by rw [hn]; exact hvl.2.2
  have HB0 := Lib.hid (Boxed.start w (.slice a n c))
  have HVL := Lib.hid hvl
  clear hv hcl hn hga hga2 hc1 hc2 hz
  go_enter Tryz.func19, Tryz.ntmps19
  go_wp2_with fail
  refine (refvalid_is _ l _ (HV.out _ HB0.out.below) true (by simp [hvl])).mono ?_
  rintro e w1 ⟨rfl, hb1⟩
  have hx := HB0.out.next hb1
  have q1 := hx.cell
  have HX := Lib.hid hx
  clear hb1 HB0 hx hvl HV
  go_wp2_with fail
  go_loopw [3, 4] (fun t i wr => ∃ (k : Nat) (x : ByteArray), k ≤ n ∧ i = .int .i64 k ∧ t = .string x ∧ Hid (x = Lx.str (Fc.dtext (l.take k))) ∧ Hid (Boxed w (.slice a n c) wr)) (fun _ i _ => n - (intOf i).toNat)
  case atStart => exact ⟨0, ⟨#[]⟩, Nat.zero_le _, rfl, rfl, rfl, HX.out⟩
  case round =>
    obtain ⟨k, x, hk, rfl, rfl, hx, hbw⟩ := hrel
    clear HX q1
    have b1 := hbw.out.cell
    by_cases hlt : k < n
    · have hki : (k : Int) < (n : Int) := by omega
      have hk0 : (0 : Int) ≤ (k : Int) := by omega
      obtain ⟨⟨nm, kd, lo, hi⟩, hf⟩ : ∃ f, l[k]? = some f := ⟨_, List.getElem?_eq_getElem (by rw [← HN.out]; exact hlt)⟩
      have hok := HVL.out.1 _ (List.mem_of_getElem? hf)
      obtain ⟨rfl, hg⟩ := HG.out (by omega)
      obtain ⟨p0, p1, p2, p3⟩ := HC.out k _ hf
      dsimp only at p0 p1 p2 p3
      have p0 := (hbw.out.below.cell (p := ⟨g, o + k * 4, none⟩) hg).trans p0
      have p1 := (hbw.out.below.cell (p := ⟨g, o + k * 4 + 1, none⟩) hg).trans p1
      have p2 := (hbw.out.below.cell (p := ⟨g, o + k * 4 + 2, none⟩) hg).trans p2
      have p3 := (hbw.out.below.cell (p := ⟨g, o + k * 4 + 3, none⟩) hg).trans p3
      obtain ⟨s, hs⟩ : ∃ s, s = Lx.str nm := ⟨_, rfl⟩
      rw [← hs] at p0
      have hss : s.size ≤ 24 := by rw [hs, Fc.str_size]; exact hok.name.small
      have hxs : x.size ≤ 6000 := by
        rw [hx.out, Fc.str_size]
        have := Fc.dtext_len (l.take k) (fun f hf => HVL.out.1 f (List.mem_of_mem_take hf))
        rw [List.length_take] at this
        omega
      have h1 : 0 ≤ lo := hok.low
      have h2 : lo ≤ hi := hok.le
      have h3 : hi ≤ 1000000 := hok.high
      have hkd : kd = 1 ∨ kd = 2 ∨ kd = 3 := hok.kind
      obtain ⟨dl, hdl⟩ : ∃ d, d = Lx.str (Lx.dec lo.toNat) := ⟨_, rfl⟩
      obtain ⟨dh, hdh⟩ : ∃ d, d = Lx.str (Lx.dec hi.toNat) := ⟨_, rfl⟩
      have hzl : dl.size ≤ 7 := by rw [hdl, Fc.str_size]; exact dec_len _
      have hzh : dh.size ≤ 7 := by rw [hdh, Fc.str_size]; exact dec_len _
      have HL := Lib.hid (fun w => decimal_is lo h1 (by omega) w)
      have HH := Lib.hid (fun w => decimal_is hi (by omega) h3 w)
      rw [← hdl] at HL
      rw [← hdh] at HH
      have HKF : Hid (kd = 1 → x ++ s ++ ⟨#[32, 102, 108, 97, 103, 59, 10]⟩ = Lx.str (Fc.dtext (l.take (k + 1)))) := fun e => by
        rw [Fc.dtext_take hf, hx.out, hs, Fc.ftext, if_pos e]
        apply ByteArray.ext
        simp [Lx.str, Fc.wFlag]
      have HKN : Hid (kd = 2 → x ++ s ++ ⟨#[32, 110, 117, 109, 98, 101, 114, 32]⟩ ++ dl ++ ⟨#[32, 116, 111, 32]⟩ ++ dh ++ ⟨#[59, 10]⟩ = Lx.str (Fc.dtext (l.take (k + 1)))) := fun e => by
        rw [Fc.dtext_take hf, hx.out, hs, hdl, hdh, Fc.ftext, if_neg (by dsimp only; omega), if_pos e]
        apply ByteArray.ext
        simp [Lx.str, Fc.wNumber, Fc.wTo]
      have HKD : Hid (kd = 3 → x ++ s ++ ⟨#[32, 100, 97, 121, 32]⟩ ++ dl ++ ⟨#[32, 116, 111, 32]⟩ ++ dh ++ ⟨#[59, 10]⟩ = Lx.str (Fc.dtext (l.take (k + 1)))) := fun e => by
        rw [Fc.dtext_take hf, hx.out, hs, hdl, hdh, Fc.ftext, if_neg (by dsimp only; omega), if_neg (by dsimp only; omega)]
        apply ByteArray.ext
        simp [Lx.str, Fc.wDay, Fc.wTo]
      obtain ⟨W1, hW1⟩ : ∃ W1, W1 = wr.alloc (.cells #[.string s, .int .i64 kd, .int .i64 lo, .int .i64 hi] 64) := ⟨_, rfl⟩
      have hbW : Below wr.heap.size wr W1 := by rw [hW1]; exact (Below.refl _ _).alloc (Nat.le_refl _) _
      obtain ⟨n1, hn1⟩ : ∃ n1, n1 = wr.heap.size := ⟨_, rfl⟩
      have hk1 : W1.heap[n1]? = some (.cells #[.string s, .int .i64 kd, .int .i64 lo, .int .i64 hi] 64 (0, 0)) := by rw [hW1, hn1]; exact heap_alloc_new _ _
      have hlt1 := (Array.getElem?_eq_some_iff.1 hk1).1
      have HX1 := Lib.hid (hbw.out.next hbW)
      have HK1 := Lib.hid hk1
      have HW : Hid (wr.alloc (.cells #[.string s, .int .i64 kd, .int .i64 lo, .int .i64 hi] 64) = W1) := hW1.symm
      have HN1 := Lib.hid hn1
      clear hf hok hs hdl hdh hx hbW hW1 hn1
      go_upto_region 8 with fail
      rw [HW.out, ← HN1.out]
      clear HW HN1 hbw b1 p0 p1 p2 p3
      have c0 := Joins.cell_of_block HK1.out 0
      have c1 := Joins.cell_of_block HK1.out 1
      have c2 := Joins.cell_of_block HK1.out 2
      have c3 := Joins.cell_of_block HK1.out 3
      have r2 : ∀ w', Fc.Old W1 w' → w'.cell? ⟨n1, 2, none⟩ = some (.int .i64 lo) := fun w' h => h.cell hlt1 (Joins.cell_of_block HK1.out 2)
      have r3 : ∀ w', Fc.Old W1 w' → w'.cell? ⟨n1, 3, none⟩ = some (.int .i64 hi) := fun w' h => h.cell hlt1 (Joins.cell_of_block HK1.out 3)
      clear hk1
      by_cases k1 : kd = 1
      · subst k1
        have HK := Lib.hid (HKF.out rfl)
        clear HKF HKN HKD HL HH c2 c3 r2 r3 h1 h2 h3 hkd
        go_wp2_with fail
        go_roundw
        case rel => exact ⟨k + 1, _, by omega, by go_num, rfl, HK, HX1⟩
        case measure => simp [intOf]; omega
      · have e1 : (kd == 1) = false := beq_eq_false_iff_ne.2 k1
        by_cases k2 : kd = 2
        · subst k2
          have HKK : Hid ((2 : Int) = 2 → True → x ++ s ++ ⟨#[32, 110, 117, 109, 98, 101, 114, 32]⟩ ++ dl ++ ⟨#[32, 116, 111, 32]⟩ ++ dh ++ ⟨#[59, 10]⟩ = Lx.str (Fc.dtext (l.take (k + 1)))) := fun h _ => HKN.out h
          clear HKF HKN HKD h1 h2 h3 hkd k1
          go_upto_region 14 with fail
          obtain ⟨y, hy⟩ : ∃ y : ByteArray, x ++ s ++ ⟨#[32, 110, 117, 109, 98, 101, 114, 32]⟩ = y := ⟨_, rfl⟩
          rw [hy]
          have hys : y.size ≤ 6100 := by rw [← hy, ByteArray.size_append, ByteArray.size_append]; show x.size + s.size + 8 ≤ 6100; omega
          have HK : Hid (y ++ dl ++ ⟨#[32, 116, 111, 32]⟩ ++ dh ++ ⟨#[59, 10]⟩ = Lx.str (Fc.dtext (l.take (k + 1)))) := by rw [← hy]; exact HKK.out (by omega) trivial
          clear hy hxs hss HKK
          have f1 : (9223372036854775807 < y.size + dl.size) = False := _root_.eq_false (by omega)
          have f2 : (9223372036854775807 < y.size + dl.size + 4) = False := _root_.eq_false (by omega)
          have f3 : (9223372036854775807 < y.size + dl.size + 4 + dh.size) = False := _root_.eq_false (by omega)
          have f4 : (9223372036854775807 < y.size + dl.size + 4 + dh.size + 2) = False := _root_.eq_false (by omega)
          go_region_held3 (fun w' => Fc.Old W1 w') (first | exact Fc.Old.refl W1 | exact Fc.Old.drew W1 | with_reducible assumption) (first | (go_at_call 49; (with_reducible refine (HL.out _).mono ?_); rintro en w5 ⟨rfl, rfl⟩) | (go_at_call 49; (with_reducible refine (HH.out _).mono ?_); rintro en w5 ⟨rfl, rfl⟩))
          all_goals
            have HXF := Lib.hid (HX1.out.next (Fc.Old.drew W1).out)
            clear c1 c2 c3 r2 r3 f1 f2 f3 f4
            go_wp2_with fail
            go_roundw
            case rel => exact ⟨k + 1, _, by omega, by go_num, rfl, HK, HXF⟩
            case measure => simp [intOf]; omega
        · have k3 : kd = 3 := by omega
          subst k3
          have HKK : Hid ((3 : Int) = 3 → True → x ++ s ++ ⟨#[32, 100, 97, 121, 32]⟩ ++ dl ++ ⟨#[32, 116, 111, 32]⟩ ++ dh ++ ⟨#[59, 10]⟩ = Lx.str (Fc.dtext (l.take (k + 1)))) := fun h _ => HKD.out h
          clear HKF HKN HKD h1 h2 h3 hkd k1 k2
          go_upto_region 14 with fail
          obtain ⟨y, hy⟩ : ∃ y : ByteArray, x ++ s ++ ⟨#[32, 100, 97, 121, 32]⟩ = y := ⟨_, rfl⟩
          rw [hy]
          have hys : y.size ≤ 6100 := by rw [← hy, ByteArray.size_append, ByteArray.size_append]; show x.size + s.size + 5 ≤ 6100; omega
          have HK : Hid (y ++ dl ++ ⟨#[32, 116, 111, 32]⟩ ++ dh ++ ⟨#[59, 10]⟩ = Lx.str (Fc.dtext (l.take (k + 1)))) := by rw [← hy]; exact HKK.out (by omega) trivial
          clear hy hxs hss HKK
          have f1 : (9223372036854775807 < y.size + dl.size) = False := _root_.eq_false (by omega)
          have f2 : (9223372036854775807 < y.size + dl.size + 4) = False := _root_.eq_false (by omega)
          have f3 : (9223372036854775807 < y.size + dl.size + 4 + dh.size) = False := _root_.eq_false (by omega)
          have f4 : (9223372036854775807 < y.size + dl.size + 4 + dh.size + 2) = False := _root_.eq_false (by omega)
          go_region_held3 (fun w' => Fc.Old W1 w') (first | exact Fc.Old.refl W1 | exact Fc.Old.drew W1 | with_reducible assumption) (first | (go_at_call 49; (with_reducible refine (HL.out _).mono ?_); rintro en w5 ⟨rfl, rfl⟩) | (go_at_call 49; (with_reducible refine (HH.out _).mono ?_); rintro en w5 ⟨rfl, rfl⟩))
          all_goals
            have HXF := Lib.hid (HX1.out.next (Fc.Old.drew W1).out)
            clear c1 c2 c3 r2 r3 f1 f2 f3 f4
            go_wp2_with fail
            go_roundw
            case rel => exact ⟨k + 1, _, by omega, by go_num, rfl, HK, HXF⟩
            case measure => simp [intOf]; omega
    · have hki : ¬ (k : Int) < (n : Int) := by omega
      have hxz : z = x := by rw [HZ.out, hx.out, List.take_of_length_le (by rw [← HN.out]; omega)]
      subst hxz
      clear hx
      go_wp2_with fail
      go_ret
      exact ⟨rfl, hbw.out.below⟩
end Go.Proofs.YtoamkanofhhjfaaGreatDoor
/-
  The walk of the reference's CaseText.
-/
namespace Go.Proofs.YtoamkanofhhjfaaGreatDoor
open Go.RowKit

theorem reffits_is (v u : Value) (l : List Fc.Fact) (m : List Int) (w : World) (hv : Fc.IsF w v l) (hu : Fc.IsN w u m) (b : Bool) (h : b = true ↔ Fc.Fit l m) :
    Calls Tryz.prog 15 #[.agg #[v], u] w (Fc.Gives (.bool b) w) :=
  (reffits_walk v u l m w hv hu).mono fun _ _ hs => hs.gives b h
namespace Fc
/-- The text of the first k values. -/
def ctake (d : List Fact) (m : List Int) (k : Nat) : Lx.T := ctext (d.take k) (m.take k)
theorem rtext_snoc (f : Fact) (x : Int) : ∀ (d : List Fact) (m : List Int), d.length = m.length → rtext (d ++ [f]) (m ++ [x]) = rtext d m ++ (44 :: 32 :: vtext f x)
  | [], [], _ => by simp [rtext]
  | [], _ :: _, h => by cases h
  | _ :: _, [], h => by cases h
  | g :: d, y :: m, h => by
    rw [List.cons_append, List.cons_append, rtext, rtext_snoc f x d m (by simpa using h), rtext]
    simp
theorem ctext_snoc (f : Fact) (x : Int) (d : List Fact) (m : List Int) (h : d.length = m.length) : ctext (d ++ [f]) (m ++ [x]) = (if d.length = 0 then [] else ctext d m ++ [44, 32]) ++ vtext f x := by
  cases d with
  | nil =>
    cases m with
    | nil => simp [ctext, rtext]
    | cons y m => cases h
  | cons g d =>
    cases m with
    | nil => cases h
    | cons y m =>
      rw [List.cons_append, List.cons_append, ctext, rtext_snoc f x d m (by simpa using h), if_neg (by simp), ctext]
      simp
theorem ctake_succ {d : List Fact} {m : List Int} {k : Nat} {f : Fact} {x : Int} (hf : d[k]? = some f) (hx : m[k]? = some x) : ctake d m (k + 1) = (if k = 0 then [] else ctake d m k ++ [44, 32]) ++ vtext f x := by
  have h1 := (List.getElem?_eq_some_iff.1 hf).1
  have h2 := (List.getElem?_eq_some_iff.1 hx).1
  unfold ctake
  rw [List.take_add_one, List.take_add_one, hf, hx]
  have := ctext_snoc f x (d.take k) (m.take k) (by rw [List.length_take, List.length_take]; omega)
  rw [List.length_take, Nat.min_eq_left (by omega)] at this
  exact this
end Fc

set_option maxHeartbeats 8000000 in
set_option maxRecDepth 100000 in
theorem refcasetext_walk (v u : Value) (l : List Fc.Fact) (m : List Int) (w : World) (hv : Fc.IsF w v l) (hu : Fc.IsN w u m) (hfit : Fc.Fit l m) :
    Calls Tryz.prog 21 #[.agg #[v], u] w (Fc.TextOut (Fc.ctext l m) w) := by
  obtain ⟨z, hz⟩ : ∃ z, z = Lx.str (Fc.ctext l m) := ⟨_, rfl⟩
  unfold Fc.TextOut
  rw [← hz]
  have HV : Hid (∀ w', Below w.heap.size w w' → Fc.IsF w' v l) := fun w' hb => hv.below hb
  have HU : Hid (∀ w', Below w.heap.size w w' → Fc.IsN w' u m) := fun w' hb => hu.below hb
  obtain ⟨a, c, g, o, rfl, hc1, hc2, hga, hcl⟩ := hv.any
  obtain ⟨a2, c2, g2, o2, rfl, hd1, hd2, hgb, hcm⟩ := hu.any
  obtain ⟨n, hn⟩ : ∃ n, n = m.length := ⟨_, rfl⟩
  have hnl : l.length = n := by rw [hn]; exact (Fc.within_len hfit.2).symm
  have hga2 : 0 < n → a = some ⟨g, o, none⟩ ∧ g < w.heap.size := fun h => hga (by rintro rfl; rw [← hnl] at h; simp at h)
  have hgb2 : 0 < n → a2 = some ⟨g2, o2, none⟩ ∧ g2 < w.heap.size := fun h => hgb (by rintro rfl; rw [hn] at h; simp at h)
  rw [← hn] at HU hcm ⊢
  rw [hnl] at HV ⊢
  have HC := Lib.hid hcl
  have HM := Lib.hid hcm
  have HN := Lib.hid (And.intro hn hnl)
  have HG := Lib.hid hga2
  have HG2 := Lib.hid hgb2
  have HZ := Lib.hid hz
  have hnb : n ≤ 60 := by rw [← hnl]; exact hfit.1.2.2
  have HB0 := Lib.hid (Boxed.start w (.slice a n c))
  have HFT := Lib.hid hfit
  clear hv hu hcl hcm hn hnl hga hgb hga2 hgb2 hc1 hc2 hd1 hd2 hz
  go_enter Tryz.func21, Tryz.ntmps21
  go_wp2_with fail
  refine (reffits_is _ _ l m _ (HV.out _ HB0.out.below) (HU.out _ HB0.out.below) true (by simp [hfit])).mono ?_
  rintro e w1 ⟨rfl, hb1⟩
  have hx := HB0.out.next hb1
  have q1 := hx.cell
  have HX := Lib.hid hx
  clear hb1 HB0 hx hfit HV HU
  go_wp2_with fail
  go_loopw [5, 6] (fun t i wr => ∃ (k : Nat) (x : ByteArray), k ≤ n ∧ i = .int .i64 k ∧ t = .string x ∧ Hid (x = Lx.str (Fc.ctake l m k)) ∧ Hid (Boxed w (.slice a n c) wr)) (fun _ i _ => n - (intOf i).toNat)
  case atStart => exact ⟨0, ⟨#[]⟩, Nat.zero_le _, rfl, rfl, rfl, HX.out⟩
  case round =>
    obtain ⟨k, x, hk, rfl, rfl, hx, hbw⟩ := hrel
    clear HX q1
    by_cases hlt : k < n
    · have hki : (k : Int) < (n : Int) := by omega
      have hk0 : (0 : Int) ≤ (k : Int) := by omega
      obtain ⟨⟨nm, kd, lo, hi⟩, hf⟩ : ∃ f, l[k]? = some f := ⟨_, List.getElem?_eq_getElem (by rw [HN.out.2]; exact hlt)⟩
      obtain ⟨y, hy⟩ : ∃ y, m[k]? = some y := ⟨_, List.getElem?_eq_getElem (by rw [← HN.out.1]; exact hlt)⟩
      have hok := HFT.out.1.1 _ (List.mem_of_getElem? hf)
      have hys := Fc.case_small HFT.out.1 HFT.out.2 y (List.mem_of_getElem? hy)
      obtain ⟨rfl, hg⟩ := HG.out (by omega)
      obtain ⟨rfl, hg2⟩ := HG2.out (by omega)
      obtain ⟨p0, _, _, _⟩ := HC.out k _ hf
      have p5 := HM.out k hlt
      rw [List.getD_eq_getElem?_getD, hy, Option.getD_some] at p5
      dsimp only at p0
      obtain ⟨s, hs⟩ : ∃ s, s = Lx.str nm := ⟨_, rfl⟩
      rw [← hs] at p0
      have hss : s.size ≤ 24 := by rw [hs, Fc.str_size]; exact hok.name.small
      have hxs : x.size ≤ 2400 := by
        rw [hx.out, Fc.str_size]
        have := Fc.ctext_len (l.take k) (m.take k) (fun f hf => HFT.out.1.1 f (List.mem_of_mem_take hf))
        rw [List.length_take] at this
        unfold Fc.ctake
        omega
      obtain ⟨dl, hdl⟩ : ∃ d, d = Lx.str (Lx.dec y.toNat) := ⟨_, rfl⟩
      have hzl : dl.size ≤ 7 := by rw [hdl, Fc.str_size]; exact dec_len _
      have HL := Lib.hid (fun w => decimal_is y hys.1 hys.2 w)
      rw [← hdl] at HL
      have hstep := Fc.ctake_succ hf hy
      have HK0 : Hid (k = 0 → x ++ s ++ ⟨#[32, 61, 32]⟩ ++ dl = Lx.str (Fc.ctake l m (k + 1))) := fun e => by
        have hx0 : x = ⟨#[]⟩ := by rw [hx.out, e]; rfl
        rw [hstep, if_pos e, hx0, hs, hdl, Fc.vtext]
        apply ByteArray.ext
        simp [Lx.str]
      have HK1 : Hid (k ≠ 0 → x ++ ⟨#[44, 32]⟩ ++ s ++ ⟨#[32, 61, 32]⟩ ++ dl = Lx.str (Fc.ctake l m (k + 1))) := fun e => by
        rw [hstep, if_neg e, hx.out, hs, hdl, Fc.vtext]
        apply ByteArray.ext
        simp [Lx.str]
      have r2 : ∀ w', Fc.Old wr w' → w'.cell? ⟨w.heap.size, 0, none⟩ = some (.slice (some ⟨g, o, none⟩) n c) := fun w' h => (hbw.out.next h.out).cell
      have r3 : ∀ w', Fc.Old wr w' → w'.cell? ⟨g, o + k * 4, none⟩ = some (.string s) := fun w' h => ((hbw.out.next h.out).below.cell (p := ⟨g, o + k * 4, none⟩) hg).trans p0
      have r4 : ∀ w', Fc.Old wr w' → w'.cell? ⟨g2, o2 + k, none⟩ = some (.int .i64 y) := fun w' h => ((hbw.out.next h.out).below.cell (p := ⟨g2, o2 + k, none⟩) hg2).trans p5
      have HXF := Lib.hid (hbw.out.next (Fc.Old.drew wr).out)
      clear hf hy hok hs hdl hx hbw p0 p5 hstep hys
      by_cases k0 : k = 0
      · have HK := Lib.hid (HK0.out k0)
        have hk0i : ¬ (0 : Int) < (k : Int) := by omega
        have f1 : (9223372036854775807 < x.size + s.size) = False := _root_.eq_false (by omega)
        have f2 : (9223372036854775807 < x.size + s.size + 3) = False := _root_.eq_false (by omega)
        have f3 : (9223372036854775807 < x.size + s.size + 3 + dl.size) = False := _root_.eq_false (by omega)
        clear HK0 HK1 k0
        go_wp2_with fail
        go_region_held3 (fun w' => Fc.Old wr w') (first | exact Fc.Old.refl wr | exact Fc.Old.drew wr | with_reducible assumption) (first | (go_at_call 49; (with_reducible refine (HL.out _).mono ?_); rintro en w5 ⟨rfl, rfl⟩))
        clear r2 r3 r4 f1 f2 f3
        go_wp2_with fail
        go_roundw
        case rel => exact ⟨k + 1, _, by omega, by go_num, rfl, HK, HXF⟩
        case measure => simp [intOf]; omega
      · have HK := Lib.hid (HK1.out k0)
        have hk0i : (0 : Int) < (k : Int) := by omega
        clear HK0 HK1 k0
        go_upto_region 9 with fail
        obtain ⟨q, hq⟩ : ∃ q : ByteArray, x ++ ⟨#[44, 32]⟩ = q := ⟨_, rfl⟩
        rw [hq] at HK ⊢
        have hqs : q.size ≤ 2402 := by rw [← hq, ByteArray.size_append]; show x.size + 2 ≤ 2402; omega
        clear hq hxs
        have f1 : (9223372036854775807 < q.size + s.size) = False := _root_.eq_false (by omega)
        have f2 : (9223372036854775807 < q.size + s.size + 3) = False := _root_.eq_false (by omega)
        have f3 : (9223372036854775807 < q.size + s.size + 3 + dl.size) = False := _root_.eq_false (by omega)
        go_region_held3 (fun w' => Fc.Old wr w') (first | exact Fc.Old.refl wr | exact Fc.Old.drew wr | with_reducible assumption) (first | (go_at_call 49; (with_reducible refine (HL.out _).mono ?_); rintro en w5 ⟨rfl, rfl⟩))
        clear r2 r3 r4 f1 f2 f3
        go_wp2_with fail
        go_roundw
        case rel => exact ⟨k + 1, _, by omega, by go_num, rfl, HK, HXF⟩
        case measure => simp [intOf]; omega
    · have hki : ¬ (k : Int) < (n : Int) := by omega
      have hxz : z = x := by rw [HZ.out, hx.out, Fc.ctake, List.take_of_length_le (by rw [HN.out.2]; omega), List.take_of_length_le (by rw [← HN.out.1]; omega)]
      subst hxz
      clear hx
      go_wp2_with fail
      go_ret
      exact ⟨rfl, hbw.out.below⟩
end Go.Proofs.YtoamkanofhhjfaaGreatDoor
