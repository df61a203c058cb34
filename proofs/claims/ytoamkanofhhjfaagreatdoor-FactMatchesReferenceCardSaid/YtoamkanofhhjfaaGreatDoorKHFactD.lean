import Derived.Test.YtoamkanofhhjfaaGreatDoorKHFactB
import Derived.Test.YtoamkanofhhjfaaGreatDoorKFOrdA
/-
  The walk of the reference's reader of a fact: days. (Written by wip/tools/gen_reffact.py.)
-/
namespace Go.Proofs.YtoamkanofhhjfaaGreatDoor
open Go.RowKit
open Fc (zt vT want sees Aft)

set_option maxHeartbeats 40000000 in
set_option maxRecDepth 100000 in
theorem reffact_D (R e : Nat) (lv : Value) (L l : List Lx.Tok) (base : Nat) (d : List Fc.Fact) (dv : Value) (w : World) (hrx0 : Fc.RX R e lv L (.ok l) w) (hL : L.length ≤ 5000) (hown : Fc.OwnF base d dv w) (hbase : base ≤ w.heap.size) (hRb : R < base) (hvd : Fc.Valid d) (hcc : ∃ nm l1, Fc.want 1 [] e l = .ok (nm, l1) ∧ nm.text ∉ d.map (·.name) ∧ ¬ d.length = 60 ∧ Fc.sees 1 Fc.wFlag l1 = false ∧ Fc.sees 1 Fc.wDay l1 = true) :
    Calls Tryz.prog 32 #[.pointer (some ⟨R, 0, none⟩), .agg #[dv]] w (Fc.FactOut R e lv L base d w (Fc.fact1 e d l)) := by
  obtain ⟨X, hX⟩ : ∃ X, X = Fc.fact1 e d l := ⟨_, rfl⟩
  rw [← hX]
  obtain ⟨⟨ga, gc⟩, rfl⟩ := hown.form
  dsimp only at hown ⊢
  obtain ⟨N3, hN3⟩ : ∃ n, n = w.heap.size := ⟨_, rfl⟩
  obtain ⟨N4, hN4⟩ : ∃ n, n = w.heap.size + 1 := ⟨_, rfl⟩
  obtain ⟨W0, hW0⟩ : ∃ W, W = (w.alloc (.cells #[.slice ga d.length gc] 24)).alloc (.cells #[.slice none 0 0] 24) := ⟨_, rfl⟩
  have hs0 : Fc.FS R e lv L (.slice ga d.length gc) N3 N4 w (.ok l) W0 := by
    have hb0 : Below w.heap.size w W0 := by rw [hW0]; exact ((Below.refl _ _).alloc (Nat.le_refl _) _).alloc (by simp) _
    have hb2 := (Fc.Box2.start w (.slice ga d.length gc) (.slice none 0 0))
    refine ⟨hrx0.below hb0, Fc.Rd.of R hb0, ?_, ?_, by omega, by omega, by omega⟩
    · rw [hW0, hN3, Below.heap_alloc _ _ _ (by simp)]; exact heap_alloc_new _ _
    · rw [hW0, hN4]
      have := heap_alloc_new (w.alloc (.cells #[.slice ga d.length gc] 24)) (.cells #[.slice none 0 0] 24)
      simpa using this
  have HS := Lib.hid hs0
  have HO := Lib.hid hown
  have HC2 := Lib.hid (And.intro hbase hRb)
  have HC2B : Hid (N3 < N4) := (by omega : N3 < N4)
  have HC : Hid (R < N4) := (by have := hs0.old; omega : R < N4)
  have HD6 : Hid (d.length < 1000000) := (by have := hvd.2.2; omega : d.length < 1000000)
  have HVD := Lib.hid hvd
  have HCC := Lib.hid hcc
  have hn60 := hvd.2.2
  have HX := Lib.hid hX
  have HW0 : Hid ((w.alloc (.cells #[.slice ga d.length gc] 24)).alloc (.cells #[.slice none 0 0] 24) = W0) := hW0.symm
  have HN3 := Lib.hid hN3
  have HN4 := Lib.hid hN4
  clear hcc hs0 hown hbase hRb hvd hX hW0 hN3 hN4 hrx0
  unfold Fc.fact1 at HX
  go_enter Tryz.func32, Tryz.ntmps32
  go_upto_region 1 with fail
  rw [HW0.out, ← HN4.out, ← HN3.out]
  clear HW0 HN3 HN4
  go_wp2_with fail
  cases hw1 : Fc.want 1 [] e l with
  | error z =>
    obtain ⟨_, _, h1, _⟩ := HCC.out
    rw [hw1] at h1
    cases h1
  | ok y =>
    obtain ⟨nm, l1⟩ := y
    obtain ⟨nm', l1', h1, hcf⟩ := HCC.out
    rw [hw1] at h1
    cases h1
    have HCF := Lib.hid hcf
    clear hcf
    replace HX : Hid (X = if nm.text ∈ d.map (·.name) then .error (9, nm.at_) else if d.length = 60 then .error (2, nm.at_) else if Fc.sees 1 Fc.wFlag l1 then (Fc.want 3 [59] e (l1.drop 1)).bind fun z => .ok (⟨nm.text, 1, 0, 1⟩, z.2) else (Fc.kindOf e l1).bind fun k => Fc.range e nm.text k.1 k.2) := by have := HX.out; rw [hw1] at this; exact this
    refine (take_ok R e lv L _ 1 ⟨#[]⟩ _ HS.out.rx hL hw1).mono ?_
    rintro en102 w102 ⟨rfl, hrx, hrd⟩
    replace HS := Lib.hid (HS.out.aft hrx hrd)
    clear hrx hrd
    clear hw1
    obtain ⟨W102, hW⟩ : ∃ W, W = w102.alloc (.cells #[.int .i64 (nm.kind : Nat), .string (Lx.str nm.text), .int .i64 (nm.n : Nat), .int .i64 (nm.at_ : Nat)] 60) := ⟨_, rfl⟩
    obtain ⟨n5, hn⟩ : ∃ n, n = w102.heap.size := ⟨_, rfl⟩
    have hb : Below w102.heap.size w102 W102 := by rw [hW]; exact (Below.refl _ _).alloc (Nat.le_refl _) _
    have HT5 : Hid (Fc.TokB N4 n5 nm W102) := by rw [hW, hn]; exact Fc.TokB.new nm HS.out.lt
    replace HS := Lib.hid (HS.out.next hb)
    have HW : Hid (w102.alloc (.cells #[.int .i64 (nm.kind : Nat), .string (Lx.str nm.text), .int .i64 (nm.n : Nat), .int .i64 (nm.at_ : Nat)] 60) = W102) := hW.symm
    have HN := Lib.hid hn
    clear hb hW hn
    go_upto_region 2 with fail
    rw [HW.out, ← HN.out]
    clear HW HN
    have c3 := HS.out.rx.err_ok
    have d3 := Joins.cell_of_block HS.out.b3 0
    have s5 := HT5.out.text
    go_wp2_with fail
    clear c3 d3 s5
    obtain ⟨zz, hzz⟩ : ∃ z, z = Fc.idx d nm.text := ⟨_, rfl⟩
    have hix := refindex_walk (.slice ga d.length gc) d (Lx.str nm.text) W102 ((HO.out.kept fun j h1 h2 => HS.out.fr.block j h2 (by have := HC2.out.2; omega)).isF HVD.out.sized)
    rw [Lx.tx_str, ← hzz] at hix
    refine hix.mono ?_
    rintro en2 w2 ⟨rfl, hb⟩
    replace HS := Lib.hid (HS.out.next hb)
    replace HT5 := Lib.hid (HT5.out.next hb)
    clear hb hix
    by_cases hmem : nm.text ∈ d.map (·.name)
    · have hz0 : 0 ≤ zz := by rw [hzz]; exact Fc.idx_in hmem
      exact absurd hmem HCF.out.1
    have hz0 : ¬ 0 ≤ zz := by rw [hzz]; exact Fc.idx_out hmem
    have e1 : decide (0 ≤ zz) = false := decide_eq_false hz0
    replace HX : Hid (X = if d.length = 60 then .error (2, nm.at_) else if Fc.sees 1 Fc.wFlag l1 then (Fc.want 3 [59] e (l1.drop 1)).bind fun z => .ok (⟨nm.text, 1, 0, 1⟩, z.2) else (Fc.kindOf e l1).bind fun k => Fc.range e nm.text k.1 k.2) := by rw [HX.out, if_neg hmem]; rfl
    clear hzz hmem
    have c3 := HS.out.rx.err_ok
    have d3 := Joins.cell_of_block HS.out.b3 0
    by_cases h60 : d.length = 60
    · have e2 : ((d.length : Int) == 60) = true := by rw [beq_iff_eq]; omega
      exact absurd h60 HCF.out.2.1
    have e2 : ((d.length : Int) == 60) = false := beq_eq_false_iff_ne.2 (by omega)
    replace HX : Hid (X = if Fc.sees 1 Fc.wFlag l1 then (Fc.want 3 [59] e (l1.drop 1)).bind fun z => .ok (⟨nm.text, 1, 0, 1⟩, z.2) else (Fc.kindOf e l1).bind fun k => Fc.range e nm.text k.1 k.2) := by rw [HX.out, if_neg h60]; rfl
    have s5 := HT5.out.text
    obtain ⟨W105, hW⟩ : ∃ X, X = w2.alloc (.cells #[.string (Lx.str nm.text), .int .i64 1, .int .i64 0, .int .i64 1] 64) := ⟨_, rfl⟩
    obtain ⟨n6, hn⟩ : ∃ n, n = w2.heap.size := ⟨_, rfl⟩
    have hb : Below w2.heap.size w2 W105 := by rw [hW]; exact (Below.refl _ _).alloc (Nat.le_refl _) _
    have HFB : Hid (Fc.FB N4 n6 ⟨nm.text, 1, 0, 1⟩ W105) := by rw [hW, hn]; exact ⟨HS.out.lt, heap_alloc_new _ _⟩
    replace HS := Lib.hid (HS.out.next hb)
    replace HT5 := Lib.hid (HT5.out.next hb)
    have HW : Hid (w2.alloc (.cells #[.string (Lx.str nm.text), .int .i64 1, .int .i64 0, .int .i64 1] 64) = W105) := hW.symm
    have HN := Lib.hid hn
    clear hb hW hn
    go_upto_region 7 with fail
    rw [HW.out, ← HN.out]
    clear HW HN
    try clear c3 e0
    try clear s5
    try clear d3
    try clear c3
    try clear d3
    clear e1 hz0 e2 h60
    go_wp2_with fail
    cases hsf : Fc.sees 1 Fc.wFlag l1 with
    | true =>
      rw [HCF.out.2.2.1] at hsf
      cases hsf
    | false =>
      replace HX : Hid (X = (Fc.kindOf e l1).bind fun k => Fc.range e nm.text k.1 k.2) := by rw [HX.out, hsf]; rfl
      refine (sees_ok R e lv L _ 1 ⟨#[102, 108, 97, 103]⟩ _ HS.out.rx false hsf.symm).mono ?_
      rintro en109 w109 ⟨rfl, hrx, hrd⟩
      replace HS := Lib.hid (HS.out.aft hrx hrd)
      replace HT5 := Lib.hid (HT5.out.aft hrd HC.out)
      replace HFB := Lib.hid (HFB.out.aft hrd HC.out)
      clear hrx hrd
      clear hsf
      have f6 := Joins.cell_of_block HFB.out.2 1
      have u6 := Joins.unfrozen_of_block HFB.out.2 1
      have hs := HS.out.set (m := n6) (i := 1) (v := .int .i64 2) HFB.out.1
      have hf := HFB.out.kind 2
      have ht5 := HT5.out.set (m := n6) (i := 1) (v := .int .i64 2) (by exact Fc.tok_ne HT5.out HFB.out)
      replace HS := Lib.hid hs
      replace HFB := Lib.hid hf
      replace HT5 := Lib.hid ht5
      clear hs hf ht5
      go_wp2_with fail
      clear f6 u6
      cases hsd : Fc.sees 1 Fc.wDay l1 with
      | true =>
        replace HX : Hid (X = Fc.range e nm.text 3 (l1.drop 1)) := by rw [HX.out]; unfold Fc.kindOf; rw [hsd]; rfl
        refine (sees_ok R e lv L _ 1 ⟨#[100, 97, 121]⟩ _ HS.out.rx true hsd.symm).mono ?_
        rintro en110 w110 ⟨rfl, hrx, hrd⟩
        replace HS := Lib.hid (HS.out.aft hrx hrd)
        replace HT5 := Lib.hid (HT5.out.aft hrd HC.out)
        replace HFB := Lib.hid (HFB.out.aft hrd HC.out)
        clear hrx hrd
        have f6 := Joins.cell_of_block HFB.out.2 1
        have u6 := Joins.unfrozen_of_block HFB.out.2 1
        have hs := HS.out.set (m := n6) (i := 1) (v := .int .i64 3) HFB.out.1
        have hf := HFB.out.kind 3
        have ht5 := HT5.out.set (m := n6) (i := 1) (v := .int .i64 3) (by exact Fc.tok_ne HT5.out HFB.out)
        replace HS := Lib.hid hs
        replace HFB := Lib.hid hf
        replace HT5 := Lib.hid ht5
        clear hs hf ht5
        obtain ⟨i, hi5, c1, u1, hrx, hrd⟩ := HS.out.rx.inc (by rintro rfl; cases hsd) hL
        clear hsd
        replace HS := Lib.hid (HS.out.aft hrx hrd)
        replace HT5 := Lib.hid (HT5.out.aft hrd HC.out)
        replace HFB := Lib.hid (HFB.out.aft hrd HC.out)
        clear hrx hrd
        have hi1 : wrap64 ((i : Int) + 1) = (i : Int) + 1 := by unfold wrap64; omega
        obtain ⟨l2, hl2⟩ : ∃ x, x = l1.drop 1 := ⟨_, rfl⟩
        rw [← hl2] at HS HX
        clear hl2
        go_wp2_with fail
        clear c1 u1 hi1 f6 u6
        unfold Fc.range at HX
        cases hw3 : Fc.want 2 [] e l2 with
        | error z =>
          replace HX : Hid (X = .error z) := by rw [HX.out, hw3]; rfl
          obtain ⟨t7, ht7⟩ : ∃ t, t = Fc.zt := ⟨_, rfl⟩
          refine (take_no R e lv L _ 2 ⟨#[]⟩ _ HS.out.rx hL hw3).mono ?_
          rintro en111 w111 ⟨rfl, hrx, hrd⟩
          replace HS := Lib.hid (HS.out.aft hrx hrd)
          replace HT5 := Lib.hid (HT5.out.aft hrd HC.out)
          replace HFB := Lib.hid (HFB.out.aft hrd HC.out)
          clear hrx hrd
          rw [← ht7]
          have HZ7 : Hid (t7.n = 0) := by rw [ht7]; rfl
          clear ht7 hw3
          obtain ⟨W111, hW⟩ : ∃ W, W = w111.alloc (.cells #[.int .i64 (t7.kind : Nat), .string (Lx.str t7.text), .int .i64 (t7.n : Nat), .int .i64 (t7.at_ : Nat)] 60) := ⟨_, rfl⟩
          obtain ⟨n7, hn⟩ : ∃ n, n = w111.heap.size := ⟨_, rfl⟩
          have hb : Below w111.heap.size w111 W111 := by rw [hW]; exact (Below.refl _ _).alloc (Nat.le_refl _) _
          have HT7 : Hid (Fc.TokB N4 n7 t7 W111) := by rw [hW, hn]; exact Fc.TokB.new t7 HS.out.lt
          replace HS := Lib.hid (HS.out.next hb)
          replace HT5 := Lib.hid (HT5.out.next hb)
          replace HFB := Lib.hid (HFB.out.next hb)
          have HW : Hid (w111.alloc (.cells #[.int .i64 (t7.kind : Nat), .string (Lx.str t7.text), .int .i64 (t7.n : Nat), .int .i64 (t7.at_ : Nat)] 60) = W111) := hW.symm
          have HN := Lib.hid hn
          clear hb hW hn
          go_upto_region 15 with fail
          rw [HW.out, ← HN.out]
          clear HW HN
          have s7 := HT7.out.num
          rw [HZ7.out] at s7
          replace s7 := s7.trans (show some (Value.int .i64 ((0 : Nat) : Int)) = some (Value.int .i64 0) from rfl)
          go_wp2_with fail
          clear s7
          refine (take_err R e lv L z 1 ⟨#[116, 111]⟩ _ HS.out.rx hL).mono ?_
          rintro en112 w112 ⟨rfl, hrx, hrd⟩
          replace HS := Lib.hid (HS.out.aft hrx hrd)
          replace HT5 := Lib.hid (HT5.out.aft hrd HC.out)
          replace HT7 := Lib.hid (HT7.out.aft hrd HC.out)
          replace HFB := Lib.hid (HFB.out.aft hrd HC.out)
          clear hrx hrd
          go_wp2_with fail
          obtain ⟨t8, ht8⟩ : ∃ t, t = Fc.zt := ⟨_, rfl⟩
          refine (take_err R e lv L z 2 ⟨#[]⟩ _ HS.out.rx hL).mono ?_
          rintro en113 w113 ⟨rfl, hrx, hrd⟩
          replace HS := Lib.hid (HS.out.aft hrx hrd)
          replace HT5 := Lib.hid (HT5.out.aft hrd HC.out)
          replace HT7 := Lib.hid (HT7.out.aft hrd HC.out)
          replace HFB := Lib.hid (HFB.out.aft hrd HC.out)
          clear hrx hrd
          rw [← ht8]
          have HZ8 : Hid (t8.n = 0) := by rw [ht8]; rfl
          clear ht8
          obtain ⟨W113, hW⟩ : ∃ W, W = w113.alloc (.cells #[.int .i64 (t8.kind : Nat), .string (Lx.str t8.text), .int .i64 (t8.n : Nat), .int .i64 (t8.at_ : Nat)] 60) := ⟨_, rfl⟩
          obtain ⟨n8, hn⟩ : ∃ n, n = w113.heap.size := ⟨_, rfl⟩
          have hb : Below w113.heap.size w113 W113 := by rw [hW]; exact (Below.refl _ _).alloc (Nat.le_refl _) _
          have HT8 : Hid (Fc.TokB N4 n8 t8 W113) := by rw [hW, hn]; exact Fc.TokB.new t8 HS.out.lt
          replace HS := Lib.hid (HS.out.next hb)
          replace HT5 := Lib.hid (HT5.out.next hb)
          replace HT7 := Lib.hid (HT7.out.next hb)
          replace HFB := Lib.hid (HFB.out.next hb)
          have HW : Hid (w113.alloc (.cells #[.int .i64 (t8.kind : Nat), .string (Lx.str t8.text), .int .i64 (t8.n : Nat), .int .i64 (t8.at_ : Nat)] 60) = W113) := hW.symm
          have HN := Lib.hid hn
          clear hb hW hn
          go_upto_region 19 with fail
          rw [HW.out, ← HN.out]
          clear HW HN
          have s7 := HT7.out.num
          rw [HZ7.out] at s7
          replace s7 := s7.trans (show some (Value.int .i64 ((0 : Nat) : Int)) = some (Value.int .i64 0) from rfl)
          have s8 := HT8.out.num
          rw [HZ8.out] at s8
          replace s8 := s8.trans (show some (Value.int .i64 ((0 : Nat) : Int)) = some (Value.int .i64 0) from rfl)
          have f62 := Joins.cell_of_block HFB.out.2 2
          have u62 := Joins.unfrozen_of_block HFB.out.2 2
          have hs := HS.out.set (m := n6) (i := 2) (v := .int .i64 0) HFB.out.1
          have hf := HFB.out.lo 0
          have ht7 := HT7.out.set (m := n6) (i := 2) (v := .int .i64 0) (by exact Fc.tok_ne HT7.out HFB.out)
          have ht8 := HT8.out.set (m := n6) (i := 2) (v := .int .i64 0) (by exact Fc.tok_ne HT8.out HFB.out)
          have f63 := Joins.cell_of_block hf.2 3
          have u63 := Joins.unfrozen_of_block hf.2 3
          have s8b := ht8.num
          rw [HZ8.out] at s8b
          replace s8b := s8b.trans (show some (Value.int .i64 ((0 : Nat) : Int)) = some (Value.int .i64 0) from rfl)
          have hs := hs.set (m := n6) (i := 3) (v := .int .i64 0) hf.1
          have hf := hf.hi 0
          replace HS := Lib.hid hs
          replace HFB := Lib.hid hf
          clear hs hf ht7 ht8
          go_wp2_with fail
          clear f62 u62 f63 u63 s7 s8 s8b
          refine (take_err R e lv L z 3 ⟨#[59]⟩ _ HS.out.rx hL).mono ?_
          rintro en114 w114 ⟨rfl, hrx, hrd⟩
          replace HS := Lib.hid (HS.out.aft hrx hrd)
          replace HFB := Lib.hid (HFB.out.aft hrd HC.out)
          clear hrx hrd
          have d3 := Joins.cell_of_block HS.out.b3 0
          have f0 := Joins.cell_of_block HFB.out.2 0
          have f1 := Joins.cell_of_block HFB.out.2 1
          have f2 := Joins.cell_of_block HFB.out.2 2
          have f3 := Joins.cell_of_block HFB.out.2 3
          have HOW : Hid (∀ o, Fc.OwnF base d (.slice ga d.length gc) (w114.alloc o)) := fun o => HO.out.kept fun j h1 h2 => (HS.out.next ((Below.refl _ _).alloc (Nat.le_refl _) o)).fr.block j h2 (by have := HC2.out.2; omega)
          have HBW : Hid (∀ o, base ≤ (w114.alloc o).heap.size) := fun o => Nat.le_trans HC2.out.1 (HS.out.next ((Below.refl _ _).alloc (Nat.le_refl _) o)).fr.size
          dsimp only at f0 f1 f2 f3
          go_wp2_with (first | (at_builtin; refine wpList_append_fact _ rfl (.tmp 103) (.tmp 105) rfl base d _ rfl (HOW.out _) ⟨_, _, _, _⟩ w114.heap.size (0, 0) _ rfl (heap_alloc_new w114 _) HD6.out (HBW.out _) ?_; intro g9 c9 w99 ho9 hg9; obtain ⟨e3, e4, e5, e6, e7⟩ := Fc.fact_end HS.out HO.out HC2.out.1 HC2.out.2 ho9 hg9 (.slice (some ⟨g9, 0, none⟩) (d.length + 1) c9); have e8 := e7 (Fc.row_apart (dv := .slice ga d.length gc) ho9 (.inl e3)) (Fc.row_apart (dv := .slice ga d.length gc) ho9 (.inr e4)); have d3 := Joins.cell_of_block e3 0; have u3 := Joins.unfrozen_of_block e3 0; have d4 := (Joins.cell_of_block ((Below.heap_setCell w99 ⟨N3, 0, none⟩ (.slice (some ⟨g9, 0, none⟩) (d.length + 1) c9) N4 (by have h9 := HC2B.out; show N4 ≠ N3; omega)).trans e4) 0); have u4 := (Joins.unfrozen_of_block ((Below.heap_setCell w99 ⟨N3, 0, none⟩ (.slice (some ⟨g9, 0, none⟩) (d.length + 1) c9) N4 (by have h9 := HC2B.out; show N4 ≠ N3; omega)).trans e4) 0); have HE := Lib.hid (And.intro e5 (And.intro e6 e8)); have HE4 := Lib.hid e4; have HE3 := Lib.hid e3; clear e3 e4 e5 e6 e7 e8 ho9 hg9))
          have k4 : ((w99.setCell ⟨N3, 0, none⟩ (.slice (some ⟨g9, 0, none⟩) (d.length + 1) c9)).setCell ⟨N4, 0, none⟩ (.slice (some ⟨g9, 0, none⟩) (d.length + 1) c9)).cell? ⟨N4, 0, none⟩ = some (.slice (some ⟨g9, 0, none⟩) (d.length + 1) c9) := Joins.cell_of_block (Joins.block_setCell ((Below.heap_setCell w99 ⟨N3, 0, none⟩ _ N4 (by have h9 := HC2B.out; show N4 ≠ N3; omega)).trans HE4.out) _) 0
          refine bodyPost_ret (v := .agg #[.slice (some ⟨g9, 0, none⟩) (d.length + 1) c9]) ?_ rfl ?_
          · simp [results, Tryz.f32, go_sem, k4]
          · rw [HX.out]; exact ⟨_, _, rfl, HE.out.2.1, HE.out.1⟩
        | ok y =>
          obtain ⟨lo, l3⟩ := y
          replace HX : Hid (X = if 1000000 < lo.n then .error (10, lo.at_) else (Fc.want 1 Fc.wTo e l3).bind fun to_ => (Fc.want 2 [] e to_.2).bind fun hi => if 1000000 < hi.1.n ∨ hi.1.n < lo.n then .error (10, hi.1.at_) else (Fc.want 3 [59] e hi.2).bind fun z => .ok (⟨nm.text, 3, lo.n, hi.1.n⟩, z.2)) := by rw [HX.out, hw3]; rfl
          refine (take_ok R e lv L _ 2 ⟨#[]⟩ _ HS.out.rx hL hw3).mono ?_
          rintro en115 w115 ⟨rfl, hrx, hrd⟩
          replace HS := Lib.hid (HS.out.aft hrx hrd)
          replace HT5 := Lib.hid (HT5.out.aft hrd HC.out)
          replace HFB := Lib.hid (HFB.out.aft hrd HC.out)
          clear hrx hrd
          clear hw3
          obtain ⟨W115, hW⟩ : ∃ W, W = w115.alloc (.cells #[.int .i64 (lo.kind : Nat), .string (Lx.str lo.text), .int .i64 (lo.n : Nat), .int .i64 (lo.at_ : Nat)] 60) := ⟨_, rfl⟩
          obtain ⟨n7, hn⟩ : ∃ n, n = w115.heap.size := ⟨_, rfl⟩
          have hb : Below w115.heap.size w115 W115 := by rw [hW]; exact (Below.refl _ _).alloc (Nat.le_refl _) _
          have HT7 : Hid (Fc.TokB N4 n7 lo W115) := by rw [hW, hn]; exact Fc.TokB.new lo HS.out.lt
          replace HS := Lib.hid (HS.out.next hb)
          replace HT5 := Lib.hid (HT5.out.next hb)
          replace HFB := Lib.hid (HFB.out.next hb)
          have HW : Hid (w115.alloc (.cells #[.int .i64 (lo.kind : Nat), .string (Lx.str lo.text), .int .i64 (lo.n : Nat), .int .i64 (lo.at_ : Nat)] 60) = W115) := hW.symm
          have HN := Lib.hid hn
          clear hb hW hn
          go_upto_region 15 with fail
          rw [HW.out, ← HN.out]
          clear HW HN
          have s7 := HT7.out.num
          have s7a := HT7.out.at'
          by_cases h7 : 1000000 < lo.n
          · have q1 : decide ((1000000 : Int) < (lo.n : Nat)) = true := decide_eq_true (by omega)
            have q2 : decide (1000000 < lo.n) = true := decide_eq_true h7
            have q3 : (1000000 : Int) < (lo.n : Nat) := by omega
            replace HX : Hid (X = .error (10, lo.at_)) := by rw [HX.out, if_pos h7]; rfl
            go_wp2_with fail
            clear s7 s7a q1 q2 q3
            refine (fault_ok R e lv L _ 10 lo.at_ (by decide) _ HS.out.rx).mono ?_
            rintro en116 w116 ⟨rfl, hrx, hrd⟩
            replace HS := Lib.hid (HS.out.aft hrx hrd)
            replace HT5 := Lib.hid (HT5.out.aft hrd HC.out)
            replace HT7 := Lib.hid (HT7.out.aft hrd HC.out)
            replace HFB := Lib.hid (HFB.out.aft hrd HC.out)
            clear hrx hrd
            obtain ⟨z, hz⟩ : ∃ z : Nat × Nat, z = (10, lo.at_) := ⟨_, rfl⟩
            rw [← hz] at HS HX
            clear hz
            go_wp2_with fail
            refine (take_err R e lv L z 1 ⟨#[116, 111]⟩ _ HS.out.rx hL).mono ?_
            rintro en117 w117 ⟨rfl, hrx, hrd⟩
            replace HS := Lib.hid (HS.out.aft hrx hrd)
            replace HT5 := Lib.hid (HT5.out.aft hrd HC.out)
            replace HT7 := Lib.hid (HT7.out.aft hrd HC.out)
            replace HFB := Lib.hid (HFB.out.aft hrd HC.out)
            clear hrx hrd
            go_wp2_with fail
            obtain ⟨t8, ht8⟩ : ∃ t, t = Fc.zt := ⟨_, rfl⟩
            refine (take_err R e lv L z 2 ⟨#[]⟩ _ HS.out.rx hL).mono ?_
            rintro en118 w118 ⟨rfl, hrx, hrd⟩
            replace HS := Lib.hid (HS.out.aft hrx hrd)
            replace HT5 := Lib.hid (HT5.out.aft hrd HC.out)
            replace HT7 := Lib.hid (HT7.out.aft hrd HC.out)
            replace HFB := Lib.hid (HFB.out.aft hrd HC.out)
            clear hrx hrd
            rw [← ht8]
            have HZ8 : Hid (t8.n = 0) := by rw [ht8]; rfl
            clear ht8
            obtain ⟨W118, hW⟩ : ∃ W, W = w118.alloc (.cells #[.int .i64 (t8.kind : Nat), .string (Lx.str t8.text), .int .i64 (t8.n : Nat), .int .i64 (t8.at_ : Nat)] 60) := ⟨_, rfl⟩
            obtain ⟨n8, hn⟩ : ∃ n, n = w118.heap.size := ⟨_, rfl⟩
            have hb : Below w118.heap.size w118 W118 := by rw [hW]; exact (Below.refl _ _).alloc (Nat.le_refl _) _
            have HT8 : Hid (Fc.TokB N4 n8 t8 W118) := by rw [hW, hn]; exact Fc.TokB.new t8 HS.out.lt
            replace HS := Lib.hid (HS.out.next hb)
            replace HT5 := Lib.hid (HT5.out.next hb)
            replace HT7 := Lib.hid (HT7.out.next hb)
            replace HFB := Lib.hid (HFB.out.next hb)
            have HW : Hid (w118.alloc (.cells #[.int .i64 (t8.kind : Nat), .string (Lx.str t8.text), .int .i64 (t8.n : Nat), .int .i64 (t8.at_ : Nat)] 60) = W118) := hW.symm
            have HN := Lib.hid hn
            clear hb hW hn
            go_upto_region 19 with fail
            rw [HW.out, ← HN.out]
            clear HW HN
            by_cases hlo : (0 : Int) < (lo.n : Nat)
            · have q1 : decide ((0 : Int) < (lo.n : Nat)) = true := decide_eq_true hlo
              have q2 : decide (0 < lo.n) = true := decide_eq_true (by omega)
              have q3 : 0 < lo.n := by omega
              have s7 := HT7.out.num
              have s8 := HT8.out.num
              rw [HZ8.out] at s8
              replace s8 := s8.trans (show some (Value.int .i64 ((0 : Nat) : Int)) = some (Value.int .i64 0) from rfl)
              have s8a := HT8.out.at'
              go_wp2_with fail
              refine (fault_err R e lv L z 10 (t8.at_ : Nat) _ HS.out.rx).mono ?_
              rintro en119 w119 ⟨rfl, hrx, hrd⟩
              replace HS := Lib.hid (HS.out.aft hrx hrd)
              replace HT5 := Lib.hid (HT5.out.aft hrd HC.out)
              replace HT7 := Lib.hid (HT7.out.aft hrd HC.out)
              replace HT8 := Lib.hid (HT8.out.aft hrd HC.out)
              replace HFB := Lib.hid (HFB.out.aft hrd HC.out)
              clear hrx hrd
              clear s7 s8 s8a
              have s7 := HT7.out.num
              have s8 := HT8.out.num
              rw [HZ8.out] at s8
              replace s8 := s8.trans (show some (Value.int .i64 ((0 : Nat) : Int)) = some (Value.int .i64 0) from rfl)
              have f62 := Joins.cell_of_block HFB.out.2 2
              have u62 := Joins.unfrozen_of_block HFB.out.2 2
              have hs := HS.out.set (m := n6) (i := 2) (v := .int .i64 (lo.n : Int)) HFB.out.1
              have hf := HFB.out.lo (lo.n : Int)
              have ht7 := HT7.out.set (m := n6) (i := 2) (v := .int .i64 (lo.n : Int)) (by exact Fc.tok_ne HT7.out HFB.out)
              have ht8 := HT8.out.set (m := n6) (i := 2) (v := .int .i64 (lo.n : Int)) (by exact Fc.tok_ne HT8.out HFB.out)
              have f63 := Joins.cell_of_block hf.2 3
              have u63 := Joins.unfrozen_of_block hf.2 3
              have s8b := ht8.num
              rw [HZ8.out] at s8b
              replace s8b := s8b.trans (show some (Value.int .i64 ((0 : Nat) : Int)) = some (Value.int .i64 0) from rfl)
              have hs := hs.set (m := n6) (i := 3) (v := .int .i64 0) hf.1
              have hf := hf.hi 0
              replace HS := Lib.hid hs
              replace HFB := Lib.hid hf
              clear hs hf ht7 ht8
              go_wp2_with fail
              clear f62 u62 f63 u63 s7 s8 s8b
              refine (take_err R e lv L z 3 ⟨#[59]⟩ _ HS.out.rx hL).mono ?_
              rintro en120 w120 ⟨rfl, hrx, hrd⟩
              replace HS := Lib.hid (HS.out.aft hrx hrd)
              replace HFB := Lib.hid (HFB.out.aft hrd HC.out)
              clear hrx hrd
              have d3 := Joins.cell_of_block HS.out.b3 0
              have f0 := Joins.cell_of_block HFB.out.2 0
              have f1 := Joins.cell_of_block HFB.out.2 1
              have f2 := Joins.cell_of_block HFB.out.2 2
              have f3 := Joins.cell_of_block HFB.out.2 3
              have HOW : Hid (∀ o, Fc.OwnF base d (.slice ga d.length gc) (w120.alloc o)) := fun o => HO.out.kept fun j h1 h2 => (HS.out.next ((Below.refl _ _).alloc (Nat.le_refl _) o)).fr.block j h2 (by have := HC2.out.2; omega)
              have HBW : Hid (∀ o, base ≤ (w120.alloc o).heap.size) := fun o => Nat.le_trans HC2.out.1 (HS.out.next ((Below.refl _ _).alloc (Nat.le_refl _) o)).fr.size
              dsimp only at f0 f1 f2 f3
              go_wp2_with (first | (at_builtin; refine wpList_append_fact _ rfl (.tmp 103) (.tmp 105) rfl base d _ rfl (HOW.out _) ⟨_, _, _, _⟩ w120.heap.size (0, 0) _ rfl (heap_alloc_new w120 _) HD6.out (HBW.out _) ?_; intro g9 c9 w99 ho9 hg9; obtain ⟨e3, e4, e5, e6, e7⟩ := Fc.fact_end HS.out HO.out HC2.out.1 HC2.out.2 ho9 hg9 (.slice (some ⟨g9, 0, none⟩) (d.length + 1) c9); have e8 := e7 (Fc.row_apart (dv := .slice ga d.length gc) ho9 (.inl e3)) (Fc.row_apart (dv := .slice ga d.length gc) ho9 (.inr e4)); have d3 := Joins.cell_of_block e3 0; have u3 := Joins.unfrozen_of_block e3 0; have d4 := (Joins.cell_of_block ((Below.heap_setCell w99 ⟨N3, 0, none⟩ (.slice (some ⟨g9, 0, none⟩) (d.length + 1) c9) N4 (by have h9 := HC2B.out; show N4 ≠ N3; omega)).trans e4) 0); have u4 := (Joins.unfrozen_of_block ((Below.heap_setCell w99 ⟨N3, 0, none⟩ (.slice (some ⟨g9, 0, none⟩) (d.length + 1) c9) N4 (by have h9 := HC2B.out; show N4 ≠ N3; omega)).trans e4) 0); have HE := Lib.hid (And.intro e5 (And.intro e6 e8)); have HE4 := Lib.hid e4; have HE3 := Lib.hid e3; clear e3 e4 e5 e6 e7 e8 ho9 hg9))
              have k4 : ((w99.setCell ⟨N3, 0, none⟩ (.slice (some ⟨g9, 0, none⟩) (d.length + 1) c9)).setCell ⟨N4, 0, none⟩ (.slice (some ⟨g9, 0, none⟩) (d.length + 1) c9)).cell? ⟨N4, 0, none⟩ = some (.slice (some ⟨g9, 0, none⟩) (d.length + 1) c9) := Joins.cell_of_block (Joins.block_setCell ((Below.heap_setCell w99 ⟨N3, 0, none⟩ _ N4 (by have h9 := HC2B.out; show N4 ≠ N3; omega)).trans HE4.out) _) 0
              refine bodyPost_ret (v := .agg #[.slice (some ⟨g9, 0, none⟩) (d.length + 1) c9]) ?_ rfl ?_
              · simp [results, Tryz.f32, go_sem, k4]
              · rw [HX.out]; exact ⟨_, _, rfl, HE.out.2.1, HE.out.1⟩
            · have q3 : lo.n = 0 := by omega
              have s7 := HT7.out.num
              have s8 := HT8.out.num
              rw [HZ8.out] at s8
              replace s8 := s8.trans (show some (Value.int .i64 ((0 : Nat) : Int)) = some (Value.int .i64 0) from rfl)
              rw [q3] at s7
              replace s7 := s7.trans (show some (Value.int .i64 ((0 : Nat) : Int)) = some (Value.int .i64 0) from rfl)
              clear q3 hlo
              have f62 := Joins.cell_of_block HFB.out.2 2
              have u62 := Joins.unfrozen_of_block HFB.out.2 2
              have hs := HS.out.set (m := n6) (i := 2) (v := .int .i64 0) HFB.out.1
              have hf := HFB.out.lo 0
              have ht7 := HT7.out.set (m := n6) (i := 2) (v := .int .i64 0) (by exact Fc.tok_ne HT7.out HFB.out)
              have ht8 := HT8.out.set (m := n6) (i := 2) (v := .int .i64 0) (by exact Fc.tok_ne HT8.out HFB.out)
              have f63 := Joins.cell_of_block hf.2 3
              have u63 := Joins.unfrozen_of_block hf.2 3
              have s8b := ht8.num
              rw [HZ8.out] at s8b
              replace s8b := s8b.trans (show some (Value.int .i64 ((0 : Nat) : Int)) = some (Value.int .i64 0) from rfl)
              have hs := hs.set (m := n6) (i := 3) (v := .int .i64 0) hf.1
              have hf := hf.hi 0
              replace HS := Lib.hid hs
              replace HFB := Lib.hid hf
              clear hs hf ht7 ht8
              go_wp2_with fail
              clear f62 u62 f63 u63 s7 s8 s8b
              refine (take_err R e lv L z 3 ⟨#[59]⟩ _ HS.out.rx hL).mono ?_
              rintro en121 w121 ⟨rfl, hrx, hrd⟩
              replace HS := Lib.hid (HS.out.aft hrx hrd)
              replace HFB := Lib.hid (HFB.out.aft hrd HC.out)
              clear hrx hrd
              have d3 := Joins.cell_of_block HS.out.b3 0
              have f0 := Joins.cell_of_block HFB.out.2 0
              have f1 := Joins.cell_of_block HFB.out.2 1
              have f2 := Joins.cell_of_block HFB.out.2 2
              have f3 := Joins.cell_of_block HFB.out.2 3
              have HOW : Hid (∀ o, Fc.OwnF base d (.slice ga d.length gc) (w121.alloc o)) := fun o => HO.out.kept fun j h1 h2 => (HS.out.next ((Below.refl _ _).alloc (Nat.le_refl _) o)).fr.block j h2 (by have := HC2.out.2; omega)
              have HBW : Hid (∀ o, base ≤ (w121.alloc o).heap.size) := fun o => Nat.le_trans HC2.out.1 (HS.out.next ((Below.refl _ _).alloc (Nat.le_refl _) o)).fr.size
              dsimp only at f0 f1 f2 f3
              go_wp2_with (first | (at_builtin; refine wpList_append_fact _ rfl (.tmp 103) (.tmp 105) rfl base d _ rfl (HOW.out _) ⟨_, _, _, _⟩ w121.heap.size (0, 0) _ rfl (heap_alloc_new w121 _) HD6.out (HBW.out _) ?_; intro g9 c9 w99 ho9 hg9; obtain ⟨e3, e4, e5, e6, e7⟩ := Fc.fact_end HS.out HO.out HC2.out.1 HC2.out.2 ho9 hg9 (.slice (some ⟨g9, 0, none⟩) (d.length + 1) c9); have e8 := e7 (Fc.row_apart (dv := .slice ga d.length gc) ho9 (.inl e3)) (Fc.row_apart (dv := .slice ga d.length gc) ho9 (.inr e4)); have d3 := Joins.cell_of_block e3 0; have u3 := Joins.unfrozen_of_block e3 0; have d4 := (Joins.cell_of_block ((Below.heap_setCell w99 ⟨N3, 0, none⟩ (.slice (some ⟨g9, 0, none⟩) (d.length + 1) c9) N4 (by have h9 := HC2B.out; show N4 ≠ N3; omega)).trans e4) 0); have u4 := (Joins.unfrozen_of_block ((Below.heap_setCell w99 ⟨N3, 0, none⟩ (.slice (some ⟨g9, 0, none⟩) (d.length + 1) c9) N4 (by have h9 := HC2B.out; show N4 ≠ N3; omega)).trans e4) 0); have HE := Lib.hid (And.intro e5 (And.intro e6 e8)); have HE4 := Lib.hid e4; have HE3 := Lib.hid e3; clear e3 e4 e5 e6 e7 e8 ho9 hg9))
              have k4 : ((w99.setCell ⟨N3, 0, none⟩ (.slice (some ⟨g9, 0, none⟩) (d.length + 1) c9)).setCell ⟨N4, 0, none⟩ (.slice (some ⟨g9, 0, none⟩) (d.length + 1) c9)).cell? ⟨N4, 0, none⟩ = some (.slice (some ⟨g9, 0, none⟩) (d.length + 1) c9) := Joins.cell_of_block (Joins.block_setCell ((Below.heap_setCell w99 ⟨N3, 0, none⟩ _ N4 (by have h9 := HC2B.out; show N4 ≠ N3; omega)).trans HE4.out) _) 0
              refine bodyPost_ret (v := .agg #[.slice (some ⟨g9, 0, none⟩) (d.length + 1) c9]) ?_ rfl ?_
              · simp [results, Tryz.f32, go_sem, k4]
              · rw [HX.out]; exact ⟨_, _, rfl, HE.out.2.1, HE.out.1⟩
          have q1 : decide ((1000000 : Int) < (lo.n : Nat)) = false := decide_eq_false (by omega)
          have q2 : decide (1000000 < lo.n) = false := decide_eq_false h7
          have q3 : ¬ (1000000 : Int) < (lo.n : Nat) := by omega
          replace HX : Hid (X = (Fc.want 1 Fc.wTo e l3).bind fun to_ => (Fc.want 2 [] e to_.2).bind fun hi => if 1000000 < hi.1.n ∨ hi.1.n < lo.n then .error (10, hi.1.at_) else (Fc.want 3 [59] e hi.2).bind fun z => .ok (⟨nm.text, 3, lo.n, hi.1.n⟩, z.2)) := by rw [HX.out, if_neg h7]; rfl
          go_wp2_with fail
          clear s7 s7a q1 q2 q3
          cases hw4 : Fc.want 1 Fc.wTo e l3 with
          | error z =>
            replace HX : Hid (X = .error z) := by rw [HX.out, hw4]; rfl
            refine (take_no R e lv L _ 1 ⟨#[116, 111]⟩ _ HS.out.rx hL hw4).mono ?_
            rintro en122 w122 ⟨rfl, hrx, hrd⟩
            replace HS := Lib.hid (HS.out.aft hrx hrd)
            replace HT5 := Lib.hid (HT5.out.aft hrd HC.out)
            replace HT7 := Lib.hid (HT7.out.aft hrd HC.out)
            replace HFB := Lib.hid (HFB.out.aft hrd HC.out)
            clear hrx hrd
            clear hw4
            go_wp2_with fail
            obtain ⟨t8, ht8⟩ : ∃ t, t = Fc.zt := ⟨_, rfl⟩
            refine (take_err R e lv L z 2 ⟨#[]⟩ _ HS.out.rx hL).mono ?_
            rintro en123 w123 ⟨rfl, hrx, hrd⟩
            replace HS := Lib.hid (HS.out.aft hrx hrd)
            replace HT5 := Lib.hid (HT5.out.aft hrd HC.out)
            replace HT7 := Lib.hid (HT7.out.aft hrd HC.out)
            replace HFB := Lib.hid (HFB.out.aft hrd HC.out)
            clear hrx hrd
            rw [← ht8]
            have HZ8 : Hid (t8.n = 0) := by rw [ht8]; rfl
            clear ht8
            obtain ⟨W123, hW⟩ : ∃ W, W = w123.alloc (.cells #[.int .i64 (t8.kind : Nat), .string (Lx.str t8.text), .int .i64 (t8.n : Nat), .int .i64 (t8.at_ : Nat)] 60) := ⟨_, rfl⟩
            obtain ⟨n8, hn⟩ : ∃ n, n = w123.heap.size := ⟨_, rfl⟩
            have hb : Below w123.heap.size w123 W123 := by rw [hW]; exact (Below.refl _ _).alloc (Nat.le_refl _) _
            have HT8 : Hid (Fc.TokB N4 n8 t8 W123) := by rw [hW, hn]; exact Fc.TokB.new t8 HS.out.lt
            replace HS := Lib.hid (HS.out.next hb)
            replace HT5 := Lib.hid (HT5.out.next hb)
            replace HT7 := Lib.hid (HT7.out.next hb)
            replace HFB := Lib.hid (HFB.out.next hb)
            have HW : Hid (w123.alloc (.cells #[.int .i64 (t8.kind : Nat), .string (Lx.str t8.text), .int .i64 (t8.n : Nat), .int .i64 (t8.at_ : Nat)] 60) = W123) := hW.symm
            have HN := Lib.hid hn
            clear hb hW hn
            go_upto_region 19 with fail
            rw [HW.out, ← HN.out]
            clear HW HN
            by_cases hlo : (0 : Int) < (lo.n : Nat)
            · have q1 : decide ((0 : Int) < (lo.n : Nat)) = true := decide_eq_true hlo
              have q2 : decide (0 < lo.n) = true := decide_eq_true (by omega)
              have q3 : 0 < lo.n := by omega
              have s7 := HT7.out.num
              have s8 := HT8.out.num
              rw [HZ8.out] at s8
              replace s8 := s8.trans (show some (Value.int .i64 ((0 : Nat) : Int)) = some (Value.int .i64 0) from rfl)
              have s8a := HT8.out.at'
              go_wp2_with fail
              refine (fault_err R e lv L z 10 (t8.at_ : Nat) _ HS.out.rx).mono ?_
              rintro en124 w124 ⟨rfl, hrx, hrd⟩
              replace HS := Lib.hid (HS.out.aft hrx hrd)
              replace HT5 := Lib.hid (HT5.out.aft hrd HC.out)
              replace HT7 := Lib.hid (HT7.out.aft hrd HC.out)
              replace HT8 := Lib.hid (HT8.out.aft hrd HC.out)
              replace HFB := Lib.hid (HFB.out.aft hrd HC.out)
              clear hrx hrd
              clear s7 s8 s8a
              have s7 := HT7.out.num
              have s8 := HT8.out.num
              rw [HZ8.out] at s8
              replace s8 := s8.trans (show some (Value.int .i64 ((0 : Nat) : Int)) = some (Value.int .i64 0) from rfl)
              have f62 := Joins.cell_of_block HFB.out.2 2
              have u62 := Joins.unfrozen_of_block HFB.out.2 2
              have hs := HS.out.set (m := n6) (i := 2) (v := .int .i64 (lo.n : Int)) HFB.out.1
              have hf := HFB.out.lo (lo.n : Int)
              have ht7 := HT7.out.set (m := n6) (i := 2) (v := .int .i64 (lo.n : Int)) (by exact Fc.tok_ne HT7.out HFB.out)
              have ht8 := HT8.out.set (m := n6) (i := 2) (v := .int .i64 (lo.n : Int)) (by exact Fc.tok_ne HT8.out HFB.out)
              have f63 := Joins.cell_of_block hf.2 3
              have u63 := Joins.unfrozen_of_block hf.2 3
              have s8b := ht8.num
              rw [HZ8.out] at s8b
              replace s8b := s8b.trans (show some (Value.int .i64 ((0 : Nat) : Int)) = some (Value.int .i64 0) from rfl)
              have hs := hs.set (m := n6) (i := 3) (v := .int .i64 0) hf.1
              have hf := hf.hi 0
              replace HS := Lib.hid hs
              replace HFB := Lib.hid hf
              clear hs hf ht7 ht8
              go_wp2_with fail
              clear f62 u62 f63 u63 s7 s8 s8b
              refine (take_err R e lv L z 3 ⟨#[59]⟩ _ HS.out.rx hL).mono ?_
              rintro en125 w125 ⟨rfl, hrx, hrd⟩
              replace HS := Lib.hid (HS.out.aft hrx hrd)
              replace HFB := Lib.hid (HFB.out.aft hrd HC.out)
              clear hrx hrd
              have d3 := Joins.cell_of_block HS.out.b3 0
              have f0 := Joins.cell_of_block HFB.out.2 0
              have f1 := Joins.cell_of_block HFB.out.2 1
              have f2 := Joins.cell_of_block HFB.out.2 2
              have f3 := Joins.cell_of_block HFB.out.2 3
              have HOW : Hid (∀ o, Fc.OwnF base d (.slice ga d.length gc) (w125.alloc o)) := fun o => HO.out.kept fun j h1 h2 => (HS.out.next ((Below.refl _ _).alloc (Nat.le_refl _) o)).fr.block j h2 (by have := HC2.out.2; omega)
              have HBW : Hid (∀ o, base ≤ (w125.alloc o).heap.size) := fun o => Nat.le_trans HC2.out.1 (HS.out.next ((Below.refl _ _).alloc (Nat.le_refl _) o)).fr.size
              dsimp only at f0 f1 f2 f3
              go_wp2_with (first | (at_builtin; refine wpList_append_fact _ rfl (.tmp 103) (.tmp 105) rfl base d _ rfl (HOW.out _) ⟨_, _, _, _⟩ w125.heap.size (0, 0) _ rfl (heap_alloc_new w125 _) HD6.out (HBW.out _) ?_; intro g9 c9 w99 ho9 hg9; obtain ⟨e3, e4, e5, e6, e7⟩ := Fc.fact_end HS.out HO.out HC2.out.1 HC2.out.2 ho9 hg9 (.slice (some ⟨g9, 0, none⟩) (d.length + 1) c9); have e8 := e7 (Fc.row_apart (dv := .slice ga d.length gc) ho9 (.inl e3)) (Fc.row_apart (dv := .slice ga d.length gc) ho9 (.inr e4)); have d3 := Joins.cell_of_block e3 0; have u3 := Joins.unfrozen_of_block e3 0; have d4 := (Joins.cell_of_block ((Below.heap_setCell w99 ⟨N3, 0, none⟩ (.slice (some ⟨g9, 0, none⟩) (d.length + 1) c9) N4 (by have h9 := HC2B.out; show N4 ≠ N3; omega)).trans e4) 0); have u4 := (Joins.unfrozen_of_block ((Below.heap_setCell w99 ⟨N3, 0, none⟩ (.slice (some ⟨g9, 0, none⟩) (d.length + 1) c9) N4 (by have h9 := HC2B.out; show N4 ≠ N3; omega)).trans e4) 0); have HE := Lib.hid (And.intro e5 (And.intro e6 e8)); have HE4 := Lib.hid e4; have HE3 := Lib.hid e3; clear e3 e4 e5 e6 e7 e8 ho9 hg9))
              have k4 : ((w99.setCell ⟨N3, 0, none⟩ (.slice (some ⟨g9, 0, none⟩) (d.length + 1) c9)).setCell ⟨N4, 0, none⟩ (.slice (some ⟨g9, 0, none⟩) (d.length + 1) c9)).cell? ⟨N4, 0, none⟩ = some (.slice (some ⟨g9, 0, none⟩) (d.length + 1) c9) := Joins.cell_of_block (Joins.block_setCell ((Below.heap_setCell w99 ⟨N3, 0, none⟩ _ N4 (by have h9 := HC2B.out; show N4 ≠ N3; omega)).trans HE4.out) _) 0
              refine bodyPost_ret (v := .agg #[.slice (some ⟨g9, 0, none⟩) (d.length + 1) c9]) ?_ rfl ?_
              · simp [results, Tryz.f32, go_sem, k4]
              · rw [HX.out]; exact ⟨_, _, rfl, HE.out.2.1, HE.out.1⟩
            · have q3 : lo.n = 0 := by omega
              have s7 := HT7.out.num
              have s8 := HT8.out.num
              rw [HZ8.out] at s8
              replace s8 := s8.trans (show some (Value.int .i64 ((0 : Nat) : Int)) = some (Value.int .i64 0) from rfl)
              rw [q3] at s7
              replace s7 := s7.trans (show some (Value.int .i64 ((0 : Nat) : Int)) = some (Value.int .i64 0) from rfl)
              clear q3 hlo
              have f62 := Joins.cell_of_block HFB.out.2 2
              have u62 := Joins.unfrozen_of_block HFB.out.2 2
              have hs := HS.out.set (m := n6) (i := 2) (v := .int .i64 0) HFB.out.1
              have hf := HFB.out.lo 0
              have ht7 := HT7.out.set (m := n6) (i := 2) (v := .int .i64 0) (by exact Fc.tok_ne HT7.out HFB.out)
              have ht8 := HT8.out.set (m := n6) (i := 2) (v := .int .i64 0) (by exact Fc.tok_ne HT8.out HFB.out)
              have f63 := Joins.cell_of_block hf.2 3
              have u63 := Joins.unfrozen_of_block hf.2 3
              have s8b := ht8.num
              rw [HZ8.out] at s8b
              replace s8b := s8b.trans (show some (Value.int .i64 ((0 : Nat) : Int)) = some (Value.int .i64 0) from rfl)
              have hs := hs.set (m := n6) (i := 3) (v := .int .i64 0) hf.1
              have hf := hf.hi 0
              replace HS := Lib.hid hs
              replace HFB := Lib.hid hf
              clear hs hf ht7 ht8
              go_wp2_with fail
              clear f62 u62 f63 u63 s7 s8 s8b
              refine (take_err R e lv L z 3 ⟨#[59]⟩ _ HS.out.rx hL).mono ?_
              rintro en126 w126 ⟨rfl, hrx, hrd⟩
              replace HS := Lib.hid (HS.out.aft hrx hrd)
              replace HFB := Lib.hid (HFB.out.aft hrd HC.out)
              clear hrx hrd
              have d3 := Joins.cell_of_block HS.out.b3 0
              have f0 := Joins.cell_of_block HFB.out.2 0
              have f1 := Joins.cell_of_block HFB.out.2 1
              have f2 := Joins.cell_of_block HFB.out.2 2
              have f3 := Joins.cell_of_block HFB.out.2 3
              have HOW : Hid (∀ o, Fc.OwnF base d (.slice ga d.length gc) (w126.alloc o)) := fun o => HO.out.kept fun j h1 h2 => (HS.out.next ((Below.refl _ _).alloc (Nat.le_refl _) o)).fr.block j h2 (by have := HC2.out.2; omega)
              have HBW : Hid (∀ o, base ≤ (w126.alloc o).heap.size) := fun o => Nat.le_trans HC2.out.1 (HS.out.next ((Below.refl _ _).alloc (Nat.le_refl _) o)).fr.size
              dsimp only at f0 f1 f2 f3
              go_wp2_with (first | (at_builtin; refine wpList_append_fact _ rfl (.tmp 103) (.tmp 105) rfl base d _ rfl (HOW.out _) ⟨_, _, _, _⟩ w126.heap.size (0, 0) _ rfl (heap_alloc_new w126 _) HD6.out (HBW.out _) ?_; intro g9 c9 w99 ho9 hg9; obtain ⟨e3, e4, e5, e6, e7⟩ := Fc.fact_end HS.out HO.out HC2.out.1 HC2.out.2 ho9 hg9 (.slice (some ⟨g9, 0, none⟩) (d.length + 1) c9); have e8 := e7 (Fc.row_apart (dv := .slice ga d.length gc) ho9 (.inl e3)) (Fc.row_apart (dv := .slice ga d.length gc) ho9 (.inr e4)); have d3 := Joins.cell_of_block e3 0; have u3 := Joins.unfrozen_of_block e3 0; have d4 := (Joins.cell_of_block ((Below.heap_setCell w99 ⟨N3, 0, none⟩ (.slice (some ⟨g9, 0, none⟩) (d.length + 1) c9) N4 (by have h9 := HC2B.out; show N4 ≠ N3; omega)).trans e4) 0); have u4 := (Joins.unfrozen_of_block ((Below.heap_setCell w99 ⟨N3, 0, none⟩ (.slice (some ⟨g9, 0, none⟩) (d.length + 1) c9) N4 (by have h9 := HC2B.out; show N4 ≠ N3; omega)).trans e4) 0); have HE := Lib.hid (And.intro e5 (And.intro e6 e8)); have HE4 := Lib.hid e4; have HE3 := Lib.hid e3; clear e3 e4 e5 e6 e7 e8 ho9 hg9))
              have k4 : ((w99.setCell ⟨N3, 0, none⟩ (.slice (some ⟨g9, 0, none⟩) (d.length + 1) c9)).setCell ⟨N4, 0, none⟩ (.slice (some ⟨g9, 0, none⟩) (d.length + 1) c9)).cell? ⟨N4, 0, none⟩ = some (.slice (some ⟨g9, 0, none⟩) (d.length + 1) c9) := Joins.cell_of_block (Joins.block_setCell ((Below.heap_setCell w99 ⟨N3, 0, none⟩ _ N4 (by have h9 := HC2B.out; show N4 ≠ N3; omega)).trans HE4.out) _) 0
              refine bodyPost_ret (v := .agg #[.slice (some ⟨g9, 0, none⟩) (d.length + 1) c9]) ?_ rfl ?_
              · simp [results, Tryz.f32, go_sem, k4]
              · rw [HX.out]; exact ⟨_, _, rfl, HE.out.2.1, HE.out.1⟩
          | ok y =>
            obtain ⟨y1, l4⟩ := y
            replace HX : Hid (X = (Fc.want 2 [] e l4).bind fun hi => if 1000000 < hi.1.n ∨ hi.1.n < lo.n then .error (10, hi.1.at_) else (Fc.want 3 [59] e hi.2).bind fun z => .ok (⟨nm.text, 3, lo.n, hi.1.n⟩, z.2)) := by rw [HX.out, hw4]; rfl
            refine (take_ok R e lv L _ 1 ⟨#[116, 111]⟩ _ HS.out.rx hL hw4).mono ?_
            rintro en127 w127 ⟨rfl, hrx, hrd⟩
            replace HS := Lib.hid (HS.out.aft hrx hrd)
            replace HT5 := Lib.hid (HT5.out.aft hrd HC.out)
            replace HT7 := Lib.hid (HT7.out.aft hrd HC.out)
            replace HFB := Lib.hid (HFB.out.aft hrd HC.out)
            clear hrx hrd
            clear hw4
            go_wp2_with fail
            cases hw5 : Fc.want 2 [] e l4 with
            | error z =>
              replace HX : Hid (X = .error z) := by rw [HX.out, hw5]; rfl
              obtain ⟨t8, ht8⟩ : ∃ t, t = Fc.zt := ⟨_, rfl⟩
              refine (take_no R e lv L _ 2 ⟨#[]⟩ _ HS.out.rx hL hw5).mono ?_
              rintro en128 w128 ⟨rfl, hrx, hrd⟩
              replace HS := Lib.hid (HS.out.aft hrx hrd)
              replace HT5 := Lib.hid (HT5.out.aft hrd HC.out)
              replace HT7 := Lib.hid (HT7.out.aft hrd HC.out)
              replace HFB := Lib.hid (HFB.out.aft hrd HC.out)
              clear hrx hrd
              rw [← ht8]
              have HZ8 : Hid (t8.n = 0) := by rw [ht8]; rfl
              clear ht8 hw5
              obtain ⟨W128, hW⟩ : ∃ W, W = w128.alloc (.cells #[.int .i64 (t8.kind : Nat), .string (Lx.str t8.text), .int .i64 (t8.n : Nat), .int .i64 (t8.at_ : Nat)] 60) := ⟨_, rfl⟩
              obtain ⟨n8, hn⟩ : ∃ n, n = w128.heap.size := ⟨_, rfl⟩
              have hb : Below w128.heap.size w128 W128 := by rw [hW]; exact (Below.refl _ _).alloc (Nat.le_refl _) _
              have HT8 : Hid (Fc.TokB N4 n8 t8 W128) := by rw [hW, hn]; exact Fc.TokB.new t8 HS.out.lt
              replace HS := Lib.hid (HS.out.next hb)
              replace HT5 := Lib.hid (HT5.out.next hb)
              replace HT7 := Lib.hid (HT7.out.next hb)
              replace HFB := Lib.hid (HFB.out.next hb)
              have HW : Hid (w128.alloc (.cells #[.int .i64 (t8.kind : Nat), .string (Lx.str t8.text), .int .i64 (t8.n : Nat), .int .i64 (t8.at_ : Nat)] 60) = W128) := hW.symm
              have HN := Lib.hid hn
              clear hb hW hn
              go_upto_region 19 with fail
              rw [HW.out, ← HN.out]
              clear HW HN
              by_cases hlo : (0 : Int) < (lo.n : Nat)
              · have q1 : decide ((0 : Int) < (lo.n : Nat)) = true := decide_eq_true hlo
                have q2 : decide (0 < lo.n) = true := decide_eq_true (by omega)
                have q3 : 0 < lo.n := by omega
                have s7 := HT7.out.num
                have s8 := HT8.out.num
                rw [HZ8.out] at s8
                replace s8 := s8.trans (show some (Value.int .i64 ((0 : Nat) : Int)) = some (Value.int .i64 0) from rfl)
                have s8a := HT8.out.at'
                go_wp2_with fail
                refine (fault_err R e lv L z 10 (t8.at_ : Nat) _ HS.out.rx).mono ?_
                rintro en129 w129 ⟨rfl, hrx, hrd⟩
                replace HS := Lib.hid (HS.out.aft hrx hrd)
                replace HT5 := Lib.hid (HT5.out.aft hrd HC.out)
                replace HT7 := Lib.hid (HT7.out.aft hrd HC.out)
                replace HT8 := Lib.hid (HT8.out.aft hrd HC.out)
                replace HFB := Lib.hid (HFB.out.aft hrd HC.out)
                clear hrx hrd
                clear s7 s8 s8a
                have s7 := HT7.out.num
                have s8 := HT8.out.num
                rw [HZ8.out] at s8
                replace s8 := s8.trans (show some (Value.int .i64 ((0 : Nat) : Int)) = some (Value.int .i64 0) from rfl)
                have f62 := Joins.cell_of_block HFB.out.2 2
                have u62 := Joins.unfrozen_of_block HFB.out.2 2
                have hs := HS.out.set (m := n6) (i := 2) (v := .int .i64 (lo.n : Int)) HFB.out.1
                have hf := HFB.out.lo (lo.n : Int)
                have ht7 := HT7.out.set (m := n6) (i := 2) (v := .int .i64 (lo.n : Int)) (by exact Fc.tok_ne HT7.out HFB.out)
                have ht8 := HT8.out.set (m := n6) (i := 2) (v := .int .i64 (lo.n : Int)) (by exact Fc.tok_ne HT8.out HFB.out)
                have f63 := Joins.cell_of_block hf.2 3
                have u63 := Joins.unfrozen_of_block hf.2 3
                have s8b := ht8.num
                rw [HZ8.out] at s8b
                replace s8b := s8b.trans (show some (Value.int .i64 ((0 : Nat) : Int)) = some (Value.int .i64 0) from rfl)
                have hs := hs.set (m := n6) (i := 3) (v := .int .i64 0) hf.1
                have hf := hf.hi 0
                replace HS := Lib.hid hs
                replace HFB := Lib.hid hf
                clear hs hf ht7 ht8
                go_wp2_with fail
                clear f62 u62 f63 u63 s7 s8 s8b
                refine (take_err R e lv L z 3 ⟨#[59]⟩ _ HS.out.rx hL).mono ?_
                rintro en130 w130 ⟨rfl, hrx, hrd⟩
                replace HS := Lib.hid (HS.out.aft hrx hrd)
                replace HFB := Lib.hid (HFB.out.aft hrd HC.out)
                clear hrx hrd
                have d3 := Joins.cell_of_block HS.out.b3 0
                have f0 := Joins.cell_of_block HFB.out.2 0
                have f1 := Joins.cell_of_block HFB.out.2 1
                have f2 := Joins.cell_of_block HFB.out.2 2
                have f3 := Joins.cell_of_block HFB.out.2 3
                have HOW : Hid (∀ o, Fc.OwnF base d (.slice ga d.length gc) (w130.alloc o)) := fun o => HO.out.kept fun j h1 h2 => (HS.out.next ((Below.refl _ _).alloc (Nat.le_refl _) o)).fr.block j h2 (by have := HC2.out.2; omega)
                have HBW : Hid (∀ o, base ≤ (w130.alloc o).heap.size) := fun o => Nat.le_trans HC2.out.1 (HS.out.next ((Below.refl _ _).alloc (Nat.le_refl _) o)).fr.size
                dsimp only at f0 f1 f2 f3
                go_wp2_with (first | (at_builtin; refine wpList_append_fact _ rfl (.tmp 103) (.tmp 105) rfl base d _ rfl (HOW.out _) ⟨_, _, _, _⟩ w130.heap.size (0, 0) _ rfl (heap_alloc_new w130 _) HD6.out (HBW.out _) ?_; intro g9 c9 w99 ho9 hg9; obtain ⟨e3, e4, e5, e6, e7⟩ := Fc.fact_end HS.out HO.out HC2.out.1 HC2.out.2 ho9 hg9 (.slice (some ⟨g9, 0, none⟩) (d.length + 1) c9); have e8 := e7 (Fc.row_apart (dv := .slice ga d.length gc) ho9 (.inl e3)) (Fc.row_apart (dv := .slice ga d.length gc) ho9 (.inr e4)); have d3 := Joins.cell_of_block e3 0; have u3 := Joins.unfrozen_of_block e3 0; have d4 := (Joins.cell_of_block ((Below.heap_setCell w99 ⟨N3, 0, none⟩ (.slice (some ⟨g9, 0, none⟩) (d.length + 1) c9) N4 (by have h9 := HC2B.out; show N4 ≠ N3; omega)).trans e4) 0); have u4 := (Joins.unfrozen_of_block ((Below.heap_setCell w99 ⟨N3, 0, none⟩ (.slice (some ⟨g9, 0, none⟩) (d.length + 1) c9) N4 (by have h9 := HC2B.out; show N4 ≠ N3; omega)).trans e4) 0); have HE := Lib.hid (And.intro e5 (And.intro e6 e8)); have HE4 := Lib.hid e4; have HE3 := Lib.hid e3; clear e3 e4 e5 e6 e7 e8 ho9 hg9))
                have k4 : ((w99.setCell ⟨N3, 0, none⟩ (.slice (some ⟨g9, 0, none⟩) (d.length + 1) c9)).setCell ⟨N4, 0, none⟩ (.slice (some ⟨g9, 0, none⟩) (d.length + 1) c9)).cell? ⟨N4, 0, none⟩ = some (.slice (some ⟨g9, 0, none⟩) (d.length + 1) c9) := Joins.cell_of_block (Joins.block_setCell ((Below.heap_setCell w99 ⟨N3, 0, none⟩ _ N4 (by have h9 := HC2B.out; show N4 ≠ N3; omega)).trans HE4.out) _) 0
                refine bodyPost_ret (v := .agg #[.slice (some ⟨g9, 0, none⟩) (d.length + 1) c9]) ?_ rfl ?_
                · simp [results, Tryz.f32, go_sem, k4]
                · rw [HX.out]; exact ⟨_, _, rfl, HE.out.2.1, HE.out.1⟩
              · have q3 : lo.n = 0 := by omega
                have s7 := HT7.out.num
                have s8 := HT8.out.num
                rw [HZ8.out] at s8
                replace s8 := s8.trans (show some (Value.int .i64 ((0 : Nat) : Int)) = some (Value.int .i64 0) from rfl)
                rw [q3] at s7
                replace s7 := s7.trans (show some (Value.int .i64 ((0 : Nat) : Int)) = some (Value.int .i64 0) from rfl)
                clear q3 hlo
                have f62 := Joins.cell_of_block HFB.out.2 2
                have u62 := Joins.unfrozen_of_block HFB.out.2 2
                have hs := HS.out.set (m := n6) (i := 2) (v := .int .i64 0) HFB.out.1
                have hf := HFB.out.lo 0
                have ht7 := HT7.out.set (m := n6) (i := 2) (v := .int .i64 0) (by exact Fc.tok_ne HT7.out HFB.out)
                have ht8 := HT8.out.set (m := n6) (i := 2) (v := .int .i64 0) (by exact Fc.tok_ne HT8.out HFB.out)
                have f63 := Joins.cell_of_block hf.2 3
                have u63 := Joins.unfrozen_of_block hf.2 3
                have s8b := ht8.num
                rw [HZ8.out] at s8b
                replace s8b := s8b.trans (show some (Value.int .i64 ((0 : Nat) : Int)) = some (Value.int .i64 0) from rfl)
                have hs := hs.set (m := n6) (i := 3) (v := .int .i64 0) hf.1
                have hf := hf.hi 0
                replace HS := Lib.hid hs
                replace HFB := Lib.hid hf
                clear hs hf ht7 ht8
                go_wp2_with fail
                clear f62 u62 f63 u63 s7 s8 s8b
                refine (take_err R e lv L z 3 ⟨#[59]⟩ _ HS.out.rx hL).mono ?_
                rintro en131 w131 ⟨rfl, hrx, hrd⟩
                replace HS := Lib.hid (HS.out.aft hrx hrd)
                replace HFB := Lib.hid (HFB.out.aft hrd HC.out)
                clear hrx hrd
                have d3 := Joins.cell_of_block HS.out.b3 0
                have f0 := Joins.cell_of_block HFB.out.2 0
                have f1 := Joins.cell_of_block HFB.out.2 1
                have f2 := Joins.cell_of_block HFB.out.2 2
                have f3 := Joins.cell_of_block HFB.out.2 3
                have HOW : Hid (∀ o, Fc.OwnF base d (.slice ga d.length gc) (w131.alloc o)) := fun o => HO.out.kept fun j h1 h2 => (HS.out.next ((Below.refl _ _).alloc (Nat.le_refl _) o)).fr.block j h2 (by have := HC2.out.2; omega)
                have HBW : Hid (∀ o, base ≤ (w131.alloc o).heap.size) := fun o => Nat.le_trans HC2.out.1 (HS.out.next ((Below.refl _ _).alloc (Nat.le_refl _) o)).fr.size
                dsimp only at f0 f1 f2 f3
                go_wp2_with (first | (at_builtin; refine wpList_append_fact _ rfl (.tmp 103) (.tmp 105) rfl base d _ rfl (HOW.out _) ⟨_, _, _, _⟩ w131.heap.size (0, 0) _ rfl (heap_alloc_new w131 _) HD6.out (HBW.out _) ?_; intro g9 c9 w99 ho9 hg9; obtain ⟨e3, e4, e5, e6, e7⟩ := Fc.fact_end HS.out HO.out HC2.out.1 HC2.out.2 ho9 hg9 (.slice (some ⟨g9, 0, none⟩) (d.length + 1) c9); have e8 := e7 (Fc.row_apart (dv := .slice ga d.length gc) ho9 (.inl e3)) (Fc.row_apart (dv := .slice ga d.length gc) ho9 (.inr e4)); have d3 := Joins.cell_of_block e3 0; have u3 := Joins.unfrozen_of_block e3 0; have d4 := (Joins.cell_of_block ((Below.heap_setCell w99 ⟨N3, 0, none⟩ (.slice (some ⟨g9, 0, none⟩) (d.length + 1) c9) N4 (by have h9 := HC2B.out; show N4 ≠ N3; omega)).trans e4) 0); have u4 := (Joins.unfrozen_of_block ((Below.heap_setCell w99 ⟨N3, 0, none⟩ (.slice (some ⟨g9, 0, none⟩) (d.length + 1) c9) N4 (by have h9 := HC2B.out; show N4 ≠ N3; omega)).trans e4) 0); have HE := Lib.hid (And.intro e5 (And.intro e6 e8)); have HE4 := Lib.hid e4; have HE3 := Lib.hid e3; clear e3 e4 e5 e6 e7 e8 ho9 hg9))
                have k4 : ((w99.setCell ⟨N3, 0, none⟩ (.slice (some ⟨g9, 0, none⟩) (d.length + 1) c9)).setCell ⟨N4, 0, none⟩ (.slice (some ⟨g9, 0, none⟩) (d.length + 1) c9)).cell? ⟨N4, 0, none⟩ = some (.slice (some ⟨g9, 0, none⟩) (d.length + 1) c9) := Joins.cell_of_block (Joins.block_setCell ((Below.heap_setCell w99 ⟨N3, 0, none⟩ _ N4 (by have h9 := HC2B.out; show N4 ≠ N3; omega)).trans HE4.out) _) 0
                refine bodyPost_ret (v := .agg #[.slice (some ⟨g9, 0, none⟩) (d.length + 1) c9]) ?_ rfl ?_
                · simp [results, Tryz.f32, go_sem, k4]
                · rw [HX.out]; exact ⟨_, _, rfl, HE.out.2.1, HE.out.1⟩
            | ok y =>
              obtain ⟨hi, l5⟩ := y
              replace HX : Hid (X = if 1000000 < hi.n ∨ hi.n < lo.n then .error (10, hi.at_) else (Fc.want 3 [59] e l5).bind fun z => .ok (⟨nm.text, 3, lo.n, hi.n⟩, z.2)) := by rw [HX.out, hw5]; rfl
              refine (take_ok R e lv L _ 2 ⟨#[]⟩ _ HS.out.rx hL hw5).mono ?_
              rintro en132 w132 ⟨rfl, hrx, hrd⟩
              replace HS := Lib.hid (HS.out.aft hrx hrd)
              replace HT5 := Lib.hid (HT5.out.aft hrd HC.out)
              replace HT7 := Lib.hid (HT7.out.aft hrd HC.out)
              replace HFB := Lib.hid (HFB.out.aft hrd HC.out)
              clear hrx hrd
              clear hw5
              obtain ⟨W132, hW⟩ : ∃ W, W = w132.alloc (.cells #[.int .i64 (hi.kind : Nat), .string (Lx.str hi.text), .int .i64 (hi.n : Nat), .int .i64 (hi.at_ : Nat)] 60) := ⟨_, rfl⟩
              obtain ⟨n8, hn⟩ : ∃ n, n = w132.heap.size := ⟨_, rfl⟩
              have hb : Below w132.heap.size w132 W132 := by rw [hW]; exact (Below.refl _ _).alloc (Nat.le_refl _) _
              have HT8 : Hid (Fc.TokB N4 n8 hi W132) := by rw [hW, hn]; exact Fc.TokB.new hi HS.out.lt
              replace HS := Lib.hid (HS.out.next hb)
              replace HT5 := Lib.hid (HT5.out.next hb)
              replace HT7 := Lib.hid (HT7.out.next hb)
              replace HFB := Lib.hid (HFB.out.next hb)
              have HW : Hid (w132.alloc (.cells #[.int .i64 (hi.kind : Nat), .string (Lx.str hi.text), .int .i64 (hi.n : Nat), .int .i64 (hi.at_ : Nat)] 60) = W132) := hW.symm
              have HN := Lib.hid hn
              clear hb hW hn
              go_upto_region 19 with fail
              rw [HW.out, ← HN.out]
              clear HW HN
              by_cases h8 : 1000000 < hi.n
              · have q1 : decide ((1000000 : Int) < (hi.n : Nat)) = true := decide_eq_true (by omega)
                have q2 : decide (1000000 < hi.n) = true := decide_eq_true h8
                have q3 : (1000000 : Int) < (hi.n : Nat) := by omega
                replace HX : Hid (X = .error (10, hi.at_)) := by rw [HX.out, if_pos (.inl h8)]; rfl
                have s7 := HT7.out.num
                have s8 := HT8.out.num
                have s8a := HT8.out.at'
                go_wp2_with fail
                clear s7 s8 s8a
                refine (fault_ok R e lv L _ 10 hi.at_ (by decide) _ HS.out.rx).mono ?_
                rintro en133 w133 ⟨rfl, hrx, hrd⟩
                replace HS := Lib.hid (HS.out.aft hrx hrd)
                replace HT5 := Lib.hid (HT5.out.aft hrd HC.out)
                replace HT7 := Lib.hid (HT7.out.aft hrd HC.out)
                replace HT8 := Lib.hid (HT8.out.aft hrd HC.out)
                replace HFB := Lib.hid (HFB.out.aft hrd HC.out)
                clear hrx hrd
                obtain ⟨z, hz⟩ : ∃ z : Nat × Nat, z = (10, hi.at_) := ⟨_, rfl⟩
                rw [← hz] at HS HX
                clear hz
                have s7 := HT7.out.num
                have s8 := HT8.out.num
                have f62 := Joins.cell_of_block HFB.out.2 2
                have u62 := Joins.unfrozen_of_block HFB.out.2 2
                have hs := HS.out.set (m := n6) (i := 2) (v := .int .i64 (lo.n : Int)) HFB.out.1
                have hf := HFB.out.lo (lo.n : Int)
                have ht7 := HT7.out.set (m := n6) (i := 2) (v := .int .i64 (lo.n : Int)) (by exact Fc.tok_ne HT7.out HFB.out)
                have ht8 := HT8.out.set (m := n6) (i := 2) (v := .int .i64 (lo.n : Int)) (by exact Fc.tok_ne HT8.out HFB.out)
                have f63 := Joins.cell_of_block hf.2 3
                have u63 := Joins.unfrozen_of_block hf.2 3
                have s8b := ht8.num
                have hs := hs.set (m := n6) (i := 3) (v := .int .i64 (hi.n : Int)) hf.1
                have hf := hf.hi (hi.n : Int)
                replace HS := Lib.hid hs
                replace HFB := Lib.hid hf
                clear hs hf ht7 ht8
                go_wp2_with fail
                clear f62 u62 f63 u63 s7 s8 s8b
                refine (take_err R e lv L z 3 ⟨#[59]⟩ _ HS.out.rx hL).mono ?_
                rintro en134 w134 ⟨rfl, hrx, hrd⟩
                replace HS := Lib.hid (HS.out.aft hrx hrd)
                replace HFB := Lib.hid (HFB.out.aft hrd HC.out)
                clear hrx hrd
                have d3 := Joins.cell_of_block HS.out.b3 0
                have f0 := Joins.cell_of_block HFB.out.2 0
                have f1 := Joins.cell_of_block HFB.out.2 1
                have f2 := Joins.cell_of_block HFB.out.2 2
                have f3 := Joins.cell_of_block HFB.out.2 3
                have HOW : Hid (∀ o, Fc.OwnF base d (.slice ga d.length gc) (w134.alloc o)) := fun o => HO.out.kept fun j h1 h2 => (HS.out.next ((Below.refl _ _).alloc (Nat.le_refl _) o)).fr.block j h2 (by have := HC2.out.2; omega)
                have HBW : Hid (∀ o, base ≤ (w134.alloc o).heap.size) := fun o => Nat.le_trans HC2.out.1 (HS.out.next ((Below.refl _ _).alloc (Nat.le_refl _) o)).fr.size
                dsimp only at f0 f1 f2 f3
                go_wp2_with (first | (at_builtin; refine wpList_append_fact _ rfl (.tmp 103) (.tmp 105) rfl base d _ rfl (HOW.out _) ⟨_, _, _, _⟩ w134.heap.size (0, 0) _ rfl (heap_alloc_new w134 _) HD6.out (HBW.out _) ?_; intro g9 c9 w99 ho9 hg9; obtain ⟨e3, e4, e5, e6, e7⟩ := Fc.fact_end HS.out HO.out HC2.out.1 HC2.out.2 ho9 hg9 (.slice (some ⟨g9, 0, none⟩) (d.length + 1) c9); have e8 := e7 (Fc.row_apart (dv := .slice ga d.length gc) ho9 (.inl e3)) (Fc.row_apart (dv := .slice ga d.length gc) ho9 (.inr e4)); have d3 := Joins.cell_of_block e3 0; have u3 := Joins.unfrozen_of_block e3 0; have d4 := (Joins.cell_of_block ((Below.heap_setCell w99 ⟨N3, 0, none⟩ (.slice (some ⟨g9, 0, none⟩) (d.length + 1) c9) N4 (by have h9 := HC2B.out; show N4 ≠ N3; omega)).trans e4) 0); have u4 := (Joins.unfrozen_of_block ((Below.heap_setCell w99 ⟨N3, 0, none⟩ (.slice (some ⟨g9, 0, none⟩) (d.length + 1) c9) N4 (by have h9 := HC2B.out; show N4 ≠ N3; omega)).trans e4) 0); have HE := Lib.hid (And.intro e5 (And.intro e6 e8)); have HE4 := Lib.hid e4; have HE3 := Lib.hid e3; clear e3 e4 e5 e6 e7 e8 ho9 hg9))
                have k4 : ((w99.setCell ⟨N3, 0, none⟩ (.slice (some ⟨g9, 0, none⟩) (d.length + 1) c9)).setCell ⟨N4, 0, none⟩ (.slice (some ⟨g9, 0, none⟩) (d.length + 1) c9)).cell? ⟨N4, 0, none⟩ = some (.slice (some ⟨g9, 0, none⟩) (d.length + 1) c9) := Joins.cell_of_block (Joins.block_setCell ((Below.heap_setCell w99 ⟨N3, 0, none⟩ _ N4 (by have h9 := HC2B.out; show N4 ≠ N3; omega)).trans HE4.out) _) 0
                refine bodyPost_ret (v := .agg #[.slice (some ⟨g9, 0, none⟩) (d.length + 1) c9]) ?_ rfl ?_
                · simp [results, Tryz.f32, go_sem, k4]
                · rw [HX.out]; exact ⟨_, _, rfl, HE.out.2.1, HE.out.1⟩
              have q1 : decide ((1000000 : Int) < (hi.n : Nat)) = false := decide_eq_false (by omega)
              have q2 : decide (1000000 < hi.n) = false := decide_eq_false h8
              have q3 : ¬ (1000000 : Int) < (hi.n : Nat) := by omega
              by_cases h9 : hi.n < lo.n
              · have q4 : decide ((hi.n : Int) < (lo.n : Nat)) = true := decide_eq_true (by omega)
                have q5 : decide (hi.n < lo.n) = true := decide_eq_true h9
                have q6 : (hi.n : Int) < (lo.n : Nat) := by omega
                replace HX : Hid (X = .error (10, hi.at_)) := by rw [HX.out, if_pos (.inr h9)]; rfl
                have s7 := HT7.out.num
                have s8 := HT8.out.num
                have s8a := HT8.out.at'
                go_wp2_with fail
                clear s7 s8 s8a
                refine (fault_ok R e lv L _ 10 hi.at_ (by decide) _ HS.out.rx).mono ?_
                rintro en135 w135 ⟨rfl, hrx, hrd⟩
                replace HS := Lib.hid (HS.out.aft hrx hrd)
                replace HT5 := Lib.hid (HT5.out.aft hrd HC.out)
                replace HT7 := Lib.hid (HT7.out.aft hrd HC.out)
                replace HT8 := Lib.hid (HT8.out.aft hrd HC.out)
                replace HFB := Lib.hid (HFB.out.aft hrd HC.out)
                clear hrx hrd
                obtain ⟨z, hz⟩ : ∃ z : Nat × Nat, z = (10, hi.at_) := ⟨_, rfl⟩
                rw [← hz] at HS HX
                clear hz
                have s7 := HT7.out.num
                have s8 := HT8.out.num
                have f62 := Joins.cell_of_block HFB.out.2 2
                have u62 := Joins.unfrozen_of_block HFB.out.2 2
                have hs := HS.out.set (m := n6) (i := 2) (v := .int .i64 (lo.n : Int)) HFB.out.1
                have hf := HFB.out.lo (lo.n : Int)
                have ht7 := HT7.out.set (m := n6) (i := 2) (v := .int .i64 (lo.n : Int)) (by exact Fc.tok_ne HT7.out HFB.out)
                have ht8 := HT8.out.set (m := n6) (i := 2) (v := .int .i64 (lo.n : Int)) (by exact Fc.tok_ne HT8.out HFB.out)
                have f63 := Joins.cell_of_block hf.2 3
                have u63 := Joins.unfrozen_of_block hf.2 3
                have s8b := ht8.num
                have hs := hs.set (m := n6) (i := 3) (v := .int .i64 (hi.n : Int)) hf.1
                have hf := hf.hi (hi.n : Int)
                replace HS := Lib.hid hs
                replace HFB := Lib.hid hf
                clear hs hf ht7 ht8
                go_wp2_with fail
                clear f62 u62 f63 u63 s7 s8 s8b
                refine (take_err R e lv L z 3 ⟨#[59]⟩ _ HS.out.rx hL).mono ?_
                rintro en136 w136 ⟨rfl, hrx, hrd⟩
                replace HS := Lib.hid (HS.out.aft hrx hrd)
                replace HFB := Lib.hid (HFB.out.aft hrd HC.out)
                clear hrx hrd
                have d3 := Joins.cell_of_block HS.out.b3 0
                have f0 := Joins.cell_of_block HFB.out.2 0
                have f1 := Joins.cell_of_block HFB.out.2 1
                have f2 := Joins.cell_of_block HFB.out.2 2
                have f3 := Joins.cell_of_block HFB.out.2 3
                have HOW : Hid (∀ o, Fc.OwnF base d (.slice ga d.length gc) (w136.alloc o)) := fun o => HO.out.kept fun j h1 h2 => (HS.out.next ((Below.refl _ _).alloc (Nat.le_refl _) o)).fr.block j h2 (by have := HC2.out.2; omega)
                have HBW : Hid (∀ o, base ≤ (w136.alloc o).heap.size) := fun o => Nat.le_trans HC2.out.1 (HS.out.next ((Below.refl _ _).alloc (Nat.le_refl _) o)).fr.size
                dsimp only at f0 f1 f2 f3
                go_wp2_with (first | (at_builtin; refine wpList_append_fact _ rfl (.tmp 103) (.tmp 105) rfl base d _ rfl (HOW.out _) ⟨_, _, _, _⟩ w136.heap.size (0, 0) _ rfl (heap_alloc_new w136 _) HD6.out (HBW.out _) ?_; intro g9 c9 w99 ho9 hg9; obtain ⟨e3, e4, e5, e6, e7⟩ := Fc.fact_end HS.out HO.out HC2.out.1 HC2.out.2 ho9 hg9 (.slice (some ⟨g9, 0, none⟩) (d.length + 1) c9); have e8 := e7 (Fc.row_apart (dv := .slice ga d.length gc) ho9 (.inl e3)) (Fc.row_apart (dv := .slice ga d.length gc) ho9 (.inr e4)); have d3 := Joins.cell_of_block e3 0; have u3 := Joins.unfrozen_of_block e3 0; have d4 := (Joins.cell_of_block ((Below.heap_setCell w99 ⟨N3, 0, none⟩ (.slice (some ⟨g9, 0, none⟩) (d.length + 1) c9) N4 (by have h9 := HC2B.out; show N4 ≠ N3; omega)).trans e4) 0); have u4 := (Joins.unfrozen_of_block ((Below.heap_setCell w99 ⟨N3, 0, none⟩ (.slice (some ⟨g9, 0, none⟩) (d.length + 1) c9) N4 (by have h9 := HC2B.out; show N4 ≠ N3; omega)).trans e4) 0); have HE := Lib.hid (And.intro e5 (And.intro e6 e8)); have HE4 := Lib.hid e4; have HE3 := Lib.hid e3; clear e3 e4 e5 e6 e7 e8 ho9 hg9))
                have k4 : ((w99.setCell ⟨N3, 0, none⟩ (.slice (some ⟨g9, 0, none⟩) (d.length + 1) c9)).setCell ⟨N4, 0, none⟩ (.slice (some ⟨g9, 0, none⟩) (d.length + 1) c9)).cell? ⟨N4, 0, none⟩ = some (.slice (some ⟨g9, 0, none⟩) (d.length + 1) c9) := Joins.cell_of_block (Joins.block_setCell ((Below.heap_setCell w99 ⟨N3, 0, none⟩ _ N4 (by have h9 := HC2B.out; show N4 ≠ N3; omega)).trans HE4.out) _) 0
                refine bodyPost_ret (v := .agg #[.slice (some ⟨g9, 0, none⟩) (d.length + 1) c9]) ?_ rfl ?_
                · simp [results, Tryz.f32, go_sem, k4]
                · rw [HX.out]; exact ⟨_, _, rfl, HE.out.2.1, HE.out.1⟩
              have q4 : decide ((hi.n : Int) < (lo.n : Nat)) = false := decide_eq_false (by omega)
              have q5 : decide (hi.n < lo.n) = false := decide_eq_false h9
              have q6 : ¬ (hi.n : Int) < (lo.n : Nat) := by omega
              replace HX : Hid (X = (Fc.want 3 [59] e l5).bind fun z => .ok (⟨nm.text, 3, lo.n, hi.n⟩, z.2)) := by rw [HX.out, if_neg (by omega)]; rfl
              have s7 := HT7.out.num
              have s8 := HT8.out.num
              have f62 := Joins.cell_of_block HFB.out.2 2
              have u62 := Joins.unfrozen_of_block HFB.out.2 2
              have hs := HS.out.set (m := n6) (i := 2) (v := .int .i64 (lo.n : Int)) HFB.out.1
              have hf := HFB.out.lo (lo.n : Int)
              have ht7 := HT7.out.set (m := n6) (i := 2) (v := .int .i64 (lo.n : Int)) (by exact Fc.tok_ne HT7.out HFB.out)
              have ht8 := HT8.out.set (m := n6) (i := 2) (v := .int .i64 (lo.n : Int)) (by exact Fc.tok_ne HT8.out HFB.out)
              have f63 := Joins.cell_of_block hf.2 3
              have u63 := Joins.unfrozen_of_block hf.2 3
              have s8b := ht8.num
              have hs := hs.set (m := n6) (i := 3) (v := .int .i64 (hi.n : Int)) hf.1
              have hf := hf.hi (hi.n : Int)
              replace HS := Lib.hid hs
              replace HFB := Lib.hid hf
              clear hs hf ht7 ht8
              go_wp2_with fail
              clear f62 u62 f63 u63 s7 s8 s8b
              clear q1 q2 q3 q4 q5 q6
              cases hw6 : Fc.want 3 [59] e l5 with
              | error z =>
                replace HX : Hid (X = .error z) := by rw [HX.out, hw6]; rfl
                refine (take_no R e lv L _ 3 ⟨#[59]⟩ _ HS.out.rx hL hw6).mono ?_
                rintro en137 w137 ⟨rfl, hrx, hrd⟩
                replace HS := Lib.hid (HS.out.aft hrx hrd)
                replace HFB := Lib.hid (HFB.out.aft hrd HC.out)
                clear hrx hrd
                have d3 := Joins.cell_of_block HS.out.b3 0
                have f0 := Joins.cell_of_block HFB.out.2 0
                have f1 := Joins.cell_of_block HFB.out.2 1
                have f2 := Joins.cell_of_block HFB.out.2 2
                have f3 := Joins.cell_of_block HFB.out.2 3
                have HOW : Hid (∀ o, Fc.OwnF base d (.slice ga d.length gc) (w137.alloc o)) := fun o => HO.out.kept fun j h1 h2 => (HS.out.next ((Below.refl _ _).alloc (Nat.le_refl _) o)).fr.block j h2 (by have := HC2.out.2; omega)
                have HBW : Hid (∀ o, base ≤ (w137.alloc o).heap.size) := fun o => Nat.le_trans HC2.out.1 (HS.out.next ((Below.refl _ _).alloc (Nat.le_refl _) o)).fr.size
                dsimp only at f0 f1 f2 f3
                go_wp2_with (first | (at_builtin; refine wpList_append_fact _ rfl (.tmp 103) (.tmp 105) rfl base d _ rfl (HOW.out _) ⟨_, _, _, _⟩ w137.heap.size (0, 0) _ rfl (heap_alloc_new w137 _) HD6.out (HBW.out _) ?_; intro g9 c9 w99 ho9 hg9; obtain ⟨e3, e4, e5, e6, e7⟩ := Fc.fact_end HS.out HO.out HC2.out.1 HC2.out.2 ho9 hg9 (.slice (some ⟨g9, 0, none⟩) (d.length + 1) c9); have e8 := e7 (Fc.row_apart (dv := .slice ga d.length gc) ho9 (.inl e3)) (Fc.row_apart (dv := .slice ga d.length gc) ho9 (.inr e4)); have d3 := Joins.cell_of_block e3 0; have u3 := Joins.unfrozen_of_block e3 0; have d4 := (Joins.cell_of_block ((Below.heap_setCell w99 ⟨N3, 0, none⟩ (.slice (some ⟨g9, 0, none⟩) (d.length + 1) c9) N4 (by have h9 := HC2B.out; show N4 ≠ N3; omega)).trans e4) 0); have u4 := (Joins.unfrozen_of_block ((Below.heap_setCell w99 ⟨N3, 0, none⟩ (.slice (some ⟨g9, 0, none⟩) (d.length + 1) c9) N4 (by have h9 := HC2B.out; show N4 ≠ N3; omega)).trans e4) 0); have HE := Lib.hid (And.intro e5 (And.intro e6 e8)); have HE4 := Lib.hid e4; have HE3 := Lib.hid e3; clear e3 e4 e5 e6 e7 e8 ho9 hg9))
                have k4 : ((w99.setCell ⟨N3, 0, none⟩ (.slice (some ⟨g9, 0, none⟩) (d.length + 1) c9)).setCell ⟨N4, 0, none⟩ (.slice (some ⟨g9, 0, none⟩) (d.length + 1) c9)).cell? ⟨N4, 0, none⟩ = some (.slice (some ⟨g9, 0, none⟩) (d.length + 1) c9) := Joins.cell_of_block (Joins.block_setCell ((Below.heap_setCell w99 ⟨N3, 0, none⟩ _ N4 (by have h9 := HC2B.out; show N4 ≠ N3; omega)).trans HE4.out) _) 0
                refine bodyPost_ret (v := .agg #[.slice (some ⟨g9, 0, none⟩) (d.length + 1) c9]) ?_ rfl ?_
                · simp [results, Tryz.f32, go_sem, k4]
                · rw [HX.out]; exact ⟨_, _, rfl, HE.out.2.1, HE.out.1⟩
              | ok y =>
                obtain ⟨y1, y2⟩ := y
                replace HX : Hid (X = .ok (⟨nm.text, 3, lo.n, hi.n⟩, y2)) := by rw [HX.out, hw6]; rfl
                refine (take_ok R e lv L _ 3 ⟨#[59]⟩ _ HS.out.rx hL hw6).mono ?_
                rintro en138 w138 ⟨rfl, hrx, hrd⟩
                replace HS := Lib.hid (HS.out.aft hrx hrd)
                replace HFB := Lib.hid (HFB.out.aft hrd HC.out)
                clear hrx hrd
                have d3 := Joins.cell_of_block HS.out.b3 0
                have f0 := Joins.cell_of_block HFB.out.2 0
                have f1 := Joins.cell_of_block HFB.out.2 1
                have f2 := Joins.cell_of_block HFB.out.2 2
                have f3 := Joins.cell_of_block HFB.out.2 3
                have HOW : Hid (∀ o, Fc.OwnF base d (.slice ga d.length gc) (w138.alloc o)) := fun o => HO.out.kept fun j h1 h2 => (HS.out.next ((Below.refl _ _).alloc (Nat.le_refl _) o)).fr.block j h2 (by have := HC2.out.2; omega)
                have HBW : Hid (∀ o, base ≤ (w138.alloc o).heap.size) := fun o => Nat.le_trans HC2.out.1 (HS.out.next ((Below.refl _ _).alloc (Nat.le_refl _) o)).fr.size
                dsimp only at f0 f1 f2 f3
                go_wp2_with (first | (at_builtin; refine wpList_append_fact _ rfl (.tmp 103) (.tmp 105) rfl base d _ rfl (HOW.out _) ⟨_, _, _, _⟩ w138.heap.size (0, 0) _ rfl (heap_alloc_new w138 _) HD6.out (HBW.out _) ?_; intro g9 c9 w99 ho9 hg9; obtain ⟨e3, e4, e5, e6, e7⟩ := Fc.fact_end HS.out HO.out HC2.out.1 HC2.out.2 ho9 hg9 (.slice (some ⟨g9, 0, none⟩) (d.length + 1) c9); have e8 := e7 (Fc.row_apart (dv := .slice ga d.length gc) ho9 (.inl e3)) (Fc.row_apart (dv := .slice ga d.length gc) ho9 (.inr e4)); have d3 := Joins.cell_of_block e3 0; have u3 := Joins.unfrozen_of_block e3 0; have d4 := (Joins.cell_of_block ((Below.heap_setCell w99 ⟨N3, 0, none⟩ (.slice (some ⟨g9, 0, none⟩) (d.length + 1) c9) N4 (by have h9 := HC2B.out; show N4 ≠ N3; omega)).trans e4) 0); have u4 := (Joins.unfrozen_of_block ((Below.heap_setCell w99 ⟨N3, 0, none⟩ (.slice (some ⟨g9, 0, none⟩) (d.length + 1) c9) N4 (by have h9 := HC2B.out; show N4 ≠ N3; omega)).trans e4) 0); have HE := Lib.hid (And.intro e5 (And.intro e6 e8)); have HE4 := Lib.hid e4; have HE3 := Lib.hid e3; clear e3 e4 e5 e6 e7 e8 ho9 hg9))
                have k4 : ((w99.setCell ⟨N3, 0, none⟩ (.slice (some ⟨g9, 0, none⟩) (d.length + 1) c9)).setCell ⟨N4, 0, none⟩ (.slice (some ⟨g9, 0, none⟩) (d.length + 1) c9)).cell? ⟨N4, 0, none⟩ = some (.slice (some ⟨g9, 0, none⟩) (d.length + 1) c9) := Joins.cell_of_block (Joins.block_setCell ((Below.heap_setCell w99 ⟨N3, 0, none⟩ _ N4 (by have h9 := HC2B.out; show N4 ≠ N3; omega)).trans HE4.out) _) 0
                refine bodyPost_ret (v := .agg #[.slice (some ⟨g9, 0, none⟩) (d.length + 1) c9]) ?_ rfl ?_
                · simp [results, Tryz.f32, go_sem, k4]
                · rw [HX.out]; exact ⟨_, _, rfl, HE.out.2.1, HE.out.1, HE.out.2.2⟩
      | false =>
        rw [HCF.out.2.2.2] at hsd
        cases hsd
end Go.Proofs.YtoamkanofhhjfaaGreatDoor
