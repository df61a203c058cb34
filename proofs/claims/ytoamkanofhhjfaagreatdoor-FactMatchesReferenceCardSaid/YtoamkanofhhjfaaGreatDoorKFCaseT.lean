import Derived.Test.YtoamkanofhhjfaaGreatDoorKFTab
import Derived.Test.YtoamkanofhhjfaaGreatDoorKFOrder
import Derived.Test.YtoamkanofhhjfaaGreatDoorKFFits
import Derived.Test.YtoamkanofhhjfaaGreatDoorKFNextA
import Derived.Deep.LoopGhost
/-
  The walks of fact.boundsText and fact.kindText.
-/
namespace Go.Proofs.YtoamkanofhhjfaaGreatDoor
open Go.RowKit

namespace Fc
/-- The text of bounds. -/
def btext (lo hi : Int) : Lx.T := 32 :: Lx.dec lo.toNat ++ (32 :: wTo ++ (32 :: Lx.dec hi.toNat))
def ktext (f : Fact) : Lx.T := if f.kind = 1 then wFlag else (if f.kind = 2 then wNumber else wDay) ++ btext f.lo f.hi
theorem ftext_eq (f : Fact) : ftext f = f.name ++ ([32] ++ (ktext f ++ [59, 10])) := by
  unfold ftext ktext btext
  by_cases h : f.kind = 1
  · rw [if_pos h, if_pos h]; rfl
  · rw [if_neg h, if_neg h]; simp
/-- What a text's function answers. -/
def TextOut (t : Lx.T) (w : World) (e : Ending) (w' : World) : Prop := e = .returned (.string (Lx.str t)) ∧ Below w.heap.size w w'
end Fc

theorem decF_len : ∀ k n, (Lx.decF k n).length ≤ k + 1
  | 0, n => by unfold Lx.decF; simp
  | k + 1, n => by
    unfold Lx.decF
    by_cases h : n < 10
    · rw [if_pos h]; simp
    · rw [if_neg h, List.length_append, List.length_singleton]
      have := decF_len k (n / 10)
      omega
theorem dec_len (n : Nat) : (Lx.dec n).length ≤ 7 := decF_len 6 n

set_option maxHeartbeats 1000000 in
set_option maxRecDepth 100000 in
theorem bounds_text (s : ByteArray) (k lo hi : Int) (h0 : 0 ≤ lo) (h1 : lo ≤ 1000000) (h2 : 0 ≤ hi) (h3 : hi ≤ 1000000) (w : World) (ht : HasTab w) :
    Calls Tryz.prog 72 #[.agg #[.string s, .int .i64 k, .int .i64 lo, .int .i64 hi]] w (Fc.TextOut (Fc.btext lo hi) w) := by
  obtain ⟨W, hW⟩ : ∃ W, W = w.alloc (.cells #[.string s, .int .i64 k, .int .i64 lo, .int .i64 hi] 64) := ⟨_, rfl⟩
  have hbW : Below w.heap.size w W := by rw [hW]; exact (Below.refl _ _).alloc (Nat.le_refl _) _
  have hk0 : W.heap[w.heap.size]? = some (.cells #[.string s, .int .i64 k, .int .i64 lo, .int .i64 hi] 64 (0, 0)) := by rw [hW]; exact heap_alloc_new _ _
  have hlt := (Array.getElem?_eq_some_iff.1 hk0).1
  have r2 : ∀ w', Fc.Old W w' → w'.cell? ⟨w.heap.size, 2, none⟩ = some (.int .i64 lo) := fun w' h => h.cell hlt (Joins.cell_of_block hk0 2)
  have r3 : ∀ w', Fc.Old W w' → w'.cell? ⟨w.heap.size, 3, none⟩ = some (.int .i64 hi) := fun w' h => h.cell hlt (Joins.cell_of_block hk0 3)
  have HB := Lib.hid hbW
  have HT := Lib.hid (ht.below hbW)
  obtain ⟨sl, hsl⟩ : ∃ sl, sl = Lx.str (Lx.dec lo.toNat) := ⟨_, rfl⟩
  obtain ⟨sh, hsh⟩ : ∃ sh, sh = Lx.str (Lx.dec hi.toNat) := ⟨_, rfl⟩
  have HS := Lib.hid (And.intro hsl hsh)
  have hzl : sl.size ≤ 7 := by rw [hsl, Fc.str_size]; exact dec_len _
  have hzh : sh.size ≤ 7 := by rw [hsh, Fc.str_size]; exact dec_len _
  have HL := Lib.hid (fun (w' : World) (ho : Fc.Old W w') => itoa_walk lo h0 h1 w' (HT.out.below ho.out))
  have HH := Lib.hid (fun (w' : World) (ho : Fc.Old W w') => itoa_walk hi h2 h3 w' (HT.out.below ho.out))
  rw [← hsl] at HL
  rw [← hsh] at HH
  have heq : (⟨#[32]⟩ ++ sl ++ ⟨#[32]⟩ ++ ⟨#[116, 111]⟩ ++ ⟨#[32]⟩ ++ sh : ByteArray) = Lx.str (Fc.btext lo hi) := by
    rw [hsl, hsh]
    apply ByteArray.ext
    simp [Lx.str, Fc.btext, Fc.wTo]
  have HEQ := Lib.hid heq
  have HW : Hid (w.alloc (.cells #[.string s, .int .i64 k, .int .i64 lo, .int .i64 hi] 64) = W) := hW.symm
  clear heq hW hbW hk0 hlt hsl hsh ht h0 h1 h2 h3
  go_enter Tryz.func72, Tryz.ntmps72
  go_upto_region 1 with fail
  rw [HW.out]
  have f1 : (9223372036854775807 < 1 + sl.size) = False := _root_.eq_false (by omega)
  have f2 : (9223372036854775807 < 1 + sl.size + 1) = False := _root_.eq_false (by omega)
  have f3 : (9223372036854775807 < 1 + sl.size + 1 + 2) = False := _root_.eq_false (by omega)
  have f4 : (9223372036854775807 < 1 + sl.size + 1 + 2 + 1) = False := _root_.eq_false (by omega)
  have f5 : (9223372036854775807 < 1 + sl.size + 1 + 2 + 1 + sh.size) = False := _root_.eq_false (by omega)
  go_region_held3 (fun w' => Fc.Old W w') (first | exact Fc.Old.drew W | exact Fc.Old.step (by with_reducible assumption) (by with_reducible assumption) | with_reducible assumption) (first | (go_at_call 50; (with_reducible refine (HL.out _ (by with_reducible assumption)).mono ?_); rintro en w5 ⟨rfl, hb5⟩) | (go_at_call 50; (with_reducible refine (HH.out _ (by with_reducible assumption)).mono ?_); rintro en w5 ⟨rfl, hb5⟩))
  all_goals
    have hO : Fc.Old W w5 := by with_reducible assumption
    clear r2 r3 hzl hzh f1 f2 f3 f4 f5
    go_wp2_with fail
    go_ret
    exact ⟨by rw [HEQ.out]; rfl, HB.out.trans (hO.out.mono HB.out.size)⟩

set_option maxHeartbeats 1000000 in
set_option maxRecDepth 100000 in
theorem kind_text (s : ByteArray) (k lo hi : Int) (t : Lx.T) (hk : k = 1 ∨ k = 2 ∨ k = 3) (h0 : 0 ≤ lo) (h1 : lo ≤ 1000000) (h2 : 0 ≤ hi) (h3 : hi ≤ 1000000) (w : World) (ht : HasTab w) :
    Calls Tryz.prog 47 #[.agg #[.string s, .int .i64 k, .int .i64 lo, .int .i64 hi]] w (Fc.TextOut (Fc.ktext ⟨t, k, lo, hi⟩) w) := by
  have hbW : Below w.heap.size w (w.alloc (.cells #[.string s, .int .i64 k, .int .i64 lo, .int .i64 hi] 64)) := (Below.refl _ _).alloc (Nat.le_refl _) _
  have HB := Lib.hid hbW
  have HBT := Lib.hid (bounds_text s k lo hi h0 h1 h2 h3 _ (ht.below hbW))
  obtain ⟨sb, hsb⟩ : ∃ sb, sb = Lx.str (Fc.btext lo hi) := ⟨_, rfl⟩
  have hzb : sb.size ≤ 30 := by
    rw [hsb, Fc.str_size]
    have e1 := dec_len lo.toNat
    have e2 := dec_len hi.toNat
    simp [Fc.btext, Fc.wTo]
    omega
  have HS := Lib.hid hsb
  unfold Fc.TextOut at HBT
  rw [← hsb] at HBT
  clear hbW ht h0 h1 h2 h3 hsb
  rcases hk with rfl | rfl | rfl
  · clear HBT
    go_enter Tryz.func47, Tryz.ntmps47
    go_wp2_with fail
    go_ret
    exact ⟨rfl, HB.out⟩
  · go_enter Tryz.func47, Tryz.ntmps47
    go_wp2_with fail
    refine HBT.out.mono ?_
    rintro e w2 ⟨rfl, hb2⟩
    have HB2 := Lib.hid hb2
    clear hb2 HBT
    go_wp2_with fail
    go_ret
    exact ⟨by rw [HS.out]; rfl, HB.out.trans (HB2.out.mono HB.out.size)⟩
  · go_enter Tryz.func47, Tryz.ntmps47
    go_wp2_with fail
    refine HBT.out.mono ?_
    rintro e w2 ⟨rfl, hb2⟩
    have HB2 := Lib.hid hb2
    clear hb2 HBT
    go_wp2_with fail
    go_ret
    exact ⟨by rw [HS.out]; rfl, HB.out.trans (HB2.out.mono HB.out.size)⟩
end Go.Proofs.YtoamkanofhhjfaaGreatDoor
/-
  The walk of fact.Text.
-/
namespace Go.Proofs.YtoamkanofhhjfaaGreatDoor
open Go.RowKit

namespace Fc
theorem dtext_snoc (f : Fact) : ∀ d : List Fact, dtext (d ++ [f]) = dtext d ++ ftext f
  | [] => by simp [dtext]
  | g :: d => by rw [List.cons_append, dtext, dtext_snoc f d, dtext, List.append_assoc]
theorem ktext_len (f : Fact) : (ktext f).length ≤ 40 := by
  have e1 := dec_len f.lo.toNat
  have e2 := dec_len f.hi.toNat
  unfold ktext
  by_cases h : f.kind = 1
  · rw [if_pos h]; simp [wFlag]
  · rw [if_neg h, List.length_append]
    have : (if f.kind = 2 then wNumber else wDay).length ≤ 6 := by by_cases h2 : f.kind = 2 <;> simp [h2, wNumber, wDay]
    have : (btext f.lo f.hi).length ≤ 30 := by simp [btext, wTo]; omega
    omega
theorem ftext_len {f : Fact} (h : Ok f) : (ftext f).length ≤ 100 := by
  have := h.name.small
  have := ktext_len f
  rw [ftext_eq]; simp; omega
theorem dtext_len : ∀ d : List Fact, (∀ f ∈ d, Ok f) → (dtext d).length ≤ 100 * d.length
  | [], _ => by simp [dtext]
  | f :: d, h => by
    have := dtext_len d (fun g hg => h g (by simp [hg]))
    have := ftext_len (h f (by simp))
    rw [dtext, List.length_append, List.length_cons]; omega
end Fc

set_option maxHeartbeats 4000000 in
set_option maxRecDepth 100000 in
theorem text_no (v : Value) (d : List Fc.Fact) (w : World) (hF : Fc.IsF w v d) (hno : ¬ Fc.Valid d) :
    Calls Tryz.prog 18 #[.agg #[v]] w (Fc.TextOut [] w) := by
  obtain ⟨a, c, rfl, _, _⟩ := hF.form
  obtain ⟨n, hn⟩ : ∃ n, n = d.length := ⟨_, rfl⟩
  rw [← hn] at hF ⊢
  have HB := Lib.hid (boxD_below w (.slice a n c))
  have HV := Lib.hid (valid_walk _ d _ (hF.below HB.out))
  clear hF hn
  go_enter Tryz.func18, Tryz.ntmps18
  go_wp2_with fail
  refine HV.out.mono ?_
  rintro en w3 ⟨⟨b, rfl, hb⟩, hb3⟩
  obtain rfl : b = false := by cases b with | false => rfl | true => exact absurd (hb.1 rfl) hno
  clear hb HV
  go_wp2_with fail
  go_ret
  exact ⟨rfl, HB.out.trans (hb3.mono HB.out.size)⟩

set_option maxHeartbeats 4000000 in
set_option maxRecDepth 100000 in
theorem text_walk (v : Value) (d : List Fc.Fact) (w : World) (hF : Fc.IsF w v d) (hvd : Fc.Valid d) (ht : HasTab w) :
    Calls Tryz.prog 18 #[.agg #[v]] w (Fc.TextOut (Fc.dtext d) w) := by
  have HF : Hid (∀ w', Below w.heap.size w w' → Fc.IsF w' v d) := fun w' hb => hF.below hb
  obtain ⟨a, c, rfl, hc1, hc2⟩ := hF.form
  have hnd60 := hvd.2.2
  have HOK := Lib.hid hvd.1
  obtain ⟨n, hn⟩ : ∃ n, n = d.length := ⟨_, rfl⟩
  rw [← hn] at HF hc1 hnd60 ⊢
  have HN := Lib.hid hn
  have HT := Lib.hid ht
  have HX0 := Lib.hid (Boxed.start w (.slice a n c))
  have HV := Lib.hid (valid_walk _ d _ (HF.out _ HX0.out.below))
  clear hF hn ht
  go_enter Tryz.func18, Tryz.ntmps18
  go_wp2_with fail
  refine HV.out.mono ?_
  rintro en w3 ⟨⟨b, rfl, hb⟩, hb3⟩
  obtain rfl : b = true := hb.2 hvd
  have HX3 := Lib.hid (HX0.out.next hb3)
  clear hb HV hb3 HX0 hvd
  have hbA := Lib.fresh_isBuilder 76 5 w3
  obtain ⟨W4, hW4⟩ : ∃ W4, W4 = w3.alloc (.cells #[.pointer none, .slice none 0 0] 76) := ⟨_, rfl⟩
  have hb4 : Below w3.heap.size w3 W4 := by rw [hW4]; exact (Below.refl _ _).alloc (Nat.le_refl _) _
  rw [← hW4] at hbA
  have HX4 := Lib.hid (HX3.out.next hb4)
  obtain ⟨B, hB⟩ : ∃ B, B = w3.heap.size := ⟨_, rfl⟩
  rw [← hB] at hbA
  have HB := Lib.hid (show Lib.IsBuilder 76 5 B B (Lib.byteCells (Fc.dtext (d.take 0))) W4 from hbA)
  have hBw : w.heap.size < B := by rw [hB]; exact HX3.out.lt
  have hB4 : B ≤ W4.heap.size := by rw [hB]; exact hb4.size
  have HW : Hid (w3.alloc (.cells #[.pointer none, .slice none 0 0] 76) = W4) := hW4.symm
  have HBB := Lib.hid hB
  have q0 := HX4.out.cell
  clear hW4 hb4 hbA hB HX3
  go_upto_region 4 with fail
  rw [HW.out, ← HBB.out]
  clear HW HBB
  go_wp2_with fail
  go_loopw [12] (fun i wr => ∃ k : Nat, k ≤ n ∧ i = .int .i64 k ∧ Hid (Boxed w (.slice a n c) wr) ∧ Hid (Lib.IsBuilder 76 5 B B (Lib.byteCells (Fc.dtext (d.take k))) wr) ∧ B ≤ wr.heap.size) (fun i _ => n - (intOf i).toNat)
  case atStart => exact ⟨0, Nat.zero_le _, rfl, HX4, HB, hB4⟩
  case round =>
    clear HX4 HB q0 hB4
    obtain ⟨k, hk, rfl, hbx, hbd, hBr⟩ := hrel
    by_cases hlt : k < n
    · have hki : (k : Int) < (n : Int) := by omega
      have hk0 : (0 : Int) ≤ (k : Int) := by omega
      obtain ⟨f, hf⟩ : ∃ f, d[k]? = some f := ⟨_, List.getElem?_eq_getElem (by rw [← HN.out]; exact hlt)⟩
      obtain ⟨_, _, g7, o7, hsl, _, _, hga7, hcl7⟩ := (HF.out wr hbx.out.below).any
      obtain ⟨rfl, hg7⟩ := hga7 (by rintro rfl; simp at hf)
      injection hsl with hsl1 hsl2 hsl3
      subst hsl1
      obtain ⟨p0, p1, p2, p3⟩ := hcl7 k f hf
      have hok := HOK.out f (List.mem_of_getElem? hf)
      obtain ⟨sn, hsn⟩ : ∃ sn, sn = Lx.str f.name := ⟨_, rfl⟩
      rw [← hsn] at p0
      obtain ⟨sk, hsk⟩ : ∃ sk, sk = Lx.str (Fc.ktext f) := ⟨_, rfl⟩
      have hzn : sn.size ≤ 24 := by rw [hsn, Fc.str_size]; exact hok.name.small
      have hzk : sk.size ≤ 40 := by rw [hsk, Fc.str_size]; exact Fc.ktext_len f
      have hall : ∀ j, (Fc.dtext (d.take j)).length ≤ 100 * j := fun j => by
        have h1 := Fc.dtext_len (d.take j) (fun g hg => HOK.out g (List.mem_of_mem_take hg))
        have h2 : (d.take j).length ≤ j := List.length_take_le _ _
        omega
      have hs1 : Fc.dtext (d.take (k + 1)) = Fc.dtext (d.take k) ++ Fc.ftext f := by
        rw [← Fc.dtext_snoc]
        congr 1
        rw [List.take_add_one, hf]; rfl
      have heq : (sn ++ ⟨#[32]⟩ ++ sk ++ ⟨#[59, 10]⟩ : ByteArray) = Lx.str (Fc.ftext f) := by
        rw [hsn, hsk, Fc.ftext_eq]
        apply ByteArray.ext
        simp [Lx.str]
      have HEQ := Lib.hid (And.intro heq (And.intro hs1 hall))
      obtain ⟨W, hW⟩ : ∃ W, W = wr.alloc (.cells #[.string sn, .int .i64 f.kind, .int .i64 f.lo, .int .i64 f.hi] 64) := ⟨_, rfl⟩
      have hk0' : W.heap[wr.heap.size]? = some (.cells #[.string sn, .int .i64 f.kind, .int .i64 f.lo, .int .i64 f.hi] 64 (0, 0)) := by rw [hW]; exact heap_alloc_new _ _
      have hbW : Below wr.heap.size wr W := by rw [hW]; exact (Below.refl _ _).alloc (Nat.le_refl _) _
      have hlt0 : wr.heap.size < W.heap.size := (Array.getElem?_eq_some_iff.1 hk0').1
      have hbxW := hbx.out.next hbW
      have HKT := Lib.hid (fun (w' : World) (ho : Fc.Old W w') => kind_text sn f.kind f.lo f.hi f.name hok.kind hok.low (by have := hok.le; have := hok.high; omega) (by have := hok.le; have := hok.low; omega) hok.high w' (HT.out.below (hbxW.below.trans (ho.out.mono hbxW.below.size))))
      have HKT : Hid (∀ w', Fc.Old W w' → Calls Tryz.prog 47 #[.agg #[.string sn, .int .i64 f.kind, .int .i64 f.lo, .int .i64 f.hi]] w' fun e w2 => e = .returned (.string sk) ∧ Below w'.heap.size w' w2) := by rw [hsk]; exact HKT
      have HBD := Lib.hid (builder_below hbd.out hbW)
      have HXW := Lib.hid hbxW
      have d0 : W.drew.cell? ⟨wr.heap.size, 0, none⟩ = some (.string sn) := Joins.cell_of_block hk0' 0
      have d1 : W.drew.cell? ⟨wr.heap.size, 1, none⟩ = some (.int .i64 f.kind) := Joins.cell_of_block hk0' 1
      have d2 : W.drew.cell? ⟨wr.heap.size, 2, none⟩ = some (.int .i64 f.lo) := Joins.cell_of_block hk0' 2
      have d3 : W.drew.cell? ⟨wr.heap.size, 3, none⟩ = some (.int .i64 f.hi) := Joins.cell_of_block hk0' 3
      have HD0 := Lib.hid (And.intro hlt0 d0)
      have hBW : B ≤ W.heap.size := by omega
      have HLW := Lib.hid (And.intro hBW (hall k))
      have HWS : Hid (∀ w5, Below W.drew.heap.size W.drew w5 → Calls Tryz.prog 46 #[.pointer (some ⟨B, 0, none⟩), .string (sn ++ ⟨#[32]⟩ ++ sk ++ ⟨#[59, 10]⟩)] w5 fun e w' => (∃ x, e = .returned x) ∧ Lib.IsBuilder 76 5 B B (Lib.byteCells (Fc.dtext (d.take (k + 1)))) w' ∧ Below B w5 w') := (fun w5 hb5 => by
        refine (Tryz.Builder_WriteString B B _ _ _ (builder_below (builder_below HBD.out (Below.refl _ _).drew) hb5) (by rw [Lib.byteCells_length, heq, Fc.str_size]; have := hall k; have := Fc.ftext_len hok; omega) (Nat.le_trans hBW hb5.size)).mono ?_
        rintro en w6 ⟨rfl, hI6, hb6⟩
        rw [heq] at hI6
        rw [hs1]
        exact ⟨⟨_, rfl⟩, builder_add hI6, hb6⟩ : ∀ w5, Below W.drew.heap.size W.drew w5 → _)
      clear hcl7 hga7 hsl2 hsl3 hf hok hsn hsk heq hs1 hall hk0' hbW hbxW hbx hbd
      go_upto_region 7 with fail
      rw [← hW]
      clear hW p0 p1 p2 p3
      go_region_with (first
        | (go_at_call 47; (with_reducible refine (HKT.out _ (Fc.Old.drew W)).mono ?_); rintro en w5 ⟨rfl, hb5⟩; have d50 : w5.cell? ⟨wr.heap.size, 0, none⟩ = some (.string sn) := (hb5.cell (p := ⟨wr.heap.size, 0, none⟩) HD0.out.1).trans HD0.out.2; have HB5 := Lib.hid hb5; clear hb5)
        | (go_at_call 46; (with_reducible refine (HWS.out _ HB5.out).mono ?_); rintro en w6 ⟨⟨x6, rfl⟩, hI6, hb6⟩; have HI6 := Lib.hid hI6; have HB6 := Lib.hid hb6; clear hI6 hb6))
      all_goals
        have hx5 := HXW.out.next (w2 := w5) (((Below.refl _ _).drew).trans HB5.out)
        have hx6 : Boxed w (.slice (some ⟨g7, o7, none⟩) n c) w6 := ⟨hx5.below.trans (HB6.out.mono (Nat.le_of_lt hBw)), (HB6.out.cell (p := ⟨w.heap.size, 0, none⟩) hBw).trans hx5.cell, Nat.lt_of_lt_of_le hx5.lt HB6.out.size⟩
        have hB6 : B ≤ w6.heap.size := Nat.le_trans (Nat.le_trans hBW HB5.out.size) HB6.out.size
        have HX6 := Lib.hid hx6
        clear hx5 hx6 d0 d1 d2 d3 d50 HD0 HBD HXW HWS HKT hBW hlt0
        go_wp2_with fail
        go_roundw
        case rel => exact ⟨k + 1, by omega, by go_num, HX6, HI6, hB6⟩
        case measure => simp [intOf]; omega
    · obtain rfl : k = n := by omega
      have hki : ¬ (k : Int) < (k : Int) := by omega
      have hbo := hbd.out
      rw [List.take_of_length_le (by rw [← HN.out]; exact Nat.le_refl _)] at hbo
      have HBO := Lib.hid hbo
      clear hbo
      go_wp2_with fail
      refine (Tryz.Builder_String_any B B _ wr HBO.out hBr).mono ?_
      rintro e w1 ⟨rfl, hb1⟩
      go_wp2_with fail
      go_ret
      exact ⟨rfl, hbx.out.below.trans (hb1.mono (Nat.le_of_lt hBw))⟩
end Go.Proofs.YtoamkanofhhjfaaGreatDoor
/-
  The walk of fact.CaseText.
-/
namespace Go.Proofs.YtoamkanofhhjfaaGreatDoor
open Go.RowKit

theorem one_string : (Tryz.prog.info? 9).map (fun i => (i.zero, i.size, i.bytes)) = some (some (.string ⟨#[]⟩), 1, 16) := by kernel_rfl
namespace Fc
def cellsS (l : List ByteArray) : List Value := l.map Value.string
theorem cellsS_get (l : List ByteArray) (k : Nat) : (cellsS l)[k]? = (l[k]?).map Value.string := by unfold cellsS; rw [List.getElem?_map]
theorem cellsS_set (l : List ByteArray) (k : Nat) (x : ByteArray) : (cellsS l).set k (.string x) = cellsS (l.set k x) := by unfold cellsS; rw [List.map_set]
theorem cellsS_made (n : Nat) : (madeCells (Value.string ⟨#[]⟩).cells (n * 1)).toList = cellsS (List.replicate n ⟨#[]⟩) := by
  rw [show (Value.string ⟨#[]⟩).cells = #[.string ⟨#[]⟩] from rfl, toList_madeCells_one, Nat.mul_one]
  unfold cellsS
  rw [List.map_replicate]
/-- A row of strings in block g. -/
def OwnS (g : Nat) (n : Nat) (l : List ByteArray) (w : World) : Prop := l.length = n ∧ w.ownsRow g 9 1 (.slice (some ⟨g, 0, none⟩) n n) n (cellsS l)
theorem OwnS.lt {g n : Nat} {l : List ByteArray} {w : World} (h : OwnS g n l w) : g < w.heap.size := by
  rcases h.2.2 with ⟨h, _⟩ | ⟨g2, _, _, h, _, hg, _⟩
  · cases h
  · cases h; exact (Array.getElem?_eq_some_iff.1 hg).1
theorem OwnS.cell {g n : Nat} {l : List ByteArray} {w : World} (h : OwnS g n l w) {k : Nat} {x : ByteArray} (hx : l[k]? = some x) : w.cell? ⟨g, k, none⟩ = some (.string x) := by
  have hk : k < n := by rw [← h.1]; exact (List.getElem?_eq_some_iff.1 hx).1
  rw [h.2.cellAt k (by omega), cellsS_get, hx]; rfl
theorem OwnS.frozen {g n : Nat} {l : List ByteArray} {w : World} (h : OwnS g n l w) (k : Nat) : w.frozen? ⟨g, k, none⟩ = false := h.2.frozenAt k
theorem OwnS.store {g n : Nat} {l : List ByteArray} {w : World} (h : OwnS g n l w) (k : Nat) (x : ByteArray) : OwnS g n (l.set k x) (w.setCell ⟨g, k, none⟩ (.string x)) := by
  refine ⟨by rw [List.length_set]; exact h.1, ?_⟩
  have := (h.2.stored k (.string x)).1
  rw [cellsS_set] at this
  exact this
theorem OwnS.block {g n : Nat} {l : List ByteArray} {w w' : World} (h : OwnS g n l w) (hb : w'.heap[g]? = w.heap[g]?) : OwnS g n l w' := by
  obtain ⟨h0, h1, h2⟩ := h
  refine ⟨h0, h1, ?_⟩
  rcases h2 with hn | ⟨g2, cap, cur, e, hb', hg, rest⟩
  · exact .inl hn
  · refine .inr ⟨g2, cap, cur, e, hb', ?_, rest⟩
    cases e
    exact hb.trans hg
/-- The texts of the values. -/
def vtexts (d : List Fact) (m : List Int) : List Lx.T := List.zipWith vtext d m
theorem rtext_join : ∀ (d : List Fact) (m : List Int), rtext d m = Lib.joinTail [44, 32] (vtexts d m)
  | [], m => by simp [rtext, vtexts, Lib.joinTail]
  | _ :: _, [] => by simp [rtext, vtexts, Lib.joinTail]
  | f :: d, x :: m => by
    have := rtext_join d m
    rw [rtext, this]
    simp [vtexts, Lib.joinTail]
theorem ctext_join : ∀ (d : List Fact) (m : List Int), ctext d m = Lib.join (vtexts d m) [44, 32]
  | [], m => by simp [ctext, vtexts, Lib.join_nil]
  | _ :: _, [] => by simp [ctext, vtexts, Lib.join_nil]
  | f :: d, x :: m => by
    show _ = Lib.join (vtext f x :: vtexts d m) [44, 32]
    rw [ctext, rtext_join, Lib.join_cons]
theorem vtext_len {f : Fact} (h : f.name.length ≤ 24) (x : Int) : (vtext f x).length ≤ 34 := by
  have := dec_len x.toNat
  simp [vtext]; omega
theorem rtext_len : ∀ (d : List Fact) (m : List Int), (∀ f ∈ d, Ok f) → (rtext d m).length ≤ 40 * d.length
  | [], m, _ => by simp [rtext]
  | _ :: _, [], _ => by simp [rtext]
  | f :: d, x :: m, h => by
    have h1 := rtext_len d m (fun g hg => h g (by simp [hg]))
    have h2 := vtext_len (h f (by simp)).name.small x
    simp [rtext]; omega
theorem ctext_len (d : List Fact) (m : List Int) (h : ∀ f ∈ d, Ok f) : (ctext d m).length ≤ 40 * d.length := by
  match d, m, h with
  | [], m, _ => simp [ctext]
  | _ :: _, [], _ => simp [ctext]
  | f :: d, x :: m, h =>
    have h1 := rtext_len d m (fun g hg => h g (by simp [hg]))
    have h2 := vtext_len (h f (by simp)).name.small x
    simp [ctext]; omega
/-- The first strings are there. -/
def Filled (d : List Fact) (m : List Int) (k : Nat) (l : List ByteArray) : Prop := ∀ j, j < k → ∀ f, d[j]? = some f → l[j]? = some (Lx.str (vtext f (m.getD j 0)))
theorem Filled.next {d : List Fact} {m : List Int} {k : Nat} {l : List ByteArray} (h : Filled d m k l) {f : Fact} (hf : d[k]? = some f) {x : Int} (hx : m.getD k 0 = x) (hk : k < l.length) : Filled d m (k + 1) (l.set k (Lx.str (vtext f x))) := by
  intro j hj g hg
  by_cases e : j = k
  · subst e
    rw [hf] at hg
    obtain rfl := Option.some.inj hg
    rw [List.getElem?_set_self hk, hx]
  · rw [List.getElem?_set_ne (by omega)]
    exact h j (by omega) g hg
theorem Filled.all {d : List Fact} {m : List Int} {l : List ByteArray} (h : Filled d m d.length l) (hl : l.length = d.length) (hm : m.length = d.length) : l = (vtexts d m).map Lx.str := by
  apply List.ext_getElem?
  intro j
  by_cases hj : j < d.length
  · have hf := List.getElem?_eq_getElem hj
    rw [h j hj d[j] hf, vtexts, List.getElem?_map, List.getElem?_zipWith, hf, List.getElem?_eq_getElem (show j < m.length by omega)]
    simp only [Option.map_some]
    rw [List.getD_eq_getElem?_getD, List.getElem?_eq_getElem (show j < m.length by omega)]; rfl
  · rw [List.getElem?_eq_none (by omega), List.getElem?_eq_none (by rw [List.length_map, vtexts, List.length_zipWith]; omega)]
end Fc

set_option maxHeartbeats 4000000 in
set_option maxRecDepth 100000 in
theorem casetext_no (v u : Value) (d : List Fc.Fact) (m : List Int) (w : World) (hF : Fc.IsF w v d) (hu : Fc.IsN w u m) (hno : ¬ Fc.Fit d m) :
    Calls Tryz.prog 20 #[.agg #[v], u] w (Fc.TextOut [] w) := by
  obtain ⟨a, c, rfl, _, _⟩ := hF.form
  obtain ⟨a2, c2, _, _, rfl, _, _, h9, h8⟩ := hu.any
  clear h9 h8
  obtain ⟨n, hn⟩ : ∃ n, n = d.length := ⟨_, rfl⟩
  obtain ⟨n2, hn2⟩ : ∃ n, n = m.length := ⟨_, rfl⟩
  rw [← hn] at hF ⊢
  rw [← hn2] at hu ⊢
  have HB := Lib.hid (boxD_below w (.slice a n c))
  have HV := Lib.hid (fits_walk _ _ d m _ (hF.below HB.out) (hu.below HB.out))
  clear hF hu hn hn2
  go_enter Tryz.func20, Tryz.ntmps20
  go_wp2_with fail
  refine HV.out.mono ?_
  rintro en w3 ⟨⟨b, rfl, hb⟩, hb3⟩
  obtain rfl : b = false := by cases b with | false => rfl | true => exact absurd (hb.1 rfl) hno
  clear hb HV
  go_wp2_with fail
  go_ret
  exact ⟨rfl, HB.out.trans (hb3.mono HB.out.size)⟩

set_option maxHeartbeats 4000000 in
set_option maxRecDepth 100000 in
theorem casetext_walk (v u : Value) (d : List Fc.Fact) (m : List Int) (w : World) (hF : Fc.IsF w v d) (hu : Fc.IsN w u m) (hfit : Fc.Fit d m) (ht : HasTab w) :
    Calls Tryz.prog 20 #[.agg #[v], u] w (Fc.TextOut (Fc.ctext d m) w) := by
  have HFW := Lib.hid (fits_walk v u d m _ (hF.below (boxD_below w v)) (hu.below (boxD_below w v)))
  have HF : Hid (∀ w', Below w.heap.size w w' → Fc.IsF w' v d) := fun w' hb => hF.below hb
  have HU : Hid (∀ w', Below w.heap.size w w' → Fc.IsN w' u m) := fun w' hb => hu.below hb
  obtain ⟨a, c, rfl, hc1, hc2⟩ := hF.form
  obtain ⟨a2, c2, _, _, rfl, hd1, hd2, h9, h8⟩ := hu.any
  clear h9 h8 hF hu
  have hnd60 := hfit.1.2.2
  have HOK := Lib.hid hfit.1.1
  have hmn : m.length = d.length := Fc.within_len hfit.2
  have HBD := Lib.hid (Fc.within_get.1 hfit.2)
  obtain ⟨n, hn⟩ : ∃ n, n = d.length := ⟨_, rfl⟩
  rw [← hn] at HF HFW hc1 hnd60 hmn ⊢
  rw [hmn] at HU HFW hd1 ⊢
  have HN := Lib.hid (And.intro hn hmn)
  have HT := Lib.hid ht
  have HX0 := Lib.hid (Boxed.start w (.slice a n c))
  clear hn hmn ht
  go_enter Tryz.func20, Tryz.ntmps20
  go_wp2_with fail
  refine HFW.out.mono ?_
  rintro en w3 ⟨⟨b, rfl, hb⟩, hb3⟩
  obtain rfl : b = true := hb.2 hfit
  have hbx3 := HX0.out.next hb3
  have HX3 := Lib.hid hbx3
  have q3 := hbx3.cell
  clear hb HFW hb3 HX0 hfit hbx3
  obtain ⟨i0, hii, hz0, hz1, hz2⟩ := info_parts one_string
  have HI := Lib.hid hii
  clear hii
  go_upto_region 4 with (at_make; refine wpList_make_full _ rfl _ _ 84 rfl w3.heap.size 9 i0 (.string ⟨#[]⟩) 1 Tryz.underlying84 HI.out hz0 hz1 .i64 .i64 (n : Int) (n : Int) n rfl rfl rfl rfl (by rw [hz2]; omega) (by unfold maxLen; omega) (Nat.le_refl _) ?_; intro w4 hown hgrow)
  have hb4 : Below w3.heap.size w3 w4 := (Below.refl _ _).grown hgrow (Nat.le_refl _) (fun _ h => by cases h)
  have hO : Fc.OwnS w3.heap.size n (List.replicate n ⟨#[]⟩) w4 := by
    refine ⟨List.length_replicate, ?_⟩
    rw [← Fc.cellsS_made]
    exact hown
  have hbx4 := HX3.out.next hb4
  have q4 := hbx4.cell
  have HX4 := Lib.hid hbx4
  have HO := Lib.hid (And.intro hO (show Fc.Filled d m 0 (List.replicate n ⟨#[]⟩) from fun j hj => absurd hj (by omega)))
  have hgl := HX3.out.lt
  obtain ⟨g, hg⟩ : ∃ g, g = w3.heap.size := ⟨_, rfl⟩
  rw [← hg] at HO hgl ⊢
  clear hg hown hgrow hb4 hO hz0 hz1 hz2 HI q3 hbx4
  go_wp2_with fail
  go_loopw [18] (fun i wr => ∃ k : Nat, k ≤ n ∧ i = .int .i64 k ∧ Hid (Boxed w (.slice a n c) wr) ∧ Hid (∃ l, Fc.OwnS g n l wr ∧ Fc.Filled d m k l)) (fun i _ => n - (intOf i).toNat)
  case atStart => exact ⟨0, Nat.zero_le _, rfl, HX4, ⟨_, HO.out.1, HO.out.2⟩⟩
  case round =>
    clear HX4 HO q4
    obtain ⟨k, hk, rfl, hbx, hox⟩ := hrel
    by_cases hlt : k < n
    · have hki : (k : Int) < (n : Int) := by omega
      have hk0 : (0 : Int) ≤ (k : Int) := by omega
      obtain ⟨f, hf⟩ : ∃ f, d[k]? = some f := ⟨_, List.getElem?_eq_getElem (by rw [← HN.out.1]; exact hlt)⟩
      obtain ⟨x, hx⟩ : ∃ x, m[k]? = some x := ⟨_, List.getElem?_eq_getElem (by rw [HN.out.2]; exact hlt)⟩
      have hxd : m.getD k 0 = x := by rw [List.getD_eq_getElem?_getD, hx]; rfl
      have hxb := HBD.out.2 k f x hf hx
      obtain ⟨_, _, g7, o7, hsl, _, _, hga7, hcl7⟩ := (HF.out wr hbx.out.below).any
      obtain ⟨rfl, hg7⟩ := hga7 (by rintro rfl; simp at hf)
      injection hsl with hsl1 hsl2 hsl3
      subst hsl1
      obtain ⟨_, _, g8, o8, hsl, _, _, hga8, hcl8⟩ := (HU.out wr hbx.out.below).any
      obtain ⟨rfl, hg8⟩ := hga8 (by rintro rfl; simp at hx)
      injection hsl with hsl1 hsl4 hsl5
      subst hsl1
      obtain ⟨p0, p1, p2, p3⟩ := hcl7 k f hf
      have p5 := hcl8 k (by rw [HN.out.2]; exact hlt)
      rw [hxd] at p5
      have hok := HOK.out f (List.mem_of_getElem? hf)
      obtain ⟨sn, hsn⟩ : ∃ sn, sn = Lx.str f.name := ⟨_, rfl⟩
      rw [← hsn] at p0
      obtain ⟨sk, hsk⟩ : ∃ sk, sk = Lx.str (Lx.dec x.toNat) := ⟨_, rfl⟩
      have hzn : sn.size ≤ 24 := by rw [hsn, Fc.str_size]; exact hok.name.small
      have hzk : sk.size ≤ 7 := by rw [hsk, Fc.str_size]; exact dec_len _
      have heq : (sn ++ ⟨#[32, 61, 32]⟩ ++ sk : ByteArray) = Lx.str (Fc.vtext f x) := by
        rw [hsn, hsk]
        apply ByteArray.ext
        simp [Lx.str, Fc.vtext]
      obtain ⟨l, hl, hfl⟩ := hox.out
      obtain ⟨y, hy⟩ : ∃ y, l[k]? = some y := ⟨_, List.getElem?_eq_getElem (by rw [hl.1]; exact hlt)⟩
      have hnx := hfl.next hf hxd (by rw [hl.1]; exact hlt)
      rw [← heq] at hnx
      obtain ⟨W, hW⟩ : ∃ W, W = wr.alloc (.cells #[.string sn, .int .i64 f.kind, .int .i64 f.lo, .int .i64 f.hi] 64) := ⟨_, rfl⟩
      have hk0' : W.heap[wr.heap.size]? = some (.cells #[.string sn, .int .i64 f.kind, .int .i64 f.lo, .int .i64 f.hi] 64 (0, 0)) := by rw [hW]; exact heap_alloc_new _ _
      have hbW : Below wr.heap.size wr W := by rw [hW]; exact (Below.refl _ _).alloc (Nat.le_refl _) _
      have hlt0 : wr.heap.size < W.heap.size := (Array.getElem?_eq_some_iff.1 hk0').1
      have hbxW := hbx.out.next hbW
      have hlW := hl.block (hbW.block _ hl.lt)
      have HIT := Lib.hid (fun (w' : World) (ho : Fc.Old W w') => itoa_walk x (by have := hok.low; omega) (by have := hok.high; omega) w' (HT.out.below (hbxW.below.trans (ho.out.mono hbxW.below.size))))
      rw [← hsk] at HIT
      have d0 : W.drew.cell? ⟨wr.heap.size, 0, none⟩ = some (.string sn) := Joins.cell_of_block hk0' 0
      have d5 : W.drew.cell? ⟨g8, o8 + k, none⟩ = some (.int .i64 x) := (hbW.cell (p := ⟨g8, o8 + k, none⟩) hg8).trans p5
      have hg8W : g8 < W.heap.size := by omega
      have HD0 := Lib.hid (And.intro hlt0 (And.intro d0 (And.intro hg8W d5)))
      have HLW := Lib.hid (And.intro hlW (And.intro hy hnx))
      have HXW := Lib.hid hbxW
      clear hcl7 hga7 hsl2 hsl3 hcl8 hga8 hsl4 hsl5 hf hx hxd hok hsn hsk heq hk0' hbW hbxW hbx hl hfl hy hnx hox hlW hxb
      go_upto_region 7 with fail
      rw [← hW]
      clear hW p0 p1 p2 p3 p5
      go_region_with (first
        | (go_at_call 50; (with_reducible refine (HIT.out _ (Fc.Old.drew W)).mono ?_); rintro en w5 ⟨rfl, hb5⟩; have d50 : w5.cell? ⟨wr.heap.size, 0, none⟩ = some (.string sn) := (hb5.cell (p := ⟨wr.heap.size, 0, none⟩) HD0.out.1).trans HD0.out.2.1; have d55 : w5.cell? ⟨g8, o8 + k, none⟩ = some (.int .i64 x) := (hb5.cell (p := ⟨g8, o8 + k, none⟩) HD0.out.2.2.1).trans HD0.out.2.2.2; have hl5 := HLW.out.1.block (w' := w5) (hb5.block _ HLW.out.1.lt); have e5 := hl5.cell HLW.out.2.1; have f5 := hl5.frozen k; have HL5 := Lib.hid hl5; have HB5 := Lib.hid hb5; clear hb5 hl5))
      all_goals
        have hbx5 := HXW.out.next (w2 := w5) (((Below.refl _ _).drew).trans HB5.out)
        have hbC : Below g w5 (w5.setCell ⟨g, k, none⟩ (.string (sn ++ ⟨#[32, 61, 32]⟩ ++ sk))) := (Below.refl _ _).setCell (p := ⟨g, k, none⟩) (Nat.le_refl _) _
        have hbx6 : Boxed w (.slice (some ⟨g7, o7, none⟩) n c) (w5.setCell ⟨g, k, none⟩ (.string (sn ++ ⟨#[32, 61, 32]⟩ ++ sk))) := ⟨hbx5.below.trans (hbC.mono (Nat.le_of_lt hgl)), (hbC.cell (p := ⟨w.heap.size, 0, none⟩) hgl).trans hbx5.cell, Nat.lt_of_lt_of_le hbx5.lt hbC.size⟩
        have HX6 := Lib.hid hbx6
        have HO6 : Hid (∃ l, Fc.OwnS g n l (w5.setCell ⟨g, k, none⟩ (.string (sn ++ ⟨#[32, 61, 32]⟩ ++ sk))) ∧ Fc.Filled d m (k + 1) l) := (⟨_, HL5.out.store k _, HLW.out.2.2⟩ : ∃ l, Fc.OwnS g n l (w5.setCell ⟨g, k, none⟩ (.string (sn ++ ⟨#[32, 61, 32]⟩ ++ sk))) ∧ Fc.Filled d m (k + 1) l)
        clear hbx5 hbC hbx6 d0 d5 d50 d55 e5 f5 HD0 HLW HXW HIT HL5 HB5 hlt0 hg8W
        go_wp2_with fail
        go_roundw
        case rel => exact ⟨k + 1, by omega, by go_num, HX6, HO6⟩
        case measure => simp [intOf]; omega
    · obtain rfl : k = n := by omega
      have hki : ¬ (k : Int) < (k : Int) := by omega
      obtain ⟨l, hl, hfl⟩ := hox.out
      have hnd := HN.out.1
      have hnm := HN.out.2
      have hle := Fc.Filled.all (d := d) (m := m) (l := l) (by rw [← hnd]; exact hfl) (by rw [hl.1, hnd]) (by rw [hnm, hnd])
      have hll := hl.1
      have hjn : Lib.join (l.map (·.data.toList)) [44, 32] = Fc.ctext d m := by
        rw [hle, List.map_map, Fc.ctext_join]
        congr 1
        exact List.map_id' _
      have hjl : (Fc.ctext d m).length ≤ 140737488355328 := by
        have := Fc.ctext_len d m HOK.out
        omega
      have HJ := Lib.hid (Tryz.strings_Join g 0 k l ⟨#[44, 32]⟩ wr (fun j x hx => by rw [Nat.zero_add]; exact hl.cell hx) hl.lt (by omega) (by omega) (by rw [hjn]; exact hjl))
      rw [hjn, hll] at HJ
      clear hl hfl hox hnd hnm hle hll hjn hjl
      go_wp2_with fail
      refine HJ.out.mono ?_
      rintro e w6 ⟨rfl, hb6⟩
      go_wp2_with fail
      go_ret
      exact ⟨rfl, hbx.out.below.trans (hb6.mono hbx.out.below.size)⟩
end Go.Proofs.YtoamkanofhhjfaaGreatDoor
