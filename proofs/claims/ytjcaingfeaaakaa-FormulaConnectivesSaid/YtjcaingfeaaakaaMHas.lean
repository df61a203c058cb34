/-
  The walk of formula's has: whether a formula that is well-formed holds.
-/
import Derived.Test.YtjcaingfeaaakaaMAny
import Derived.Test.YtjcaingfeaaakaaMTexts
import Derived.Test.YtjcaingfeaaakaaMNode
import Derived.Test.YtjcaingfeaaakaaMVisit
import Derived.Laws.EntriesVeiled
import Derived.Test.YtjcaingfeaaakaaMSmall
namespace Go.Proofs.Ytjcaingfeaaakaa
open Go.RowKit

namespace Fm
/-- The value of a fact in a case. -/
def val (d : List Fc.Fact) (c : List Int) (x : T) : Int := c.getD (Fc.idx d x).toNat 0
theorem anyL_any (v : T → Int) (ts : T → Bool) : ∀ ks, anyL v ts ks = ks.any (holds v ts)
  | [] => by rw [anyL]; rfl
  | k :: ks => by rw [anyL, List.any_cons, anyL_any v ts ks]
theorem allL_any (v : T → Int) (ts : T → Bool) : ∀ ks, allL v ts ks = !(ks.any fun k => !(holds v ts k))
  | [] => by rw [allL]; rfl
  | k :: ks => by rw [allL, List.any_cons, allL_any v ts ks]; simp
/-- What is known of a node without an error. -/
theorem node_ok {d : List Fc.Fact} {ts : T → Bool} {o : Int} {x : T} {c n : Int} {ks : List Fo} (h : err1 Fc.isNm (fs d) ts (.mk o x c n ks) = 0) :
    wf Fc.isNm (.mk o x c n ks) = true ∧ (o = 3 → 0 ≤ Fc.idx d x) ∧ (o = 5 → ks.length = 1) ∧ (o = 1 ∨ o = 2 ∨ o = 3 ∨ o = 4 ∨ o = 5 ∨ o = 6 ∨ o = 7) := by
  rw [err1] at h
  by_cases hw : wf Fc.isNm (.mk o x c n ks) = false
  · rw [if_pos hw] at h; cases h
  rw [if_neg hw] at h
  have hw' : wf Fc.isNm (.mk o x c n ks) = true := by simpa using hw
  refine ⟨hw', fun h3 => ?_, fun h5 => ?_, ?_⟩
  · rw [if_pos h3] at h
    by_cases hn : n < 0 ∨ 1000000 < n
    · rw [if_pos hn] at h; cases h
    · rw [if_neg hn] at h
      by_cases hf : fs d x = false
      · rw [if_pos hf] at h; cases h
      · simpa using hf
  · subst h5
    rw [wf_5] at hw'
    simp at hw'
    omega
  · by_cases h12 : o = 1 ∨ o = 2
    · omega
    · by_cases h3 : o = 3; · omega
      by_cases h4 : o = 4; · omega
      by_cases h5 : o = 5; · omega
      by_cases h67 : o = 6 ∨ o = 7; · omega
      rw [wf_no (by omega) (by omega) h3 h4 h5 (by omega) (by omega)] at hw'
      cases hw'
/-- What has says, for formulas of a size. -/
def HasAt (s : Nat) : Prop := ∀ (d : List Fc.Fact) (c : List Int) (l : List T) (ts : T → Bool) (f : Fo) (u dv cv tv : Value) (w : World), size f ≤ s → errs Fc.isNm (fs d) ts f = 0 → At w f u → Fc.IsF w dv d → Fc.IsN w cv c → c.length = d.length → IsT w tv l →
  Calls Try.prog 50 #[.agg #[dv, cv, tv], fv f u] w fun e w' => e = .returned (.bool (holds (val d c) (has l) f)) ∧ Below w.heap.size w w'
end Fm

set_option maxHeartbeats 1000000 in
set_option maxRecDepth 100000 in
/-- The function value that asks whether a kid does not hold. -/
theorem has1_of (s0 s1 s2 : Value) (B : Nat) (k : Fm.Fo) (v : Value) (w : World) {b : Bool} (hB : w.heap[B]? = some (.cells #[s0, s1, s2] 76 (0, 0))) (hv : Fm.At w k v)
    (h : ∀ W, Below w.heap.size w W → Fm.At W k v → Calls Try.prog 50 #[.agg #[s0, s1, s2], Fm.fv k v] W fun e w' => e = .returned (.bool b) ∧ Below W.heap.size W w') :
    Calls Try.prog 67 #[Fm.fv k v, .pointer (some ⟨B, 0, none⟩)] w fun e w' => e = .returned (.bool (!b)) ∧ Below w.heap.size w w' := by
  obtain ⟨va, vn, vc, hvv⟩ : ∃ a n c, v = .slice a n c := by obtain ⟨a, c, e, _⟩ := hv.kidsAt.len; exact ⟨_, _, _, e⟩
  subst hvv
  obtain ⟨W2, hW2⟩ : ∃ W2, W2 = w.alloc (.cells #[.int .i64 k.op, .string (Lx.str k.name), .int .i64 k.cmp, .int .i64 k.num, .slice va vn vc] 24) := ⟨_, rfl⟩
  have hb2 : Below w.heap.size w W2 := by rw [hW2]; exact (Below.refl _ _).alloc (Nat.le_refl _) _
  have hB2 := (hb2.block _ (Array.getElem?_eq_some_iff.1 hB).1).trans hB
  rw [hW2] at hB2
  have q0 := Joins.cell_of_block hB2 0
  have q1 := Joins.cell_of_block hB2 1
  have q2 := Joins.cell_of_block hB2 2
  have HC := Lib.hid (h W2 hb2 (hv.below hb2))
  have HB := Lib.hid hb2
  clear h hv hB hb2 hB2
  go_enter Try.func67, Try.ntmps67
  go_wp2_with fail
  rw [← hW2]
  refine HC.out.mono ?_
  rintro e w4 ⟨rfl, hb4⟩
  have HX := Lib.hid (HB.out.trans (hb4.mono HB.out.size))
  clear hb4
  go_wp2_with fail
  go_ret
  exact ⟨rfl, HX.out⟩

set_option maxHeartbeats 4000000 in
set_option maxRecDepth 100000 in
theorem has_walk : ∀ s, Fm.HasAt s := by
  intro s
  induction s with
  | zero => intro d c l ts f u dv cv tv w hs; have := Fm.size_pos f; omega
  | succ s ih =>
    intro d c l ts f u dv cv tv w hs he hat hd hc hlen ht
    obtain ⟨da, dn, dc, hdv⟩ : ∃ a n c, dv = .slice a n c := by obtain ⟨a, c, e, _⟩ := hd.form; exact ⟨_, _, _, e⟩
    obtain ⟨ca, cn, cc, hcv⟩ : ∃ a n c, cv = .slice a n c := by obtain ⟨a, c, _, _, e, _⟩ := hc.any; exact ⟨_, _, _, e⟩
    obtain ⟨ta, tn, tc, htv⟩ : ∃ a n c, tv = .slice a n c := by obtain ⟨a, c, _, _, e, _⟩ := ht.any; exact ⟨_, _, _, e⟩
    obtain ⟨ua, un, uc, hu⟩ : ∃ a n c, u = .slice a n c := by obtain ⟨a, c, e, _⟩ := hat.kidsAt.len; exact ⟨_, _, _, e⟩
    subst hdv hcv htv hu
    have hsz := Fm.size_eq f
    obtain ⟨o, x, cm, n, ks⟩ := f
    obtain ⟨h1, h2⟩ := Fm.errs_ok.1 he
    obtain ⟨_, hi3, hk5, hop⟩ := Fm.node_ok h1
    have hke := Fm.errsL_ok.1 h2
    obtain ⟨W2, hW2⟩ : ∃ W2, W2 = (w.alloc (.cells #[.slice da dn dc, .slice ca cn cc, .slice ta tn tc] 76)).alloc (.cells #[.int .i64 o, .string (Lx.str x), .int .i64 cm, .int .i64 n, .slice ua un uc] 24) := ⟨_, rfl⟩
    have hb2 : Below w.heap.size w W2 := by rw [hW2]; exact ((Below.refl _ _).alloc (Nat.le_refl _) _).alloc (by simp) _
    have k0 : W2.heap[w.heap.size]? = some (.cells #[.slice da dn dc, .slice ca cn cc, .slice ta tn tc] 76 (0, 0)) := by rw [hW2]; exact Fm.blkK (heap_alloc_new _ _)
    have k1 : W2.heap[w.heap.size + 1]? = some (.cells #[.int .i64 o, .string (Lx.str x), .int .i64 cm, .int .i64 n, .slice ua un uc] 24 (0, 0)) := by rw [hW2]; exact Fm.blk1 _ _ _
    have hlt1 : w.heap.size + 1 < W2.heap.size := (Array.getElem?_eq_some_iff.1 k1).1
    have hlt0 : w.heap.size < W2.heap.size := by omega
    have r0 := Joins.cell_of_block k0 0
    have r1 := Joins.cell_of_block k0 1
    have r2 := Joins.cell_of_block k0 2
    have q0 := Joins.cell_of_block k1 0
    have q1 := Joins.cell_of_block k1 1
    have q2 := Joins.cell_of_block k1 2
    have q3 := Joins.cell_of_block k1 3
    have q4 := Joins.cell_of_block k1 4
    obtain ⟨z, hz⟩ : ∃ z, z = Fm.holds (Fm.val d c) (Fm.has l) (.mk o x cm n ks) := ⟨_, rfl⟩
    rw [← hz]
    rw [Fm.holds] at hz
    have HIH : Hid (∀ k ∈ ks, ∀ v W, Below W2.heap.size W2 W → Fm.At W k v → Calls Try.prog 50 #[.agg #[.slice da dn dc, .slice ca cn cc, .slice ta tn tc], Fm.fv k v] W fun e w' => e = .returned (.bool (Fm.holds (Fm.val d c) (Fm.has l) k)) ∧ Below W.heap.size W w') := fun k hk v W hW hv =>
      ih d c l ts k v _ _ _ W (by have := Fm.size_mem hk; have e : Fm.size (.mk o x cm n ks) = 1 + Fm.sizeL ks := hsz; omega) (hke k hk) hv (hd.below (hb2.trans (hW.mono hb2.size))) (hc.below (hb2.trans (hW.mono hb2.size))) hlen (ht.below (hb2.trans (hW.mono hb2.size)))
    have hmf : ∀ (fn : Fn) (first cap : Array Value) (w : World), (Instr.makeFunc fn first cap).run Try.prog w = .ok (.func fn first cap) w := fun _ _ _ _ => rfl
    have HKS : Hid (∀ W, Below W2.heap.size W2 W → Fm.IsK W (.slice ua un uc) ks) := fun W hW => hat.kidsAt.below (hb2.trans (hW.mono hb2.size))
    have HB2 := Lib.hid hb2
    have HZ := Lib.hid hz
    have HI : Hid (∀ W, Below W2.heap.size W2 W → Calls Try.prog 48 #[.agg #[.slice da dn dc], .string (Lx.str x)] W fun e w' => e = .returned (.int .i64 (Fc.idx d x)) ∧ Below W.heap.size W w') := fun W hW => by
      have := index_walk _ d (Lx.str x) W (hd.below (hb2.trans (hW.mono hb2.size)))
      rw [Lx.tx_str] at this
      exact this
    have HC : Hid (∀ W, Below W2.heap.size W2 W → Calls Try.prog 39 #[.slice ta tn tc, .string (Lx.str x)] W fun e w' => e = .returned (.bool (Fm.has l x)) ∧ W = w') := fun W hW => contains_walk _ l x W (ht.below (hb2.trans (hW.mono hb2.size)))
    have HCV := Lib.hid (hc.below hb2)
    have HK0 := Lib.hid k0
    dsimp only [Fm.fv, Fm.Fo.op, Fm.Fo.name, Fm.Fo.cmp, Fm.Fo.num, Fm.Fo.kids]
    clear ih hs he hat hd hc ht hsz h1 h2 hke hb2 k0 k1 hz
    rcases hop with rfl | rfl | rfl | rfl | rfl | rfl | rfl
    · have hz : z = true := by rw [HZ.out, if_pos rfl]
      subst hz
      clear HZ HIH HKS HI HC HCV HK0
      go_enter Try.func50, Try.ntmps50
      go_wp2_with fail
      go_ret
      exact ⟨rfl, by rw [← hW2]; exact HB2.out⟩
    · have hz : z = false := by rw [HZ.out]; rfl
      subst hz
      clear HZ HIH HKS HI HC HCV HK0
      go_enter Try.func50, Try.ntmps50
      go_wp2_with fail
      go_ret
      exact ⟨rfl, by rw [← hW2]; exact HB2.out⟩
    · have hz : z = Fm.compares cm (Fm.val d c x) n := by rw [HZ.out]; rfl
      have hix := Fc.idx_lt (d := d) (name := x)
      have h3 := hi3 rfl
      obtain ⟨i, hi⟩ : ∃ i : Nat, Fc.idx d x = (i : Int) := ⟨(Fc.idx d x).toNat, by omega⟩
      obtain ⟨a, cap, g, o, e, hc1, hc2, hg, hcell⟩ := HCV.out.any
      obtain ⟨rfl, rfl, rfl⟩ : ca = a ∧ cn = c.length ∧ cc = cap := by cases e; exact ⟨rfl, rfl, rfl⟩
      have hil : i < c.length := by omega
      obtain ⟨rfl, hgl⟩ := hg (by rintro rfl; simp at hil)
      have hci := hcell i hil
      rw [Fm.val, hi, Int.toNat_natCast] at hz
      rw [hi] at HI
      obtain ⟨y, hy⟩ : ∃ y, y = c.getD i 0 := ⟨_, rfl⟩
      rw [← hy] at hz hci
      have HCMP : Hid (∀ W, Calls Try.prog 65 #[.int .i64 y, .int .i64 cm, .int .i64 n] W fun e w' => e = .returned (.bool z) ∧ W = w') := fun W => by rw [hz]; exact compares_walk y cm n W
      obtain ⟨m, hm⟩ : ∃ m, m = c.length := ⟨_, rfl⟩
      rw [← hm] at hil hc1
      have hilt : (i : Int) < (m : Int) := by omega
      have hi0 : (0 : Int) ≤ (i : Int) := by omega
      have e0 : ∀ w', Fc.Old W2 w' → w'.cell? ⟨w.heap.size, 0, none⟩ = some (.slice da dn dc) := fun w' h => h.cell hlt0 r0
      have e1 : ∀ w', Fc.Old W2 w' → w'.cell? ⟨w.heap.size, 1, none⟩ = some (.slice (some ⟨g, o, none⟩) m cc) := fun w' h => h.cell hlt0 (by rw [hm]; exact r1)
      have e2 : ∀ w', Fc.Old W2 w' → w'.cell? ⟨w.heap.size + 1, 1, none⟩ = some (.string (Lx.str x)) := fun w' h => h.cell hlt1 q1
      have e3 : ∀ w', Fc.Old W2 w' → w'.cell? ⟨w.heap.size + 1, 2, none⟩ = some (.int .i64 cm) := fun w' h => h.cell hlt1 q2
      have e4 : ∀ w', Fc.Old W2 w' → w'.cell? ⟨w.heap.size + 1, 3, none⟩ = some (.int .i64 n) := fun w' h => h.cell hlt1 q3
      have e5 : ∀ w', Fc.Old W2 w' → w'.cell? ⟨g, o + i, none⟩ = some (.int .i64 y) := fun w' h => h.cell hgl hci
      have HII : Hid (∀ W, Fc.Old W2 W → Calls Try.prog 48 #[.agg #[.slice da dn dc], .string (Lx.str x)] W fun e w' => e = .returned (.int .i64 (i : Nat)) ∧ Below W.heap.size W w') := fun W h => HI.out W h.out
      rw [← hm] at hW2
      rw [← hm]
      clear HZ HIH HKS HI HC HCV HK0 hz r0 r1 r2 q1 q2 q3 q4 hcell hci hy hm hi hix h3 hlen hi3 hk5
      go_enter Try.func50, Try.ntmps50
      go_wp2_with fail
      rw [← hW2]
      clear hW2 q0
      go_region_held3 (fun w' => Fc.Old W2 w') (first | exact Fc.Old.drew W2 | exact Fc.Old.step (by with_reducible assumption) (by with_reducible assumption) | with_reducible assumption)
        (first
          | (go_at_call 48; (with_reducible refine (HII.out _ (by with_reducible assumption)).mono ?_); rintro e w5 ⟨rfl, hb5⟩)
          | (go_at_call 65; (with_reducible refine (HCMP.out _).mono ?_); rintro e w6 ⟨rfl, rfl⟩))
      have hO : Fc.Old W2 w5 := by with_reducible assumption
      go_wp2_with fail
      go_ret
      exact ⟨rfl, HB2.out.trans (hO.out.mono HB2.out.size)⟩
    · have hz : z = Fm.has l x := by rw [HZ.out]; rfl
      rw [← hz] at HC
      clear HZ HIH HKS HI HCV HK0 hz
      go_enter Try.func50, Try.ntmps50
      go_wp2_with fail
      rw [← hW2]
      refine (HC.out _ (Below.refl _ _)).mono ?_
      rintro e w4 ⟨rfl, hw4⟩
      subst hw4
      go_wp2_with fail
      go_ret
      exact ⟨rfl, by rw [← hW2]; exact HB2.out⟩
    · obtain ⟨k, rfl⟩ : ∃ k, ks = [k] := by
        have := hk5 rfl
        match ks, this with
        | [k], _ => exact ⟨k, rfl⟩
      have hz : z = !(Fm.holds (Fm.val d c) (Fm.has l) k) := by
        rw [HZ.out]
        show (!(Fm.anyL _ _ [k])) = _
        rw [Fm.anyL, Fm.anyL, Bool.or_false]
      obtain ⟨a, cap, g, o, e, hc1, hc2, hg, hcell⟩ := (HKS.out W2 (Below.refl _ _)).any
      obtain ⟨rfl, rfl, rfl⟩ : ua = a ∧ un = [k].length ∧ uc = cap := by cases e; exact ⟨rfl, rfl, rfl⟩
      obtain ⟨rfl, hgl⟩ := hg (by simp)
      obtain ⟨v, p0, p1, p2, p3, p4, hv⟩ := hcell 0 k rfl
      obtain ⟨b, hb⟩ : ∃ b, b = Fm.holds (Fm.val d c) (Fm.has l) k := ⟨_, rfl⟩
      have HR : Hid (∀ W, Fc.Old W2 W → Calls Try.prog 50 #[.agg #[.slice da dn dc, .slice ca cn cc, .slice ta tn tc], Fm.fv k v] W fun e w' => e = .returned (.bool b) ∧ Below W.heap.size W w') := fun W h => by rw [hb]; exact HIH.out k (List.mem_singleton.2 rfl) v W h.out (hv.below h.out)
      rw [← hb] at hz
      subst hz
      rw [show [k].length = 1 from rfl] at *
      simp only [Nat.zero_mul, Nat.add_zero] at p0 p1 p2 p3 p4
      have e0 : ∀ w', Fc.Old W2 w' → w'.cell? ⟨w.heap.size, 0, none⟩ = some (.slice da dn dc) := fun w' h => h.cell hlt0 r0
      have e1 : ∀ w', Fc.Old W2 w' → w'.cell? ⟨w.heap.size, 1, none⟩ = some (.slice ca cn cc) := fun w' h => h.cell hlt0 r1
      have e2 : ∀ w', Fc.Old W2 w' → w'.cell? ⟨w.heap.size, 2, none⟩ = some (.slice ta tn tc) := fun w' h => h.cell hlt0 r2
      have e3 : ∀ w', Fc.Old W2 w' → w'.cell? ⟨w.heap.size + 1, 4, none⟩ = some (.slice (some ⟨g, o, none⟩) 1 uc) := fun w' h => h.cell hlt1 q4
      have g0 : ∀ w', Fc.Old W2 w' → w'.cell? ⟨g, o, none⟩ = some (.int .i64 k.op) := fun w' h => h.cell hgl p0
      have g1 : ∀ w', Fc.Old W2 w' → w'.cell? ⟨g, o + 1, none⟩ = some (.string (Lx.str k.name)) := fun w' h => h.cell hgl p1
      have g2 : ∀ w', Fc.Old W2 w' → w'.cell? ⟨g, o + 2, none⟩ = some (.int .i64 k.cmp) := fun w' h => h.cell hgl p2
      have g3 : ∀ w', Fc.Old W2 w' → w'.cell? ⟨g, o + 3, none⟩ = some (.int .i64 k.num) := fun w' h => h.cell hgl p3
      have g4 : ∀ w', Fc.Old W2 w' → w'.cell? ⟨g, o + 4, none⟩ = some v := fun w' h => h.cell hgl p4
      clear HZ HIH HKS HI HC HCV HK0 r0 r1 r2 q1 q2 q3 q4 hcell hb hlen hi3 hk5 p0 p1 p2 p3 p4 hv hg e
      go_enter Try.func50, Try.ntmps50
      go_wp2_with fail
      rw [← hW2]
      clear hW2 q0
      go_region_held3 (fun w' => Fc.Old W2 w') (first | exact Fc.Old.drew W2 | exact Fc.Old.step (by with_reducible assumption) (by with_reducible assumption) | with_reducible assumption)
        (first
          | (go_at_call 50; (with_reducible refine (HR.out _ (by with_reducible assumption)).mono ?_); rintro e w5 ⟨rfl, hb5⟩))
      have hO : Fc.Old W2 w5 := by with_reducible assumption
      go_wp2_with fail
      go_ret
      exact ⟨rfl, HB2.out.trans (hO.out.mono HB2.out.size)⟩
    · have hz : z = !(ks.any fun k => !(Fm.holds (Fm.val d c) (Fm.has l) k)) := by rw [HZ.out, ← Fm.allL_any]; rfl
      have HA : Hid (∀ W, Below W2.heap.size W2 W → Calls Try.prog 66 #[.slice ua un uc, .func (.func 67) #[] #[.pointer (some ⟨w.heap.size, 0, none⟩)]] W fun e w' => e = .returned (.bool (ks.any fun k => !(Fm.holds (Fm.val d c) (Fm.has l) k))) ∧ Below W.heap.size W w') := fun W hW => by
        refine fcontains_walk _ ks 67 #[] #[.pointer (some ⟨w.heap.size, 0, none⟩)] _ W (HKS.out W hW) (enters_of Try.func67 (by kernel_rfl) rfl) ?_
        intro W' k v hW' hk hv
        have hWW := hW.trans (hW'.mono hW.size)
        exact has1_of _ _ _ _ k v W' ((hWW.block _ hlt0).trans HK0.out) hv (fun W'' hW'' hv'' => HIH.out k hk v W'' (hWW.trans (hW''.mono hWW.size)) hv'')
      obtain ⟨b, hb⟩ : ∃ b, b = ks.any fun k => !(Fm.holds (Fm.val d c) (Fm.has l) k) := ⟨_, rfl⟩
      rw [← hb] at hz HA
      clear HZ HIH HKS HI HC HCV HK0 hb
      subst hz
      go_enter Try.func50, Try.ntmps50
      go_wp2_with fail
      rw [← hW2]
      refine (HA.out _ (Below.refl _ _)).mono ?_
      rintro e w4 ⟨rfl, hb4⟩
      have HX := Lib.hid (HB2.out.trans (hb4.mono HB2.out.size))
      clear hb4
      go_wp2_with fail
      go_ret
      exact ⟨rfl, HX.out⟩
    · have hz : z = ks.any (Fm.holds (Fm.val d c) (Fm.has l)) := by rw [HZ.out, ← Fm.anyL_any]; rfl
      have HA : Hid (∀ W, Below W2.heap.size W2 W → Calls Try.prog 66 #[.slice ua un uc, .func (.func 50) #[.agg #[.slice da dn dc, .slice ca cn cc, .slice ta tn tc]] #[]] W fun e w' => e = .returned (.bool (ks.any (Fm.holds (Fm.val d c) (Fm.has l)))) ∧ Below W.heap.size W w') := fun W hW => by
        refine fcontains_walk _ ks 50 #[.agg #[.slice da dn dc, .slice ca cn cc, .slice ta tn tc]] #[] _ W (HKS.out W hW) (enters_of Try.func50 (by kernel_rfl) rfl) ?_
        intro W' k v hW' hk hv
        have hWW := hW.trans (hW'.mono hW.size)
        exact HIH.out k hk v W' hWW hv
      rw [← hz] at HA
      clear HZ HIH HKS HI HC HCV HK0 hz
      go_enter Try.func50, Try.ntmps50
      go_wp2_with fail
      rw [← hW2]
      refine (HA.out _ (Below.refl _ _)).mono ?_
      rintro e w4 ⟨rfl, hb4⟩
      have HX := Lib.hid (HB2.out.trans (hb4.mono HB2.out.size))
      clear hb4
      go_wp2_with fail
      go_ret
      exact ⟨rfl, HX.out⟩
end Go.Proofs.Ytjcaingfeaaakaa
