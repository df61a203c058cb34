/-
  The walk of formula.Terms.
-/
import Derived.Test.YtjcaingfeaaakaaMRow
import Derived.Test.YtjcaingfeaaakaaMFirst
namespace Go.Proofs.Ytjcaingfeaaakaa
open Go.RowKit Go.Shelf Go.Maps

attribute [local go_sem] Oper.semAt_some

namespace Fm
/-- A list with a term behind it, where it isn't there. -/
def addT (l : List T) (x : T) : List T := if has l x then l else l ++ [x]
def tadd (l : List T) (y : Nat × Fo) : List T := if y.2.op = 4 then addT l y.2.name else l
/-- The different terms of a formula, in the order in which they occur first. -/
def tms (f : Fo) : List T := (nds 1 f).foldl tadd []
def tl {w0 : World} (pre : List (Nd w0)) : List T := pre.foldl (fun l x => tadd l (Nd.er x)) []
theorem tl_snoc {w0 : World} (pre : List (Nd w0)) (x : Nd w0) : tl (pre ++ [x]) = tadd (tl pre) (Nd.er x) := by unfold tl; rw [List.foldl_append]; rfl
theorem tl_all {w0 : World} {f : Fo} {xs : List (Nd w0)} (h : xs.map Nd.er = nds 1 f) : tl xs = tms f := by
  unfold tl tms
  rw [← h, List.foldl_map]
theorem tadd_len (l : List T) (y : Nat × Fo) : (tadd l y).length ≤ l.length + 1 := by
  unfold tadd addT
  split
  · split
    · omega
    · simp
  · omega
theorem fold_len {w0 : World} : ∀ (pre : List (Nd w0)) (l : List T), (pre.foldl (fun l x => tadd l (Nd.er x)) l).length ≤ l.length + pre.length
  | [], l => by simp
  | x :: pre, l => by
    have := fold_len pre (tadd l (Nd.er x))
    have h2 := tadd_len l (Nd.er x)
    rw [List.foldl_cons, List.length_cons]
    exact Nat.le_trans this (by omega)
theorem tl_len {w0 : World} (pre : List (Nd w0)) : (tl pre).length ≤ pre.length := by have := fold_len pre []; simpa [tl] using this
/-- While Terms ranges: blocks of the call: the formula, the list, the map, the map's variable. -/
def TInv (w : World) (B : Nat) (pre : List (Nd w)) (W : World) : Prop :=
  (∃ v, W.heap[w.heap.size + 1]? = some (.cells #[v] 30 (0, 0)) ∧ OwnS B (tl pre) v W) ∧ W.heap[w.heap.size + 1 + 1 + 1]? = some (.cells #[.map (some (w.heap.size + 1 + 1))] 68 (0, 0)) ∧ (∃ n, n ≤ pre.length ∧ IsSet W (w.heap.size + 1 + 1) n (tl pre)) ∧ Below w.heap.size w W
theorem TInv.own (w : World) (B C : Nat) (hB : w.heap.size + 1 + 1 < C) : OwnFrom C (TInv w B) := by
  intro pre W W' row ⟨⟨v, h1, h2⟩, h3, ⟨n, h4, h5⟩, h6⟩ hg hr
  have hr2 : ∀ r, row = some r → ∃ o : Obj, W.heap[r]? = some o ∧ o.isCells = false := fun r e => (hr r e).2
  refine ⟨⟨v, cells_kept h1 hg hr2, h2.kept hg hr2⟩, cells_kept h3 hg hr2, ⟨n, h4, h5.kept hg ?_⟩, h6.grown hg h6.size (fun k e => by have := (hr k e).1; omega)⟩
  intro e
  have := (hr _ e.symm).1
  omega
end Fm

set_option maxHeartbeats 8000000 in
set_option maxRecDepth 100000 in
theorem terms_walk (f : Fm.Fo) (u : Value) (w : World) (hat : Fm.At w f u) (hs : Fm.size f ≤ 900000) :
    Calls Try.prog 18 #[Fm.fv f u] w fun e w' => (∃ v, e = .returned v ∧ Fm.OwnS w.heap.size (Fm.tms f) v w') ∧ Below w.heap.size w w' := by
  obtain ⟨ua, un, uc, hu⟩ : ∃ a n c, u = .slice a n c := by obtain ⟨a, c, e, _⟩ := hat.kidsAt.len; exact ⟨_, _, _, e⟩
  subst hu
  refine (callsIn_wide (n := 5)).1 (callsIn_of_wp_marks Try.func18 rfl trivial (wpIn_wide.2 ?_) rfl)
  simp only [Try.ntmps18, List.size_toArray, List.length_cons, List.length_nil, Nat.reduceAdd, Nat.reduceSub, Array.replicate_succ, Array.replicate_zero, List.push_toArray, List.append_toArray, List.nil_append, List.cons_append]
  have hmm := @run_makeMap Try.prog
  go_wp2_with fail
  refine (nodes_made f _ _).mono ?_
  rintro e w7 ⟨rfl, rfl⟩
  go_wp2_with fail
  obtain ⟨W5, hW5⟩ : ∃ W5, W5 = ((((w.alloc (.cells #[.int .i64 f.op, .string (Lx.str f.name), .int .i64 f.cmp, .int .i64 f.num, .slice ua un uc] 24)).alloc (.cells #[.slice none 0 0] 30)).alloc (.map #[] 0)).alloc (.cells #[.map (some (w.heap.size + 1 + 1))] 68)).alloc (.cells #[.int .i64 f.op, .string (Lx.str f.name), .int .i64 f.cmp, .int .i64 f.num, .slice ua un uc] 24) := ⟨_, rfl⟩
  have hz5 : W5.heap.size = w.heap.size + 5 := by rw [hW5]; simp
  have hb5 : Below w.heap.size w W5 := by rw [hW5]; exact (((((Below.refl _ _).alloc (Nat.le_refl _) _).alloc (by simp) _).alloc (by simp; omega) _).alloc (by simp; omega) _).alloc (by simp; omega) _
  have k1 : W5.heap[w.heap.size + 1]? = some (.cells #[.slice none 0 0] 30 (0, 0)) := by rw [hW5]; exact Fm.blkK (Fm.blkK (Fm.blkK (Fm.blk1 _ _ _)))
  have k2 : Fm.IsSet W5 (w.heap.size + 1 + 1) 0 [] := by
    have h0 := Fm.IsSet.made ((w.alloc (.cells #[.int .i64 f.op, .string (Lx.str f.name), .int .i64 f.cmp, .int .i64 f.num, .slice ua un uc] 24)).alloc (.cells #[.slice none 0 0] 30))
    have e : ((w.alloc (.cells #[.int .i64 f.op, .string (Lx.str f.name), .int .i64 f.cmp, .int .i64 f.num, .slice ua un uc] 24)).alloc (.cells #[.slice none 0 0] 30)).heap.size = w.heap.size + 1 + 1 := by simp
    rw [e] at h0
    rw [hW5]
    exact (h0.below ((Below.refl _ _).alloc (Nat.le_refl _) _)).below ((Below.refl _ _).alloc (Nat.le_refl _) _)
  have k3 : W5.heap[w.heap.size + 1 + 1 + 1]? = some (.cells #[.map (some (w.heap.size + 1 + 1))] 68 (0, 0)) := by rw [hW5]; exact Fm.blkK (Fm.blk3 _ _ _ _ _)
  have k4 : W5.heap[w.heap.size + 1 + 1 + 1 + 1]? = some (.cells #[.int .i64 f.op, .string (Lx.str f.name), .int .i64 f.cmp, .int .i64 f.num, .slice ua un uc] 24 (0, 0)) := by
    rw [hW5]
    have := heap_alloc_new ((((w.alloc (.cells #[.int .i64 f.op, .string (Lx.str f.name), .int .i64 f.cmp, .int .i64 f.num, .slice ua un uc] 24)).alloc (.cells #[.slice none 0 0] 30)).alloc (.map #[] 0)).alloc (.cells #[.map (some (w.heap.size + 1 + 1))] 68)) (.cells #[.int .i64 f.op, .string (Lx.str f.name), .int .i64 f.cmp, .int .i64 f.num, .slice ua un uc] 24)
    simpa using this
  rw [← hW5]
  have hinv : Fm.TInv w W5.heap.size [] W5 := ⟨⟨_, k1, Fm.OwnS.nil _ _⟩, k3, ⟨0, Nat.zero_le _, k2⟩, hb5⟩
  have hI := Fm.TInv.own w W5.heap.size W5.heap.size (by omega)
  have hse := nodes_stops 4 w W5 (w.heap.size + 1 + 1 + 1 + 1) f _ (by omega) hat hb5 k4
  have hen := enters_of Try.func55 (by kernel_rfl) rfl
  have HS := Lib.hid hs
  clear hW5 k1 k2 k3 k4 hs hat hmm
  refine (wpIn_wide (n := 5)).1 ?_
  refine wpIn_rangeFunc_ownH rfl (by omega) (gf := 55) (lb := #[.pointer (some ⟨w.heap.size + 1 + 1 + 1 + 1, 0, none⟩)]) rfl trivial hen hse (fun h k => h.trans k) (fun W l o o' hl h1 h2 _ => Fm.Kp.put W l o o' (by omega) h1 h2) (Below.refl _ _) (fun _ => rfl) _ (fun _ _ _ => False) hI (fun _ _ _ _ _ h _ _ => h) hinv
    (fun x a' W => ∃ B : Nat, W.heap[B]? = some (.cells #[.int .i64 x.f.op, .string (Lx.str x.f.name), .int .i64 x.f.cmp, .int .i64 x.f.num, x.u] 24 (0, 0)) ∧
      a' = { tmps := #[Fm.fv f (.slice ua un uc), .pointer (some ⟨w.heap.size, 0, none⟩), .slice none 0 0, .pointer (some ⟨w.heap.size + 1, 0, none⟩), .pointer (some ⟨w.heap.size + 1 + 1 + 1, 0, none⟩), undef, .pointer (some ⟨B, 0, none⟩), .map (some (w.heap.size + 1 + 1)), Fm.fv f (.slice ua un uc), .func (.func 55) #[] #[.pointer (some ⟨w.heap.size + 1 + 1 + 1 + 1, 0, none⟩)], .int .i64 (x.d : Nat), Fm.fv x.f x.u, undef, undef, undef, undef, undef, undef, undef, undef, undef, undef, undef, undef, undef, undef, undef, undef, undef, undef, undef], defers := [] })
    ?ax ?assign ?body ?done ?stop
  case ax =>
    intro x a' u W W' row ⟨B, h, e⟩ hg hr
    exact ⟨B, cells_kept h hg (fun r e => (hr r e).2), e⟩
  case assign =>
    rintro l pre ⟨xd, xf, xu, hxd, hxat⟩ W K hi hK
    obtain ⟨xa, xn, xc, hxu⟩ : ∃ xa xn xc, xu = .slice xa xn xc := by obtain ⟨xa, xc, e, _, _⟩ := hxat.kidsAt.len; exact ⟨xa, _, xc, e⟩
    subst hxu
    have HI := Lib.hid (hI.alloc (.cells #[.int .i64 xf.op, .string (Lx.str xf.name), .int .i64 xf.cmp, .int .i64 xf.num, .slice xa xn xc] 24) hi)
    have hzW : w.heap.size ≤ W.heap.size := hi.2.2.2.size
    dsimp only [Fm.Nd.enc] at *
    gi_wp2
    refine hK _ _ ((KeepsOthers.alloc W _).from _) (Fm.Kp.alloc _ hzW) HI.out ⟨W.heap.size, heap_alloc_new W _, rfl⟩
  case body =>
    rintro l pre x a' W hll ⟨rl, hrl⟩ ⟨⟨v, hv, hown⟩, r3, ⟨n, hn, hset⟩, hb⟩ ⟨B, hB, rfl⟩ hlt
    have hbase : W5.heap.size ≤ W.heap.size := Nat.le_trans hll (Nat.le_of_lt (Array.getElem?_eq_some_iff.1 hrl).1)
    have c4 := Joins.cell_of_block r3 0
    have b0 := Joins.cell_of_block hB 0
    have b1 := Joins.cell_of_block hB 1
    have hxs := x.hat.sized.2.1
    obtain ⟨L, hL⟩ : ∃ L, L = Fm.tl pre := ⟨_, rfl⟩
    have hll2 := Fm.tl_len pre
    rw [← hL] at hown hset hll2
    have hsn := Fm.tl_snoc pre x
    rw [← hL] at hsn
    have HSN := Lib.hid hsn
    have HLE := Lib.hid hL
    clear hL hsn
    have hLn : L.length < 1000000 := by have := HS.out; omega
    by_cases h4 : x.f.op = 4
    · by_cases hin : Fm.has L x.f.name = true
      · have hlook := hset.look x.f.name hxs
        rw [hin] at hlook
        have hq : (x.f.op == 4) = true := by rw [beq_iff_eq]; exact h4
        have HIN : Hid (Fm.TInv w W5.heap.size (pre ++ [x]) W) := by
          refine ⟨⟨v, hv, ?_⟩, r3, ⟨n, ?_, ?_⟩, hb⟩
          · rw [HSN.out]; unfold Fm.tadd Fm.addT; rw [if_pos h4, if_pos hin]; exact hown
          · rw [List.length_append]; omega
          · rw [HSN.out]; unfold Fm.tadd Fm.addT; rw [if_pos h4, if_pos hin]; exact hset
        clear hinv hI hse hen hv hown r3 hn hset hb hlt hrl hB hin
        rw [h4] at b0
        gi_wp2
        exact ⟨KeepsFrom.refl _ _, Fm.Kp.refl _ _, HIN.out⟩
      · have hin' : Fm.has L x.f.name = false := by simpa using hin
        have hlook := hset.look x.f.name hxs
        rw [hin'] at hlook
        obtain ⟨Wm, hput, hset2, hgm⟩ := hset.put (by have := HS.out; unfold maxLen; omega) x.f.name hxs
        obtain ⟨om, hom, homc⟩ := hset.block
        have hrm : ∀ r, some (w.heap.size + 1 + 1) = some r → ∃ o : Obj, W.heap[r]? = some o ∧ o.isCells = false := fun r e => by cases e; exact ⟨om, hom, homc⟩
        have hvm := cells_kept hv hgm hrm
        have hBm := cells_kept hB hgm hrm
        have r3m := cells_kept r3 hgm hrm
        have hownm := hown.kept hgm hrm
        have hbm : Below w.heap.size w Wm := hb.grown hgm hb.size (fun k e => by cases e; omega)
        obtain ⟨⟨va, vc⟩, hvf⟩ : ∃ p : Option Addr × Nat, v = .slice p.1 L.length p.2 := by obtain ⟨a, c, e⟩ := hown.form; exact ⟨(a, c), e⟩
        dsimp only at hvf
        subst hvf
        have m1 := Joins.cell_of_block hvm 0
        have mb := Joins.cell_of_block hBm 1
        obtain ⟨K, hK⟩ : ∃ k, k = L.length := ⟨_, rfl⟩
        have hk1 : Hid (KeepsFrom W5.heap.size W Wm) := (⟨hgm.size, fun k o hk h0 ho => (hgm.block k (Array.getElem?_eq_some_iff.1 h0).1 (by intro e; cases e; omega)).trans h0⟩ : KeepsFrom W5.heap.size W Wm)
        have hk2 : Hid (Fm.Kp w.heap.size W Wm) := (⟨(Below.refl _ _).grown hgm hb.size (fun k e => by cases e; omega), fun j cs fr hj => cells_kept hj hgm hrm⟩ : Fm.Kp w.heap.size W Wm)
        have HO := Lib.hid hownm
        have HSET := Lib.hid hset2
        have HV := Lib.hid (And.intro hvm r3m)
        have HBM := Lib.hid hbm
        have HNN := Lib.hid (And.intro hn hK)
        have hzm := hgm.size
        rw [← hK] at m1
        clear hinv hI hse hen hv hown r3 hn hset hb hrl hB hownm hset2 hvm hBm r3m hbm hgm hrm hom homc hK
        rw [h4] at b0
        gi_wp2_with (gi_at_builtin; refine wpListIn_append_s _ rfl _ _ rfl W5.heap.size L _ (by rw [HNN.out.2]; rfl) (HO.out.below ((Below.refl _ _).alloc (Nat.le_refl _) _)) x.f.name Wm.heap.size (0, 0) 9 rfl (heap_alloc_new _ _) hLn (by simp; omega) ?_)
        intro g c w6 h1 h2
        have hno := HO.out.lt
        have hne : ∀ k, k < W5.heap.size → some k ≠ (Value.slice va L.length vc).ownBlock := fun k hk e => by have := (hno k e).1; omega
        have hblk : ∀ k, k < W5.heap.size → k < Wm.heap.size → w6.heap[k]? = Wm.heap[k]? := fun k hk hk2 => (h2.block k (by simp; omega) (hne k hk)).trans (Below.heap_alloc Wm _ k hk2)
        have hz6 : Wm.heap.size ≤ w6.heap.size := by have := h2.size; simp at this; omega
        have k6 := (hblk (w.heap.size + 1) (by omega) (by omega)).trans HV.out.1
        have c6 := Joins.cell_of_block k6 0
        have u6 := Joins.unfrozen_of_block k6 0
        have HV6 := Lib.hid (And.intro k6 ((hblk (w.heap.size + 1 + 1 + 1) (by omega) (by omega)).trans HV.out.2))
        have hmb6 : w6.heap[w.heap.size + 1 + 1]? = Wm.heap[w.heap.size + 1 + 1]? := hblk _ (by omega) (by omega)
        have HSET6 : Hid (Fm.IsSet w6 (w.heap.size + 1 + 1) (n + 1) (L ++ [x.f.name])) := by
          obtain ⟨D, ⟨es, clock, g1, g2⟩, g3⟩ := HSET.out
          exact ⟨D, ⟨es, clock, hmb6.trans g1, g2⟩, g3⟩
        have hgA : Wm.grownBy (Wm.alloc (.cells #[.string (Lx.str x.f.name)] 9)) none := World.grownBy_alloc Wm _ none
        have HKF : Hid (KeepsFrom W5.heap.size Wm w6) := (⟨hz6, fun k o hk h0 ho => by
          have hkl := (Array.getElem?_eq_some_iff.1 h0).1
          refine (h2.block k (by simp; omega) (fun e => ?_)).trans ((Below.heap_alloc Wm _ k hkl).trans h0)
          obtain ⟨_, cs, hc⟩ := hno k e
          rw [h0] at hc
          cases hc; cases ho⟩ : KeepsFrom W5.heap.size Wm w6)
        have HB6 : Hid (Below w.heap.size Wm w6) := ((Below.refl w.heap.size Wm).alloc (by omega) _).grown h2 (by simp; omega) (fun k e => by have := (hno k e.symm).1; omega)
        have HKP : Hid (∀ (k : Nat) (cs : Array Value) (fr : Nat × Nat), Wm.heap[k]? = some (Obj.cells cs 24 fr) → w6.heap[k]? = some (Obj.cells cs 24 fr)) := fun k cs fr hk => by
          have hkl := (Array.getElem?_eq_some_iff.1 hk).1
          refine (h2.block k (by simp; omega) (fun e => ?_)).trans ((Below.heap_alloc Wm _ k hkl).trans hk)
          obtain ⟨_, cs2, hc⟩ := hno k e
          rw [hk] at hc
          cases hc
        have H1 := Lib.hid h1
        clear k6 hblk h1 h2 m1 mb hno hne hmb6 hgA b0 b1 c4
        gi_wp2
        have hA := KeepsFrom.trans hk1.out (KeepsFrom.trans HKF.out ((KeepsOthers.setCell w6 ⟨w.heap.size + 1, 0, none⟩ (.slice (some ⟨g, 0, none⟩) (L.length + 1) c)).from W5.heap.size))
        have hsB : w.heap.size ≤ (⟨w.heap.size + 1, 0, none⟩ : Addr).block := by show w.heap.size ≤ w.heap.size + 1; omega
        have hneq : (w.heap.size + 1 + 1 + 1 : Nat) ≠ w.heap.size + 1 := by omega
        refine ⟨hA, ⟨hk2.out.1.trans (HB6.out.trans ((Below.refl _ _).setCell hsB _)), fun j cs fr hj => ?_⟩, ⟨.slice (some ⟨g, 0, none⟩) (L.length + 1) c, ?_, ?_⟩, ?_, ⟨n + 1, ?_, ?_⟩, HBM.out.trans (HB6.out.trans ((Below.refl _ _).setCell hsB _))⟩
        · have h7 := HKP.out j cs fr (hk2.out.2 j cs fr hj)
          refine (Below.heap_setCell _ _ _ _ ?_).trans h7
          rintro rfl
          rw [HV6.out.1] at h7
          cases h7
        · rw [Joins.block_setCell HV6.out.1]; rfl
        · rw [HSN.out]; unfold Fm.tadd Fm.addT; rw [if_pos h4, if_neg hin]
          have hg5 := (H1.out.lt g rfl).1
          show Fm.OwnS W5.heap.size (L ++ [x.f.name]) _ _
          rw [hz5]
          refine H1.out.block fun k hk => Below.heap_setCell _ _ _ _ ?_
          have : k = g := by simpa [Value.ownBlock] using hk
          intro hk2
          have hk3 : k = w.heap.size + 1 := hk2
          omega
        · exact (Below.heap_setCell _ _ _ _ hneq).trans HV6.out.2
        · have := HNN.out.1; rw [List.length_append]; simp; omega
        · rw [HSN.out]; unfold Fm.tadd Fm.addT; rw [if_pos h4, if_neg hin]
          exact HSET6.out.setCell (by show w.heap.size + 1 + 1 ≠ w.heap.size + 1; omega) _
    · have hq : (x.f.op == 4) = false := by rw [beq_eq_false_iff_ne]; exact h4
      have HIN : Hid (Fm.TInv w W5.heap.size (pre ++ [x]) W) := by
        refine ⟨⟨v, hv, ?_⟩, r3, ⟨n, ?_, ?_⟩, hb⟩
        · rw [HSN.out]; unfold Fm.tadd; rw [if_neg h4]; exact hown
        · rw [List.length_append]; omega
        · rw [HSN.out]; unfold Fm.tadd; rw [if_neg h4]; exact hset
      clear hinv hI hse hen hv hown r3 hn hset hb hlt hrl hB
      gi_wp2
      exact ⟨KeepsFrom.refl _ _, Fm.Kp.refl _ _, HIN.out⟩
  case done =>
    rintro D xs W hD hxs ⟨⟨v, hv, hown⟩, r3, _, hb⟩ hK
    rw [Fm.tl_all hxs] at hown
    have c1 := Joins.cell_of_block hv 0
    have HK := Lib.hid hK
    have HB := Lib.hid hb
    have HO := Lib.hid hown
    clear hinv hI hse hen r3 hv hK hxs hb hown
    go_wp2_with fail
    refine ⟨by simp, .inl ⟨_, _, rfl, run_takeDeferred HK.out, ?_⟩⟩
    refine ⟨_, results_tmp rfl _ _ _, ?_⟩
    have hkept : ∀ r, some D = some r → ∃ o : Obj, W.heap[r]? = some o ∧ o.isCells = false := fun r e => by cases e; exact ⟨_, HK.out, rfl⟩
    exact ⟨⟨_, rfl, (HO.out.kept (grownBy_putObj' W D (.deferred none)) hkept).mono (by omega)⟩, HB.out.trans (belowK_b (w := w) (Nat.le_refl _) W D _ (.deferred none) (by omega) HK.out rfl rfl)⟩
  case stop =>
    rintro D c pre W hD hsp h hK
    exact h.elim
end Go.Proofs.Ytjcaingfeaaakaa
