/-
  The walk of formula.firstError.
-/
import Derived.Test.YtjcaingfeaaakaaMNode
import Derived.Test.YtjcaingfeaaakaaMSmall
namespace Go.Proofs.Ytjcaingfeaaakaa
open Go.RowKit Go.Shelf

attribute [local go_sem] Oper.semAt_some

namespace Fm
section
variable (isN fs ts : List UInt8 → Bool)
/-- The first error of some nodes. -/
def fe : List (Nat × Fo) → Nat
  | [] => 0
  | y :: l => if err1 isN fs ts y.2 ≠ 0 then err1 isN fs ts y.2 else fe l
theorem fe_append : ∀ a b, fe isN fs ts (a ++ b) = if fe isN fs ts a ≠ 0 then fe isN fs ts a else fe isN fs ts b
  | [], b => by rw [List.nil_append, fe, if_neg (by decide)]
  | y :: a, b => by
    rw [List.cons_append, fe, fe, fe_append a b]
    by_cases h : err1 isN fs ts y.2 = 0
    · rw [if_neg (not_not_intro h), if_neg (not_not_intro h)]
    · rw [if_pos h, if_pos h, if_pos h]
mutual
theorem errs_fe : ∀ (f : Fo) (d : Nat), errs isN fs ts f = fe isN fs ts (nds d f)
  | .mk o x c n ks, d => by rw [errs, nds, fe, errsL_fe ks (d + 1)]
theorem errsL_fe : ∀ (ks : List Fo) (d : Nat), errsL isN fs ts ks = fe isN fs ts (ndsL d ks)
  | [], _ => by rw [errsL, ndsL, fe]
  | k :: ks, d => by rw [errsL, ndsL, fe_append, ← errs_fe k d, ← errsL_fe ks d]
end
theorem fe_zero : ∀ l : List (Nat × Fo), (∀ y ∈ l, err1 isN fs ts y.2 = 0) → fe isN fs ts l = 0
  | [], _ => by rw [fe]
  | y :: l, h => by rw [fe, if_neg (by simpa using h y (List.mem_cons_self ..)), fe_zero l (fun z hz => h z (List.mem_cons_of_mem _ hz))]
theorem check_small (f : Fo) : check isN fs ts f = if small f = true then errs isN fs ts f else 2 := by
  unfold check small
  by_cases h : 200 < size f ∨ 20 < depth f
  · rw [if_pos h, if_neg]
    rw [Bool.and_eq_true, decide_eq_true_iff, decide_eq_true_iff]; omega
  · rw [if_neg h, if_pos]
    rw [Bool.and_eq_true, decide_eq_true_iff, decide_eq_true_iff]; omega
end
theorem fe_done {w0 : World} {isN fs ts : List UInt8 → Bool} {f : Fo} {xs : List (Nd w0)} (h : xs.map Nd.er = nds 1 f) (h1 : ∀ x ∈ xs, err1 isN fs ts x.f = 0) : errs isN fs ts f = 0 := by
  rw [errs_fe isN fs ts f 1, ← h]
  refine fe_zero isN fs ts _ fun y hy => ?_
  obtain ⟨x, hx, rfl⟩ := List.mem_map.1 hy
  exact h1 x hx
theorem fe_stop {w0 : World} {isN fs ts : List UInt8 → Bool} {f : Fo} {p : List (Nd w0)} {x : Nd w0} (h : (p ++ [x]).map Nd.er <+: nds 1 f) (h1 : ∀ x ∈ p, err1 isN fs ts x.f = 0) (h2 : err1 isN fs ts x.f ≠ 0) : errs isN fs ts f = err1 isN fs ts x.f := by
  obtain ⟨r, hr⟩ := h
  rw [errs_fe isN fs ts f 1, ← hr, List.map_append, fe_append isN fs ts (_ ++ _), fe_append isN fs ts (p.map Nd.er)]
  have h0 : fe isN fs ts (p.map Nd.er) = 0 := fe_zero isN fs ts _ fun y hy => by
    obtain ⟨z, hz, rfl⟩ := List.mem_map.1 hy
    exact h1 z hz
  have hx : fe isN fs ts ([x].map Nd.er) = err1 isN fs ts x.f := by
    show fe isN fs ts [Nd.er x] = _
    rw [fe, if_pos h2]
  rw [h0, hx, if_neg (not_not_intro rfl : ¬ (0 : Nat) ≠ 0), if_pos h2]
/-- While firstError ranges: p says what is in the way, boxes of the domain and the function, the result. -/
def EInv (w : World) (e1 : Fo → Nat) (dv fv : Value) (pre : List (Nd w)) (W : World) : Prop :=
  (∀ x ∈ pre, e1 x.f = 0) ∧ W.heap[w.heap.size + 1]? = some (.cells #[dv] 27 (0, 0)) ∧ W.heap[w.heap.size + 1 + 1]? = some (.cells #[fv] 66 (0, 0)) ∧ W.heap[w.heap.size + 1 + 1 + 1]? = some (.cells #[.int .i64 0] 36 (0, 0)) ∧ Below w.heap.size w W
theorem EInv.own (w : World) (e1 : Fo → Nat) (dv fv : Value) (B : Nat) (hB : w.heap.size ≤ B) : OwnFrom B (EInv w e1 dv fv) := by
  intro pre W W' row ⟨h1, h2, h3, h5, h4⟩ hg hr
  have hr2 : ∀ r, row = some r → ∃ o : Obj, W.heap[r]? = some o ∧ o.isCells = false := fun r e => (hr r e).2
  exact ⟨h1, cells_kept h2 hg hr2, cells_kept h3 hg hr2, cells_kept h5 hg hr2, h4.grown hg h4.size (fun k e => Nat.le_trans hB (hr k e).1)⟩
def ELeft (w : World) (e1 : Fo → Nat) (c : Code) (pre : List (Nd w)) (W : World) : Prop :=
  c = .ret ∧ (∃ p x, pre = p ++ [x] ∧ (∀ y ∈ p, e1 y.f = 0) ∧ e1 x.f ≠ 0 ∧ W.heap[w.heap.size + 1 + 1 + 1]? = some (.cells #[.int .i64 (e1 x.f : Nat)] 36 (0, 0))) ∧ Below w.heap.size w W
theorem ELeft.own (w : World) (e1 : Fo → Nat) (B : Nat) (hB : w.heap.size ≤ B) (c : Code) : OwnFrom B (ELeft w e1 c) := by
  intro pre W W' row ⟨h0, ⟨p, x, h1, h2, h3, h5⟩, h4⟩ hg hr
  have hr2 : ∀ r, row = some r → ∃ o : Obj, W.heap[r]? = some o ∧ o.isCells = false := fun r e => (hr r e).2
  exact ⟨h0, ⟨p, x, h1, h2, h3, cells_kept h5 hg hr2⟩, h4.grown hg h4.size (fun k e => Nat.le_trans hB (hr k e).1)⟩
end Fm

theorem keeps_below {W W' : World} (h : Below W.heap.size W W') : KeepsOthers W W' := ⟨h.size, fun k _ hk _ => (h.block k (Array.getElem?_eq_some_iff.1 hk).1).trans hk⟩
theorem first_results (tmps : Array Value) (w : World) (g : Nat) (v : Value) (hp : tmps.getD 6 undef = .pointer (some ⟨g, 0, none⟩)) (h : w.cell? ⟨g, 0, none⟩ = some v) :
    (results Try.f37 tmps).run Try.prog w = .ok v w := by
  have hp' : tmps[6]?.getD undef = .pointer (some ⟨g, 0, none⟩) := by simpa using hp
  simp [results, Try.f37, hp', go_sem, h]

set_option maxHeartbeats 4000000 in
set_option maxRecDepth 100000 in
theorem first_walk (f : Fm.Fo) (u v : Value) (d : List Fc.Fact) (g : Nat) (lb : Array Value) (ts : Fm.T → Bool) (w : World) (hat : Fm.At w f u) (hs : Fm.size f ≤ 4611686018427387900) (hd : Fc.IsF w v d) (hent : ∀ args w, (callFunc g args).run Try.prog w = .ok (.enter g args) w) (ht : Fm.Says g lb ts w) :
    Calls Try.prog 37 #[Fm.fv f u, .agg #[v], .func (.func g) #[] lb] w fun e w' => e = .returned (.int .i64 (Fm.check Fc.isNm (Fm.fs d) ts f : Nat)) ∧ Below w.heap.size w w' := by
  rw [Fm.check_small]
  obtain ⟨ua, uc, hu, huc, _⟩ := hat.kidsAt.len
  obtain ⟨va, vc, hv0, _, _⟩ := hd.form
  obtain ⟨un, hun⟩ : ∃ n, n = f.kids.length := ⟨_, rfl⟩
  obtain ⟨vn, hvn⟩ : ∃ n, n = d.length := ⟨_, rfl⟩
  rw [← hun] at hu huc
  rw [← hvn] at hv0
  subst hu hv0
  clear hun hvn
  obtain ⟨W4, hW4⟩ : ∃ W4, W4 = (((w.alloc (.cells #[.int .i64 f.op, .string (Lx.str f.name), .int .i64 f.cmp, .int .i64 f.num, .slice ua un uc] 24)).alloc (.cells #[.slice va vn vc] 27)).alloc (.cells #[.func (.func g) #[] lb] 66)).alloc (.cells #[.int .i64 0] 36) := ⟨_, rfl⟩
  have hz4 : W4.heap.size = w.heap.size + 4 := by rw [hW4]; simp
  have hb4 : Below w.heap.size w W4 := by rw [hW4]; exact ((((Below.refl _ _).alloc (Nat.le_refl _) _).alloc (by simp) _).alloc (by simp; omega) _).alloc (by simp; omega) _
  have k0 : W4.heap[w.heap.size]? = some (.cells #[.int .i64 f.op, .string (Lx.str f.name), .int .i64 f.cmp, .int .i64 f.num, .slice ua un uc] 24 (0, 0)) := by rw [hW4]; exact Fm.blkK (Fm.blkK (Fm.blkK (heap_alloc_new _ _)))
  have k1 : W4.heap[w.heap.size + 1]? = some (.cells #[.slice va vn vc] 27 (0, 0)) := by rw [hW4]; exact Fm.blkK (Fm.blkK (Fm.blk1 _ _ _))
  have k2 : W4.heap[w.heap.size + 1 + 1]? = some (.cells #[.func (.func g) #[] lb] 66 (0, 0)) := by rw [hW4]; exact Fm.blkK (Fm.blk2 _ _ _ _)
  have k3 : W4.heap[w.heap.size + 1 + 1 + 1]? = some (.cells #[.int .i64 0] 36 (0, 0)) := by rw [hW4]; exact Fm.blk3 _ _ _ _ _
  have HSM := Lib.hid (issmall_walk f _ W4 (hat.below hb4) hs)
  obtain ⟨b, hbs⟩ : ∃ b, b = Fm.small f := ⟨_, rfl⟩
  rw [← hbs] at HSM ⊢
  obtain ⟨z, hz⟩ : ∃ z, z = if b = true then Fm.errs Fc.isNm (Fm.fs d) ts f else 2 := ⟨_, rfl⟩
  rw [← hz]
  have HZ := Lib.hid hz
  clear hbs hz
  refine (callsIn_wide (n := 5)).1 (callsIn_of_wp_marks Try.func37 rfl trivial (wpIn_wide.2 ?_) rfl)
  simp only [Try.ntmps37, List.size_toArray, List.length_cons, List.length_nil, Nat.reduceAdd, Nat.reduceSub, Array.replicate_succ, Array.replicate_zero, List.push_toArray, List.append_toArray, List.nil_append, List.cons_append]
  go_wp2_with fail
  rw [← hW4]
  refine HSM.out.mono ?_
  rintro e w5 ⟨rfl, hb5⟩
  have j0 := (hb5.block _ (Array.getElem?_eq_some_iff.1 k0).1).trans k0
  have j1 := (hb5.block _ (Array.getElem?_eq_some_iff.1 k1).1).trans k1
  have j2 := (hb5.block _ (Array.getElem?_eq_some_iff.1 k2).1).trans k2
  have j3 := (hb5.block _ (Array.getElem?_eq_some_iff.1 k3).1).trans k3
  have hb5w := hb4.trans (hb5.mono hb4.size)
  have hz5 : w.heap.size + 4 ≤ w5.heap.size := by rw [← hz4]; exact hb5.size
  clear HSM hW4 k0 k1 k2 k3 hb5
  cases b with
  | false =>
    have hz2 : z = 2 := by rw [HZ.out, if_neg (by decide)]
    subst hz2
    have c3 := Joins.cell_of_block j3 0
    have u3 := Joins.unfrozen_of_block j3 0
    have HB := Lib.hid (hb5w.setCell (p := ⟨w.heap.size + 1 + 1 + 1, 0, none⟩) (by show w.heap.size ≤ w.heap.size + 1 + 1 + 1; omega) (.int .i64 2))
    have HC : Hid ((w5.setCell ⟨w.heap.size + 1 + 1 + 1, 0, none⟩ (.int .i64 2)).cell? ⟨w.heap.size + 1 + 1 + 1, 0, none⟩ = some (.int .i64 2)) := World.cell?_setCell_same' _ _ _ (by rw [c3]; rfl)
    clear j0 j1 j2 j3 hat hd ht hb5w hs hb4
    go_wp2_with fail
    refine ⟨_, first_results _ _ _ _ rfl HC.out, ?_⟩
    exact ⟨rfl, HB.out⟩
  | true =>
    have HZ2 : Hid (z = Fm.errs Fc.isNm (Fm.fs d) ts f) := by show _ = _; rw [HZ.out, if_pos rfl]
    clear HZ
    have c0 := Joins.cell_of_block j0 0
    have c1 := Joins.cell_of_block j0 1
    have c2 := Joins.cell_of_block j0 2
    have c3 := Joins.cell_of_block j0 3
    have c4 := Joins.cell_of_block j0 4
    go_wp2_with fail
    refine (nodes_made f _ _).mono ?_
    rintro e w7 ⟨rfl, rfl⟩
    clear c0 c1 c2 c3 c4
    go_wp2_with fail
    obtain ⟨N, hN⟩ : ∃ N, N = w5.heap.size := ⟨_, rfl⟩
    obtain ⟨W6, hW6⟩ : ∃ W6, W6 = w5.alloc (.cells #[.int .i64 f.op, .string (Lx.str f.name), .int .i64 f.cmp, .int .i64 f.num, .slice ua un uc] 24) := ⟨_, rfl⟩
    have hb6 : Below w5.heap.size w5 W6 := by rw [hW6]; exact (Below.refl _ _).alloc (Nat.le_refl _) _
    have k6 : W6.heap[N]? = some (.cells #[.int .i64 f.op, .string (Lx.str f.name), .int .i64 f.cmp, .int .i64 f.num, .slice ua un uc] 24 (0, 0)) := by rw [hW6, hN]; exact heap_alloc_new _ _
    rw [← hW6, ← hN]
    have hb6w : Below w.heap.size w W6 := hb5w.trans (hb6.mono hb5w.size)
    obtain ⟨e1, he1⟩ : ∃ e1, e1 = Fm.err1 Fc.isNm (Fm.fs d) ts := ⟨_, rfl⟩
    have hinv : Fm.EInv w e1 (.slice va vn vc) (.func (.func g) #[] lb) [] W6 := ⟨by simp, (hb6.block _ (by omega)).trans j1, (hb6.block _ (by omega)).trans j2, (hb6.block _ (by omega)).trans j3, hb6w⟩
    have hz6 : w.heap.size + 4 ≤ W6.heap.size := Nat.le_trans hz5 hb6.size
    have hI := Fm.EInv.own w e1 (.slice va vn vc) (.func (.func g) #[] lb) W6.heap.size (by omega)
    have hIx := Fm.ELeft.own w e1 W6.heap.size (by omega)
    have hse := nodes_stops 4 w W6 N f _ hs hat hb6w k6
    have hen := enters_of Try.func55 (by kernel_rfl) rfl
    have HN : Hid (∀ (x : Fm.Nd w) W, Below w.heap.size w W → Calls Try.prog 58 #[Fm.fv x.f x.u, .agg #[.slice va vn vc], .func (.func g) #[] lb] W fun e w' => e = .returned (.int .i64 (e1 x.f : Nat)) ∧ Below W.heap.size W w') := fun x W hW => by
      rw [he1]
      exact nodeerr_walk x.f x.u _ d g lb ts W (x.hat.below hW) (hd.below hW) hent (ht.below hW)
    have HE1 := Lib.hid he1
    clear hW6 hN k6 hb6 j0 j1 j2 j3 hat hd ht hs hb5w hb6w he1 hb4 hz4 hz5
    refine (wpIn_wide (n := 5)).1 ?_
    refine wpIn_rangeFunc_ownH rfl (by omega) (gf := 55) (lb := #[.pointer (some ⟨N, 0, none⟩)]) rfl trivial hen hse (fun h k => h.trans k) (fun W l o o' hl h1 h2 _ => Fm.Kp.put W l o o' (by omega) h1 h2) (Below.refl _ _) (fun _ => rfl) _ _ hI hIx hinv
      (fun x a' W => ∃ B : Nat, W.heap[B]? = some (.cells #[.int .i64 x.f.op, .string (Lx.str x.f.name), .int .i64 x.f.cmp, .int .i64 x.f.num, x.u] 24 (0, 0)) ∧
        a' = { tmps := #[Fm.fv f (.slice ua un uc), .agg #[.slice va vn vc], .func (.func g) #[] lb, .pointer (some ⟨w.heap.size, 0, none⟩), .pointer (some ⟨w.heap.size + 1, 0, none⟩), .pointer (some ⟨w.heap.size + 1 + 1, 0, none⟩), .pointer (some ⟨w.heap.size + 1 + 1 + 1, 0, none⟩), undef, .pointer (some ⟨B, 0, none⟩), undef, Fm.fv f (.slice ua un uc), .bool true, .bool false, Fm.fv f (.slice ua un uc), .func (.func 55) #[] #[.pointer (some ⟨N, 0, none⟩)], .int .i64 (x.d : Nat), Fm.fv x.f x.u, undef, undef, undef, undef, undef, undef, undef], defers := [] })
      ?ax ?assign ?body ?done ?stop
    case ax =>
      intro x a' u W W' row ⟨B, h, e⟩ hg hr
      exact ⟨B, cells_kept h hg (fun r e => (hr r e).2), e⟩
    case assign =>
      rintro l pre ⟨xd, xf, xu, hxd, hxat⟩ W K hi hK
      obtain ⟨xa, xn, xc, hxu⟩ : ∃ xa xn xc, xu = .slice xa xn xc := by obtain ⟨xa, xc, e, _, _⟩ := hxat.kidsAt.len; exact ⟨xa, _, xc, e⟩
      subst hxu
      have HI := Lib.hid (hI.alloc (.cells #[.int .i64 xf.op, .string (Lx.str xf.name), .int .i64 xf.cmp, .int .i64 xf.num, .slice xa xn xc] 24) hi)
      have hzW : w.heap.size ≤ W.heap.size := hi.2.2.2.2.size
      dsimp only [Fm.Nd.enc] at *
      gi_wp2
      refine hK _ _ ((KeepsOthers.alloc W _).from _) (Fm.Kp.alloc _ hzW) HI.out ⟨W.heap.size, heap_alloc_new W _, rfl⟩
    case body =>
      rintro l pre x a' W hll ⟨rl, hrl⟩ ⟨h0, r1, r2, r3, hb⟩ ⟨B, hB, rfl⟩ hlt
      have c1 := Joins.cell_of_block r1 0
      have c2 := Joins.cell_of_block r2 0
      have b0 := Joins.cell_of_block hB 0
      have b1 := Joins.cell_of_block hB 1
      have b2 := Joins.cell_of_block hB 2
      have b3 := Joins.cell_of_block hB 3
      have b4 := Joins.cell_of_block hB 4
      have HC := Lib.hid (HN.out x W hb)
      have HR := Lib.hid (And.intro r1 (And.intro r2 r3))
      have HB := Lib.hid hb
      have H0 := Lib.hid h0
      have hzW : w.heap.size + 1 + 1 + 1 < W.heap.size := (Array.getElem?_eq_some_iff.1 r3).1
      clear hinv hI hIx hse hen r1 r2 r3 hb h0 hlt hB HN hrl
      gi_wp2
      refine ⟨trivial, (CallsIn.inRound l (callsIn_wide.2 HC.out)).mono ?_⟩
      rintro e w3 ⟨rfl, hb3⟩
      clear b0 b1 b2 b3 b4 c1 c2
      have HKO := Lib.hid (keeps_below hb3)
      have HKP := Lib.hid (Fm.Kp.of hb3 HB.out.size)
      have HR3 : Hid (w3.heap[w.heap.size + 1]? = some (.cells #[.slice va vn vc] 27 (0, 0)) ∧ w3.heap[w.heap.size + 1 + 1]? = some (.cells #[.func (.func g) #[] lb] 66 (0, 0)) ∧ w3.heap[w.heap.size + 1 + 1 + 1]? = some (.cells #[.int .i64 0] 36 (0, 0))) :=
        ⟨(hb3.block _ (by omega)).trans HR.out.1, (hb3.block _ (by omega)).trans HR.out.2.1, (hb3.block _ (by omega)).trans HR.out.2.2⟩
      have HB3 := Lib.hid (HB.out.trans (hb3.mono HB.out.size))
      obtain ⟨q, hq⟩ : ∃ q, q = e1 x.f := ⟨_, rfl⟩
      rw [← hq]
      have HQ := Lib.hid hq
      clear hb3 HC HR HB hq
      by_cases h : q = 0
      · subst h
        gi_wp2
        refine ⟨HKO.out.from _, HKP.out, fun y hy => ?_, HR3.out.1, HR3.out.2.1, HR3.out.2.2, HB3.out⟩
        rcases List.mem_append.1 hy with hy | hy
        · exact H0.out y hy
        · rw [List.mem_singleton] at hy; subst hy; exact HQ.out.symm
      · have hqi : (((q : Nat) : Int) != 0) = true := by rw [bne_iff_ne]; omega
        have c3 := Joins.cell_of_block HR3.out.2.2 0
        have u3 := Joins.unfrozen_of_block HR3.out.2.2 0
        gi_wp2
        refine ⟨(HKO.out.trans (KeepsOthers.setCell _ _ _)).from _, rfl, ⟨pre, x, rfl, H0.out, by rw [← HQ.out]; exact h, ?_⟩, HB3.out.setCell (p := ⟨w.heap.size + 1 + 1 + 1, 0, none⟩) (by show w.heap.size ≤ w.heap.size + 1 + 1 + 1; omega) _⟩
        rw [Joins.block_setCell HR3.out.2.2, ← HQ.out]; rfl
    case done =>
      rintro D xs W hD hxs ⟨h0, r1, r2, r3, hb⟩ hK
      have hz0 : z = 0 := by rw [HZ2.out]; exact Fm.fe_done hxs (by rw [← HE1.out]; exact h0)
      subst hz0
      have c3 := Joins.cell_of_block r3 0
      have u3 := Joins.unfrozen_of_block r3 0
      have HK := Lib.hid hK
      have HB := Lib.hid (hb.setCell (p := ⟨w.heap.size + 1 + 1 + 1, 0, none⟩) (by show w.heap.size ≤ w.heap.size + 1 + 1 + 1; omega) (.int .i64 0))
      have HC : Hid ((W.setCell ⟨w.heap.size + 1 + 1 + 1, 0, none⟩ (.int .i64 0)).cell? ⟨w.heap.size + 1 + 1 + 1, 0, none⟩ = some (.int .i64 0)) := World.cell?_setCell_same' _ _ _ (by rw [c3]; rfl)
      clear hinv hI hIx hse hen r1 r2 r3 hb h0 hK hxs HZ2
      go_wp2_with fail
      have hKK := (KeepsOthers.setCell W ⟨w.heap.size + 1 + 1 + 1, 0, none⟩ (.int .i64 0)).same D _ HK.out rfl
      refine ⟨by simp, .inl ⟨_, _, rfl, run_takeDeferred hKK, ?_⟩⟩
      have n2 := cell_kept HC.out (grownBy_putObj' _ D (.deferred none)) (fun r e => by cases e; exact ⟨_, hKK, rfl⟩)
      refine ⟨_, first_results _ _ _ _ rfl n2, ?_⟩
      exact ⟨rfl, HB.out.trans (belowK_b (w := w) (Nat.le_refl _) _ D _ (.deferred none) (by omega) hKK rfl rfl)⟩
    case stop =>
      rintro D c pre W hD hsp ⟨rfl, ⟨p, x, rfl, h1, h2, r1⟩, hb⟩ hK
      have hz : z = e1 x.f := by
        rw [HZ2.out, HE1.out]
        exact Fm.fe_stop hsp (by rw [← HE1.out]; exact h1) (by rw [← HE1.out]; exact h2)
      have HZ3 := Lib.hid hz
      clear hz HZ2
      gi_wp2
      refine ⟨by simp, .inl ⟨_, _, rfl, run_takeDeferred hK, ?_⟩⟩
      have n1 := cell_kept (Joins.cell_of_block r1 0) (grownBy_putObj' _ D (.deferred none)) (fun r e => by cases e; exact ⟨_, hK, rfl⟩)
      refine ⟨_, first_results _ _ _ _ rfl n1, ?_⟩
      refine ⟨?_, hb.trans (belowK_b (w := w) (Nat.le_refl _) W D _ (.deferred none) (by omega) hK rfl rfl)⟩
      rw [HZ3.out]; rfl
end Go.Proofs.Ytjcaingfeaaakaa
