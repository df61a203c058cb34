/-
  The walks of formula.nodes and formula.visit: the nodes of a formula in their order, as an iterator.
-/
import Derived.RangeFuncNested
import Derived.RangeFuncBound
import Derived.RangeFuncCalls
import Derived.RangeFuncLeaves
import Derived.RangeFuncBox
import Derived.Shelf.Abstract
import Derived.Shelf.RegionOpen
import Derived.WalkKit
import Derived.OwnWalkIn
import Derived.TacticsInMore
import Derived.LoopNIn
import Derived.LoopIn
import Derived.Test.YtjcaingfeaaakaaMMem
namespace Go.Proofs.Ytjcaingfeaaakaa
open Go.RowKit Go.Shelf

attribute [local go_sem] Oper.semAt_some

theorem RoundIn.anyDepth {m m' : Nat} {P : Program} {l : Nat} {f : FuncId} {tmps : Array Value} {assign body : Code} {w : World} {R : Ending → World → Prop}
    (h : RoundIn Fence.wide m P l f tmps assign body w R) : RoundIn Fence.wide m' P l f tmps assign body w R := ⟨h.1, fun c cs _ => h.2 c cs (room_wide _)⟩
theorem YieldAt.anyDepth {m : Nat} (m' : Nat) {P : Program} {l : Nat} {args : Array Value} {W : World} {R : Ending → World → Prop} (h : YieldAt Fence.wide m P l args W R) : YieldAt Fence.wide m' P l args W R := by
  obtain ⟨fn, tmps, assign, body, hy, hR⟩ := h
  exact ⟨fn, tmps, assign, body, hy, RoundIn.anyDepth hR⟩

namespace Fm
mutual
/-- The nodes with their depths, a node before its kids, and these in their order. -/
def nds (d : Nat) : Fo → List (Nat × Fo)
  | .mk o x c n ks => (d, .mk o x c n ks) :: ndsL (d + 1) ks
def ndsL (d : Nat) : List Fo → List (Nat × Fo)
  | [] => []
  | k :: ks => nds d k ++ ndsL d ks
end
theorem nds_eq (d : Nat) (f : Fo) : nds d f = (d, f) :: ndsL (d + 1) f.kids := by obtain ⟨o, x, c, n, ks⟩ := f; rw [nds]; rfl
theorem ndsL_append (d : Nat) : ∀ (a b : List Fo), ndsL d (a ++ b) = ndsL d a ++ ndsL d b
  | [], b => by rw [ndsL]; rfl
  | k :: a, b => by rw [List.cons_append, ndsL, ndsL, ndsL_append d a b, List.append_assoc]
theorem ndsL_take (d : Nat) {ks : List Fo} {i : Nat} {k : Fo} (h : ks[i]? = some k) : ndsL d (ks.take (i + 1)) = ndsL d (ks.take i) ++ nds d k := by
  obtain ⟨hi, rfl⟩ := List.getElem?_eq_some_iff.1 h
  rw [List.take_succ_eq_append_getElem hi, ndsL_append, ndsL, ndsL, List.append_nil]
theorem ndsL_split (d : Nat) (ks : List Fo) (i : Nat) : ndsL d (ks.take i) ++ ndsL d (ks.drop i) = ndsL d ks := by rw [← ndsL_append, List.take_append_drop]
mutual
theorem nds_len : ∀ (d : Nat) (f : Fo), (nds d f).length = size f
  | d, .mk o x c n ks => by rw [nds, size, List.length_cons, ndsL_len (d + 1) ks]; omega
theorem ndsL_len : ∀ (d : Nat) (ks : List Fo), (ndsL d ks).length = sizeL ks
  | _, [] => by rw [ndsL, sizeL]; rfl
  | d, k :: ks => by rw [ndsL, sizeL, List.length_append, nds_len d k, ndsL_len d ks]
end
/-- A node that is yielded: its depth, itself, where its kids lie in the world w0. -/
structure Nd (w0 : World) where
  d : Nat
  f : Fo
  u : Value
  hd : d ≤ 4611686018427387904
  hat : At w0 f u
abbrev Nd.er {w0 : World} (x : Nd w0) : Nat × Fo := (x.d, x.f)
abbrev Nd.enc {w0 : World} (x : Nd w0) : Array Value := #[.int .i64 (x.d : Nat), fv x.f x.u]
end Fm

theorem Fm.grown {w w' : World} (h : Below w.heap.size w w') : w.grownBy w' none := ⟨h.os, h.tape, h.output, h.size, fun k hk _ => h.block k hk⟩
namespace Fm
/-- What the body of a range over nodes must keep: what lay below n0, and all blocks of formulas. -/
def Kp (n0 : Nat) (W W' : World) : Prop := Below n0 W W' ∧ ∀ (k : Nat) (cs : Array Value) (fr : Nat × Nat), W.heap[k]? = some (Obj.cells cs 24 fr) → W'.heap[k]? = some (Obj.cells cs 24 fr)
theorem Kp.refl (n0 : Nat) (W : World) : Kp n0 W W := ⟨Below.refl _ _, fun _ _ _ h => h⟩
theorem Kp.trans {n0 : Nat} {A B C : World} (h : Kp n0 A B) (k : Kp n0 B C) : Kp n0 A C := ⟨h.1.trans k.1, fun i cs fr hi => k.2 i cs fr (h.2 i cs fr hi)⟩
theorem Kp.of {n0 : Nat} {A B : World} (h : Below A.heap.size A B) (hn : n0 ≤ A.heap.size) : Kp n0 A B := ⟨h.mono hn, fun i _ _ hi => (h.block i (Array.getElem?_eq_some_iff.1 hi).1).trans hi⟩
theorem Kp.alloc {n0 : Nat} {A : World} (o : Obj) (hn : n0 ≤ A.heap.size) : Kp n0 A (A.alloc o) := .of ((Below.refl _ _).alloc (Nat.le_refl _) o) hn
theorem Kp.put {n0 : Nat} (W : World) (l : Nat) (o o' : Obj) (hl : n0 ≤ l) (h : W.heap[l]? = some o) (hc : o.isCells = false) : Kp n0 W (W.putObj l o') :=
  ⟨(Below.refl n0 W).grown (grownBy_putObj' W l o') (by have := (Array.getElem?_eq_some_iff.1 h).1; omega) (fun k e => by cases e; omega), fun k cs fr hk => by
    refine (World.putObj_heap_other ?_).trans hk
    rintro rfl
    rw [h] at hk
    cases hk; cases hc⟩
end Fm

set_option maxHeartbeats 1000000 in
set_option maxRecDepth 100000 in
theorem nodes_made (f : Fm.Fo) (u : Value) (w : World) :
    Calls Try.prog 36 #[Fm.fv f u] w fun e w' => e = .returned (.func (.func 55) #[] #[.pointer (some ⟨w.heap.size, 0, none⟩)]) ∧ w' = w.alloc (.cells #[.int .i64 f.op, .string (Lx.str f.name), .int .i64 f.cmp, .int .i64 f.num, u] 24) := by
  have hmf : ∀ (fn : Fn) (first cap : Array Value) (w : World), (Instr.makeFunc fn first cap).run Try.prog w = .ok (.func fn first cap) w := fun _ _ _ _ => rfl
  go_enter Try.func36, Try.ntmps36
  go_wp2_with fail
  go_ret
  exact ⟨rfl, rfl⟩

namespace Fm
/-- What visit answers. -/
def VOut (w0 : World) (J Jx : List (Nd w0) → World → Prop) (pre : List (Nd w0)) (d : Nat) (f : Fo) (W : World) (e : Ending) (W' : World) : Prop :=
  (e = .returned (.bool true) ∧ (∃ xs, xs.map Nd.er = nds d f ∧ J (pre ++ xs) W') ∧ Kp w0.heap.size W W') ∨ (e = .returned (.bool false) ∧ ∃ q, q.map Nd.er <+: nds d f ∧ Jx (pre ++ q) W')
end Fm

set_option maxRecDepth 100000 in
set_option maxHeartbeats 8000000 in
theorem visit_in (w0 : World) (l N : Nat) (J Jx : List (Fm.Nd w0) → World → Prop)
    (hJ : ∀ x A B, J x A → Below A.heap.size A B → J x B)
    (hY : ∀ m pre x W, J pre W → pre.length < N → YieldAt Fence.wide m Try.prog l (Fm.Nd.enc x) W fun e W' =>
      (e = .returned (.bool true) ∧ J (pre ++ [x]) W' ∧ Fm.Kp w0.heap.size W W') ∨ (e = .returned (.bool false) ∧ Jx (pre ++ [x]) W')) :
    ∀ (s : Nat) (f : Fm.Fo), Fm.size f ≤ s → ∀ (n d : Nat) (u : Value) (pre : List (Fm.Nd w0)) (W : World), Fm.At w0 f u → Below w0.heap.size w0 W → J pre W → pre.length + Fm.size f ≤ N → d + Fm.size f ≤ 4611686018427387904 →
      CallsIn Fence.wide n Try.prog 56 #[Fm.fv f u, .int .i64 (d : Nat), .func (.yield l) #[] #[]] W (Fm.VOut w0 J Jx pre d f W) := by
  have HJ := Lib.hid hJ
  have HY := Lib.hid hY
  clear hJ hY
  intro s
  induction s with
  | zero => intro f hf; have := Fm.size_pos f; omega
  | succ s ih =>
    intro f hf n d u pre W hat hb hj hN hd
    have hsz := Fm.size_eq f
    have HIH := Lib.hid ih
    clear ih
    obtain ⟨a, c, g, o, rfl, hc1, hc2, hga, hcl⟩ := hat.kidsAt.any
    obtain ⟨K, hK⟩ : ∃ K, K = f.kids := ⟨_, rfl⟩
    obtain ⟨x, hx, henc⟩ : ∃ x : Fm.Nd w0, Fm.Nd.er x = (d, f) ∧ Fm.Nd.enc x = #[.int .i64 (d : Nat), Fm.fv f (.slice a f.kids.length c)] := ⟨⟨d, f, .slice a f.kids.length c, by omega, hat⟩, rfl, rfl⟩
    have hnds := Fm.nds_eq d f
    rw [← hK] at hsz hc1 hga hcl henc hnds ⊢
    have hlen := Fm.len_sizeL K
    obtain ⟨m, hm⟩ : ∃ m, m = K.length := ⟨_, rfl⟩
    have hga2 : 0 < m → a = some ⟨g, o, none⟩ ∧ g < w0.heap.size := fun h => hga (by rintro rfl; rw [hm] at h; simp at h)
    rw [← hm] at hc1 hlen henc ⊢
    obtain ⟨BX, hBX⟩ : ∃ b, b = W.alloc (.cells #[.int .i64 f.op, .string (Lx.str f.name), .int .i64 f.cmp, .int .i64 f.num, .slice a m c] 24) := ⟨_, rfl⟩
    have hkx : Fm.Kp w0.heap.size W BX := by rw [hBX]; exact .alloc _ hb.size
    have hbx : BX.heap[W.heap.size]? = some (.cells #[.int .i64 f.op, .string (Lx.str f.name), .int .i64 f.cmp, .int .i64 f.num, .slice a m c] 24 (0, 0)) := by rw [hBX]; exact heap_alloc_new _ _
    have hjx : J pre BX := by rw [hBX]; exact HJ.out _ _ _ hj ((Below.refl _ _).alloc (Nat.le_refl _) _)
    obtain ⟨fn, tmps, assign, body, hy, hR⟩ := HY.out (n - 1) pre x BX hjx (by omega)
    rw [henc] at hy
    dsimp only [Fm.fv] at hy
    have hdp : ∀ k : Nat, (Fence.wide.depth.isSome = true → 1 ≤ k) := fun k h => by cases h
    have HR := Lib.hid hR
    have HG := Lib.hid hga2
    have HC := Lib.hid hcl
    have HM := Lib.hid hm
    have HB := Lib.hid (hb.trans hkx.1)
    have HS := Lib.hid hsz
    have HF := Lib.hid hf
    have HN := Lib.hid hN
    have HD := Lib.hid hd
    have HX := Lib.hid (And.intro hx hnds)
    have HKX := Lib.hid (And.intro hkx hbx)
    have hdd : d ≤ 4611686018427387903 := by omega
    clear hga hga2 hcl hx henc hm hat hK hsz hf hN hd hlen hj hR hnds hb hjx hkx
    have q0 := Joins.cell_of_block hbx 0
    have q1 := Joins.cell_of_block hbx 1
    have q2 := Joins.cell_of_block hbx 2
    have q3 := Joins.cell_of_block hbx 3
    have q4 := Joins.cell_of_block hbx 4
    clear hbx
    refine callsIn_of_wp Try.func56 rfl trivial ?_ rfl
    simp only [Try.ntmps56, List.size_toArray, List.length_cons, List.length_nil, Nat.reduceAdd, Nat.reduceSub, Array.replicate_succ, Array.replicate_zero, List.push_toArray, List.append_toArray, List.nil_append, List.cons_append]
    subst hBX
    gi_wp2
    refine ⟨hdp _, HR.out.mono ?_⟩
    rintro e W1 (⟨rfl, hJ1, hK1⟩ | ⟨rfl, hJx1⟩)
    · have hb1 := hK1.2 _ _ _ HKX.out.2
      have q4 := Joins.cell_of_block hb1 4
      have HJ1 := Lib.hid hJ1
      have HB1 := Lib.hid (HB.out.trans hK1.1)
      have HK1 := Lib.hid (HKX.out.1.trans hK1)
      clear hJ1 hK1 hb1 HKX q0 q1 q2 q3 HR hy
      gi_wp2
      clear q4
      gi_loopw [17] (fun i wr => ∃ k : Nat, k ≤ m ∧ i = .int .i64 k ∧ Hid (∃ xs, xs.map Fm.Nd.er = Fm.ndsL (d + 1) (K.take k) ∧ J (pre ++ [x] ++ xs) wr) ∧ Hid (Fm.Kp w0.heap.size W wr) ∧ Hid (Below w0.heap.size w0 wr)) (fun i _ => m - (intOf i).toNat)
      case atStart => exact ⟨0, Nat.zero_le _, rfl, ⟨[], by rw [List.take_zero, Fm.ndsL]; rfl, by rw [List.append_nil]; exact HJ1.out⟩, HK1, HB1⟩
      case round =>
        obtain ⟨k, hk, rfl, hj, hkp, hbw⟩ := hrel
        by_cases hlt : k < m
        · have hki : (k : Int) < (m : Int) := by omega
          obtain ⟨y, hyk⟩ : ∃ y, K[k]? = some y := ⟨_, List.getElem?_eq_getElem (by rw [← HM.out]; exact hlt)⟩
          obtain ⟨rfl, hg⟩ := HG.out (by omega)
          obtain ⟨v, p0, p1, p2, p3, p4, hv⟩ := HC.out k y hyk
          obtain ⟨va, vn, vc, hve⟩ : ∃ va vn vc, v = .slice va vn vc := by obtain ⟨va, vc, e, _, _⟩ := hv.kidsAt.len; exact ⟨va, _, vc, e⟩
          subst hve
          have p0 := (hbw.out.cell (p := ⟨g, o + k * 5, none⟩) hg).trans p0
          have p1 := (hbw.out.cell (p := ⟨g, o + k * 5 + 1, none⟩) hg).trans p1
          have p2 := (hbw.out.cell (p := ⟨g, o + k * 5 + 2, none⟩) hg).trans p2
          have p3 := (hbw.out.cell (p := ⟨g, o + k * 5 + 3, none⟩) hg).trans p3
          have p4 := (hbw.out.cell (p := ⟨g, o + k * 5 + 4, none⟩) hg).trans p4
          obtain ⟨xs, hxs, hjx⟩ := hj.out
          have hN := HN.out
          have hD := HD.out
          have hS := HS.out
          have hF := HF.out
          have hsp := Fm.sizeL_split K k
          have hge := Fm.sizeL_get hyk
          have hlx : xs.length = Fm.sizeL (K.take k) := by rw [← Fm.ndsL_len (d + 1), ← hxs, List.length_map]
          have hkb : ∀ o, Fm.Kp w0.heap.size wr (wr.alloc o) := fun o => .alloc o hbw.out.size
          have HV := Lib.hid (fun o => HIH.out y (by omega) (n - 1) (d + 1) _ (pre ++ [x] ++ xs) (wr.alloc o) hv (hbw.out.trans (hkb o).1) (HJ.out _ _ _ hjx ((Below.refl _ _).alloc (Nat.le_refl _) _)) (by simp; omega) (by omega))
          have HKB := Lib.hid hkb
          have HTK := Lib.hid (Fm.ndsL_take (d + 1) hyk)
          have HXS := Lib.hid hxs
          have HD1 : Hid (((d : Nat) : Int) + 1 = ((d + 1 : Nat) : Int)) := (by omega : ((d : Nat) : Int) + 1 = ((d + 1 : Nat) : Int))
          have hdb : (d : Int) + 1 ≤ 9223372036854775807 := by omega
          clear hyk hv hxs hjx hN hD hS hF hsp hge hlx hkb hj
          gi_wp2
          rw [HD1.out]
          refine ⟨trivial, hdp _, (HV.out _).mono ?_⟩
          rintro e W3 (⟨rfl, ⟨ys, hys, hj3⟩, hk3⟩ | ⟨rfl, q, hq, hx3⟩)
          · have hkw := (HKB.out _).trans hk3
            have HR3 : Hid (∃ xs, xs.map Fm.Nd.er = Fm.ndsL (d + 1) (K.take (k + 1)) ∧ J (pre ++ [x] ++ xs) W3) :=
              ⟨xs ++ ys, by rw [List.map_append, HXS.out, hys, HTK.out], by rw [← List.append_assoc]; exact hj3⟩
            have HK3 := Lib.hid (hkp.out.trans hkw)
            have HB3 := Lib.hid (hbw.out.trans hkw.1)
            clear hys hj3 hk3 hkw p0 p1 p2 p3 p4
            gi_wp2
            go_roundw
            case rel => exact ⟨k + 1, by omega, by go_num, HR3, HK3, HB3⟩
            case measure => simp [intOf]; omega
          · have HQ := Lib.hid (And.intro hq hx3)
            clear hq hx3 p0 p1 p2 p3 p4
            gi_wp2
            go_ret
            refine .inr ⟨rfl, x :: (xs ++ q), ?_, by simpa using HQ.out.2⟩
            obtain ⟨r, hr⟩ := HQ.out.1
            rw [List.map_cons, List.map_append, HXS.out, HX.out.1, HX.out.2, ← Fm.ndsL_split (d + 1) K (k + 1), HTK.out, ← hr]
            exact ⟨r ++ Fm.ndsL (d + 1) (K.drop (k + 1)), by simp⟩
        · obtain rfl : k = m := by omega
          have hki : ¬ (k : Int) < (k : Int) := by omega
          gi_wp2
          go_ret
          obtain ⟨xs, hxs, hjx⟩ := hj.out
          rw [HM.out, List.take_length] at hxs
          refine .inl ⟨rfl, ⟨x :: xs, ?_, by simpa using hjx⟩, hkp.out⟩
          rw [List.map_cons, hxs, HX.out.1, HX.out.2]
    · clear q0 q1 q2 q3 q4
      have HJx1 := Lib.hid hJx1
      clear hJx1 hy HR HKX
      gi_wp2
      go_ret
      refine .inr ⟨rfl, [x], ?_, HJx1.out⟩
      rw [HX.out.2]
      show [Fm.Nd.er x] <+: _
      rw [HX.out.1]
      exact ⟨_, rfl⟩

set_option maxRecDepth 100000 in
set_option maxHeartbeats 4000000 in
theorem nodes1_in (w0 : World) (l B : Nat) (f : Fm.Fo) (u : Value) (n : Nat) (J Jx : List (Fm.Nd w0) → World → Prop) (hs : Fm.size f ≤ 4611686018427387900)
    (hJ : ∀ x A B, J x A → Below A.heap.size A B → J x B)
    (hY : ∀ pre x W, J pre W → pre.length < Fm.size f → YieldAt Fence.wide (n - 1) Try.prog l (Fm.Nd.enc x) W fun e W' =>
      (e = .returned (.bool true) ∧ J (pre ++ [x]) W' ∧ Fm.Kp w0.heap.size W W') ∨ (e = .returned (.bool false) ∧ Jx (pre ++ [x]) W'))
    (W : World) (hat : Fm.At w0 f u) (hb : Below w0.heap.size w0 W) (h0 : J [] W) (hB : W.heap[B]? = some (.cells #[.int .i64 f.op, .string (Lx.str f.name), .int .i64 f.cmp, .int .i64 f.num, u] 24 (0, 0))) :
    CallsIn Fence.wide n Try.prog 55 #[.func (.yield l) #[] #[], .pointer (some ⟨B, 0, none⟩)] W fun e W' => (∃ v, e = .returned v) ∧
      ((∃ ys, ys.map Fm.Nd.er = Fm.nds 1 f ∧ J ys W') ∨ (∃ pre, pre.map Fm.Nd.er <+: Fm.nds 1 f ∧ Jx pre W')) := by
  have hdp : ∀ k : Nat, (Fence.wide.depth.isSome = true → 1 ≤ k) := fun k h => by cases h
  have HV := Lib.hid (visit_in w0 l (Fm.size f) J Jx hJ (fun m pre x W hj hl => YieldAt.anyDepth m (hY pre x W hj hl)) (Fm.size f) f (Nat.le_refl _) (n - 1) 1 u [] W hat hb h0 (by simp) (by omega))
  have q0 := Joins.cell_of_block hB 0
  have q1 := Joins.cell_of_block hB 1
  have q2 := Joins.cell_of_block hB 2
  have q3 := Joins.cell_of_block hB 3
  have q4 := Joins.cell_of_block hB 4
  clear hJ hY hB h0 hb hat hs
  refine callsIn_of_wp Try.func55 rfl trivial ?_ rfl
  simp only [Try.ntmps55, List.size_toArray, List.length_cons, List.length_nil, Nat.reduceAdd, Nat.reduceSub, Array.replicate_succ, Array.replicate_zero, List.push_toArray, List.append_toArray, List.nil_append, List.cons_append]
  gi_wp2
  refine ⟨trivial, hdp _, HV.out.mono ?_⟩
  rintro e W1 (⟨rfl, ⟨xs, hxs, hj⟩, _⟩ | ⟨rfl, q, hq, hx⟩)
  · gi_wp2
    go_end0
    exact ⟨⟨_, rfl⟩, .inl ⟨xs, hxs, by simpa using hj⟩⟩
  · gi_wp2
    go_end0
    exact ⟨⟨_, rfl⟩, .inr ⟨q, hq, by simpa using hx⟩⟩

/-- The value that nodes hands back has the contract of an iterator. -/
theorem nodes_stops (n : Nat) (w0 w : World) (B : Nat) (f : Fm.Fo) (u : Value) (hs : Fm.size f ≤ 4611686018427387900) (hat : Fm.At w0 f u) (hb : Below w0.heap.size w0 w)
    (hB : w.heap[B]? = some (.cells #[.int .i64 f.op, .string (Lx.str f.name), .int .i64 f.cmp, .int .i64 f.num, u] 24 (0, 0))) :
    SeqStopsK Fence.wide n Try.prog 55 #[.pointer (some ⟨B, 0, none⟩)] (Fm.Nd.enc (w0 := w0)) (Fm.Kp w0.heap.size) (fun ys => ys.map Fm.Nd.er = Fm.nds 1 f) (fun pre => pre.map Fm.Nd.er <+: Fm.nds 1 f) (Fm.size f) w :=
  fun l J Jx W hW hJ _ hY h0 =>
    nodes1_in w0 l B f u n J Jx hs (fun x A B hx hb => hJ x A B none hx (Fm.grown hb) (fun r e => by cases e)) hY W hat (hb.trans (hW.mono hb.size)) h0 ((hW.block B (Array.getElem?_eq_some_iff.1 hB).1).trans hB)
end Go.Proofs.Ytjcaingfeaaakaa
