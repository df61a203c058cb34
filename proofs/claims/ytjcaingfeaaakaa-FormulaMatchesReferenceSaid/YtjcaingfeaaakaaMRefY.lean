/-
  The reference of layer 7: the walk of Expand.
-/
import Derived.Test.YtjcaingfeaaakaaMRefX
import Derived.Deep.RegionHeld3
import Derived.Deep.CutRange
namespace Go.Proofs.Ytjcaingfeaaakaa
open Go.RowKit

theorem refexpand_results (tmps : Array Value) (w : World) (g : Nat) (f : Fm.Fo) (u : Value) (hp : tmps.getD 6 undef = .pointer (some ⟨g, 0, none⟩)) (h : Fm.Cells w g 0 f u) :
    (results Try.f23 tmps).run Try.prog w = .ok (Fm.fv f u) w := by
  have hp' : tmps[6]?.getD undef = .pointer (some ⟨g, 0, none⟩) := by simpa using hp
  obtain ⟨h0, h1, h2, h3, h4⟩ := h
  simp only [Nat.zero_add] at h1 h2 h3 h4
  simp [results, Try.f23, hp', go_sem, h0, h1, h2, h3, h4]

namespace Fm
open Lx
/-- A row that the call owns is read, in a part of a later world. -/
theorem OwnK.isK {base lo : Nat} {ks : List Fo} {v : Value} {W W' : World} {q : Nat → Bool} (h : OwnK base lo ks v W) (hb : ∀ b, b < W.heap.size → (b < lo ∨ base ≤ b) → q b = false ∧ W'.heap[b]? = W.heap[b]?) : IsK (Fm.era q W') v ks := by
  have hform := h.form
  obtain ⟨us, h1, h2, h3⟩ := h
  have hh := h2
  rcases h2.2 with ⟨rfl, e2⟩ | ⟨g, cap, cur, rfl, hg, hgc, hc1, hc2, hcs, htk⟩
  · have : ks = [] := List.length_eq_zero_iff.1 e2
    subst this
    exact IsK.nil _
  · have hgl : g < W.heap.size := (Array.getElem?_eq_some_iff.1 hgc).1
    obtain ⟨hq, hgb⟩ := hb g hgl (.inr hg)
    have cell : ∀ j x, (cellsL ks us)[j]? = some x → (Fm.era q W').cell? ⟨g, j, none⟩ = some x := fun j x hx => by
      refine era_cell.2 ⟨hq, ?_⟩
      rw [World.cell?_of_block (w := W) hgb]
      have hj : j < ks.length * 5 := by rw [← cellsL_len ks us h1]; exact (List.getElem?_eq_some_iff.1 hx).1
      exact (hh.cellAt j hj).trans hx
    obtain ⟨a', c', e, f1, f2⟩ := hform
    obtain ⟨rfl, rfl⟩ : some (⟨g, 0, none⟩ : Addr) = a' ∧ cap = c' := by simpa using e
    refine ⟨_, cap, rfl, f1, f2, fun _ => ⟨g, 0, rfl, by rw [era_size]; exact (Array.getElem?_eq_some_iff.1 (hgb.trans hgc)).1, Row.of fun j k hj => ?_⟩⟩
    have hjl : j < us.length := by rw [h1]; exact (List.getElem?_eq_some_iff.1 hj).1
    have hu : us[j]? = some us[j] := List.getElem?_eq_getElem hjl
    have c := fun r hr => cellsL_get ks us j k us[j] h1 hj hu r hr
    rw [Nat.zero_add]
    refine ⟨⟨cell _ _ (c 0 (by omega)), cell _ _ (c 1 (by omega)), cell _ _ (c 2 (by omega)), cell _ _ (c 3 (by omega))⟩, us[j], cell _ _ (c 4 (by omega)), (h3 j k us[j] hj hu).era fun b hbl hp => ?_⟩
    have hp2 : (decide (lo ≤ b) && decide (b < base)) = false := by
      cases hx : (decide (lo ≤ b) && decide (b < base)) with
      | false => rfl
      | true => rw [hx] at hp; simp at hp
    refine hb b hbl ?_
    simp at hp2
    omega
theorem OwnK.grownBelow {A B : World} {base lo : Nat} {ks : List Fo} {v : Value} (ho : OwnK base lo ks v A) (hb : base ≤ A.heap.size) (h : A.grownBy B v.ownBlock) : Below base A B := (Below.refl _ _).grown h hb (fun k hk => (ho.lt k hk.symm).1)
end Fm

set_option maxHeartbeats 8000000 in
set_option maxRecDepth 100000 in
theorem refexpand_walk (lo : Nat) : ∀ (s : Nat) (f by_ : Fm.Fo) (u ub : Value) (x : Fm.T) (w : World), Fm.size f ≤ s → Fm.size f ≤ 900000 → lo ≤ w.heap.size → Fm.At (Fm.era (fun b => decide (lo ≤ b)) w) f u → Fm.At (Fm.era (fun b => decide (lo ≤ b)) w) by_ ub →
    Calls Try.prog 23 #[Fm.fv f u, .string (Lx.str x), Fm.fv by_ ub] w fun e w' => (∃ u', e = .returned (Fm.fv (Fm.expand x by_ f) u') ∧ Fm.At (Fm.era (fun b => decide (lo ≤ b) && decide (b < w.heap.size)) w') (Fm.expand x by_ f) u') ∧ Below w.heap.size w w' := by
  intro s
  induction s with
  | zero => intro f by_ u ub x w hs; have := Fm.size_pos f; omega
  | succ s ih =>
    intro f by_ u ub x w hs hsm hlo hat hatb
    have hsz := Fm.size_eq f
    have hsize := hat.sized
    obtain ⟨ua, uc, g, o, hu, huc, _, hga, hcl⟩ := hat.kidsAt.any
    obtain ⟨ba, bn, bc, hub⟩ : ∃ a n c, ub = .slice a n c := by obtain ⟨a, c, e, _⟩ := hatb.kidsAt.len; exact ⟨_, _, _, e⟩
    obtain ⟨K, hK⟩ : ∃ K, K = f.kids := ⟨_, rfl⟩
    obtain ⟨m, hm⟩ : ∃ m, m = K.length := ⟨_, rfl⟩
    rw [← hK] at hsz hu huc hga hcl
    rw [← hm] at hu huc
    subst hu hub
    have hlen := Fm.len_sizeL K
    have hga2 : 0 < m → ua = some ⟨g, o, none⟩ := fun h => (hga (by rintro rfl; rw [hm] at h; simp at h)).1
    obtain ⟨W3, hW3⟩ : ∃ W3, W3 = ((w.alloc (.cells #[.int .i64 f.op, .string (Lx.str f.name), .int .i64 f.cmp, .int .i64 f.num, .slice ua m uc] 24)).alloc (.cells #[.int .i64 by_.op, .string (Lx.str by_.name), .int .i64 by_.cmp, .int .i64 by_.num, .slice ba bn bc] 24)).alloc (.cells #[.int .i64 0, .string ⟨#[]⟩, .int .i64 0, .int .i64 0, .slice none 0 0] 24) := ⟨_, rfl⟩
    have hb3 : Below w.heap.size w W3 := by rw [hW3]; exact (((Below.refl _ _).alloc (Nat.le_refl _) _).alloc (by simp) _).alloc (by simp; omega) _
    have k0 : W3.heap[w.heap.size]? = some (.cells #[.int .i64 f.op, .string (Lx.str f.name), .int .i64 f.cmp, .int .i64 f.num, .slice ua m uc] 24 (0, 0)) := by rw [hW3]; exact Fm.blkK (Fm.blkK (heap_alloc_new _ _))
    have k1 : W3.heap[w.heap.size + 1]? = some (.cells #[.int .i64 by_.op, .string (Lx.str by_.name), .int .i64 by_.cmp, .int .i64 by_.num, .slice ba bn bc] 24 (0, 0)) := by rw [hW3]; exact Fm.blkK (Fm.blk1 _ _ _)
    have k2 : W3.heap[w.heap.size + 1 + 1]? = some (.cells #[.int .i64 0, .string ⟨#[]⟩, .int .i64 0, .int .i64 0, .slice none 0 0] 24 (0, 0)) := by rw [hW3]; exact Fm.blk2 _ _ _ _
    have hz3 : W3.heap.size = w.heap.size + 3 := by rw [hW3]; simp
    have HIH : Hid (∀ k ∈ K, ∀ v W, Below w.heap.size w W → Fm.At (Fm.era (fun b => decide (lo ≤ b)) w) k v → Calls Try.prog 23 #[Fm.fv k v, .string (Lx.str x), Fm.fv by_ (.slice ba bn bc)] W fun e w' => (∃ u', e = .returned (Fm.fv (Fm.expand x by_ k) u') ∧ Fm.At (Fm.era (fun b => decide (lo ≤ b) && decide (b < W.heap.size)) w') (Fm.expand x by_ k) u') ∧ Below W.heap.size W w') := fun k hk v W hW hv => by
      have hmv : ∀ {y : Fm.Fo} {z : Value}, Fm.At (Fm.era (fun b => decide (lo ≤ b)) w) y z → Fm.At (Fm.era (fun b => decide (lo ≤ b)) W) y z := fun h => h.era fun b hb hp => ⟨hp, hW.block b hb⟩
      exact ih k by_ v _ x W (by have := Fm.size_mem hk; omega) (by have := Fm.size_mem hk; omega) (Nat.le_trans hlo hW.size) (hmv hv) (hmv hatb)
    have HATB := Lib.hid hatb
    have hx := Fm.str_eq f.name x
    have q0 := Joins.cell_of_block k0 0
    have q1 := Joins.cell_of_block k0 1
    have HB3 := Lib.hid (And.intro hb3 (And.intro hz3 hlo))
    have HK3 := Lib.hid (And.intro k0 (And.intro k1 k2))
    have HM := Lib.hid (And.intro hm hK)
    have HSZ := Lib.hid hsize
    have HGA := Lib.hid hga2
    have HCL := Lib.hid hcl
    have hmb : m ≤ 900000 := by omega
    have HEX : Hid (Fm.expand x by_ f = if f.op = 4 ∧ f.name = x then by_ else .mk f.op f.name f.cmp f.num (K.map (Fm.expand x by_))) := by
      show _ = _
      rw [hK]
      obtain ⟨o, y, c, n, ks⟩ := f
      rw [Fm.expand, Fm.expandL_map]; rfl
    obtain ⟨E, hE⟩ : ∃ E : Fm.Fo → Fm.Fo, E = Fm.expand x by_ := ⟨_, rfl⟩
    obtain ⟨F, hF⟩ : ∃ F, F = Fm.expand x by_ f := ⟨_, rfl⟩
    rw [← hE] at HIH
    rw [← hF, ← hE] at HEX
    rw [← hF]
    obtain ⟨sx, hsx⟩ : ∃ s, s = Lx.str x := ⟨_, rfl⟩
    rw [← hsx] at hx HIH ⊢
    clear ih hs hsm hlo hat hatb hsz hm hK hsize hlen hE hF hsx hga hga2 hcl
    by_cases hterm : f.op = 4 ∧ f.name = x
    · have hFb : F = by_ := by rw [HEX.out, if_pos hterm]
      subst hFb
      rw [decide_eq_true hterm.2] at hx
      have h4 : ((f.op == 4)) = true := by rw [beq_iff_eq]; exact hterm.1
      have b0 := Joins.cell_of_block k1 0
      have b1 := Joins.cell_of_block k1 1
      have b2 := Joins.cell_of_block k1 2
      have b3 := Joins.cell_of_block k1 3
      have b4 := Joins.cell_of_block k1 4
      have o0 := Joins.cell_of_block k2 0
      have o1 := Joins.cell_of_block k2 1
      have o2 := Joins.cell_of_block k2 2
      have o3 := Joins.cell_of_block k2 3
      have o4 := Joins.cell_of_block k2 4
      have ou := Joins.unfrozen_of_block k2
      have hc2 : Fm.Cells W3 (w.heap.size + 1 + 1) 0 (.mk 0 [] 0 0 []) (.slice none 0 0) := ⟨o0, o1, o2, o3, o4⟩
      have HC2 := Lib.hid (Fm.set5_cells (f := F) (u := .slice ba bn bc) hc2)
      clear HIH HEX hterm k0 k1 k2 hc2 hb3 hz3
      go_enter Try.func23, Try.ntmps23
      go_upto_region 2 with fail
      rw [← hW3]
      clear q0 q1 hW3
      go_wp2_with fail
      clear b0 b1 b2 b3 b4 o0 o1 o2 o3 o4 ou
      refine bodyPost_ret (refexpand_results _ _ (w.heap.size + 1 + 1) F (.slice ba bn bc) rfl HC2.out) rfl ?_
      have hsB : w.heap.size ≤ w.heap.size + 1 + 1 := by omega
      refine ⟨⟨_, rfl, HATB.out.era fun k hk hp => ⟨?_, ?_⟩⟩, ((((HB3.out.1.setCell (p := ⟨w.heap.size + 1 + 1, 0, none⟩) hsB _).setCell (p := ⟨w.heap.size + 1 + 1, 0 + 1, none⟩) hsB _).setCell (p := ⟨w.heap.size + 1 + 1, 0 + 2, none⟩) hsB _).setCell (p := ⟨w.heap.size + 1 + 1, 0 + 3, none⟩) hsB _).setCell (p := ⟨w.heap.size + 1 + 1, 0 + 4, none⟩) hsB _⟩
      · simp at hp ⊢; omega
      · exact (Fm.set5_other (by omega)).trans (HB3.out.1.block k hk)
    · have hF : F = .mk f.op f.name f.cmp f.num (K.map E) := by rw [HEX.out, if_neg hterm]
      have HFE := Lib.hid hF
      have hcond : ((f.op == 4)) = false ∨ ((f.op == 4) = true ∧ ((Lx.str f.name).toList == sx.toList) = false) := by
        by_cases h4 : f.op = 4
        · right; exact ⟨by rw [beq_iff_eq]; exact h4, by rw [hx, decide_eq_false_iff_not]; exact fun h => hterm ⟨h4, h⟩⟩
        · left; rw [beq_eq_false_iff_ne]; exact h4
      clear hx hF HEX hterm
      rcases hcond with h4 | ⟨h4, hnm⟩
      all_goals
        clear k0 k1 k2
        go_enter Try.func23, Try.ntmps23
        go_upto_region 3 with fail
        rw [← hW3]
        clear q0 q1 hW3 hb3 hz3
        go_wp2_with fail
        go_loopw [7, 8] (fun v i wr => ∃ k : Nat, k ≤ m ∧ i = .int .i64 k ∧ Hid (Fm.OwnK W3.heap.size lo ((K.map E).take k) v wr) ∧ Hid (Below W3.heap.size W3 wr)) (fun _ i _ => m - (intOf i).toNat)
        case atStart => exact ⟨0, Nat.zero_le _, rfl, (by rw [List.take_zero]; exact Fm.OwnK.nil _ _ _), Below.refl _ _⟩
        case round =>
          obtain ⟨k, hk, rfl, ho, hbx⟩ := hrel
          have hbase : W3.heap.size ≤ wr.heap.size := hbx.out.size
          have hblk : ∀ {j cs t fr}, W3.heap[j]? = some (Obj.cells cs t fr) → wr.heap[j]? = some (Obj.cells cs t fr) := fun h => (hbx.out.block _ (Array.getElem?_eq_some_iff.1 h).1).trans h
          have k0 := hblk HK3.out.1
          have k1 := hblk HK3.out.2.1
          have k2 := hblk HK3.out.2.2
          by_cases hlt : k < m
          · have hki : (k : Int) < (m : Int) := by omega
            have hk0 : (0 : Int) ≤ (k : Int) := by omega
            obtain ⟨y, hy⟩ : ∃ y, K[k]? = some y := ⟨_, List.getElem?_eq_getElem (by rw [← HM.out.1]; exact hlt)⟩
            obtain rfl := HGA.out (by omega)
            obtain ⟨uy, p0, p1, p2, p3, p4, hay⟩ := HCL.out k y hy
            obtain ⟨xa, xn, xc, hux⟩ : ∃ a n c, uy = .slice a n c := by obtain ⟨a, c, e, _⟩ := hay.kidsAt.len; exact ⟨_, _, _, e⟩
            subst hux
            have hgo : g < w.heap.size := block_lt_of_cell (Fm.era_cell.1 p0).2
            have hfar : ∀ w', Below W3.heap.size wr w' → Below w.heap.size w w' := fun w' h => HB3.out.1.trans ((hbx.out.trans h).mono HB3.out.1.size)
            have cellw : ∀ {j : Nat} {z : Value} (w' : World), Below W3.heap.size wr w' → (Fm.era (fun b => decide (lo ≤ b)) w).cell? ⟨g, j, none⟩ = some z → w'.cell? ⟨g, j, none⟩ = some z := fun w' h hz => ((hfar w' h).cell (p := ⟨g, _, none⟩) hgo).trans (Fm.era_cell.1 hz).2
            have p0 : ∀ w', Below W3.heap.size wr w' → w'.cell? ⟨g, o + k * 5, none⟩ = some (.int .i64 y.op) := fun w' h => cellw w' h p0
            have p1 : ∀ w', Below W3.heap.size wr w' → w'.cell? ⟨g, o + k * 5 + 1, none⟩ = some (.string (Lx.str y.name)) := fun w' h => cellw w' h p1
            have p2 : ∀ w', Below W3.heap.size wr w' → w'.cell? ⟨g, o + k * 5 + 2, none⟩ = some (.int .i64 y.cmp) := fun w' h => cellw w' h p2
            have p3 : ∀ w', Below W3.heap.size wr w' → w'.cell? ⟨g, o + k * 5 + 3, none⟩ = some (.int .i64 y.num) := fun w' h => cellw w' h p3
            have p4 : ∀ w', Below W3.heap.size wr w' → w'.cell? ⟨g, o + k * 5 + 4, none⟩ = some (.slice xa xn xc) := fun w' h => cellw w' h p4
            have hl0 : w.heap.size < W3.heap.size := by rw [HB3.out.2.1]; omega
            have hl1 : w.heap.size + 1 < W3.heap.size := by rw [HB3.out.2.1]; omega
            have e4 : ∀ w', Below W3.heap.size wr w' → w'.cell? ⟨w.heap.size, 4, none⟩ = some (.slice (some ⟨g, o, none⟩) m uc) := fun w' h => (h.cell (p := ⟨w.heap.size, 4, none⟩) hl0).trans (Joins.cell_of_block k0 4)
            have b0 : ∀ w', Below W3.heap.size wr w' → w'.cell? ⟨w.heap.size + 1, 0, none⟩ = some (.int .i64 by_.op) := fun w' h => (h.cell (p := ⟨w.heap.size + 1, 0, none⟩) hl1).trans (Joins.cell_of_block k1 0)
            have b1 : ∀ w', Below W3.heap.size wr w' → w'.cell? ⟨w.heap.size + 1, 1, none⟩ = some (.string (Lx.str by_.name)) := fun w' h => (h.cell (p := ⟨w.heap.size + 1, 1, none⟩) hl1).trans (Joins.cell_of_block k1 1)
            have b2 : ∀ w', Below W3.heap.size wr w' → w'.cell? ⟨w.heap.size + 1, 2, none⟩ = some (.int .i64 by_.cmp) := fun w' h => (h.cell (p := ⟨w.heap.size + 1, 2, none⟩) hl1).trans (Joins.cell_of_block k1 2)
            have b3 : ∀ w', Below W3.heap.size wr w' → w'.cell? ⟨w.heap.size + 1, 3, none⟩ = some (.int .i64 by_.num) := fun w' h => (h.cell (p := ⟨w.heap.size + 1, 3, none⟩) hl1).trans (Joins.cell_of_block k1 3)
            have b4 : ∀ w', Below W3.heap.size wr w' → w'.cell? ⟨w.heap.size + 1, 4, none⟩ = some (.slice ba bn bc) := fun w' h => (h.cell (p := ⟨w.heap.size + 1, 4, none⟩) hl1).trans (Joins.cell_of_block k1 4)
            have c4 := e4 wr (Below.refl _ _)
            have HX : Hid (∀ W, Below wr.heap.size wr W → Calls Try.prog 23 #[.agg #[.int .i64 y.op, .string (Lx.str y.name), .int .i64 y.cmp, .int .i64 y.num, .slice xa xn xc], .string sx, .agg #[.int .i64 by_.op, .string (Lx.str by_.name), .int .i64 by_.cmp, .int .i64 by_.num, .slice ba bn bc]] W fun e w' => (∃ za zn zc, e = .returned (Fm.fv (E y) (.slice za zn zc)) ∧ Fm.At (Fm.era (fun b => decide (lo ≤ b) && decide (b < W.heap.size)) w') (E y) (.slice za zn zc)) ∧ Below W.heap.size W w') := fun W hW => (HIH.out y (List.mem_of_getElem? hy) (.slice xa xn xc) W (hfar W (hW.mono hbase)) hay).mono fun e w' h => by
              obtain ⟨⟨u', h1, h2⟩, h3⟩ := h
              obtain ⟨a, c, e, _⟩ := h2.kidsAt.len
              subst e
              exact ⟨⟨_, _, _, h1, h2⟩, h3⟩
            obtain ⟨va, vc, hv, hvc1, hvc2⟩ := ho.out.form
            obtain ⟨vn, hvn⟩ : ∃ n, n = ((K.map E).take k).length := ⟨_, rfl⟩
            have hvnk : vn = k := by rw [hvn, List.length_take, List.length_map, ← HM.out.1]; omega
            rw [← hvn, hvnk] at hv
            subst hv
            have htk : (K.map E).take (k + 1) = (K.map E).take k ++ [E y] := by rw [List.take_add_one, List.getElem?_map, hy]; rfl
            have HTK := Lib.hid (And.intro htk (hvn.symm.trans hvnk))
            clear hy hay hfar cellw hblk k0 k1 k2 hl0 hl1 hvn hvnk htk
            go_wp2_with fail
            clear c4
            have hs0 : Below W3.heap.size wr wr := Below.refl _ _
            go_region_held3 (fun w' => Below W3.heap.size wr w') (first | exact hs0.drew | exact hs0 | with_reducible assumption)
              (first
                | (go_at_call 23; (with_reducible refine (HX.out _ (by first | exact (Below.refl _ _).drew | exact Below.refl _ _)).mono ?_); rintro e v1 ⟨⟨za, zn, zc, rfl, hz1⟩, hz2⟩; have hz3 : Below wr.heap.size wr v1 := (by first | exact hz2 | exact (Below.refl wr.heap.size wr).drew.trans hz2); have hz4 : Below W3.heap.size wr v1 := hz3.mono hbase; have hz5 := hz4.alloc (Nat.le_trans hbase hz4.size) (.cells #[.int .i64 (E y).op, .string (Lx.str (E y).name), .int .i64 (E y).cmp, .int .i64 (E y).num, .slice za zn zc] 24))
                | (refine step_append_k (by rfl) (.tmp 26) (.tmp 35) rfl W3.heap.size lo ((K.map E).take k) _ rfl (ho.out.below (by have := HB3.out.2; omega) (hz3.alloc hz3.size _)) (E y) (.slice za zn zc) v1.heap.size (0, 0) 24 rfl (heap_alloc_new _ _) (by rw [HTK.out.2]; omega) (Nat.le_trans hbase hz5.size) (by have := HB3.out.2; omega) wr.heap.size hbase (hz1.era fun b hb hp => ⟨hp, Below.heap_alloc _ _ _ hb⟩) (fun b hb => (Array.getElem?_eq_some_iff.1 (ho.out.lt b hb).2.choose_spec).1) ?_; rw [HTK.out.2]; intro gg gc v2 hq1 hq2; have hz6 : Below W3.heap.size wr v2 := hz5.trans ((ho.out.below (by have := HB3.out.2; omega) (hz3.alloc hz3.size _)).grownBelow (Nat.le_trans hbase hz5.size) hq2))
                | fail)
            have HO1 : Hid (Fm.OwnK W3.heap.size lo ((K.map E).take (k + 1)) (.slice (some ⟨gg, 0, none⟩) (k + 1) gc) v2) := by rw [HTK.out.1]; exact hq1
            have HB1 : Hid (Below W3.heap.size W3 v2) := hbx.out.trans hz6
            clear hq1 hq2 hz1 hz2 hz3 hz4 hz5 hz6 HX hs0 p0 p1 p2 p3 p4 b0 b1 b2 b3 b4 e4 ho hbx
            go_wp2_with fail
            go_roundw
            case rel => exact ⟨k + 1, by omega, by go_num, HO1, HB1⟩
            case measure => simp [intOf]; omega
          · obtain rfl : k = m := by omega
            have hki : ¬ (k : Int) < (k : Int) := by omega
            have htk : (K.map E).take k = K.map E := List.take_of_length_le (by rw [List.length_map, ← HM.out.1]; exact Nat.le_refl _)
            rw [htk] at ho
            obtain ⟨va, vc, hv, hvc1, hvc2⟩ := ho.out.form
            rw [List.length_map, ← HM.out.1] at hv
            subst hv
            have b0 := Joins.cell_of_block k0 0
            have b1 := Joins.cell_of_block k0 1
            have b2 := Joins.cell_of_block k0 2
            have b3 := Joins.cell_of_block k0 3
            have b4 := Joins.cell_of_block k0 4
            have bu := Joins.unfrozen_of_block k0
            have o0 := Joins.cell_of_block k2 0
            have o1 := Joins.cell_of_block k2 1
            have o2 := Joins.cell_of_block k2 2
            have o3 := Joins.cell_of_block k2 3
            have o4 := Joins.cell_of_block k2 4
            have ou := Joins.unfrozen_of_block k2
            have hc2 : Fm.Cells (wr.setCell ⟨w.heap.size, 4, none⟩ (.slice va k vc)) (w.heap.size + 1 + 1) 0 (.mk 0 [] 0 0 []) (.slice none 0 0) := by
              have e : ∀ j, (wr.setCell ⟨w.heap.size, 4, none⟩ (.slice va k vc)).cell? ⟨w.heap.size + 1 + 1, j, none⟩ = wr.cell? ⟨w.heap.size + 1 + 1, j, none⟩ := fun j => World.cell?_of_block (w := wr) (Below.heap_setCell _ _ _ _ (by show w.heap.size + 1 + 1 ≠ w.heap.size; omega))
              exact ⟨(e 0).trans o0, (e 1).trans o1, (e 2).trans o2, (e 3).trans o3, (e 4).trans o4⟩
            have HC2 := Lib.hid (Fm.set5_cells (f := f) (u := .slice va k vc) hc2)
            clear hbase hblk k0 k1 k2 hc2 htk
            go_wp2_with fail
            clear b0 b1 b2 b3 b4 bu o0 o1 o2 o3 o4 ou
            refine bodyPost_ret (refexpand_results _ _ (w.heap.size + 1 + 1) f (.slice va k vc) rfl HC2.out) rfl ?_
            have hsB : w.heap.size ≤ w.heap.size + 1 + 1 := by omega
            have hb0 : Below w.heap.size w wr := HB3.out.1.trans (hbx.out.mono HB3.out.1.size)
            have hb1 := hb0.setCell (p := ⟨w.heap.size, 4, none⟩) (Nat.le_refl _) (.slice va k vc)
            refine ⟨⟨.slice va k vc, ?_, ?_⟩, ((((hb1.setCell (p := ⟨w.heap.size + 1 + 1, 0, none⟩) hsB _).setCell (p := ⟨w.heap.size + 1 + 1, 0 + 1, none⟩) hsB _).setCell (p := ⟨w.heap.size + 1 + 1, 0 + 2, none⟩) hsB _).setCell (p := ⟨w.heap.size + 1 + 1, 0 + 3, none⟩) hsB _).setCell (p := ⟨w.heap.size + 1 + 1, 0 + 4, none⟩) hsB _⟩
            · rw [HFE.out]; rfl
            · rw [HFE.out]
              refine Fm.at_iff.2 ⟨HSZ.out, ho.out.isK fun b hb hp => ⟨?_, ?_⟩⟩
              · have := HB3.out.2; simp; omega
              · have h3 := HB3.out.2
                exact (Fm.set5_other (by omega)).trans (Below.heap_setCell _ _ _ _ (by show b ≠ w.heap.size; omega))
end Go.Proofs.Ytjcaingfeaaakaa
