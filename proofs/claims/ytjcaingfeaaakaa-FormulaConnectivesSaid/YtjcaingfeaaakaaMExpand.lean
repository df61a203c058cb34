/-
  The walk of formula.Expand.
-/
import Derived.Test.YtjcaingfeaaakaaMCopied
import Derived.Test.YtjcaingfeaaakaaMTexts
namespace Go.Proofs.Ytjcaingfeaaakaa
open Go.RowKit

theorem expand_results (tmps : Array Value) (w : World) (g : Nat) (f : Fm.Fo) (u : Value) (hp : tmps.getD 6 undef = .pointer (some ⟨g, 0, none⟩)) (h : Fm.Cells w g 0 f u) :
    (results Try.f22 tmps).run Try.prog w = .ok (Fm.fv f u) w := by
  have hp' : tmps[6]?.getD undef = .pointer (some ⟨g, 0, none⟩) := by simpa using hp
  obtain ⟨h0, h1, h2, h3, h4⟩ := h
  simp only [Nat.zero_add] at h1 h2 h3 h4
  simp [results, Try.f22, hp', go_sem, h0, h1, h2, h3, h4]

namespace Fm
theorem expandL_map (x : T) (b : Fo) : ∀ ks, expandL x b ks = ks.map (expand x b)
  | [] => by rw [expandL]; rfl
  | k :: ks => by rw [expandL, List.map_cons, expandL_map x b ks]
end Fm

set_option maxHeartbeats 8000000 in
set_option maxRecDepth 100000 in
theorem expand_walk : ∀ (s : Nat) (f by_ : Fm.Fo) (u ub : Value) (x : Fm.T) (w : World), Fm.size f ≤ s → Fm.size f ≤ 1000000 → Fm.size by_ ≤ 1000000 → Fm.At w f u → Fm.At w by_ ub →
    Calls Try.prog 22 #[Fm.fv f u, .string (Lx.str x), Fm.fv by_ ub] w fun e w' => (∃ u', e = .returned (Fm.fv (Fm.expand x by_ f) u') ∧ Fm.AtNew w.heap.size w' (Fm.expand x by_ f) u') ∧ Below w.heap.size w w' := by
  intro s
  induction s with
  | zero => intro f by_ u ub x w hs; have := Fm.size_pos f; omega
  | succ s ih =>
    intro f by_ u ub x w hs hsm hsb hat hatb
    have hsz := Fm.size_eq f
    have hsize := hat.sized
    obtain ⟨ua, uc, hu, huc, _⟩ := hat.kidsAt.len
    obtain ⟨ba, bn, bc, hub⟩ : ∃ a n c, ub = .slice a n c := by obtain ⟨a, c, e, _⟩ := hatb.kidsAt.len; exact ⟨_, _, _, e⟩
    obtain ⟨K, hK⟩ : ∃ K, K = f.kids := ⟨_, rfl⟩
    obtain ⟨m, hm⟩ : ∃ m, m = K.length := ⟨_, rfl⟩
    rw [← hK] at hsz hu huc
    rw [← hm] at hu huc
    subst hu hub
    have hlen := Fm.len_sizeL K
    obtain ⟨W3, hW3⟩ : ∃ W3, W3 = ((w.alloc (.cells #[.int .i64 f.op, .string (Lx.str f.name), .int .i64 f.cmp, .int .i64 f.num, .slice ua m uc] 24)).alloc (.cells #[.int .i64 by_.op, .string (Lx.str by_.name), .int .i64 by_.cmp, .int .i64 by_.num, .slice ba bn bc] 24)).alloc (.cells #[.int .i64 0, .string ⟨#[]⟩, .int .i64 0, .int .i64 0, .slice none 0 0] 24) := ⟨_, rfl⟩
    have hb3 : Below w.heap.size w W3 := by rw [hW3]; exact (((Below.refl _ _).alloc (Nat.le_refl _) _).alloc (by simp) _).alloc (by simp; omega) _
    have k0 : W3.heap[w.heap.size]? = some (.cells #[.int .i64 f.op, .string (Lx.str f.name), .int .i64 f.cmp, .int .i64 f.num, .slice ua m uc] 24 (0, 0)) := by rw [hW3]; exact Fm.blkK (Fm.blkK (heap_alloc_new _ _))
    have k1 : W3.heap[w.heap.size + 1]? = some (.cells #[.int .i64 by_.op, .string (Lx.str by_.name), .int .i64 by_.cmp, .int .i64 by_.num, .slice ba bn bc] 24 (0, 0)) := by rw [hW3]; exact Fm.blkK (Fm.blk1 _ _ _)
    have k2 : W3.heap[w.heap.size + 1 + 1]? = some (.cells #[.int .i64 0, .string ⟨#[]⟩, .int .i64 0, .int .i64 0, .slice none 0 0] 24 (0, 0)) := by rw [hW3]; exact Fm.blk2 _ _ _ _
    have hz3 : W3.heap.size = w.heap.size + 3 := by rw [hW3]; simp
    have HCL := Lib.hid (fclone_walk (.slice ua m uc) K w W3 (by rw [hK]; exact hat.kidsAt) hb3 (by omega))
    have HCB := Lib.hid (copied_walk (Fm.size by_) by_ (.slice ba bn bc) W3 (Nat.le_refl _) hsb (hatb.below hb3))
    have HATB := Lib.hid hatb
    have HIH : Hid (∀ k ∈ K, ∀ v W, Below w.heap.size w W → Fm.At W k v → Calls Try.prog 22 #[Fm.fv k v, .string (Lx.str x), Fm.fv by_ (.slice ba bn bc)] W fun e w' => (∃ u', e = .returned (Fm.fv (Fm.expand x by_ k) u') ∧ Fm.AtNew W.heap.size w' (Fm.expand x by_ k) u') ∧ Below W.heap.size W w') := fun k hk v W hW hv => ih k by_ v _ x W (by have := Fm.size_mem hk; omega) (by have := Fm.size_mem hk; omega) hsb hv (hatb.below hW)
    have hx := Fm.str_eq f.name x
    have q0 := Joins.cell_of_block k0 0
    have q1 := Joins.cell_of_block k0 1
    have q4 := Joins.cell_of_block k0 4
    have HB3 := Lib.hid hb3
    have HK3 := Lib.hid (And.intro k0 (And.intro k1 k2))
    have HM := Lib.hid (And.intro hm hK)
    have HSZ := Lib.hid hsize
    have hmb : m ≤ 1000000 := by omega
    have HEX : Hid (Fm.expand x by_ f = if f.op = 4 ∧ f.name = x then by_ else .mk f.op f.name f.cmp f.num (K.map (Fm.expand x by_))) := by
      show _ = _
      rw [hK]
      obtain ⟨o, y, c, n, ks⟩ := f
      rw [Fm.expand, Fm.expandL_map]; rfl
    obtain ⟨E, hE⟩ : ∃ E : Fm.Fo → Fm.Fo, E = Fm.expand x by_ := ⟨_, rfl⟩
    obtain ⟨F, hF⟩ : ∃ F, F = Fm.expand x by_ f := ⟨_, rfl⟩
    rw [← hE] at HIH
    rw [← hF, ← hE] at HEX
    rw [← hF]
    obtain ⟨sx, hsx⟩ : ∃ s, s = Lx.str x := ⟨_, rfl⟩
    rw [← hsx] at hx HIH ⊢
    clear ih hs hsm hsb hat hatb hsz hb3 hm hK hsize hlen hE hF hsx
    by_cases hterm : f.op = 4 ∧ f.name = x
    · have hFb : F = by_ := by rw [HEX.out, if_pos hterm]
      subst hFb
      rw [decide_eq_true hterm.2] at hx
      have h4 : ((f.op == 4)) = true := by rw [beq_iff_eq]; exact hterm.1
      have b0 := Joins.cell_of_block k1 0
      have b1 := Joins.cell_of_block k1 1
      have b2 := Joins.cell_of_block k1 2
      have b3 := Joins.cell_of_block k1 3
      have b4 := Joins.cell_of_block k1 4
      clear HCL HATB HIH HEX hterm k0 k1 k2 q4
      go_enter Try.func22, Try.ntmps22
      go_wp2_with fail
      rw [← hW3]
      refine HCB.out.mono ?_
      rintro e w4 ⟨⟨u5, rfl, hn5⟩, hb4⟩
      obtain ⟨za, zc, hz5, _, _⟩ := Fm.At.kidsAt hn5 |>.len
      obtain ⟨zn, hzn⟩ : ∃ n, n = F.kids.length := ⟨_, rfl⟩
      rw [← hzn] at hz5
      clear hzn
      subst hz5
      have k2 := (hb4.block _ (Array.getElem?_eq_some_iff.1 HK3.out.2.2).1).trans HK3.out.2.2
      have HN := Lib.hid (And.intro hn5 (HB3.out.trans (hb4.mono HB3.out.size)))
      have hc2 : Fm.Cells w4 (w.heap.size + 1 + 1) 0 (.mk 0 [] 0 0 []) (.slice none 0 0) := ⟨Joins.cell_of_block k2 0, Joins.cell_of_block k2 1, Joins.cell_of_block k2 2, Joins.cell_of_block k2 3, Joins.cell_of_block k2 4⟩
      have o0 := Joins.cell_of_block k2 0
      have o1 := Joins.cell_of_block k2 1
      have o2 := Joins.cell_of_block k2 2
      have o3 := Joins.cell_of_block k2 3
      have o4 := Joins.cell_of_block k2 4
      have ou := Joins.unfrozen_of_block k2
      have HC2 := Lib.hid (Fm.set5_cells (f := F) (u := .slice za zn zc) hc2)
      clear b0 b1 b2 b3 b4 q0 q1 hW3 hn5 hb4 hc2 k2 HCB
      go_wp2_with fail
      clear o0 o1 o2 o3 o4 ou
      refine bodyPost_ret (expand_results _ _ (w.heap.size + 1 + 1) F (.slice za zn zc) rfl HC2.out) rfl ?_
      have hsB : w.heap.size ≤ w.heap.size + 1 + 1 := by omega
      refine ⟨⟨_, rfl, Fm.At.era HN.out.1 fun k hk hp => ⟨?_, Fm.set5_other ?_⟩⟩, ((((HN.out.2.setCell (p := ⟨w.heap.size + 1 + 1, 0, none⟩) hsB _).setCell (p := ⟨w.heap.size + 1 + 1, 0 + 1, none⟩) hsB _).setCell (p := ⟨w.heap.size + 1 + 1, 0 + 2, none⟩) hsB _).setCell (p := ⟨w.heap.size + 1 + 1, 0 + 3, none⟩) hsB _).setCell (p := ⟨w.heap.size + 1 + 1, 0 + 4, none⟩) hsB _⟩
      · simp at hp ⊢; omega
      · simp at hp; omega
    · have hF : F = .mk f.op f.name f.cmp f.num (K.map E) := by rw [HEX.out, if_neg hterm]
      have HFE := Lib.hid hF
      clear hF HEX HCB
      have hcond : ((f.op == 4)) = false ∨ (f.op = 4 ∧ ((Lx.str f.name).toList == sx.toList) = false) := by
        by_cases h4 : f.op = 4
        · right; exact ⟨h4, by rw [hx, decide_eq_false_iff_not]; exact fun h => hterm ⟨h4, h⟩⟩
        · left; rw [beq_eq_false_iff_ne]; exact h4
      clear hx
      have HCOND := Lib.hid hcond
      clear hcond hterm
      rcases HCOND.out with h4 | ⟨h4, hnm⟩
      · clear HCOND
        go_enter Try.func22, Try.ntmps22
        go_upto_region 3 with fail
        rw [← hW3]
        clear q0 q1 hW3
        go_wp2_with fail
        refine HCL.out.mono ?_
        rintro e w4 ⟨⟨v, rfl, hcl⟩, hb4⟩
        clear q4 HCL
        have k0 := (hb4.block _ (Array.getElem?_eq_some_iff.1 HK3.out.1).1).trans HK3.out.1
        have k1 := (hb4.block _ (Array.getElem?_eq_some_iff.1 HK3.out.2.1).1).trans HK3.out.2.1
        have k2 := (hb4.block _ (Array.getElem?_eq_some_iff.1 HK3.out.2.2).1).trans HK3.out.2.2
        have q4 := Joins.cell_of_block k0 4
        have u4 := Joins.unfrozen_of_block k0 4
        obtain ⟨va, vn, vc, hv⟩ : ∃ a n c, v = .slice a n c := by
          rcases hcl with ⟨_, a, c, h, _⟩ | ⟨_, g, c, _, h, _⟩
          · exact ⟨_, _, _, h⟩
          · exact ⟨_, _, _, h⟩
        subst hv
        have hvn : vn = m := by
          rcases hcl with ⟨h0, a, c, h, _⟩ | ⟨_, g, c, _, h, _⟩
          · cases h; rw [HM.out.1, h0]; rfl
          · cases h; exact HM.out.1.symm
        subst hvn
        have hs0 : Fm.KSt w f (.slice va vn vc) E K va w.heap.size (w.heap.size + 1 + 1) 0 (w4.setCell ⟨w.heap.size, 4, none⟩ (.slice va vn vc)) := by
          have h1 := HM.out.1
          rw [h1] at hcl ⊢
          exact Fm.KSt.start hcl (by omega) (by omega) (Nat.le_refl _) k0 k2 (HB3.out.trans (hb4.mono HB3.out.size))
        have hby : (w4.setCell ⟨w.heap.size, 4, none⟩ (.slice va vn vc)).heap[w.heap.size + 1]? = some (.cells #[.int .i64 by_.op, .string (Lx.str by_.name), .int .i64 by_.cmp, .int .i64 by_.num, .slice ba bn bc] 24 (0, 0)) := (Below.heap_setCell _ _ _ _ (by show w.heap.size + 1 ≠ w.heap.size; omega)).trans k1
        have hvc : vn ≤ vc ∧ vc ≤ 9223372036854775807 := by
          rcases hcl with ⟨h0, a, c, h, hc⟩ | ⟨_, g, c, _, h, h1, h2, _⟩
          · cases h; have := HM.out.1; rw [h0] at this; exact ⟨by simp at this; omega, hc⟩
          · cases h; exact ⟨h1, h2⟩
        have HS0 := Lib.hid (And.intro hs0 hby)
        have q5 : (w4.setCell ⟨w.heap.size, 4, none⟩ (.slice va vn vc)).cell? ⟨w.heap.size, 4, none⟩ = some (.slice va vn vc) := Joins.cell_of_block hs0.box 4
        clear hb4 k0 k1 k2 hcl hs0 hby
        go_wp2_with fail
        clear q4 u4 q5
        go_loopw [27] (fun i wr => ∃ k : Nat, k ≤ vn ∧ i = .int .i64 k ∧ Hid (Fm.KSt w f (.slice va vn vc) E K va w.heap.size (w.heap.size + 1 + 1) k wr ∧ wr.heap[w.heap.size + 1]? = some (.cells #[.int .i64 by_.op, .string (Lx.str by_.name), .int .i64 by_.cmp, .int .i64 by_.num, .slice ba bn bc] 24 (0, 0)))) (fun i _ => vn - (intOf i).toNat)
        case atStart => exact ⟨0, Nat.zero_le _, rfl, HS0⟩
        case round =>
          obtain ⟨k, hk, rfl, hst⟩ := hrel
          clear HS0
          by_cases hlt : k < vn
          · have hki : (k : Int) < (vn : Int) := by omega
            have hk0 : (0 : Int) ≤ (k : Int) := by omega
            obtain ⟨y, hy⟩ : ∃ y, K[k]? = some y := ⟨_, List.getElem?_eq_getElem (by rw [← HM.out.1]; exact hlt)⟩
            obtain ⟨g, rfl, hg, hrow⟩ := hst.out.1.row (by rintro rfl; simp at hy)
            obtain ⟨uy, ⟨p0, p1, p2, p3, p4⟩, hay⟩ := (hrow.2 k y hy).2 (Nat.le_refl _)
            obtain ⟨xa, xn, xc, hux⟩ : ∃ a n c, uy = .slice a n c := by obtain ⟨a, c, e, _⟩ := hay.kidsAt.len; exact ⟨_, _, _, e⟩
            subst hux
            have hgl : g < wr.heap.size := block_lt_of_cell p0
            obtain ⟨Wb, hWb⟩ : ∃ Wb, Wb = wr.alloc (.cells #[.int .i64 y.op, .string (Lx.str y.name), .int .i64 y.cmp, .int .i64 y.num, .slice xa xn xc] 24) := ⟨_, rfl⟩
            have hbW : Below wr.heap.size wr Wb := by rw [hWb]; exact (Below.refl _ _).alloc (Nat.le_refl _) _
            have hstW := hst.out.1.next hbW
            have hbyW := (hbW.block _ (Array.getElem?_eq_some_iff.1 hst.out.2).1).trans hst.out.2
            have kx : Wb.heap[wr.heap.size]? = some (.cells #[.int .i64 y.op, .string (Lx.str y.name), .int .i64 y.cmp, .int .i64 y.num, .slice xa xn xc] 24 (0, 0)) := by rw [hWb]; exact heap_alloc_new _ _
            have hxl := (Array.getElem?_eq_some_iff.1 kx).1
            have hel : w.heap.size < Wb.heap.size := (Array.getElem?_eq_some_iff.1 hstW.box).1
            have hbl : w.heap.size + 1 < Wb.heap.size := (Array.getElem?_eq_some_iff.1 hbyW).1
            have hgW : g < Wb.heap.size := Nat.lt_of_lt_of_le hgl hbW.size
            have hge : w.heap.size ≠ g := by omega
            have hbg : w.heap.size + 1 ≠ g := by omega
            have hxg : wr.heap.size ≠ g := by omega
            have e0 : ∀ w', Fm.Off g Wb w' → w'.cell? ⟨w.heap.size, 4, none⟩ = some (.slice (some ⟨g, 0, none⟩) vn vc) := fun w' h => h.cell hel hge (Joins.cell_of_block hstW.box 4)
            have y0 : ∀ w', Fm.Off g Wb w' → w'.cell? ⟨w.heap.size + 1, 0, none⟩ = some (.int .i64 by_.op) := fun w' h => h.cell hbl hbg (Joins.cell_of_block hbyW 0)
            have y1 : ∀ w', Fm.Off g Wb w' → w'.cell? ⟨w.heap.size + 1, 1, none⟩ = some (.string (Lx.str by_.name)) := fun w' h => h.cell hbl hbg (Joins.cell_of_block hbyW 1)
            have y2 : ∀ w', Fm.Off g Wb w' → w'.cell? ⟨w.heap.size + 1, 2, none⟩ = some (.int .i64 by_.cmp) := fun w' h => h.cell hbl hbg (Joins.cell_of_block hbyW 2)
            have y3 : ∀ w', Fm.Off g Wb w' → w'.cell? ⟨w.heap.size + 1, 3, none⟩ = some (.int .i64 by_.num) := fun w' h => h.cell hbl hbg (Joins.cell_of_block hbyW 3)
            have y4 : ∀ w', Fm.Off g Wb w' → w'.cell? ⟨w.heap.size + 1, 4, none⟩ = some (.slice ba bn bc) := fun w' h => h.cell hbl hbg (Joins.cell_of_block hbyW 4)
            have x0 : ∀ w', Fm.Off g Wb w' → w'.cell? ⟨wr.heap.size, 0, none⟩ = some (.int .i64 y.op) := fun w' h => h.cell hxl hxg (Joins.cell_of_block kx 0)
            have x1 : ∀ w', Fm.Off g Wb w' → w'.cell? ⟨wr.heap.size, 1, none⟩ = some (.string (Lx.str y.name)) := fun w' h => h.cell hxl hxg (Joins.cell_of_block kx 1)
            have x2 : ∀ w', Fm.Off g Wb w' → w'.cell? ⟨wr.heap.size, 2, none⟩ = some (.int .i64 y.cmp) := fun w' h => h.cell hxl hxg (Joins.cell_of_block kx 2)
            have x3 : ∀ w', Fm.Off g Wb w' → w'.cell? ⟨wr.heap.size, 3, none⟩ = some (.int .i64 y.num) := fun w' h => h.cell hxl hxg (Joins.cell_of_block kx 3)
            have x4 : ∀ w', Fm.Off g Wb w' → w'.cell? ⟨wr.heap.size, 4, none⟩ = some (.slice xa xn xc) := fun w' h => h.cell hxl hxg (Joins.cell_of_block kx 4)
            have HA : Hid (Calls Try.prog 22 #[Fm.fv y (.slice xa xn xc), .string sx, Fm.fv by_ (.slice ba bn bc)] Wb.drew fun e w' => (∃ u', e = .returned (Fm.fv (E y) u') ∧ Fm.AtNew Wb.drew.heap.size w' (E y) u') ∧ Below Wb.drew.heap.size Wb.drew w') := HIH.out y (List.mem_of_getElem? hy) (.slice xa xn xc) Wb.drew hstW.below.drew (hay.below (hstW.below.drew))
            obtain ⟨z, hz⟩ : ∃ z, z = E y := ⟨_, rfl⟩
            rw [← hz] at HA
            have HF : Hid (∀ w5, Below Wb.heap.size Wb w5 → (w5.cell? ⟨g, k * 5, none⟩ = some (.int .i64 y.op) ∧ w5.cell? ⟨g, k * 5 + 1, none⟩ = some (.string (Lx.str y.name)) ∧ w5.cell? ⟨g, k * 5 + 2, none⟩ = some (.int .i64 y.cmp) ∧ w5.cell? ⟨g, k * 5 + 3, none⟩ = some (.int .i64 y.num) ∧ w5.cell? ⟨g, k * 5 + 4, none⟩ = some (.slice xa xn xc)) ∧ ∀ r, w5.frozen? ⟨g, r, none⟩ = false) := fun w5 h5 => by
              obtain ⟨cs, hcs⟩ := hrow.1
              have hb5 := hbW.trans (h5.mono hbW.size)
              have hg5 := hb5.block g hgl
              have e : ∀ j, w5.cell? ⟨g, j, none⟩ = wr.cell? ⟨g, j, none⟩ := fun j => World.cell?_of_block (w := wr) hg5
              exact ⟨⟨(e _).trans p0, (e _).trans p1, (e _).trans p2, (e _).trans p3, (e _).trans p4⟩, fun r => Joins.unfrozen_of_block (hg5.trans hcs) r⟩
            have HSTW := Lib.hid (And.intro hstW hbyW)
            have HY := Lib.hid (And.intro hy hz)
            clear hy hrow hay hstW kx hbW hbyW hz
            go_wp2_with fail
            rw [← hWb]
            clear p0 p1 p2 p3 p4 hWb
            go_region_held3 (fun w' => Fm.Off g Wb w') (first | exact Fm.Off.drew g Wb | exact Fm.Off.step (by with_reducible assumption) (by with_reducible assumption) | (repeat' (refine Fm.Off.set _ ?_)); with_reducible assumption)
              (first
                | (go_at_call 22; (with_reducible refine HA.out.mono ?_); rintro e w5 ⟨⟨u5, rfl, hn5⟩, hb5⟩; obtain ⟨za, zc, hz5, _, _⟩ := Fm.At.kidsAt hn5 |>.len; obtain ⟨zn, hzn⟩ : ∃ n, n = z.kids.length := ⟨_, rfl⟩; rw [← hzn] at hz5; clear hzn; subst hz5; obtain ⟨⟨c0, c1, c2, c3, c4⟩, cu⟩ := HF.out w5 ((Below.refl _ _).drew.trans hb5)))
            have hst5 : Fm.KSt w f (.slice (some ⟨g, 0, none⟩) vn vc) E K (some ⟨g, 0, none⟩) w.heap.size (w.heap.size + 1 + 1) (k + 1) (Fm.set5 w5 g (k * 5) z (.slice za zn zc)) := by
              have := HY.out.2
              subst this
              exact HSTW.out.1.store HY.out.1 ((Below.refl _ _).drew.trans hb5) (by omega) (by omega) hn5
            have hby5 : (Fm.set5 w5 g (k * 5) z (.slice za zn zc)).heap[w.heap.size + 1]? = some (.cells #[.int .i64 by_.op, .string (Lx.str by_.name), .int .i64 by_.cmp, .int .i64 by_.num, .slice ba bn bc] 24 (0, 0)) := (Fm.set5_other hbg).trans ((((Below.refl _ _).drew.trans hb5).block _ hbl).trans HSTW.out.2)
            obtain ⟨W6, hW6⟩ : ∃ W6, W6 = Fm.set5 w5 g (k * 5) z (.slice za zn zc) := ⟨_, rfl⟩
            have HS6 : Hid (Fm.KSt w f (.slice (some ⟨g, 0, none⟩) vn vc) E K (some ⟨g, 0, none⟩) w.heap.size (w.heap.size + 1 + 1) (k + 1) W6 ∧ W6.heap[w.heap.size + 1]? = some (.cells #[.int .i64 by_.op, .string (Lx.str by_.name), .int .i64 by_.cmp, .int .i64 by_.num, .slice ba bn bc] 24 (0, 0))) := by rw [hW6]; exact ⟨hst5, hby5⟩
            have hW6' : (((((w5.setCell ⟨g, k * 5, none⟩ (.int .i64 z.op)).setCell ⟨g, k * 5 + 1, none⟩ (.string (Lx.str z.name))).setCell ⟨g, k * 5 + 2, none⟩ (.int .i64 z.cmp)).setCell ⟨g, k * 5 + 3, none⟩ (.int .i64 z.num)).setCell ⟨g, k * 5 + 4, none⟩ (.slice za zn zc)) = W6 := hW6.symm
            rw [hW6']
            clear hW6 hW6' hst5 hby5 hn5 hb5 HA HF HSTW HY e0 x0 x1 x2 x3 x4 y0 y1 y2 y3 y4 c0 c1 c2 c3 c4 cu hst
            go_wp2_with fail
            go_roundw
            case rel => exact ⟨k + 1, by omega, by go_num, HS6⟩
            case measure => simp [intOf]; omega
          · obtain rfl : k = vn := by omega
            have hki : ¬ (k : Int) < (k : Int) := by omega
            have hwz : w.heap.size ≤ w.heap.size + 1 + 1 := by omega
            have hd := hst.out.1
            have hbx := hst.out.1.box
            have hou := hst.out.1.out
            rw [HM.out.1] at hd
            have HDN := Lib.hid (hd.done hwz HSZ.out (by rw [← HM.out.1]; exact hvc.1) hvc.2)
            rw [← HM.out.1] at HDN
            have b0 := Joins.cell_of_block hbx 0
            have b1 := Joins.cell_of_block hbx 1
            have b2 := Joins.cell_of_block hbx 2
            have b3 := Joins.cell_of_block hbx 3
            have b4 := Joins.cell_of_block hbx 4
            have o0 := Joins.cell_of_block hou 0
            have o1 := Joins.cell_of_block hou 1
            have o2 := Joins.cell_of_block hou 2
            have o3 := Joins.cell_of_block hou 3
            have o4 := Joins.cell_of_block hou 4
            have ou := Joins.unfrozen_of_block hou
            clear hd hst hbx hou
            go_wp2_with fail
            clear b0 b1 b2 b3 b4 o0 o1 o2 o3 o4 ou
            refine bodyPost_ret (expand_results _ _ (w.heap.size + 1 + 1) f (.slice va k vc) rfl HDN.out.2.1) rfl ?_
            refine ⟨⟨.slice va k vc, ?_, ?_⟩, HDN.out.2.2⟩
            · rw [HFE.out]; rfl
            · rw [HFE.out]; exact HDN.out.1
      · have h4' : ((f.op == 4)) = true := by rw [beq_iff_eq]; exact h4
        clear HCOND h4
        go_enter Try.func22, Try.ntmps22
        go_upto_region 3 with fail
        rw [← hW3]
        clear q0 q1 hW3
        go_wp2_with fail
        refine HCL.out.mono ?_
        rintro e w4 ⟨⟨v, rfl, hcl⟩, hb4⟩
        clear q4 HCL
        have k0 := (hb4.block _ (Array.getElem?_eq_some_iff.1 HK3.out.1).1).trans HK3.out.1
        have k1 := (hb4.block _ (Array.getElem?_eq_some_iff.1 HK3.out.2.1).1).trans HK3.out.2.1
        have k2 := (hb4.block _ (Array.getElem?_eq_some_iff.1 HK3.out.2.2).1).trans HK3.out.2.2
        have q4 := Joins.cell_of_block k0 4
        have u4 := Joins.unfrozen_of_block k0 4
        obtain ⟨va, vn, vc, hv⟩ : ∃ a n c, v = .slice a n c := by
          rcases hcl with ⟨_, a, c, h, _⟩ | ⟨_, g, c, _, h, _⟩
          · exact ⟨_, _, _, h⟩
          · exact ⟨_, _, _, h⟩
        subst hv
        have hvn : vn = m := by
          rcases hcl with ⟨h0, a, c, h, _⟩ | ⟨_, g, c, _, h, _⟩
          · cases h; rw [HM.out.1, h0]; rfl
          · cases h; exact HM.out.1.symm
        subst hvn
        have hs0 : Fm.KSt w f (.slice va vn vc) E K va w.heap.size (w.heap.size + 1 + 1) 0 (w4.setCell ⟨w.heap.size, 4, none⟩ (.slice va vn vc)) := by
          have h1 := HM.out.1
          rw [h1] at hcl ⊢
          exact Fm.KSt.start hcl (by omega) (by omega) (Nat.le_refl _) k0 k2 (HB3.out.trans (hb4.mono HB3.out.size))
        have hby : (w4.setCell ⟨w.heap.size, 4, none⟩ (.slice va vn vc)).heap[w.heap.size + 1]? = some (.cells #[.int .i64 by_.op, .string (Lx.str by_.name), .int .i64 by_.cmp, .int .i64 by_.num, .slice ba bn bc] 24 (0, 0)) := (Below.heap_setCell _ _ _ _ (by show w.heap.size + 1 ≠ w.heap.size; omega)).trans k1
        have hvc : vn ≤ vc ∧ vc ≤ 9223372036854775807 := by
          rcases hcl with ⟨h0, a, c, h, hc⟩ | ⟨_, g, c, _, h, h1, h2, _⟩
          · cases h; have := HM.out.1; rw [h0] at this; exact ⟨by simp at this; omega, hc⟩
          · cases h; exact ⟨h1, h2⟩
        have HS0 := Lib.hid (And.intro hs0 hby)
        have q5 : (w4.setCell ⟨w.heap.size, 4, none⟩ (.slice va vn vc)).cell? ⟨w.heap.size, 4, none⟩ = some (.slice va vn vc) := Joins.cell_of_block hs0.box 4
        clear hb4 k0 k1 k2 hcl hs0 hby
        go_wp2_with fail
        clear q4 u4 q5
        go_loopw [27] (fun i wr => ∃ k : Nat, k ≤ vn ∧ i = .int .i64 k ∧ Hid (Fm.KSt w f (.slice va vn vc) E K va w.heap.size (w.heap.size + 1 + 1) k wr ∧ wr.heap[w.heap.size + 1]? = some (.cells #[.int .i64 by_.op, .string (Lx.str by_.name), .int .i64 by_.cmp, .int .i64 by_.num, .slice ba bn bc] 24 (0, 0)))) (fun i _ => vn - (intOf i).toNat)
        case atStart => exact ⟨0, Nat.zero_le _, rfl, HS0⟩
        case round =>
          obtain ⟨k, hk, rfl, hst⟩ := hrel
          clear HS0
          by_cases hlt : k < vn
          · have hki : (k : Int) < (vn : Int) := by omega
            have hk0 : (0 : Int) ≤ (k : Int) := by omega
            obtain ⟨y, hy⟩ : ∃ y, K[k]? = some y := ⟨_, List.getElem?_eq_getElem (by rw [← HM.out.1]; exact hlt)⟩
            obtain ⟨g, rfl, hg, hrow⟩ := hst.out.1.row (by rintro rfl; simp at hy)
            obtain ⟨uy, ⟨p0, p1, p2, p3, p4⟩, hay⟩ := (hrow.2 k y hy).2 (Nat.le_refl _)
            obtain ⟨xa, xn, xc, hux⟩ : ∃ a n c, uy = .slice a n c := by obtain ⟨a, c, e, _⟩ := hay.kidsAt.len; exact ⟨_, _, _, e⟩
            subst hux
            have hgl : g < wr.heap.size := block_lt_of_cell p0
            obtain ⟨Wb, hWb⟩ : ∃ Wb, Wb = wr.alloc (.cells #[.int .i64 y.op, .string (Lx.str y.name), .int .i64 y.cmp, .int .i64 y.num, .slice xa xn xc] 24) := ⟨_, rfl⟩
            have hbW : Below wr.heap.size wr Wb := by rw [hWb]; exact (Below.refl _ _).alloc (Nat.le_refl _) _
            have hstW := hst.out.1.next hbW
            have hbyW := (hbW.block _ (Array.getElem?_eq_some_iff.1 hst.out.2).1).trans hst.out.2
            have kx : Wb.heap[wr.heap.size]? = some (.cells #[.int .i64 y.op, .string (Lx.str y.name), .int .i64 y.cmp, .int .i64 y.num, .slice xa xn xc] 24 (0, 0)) := by rw [hWb]; exact heap_alloc_new _ _
            have hxl := (Array.getElem?_eq_some_iff.1 kx).1
            have hel : w.heap.size < Wb.heap.size := (Array.getElem?_eq_some_iff.1 hstW.box).1
            have hbl : w.heap.size + 1 < Wb.heap.size := (Array.getElem?_eq_some_iff.1 hbyW).1
            have hgW : g < Wb.heap.size := Nat.lt_of_lt_of_le hgl hbW.size
            have hge : w.heap.size ≠ g := by omega
            have hbg : w.heap.size + 1 ≠ g := by omega
            have hxg : wr.heap.size ≠ g := by omega
            have e0 : ∀ w', Fm.Off g Wb w' → w'.cell? ⟨w.heap.size, 4, none⟩ = some (.slice (some ⟨g, 0, none⟩) vn vc) := fun w' h => h.cell hel hge (Joins.cell_of_block hstW.box 4)
            have y0 : ∀ w', Fm.Off g Wb w' → w'.cell? ⟨w.heap.size + 1, 0, none⟩ = some (.int .i64 by_.op) := fun w' h => h.cell hbl hbg (Joins.cell_of_block hbyW 0)
            have y1 : ∀ w', Fm.Off g Wb w' → w'.cell? ⟨w.heap.size + 1, 1, none⟩ = some (.string (Lx.str by_.name)) := fun w' h => h.cell hbl hbg (Joins.cell_of_block hbyW 1)
            have y2 : ∀ w', Fm.Off g Wb w' → w'.cell? ⟨w.heap.size + 1, 2, none⟩ = some (.int .i64 by_.cmp) := fun w' h => h.cell hbl hbg (Joins.cell_of_block hbyW 2)
            have y3 : ∀ w', Fm.Off g Wb w' → w'.cell? ⟨w.heap.size + 1, 3, none⟩ = some (.int .i64 by_.num) := fun w' h => h.cell hbl hbg (Joins.cell_of_block hbyW 3)
            have y4 : ∀ w', Fm.Off g Wb w' → w'.cell? ⟨w.heap.size + 1, 4, none⟩ = some (.slice ba bn bc) := fun w' h => h.cell hbl hbg (Joins.cell_of_block hbyW 4)
            have x0 : ∀ w', Fm.Off g Wb w' → w'.cell? ⟨wr.heap.size, 0, none⟩ = some (.int .i64 y.op) := fun w' h => h.cell hxl hxg (Joins.cell_of_block kx 0)
            have x1 : ∀ w', Fm.Off g Wb w' → w'.cell? ⟨wr.heap.size, 1, none⟩ = some (.string (Lx.str y.name)) := fun w' h => h.cell hxl hxg (Joins.cell_of_block kx 1)
            have x2 : ∀ w', Fm.Off g Wb w' → w'.cell? ⟨wr.heap.size, 2, none⟩ = some (.int .i64 y.cmp) := fun w' h => h.cell hxl hxg (Joins.cell_of_block kx 2)
            have x3 : ∀ w', Fm.Off g Wb w' → w'.cell? ⟨wr.heap.size, 3, none⟩ = some (.int .i64 y.num) := fun w' h => h.cell hxl hxg (Joins.cell_of_block kx 3)
            have x4 : ∀ w', Fm.Off g Wb w' → w'.cell? ⟨wr.heap.size, 4, none⟩ = some (.slice xa xn xc) := fun w' h => h.cell hxl hxg (Joins.cell_of_block kx 4)
            have HA : Hid (Calls Try.prog 22 #[Fm.fv y (.slice xa xn xc), .string sx, Fm.fv by_ (.slice ba bn bc)] Wb.drew fun e w' => (∃ u', e = .returned (Fm.fv (E y) u') ∧ Fm.AtNew Wb.drew.heap.size w' (E y) u') ∧ Below Wb.drew.heap.size Wb.drew w') := HIH.out y (List.mem_of_getElem? hy) (.slice xa xn xc) Wb.drew hstW.below.drew (hay.below (hstW.below.drew))
            obtain ⟨z, hz⟩ : ∃ z, z = E y := ⟨_, rfl⟩
            rw [← hz] at HA
            have HF : Hid (∀ w5, Below Wb.heap.size Wb w5 → (w5.cell? ⟨g, k * 5, none⟩ = some (.int .i64 y.op) ∧ w5.cell? ⟨g, k * 5 + 1, none⟩ = some (.string (Lx.str y.name)) ∧ w5.cell? ⟨g, k * 5 + 2, none⟩ = some (.int .i64 y.cmp) ∧ w5.cell? ⟨g, k * 5 + 3, none⟩ = some (.int .i64 y.num) ∧ w5.cell? ⟨g, k * 5 + 4, none⟩ = some (.slice xa xn xc)) ∧ ∀ r, w5.frozen? ⟨g, r, none⟩ = false) := fun w5 h5 => by
              obtain ⟨cs, hcs⟩ := hrow.1
              have hb5 := hbW.trans (h5.mono hbW.size)
              have hg5 := hb5.block g hgl
              have e : ∀ j, w5.cell? ⟨g, j, none⟩ = wr.cell? ⟨g, j, none⟩ := fun j => World.cell?_of_block (w := wr) hg5
              exact ⟨⟨(e _).trans p0, (e _).trans p1, (e _).trans p2, (e _).trans p3, (e _).trans p4⟩, fun r => Joins.unfrozen_of_block (hg5.trans hcs) r⟩
            have HSTW := Lib.hid (And.intro hstW hbyW)
            have HY := Lib.hid (And.intro hy hz)
            clear hy hrow hay hstW kx hbW hbyW hz
            go_wp2_with fail
            rw [← hWb]
            clear p0 p1 p2 p3 p4 hWb
            go_region_held3 (fun w' => Fm.Off g Wb w') (first | exact Fm.Off.drew g Wb | exact Fm.Off.step (by with_reducible assumption) (by with_reducible assumption) | (repeat' (refine Fm.Off.set _ ?_)); with_reducible assumption)
              (first
                | (go_at_call 22; (with_reducible refine HA.out.mono ?_); rintro e w5 ⟨⟨u5, rfl, hn5⟩, hb5⟩; obtain ⟨za, zc, hz5, _, _⟩ := Fm.At.kidsAt hn5 |>.len; obtain ⟨zn, hzn⟩ : ∃ n, n = z.kids.length := ⟨_, rfl⟩; rw [← hzn] at hz5; clear hzn; subst hz5; obtain ⟨⟨c0, c1, c2, c3, c4⟩, cu⟩ := HF.out w5 ((Below.refl _ _).drew.trans hb5)))
            have hst5 : Fm.KSt w f (.slice (some ⟨g, 0, none⟩) vn vc) E K (some ⟨g, 0, none⟩) w.heap.size (w.heap.size + 1 + 1) (k + 1) (Fm.set5 w5 g (k * 5) z (.slice za zn zc)) := by
              have := HY.out.2
              subst this
              exact HSTW.out.1.store HY.out.1 ((Below.refl _ _).drew.trans hb5) (by omega) (by omega) hn5
            have hby5 : (Fm.set5 w5 g (k * 5) z (.slice za zn zc)).heap[w.heap.size + 1]? = some (.cells #[.int .i64 by_.op, .string (Lx.str by_.name), .int .i64 by_.cmp, .int .i64 by_.num, .slice ba bn bc] 24 (0, 0)) := (Fm.set5_other hbg).trans ((((Below.refl _ _).drew.trans hb5).block _ hbl).trans HSTW.out.2)
            obtain ⟨W6, hW6⟩ : ∃ W6, W6 = Fm.set5 w5 g (k * 5) z (.slice za zn zc) := ⟨_, rfl⟩
            have HS6 : Hid (Fm.KSt w f (.slice (some ⟨g, 0, none⟩) vn vc) E K (some ⟨g, 0, none⟩) w.heap.size (w.heap.size + 1 + 1) (k + 1) W6 ∧ W6.heap[w.heap.size + 1]? = some (.cells #[.int .i64 by_.op, .string (Lx.str by_.name), .int .i64 by_.cmp, .int .i64 by_.num, .slice ba bn bc] 24 (0, 0))) := by rw [hW6]; exact ⟨hst5, hby5⟩
            have hW6' : (((((w5.setCell ⟨g, k * 5, none⟩ (.int .i64 z.op)).setCell ⟨g, k * 5 + 1, none⟩ (.string (Lx.str z.name))).setCell ⟨g, k * 5 + 2, none⟩ (.int .i64 z.cmp)).setCell ⟨g, k * 5 + 3, none⟩ (.int .i64 z.num)).setCell ⟨g, k * 5 + 4, none⟩ (.slice za zn zc)) = W6 := hW6.symm
            rw [hW6']
            clear hW6 hW6' hst5 hby5 hn5 hb5 HA HF HSTW HY e0 x0 x1 x2 x3 x4 y0 y1 y2 y3 y4 c0 c1 c2 c3 c4 cu hst
            go_wp2_with fail
            go_roundw
            case rel => exact ⟨k + 1, by omega, by go_num, HS6⟩
            case measure => simp [intOf]; omega
          · obtain rfl : k = vn := by omega
            have hki : ¬ (k : Int) < (k : Int) := by omega
            have hwz : w.heap.size ≤ w.heap.size + 1 + 1 := by omega
            have hd := hst.out.1
            have hbx := hst.out.1.box
            have hou := hst.out.1.out
            rw [HM.out.1] at hd
            have HDN := Lib.hid (hd.done hwz HSZ.out (by rw [← HM.out.1]; exact hvc.1) hvc.2)
            rw [← HM.out.1] at HDN
            have b0 := Joins.cell_of_block hbx 0
            have b1 := Joins.cell_of_block hbx 1
            have b2 := Joins.cell_of_block hbx 2
            have b3 := Joins.cell_of_block hbx 3
            have b4 := Joins.cell_of_block hbx 4
            have o0 := Joins.cell_of_block hou 0
            have o1 := Joins.cell_of_block hou 1
            have o2 := Joins.cell_of_block hou 2
            have o3 := Joins.cell_of_block hou 3
            have o4 := Joins.cell_of_block hou 4
            have ou := Joins.unfrozen_of_block hou
            clear hd hst hbx hou
            go_wp2_with fail
            clear b0 b1 b2 b3 b4 o0 o1 o2 o3 o4 ou
            refine bodyPost_ret (expand_results _ _ (w.heap.size + 1 + 1) f (.slice va k vc) rfl HDN.out.2.1) rfl ?_
            refine ⟨⟨.slice va k vc, ?_, ?_⟩, HDN.out.2.2⟩
            · rw [HFE.out]; rfl
            · rw [HFE.out]; exact HDN.out.1
end Go.Proofs.Ytjcaingfeaaakaa
