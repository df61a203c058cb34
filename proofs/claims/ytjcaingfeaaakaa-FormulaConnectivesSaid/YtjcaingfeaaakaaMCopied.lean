/-
  The walk of formula.copied.
-/
import Derived.Test.YtjcaingfeaaakaaMBuild
namespace Go.Proofs.Ytjcaingfeaaakaa
open Go.RowKit

theorem copied_results (tmps : Array Value) (w : World) (g : Nat) (f : Fm.Fo) (u : Value) (hp : tmps.getD 2 undef = .pointer (some ⟨g, 0, none⟩)) (h : Fm.Cells w g 0 f u) :
    (results Try.f44 tmps).run Try.prog w = .ok (Fm.fv f u) w := by
  have hp' : tmps[2]?.getD undef = .pointer (some ⟨g, 0, none⟩) := by simpa using hp
  obtain ⟨h0, h1, h2, h3, h4⟩ := h
  simp only [Nat.zero_add] at h1 h2 h3 h4
  simp [results, Try.f44, hp', go_sem, h0, h1, h2, h3, h4]

set_option maxHeartbeats 8000000 in
set_option maxRecDepth 100000 in
theorem copied_walk : ∀ (s : Nat) (f : Fm.Fo) (u : Value) (w : World), Fm.size f ≤ s → Fm.size f ≤ 1000000 → Fm.At w f u →
    Calls Try.prog 44 #[Fm.fv f u] w fun e w' => (∃ u', e = .returned (Fm.fv f u') ∧ Fm.AtNew w.heap.size w' f u') ∧ Below w.heap.size w w' := by
  intro s
  induction s with
  | zero => intro f u w hs; have := Fm.size_pos f; omega
  | succ s ih =>
    intro f u w hs hsm hat
    have hsz := Fm.size_eq f
    have hsize := hat.sized
    obtain ⟨ua, uc, hu, huc, _⟩ := hat.kidsAt.len
    obtain ⟨K, hK⟩ : ∃ K, K = f.kids := ⟨_, rfl⟩
    obtain ⟨m, hm⟩ : ∃ m, m = K.length := ⟨_, rfl⟩
    rw [← hK] at hsz hu huc
    rw [← hm] at hu huc
    subst hu
    have hlen := Fm.len_sizeL K
    obtain ⟨W2, hW2⟩ : ∃ W2, W2 = (w.alloc (.cells #[.int .i64 f.op, .string (Lx.str f.name), .int .i64 f.cmp, .int .i64 f.num, .slice ua m uc] 24)).alloc (.cells #[.int .i64 0, .string ⟨#[]⟩, .int .i64 0, .int .i64 0, .slice none 0 0] 24) := ⟨_, rfl⟩
    have hb2 : Below w.heap.size w W2 := by rw [hW2]; exact ((Below.refl _ _).alloc (Nat.le_refl _) _).alloc (by simp) _
    have k0 : W2.heap[w.heap.size]? = some (.cells #[.int .i64 f.op, .string (Lx.str f.name), .int .i64 f.cmp, .int .i64 f.num, .slice ua m uc] 24 (0, 0)) := by rw [hW2]; exact Fm.blkK (heap_alloc_new _ _)
    have k1 : W2.heap[w.heap.size + 1]? = some (.cells #[.int .i64 0, .string ⟨#[]⟩, .int .i64 0, .int .i64 0, .slice none 0 0] 24 (0, 0)) := by rw [hW2]; exact Fm.blk1 _ _ _
    have hz2 : W2.heap.size = w.heap.size + 2 := by rw [hW2]; simp
    have HCL := Lib.hid (fclone_walk (.slice ua m uc) K w W2 (by rw [hK]; exact hat.kidsAt) hb2 (by omega))
    have HIH : Hid (∀ k ∈ K, ∀ v W, Fm.At W k v → Calls Try.prog 44 #[Fm.fv k v] W fun e w' => (∃ u', e = .returned (Fm.fv k u') ∧ Fm.AtNew W.heap.size w' k u') ∧ Below W.heap.size W w') := fun k hk v W hv => ih k v W (by have := Fm.size_mem hk; omega) (by have := Fm.size_mem hk; omega) hv
    have q0 := Joins.cell_of_block k0 0
    have q4 := Joins.cell_of_block k0 4
    have HB2 := Lib.hid hb2
    have HK2 := Lib.hid (And.intro k0 k1)
    have HM := Lib.hid (And.intro hm hK)
    have HSZ := Lib.hid hsize
    have hmb : m ≤ 1000000 := by omega
    clear ih hs hsm hat hsz hb2 k0 k1 hm hK hsize hlen
    go_enter Try.func44, Try.ntmps44
    go_wp2_with fail
    rw [← hW2]
    refine HCL.out.mono ?_
    rintro e w3 ⟨⟨v, rfl, hcl⟩, hb3⟩
    clear q0 q4 HCL hW2
    have k0 := (hb3.block _ (Array.getElem?_eq_some_iff.1 HK2.out.1).1).trans HK2.out.1
    have k1 := (hb3.block _ (Array.getElem?_eq_some_iff.1 HK2.out.2).1).trans HK2.out.2
    have q4 := Joins.cell_of_block k0 4
    have u4 := Joins.unfrozen_of_block k0 4
    obtain ⟨va, vn, vc, hv⟩ : ∃ a n c, v = .slice a n c := by
      rcases hcl with ⟨_, a, c, h, _⟩ | ⟨_, g, c, _, h, _⟩
      · exact ⟨_, _, _, h⟩
      · exact ⟨_, _, _, h⟩
    subst hv
    have hvn : vn = m := by
      rcases hcl with ⟨h0, a, c, h, _⟩ | ⟨_, g, c, _, h, _⟩
      · cases h; rw [HM.out.1, h0]; rfl
      · cases h; exact HM.out.1.symm
    subst hvn
    have hs0 : Fm.KSt w f (.slice va vn vc) id K va w.heap.size (w.heap.size + 1) 0 (w3.setCell ⟨w.heap.size, 4, none⟩ (.slice va vn vc)) := by
      have h1 := HM.out.1
      rw [h1] at hcl ⊢
      exact Fm.KSt.start hcl (by omega) (by omega) (Nat.le_refl _) k0 k1 (HB2.out.trans (hb3.mono HB2.out.size))
    have hvc : vn ≤ vc ∧ vc ≤ 9223372036854775807 := by
      rcases hcl with ⟨h0, a, c, h, hc⟩ | ⟨_, g, c, _, h, h1, h2, _⟩
      · cases h; have := HM.out.1; rw [h0] at this; exact ⟨by simp at this; omega, hc⟩
      · cases h; exact ⟨h1, h2⟩
    have HS0 := Lib.hid hs0
    have q5 : (w3.setCell ⟨w.heap.size, 4, none⟩ (.slice va vn vc)).cell? ⟨w.heap.size, 4, none⟩ = some (.slice va vn vc) := Joins.cell_of_block hs0.box 4
    clear hb3 k0 k1 hcl hs0
    go_wp2_with fail
    clear q4 u4 q5
    go_loopw [12] (fun i wr => ∃ k : Nat, k ≤ vn ∧ i = .int .i64 k ∧ Hid (Fm.KSt w f (.slice va vn vc) id K va w.heap.size (w.heap.size + 1) k wr)) (fun i _ => vn - (intOf i).toNat)
    case atStart => exact ⟨0, Nat.zero_le _, rfl, HS0⟩
    case round =>
      obtain ⟨k, hk, rfl, hst⟩ := hrel
      clear HS0
      by_cases hlt : k < vn
      · have hki : (k : Int) < (vn : Int) := by omega
        have hk0 : (0 : Int) ≤ (k : Int) := by omega
        obtain ⟨y, hy⟩ : ∃ y, K[k]? = some y := ⟨_, List.getElem?_eq_getElem (by rw [← HM.out.1]; exact hlt)⟩
        obtain ⟨g, rfl, hg, hrow⟩ := hst.out.row (by rintro rfl; simp at hy)
        obtain ⟨uy, ⟨p0, p1, p2, p3, p4⟩, hay⟩ := (hrow.2 k y hy).2 (Nat.le_refl _)
        obtain ⟨xa, xn, xc, hux⟩ : ∃ a n c, uy = .slice a n c := by obtain ⟨a, c, e, _⟩ := hay.kidsAt.len; exact ⟨_, _, _, e⟩
        subst hux
        have hgl : g < wr.heap.size := block_lt_of_cell p0
        obtain ⟨Wb, hWb⟩ : ∃ Wb, Wb = wr.alloc (.cells #[.int .i64 y.op, .string (Lx.str y.name), .int .i64 y.cmp, .int .i64 y.num, .slice xa xn xc] 24) := ⟨_, rfl⟩
        have hbW : Below wr.heap.size wr Wb := by rw [hWb]; exact (Below.refl _ _).alloc (Nat.le_refl _) _
        have hstW := hst.out.next hbW
        have kx : Wb.heap[wr.heap.size]? = some (.cells #[.int .i64 y.op, .string (Lx.str y.name), .int .i64 y.cmp, .int .i64 y.num, .slice xa xn xc] 24 (0, 0)) := by rw [hWb]; exact heap_alloc_new _ _
        have hxl := (Array.getElem?_eq_some_iff.1 kx).1
        have hel : w.heap.size < Wb.heap.size := (Array.getElem?_eq_some_iff.1 hstW.box).1
        have hgW : g < Wb.heap.size := Nat.lt_of_lt_of_le hgl hbW.size
        have hge : w.heap.size ≠ g := by omega
        have hxg : wr.heap.size ≠ g := by omega
        have e0 : ∀ w', Fm.Off g Wb w' → w'.cell? ⟨w.heap.size, 4, none⟩ = some (.slice (some ⟨g, 0, none⟩) vn vc) := fun w' h => h.cell hel hge (Joins.cell_of_block hstW.box 4)
        have x0 : ∀ w', Fm.Off g Wb w' → w'.cell? ⟨wr.heap.size, 0, none⟩ = some (.int .i64 y.op) := fun w' h => h.cell hxl hxg (Joins.cell_of_block kx 0)
        have x1 : ∀ w', Fm.Off g Wb w' → w'.cell? ⟨wr.heap.size, 1, none⟩ = some (.string (Lx.str y.name)) := fun w' h => h.cell hxl hxg (Joins.cell_of_block kx 1)
        have x2 : ∀ w', Fm.Off g Wb w' → w'.cell? ⟨wr.heap.size, 2, none⟩ = some (.int .i64 y.cmp) := fun w' h => h.cell hxl hxg (Joins.cell_of_block kx 2)
        have x3 : ∀ w', Fm.Off g Wb w' → w'.cell? ⟨wr.heap.size, 3, none⟩ = some (.int .i64 y.num) := fun w' h => h.cell hxl hxg (Joins.cell_of_block kx 3)
        have x4 : ∀ w', Fm.Off g Wb w' → w'.cell? ⟨wr.heap.size, 4, none⟩ = some (.slice xa xn xc) := fun w' h => h.cell hxl hxg (Joins.cell_of_block kx 4)
        have HA := Lib.hid (HIH.out y (List.mem_of_getElem? hy) (.slice xa xn xc) Wb.drew (hay.below (hstW.below.drew)))
        have HF : Hid (∀ w5, Below Wb.heap.size Wb w5 → (w5.cell? ⟨g, k * 5, none⟩ = some (.int .i64 y.op) ∧ w5.cell? ⟨g, k * 5 + 1, none⟩ = some (.string (Lx.str y.name)) ∧ w5.cell? ⟨g, k * 5 + 2, none⟩ = some (.int .i64 y.cmp) ∧ w5.cell? ⟨g, k * 5 + 3, none⟩ = some (.int .i64 y.num) ∧ w5.cell? ⟨g, k * 5 + 4, none⟩ = some (.slice xa xn xc)) ∧ ∀ r, w5.frozen? ⟨g, r, none⟩ = false) := fun w5 h5 => by
          obtain ⟨cs, hcs⟩ := hrow.1
          have hb5 := hbW.trans (h5.mono hbW.size)
          have hg5 := hb5.block g hgl
          have e : ∀ j, w5.cell? ⟨g, j, none⟩ = wr.cell? ⟨g, j, none⟩ := fun j => World.cell?_of_block (w := wr) hg5
          exact ⟨⟨(e _).trans p0, (e _).trans p1, (e _).trans p2, (e _).trans p3, (e _).trans p4⟩, fun r => Joins.unfrozen_of_block (hg5.trans hcs) r⟩
        have HSTW := Lib.hid hstW
        have HY := Lib.hid hy
        clear hy hrow hay hstW kx hbW
        go_wp2_with fail
        rw [← hWb]
        clear p0 p1 p2 p3 p4 hWb
        go_region_held3 (fun w' => Fm.Off g Wb w') (first | exact Fm.Off.drew g Wb | exact Fm.Off.step (by with_reducible assumption) (by with_reducible assumption) | (repeat' (refine Fm.Off.set _ ?_)); with_reducible assumption)
          (first
            | (go_at_call 44; (with_reducible refine HA.out.mono ?_); rintro e w5 ⟨⟨u5, rfl, hn5⟩, hb5⟩; obtain ⟨za, zc, hz5, _, _⟩ := Fm.At.kidsAt hn5 |>.len; obtain ⟨zn, hzn⟩ : ∃ n, n = y.kids.length := ⟨_, rfl⟩; rw [← hzn] at hz5; clear hzn; subst hz5; obtain ⟨⟨c0, c1, c2, c3, c4⟩, cu⟩ := HF.out w5 ((Below.refl _ _).drew.trans hb5)))
        have hst5 : Fm.KSt w f (.slice (some ⟨g, 0, none⟩) vn vc) id K (some ⟨g, 0, none⟩) w.heap.size (w.heap.size + 1) (k + 1) (Fm.set5 w5 g (k * 5) y (.slice za zn zc)) := HSTW.out.store HY.out ((Below.refl _ _).drew.trans hb5) (by omega) (by omega) hn5
        obtain ⟨W6, hW6⟩ : ∃ W6, W6 = Fm.set5 w5 g (k * 5) y (.slice za zn zc) := ⟨_, rfl⟩
        have HS6 : Hid (Fm.KSt w f (.slice (some ⟨g, 0, none⟩) vn vc) id K (some ⟨g, 0, none⟩) w.heap.size (w.heap.size + 1) (k + 1) W6) := by rw [hW6]; exact hst5
        have hW6' : (((((w5.setCell ⟨g, k * 5, none⟩ (.int .i64 y.op)).setCell ⟨g, k * 5 + 1, none⟩ (.string (Lx.str y.name))).setCell ⟨g, k * 5 + 2, none⟩ (.int .i64 y.cmp)).setCell ⟨g, k * 5 + 3, none⟩ (.int .i64 y.num)).setCell ⟨g, k * 5 + 4, none⟩ (.slice za zn zc)) = W6 := hW6.symm
        rw [hW6']
        clear hW6 hW6' hst5 hn5 hb5 HA HF HSTW HY e0 x0 x1 x2 x3 x4 c0 c1 c2 c3 c4 cu hst
        go_wp2_with fail
        go_roundw
        case rel => exact ⟨k + 1, by omega, by go_num, HS6⟩
        case measure => simp [intOf]; omega
      · obtain rfl : k = vn := by omega
        have hki : ¬ (k : Int) < (k : Int) := by omega
        have hwz : w.heap.size ≤ w.heap.size + 1 := by omega
        have hd := hst.out
        rw [HM.out.1] at hd
        have HDN := Lib.hid (hd.done hwz HSZ.out (by rw [← HM.out.1]; exact hvc.1) hvc.2)
        rw [← HM.out.1] at HDN
        have b0 := Joins.cell_of_block hst.out.box 0
        have b1 := Joins.cell_of_block hst.out.box 1
        have b2 := Joins.cell_of_block hst.out.box 2
        have b3 := Joins.cell_of_block hst.out.box 3
        have b4 := Joins.cell_of_block hst.out.box 4
        have o0 := Joins.cell_of_block hst.out.out 0
        have o1 := Joins.cell_of_block hst.out.out 1
        have o2 := Joins.cell_of_block hst.out.out 2
        have o3 := Joins.cell_of_block hst.out.out 3
        have o4 := Joins.cell_of_block hst.out.out 4
        have ou := Joins.unfrozen_of_block hst.out.out
        clear hd hst
        go_wp2_with fail
        clear b0 b1 b2 b3 b4 o0 o1 o2 o3 o4 ou
        refine bodyPost_ret (copied_results _ _ (w.heap.size + 1) f (.slice va k vc) rfl HDN.out.2.1) rfl ?_
        refine ⟨⟨_, rfl, ?_⟩, HDN.out.2.2⟩
        have := HDN.out.1
        rw [List.map_id, HM.out.2] at this
        obtain ⟨o, x, c, n, ks⟩ := f
        exact this
end Go.Proofs.Ytjcaingfeaaakaa
