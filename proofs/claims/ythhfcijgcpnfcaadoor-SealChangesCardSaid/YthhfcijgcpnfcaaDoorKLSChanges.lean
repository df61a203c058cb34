import Derived.Test.YthhfcijgcpnfcaaDoorKLFrameS
import Derived.Test.YthhfcijgcpnfcaaDoorKSBad
/-
  SealChanges: for every secret, numbers, message and text the call returns true and its arguments stay, where the three tables of the library hold what the program's text lays.
-/
namespace Go.Proofs.YthhfcijgcpnfcaaDoor.sealChanges
open Go.ChangeShapes Go.WideShapes Go.ChangeAt Go.RowKit
open Go.WideMaps Go.WideElems
open Go.ChangeMaps (open_string shut_string)

set_option maxHeartbeats 2000000 in
set_option maxRecDepth 100000 in
theorem w_short (s m x : ByteArray) (a b c : Nat) (ha : a ≤ 255) (hb : b ≤ 255) (w : World) (ht : HasTab w) (hs : Sl.short [s, m, x] = false) :
    Calls Tryd.prog 7 #[.string s, .int .u8 a, .int .u8 b, .string m, .int .u8 c, .string x] w fun e w' => e = .returned (.bool true) ∧ Below w.heap.size w w' := by
  have HT := Lib.hid ht
  have HS := Lib.hid hs
  obtain ⟨h, hh⟩ : ∃ h, h = a % 3 := ⟨_, rfl⟩
  have hh4 : h ≤ 2 := by omega
  have hh' : (a : Int) % 3 = (h : Int) := by omega
  obtain ⟨N, hN, hN0, hN8, hsh⟩ := Sl.pow_facts h (by omega)
  have hNz : ((N : Int) == 0) = false := beq_eq_false_iff_ne.2 (by omega)
  clear ht hs hh hN
  go_enter Tryd.func7, Tryd.ntmps7
  go_wp2_with fail
  refine (head_walk _ HT.out).mono ?_
  rintro e w1 ⟨rfl, hb⟩
  have HB := Lib.hid hb
  clear hb
  go_wp2_with fail
  refine (short_false _ [s, m, x] _ (tx_three _ _ _ _) HS.out).mono ?_
  rintro e w2 ⟨rfl, rfl⟩
  go_wp2_with fail
  go_ret
  exact ⟨rfl, HB.out.alloc HB.out.size _⟩


set_option maxHeartbeats 80000000 in
set_option maxRecDepth 100000 in
theorem w_main (s m x : ByteArray) (a b c : Nat) (ha : a ≤ 255) (hb : b ≤ 255) (hc : c ≤ 255) (w : World) (ht : HasTab w) (hs : Sl.short [s, m, x] = true) :
    Calls Tryd.prog 7 #[.string s, .int .u8 a, .int .u8 b, .string m, .int .u8 c, .string x] w fun e w' => e = .returned (.bool true) ∧ Below w.heap.size w w' := by
  have HT := Lib.hid ht
  have HS := Lib.hid hs
  have hzs := Sl.short_out hs s (by simp)
  have hzm := Sl.short_out hs m (by simp)
  have hzx := Sl.short_out hs x (by simp)
  have HZ := Lib.hid (And.intro hc (And.intro hzs (And.intro hzm hzx)))
  clear hc hzs hzm hzx
  obtain ⟨h, hh⟩ : ∃ h, h = a % 3 := ⟨_, rfl⟩
  have hh4 : h ≤ 2 := by omega
  have hh' : (a : Int) % 3 = (h : Int) := by omega
  obtain ⟨N, hN, hN0, hN8, hsh⟩ := Sl.pow_facts h (by omega)
  obtain ⟨i, hi⟩ : ∃ i, i = b % N := ⟨_, rfl⟩
  have hiN : i < N := by rw [hi]; exact Nat.mod_lt _ hN0
  have hi' : (b : Int) % (N : Int) = (i : Int) := by rw [hi]; rfl
  have hNz : ((N : Int) == 0) = false := beq_eq_false_iff_ne.2 (by omega)
  have HN := Lib.hid hN
  have HIN := Lib.hid hiN
  have HSHIFT := Lib.hid (And.intro hN0 (And.intro hN8 hsh))
  clear ht hs hh hi hN hiN
  go_enter Tryd.func7, Tryd.ntmps7
  go_wp2_with fail
  refine (head_walk _ HT.out).mono ?_
  rintro e w1 ⟨rfl, hb⟩
  have HB := Lib.hid hb
  replace HT := Lib.hid (HT.out.below hb)
  clear hb
  go_wp2_with fail
  refine (short_true _ [s, m, x] _ (tx_three _ _ _ _) HS.out).mono ?_
  rintro e w2 ⟨rfl, rfl⟩
  replace HT := Lib.hid (HT.out.below ((Below.refl w1.heap.size w1).alloc (Nat.le_refl _) (.cells #[.string s, .string m, .string x] 9)))
  replace HB := Lib.hid (HB.out.alloc HB.out.size (.cells #[.string s, .string m, .string x] 9))
  go_wp2_with fail
  try simp only [hh', hi', hsh]
  clear hh' hi' hsh hNz
  refine (public_ok s HZ.out.2.1 h (by omega) _ HT.out).mono ?_
  rintro e w2 ⟨r1, rfl, hr1, hz1, hb⟩
  replace HB := Lib.hid (HB.out.trans (hb.mono HB.out.size))
  replace HT := Lib.hid (HT.out.below hb)
  clear hb
  go_wp2_with fail
  refine (sign_ok s HZ.out.2.1 h (by omega) i (by rw [← HN.out]; exact HIN.out) m HZ.out.2.2.1 w2 HT.out).mono ?_
  intro e w3 hs
  obtain ⟨a1, a2, c1, c2, ls, lp, rfl, hx1, hx2, hx3, hx4, hx5, hx6, hb⟩ := hs.seal
  clear hs
  replace HB := Lib.hid (HB.out.trans (hb.mono HB.out.size))
  replace HT := Lib.hid (HT.out.below hb)
  clear hb
  have h18 : ls.length = 18 := by rw [← Tr.bs_len, hx2.out]; exact Sl.sig_length _ _ _
  have hph : lp.length = h := by rw [Tr.len_of hx5, Sl.path_len _ _ _ (by rw [← HN.out]; exact HIN.out)]
  rw [h18] at hx1 ⊢
  rw [hph] at hx4 ⊢
  go_upto_region 13 with fail
  obtain ⟨W, hW⟩ : ∃ W, W = w3.alloc (.cells #[.int .i64 i, .slice a1 18 c1, .slice a2 h c2] 24) := ⟨_, rfl⟩
  have hbW : Below w3.heap.size w3 W := by rw [hW]; exact (Below.refl w3.heap.size w3).alloc (Nat.le_refl _) _
  have hkW : W.heap[w3.heap.size]? = some (.cells #[.int .i64 i, .slice a1 18 c1, .slice a2 h c2] 24 (0, 0)) := by rw [hW]; exact heap_alloc_new _ _
  rw [← hW]
  clear hW
  have F : Hid (∀ w', Tr.Old W w' → w'.cell? ⟨w3.heap.size, 0, none⟩ = some (.int .i64 i) ∧ w'.cell? ⟨w3.heap.size, 1, none⟩ = some (.slice a1 18 c1) ∧ w'.cell? ⟨w3.heap.size, 2, none⟩ = some (.slice a2 h c2)) := fun w' h => seal_block h.out hkW
  replace HB := Lib.hid (HB.out.trans (hbW.mono HB.out.size))
  replace HT := Lib.hid (HT.out.below hbW)
  have HX1 : Hid (IsTx W (.slice a1 18 c1) ls) := hx1.below hbW
  have HX2 : Hid (IsTx W (.slice a2 h c2) lp) := hx4.below hbW
  have HX := Lib.hid (And.intro hx2 (And.intro hx3 (And.intro hx5 (And.intro hx6 (And.intro h18 hph)))))
  clear hx1 hx2 hx3 hx4 hx5 hx6 h18 hph hbW hkW
  obtain ⟨i0, hii, hz0, hz1', hz2⟩ := info_parts one_str
  have HI := Lib.hid hii
  have HNE : Hid (ls ≠ []) := fun e => by have := HX.out.2.2.2.2.1; rw [e] at this; cases this
  clear hii
  have y0 : ∀ w', Tr.Old W w' → w'.cell? ⟨w3.heap.size, 0, none⟩ = some (.int .i64 i) := fun w' h => (F.out w' h).1
  have y1 : ∀ w', Tr.Old W w' → w'.cell? ⟨w3.heap.size, 1, none⟩ = some (.slice a1 18 c1) := fun w' h => (F.out w' h).2.1
  have y2 : ∀ w', Tr.Old W w' → w'.cell? ⟨w3.heap.size, 2, none⟩ = some (.slice a2 h c2) := fun w' h => (F.out w' h).2.2
  go_cut [20] (fun p wx => ∃ g b7 cap7 b8 cap8, p = .pointer (some ⟨g, 0, none⟩) ∧ Bad W wx i ls lp g (.slice b7 18 cap7) (.slice b8 h cap8))
  case first =>
    go_region_held3 (fun w' => Tr.Old W w') (first | exact Tr.Old.drew W | exact Tr.Old.of (seal_below (Tr.Old.out (by with_reducible assumption)) (by first | omega | (have := hO7.out.size; omega)) _ _ _) | exact Tr.Old.alloc _ (by with_reducible assumption) | exact Tr.Old.step (by with_reducible assumption) (by with_reducible assumption) | exact Tr.Old.of (by with_reducible assumption) | with_reducible assumption)
      (first
        | (have hs0 := Tr.Old.out (by with_reducible assumption : Tr.Old W _); refine step_append_s (by rfl) (.tmp 73) (.tmp 75) 22 rfl _ 9 i0 (.string ⟨#[]⟩) 16 Tryd.underlying22 HI.out hz0 hz1' hz2 rfl _ rfl _ ls rfl (HX1.out.below hs0) (by unfold maxLen; have := HX.out.2.2.2.2.1; omega) (by have := HX.out.2.2.2.2.1; omega) (Nat.le_refl _) 18 HX.out.2.2.2.2.1 ?_; intro b7 cap7 w7 hown7 hb7; have hs7 := hs0.size; have hO7 : Tr.Old W w7 := Tr.Old.step hb7 (Tr.Old.of hs0); first | (have hz7 := Zero.below hb7 (by first | exact (Zero.three _ _ _).drew | exact ((Zero.two _ _).alloc _).drew | exact (Zero.two _ _).drew | exact (((Zero.one _).alloc _).alloc _).drew | exact ((Zero.one _).alloc _).drew)) | skip)
        | (have hs0 := Tr.Old.out (by with_reducible assumption : Tr.Old W _); refine step_append_s (by rfl) (.tmp 77) (.tmp 79) 22 rfl _ 9 i0 (.string ⟨#[]⟩) 16 Tryd.underlying22 HI.out hz0 hz1' hz2 rfl _ rfl _ lp rfl (HX2.out.below hs0) (by unfold maxLen; have := HX.out.2.2.2.2.2; omega) (by have := HX.out.2.2.2.2.2; omega) (Nat.le_refl _) h HX.out.2.2.2.2.2 ?_; intro b8 cap8 w8 hown8 hb8; have hO8 : Tr.Old W w8 := Tr.Old.step hb8 (Tr.Old.of hs0); obtain ⟨hs9, hb78⟩ := two_b (w7 := w7) (by first | exact Below.refl _ _ | exact (Below.refl _ _).alloc (Nat.le_refl _) _ | exact ((Below.refl _ _).alloc (Nat.le_refl _) _).alloc (by simp) _) hb8; first | (have hz8 := Zero.below hb8 (by first | exact hz7 | exact hz7.alloc _ | exact Zero.two _ _ | exact (Zero.one _).alloc _ | exact Zero.one _); obtain ⟨⟨d0, d1, d2⟩, f0, f1, f2⟩ := hz8.facts) | skip))
    all_goals
      go_wp2_with fail
      go_meet
      first
        | exact ⟨_, _, _, _, _, rfl, Bad.fresh hown7 hown8 HNE.out hb78 hs7 hs9 hO7 hO8⟩
        | exact ⟨_, _, _, _, _, rfl, Bad.put hown7 hown8 HNE.out hb78 hs7 hs9 hO7 hO8 hz8 (by first | omega | (have := hO7.out.size; omega)) (by first | (left; simp [World.drew]; done) | (left; simp [World.drew]; omega) | (right; refine ⟨?_, ?_⟩ <;> simp; done) | (right; refine ⟨by simp, by simp; omega⟩))⟩
  case rest =>
    obtain ⟨g, b7, cap7, b8, cap8, rfl, hbad⟩ := hcut
    have HBD := Lib.hid hbad
    clear hbad
    have hc := HZ.out.1
    obtain ⟨k, hk⟩ : ∃ k, k = c % (19 + h) := ⟨_, rfl⟩
    have hk' : (c : Int) % (19 + (h : Int)) = (k : Int) := by rw [hk]; rfl
    have hklt : k < 19 + h := by rw [hk]; exact Nat.mod_lt _ (by omega)
    have hkz : ((19 + (h : Int)) == 0) = false := beq_eq_false_iff_ne.2 (by omega)
    obtain ⟨d0, d1, d2⟩ := HBD.out.cells wc (Tr.Old.refl wc)
    clear hk
    have hset : ∀ (l : List ByteArray) (k : Nat) (y : ByteArray), (∀ s ∈ l, s.size ≤ 16) → y.size ≤ 300 → ∀ s ∈ l.set k y, s.size ≤ 300 := by
      intro l k y hl hy s hs
      rcases List.mem_or_eq_of_mem_set hs with h | rfl
      · have := hl s h; omega
      · exact hy
    have HST := Lib.hid hset
    clear hset y0 y1 y2
    by_cases hk18 : k < 18
    · obtain ⟨g1, c1', e1, s1, s2, hb2, s3, s4⟩ := HBD.out.sig k (by rw [HX.out.2.2.2.2.1]; exact hk18) x
      rw [HX.out.2.2.2.2.1] at e1 s3
      obtain ⟨rfl, rfl⟩ : b7 = some ⟨g1, 0, none⟩ ∧ cap7 = c1' := by simpa using e1
      have HB2 := Lib.hid hb2
      clear hb2 e1
      obtain ⟨⟨e0, e1, e2⟩, e3, e4, e5⟩ := And.intro (HB2.out.cells _ (Tr.Old.refl _)) (F.out _ HB2.out.2.1)
      have hst := (show ∀ w', w' = wc.setCell ⟨g1, k, none⟩ (.string x) → True from fun _ _ => trivial)
      clear d2
      go_wp2_with fail
      obtain ⟨wy, hwy⟩ : ∃ wy, wy = wc.setCell ⟨g1, k, none⟩ (.string x) := ⟨_, rfl⟩
      rw [← hwy] at HB2 ⊢
      obtain ⟨lq, hlq⟩ : ∃ lq, lq = ls.set k x := ⟨_, rfl⟩
      obtain ⟨pq, hpq⟩ : ∃ pq, pq = lp := ⟨_, rfl⟩
      rw [← hlq] at HB2
      rw [← hpq] at HB2
      have HJ : Hid (i = i ∨ (lq = ls ∧ pq = lp)) := .inl rfl
      have HSZ : Hid ((∀ s ∈ lq, s.size ≤ 300) ∧ (∀ s ∈ pq, s.size ≤ 300) ∧ lq.length = 18 ∧ pq.length = h) := ⟨by rw [hlq]; exact HST.out _ _ _ HX.out.2.1 HZ.out.2.2.2, by rw [hpq]; exact fun s h => by have := HX.out.2.2.2.1 s h; omega, by rw [hlq, List.length_set]; exact HX.out.2.2.2.2.1, by rw [hpq]; exact HX.out.2.2.2.2.2⟩
      clear e0 e1 e2 e3 e4 e5 hwy hkz hk' d0 d1 s1 s2 s3 s4 hst hc hlq hpq
      have hsm := same03_walk _ _ i i lq pq ls lp wy HB2.out.seal ⟨_, _, rfl, HX1.out.below HB2.out.2.1.out, HX2.out.below HB2.out.2.1.out⟩
      obtain ⟨cc, hcc⟩ : ∃ cc, cc = Sl.same i i lq pq ls lp := ⟨_, rfl⟩
      rw [← hcc] at hsm
      have HCC := Lib.hid hcc
      clear hcc
      cases cc with
      | true =>
        refine hsm.mono ?_
        clear hsm
        rintro e w5 ⟨rfl, hb⟩
        go_wp2_with fail
        go_ret
        exact ⟨rfl, HB.out.trans ((HB2.out.2.1.out.trans (hb.mono HB2.out.2.1.out.size)).mono HB.out.size)⟩
      | false =>
        refine hsm.mono ?_
        clear hsm
        rintro e w5 ⟨rfl, hb⟩
        have B5 : Hid (Tr.Old wy w5) := hb
        have O5 : Hid (Tr.Old W w5) := Tr.Old.step hb HB2.out.2.1
        obtain ⟨e0, e1, e2⟩ := HB2.out.cells w5 B5.out
        clear hb
        go_wp2_with fail
        have hv := verify_walk r1 m HZ.out.2.2.1 _ i lq pq w5 (HB2.out.seal.below B5.out.out) HSZ.out.1 HSZ.out.2.1 (HT.out.below O5.out.out)
        rw [hr1.out] at hv
        obtain ⟨cv, hcv⟩ : ∃ cv, cv = Sl.verify (Sl.pub s.data.toList h) m.data.toList (i : Nat) (Tr.bs lq) (Tr.bs pq) := ⟨_, rfl⟩
        rw [← hcv] at hv
        cases cv with
        | false =>
          refine hv.mono ?_
          clear hv hcv
          rintro e w6 ⟨rfl, hb⟩
          go_wp2_with fail
          go_ret
          exact ⟨rfl, HB.out.trans ((O5.out.out.trans (hb.mono O5.out.out.size)).mono HB.out.size)⟩
        | true =>
          have hacc := ((Sl.verify_accepts _ _ _ _ _).1 hcv.symm).2
          rw [Int.toNat_natCast] at hacc
          have HACC := Lib.hid hacc
          have HSH : Hid (Tr.Shown (Sl.made s.data.toList h 15 ++ Sl.checked m.data.toList i (Tr.bs lq) (Tr.bs pq))) := by
            refine Sl.changes_shown s.data.toList h i i m.data.toList (Tr.bs lq) (Tr.bs pq) hh4 (by rw [← HN.out]; exact HIN.out) ?_ ?_ hacc
            · rintro ⟨f1, f2, f3⟩
              have := HCC.out
              unfold Sl.same Dg.same at this
              rw [decide_eq_true (show ((i : Nat) : Int) = (i : Int) by rw [f1]), decide_eq_true (show lq.map (·.data.toList) = ls.map (·.data.toList) from f2.trans HX.out.1.out.symm), decide_eq_true (show pq.map (·.data.toList) = lp.map (·.data.toList) from f3.trans HX.out.2.2.1.out.symm)] at this
              exact Bool.noConfusion this
            · rcases HJ.out with f | ⟨rfl, rfl⟩
              · first | exact .inl rfl | exact .inl f
              · exact .inr ⟨HX.out.1.out, HX.out.2.2.1.out⟩
          refine hv.mono ?_
          clear hv hcv hacc e0 e1 e2
          rintro e wx ⟨rfl, hb⟩
          have HO : Hid (Tr.Old wy wx) := Tr.Old.step hb B5.out
          clear hb
          obtain ⟨pm, hpm⟩ : ∃ pm, pm = Sl.made s.data.toList h 15 := ⟨_, rfl⟩
          obtain ⟨pc, hpc⟩ : ∃ pc, pc = Sl.checked m.data.toList i (Tr.bs lq) (Tr.bs pq) := ⟨_, rfl⟩
          have hji : i ≤ 1000 := by
            have h1 := HACC.out.2.2.2.2.1
            have h2 : 2 ^ (Tr.bs pq).length ≤ 2 ^ 8 := Nat.pow_le_pow_right (by decide) HACC.out.2.1
            have h3 : (2 : Nat) ^ 8 = 256 := by decide
            omega
          have HJI := Lib.hid hji
          clear hji
          have HCK : Hid (∀ w', Tr.Old wx w' → Calls Tryd.prog 24 #[.string m, .agg #[.int .i64 (i : Nat), Value.slice (some ⟨g1, 0, none⟩) 18 cap7, Value.slice b8 h cap8]] w' (OwnOut 10000 pc w')) := fun w' hw => by
            rw [hpc]
            exact checked_walk m HZ.out.2.2.1 _ i HJI.out lq pq w' (HB2.out.seal.below (HO.out.out.trans (hw.out.mono HO.out.out.size))) HSZ.out.2.2.1 (by rw [HSZ.out.2.2.2]; omega) (fun s h => Sl.dig_size (List.all_eq_true.1 HACC.out.2.2.1 _ (List.mem_map.2 ⟨s, h, rfl⟩))) HSZ.out.2.1
          have hl1 : pm.length ≤ 5000 := by rw [hpm]; exact Sl.made_len s.data.toList h 15 hh4 (by decide)
          have hl2 : pc.length ≤ 1000 := by rw [hpc]; exact Sl.checked_len _ _ _ _ (by rw [Tr.bs_len, HSZ.out.2.2.2]; omega)
          have HMD : Hid (∀ w', Calls Tryd.prog 23 #[.string s, .int .i64 h, .int .i64 15] w' (OwnOut 10000 pm w')) := fun w' => by rw [hpm]; exact made_walk s HZ.out.2.1 h 15 hh4 (by decide) (by decide) w'
          rw [← hpm, ← hpc] at HSH
          have HL := Lib.hid (And.intro hl1 hl2)
          have y0 : ∀ w', Tr.Old wx w' → w'.cell? ⟨g, 0, none⟩ = some (.int .i64 (i : Nat)) := fun w' h => (HB2.out.cells w' (HO.out.out.trans (h.out.mono HO.out.out.size))).1
          have y1 : ∀ w', Tr.Old wx w' → w'.cell? ⟨g, 1, none⟩ = some (Value.slice (some ⟨g1, 0, none⟩) 18 cap7) := fun w' h => (HB2.out.cells w' (HO.out.out.trans (h.out.mono HO.out.out.size))).2.1
          have y2 : ∀ w', Tr.Old wx w' → w'.cell? ⟨g, 2, none⟩ = some (Value.slice b8 h cap8) := fun w' h => (HB2.out.cells w' (HO.out.out.trans (h.out.mono HO.out.out.size))).2.2
          have hO5 : Tr.Old wx wx.drew := Tr.Old.drew wx
          have HWX : Hid (Below w.heap.size w wx) := HB.out.trans ((HB2.out.2.1.out.trans (HO.out.out.mono HB2.out.2.1.out.size)).mono HB.out.size)
          clear hpm hpc hl1 hl2
          go_wp2_with fail
          go_region_held3 (fun w' => Tr.Old wx w') (first | with_reducible assumption | exact Tr.Old.step (by with_reducible assumption) (by with_reducible assumption))
            (first
              | (go_at_call 23; (with_reducible refine (HMD.out _).mono ?_); intro e w6 ho6; obtain ⟨v6, rfl, hr6, hb6⟩ := ho6.row)
              | (go_at_call 24; (with_reducible refine (HCK.out _ (by with_reducible assumption)).mono ?_); intro e w7 ho7; obtain ⟨v7, rfl, hr7, hb7⟩ := ho7.row)
              | (refine step_rowg (by rfl) (.tmp 126) (.tmp 129) rfl (hr6.below hb7) rfl rfl hr7.tx (by have := HL.out; omega) (Nat.le_trans hb6.size hb7.size) ?_; intro v8 w8 hr8 hb8; have hO8 : Tr.Old wx w8 := (Below.trans ((Below.refl wx.heap.size wx).drew.trans hb6) (hb7.mono hb6.size)).trans hb8)
              | (go_at_call 22; (with_reducible refine (refshown_tx v8 _ hr8.tx (by decide) (by rw [List.length_append]; have := HL.out; omega) HSH.out).mono ?_); rintro e w9 ⟨rfl, hb9⟩))
          have HO9 := Lib.hid (Tr.Old.step hb9 hO8)
          clear hb6 hb7 hb8 hb9 hr6 hr7 hr8 ho6 ho7 hO8 hO5 y0 y1 y2
          go_wp2_with fail
          go_ret
          exact ⟨rfl, HWX.out.trans (HO9.out.out.mono HWX.out.size)⟩
    · by_cases hkh : k < 18 + h
      · obtain ⟨q, rfl⟩ : ∃ q, k = 18 + q := ⟨k - 18, by omega⟩
        obtain ⟨g2, c2', e1, s1, s2, hb2, s3, s4⟩ := HBD.out.path q (by rw [HX.out.2.2.2.2.2]; omega) x
        rw [HX.out.2.2.2.2.2] at e1 s3
        obtain ⟨rfl, rfl⟩ : b8 = some ⟨g2, 0, none⟩ ∧ cap8 = c2' := by simpa using e1
        have HB2 := Lib.hid hb2
        clear hb2 e1
        have hkq : (c : Int) % (19 + (h : Int)) = 18 + (q : Int) := by rw [hk']; omega
        have hk' := hkq
        clear hkq
        obtain ⟨⟨e0, e1, e2⟩, e3, e4, e5⟩ := And.intro (HB2.out.cells _ (Tr.Old.refl _)) (F.out _ HB2.out.2.1)
        clear d1
        go_wp2_with fail
        obtain ⟨wy, hwy⟩ : ∃ wy, wy = wc.setCell ⟨g2, q, none⟩ (.string x) := ⟨_, rfl⟩
        rw [← hwy] at HB2 ⊢
        obtain ⟨lq, hlq⟩ : ∃ lq, lq = ls := ⟨_, rfl⟩
        obtain ⟨pq, hpq⟩ : ∃ pq, pq = lp.set q x := ⟨_, rfl⟩
        rw [← hlq] at HB2
        rw [← hpq] at HB2
        have HJ : Hid (i = i ∨ (lq = ls ∧ pq = lp)) := .inl rfl
        have HSZ : Hid ((∀ s ∈ lq, s.size ≤ 300) ∧ (∀ s ∈ pq, s.size ≤ 300) ∧ lq.length = 18 ∧ pq.length = h) := ⟨by rw [hlq]; exact fun s h => by have := HX.out.2.1 s h; omega, by rw [hpq]; exact HST.out _ _ _ HX.out.2.2.2.1 HZ.out.2.2.2, by rw [hlq]; exact HX.out.2.2.2.2.1, by rw [hpq, List.length_set]; exact HX.out.2.2.2.2.2⟩
        clear e0 e1 e2 e3 e4 e5 hwy hkz hk' d0 d2 s1 s2 s3 s4 hc hlq hpq
        have hsm := same03_walk _ _ i i lq pq ls lp wy HB2.out.seal ⟨_, _, rfl, HX1.out.below HB2.out.2.1.out, HX2.out.below HB2.out.2.1.out⟩
        obtain ⟨cc, hcc⟩ : ∃ cc, cc = Sl.same i i lq pq ls lp := ⟨_, rfl⟩
        rw [← hcc] at hsm
        have HCC := Lib.hid hcc
        clear hcc
        cases cc with
        | true =>
          refine hsm.mono ?_
          clear hsm
          rintro e w5 ⟨rfl, hb⟩
          go_wp2_with fail
          go_ret
          exact ⟨rfl, HB.out.trans ((HB2.out.2.1.out.trans (hb.mono HB2.out.2.1.out.size)).mono HB.out.size)⟩
        | false =>
          refine hsm.mono ?_
          clear hsm
          rintro e w5 ⟨rfl, hb⟩
          have B5 : Hid (Tr.Old wy w5) := hb
          have O5 : Hid (Tr.Old W w5) := Tr.Old.step hb HB2.out.2.1
          obtain ⟨e0, e1, e2⟩ := HB2.out.cells w5 B5.out
          clear hb
          go_wp2_with fail
          have hv := verify_walk r1 m HZ.out.2.2.1 _ i lq pq w5 (HB2.out.seal.below B5.out.out) HSZ.out.1 HSZ.out.2.1 (HT.out.below O5.out.out)
          rw [hr1.out] at hv
          obtain ⟨cv, hcv⟩ : ∃ cv, cv = Sl.verify (Sl.pub s.data.toList h) m.data.toList (i : Nat) (Tr.bs lq) (Tr.bs pq) := ⟨_, rfl⟩
          rw [← hcv] at hv
          cases cv with
          | false =>
            refine hv.mono ?_
            clear hv hcv
            rintro e w6 ⟨rfl, hb⟩
            go_wp2_with fail
            go_ret
            exact ⟨rfl, HB.out.trans ((O5.out.out.trans (hb.mono O5.out.out.size)).mono HB.out.size)⟩
          | true =>
            have hacc := ((Sl.verify_accepts _ _ _ _ _).1 hcv.symm).2
            rw [Int.toNat_natCast] at hacc
            have HACC := Lib.hid hacc
            have HSH : Hid (Tr.Shown (Sl.made s.data.toList h 15 ++ Sl.checked m.data.toList i (Tr.bs lq) (Tr.bs pq))) := by
              refine Sl.changes_shown s.data.toList h i i m.data.toList (Tr.bs lq) (Tr.bs pq) hh4 (by rw [← HN.out]; exact HIN.out) ?_ ?_ hacc
              · rintro ⟨f1, f2, f3⟩
                have := HCC.out
                unfold Sl.same Dg.same at this
                rw [decide_eq_true (show ((i : Nat) : Int) = (i : Int) by rw [f1]), decide_eq_true (show lq.map (·.data.toList) = ls.map (·.data.toList) from f2.trans HX.out.1.out.symm), decide_eq_true (show pq.map (·.data.toList) = lp.map (·.data.toList) from f3.trans HX.out.2.2.1.out.symm)] at this
                exact Bool.noConfusion this
              · rcases HJ.out with f | ⟨rfl, rfl⟩
                · first | exact .inl rfl | exact .inl f
                · exact .inr ⟨HX.out.1.out, HX.out.2.2.1.out⟩
            refine hv.mono ?_
            clear hv hcv hacc e0 e1 e2
            rintro e wx ⟨rfl, hb⟩
            have HO : Hid (Tr.Old wy wx) := Tr.Old.step hb B5.out
            clear hb
            obtain ⟨pm, hpm⟩ : ∃ pm, pm = Sl.made s.data.toList h 15 := ⟨_, rfl⟩
            obtain ⟨pc, hpc⟩ : ∃ pc, pc = Sl.checked m.data.toList i (Tr.bs lq) (Tr.bs pq) := ⟨_, rfl⟩
            have hji : i ≤ 1000 := by
              have h1 := HACC.out.2.2.2.2.1
              have h2 : 2 ^ (Tr.bs pq).length ≤ 2 ^ 8 := Nat.pow_le_pow_right (by decide) HACC.out.2.1
              have h3 : (2 : Nat) ^ 8 = 256 := by decide
              omega
            have HJI := Lib.hid hji
            clear hji
            have HCK : Hid (∀ w', Tr.Old wx w' → Calls Tryd.prog 24 #[.string m, .agg #[.int .i64 (i : Nat), Value.slice b7 18 cap7, Value.slice (some ⟨g2, 0, none⟩) h cap8]] w' (OwnOut 10000 pc w')) := fun w' hw => by
              rw [hpc]
              exact checked_walk m HZ.out.2.2.1 _ i HJI.out lq pq w' (HB2.out.seal.below (HO.out.out.trans (hw.out.mono HO.out.out.size))) HSZ.out.2.2.1 (by rw [HSZ.out.2.2.2]; omega) (fun s h => Sl.dig_size (List.all_eq_true.1 HACC.out.2.2.1 _ (List.mem_map.2 ⟨s, h, rfl⟩))) HSZ.out.2.1
            have hl1 : pm.length ≤ 5000 := by rw [hpm]; exact Sl.made_len s.data.toList h 15 hh4 (by decide)
            have hl2 : pc.length ≤ 1000 := by rw [hpc]; exact Sl.checked_len _ _ _ _ (by rw [Tr.bs_len, HSZ.out.2.2.2]; omega)
            have HMD : Hid (∀ w', Calls Tryd.prog 23 #[.string s, .int .i64 h, .int .i64 15] w' (OwnOut 10000 pm w')) := fun w' => by rw [hpm]; exact made_walk s HZ.out.2.1 h 15 hh4 (by decide) (by decide) w'
            rw [← hpm, ← hpc] at HSH
            have HL := Lib.hid (And.intro hl1 hl2)
            have y0 : ∀ w', Tr.Old wx w' → w'.cell? ⟨g, 0, none⟩ = some (.int .i64 (i : Nat)) := fun w' h => (HB2.out.cells w' (HO.out.out.trans (h.out.mono HO.out.out.size))).1
            have y1 : ∀ w', Tr.Old wx w' → w'.cell? ⟨g, 1, none⟩ = some (Value.slice b7 18 cap7) := fun w' h => (HB2.out.cells w' (HO.out.out.trans (h.out.mono HO.out.out.size))).2.1
            have y2 : ∀ w', Tr.Old wx w' → w'.cell? ⟨g, 2, none⟩ = some (Value.slice (some ⟨g2, 0, none⟩) h cap8) := fun w' h => (HB2.out.cells w' (HO.out.out.trans (h.out.mono HO.out.out.size))).2.2
            have hO5 : Tr.Old wx wx.drew := Tr.Old.drew wx
            have HWX : Hid (Below w.heap.size w wx) := HB.out.trans ((HB2.out.2.1.out.trans (HO.out.out.mono HB2.out.2.1.out.size)).mono HB.out.size)
            clear hpm hpc hl1 hl2
            go_wp2_with fail
            go_region_held3 (fun w' => Tr.Old wx w') (first | with_reducible assumption | exact Tr.Old.step (by with_reducible assumption) (by with_reducible assumption))
              (first
                | (go_at_call 23; (with_reducible refine (HMD.out _).mono ?_); intro e w6 ho6; obtain ⟨v6, rfl, hr6, hb6⟩ := ho6.row)
                | (go_at_call 24; (with_reducible refine (HCK.out _ (by with_reducible assumption)).mono ?_); intro e w7 ho7; obtain ⟨v7, rfl, hr7, hb7⟩ := ho7.row)
                | (refine step_rowg (by rfl) (.tmp 126) (.tmp 129) rfl (hr6.below hb7) rfl rfl hr7.tx (by have := HL.out; omega) (Nat.le_trans hb6.size hb7.size) ?_; intro v8 w8 hr8 hb8; have hO8 : Tr.Old wx w8 := (Below.trans ((Below.refl wx.heap.size wx).drew.trans hb6) (hb7.mono hb6.size)).trans hb8)
                | (go_at_call 22; (with_reducible refine (refshown_tx v8 _ hr8.tx (by decide) (by rw [List.length_append]; have := HL.out; omega) HSH.out).mono ?_); rintro e w9 ⟨rfl, hb9⟩))
            have HO9 := Lib.hid (Tr.Old.step hb9 hO8)
            clear hb6 hb7 hb8 hb9 hr6 hr7 hr8 ho6 ho7 hO8 hO5 y0 y1 y2
            go_wp2_with fail
            go_ret
            exact ⟨rfl, HWX.out.trans (HO9.out.out.mono HWX.out.size)⟩
      · obtain rfl : k = 18 + h := by omega
        obtain ⟨j, hj⟩ : ∃ j, j = (i + 1) % N := ⟨_, rfl⟩
        have HB2 := Lib.hid ((HBD.out.idx (j : Nat)).drew)
        have hj' : ((i : Int) + 1) % (N : Int) = (j : Int) := by rw [hj]; rfl
        have hNz : ((N : Int) == 0) = false := beq_eq_false_iff_ne.2 (by omega)
        have hi256 : i ≤ 256 := by have := HIN.out; omega
        have hkq : (c : Int) % (19 + (h : Int)) = 18 + (h : Int) := by rw [hk']; omega
        have hk' := hkq
        clear hkq hN0 hN8 hklt hkh hk18
        have hf := HBD.out.free
        have hlo := HBD.out.2.2.1
        obtain ⟨⟨e0, e1, e2⟩, e3, e4, e5⟩ := And.intro (HB2.out.cells _ (Tr.Old.refl _)) (F.out _ HB2.out.2.1)
        go_upto_region 8 with fail
        have hNn : ¬ N = 0 := by have := HSHIFT.out.1; omega
        have htm : ((i : Int) + 1).tmod (N : Int) = (j : Int) := by rw [Int.tmod_eq_emod_of_nonneg (by omega)]; exact hj'
        have hsh := HSHIFT.out.2.2
        have y0 : ∀ w', Tr.Old W w' → w'.cell? ⟨w3.heap.size, 0, none⟩ = some (.int .i64 i) := fun w' h => (F.out w' h).1
        have hOc : Tr.Old W wc := HBD.out.2.1
        have hOd : Tr.Old W wc.drew := Tr.Old.step ((Below.refl _ _).drew) hOc
        have hsh2 : IntKind.i64.wrap ((2 : Int) ^ h) = (N : Int) := by
          have e : ((2 : Int) ^ h) = (N : Int) := by rw [HN.out]; simp
          rw [e]
          have := HSHIFT.out.2.1
          clear hsh
          exact Tr.wrap_in _ (by omega) (by omega)
        have hadd : IntKind.i64.wrap ((i : Int) + 1) = (i : Int) + 1 := Tr.wrap_in _ (by clear hsh hsh2; omega) (by clear hsh hsh2; omega)
        clear hj hj' hi256
        go_region_held3 (fun w' => Tr.Old W w') (first | with_reducible assumption | exact Tr.Old.step ((Below.refl _ _).drew) (Tr.Old.of (Below.setCell (p := ⟨g, 0, none⟩) (Tr.Old.out (by with_reducible assumption)) hlo _)) | exact Tr.Old.of (Below.setCell (p := ⟨g, 0, none⟩) (Tr.Old.out (by with_reducible assumption)) hlo _)) (fail)
        clear hsh hsh2 hadd htm hNn y0 hOc hOd hf hlo
        go_wp2_with fail
        obtain ⟨wy, hwy⟩ : ∃ wy, wy = (wc.setCell ⟨g, 0, none⟩ (.int .i64 (j : Nat))).drew := ⟨_, rfl⟩
        rw [← hwy] at HB2 ⊢
        obtain ⟨lq, hlq⟩ : ∃ lq, lq = ls := ⟨_, rfl⟩
        obtain ⟨pq, hpq⟩ : ∃ pq, pq = lp := ⟨_, rfl⟩
        rw [← hlq] at HB2
        rw [← hpq] at HB2
        have HJ : Hid (j = i ∨ (lq = ls ∧ pq = lp)) := .inr ⟨hlq, hpq⟩
        have HSZ : Hid ((∀ s ∈ lq, s.size ≤ 300) ∧ (∀ s ∈ pq, s.size ≤ 300) ∧ lq.length = 18 ∧ pq.length = h) := ⟨by rw [hlq]; exact fun s h => by have := HX.out.2.1 s h; omega, by rw [hpq]; exact fun s h => by have := HX.out.2.2.2.1 s h; omega, by rw [hlq]; exact HX.out.2.2.2.2.1, by rw [hpq]; exact HX.out.2.2.2.2.2⟩
        clear e0 e1 e2 e3 e4 e5 hwy hkz hk' d0 d1 d2 hc hlq hpq hNz
        have hsm := same03_walk _ _ j i lq pq ls lp wy HB2.out.seal ⟨_, _, rfl, HX1.out.below HB2.out.2.1.out, HX2.out.below HB2.out.2.1.out⟩
        obtain ⟨cc, hcc⟩ : ∃ cc, cc = Sl.same j i lq pq ls lp := ⟨_, rfl⟩
        rw [← hcc] at hsm
        have HCC := Lib.hid hcc
        clear hcc
        cases cc with
        | true =>
          refine hsm.mono ?_
          clear hsm
          rintro e w5 ⟨rfl, hb⟩
          go_wp2_with fail
          go_ret
          exact ⟨rfl, HB.out.trans ((HB2.out.2.1.out.trans (hb.mono HB2.out.2.1.out.size)).mono HB.out.size)⟩
        | false =>
          refine hsm.mono ?_
          clear hsm
          rintro e w5 ⟨rfl, hb⟩
          have B5 : Hid (Tr.Old wy w5) := hb
          have O5 : Hid (Tr.Old W w5) := Tr.Old.step hb HB2.out.2.1
          obtain ⟨e0, e1, e2⟩ := HB2.out.cells w5 B5.out
          clear hb
          go_wp2_with fail
          have hv := verify_walk r1 m HZ.out.2.2.1 _ j lq pq w5 (HB2.out.seal.below B5.out.out) HSZ.out.1 HSZ.out.2.1 (HT.out.below O5.out.out)
          rw [hr1.out] at hv
          obtain ⟨cv, hcv⟩ : ∃ cv, cv = Sl.verify (Sl.pub s.data.toList h) m.data.toList (j : Nat) (Tr.bs lq) (Tr.bs pq) := ⟨_, rfl⟩
          rw [← hcv] at hv
          cases cv with
          | false =>
            refine hv.mono ?_
            clear hv hcv
            rintro e w6 ⟨rfl, hb⟩
            go_wp2_with fail
            go_ret
            exact ⟨rfl, HB.out.trans ((O5.out.out.trans (hb.mono O5.out.out.size)).mono HB.out.size)⟩
          | true =>
            have hacc := ((Sl.verify_accepts _ _ _ _ _).1 hcv.symm).2
            rw [Int.toNat_natCast] at hacc
            have HACC := Lib.hid hacc
            have HSH : Hid (Tr.Shown (Sl.made s.data.toList h 15 ++ Sl.checked m.data.toList j (Tr.bs lq) (Tr.bs pq))) := by
              refine Sl.changes_shown s.data.toList h i j m.data.toList (Tr.bs lq) (Tr.bs pq) hh4 (by rw [← HN.out]; exact HIN.out) ?_ ?_ hacc
              · rintro ⟨f1, f2, f3⟩
                have := HCC.out
                unfold Sl.same Dg.same at this
                rw [decide_eq_true (show ((j : Nat) : Int) = (i : Int) by rw [f1]), decide_eq_true (show lq.map (·.data.toList) = ls.map (·.data.toList) from f2.trans HX.out.1.out.symm), decide_eq_true (show pq.map (·.data.toList) = lp.map (·.data.toList) from f3.trans HX.out.2.2.1.out.symm)] at this
                exact Bool.noConfusion this
              · rcases HJ.out with f | ⟨rfl, rfl⟩
                · first | exact .inl rfl | exact .inl f
                · exact .inr ⟨HX.out.1.out, HX.out.2.2.1.out⟩
            refine hv.mono ?_
            clear hv hcv hacc e0 e1 e2
            rintro e wx ⟨rfl, hb⟩
            have HO : Hid (Tr.Old wy wx) := Tr.Old.step hb B5.out
            clear hb
            obtain ⟨pm, hpm⟩ : ∃ pm, pm = Sl.made s.data.toList h 15 := ⟨_, rfl⟩
            obtain ⟨pc, hpc⟩ : ∃ pc, pc = Sl.checked m.data.toList j (Tr.bs lq) (Tr.bs pq) := ⟨_, rfl⟩
            have hji : j ≤ 1000 := by
              have h1 := HACC.out.2.2.2.2.1
              have h2 : 2 ^ (Tr.bs pq).length ≤ 2 ^ 8 := Nat.pow_le_pow_right (by decide) HACC.out.2.1
              have h3 : (2 : Nat) ^ 8 = 256 := by decide
              omega
            have HJI := Lib.hid hji
            clear hji
            have HCK : Hid (∀ w', Tr.Old wx w' → Calls Tryd.prog 24 #[.string m, .agg #[.int .i64 (j : Nat), Value.slice b7 18 cap7, Value.slice b8 h cap8]] w' (OwnOut 10000 pc w')) := fun w' hw => by
              rw [hpc]
              exact checked_walk m HZ.out.2.2.1 _ j HJI.out lq pq w' (HB2.out.seal.below (HO.out.out.trans (hw.out.mono HO.out.out.size))) HSZ.out.2.2.1 (by rw [HSZ.out.2.2.2]; omega) (fun s h => Sl.dig_size (List.all_eq_true.1 HACC.out.2.2.1 _ (List.mem_map.2 ⟨s, h, rfl⟩))) HSZ.out.2.1
            have hl1 : pm.length ≤ 5000 := by rw [hpm]; exact Sl.made_len s.data.toList h 15 hh4 (by decide)
            have hl2 : pc.length ≤ 1000 := by rw [hpc]; exact Sl.checked_len _ _ _ _ (by rw [Tr.bs_len, HSZ.out.2.2.2]; omega)
            have HMD : Hid (∀ w', Calls Tryd.prog 23 #[.string s, .int .i64 h, .int .i64 15] w' (OwnOut 10000 pm w')) := fun w' => by rw [hpm]; exact made_walk s HZ.out.2.1 h 15 hh4 (by decide) (by decide) w'
            rw [← hpm, ← hpc] at HSH
            have HL := Lib.hid (And.intro hl1 hl2)
            have y0 : ∀ w', Tr.Old wx w' → w'.cell? ⟨g, 0, none⟩ = some (.int .i64 (j : Nat)) := fun w' h => (HB2.out.cells w' (HO.out.out.trans (h.out.mono HO.out.out.size))).1
            have y1 : ∀ w', Tr.Old wx w' → w'.cell? ⟨g, 1, none⟩ = some (Value.slice b7 18 cap7) := fun w' h => (HB2.out.cells w' (HO.out.out.trans (h.out.mono HO.out.out.size))).2.1
            have y2 : ∀ w', Tr.Old wx w' → w'.cell? ⟨g, 2, none⟩ = some (Value.slice b8 h cap8) := fun w' h => (HB2.out.cells w' (HO.out.out.trans (h.out.mono HO.out.out.size))).2.2
            have hO5 : Tr.Old wx wx.drew := Tr.Old.drew wx
            have HWX : Hid (Below w.heap.size w wx) := HB.out.trans ((HB2.out.2.1.out.trans (HO.out.out.mono HB2.out.2.1.out.size)).mono HB.out.size)
            clear hpm hpc hl1 hl2
            go_wp2_with fail
            go_region_held3 (fun w' => Tr.Old wx w') (first | with_reducible assumption | exact Tr.Old.step (by with_reducible assumption) (by with_reducible assumption))
              (first
                | (go_at_call 23; (with_reducible refine (HMD.out _).mono ?_); intro e w6 ho6; obtain ⟨v6, rfl, hr6, hb6⟩ := ho6.row)
                | (go_at_call 24; (with_reducible refine (HCK.out _ (by with_reducible assumption)).mono ?_); intro e w7 ho7; obtain ⟨v7, rfl, hr7, hb7⟩ := ho7.row)
                | (refine step_rowg (by rfl) (.tmp 126) (.tmp 129) rfl (hr6.below hb7) rfl rfl hr7.tx (by have := HL.out; omega) (Nat.le_trans hb6.size hb7.size) ?_; intro v8 w8 hr8 hb8; have hO8 : Tr.Old wx w8 := (Below.trans ((Below.refl wx.heap.size wx).drew.trans hb6) (hb7.mono hb6.size)).trans hb8)
                | (go_at_call 22; (with_reducible refine (refshown_tx v8 _ hr8.tx (by decide) (by rw [List.length_append]; have := HL.out; omega) HSH.out).mono ?_); rintro e w9 ⟨rfl, hb9⟩))
            have HO9 := Lib.hid (Tr.Old.step hb9 hO8)
            clear hb6 hb7 hb8 hb9 hr6 hr7 hr8 ho6 ho7 hO8 hO5 y0 y1 y2
            go_wp2_with fail
            go_ret
            exact ⟨rfl, HWX.out.trans (HO9.out.out.mono HWX.out.size)⟩

theorem law_walk (s : ByteArray) (a b : Nat) (m : ByteArray) (c : Nat) (x : ByteArray) (w : World) (_hs : s.size ≤ 9223372036854775807) (ha : a ≤ 255) (hb : b ≤ 255) (_hm : m.size ≤ 9223372036854775807) (hc : c ≤ 255) (_hx : x.size ≤ 9223372036854775807) (ht : HasTab w) :
    Calls Tryd.prog 7 #[.string s, .int .u8 a, .int .u8 b, .string m, .int .u8 c, .string x] w fun e w' => e = .returned (.bool true) ∧ Below w.heap.size w w' := by
  cases hs : Sl.short [s, m, x] with
  | false => exact w_short s m x a b c ha hb w ht hs
  | true => exact w_main s m x a b c ha hb hc w ht hs

set_option maxRecDepth 100000 in
/-- What the walk gives, for all arguments and every world that holds the tables. -/
theorem contract (H : Type) (enc : TypeId × Value → H) (W : World) (base : Nat) (args : Array Value) (ds gs : List (DataW H)) (before : List MemPlace)
    (hval : ∀ (j : Nat) t v, Tryd.f7.params[j]? = some t → args[j]? = some v → Value.okWide Tryd.prog W .any base t v)
    (hW : DataW.Whole enc Tryd.prog Tryd.f7.params.toList Rows.sealChangesSpec.vars false W args.toList ds gs before) (hL : laidMetH Tryd.prog laidAll W) :
    Calls Tryd.prog 7 args W fun e W' => ∃ v, e = .returned v ∧ Rows.sealChangesSpec.post enc Tryd.prog Tryd.f7 false true false false W args v W' := by
  have hW' := hW
  obtain ⟨p, q, hA0, hV, rfl, hfz, hnd⟩ := hW
  have hA : DataW.TrodAll enc Tryd.prog W 0 (fun _ => true) true Tryd.f7.params.toList args.toList ds p := hA0
  rw [Tryd.params7] at hA hval
  obtain ⟨v0, vs0, d0, ds0, p0, q0, hargs, rfl, rfl, h0, r0⟩ := trodAll_cons hA
  obtain ⟨v1, vs1, d1, ds1, p1, q1, rfl, rfl, rfl, h1, r1⟩ := trodAll_cons r0
  obtain ⟨v2, vs2, d2, ds2, p2, q2, rfl, rfl, rfl, h2, r2⟩ := trodAll_cons r1
  obtain ⟨v3, vs3, d3, ds3, p3, q3, rfl, rfl, rfl, h3, r3⟩ := trodAll_cons r2
  obtain ⟨v4, vs4, d4, ds4, p4, q4, rfl, rfl, rfl, h4, r4⟩ := trodAll_cons r3
  obtain ⟨v5, vs5, d5, ds5, p5, q5, rfl, rfl, rfl, h5, r5⟩ := trodAll_cons r4
  obtain ⟨rfl, rfl, rfl⟩ := trodAll_nil r5
  obtain rfl : args = #[v0, v1, v2, v3, v4, v5] := by cases args; simp_all
  obtain ⟨rfl, rfl⟩ := trodVars_none hV
  obtain ⟨a0, rfl, _, _, g0⟩ := open_string Tryd.underlying9 (hval 0 9 v0 rfl rfl) h0
  obtain ⟨z1, rfl, _, _, g1⟩ := open_int Tryd.underlying5 (hval 1 5 v1 rfl rfl) h1
  obtain ⟨n1, rfl⟩ := Int.eq_ofNat_of_zero_le (bounds_u8 g1).1
  obtain ⟨z2, rfl, _, _, g2⟩ := open_int Tryd.underlying5 (hval 2 5 v2 rfl rfl) h2
  obtain ⟨n2, rfl⟩ := Int.eq_ofNat_of_zero_le (bounds_u8 g2).1
  obtain ⟨a3, rfl, _, _, g3⟩ := open_string Tryd.underlying9 (hval 3 9 v3 rfl rfl) h3
  obtain ⟨z4, rfl, _, _, g4⟩ := open_int Tryd.underlying5 (hval 4 5 v4 rfl rfl) h4
  obtain ⟨n4, rfl⟩ := Int.eq_ofNat_of_zero_le (bounds_u8 g4).1
  obtain ⟨a5, rfl, _, _, g5⟩ := open_string Tryd.underlying9 (hval 5 9 v5 rfl rfl) h5
  refine (law_walk a0 n1 n2 a3 n4 a5 W (le_of_max g0) (Int.ofNat_le.1 (bounds_u8 g1).2) (Int.ofNat_le.1 (bounds_u8 g2).2) (le_of_max g3) (Int.ofNat_le.1 (bounds_u8 g4).2) (le_of_max g5) (hasTab hL)).mono fun e W' ⟨he, hg⟩ => ?_
  subst he
  exact ⟨_, rfl, post_lawS rfl rfl rfl rfl rfl (by rw [Tryd.params7]; decide) hW' hg⟩

theorem laid_met (os : Os) : laidMet Tryd.prog Rows.sealChangesRow.laid ((laidWorld os).forCall (fun _ _ => 0) ⟨#[], #[.string ⟨#[]⟩, .int .u8 0, .int .u8 0, .string ⟨#[]⟩, .int .u8 0, .string ⟨#[]⟩], []⟩).memory :=
  laidMet_of_run' 8 (by kernel_rfl) (by kernel_rfl)
theorem reads (os : Os) {H : Type} (enc : TypeId × Value → H) : ∃ places, DataW.whole enc Tryd.prog ((laidWorld os).forCall (fun _ _ => 0) ⟨#[], #[.string ⟨#[]⟩, .int .u8 0, .int .u8 0, .string ⟨#[]⟩, .int .u8 0, .string ⟨#[]⟩], []⟩).memory Tryd.f7.params.toList Rows.sealChangesSpec.vars false #[Value.string ⟨#[]⟩, Value.int .u8 0, Value.int .u8 0, Value.string ⟨#[]⟩, Value.int .u8 0, Value.string ⟨#[]⟩].toList 8 = some ([.lit (.string []), .lit (.int .u8 0), .lit (.int .u8 0), .lit (.string []), .lit (.int .u8 0), .lit (.string [])], [], places) :=
  ⟨[], by kernel_rfl⟩

set_option maxRecDepth 100000 in
theorem lifted (os : Os) (started : os.Started) (H : Type) (enc : TypeId × Value → H) (F : Stop.Interp) :
    ReturnsInHanded {} Tryd.checked os 7 .any ((OpenSpec.ofChange Rows.sealChangesSpec).preRow enc Tryd.prog Tryd.f7 Rows.sealChangesRow.domain false Rows.sealChangesRow.laid) (((OpenSpec.ofChange Rows.sealChangesSpec).at F).post enc Tryd.prog Tryd.f7 false true false false) := by
  obtain ⟨places, hx⟩ := reads os enc
  refine returnsInHanded_of_row (C := Tryd.checked) (s := OpenSpec.ofChange Rows.sealChangesSpec) own started (by kernel_rfl) Tryd.func7
    (witness_row_at (enc := enc) (C := Tryd.checked) false (laidWorld os) #[.string ⟨#[]⟩, .int .u8 0, .int .u8 0, .string ⟨#[]⟩, .int .u8 0, .string ⟨#[]⟩] rfl (by kernel_rfl) (by kernel_rfl) (by kernel_rfl)
      (OpenSpec.preRow_of_cond 8 hx (by kernel_rfl) (fun k hk => by cases hk) (by kernel_rfl) (laid_met os))) ?_
  intro W base args ds gs before hval hW _ _ _ hL _ _
  exact contract H enc W base args ds gs before hval hW hL

theorem said : Rows.SealChangesSaid :=
  OpenClaim.holds_of_cond 7 Tryd.f7 rfl rfl rfl rfl rfl rfl rfl ⟨rfl, rfl, rfl, rfl, rfl⟩ rfl rfl rfl rfl rfl (by kernel_rfl) Tryd.func7 (by kernel_rfl)
    (of_decide_eq_true (by kernel_rfl)) (by unfold Func.isWrapper; first | (rw [if_pos (by decide +kernel)]; kernel_rfl) | (rw [if_neg (by decide +kernel)]; exact ⟨rfl, rfl⟩))
    (fun os started H enc _ F => by rw [OpenClaim.pre_eq_preRow]; exact lifted os started H enc F)

set_option maxRecDepth 100000 in
/-- No parameter wants a stand-in; the program's own looks are off: what the card asks. -/
theorem plain (f : FuncId) (fn : Func) (hf : Tryd.pinned.checked.prog.funcNamed "pandect/pandectlaw03.SealChanges" = some f) (hfn : Tryd.pinned.checked.prog.funcs[f]? = some fn) :
    false = Tryd.pinned.checked.prog.looks [] ∧ ∀ (j : Nat) t, fn.params[j]? = some t → Tryd.pinned.checked.prog.wantsStandIn t = false := by
  obtain rfl : f = 7 := Option.some.inj ((show Tryd.prog.funcNamed "pandect/pandectlaw03.SealChanges" = some 7 by kernel_rfl).symm.trans hf) |>.symm
  obtain rfl : fn = Tryd.f7 := (Option.some.inj (Tryd.func7.symm.trans hfn)).symm
  refine ⟨by kernel_rfl, fun j t ht => ?_⟩
  rw [Tryd.params7] at ht
  have hm := Array.mem_of_getElem? ht
  simp only [List.mem_toArray, List.mem_cons, List.not_mem_nil, or_false] at hm
  rcases hm with rfl | rfl | rfl | rfl | rfl | rfl
  · exact wants_string
  · exact wants_u8
  · exact wants_u8
  · exact wants_string
  · exact wants_u8
  · exact wants_string

theorem card : Rows.SealChangesCardSaid :=
  Claim7.holds_tied_plain_at .later [] _ _ _ _ said (fun _ h => by cases h) (by kernel_rfl) (fun _ h => by cases h) sealChanges_row_tie rfl ⟨rfl, rfl⟩ (by kernel_rfl) rfl plain (by kernel_rfl)
end Go.Proofs.YthhfcijgcpnfcaaDoor.sealChanges
