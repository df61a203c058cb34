import Derived.Test.YthhfcijgcpnfcaaDoorKSDigits
import Derived.Test.YthhfcijgcpnfcaaDoorKSKeys
import Derived.Test.YthhfcijgcpnfcaaDoorKSCheck
import Derived.Test.YthhfcijgcpnfcaaDoorKROwn2
import Derived.Deep.RegionHeld3
import Derived.Maps.AppendAt
/-
  The walk of seal.Verify.
-/
namespace Go.Proofs.YthhfcijgcpnfcaaDoor
open Go.RowKit Go.Shelf

attribute [local go_sem] Oper.semAt_some

/-- A seal as a value. -/
def IsSeal (w : World) (v : Value) (i : Int) (ls lp : List ByteArray) : Prop :=
  ∃ vs vp, v = .agg #[.int .i64 i, vs, vp] ∧ IsTx w vs ls ∧ IsTx w vp lp
theorem IsSeal.below {w w' : World} {v : Value} {i : Int} {ls lp : List ByteArray} (h : IsSeal w v i ls lp) (hb : Below w.heap.size w w') : IsSeal w' v i ls lp := by
  obtain ⟨vs, vp, e, h1, h2⟩ := h
  exact ⟨vs, vp, e, h1.below hb, h2.below hb⟩

theorem bool_size : (Tryd.prog.info? 4).map (·.size) = some 1 := by kernel_rfl
theorem verify_results (tmps : Array Value) (w : World) (g : Nat) (v : Value) (hp : tmps.getD 6 undef = .pointer (some ⟨g, 0, none⟩)) (hg : w.cell? ⟨g, 0, none⟩ = some v) :
    (results Tryd.f18 tmps).run Tryd.prog w = .ok v w := by
  have hp' : tmps[6]?.getD undef = .pointer (some ⟨g, 0, none⟩) := by simpa using hp
  simp [results, Tryd.f18, hp', go_sem, hg]

set_option maxHeartbeats 2000000 in
set_option maxRecDepth 100000 in
theorem verify_bad (pb m : ByteArray) (v : Value) (i : Int) (ls lp : List ByteArray) (w : World) (hv : IsSeal w v i ls lp) (hn : ¬ (ls.length = 18 ∧ lp.length ≤ 8)) :
    Calls Tryd.prog 18 #[.string pb, .string m, v] w (BoolOut (Sl.verify pb.data.toList m.data.toList i (Tr.bs ls) (Tr.bs lp)) w) := by
  have e : Sl.verify pb.data.toList m.data.toList i (Tr.bs ls) (Tr.bs lp) = false := by
    by_cases h18 : ls.length = 18
    · exact Sl.verify_long _ _ _ _ _ (by rw [Tr.bs_len]; exact fun h => hn ⟨h18, h⟩)
    · exact Sl.verify_len _ _ _ _ _ (by rw [Tr.bs_len]; exact h18)
  rw [e]
  clear e
  obtain ⟨vs, vp, rfl, ⟨a1, c1, rfl, _, _, _⟩, ⟨a2, c2, rfl, _, _, _⟩⟩ := hv
  have hb := beside_le (w := w) (.cells #[.int .i64 i, .slice a1 ls.length c1, .slice a2 lp.length c2] 24) (.cells #[.bool false] 4)
  have hc := cell_new2 w (.cells #[.int .i64 i, .slice a1 ls.length c1, .slice a2 lp.length c2] 24) (.bool false) 4
  refine (callsIn_wide (n := 5)).1 (callsIn_of_wp_marks Tryd.func18 rfl trivial (wpIn_wide.2 ?_) rfl)
  simp only [Tryd.ntmps18, List.size_toArray, List.length_cons, List.length_nil, Nat.reduceAdd, Nat.reduceSub, Array.replicate_succ, Array.replicate_zero, List.push_toArray, List.append_toArray, List.nil_append, List.cons_append]
  by_cases h18 : ls.length = 18
  · have h8 : (8 : Int) < (lp.length : Int) := by have : ¬ lp.length ≤ 8 := fun h => hn ⟨h18, h⟩; omega
    have hq : ((ls.length : Int) != 18) = false := by rw [h18]; rfl
    clear hn h18
    go_wp2_with fail
    exact ⟨_, verify_results _ _ (w.heap.size + 1) _ rfl hc, rfl, hb⟩
  · have hq : ((ls.length : Int) != 18) = true := by simp; omega
    clear hn
    go_wp2_with fail
    exact ⟨_, verify_results _ _ (w.heap.size + 1) _ rfl hc, rfl, hb⟩

theorem Sl.list_get (ls : List ByteArray) (k : Nat) (h : k < ls.length) : (ls.getD k ByteArray.empty).data.toList = (Tr.bs ls).getD k [] := by
  rw [Dg.getD_eq ls k h, List.getD_eq_getElem?_getD, List.getElem?_map, List.getElem?_eq_getElem h]; rfl
theorem Sl.cends_list (m : Tr.T) (ls : List ByteArray) (h18 : ls.length = 18) : Sl.upTo (fun k => Dg.chain (ls.getD k ByteArray.empty).data.toList (15 - Sl.dg m k)) 18 = Sl.cends m (Tr.bs ls) := by
  rw [Sl.upTo, Sl.cends]
  refine List.map_congr_left fun k hk => ?_
  rw [Sl.list_get ls k (by rw [h18]; exact List.mem_range.1 hk)]
theorem Sl.all_of {ls : List ByteArray} (h : ∀ k, k < ls.length → Dg.isDigest (ls.getD k ByteArray.empty).data.toList = true) : (Tr.bs ls).all Dg.isDigest = true := by
  refine List.all_eq_true.2 fun x hx => ?_
  obtain ⟨s, hs, rfl⟩ := List.mem_map.1 hx
  obtain ⟨k, hk, rfl⟩ := List.getElem_of_mem hs
  rw [← Dg.getD_eq ls k hk]
  exact h k hk
theorem Sl.all_not {ls : List ByteArray} (k : Nat) (hk : k < ls.length) (h : Dg.isDigest (ls.getD k ByteArray.empty).data.toList = false) : (Tr.bs ls).all Dg.isDigest = false := by
  rw [List.all_eq_false]
  refine ⟨(ls.getD k ByteArray.empty).data.toList, ?_, by rw [h]; decide⟩
  rw [Dg.getD_eq ls k hk]
  exact List.mem_map.2 ⟨_, List.getElem_mem _, rfl⟩
theorem Sl.dig_size {s : ByteArray} (h : Dg.isDigest s.data.toList = true) : s.size ≤ 16 := by
  rw [Dg.isDigest, Bool.and_eq_true, beq_iff_eq, Dg.len_data] at h
  omega

theorem Sl.chs_own (B : Nat) (r : Nat → ByteArray) (l : Nat → Nat) : Own (fun (pre : List (Fin 18)) W => Sl.Chs B r l (fun j => pre.any fun k => k.1 == j) W) := fun s X Y row h hg hr =>
  (hg.block B (Sl.Chs.lt h) (fun e => by
    obtain ⟨o, ho, hc⟩ := hr B e.symm
    rw [show X.heap[B]? = _ from h] at ho
    cases ho
    cases hc)).trans h

/-- What the last statement of Verify keeps. -/
structure VSt (H : Nat) (R : Nat → ByteArray) (L : Nat → Nat) (W w' : World) : Prop where
  old : Below (H + 1) W w'
  chs : Sl.Chs (H + 1 + 1) R L (fun _ => true) w'
theorem VSt.step {H : Nat} {R : Nat → ByteArray} {L : Nat → Nat} {W w1 w2 : World} (hb : Below w1.heap.size w1 w2) (h : VSt H R L W w1) : VSt H R L W w2 :=
  ⟨h.old.trans (hb.mono (by have := h.chs.lt; omega)), h.chs.below hb⟩
theorem VSt.store {H : Nat} {R : Nat → ByteArray} {L : Nat → Nat} {W w1 : World} (v : Value) (h : VSt H R L W w1) : VSt H R L W (w1.setCell ⟨H + 1, 0, none⟩ v) :=
  ⟨h.old.setCell (Nat.le_refl _) v, (Below.heap_setCell w1 ⟨H + 1, 0, none⟩ v (H + 1 + 1) (by show H + 1 + 1 ≠ H + 1; omega)).trans h.chs⟩

set_option maxHeartbeats 1000000 in
set_option maxRecDepth 100000 in
theorem verify_ok (pb m : ByteArray) (hm : m.size ≤ 300) (v : Value) (i : Int) (ls lp : List ByteArray) (w : World) (hv : IsSeal w v i ls lp) (hz : ∀ s ∈ ls, s.size ≤ 300) (hzp : ∀ s ∈ lp, s.size ≤ 300) (h18 : ls.length = 18) (h8 : lp.length ≤ 8) (ht : HasTab w) :
    Calls Tryd.prog 18 #[.string pb, .string m, v] w (BoolOut (Sl.verify pb.data.toList m.data.toList i (Tr.bs ls) (Tr.bs lp)) w) := by
  obtain ⟨vs, vp, rfl, hs, hp⟩ := hv
  have HP := Lib.hid hp
  obtain ⟨a1, c1, rfl, h11, h12, h13⟩ := hs
  obtain ⟨b1, o1, rfl, hb1, hc1⟩ := h13 (by intro e; rw [e] at h18; cases h18)
  obtain ⟨a2, c2, rfl, h21, h22, _⟩ := hp
  have HC1 : Hid (∀ j, j < 18 → w.cell? ⟨b1, o1 + j, none⟩ = some (.string (ls.getD j ByteArray.empty))) := fun j hj => hc1 j (by omega)
  have HT := Lib.hid ht
  have HZ : Hid (∀ j, j < 18 → (ls.getD j ByteArray.empty).size ≤ 300) := fun j hj => by rw [Dg.getD_eq ls j (by omega)]; exact hz _ (List.getElem_mem _)
  have HZP := Lib.hid hzp
  have H18 := Lib.hid h18
  have h8' : (lp.length : Int) ≤ 8 := by omega
  rw [h18] at h11 ⊢
  clear hc1 hz hzp h18 h13 ht
  refine (callsIn_wide (n := 5)).1 (callsIn_of_wp_marks Tryd.func18 rfl trivial (wpIn_wide.2 ?_) rfl)
  simp only [Tryd.ntmps18, List.size_toArray, List.length_cons, List.length_nil, Nat.reduceAdd, Nat.reduceSub, Array.replicate_succ, Array.replicate_zero, List.push_toArray, List.append_toArray, List.nil_append, List.cons_append]
  go_wp2_with fail
  refine (digits_made m _).mono ?_
  rintro e w7 ⟨rfl, rfl⟩
  go_wp2_with fail
  obtain ⟨R, hR⟩ : ∃ R : Nat → ByteArray, R = fun j => ls.getD j ByteArray.empty := ⟨_, rfl⟩
  obtain ⟨L, hL⟩ : ∃ L : Nat → Nat, L = fun j => 15 - Sl.dg m.data.toList j := ⟨_, rfl⟩
  rw [← Sl.chs_none R L]
  obtain ⟨W2, hW2⟩ : ∃ W2, W2 = ((w.alloc (.cells #[.int .i64 i, .slice (some ⟨b1, o1, none⟩) 18 c1, .slice a2 lp.length c2] 24)).alloc (.cells #[.bool false] 4)) := ⟨_, rfl⟩
  rw [← hW2]
  have hs2 : W2.heap.size = w.heap.size + 2 := by rw [hW2]; simp
  have hb2 : Below w.heap.size w W2 := by rw [hW2]; exact beside_le _ _
  have hk0 : W2.heap[w.heap.size]? = some (.cells #[.int .i64 i, .slice (some ⟨b1, o1, none⟩) 18 c1, .slice a2 lp.length c2] 24 (0, 0)) := by
    rw [hW2, Below.heap_alloc _ _ _ (by simp)]; exact heap_alloc_new _ _
  have hk1 : W2.heap[w.heap.size + 1]? = some (.cells #[.bool false] 4 (0, 0)) := by
    rw [hW2]; have := heap_alloc_new (w.alloc (.cells #[.int .i64 i, .slice (some ⟨b1, o1, none⟩) 18 c1, .slice a2 lp.length c2] 24)) (.cells #[.bool false] 4); simpa using this
  clear hW2
  obtain ⟨W7, hW7⟩ : ∃ W7, W7 = ((W2.alloc (.cells (Sl.chs R L fun _ => false) 62)).alloc (.cells #[.string m] 9)) := ⟨_, rfl⟩
  rw [← hW7]
  have hs7 : W7.heap.size = W2.heap.size + 2 := by rw [hW7]; simp
  have hb7 : Below W2.heap.size W2 W7 := by rw [hW7]; exact beside_le _ _
  have hch0 : Sl.Chs (w.heap.size + 1 + 1) R L (fun j => ([] : List (Fin 18)).any fun k => k.1 == j) W7 := by
    have := Sl.Chs.below (Sl.Chs.new W2 R L) ((Below.refl _ _).alloc (Nat.le_refl _) (.cells #[.string m] 9))
    rw [hs2, ← hW7] at this
    exact this
  have hcm : W7.cell? ⟨w.heap.size + 1 + 1 + 1, 0, none⟩ = some (.string m) := by
    have := cell_new2 W2 (.cells (Sl.chs R L fun _ => false) 62) (.string m) 9
    rw [← hW7, hs2] at this
    exact this
  clear hW7
  have hRd : ∀ j, j < 18 → (R j).size ≤ 300 := fun j hj => by rw [hR]; exact HZ.out j hj
  have hC1 : ∀ w', Below W2.heap.size W2 w' → ∀ j, j < 18 → w'.cell? ⟨b1, o1 + j, none⟩ = some (.string (R j)) := fun w' hw j hj => by
    rw [(hb2.trans (hw.mono hb2.size)).cell (p := ⟨b1, o1 + j, none⟩) hb1, HC1.out j hj, hR]
  have HRL := Lib.hid (And.intro hR hL)
  have HRD := Lib.hid hRd
  have HCC := Lib.hid hC1
  clear hR hL hRd hC1
  have h9 := enters_of Tryd.func62 (by kernel_rfl) rfl
  have h8s := digits_stops 4 (by omega) (w.heap.size + 1 + 1 + 1) m (by omega) W7 hcm
  have h1 := Sl.chs_own (w.heap.size + 1 + 1) R L
  have h2 : OwnFrom W7.heap.size (fun (pre : List (Fin 18)) W => (∀ k ∈ pre, Dg.isDigest (R k.1).data.toList = true) ∧ Below W2.heap.size W2 W) := OwnFrom.and (ownFrom_pure _ _) (ownFrom_below (Nat.le_refl _) (by omega))
  have hI := (h1.from W7.heap.size).and h2
  have h3 : ∀ c : Code, OwnFrom W7.heap.size (fun (pre : List (Fin 18)) W => (c = .ret ∧ (Tr.bs ls).all Dg.isDigest = false) ∧ W.cell? ⟨w.heap.size + 1, 0, none⟩ = some (.bool false) ∧ Below w.heap.size w W) := fun c =>
    OwnFrom.and (ownFrom_pure _ _) (OwnFrom.and (Own.from (fun s A B row hs hg hr => cell_kept hs hg hr) _) (ownFrom_below (Nat.le_refl _) (by omega)))
  clear h1 h2
  refine (wpIn_wide (n := 5)).1 ?_
  refine wpIn_rangeFunc_ownG rfl (by omega) (gf := 62) (lb := #[.pointer (some ⟨w.heap.size + 1 + 1 + 1, 0, none⟩)]) rfl trivial h9 h8s (fun _ _ => trivial) (fun _ _ _ _ _ _ _ _ => trivial) (Below.refl _ _) (fun _ => rfl) _ _ hI h3
    ⟨hch0, by simp, hb7⟩
    (fun x => { tmps := #[.string pb, .string m, .agg #[.int .i64 i, .slice (some ⟨b1, o1, none⟩) 18 c1, .slice a2 lp.length c2], undef, undef, .pointer (some ⟨w.heap.size, 0, none⟩), .pointer (some ⟨w.heap.size + 1, 0, none⟩), .pointer (some ⟨w.heap.size + 1 + 1, 0, none⟩), .int .i64 (x.1 : Nat), .int .i64 (Sl.dg m.data.toList x.1 : Nat), .pointer (some ⟨w.heap.size, 1, none⟩), .slice (some ⟨b1, o1, none⟩) 18 c1, .int .i64 18, .bool false, .bool false, .pointer (some ⟨w.heap.size, 2, none⟩), .slice a2 lp.length c2, .int .i64 lp.length, .bool (decide (8 < (lp.length : Int))), .bool (decide (8 < (lp.length : Int))), .string m, .func (.func 62) #[] #[.pointer (some ⟨w.heap.size + 1 + 1 + 1, 0, none⟩)], .int .i64 (x.1 : Nat), .int .i64 (Sl.dg m.data.toList x.1 : Nat), undef, undef, undef, undef, undef, undef, undef, undef, undef, undef, undef, undef, undef, undef, undef, undef, undef, undef, undef, undef, undef, undef, undef, undef, undef, undef, undef, undef, undef], defers := [] }) ?assign ?body ?done ?stop
  case assign =>
    intro l x W K hK
    gi_wp2
    exact hK
  case body =>
    rintro l pre ⟨k, hk⟩ W ⟨hch, hdg, hB⟩ hlt
    dsimp only
    obtain ⟨d, hd⟩ : ∃ d, d = Sl.dg m.data.toList k := ⟨_, rfl⟩
    rw [← hd]
    have hd15 : d ≤ 15 := by rw [hd]; exact Sl.dg_le _ _ hk
    have hbk : W.heap[w.heap.size]? = some (.cells #[.int .i64 i, .slice (some ⟨b1, o1, none⟩) 18 c1, .slice a2 lp.length c2] 24 (0, 0)) := (Below.block hB _ (by omega)).trans hk0
    have hbl : W.heap[w.heap.size + 1]? = some (.cells #[.bool false] 4 (0, 0)) := (Below.block hB _ (by omega)).trans hk1
    have d1 : W.cell? ⟨w.heap.size, 1, none⟩ = some (.slice (some ⟨b1, o1, none⟩) 18 c1) := Joins.cell_of_block hbk 1
    have e1 : W.cell? ⟨b1, o1 + k, none⟩ = some (.string (R k)) := HCC.out W hB k hk
    have g1 : W.cell? ⟨w.heap.size + 1, 0, none⟩ = some (.bool false) := Joins.cell_of_block hbl 0
    have g2 := Joins.unfrozen_of_block hbl 0
    have x1 := hch.even k hk
    have x2 := hch.odd k hk
    have x3 := hch.free (k * 2)
    have x4 := hch.free (k * 2 + 1)
    have hLk : L k = 15 - d := by rw [HRL.out.2, hd]
    have HSET := Lib.hid (hch.set k hk)
    have HDG := Lib.hid hdg
    have HLK := Lib.hid hLk
    have hrk := HRD.out k hk
    clear hd hbk hbl hch hdg hLk
    cases hq : Dg.isDigest (R k).data.toList with
    | true =>
      have HQ := Lib.hid hq
      clear hq
      gi_wp2
      refine ⟨trivial, (CallsIn.inRound l (callsIn_wide.2 (is_true (R k) (by omega) HQ.out W))).mono ?_⟩
      rintro e w3 ⟨rfl, rfl⟩
      gi_wp2
      have hset := HSET.out
      rw [show ((L k : Nat) : Int) = 15 - (d : Int) by rw [HLK.out]; omega] at hset
      have hB5 := (hB.setCell (p := ⟨w.heap.size + 1 + 1, k * 2, none⟩) (by show W2.heap.size ≤ w.heap.size + 1 + 1; omega) (.string (R k))).setCell (p := ⟨w.heap.size + 1 + 1, k * 2 + 1, none⟩) (by show W2.heap.size ≤ w.heap.size + 1 + 1; omega) (.int .i64 (15 - (d : Int)))
      refine ⟨((KeepsOthers.setCell _ _ _).trans (KeepsOthers.setCell _ _ _)).from _, trivial, hset.congr (fun j _ => ?_), fun x hx => ?_, hB5⟩
      · rw [List.any_append, List.any_cons, List.any_nil, Bool.or_false, Bool.beq_comm]
      · rcases List.mem_append.1 hx with hx | hx
        · exact HDG.out x hx
        · rw [List.mem_singleton] at hx
          subst hx
          exact HQ.out
    | false =>
      have HQ := Lib.hid hq
      clear hq
      gi_wp2
      refine ⟨trivial, (CallsIn.inRound l (callsIn_wide.2 (is_false (R k) (by omega) HQ.out W))).mono ?_⟩
      rintro e w3 ⟨rfl, rfl⟩
      gi_wp2
      have hB5 := (hb2.trans (hB.mono hb2.size)).setCell (p := ⟨w.heap.size + 1, 0, none⟩) (by show w.heap.size ≤ w.heap.size + 1; omega) (.bool false)
      refine ⟨(KeepsOthers.setCell _ _ _).from _, ⟨rfl, Sl.all_not k (by rw [H18.out]; exact hk) ?_⟩, World.cell?_setCell_same' _ _ _ (by rw [g1]; rfl), hB5⟩
      rw [← HQ.out, HRL.out.1]
  case done =>
    rintro D ys W hD rfl ⟨hch, hdg, hB⟩ hK
    have hdj : ∀ j, j < 18 → Dg.isDigest (R j).data.toList = true := fun j hj => hdg ⟨j, hj⟩ (by simp)
    have hall : (Tr.bs ls).all Dg.isDigest = true := Sl.all_of fun k hk => by
      have := hdj k (by rw [← H18.out]; exact hk)
      rw [HRL.out.1] at this
      exact this
    obtain ⟨n, hn⟩ : ∃ n, n = 2 ^ lp.length := ⟨_, rfl⟩
    have hn8 : n ≤ 256 := by rw [hn]; exact Nat.le_trans (Nat.pow_le_pow_right (by decide) h8) (by decide)
    have hsh : IntKind.i64.wrap ((2 : Int) ^ lp.length) = (n : Int) := by
      have e : ((2 : Int) ^ lp.length) = ((n : Nat) : Int) := by rw [hn]; simp
      rw [e]
      exact Tr.wrap_in (n : Int) (by omega) (by omega)
    have hbk : W.heap[w.heap.size]? = some (.cells #[.int .i64 i, .slice (some ⟨b1, o1, none⟩) 18 c1, .slice a2 lp.length c2] 24 (0, 0)) := (Below.block hB _ (by omega)).trans hk0
    have hbl : W.heap[w.heap.size + 1]? = some (.cells #[.bool false] 4 (0, 0)) := (Below.block hB _ (by omega)).trans hk1
    have hzW : W2.heap.size ≤ W.heap.size := hB.size
    have hch18 : Sl.Chs (w.heap.size + 1 + 1) R L (fun _ => true) W := hch.congr fun j hj => by
      rw [List.any_eq_true]
      exact ⟨⟨j, hj⟩, by simp, by simp⟩
    have hS0 : VSt w.heap.size R L W W.drew := ⟨(Below.refl _ _).drew, hch18⟩
    have d0 : ∀ w', VSt w.heap.size R L W w' → w'.cell? ⟨w.heap.size, 0, none⟩ = some (.int .i64 i) := fun w' hw => (hw.old.cell (p := ⟨w.heap.size, 0, none⟩) (by show w.heap.size < _; omega)).trans (Joins.cell_of_block hbk 0)
    have d2 : ∀ w', VSt w.heap.size R L W w' → w'.cell? ⟨w.heap.size, 2, none⟩ = some (.slice a2 lp.length c2) := fun w' hw => (hw.old.cell (p := ⟨w.heap.size, 2, none⟩) (by show w.heap.size < _; omega)).trans (Joins.cell_of_block hbk 2)
    have g0 : Hid (∀ w', Below W.heap.size W w' → w'.cell? ⟨w.heap.size + 1, 0, none⟩ = some (.bool false)) := fun w' hw => (hw.cell (p := ⟨w.heap.size + 1, 0, none⟩) (by show w.heap.size + 1 < _; omega)).trans (Joins.cell_of_block hbl 0)
    have g1 : Hid (∀ w', Below W.heap.size W w' → w'.frozen? ⟨w.heap.size + 1, 0, none⟩ = false) := fun w' hw => Joins.unfrozen_of_block ((hw.block _ (by omega)).trans hbl) 0
    have hBw := hb2.trans (hB.mono hb2.size)
    have HKY : Hid (∀ w', VSt w.heap.size R L W w' → Calls Tryd.prog 41 #[.slice (some ⟨w.heap.size + 1 + 1, 0, none⟩) 18 18] w' (Digs (Tr.li (Sl.cends m.data.toList (Tr.bs ls))) w')) := fun w' hw => by
      have := onekey_walk (w.heap.size + 1 + 1) R L w' hw.chs.lt (hw.chs.all fun _ _ => rfl) (fun j hj => Sl.dig_size (hdj j hj)) (fun j hj => by rw [HRL.out.2]; exact Nat.sub_le _ _) (HT.out.below (hBw.trans (hw.old.mono (by omega))))
      rw [HRL.out.1, HRL.out.2, Sl.cends_list _ _ H18.out] at this
      exact this
    have HCK : Hid (∀ w' (r : ByteArray), VSt w.heap.size R L W w' → r.size ≤ 16 → Hid (r.data.toList = Tr.li (Sl.cends m.data.toList (Tr.bs ls))) → Calls Tryd.prog 40 #[.string pb, .int .i64 (IntKind.i64.wrap ((2 : Int) ^ lp.length)), .int .i64 i, .string r, .slice a2 lp.length c2] w' (BoolOut (Sl.verify pb.data.toList m.data.toList i (Tr.bs ls) (Tr.bs lp)) w')) := fun w' r hw hz hr => by
      have hx := hBw.trans (hw.old.mono (by omega))
      have := check_walk3 pb r (by omega) n i _ lp w' (HT.out.below hx) (HP.out.below hx) HZP.out
      rw [hsh, Sl.verify_check _ _ _ _ _ (by rw [Tr.bs_len]; exact H18.out) (by rw [Tr.bs_len]; exact h8) hall, ← hr.out, Tr.bs_len, ← hn]
      exact this
    have HBW := Lib.hid hBw
    have hsz := hs2
    have HK := Lib.hid hK
    obtain ⟨ans, hans⟩ : ∃ ans, ans = Sl.verify pb.data.toList m.data.toList i (Tr.bs ls) (Tr.bs lp) := ⟨_, rfl⟩
    rw [← hans] at HCK ⊢
    have HANS := Lib.hid hans
    clear hch hdg hB hdj hall hn hbk hbl hBw hch18 hI h3 h9 h8s hk0 hk1 hK hch0 hcm hb7 hans hsh
    go_wp2_with fail
    go_region_held3 (fun w' => VSt w.heap.size R L W w') (first | exact hS0 | exact VSt.step (by with_reducible assumption) (by with_reducible assumption) | exact VSt.store _ (by with_reducible assumption))
      (first
        | (go_at_call 41; (with_reducible refine (HKY.out _ (by with_reducible assumption)).mono ?_); rintro e w4 ⟨q4, rfl, hq4, hz4, hb4⟩)
        | (go_at_call 40; (with_reducible refine (HCK.out _ q4 (by with_reducible assumption) hz4 hq4).mono ?_); rintro e w5 ⟨rfl, hb5⟩; have hb45 := Below.trans ((Below.refl _ W).drew.trans hb4) (hb5.mono ((Below.refl _ W).drew.trans hb4).size); have hc5 := g0.out _ hb45; have hf5 := g1.out _ hb45))
    have HDW := Lib.hid hb45
    have HC5 := Lib.hid hc5
    clear hb4 hb5 hb45 hq4
    go_wp2_with fail
    have hDlt : D < W.heap.size := (Array.getElem?_eq_some_iff.1 HK.out).1
    have hKK := (KeepsOthers.setCell w5 ⟨w.heap.size + 1, 0, none⟩ (.bool ans)).same D _ ((HDW.out.block D hDlt).trans HK.out) rfl
    refine ⟨by simp, .inl ⟨_, _, rfl, run_takeDeferred hKK, ?_⟩⟩
    have hc6 : (w5.setCell ⟨w.heap.size + 1, 0, none⟩ (.bool ans)).cell? ⟨w.heap.size + 1, 0, none⟩ = some (.bool ans) := World.cell?_setCell_same' _ _ _ (by rw [HC5.out]; rfl)
    have hc7 := cell_kept hc6 (grownBy_putObj' _ D (.deferred none)) (fun r e => by cases e; exact ⟨_, hKK, rfl⟩)
    refine ⟨_, verify_results _ _ (w.heap.size + 1) _ rfl hc7, ?_⟩
    have hB5 := (HBW.out.trans (HDW.out.mono HBW.out.size)).setCell (p := ⟨w.heap.size + 1, 0, none⟩) (by show w.heap.size ≤ w.heap.size + 1; omega) (.bool ans)
    exact ⟨by rw [HANS.out], hB5.trans (belowK_b (w := w) (Nat.le_refl _) _ D _ (.deferred none) (by omega) hKK rfl rfl)⟩
  case stop =>
    rintro D c pre W hD _ ⟨⟨rfl, hnd⟩, hcr, hB⟩ hK
    gi_wp2
    refine ⟨by simp, .inl ⟨_, _, rfl, run_takeDeferred hK, ?_⟩⟩
    have hc5 := cell_kept hcr (grownBy_putObj' _ D (.deferred none)) (fun r e => by cases e; exact ⟨_, hK, rfl⟩)
    refine ⟨_, verify_results _ _ (w.heap.size + 1) _ rfl hc5, ?_⟩
    exact ⟨by rw [Sl.verify_nodig _ _ _ _ _ hnd], hB.trans (belowK_b (w := w) (Nat.le_refl _) W D _ (.deferred none) (by omega) hK rfl rfl)⟩

/-- seal.Verify answers as the arithmetic says. -/
theorem verify_walk (pb m : ByteArray) (hm : m.size ≤ 300) (v : Value) (i : Int) (ls lp : List ByteArray) (w : World) (hv : IsSeal w v i ls lp) (hz : ∀ s ∈ ls, s.size ≤ 300) (hzp : ∀ s ∈ lp, s.size ≤ 300) (ht : HasTab w) :
    Calls Tryd.prog 18 #[.string pb, .string m, v] w (BoolOut (Sl.verify pb.data.toList m.data.toList i (Tr.bs ls) (Tr.bs lp)) w) := by
  by_cases h : ls.length = 18 ∧ lp.length ≤ 8
  · exact verify_ok pb m hm v i ls lp w hv hz hzp h.1 h.2 ht
  · exact verify_bad pb m v i ls lp w hv h
end Go.Proofs.YthhfcijgcpnfcaaDoor
