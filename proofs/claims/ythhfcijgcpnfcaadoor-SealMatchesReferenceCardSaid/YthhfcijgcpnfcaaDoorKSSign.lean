import Derived.Test.YthhfcijgcpnfcaaDoorKSDigits
import Derived.Test.YthhfcijgcpnfcaaDoorKSRound
import Derived.Test.YthhfcijgcpnfcaaDoorKSPub
import Derived.Test.YthhfcijgcpnfcaaDoorKTPathFn
import Derived.Test.YthhfcijgcpnfcaaDoorKTCheckFn
import Derived.Test.YthhfcijgcpnfcaaDoorKROwn2
import Derived.Deep.RegionHeld3
import Derived.Maps.AppendAt
import Derived.Laws.ResultCell
import Derived.Laws.Rows
/-
  The walk of seal.Sign.
-/
namespace Go.Proofs.YthhfcijgcpnfcaaDoor
open Go.RowKit Go.Shelf

attribute [local go_sem] Oper.semAt_some

theorem Sl.keepsAll {w w' : World} (h : Below w.heap.size w w') : KeepsOthers w w' := KeepsOthers.of_grownBy (Sl.grown h) (fun j o e _ => by cases e)

/-- A seal and a number beside it. -/
def SealOut (i : Int) (sg pt : List Tr.T) (err : Int) (w : World) (e : Ending) (w' : World) : Prop :=
  ∃ (vs vp : Value) (ls lp : List ByteArray), e = .returned (.tuple #[.agg #[.int .i64 i, vs, vp], .int .i64 err]) ∧ IsTx w' vs ls ∧ Hid (Tr.bs ls = sg) ∧ (∀ s ∈ ls, s.size ≤ 16) ∧
    IsTx w' vp lp ∧ Hid (Tr.bs lp = pt) ∧ (∀ s ∈ lp, s.size ≤ 16) ∧ Below w.heap.size w w'

theorem seal_size : (Tryd.prog.info? 24).map (·.size) = some 3 := by kernel_rfl
theorem sign_results (tmps : Array Value) (w : World) (g : Nat) (v0 v1 v2 v : Value) (t : TypeId) (fr : Nat × Nat) (hp : tmps.getD 8 undef = .pointer (some ⟨g, 0, none⟩)) (hv : tmps.getD 9 undef = v) (hg : w.heap[g]? = some (.cells #[v0, v1, v2] t fr)) :
    (results Tryd.f15 tmps).run Tryd.prog w = .ok (.tuple #[.agg #[v0, v1, v2], v]) w := by
  rw [results_cell_tmp rfl, hp, hv]
  simp [asAddr, run_loadVar_row w g t 24 #[v0, v1, v2] fr _ hg Tryd.underlying24 rfl seal_size, Result.andThen]

set_option maxHeartbeats 2000000 in
set_option maxRecDepth 100000 in
theorem sign_no (s : ByteArray) (h i : Int) (m : ByteArray) (hn : ¬ (0 ≤ h ∧ h ≤ 8)) (w : World) :
    Calls Tryd.prog 15 #[.string s, .int .i64 h, .int .i64 i, .string m] w (SealOut 0 [] [] 1 w) := by
  have HN := Lib.hid hn
  clear hn
  refine (callsIn_wide (n := 5)).1 (callsIn_of_wp_marks Tryd.func15 rfl trivial (wpIn_wide.2 ?_) rfl)
  simp only [Tryd.ntmps15, List.size_toArray, List.length_cons, List.length_nil, Nat.reduceAdd, Nat.reduceSub, Array.replicate_succ, Array.replicate_zero, List.push_toArray, List.append_toArray, List.nil_append, List.cons_append]
  go_wp2_with fail
  refine (isheight_no h HN.out _).mono ?_
  rintro e w1 ⟨rfl, rfl⟩
  go_wp2_with fail
  refine ⟨_, sign_results _ _ (w.heap.size + 1 + 1) _ _ _ (.int .i64 1) _ _ rfl rfl (by have := heap_alloc_new ((w.alloc (.cells #[.string s] 9)).alloc (.cells #[.int .i64 i] 3)) (.cells #[.int .i64 0, .slice none 0 0, .slice none 0 0] 24); simpa using this), ?_⟩
  exact ⟨_, _, [], [], rfl, IsTx.nil _, rfl, by simp, IsTx.nil _, rfl, by simp, beside_le3 _ _ _⟩

theorem seal_set {w : World} {g : Nat} {a b c : Value} {t : TypeId} {fr : Nat × Nat} (h : w.heap[g]? = some (.cells #[a, b, c] t fr)) (x y z : Value) :
    (((w.setCell ⟨g, 0, none⟩ x).setCell ⟨g, 1, none⟩ y).setCell ⟨g, 2, none⟩ z).heap[g]? = some (.cells #[x, y, z] t fr) := by
  rw [Joins.block_setCell (Joins.block_setCell (Joins.block_setCell h x) y) z]; rfl
theorem seal_below {w0 w : World} {n g : Nat} (h : Below n w0 w) (hg : n ≤ g) (x y z : Value) : Below n w0 (((w.setCell ⟨g, 0, none⟩ x).setCell ⟨g, 1, none⟩ y).setCell ⟨g, 2, none⟩ z) :=
  ((h.setCell (p := ⟨g, 0, none⟩) hg x).setCell (p := ⟨g, 1, none⟩) hg y).setCell (p := ⟨g, 2, none⟩) hg z

/-- An element of a signature as a string. -/
def Sl.sigB (s : Tr.T) (i : Nat) (m : Tr.T) (k : Nat) : ByteArray := str (Dg.chain (Sl.start s i k) (Sl.dg m k))
theorem Sl.sigB_data (s : Tr.T) (i : Nat) (m : Tr.T) (k : Nat) : (Sl.sigB s i m k).data.toList = Dg.chain (Sl.start s i k) (Sl.dg m k) := Dg.str_toList _
theorem Sl.sigB_of {s : Tr.T} {i : Nat} {m : Tr.T} {k : Nat} {r : ByteArray} (h : r.data.toList = Dg.chain (Sl.start s i k) (Sl.dg m k)) : r = Sl.sigB s i m k := Dg.str_ext _ _ (by rw [h, Sl.sigB_data])

theorem Sl.sigB_size (s : Tr.T) (i : Nat) (m : Tr.T) (k : Nat) : (Sl.sigB s i m k).size ≤ 16 := by
  rw [Lib.size_eq, Sl.sigB_data]
  cases Sl.dg m k with
  | zero => rw [Dg.chain, Sl.start, Dg.sum_length]; exact Nat.le_refl _
  | succ n => rw [Dg.chain, Dg.sum_length]; exact Nat.le_refl _

theorem Sl.sig_list (s : Tr.T) (i : Nat) (m : Tr.T) : ∃ ls : List ByteArray, ls.length = 17 + 1 ∧ ((List.finRange 18).map fun k => Value.string (Sl.sigB s i m k.1)) = Tr.cells ls ∧ Hid (Tr.bs ls = Sl.sig s i m) ∧ ∀ x ∈ ls, x.size ≤ 16 := by
  refine ⟨(List.finRange 18).map fun k => Sl.sigB s i m k.1, by simp, ?_, ?_, ?_⟩
  · rw [Tr.cells, List.map_map]
    exact List.map_congr_left fun _ _ => rfl
  · show _ = _
    rw [Tr.bs, List.map_map, Sl.sig, ← Sl.fin_map]
    exact List.map_congr_left fun k _ => Sl.sigB_data _ _ _ _
  · intro x hx
    obtain ⟨k, _, rfl⟩ := List.mem_map.1 hx
    exact Sl.sigB_size _ _ _ _

/-- A slice of texts where two blocks have turned that hold none of them. -/
theorem IsTx.turned {w w' : World} {v : Value} {ps : List ByteArray} (h : IsTx w v ps) (g D : Nat) (hs : w.heap.size ≤ w'.heap.size) (hg : ∀ j s, w.cell? ⟨g, j, none⟩ ≠ some (.string s)) (hD : ∀ j s, w.cell? ⟨D, j, none⟩ ≠ some (.string s))
    (hk : ∀ b, b ≠ g → b ≠ D → w'.heap[b]? = w.heap[b]?) : IsTx w' v ps := by
  obtain ⟨a, cap, rfl, h1, h2, hc⟩ := h
  refine ⟨a, cap, rfl, h1, h2, fun hne => ?_⟩
  obtain ⟨b, off, rfl, hlt, hc⟩ := hc hne
  have hp : 0 < ps.length := by
    rcases Nat.eq_zero_or_pos ps.length with e | e
    · exact absurd (List.length_eq_zero_iff.1 e) hne
    · exact e
  have e1 : b ≠ g := fun e => hg (off + 0) _ (e ▸ hc 0 hp)
  have e2 : b ≠ D := fun e => hD (off + 0) _ (e ▸ hc 0 hp)
  exact ⟨b, off, rfl, Nat.lt_of_lt_of_le hlt hs, fun j hj => (World.cell?_of_block (a := ⟨b, off + j, none⟩) (hk b e1 e2)).trans (hc j hj)⟩

/-- What Path answers for an index that is none. -/
theorem path_bad (i : Int) (s : Tr.T) (h : Nat) (hi : ¬ (0 ≤ i ∧ i < ((2 ^ h : Nat) : Int))) (v : Value) (ps : List ByteArray) (w : World) (hv : IsTx w v ps) (hp : Hid (Tr.bs ps = Sl.keys s h)) :
    Calls Tryd.prog 31 #[v, .int .i64 i] w (TextsOut [] 1 w) := by
  have hl : ps.length = 2 ^ h := by rw [Tr.len_of hp, Sl.keys_length]
  by_cases h0 : i < 0
  · exact path_low v ps i w hv h0
  · exact path_high v ps i w hv h0 (by rw [hl]; omega)

set_option maxHeartbeats 4000000 in
set_option maxRecDepth 100000 in
theorem sign_bad (s : ByteArray) (hs : s.size ≤ 300) (h : Nat) (h8 : h ≤ 8) (i : Int) (hi : ¬ (0 ≤ i ∧ i < ((2 ^ h : Nat) : Int))) (m : ByteArray) (w : World) (ht : HasTab w) :
    Calls Tryd.prog 15 #[.string s, .int .i64 h, .int .i64 i, .string m] w (SealOut 0 [] [] 1 w) := by
  have HT := Lib.hid ht
  have HS := Lib.hid hs
  have HI := Lib.hid hi
  clear hi ht hs
  refine (callsIn_wide (n := 5)).1 (callsIn_of_wp_marks Tryd.func15 rfl trivial (wpIn_wide.2 ?_) rfl)
  simp only [Tryd.ntmps15, List.size_toArray, List.length_cons, List.length_nil, Nat.reduceAdd, Nat.reduceSub, Array.replicate_succ, Array.replicate_zero, List.push_toArray, List.append_toArray, List.nil_append, List.cons_append]
  go_wp2_with fail
  refine (isheight_yes h (by omega) (by omega) _).mono ?_
  rintro e w1 ⟨rfl, rfl⟩
  obtain ⟨w3, hw3⟩ : ∃ w3, w3 = (((w.alloc (.cells #[.string s] 9)).alloc (.cells #[.int .i64 i] 3)).alloc (.cells #[.int .i64 0, .slice none 0 0, .slice none 0 0] 24)) := ⟨_, rfl⟩
  rw [← hw3]
  have hb3 : Below w.heap.size w w3 := by rw [hw3]; exact beside_le3 _ _ _
  have c1 : w3.cell? ⟨w.heap.size, 0, none⟩ = some (.string s) := by
    rw [hw3, World.cell?_alloc_lt _ _ _ (by simp; omega), World.cell?_alloc_lt _ _ _ (by simp)]
    exact World.cell?_alloc_at _ _ _ _ rfl
  have c2 : w3.cell? ⟨w.heap.size + 1, 0, none⟩ = some (.int .i64 i) := by
    rw [hw3, World.cell?_alloc_lt _ _ _ (by simp)]
    exact cell_new2 _ _ _ _
  have c3 : w3.heap[w.heap.size + 1 + 1]? = some (.cells #[.int .i64 0, .slice none 0 0, .slice none 0 0] 24 (0, 0)) := by
    have := heap_alloc_new ((w.alloc (.cells #[.string s] 9)).alloc (.cells #[.int .i64 i] 3)) (.cells #[.int .i64 0, .slice none 0 0, .slice none 0 0] 24)
    rw [hw3]; simpa using this
  have hsz : w3.heap.size = w.heap.size + 3 := by rw [hw3]; simp
  clear hw3
  have l1 : ∀ w', Tr.Old w3 w' → w'.cell? ⟨w.heap.size, 0, none⟩ = some (.string s) := fun w' h => (Below.cell h.out (p := ⟨w.heap.size, 0, none⟩) (block_lt_of_cell c1)).trans c1
  have l2 : ∀ w', Tr.Old w3 w' → w'.cell? ⟨w.heap.size + 1, 0, none⟩ = some (.int .i64 i) := fun w' h => (Below.cell h.out (p := ⟨w.heap.size + 1, 0, none⟩) (block_lt_of_cell c2)).trans c2
  have HKY : Hid (∀ w', Tr.Old w3 w' → Calls Tryd.prog 28 #[.string s, .int .i64 h] w' (TxOut 16 (Sl.keys s.data.toList h) w')) := fun w' hw => keys_walk s HS.out h h8 w' (HT.out.below (hb3.trans (hw.out.mono hb3.size)))
  have HPT : Hid (∀ w' v ps, IsTx w' v ps → Hid (Tr.bs ps = Sl.keys s.data.toList h) → Calls Tryd.prog 31 #[v, .int .i64 i] w' (TextsOut [] 1 w')) := fun w' v ps hv hp => path_bad i s.data.toList h HI.out v ps w' hv hp
  have HC3 := Lib.hid c3
  have HB3 := Lib.hid hb3
  clear c1 c2 c3 hb3
  go_wp2_with fail
  go_region_held3 (fun w' => Tr.Old w3 w') (first | exact Tr.Old.drew w3 | exact Tr.Old.step (by with_reducible assumption) (by with_reducible assumption))
    (first
      | (go_at_call 28; (with_reducible refine (HKY.out _ (by with_reducible assumption)).mono ?_); rintro e w4 ⟨v4, ps4, rfl, hv4, hp4, hz4, hb4⟩)
      | (go_at_call 31; (with_reducible refine (HPT.out _ _ ps4 hv4 hp4).mono ?_); rintro e w5 ⟨v5, ps5, rfl, hv5, hp5, hz5, hb5⟩))
  rename_i hO
  have hbk : w5.heap[w.heap.size + 1 + 1]? = some (.cells #[.int .i64 0, .slice none 0 0, .slice none 0 0] 24 (0, 0)) := (Below.block hO.out _ (by omega)).trans HC3.out
  have d0 := Joins.cell_of_block hbk 0
  have d1 := Joins.cell_of_block hbk 1
  have d2 := Joins.cell_of_block hbk 2
  have f0 := Joins.unfrozen_of_block hbk 0
  have f1 := Joins.unfrozen_of_block hbk 1
  have f2 := Joins.unfrozen_of_block hbk 2
  have HBK := Lib.hid hbk
  have HB5 := Lib.hid (HB3.out.trans (hO.out.mono HB3.out.size))
  clear hbk hv4 hp4 hz4 hb4 hv5 hp5 hz5 hb5 hO
  go_wp2_with fail
  refine ⟨_, sign_results _ _ (w.heap.size + 1 + 1) _ _ _ (.int .i64 1) _ _ rfl rfl (seal_set HBK.out _ _ _), ?_⟩
  exact ⟨_, _, [], [], rfl, IsTx.nil _, rfl, by simp, IsTx.nil _, rfl, by simp, seal_below HB5.out (by omega) _ _ _⟩

set_option maxHeartbeats 1000000 in
set_option maxRecDepth 100000 in
theorem sign_ok (s : ByteArray) (hs : s.size ≤ 300) (h : Nat) (h8 : h ≤ 8) (i : Nat) (hi : i < 2 ^ h) (m : ByteArray) (hm : m.size ≤ 300) (w : World) (ht : HasTab w) :
    Calls Tryd.prog 15 #[.string s, .int .i64 h, .int .i64 i, .string m] w (SealOut i (Sl.sig s.data.toList i m.data.toList) (Tr.path (Sl.keys s.data.toList h) i) 0 w) := by
  have HT := Lib.hid ht
  have HS := Lib.hid hs
  obtain ⟨i0, hii, hz0, hz1, hz2⟩ := info_parts one_str
  have HI := Lib.hid hii
  have HL := Lib.hid hi
  have hi256 : i < 256 := Nat.lt_of_lt_of_le hi (Nat.le_trans (Nat.pow_le_pow_right (by decide) h8) (by decide))
  clear hi ht hs hii
  refine (callsIn_wide (n := 5)).1 (callsIn_of_wp_marks Tryd.func15 rfl trivial (wpIn_wide.2 ?_) rfl)
  simp only [Tryd.ntmps15, List.size_toArray, List.length_cons, List.length_nil, Nat.reduceAdd, Nat.reduceSub, Array.replicate_succ, Array.replicate_zero, List.push_toArray, List.append_toArray, List.nil_append, List.cons_append]
  go_wp2_with fail
  refine (isheight_yes h (by omega) (by omega) _).mono ?_
  rintro e w1 ⟨rfl, rfl⟩
  obtain ⟨w3, hw3⟩ : ∃ w3, w3 = (((w.alloc (.cells #[.string s] 9)).alloc (.cells #[.int .i64 i] 3)).alloc (.cells #[.int .i64 0, .slice none 0 0, .slice none 0 0] 24)) := ⟨_, rfl⟩
  rw [← hw3]
  have hb3 : Below w.heap.size w w3 := by rw [hw3]; exact beside_le3 _ _ _
  have c1 : w3.cell? ⟨w.heap.size, 0, none⟩ = some (.string s) := by
    rw [hw3, World.cell?_alloc_lt _ _ _ (by simp; omega), World.cell?_alloc_lt _ _ _ (by simp)]
    exact World.cell?_alloc_at _ _ _ _ rfl
  have c2 : w3.cell? ⟨w.heap.size + 1, 0, none⟩ = some (.int .i64 (i : Nat)) := by
    rw [hw3, World.cell?_alloc_lt _ _ _ (by simp)]
    exact cell_new2 _ _ _ _
  have c3 : w3.heap[w.heap.size + 1 + 1]? = some (.cells #[.int .i64 0, .slice none 0 0, .slice none 0 0] 24 (0, 0)) := by
    have := heap_alloc_new ((w.alloc (.cells #[.string s] 9)).alloc (.cells #[.int .i64 i] 3)) (.cells #[.int .i64 0, .slice none 0 0, .slice none 0 0] 24)
    rw [hw3]; simpa using this
  have hsz : w3.heap.size = w.heap.size + 3 := by rw [hw3]; simp
  clear hw3
  have l1 : ∀ w', Tr.Old w3 w' → w'.cell? ⟨w.heap.size, 0, none⟩ = some (.string s) := fun w' h => (Below.cell h.out (p := ⟨w.heap.size, 0, none⟩) (block_lt_of_cell c1)).trans c1
  have l2 : ∀ w', Tr.Old w3 w' → w'.cell? ⟨w.heap.size + 1, 0, none⟩ = some (.int .i64 i) := fun w' h => (Below.cell h.out (p := ⟨w.heap.size + 1, 0, none⟩) (block_lt_of_cell c2)).trans c2
  have HKY : Hid (∀ w', Tr.Old w3 w' → Calls Tryd.prog 28 #[.string s, .int .i64 h] w' (TxOut 16 (Sl.keys s.data.toList h) w')) := fun w' hw => keys_walk s HS.out h h8 w' (HT.out.below (hb3.trans (hw.out.mono hb3.size)))
  have HPT : Hid (∀ w' v ps, Tr.Old w3 w' → IsTx w' v ps → Hid (Tr.bs ps = Sl.keys s.data.toList h) → (∀ s ∈ ps, s.size ≤ 16) → Calls Tryd.prog 31 #[v, .int .i64 i] w' (TextsOut (Tr.path (Sl.keys s.data.toList h) i) 0 w')) := fun w' v ps hw hv hp hz => by
    have := path_ok v ps i w' hv (fun s hs => by have := hz s hs; omega) (by have := Sl.keys_len8 h8 hp; omega) (by rw [Tr.len_of hp, Sl.keys_length]; exact HL.out) (HT.out.below (hb3.trans (hw.out.mono hb3.size)))
    rw [hp.out] at this
    exact this
  have HC3 := Lib.hid c3
  have HB3 := Lib.hid hb3
  clear c1 c2 c3 hb3
  go_wp2_with fail
  go_region_held3 (fun w' => Tr.Old w3 w') (first | exact Tr.Old.drew w3 | exact Tr.Old.step (by with_reducible assumption) (by with_reducible assumption))
    (first
      | (go_at_call 28; (with_reducible refine (HKY.out _ (by with_reducible assumption)).mono ?_); rintro e w4 ⟨v4, ps4, rfl, hv4, hp4, hz4, hb4⟩)
      | (go_at_call 31; (with_reducible refine (HPT.out _ _ ps4 (by with_reducible assumption) hv4 hp4 hz4).mono ?_); rintro e w5 ⟨v5, ps5, rfl, hv5, hp5, hz5, hb5⟩))
  rename_i hO
  have HO := Lib.hid hO
  have HV5 := Lib.hid hv5
  have HP5 := Lib.hid hp5
  have HZ5 := Lib.hid hz5
  have hs5 := hO.out.size
  clear hv4 hp4 hz4 hb4 hv5 hp5 hz5 hb5 hO
  go_wp2_with (at_make; refine wpList_make_own _ rfl _ _ 22 rfl w5.heap.size 9 i0 (.string ⟨#[]⟩) 1 Tryd.underlying22 HI.out hz0 hz1 .i64 .i64 _ 18 rfl rfl rfl (by rw [hz2]; omega) (by unfold maxLen; omega) (Nat.le_refl _) ?_; intro w6 hown6 hgrow6)
  have HO6 := Lib.hid hown6
  have hb6 : Below w5.heap.size w5 w6 := (Below.refl _ _).grown hgrow6 (Nat.le_refl _) (fun _ h => by cases h)
  clear hown6 hgrow6
  refine (digits_made m _).mono ?_
  rintro e w7 ⟨rfl, rfl⟩
  go_wp2_with fail
  have bO := Boxed.new w6 22 (.slice (some ⟨w5.heap.size, 0, none⟩) 0 18)
  have hcm : ((w6.alloc (.cells #[.slice (some ⟨w5.heap.size, 0, none⟩) 0 18] 22)).alloc (.cells #[.string m] 9)).cell? ⟨w6.heap.size + 1, 0, none⟩ = some (.string m) := cell_new2 _ _ _ _
  have hb7 : Below w5.heap.size w5 ((w6.alloc (.cells #[.slice (some ⟨w5.heap.size, 0, none⟩) 0 18] 22)).alloc (.cells #[.string m] 9)) := (hb6.alloc hb6.size _).alloc (by have := hb6.size; simp; omega) _
  have hrow := (HO6.out.alloc (.cells #[.slice (some ⟨w5.heap.size, 0, none⟩) 0 18] 22)).alloc (.cells #[.string m] 9)
  have l3 : ∀ w', Below w5.heap.size w5 w' → w'.cell? ⟨w.heap.size, 0, none⟩ = some (.string s) := fun w' hw => l1 w' (Tr.Old.of (Below.trans HO.out.out (hw.mono hs5)))
  have l4 : ∀ w', Below w5.heap.size w5 w' → w'.cell? ⟨w.heap.size + 1, 0, none⟩ = some (.int .i64 (i : Nat)) := fun w' hw => l2 w' (Tr.Old.of (Below.trans HO.out.out (hw.mono hs5)))
  have L3 := Lib.hid l3
  have L4 := Lib.hid l4
  have hs6 := hb6.size
  clear l1 l2 l3 l4
  obtain ⟨W7, hW7⟩ : ∃ W7, W7 = ((w6.alloc (.cells #[.slice (some ⟨w5.heap.size, 0, none⟩) 0 18] 22)).alloc (.cells #[.string m] 9)) := ⟨_, rfl⟩
  have hs7 : W7.heap.size = w6.heap.size + 2 := by rw [hW7]; simp
  have bO7 : Boxed W7 w6.heap.size 22 (.slice (some ⟨w5.heap.size, 0, none⟩) 0 18) := by rw [hW7]; exact bO.alloc _
  rw [← hW7] at hcm hb7 hrow ⊢
  clear hW7 bO
  have h9 := enters_of Tryd.func62 (by kernel_rfl) rfl
  have h8 := digits_stops 4 (by omega) (w6.heap.size + 1) m (by omega) W7 hcm
  have h1 := holdsRow_own (β := List (Fin 18)) w5.heap.size w6.heap.size 22 9 1 (fun pre : List (Fin 18) => pre.length) (fun pre => pre.map fun k => Value.string (Sl.sigB s.data.toList i m.data.toList k.1)) (fun _ _ => True)
  have h2 : OwnFrom W7.heap.size (fun (pre : List (Fin 18)) W => Below w5.heap.size w5 W) := ownFrom_below (Nat.le_refl _) (by omega)
  have hI := (h1.from W7.heap.size).and h2
  clear h1 h2
  refine (wpIn_wide (n := 5)).1 ?_
  refine wpIn_rangeFunc_ownG rfl (by omega) (gf := 62) (lb := #[.pointer (some ⟨w6.heap.size + 1, 0, none⟩)]) rfl trivial h9 h8 (fun _ _ => trivial) (fun _ _ _ _ _ _ _ _ => trivial) (Below.refl _ _) (fun _ => rfl) _ (fun _ _ _ => False) hI
    (fun _ _ _ _ _ hs _ _ => hs)
    ⟨⟨_, bO7, hrow, trivial⟩, hb7⟩
    (fun x => { tmps := #[.string s, .int .i64 h, .int .i64 i, .string m, .pointer (some ⟨w.heap.size, 0, none⟩), undef, .pointer (some ⟨w.heap.size + 1, 0, none⟩), undef, .pointer (some ⟨w.heap.size + 1 + 1, 0, none⟩), .int .i64 0, v5, .int .i64 0, .pointer (some ⟨w6.heap.size, 0, none⟩), .int .i64 (x.1 : Nat), .int .i64 (Sl.dg m.data.toList x.1 : Nat), .int .i64 h, .bool true, .bool false, undef, .tuple #[v5, .int .i64 0], .string s, .int .i64 h, v4, .int .i64 i, .tuple #[v5, .int .i64 0], v5, .int .i64 0, .int .i64 0, .bool false, undef, undef, .slice (some ⟨w5.heap.size, 0, none⟩) 0 18, .string m, .func (.func 62) #[] #[.pointer (some ⟨w6.heap.size + 1, 0, none⟩)], .int .i64 (x.1 : Nat), .int .i64 (Sl.dg m.data.toList x.1 : Nat), undef, undef, undef, undef, undef, undef, undef, undef, undef, undef, undef, undef, undef], defers := [] }) ?assign ?body ?done ?stop
  case assign =>
    intro l x W K hK
    gi_wp2
    exact hK
  case body =>
    rintro l pre ⟨k, hk⟩ W ⟨⟨v, hv, hrow, -⟩, hB⟩ hlt
    dsimp only
    obtain ⟨d, hd⟩ : ∃ d, d = Sl.dg m.data.toList k := ⟨_, rfl⟩
    rw [← hd]
    have hd15 : d ≤ 15 := by rw [hd]; exact Sl.dg_le _ _ hk
    have hmx : Tryd.prog.follows .mixedOrders = true := by kernel_rfl
    have HD := Lib.hid hd
    have HR := Lib.hid hrow
    have HT5 := Lib.hid (HT.out.below (HB3.out.trans ((Below.trans HO.out.out (hB.mono hs5)).mono HB3.out.size)))
    have l3 : ∀ w', Below w5.heap.size w5 w' → w'.cell? ⟨w.heap.size, 0, none⟩ = some (.string s) := L3.out
    have l4 : ∀ w', Below w5.heap.size w5 w' → w'.cell? ⟨w.heap.size + 1, 0, none⟩ = some (.int .i64 (i : Nat)) := L4.out
    have hvc : ∀ w', Below W.heap.size W w' → w'.cell? ⟨w6.heap.size, 0, none⟩ = some v := fun w' hw => (hw.cell (p := ⟨w6.heap.size, 0, none⟩) hv.lt).trans hv.cell
    clear hd hrow
    have e1 : ∀ w', Below w5.heap.size w5 w' → Calls Tryd.prog 34 #[.string s, .int .i64 i, .int .i64 k] w' (Digs (Sl.start s.data.toList i k) w') := fun w' hw => start_walk s HS.out i k (by omega) (by omega) w' (HT.out.below (HB3.out.trans ((Below.trans HO.out.out (hw.mono hs5)).mono HB3.out.size)))
    have E1 := Lib.hid e1
    clear e1
    have hdr : Below W.heap.size W W.drew := (Below.refl _ _).drew
    have hBd := hB.trans (hdr.mono hB.size)
    have n3 := hvc _ hdr
    have LV := Lib.hid hvc
    clear hvc
    refine wpIn_block ?_
    refine wpIn_round_held (S := fun w' => Below w5.heap.size w5 w') hmx (by kernel_rfl) (by rintro ⟨_, _, hf⟩; exact hf) ?_
    refine wpAnyH_take (i := 3) (v := .int .i64 (k : Nat)) rfl (by kernel_rfl) (by kernel_rfl) (by kernel_rfl) (fun _ _ _ h => h) (Or.inl ⟨by rfl, fun w' hw => by go_simp⟩) hBd ?_
    (try simp only [Act.put, List.getElem_toArray, List.getElem_cons_succ, List.getElem_cons_zero, List.setIfInBounds_toArray, List.set_cons_zero, List.set_cons_succ])
    refine wpAnyH_take (i := 5) (v := .int .i64 (d : Nat)) rfl (by kernel_rfl) (by kernel_rfl) (by kernel_rfl) (fun _ _ _ h => h) (Or.inl ⟨by rfl, fun w' hw => by go_simp⟩) hBd ?_
    (try simp only [Act.put, List.getElem_toArray, List.getElem_cons_succ, List.getElem_cons_zero, List.setIfInBounds_toArray, List.set_cons_zero, List.set_cons_succ])
    refine wpAnyH_take (i := 1) (v := .string s) rfl (by kernel_rfl) (by kernel_rfl) (by kernel_rfl) (fun _ _ _ h => h) (Or.inl ⟨by rfl, fun w' hw => by go_simp⟩) hBd ?_
    (try simp only [Act.put, List.getElem_toArray, List.getElem_cons_succ, List.getElem_cons_zero, List.setIfInBounds_toArray, List.set_cons_zero, List.set_cons_succ])
    refine wpAnyH_take (i := 2) (v := .int .i64 (i : Nat)) rfl (by kernel_rfl) (by kernel_rfl) (by kernel_rfl) (fun _ _ _ h => h) (Or.inl ⟨by rfl, fun w' hw => by go_simp⟩) hBd ?_
    (try simp only [Act.put, List.getElem_toArray, List.getElem_cons_succ, List.getElem_cons_zero, List.setIfInBounds_toArray, List.set_cons_zero, List.set_cons_succ])
    clear l3 l4
    refine wpAnyH_ready (rs := [0, 4]) (by kernel_rfl) (by simp) (AllReadyH.cons rfl (fun K hK => ?_) (AllReadyH.cons rfl (fun K hK => ?_) AllReadyH.nil))
    go_simp
    refine hK.out _ _ (by assumption) (fun _ => ?_)
    clear hK
    refine wpAnyH_ready (rs := [4]) (by kernel_rfl) (by simp) (AllReadyH.cons rfl (fun K hK => ?_) AllReadyH.nil)
    all_goals
      go_simp
      refine (E1.out _ hBd).mono ?_
      rintro e w8 ⟨r8, rfl, hr8, hz8, hb8⟩
      have hb18 := hdr.trans hb8
      have hB8 := hB.trans (hb18.mono hB.size)
      refine hK.out _ _ hB8 (fun _ => ?_)
      replace n3 := LV.out _ hb18
      clear hK hb8
    refine wpAnyH_ready (rs := [6]) (by kernel_rfl) (by simp) (AllReadyH.cons rfl (fun K hK => ?_) AllReadyH.nil)
    rotate_left
    refine wpAnyH_ready (rs := [0, 6]) (by kernel_rfl) (by simp) (AllReadyH.cons rfl (fun K hK => ?_) (AllReadyH.cons rfl (fun K hK => ?_) AllReadyH.nil))
    go_simp
    refine hK.out _ _ (by assumption) (fun _ => ?_)
    clear hK
    refine wpAnyH_ready (rs := [6]) (by kernel_rfl) (by simp) (AllReadyH.cons rfl (fun K hK => ?_) AllReadyH.nil)
    all_goals
      go_simp
      refine (chain_digs r8 hz8 d (by omega) w8).mono ?_
      rintro e w9 ⟨r9, rfl, hr9, hz9, hb9⟩
      have hb19 := hb18.trans (hb9.mono hb18.size)
      have hB9 := hB.trans (hb19.mono hB.size)
      refine hK.out _ _ hB9 (fun _ => ?_)
      have HX9 : Hid (r9 = Sl.sigB s.data.toList i m.data.toList k) := Sl.sigB_of (by rw [hr9.out, hr8.out, HD.out])
      replace n3 := LV.out _ hb19
      clear hK hb9 hr9 hr8
    refine wpAnyH_ready (rs := [7]) (by kernel_rfl) (by simp) (AllReadyH.cons rfl (fun K hK => ?_) AllReadyH.nil)
    rotate_left
    refine wpAnyH_ready (rs := [0, 7]) (by kernel_rfl) (by simp) (AllReadyH.cons rfl (fun K hK => ?_) (AllReadyH.cons rfl (fun K hK => ?_) AllReadyH.nil))
    go_simp
    refine hK.out _ _ (by assumption) (fun _ => ?_)
    clear hK
    refine wpAnyH_ready (rs := [7]) (by kernel_rfl) (by simp) (AllReadyH.cons rfl (fun K hK => ?_) AllReadyH.nil)
    rotate_left
    rotate_left
    refine wpAnyH_ready (rs := [7]) (by kernel_rfl) (by simp) (AllReadyH.cons rfl (fun K hK => ?_) AllReadyH.nil)
    all_goals
      go_simp
      have hBA := hB9.alloc hB9.size (.cells #[.string r9] 9)
      refine hK.out _ _ hBA (fun _ => ?_)
      replace n3 := LV.out _ (hb19.alloc hb19.size (.cells #[.string r9] 9))
      clear hK
    refine wpAnyH_ready (rs := [8]) (by kernel_rfl) (by simp) (AllReadyH.cons rfl (fun K hK => ?_) AllReadyH.nil)
    rotate_left
    refine wpAnyH_ready (rs := [8]) (by kernel_rfl) (by simp) (AllReadyH.cons rfl (fun K hK => ?_) AllReadyH.nil)
    rotate_left
    refine wpAnyH_ready (rs := [8]) (by kernel_rfl) (by simp) (AllReadyH.cons rfl (fun K hK => ?_) AllReadyH.nil)
    rotate_left
    refine wpAnyH_ready (rs := [0]) (by kernel_rfl) (by simp) (AllReadyH.cons rfl (fun K hK => ?_) AllReadyH.nil)
    go_simp
    refine hK.out _ _ (by assumption) (fun _ => ?_)
    clear hK
    refine wpAnyH_ready (rs := [8]) (by kernel_rfl) (by simp) (AllReadyH.cons rfl (fun K hK => ?_) AllReadyH.nil)
    all_goals
      refine step_append_tx (by rfl) (.tmp 36) (.tmp 43) 22 rfl w5.heap.size 9 i0 (.string ⟨#[]⟩) 16 Tryd.underlying22 HI.out hz0 hz1 hz2 rfl v pre.length _ rfl ((own_below HR.out hb19).alloc _) _ [r9] rfl (tx_one _ _) (by simp [maxLen]; omega) (by simp; omega) (by have := hB.size; have := hb19.size; simp; omega) ?_
      intro v' w' hown' hgrow
      have hv9 : Boxed w9 w6.heap.size 22 v := (hb19.block _ hv.lt).trans hv
      obtain ⟨g', cap', rfl⟩ := ownsRow_succ hown'
      obtain ⟨hv1, hv2, hr2, hk2, hb2⟩ := hv9.appended (by decide) (own_below HR.out hb19) (Nat.le_trans hB.size hb19.size) hs6 hown' hgrow
      have hBG : Below w5.heap.size w5 w' := hBA.grown hgrow hBA.size (fun j hj => (HR.out.lt j hj).1)
      refine hK.out _ _ hBG (fun _ => ?_)
      clear hK
      refine wpAnyH_ready (rs := [9]) (by kernel_rfl) (by simp) (AllReadyH.cons rfl (fun K hK => ?_) AllReadyH.nil)
      have hc1 := hv1.cell
      have hf1 := hv1.frozen
      have HXX := Lib.hid (And.intro hv2 (And.intro hr2 (And.intro hk2 hb2)))
      clear hv1 hv2 hr2 hk2 hb2 hown' hgrow hv9
      go_simp
      have hBS := hBG.setCell (p := ⟨w6.heap.size, 0, none⟩) hs6 (.slice (some ⟨g', 0, none⟩) (pre.length + 1) cap')
      refine hK.out _ _ hBS (fun _ => wpAnyH_done (by kernel_rfl) ?_ _)
      clear hK
      obtain ⟨hv2, hr2, hk2, hb2⟩ := HXX.out
      refine ⟨((Sl.keepsAll hb19).trans hk2).from _, trivial, ⟨_, hv2, ?_, trivial⟩, hBS⟩
      rw [List.length_append, List.map_append, List.map_singleton]
      rw [HX9.out] at hr2
      exact hr2
  case done =>
    rintro D ys W hD rfl ⟨⟨v, hv, hrow, -⟩, hB⟩ hK
    have hbk : W.heap[w.heap.size + 1 + 1]? = some (.cells #[.int .i64 0, .slice none 0 0, .slice none 0 0] 24 (0, 0)) := (Below.block hB _ (by omega)).trans ((Below.block HO.out.out _ (by omega)).trans HC3.out)
    have d0 := Joins.cell_of_block hbk 0
    have d1 := Joins.cell_of_block hbk 1
    have d2 := Joins.cell_of_block hbk 2
    have f0 := Joins.unfrozen_of_block hbk 0
    have f1 := Joins.unfrozen_of_block hbk 1
    have f2 := Joins.unfrozen_of_block hbk 2
    have c1 := L4.out W hB
    have c2 := hv.cell
    have hl18 : (List.finRange 18).length = 17 + 1 := by simp
    rw [hl18] at hrow
    obtain ⟨g', cap', rfl⟩ := ownsRow_succ hrow
    have HR := Lib.hid hrow
    have HV5' := Lib.hid (HV5.out.below hB)
    obtain ⟨a5, cap5, e5, _, _, _⟩ := HV5.out
    subst e5
    have HBK := Lib.hid hbk
    have HBF := Lib.hid (HB3.out.trans ((Below.trans HO.out.out (hB.mono hs5)).mono HB3.out.size))
    clear hbk hrow hl18 HV5
    go_wp2_with fail
    have hKK := (((KeepsOthers.setCell W ⟨w.heap.size + 1 + 1, 0, none⟩ (.int .i64 (i : Nat))).trans (KeepsOthers.setCell _ ⟨w.heap.size + 1 + 1, 1, none⟩ (.slice (some ⟨g', 0, none⟩) 18 cap'))).trans (KeepsOthers.setCell _ ⟨w.heap.size + 1 + 1, 2, none⟩ (.slice a5 ps5.length cap5))).same D _ hK rfl
    refine ⟨by simp, .inl ⟨_, _, rfl, run_takeDeferred hKK, ?_⟩⟩
    refine ⟨_, sign_results _ _ (w.heap.size + 1 + 1) _ _ _ (.int .i64 0) _ _ rfl rfl ((World.putObj_heap_other (by omega)).trans (seal_set HBK.out _ _ _)), ?_⟩
    have hR3 := ownsRow_putObj (own_set (own_set (own_set HR.out (a := ⟨w.heap.size + 1 + 1, 0, none⟩) (by show w.heap.size + 1 + 1 < _; omega) (.int .i64 (i : Nat))) (a := ⟨w.heap.size + 1 + 1, 1, none⟩) (by show w.heap.size + 1 + 1 < _; omega) (.slice (some ⟨g', 0, none⟩) 18 cap')) (a := ⟨w.heap.size + 1 + 1, 2, none⟩) (by show w.heap.size + 1 + 1 < _; omega) (.slice a5 ps5.length cap5)) (.deferred none) hKK rfl
    have hBE := (seal_below HBF.out (by omega) (.int .i64 (i : Nat)) (.slice (some ⟨g', 0, none⟩) 18 cap') (.slice a5 ps5.length cap5)).trans (belowK_b (w := w) (Nat.le_refl _) _ D _ (.deferred none) (by omega) hKK rfl rfl)
    obtain ⟨ls, hll, hcl, hbs, hsz⟩ := Sl.sig_list s.data.toList i m.data.toList
    rw [hcl, ← hll] at hR3
    have hTX := own_tx hR3
    rw [hll] at hTX
    refine ⟨_, _, ls, ps5, rfl, hTX, hbs, hsz, ?_, HP5.out, HZ5.out, hBE⟩
    · refine IsTx.turned HV5'.out (w.heap.size + 1 + 1) D ?_ ?_ ?_ ?_
      · simp
      · intro j x hx
        rw [Joins.cell_of_block HBK.out] at hx
        match j, hx with
        | 0, hx => simp at hx
        | 1, hx => simp at hx
        | 2, hx => simp at hx
        | j + 3, hx => simp at hx
      · intro j x hx
        simp [World.cell?, hK] at hx
      · intro b h1 h2
        rw [World.putObj_heap_other h2, Below.heap_setCell _ _ _ _ h1, Below.heap_setCell _ _ _ _ h1, Below.heap_setCell _ _ _ _ h1]
  case stop =>
    rintro D c pre W _ _ h _
    exact h.elim
end Go.Proofs.YthhfcijgcpnfcaaDoor
