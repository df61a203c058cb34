import Derived.Test.YtoamkanofhhjfaaGreatDoorKEIter
import Derived.Test.YtoamkanofhhjfaaGreatDoorKELst
/-
  The closure of lexer.tokens as an iterator.
-/
namespace Go.Proofs.YtoamkanofhhjfaaGreatDoor
open Go.RowKit Go.Shelf

attribute [local go_sem] Oper.semAt_some

theorem src_new {n : Nat} {w W : World} (_hb : Below n w W) (Z : Array Value) : (W.alloc (.cells Z 123)).heap[W.heap.size]? = some (.cells Z 123 (0, 0)) := heap_alloc_new _ _

namespace Lx
/-- What is yielded. -/
abbrev enc (x : Tok × Nat) : Array Value := #[tokV x.1, .int .i64 (x.2 : Nat)]
theorem grown {w w' : World} (h : Below w.heap.size w w') : w.grownBy w' none := ⟨h.os, h.tape, h.output, h.size, fun k hk _ => h.block k hk⟩
end Lx

set_option maxRecDepth 100000 in
set_option maxHeartbeats 8000000 in
theorem tokens1_in (n : Nat) (hn : 2 ≤ n) (l Bt : Nat) (s : ByteArray) (hs : s.size < 9223372036854775807) (J Jx : List (Lx.Tok × Nat) → World → Prop) (w : World)
    (hJ : ∀ x A B, J x A → Below A.heap.size A B → J x B)
    (hY : ∀ pre x W1, J pre W1 → pre.length < s.size + 2 → YieldAt Fence.wide (n - 1) Tryz.prog l (Lx.enc x) W1 fun e W' =>
      (e = .returned (.bool true) ∧ J (pre ++ [x]) W' ∧ Lx.Kept W1 W') ∨ (e = .returned (.bool false) ∧ Jx (pre ++ [x]) W'))
    (h0 : J [] w) (hBk : w.heap[Bt]? = some (.cells #[.string s] 9 (0, 0))) :
    CallsIn Fence.wide n Tryz.prog 83 #[.func (.yield l) #[] #[], .pointer (some ⟨Bt, 0, none⟩)] w fun e W' => (∃ v, e = .returned v) ∧
      ((∃ xs, xs = Lx.items (Lx.tx s) 0 ∧ J xs W') ∨ (∃ pre, (∃ rest, Lx.items (Lx.tx s) 0 = pre ++ rest) ∧ Jx pre W')) := by
  obtain ⟨Z, hZ1, hZ3⟩ := zero_source
  have hB : w.cell? ⟨Bt, 0, none⟩ = some (.string s) := Joins.cell_of_block hBk 0
  have hlt := block_lt_of_cell hB
  have HJ := Lib.hid hJ
  have HY := Lib.hid hY
  have HL := Lib.hid (Lx.items_len s)
  have HBK := Lib.hid hBk
  have H0 := Lib.hid h0
  have HG0 := Lib.hid (Lx.gEnd_le s 0 (Nat.zero_le _))
  clear hJ hY hBk h0
  refine callsIn_of_wp Tryz.func83 rfl trivial (wpIn_wide.2 ?_) rfl
  simp only [Tryz.ntmps83, List.size_toArray, List.length_cons, List.length_nil, Nat.reduceAdd, Nat.reduceSub, Array.replicate_succ, Array.replicate_zero, List.push_toArray, List.append_toArray, List.nil_append, List.cons_append]
  go_wp2_with fail
  go_upto_region 5 with fail
  go_cut [3] from 7 to 9 (fun p wx => ∃ B, p = .pointer (some ⟨B, 0, none⟩) ∧ Lx.Src B s wx ∧ w.heap.size ≤ B ∧ Below w.heap.size w wx)
  case first =>
    refine wp_region_any (by kernel_rfl) ?_
    change wpAny _ _ _ _ _ _ _ (World.drew _)
    have hb := (Below.refl w.heap.size w).drew
    refine wpAny_ready (rs := [0, 1, 3]) (by kernel_rfl) (by simp) ?_
    refine AllReady.cons rfl (fun K hK => ?_) ?_
    · refine st_load (n := w.heap.size) (w := w) (Bt := Bt) (s := s) ?_ ?_ ?_ hb hlt hB ?_
      · rfl
      · rfl
      · rfl
      refine hK _ _ ?_
      refine wpAny_ready (rs := [1, 3]) (by kernel_rfl) (by simp) ?_
      refine AllReady.cons rfl (fun K hK => ?_) ?_
      · refine st_call ?_ ?_ (fun cs W' ht hbW => ?_)
        · rfl
        · rfl
        refine hK _ _ ?_
        have hb := hb.trans (hbW.mono hb.size)
        refine wpAny_ready (rs := [2, 3]) (by kernel_rfl) (by simp) ?_
        refine AllReady.cons rfl (fun K hK => ?_) ?_
        · refine st_build (s := s) ht ?_ ?_ ?_ ?_ (fun S hS1 hS2 hS3 => ?_)
          · rfl
          · rfl
          · rfl
          · rfl
          refine hK _ _ ?_
          refine wpAny_ready (rs := [3]) (by kernel_rfl) (by simp) ?_
          refine AllReady.cons rfl (fun K hK => ?_) ?_
          · refine st_alloc (Z := Z) hZ3 ?_ ?_ ?_
            · rfl
            · rfl
            refine hK _ _ ?_
            have hk := src_new hb Z
            have hg := hb.size
            have hb := hb.alloc hb.size (.cells Z 123)
            refine wpAny_ready (rs := [4]) (by kernel_rfl) (by simp) ?_
            refine AllReady.cons rfl (fun K hK => ?_) ?_
            · refine st_store ?_ ?_ ?_ ?_ hk hZ1 hS1 hS2 ?_
              · rfl
              · rfl
              · rfl
              · rfl
              refine hK _ _ ?_
              refine wpAny_done (by kernel_rfl) ?_ _
              go_wp2_with fail
              go_meet
              exact ⟨_, rfl, ⟨S, hS3, setRow_heap _ _ _ _ _ _ hk⟩, hg, below_setRow hb hg S⟩
            exact AllReady.nil
          exact AllReady.nil
        refine AllReady.cons rfl (fun K hK => ?_) ?_
        · refine st_alloc (Z := Z) hZ3 ?_ ?_ ?_
          · rfl
          · rfl
          refine hK _ _ ?_
          have hk := src_new hb Z
          have hg := hb.size
          have hb := hb.alloc hb.size (.cells Z 123)
          refine wpAny_ready (rs := [2]) (by kernel_rfl) (by simp) ?_
          refine AllReady.cons rfl (fun K hK => ?_) ?_
          · refine st_build (s := s) ht ?_ ?_ ?_ ?_ (fun S hS1 hS2 hS3 => ?_)
            · rfl
            · rfl
            · rfl
            · rfl
            refine hK _ _ ?_
            refine wpAny_ready (rs := [4]) (by kernel_rfl) (by simp) ?_
            refine AllReady.cons rfl (fun K hK => ?_) ?_
            · refine st_store ?_ ?_ ?_ ?_ hk hZ1 hS1 hS2 ?_
              · rfl
              · rfl
              · rfl
              · rfl
              refine hK _ _ ?_
              refine wpAny_done (by kernel_rfl) ?_ _
              go_wp2_with fail
              go_meet
              exact ⟨_, rfl, ⟨S, hS3, setRow_heap _ _ _ _ _ _ hk⟩, hg, below_setRow hb hg S⟩
            exact AllReady.nil
          exact AllReady.nil
        exact AllReady.nil
      refine AllReady.cons rfl (fun K hK => ?_) ?_
      · refine st_alloc (Z := Z) hZ3 ?_ ?_ ?_
        · rfl
        · rfl
        refine hK _ _ ?_
        have hk := src_new hb Z
        have hg := hb.size
        have hb := hb.alloc hb.size (.cells Z 123)
        refine wpAny_ready (rs := [1]) (by kernel_rfl) (by simp) ?_
        refine AllReady.cons rfl (fun K hK => ?_) ?_
        · refine st_call ?_ ?_ (fun cs W' ht hbW => ?_)
          · rfl
          · rfl
          refine hK _ _ ?_
          have hb := hb.trans (hbW.mono hb.size)
          have hk := (hbW.block _ (Array.getElem?_eq_some_iff.1 hk).1).trans hk
          refine wpAny_ready (rs := [2]) (by kernel_rfl) (by simp) ?_
          refine AllReady.cons rfl (fun K hK => ?_) ?_
          · refine st_build (s := s) ht ?_ ?_ ?_ ?_ (fun S hS1 hS2 hS3 => ?_)
            · rfl
            · rfl
            · rfl
            · rfl
            refine hK _ _ ?_
            refine wpAny_ready (rs := [4]) (by kernel_rfl) (by simp) ?_
            refine AllReady.cons rfl (fun K hK => ?_) ?_
            · refine st_store ?_ ?_ ?_ ?_ hk hZ1 hS1 hS2 ?_
              · rfl
              · rfl
              · rfl
              · rfl
              refine hK _ _ ?_
              refine wpAny_done (by kernel_rfl) ?_ _
              go_wp2_with fail
              go_meet
              exact ⟨_, rfl, ⟨S, hS3, setRow_heap _ _ _ _ _ _ hk⟩, hg, below_setRow hb hg S⟩
            exact AllReady.nil
          exact AllReady.nil
        exact AllReady.nil
      exact AllReady.nil
    refine AllReady.cons rfl (fun K hK => ?_) ?_
    · refine st_call ?_ ?_ (fun cs W' ht hbW => ?_)
      · rfl
      · rfl
      refine hK _ _ ?_
      have hb := hb.trans (hbW.mono hb.size)
      refine wpAny_ready (rs := [0, 3]) (by kernel_rfl) (by simp) ?_
      refine AllReady.cons rfl (fun K hK => ?_) ?_
      · refine st_load (n := w.heap.size) (w := w) (Bt := Bt) (s := s) ?_ ?_ ?_ hb hlt hB ?_
        · rfl
        · rfl
        · rfl
        refine hK _ _ ?_
        refine wpAny_ready (rs := [2, 3]) (by kernel_rfl) (by simp) ?_
        refine AllReady.cons rfl (fun K hK => ?_) ?_
        · refine st_build (s := s) ht ?_ ?_ ?_ ?_ (fun S hS1 hS2 hS3 => ?_)
          · rfl
          · rfl
          · rfl
          · rfl
          refine hK _ _ ?_
          refine wpAny_ready (rs := [3]) (by kernel_rfl) (by simp) ?_
          refine AllReady.cons rfl (fun K hK => ?_) ?_
          · refine st_alloc (Z := Z) hZ3 ?_ ?_ ?_
            · rfl
            · rfl
            refine hK _ _ ?_
            have hk := src_new hb Z
            have hg := hb.size
            have hb := hb.alloc hb.size (.cells Z 123)
            refine wpAny_ready (rs := [4]) (by kernel_rfl) (by simp) ?_
            refine AllReady.cons rfl (fun K hK => ?_) ?_
            · refine st_store ?_ ?_ ?_ ?_ hk hZ1 hS1 hS2 ?_
              · rfl
              · rfl
              · rfl
              · rfl
              refine hK _ _ ?_
              refine wpAny_done (by kernel_rfl) ?_ _
              go_wp2_with fail
              go_meet
              exact ⟨_, rfl, ⟨S, hS3, setRow_heap _ _ _ _ _ _ hk⟩, hg, below_setRow hb hg S⟩
            exact AllReady.nil
          exact AllReady.nil
        refine AllReady.cons rfl (fun K hK => ?_) ?_
        · refine st_alloc (Z := Z) hZ3 ?_ ?_ ?_
          · rfl
          · rfl
          refine hK _ _ ?_
          have hk := src_new hb Z
          have hg := hb.size
          have hb := hb.alloc hb.size (.cells Z 123)
          refine wpAny_ready (rs := [2]) (by kernel_rfl) (by simp) ?_
          refine AllReady.cons rfl (fun K hK => ?_) ?_
          · refine st_build (s := s) ht ?_ ?_ ?_ ?_ (fun S hS1 hS2 hS3 => ?_)
            · rfl
            · rfl
            · rfl
            · rfl
            refine hK _ _ ?_
            refine wpAny_ready (rs := [4]) (by kernel_rfl) (by simp) ?_
            refine AllReady.cons rfl (fun K hK => ?_) ?_
            · refine st_store ?_ ?_ ?_ ?_ hk hZ1 hS1 hS2 ?_
              · rfl
              · rfl
              · rfl
              · rfl
              refine hK _ _ ?_
              refine wpAny_done (by kernel_rfl) ?_ _
              go_wp2_with fail
              go_meet
              exact ⟨_, rfl, ⟨S, hS3, setRow_heap _ _ _ _ _ _ hk⟩, hg, below_setRow hb hg S⟩
            exact AllReady.nil
          exact AllReady.nil
        exact AllReady.nil
      refine AllReady.cons rfl (fun K hK => ?_) ?_
      · refine st_alloc (Z := Z) hZ3 ?_ ?_ ?_
        · rfl
        · rfl
        refine hK _ _ ?_
        have hk := src_new hb Z
        have hg := hb.size
        have hb := hb.alloc hb.size (.cells Z 123)
        refine wpAny_ready (rs := [0]) (by kernel_rfl) (by simp) ?_
        refine AllReady.cons rfl (fun K hK => ?_) ?_
        · refine st_load (n := w.heap.size) (w := w) (Bt := Bt) (s := s) ?_ ?_ ?_ hb hlt hB ?_
          · rfl
          · rfl
          · rfl
          refine hK _ _ ?_
          refine wpAny_ready (rs := [2]) (by kernel_rfl) (by simp) ?_
          refine AllReady.cons rfl (fun K hK => ?_) ?_
          · refine st_build (s := s) ht ?_ ?_ ?_ ?_ (fun S hS1 hS2 hS3 => ?_)
            · rfl
            · rfl
            · rfl
            · rfl
            refine hK _ _ ?_
            refine wpAny_ready (rs := [4]) (by kernel_rfl) (by simp) ?_
            refine AllReady.cons rfl (fun K hK => ?_) ?_
            · refine st_store ?_ ?_ ?_ ?_ hk hZ1 hS1 hS2 ?_
              · rfl
              · rfl
              · rfl
              · rfl
              refine hK _ _ ?_
              refine wpAny_done (by kernel_rfl) ?_ _
              go_wp2_with fail
              go_meet
              exact ⟨_, rfl, ⟨S, hS3, setRow_heap _ _ _ _ _ _ hk⟩, hg, below_setRow hb hg S⟩
            exact AllReady.nil
          exact AllReady.nil
        exact AllReady.nil
      exact AllReady.nil
    refine AllReady.cons rfl (fun K hK => ?_) ?_
    · refine st_alloc (Z := Z) hZ3 ?_ ?_ ?_
      · rfl
      · rfl
      refine hK _ _ ?_
      have hk := src_new hb Z
      have hg := hb.size
      have hb := hb.alloc hb.size (.cells Z 123)
      refine wpAny_ready (rs := [0, 1]) (by kernel_rfl) (by simp) ?_
      refine AllReady.cons rfl (fun K hK => ?_) ?_
      · refine st_load (n := w.heap.size) (w := w) (Bt := Bt) (s := s) ?_ ?_ ?_ hb hlt hB ?_
        · rfl
        · rfl
        · rfl
        refine hK _ _ ?_
        refine wpAny_ready (rs := [1]) (by kernel_rfl) (by simp) ?_
        refine AllReady.cons rfl (fun K hK => ?_) ?_
        · refine st_call ?_ ?_ (fun cs W' ht hbW => ?_)
          · rfl
          · rfl
          refine hK _ _ ?_
          have hb := hb.trans (hbW.mono hb.size)
          have hk := (hbW.block _ (Array.getElem?_eq_some_iff.1 hk).1).trans hk
          refine wpAny_ready (rs := [2]) (by kernel_rfl) (by simp) ?_
          refine AllReady.cons rfl (fun K hK => ?_) ?_
          · refine st_build (s := s) ht ?_ ?_ ?_ ?_ (fun S hS1 hS2 hS3 => ?_)
            · rfl
            · rfl
            · rfl
            · rfl
            refine hK _ _ ?_
            refine wpAny_ready (rs := [4]) (by kernel_rfl) (by simp) ?_
            refine AllReady.cons rfl (fun K hK => ?_) ?_
            · refine st_store ?_ ?_ ?_ ?_ hk hZ1 hS1 hS2 ?_
              · rfl
              · rfl
              · rfl
              · rfl
              refine hK _ _ ?_
              refine wpAny_done (by kernel_rfl) ?_ _
              go_wp2_with fail
              go_meet
              exact ⟨_, rfl, ⟨S, hS3, setRow_heap _ _ _ _ _ _ hk⟩, hg, below_setRow hb hg S⟩
            exact AllReady.nil
          exact AllReady.nil
        exact AllReady.nil
      refine AllReady.cons rfl (fun K hK => ?_) ?_
      · refine st_call ?_ ?_ (fun cs W' ht hbW => ?_)
        · rfl
        · rfl
        refine hK _ _ ?_
        have hb := hb.trans (hbW.mono hb.size)
        have hk := (hbW.block _ (Array.getElem?_eq_some_iff.1 hk).1).trans hk
        refine wpAny_ready (rs := [0]) (by kernel_rfl) (by simp) ?_
        refine AllReady.cons rfl (fun K hK => ?_) ?_
        · refine st_load (n := w.heap.size) (w := w) (Bt := Bt) (s := s) ?_ ?_ ?_ hb hlt hB ?_
          · rfl
          · rfl
          · rfl
          refine hK _ _ ?_
          refine wpAny_ready (rs := [2]) (by kernel_rfl) (by simp) ?_
          refine AllReady.cons rfl (fun K hK => ?_) ?_
          · refine st_build (s := s) ht ?_ ?_ ?_ ?_ (fun S hS1 hS2 hS3 => ?_)
            · rfl
            · rfl
            · rfl
            · rfl
            refine hK _ _ ?_
            refine wpAny_ready (rs := [4]) (by kernel_rfl) (by simp) ?_
            refine AllReady.cons rfl (fun K hK => ?_) ?_
            · refine st_store ?_ ?_ ?_ ?_ hk hZ1 hS1 hS2 ?_
              · rfl
              · rfl
              · rfl
              · rfl
              refine hK _ _ ?_
              refine wpAny_done (by kernel_rfl) ?_ _
              go_wp2_with fail
              go_meet
              exact ⟨_, rfl, ⟨S, hS3, setRow_heap _ _ _ _ _ _ hk⟩, hg, below_setRow hb hg S⟩
            exact AllReady.nil
          exact AllReady.nil
        exact AllReady.nil
      exact AllReady.nil
    exact AllReady.nil
  case rest =>
    obtain ⟨S, rfl, hsrc, hge, hb0⟩ := hcut
    have HS0 := Lib.hid hsrc
    have hSl := hsrc.lt
    have HT0 := Lib.hid ((hb0.block Bt hlt).trans HBK.out)
    have hj0 := HJ.out [] w wc H0.out hb0
    clear hsrc hB hZ3
    go_wp2_with fail
    refine (gapend_walk S s hs 0 (Nat.zero_le _) wc HS0.out).mono ?_
    rintro e w2 ⟨rfl, hb2⟩
    have HS2 := Lib.hid (HS0.out.below hb2 hSl)
    have HT2 := Lib.hid ((hb2.block Bt (by have := hb0.size; omega)).trans HT0.out)
    have hj2 := HJ.out [] wc w2 hj0 hb2
    obtain ⟨k0, hk0⟩ : ∃ k0, k0 = Lx.gEnd s 0 := ⟨_, rfl⟩
    have HK0 := Lib.hid hk0
    rw [← hk0] at HG0 ⊢
    clear hk0 hj0 hb0 hb2
    go_wp2_with fail
    refine (wpIn_wide (n := n)).1 ?_
    gi_loopw [4] (fun v wr => ∃ (k : Nat) (pre : List (Lx.Tok × Nat)), k ≤ s.size ∧ v = .int .i64 k ∧ Hid (Lx.items (Lx.tx s) 0 = pre ++ Lx.items ((Lx.tx s).drop k) k) ∧ Hid (∀ h : k < s.size, Lx.isGap s[k] = false) ∧ Lx.Src S s wr ∧
      wr.heap[Bt]? = some (.cells #[.string s] 9 (0, 0)) ∧ J pre wr) (fun v _ => s.size - (intOf v).toNat)
    case atStart =>
      refine ⟨k0, [], HG0.out.2, rfl, ?_, ?_, HS2.out, HT2.out, hj2⟩
      · show _ = _
        rw [List.nil_append, HK0.out, ← Lx.items_skip s 0 (Nat.zero_le _), List.drop_zero]
      · intro h
        have := Lx.gEnd_head s 0 (Nat.zero_le _) (by rw [← HK0.out]; exact h)
        simpa only [← HK0.out] using this
    case round =>
      obtain ⟨k, pre, hk, rfl, hit, hgp, hsr, htb, hj⟩ := hrel
      by_cases hlt2 : k < s.size
      · obtain ⟨R, hR⟩ : ∃ R, R = Lx.res (Lx.next s[k] ((Lx.tx s).drop (k + 1))) k := ⟨_, rfl⟩
        have hnx := Lx.items_next s k hlt2 (hgp.out hlt2) R hR
        have HR := Lib.hid hR
        have HS := Lib.hid hsr
        have HT := Lib.hid htb
        have hSr := hsr.lt
        have hBr : Bt < wr.heap.size := (Array.getElem?_eq_some_iff.1 htb).1
        have c1 : wr.cell? ⟨Bt, 0, none⟩ = some (.string s) := Joins.cell_of_block htb 0
        have HTW := Lib.hid (token_walk S s hs k hlt2 wr hsr)
        rw [← hR] at HTW
        have hlen : pre.length < s.size + 2 := by
          have h1 := HL.out
          rw [hit.out, List.length_append] at h1; omega
        clear hR hgp hsr htb
        gi_wp2
        refine ⟨trivial, fun _ => by omega, (callsIn_wide.2 HTW.out).mono ?_⟩
        rintro e w3 ⟨rfl, hb3⟩
        have HS3 := Lib.hid (HS.out.below hb3 hSr)
        have HT3 := Lib.hid ((hb3.block Bt hBr).trans HT.out)
        have hj3 := HJ.out pre wr w3 hj hb3
        have hj4 := HJ.out pre w3 (w3.alloc (.cells #[.int .i64 (R.1.kind : Nat), .string (Lx.str R.1.text), .int .i64 (R.1.n : Nat), .int .i64 (R.1.at_ : Nat)] 60)) hj3 ((Below.refl _ _).alloc (Nat.le_refl _) _)
        obtain ⟨fn, tmps, assign, body, hy, hRd⟩ := HY.out pre R _ hj4 hlen
        dsimp only [Lx.enc] at hy
        have hz3 := hb3.size
        clear hb3 hj hj3 hj4 HS HT HTW
        have htk := heap_alloc_new w3 (.cells #[.int .i64 (R.1.kind : Nat), .string (Lx.str R.1.text), .int .i64 (R.1.n : Nat), .int .i64 (R.1.at_ : Nat)] 60)
        have HTK := Lib.hid htk
        clear htk
        rcases hnx with ⟨hne, hi1⟩ | ⟨he0, hpos, hle, hi1⟩
        · have hbq : (((R.2 : Nat) : Int) != 0) = true := by rw [bne_iff_ne]; omega
          have HI := Lib.hid hi1
          clear hi1 hne
          gi_wp2
          clear hy
          refine ⟨fun _ => by omega, hRd.mono ?_⟩
          rintro e W5 (⟨rfl, hJ5, _⟩ | ⟨rfl, hJx5⟩)
          · gi_wp2
            refine bodyPost_ret (results_none rfl _ _ _) rfl ?_
            exact ⟨⟨_, rfl⟩, .inl ⟨_, by rw [hit.out, HI.out], hJ5⟩⟩
          · gi_wp2
            refine bodyPost_ret (results_none rfl _ _ _) rfl ?_
            exact ⟨⟨_, rfl⟩, .inr ⟨_, ⟨[], by rw [hit.out, HI.out, List.append_nil]⟩, hJx5⟩⟩
        · have hbq : (((R.2 : Nat) : Int) != 0) = false := by rw [bne_eq_false_iff_eq]; omega
          have HI := Lib.hid hi1
          clear hi1 he0
          gi_wp2
          clear hy
          refine ⟨fun _ => by omega, hRd.mono ?_⟩
          rintro e W5 (⟨rfl, hJ5, hk5⟩ | ⟨rfl, hJx5⟩)
          · have HTK5 := Lib.hid (hk5 _ _ _ _ HTK.out (.inr (.inr ⟨rfl, rfl⟩)))
            have HT5 := Lib.hid (hk5 _ _ _ _ ((Below.heap_alloc w3 _ Bt (by omega)).trans HT3.out) (.inl rfl))
            have HS5 : Hid (Lx.Src S s W5) := by
              obtain ⟨cs, q1, q2⟩ := HS3.out
              exact ⟨cs, q1, hk5 _ _ _ _ ((Below.heap_alloc w3 _ S (by omega)).trans q2) (.inr (.inl rfl))⟩
            have c5 : W5.cell? ⟨w3.heap.size, 1, none⟩ = some (.string (Lx.str R.1.text)) := Joins.cell_of_block HTK5.out 1
            have hS5 := HS5.out.lt
            have hB5 := (Array.getElem?_eq_some_iff.1 HT5.out).1
            obtain ⟨L, hL⟩ : ∃ L, L = R.1.text.length := ⟨_, rfl⟩
            have HSZ : Hid ((Lx.str R.1.text).size = L) := by show _ = _; rw [Lx.str_size, hL]
            rw [← hL] at hpos hle HI
            have hsz5 : k + (Lx.str R.1.text).size ≤ 9223372036854775807 := by rw [HSZ.out]; omega
            clear hL hk5
            obtain ⟨k2, HE, HH, HI2, HC⟩ : ∃ k2 : Nat, Hid (k + L ≤ k2 ∧ k2 ≤ s.size) ∧ Hid (∀ h : k2 < s.size, Lx.isGap s[k2] = false) ∧ Hid (Lx.items ((Lx.tx s).drop (k + L)) (k + L) = Lx.items ((Lx.tx s).drop k2) k2) ∧
                Hid (Calls Tryz.prog 85 #[.pointer (some ⟨S, 0, none⟩), .int .i64 ((k : Int) + ((Lx.str R.1.text).size : Int))] W5 fun e w' => e = .returned (.int .i64 (k2 : Nat)) ∧ Below W5.heap.size W5 w') := by
              refine ⟨Lx.gEnd s (k + L), Lx.gEnd_le s (k + L) hle, fun h => Lx.gEnd_head s (k + L) hle h, Lx.items_skip s (k + L) hle, ?_⟩
              have := gapend_walk S s hs (k + L) hle W5 HS5.out
              rw [show ((k + L : Nat) : Int) = (k : Int) + ((Lx.str R.1.text).size : Int) from by rw [HSZ.out, Int.natCast_add]] at this
              exact this
            gi_wp2
            refine ⟨trivial, fun _ => by omega, (callsIn_wide.2 HC.out).mono ?_⟩
            rintro e W6 ⟨rfl, hb6⟩
            have HS6 := Lib.hid (HS5.out.below hb6 hS5)
            have HT6 := Lib.hid ((hb6.block Bt hB5).trans HT5.out)
            have hJ6 := HJ.out _ _ _ hJ5 hb6
            clear hb6 hJ5 c5
            have hE1 := HE.out.1
            have hE2 := HE.out.2
            gi_wp2
            go_roundw
            case rel =>
              refine ⟨k2, pre ++ [R], hE2, rfl, ?_, HH.out, HS6.out, HT6.out, hJ6⟩
              show _ = _
              rw [hit.out, HI.out, HI2.out, List.append_assoc]; rfl
            case measure => simp [intOf]; omega
          · gi_wp2
            refine bodyPost_ret (results_none rfl _ _ _) rfl ?_
            exact ⟨⟨_, rfl⟩, .inr ⟨_, ⟨_, by rw [hit.out, HI.out, List.append_assoc]; rfl⟩, hJx5⟩⟩
      · have c1 : wr.cell? ⟨Bt, 0, none⟩ = some (.string s) := Joins.cell_of_block htb 0
        have hkz : ¬ (k : Int) < (s.size : Int) := by omega
        have HX : Hid (Lx.items (Lx.tx s) 0 = pre) := by
          show _ = _
          rw [hit.out, Lx.items_end s k (by omega), List.append_nil]
        clear hit
        gi_wp2
        go_end0
        exact ⟨⟨_, rfl⟩, .inl (by rw [HX.out]; exact hj)⟩
end Go.Proofs.YtoamkanofhhjfaaGreatDoor
