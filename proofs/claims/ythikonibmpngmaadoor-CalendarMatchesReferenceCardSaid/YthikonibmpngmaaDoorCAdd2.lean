/-
  The walk of calendar.Add.
-/
import Derived.Test.YthikonibmpngmaaDoorCStep
import Derived.Lib.SmallJoins
namespace Go.Proofs.YthikonibmpngmaaDoor
open Go.RowKit Go.Maps

theorem run_make_set (w : World) (n : Int) : (Instr.makeMap 55 (some (.int .i64 n))).run Tryd.prog w = .ok (.map (some w.heap.size)) (w.alloc (.map #[] 0)) := by
  kernel_rfl

set_option maxHeartbeats 1000000 in
set_option maxRecDepth 100000 in
theorem add_bad (day n u : Int) (v : Value) (w : World) (h : ¬ Cal.IsTerm day n u) :
    Calls Tryd.prog 19 #[.int .i64 day, .agg #[.int .i64 n, .int .i64 u], v] w (TwoB (fun a e => a = 0 ∧ e = 1) (Below w.heap.size w)) := by
  have hb0 : Below w.heap.size w (w.alloc (.cells #[.int .i64 n, .int .i64 u] 23)) := (Below.refl _ _).alloc (Nat.le_refl _) _
  have HB := Lib.hid hb0
  clear hb0
  by_cases hd : 0 ≤ day ∧ day ≤ 1000000
  · have HD := Lib.hid (Cal.isD_yes hd.1 hd.2)
    have HT := Lib.hid (Cal.isT_no (n := n) (u := u) (by unfold Cal.IsTerm at h; omega))
    clear h hd
    go_enter Tryd.func19, Tryd.ntmps19
    go_wp2_with (go_at_call 34; refine (isday_walk day _).mono ?_; rintro e w' ⟨rfl, rfl⟩; rw [HD.out])
    refine (isterm_walk n u _).mono ?_
    rintro e w' ⟨rfl, hb⟩
    rw [HT.out]
    have HB2 := Lib.hid hb
    clear hb
    go_wp2
    go_ret2
    exact ⟨0, 1, rfl, ⟨rfl, rfl⟩, HB.out.trans (HB2.out.mono HB.out.size)⟩
  · have HD := Lib.hid (Cal.isD_no hd)
    clear h hd
    go_enter Tryd.func19, Tryd.ntmps19
    go_wp2_with (go_at_call 34; refine (isday_walk day _).mono ?_; rintro e w' ⟨rfl, rfl⟩; rw [HD.out])
    go_ret2
    exact ⟨0, 1, rfl, ⟨rfl, rfl⟩, HB.out⟩

set_option maxHeartbeats 1000000 in
set_option maxRecDepth 100000 in
theorem add_many (day n u : Int) (a : Option Addr) (l cap : Nat) (hl : 1000 < l) (hcap : l ≤ 9223372036854775807) (w : World) (h : Cal.IsTerm day n u) :
    Calls Tryd.prog 19 #[.int .i64 day, .agg #[.int .i64 n, .int .i64 u], .slice a l cap] w (TwoB (fun a e => a = 0 ∧ e = 2) (Below w.heap.size w)) := by
  have hb0 : Below w.heap.size w (w.alloc (.cells #[.int .i64 n, .int .i64 u] 23)) := (Below.refl _ _).alloc (Nat.le_refl _) _
  have HB := Lib.hid hb0
  have HD := Lib.hid (Cal.isD_yes h.1 h.2.1)
  have HT := Lib.hid (Cal.isT_yes h.2.2)
  clear hb0 h
  go_enter Tryd.func19, Tryd.ntmps19
  go_wp2_with (go_at_call 34; refine (isday_walk day _).mono ?_; rintro e w' ⟨rfl, rfl⟩; rw [HD.out])
  refine (isterm_walk n u _).mono ?_
  rintro e w' ⟨rfl, hb⟩
  rw [HT.out]
  have HB2 := Lib.hid hb
  clear hb
  go_wp2
  go_ret2
  exact ⟨0, 2, rfl, ⟨rfl, rfl⟩, HB.out.trans (HB2.out.mono HB.out.size)⟩

theorem take_one (l : List Int) (k : Nat) (h : k < l.length) (x : Int) (hx : x = l.getD k 0) : l.take (k + 1) = l.take k ++ [x] := by
  rw [List.take_succ_eq_append_getElem h, hx, List.getD_eq_getElem?_getD, List.getElem?_eq_getElem h]; rfl

set_option maxHeartbeats 4000000 in
set_option maxRecDepth 100000 in
theorem add_main (day n u : Int) (v : Value) (cl : List Int) (w : World) (ht : HasTab w) (hv : IsNums w v cl) (h : Cal.IsTerm day n u) (hl : cl.length ≤ 1000) :
    Calls Tryd.prog 19 #[.int .i64 day, .agg #[.int .i64 n, .int .i64 u], v] w (TwoB (Cal.AddR cl day n u) (Below w.heap.size w)) := by
  have hb0 : Below w.heap.size w (w.alloc (.cells #[.int .i64 n, .int .i64 u] 23)) := (Below.refl _ _).alloc (Nat.le_refl _) _
  have HB := Lib.hid hb0
  have HX := Lib.hid (heap_alloc_new w (.cells #[.int .i64 n, .int .i64 u] 23))
  have HD := Lib.hid (Cal.isD_yes h.1 h.2.1)
  have HT := Lib.hid (Cal.isT_yes h.2.2)
  have HTB := Lib.hid ht
  have HI := Lib.hid h
  obtain ⟨a, cap, rfl, h1, h2, h3, h4⟩ := hv
  have H3 := Lib.hid h3
  have H4 := Lib.hid h4
  obtain ⟨len, hlen⟩ : ∃ len, len = cl.length := ⟨_, rfl⟩
  rw [← hlen] at h1 hl ⊢
  have HL := Lib.hid hlen
  clear hb0 h ht h3 h4 hlen
  go_enter Tryd.func19, Tryd.ntmps19
  go_wp2_with (go_at_call 34; refine (isday_walk day _).mono ?_; rintro e w' ⟨rfl, rfl⟩; rw [HD.out])
  refine (isterm_walk n u _).mono ?_
  rintro e w2 ⟨rfl, hb⟩
  rw [HT.out]
  have HB2 := Lib.hid (HB.out.trans (hb.mono HB.out.size))
  have HX2 := Lib.hid ((Below.block hb _ (by simp)).trans HX.out)
  have hmk := run_make_set w2 len
  clear hb
  go_wp2
  clear hmk
  have HS0 := Lib.hid (IsSet.made w2)
  have HB3 := Lib.hid (HB2.out.alloc HB2.out.size (.map #[] 0))
  have HX3 := Lib.hid ((Below.heap_alloc w2 (.map #[] 0) w.heap.size (by have := HB2.out.size; have := lt_of_block HX2.out; omega)).trans HX2.out)
  go_loopw [29] (fun i wr => ∃ k : Nat, k ≤ len ∧ i = .int .i64 k ∧ Hid (IsSet wr w2.heap.size k (cl.take k)) ∧ Hid (Below w.heap.size w wr) ∧ Hid (wr.heap[w.heap.size]? = some (.cells #[.int .i64 n, .int .i64 u] 23 (0, 0)))) (fun i _ => len - (intOf i).toNat)
  case atStart => exact ⟨0, Nat.zero_le _, rfl, HS0, HB3, HX3⟩
  case round =>
    obtain ⟨k, hk, rfl, hS, hB, hX⟩ := hrel
    by_cases hlt : k < len
    · obtain ⟨b, off, ha, hbw, hc⟩ := H4.out (by intro e; have := HL.out; rw [e] at this; simp at this; omega)
      subst ha
      have c := hc k (by have := HL.out; omega)
      obtain ⟨z, hz⟩ : ∃ z, z = cl.getD k 0 := ⟨_, rfl⟩
      rw [← hz] at c
      have c' : wr.cell? ⟨b, off + k, none⟩ = some (.int .i64 z) := (hB.out.cell (p := ⟨b, off + k, none⟩) hbw).trans c
      have hzm : z ∈ cl := by
        rw [hz, List.getD_eq_getElem?_getD, List.getElem?_eq_getElem (by have := HL.out; omega)]; exact List.getElem_mem _
      obtain ⟨w4, hrun, hS4, hg4⟩ := hS.out.put (by unfold maxLen; omega) z (H3.out z hzm)
      have HS4 := Lib.hid hS4
      have HG4 := Lib.hid hg4
      have HZ := Lib.hid hz
      clear hz hc c hS4 hg4 hzm
      go_wp2
      clear hrun c'
      go_roundw
      case rel =>
        have hsz := HB2.out.size
        have hlt2 := lt_of_block hX.out
        have hne : w.heap.size < w2.heap.size := lt_of_block HX2.out
        refine ⟨k + 1, by omega, by go_num, ?_, ?_, ?_⟩
        · rw [take_one cl k (by have := HL.out; omega) z HZ.out]; exact HS4
        · exact hB.out.grown HG4.out hB.out.size (fun j hj => by cases hj; exact hsz)
        · exact (HG4.out.block _ hlt2 (by intro e; simp at e; omega)).trans hX.out
      case measure => simp [intOf]; omega
    · obtain rfl : k = len := by omega
      have hS' : IsSet wr w2.heap.size k cl := by have := hS.out; rw [HL.out, List.take_length] at this; rw [HL.out]; exact this
      have HS' := Lib.hid hS'
      have c0 : wr.cell? ⟨w.heap.size, 0, none⟩ = some (.int .i64 n) := by have := Joins.cell_of_block hX.out 0; simpa using this
      have c1 : wr.cell? ⟨w.heap.size, 1, none⟩ = some (.int .i64 u) := by have := Joins.cell_of_block hX.out 1; simpa using this
      have HF := Lib.hid (first_walk w2.heap.size k cl day n u HI.out wr (HTB.out.below hB.out) HS'.out)
      clear hS'
      go_wp2_with fail
      refine HF.out.mono ?_
      rintro e w5 ⟨r, er, rfl, hR, hb5⟩
      have HR := Lib.hid hR
      have HS5 := Lib.hid (HS'.out.below hb5)
      have HB5 := Lib.hid (hB.out.trans (hb5.mono hB.out.size))
      clear hR hb5 c0 c1
      by_cases he : er = 0
      · subst he
        have hr0 : 0 ≤ r := by have h1 := HI.out.1; have h2 := HR.out.ge HI.out.2.2.2.2.1 rfl; omega
        have HN := Lib.hid (next_open w2.heap.size k cl r hr0 w5 HS5.out)
        clear hr0
        go_wp2_with fail
        refine HN.out.mono ?_
        rintro e w6 ⟨q, er, rfl, hQ, rfl⟩
        have HQ := Lib.hid hQ
        clear hQ
        go_wp2
        go_ret2
        exact ⟨q, er, rfl, .inr (.inr ⟨HI.out, by rw [← HL.out]; exact hl, r, 0, HR.out, .inl ⟨rfl, HQ.out⟩⟩), HB5.out⟩
      · have he1 : (er != 0) = true := by simpa using he
        have HE := Lib.hid he
        clear he
        go_wp2
        go_ret2
        exact ⟨0, er, rfl, .inr (.inr ⟨HI.out, by rw [← HL.out]; exact hl, r, er, HR.out, .inr ⟨HE.out, rfl, rfl⟩⟩), HB5.out⟩

theorem add_walk (day n u : Int) (v : Value) (cl : List Int) (w : World) (ht : HasTab w) (hv : IsNums w v cl) :
    Calls Tryd.prog 19 #[.int .i64 day, .agg #[.int .i64 n, .int .i64 u], v] w (TwoB (Cal.AddR cl day n u) (Below w.heap.size w)) := by
  by_cases h : Cal.IsTerm day n u
  · by_cases hl : cl.length ≤ 1000
    · exact add_main day n u v cl w ht hv h hl
    · obtain ⟨a, cap, rfl, h1, h2, _, _⟩ := hv
      refine (add_many day n u a cl.length cap (by omega) (by omega) w h).mono ?_
      rintro e w' ⟨p, q, rfl, ⟨rfl, rfl⟩, hb⟩
      exact ⟨0, 2, rfl, .inr (.inl ⟨h, by omega, rfl, rfl⟩), hb⟩
  · refine (add_bad day n u v w h).mono ?_
    rintro e w' ⟨p, q, rfl, ⟨rfl, rfl⟩, hb⟩
    exact ⟨0, 1, rfl, .inl ⟨h, rfl, rfl⟩, hb⟩
end Go.Proofs.YthikonibmpngmaaDoor
