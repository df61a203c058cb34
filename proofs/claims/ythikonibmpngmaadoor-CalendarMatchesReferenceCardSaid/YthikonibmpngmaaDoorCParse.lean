/-
  The walk of calendar.Parse.
-/
import Derived.Test.YthikonibmpngmaaDoorCTextW
namespace Go.Proofs.YthikonibmpngmaaDoor
open Go.RowKit

def Cal.dv (y m d : Int) : Int := if (1 ≤ m ∧ m ≤ 12 ∧ 1 ≤ d ∧ d ≤ Cal.len y m) ∧ 1600 ≤ y ∧ y ≤ 9999 ∧ Cal.num y m d ≤ 1000000 then Cal.num y m d else 0
def Cal.de (y m d : Int) : Int := if (1 ≤ m ∧ m ≤ 12 ∧ 1 ≤ d ∧ d ≤ Cal.len y m) then (if 1600 ≤ y ∧ y ≤ 9999 ∧ Cal.num y m d ≤ 1000000 then 0 else 10) else 1
theorem Cal.DayR.det {y m d v e : Int} (h : Cal.DayR y m d v e) : v = Cal.dv y m d ∧ e = Cal.de y m d := by
  unfold Cal.dv Cal.de
  rcases h with ⟨h1, h2, h3⟩ | ⟨h1, h2, h3, h4⟩ | ⟨h1, h2, h3, h4, h5, h6⟩ | ⟨h1, h2, h3, h4, h5, h6⟩ <;> unfold Cal.Valid at h1
  · rw [if_neg (by omega), if_neg h1]; exact ⟨h2, h3⟩
  · rw [if_neg (by omega), if_pos h1, if_neg (by omega)]; exact ⟨h3, h4⟩
  · rw [if_neg (by omega), if_pos h1, if_neg (by omega)]; exact ⟨h5, h6⟩
  · rw [if_pos ⟨h1, h2, h3, h4⟩, if_pos h1, if_pos ⟨h2, h3, h4⟩]; exact ⟨h5, h6⟩
theorem Cal.de_zero {y m d : Int} (h : Cal.de y m d = 0) : Cal.IsDate (Cal.dv y m d) y m d ∧ Cal.dv y m d ≤ 1000000 := by
  unfold Cal.de at h
  unfold Cal.dv
  split at h
  · split at h
    · rename_i h1 h2
      rw [if_pos ⟨h1, h2⟩]
      exact ⟨Cal.date_of_num h2.1 h2.2.1 h1 h2.2.2, h2.2.2⟩
    · omega
  · omega
theorem Cal.dv_date {n y m d : Int} (h : Cal.IsDate n y m d) (hn : n ≤ 1000000) : Cal.dv y m d = n ∧ Cal.de y m d = 0 := by
  obtain ⟨a, b, c, e⟩ := h
  unfold Cal.dv Cal.de
  unfold Cal.Valid at c
  rw [if_pos ⟨c, a, by omega, by omega⟩, if_pos c, if_pos ⟨a, by omega, by omega⟩]
  exact ⟨e, rfl⟩

theorem day_det (y m d : Int) (w : World) (ht : HasTab w) : Calls Tryd.prog 13 #[.int .i64 y, .int .i64 m, .int .i64 d] w fun e w' => e = .returned (.tuple #[.int .i64 (Cal.dv y m d), .int .i64 (Cal.de y m d)]) ∧ w' = w := by
  refine (day_walk y m d w ht).mono ?_
  rintro e w' ⟨v, er, rfl, hR, rfl⟩
  obtain ⟨rfl, rfl⟩ := hR.det
  exact ⟨rfl, rfl⟩
def Cal.numS (s : ByteArray) : Int := Cal.numb s.data.toList
theorem number_same (s : ByteArray) (hs : s.size ≤ 4) (w : World) : Calls Tryd.prog 36 #[.string s] w fun e w' => e = .returned (.int .i64 (Cal.numS s)) ∧ w' = w :=
  (number_walk s hs w).mono fun _ _ ⟨h, e⟩ => ⟨h, e.symm⟩
theorem below_drewN (w : World) (k : Nat) : Below w.heap.size w (w.drewN k) := ⟨rfl, rfl, rfl, Nat.le_refl _, fun _ _ => rfl⟩

theorem bytes_ext {a b : ByteArray} (h : a.data.toList = b.data.toList) : a = b := by
  cases a; cases b; congr; simpa using congrArg List.toArray h
/-- The three numbers of a text. -/
def Cal.py (t : List UInt8) : Int := Cal.numb (t.take 4)
def Cal.pm (t : List UInt8) : Int := Cal.numb ((t.drop 5).take 2)
def Cal.pd (t : List UInt8) : Int := Cal.numb ((t.drop 8).take 2)
theorem Cal.parts_txt {n y m d : Int} (h : Cal.IsDate n y m d) : Cal.py (Cal.txt y m d) = y ∧ Cal.pm (Cal.txt y m d) = m ∧ Cal.pd (Cal.txt y m d) = d := by
  obtain ⟨a, b, c⟩ := h.bd
  refine ⟨?_, ?_, ?_⟩
  · show Cal.numb (Cal.four y) = y
    exact Cal.numb_four a
  · show Cal.numb (Cal.two m) = m
    exact Cal.numb_two b
  · show Cal.numb (Cal.two d) = d
    exact Cal.numb_two c
theorem Cal.parse_no {t : List UInt8} (h : Cal.de (Cal.py t) (Cal.pm t) (Cal.pd t) ≠ 0) : Cal.ParseR t 0 5 := by
  refine .inr ⟨fun n y m d hd hn e => ?_, rfl, rfl⟩
  subst e
  obtain ⟨h1, h2, h3⟩ := Cal.parts_txt hd
  rw [h1, h2, h3] at h
  exact h (Cal.dv_date hd hn).2
theorem Cal.parse_yes {t s : List UInt8} (h : Cal.de (Cal.py t) (Cal.pm t) (Cal.pd t) = 0) (hs : Cal.TextR (Cal.dv (Cal.py t) (Cal.pm t) (Cal.pd t)) s) (e : s = t) : Cal.ParseR t (Cal.dv (Cal.py t) (Cal.pm t) (Cal.pd t)) 0 := by
  obtain ⟨hd, hn⟩ := Cal.de_zero h
  rcases hs with ⟨g1, g2, y, m, d, g3, g4⟩ | ⟨g1, g2⟩
  · exact .inl ⟨y, m, d, g3, hn, by rw [← e, g4], rfl⟩
  · exact absurd ⟨hd.ge, hn⟩ g1
theorem Cal.parse_not {t s : List UInt8} (hs : Cal.TextR (Cal.dv (Cal.py t) (Cal.pm t) (Cal.pd t)) s) (e : s ≠ t) : Cal.ParseR t 0 5 := by
  refine .inr ⟨fun n y m d hd hn e2 => e ?_, rfl, rfl⟩
  rw [e2] at hs ⊢
  obtain ⟨h1, h2, h3⟩ := Cal.parts_txt hd
  rw [h1, h2, h3, (Cal.dv_date hd hn).1] at hs
  exact hs.uniq (.inl ⟨hd.ge, hn, y, m, d, hd, rfl⟩)
theorem Cal.parse_len {t : List UInt8} (h : t.length ≠ 10) : Cal.ParseR t 0 5 := by
  refine .inr ⟨fun n y m d hd hn e2 => h ?_, rfl, rfl⟩
  rw [e2]; rfl

set_option maxHeartbeats 1000000 in
set_option maxRecDepth 100000 in
theorem parse_short (s : ByteArray) (h : s.size ≠ 10) (_hs : s.size ≤ 9223372036854775807) (w : World) : Calls Tryd.prog 17 #[.string s] w (TwoB (Cal.ParseR s.data.toList) (Below w.heap.size w)) := by
  have HR := Lib.hid (Cal.parse_len (t := s.data.toList) (by rw [← Lib.size_eq]; exact h))
  obtain ⟨n, hn⟩ : ∃ n, n = s.size := ⟨_, rfl⟩
  have h1 : ((s.size : Int) != 10) = true := by simp; omega
  clear h
  go_enter Tryd.func17, Tryd.ntmps17
  go_wp2
  go_ret2
  exact ⟨0, 5, rfl, HR.out, Below.refl _ _⟩

set_option maxHeartbeats 2000000 in
set_option maxRecDepth 100000 in
theorem parse_ten (s : ByteArray) (h : s.size = 10) (w : World) (ht : HasTab w) : Calls Tryd.prog 17 #[.string s] w (TwoB (Cal.ParseR s.data.toList) (Below w.heap.size w)) := by
  have HT := Lib.hid ht
  have e1 : Cal.numS (s.extract 0 4) = Cal.py s.data.toList := by rw [Cal.numS, Cal.py]; simp
  have e2 : Cal.numS (s.extract 5 7) = Cal.pm s.data.toList := by rw [Cal.numS, Cal.pm]; simp
  have e3 : Cal.numS (s.extract 8 10) = Cal.pd s.data.toList := by rw [Cal.numS, Cal.pd]; simp
  have HE := Lib.hid (And.intro e1 (And.intro e2 e3))
  have HD : Hid (∀ k y m d, Calls Tryd.prog 13 #[.int .i64 y, .int .i64 m, .int .i64 d] (w.drewN k) fun e w' => e = .returned (.tuple #[.int .i64 (Cal.dv y m d), .int .i64 (Cal.de y m d)]) ∧ w' = w.drewN k) :=
    fun k y m d => day_det y m d _ (ht.below (below_drewN w k))
  have s1 : (s.extract 0 4).size ≤ 4 := by simp; omega
  have s2 : (s.extract 5 7).size ≤ 4 := by simp; omega
  have s3 : (s.extract 8 10).size ≤ 4 := by simp; omega
  have S := Lib.hid (And.intro s1 (And.intro s2 s3))
  clear ht e1 e2 e3 s1 s2 s3
  go_enter Tryd.func17, Tryd.ntmps17
  go_wp2
  go_quiet ((first | (go_at_call 13; exact Calls.quiet_of_same (HD.out _ _ _ _)) | (go_at_call 36; exact Calls.quiet_of_same (number_same _ (by first | exact S.out.1 | exact S.out.2.1 | exact S.out.2.2) _))))
  rw [HE.out.1, HE.out.2.1, HE.out.2.2]
  obtain ⟨v, hv⟩ : ∃ v, v = Cal.dv (Cal.py s.data.toList) (Cal.pm s.data.toList) (Cal.pd s.data.toList) := ⟨_, rfl⟩
  obtain ⟨er, her⟩ : ∃ er, er = Cal.de (Cal.py s.data.toList) (Cal.pm s.data.toList) (Cal.pd s.data.toList) := ⟨_, rfl⟩
  rw [← hv, ← her]
  have HV := Lib.hid (And.intro hv her)
  clear hv her
  have HW := Lib.hid (below_drewN w nq)
  by_cases he : er = 0
  · subst he
    go_wp2_with fail
    refine (text_walk v _ (HT.out.below HW.out)).mono ?_
    rintro e w' ⟨t, rfl, ht, htz, hb⟩
    have HB := Lib.hid (HW.out.trans (hb.mono HW.out.size))
    clear hb htz
    by_cases hts : t = s
    · subst hts
      go_wp2
      go_ret2
      exact ⟨v, 0, rfl, by have := Cal.parse_yes HV.out.2.symm (by rw [← HV.out.1]; exact ht.out) rfl; rw [← HV.out.1] at this; exact this, HB.out⟩
    · have hq : (t.toList == s.toList) = false := by
        rw [Lib.toList_data, Lib.toList_data]
        simpa using fun e => hts (bytes_ext e)
      have HN := Lib.hid hts
      clear hts
      go_wp2
      go_ret2
      exact ⟨0, 5, rfl, Cal.parse_not (by rw [← HV.out.1]; exact ht.out) (fun e => HN.out (bytes_ext e)), HB.out⟩
  · have h1 : (er != 0) = true := by simpa using he
    have HE2 := Lib.hid he
    clear he
    go_wp2
    go_ret2
    exact ⟨0, 5, rfl, Cal.parse_no (by rw [← HV.out.2]; exact HE2.out), HW.out⟩

theorem parse_walk (s : ByteArray) (hs : s.size ≤ 9223372036854775807) (w : World) (ht : HasTab w) : Calls Tryd.prog 17 #[.string s] w (TwoB (Cal.ParseR s.data.toList) (Below w.heap.size w)) := by
  by_cases h : s.size = 10
  · exact parse_ten s h w ht
  · exact parse_short s h hs w
end Go.Proofs.YthikonibmpngmaaDoor
