/-
  The walk of head, the laws' fixed examples.
-/
import Derived.Test.YtidmonmkpkbhjaaELexW
import Derived.Test.YtidmonmkpkbhjaaERead
namespace Go.Proofs.Ytidmonmkpkbhjaa
open Go.RowKit

/-- What Lex answers, in short. -/
theorem lex_ex (s : ByteArray) (hm : s.size ≤ 9223372036854775807) (w : World) :
    Calls Try.prog 12 #[.string s] w fun e w' => ∃ v, e = .returned (.tuple #[v, .int .i64 ((Lx.full (Lx.tx s)).2.1 : Nat), .int .i64 (Lx.full (Lx.tx s)).2.2]) ∧ Lx.IsL w' v (Lx.full (Lx.tx s)).1 ∧ Below w.heap.size w w' :=
  (lex_walk s hm w).mono fun _ _ ⟨v, h1, h2, h3⟩ => ⟨v, h1, h2.isL, h3⟩
theorem lex_of (s : ByteArray) (hm : s.size ≤ 9223372036854775807) (l : List Lx.Tok) (E A : Int) (E' : Nat) (hE : (E' : Int) = E) (h : Lx.full (Lx.tx s) = (l, E', A)) (w : World) :
    Calls Try.prog 12 #[.string s] w fun e w' => ∃ v, e = .returned (.tuple #[v, .int .i64 E, .int .i64 A]) ∧ Lx.IsL w' v l ∧ Below w.heap.size w w' := by
  have := lex_ex s hm w
  rw [h] at this
  simp only [hE] at this
  exact this
theorem Lx.full_ok {s : Lx.T} (h : s.length ≤ 5000) {l : List Lx.Tok} (e : Lx.lex s 0 = (l, none)) : Lx.full s = (l, 0, 0) := by rw [Lx.full_small h, e]
theorem Lx.full_no {s : Lx.T} (h : s.length ≤ 5000) {l : List Lx.Tok} {x a : Nat} (e : Lx.lex s 0 = (l, some (x, a))) : Lx.full s = ([], x, (a : Int)) := by rw [Lx.full_small h, e]

set_option maxHeartbeats 4000000 in
set_option maxRecDepth 100000 in
theorem head_walk (w : World) : Calls Try.prog 11 #[] w fun e w' => e = .returned (.bool true) ∧ Below w.heap.size w w' := by
  have L1 := Lib.hid (lex_of ⟨#[114, 111, 119, 32, 97, 49, 32, 97, 116, 32, 55, 62, 61, 120, 35, 32, 121]⟩ (by decide) _ 0 0 0 rfl (Lx.full_ok (by decide) Lx.head_row))
  have L2 := Lib.hid (lex_of ⟨#[97, 32, 33, 98]⟩ (by decide) _ 3 2 3 rfl (Lx.full_no (by decide) Lx.head_char))
  have L3 := Lib.hid (lex_of ⟨#[55, 120]⟩ (by decide) _ 4 0 4 rfl (Lx.full_no (by decide) Lx.head_num))
  have L4 := Lib.hid (lex_of ⟨#[49, 50, 51, 52, 53, 54, 55, 56]⟩ (by decide) _ 4 0 4 rfl (Lx.full_no (by decide) Lx.head_long))
  have L5 := Lib.hid (lex_of ⟨#[10, 97, 98, 99, 100, 101, 102, 103, 104, 105, 106, 107, 108, 109, 110, 111, 112, 113, 114, 115, 116, 117, 118, 119, 120, 121]⟩ (by decide) _ 2 1 2 rfl (Lx.full_no (by decide) Lx.head_name))
  go_enter Try.func11, Try.ntmps11
  go_wp2_with fail
  refine (L1.out w).mono ?_
  rintro e w1 ⟨v1, rfl, hl1, hb1⟩
  obtain ⟨g, c, rfl, hc1, hc2, hg, hcl⟩ := hl1.some (by simp)
  have HC := Lib.hid hcl
  clear hcl hl1
  go_wp2_with fail
  refine (L2.out w1).mono ?_
  rintro e w2 ⟨v2, rfl, _, hb2'⟩
  have hb2 := hb1.trans (hb2'.mono hb1.size)
  go_wp2_with fail
  refine (L3.out w2).mono ?_
  rintro e w3 ⟨v3, rfl, _, hb3⟩
  go_wp2_with fail
  refine (L4.out w3).mono ?_
  rintro e w4 ⟨v4, rfl, _, hb4⟩
  go_wp2_with fail
  refine (L5.out w4).mono ?_
  rintro e w5 ⟨v5, rfl, _, hb5⟩
  have hb6 : Below w1.heap.size w1 w5 := hb2'.trans ((hb3.trans ((hb4.trans (hb5.mono hb4.size)).mono hb3.size)).mono hb2'.size)
  have p10 : w5.cell? ⟨g, 4, none⟩ = some (.int .i64 1) := (hb6.cell (p := ⟨g, 4, none⟩) hg).trans (HC.out 1 _ rfl).1
  have p11 : w5.cell? ⟨g, 5, none⟩ = some (.string ⟨#[97, 49]⟩) := (hb6.cell (p := ⟨g, 5, none⟩) hg).trans (HC.out 1 _ rfl).2.1
  have p12 : w5.cell? ⟨g, 6, none⟩ = some (.int .i64 0) := (hb6.cell (p := ⟨g, 6, none⟩) hg).trans (HC.out 1 _ rfl).2.2.1
  have p13 : w5.cell? ⟨g, 7, none⟩ = some (.int .i64 4) := (hb6.cell (p := ⟨g, 7, none⟩) hg).trans (HC.out 1 _ rfl).2.2.2
  have p30 : w5.cell? ⟨g, 12, none⟩ = some (.int .i64 2) := (hb6.cell (p := ⟨g, 12, none⟩) hg).trans (HC.out 3 _ rfl).1
  have p31 : w5.cell? ⟨g, 13, none⟩ = some (.string ⟨#[55]⟩) := (hb6.cell (p := ⟨g, 13, none⟩) hg).trans (HC.out 3 _ rfl).2.1
  have p32 : w5.cell? ⟨g, 14, none⟩ = some (.int .i64 7) := (hb6.cell (p := ⟨g, 14, none⟩) hg).trans (HC.out 3 _ rfl).2.2.1
  have p33 : w5.cell? ⟨g, 15, none⟩ = some (.int .i64 10) := (hb6.cell (p := ⟨g, 15, none⟩) hg).trans (HC.out 3 _ rfl).2.2.2
  have p40 : w5.cell? ⟨g, 16, none⟩ = some (.int .i64 3) := (hb6.cell (p := ⟨g, 16, none⟩) hg).trans (HC.out 4 _ rfl).1
  have p41 : w5.cell? ⟨g, 17, none⟩ = some (.string ⟨#[62, 61]⟩) := (hb6.cell (p := ⟨g, 17, none⟩) hg).trans (HC.out 4 _ rfl).2.1
  have p42 : w5.cell? ⟨g, 18, none⟩ = some (.int .i64 0) := (hb6.cell (p := ⟨g, 18, none⟩) hg).trans (HC.out 4 _ rfl).2.2.1
  have p43 : w5.cell? ⟨g, 19, none⟩ = some (.int .i64 11) := (hb6.cell (p := ⟨g, 19, none⟩) hg).trans (HC.out 4 _ rfl).2.2.2
  have p50 : w5.cell? ⟨g, 20, none⟩ = some (.int .i64 1) := (hb6.cell (p := ⟨g, 20, none⟩) hg).trans (HC.out 5 _ rfl).1
  have p51 : w5.cell? ⟨g, 21, none⟩ = some (.string ⟨#[120]⟩) := (hb6.cell (p := ⟨g, 21, none⟩) hg).trans (HC.out 5 _ rfl).2.1
  have p52 : w5.cell? ⟨g, 22, none⟩ = some (.int .i64 0) := (hb6.cell (p := ⟨g, 22, none⟩) hg).trans (HC.out 5 _ rfl).2.2.1
  have p53 : w5.cell? ⟨g, 23, none⟩ = some (.int .i64 13) := (hb6.cell (p := ⟨g, 23, none⟩) hg).trans (HC.out 5 _ rfl).2.2.2
  have HB := Lib.hid (hb1.trans (hb6.mono hb1.size))
  clear hb6 hb5 hb4 hb3 hb2 hb2' hb1 L1 L2 L3 L4 L5
  simp only [List.length_cons, List.length_nil, Nat.zero_add, Nat.reduceAdd] at hc1
  go_wp2_with fail
  go_ret
  exact ⟨rfl, HB.out⟩
end Go.Proofs.Ytidmonmkpkbhjaa
