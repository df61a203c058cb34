import Derived.Test.YtoamkanofhhjfaaDoorKFLines
import Derived.Test.YtoamkanofhhjfaaDoorKFCon
import Derived.Test.YtoamkanofhhjfaaDoorKELexEx
/-
  The walk of the law's apart: tokens' texts, a line feed behind each.
-/
namespace Go.Proofs.YtoamkanofhhjfaaDoor
open Go.RowKit

theorem Fc.lines_take (l : List Lx.Tok) (k : Nat) (t : Lx.Tok) (h : l[k]? = some t) : Fc.lines (l.take (k + 1)) = Fc.lines (l.take k) ++ (t.text ++ [10]) := by
  rw [List.take_add_one, h]
  exact Fc.lines_snoc t _

set_option maxHeartbeats 4000000 in
set_option maxRecDepth 100000 in
theorem apart_walk (va : Value) (l : List Lx.Tok) (w : World) (ha : Lx.IsL w va l) (hsz : ∀ k, (Fc.lines (l.take k)).length ≤ 1000000) (ht24 : ∀ t ∈ l, t.text.length ≤ 24) :
    Calls Tryd.prog 22 #[va] w fun e w' => e = .returned (.string (Lx.str (Fc.lines l))) ∧ w = w' := by
  obtain ⟨z, hz⟩ : ∃ z, z = Lx.str (Fc.lines l) := ⟨_, rfl⟩
  rw [← hz]
  by_cases hne : l = []
  · subst hne
    obtain ⟨a1, c1, e1⟩ := ha.form
    simp only [List.length_nil] at e1
    subst e1
    have hz0 : z = ⟨#[]⟩ := by rw [hz]; rfl
    subst hz0
    clear ha hz hsz ht24
    go_enter Tryd.func22, Tryd.ntmps22
    go_wp2_with fail
    go_loop [3, 4] (fun v i => v = .string ⟨#[]⟩ ∧ i = .int .i64 0) (fun _ _ => 0)
    case atStart => exact ⟨rfl, rfl⟩
    case round =>
      obtain ⟨rfl, rfl⟩ := hrel
      go_wp2_with fail
      go_ret
      exact ⟨rfl, rfl⟩
  · obtain ⟨g1, c1, rfl, hc1, hm1, hg1, hcl1⟩ := ha.some hne
    have H1 := Lib.hid hcl1
    have HZ := Lib.hid hz
    have HS := Lib.hid hsz
    have HT := Lib.hid ht24
    obtain ⟨n, hn⟩ : ∃ n, n = l.length := ⟨_, rfl⟩
    rw [← hn] at hc1 ⊢
    have HN := Lib.hid hn
    clear ha hcl1 hne hn hz hsz ht24
    go_enter Tryd.func22, Tryd.ntmps22
    go_wp2_with fail
    go_loop [3, 4] (fun v i => ∃ (k : Nat) (x : ByteArray), k ≤ n ∧ i = .int .i64 k ∧ v = .string x ∧ Hid (x = Lx.str (Fc.lines (l.take k)))) (fun _ i => n - (intOf i).toNat)
    case atStart => exact ⟨0, ⟨#[]⟩, Nat.zero_le _, rfl, rfl, rfl⟩
    case round =>
      obtain ⟨k, x, hk, rfl, rfl, hx⟩ := hrel
      by_cases hlt : k < n
      · have hkl : k < l.length := by rw [← HN.out]; exact hlt
        obtain ⟨t, ht⟩ : ∃ t, t = l[k] := ⟨_, rfl⟩
        have hget : l[k]? = some t := by rw [ht]; exact List.getElem?_eq_getElem hkl
        obtain ⟨_, p1, _, _⟩ := H1.out k t hget
        obtain ⟨y, hy⟩ : ∃ y, y = Lx.str t.text := ⟨_, rfl⟩
        rw [← hy] at p1
        have h24 := HT.out t (by rw [ht]; exact List.getElem_mem _)
        have hxs : x.size ≤ 1000000 := by rw [hx.out, Fc.str_size]; exact HS.out k
        have hys : y.size ≤ 24 := by rw [hy, Fc.str_size]; exact h24
        have HX : Hid (x ++ y ++ ⟨#[10]⟩ = Lx.str (Fc.lines (l.take (k + 1)))) := by
          show _ = _
          rw [Fc.lines_take l k t hget, hx.out, hy]
          apply ByteArray.ext
          simp [Lx.str, ByteArray.data_append]
        clear ht hget hkl hy h24 hx
        have hki : (k : Int) < (n : Int) := by omega
        go_wp2_with fail
        go_round
        case rel => exact ⟨k + 1, _, by omega, by go_num, rfl, HX⟩
        case measure => simp [intOf]; omega
      · have hxz : z = x := by rw [HZ.out, hx.out, List.take_of_length_le (by rw [← HN.out]; omega)]
        subst hxz
        clear hx
        go_wp2_with fail
        go_ret
        exact ⟨rfl, rfl⟩
end Go.Proofs.YtoamkanofhhjfaaDoor
