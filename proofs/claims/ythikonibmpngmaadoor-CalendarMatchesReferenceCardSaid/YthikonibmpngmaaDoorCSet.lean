/-
  A set of numbers as a map that the call has made; the walks of closures.open, next, workLater, monthsLater, isTerm.
-/
import Derived.Test.YthikonibmpngmaaDoorCNums
namespace Go.Proofs.YthikonibmpngmaaDoor
open Go.RowKit Go.Maps

theorem intKeyed : Keyed Tryd.prog 3 := int_keyed Tryd.underlying3
theorem zeroBool (w : World) : (zeroValue 4).run Tryd.prog w = .ok (.bool false) w := by kernel_rfl
theorem plainElem_bool_inv {P : Program} {e : TypeId} (he : P.underlying e = some .bool) {v : Value} {z : DataW Unit × List MemPlace} (h : plainElem P e v = some z) : ∃ x, v = .bool x ∧ z = (.lit (.bool x), []) := by
  unfold plainElem at h
  rw [he] at h
  cases v <;> simp at h
  exact ⟨_, rfl, h.symm⟩

/-- Block b is a map with just the numbers of a list, each with true; it has at most n entries. -/
def IsSet (w : World) (b n : Nat) (cl : List Int) : Prop :=
  ∃ D : DataW Unit, w.ownsMap Tryd.prog 3 (plainElem Tryd.prog 4) b n D ∧ ∀ x : Int, D.atKey (.int .i64 x) (.lit (.bool false)) = .lit (.bool (cl.contains x))
theorem wf64 {x : Int} (h : -9223372036854775808 ≤ x ∧ x ≤ 9223372036854775807) : (Lit.int .i64 x).wf = true := WalkArith.wf_i64 h

theorem IsSet.made (w : World) : IsSet (w.alloc (.map #[] 0)) w.heap.size 0 [] := ⟨.map [], World.ownsMap_made _ _ _ _, fun _ => rfl⟩
theorem IsSet.lt {w : World} {b n : Nat} {cl : List Int} (h : IsSet w b n cl) : b < w.heap.size := by obtain ⟨D, h, _⟩ := h; exact h.lt
theorem IsSet.kept {w w' : World} {b n : Nat} {cl : List Int} {row : Option Nat} (h : IsSet w b n cl) (hg : w.grownBy w' row) (hne : some b ≠ row) : IsSet w' b n cl := by
  obtain ⟨D, h1, h2⟩ := h; exact ⟨D, h1.kept hg hne, h2⟩
theorem IsSet.alloc {w : World} {b n : Nat} {cl : List Int} (h : IsSet w b n cl) (o : Obj) : IsSet (w.alloc o) b n cl := by
  obtain ⟨D, h1, h2⟩ := h; exact ⟨D, h1.alloc o, h2⟩
theorem IsSet.below {w w' : World} {b n : Nat} {cl : List Int} (h : IsSet w b n cl) (hb : Below w.heap.size w w') : IsSet w' b n cl :=
  h.kept (row := none) ⟨hb.os, hb.tape, hb.output, hb.size, fun k hk _ => hb.block k hk⟩ (by simp)
theorem IsSet.setCell {w : World} {b n : Nat} {cl : List Int} (h : IsSet w b n cl) {a : Addr} (ha : b ≠ a.block) (u : Value) : IsSet (w.setCell a u) b n cl := by
  obtain ⟨D, h1, h2⟩ := h; exact ⟨D, h1.setCell ha u, h2⟩
theorem IsSet.look {w : World} {b n : Nat} {cl : List Int} (h : IsSet w b n cl) (x : Int) (hx : -9223372036854775808 ≤ x ∧ x ≤ 9223372036854775807) :
    (Instr.lookup 55 (.map (some b)) (.int .i64 x) false).run Tryd.prog w = .ok (.bool (cl.contains x)) w := by
  obtain ⟨D, h1, h2⟩ := h
  obtain ⟨v, ps, hrun, hv⟩ := h1.lookup intKeyed Tryd.underlying55 (zeroBool w) (plainElem_bool Tryd.underlying4 false) (keyOf_int_mk Tryd.underlying3 (wf64 hx))
  rw [h2 x] at hv
  obtain ⟨y, rfl, hy⟩ := plainElem_bool_inv Tryd.underlying4 hv
  simp only [Prod.mk.injEq, DataW.lit.injEq, Lit.bool.injEq] at hy
  rw [hrun, hy.1]
theorem IsSet.put {w : World} {b n : Nat} {cl : List Int} (h : IsSet w b n cl) (hn : n < maxLen) (x : Int) (hx : -9223372036854775808 ≤ x ∧ x ≤ 9223372036854775807) :
    ∃ w', (Instr.mapUpdate 55 (.map (some b)) (.int .i64 x) (.bool true)).run Tryd.prog w = .ok () w' ∧ IsSet w' b (n + 1) (cl ++ [x]) ∧ w.grownBy w' (some b) := by
  obtain ⟨D, h1, h2⟩ := h
  obtain ⟨w', hrun, hown, hg⟩ := h1.update intKeyed Tryd.underlying55 hn (keyOf_int_mk Tryd.underlying3 (wf64 hx)) (plainElem_bool Tryd.underlying4 true)
  refine ⟨w', hrun, ⟨_, hown, fun y => ?_⟩, hg⟩
  by_cases e : y = x
  · subst e
    rw [Maps.atKey_put_same h1.isMap (by simp [WideAt.IsKeyLit])]
    simp
  · rw [Maps.atKey_put_other (by simpa using e), h2 y]
    simp [e]

/-- The function value that tells the open days. -/
abbrev Cal.openFn (b : Nat) : Value := .func (.func 39) #[.map (some b)] #[]

set_option maxHeartbeats 1000000 in
set_option maxRecDepth 100000 in
theorem open_walk (b n : Nat) (cl : List Int) (d : Int) (w : World) (h : IsSet w b n cl) :
    Calls Tryd.prog 39 #[.map (some b), .int .i64 d] w fun e w' => e = .returned (.bool (Cal.opn cl d)) ∧ w = w' := by
  have HC := Lib.hid (wkopen_walk d w)
  rw [Cal.opn_of]
  cases hk : Cal.wk d
  · rw [hk] at HC
    clear hk
    go_enter Tryd.func39, Tryd.ntmps39
    go_wp2_with fail
    refine HC.out.mono ?_
    rintro e w' ⟨rfl, rfl⟩
    go_wp2
    go_ret
    exact ⟨rfl, rfl⟩
  · rw [hk] at HC
    have hl := h.look d (by unfold Cal.wk at hk; simp at hk; omega)
    clear hk
    obtain ⟨c, hc⟩ : ∃ c, c = cl.contains d := ⟨_, rfl⟩
    rw [← hc] at hl ⊢
    clear hc h
    go_enter Tryd.func39, Tryd.ntmps39
    go_wp2_with fail
    refine HC.out.mono ?_
    rintro e w' ⟨rfl, rfl⟩
    go_wp2
    go_ret
    exact ⟨by simp, rfl⟩

/-- A number and an error, behind some new memory. -/
def TwoB (P : Int → Int → Prop) (R : World → Prop) (e : Ending) (w' : World) : Prop := ∃ a b : Int, e = .returned (.tuple #[.int .i64 a, .int .i64 b]) ∧ P a b ∧ R w'

set_option maxHeartbeats 1000000 in
set_option maxRecDepth 100000 in
theorem next_walk (f : FuncId) (hE : Enters Tryd.prog f) (bound cap : Array Value) (p : Int → Bool) (a : Int) (ha : 0 ≤ a) (I : Int → World → Prop) (w : World) (h0 : I a w)
    (hc : ∀ d w1, a ≤ d → d ≤ 1000000 → I d w1 → (∀ x, a ≤ x → x < d → p x = false) → Calls Tryd.prog f (bound.push (.int .i64 d) ++ cap) w1 fun e w' => e = .returned (.bool (p d)) ∧ I (d + 1) w') :
    Calls Tryd.prog 40 #[.int .i64 a, .func (.func f) bound cap] w (TwoB (Cal.Next p a) fun w' => ∃ d, I d w') := by
  have HC := Lib.hid hc
  have H0 := Lib.hid h0
  have HE := Lib.hid hE
  clear hc h0 hE
  go_enter Tryd.func40, Tryd.ntmps40
  go_wp2
  go_loopw [6] (fun i wr => ∃ d : Int, a ≤ d ∧ i = .int .i64 d ∧ Hid (I d wr) ∧ Hid (∀ x, a ≤ x → x < d → p x = false)) (fun i _ => (1000001 - intOf i).toNat)
  case atStart => exact ⟨a, Int.le_refl _, rfl, H0, fun x h1 h2 => absurd h2 (by omega)⟩
  case round =>
    obtain ⟨d, had, rfl, hI, hno⟩ := hrel
    by_cases hlt : d ≤ 1000000
    · have HCd := Lib.hid (HC.out d wr had hlt hI.out hno.out)
      have hent : ∀ (args : Array Value) (w : World), (callFunc f args).run Tryd.prog w = .ok (.enter f args) w := HE.out
      go_wp2_with fail
      refine HCd.out.mono ?_
      rintro e w1 ⟨rfl, hI1⟩
      clear hent
      have HI1 := Lib.hid hI1
      clear hI1
      cases hp : p d
      · have HP := Lib.hid hp
        clear hp
        go_wp2
        go_roundw
        case rel =>
          refine ⟨d + 1, by omega, by go_num, HI1, fun x h1 h2 => ?_⟩
          by_cases e : x = d
          · rw [e]; exact HP.out
          · exact hno.out x h1 (by omega)
        case measure => simp [intOf]; omega
      · have HP := Lib.hid hp
        clear hp
        go_wp2
        go_ret2
        exact ⟨d, 0, rfl, .inl ⟨rfl, had, hlt, HP.out, hno.out⟩, d + 1, HI1.out⟩
    · go_wp2
      go_ret2
      exact ⟨0, 10, rfl, .inr ⟨rfl, rfl, fun x h1 h2 => hno.out x h1 (by omega)⟩, d, hI.out⟩
end Go.Proofs.YthikonibmpngmaaDoor
