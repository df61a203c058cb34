import Derived.Test.YtoamkanofhhjfaaGreatDoorKHFactC
import Derived.Test.YtoamkanofhhjfaaGreatDoorKHFactD
import Derived.Test.YtoamkanofhhjfaaGreatDoorKHFactN
/-
  The walk of the reference's reader of a fact. (Written by wip/tools/gen_reffact.py.)
-/
namespace Go.Proofs.YtoamkanofhhjfaaGreatDoor
open Go.RowKit
theorem reffact_walk (R e : Nat) (lv : Value) (L l : List Lx.Tok) (base : Nat) (d : List Fc.Fact) (dv : Value) (w : World) (hrx0 : Fc.RX R e lv L (.ok l) w) (hL : L.length ≤ 5000) (hown : Fc.OwnF base d dv w) (hbase : base ≤ w.heap.size) (hRb : R < base) (hvd : Fc.Valid d) :
    Calls Tryz.prog 32 #[.pointer (some ⟨R, 0, none⟩), .agg #[dv]] w (Fc.FactOut R e lv L base d w (Fc.fact1 e d l)) := by
  by_cases hd : ∃ nm l1, Fc.want 1 [] e l = .ok (nm, l1) ∧ nm.text ∉ d.map (·.name) ∧ ¬ d.length = 60 ∧ Fc.sees 1 Fc.wFlag l1 = false ∧ Fc.sees 1 Fc.wDay l1 = true
  · exact reffact_D R e lv L l base d dv w hrx0 hL hown hbase hRb hvd hd
  · by_cases hn : ∃ nm l1, Fc.want 1 [] e l = .ok (nm, l1) ∧ nm.text ∉ d.map (·.name) ∧ ¬ d.length = 60 ∧ Fc.sees 1 Fc.wFlag l1 = false ∧ Fc.sees 1 Fc.wDay l1 = false
    · exact reffact_N R e lv L l base d dv w hrx0 hL hown hbase hRb hvd hn
    · refine reffact_C R e lv L l base d dv w hrx0 hL hown hbase hRb hvd fun nm l1 h1 h2 h3 h4 => ?_
      cases h5 : Fc.sees 1 Fc.wDay l1 with
      | true => exact hd ⟨nm, l1, h1, h2, h3, h4, h5⟩
      | false => exact hn ⟨nm, l1, h1, h2, h3, h4, h5⟩
end Go.Proofs.YtoamkanofhhjfaaGreatDoor
