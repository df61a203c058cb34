/-
  The canonical texts of domains and cases, and their tokens (P6.2, P6.3).
-/
import Derived.Test.YtjcaingfeaaakaaFSpell
import Derived.Test.YtjcaingfeaaakaaFCase
namespace Go.Proofs.Ytjcaingfeaaakaa.Fc
open Lx

/-- What a fact of a valid domain is, but for the other names. -/
structure Ok (f : Fact) : Prop where
  name : Good 1 f.name 0
  low : 0 ≤ f.lo
  le : f.lo ≤ f.hi
  high : f.hi ≤ 1000000
  kind : f.kind = 1 ∨ f.kind = 2 ∨ f.kind = 3
  flag : f.kind = 1 → f.lo = 0 ∧ f.hi = 1

def wFlag : T := [102, 108, 97, 103]
def wNumber : T := [110, 117, 109, 98, 101, 114]
def wDay : T := [100, 97, 121]
def wTo : T := [116, 111]
theorem good_flag : Good 1 wFlag 0 := .inl ⟨rfl, rfl, 102, [108, 97, 103], rfl, rfl, rfl, by decide⟩
theorem good_number : Good 1 wNumber 0 := .inl ⟨rfl, rfl, 110, [117, 109, 98, 101, 114], rfl, rfl, rfl, by decide⟩
theorem good_day : Good 1 wDay 0 := .inl ⟨rfl, rfl, 100, [97, 121], rfl, rfl, rfl, by decide⟩
theorem good_to : Good 1 wTo 0 := .inl ⟨rfl, rfl, 116, [111], rfl, rfl, rfl, by decide⟩
theorem good_sym {c : UInt8} (h : isOne c = true) : Good 3 [c] 0 := .inr (.inr ⟨rfl, rfl, .inr ⟨c, rfl, h⟩⟩)

/-- The words of a fact, behind a gap. -/
def fwords (p : T) (f : Fact) : List Word :=
  if f.kind = 1 then [(p, 1, f.name, 0), ([32], 1, wFlag, 0), ([], 3, [59], 0)]
  else [(p, 1, f.name, 0), ([32], 1, if f.kind = 2 then wNumber else wDay, 0), ([32], 2, dec f.lo.toNat, f.lo.toNat), ([32], 1, wTo, 0), ([32], 2, dec f.hi.toNat, f.hi.toNat), ([], 3, [59], 0)]
def dwords : T → List Fact → List Word
  | _, [] => []
  | p, f :: d => fwords p f ++ dwords [10] d
/-- The canonical text of a fact, and of a domain. -/
def ftext (f : Fact) : T :=
  if f.kind = 1 then f.name ++ (32 :: wFlag ++ [59, 10])
  else f.name ++ (32 :: (if f.kind = 2 then wNumber else wDay) ++ (32 :: dec f.lo.toNat ++ (32 :: wTo ++ (32 :: dec f.hi.toNat ++ [59, 10]))))
def dtext : List Fact → T
  | [] => []
  | f :: d => ftext f ++ dtext d
theorem spell_fact (p q : T) (f : Fact) : spell (10 :: q) (fwords p f) = p ++ (ftext f ++ q) := by
  unfold fwords ftext
  by_cases h : f.kind = 1
  · rw [if_pos h, if_pos h]; simp [spell]
  · rw [if_neg h, if_neg h]; simp [spell]
theorem spell_more : ∀ d : List Fact, spell [10] (dwords [10] d) = 10 :: dtext d
  | [] => rfl
  | f :: d => by rw [dwords, spell_app, spell_more d, spell_fact, dtext]; rfl
theorem spell_dom (f : Fact) (d : List Fact) : spell [10] (dwords [] (f :: d)) = dtext (f :: d) := by
  rw [dwords, spell_app, spell_more d, spell_fact, dtext]; rfl
theorem gaps_nl : gaps [10] := by rfl
theorem spells_fact {p : T} (hp : Gap p) {f : Fact} (h : Ok f) {q x : T} {ws : List Word} (hx : spell q ws = 10 :: x) (hw : Spells q ws) : Spells q (fwords p f ++ ws) := by
  have g32 : Gap [32] := gap_blank rfl
  have hb : ∀ {k : Nat} {t : T} {n : Nat} (y : T), Good k t n → stop t ([32] ++ y) = true := fun y hg => stop_blank hg rfl y
  have hs : ∀ {k : Nat} {t : T} {n : Nat} (y : T), Good k t n → k ≠ 3 → stop t ([] ++ ([59] ++ y)) = true := fun y hg hk => stop_symbol hg hk rfl y
  have he : stop [59] (spell q ws) = true := by rw [hx]; exact stop_blank (good_sym (c := 59) rfl) rfl x
  have hlo : f.lo.toNat < 10000000 := by have := h.low; have := h.le; have := h.high; omega
  have hhi : f.hi.toNat < 10000000 := by have := h.high; omega
  unfold fwords
  by_cases hk : f.kind = 1
  · rw [if_pos hk]
    exact ⟨hp, h.name, hb _ h.name, g32, good_flag, hs _ good_flag (by decide), gap_nil, good_sym rfl, he, hw⟩
  · rw [if_neg hk]
    have hkk : Good 1 (if f.kind = 2 then wNumber else wDay) 0 := by
      by_cases h2 : f.kind = 2
      · rw [if_pos h2]; exact good_number
      · rw [if_neg h2]; exact good_day
    exact ⟨hp, h.name, hb _ h.name, g32, hkk, hb _ hkk, g32, good_dec hlo, hb _ (good_dec hlo), g32, good_to, hb _ good_to, g32, good_dec hhi, hs _ (good_dec hhi) (by decide), gap_nil, good_sym rfl, he, hw⟩
theorem spells_more : ∀ {d : List Fact}, (∀ f ∈ d, Ok f) → Spells [10] (dwords [10] d)
  | [], _ => gaps_nl
  | f :: d, h => spells_fact (gap_blank rfl) (h f (by simp)) (spell_more d) (spells_more (d := d) (fun g hg => h g (by simp [hg])))
/-- The tokens of the canonical text of a domain. -/
theorem lex_dom {d : List Fact} (h : ∀ f ∈ d, Ok f) (a : Nat) : lex (dtext d) a = (spelt (dwords [] d) a, none) := by
  cases d with
  | nil => exact lex_done (by rfl) a
  | cons f d =>
    rw [← spell_dom]
    exact lex_spell (q := [10]) (spells_fact gap_nil (h f (by simp)) (spell_more d) (spells_more (fun g hg => h g (by simp [hg])))) a

/-- The words of a value, behind a gap, and of a case. -/
def vwords (p : T) (f : Fact) (x : Int) : List Word := [(p, 1, f.name, 0), ([32], 3, [61], 0), ([32], 2, dec x.toNat, x.toNat)]
def rwords : List Fact → List Int → List Word
  | f :: d, x :: c => ([], 3, [44], 0) :: (vwords [32] f x ++ rwords d c)
  | _, _ => []
def cwords : List Fact → List Int → List Word
  | f :: d, x :: c => vwords [] f x ++ rwords d c
  | _, _ => []
/-- The canonical text of a case. -/
def vtext (f : Fact) (x : Int) : T := f.name ++ (32 :: 61 :: 32 :: dec x.toNat)
def rtext : List Fact → List Int → T
  | f :: d, x :: c => 44 :: 32 :: (vtext f x ++ rtext d c)
  | _, _ => []
def ctext : List Fact → List Int → T
  | f :: d, x :: c => vtext f x ++ rtext d c
  | _, _ => []
theorem spell_rest : ∀ (d : List Fact) (c : List Int), spell [] (rwords d c) = rtext d c
  | [], _ => by simp [rwords, rtext, spell]
  | _ :: _, [] => rfl
  | f :: d, x :: c => by
    rw [rwords, spell, spell_app, spell_rest d c, rtext]
    simp [vwords, spell, vtext]
theorem spell_case : ∀ (d : List Fact) (c : List Int), spell [] (cwords d c) = ctext d c
  | [], _ => by simp [cwords, ctext, spell]
  | _ :: _, [] => rfl
  | f :: d, x :: c => by
    rw [cwords, spell_app, spell_rest d c, ctext]
    simp [vwords, spell, vtext]
theorem rest_head (d : List Fact) (c : List Int) : rtext d c = [] ∨ ∃ y, rtext d c = 44 :: y := by
  cases d with
  | nil => exact .inl (by simp [rtext])
  | cons f d =>
    cases c with
    | nil => exact .inl rfl
    | cons x c => exact .inr ⟨_, rfl⟩
theorem spells_value {p : T} (hp : Gap p) {f : Fact} (h : Good 1 f.name 0) {x : Int} (hx : x ≤ 1000000) {ws : List Word} (hw : Spells [] ws) (he : spell [] ws = [] ∨ ∃ y, spell [] ws = 44 :: y) : Spells [] (vwords p f x ++ ws) := by
  have g32 : Gap [32] := gap_blank rfl
  have hb : ∀ {k : Nat} {t : T} {n : Nat} (y : T), Good k t n → stop t ([32] ++ y) = true := fun y hg => stop_blank hg rfl y
  have hd : Good 2 (dec x.toNat) x.toNat := good_dec (by omega)
  refine ⟨hp, h, hb _ h, g32, good_sym rfl, hb _ (good_sym rfl), g32, hd, ?_, hw⟩
  rcases he with e | ⟨y, e⟩
  · show stop _ (spell [] ws) = true
    rw [e]; exact stop_nil _
  · show stop _ (spell [] ws) = true
    rw [e]; exact stop_symbol hd (by decide) rfl y
theorem spells_rest : ∀ {d : List Fact} {c : List Int}, (∀ f ∈ d, Good 1 f.name 0) → (∀ x ∈ c, x ≤ 1000000) → Spells [] (rwords d c)
  | [], _, _, _ => by simp only [rwords]; exact rfl
  | _ :: _, [], _, _ => rfl
  | f :: d, x :: c, h, hx => by
    have ih := spells_rest (d := d) (c := c) (fun g hg => h g (by simp [hg])) (fun y hy => hx y (by simp [hy]))
    have hr : spell [] (rwords d c) = [] ∨ ∃ y, spell [] (rwords d c) = 44 :: y := by rw [spell_rest]; exact rest_head d c
    exact ⟨gap_nil, good_sym rfl, stop_blank (good_sym (c := 44) rfl) rfl _, spells_value (gap_blank rfl) (h f (by simp)) (hx x (by simp)) ih hr⟩
/-- The tokens of the canonical text of a case. -/
theorem lex_case {d : List Fact} {c : List Int} (h : ∀ f ∈ d, Good 1 f.name 0) (hx : ∀ x ∈ c, x ≤ 1000000) (a : Nat) : lex (ctext d c) a = (spelt (cwords d c) a, none) := by
  rw [← spell_case]
  refine lex_spell ?_ a
  cases d with
  | nil => simp only [cwords]; exact rfl
  | cons f d =>
    cases c with
    | nil => exact rfl
    | cons x c =>
      exact spells_value gap_nil (h f (by simp)) (hx x (by simp)) (spells_rest (fun g hg => h g (by simp [hg])) (fun y hy => hx y (by simp [hy]))) (by rw [spell_rest]; exact rest_head d c)
end Go.Proofs.Ytjcaingfeaaakaa.Fc
