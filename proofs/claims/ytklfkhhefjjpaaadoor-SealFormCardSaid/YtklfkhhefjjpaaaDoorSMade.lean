/-
  The lists of what is digested for a public key of at most 4 one-time keys and for a seal, in the order in which they are made, hold all that the facts on seals want.
-/
import Derived.Test.YtklfkhhefjjpaaaDoorSMath
namespace Go.Proofs.YtklfkhhefjjpaaaDoor.Sl
open Go.Proofs.YtklfkhhefjjpaaaDoor.Tr

def chained (x : T) (n : Nat) : List T := (List.range (n + 1)).map (Dg.chain x)
theorem chained_mem (x : T) (n j : Nat) (h : j ≤ n) : Dg.chain x j ∈ chained x n := List.mem_map.2 ⟨j, List.mem_range.2 (by omega), rfl⟩

/-- What is digested for one key. -/
def madeKey (s : T) (n i : Nat) : List T := ((List.range 18).flatMap fun k => startT s i k :: chained (start s i k) n) ++ [Dg.join (ends s i), Dg.join [wLeaf, key s i]]
def over : List T → List T
  | a :: b :: l => node a b :: over l
  | _ => []
def overT : List T → List T
  | a :: b :: l => Dg.join [wNode, a, b] :: overT l
  | _ => []
/-- What is digested above the leaves. -/
def tower : Nat → List T → List T
  | 0, _ => []
  | f + 1, l => if 1 < l.length then overT l ++ tower f (over l) else []
def made (s : T) (h n : Nat) : List T := (List.range (2 ^ h)).flatMap (madeKey s n) ++ tower (h + 1) ((List.range (2 ^ h)).map fun i => leaf (key s i))

theorem madeKey_mem (s : T) (h n i : Nat) (hi : i < 2 ^ h) (x : T) (hx : x ∈ madeKey s n i) : x ∈ made s h n :=
  List.mem_append_left _ (List.mem_flatMap.2 ⟨i, List.mem_range.2 hi, hx⟩)
theorem madeKey_leaf (s : T) (n i : Nat) : Dg.join [wLeaf, key s i] ∈ madeKey s n i := List.mem_append_right _ (List.mem_cons_of_mem _ List.mem_cons_self)
theorem madeKey_key (s : T) (n i : Nat) : Dg.join (ends s i) ∈ madeKey s n i := List.mem_append_right _ List.mem_cons_self
theorem madeKey_start (s : T) (n i k : Nat) (hk : k < 18) : startT s i k ∈ madeKey s n i :=
  List.mem_append_left _ (List.mem_flatMap.2 ⟨k, List.mem_range.2 hk, List.mem_cons_self⟩)
theorem madeKey_chain (s : T) (n i k j : Nat) (hk : k < 18) (hj : j ≤ n) : Dg.chain (start s i k) j ∈ madeKey s n i :=
  List.mem_append_left _ (List.mem_flatMap.2 ⟨k, List.mem_range.2 hk, List.mem_cons_of_mem _ (chained_mem _ n j hj)⟩)

theorem half_2 : half 2 = 1 := half_two 0
theorem half_4 : half 4 = 2 := half_two 1
theorem texts_pair (a b : T) : texts [a, b] = [Dg.join [wLeaf, a], Dg.join [wLeaf, b], Dg.join [wNode, leaf a, leaf b]] := by
  rw [texts_two (by simp)]
  simp [half_2, texts_one, root_one]
theorem root_pair (a b : T) : root [a, b] = node (leaf a) (leaf b) := by
  rw [root_two (by simp)]
  simp [half_2, root_one]
theorem texts_four (a b c d : T) : texts [a, b, c, d] = texts [a, b] ++ texts [c, d] ++ [Dg.join [wNode, root [a, b], root [c, d]]] := by
  rw [texts_two (by simp)]
  simp [half_4]

theorem made_tree (s : T) (h n : Nat) (hh : h ≤ 2) : ∀ x, x ∈ texts (keys s h) → x ∈ made s h n := by
  intro x hx
  have lf : ∀ i, i < 2 ^ h → Dg.join [wLeaf, key s i] ∈ made s h n := fun i hi => madeKey_mem s h n i hi _ (madeKey_leaf s n i)
  have tw : ∀ y, y ∈ tower (h + 1) ((List.range (2 ^ h)).map fun i => leaf (key s i)) → y ∈ made s h n := fun y hy => List.mem_append_right _ hy
  rcases (show h = 0 ∨ h = 1 ∨ h = 2 by omega) with rfl | rfl | rfl
  · have e : keys s 0 = [key s 0] := rfl
    rw [e, texts_one] at hx
    rw [List.mem_singleton.1 hx]
    exact lf 0 (by decide)
  · have e : keys s 1 = [key s 0, key s 1] := rfl
    have e2 : (List.range (2 ^ 1)).map (fun i => leaf (key s i)) = [leaf (key s 0), leaf (key s 1)] := rfl
    rw [e, texts_pair] at hx
    rw [e2] at tw
    simp only [List.mem_cons, List.not_mem_nil, or_false] at hx
    rcases hx with rfl | rfl | rfl
    · exact lf 0 (by decide)
    · exact lf 1 (by decide)
    · exact tw _ (by simp [tower, overT])
  · have e : keys s 2 = [key s 0, key s 1, key s 2, key s 3] := rfl
    have e2 : (List.range (2 ^ 2)).map (fun i => leaf (key s i)) = [leaf (key s 0), leaf (key s 1), leaf (key s 2), leaf (key s 3)] := rfl
    rw [e, texts_four, texts_pair, texts_pair, root_pair, root_pair] at hx
    rw [e2] at tw
    simp only [List.mem_append, List.mem_cons, List.not_mem_nil, or_false] at hx
    rcases hx with ((rfl | rfl | rfl) | (rfl | rfl | rfl)) | rfl
    · exact lf 0 (by decide)
    · exact lf 1 (by decide)
    · exact tw _ (by simp [tower, overT, over])
    · exact lf 2 (by decide)
    · exact lf 3 (by decide)
    · exact tw _ (by simp [tower, overT, over])
    · exact tw _ (by simp [tower, overT, over])

theorem made_has (s : T) (h n : Nat) (hh : h ≤ 2) : Has s h n (made s h n) :=
  ⟨fun i hi k hk => madeKey_mem s h n i hi _ (madeKey_start s n i k hk), fun i hi k hk j hj => madeKey_mem s h n i hi _ (madeKey_chain s n i k j hk hj),
    fun i hi => madeKey_mem s h n i hi _ (madeKey_key s n i), made_tree s h n hh⟩

/-- What is digested to verify a seal of 18 texts. -/
def checked (m : T) (i : Nat) (sg q : List T) : List T :=
  ((List.range 18).flatMap fun k => chained (sg.getD k []) (15 - dg m k)) ++ [Dg.join (cends m sg), Dg.join [wLeaf, li (cends m sg)]] ++ ctexts (leaf (li (cends m sg))) i q

theorem checked_has (m : T) (i : Nat) (sg q : List T) (hi : i < 2 ^ q.length) : HasC m i sg q (checked m i sg q) := by
  refine ⟨fun k hk j hj => ?_, ?_, fun x hx => ?_⟩
  · exact List.mem_append_left _ (List.mem_append_left _ (List.mem_flatMap.2 ⟨k, List.mem_range.2 hk, chained_mem _ _ j hj⟩))
  · exact List.mem_append_left _ (List.mem_append_right _ List.mem_cons_self)
  · rw [ptexts_climb q.length i _ q rfl hi] at hx
    rcases List.mem_cons.1 hx with hx | hx
    · rw [hx]; exact List.mem_append_left _ (List.mem_append_right _ (List.mem_cons_of_mem _ List.mem_cons_self))
    · exact List.mem_append_right _ hx

theorem Has.sub {s : T} {h n : Nat} {l ts : List T} (H : Has s h n l) (hs : ∀ x, x ∈ l → x ∈ ts) : Has s h n ts :=
  ⟨fun i hi k hk => hs _ (H.start i hi k hk), fun i hi k hk j hj => hs _ (H.chain i hi k hk j hj), fun i hi => hs _ (H.key i hi), fun x hx => hs _ (H.tree x hx)⟩
theorem HasC.sub {m : T} {i : Nat} {sg q l ts : List T} (H : HasC m i sg q l) (hs : ∀ x, x ∈ l → x ∈ ts) : HasC m i sg q ts :=
  ⟨fun k hk j hj => hs _ (H.chain k hk j hj), hs _ H.key, fun x hx => hs _ (H.tree x hx)⟩

/-- The statements' ends. -/
theorem sound_shown (s : T) (h i : Nat) (m : T) (sg q : List T) (hh : h ≤ 2) (A : Accepts (pub s h) m i sg q) :
    (i < 2 ^ h ∧ sg = sig s i m ∧ q = path (keys s h) i) ∨ Shown (made s h 15 ++ checked m i sg q) :=
  sound s h i m sg q _ ((made_has s h 15 hh).sub fun _ hx => List.mem_append_left _ hx) ((checked_has m i sg q A.2.2.2.2.1).sub fun _ hx => List.mem_append_right _ hx) A
theorem binds_shown (s : T) (h i : Nat) (a b : T) (hh : h ≤ 2) (hi : i < 2 ^ h) (hab : Dg.sum a ≠ Dg.sum b) (A : Accepts (pub s h) b i (sig s i a) (path (keys s h) i)) :
    Shown (made s h 30 ++ checked b i (sig s i a) (path (keys s h) i)) :=
  binds s h i a b _ hi hab ((made_has s h 30 hh).sub fun _ hx => List.mem_append_left _ hx) ((checked_has b i _ _ A.2.2.2.2.1).sub fun _ hx => List.mem_append_right _ hx) A
theorem secrets_shown (s t : T) (h i : Nat) (m : T) (hh : h ≤ 2) (hi : i < 2 ^ h) (hst : s ≠ t) (A : Accepts (pub t h) m i (sig s i m) (path (keys s h) i)) :
    Shown (made s h 15 ++ made t h 15) :=
  secrets s t h i m _ hi hst ((made_has s h 15 hh).sub fun _ hx => List.mem_append_left _ hx) ((made_has t h 15 hh).sub fun _ hx => List.mem_append_right _ hx) A
/-- One element or the index of a seal is another one. -/
theorem changes_shown (s : T) (h i j : Nat) (m : T) (sg q : List T) (hh : h ≤ 2) (hi : i < 2 ^ h) (hn : ¬ (j = i ∧ sg = sig s i m ∧ q = path (keys s h) i))
    (hone : j = i ∨ (sg = sig s i m ∧ q = path (keys s h) i)) (A : Accepts (pub s h) m j sg q) : Shown (made s h 15 ++ checked m j sg q) := by
  rcases sound_shown s h j m sg q hh A with ⟨hj, e1, e2⟩ | e
  · rcases hone with rfl | ⟨f1, f2⟩
    · exact absurd ⟨rfl, e1, e2⟩ hn
    · have hij : i ≠ j := fun e => hn ⟨e.symm, f1, f2⟩
      exact indices s h i j m _ hi hj hij ((made_has s h 15 hh).sub fun _ hx => List.mem_append_left _ hx) (by rw [← f1, ← e1])
  · exact e
end Go.Proofs.YtklfkhhefjjpaaaDoor.Sl
