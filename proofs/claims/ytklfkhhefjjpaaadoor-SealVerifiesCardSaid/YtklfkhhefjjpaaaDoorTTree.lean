/-
  Trees over lists of texts in arithmetic: roots, paths, links, what is computed from them, and what is digested; a path and a link prove what they are made of, and prove nothing else unless two different texts with one digest are among those that are digested.
-/
import Derived.Test.YtklfkhhefjjpaaaDoorDList
import Derived.Test.YtklfkhhefjjpaaaDoorDMath
namespace Go.Proofs.YtklfkhhefjjpaaaDoor.Tr
abbrev T := List UInt8
/-- The greatest power of two below n, for n from 2 on. -/
def half (n : Nat) : Nat := 2 ^ Nat.log2 (n - 1)
theorem half_pos (n : Nat) : 0 < half n := Nat.two_pow_pos _
theorem half_lt {n : Nat} (h : 2 ≤ n) : half n < n := by
  have := Nat.log2_self_le (n := n - 1) (by omega)
  unfold half; omega
theorem half_ge {n : Nat} (h : 2 ≤ n) : n ≤ 2 * half n := by
  have := Nat.lt_log2_self (n := n - 1)
  unfold half; rw [Nat.pow_succ] at this; omega
theorem half_eq {n e : Nat} (h1 : 2 ^ e < n) (h2 : n ≤ 2 ^ (e + 1)) : half n = 2 ^ e := by
  unfold half
  have h0 := Nat.two_pow_pos e
  rw [(Nat.log2_eq_iff (n := n - 1) (k := e) (by omega)).2 ⟨by omega, by omega⟩]
theorem half_mid {m n : Nat} (h2 : 2 ≤ n) (h : half n < m) (hm : m ≤ n) : half m = half n := by
  have h3 := half_ge h2
  unfold half at h h3 ⊢
  exact half_eq h (by rw [Nat.pow_succ]; omega)

def wNode : T := [110, 111, 100, 101]
def wLeaf : T := [108, 101, 97, 102]
def wEmpty : T := [101, 109, 112, 116, 121]
def li (l : List T) : T := Dg.sum (Dg.join l)
def node (a b : T) : T := li [wNode, a, b]
def leaf (s : T) : T := li [wLeaf, s]
def empty : T := li [wEmpty]

/-- B1: the root of a list. -/
def root (l : List T) : T :=
  if _h0 : l.length = 0 then empty
  else if _h1 : l.length = 1 then leaf (l.headD [])
  else node (root (l.take (half l.length))) (root (l.drop (half l.length)))
termination_by l.length
decreasing_by
  · rw [List.length_take]; have := half_lt (n := l.length) (by omega); omega
  · rw [List.length_drop]; have := half_pos l.length; omega

theorem root_nil : root [] = empty := by rw [root]; simp
theorem root_one (s : T) : root [s] = leaf s := by rw [root]; simp
theorem root_two {l : List T} (h : 2 ≤ l.length) : root l = node (root (l.take (half l.length))) (root (l.drop (half l.length))) := by
  rw [root, dif_neg (by omega), dif_neg (by omega)]

/-- B1: the path of an element. -/
def path (l : List T) (i : Nat) : List T :=
  if _h : l.length ≤ 1 then []
  else if i < half l.length then path (l.take (half l.length)) i ++ [root (l.drop (half l.length))]
  else path (l.drop (half l.length)) (i - half l.length) ++ [root (l.take (half l.length))]
termination_by l.length
decreasing_by
  · rw [List.length_take]; have := half_lt (n := l.length) (by omega); omega
  · rw [List.length_drop]; have := half_pos l.length; omega

theorem path_one {l : List T} {i : Nat} (h : l.length ≤ 1) : path l i = [] := by rw [path, dif_pos h]
theorem path_left {l : List T} {i : Nat} (h : 2 ≤ l.length) (hi : i < half l.length) : path l i = path (l.take (half l.length)) i ++ [root (l.drop (half l.length))] := by
  rw [path, dif_neg (by omega), if_pos hi]
theorem path_right {l : List T} {i : Nat} (h : 2 ≤ l.length) (hi : ¬ i < half l.length) : path l i = path (l.drop (half l.length)) (i - half l.length) ++ [root (l.take (half l.length))] := by
  rw [path, dif_neg (by omega), if_neg hi]

/-- How long a path is. -/
def plen (n i : Nat) : Nat :=
  if _h : n ≤ 1 then 0 else if i < half n then plen (half n) i + 1 else plen (n - half n) (i - half n) + 1
termination_by n
decreasing_by
  · exact half_lt (by omega)
  · have := half_pos n; omega
theorem plen_one {n i : Nat} (h : n ≤ 1) : plen n i = 0 := by rw [plen, dif_pos h]
theorem plen_left {n i : Nat} (h : 2 ≤ n) (hi : i < half n) : plen n i = plen (half n) i + 1 := by rw [plen, dif_neg (by omega), if_pos hi]
theorem plen_right {n i : Nat} (h : 2 ≤ n) (hi : ¬ i < half n) : plen n i = plen (n - half n) (i - half n) + 1 := by rw [plen, dif_neg (by omega), if_neg hi]

/-- B2: what is computed from a digest and a path. -/
def up (n i : Nat) (d : T) (p : List T) : T :=
  if _h : n ≤ 1 then d
  else if i < half n then node (up (half n) i d p.dropLast) (p.getLastD [])
  else node (p.getLastD []) (up (n - half n) (i - half n) d p.dropLast)
termination_by n
decreasing_by
  · exact half_lt (by omega)
  · have := half_pos n; omega
theorem up_one {n i : Nat} {d : T} {p : List T} (h : n ≤ 1) : up n i d p = d := by rw [up, dif_pos h]
theorem up_left {n i : Nat} {d : T} {p : List T} (h : 2 ≤ n) (hi : i < half n) : up n i d p = node (up (half n) i d p.dropLast) (p.getLastD []) := by rw [up, dif_neg (by omega), if_pos hi]
theorem up_right {n i : Nat} {d : T} {p : List T} (h : 2 ≤ n) (hi : ¬ i < half n) : up n i d p = node (p.getLastD []) (up (n - half n) (i - half n) d p.dropLast) := by rw [up, dif_neg (by omega), if_neg hi]

/-- B3: the link of m in a list. -/
def link (l : List T) (m : Nat) (whole : Bool) : List T :=
  if m = l.length then (if whole then [] else [root l])
  else if _h : l.length ≤ 1 then []
  else if m ≤ half l.length then link (l.take (half l.length)) m whole ++ [root (l.drop (half l.length))]
  else link (l.drop (half l.length)) (m - half l.length) false ++ [root (l.take (half l.length))]
termination_by l.length
decreasing_by
  · rw [List.length_take]; have := half_lt (n := l.length) (by omega); omega
  · rw [List.length_drop]; have := half_pos l.length; omega
theorem link_all {l : List T} {m : Nat} {whole : Bool} (h : m = l.length) : link l m whole = (if whole then [] else [root l]) := by rw [link, if_pos h]
theorem link_left {l : List T} {m : Nat} {whole : Bool} (h : m ≠ l.length) (h2 : 2 ≤ l.length) (hm : m ≤ half l.length) :
    link l m whole = link (l.take (half l.length)) m whole ++ [root (l.drop (half l.length))] := by rw [link, if_neg h, dif_neg (by omega), if_pos hm]
theorem link_right {l : List T} {m : Nat} {whole : Bool} (h : m ≠ l.length) (h2 : 2 ≤ l.length) (hm : ¬ m ≤ half l.length) :
    link l m whole = link (l.drop (half l.length)) (m - half l.length) false ++ [root (l.take (half l.length))] := by rw [link, if_neg h, dif_neg (by omega), if_neg hm]

/-- How long a link is. -/
def llen (n m : Nat) (whole : Bool) : Nat :=
  if m = n then (if whole then 0 else 1)
  else if _h : n ≤ 1 then 0
  else if m ≤ half n then llen (half n) m whole + 1 else llen (n - half n) (m - half n) false + 1
termination_by n
decreasing_by
  · exact half_lt (by omega)
  · have := half_pos n; omega
theorem llen_all {n m : Nat} {whole : Bool} (h : m = n) : llen n m whole = (if whole then 0 else 1) := by rw [llen, if_pos h]
theorem llen_left {n m : Nat} {whole : Bool} (h : m ≠ n) (h2 : 2 ≤ n) (hm : m ≤ half n) : llen n m whole = llen (half n) m whole + 1 := by rw [llen, if_neg h, dif_neg (by omega), if_pos hm]
theorem llen_right {n m : Nat} {whole : Bool} (h : m ≠ n) (h2 : 2 ≤ n) (hm : ¬ m ≤ half n) : llen n m whole = llen (n - half n) (m - half n) false + 1 := by rw [llen, if_neg h, dif_neg (by omega), if_neg hm]

/-- B4: both roots that are computed from a link. -/
def both (n m : Nat) (whole : Bool) (old : T) (p : List T) : T × T :=
  if m = n then (if whole then (old, old) else (p.headD [], p.headD []))
  else if _h : n ≤ 1 then (old, old)
  else if m ≤ half n then (fun r : T × T => (r.1, node r.2 (p.getLastD []))) (both (half n) m whole old p.dropLast)
  else (fun r : T × T => (node (p.getLastD []) r.1, node (p.getLastD []) r.2)) (both (n - half n) (m - half n) false old p.dropLast)
termination_by n
decreasing_by
  · exact half_lt (by omega)
  · have := half_pos n; omega
theorem both_all {n m : Nat} {whole : Bool} {old : T} {p : List T} (h : m = n) : both n m whole old p = (if whole then (old, old) else (p.headD [], p.headD [])) := by rw [both, if_pos h]
theorem both_left {n m : Nat} {whole : Bool} {old : T} {p : List T} (h : m ≠ n) (h2 : 2 ≤ n) (hm : m ≤ half n) :
    both n m whole old p = ((both (half n) m whole old p.dropLast).1, node (both (half n) m whole old p.dropLast).2 (p.getLastD [])) := by rw [both, if_neg h, dif_neg (by omega), if_pos hm]
theorem both_right {n m : Nat} {whole : Bool} {old : T} {p : List T} (h : m ≠ n) (h2 : 2 ≤ n) (hm : ¬ m ≤ half n) :
    both n m whole old p = (node (p.getLastD []) (both (n - half n) (m - half n) false old p.dropLast).1, node (p.getLastD []) (both (n - half n) (m - half n) false old p.dropLast).2) := by
  rw [both, if_neg h, dif_neg (by omega), if_neg hm]
end Go.Proofs.YtklfkhhefjjpaaaDoor.Tr
