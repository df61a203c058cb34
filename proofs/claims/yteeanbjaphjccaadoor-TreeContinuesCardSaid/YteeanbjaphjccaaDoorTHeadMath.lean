/-
  The chapter's examples in arithmetic.
-/
import Derived.Test.YteeanbjaphjccaaDoorTLink
import Derived.Test.YteeanbjaphjccaaDoorTTx
namespace Go.Proofs.YteeanbjaphjccaaDoor.Tr
open Go.Lib (decDigits)

theorem dec16 : decDigits 16 = [49, 54] := by
  rw [Dg.dec_big (by decide), Dg.dec_small (by decide)]; rfl
theorem join_leaf (x : UInt8) : Dg.join [wLeaf, [x]] = [52, 58, 108, 101, 97, 102, 49, 58, x] := by
  simp only [Dg.join, wLeaf, Dg.dec_small (show ([108, 101, 97, 102] : T).length < 10 by decide), Dg.dec_small (show ([x] : T).length < 10 by simp)]
  rfl
theorem join_node (x y : T) (hx : x.length = 16) (hy : y.length = 16) : Dg.join [wNode, x, y] = [52, 58, 110, 111, 100, 101, 49, 54, 58] ++ (x ++ ([49, 54, 58] ++ y)) := by
  simp only [Dg.join, wNode, Dg.dec_small (show ([110, 111, 100, 101] : T).length < 10 by decide), hx, hy, dec16]
  simp
def la : T := leaf [97]
def lb : T := leaf [98]
def lc : T := leaf [99]
theorem leaf_val (x : UInt8) : leaf [x] = Dg.sum [52, 58, 108, 101, 97, 102, 49, 58, x] := by rw [leaf, li, join_leaf]
theorem leaf_len (s : T) : (leaf s).length = 16 := Dg.sum_length _
theorem node_len (a b : T) : (node a b).length = 16 := Dg.sum_length _
theorem node_val (x y : T) (hx : x.length = 16) (hy : y.length = 16) : node x y = Dg.sum ([52, 58, 110, 111, 100, 101, 49, 54, 58] ++ (x ++ ([49, 54, 58] ++ y))) := by rw [node, li, join_node x y hx hy]

theorem la_len : la.length = 16 := leaf_len _
theorem lb_len : lb.length = 16 := leaf_len _
theorem lc_len : lc.length = 16 := leaf_len _
theorem last_differs : node (node la lb) lb ≠ node (node la lb) lc := by
  rw [node_val _ lb (node_len _ _) lb_len, node_val _ lc (node_len _ _) lc_len, node_val la lb la_len lb_len, la, lb, lc, leaf_val, leaf_val, leaf_val]
  decide +kernel
theorem first_differs : node (node lb lb) lc ≠ node (node la lb) lc := by
  rw [node_val (node lb lb) lc (node_len _ _) lc_len, node_val (node la lb) lc (node_len _ _) lc_len, node_val la lb la_len lb_len, node_val lb lb lb_len lb_len, la, lb, lc, leaf_val, leaf_val, leaf_val]
  decide +kernel

theorem half2 : half 2 = 1 := by decide +kernel
theorem half3 : half 3 = 2 := by decide +kernel
def abc : List T := [[97], [98], [99]]
theorem root_ab : root [[97], [98]] = node la lb := by
  rw [root_two (by decide)]
  show node (root (List.take (half 2) [[97], [98]])) (root (List.drop (half 2) [[97], [98]])) = _
  rw [half2]
  show node (root [[97]]) (root [[98]]) = _
  rw [root_one, root_one]; rfl
theorem root_abc : root abc = node (node la lb) lc := by
  rw [root_two (by decide)]
  show node (root (List.take (half 3) abc)) (root (List.drop (half 3) abc)) = _
  rw [half3]
  show node (root [[97], [98]]) (root [[99]]) = _
  rw [root_ab, root_one]; rfl
theorem path_abc2 : path abc 2 = [node la lb] := by
  rw [path_right (l := abc) (i := 2) (by decide) (by show ¬ 2 < half 3; rw [half3]; decide)]
  show path (List.drop (half 3) abc) (2 - half 3) ++ [root (List.take (half 3) abc)] = _
  rw [half3]
  show path [[99]] 0 ++ [root [[97], [98]]] = _
  rw [path_one (by decide), root_ab]; rfl
theorem path_abc0 : path abc 0 = [lb, lc] := by
  rw [path_left (l := abc) (i := 0) (by decide) (by show 0 < half 3; rw [half3]; decide)]
  show path (List.take (half 3) abc) 0 ++ [root (List.drop (half 3) abc)] = _
  rw [half3]
  show path [[97], [98]] 0 ++ [root [[99]]] = _
  rw [path_left (l := [[97], [98]]) (i := 0) (by decide) (by show 0 < half 2; rw [half2]; decide)]
  show path (List.take (half 2) [[97], [98]]) 0 ++ [root (List.drop (half 2) [[97], [98]])] ++ _ = _
  rw [half2]
  show path [[97]] 0 ++ [root [[98]]] ++ [root [[99]]] = _
  rw [path_one (by decide), root_one, root_one]; rfl
theorem link_abc2 : link abc 2 true = [lc] := by
  rw [link_left (l := abc) (by decide) (by decide) (by show 2 ≤ half 3; rw [half3]; decide)]
  show link (List.take (half 3) abc) 2 true ++ [root (List.drop (half 3) abc)] = _
  rw [half3]
  show link [[97], [98]] 2 true ++ [root [[99]]] = _
  rw [link_all (by decide), root_one]; rfl
theorem link_abc1 : link abc 1 true = [lb, lc] := by
  rw [link_left (l := abc) (by decide) (by decide) (by show 1 ≤ half 3; rw [half3]; decide)]
  show link (List.take (half 3) abc) 1 true ++ [root (List.drop (half 3) abc)] = _
  rw [half3]
  show link [[97], [98]] 1 true ++ [root [[99]]] = _
  rw [link_left (l := [[97], [98]]) (by decide) (by decide) (by show 1 ≤ half 2; rw [half2]; decide)]
  show link (List.take (half 2) [[97], [98]]) 1 true ++ [root (List.drop (half 2) [[97], [98]])] ++ _ = _
  rw [half2]
  show link [[97]] 1 true ++ [root [[98]]] ++ [root [[99]]] = _
  rw [link_all (by decide)]; simp only [root_one]; rfl
theorem plen_32 : plen 3 2 = 1 := by
  rw [plen_right (by decide) (by rw [half3]; decide), half3, plen_one (by decide)]
theorem up_32 (d x : T) : up 3 2 d [x] = node x d := by
  rw [up_right (by decide) (by rw [half3]; decide), half3, up_one (by decide)]; rfl
theorem llen_31 : llen 3 1 true = 2 := by
  rw [llen_left (by decide) (by decide) (by rw [half3]; decide), half3, llen_left (by decide) (by decide) (by rw [half2]; decide), half2, llen_all rfl]; rfl
theorem both_31 (d x y : T) : both 3 1 true d [x, y] = (d, node (node d x) y) := by
  rw [both_left (by decide) (by decide) (by rw [half3]; decide), half3]
  show ((both 2 1 true d [x]).1, node (both 2 1 true d [x]).2 y) = _
  rw [both_left (n := 2) (m := 1) (by decide) (by decide) (by rw [half2]; decide), half2]
  show ((both 1 1 true d []).1, node (node (both 1 1 true d []).2 x) y) = _
  rw [both_all rfl]; rfl
end Go.Proofs.YteeanbjaphjccaaDoor.Tr
