import Derived.Test.YthhfcijgcpnfcaaDoorKTApp
import Derived.Test.YthhfcijgcpnfcaaDoorKROwn2
import Derived.Test.YthhfcijgcpnfcaaDoorKSMade
import Derived.Test.YthhfcijgcpnfcaaDoorKRSum
import Derived.Test.YthhfcijgcpnfcaaDoorKRSame
/-
  Up to three slices of texts of a call's own, side by side; append onto one of them.
-/
namespace Go.Proofs.YthhfcijgcpnfcaaDoor
open Go.RowKit

theorem run_append_row {P : Program} (w : World) (t ty : TypeId) (base : Nat) (e : TypeId) (i : TypeInfo) (z : Value) (bytes : Nat) (ht : P.underlying t = some (.slice e)) (hi : P.info? e = some i) (hz : i.zero = some z)
    (hsize : i.size = 1) (hby : i.bytes = bytes) (hzs : z.cells.size = 1) (v : Value) (n : Nat) (xs : List Value) (hown : w.ownsRow base e 1 v n xs)
    (vx : Value) (l : List ByteArray) (hx : IsTx w vx l) (h63 : n + l.length ≤ maxLen) (hbytes : (n + l.length) * bytes ≤ 140737488355328) (hbase : base ≤ w.heap.size) :
    ∃ v' w', (Builtin.append_ #[t, t] ty #[v, vx]).run P w = .ok v' w' ∧ w'.ownsRow base e 1 v' (n + l.length) (xs ++ Tr.cells l) ∧ w.grownBy w' v.ownBlock ∧ (v'.ownBlock = v.ownBlock ∨ v'.ownBlock = some w.heap.size) := by
  obtain ⟨ax, cx, rfl, g1, g2, hc⟩ := hx
  by_cases h0 : l = []
  · subst h0
    refine ⟨v, w, ?_, by simpa [Tr.cells] using hown, ⟨rfl, rfl, rfl, Nat.le_refl _, fun _ _ _ => rfl⟩, .inl rfl⟩
    rcases hown.2 with ⟨rfl, rfl⟩ | ⟨g, cap, cur, rfl, _, _, hle, _⟩
    · exact run_append_nothing w t ty e i ht hi none ax 0 0 cx (Nat.le_refl _)
    · exact run_append_nothing w t ty e i ht hi _ ax n cap cx hle
  · obtain ⟨b, off, rfl, hlt, hc⟩ := hc h0
    have hp : 0 < l.length := by
      rcases Nat.eq_zero_or_pos l.length with h | h
      · exact absurd (List.length_eq_zero_iff.1 h) h0
      · exact h
    obtain ⟨g, cap, w', h1, h2, h3, h4, _⟩ := run_append_lies (P := P) w t ty base e i z 1 bytes ht hi hz hsize hby hzs (by omega) v n xs hown ⟨b, off, none⟩ l.length cx (Tr.cells l) (by simp) (by
      intro j u hu
      rw [Go.WideShapes.add_plain]
      rw [List.getElem?_map] at hu
      by_cases hj : j < l.length
      · rw [List.getElem?_eq_getElem hj] at hu
        have : u = .string l[j] := (Option.some.inj hu).symm
        rw [hc j hj, this, Dg.getD_eq l j hj]
      · rw [List.getElem?_eq_none (by omega)] at hu; cases hu) (by
      intro u hu
      obtain ⟨s, _, rfl⟩ := List.mem_map.1 hu
      rfl) hp h63 hbytes hbase _ rfl
    refine ⟨_, w', h1, h2, h3, ?_⟩
    rcases h4 with h4 | h4
    · exact .inl (by rw [h4]; rfl)
    · exact .inr (by rw [← h4]; rfl)

namespace Sl
/-- A slice of texts of the call's own. -/
def Row (B S : Nat) (p : List Tr.T) (v : Value) (w : World) : Prop := ∃ ps : List ByteArray, w.ownsRow B 9 1 v ps.length (Tr.cells ps) ∧ Hid (Tr.bs ps = p) ∧ ∀ s ∈ ps, s.size ≤ S
/-- A slice of texts. -/
def Tx (S : Nat) (p : List Tr.T) (v : Value) (w : World) : Prop := ∃ ps : List ByteArray, IsTx w v ps ∧ Hid (Tr.bs ps = p) ∧ ∀ s ∈ ps, s.size ≤ S
theorem Row.nil (B S : Nat) (w : World) : Row B S [] (.slice none 0 0) w := ⟨[], World.ownsRow_nil _ _ _ _, rfl, by simp⟩
theorem Row.tx {B S : Nat} {p : List Tr.T} {v : Value} {w : World} (h : Row B S p v w) : Tx S p v w := by
  obtain ⟨ps, h1, h2, h3⟩ := h
  exact ⟨ps, own_tx h1, h2, h3⟩
theorem Row.lt {B S : Nat} {p : List Tr.T} {v : Value} {w : World} (h : Row B S p v w) : ∀ k, v.ownBlock = some k → B ≤ k ∧ k < w.heap.size := by
  obtain ⟨ps, h1, _⟩ := h
  exact h1.lt
theorem Row.kept {B S : Nat} {p : List Tr.T} {v : Value} {w w' : World} {row : Option Nat} (h : Row B S p v w) (hg : w.grownBy w' row) (hne : v.ownBlock = none ∨ v.ownBlock ≠ row) : Row B S p v w' := by
  obtain ⟨ps, h1, h2, h3⟩ := h
  exact ⟨ps, h1.kept hg hne, h2, h3⟩
theorem Row.below {B S : Nat} {p : List Tr.T} {v : Value} {w w' : World} (h : Row B S p v w) (hb : Below w.heap.size w w') : Row B S p v w' := by
  obtain ⟨ps, h1, h2, h3⟩ := h
  exact ⟨ps, own_below h1 hb, h2, h3⟩
theorem Row.mono {B B' S : Nat} {p : List Tr.T} {v : Value} {w : World} (h : Row B S p v w) (hb : B' ≤ B) : Row B' S p v w := by
  obtain ⟨ps, h1, h2, h3⟩ := h
  exact ⟨ps, own_mono h1 hb, h2, h3⟩
theorem Row.out {S : Nat} {p q : List Tr.T} {v : Value} {w w' : World} (h : Row w.heap.size S p v w') (e : p = q) (hb : Below w.heap.size w w') : OwnOut S q w (.returned v) w' := by
  obtain ⟨ps, h1, h2, h3⟩ := h
  exact ⟨v, ps, rfl, h1, by rw [← e]; exact h2, h3, hb⟩
theorem Tx.below {S : Nat} {p : List Tr.T} {v : Value} {w w' : World} (h : Tx S p v w) (hb : Below w.heap.size w w') : Tx S p v w' := by
  obtain ⟨ps, h1, h2, h3⟩ := h
  exact ⟨ps, h1.below hb, h2, h3⟩
theorem Tx.mono {S S' : Nat} {p : List Tr.T} {v : Value} {w : World} (h : Tx S p v w) (hS : S ≤ S') : Tx S' p v w := by
  obtain ⟨ps, h1, h2, h3⟩ := h
  exact ⟨ps, h1, h2, fun s hs => Nat.le_trans (h3 s hs) hS⟩
theorem Tx.one {S : Nat} (w : World) (x : ByteArray) (d : Tr.T) (hd : Hid (x.data.toList = d)) (hx : x.size ≤ S) : Tx S [d] (.slice (some ⟨w.heap.size, 0, none⟩) 1 1) (w.alloc (.cells #[.string x] 9)) :=
  ⟨[x], tx_one w x, by show _ = _; rw [← hd.out]; rfl, Tr.all_one hx⟩
theorem Tx.two {S : Nat} (w : World) (x y : ByteArray) (d f : Tr.T) (hd : Hid (x.data.toList = d)) (hf : Hid (y.data.toList = f)) (hx : x.size ≤ S) (hy : y.size ≤ S) : Tx S [d, f] (.slice (some ⟨w.heap.size, 0, none⟩) 2 2) (w.alloc (.cells #[.string x, .string y] 9)) :=
  ⟨[x, y], tx_two w x y, by show _ = _; rw [← hd.out, ← hf.out]; rfl, Tr.all_two hx hy⟩
theorem Tx.form {S : Nat} {p : List Tr.T} {v : Value} {w : World} (h : Tx S p v w) : ∃ a cap, v = .slice a p.length cap := by
  obtain ⟨ps, ⟨a, cap, rfl, _⟩, h2, _⟩ := h
  exact ⟨a, cap, by rw [← h2.out, Tr.bs_len]⟩
theorem Row.form {B S : Nat} {p : List Tr.T} {v : Value} {w : World} (h : Row B S p v w) : ∃ a cap, v = .slice a p.length cap := h.tx.form
theorem Row.again {B S : Nat} {p q : List Tr.T} {v : Value} {w : World} (h : Row B S p v w) (e : p = q) : Row B S q v w := e ▸ h

/-- A row that has been made later than another one lies apart from it. -/
theorem Row.later {B S B' S' : Nat} {p q : List Tr.T} {v u : Value} {w w' : World} (h : Row B S p v w) (h' : Row B' S' q u w') (hB : w.heap.size ≤ B') : u.ownBlock = none ∨ u.ownBlock ≠ v.ownBlock := by
  cases hu : u.ownBlock with
  | none => exact .inl rfl
  | some k =>
    refine .inr fun e => ?_
    have h1 := (h'.lt k hu).1
    have h2 := (h.lt k e.symm).2
    omega
/-- One text of a slice. -/
theorem Tx.at {S : Nat} {p : List Tr.T} {v : Value} {w : World} (h : Tx S p v w) (j : Nat) (hj : j < p.length) :
    ∃ b off cap, v = .slice (some ⟨b, off, none⟩) p.length cap ∧ p.length ≤ cap ∧ ∃ r : ByteArray, w.cell? ⟨b, off + j, none⟩ = some (.string r) ∧ Hid (r.data.toList = p.getD j []) ∧ r.size ≤ S := by
  obtain ⟨ps, ⟨a, cap, rfl, h1, h2, h3⟩, e, hz⟩ := h
  have hl : ps.length = p.length := Tr.len_of e
  obtain ⟨b, off, rfl, _, hc⟩ := h3 (by intro e; rw [e] at hl; simp at hl; omega)
  refine ⟨b, off, cap, by rw [hl], by omega, ps.getD j ByteArray.empty, hc j (by omega), ?_, ?_⟩
  · show _ = _
    rw [← e.out, Dg.getD_eq ps j (by omega), List.getD_eq_getElem?_getD, List.getElem?_map, List.getElem?_eq_getElem (by omega)]; rfl
  · rw [Dg.getD_eq ps j (by omega)]; exact hz _ (List.getElem_mem _)
theorem Tx.texts {S : Nat} {p : List Tr.T} {v : Value} {w : World} (h : Tx S p v w) : ∃ ps : List ByteArray, IsTexts w v ps ∧ ps.map (·.data.toList) = p ∧ ps.length = p.length ∧ ∀ s ∈ ps, s.size ≤ S := by
  obtain ⟨ps, h1, h2, h3⟩ := h
  exact ⟨ps, h1.texts, h2, Tr.len_of h2, h3⟩

structure R3 (B S1 S2 S3 : Nat) (p1 p2 p3 : List Tr.T) (v1 v2 v3 : Value) (w : World) : Prop where
  r1 : Row B S1 p1 v1 w
  r2 : Row B S2 p2 v2 w
  r3 : Row B S3 p3 v3 w
  a12 : v1.ownBlock = none ∨ v1.ownBlock ≠ v2.ownBlock
  a13 : v1.ownBlock = none ∨ v1.ownBlock ≠ v3.ownBlock
  a23 : v2.ownBlock = none ∨ v2.ownBlock ≠ v3.ownBlock
theorem apart_symm {a b : Option Nat} (h : a = none ∨ a ≠ b) : b = none ∨ b ≠ a := by
  rcases h with rfl | h
  · cases b with
    | none => exact .inl rfl
    | some x => exact .inr (by simp)
  · exact .inr (Ne.symm h)
section
variable {B S1 S2 S3 : Nat} {p1 p2 p3 : List Tr.T} {v1 v2 v3 : Value} {w w' : World}
theorem R3.swap12 (h : R3 B S1 S2 S3 p1 p2 p3 v1 v2 v3 w) : R3 B S2 S1 S3 p2 p1 p3 v2 v1 v3 w := ⟨h.r2, h.r1, h.r3, apart_symm h.a12, h.a23, h.a13⟩
theorem R3.swap13 (h : R3 B S1 S2 S3 p1 p2 p3 v1 v2 v3 w) : R3 B S3 S2 S1 p3 p2 p1 v3 v2 v1 w := ⟨h.r3, h.r2, h.r1, apart_symm h.a23, apart_symm h.a13, apart_symm h.a12⟩
theorem R3.below (h : R3 B S1 S2 S3 p1 p2 p3 v1 v2 v3 w) (hb : Below w.heap.size w w') : R3 B S1 S2 S3 p1 p2 p3 v1 v2 v3 w' := ⟨h.r1.below hb, h.r2.below hb, h.r3.below hb, h.a12, h.a13, h.a23⟩
theorem R3.alloc (h : R3 B S1 S2 S3 p1 p2 p3 v1 v2 v3 w) (o : Obj) : R3 B S1 S2 S3 p1 p2 p3 v1 v2 v3 (w.alloc o) := h.below ((Below.refl _ _).alloc (Nat.le_refl _) o)
theorem R3.nil (B S1 S2 S3 : Nat) (w : World) : R3 B S1 S2 S3 [] [] [] (.slice none 0 0) (.slice none 0 0) (.slice none 0 0) w := ⟨Row.nil _ _ _, Row.nil _ _ _, Row.nil _ _ _, .inl rfl, .inl rfl, .inl rfl⟩
theorem R3.no3 {S : Nat} (h : R3 B S1 S2 S3 p1 p2 p3 v1 v2 v3 w) : R3 B S1 S2 S p1 p2 [] v1 v2 (.slice none 0 0) w := ⟨h.r1, h.r2, Row.nil _ _ _, h.a12, apart_symm (.inl rfl), apart_symm (.inl rfl)⟩
theorem R3.again {q1 q2 q3 : List Tr.T} (h : R3 B S1 S2 S3 p1 p2 p3 v1 v2 v3 w) (e1 : p1 = q1) (e2 : p2 = q2) (e3 : p3 = q3) : R3 B S1 S2 S3 q1 q2 q3 v1 v2 v3 w := e1 ▸ e2 ▸ e3 ▸ h
theorem apart_new {x : Option Nat} {a b : Value} (hx : x = none ∨ x ≠ a.ownBlock) (hl : ∀ k, x = some k → k < w.heap.size) (hb : b.ownBlock = a.ownBlock ∨ b.ownBlock = some w.heap.size) : x = none ∨ x ≠ b.ownBlock := by
  rcases hb with hb | hb
  · rw [hb]; exact hx
  · cases x with
    | none => exact .inl rfl
    | some k => refine .inr fun e => ?_; rw [hb] at e; have := hl k rfl; cases e; omega
theorem R3.push {q : List Tr.T} {v' : Value} (h : R3 B S1 S2 S3 p1 p2 p3 v1 v2 v3 w) (hr : Row B S1 q v' w') (hg : w.grownBy w' v1.ownBlock) (hb : v'.ownBlock = v1.ownBlock ∨ v'.ownBlock = some w.heap.size) : R3 B S1 S2 S3 q p2 p3 v' v2 v3 w' :=
  ⟨hr, h.r2.kept hg (apart_symm h.a12), h.r3.kept hg (apart_symm h.a13), apart_symm (apart_new (w := w) (apart_symm h.a12) (fun k e => (h.r2.lt k e).2) hb), apart_symm (apart_new (w := w) (apart_symm h.a13) (fun k e => (h.r3.lt k e).2) hb), h.a23⟩
end
end Sl

/-- Rows that lie apart from v1 are as they were. -/
def Sl.Kept (v1 : Value) (w w' : World) : Prop := ∀ (B' S : Nat) (p : List Tr.T) (v : Value), Sl.Row B' S p v w → (v.ownBlock = none ∨ v.ownBlock ≠ v1.ownBlock) → Sl.Row B' S p v w'
theorem run_row_push {B S1 S2 S3 : Nat} {p1 p2 p3 q : List Tr.T} {v1 v2 v3 vx : Value} {w : World} (ty : TypeId) (h : Sl.R3 B S1 S2 S3 p1 p2 p3 v1 v2 v3 w) (hx : Sl.Tx S1 q vx w) (hl : p1.length + q.length ≤ 1000000) (hB : B ≤ w.heap.size) :
    ∃ v' w', (Builtin.append_ #[22, 22] ty #[v1, vx]).run Tryd.prog w = .ok v' w' ∧ Sl.R3 B S1 S2 S3 (p1 ++ q) p2 p3 v' v2 v3 w' ∧ Below B w w' ∧ Sl.Kept v1 w w' := by
  obtain ⟨i0, hii, hz0, hz1, hz2⟩ := info_parts one_str
  obtain ⟨ps, h1, h2, h3⟩ := h.r1
  obtain ⟨l, g1, g2, g3⟩ := hx
  have e1 := Tr.len_of h2
  have e2 := Tr.len_of g2
  obtain ⟨v', w', hr, k1, k2, k3⟩ := run_append_row w 22 ty B 9 i0 (.string ⟨#[]⟩) 16 Tryd.underlying22 hii hz0 hz1 hz2 rfl v1 ps.length (Tr.cells ps) h1 vx l g1 (by unfold maxLen; omega) (by omega) hB
  refine ⟨v', w', hr, h.push ⟨ps ++ l, own_app k1, Tr.bs_app h2 g2, Tr.small_app h3 g3⟩ k2 k3, (Below.refl _ _).grown k2 hB (fun k e => (h1.lt k e).1), fun _ _ _ _ hr ha => hr.kept k2 ha⟩

/-- append onto the first row, at the list of a plain region's operations. -/
theorem wpList_row {ops : Array Oper} {rest : List Oper} {o : Oper} {a : Act} {w : World} {Q : Exit → Act → World → Prop} (hgd : o.guard = none) (s x : Operand)
    (ho : o.op = .call { callee := .builtin .append, args := #[s, x], argTypes := #[22, 22] }) {B S1 S2 S3 : Nat} {p1 p2 p3 q : List Tr.T} {v1 v2 v3 vx : Value} (h : Sl.R3 B S1 S2 S3 p1 p2 p3 v1 v2 v3 w)
    (hs : a.eval s = v1) (hv : a.eval x = vx) (hx : Sl.Tx S1 q vx w) (hl : p1.length + q.length ≤ 1000000) (hB : B ≤ w.heap.size)
    (hK : ∀ v' w', Sl.R3 B S1 S2 S3 (p1 ++ q) p2 p3 v' v2 v3 w' → Below B w w' → Sl.Kept v1 w w' → wpList Tryd.prog ops Q rest (a.put o.dst v') w') : wpList Tryd.prog ops Q (o :: rest) a w :=
  wpList_plain hgd fun _ hKK => by
    obtain ⟨v', w', hr, h2, h3, h4⟩ := run_row_push o.type h hx hl hB
    unfold Oper.wp execOp
    simp only [ho, resolve, invoke, builtin, Sem.run_bind, Sem.run_pure, Result.andThen_ok, List.map_toArray, List.map_cons, List.map_nil, hs, hv, hr]
    exact hKK _ _ (hK v' w' h2 h3 h4)
/-- At a step of a region that draws its order. -/
theorem step_row {ops : Array Oper} {o : Oper} {a : Act} {w : World} {K : Act → World → Prop} {Q : Exit → Act → World → Prop} {E : Prop} (hgd : o.guard = none) (s x : Operand)
    (ho : o.op = .call { callee := .builtin .append, args := #[s, x], argTypes := #[22, 22] }) {B S1 S2 S3 : Nat} {p1 p2 p3 q : List Tr.T} {v1 v2 v3 vx : Value} (h : Sl.R3 B S1 S2 S3 p1 p2 p3 v1 v2 v3 w)
    (hs : a.eval s = v1) (hv : a.eval x = vx) (hx : Sl.Tx S1 q vx w) (hl : p1.length + q.length ≤ 1000000) (hB : B ≤ w.heap.size)
    (hK : ∀ v' w', Sl.R3 B S1 S2 S3 (p1 ++ q) p2 p3 v' v2 v3 w' → Below B w w' → Sl.Kept v1 w w' → K (a.put o.dst v') w') :
    if Region.wanted o (yielded ops a.tmps) = true then Oper.wp Tryd.prog o a w K Q else E := by
  have hw : Region.wanted o (yielded ops a.tmps) = true := by simp [Region.wanted, hgd]
  rw [if_pos hw]
  obtain ⟨v', w', hr, h2, h3, h4⟩ := run_row_push o.type h hx hl hB
  unfold Oper.wp execOp
  simp only [ho, resolve, invoke, builtin, Sem.run_bind, Sem.run_pure, Result.andThen_ok, List.map_toArray, List.map_cons, List.map_nil, hs, hv, hr]
  exact hK v' w' h2 h3 h4
end Go.Proofs.YthhfcijgcpnfcaaDoor
/-
  The walks of the reference's Power, chained and node (stage 3).
-/
namespace Go.Proofs.YthhfcijgcpnfcaaDoor
open Go.RowKit

set_option maxHeartbeats 1000000 in
set_option maxRecDepth 100000 in
theorem refpow_walk (n : Nat) (hn : n ≤ 30) (w : World) :
    Calls Tryd.prog 35 #[.int .i64 n] w fun e w' => ∃ m : Nat, e = .returned (.int .i64 m) ∧ m ≤ 1073741824 ∧ Hid (m = 2 ^ n) ∧ w = w' := by
  go_enter Tryd.func35, Tryd.ntmps35
  go_wp2_with fail
  go_loop [3, 4] (fun x i => ∃ k m : Nat, k ≤ n ∧ i = .int .i64 k ∧ x = .int .i64 m ∧ m ≤ 1073741824 ∧ Hid (m = 2 ^ k)) (fun _ i => n - (intOf i).toNat)
  case atStart => exact ⟨0, 1, Nat.zero_le _, rfl, rfl, by omega, rfl⟩
  case round =>
    obtain ⟨k, m, hk, rfl, rfl, hm, hp⟩ := hrel
    by_cases hlt : k < n
    · go_wp2_with fail
      go_round
      case rel =>
        have e : 2 * m = 2 ^ (k + 1) := by rw [hp.out, Nat.pow_succ]; exact Nat.mul_comm _ _
        have hle : 2 ^ (k + 1) ≤ 2 ^ 30 := Nat.pow_le_pow_right (by decide) (by omega)
        have h30 : (2 : Nat) ^ 30 = 1073741824 := by decide
        refine ⟨k + 1, 2 * m, by omega, by go_num, ?_, ?_, e⟩
        · simp
        · rw [e, ← h30]; exact hle
      case measure => simp [intOf]; omega
    · have hkn : Hid (k = n) := by show _ = _; omega
      go_wp2_with fail
      go_ret
      exact ⟨m, rfl, hm, by rw [← hkn.out]; exact hp, rfl⟩

theorem Sl.chained_succ (x : Tr.T) (n : Nat) : Sl.chained x (n + 1) = Sl.chained x n ++ [Dg.chain x (n + 1)] := by
  rw [Sl.chained, List.range_succ, List.map_append]; rfl
theorem Sl.chained_length (x : Tr.T) (n : Nat) : (Sl.chained x n).length = n + 1 := by simp [Sl.chained]
theorem Sl.chain_next (x : Tr.T) (k : Nat) : Dg.sum (Dg.chain x k) = Dg.chain x (k + 1) := rfl

set_option maxHeartbeats 1000000 in
set_option maxRecDepth 100000 in
theorem refchained_walk (s : ByteArray) (hs : s.size ≤ 16) (n : Nat) (hn : n ≤ 100) (w : World) :
    Calls Tryd.prog 48 #[.string s, .int .i64 n] w (OwnOut 16 (Sl.chained s.data.toList n) w) := by
  have HS := Lib.hid hs
  have hrow : Sl.Row w.heap.size 16 (Sl.chained s.data.toList 0) (.slice (some ⟨w.heap.size, 0, none⟩) 1 1) (w.alloc (.cells #[.string s] 9)) :=
    ⟨[s], own_built w w.heap.size (Nat.le_refl _) s, rfl, Tr.all_one hs⟩
  have hb0 := (Below.refl w.heap.size w).alloc (Nat.le_refl _) (.cells #[.string s] 9)
  have HR : Hid (Sl.R3 w.heap.size 16 16 16 (Sl.chained s.data.toList 0) [] [] (.slice (some ⟨w.heap.size, 0, none⟩) 1 1) (.slice none 0 0) (.slice none 0 0) (w.alloc (.cells #[.string s] 9))) :=
    ⟨hrow, Sl.Row.nil _ _ _, Sl.Row.nil _ _ _, Sl.apart_symm (.inl rfl), Sl.apart_symm (.inl rfl), Sl.apart_symm (.inl rfl)⟩
  have HB0 := Lib.hid hb0
  clear hrow hb0 hs
  go_enter Tryd.func48, Tryd.ntmps48
  go_wp2_with fail
  go_loopw [0, 5, 6] (fun t v i wr => ∃ (k : Nat) (r : ByteArray), k ≤ n ∧ i = .int .i64 k ∧ t = .string r ∧ r.size ≤ 16 ∧ Hid (r.data.toList = Dg.chain s.data.toList k) ∧ Sl.R3 w.heap.size 16 16 16 (Sl.chained s.data.toList k) [] [] v (.slice none 0 0) (.slice none 0 0) wr ∧ Below w.heap.size w wr) (fun _ _ i _ => n - (intOf i).toNat)
  case atStart => exact ⟨0, s, Nat.zero_le _, rfl, rfl, HS.out, rfl, HR.out, HB0.out⟩
  case round =>
    obtain ⟨k, r, hk, rfl, rfl, hz, hr, h3, hb⟩ := hrel
    by_cases hlt : k < n
    · have H3 := Lib.hid h3
      clear h3
      go_wp2_with fail
      refine (refsum_walk r (by omega) wr).mono ?_
      rintro e w1 ⟨rfl, rfl⟩
      obtain ⟨q, hq⟩ : ∃ q, q = str (Dg.sum r.data.toList) := ⟨_, rfl⟩
      rw [← hq]
      have hqz : q.size ≤ 16 := by rw [hq, Dg.str_size, Dg.sum_length]; exact Nat.le_refl _
      have HQ : Hid (q.data.toList = Dg.chain s.data.toList (k + 1)) := by
        show _ = _
        rw [hq, ← Sl.chain_next, ← hr.out]
      clear hq
      have hs0 : w.heap.size ≤ (wr.alloc (.cells #[.string q] 9)).heap.size := by rw [heap_alloc_size]; have := hb.size; omega
      go_wp2_with (at_builtin; refine wpList_row rfl (.tmp 16) (.tmp 18) rfl (H3.out.alloc _) rfl rfl (Sl.Tx.one wr q _ HQ hqz) (by rw [Sl.chained_length]; simp; omega) hs0 ?_)
      intro v' w' h3' hb' _
      have HH := Lib.hid (h3'.again (Sl.chained_succ _ _).symm rfl rfl)
      have HBB := Lib.hid ((hb.alloc hb.size (.cells #[.string q] 9)).trans hb')
      clear h3' hb'
      go_wp2_with fail
      first | go_roundw | go_round
      case rel => exact ⟨k + 1, q, by omega, by go_num, rfl, hqz, HQ, HH.out, HBB.out⟩
      case measure => simp [intOf]; omega
    · have hkn : Hid (k = n) := by show _ = _; omega
      have H3 := Lib.hid h3
      clear h3
      go_wp2_with fail
      go_ret
      exact H3.out.r1.out (by rw [hkn.out]) hb

theorem refsum_ex (r : ByteArray) (hr : r.size ≤ 10000) (w : World) :
    Calls Tryd.prog 25 #[.string r] w fun e w' => ∃ q : ByteArray, e = .returned (.string q) ∧ q.size ≤ 16 ∧ Hid (q.data.toList = Dg.sum r.data.toList) ∧ w = w' :=
  (refsum_walk r (by omega) w).mono fun _ _ ⟨h, hw⟩ => ⟨_, h, by rw [Dg.str_size, Dg.sum_length]; exact Nat.le_refl _, Dg.str_toList _, hw⟩
theorem few_node {a b : ByteArray} (ha : a.size ≤ 300) (hb : b.size ≤ 300) : Dg.few [(⟨#[110, 111, 100, 101]⟩ : ByteArray), a, b] 300 = true := by
  unfold Dg.few
  rw [Bool.and_eq_true, List.all_eq_true, decide_eq_true_eq]
  exact ⟨fun s hs => by simpa using Tr.all_three (n := 300) (by decide) ha hb s hs, by simp⟩

set_option maxHeartbeats 1000000 in
set_option maxRecDepth 100000 in
theorem refnode3_walk (a b : ByteArray) (ha : a.size ≤ 300) (hb : b.size ≤ 300) (w : World) :
    Calls Tryd.prog 49 #[.string a, .string b] w fun e w' => ∃ r : ByteArray, e = .returned (.string r) ∧ Hid (r.data.toList = Dg.join [Tr.wNode, a.data.toList, b.data.toList]) ∧ r.size ≤ 10000 ∧ Below w.heap.size w w' := by
  have HF := Lib.hid (few_node ha hb)
  clear ha hb
  go_enter Tryd.func49, Tryd.ntmps49
  go_wp2_with fail
  have hb0 := (Below.refl w.heap.size w).alloc (Nat.le_refl _) (.cells #[.string ⟨#[110, 111, 100, 101]⟩, .string a, .string b] 9)
  refine (refjoined_any3 _ [⟨#[110, 111, 100, 101]⟩, a, b] _ (tx_three w _ _ _).texts HF.out).mono ?_
  rintro e w1 ⟨r, rfl, hr, hz, hb1⟩
  go_wp2_with fail
  go_ret
  exact ⟨r, rfl, hr, hz, hb0.trans (hb1.mono hb0.size)⟩
end Go.Proofs.YthhfcijgcpnfcaaDoor
