/-
  The check of formulas in arithmetic (G1, G2; P7.7). Laid before the code of layer 7.
-/
import Derived.Test.YtjcaingfeaaakaaMForm
namespace Go.Proofs.Ytjcaingfeaaakaa.Fm

/-- Whether a node has just what its Op has. isN says what a name is. -/
def wf (isN : List UInt8 → Bool) : Fo → Bool
  | .mk o x cmp n ks =>
    if o = 1 ∨ o = 2 then x.isEmpty && decide (cmp = 0) && decide (n = 0) && ks.isEmpty
    else if o = 3 then isN x && decide (1 ≤ cmp) && decide (cmp ≤ 6) && ks.isEmpty
    else if o = 4 then isN x && decide (cmp = 0) && decide (n = 0) && ks.isEmpty
    else if o = 5 then x.isEmpty && decide (cmp = 0) && decide (n = 0) && decide (ks.length = 1)
    else if o = 6 ∨ o = 7 then x.isEmpty && decide (cmp = 0) && decide (n = 0) && decide (2 ≤ ks.length)
    else false
/-- A node's own error: fs says which facts there are, ts which terms. -/
def err1 (isN fs ts : List UInt8 → Bool) : Fo → Nat
  | .mk o x cmp n ks =>
    if wf isN (.mk o x cmp n ks) = false then 1
    else if o = 3 then (if n < 0 ∨ 1000000 < n then 10 else if fs x = false then 7 else 0)
    else if o = 4 then (if ts x = false then 7 else 0)
    else 0
mutual
/-- The first error, a node being before its kids. -/
def errs (isN fs ts : List UInt8 → Bool) : Fo → Nat
  | .mk o x cmp n ks => if err1 isN fs ts (.mk o x cmp n ks) ≠ 0 then err1 isN fs ts (.mk o x cmp n ks) else errsL isN fs ts ks
def errsL (isN fs ts : List UInt8 → Bool) : List Fo → Nat
  | [] => 0
  | k :: ks => if errs isN fs ts k ≠ 0 then errs isN fs ts k else errsL isN fs ts ks
end
def check (isN fs ts : List UInt8 → Bool) (f : Fo) : Nat := if 200 < size f ∨ 20 < depth f then 2 else errs isN fs ts f
theorem size_pos : ∀ f, 0 < size f
  | .mk _ _ _ _ ks => by rw [size]; omega
theorem depth_pos : ∀ f, 0 < depth f
  | .mk _ _ _ _ ks => by rw [depth]; omega
theorem size_mem : ∀ {l : List Fo} {k : Fo}, k ∈ l → size k ≤ sizeL l
  | a :: l, k, h => by
    rw [sizeL]
    rcases List.mem_cons.1 h with rfl | h
    · omega
    · have := size_mem h; omega
theorem depth_mem : ∀ {l : List Fo} {k : Fo}, k ∈ l → depth k ≤ depthL l
  | a :: l, k, h => by
    rw [depthL]
    rcases List.mem_cons.1 h with rfl | h
    · omega
    · have := depth_mem h; omega
section
variable {isN fs ts : List UInt8 → Bool}
theorem errs_ok {o : Int} {x : List UInt8} {cmp n : Int} {ks : List Fo} : errs isN fs ts (.mk o x cmp n ks) = 0 ↔ err1 isN fs ts (.mk o x cmp n ks) = 0 ∧ errsL isN fs ts ks = 0 := by
  rw [errs]
  by_cases h : err1 isN fs ts (.mk o x cmp n ks) = 0
  · rw [if_neg (by simpa using h)]; simp [h]
  · rw [if_pos h]; simp [h]
theorem errsL_ok : ∀ {l : List Fo}, errsL isN fs ts l = 0 ↔ ∀ k ∈ l, errs isN fs ts k = 0
  | [] => by simp [errsL]
  | a :: l => by
    rw [errsL]
    by_cases h : errs isN fs ts a = 0
    · rw [if_neg (by simpa using h), errsL_ok]; simp [h]
    · rw [if_pos h]; simp [h]
/-- The kids of a well-formed formula are well-formed (P7.7). -/
theorem check_kid {o : Int} {x : List UInt8} {cmp n : Int} {ks : List Fo} (h : check isN fs ts (.mk o x cmp n ks) = 0) {k : Fo} (hk : k ∈ ks) : check isN fs ts k = 0 := by
  unfold check at h ⊢
  by_cases hc : 200 < size (.mk o x cmp n ks) ∨ 20 < depth (.mk o x cmp n ks)
  · rw [if_pos hc] at h; cases h
  · rw [if_neg hc] at h
    rw [size, depth] at hc
    have h1 := size_mem hk
    have h2 := depth_mem hk
    rw [if_neg (by omega)]
    exact errsL_ok.1 (errs_ok.1 h).2 k hk
/-- A node that isn't well-formed comes first. -/
theorem check_bad {f : Fo} (hs : size f ≤ 200) (hd : depth f ≤ 20) (hw : wf isN f = false) : check isN fs ts f = 1 := by
  obtain ⟨o, x, cmp, n, ks⟩ := f
  unfold check
  rw [if_neg (by omega), errs]
  have h1 : err1 isN fs ts (.mk o x cmp n ks) = 1 := by rw [err1, if_pos hw]
  rw [h1, if_pos (by decide)]
/-- A node that isn't well-formed beside a formula that is (P7.7). -/
theorem check_beside {f g : Fo} (hf : check isN fs ts f = 0) (hs : size f + size g ≤ 199) (hd : depth f ≤ 19) (hd2 : depth g ≤ 19) (hw : wf isN g = false) : check isN fs ts (.mk 7 [] 0 0 [f, g]) = 1 := by
  have h0 : errs isN fs ts f = 0 := by
    unfold check at hf
    rw [if_neg (by omega)] at hf
    exact hf
  have h1 : errs isN fs ts g = 1 := by
    have := check_bad (fs := fs) (ts := ts) (f := g) (by omega) (by omega) hw
    unfold check at this
    rw [if_neg (by omega)] at this
    exact this
  unfold check
  rw [if_neg (by rw [size, depth, sizeL, sizeL, sizeL, depthL, depthL, depthL]; omega), errs]
  have h2 : err1 isN fs ts (.mk 7 [] 0 0 [f, g]) = 0 := by simp [err1, wf]
  rw [if_neg (by simpa using h2), errsL, if_neg (by simpa using h0), errsL, h1, if_pos (by decide)]
theorem err1_less {ts2 : List UInt8 → Bool} {o : Int} {x : List UInt8} {cmp n : Int} {ks : List Fo} (h : err1 isN fs ts (.mk o x cmp n ks) = 0) : err1 isN fs ts2 (.mk o x cmp n ks) = if o = 4 ∧ ts2 x = false then 7 else 0 := by
  rw [err1] at h ⊢
  by_cases hw : wf isN (.mk o x cmp n ks) = false
  · rw [if_pos hw] at h; cases h
  · rw [if_neg hw] at h ⊢
    by_cases h3 : o = 3
    · rw [if_pos h3] at h ⊢
      rw [h, if_neg (by omega)]
    · rw [if_neg h3] at h ⊢
      by_cases h4 : o = 4
      · rw [if_pos h4]
        by_cases ht : ts2 x = false
        · rw [if_pos ht, if_pos ⟨h4, ht⟩]
        · rw [if_neg ht, if_neg (fun e => ht e.2)]
      · rw [if_neg h4, if_neg (fun e => h4 e.1)]
mutual
/-- Of a formula without errors, with other terms: an ErrName if a term isn't in the list, otherwise none (P7.5). -/
theorem errs_less {ts2 : List UInt8 → Bool} : ∀ f, errs isN fs ts f = 0 → errs isN fs ts2 f = if ∃ x ∈ termsR f, ts2 x = false then 7 else 0
  | .mk o x cmp n ks, h => by
    obtain ⟨h1, h2⟩ := errs_ok.1 h
    have e1 := err1_less (ts2 := ts2) h1
    have e2 := errsL_less (ts2 := ts2) ks h2
    rw [errs, e1, e2, termsR]
    by_cases h4 : o = 4 ∧ ts2 x = false
    · rw [if_pos h4, if_pos (by decide), if_pos ⟨x, by rw [if_pos h4.1]; simp, h4.2⟩]
    · rw [if_neg h4, if_neg (by decide)]
      by_cases hx : ∃ y ∈ termsRL ks, ts2 y = false
      · obtain ⟨y, hy, hy2⟩ := hx
        rw [if_pos ⟨y, hy, hy2⟩, if_pos ⟨y, List.mem_append_right _ hy, hy2⟩]
      · rw [if_neg hx, if_neg]
        rintro ⟨y, hy, hy2⟩
        rcases List.mem_append.1 hy with hy | hy
        · by_cases ho : o = 4
          · rw [if_pos ho] at hy
            have : y = x := by simpa using hy
            exact h4 ⟨ho, by rw [← this]; exact hy2⟩
          · rw [if_neg ho] at hy; cases hy
        · exact hx ⟨y, hy, hy2⟩
theorem errsL_less {ts2 : List UInt8 → Bool} : ∀ l, errsL isN fs ts l = 0 → errsL isN fs ts2 l = if ∃ x ∈ termsRL l, ts2 x = false then 7 else 0
  | [], _ => by rw [errsL, if_neg]; rintro ⟨x, hx, _⟩; rw [termsRL] at hx; cases hx
  | k :: ks, h => by
    have h1 : errs isN fs ts k = 0 := errsL_ok.1 h k (List.mem_cons_self ..)
    have h2 : errsL isN fs ts ks = 0 := errsL_ok.2 fun j hj => errsL_ok.1 h j (List.mem_cons_of_mem _ hj)
    have e1 := errs_less (ts2 := ts2) k h1
    have e2 := errsL_less (ts2 := ts2) ks h2
    rw [errsL, e1, e2, termsRL]
    by_cases hx : ∃ x ∈ termsR k, ts2 x = false
    · obtain ⟨y, hy, hy2⟩ := hx
      have c1 : ∃ x ∈ termsR k, ts2 x = false := ⟨y, hy, hy2⟩
      have c2 : ∃ x ∈ termsR k ++ termsRL ks, ts2 x = false := ⟨y, List.mem_append_left _ hy, hy2⟩
      rw [if_pos c1, if_pos c2, if_pos (by omega)]
    · rw [if_neg hx, if_neg (by decide)]
      by_cases hz : ∃ x ∈ termsRL ks, ts2 x = false
      · obtain ⟨y, hy, hy2⟩ := hz
        rw [if_pos ⟨y, hy, hy2⟩, if_pos ⟨y, List.mem_append_right _ hy, hy2⟩]
      · rw [if_neg hz, if_neg]
        rintro ⟨y, hy, hy2⟩
        rcases List.mem_append.1 hy with hy | hy
        · exact hx ⟨y, hy, hy2⟩
        · exact hz ⟨y, hy, hy2⟩
end
end
end Go.Proofs.Ytjcaingfeaaakaa.Fm
