/-
  The walks of formula.Same and of slices.EqualFunc over formulas.
-/
import Derived.Test.YtjcaingfeaaakaaMTexts
import Derived.Test.YtjcaingfeaaakaaMSmall
import Derived.Laws.EntriesVeiled
namespace Go.Proofs.Ytjcaingfeaaakaa
open Go.RowKit

namespace Fm
mutual
/-- Equal in all fields of all nodes. -/
def sameB : Fo → Fo → Bool
  | .mk o x c n ks, .mk o2 x2 c2 n2 ks2 => decide (o = o2) && decide (x = x2) && decide (c = c2) && decide (n = n2) && sameL ks ks2
def sameL : List Fo → List Fo → Bool
  | [], [] => true
  | a :: l, b :: m => sameB a b && sameL l m
  | [], _ :: _ => false
  | _ :: _, [] => false
end
mutual
theorem same_iff : ∀ a b : Fo, sameB a b = true ↔ a = b
  | .mk o x c n ks, .mk o2 x2 c2 n2 ks2 => by
    rw [sameB]
    simp only [Bool.and_eq_true, decide_eq_true_iff, sameL_iff ks ks2, Fo.mk.injEq]
    constructor
    · rintro ⟨⟨⟨⟨h1, h2⟩, h3⟩, h4⟩, h5⟩; exact ⟨h1, h2, h3, h4, h5⟩
    · rintro ⟨h1, h2, h3, h4, h5⟩; exact ⟨⟨⟨⟨h1, h2⟩, h3⟩, h4⟩, h5⟩
theorem sameL_iff : ∀ a b : List Fo, sameL a b = true ↔ a = b
  | [], [] => by simp [sameL]
  | a :: l, b :: m => by rw [sameL]; simp only [Bool.and_eq_true, same_iff a b, sameL_iff l m, List.cons.injEq]
  | [], _ :: _ => by simp [sameL]
  | _ :: _, [] => by simp [sameL]
end
theorem same_refl (a : Fo) : sameB a a = true := (same_iff a a).2 rfl
theorem sameL_len {a b : List Fo} (h : a.length ≠ b.length) : sameL a b = false := by
  cases hs : sameL a b with
  | false => rfl
  | true => rw [sameL_iff] at hs; exact absurd (by rw [hs]) h
theorem sameL_all : ∀ {a b : List Fo}, a.length = b.length → (∀ (i : Nat) (x y : Fo), a[i]? = some x → b[i]? = some y → sameB x y = true) → sameL a b = true
  | [], [], _, _ => by rw [sameL]
  | x :: a, y :: b, h, hs => by
    rw [sameL, hs 0 x y rfl rfl, sameL_all (by simpa using h) (fun i u v hu hv => hs (i + 1) u v (by simpa using hu) (by simpa using hv))]; rfl
theorem sameL_diff : ∀ {a b : List Fo} {i : Nat} {x y : Fo}, a[i]? = some x → b[i]? = some y → sameB x y = false → sameL a b = false
  | [], _, _, _, _, h, _, _ => by simp at h
  | _ :: _, [], _, _, _, _, h, _ => by simp at h
  | u :: a, v :: b, 0, x, y, h1, h2, h3 => by
    obtain rfl : u = x := by simpa using h1
    obtain rfl : v = y := by simpa using h2
    rw [sameL, h3, Bool.false_and]
  | u :: a, v :: b, i + 1, x, y, h1, h2, h3 => by
    rw [sameL, sameL_diff (a := a) (b := b) (by simpa using h1) (by simpa using h2) h3, Bool.and_false]
/-- What Same says of some formulas and all others. -/
def SameAt (g : Nat) (ks : List Fo) (w : World) : Prop := ∀ (W : World) (k : Fo) (u : Value) (k2 : Fo) (u2 : Value), Below w.heap.size w W → k ∈ ks → At W k u → At W k2 u2 →
  Calls Try.prog g #[fv k u, fv k2 u2] W fun e W' => e = .returned (.bool (sameB k k2)) ∧ Below W.heap.size W W'
end Fm

set_option maxHeartbeats 4000000 in
set_option maxRecDepth 100000 in
theorem equalfunc_walk (v v2 : Value) (ks ks2 : List Fm.Fo) (w : World) (hv : Fm.IsK w v ks) (hv2 : Fm.IsK w v2 ks2) (hp : Fm.SameAt 20 ks w) :
    Calls Try.prog 43 #[v, v2, .func (.func 20) #[] #[]] w fun e w' => e = .returned (.bool (Fm.sameL ks ks2)) ∧ Below w.heap.size w w' := by
  obtain ⟨z, hz⟩ : ∃ z, z = Fm.sameL ks ks2 := ⟨_, rfl⟩
  rw [← hz]
  obtain ⟨a, c, b, o, rfl, hc1, hc2, hga, hcl⟩ := hv.any
  obtain ⟨a2, c2, b2, o2, rfl, hd1, hd2, hgb, hcm⟩ := hv2.any
  by_cases hlen : ks.length = ks2.length
  · obtain ⟨n, hn⟩ : ∃ n, n = ks.length := ⟨_, rfl⟩
    have hga : 0 < n → a = some ⟨b, o, none⟩ ∧ b < w.heap.size := fun h => hga (by rintro rfl; rw [hn] at h; simp at h)
    have hgb : 0 < n → a2 = some ⟨b2, o2, none⟩ ∧ b2 < w.heap.size := fun h => hgb (by rintro rfl; rw [hn, hlen] at h; simp at h)
    have HN := Lib.hid (And.intro hn (hn.trans hlen))
    have hnc : n ≤ c := by rw [hn]; exact hc1
    have hnd : n ≤ c2 := by rw [hn, hlen]; exact hd1
    have HS := Lib.hid (fun i x y (hx : ks[i]? = some x) (hy : ks2[i]? = some y) (h : Fm.sameB x y = false) => hz.trans (Fm.sameL_diff hx hy h))
    have HE := Lib.hid (fun (h : ∀ i x y, ks[i]? = some x → ks2[i]? = some y → Fm.sameB x y = true) => hz.trans (Fm.sameL_all hlen h))
    rw [← hlen, ← hn]
    have HC := Lib.hid hcl
    have HM := Lib.hid hcm
    have HG := Lib.hid hga
    have HG2 := Lib.hid hgb
    have HP := Lib.hid hp
    clear hv hv2 hcl hcm hn hz hga hgb hc1 hd1 hp hlen
    go_enter Try.func43, Try.ntmps43
    go_wp2_with fail
    go_loopw [17] (fun i wr => ∃ k : Nat, k ≤ n ∧ i = .int .i64 k ∧ Hid (∀ j, j < k → ∀ x y, ks[j]? = some x → ks2[j]? = some y → Fm.sameB x y = true) ∧ Hid (Below w.heap.size w wr)) (fun i _ => n - (intOf i).toNat)
    case atStart => exact ⟨0, Nat.zero_le _, rfl, fun j hj => absurd hj (by omega), Below.refl _ _⟩
    case round =>
      obtain ⟨k, hk, rfl, hd, hbw⟩ := hrel
      by_cases hlt : k < n
      · obtain ⟨x, hx⟩ : ∃ x, ks[k]? = some x := ⟨_, List.getElem?_eq_getElem (by rw [← HN.out.1]; exact hlt)⟩
        obtain ⟨y, hy⟩ : ∃ y, ks2[k]? = some y := ⟨_, List.getElem?_eq_getElem (by rw [← HN.out.2]; exact hlt)⟩
        obtain ⟨rfl, hg⟩ := HG.out (by omega)
        obtain ⟨rfl, hg2⟩ := HG2.out (by omega)
        obtain ⟨u, p0, p1, p2, p3, p4, hu⟩ := HC.out k x hx
        obtain ⟨u2, q0, q1, q2, q3, q4, hu2⟩ := HM.out k y hy
        obtain ⟨ua, un, uc, hue⟩ : ∃ a n c, u = .slice a n c := by obtain ⟨a, c, e, _⟩ := hu.kidsAt.len; exact ⟨_, _, _, e⟩
        obtain ⟨va, vn, vc, hve⟩ : ∃ a n c, u2 = .slice a n c := by obtain ⟨a, c, e, _⟩ := hu2.kidsAt.len; exact ⟨_, _, _, e⟩
        subst hue hve
        have hgw : b < wr.heap.size := Nat.lt_of_lt_of_le hg hbw.out.size
        have hgw2 : b2 < wr.heap.size := Nat.lt_of_lt_of_le hg2 hbw.out.size
        have p0 := (hbw.out.cell (p := ⟨b, o + k * 5, none⟩) hg).trans p0
        have p1 := (hbw.out.cell (p := ⟨b, o + k * 5 + 1, none⟩) hg).trans p1
        have p2 := (hbw.out.cell (p := ⟨b, o + k * 5 + 2, none⟩) hg).trans p2
        have p3 := (hbw.out.cell (p := ⟨b, o + k * 5 + 3, none⟩) hg).trans p3
        have p4 := (hbw.out.cell (p := ⟨b, o + k * 5 + 4, none⟩) hg).trans p4
        have q0 := (hbw.out.cell (p := ⟨b2, o2 + k * 5, none⟩) hg2).trans q0
        have q1 := (hbw.out.cell (p := ⟨b2, o2 + k * 5 + 1, none⟩) hg2).trans q1
        have q2 := (hbw.out.cell (p := ⟨b2, o2 + k * 5 + 2, none⟩) hg2).trans q2
        have q3 := (hbw.out.cell (p := ⟨b2, o2 + k * 5 + 3, none⟩) hg2).trans q3
        have q4 := (hbw.out.cell (p := ⟨b2, o2 + k * 5 + 4, none⟩) hg2).trans q4
        have hki : (k : Int) < (n : Int) := by omega
        have hkm : (k : Int) + 1 ≤ 9223372036854775807 := by omega
        obtain ⟨W2, hW2⟩ : ∃ W2, W2 = (wr.alloc (.cells #[.int .i64 x.op, .string (Lx.str x.name), .int .i64 x.cmp, .int .i64 x.num, .slice ua un uc] 24)).alloc (.cells #[.int .i64 y.op, .string (Lx.str y.name), .int .i64 y.cmp, .int .i64 y.num, .slice va vn vc] 24) := ⟨_, rfl⟩
        have hb2 : Below wr.heap.size wr W2 := by rw [hW2]; exact ((Below.refl _ _).alloc (Nat.le_refl _) _).alloc (by simp) _
        have hbW := hbw.out.trans (hb2.mono hbw.out.size)
        obtain ⟨q, hq⟩ : ∃ q, q = Fm.sameB x y := ⟨_, rfl⟩
        have HA := Lib.hid (HP.out W2 x _ y _ hbW (List.mem_of_getElem? hx) (hu.below hbW) (hu2.below hbW))
        rw [← hq] at HA
        have HXY := Lib.hid (And.intro hx (And.intro hy hq))
        have HBW := Lib.hid hbW
        clear hx hy hu hu2 hb2 hbW hq
        go_wp2_with fail
        rw [← hW2]
        refine HA.out.mono ?_
        rintro e w1 ⟨rfl, hb1⟩
        have HB1 := Lib.hid (HBW.out.trans (hb1.mono HBW.out.size))
        clear p0 p1 p2 p3 p4 q0 q1 q2 q3 q4 hb1 HA hW2
        cases q with
        | false =>
          have hzf := HS.out k x y HXY.out.1 HXY.out.2.1 HXY.out.2.2.symm
          subst hzf
          clear hd
          go_wp2_with fail
          go_ret
          exact ⟨rfl, HB1.out⟩
        | true =>
          have HD : Hid (∀ j, j < k + 1 → ∀ x y, ks[j]? = some x → ks2[j]? = some y → Fm.sameB x y = true) := fun j hj x2 y2 hx2 hy2 => by
            by_cases e : j = k
            · subst e
              rw [HXY.out.1] at hx2
              rw [HXY.out.2.1] at hy2
              obtain rfl := Option.some.inj hx2
              obtain rfl := Option.some.inj hy2
              exact HXY.out.2.2.symm
            · exact hd.out j (by omega) x2 y2 hx2 hy2
          clear hd
          go_wp2_with fail
          go_roundw
          case rel => exact ⟨k + 1, by omega, by go_num, HD, HB1⟩
          case measure => simp [intOf]; omega
      · obtain rfl : k = n := by omega
        have hki : ¬ (k : Int) < (k : Int) := by omega
        have hzt := HE.out (fun j x y hx hy => hd.out j (by rw [HN.out.1]; exact (List.getElem?_eq_some_iff.1 hx).1) x y hx hy)
        subst hzt
        clear hd
        go_wp2_with fail
        go_ret
        exact ⟨rfl, hbw.out⟩
  · have hzf := hz.trans (Fm.sameL_len hlen)
    subst hzf
    have hne : (((ks.length : Nat) : Int) != (ks2.length : Nat)) = true := by rw [bne_iff_ne]; omega
    clear hv hv2 hcl hcm hz hga hgb hc1 hd1 hp hlen
    go_enter Try.func43, Try.ntmps43
    go_wp2_with fail
    go_ret
    exact ⟨rfl, Below.refl _ _⟩

set_option maxHeartbeats 4000000 in
set_option maxRecDepth 100000 in
theorem same_walk : ∀ (s : Nat) (f f2 : Fm.Fo) (u u2 : Value) (w : World), Fm.size f ≤ s → Fm.At w f u → Fm.At w f2 u2 →
    Calls Try.prog 20 #[Fm.fv f u, Fm.fv f2 u2] w fun e w' => e = .returned (.bool (Fm.sameB f f2)) ∧ Below w.heap.size w w' := by
  intro s
  induction s with
  | zero => intro f f2 u u2 w hs; have := Fm.size_pos f; omega
  | succ s ih =>
    intro f f2 u u2 w hs hat hat2
    have hsz := Fm.size_eq f
    obtain ⟨ua, un, uc, hue⟩ : ∃ a n c, u = .slice a n c := by obtain ⟨a, c, e, _⟩ := hat.kidsAt.len; exact ⟨_, _, _, e⟩
    obtain ⟨va, vn, vc, hve⟩ : ∃ a n c, u2 = .slice a n c := by obtain ⟨a, c, e, _⟩ := hat2.kidsAt.len; exact ⟨_, _, _, e⟩
    subst hue hve
    obtain ⟨o, x, c, n, ks⟩ := f
    obtain ⟨o2, x2, c2, n2, ks2⟩ := f2
    obtain ⟨W2, hW2⟩ : ∃ W2, W2 = (w.alloc (.cells #[.int .i64 o, .string (Lx.str x), .int .i64 c, .int .i64 n, .slice ua un uc] 24)).alloc (.cells #[.int .i64 o2, .string (Lx.str x2), .int .i64 c2, .int .i64 n2, .slice va vn vc] 24) := ⟨_, rfl⟩
    have hb2 : Below w.heap.size w W2 := by rw [hW2]; exact ((Below.refl _ _).alloc (Nat.le_refl _) _).alloc (by simp) _
    have HE := Lib.hid (equalfunc_walk (.slice ua un uc) (.slice va vn vc) ks ks2 W2 (hat.kidsAt.below hb2) (hat2.kidsAt.below hb2) (fun W k v k2 v2 _ hk hv hv2 => ih k k2 v v2 W (by have := Fm.size_mem hk; have e : Fm.size (.mk o x c n ks) = 1 + Fm.sizeL ks := hsz; omega) hv hv2))
    have HB := Lib.hid hb2
    obtain ⟨z, hz⟩ : ∃ z, z = Fm.sameB (.mk o x c n ks) (.mk o2 x2 c2 n2 ks2) := ⟨_, rfl⟩
    obtain ⟨zk, hzk⟩ : ∃ z, z = Fm.sameL ks ks2 := ⟨_, rfl⟩
    rw [← hz]
    rw [Fm.sameB, ← hzk] at hz
    rw [← hzk] at HE
    have hx := Fm.str_eq x x2
    dsimp only [Fm.fv, Fm.Fo.op, Fm.Fo.name, Fm.Fo.cmp, Fm.Fo.num]
    clear ih hs hat hat2 hsz hb2 hzk
    by_cases h1 : o = o2
    · subst h1
      by_cases h2 : x = x2
      · subst h2
        rw [decide_eq_true rfl] at hx
        by_cases h3 : c = c2
        · subst h3
          by_cases h4 : n = n2
          · subst h4
            have hzz : z = zk := by rw [hz]; simp
            subst hzz
            clear hz
            go_enter Try.func20, Try.ntmps20
            go_wp2_with fail
            rw [← hW2]
            refine HE.out.mono ?_
            rintro e w4 ⟨rfl, hb4⟩
            have HX := Lib.hid (HB.out.trans (hb4.mono HB.out.size))
            clear hb4
            go_wp2_with fail
            go_ret
            exact ⟨rfl, HX.out⟩
          · have hzz : z = false := by rw [hz]; simp [h4]
            subst hzz
            clear hz HE
            go_enter Try.func20, Try.ntmps20
            go_wp2_with fail
            go_ret
            exact ⟨rfl, by rw [← hW2]; exact HB.out⟩
        · have hzz : z = false := by rw [hz]; simp [h3]
          subst hzz
          clear hz HE
          go_enter Try.func20, Try.ntmps20
          go_wp2_with fail
          go_ret
          exact ⟨rfl, by rw [← hW2]; exact HB.out⟩
      · have hzz : z = false := by rw [hz]; simp [h2]
        rw [decide_eq_false h2] at hx
        subst hzz
        clear hz HE h2
        go_enter Try.func20, Try.ntmps20
        go_wp2_with fail
        go_ret
        exact ⟨rfl, by rw [← hW2]; exact HB.out⟩
    · have hzz : z = false := by rw [hz]; simp [h1]
      subst hzz
      clear hz HE hx
      go_enter Try.func20, Try.ntmps20
      go_wp2_with fail
      go_ret
      exact ⟨rfl, by rw [← hW2]; exact HB.out⟩
end Go.Proofs.Ytjcaingfeaaakaa
