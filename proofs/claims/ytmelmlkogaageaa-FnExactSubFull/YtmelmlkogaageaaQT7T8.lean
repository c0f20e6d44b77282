import Derived.Test.YtmelmlkogaageaaQT5BR1
import Derived.Test.YtmelmlkogaageaaQD2W15
/- The walk of TrmShift. -/
namespace Go.Proofs.Ytmelmlkogaageaa
open Go.RowKit Go.Shelf
set_option linter.unusedVariables false
set_option linter.unusedSimpArgs false
attribute [local go_sem] Oper.semAt_some

def shiftC (n : Int) (c : C) : C := if c.k = 1 then ⟨c.k, c.n + n, c.s⟩ else c

/-- What TrmShift is of places. -/
def shiftOf (t : List C) (n : Int) : List C := if trm t = true ∧ 0 ≤ n ∧ n ≤ 99999 then listed (t.map (shiftC n)) else []

theorem shiftOf_no {t : List C} {n : Int} (h : trm t = false) : shiftOf t n = [] := by simp [shiftOf, h]
theorem shiftOf_out {t : List C} {n : Int} (h : n < 0 ∨ 99999 < n) : shiftOf t n = [] := by
  unfold shiftOf; rw [if_neg (fun h' => by omega)]
theorem shiftOf_in {t : List C} {n : Int} (h : trm t = true) (h0 : 0 ≤ n) (h1 : n ≤ 99999) : shiftOf t n = listed (t.map (shiftC n)) := by
  unfold shiftOf; rw [if_pos ⟨h, h0, h1⟩]
theorem listed_len (t : List C) : (listed t).length ≤ t.length := by unfold listed; split <;> simp
theorem shiftOf_len (t : List C) (n : Int) : (shiftOf t n).length ≤ t.length := by
  unfold shiftOf; split
  · have := listed_len (t.map (shiftC n)); simpa using this
  · simp

/-- So often added to. -/
def addN (n : Int) : Nat → Int → Int
  | 0, v => v
  | m + 1, v => IntKind.i64.wrap (addN n m v + n)

def cntB {α : Type} (bl : α → Nat) (pre : List α) (b : Nat) : Nat := (pre.filter (fun x => bl x == b)).length

theorem cntB_snoc_same {α : Type} (bl : α → Nat) (pre : List α) (x : α) : cntB bl (pre ++ [x]) (bl x) = cntB bl pre (bl x) + 1 := by simp [cntB]
theorem cntB_snoc_other {α : Type} (bl : α → Nat) (pre : List α) (x : α) {b : Nat} (h : b ≠ bl x) : cntB bl (pre ++ [x]) b = cntB bl pre b := by
  simp [cntB, Ne.symm h]

theorem cntB_one {α : Type} (bl : α → Nat) : ∀ (xs : List α), (xs.map bl).Nodup → ∀ x ∈ xs, cntB bl xs (bl x) = 1
  | [], _, x, hx => by cases hx
  | y :: ys, h, x, hx => by
      rw [List.map_cons, List.nodup_cons] at h
      rcases List.mem_cons.1 hx with rfl | hx
      · have : ys.filter (fun y => bl y == bl x) = [] := by
          rw [List.filter_eq_nil_iff]
          intro a ha
          simp
          exact fun e => h.1 (List.mem_map.2 ⟨a, ha, e⟩)
        simp [cntB, this]
      · have hne : ¬ bl y = bl x := fun e => h.1 (List.mem_map.2 ⟨x, hx, e.symm⟩)
        have := cntB_one bl ys h.2 x hx
        unfold cntB at this ⊢
        rw [List.filter_cons, if_neg (by simpa using hne)]
        exact this

/-- The number at a node behind so many rounds. -/
def nowN (n : Int) (m : Nat) (c : C) : Int := if c.k = 1 then addN n m c.n else c.n

/-- What the nodes hold. -/
def NowAt (z : List (Nat × C)) (n : Int) (cnt : Nat → Nat) (W : World) : Prop := ∀ y ∈ z, W.cell? ⟨y.1, 0, none⟩ = some (.int .i64 y.2.k) ∧ W.cell? ⟨y.1, 1, none⟩ = some (.int .i64 (nowN n (cnt y.1) y.2)) ∧ W.cell? ⟨y.1, 2, none⟩ = some (.string y.2.s) ∧ W.frozen? ⟨y.1, 1, none⟩ = false

theorem Tre.node {S : Nat → Prop} {W : World} : ∀ {f p : Nat} {z : List (Nat × C)}, Tre S W f p z → ∀ x ∈ z, ∃ v, Node W x.1 x.2 v
  | f + 1, p, z, ⟨c, ks, ao, cap, e, hp, hl, hn, hr, hs⟩, x, hx => by
      rw [e] at hx
      rcases List.mem_cons.1 hx with rfl | hx
      · exact ⟨_, hn⟩
      · obtain ⟨l, hl, hx⟩ := List.mem_flatten.1 hx
        obtain ⟨k, hk, rfl⟩ := List.mem_map.1 hl
        exact (hs k hk).node x hx

theorem Shp.more {n₀ n₁ : Nat} {W : World} (h : n₀ ≤ n₁) : ∀ {f p : Nat} {gs : List Nat}, Shp n₀ W f p gs → Shp n₁ W f p gs
  | f + 1, p, gs, ⟨ks, ao, cap, hg, hp, hm, hc, hr, hs⟩ => ⟨ks, ao, cap, hg, by omega, hm, hc, hr.imp_right fun ⟨q, e, hq, h'⟩ => ⟨q, e, by omega, h'⟩, fun k hm => (hs k hm).more h⟩

theorem kps_setInt {n₀ : Nat} {W : World} {b i : Nat} {x y : Int} (h : W.cell? ⟨b, i, none⟩ = some (.int .i64 x)) : KpS n₀ W (W.setCell ⟨b, i, none⟩ (.int .i64 y)) := by
  intro b' i' v hb hc hv
  by_cases e : (⟨b', i', none⟩ : Addr) = ⟨b, i, none⟩
  · rw [e, h] at hc
    cases hc
    exact absurd rfl (hv .i64 x)
  · rw [World.cell?_setCell_other _ _ _ _ (fun h => e h.symm)]; exact hc

theorem ownFrom_kps {β : Type} {n₀ B : Nat} {w : World} (h : n₀ ≤ B) (hw : B ≤ w.heap.size) : OwnFrom (β := β) B (fun _ W => KpS n₀ w W ∧ w.heap.size ≤ W.heap.size) := by
  rintro s W W' row ⟨hk, hs⟩ hg hr
  refine ⟨hk.trans (KpS.of_below ((Below.refl n₀ W).grown hg (by omega) (fun k e => by have := (hr k e).1; omega))), by have := hg.size; omega⟩

theorem now_same {z : List (Nat × C)} {n : Int} {cnt cnt' : Nat → Nat} {W : World} (h : NowAt z n cnt W) (hc : ∀ y ∈ z, nowN n (cnt' y.1) y.2 = nowN n (cnt y.1) y.2) : NowAt z n cnt' W := fun y hy => by
  obtain ⟨a, b, c, d⟩ := h y hy
  exact ⟨a, by rw [hc y hy]; exact b, c, d⟩

theorem nodup_fst {z : List (Nat × C)} (hnd : (z.map (·.1)).Nodup) : ∀ {x y : Nat × C}, x ∈ z → y ∈ z → x.1 = y.1 → x = y := by
  induction z with
  | nil => intro x y hx; cases hx
  | cons a z ih =>
    rw [List.map_cons, List.nodup_cons] at hnd
    intro x y hx hy e
    rcases List.mem_cons.1 hx with rfl | hx' <;> rcases List.mem_cons.1 hy with rfl | hy'
    · rfl
    · exact absurd (List.mem_map.2 ⟨y, hy', e.symm⟩) hnd.1
    · exact absurd (List.mem_map.2 ⟨x, hx', e⟩) hnd.1
    · exact ih hnd.2 hx' hy' e

theorem now_set {z : List (Nat × C)} (hnd : (z.map (·.1)).Nodup) {n : Int} {cnt cnt' : Nat → Nat} {W : World} (h : NowAt z n cnt W) {x : Nat × C} (hx : x ∈ z) (h1 : x.2.k = 1) (hs : cnt' x.1 = cnt x.1 + 1) (ho : ∀ b, b ≠ x.1 → cnt' b = cnt b) :
    NowAt z n cnt' (W.setCell ⟨x.1, 1, none⟩ (.int .i64 (IntKind.i64.wrap (nowN n (cnt x.1) x.2 + n)))) := fun y hy => by
  obtain ⟨a, b, c, d⟩ := h y hy
  have ne0 : (⟨x.1, 1, none⟩ : Addr) ≠ ⟨y.1, 0, none⟩ := by simp
  have ne2 : (⟨x.1, 1, none⟩ : Addr) ≠ ⟨y.1, 2, none⟩ := by simp
  refine ⟨by rw [World.cell?_setCell_other _ _ _ _ ne0]; exact a, ?_, by rw [World.cell?_setCell_other _ _ _ _ ne2]; exact c, by rw [World.frozen?_setCell]; exact d⟩
  by_cases e : y.1 = x.1
  · obtain rfl := nodup_fst hnd hy hx e
    rw [hs]
    rw [World.cell?_setCell_same' _ _ _ (by rw [b]; rfl)]
    simp [nowN, h1, addN]
  · rw [ho _ e, World.cell?_setCell_other _ _ _ _ (fun h => e (congrArg Addr.block h).symm)]
    exact b

end Go.Proofs.Ytmelmlkogaageaa

/- The walk of the model's TrmShift. -/
namespace Go.Proofs.Ytmelmlkogaageaa
open Go.RowKit
set_option linter.unusedVariables false
set_option linter.unusedSimpArgs false

theorem shift_step {t : List C} {k : Nat} (n : Int) (h : k < t.length) : (t.take (k + 1)).map (shiftC n) = (t.take k).map (shiftC n) ++ [shiftC n t[k]] := by
  rw [List.take_succ_eq_append_getElem h, List.map_append]; rfl

theorem shiftC_var {n : Int} {c : C} (h : c.k = 1) : shiftC n c = ⟨c.k, c.n + n, c.s⟩ := by simp [shiftC, h]
theorem shiftC_other {n : Int} {c : C} (h : c.k ≠ 1) : shiftC n c = c := by simp [shiftC, h]

theorem made_nil {w w1 : World} (hb1 : Below w.heap.size w w1) : OwnC (w1.alloc (.cells #[] 46)) w.heap.size (.slice (some ⟨w1.heap.size, 0, none⟩) 0 0) [] :=
  OwnC.base (World.ownsRow_made w1 #[] 0 (Nat.le_refl _) (by simp [maxLen]) rfl) hb1.size

theorem fit_shift {t : List C} {n : Int} (h : Fit t) : Fit (t.map (shiftC n)) := fun c hc => by
  obtain ⟨c', hc', rfl⟩ := List.mem_map.1 hc
  have := h c' hc'
  unfold shiftC; split <;> exact this

end Go.Proofs.Ytmelmlkogaageaa
