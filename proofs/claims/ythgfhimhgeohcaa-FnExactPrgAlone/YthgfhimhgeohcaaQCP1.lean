/- Copies that are owned: places, goals, the places of a program. -/
import Derived.Test.YthgfhimhgeohcaaQMH5MH6
namespace Go.Proofs.Ythgfhimhgeohcaa
open Go.RowKit Go.Shelf
set_option linter.unusedVariables false
set_option linter.unusedSimpArgs false

theorem segC_at {w : World} {base g cap lo hi : Nat} {t : List C} (h : w.ownsRow base 94 3 (.slice (some ⟨g, 0, none⟩) t.length cap) t.length (flat t)) (h1 : lo ≤ g) (h2 : g < hi) : SegC lo hi w (.slice (some ⟨g, 0, none⟩) t.length cap) t :=
  ⟨own_lo h (fun k e => by rw [← own_one e]; exact h1), fun k e => by rw [← own_one e]; exact h2⟩
theorem toSlC_anyS (v : Value) (t : List C) (w : World) (hs : t.length ≤ 1048576) (hv : SlC w v t) :
    Calls Try.prog 17 #[v] w fun e w' => ∃ g, e = .returned (.slice (some ⟨g, 0, none⟩) t.length t.length) ∧ SegC w.heap.size w'.heap.size w' (.slice (some ⟨g, 0, none⟩) t.length t.length) t ∧ Below w.heap.size w w' := by
  obtain ⟨ao, cap, rfl, h1, h2, hA⟩ := hv
  refine (toTrmCellS_any ao cap t w hs hA).mono ?_
  rintro e w' ⟨rfl, ho, hb⟩
  exact ⟨_, rfl, segC_at ho (Nat.le_refl _) (ho.lt _ rfl).2, hb⟩

theorem seg_same (xs : List Value) (i sz q : Nat) (u : Value) : ((xs.set (i * sz + q) u).drop (i * sz)).take sz = ((xs.drop (i * sz)).take sz).set q u := by
  rw [List.drop_set, if_neg (by omega), Nat.add_sub_cancel_left, List.take_set]
theorem seg_other (xs : List Value) {i j sz q : Nat} (u : Value) (hne : i ≠ j) (hq : q < sz) : ((xs.set (j * sz + q) u).drop (i * sz)).take sz = (xs.drop (i * sz)).take sz := by
  rcases Nat.lt_or_gt_of_ne hne with h | h
  · have h3 : i * sz + sz ≤ j * sz := by rw [← Nat.succ_mul]; exact Nat.mul_le_mul_right _ h
    rw [List.drop_set, if_neg (by omega), List.take_set_of_le (by omega)]
  · have h3 : j * sz + sz ≤ i * sz := by rw [← Nat.succ_mul]; exact Nat.mul_le_mul_right _ h
    rw [List.drop_set, if_pos (by omega)]

/-- How far a list's copying has come: its block first, then its elements' regions one behind the other. -/
def ToL (w : World) (T sz n : Nat) (E : Nat → Nat → Nat → World → List Value → Prop) (k : Nat) (wr : World) : Prop := ∃ (xs : List Value) (L R : Nat → Nat), wr.ownsRow w.heap.size T sz (.slice (some ⟨w.heap.size, 0, none⟩) n n) n xs ∧
  (∀ i, i < k → w.heap.size + 1 ≤ L i ∧ L i ≤ R i ∧ R i ≤ wr.heap.size ∧ (∀ j, j < i → R j ≤ L i) ∧ E i (L i) (R i) wr ((xs.drop (i * sz)).take sz)) ∧ Below w.heap.size w wr
theorem ToL.round {w wr w1 W : World} {T sz n k : Nat} {E : Nat → Nat → Nat → World → List Value → Prop} (hE : Keeps E) {xs xs' us : List Value} {L R : Nat → Nat}
    (h2 : ∀ i, i < k → w.heap.size + 1 ≤ L i ∧ L i ≤ R i ∧ R i ≤ wr.heap.size ∧ (∀ j, j < i → R j ≤ L i) ∧ E i (L i) (R i) wr ((xs.drop (i * sz)).take sz)) (hsz : w.heap.size < wr.heap.size) (hb1 : Below wr.heap.size wr w1) (hu : E k wr.heap.size w1.heap.size w1 us)
    (ho : W.ownsRow w.heap.size T sz (.slice (some ⟨w.heap.size, 0, none⟩) n n) n xs') (hW : ∀ b, b ≠ w.heap.size → W.heap[b]? = w1.heap[b]?) (hWs : W.heap.size = w1.heap.size) (hB : Below w.heap.size w W)
    (hs1 : (xs'.drop (k * sz)).take sz = us) (hs2 : ∀ i, i ≠ k → (xs'.drop (i * sz)).take sz = (xs.drop (i * sz)).take sz) : ToL w T sz n E (k + 1) W := by
  have hs := hb1.size
  refine ⟨xs', fun i => if i < k then L i else wr.heap.size, fun i => if i < k then R i else w1.heap.size, ho, fun i hi => ?_, hB⟩
  by_cases e : i < k
  · obtain ⟨a1, a2, a3, a4, a5⟩ := h2 i e
    simp only [if_pos e]
    refine ⟨a1, a2, by omega, fun j hj => ?_, ?_⟩
    · rw [if_pos (by omega)]; exact a4 j hj
    · rw [hs2 i (by omega)]
      exact hE _ _ _ _ _ _ a5 (fun b b1 b2 => (hW b (by omega)).trans (hb1.block b (by omega)))
  · obtain rfl : i = k := by omega
    simp only [if_neg (Nat.lt_irrefl i)]
    refine ⟨by omega, hs, by omega, fun j hj => ?_, ?_⟩
    · rw [if_pos hj]; exact (h2 j hj).2.2.1
    · rw [hs1]
      exact hE _ _ _ _ _ _ hu (fun b b1 b2 => hW b (by omega))
theorem ToL.done {w wr : World} {T sz n : Nat} {E : Nat → Nat → Nat → World → List Value → Prop} (h : ToL w T sz n E n wr) : SegL w.heap.size wr.heap.size wr T sz (.slice (some ⟨w.heap.size, 0, none⟩) n n) n E ∧ Below w.heap.size w wr := by
  obtain ⟨xs, L, R, h1, h2, h3⟩ := h
  refine ⟨⟨xs, L, R, h1, fun b e => (h1.lt b e).2, fun i hi => ?_⟩, h3⟩
  obtain ⟨a1, a2, a3, a4, a5⟩ := h2 i hi
  exact ⟨by omega, a2, a3, a4, fun g e => by rw [← own_one e]; left; omega, a5⟩
theorem ToL.round4 {w wr w1 : World} {T n k : Nat} {E : Nat → Nat → Nat → World → List Value → Prop} (hE : Keeps E) {u0 u1 u2 u3 : Value} (hk : k < n) (hT : ToL w T 4 n E k wr) (hb1 : Below wr.heap.size wr w1) (hu : E k wr.heap.size w1.heap.size w1 [u0, u1, u2, u3]) :
    (∃ a0 a1 a2 a3, w1.cell? ⟨w.heap.size, k * 4, none⟩ = some a0 ∧ w1.cell? ⟨w.heap.size, k * 4 + 1, none⟩ = some a1 ∧ w1.cell? ⟨w.heap.size, k * 4 + 2, none⟩ = some a2 ∧ w1.cell? ⟨w.heap.size, k * 4 + 3, none⟩ = some a3) ∧ (w1.frozen? ⟨w.heap.size, k * 4, none⟩ = false ∧ w1.frozen? ⟨w.heap.size, k * 4 + 1, none⟩ = false ∧ w1.frozen? ⟨w.heap.size, k * 4 + 2, none⟩ = false ∧ w1.frozen? ⟨w.heap.size, k * 4 + 3, none⟩ = false) ∧
    ToL w T 4 n E (k + 1) ((((w1.setCell ⟨w.heap.size, k * 4, none⟩ u0).setCell ⟨w.heap.size, k * 4 + 1, none⟩ u1).setCell ⟨w.heap.size, k * 4 + 2, none⟩ u2).setCell ⟨w.heap.size, k * 4 + 3, none⟩ u3) := by
  obtain ⟨xs, L, R, h1, h2, h3⟩ := hT
  have hl : xs.length = n * 4 := h1.1
  have hsz : w.heap.size < wr.heap.size := (h1.lt _ rfl).2
  have o1 := own_below h1 hb1
  have h3b := h3.trans (hb1.mono (Nat.le_of_lt hsz))
  have s0 := (o1).stored (k * 4 + 0) u0
  have s1 := (s0.1).stored (k * 4 + 1) u1
  have s2 := (s1.1).stored (k * 4 + 2) u2
  have s3 := (s2.1).stored (k * 4 + 3) u3
  refine ⟨⟨_, _, _, _, (o1.cellAt (k * 4) (by omega)).trans (List.getElem?_eq_getElem (by omega)), (o1.cellAt (k * 4 + 1) (by omega)).trans (List.getElem?_eq_getElem (by omega)), (o1.cellAt (k * 4 + 2) (by omega)).trans (List.getElem?_eq_getElem (by omega)), (o1.cellAt (k * 4 + 3) (by omega)).trans (List.getElem?_eq_getElem (by omega))⟩, ⟨o1.frozenAt _, o1.frozenAt _, o1.frozenAt _, o1.frozenAt _⟩, ?_⟩
  refine ToL.round hE (xs := xs) h2 hsz hb1 hu s3.1 (fun b hb => ?_) (by simp [World.setCell]) ((((h3b.setCell (p := ⟨w.heap.size, k * 4, none⟩) (Nat.le_refl _) u0).setCell (p := ⟨w.heap.size, k * 4 + 1, none⟩) (Nat.le_refl _) u1).setCell (p := ⟨w.heap.size, k * 4 + 2, none⟩) (Nat.le_refl _) u2).setCell (p := ⟨w.heap.size, k * 4 + 3, none⟩) (Nat.le_refl _) u3) ?_ (fun i hi => ?_)
  · rw [Below.heap_setCell _ _ _ _ hb, Below.heap_setCell _ _ _ _ hb, Below.heap_setCell _ _ _ _ hb, Below.heap_setCell _ _ _ _ hb]
  · rw [seg_same, seg_same, seg_same, seg_same]
    have hsl : ((xs.drop (k * 4)).take 4).length = 4 := by rw [List.length_take, List.length_drop]; omega
    match (xs.drop (k * 4)).take 4, hsl with
    | [a, b, c, d], _ => rfl
  · rw [seg_other _ _ hi (by omega), seg_other _ _ hi (by omega), seg_other _ _ hi (by omega), seg_other _ _ hi (by omega)]
theorem ToL.round2 {w wr w1 : World} {T n k : Nat} {E : Nat → Nat → Nat → World → List Value → Prop} (hE : Keeps E) {u0 u1 : Value} (hk : k < n) (hT : ToL w T 2 n E k wr) (hb1 : Below wr.heap.size wr w1) (hu : E k wr.heap.size w1.heap.size w1 [u0, u1]) :
    (∃ a0 a1, w1.cell? ⟨w.heap.size, k * 2, none⟩ = some a0 ∧ w1.cell? ⟨w.heap.size, k * 2 + 1, none⟩ = some a1) ∧ (w1.frozen? ⟨w.heap.size, k * 2, none⟩ = false ∧ w1.frozen? ⟨w.heap.size, k * 2 + 1, none⟩ = false) ∧
    ToL w T 2 n E (k + 1) ((w1.setCell ⟨w.heap.size, k * 2, none⟩ u0).setCell ⟨w.heap.size, k * 2 + 1, none⟩ u1) := by
  obtain ⟨xs, L, R, h1, h2, h3⟩ := hT
  have hl : xs.length = n * 2 := h1.1
  have hsz : w.heap.size < wr.heap.size := (h1.lt _ rfl).2
  have o1 := own_below h1 hb1
  have h3b := h3.trans (hb1.mono (Nat.le_of_lt hsz))
  have s0 := (o1).stored (k * 2 + 0) u0
  have s1 := (s0.1).stored (k * 2 + 1) u1
  refine ⟨⟨_, _, (o1.cellAt (k * 2) (by omega)).trans (List.getElem?_eq_getElem (by omega)), (o1.cellAt (k * 2 + 1) (by omega)).trans (List.getElem?_eq_getElem (by omega))⟩, ⟨o1.frozenAt _, o1.frozenAt _⟩, ?_⟩
  refine ToL.round hE (xs := xs) h2 hsz hb1 hu s1.1 (fun b hb => ?_) (by simp [World.setCell]) ((h3b.setCell (p := ⟨w.heap.size, k * 2, none⟩) (Nat.le_refl _) u0).setCell (p := ⟨w.heap.size, k * 2 + 1, none⟩) (Nat.le_refl _) u1) ?_ (fun i hi => ?_)
  · rw [Below.heap_setCell _ _ _ _ hb, Below.heap_setCell _ _ _ _ hb]
  · rw [seg_same, seg_same]
    have hsl : ((xs.drop (k * 2)).take 2).length = 2 := by rw [List.length_take, List.length_drop]; omega
    match (xs.drop (k * 2)).take 2, hsl with
    | [a, b], _ => rfl
  · rw [seg_other _ _ hi (by omega), seg_other _ _ hi (by omega)]
theorem toP_endS {w wr : World} {s : List Pc} (hT : ToP w s s.length wr) : SegP w.heap.size wr.heap.size wr (.slice (some ⟨w.heap.size, 0, none⟩) s.length s.length) s ∧ Below w.heap.size w wr := by
  obtain ⟨xs, h1, h2, h3⟩ := hT
  have hl : xs.length = s.length * 3 := h1.1
  have hx : xs = flatPc s := by
    refine List.ext_getElem? (fun m => ?_)
    by_cases hm : m < s.length * 3
    · have hi : m / 3 < s.length := by omega
      obtain ⟨v0, v1, v2, ⟨q0, q1, q2⟩, hs⟩ := h2 (m / 3) hi hi
      obtain ⟨e0, e1, e2⟩ := hs.here
      obtain ⟨p0, p1, p2⟩ := flatPc_get s (m / 3) hi
      have hr : m % 3 = 0 ∨ m % 3 = 1 ∨ m % 3 = 2 := by omega
      rcases hr with h | h | h
      · rw [show m = m / 3 * 3 by omega, q0, p0, e0]
      · rw [show m = m / 3 * 3 + 1 by omega, q1, p1, e1]
      · rw [show m = m / 3 * 3 + 2 by omega, q2, p2, e2]
    · rw [List.getElem?_eq_none (by omega), List.getElem?_eq_none (by rw [flatPc_length]; omega)]
  subst hx
  exact ⟨⟨h1, fun b e => (h1.lt b e).2⟩, h3⟩

set_option maxRecDepth 100000 in
set_option maxHeartbeats 1000000 in
theorem toPrgGoal_ownS (v : Int) (xa ya za : Option Addr) (xc yc zc : Nat) (a b c : List C) (w : World) (h : Trip w xa ya za a b c) :
    Calls Try.prog 148 #[.agg #[.int .i64 v, .slice xa a.length xc, .slice ya b.length yc, .slice za c.length zc]] w fun e w' => ∃ g1 g2 g3, e = .returned (.agg #[.int .i64 v, .slice (some ⟨g1, 0, none⟩) a.length a.length, .slice (some ⟨g2, 0, none⟩) b.length b.length, .slice (some ⟨g3, 0, none⟩) c.length c.length]) ∧ (w'.ownsRow w.heap.size 94 3 (.slice (some ⟨g1, 0, none⟩) a.length a.length) a.length (flat a) ∧ w'.ownsRow w.heap.size 94 3 (.slice (some ⟨g2, 0, none⟩) b.length b.length) b.length (flat b) ∧ w'.ownsRow w.heap.size 94 3 (.slice (some ⟨g3, 0, none⟩) c.length c.length) c.length (flat c)) ∧ Below w.heap.size w w' ∧ (w.heap.size ≤ g1 ∧ g1 < g2 ∧ g2 < g3 ∧ g3 < w'.heap.size) := by
  go_enter Try.func148, Try.ntmps148
  go_wp2_with fail
  obtain ⟨W, hW⟩ : ∃ W, W = ((w.alloc (Obj.cells #[Value.int IntKind.i64 v, .slice xa a.length xc, .slice ya b.length yc, .slice za c.length zc] 171)).alloc (Obj.cells #[Value.int IntKind.i64 0, Value.slice none 0 0, Value.slice none 0 0, Value.slice none 0 0] 89)).alloc (Obj.cells #[Value.int IntKind.i64 v, Value.slice none 0 0, Value.slice none 0 0, Value.slice none 0 0] 89) := ⟨_, rfl⟩
  have hB0 : Below w.heap.size w W := by rw [hW]; exact below3 _ _ _ _
  have hsz : W.heap.size = w.heap.size + 3 := by rw [hW]; simp
  have A2 : W.cell? ⟨w.heap.size, 2, none⟩ = some (.slice ya b.length yc) := by rw [hW]; simp [go_sem]
  have A3 : W.cell? ⟨w.heap.size, 3, none⟩ = some (.slice za c.length zc) := by rw [hW]; simp [go_sem]
  have c0 : W.cell? ⟨w.heap.size + 1 + 1, 0, none⟩ = some (.int .i64 v) := by rw [hW]; simp [go_sem]
  have z0 : W.cell? ⟨w.heap.size + 1, 0, none⟩ = some (.int .i64 0) := by rw [hW]; simp [go_sem]
  have f0 : W.frozen? ⟨w.heap.size + 1 + 1, 0, none⟩ = false := by rw [hW]; simp [go_sem]
  have y0 : W.frozen? ⟨w.heap.size + 1, 0, none⟩ = false := by rw [hW]; simp [go_sem]
  have c1 : W.cell? ⟨w.heap.size + 1 + 1, 1, none⟩ = some (.slice none 0 0) := by rw [hW]; simp [go_sem]
  have z1 : W.cell? ⟨w.heap.size + 1, 1, none⟩ = some (.slice none 0 0) := by rw [hW]; simp [go_sem]
  have f1 : W.frozen? ⟨w.heap.size + 1 + 1, 1, none⟩ = false := by rw [hW]; simp [go_sem]
  have y1 : W.frozen? ⟨w.heap.size + 1, 1, none⟩ = false := by rw [hW]; simp [go_sem]
  have c2 : W.cell? ⟨w.heap.size + 1 + 1, 2, none⟩ = some (.slice none 0 0) := by rw [hW]; simp [go_sem]
  have z2 : W.cell? ⟨w.heap.size + 1, 2, none⟩ = some (.slice none 0 0) := by rw [hW]; simp [go_sem]
  have f2 : W.frozen? ⟨w.heap.size + 1 + 1, 2, none⟩ = false := by rw [hW]; simp [go_sem]
  have y2 : W.frozen? ⟨w.heap.size + 1, 2, none⟩ = false := by rw [hW]; simp [go_sem]
  have c3 : W.cell? ⟨w.heap.size + 1 + 1, 3, none⟩ = some (.slice none 0 0) := by rw [hW]; simp [go_sem]
  have z3 : W.cell? ⟨w.heap.size + 1, 3, none⟩ = some (.slice none 0 0) := by rw [hW]; simp [go_sem]
  have f3 : W.frozen? ⟨w.heap.size + 1 + 1, 3, none⟩ = false := by rw [hW]; simp [go_sem]
  have y3 : W.frozen? ⟨w.heap.size + 1, 3, none⟩ = false := by rw [hW]; simp [go_sem]
  rw [← hW]
  clear hW
  have q2 : w.heap.size + 1 + 1 < W.heap.size := by omega
  clear hsz
  refine (toTrmCellS_any xa xc a W h.la ((h.below hB0).ra)).mono ?_
  rintro e w1 ⟨rfl, ho1, hb1⟩
  have hg1 : W.heap.size < w1.heap.size := (ho1.lt _ rfl).2
  have q0 : w.heap.size < W.heap.size := by omega
  have q1 : w.heap.size + 1 < W.heap.size := by omega
  replace A2 := (hb1.cell (p := ⟨w.heap.size, 2, none⟩) q0).trans A2
  replace A3 := (hb1.cell (p := ⟨w.heap.size, 3, none⟩) q0).trans A3
  replace c0 := (hb1.cell (p := ⟨w.heap.size + 1 + 1, 0, none⟩) q2).trans c0
  replace z0 := (hb1.cell (p := ⟨w.heap.size + 1, 0, none⟩) q1).trans z0
  replace f0 := (hb1.frozen (p := ⟨w.heap.size + 1 + 1, 0, none⟩) q2).trans f0
  replace y0 := (hb1.frozen (p := ⟨w.heap.size + 1, 0, none⟩) q1).trans y0
  replace c1 := (hb1.cell (p := ⟨w.heap.size + 1 + 1, 1, none⟩) q2).trans c1
  replace z1 := (hb1.cell (p := ⟨w.heap.size + 1, 1, none⟩) q1).trans z1
  replace f1 := (hb1.frozen (p := ⟨w.heap.size + 1 + 1, 1, none⟩) q2).trans f1
  replace y1 := (hb1.frozen (p := ⟨w.heap.size + 1, 1, none⟩) q1).trans y1
  replace c2 := (hb1.cell (p := ⟨w.heap.size + 1 + 1, 2, none⟩) q2).trans c2
  replace z2 := (hb1.cell (p := ⟨w.heap.size + 1, 2, none⟩) q1).trans z2
  replace f2 := (hb1.frozen (p := ⟨w.heap.size + 1 + 1, 2, none⟩) q2).trans f2
  replace y2 := (hb1.frozen (p := ⟨w.heap.size + 1, 2, none⟩) q1).trans y2
  replace c3 := (hb1.cell (p := ⟨w.heap.size + 1 + 1, 3, none⟩) q2).trans c3
  replace z3 := (hb1.cell (p := ⟨w.heap.size + 1, 3, none⟩) q1).trans z3
  replace f3 := (hb1.frozen (p := ⟨w.heap.size + 1 + 1, 3, none⟩) q2).trans f3
  replace y3 := (hb1.frozen (p := ⟨w.heap.size + 1, 3, none⟩) q1).trans y3
  have hB1 := bstep hB0 hb1
  have hw1 : w.heap.size + 1 + 1 < w1.heap.size := by omega
  obtain ⟨g1, hg⟩ : ∃ g, g = W.heap.size := ⟨_, rfl⟩
  rw [← hg] at ho1 hg1 ⊢
  have hs1 : g1 < w1.heap.size := hg1
  have ho_1 : w.heap.size + 1 + 1 < g1 := by omega
  clear q0 q1 q2 hg1 hb1
  clear hg
  go_wp2_with fail
  obtain ⟨V1, hV⟩ : ∃ V, V = w1.setCell ⟨w.heap.size + 1 + 1, 1, none⟩ (.slice (some ⟨g1, 0, none⟩) a.length a.length) := ⟨_, rfl⟩
  rw [← hV]
  have hsz : V1.heap.size = w1.heap.size := by rw [hV]; simp
  replace A2 : V1.cell? ⟨w.heap.size, 2, none⟩ = some (.slice ya b.length yc) := by rw [hV]; simp [go_sem, A2]
  replace A3 : V1.cell? ⟨w.heap.size, 3, none⟩ = some (.slice za c.length zc) := by rw [hV]; simp [go_sem, A3]
  replace c0 : V1.cell? ⟨w.heap.size + 1 + 1, 0, none⟩ = some (.int .i64 v) := by rw [hV]; simp [go_sem, c0]
  replace z0 : V1.cell? ⟨w.heap.size + 1, 0, none⟩ = some (.int .i64 0) := by rw [hV]; simp [go_sem, z0]
  replace f0 : V1.frozen? ⟨w.heap.size + 1 + 1, 0, none⟩ = false := by rw [hV]; simp [go_sem, f0]
  replace y0 : V1.frozen? ⟨w.heap.size + 1, 0, none⟩ = false := by rw [hV]; simp [go_sem, y0]
  replace c1 : V1.cell? ⟨w.heap.size + 1 + 1, 1, none⟩ = some (.slice (some ⟨g1, 0, none⟩) a.length a.length) := by rw [hV]; simp [go_sem, c1, f1]
  replace z1 : V1.cell? ⟨w.heap.size + 1, 1, none⟩ = some (.slice none 0 0) := by rw [hV]; simp [go_sem, z1]
  replace f1 : V1.frozen? ⟨w.heap.size + 1 + 1, 1, none⟩ = false := by rw [hV]; simp [go_sem, f1]
  replace y1 : V1.frozen? ⟨w.heap.size + 1, 1, none⟩ = false := by rw [hV]; simp [go_sem, y1]
  replace c2 : V1.cell? ⟨w.heap.size + 1 + 1, 2, none⟩ = some (.slice none 0 0) := by rw [hV]; simp [go_sem, c2]
  replace z2 : V1.cell? ⟨w.heap.size + 1, 2, none⟩ = some (.slice none 0 0) := by rw [hV]; simp [go_sem, z2]
  replace f2 : V1.frozen? ⟨w.heap.size + 1 + 1, 2, none⟩ = false := by rw [hV]; simp [go_sem, f2]
  replace y2 : V1.frozen? ⟨w.heap.size + 1, 2, none⟩ = false := by rw [hV]; simp [go_sem, y2]
  replace c3 : V1.cell? ⟨w.heap.size + 1 + 1, 3, none⟩ = some (.slice none 0 0) := by rw [hV]; simp [go_sem, c3]
  replace z3 : V1.cell? ⟨w.heap.size + 1, 3, none⟩ = some (.slice none 0 0) := by rw [hV]; simp [go_sem, z3]
  replace f3 : V1.frozen? ⟨w.heap.size + 1 + 1, 3, none⟩ = false := by rw [hV]; simp [go_sem, f3]
  replace y3 : V1.frozen? ⟨w.heap.size + 1, 3, none⟩ = false := by rw [hV]; simp [go_sem, y3]
  replace hB1 : Below w.heap.size w V1 := by rw [hV]; exact hB1.setCell (p := ⟨w.heap.size + 1 + 1, 1, none⟩) (by simp; omega) _
  replace ho1 := own_block (w' := V1) ho1 (fun k e => by
    have e' : g1 = k := by simpa [Value.ownBlock] using e
    rw [hV, Below.heap_setCell _ _ _ _ (by simp; omega)])
  replace hs1 : g1 < V1.heap.size := by omega
  have q2 : w.heap.size + 1 + 1 < V1.heap.size := by omega
  clear hV hsz hw1
  refine (toTrmCellS_any ya yc b V1 h.lb ((h.below hB1).rb)).mono ?_
  rintro e w2 ⟨rfl, ho2, hb2⟩
  have hg2 : V1.heap.size < w2.heap.size := (ho2.lt _ rfl).2
  have q0 : w.heap.size < V1.heap.size := by omega
  have q1 : w.heap.size + 1 < V1.heap.size := by omega
  replace A3 := (hb2.cell (p := ⟨w.heap.size, 3, none⟩) q0).trans A3
  replace c0 := (hb2.cell (p := ⟨w.heap.size + 1 + 1, 0, none⟩) q2).trans c0
  replace z0 := (hb2.cell (p := ⟨w.heap.size + 1, 0, none⟩) q1).trans z0
  replace f0 := (hb2.frozen (p := ⟨w.heap.size + 1 + 1, 0, none⟩) q2).trans f0
  replace y0 := (hb2.frozen (p := ⟨w.heap.size + 1, 0, none⟩) q1).trans y0
  replace c1 := (hb2.cell (p := ⟨w.heap.size + 1 + 1, 1, none⟩) q2).trans c1
  replace z1 := (hb2.cell (p := ⟨w.heap.size + 1, 1, none⟩) q1).trans z1
  replace f1 := (hb2.frozen (p := ⟨w.heap.size + 1 + 1, 1, none⟩) q2).trans f1
  replace y1 := (hb2.frozen (p := ⟨w.heap.size + 1, 1, none⟩) q1).trans y1
  replace c2 := (hb2.cell (p := ⟨w.heap.size + 1 + 1, 2, none⟩) q2).trans c2
  replace z2 := (hb2.cell (p := ⟨w.heap.size + 1, 2, none⟩) q1).trans z2
  replace f2 := (hb2.frozen (p := ⟨w.heap.size + 1 + 1, 2, none⟩) q2).trans f2
  replace y2 := (hb2.frozen (p := ⟨w.heap.size + 1, 2, none⟩) q1).trans y2
  replace c3 := (hb2.cell (p := ⟨w.heap.size + 1 + 1, 3, none⟩) q2).trans c3
  replace z3 := (hb2.cell (p := ⟨w.heap.size + 1, 3, none⟩) q1).trans z3
  replace f3 := (hb2.frozen (p := ⟨w.heap.size + 1 + 1, 3, none⟩) q2).trans f3
  replace y3 := (hb2.frozen (p := ⟨w.heap.size + 1, 3, none⟩) q1).trans y3
  replace ho1 := own_below ho1 hb2
  have h12 : g1 < V1.heap.size := hs1
  replace hs1 : g1 < w2.heap.size := by omega
  have hB2 := bstep hB1 hb2
  have hw2 : w.heap.size + 1 + 1 < w2.heap.size := by omega
  obtain ⟨g2, hg⟩ : ∃ g, g = V1.heap.size := ⟨_, rfl⟩
  rw [← hg] at ho2 hg2 h12 ⊢
  have hs2 : g2 < w2.heap.size := hg2
  have ho_2 : w.heap.size + 1 + 1 < g2 := by omega
  clear q0 q1 q2 hg2 hb2
  clear hg
  go_wp2_with fail
  obtain ⟨V2, hV⟩ : ∃ V, V = w2.setCell ⟨w.heap.size + 1 + 1, 2, none⟩ (.slice (some ⟨g2, 0, none⟩) b.length b.length) := ⟨_, rfl⟩
  rw [← hV]
  have hsz : V2.heap.size = w2.heap.size := by rw [hV]; simp
  replace A3 : V2.cell? ⟨w.heap.size, 3, none⟩ = some (.slice za c.length zc) := by rw [hV]; simp [go_sem, A3]
  replace c0 : V2.cell? ⟨w.heap.size + 1 + 1, 0, none⟩ = some (.int .i64 v) := by rw [hV]; simp [go_sem, c0]
  replace z0 : V2.cell? ⟨w.heap.size + 1, 0, none⟩ = some (.int .i64 0) := by rw [hV]; simp [go_sem, z0]
  replace f0 : V2.frozen? ⟨w.heap.size + 1 + 1, 0, none⟩ = false := by rw [hV]; simp [go_sem, f0]
  replace y0 : V2.frozen? ⟨w.heap.size + 1, 0, none⟩ = false := by rw [hV]; simp [go_sem, y0]
  replace c1 : V2.cell? ⟨w.heap.size + 1 + 1, 1, none⟩ = some (.slice (some ⟨g1, 0, none⟩) a.length a.length) := by rw [hV]; simp [go_sem, c1]
  replace z1 : V2.cell? ⟨w.heap.size + 1, 1, none⟩ = some (.slice none 0 0) := by rw [hV]; simp [go_sem, z1]
  replace f1 : V2.frozen? ⟨w.heap.size + 1 + 1, 1, none⟩ = false := by rw [hV]; simp [go_sem, f1]
  replace y1 : V2.frozen? ⟨w.heap.size + 1, 1, none⟩ = false := by rw [hV]; simp [go_sem, y1]
  replace c2 : V2.cell? ⟨w.heap.size + 1 + 1, 2, none⟩ = some (.slice (some ⟨g2, 0, none⟩) b.length b.length) := by rw [hV]; simp [go_sem, c2, f2]
  replace z2 : V2.cell? ⟨w.heap.size + 1, 2, none⟩ = some (.slice none 0 0) := by rw [hV]; simp [go_sem, z2]
  replace f2 : V2.frozen? ⟨w.heap.size + 1 + 1, 2, none⟩ = false := by rw [hV]; simp [go_sem, f2]
  replace y2 : V2.frozen? ⟨w.heap.size + 1, 2, none⟩ = false := by rw [hV]; simp [go_sem, y2]
  replace c3 : V2.cell? ⟨w.heap.size + 1 + 1, 3, none⟩ = some (.slice none 0 0) := by rw [hV]; simp [go_sem, c3]
  replace z3 : V2.cell? ⟨w.heap.size + 1, 3, none⟩ = some (.slice none 0 0) := by rw [hV]; simp [go_sem, z3]
  replace f3 : V2.frozen? ⟨w.heap.size + 1 + 1, 3, none⟩ = false := by rw [hV]; simp [go_sem, f3]
  replace y3 : V2.frozen? ⟨w.heap.size + 1, 3, none⟩ = false := by rw [hV]; simp [go_sem, y3]
  replace hB2 : Below w.heap.size w V2 := by rw [hV]; exact hB2.setCell (p := ⟨w.heap.size + 1 + 1, 2, none⟩) (by simp; omega) _
  replace ho1 := own_block (w' := V2) ho1 (fun k e => by
    have e' : g1 = k := by simpa [Value.ownBlock] using e
    rw [hV, Below.heap_setCell _ _ _ _ (by simp; omega)])
  replace hs1 : g1 < V2.heap.size := by omega
  replace ho2 := own_block (w' := V2) ho2 (fun k e => by
    have e' : g2 = k := by simpa [Value.ownBlock] using e
    rw [hV, Below.heap_setCell _ _ _ _ (by simp; omega)])
  replace hs2 : g2 < V2.heap.size := by omega
  have q2 : w.heap.size + 1 + 1 < V2.heap.size := by omega
  clear hV hsz hw2
  refine (toTrmCellS_any za zc c V2 h.lc ((h.below hB2).rc)).mono ?_
  rintro e w3 ⟨rfl, ho3, hb3⟩
  have hg3 : V2.heap.size < w3.heap.size := (ho3.lt _ rfl).2
  have q0 : w.heap.size < V2.heap.size := by omega
  have q1 : w.heap.size + 1 < V2.heap.size := by omega
  replace c0 := (hb3.cell (p := ⟨w.heap.size + 1 + 1, 0, none⟩) q2).trans c0
  replace z0 := (hb3.cell (p := ⟨w.heap.size + 1, 0, none⟩) q1).trans z0
  replace f0 := (hb3.frozen (p := ⟨w.heap.size + 1 + 1, 0, none⟩) q2).trans f0
  replace y0 := (hb3.frozen (p := ⟨w.heap.size + 1, 0, none⟩) q1).trans y0
  replace c1 := (hb3.cell (p := ⟨w.heap.size + 1 + 1, 1, none⟩) q2).trans c1
  replace z1 := (hb3.cell (p := ⟨w.heap.size + 1, 1, none⟩) q1).trans z1
  replace f1 := (hb3.frozen (p := ⟨w.heap.size + 1 + 1, 1, none⟩) q2).trans f1
  replace y1 := (hb3.frozen (p := ⟨w.heap.size + 1, 1, none⟩) q1).trans y1
  replace c2 := (hb3.cell (p := ⟨w.heap.size + 1 + 1, 2, none⟩) q2).trans c2
  replace z2 := (hb3.cell (p := ⟨w.heap.size + 1, 2, none⟩) q1).trans z2
  replace f2 := (hb3.frozen (p := ⟨w.heap.size + 1 + 1, 2, none⟩) q2).trans f2
  replace y2 := (hb3.frozen (p := ⟨w.heap.size + 1, 2, none⟩) q1).trans y2
  replace c3 := (hb3.cell (p := ⟨w.heap.size + 1 + 1, 3, none⟩) q2).trans c3
  replace z3 := (hb3.cell (p := ⟨w.heap.size + 1, 3, none⟩) q1).trans z3
  replace f3 := (hb3.frozen (p := ⟨w.heap.size + 1 + 1, 3, none⟩) q2).trans f3
  replace y3 := (hb3.frozen (p := ⟨w.heap.size + 1, 3, none⟩) q1).trans y3
  replace ho1 := own_below ho1 hb3
  have h23 : g2 < V2.heap.size := hs2
  replace hs1 : g1 < w3.heap.size := by omega
  replace ho2 := own_below ho2 hb3
  replace hs2 : g2 < w3.heap.size := by omega
  have hB3 := bstep hB2 hb3
  have hw3 : w.heap.size + 1 + 1 < w3.heap.size := by omega
  obtain ⟨g3, hg⟩ : ∃ g, g = V2.heap.size := ⟨_, rfl⟩
  rw [← hg] at ho3 hg3 h23 ⊢
  have hs3 : g3 < w3.heap.size := hg3
  have ho_3 : w.heap.size + 1 + 1 < g3 := by omega
  clear q0 q1 q2 hg3 hb3
  clear hg
  go_wp2
  refine bodyPost_ret (v := .agg #[.int .i64 v, .slice (some ⟨g1, 0, none⟩) a.length a.length, .slice (some ⟨g2, 0, none⟩) b.length b.length, .slice (some ⟨g3, 0, none⟩) c.length c.length]) (by simp [results, Try.results148, go_sem, *]) rfl ⟨g1, g2, g3, rfl, ?_, ?_, by omega, h12, h23, by simp; omega⟩
  · exact ⟨own_lo (own_block ho1 (fun k e => by
      have e' : g1 = k := by simpa [Value.ownBlock] using e
      rw [Below.heap_setCell _ _ _ _ (by simp; omega), Below.heap_setCell _ _ _ _ (by simp; omega), Below.heap_setCell _ _ _ _ (by simp; omega), Below.heap_setCell _ _ _ _ (by simp; omega), Below.heap_setCell _ _ _ _ (by simp; omega)])) (fun k e => by
      have e' : g1 = k := by simpa [Value.ownBlock] using e
      omega),
      own_lo (own_block ho2 (fun k e => by
      have e' : g2 = k := by simpa [Value.ownBlock] using e
      rw [Below.heap_setCell _ _ _ _ (by simp; omega), Below.heap_setCell _ _ _ _ (by simp; omega), Below.heap_setCell _ _ _ _ (by simp; omega), Below.heap_setCell _ _ _ _ (by simp; omega), Below.heap_setCell _ _ _ _ (by simp; omega)])) (fun k e => by
      have e' : g2 = k := by simpa [Value.ownBlock] using e
      omega),
      own_lo (own_block ho3 (fun k e => by
      have e' : g3 = k := by simpa [Value.ownBlock] using e
      rw [Below.heap_setCell _ _ _ _ (by simp; omega), Below.heap_setCell _ _ _ _ (by simp; omega), Below.heap_setCell _ _ _ _ (by simp; omega), Below.heap_setCell _ _ _ _ (by simp; omega), Below.heap_setCell _ _ _ _ (by simp; omega)])) (fun k e => by
      have e' : g3 = k := by simpa [Value.ownBlock] using e
      omega)⟩
  · exact ((((hB3.setCell (p := ⟨w.heap.size + 1 + 1, 3, none⟩) (by simp; omega) _).setCell (p := ⟨w.heap.size + 1, 0, none⟩) (by simp) _).setCell (p := ⟨w.heap.size + 1, 1, none⟩) (by simp) _).setCell (p := ⟨w.heap.size + 1, 2, none⟩) (by simp) _).setCell (p := ⟨w.heap.size + 1, 3, none⟩) (by simp) _

theorem toGl_anyS (x : Gl) (v0 v1 v2 v3 : Value) (w : World) (hF : FitGl x) (hs : szGl x ≤ 1048576) (hv : GlV w x v0 v1 v2 v3) :
    Calls Try.prog 148 #[.agg #[v0, v1, v2, v3]] w fun e w' => ∃ u0 u1 u2 u3, e = .returned (.agg #[u0, u1, u2, u3]) ∧ SegG w.heap.size w'.heap.size w' x u0 u1 u2 u3 ∧ Below w.heap.size w w' := by
  unfold szGl at hs
  obtain ⟨rfl, ⟨xa, xc, rfl, a1, a2, hA⟩, ⟨ya, yc, rfl, b1, b2, hB⟩, ⟨za, zc, rfl, c1, c2, hC⟩⟩ := hv
  refine (toPrgGoal_ownS x.k xa ya za xc yc zc x.a x.b x.c w ⟨hA, hB, hC, hF.1.1, hF.2.1.1, hF.2.2.1, by omega, by omega, by omega⟩).mono ?_
  rintro e w' ⟨g1, g2, g3, rfl, ⟨o1, o2, o3⟩, hb, l1, l2, l3, l4⟩
  exact ⟨_, _, _, _, rfl, ⟨rfl, g1 + 1, g2 + 1, by omega, by omega, by omega, segC_at o1 l1 (by omega), segC_at o2 (by omega) (by omega), segC_at o3 (by omega) l4⟩, hb⟩

set_option maxRecDepth 100000 in
set_option maxHeartbeats 2000000 in
theorem toGS_someS (b off cap : Nat) (s : List Gl) (w : World) (hm : s.length ≤ 1048576) (hF : FitG s) (ht : totG s ≤ 1048576) (hA : AtG w b off s) :
    Calls Try.prog 127 #[.slice (some ⟨b, off, none⟩) s.length cap] w fun e w' => e = .returned (.slice (some ⟨w.heap.size, 0, none⟩) s.length s.length) ∧ SegGS w.heap.size w'.heap.size w' (.slice (some ⟨w.heap.size, 0, none⟩) s.length s.length) s ∧ Below w.heap.size w w' := by
  obtain ⟨i0, hi, hz0, hz1, hz2⟩ := info_parts Try.infoG
  have hbytes : i0.bytes * s.length ≤ 281474976710656 := by rw [hz2]; omega
  go_enter Try.func127, Try.ntmps127
  go_wp2_with (at_make; refine wpList_make_full _ rfl _ _ 133 rfl w.heap.size 89 i0 _ 4 Try.underlying133 hi hz0 hz1 .i64 .i64 _ _ s.length rfl rfl rfl rfl hbytes (by unfold maxLen; omega) (Nat.le_refl _) ?_; intro w0 hown0 hgr0)
  have hB0 : Below w.heap.size w w0 := (Below.refl _ _).grown hgr0 (Nat.le_refl _) (fun k e => by cases e)
  go_loopw [4] (fun i wr => ∃ (k : Nat), k ≤ s.length ∧ i = .int .i64 k ∧ ToL w 89 4 s.length (EGl s) k wr) (fun i _ => s.length - (intOf i).toNat)
  case atStart => exact ⟨0, Nat.zero_le _, rfl, _, fun _ => 0, fun _ => 0, hown0, fun i h => absurd h (Nat.not_lt_zero _), hB0⟩
  case round =>
    obtain ⟨k, hk, rfl, hT⟩ := hrel
    have hB : Below w.heap.size w wr := by obtain ⟨_, _, _, _, _, h⟩ := hT; exact h
    have HT := hide hT
    clear hT hown0 hgr0 hB0
    by_cases hlt : k < s.length
    · obtain ⟨v0, v1, v2, v3, c0, c1, c2, c3, hv⟩ := (hA.below hB) k hlt
      have H := hide (toGl_anyS _ v0 v1 v2 v3 wr (hF _ (List.getElem_mem hlt)) (Nat.le_trans (totG_mem (List.getElem_mem hlt)) ht) hv)
      clear hv
      go_wp2_with fail
      refine (unhide H).mono ?_
      rintro e w1 ⟨u0, u1, u2, u3, rfl, hu, hb1⟩
      clear c0 c1 c2 c3 H
      have hE1 : EGl s k wr.heap.size w1.heap.size w1 [u0, u1, u2, u3] := ⟨hlt, u0, u1, u2, u3, rfl, hu⟩
      obtain ⟨e0, ⟨xa, xc, e1, _⟩, ⟨ya, yc, e2, _⟩, ⟨za, zc, e3, _⟩⟩ := hu.glV
      subst e0 e1 e2 e3
      obtain ⟨⟨a0, a1, a2, a3, d0, d1, d2, d3⟩, ⟨f0, f1, f2, f3⟩, R⟩ := ToL.round4 (egl_keeps s) hlt (unhide HT) hb1 hE1
      have HRR := hide R
      clear R hu hE1
      go_wp2
      go_roundw
      case rel => exact ⟨k + 1, by omega, by go_num, unhide HRR⟩
      case measure => simp [intOf]; omega
    · have e : k = s.length := by omega
      subst e
      go_wp2
      go_ret
      exact ⟨rfl, ToL.done (unhide HT)⟩

set_option maxRecDepth 100000 in
set_option maxHeartbeats 1000000 in
theorem toGS_noneS (ao : Option Addr) (cap : Nat) (w : World) :
    Calls Try.prog 127 #[.slice ao 0 cap] w fun e w' => e = .returned (.slice (some ⟨w.heap.size, 0, none⟩) 0 0) ∧ SegGS w.heap.size w'.heap.size w' (.slice (some ⟨w.heap.size, 0, none⟩) 0 0) [] ∧ Below w.heap.size w w' := by
  obtain ⟨i0, hi, hz0, hz1, hz2⟩ := info_parts Try.infoG
  go_enter Try.func127, Try.ntmps127
  go_wp2_with (at_make; refine wpList_make_full _ rfl _ _ 133 rfl w.heap.size 89 i0 _ 4 Try.underlying133 hi hz0 hz1 .i64 .i64 _ _ 0 rfl rfl rfl rfl (by simp) (by unfold maxLen; omega) (Nat.le_refl _) ?_; intro w0 hown0 hgr0)
  have hB0 : Below w.heap.size w w0 := (Below.refl _ _).grown hgr0 (Nat.le_refl _) (fun k e => by cases e)
  refine wp_loop_rounds 1 ?_
  rw [rounds_succ]
  go_wp2
  go_ret
  exact ⟨rfl, ToL.done (w := w) (T := 89) (sz := 4) (n := 0) (E := EGl []) ⟨_, fun _ => 0, fun _ => 0, hown0, fun i h => absurd h (Nat.not_lt_zero _), hB0⟩⟩

theorem toGS_anyS (v : Value) (s : List Gl) (w : World) (hm : s.length ≤ 1048576) (hF : FitG s) (ht : totG s ≤ 1048576) (hv : SlG w v s) :
    Calls Try.prog 127 #[v] w fun e w' => ∃ g, e = .returned (.slice (some ⟨g, 0, none⟩) s.length s.length) ∧ SegGS w.heap.size w'.heap.size w' (.slice (some ⟨g, 0, none⟩) s.length s.length) s ∧ Below w.heap.size w w' := by
  obtain ⟨ao, cap, rfl, h1, h2, hA⟩ := hv
  rcases hA with rfl | ⟨b, off, rfl, hA⟩
  · exact (toGS_noneS ao cap w).mono fun e w' ⟨h1, h2, h3⟩ => ⟨_, h1, h2, h3⟩
  · exact (toGS_someS b off cap s w hm hF ht hA).mono fun e w' ⟨h1, h2, h3⟩ => ⟨_, h1, h2, h3⟩


set_option maxRecDepth 100000 in
set_option maxHeartbeats 2000000 in
theorem toPS_someS (b off cap : Nat) (s : List Pc) (w : World) (hm : s.length ≤ 1048576) (hF : FitP s) (ht : totP s ≤ 1048576) (hA : AtP w b off s) :
    Calls Try.prog 41 #[.slice (some ⟨b, off, none⟩) s.length cap] w fun e w' => e = .returned (.slice (some ⟨w.heap.size, 0, none⟩) s.length s.length) ∧ SegP w.heap.size w'.heap.size w' (.slice (some ⟨w.heap.size, 0, none⟩) s.length s.length) s ∧ Below w.heap.size w w' := by
  obtain ⟨i0, hi, hz0, hz1, hz2⟩ := info_parts Try.infoP
  have hbytes : i0.bytes * s.length ≤ 281474976710656 := by rw [hz2]; omega
  go_enter Try.func41, Try.ntmps41
  go_wp2_with (at_make; refine wpList_make_full _ rfl _ _ 28 rfl w.heap.size 137 i0 _ 3 Try.underlying28 hi hz0 hz1 .i64 .i64 _ _ s.length rfl rfl rfl rfl hbytes (by unfold maxLen; omega) (Nat.le_refl _) ?_; intro w0 hown0 hgr0)
  have hB0 : Below w.heap.size w w0 := (Below.refl _ _).grown hgr0 (Nat.le_refl _) (fun k e => by cases e)
  go_loopw [4] (fun i wr => ∃ (k : Nat), k ≤ s.length ∧ i = .int .i64 k ∧ ToP w s k wr) (fun i _ => s.length - (intOf i).toNat)
  case atStart => exact ⟨0, Nat.zero_le _, rfl, _, hown0, fun i h h' => absurd h' (Nat.not_lt_zero _), hB0⟩
  case round =>
    obtain ⟨k, hk, rfl, hT⟩ := hrel
    have hB : Below w.heap.size w wr := by obtain ⟨_, _, _, h⟩ := hT; exact h
    have HT := hide hT
    clear hT hown0 hgr0 hB0
    by_cases hlt : k < s.length
    · obtain ⟨v0, v1, v2, c0, c1, c2, hv⟩ := (hA.below hB) k hlt
      have H := hide (toPc_any _ v0 v1 v2 wr (hF _ (List.getElem_mem hlt)) (Nat.le_trans (totP_mem (List.getElem_mem hlt)) ht) hv)
      clear hv
      go_wp2_with fail
      refine (unhide H).mono ?_
      rintro e w1 ⟨u0, u1, u2, rfl, hu, hb1⟩
      clear c0 c1 c2 H
      obtain ⟨e0, e1, e2⟩ := hu.here
      subst e0 e1 e2
      obtain ⟨⟨a0, a1, a2, d0, d1, d2⟩, ⟨f0, f1, f2⟩, R⟩ := toP_round hlt (unhide HT) hb1 hu
      have HRR := hide R
      clear R hu
      go_wp2
      go_roundw
      case rel => exact ⟨k + 1, by omega, by go_num, unhide HRR⟩
      case measure => simp [intOf]; omega
    · have e : k = s.length := by omega
      subst e
      go_wp2
      go_ret
      exact ⟨rfl, toP_endS (unhide HT)⟩

set_option maxRecDepth 100000 in
set_option maxHeartbeats 1000000 in
theorem toPS_noneS (ao : Option Addr) (cap : Nat) (w : World) :
    Calls Try.prog 41 #[.slice ao 0 cap] w fun e w' => e = .returned (.slice (some ⟨w.heap.size, 0, none⟩) 0 0) ∧ SegP w.heap.size w'.heap.size w' (.slice (some ⟨w.heap.size, 0, none⟩) 0 0) [] ∧ Below w.heap.size w w' := by
  obtain ⟨i0, hi, hz0, hz1, hz2⟩ := info_parts Try.infoP
  go_enter Try.func41, Try.ntmps41
  go_wp2_with (at_make; refine wpList_make_full _ rfl _ _ 28 rfl w.heap.size 137 i0 _ 3 Try.underlying28 hi hz0 hz1 .i64 .i64 _ _ 0 rfl rfl rfl rfl (by simp) (by unfold maxLen; omega) (Nat.le_refl _) ?_; intro w0 hown0 hgr0)
  have hB0 : Below w.heap.size w w0 := (Below.refl _ _).grown hgr0 (Nat.le_refl _) (fun k e => by cases e)
  refine wp_loop_rounds 1 ?_
  rw [rounds_succ]
  go_wp2
  go_ret
  exact ⟨rfl, toP_endS (s := []) ⟨_, hown0, fun i h h' => absurd h' (Nat.not_lt_zero _), hB0⟩⟩

theorem toPS_anyS (v : Value) (s : List Pc) (w : World) (hm : s.length ≤ 1048576) (hF : FitP s) (ht : totP s ≤ 1048576) (hv : SlP w v s) :
    Calls Try.prog 41 #[v] w fun e w' => ∃ g, e = .returned (.slice (some ⟨g, 0, none⟩) s.length s.length) ∧ SegP w.heap.size w'.heap.size w' (.slice (some ⟨g, 0, none⟩) s.length s.length) s ∧ Below w.heap.size w w' := by
  obtain ⟨ao, cap, rfl, h1, h2, hA⟩ := hv
  rcases hA with rfl | ⟨b, off, rfl, hA⟩
  · exact (toPS_noneS ao cap w).mono fun e w' ⟨h1, h2, h3⟩ => ⟨_, h1, h2, h3⟩
  · exact (toPS_someS b off cap s w hm hF ht hA).mono fun e w' ⟨h1, h2, h3⟩ => ⟨_, h1, h2, h3⟩

end Go.Proofs.Ythgfhimhgeohcaa
