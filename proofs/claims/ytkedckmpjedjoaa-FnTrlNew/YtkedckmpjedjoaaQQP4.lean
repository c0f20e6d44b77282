/- A program copied into new memory: the laws' toPrg.. -/
import Derived.Test.YtkedckmpjedjoaaQQP3
import Derived.Test.YtkedckmpjedjoaaQGI7PB1SB1
namespace Go.Proofs.Ytkedckmpjedjoaa
open Go.RowKit
set_option linter.unusedVariables false
set_option linter.unusedSimpArgs false

/-- What holds wherever the blocks from lo on are as they are here. -/
def Sup (lo : Nat) (w : World) (P : World → Prop) : Prop := ∀ w' : World, (∀ b, lo ≤ b → b < w.heap.size → w'.heap[b]? = w.heap[b]?) → P w'
theorem Sup.here {lo : Nat} {w : World} {P : World → Prop} (h : Sup lo w P) : P w := h w (fun _ _ _ => rfl)
theorem Sup.low {lo lo' : Nat} {w : World} {P : World → Prop} (h : Sup lo w P) (hl : lo' ≤ lo) : Sup lo' w P := fun w' hk => h w' (fun b h1 h2 => hk b (Nat.le_trans hl h1) h2)
theorem Sup.below {lo : Nat} {w w1 : World} {P : World → Prop} (h : Sup lo w P) (hb : Below w.heap.size w w1) : Sup lo w1 P := fun w' hk => h w' (fun b h1 h2 => (hk b h1 (Nat.lt_of_lt_of_le h2 hb.size)).trans (hb.block b h2))
theorem Sup.set {lo g i : Nat} {w : World} {P : World → Prop} {v : Value} (h : Sup lo w P) (hg : g < lo) : Sup lo (w.setCell ⟨g, i, none⟩ v) P := fun w' hk => h w' (fun b h1 h2 => (hk b h1 (by simpa [World.setCell] using h2)).trans (Below.heap_setCell _ _ _ _ (by show b ≠ g; omega)))
theorem sup_row {w : World} {base g : Nat} {t : List C} (h : w.ownsRow base 98 3 (.slice (some ⟨g, 0, none⟩) t.length t.length) t.length (flat t)) (hl : t.length ≤ 1048576) : Sup base w (fun W => SlC W (.slice (some ⟨g, 0, none⟩) t.length t.length) t) := fun w' hk => by
  have hg := h.lt g rfl
  exact ⟨some ⟨g, 0, none⟩, t.length, rfl, Nat.le_refl _, by unfold maxLen; omega, row_of_own (own_block h (fun k e => by
    have e' : g = k := by simpa [Value.ownBlock] using e
    exact hk k (by omega) (by omega)))⟩

set_option maxRecDepth 100000 in
set_option maxHeartbeats 1000000 in
theorem toPrgGoal_own (v : Int) (xa ya za : Option Addr) (xc yc zc : Nat) (a b c : List C) (w : World) (h : Trip w xa ya za a b c) :
    Calls Try.prog 167 #[.agg #[.int .i64 v, .slice xa a.length xc, .slice ya b.length yc, .slice za c.length zc]] w fun e w' => ∃ g1 g2 g3, e = .returned (.agg #[.int .i64 v, .slice (some ⟨g1, 0, none⟩) a.length a.length, .slice (some ⟨g2, 0, none⟩) b.length b.length, .slice (some ⟨g3, 0, none⟩) c.length c.length]) ∧ (w'.ownsRow w.heap.size 98 3 (.slice (some ⟨g1, 0, none⟩) a.length a.length) a.length (flat a) ∧ w'.ownsRow w.heap.size 98 3 (.slice (some ⟨g2, 0, none⟩) b.length b.length) b.length (flat b) ∧ w'.ownsRow w.heap.size 98 3 (.slice (some ⟨g3, 0, none⟩) c.length c.length) c.length (flat c)) ∧ Below w.heap.size w w' := by
  go_enter Try.func167, Try.ntmps167
  go_wp2_with fail
  obtain ⟨W, hW⟩ : ∃ W, W = ((w.alloc (Obj.cells #[Value.int IntKind.i64 v, .slice xa a.length xc, .slice ya b.length yc, .slice za c.length zc] 186)).alloc (Obj.cells #[Value.int IntKind.i64 0, Value.slice none 0 0, Value.slice none 0 0, Value.slice none 0 0] 93)).alloc (Obj.cells #[Value.int IntKind.i64 v, Value.slice none 0 0, Value.slice none 0 0, Value.slice none 0 0] 93) := ⟨_, rfl⟩
  have hB0 : Below w.heap.size w W := by rw [hW]; exact below3 _ _ _ _
  have hsz : W.heap.size = w.heap.size + 3 := by rw [hW]; simp
  have A2 : W.cell? ⟨w.heap.size, 2, none⟩ = some (.slice ya b.length yc) := by rw [hW]; simp [go_sem]
  have A3 : W.cell? ⟨w.heap.size, 3, none⟩ = some (.slice za c.length zc) := by rw [hW]; simp [go_sem]
  have c0 : W.cell? ⟨w.heap.size + 1 + 1, 0, none⟩ = some (.int .i64 v) := by rw [hW]; simp [go_sem]
  have z0 : W.cell? ⟨w.heap.size + 1, 0, none⟩ = some (.int .i64 0) := by rw [hW]; simp [go_sem]
  have f0 : W.frozen? ⟨w.heap.size + 1 + 1, 0, none⟩ = false := by rw [hW]; simp [go_sem]
  have y0 : W.frozen? ⟨w.heap.size + 1, 0, none⟩ = false := by rw [hW]; simp [go_sem]
  have c1 : W.cell? ⟨w.heap.size + 1 + 1, 1, none⟩ = some (.slice none 0 0) := by rw [hW]; simp [go_sem]
  have z1 : W.cell? ⟨w.heap.size + 1, 1, none⟩ = some (.slice none 0 0) := by rw [hW]; simp [go_sem]
  have f1 : W.frozen? ⟨w.heap.size + 1 + 1, 1, none⟩ = false := by rw [hW]; simp [go_sem]
  have y1 : W.frozen? ⟨w.heap.size + 1, 1, none⟩ = false := by rw [hW]; simp [go_sem]
  have c2 : W.cell? ⟨w.heap.size + 1 + 1, 2, none⟩ = some (.slice none 0 0) := by rw [hW]; simp [go_sem]
  have z2 : W.cell? ⟨w.heap.size + 1, 2, none⟩ = some (.slice none 0 0) := by rw [hW]; simp [go_sem]
  have f2 : W.frozen? ⟨w.heap.size + 1 + 1, 2, none⟩ = false := by rw [hW]; simp [go_sem]
  have y2 : W.frozen? ⟨w.heap.size + 1, 2, none⟩ = false := by rw [hW]; simp [go_sem]
  have c3 : W.cell? ⟨w.heap.size + 1 + 1, 3, none⟩ = some (.slice none 0 0) := by rw [hW]; simp [go_sem]
  have z3 : W.cell? ⟨w.heap.size + 1, 3, none⟩ = some (.slice none 0 0) := by rw [hW]; simp [go_sem]
  have f3 : W.frozen? ⟨w.heap.size + 1 + 1, 3, none⟩ = false := by rw [hW]; simp [go_sem]
  have y3 : W.frozen? ⟨w.heap.size + 1, 3, none⟩ = false := by rw [hW]; simp [go_sem]
  rw [← hW]
  clear hW
  have q2 : w.heap.size + 1 + 1 < W.heap.size := by omega
  clear hsz
  refine (toTrmCellS_any xa xc a W h.la ((h.below hB0).ra)).mono ?_
  rintro e w1 ⟨rfl, ho1, hb1⟩
  have hg1 : W.heap.size < w1.heap.size := (ho1.lt _ rfl).2
  have q0 : w.heap.size < W.heap.size := by omega
  have q1 : w.heap.size + 1 < W.heap.size := by omega
  replace A2 := (hb1.cell (p := ⟨w.heap.size, 2, none⟩) q0).trans A2
  replace A3 := (hb1.cell (p := ⟨w.heap.size, 3, none⟩) q0).trans A3
  replace c0 := (hb1.cell (p := ⟨w.heap.size + 1 + 1, 0, none⟩) q2).trans c0
  replace z0 := (hb1.cell (p := ⟨w.heap.size + 1, 0, none⟩) q1).trans z0
  replace f0 := (hb1.frozen (p := ⟨w.heap.size + 1 + 1, 0, none⟩) q2).trans f0
  replace y0 := (hb1.frozen (p := ⟨w.heap.size + 1, 0, none⟩) q1).trans y0
  replace c1 := (hb1.cell (p := ⟨w.heap.size + 1 + 1, 1, none⟩) q2).trans c1
  replace z1 := (hb1.cell (p := ⟨w.heap.size + 1, 1, none⟩) q1).trans z1
  replace f1 := (hb1.frozen (p := ⟨w.heap.size + 1 + 1, 1, none⟩) q2).trans f1
  replace y1 := (hb1.frozen (p := ⟨w.heap.size + 1, 1, none⟩) q1).trans y1
  replace c2 := (hb1.cell (p := ⟨w.heap.size + 1 + 1, 2, none⟩) q2).trans c2
  replace z2 := (hb1.cell (p := ⟨w.heap.size + 1, 2, none⟩) q1).trans z2
  replace f2 := (hb1.frozen (p := ⟨w.heap.size + 1 + 1, 2, none⟩) q2).trans f2
  replace y2 := (hb1.frozen (p := ⟨w.heap.size + 1, 2, none⟩) q1).trans y2
  replace c3 := (hb1.cell (p := ⟨w.heap.size + 1 + 1, 3, none⟩) q2).trans c3
  replace z3 := (hb1.cell (p := ⟨w.heap.size + 1, 3, none⟩) q1).trans z3
  replace f3 := (hb1.frozen (p := ⟨w.heap.size + 1 + 1, 3, none⟩) q2).trans f3
  replace y3 := (hb1.frozen (p := ⟨w.heap.size + 1, 3, none⟩) q1).trans y3
  have hB1 := bstep hB0 hb1
  have hw1 : w.heap.size + 1 + 1 < w1.heap.size := by omega
  obtain ⟨g1, hg⟩ : ∃ g, g = W.heap.size := ⟨_, rfl⟩
  rw [← hg] at ho1 hg1 ⊢
  have hs1 : g1 < w1.heap.size := hg1
  have ho_1 : w.heap.size + 1 + 1 < g1 := by omega
  clear q0 q1 q2 hg1 hb1
  clear hg
  go_wp2_with fail
  obtain ⟨V1, hV⟩ : ∃ V, V = w1.setCell ⟨w.heap.size + 1 + 1, 1, none⟩ (.slice (some ⟨g1, 0, none⟩) a.length a.length) := ⟨_, rfl⟩
  rw [← hV]
  have hsz : V1.heap.size = w1.heap.size := by rw [hV]; simp
  replace A2 : V1.cell? ⟨w.heap.size, 2, none⟩ = some (.slice ya b.length yc) := by rw [hV]; simp [go_sem, A2]
  replace A3 : V1.cell? ⟨w.heap.size, 3, none⟩ = some (.slice za c.length zc) := by rw [hV]; simp [go_sem, A3]
  replace c0 : V1.cell? ⟨w.heap.size + 1 + 1, 0, none⟩ = some (.int .i64 v) := by rw [hV]; simp [go_sem, c0]
  replace z0 : V1.cell? ⟨w.heap.size + 1, 0, none⟩ = some (.int .i64 0) := by rw [hV]; simp [go_sem, z0]
  replace f0 : V1.frozen? ⟨w.heap.size + 1 + 1, 0, none⟩ = false := by rw [hV]; simp [go_sem, f0]
  replace y0 : V1.frozen? ⟨w.heap.size + 1, 0, none⟩ = false := by rw [hV]; simp [go_sem, y0]
  replace c1 : V1.cell? ⟨w.heap.size + 1 + 1, 1, none⟩ = some (.slice (some ⟨g1, 0, none⟩) a.length a.length) := by rw [hV]; simp [go_sem, c1, f1]
  replace z1 : V1.cell? ⟨w.heap.size + 1, 1, none⟩ = some (.slice none 0 0) := by rw [hV]; simp [go_sem, z1]
  replace f1 : V1.frozen? ⟨w.heap.size + 1 + 1, 1, none⟩ = false := by rw [hV]; simp [go_sem, f1]
  replace y1 : V1.frozen? ⟨w.heap.size + 1, 1, none⟩ = false := by rw [hV]; simp [go_sem, y1]
  replace c2 : V1.cell? ⟨w.heap.size + 1 + 1, 2, none⟩ = some (.slice none 0 0) := by rw [hV]; simp [go_sem, c2]
  replace z2 : V1.cell? ⟨w.heap.size + 1, 2, none⟩ = some (.slice none 0 0) := by rw [hV]; simp [go_sem, z2]
  replace f2 : V1.frozen? ⟨w.heap.size + 1 + 1, 2, none⟩ = false := by rw [hV]; simp [go_sem, f2]
  replace y2 : V1.frozen? ⟨w.heap.size + 1, 2, none⟩ = false := by rw [hV]; simp [go_sem, y2]
  replace c3 : V1.cell? ⟨w.heap.size + 1 + 1, 3, none⟩ = some (.slice none 0 0) := by rw [hV]; simp [go_sem, c3]
  replace z3 : V1.cell? ⟨w.heap.size + 1, 3, none⟩ = some (.slice none 0 0) := by rw [hV]; simp [go_sem, z3]
  replace f3 : V1.frozen? ⟨w.heap.size + 1 + 1, 3, none⟩ = false := by rw [hV]; simp [go_sem, f3]
  replace y3 : V1.frozen? ⟨w.heap.size + 1, 3, none⟩ = false := by rw [hV]; simp [go_sem, y3]
  replace hB1 : Below w.heap.size w V1 := by rw [hV]; exact hB1.setCell (p := ⟨w.heap.size + 1 + 1, 1, none⟩) (by simp; omega) _
  replace ho1 := own_block (w' := V1) ho1 (fun k e => by
    have e' : g1 = k := by simpa [Value.ownBlock] using e
    rw [hV, Below.heap_setCell _ _ _ _ (by simp; omega)])
  replace hs1 : g1 < V1.heap.size := by omega
  have q2 : w.heap.size + 1 + 1 < V1.heap.size := by omega
  clear hV hsz hw1
  refine (toTrmCellS_any ya yc b V1 h.lb ((h.below hB1).rb)).mono ?_
  rintro e w2 ⟨rfl, ho2, hb2⟩
  have hg2 : V1.heap.size < w2.heap.size := (ho2.lt _ rfl).2
  have q0 : w.heap.size < V1.heap.size := by omega
  have q1 : w.heap.size + 1 < V1.heap.size := by omega
  replace A3 := (hb2.cell (p := ⟨w.heap.size, 3, none⟩) q0).trans A3
  replace c0 := (hb2.cell (p := ⟨w.heap.size + 1 + 1, 0, none⟩) q2).trans c0
  replace z0 := (hb2.cell (p := ⟨w.heap.size + 1, 0, none⟩) q1).trans z0
  replace f0 := (hb2.frozen (p := ⟨w.heap.size + 1 + 1, 0, none⟩) q2).trans f0
  replace y0 := (hb2.frozen (p := ⟨w.heap.size + 1, 0, none⟩) q1).trans y0
  replace c1 := (hb2.cell (p := ⟨w.heap.size + 1 + 1, 1, none⟩) q2).trans c1
  replace z1 := (hb2.cell (p := ⟨w.heap.size + 1, 1, none⟩) q1).trans z1
  replace f1 := (hb2.frozen (p := ⟨w.heap.size + 1 + 1, 1, none⟩) q2).trans f1
  replace y1 := (hb2.frozen (p := ⟨w.heap.size + 1, 1, none⟩) q1).trans y1
  replace c2 := (hb2.cell (p := ⟨w.heap.size + 1 + 1, 2, none⟩) q2).trans c2
  replace z2 := (hb2.cell (p := ⟨w.heap.size + 1, 2, none⟩) q1).trans z2
  replace f2 := (hb2.frozen (p := ⟨w.heap.size + 1 + 1, 2, none⟩) q2).trans f2
  replace y2 := (hb2.frozen (p := ⟨w.heap.size + 1, 2, none⟩) q1).trans y2
  replace c3 := (hb2.cell (p := ⟨w.heap.size + 1 + 1, 3, none⟩) q2).trans c3
  replace z3 := (hb2.cell (p := ⟨w.heap.size + 1, 3, none⟩) q1).trans z3
  replace f3 := (hb2.frozen (p := ⟨w.heap.size + 1 + 1, 3, none⟩) q2).trans f3
  replace y3 := (hb2.frozen (p := ⟨w.heap.size + 1, 3, none⟩) q1).trans y3
  replace ho1 := own_below ho1 hb2
  replace hs1 : g1 < w2.heap.size := by omega
  have hB2 := bstep hB1 hb2
  have hw2 : w.heap.size + 1 + 1 < w2.heap.size := by omega
  obtain ⟨g2, hg⟩ : ∃ g, g = V1.heap.size := ⟨_, rfl⟩
  rw [← hg] at ho2 hg2 ⊢
  have hs2 : g2 < w2.heap.size := hg2
  have ho_2 : w.heap.size + 1 + 1 < g2 := by omega
  clear q0 q1 q2 hg2 hb2
  clear hg
  go_wp2_with fail
  obtain ⟨V2, hV⟩ : ∃ V, V = w2.setCell ⟨w.heap.size + 1 + 1, 2, none⟩ (.slice (some ⟨g2, 0, none⟩) b.length b.length) := ⟨_, rfl⟩
  rw [← hV]
  have hsz : V2.heap.size = w2.heap.size := by rw [hV]; simp
  replace A3 : V2.cell? ⟨w.heap.size, 3, none⟩ = some (.slice za c.length zc) := by rw [hV]; simp [go_sem, A3]
  replace c0 : V2.cell? ⟨w.heap.size + 1 + 1, 0, none⟩ = some (.int .i64 v) := by rw [hV]; simp [go_sem, c0]
  replace z0 : V2.cell? ⟨w.heap.size + 1, 0, none⟩ = some (.int .i64 0) := by rw [hV]; simp [go_sem, z0]
  replace f0 : V2.frozen? ⟨w.heap.size + 1 + 1, 0, none⟩ = false := by rw [hV]; simp [go_sem, f0]
  replace y0 : V2.frozen? ⟨w.heap.size + 1, 0, none⟩ = false := by rw [hV]; simp [go_sem, y0]
  replace c1 : V2.cell? ⟨w.heap.size + 1 + 1, 1, none⟩ = some (.slice (some ⟨g1, 0, none⟩) a.length a.length) := by rw [hV]; simp [go_sem, c1]
  replace z1 : V2.cell? ⟨w.heap.size + 1, 1, none⟩ = some (.slice none 0 0) := by rw [hV]; simp [go_sem, z1]
  replace f1 : V2.frozen? ⟨w.heap.size + 1 + 1, 1, none⟩ = false := by rw [hV]; simp [go_sem, f1]
  replace y1 : V2.frozen? ⟨w.heap.size + 1, 1, none⟩ = false := by rw [hV]; simp [go_sem, y1]
  replace c2 : V2.cell? ⟨w.heap.size + 1 + 1, 2, none⟩ = some (.slice (some ⟨g2, 0, none⟩) b.length b.length) := by rw [hV]; simp [go_sem, c2, f2]
  replace z2 : V2.cell? ⟨w.heap.size + 1, 2, none⟩ = some (.slice none 0 0) := by rw [hV]; simp [go_sem, z2]
  replace f2 : V2.frozen? ⟨w.heap.size + 1 + 1, 2, none⟩ = false := by rw [hV]; simp [go_sem, f2]
  replace y2 : V2.frozen? ⟨w.heap.size + 1, 2, none⟩ = false := by rw [hV]; simp [go_sem, y2]
  replace c3 : V2.cell? ⟨w.heap.size + 1 + 1, 3, none⟩ = some (.slice none 0 0) := by rw [hV]; simp [go_sem, c3]
  replace z3 : V2.cell? ⟨w.heap.size + 1, 3, none⟩ = some (.slice none 0 0) := by rw [hV]; simp [go_sem, z3]
  replace f3 : V2.frozen? ⟨w.heap.size + 1 + 1, 3, none⟩ = false := by rw [hV]; simp [go_sem, f3]
  replace y3 : V2.frozen? ⟨w.heap.size + 1, 3, none⟩ = false := by rw [hV]; simp [go_sem, y3]
  replace hB2 : Below w.heap.size w V2 := by rw [hV]; exact hB2.setCell (p := ⟨w.heap.size + 1 + 1, 2, none⟩) (by simp; omega) _
  replace ho1 := own_block (w' := V2) ho1 (fun k e => by
    have e' : g1 = k := by simpa [Value.ownBlock] using e
    rw [hV, Below.heap_setCell _ _ _ _ (by simp; omega)])
  replace hs1 : g1 < V2.heap.size := by omega
  replace ho2 := own_block (w' := V2) ho2 (fun k e => by
    have e' : g2 = k := by simpa [Value.ownBlock] using e
    rw [hV, Below.heap_setCell _ _ _ _ (by simp; omega)])
  replace hs2 : g2 < V2.heap.size := by omega
  have q2 : w.heap.size + 1 + 1 < V2.heap.size := by omega
  clear hV hsz hw2
  refine (toTrmCellS_any za zc c V2 h.lc ((h.below hB2).rc)).mono ?_
  rintro e w3 ⟨rfl, ho3, hb3⟩
  have hg3 : V2.heap.size < w3.heap.size := (ho3.lt _ rfl).2
  have q0 : w.heap.size < V2.heap.size := by omega
  have q1 : w.heap.size + 1 < V2.heap.size := by omega
  replace c0 := (hb3.cell (p := ⟨w.heap.size + 1 + 1, 0, none⟩) q2).trans c0
  replace z0 := (hb3.cell (p := ⟨w.heap.size + 1, 0, none⟩) q1).trans z0
  replace f0 := (hb3.frozen (p := ⟨w.heap.size + 1 + 1, 0, none⟩) q2).trans f0
  replace y0 := (hb3.frozen (p := ⟨w.heap.size + 1, 0, none⟩) q1).trans y0
  replace c1 := (hb3.cell (p := ⟨w.heap.size + 1 + 1, 1, none⟩) q2).trans c1
  replace z1 := (hb3.cell (p := ⟨w.heap.size + 1, 1, none⟩) q1).trans z1
  replace f1 := (hb3.frozen (p := ⟨w.heap.size + 1 + 1, 1, none⟩) q2).trans f1
  replace y1 := (hb3.frozen (p := ⟨w.heap.size + 1, 1, none⟩) q1).trans y1
  replace c2 := (hb3.cell (p := ⟨w.heap.size + 1 + 1, 2, none⟩) q2).trans c2
  replace z2 := (hb3.cell (p := ⟨w.heap.size + 1, 2, none⟩) q1).trans z2
  replace f2 := (hb3.frozen (p := ⟨w.heap.size + 1 + 1, 2, none⟩) q2).trans f2
  replace y2 := (hb3.frozen (p := ⟨w.heap.size + 1, 2, none⟩) q1).trans y2
  replace c3 := (hb3.cell (p := ⟨w.heap.size + 1 + 1, 3, none⟩) q2).trans c3
  replace z3 := (hb3.cell (p := ⟨w.heap.size + 1, 3, none⟩) q1).trans z3
  replace f3 := (hb3.frozen (p := ⟨w.heap.size + 1 + 1, 3, none⟩) q2).trans f3
  replace y3 := (hb3.frozen (p := ⟨w.heap.size + 1, 3, none⟩) q1).trans y3
  replace ho1 := own_below ho1 hb3
  replace hs1 : g1 < w3.heap.size := by omega
  replace ho2 := own_below ho2 hb3
  replace hs2 : g2 < w3.heap.size := by omega
  have hB3 := bstep hB2 hb3
  have hw3 : w.heap.size + 1 + 1 < w3.heap.size := by omega
  obtain ⟨g3, hg⟩ : ∃ g, g = V2.heap.size := ⟨_, rfl⟩
  rw [← hg] at ho3 hg3 ⊢
  have hs3 : g3 < w3.heap.size := hg3
  have ho_3 : w.heap.size + 1 + 1 < g3 := by omega
  clear q0 q1 q2 hg3 hb3
  clear hg
  go_wp2
  refine bodyPost_ret (v := .agg #[.int .i64 v, .slice (some ⟨g1, 0, none⟩) a.length a.length, .slice (some ⟨g2, 0, none⟩) b.length b.length, .slice (some ⟨g3, 0, none⟩) c.length c.length]) (by simp [results, Try.results167, go_sem, *]) rfl ⟨g1, g2, g3, rfl, ?_, ?_⟩
  · exact ⟨own_lo (own_block ho1 (fun k e => by
      have e' : g1 = k := by simpa [Value.ownBlock] using e
      rw [Below.heap_setCell _ _ _ _ (by simp; omega), Below.heap_setCell _ _ _ _ (by simp; omega), Below.heap_setCell _ _ _ _ (by simp; omega), Below.heap_setCell _ _ _ _ (by simp; omega), Below.heap_setCell _ _ _ _ (by simp; omega)])) (fun k e => by
      have e' : g1 = k := by simpa [Value.ownBlock] using e
      omega),
      own_lo (own_block ho2 (fun k e => by
      have e' : g2 = k := by simpa [Value.ownBlock] using e
      rw [Below.heap_setCell _ _ _ _ (by simp; omega), Below.heap_setCell _ _ _ _ (by simp; omega), Below.heap_setCell _ _ _ _ (by simp; omega), Below.heap_setCell _ _ _ _ (by simp; omega), Below.heap_setCell _ _ _ _ (by simp; omega)])) (fun k e => by
      have e' : g2 = k := by simpa [Value.ownBlock] using e
      omega),
      own_lo (own_block ho3 (fun k e => by
      have e' : g3 = k := by simpa [Value.ownBlock] using e
      rw [Below.heap_setCell _ _ _ _ (by simp; omega), Below.heap_setCell _ _ _ _ (by simp; omega), Below.heap_setCell _ _ _ _ (by simp; omega), Below.heap_setCell _ _ _ _ (by simp; omega), Below.heap_setCell _ _ _ _ (by simp; omega)])) (fun k e => by
      have e' : g3 = k := by simpa [Value.ownBlock] using e
      omega)⟩
  · exact ((((hB3.setCell (p := ⟨w.heap.size + 1 + 1, 3, none⟩) (by simp; omega) _).setCell (p := ⟨w.heap.size + 1, 0, none⟩) (by simp) _).setCell (p := ⟨w.heap.size + 1, 1, none⟩) (by simp) _).setCell (p := ⟨w.heap.size + 1, 2, none⟩) (by simp) _).setCell (p := ⟨w.heap.size + 1, 3, none⟩) (by simp) _


theorem toGl_any (x : Gl) (v0 v1 v2 v3 : Value) (w : World) (hF : FitGl x) (hs : szGl x ≤ 1048576) (hv : GlV w x v0 v1 v2 v3) :
    Calls Try.prog 167 #[.agg #[v0, v1, v2, v3]] w fun e w' => ∃ u0 u1 u2 u3, e = .returned (.agg #[u0, u1, u2, u3]) ∧ Sup w.heap.size w' (fun W => GlV W x u0 u1 u2 u3) ∧ Below w.heap.size w w' := by
  unfold szGl at hs
  obtain ⟨rfl, ⟨xa, xc, rfl, a1, a2, hA⟩, ⟨ya, yc, rfl, b1, b2, hB⟩, ⟨za, zc, rfl, c1, c2, hC⟩⟩ := hv
  refine (toPrgGoal_own x.k xa ya za xc yc zc x.a x.b x.c w ⟨hA, hB, hC, hF.1.1, hF.2.1.1, hF.2.2.1, by omega, by omega, by omega⟩).mono ?_
  rintro e w' ⟨g1, g2, g3, rfl, ⟨o1, o2, o3⟩, hb⟩
  exact ⟨_, _, _, _, rfl, fun W hk => ⟨rfl, sup_row o1 (by omega) W hk, sup_row o2 (by omega) W hk, sup_row o3 (by omega) W hk⟩, hb⟩
theorem toSlC_any (v : Value) (t : List C) (w : World) (hs : t.length ≤ 1048576) (hv : SlC w v t) :
    Calls Try.prog 18 #[v] w fun e w' => ∃ g, e = .returned (.slice (some ⟨g, 0, none⟩) t.length t.length) ∧ Sup w.heap.size w' (fun W => SlC W (.slice (some ⟨g, 0, none⟩) t.length t.length) t) ∧ Below w.heap.size w w' := by
  obtain ⟨ao, cap, rfl, h1, h2, hA⟩ := hv
  refine (toTrmCellS_any ao cap t w hs hA).mono ?_
  rintro e w' ⟨rfl, ho, hb⟩
  exact ⟨_, rfl, sup_row ho hs, hb⟩
set_option maxRecDepth 100000 in
set_option maxHeartbeats 1000000 in
theorem toPc_any (x : Pc) (v0 v1 v2 : Value) (w : World) (hF : FitPc x) (hs : szPc x ≤ 1048576) (hv : PcV w x v0 v1 v2) :
    Calls Try.prog 102 #[.agg #[v0, v1, v2]] w fun e w' => ∃ u0 u1 u2, e = .returned (.agg #[u0, u1, u2]) ∧ Sup w.heap.size w' (fun W => PcV W x u0 u1 u2) ∧ Below w.heap.size w w' := by
  obtain ⟨rfl, rfl, rfl⟩ := hv
  clear hF hs
  go_enter Try.func102, Try.ntmps102
  go_wp2
  refine bodyPost_ret (v := .agg #[.string x.s, .int .i64 x.n, .int .i64 x.d]) (by simp [results, Try.results102, go_sem, *]) rfl ⟨_, _, _, rfl, fun W hk => ⟨rfl, rfl, rfl⟩, ?_⟩
  exact below3 _ _ _ _

theorem Try.infoG : (Try.prog.info? 93).map (fun i => (i.zero, i.size, i.bytes)) = some (some (.agg #[.int .i64 0, .slice none 0 0, .slice none 0 0, .slice none 0 0]), 4, 80) := by kernel_rfl
/-- How far the copying has come. -/
def ToG (w : World) (s : List Gl) (k : Nat) (wr : World) : Prop := ∃ xs, wr.ownsRow w.heap.size 93 4 (.slice (some ⟨w.heap.size, 0, none⟩) s.length s.length) s.length xs ∧
  (∀ i, (h : i < s.length) → i < k → ∃ v0 v1 v2 v3, (xs[i * 4]? = some v0 ∧ xs[i * 4 + 1]? = some v1 ∧ xs[i * 4 + 2]? = some v2 ∧ xs[i * 4 + 3]? = some v3) ∧ Sup (w.heap.size + 1) wr (fun W => GlV W s[i] v0 v1 v2 v3)) ∧ Below w.heap.size w wr
theorem toG_round {w wr w1 : World} {s : List Gl} {k : Nat} {u0 u1 u2 u3 : Value} (hk : k < s.length) (hT : ToG w s k wr) (hb1 : Below wr.heap.size wr w1) (hu : Sup wr.heap.size w1 (fun W => GlV W s[k] u0 u1 u2 u3)) :
    (∃ a0 a1 a2 a3, w1.cell? ⟨w.heap.size, k * 4, none⟩ = some a0 ∧ w1.cell? ⟨w.heap.size, k * 4 + 1, none⟩ = some a1 ∧ w1.cell? ⟨w.heap.size, k * 4 + 2, none⟩ = some a2 ∧ w1.cell? ⟨w.heap.size, k * 4 + 3, none⟩ = some a3) ∧ (w1.frozen? ⟨w.heap.size, k * 4, none⟩ = false ∧ w1.frozen? ⟨w.heap.size, k * 4 + 1, none⟩ = false ∧ w1.frozen? ⟨w.heap.size, k * 4 + 2, none⟩ = false ∧ w1.frozen? ⟨w.heap.size, k * 4 + 3, none⟩ = false) ∧
    ToG w s (k + 1) ((((w1.setCell ⟨w.heap.size, k * 4, none⟩ u0).setCell ⟨w.heap.size, k * 4 + 1, none⟩ u1).setCell ⟨w.heap.size, k * 4 + 2, none⟩ u2).setCell ⟨w.heap.size, k * 4 + 3, none⟩ u3) := by
  obtain ⟨xs, h1, h2, h3⟩ := hT
  have hl : xs.length = s.length * 4 := h1.1
  have hsz : w.heap.size < wr.heap.size := (h1.lt _ rfl).2
  have o1 := own_below h1 hb1
  have h3b := h3.trans (hb1.mono (Nat.le_of_lt hsz))
  have s0 := (o1).stored (k * 4) u0
  have s1 := (s0.1).stored (k * 4 + 1) u1
  have s2 := (s1.1).stored (k * 4 + 2) u2
  have s3 := (s2.1).stored (k * 4 + 3) u3
  refine ⟨⟨_, _, _, _, (o1.cellAt (k * 4) (by omega)).trans (List.getElem?_eq_getElem (by omega)), (o1.cellAt (k * 4 + 1) (by omega)).trans (List.getElem?_eq_getElem (by omega)), (o1.cellAt (k * 4 + 2) (by omega)).trans (List.getElem?_eq_getElem (by omega)), (o1.cellAt (k * 4 + 3) (by omega)).trans (List.getElem?_eq_getElem (by omega))⟩, ⟨o1.frozenAt _, o1.frozenAt _, o1.frozenAt _, o1.frozenAt _⟩, ?_⟩
  refine ⟨((((xs.set (k * 4) u0).set (k * 4 + 1) u1).set (k * 4 + 2) u2).set (k * 4 + 3) u3), s3.1, fun i hi hik => ?_, ((((h3b).setCell (p := ⟨w.heap.size, k * 4, none⟩) (Nat.le_refl _) u0).setCell (p := ⟨w.heap.size, k * 4 + 1, none⟩) (Nat.le_refl _) u1).setCell (p := ⟨w.heap.size, k * 4 + 2, none⟩) (Nat.le_refl _) u2).setCell (p := ⟨w.heap.size, k * 4 + 3, none⟩) (Nat.le_refl _) u3⟩
  by_cases e : i < k
  · obtain ⟨v0, v1, v2, v3, ⟨q0, q1, q2, q3⟩, hs⟩ := h2 i hi e
    exact ⟨v0, v1, v2, v3, ⟨by rw [List.getElem?_set_ne (by omega), List.getElem?_set_ne (by omega), List.getElem?_set_ne (by omega), List.getElem?_set_ne (by omega)]; exact q0, by rw [List.getElem?_set_ne (by omega), List.getElem?_set_ne (by omega), List.getElem?_set_ne (by omega), List.getElem?_set_ne (by omega)]; exact q1, by rw [List.getElem?_set_ne (by omega), List.getElem?_set_ne (by omega), List.getElem?_set_ne (by omega), List.getElem?_set_ne (by omega)]; exact q2, by rw [List.getElem?_set_ne (by omega), List.getElem?_set_ne (by omega), List.getElem?_set_ne (by omega), List.getElem?_set_ne (by omega)]; exact q3⟩, Sup.set (i := k * 4 + 3) (v := u3) (Sup.set (i := k * 4 + 2) (v := u2) (Sup.set (i := k * 4 + 1) (v := u1) (Sup.set (i := k * 4) (v := u0) (hs.below hb1) (by omega)) (by omega)) (by omega)) (by omega)⟩
  · obtain rfl : i = k := by omega
    exact ⟨u0, u1, u2, u3, ⟨by rw [List.getElem?_set_ne (by omega), List.getElem?_set_ne (by omega), List.getElem?_set_ne (by omega), List.getElem?_set_self (by first | omega | (simp; omega))], by rw [List.getElem?_set_ne (by omega), List.getElem?_set_ne (by omega), List.getElem?_set_self (by first | omega | (simp; omega))], by rw [List.getElem?_set_ne (by omega), List.getElem?_set_self (by first | omega | (simp; omega))], by rw [List.getElem?_set_self (by first | omega | (simp; omega))]⟩, Sup.set (i := i * 4 + 3) (v := u3) (Sup.set (i := i * 4 + 2) (v := u2) (Sup.set (i := i * 4 + 1) (v := u1) (Sup.set (i := i * 4) (v := u0) (hu.low (by omega)) (by omega)) (by omega)) (by omega)) (by omega)⟩
theorem toG_end {w wr : World} {s : List Gl} (hm : s.length ≤ 1048576) (hT : ToG w s s.length wr) : Sup w.heap.size wr (fun W => SlG W (.slice (some ⟨w.heap.size, 0, none⟩) s.length s.length) s) ∧ Below w.heap.size w wr := by
  obtain ⟨xs, h1, h2, h3⟩ := hT
  have hl : xs.length = s.length * 4 := h1.1
  have hsz : w.heap.size < wr.heap.size := (h1.lt _ rfl).2
  refine ⟨fun W hk => ?_, h3⟩
  have o := own_block (w' := W) h1 (fun k e => by
    have e' : w.heap.size = k := by simpa [Value.ownBlock] using e
    exact hk k (by omega) (by omega))
  refine ⟨some ⟨w.heap.size, 0, none⟩, s.length, rfl, Nat.le_refl _, by unfold maxLen; omega, .inr ⟨w.heap.size, 0, rfl, fun i hi => ?_⟩⟩
  obtain ⟨v0, v1, v2, v3, ⟨q0, q1, q2, q3⟩, hs⟩ := h2 i hi hi
  refine ⟨v0, v1, v2, v3, ?_, ?_, ?_, ?_, hs W (fun b h1 h2 => hk b (by omega) h2)⟩
  · rw [Nat.zero_add]; exact (o.cellAt (i * 4) (by omega)).trans q0
  · rw [Nat.zero_add]; exact (o.cellAt (i * 4 + 1) (by omega)).trans q1
  · rw [Nat.zero_add]; exact (o.cellAt (i * 4 + 2) (by omega)).trans q2
  · rw [Nat.zero_add]; exact (o.cellAt (i * 4 + 3) (by omega)).trans q3

set_option maxRecDepth 100000 in
set_option maxHeartbeats 2000000 in
theorem toGS_some (b off cap : Nat) (s : List Gl) (w : World) (hm : s.length ≤ 1048576) (hF : FitG s) (ht : totG s ≤ 1048576) (hA : AtG w b off s) :
    Calls Try.prog 144 #[.slice (some ⟨b, off, none⟩) s.length cap] w fun e w' => e = .returned (.slice (some ⟨w.heap.size, 0, none⟩) s.length s.length) ∧ Sup w.heap.size w' (fun W => SlG W (.slice (some ⟨w.heap.size, 0, none⟩) s.length s.length) s) ∧ Below w.heap.size w w' := by
  obtain ⟨i0, hi, hz0, hz1, hz2⟩ := info_parts Try.infoG
  have hbytes : i0.bytes * s.length ≤ 281474976710656 := by rw [hz2]; omega
  go_enter Try.func144, Try.ntmps144
  go_wp2_with (at_make; refine wpList_make_full _ rfl _ _ 140 rfl w.heap.size 93 i0 _ 4 Try.underlying140 hi hz0 hz1 .i64 .i64 _ _ s.length rfl rfl rfl rfl hbytes (by unfold maxLen; omega) (Nat.le_refl _) ?_; intro w0 hown0 hgr0)
  have hB0 : Below w.heap.size w w0 := (Below.refl _ _).grown hgr0 (Nat.le_refl _) (fun k e => by cases e)
  go_loopw [4] (fun i wr => ∃ (k : Nat), k ≤ s.length ∧ i = .int .i64 k ∧ ToG w s k wr) (fun i _ => s.length - (intOf i).toNat)
  case atStart => exact ⟨0, Nat.zero_le _, rfl, _, hown0, fun i h h' => absurd h' (Nat.not_lt_zero _), hB0⟩
  case round =>
    obtain ⟨k, hk, rfl, hT⟩ := hrel
    have hB : Below w.heap.size w wr := by obtain ⟨_, _, _, h⟩ := hT; exact h
    have HT := hide hT
    clear hT hown0 hgr0 hB0
    by_cases hlt : k < s.length
    · obtain ⟨v0, v1, v2, v3, c0, c1, c2, c3, hv⟩ := (hA.below hB) k hlt
      have H := hide (toGl_any _ v0 v1 v2 v3 wr (hF _ (List.getElem_mem hlt)) (Nat.le_trans (totG_mem (List.getElem_mem hlt)) ht) hv)
      clear hv
      go_wp2_with fail
      refine (unhide H).mono ?_
      rintro e w1 ⟨u0, u1, u2, u3, rfl, hu, hb1⟩
      clear c0 c1 c2 c3 H
      obtain ⟨e0, ⟨xa, xc, e1, _⟩, ⟨ya, yc, e2, _⟩, ⟨za, zc, e3, _⟩⟩ := hu.here
      subst e0 e1 e2 e3
      obtain ⟨⟨a0, a1, a2, a3, d0, d1, d2, d3⟩, ⟨f0, f1, f2, f3⟩, R⟩ := toG_round hlt (unhide HT) hb1 hu
      have HRR := hide R
      clear R hu
      go_wp2
      go_roundw
      case rel => exact ⟨k + 1, by omega, by go_num, unhide HRR⟩
      case measure => simp [intOf]; omega
    · have e : k = s.length := by omega
      subst e
      go_wp2
      go_ret
      exact ⟨rfl, toG_end hm (unhide HT)⟩

set_option maxRecDepth 100000 in
set_option maxHeartbeats 1000000 in
theorem toGS_none (ao : Option Addr) (cap : Nat) (w : World) :
    Calls Try.prog 144 #[.slice ao 0 cap] w fun e w' => e = .returned (.slice (some ⟨w.heap.size, 0, none⟩) 0 0) ∧ Sup w.heap.size w' (fun W => SlG W (.slice (some ⟨w.heap.size, 0, none⟩) 0 0) []) ∧ Below w.heap.size w w' := by
  obtain ⟨i0, hi, hz0, hz1, hz2⟩ := info_parts Try.infoG
  go_enter Try.func144, Try.ntmps144
  go_wp2_with (at_make; refine wpList_make_full _ rfl _ _ 140 rfl w.heap.size 93 i0 _ 4 Try.underlying140 hi hz0 hz1 .i64 .i64 _ _ 0 rfl rfl rfl rfl (by simp) (by unfold maxLen; omega) (Nat.le_refl _) ?_; intro w0 hown0 hgr0)
  have hB0 : Below w.heap.size w w0 := (Below.refl _ _).grown hgr0 (Nat.le_refl _) (fun k e => by cases e)
  refine wp_loop_rounds 1 ?_
  rw [rounds_succ]
  go_wp2
  go_ret
  exact ⟨rfl, toG_end (s := []) (by simp) ⟨_, hown0, fun i h h' => absurd h' (Nat.not_lt_zero _), hB0⟩⟩
theorem toGS_any (v : Value) (s : List Gl) (w : World) (hm : s.length ≤ 1048576) (hF : FitG s) (ht : totG s ≤ 1048576) (hv : SlG w v s) :
    Calls Try.prog 144 #[v] w fun e w' => ∃ g, e = .returned (.slice (some ⟨g, 0, none⟩) s.length s.length) ∧ Sup w.heap.size w' (fun W => SlG W (.slice (some ⟨g, 0, none⟩) s.length s.length) s) ∧ Below w.heap.size w w' := by
  obtain ⟨ao, cap, rfl, h1, h2, hA⟩ := hv
  rcases hA with rfl | ⟨b, off, rfl, hA⟩
  · exact (toGS_none ao cap w).mono fun e w' ⟨h1, h2, h3⟩ => ⟨_, h1, h2, h3⟩
  · exact (toGS_some b off cap s w hm hF ht hA).mono fun e w' ⟨h1, h2, h3⟩ => ⟨_, h1, h2, h3⟩

theorem Try.infoP : (Try.prog.info? 144).map (fun i => (i.zero, i.size, i.bytes)) = some (some (.agg #[.string ByteArray.empty, .int .i64 0, .int .i64 0]), 3, 32) := by kernel_rfl
/-- How far the copying has come. -/
def ToP (w : World) (s : List Pc) (k : Nat) (wr : World) : Prop := ∃ xs, wr.ownsRow w.heap.size 144 3 (.slice (some ⟨w.heap.size, 0, none⟩) s.length s.length) s.length xs ∧
  (∀ i, (h : i < s.length) → i < k → ∃ v0 v1 v2, (xs[i * 3]? = some v0 ∧ xs[i * 3 + 1]? = some v1 ∧ xs[i * 3 + 2]? = some v2) ∧ Sup (w.heap.size + 1) wr (fun W => PcV W s[i] v0 v1 v2)) ∧ Below w.heap.size w wr
theorem toP_round {w wr w1 : World} {s : List Pc} {k : Nat} {u0 u1 u2 : Value} (hk : k < s.length) (hT : ToP w s k wr) (hb1 : Below wr.heap.size wr w1) (hu : Sup wr.heap.size w1 (fun W => PcV W s[k] u0 u1 u2)) :
    (∃ a0 a1 a2, w1.cell? ⟨w.heap.size, k * 3, none⟩ = some a0 ∧ w1.cell? ⟨w.heap.size, k * 3 + 1, none⟩ = some a1 ∧ w1.cell? ⟨w.heap.size, k * 3 + 2, none⟩ = some a2) ∧ (w1.frozen? ⟨w.heap.size, k * 3, none⟩ = false ∧ w1.frozen? ⟨w.heap.size, k * 3 + 1, none⟩ = false ∧ w1.frozen? ⟨w.heap.size, k * 3 + 2, none⟩ = false) ∧
    ToP w s (k + 1) (((w1.setCell ⟨w.heap.size, k * 3, none⟩ u0).setCell ⟨w.heap.size, k * 3 + 1, none⟩ u1).setCell ⟨w.heap.size, k * 3 + 2, none⟩ u2) := by
  obtain ⟨xs, h1, h2, h3⟩ := hT
  have hl : xs.length = s.length * 3 := h1.1
  have hsz : w.heap.size < wr.heap.size := (h1.lt _ rfl).2
  have o1 := own_below h1 hb1
  have h3b := h3.trans (hb1.mono (Nat.le_of_lt hsz))
  have s0 := (o1).stored (k * 3) u0
  have s1 := (s0.1).stored (k * 3 + 1) u1
  have s2 := (s1.1).stored (k * 3 + 2) u2
  refine ⟨⟨_, _, _, (o1.cellAt (k * 3) (by omega)).trans (List.getElem?_eq_getElem (by omega)), (o1.cellAt (k * 3 + 1) (by omega)).trans (List.getElem?_eq_getElem (by omega)), (o1.cellAt (k * 3 + 2) (by omega)).trans (List.getElem?_eq_getElem (by omega))⟩, ⟨o1.frozenAt _, o1.frozenAt _, o1.frozenAt _⟩, ?_⟩
  refine ⟨(((xs.set (k * 3) u0).set (k * 3 + 1) u1).set (k * 3 + 2) u2), s2.1, fun i hi hik => ?_, (((h3b).setCell (p := ⟨w.heap.size, k * 3, none⟩) (Nat.le_refl _) u0).setCell (p := ⟨w.heap.size, k * 3 + 1, none⟩) (Nat.le_refl _) u1).setCell (p := ⟨w.heap.size, k * 3 + 2, none⟩) (Nat.le_refl _) u2⟩
  by_cases e : i < k
  · obtain ⟨v0, v1, v2, ⟨q0, q1, q2⟩, hs⟩ := h2 i hi e
    exact ⟨v0, v1, v2, ⟨by rw [List.getElem?_set_ne (by omega), List.getElem?_set_ne (by omega), List.getElem?_set_ne (by omega)]; exact q0, by rw [List.getElem?_set_ne (by omega), List.getElem?_set_ne (by omega), List.getElem?_set_ne (by omega)]; exact q1, by rw [List.getElem?_set_ne (by omega), List.getElem?_set_ne (by omega), List.getElem?_set_ne (by omega)]; exact q2⟩, Sup.set (i := k * 3 + 2) (v := u2) (Sup.set (i := k * 3 + 1) (v := u1) (Sup.set (i := k * 3) (v := u0) (hs.below hb1) (by omega)) (by omega)) (by omega)⟩
  · obtain rfl : i = k := by omega
    exact ⟨u0, u1, u2, ⟨by rw [List.getElem?_set_ne (by omega), List.getElem?_set_ne (by omega), List.getElem?_set_self (by first | omega | (simp; omega))], by rw [List.getElem?_set_ne (by omega), List.getElem?_set_self (by first | omega | (simp; omega))], by rw [List.getElem?_set_self (by first | omega | (simp; omega))]⟩, Sup.set (i := i * 3 + 2) (v := u2) (Sup.set (i := i * 3 + 1) (v := u1) (Sup.set (i := i * 3) (v := u0) (hu.low (by omega)) (by omega)) (by omega)) (by omega)⟩
theorem toP_end {w wr : World} {s : List Pc} (hm : s.length ≤ 1048576) (hT : ToP w s s.length wr) : Sup w.heap.size wr (fun W => SlP W (.slice (some ⟨w.heap.size, 0, none⟩) s.length s.length) s) ∧ Below w.heap.size w wr := by
  obtain ⟨xs, h1, h2, h3⟩ := hT
  have hl : xs.length = s.length * 3 := h1.1
  have hsz : w.heap.size < wr.heap.size := (h1.lt _ rfl).2
  refine ⟨fun W hk => ?_, h3⟩
  have o := own_block (w' := W) h1 (fun k e => by
    have e' : w.heap.size = k := by simpa [Value.ownBlock] using e
    exact hk k (by omega) (by omega))
  refine ⟨some ⟨w.heap.size, 0, none⟩, s.length, rfl, Nat.le_refl _, by unfold maxLen; omega, .inr ⟨w.heap.size, 0, rfl, fun i hi => ?_⟩⟩
  obtain ⟨v0, v1, v2, ⟨q0, q1, q2⟩, hs⟩ := h2 i hi hi
  refine ⟨v0, v1, v2, ?_, ?_, ?_, hs W (fun b h1 h2 => hk b (by omega) h2)⟩
  · rw [Nat.zero_add]; exact (o.cellAt (i * 3) (by omega)).trans q0
  · rw [Nat.zero_add]; exact (o.cellAt (i * 3 + 1) (by omega)).trans q1
  · rw [Nat.zero_add]; exact (o.cellAt (i * 3 + 2) (by omega)).trans q2

set_option maxRecDepth 100000 in
set_option maxHeartbeats 2000000 in
theorem toPS_some (b off cap : Nat) (s : List Pc) (w : World) (hm : s.length ≤ 1048576) (hF : FitP s) (ht : totP s ≤ 1048576) (hA : AtP w b off s) :
    Calls Try.prog 46 #[.slice (some ⟨b, off, none⟩) s.length cap] w fun e w' => e = .returned (.slice (some ⟨w.heap.size, 0, none⟩) s.length s.length) ∧ Sup w.heap.size w' (fun W => SlP W (.slice (some ⟨w.heap.size, 0, none⟩) s.length s.length) s) ∧ Below w.heap.size w w' := by
  obtain ⟨i0, hi, hz0, hz1, hz2⟩ := info_parts Try.infoP
  have hbytes : i0.bytes * s.length ≤ 281474976710656 := by rw [hz2]; omega
  go_enter Try.func46, Try.ntmps46
  go_wp2_with (at_make; refine wpList_make_full _ rfl _ _ 28 rfl w.heap.size 144 i0 _ 3 Try.underlying28 hi hz0 hz1 .i64 .i64 _ _ s.length rfl rfl rfl rfl hbytes (by unfold maxLen; omega) (Nat.le_refl _) ?_; intro w0 hown0 hgr0)
  have hB0 : Below w.heap.size w w0 := (Below.refl _ _).grown hgr0 (Nat.le_refl _) (fun k e => by cases e)
  go_loopw [4] (fun i wr => ∃ (k : Nat), k ≤ s.length ∧ i = .int .i64 k ∧ ToP w s k wr) (fun i _ => s.length - (intOf i).toNat)
  case atStart => exact ⟨0, Nat.zero_le _, rfl, _, hown0, fun i h h' => absurd h' (Nat.not_lt_zero _), hB0⟩
  case round =>
    obtain ⟨k, hk, rfl, hT⟩ := hrel
    have hB : Below w.heap.size w wr := by obtain ⟨_, _, _, h⟩ := hT; exact h
    have HT := hide hT
    clear hT hown0 hgr0 hB0
    by_cases hlt : k < s.length
    · obtain ⟨v0, v1, v2, c0, c1, c2, hv⟩ := (hA.below hB) k hlt
      have H := hide (toPc_any _ v0 v1 v2 wr (hF _ (List.getElem_mem hlt)) (Nat.le_trans (totP_mem (List.getElem_mem hlt)) ht) hv)
      clear hv
      go_wp2_with fail
      refine (unhide H).mono ?_
      rintro e w1 ⟨u0, u1, u2, rfl, hu, hb1⟩
      clear c0 c1 c2 H
      obtain ⟨e0, e1, e2⟩ := hu.here
      subst e0 e1 e2
      obtain ⟨⟨a0, a1, a2, d0, d1, d2⟩, ⟨f0, f1, f2⟩, R⟩ := toP_round hlt (unhide HT) hb1 hu
      have HRR := hide R
      clear R hu
      go_wp2
      go_roundw
      case rel => exact ⟨k + 1, by omega, by go_num, unhide HRR⟩
      case measure => simp [intOf]; omega
    · have e : k = s.length := by omega
      subst e
      go_wp2
      go_ret
      exact ⟨rfl, toP_end hm (unhide HT)⟩

set_option maxRecDepth 100000 in
set_option maxHeartbeats 1000000 in
theorem toPS_none (ao : Option Addr) (cap : Nat) (w : World) :
    Calls Try.prog 46 #[.slice ao 0 cap] w fun e w' => e = .returned (.slice (some ⟨w.heap.size, 0, none⟩) 0 0) ∧ Sup w.heap.size w' (fun W => SlP W (.slice (some ⟨w.heap.size, 0, none⟩) 0 0) []) ∧ Below w.heap.size w w' := by
  obtain ⟨i0, hi, hz0, hz1, hz2⟩ := info_parts Try.infoP
  go_enter Try.func46, Try.ntmps46
  go_wp2_with (at_make; refine wpList_make_full _ rfl _ _ 28 rfl w.heap.size 144 i0 _ 3 Try.underlying28 hi hz0 hz1 .i64 .i64 _ _ 0 rfl rfl rfl rfl (by simp) (by unfold maxLen; omega) (Nat.le_refl _) ?_; intro w0 hown0 hgr0)
  have hB0 : Below w.heap.size w w0 := (Below.refl _ _).grown hgr0 (Nat.le_refl _) (fun k e => by cases e)
  refine wp_loop_rounds 1 ?_
  rw [rounds_succ]
  go_wp2
  go_ret
  exact ⟨rfl, toP_end (s := []) (by simp) ⟨_, hown0, fun i h h' => absurd h' (Nat.not_lt_zero _), hB0⟩⟩
theorem toPS_any (v : Value) (s : List Pc) (w : World) (hm : s.length ≤ 1048576) (hF : FitP s) (ht : totP s ≤ 1048576) (hv : SlP w v s) :
    Calls Try.prog 46 #[v] w fun e w' => ∃ g, e = .returned (.slice (some ⟨g, 0, none⟩) s.length s.length) ∧ Sup w.heap.size w' (fun W => SlP W (.slice (some ⟨g, 0, none⟩) s.length s.length) s) ∧ Below w.heap.size w w' := by
  obtain ⟨ao, cap, rfl, h1, h2, hA⟩ := hv
  rcases hA with rfl | ⟨b, off, rfl, hA⟩
  · exact (toPS_none ao cap w).mono fun e w' ⟨h1, h2, h3⟩ => ⟨_, h1, h2, h3⟩
  · exact (toPS_some b off cap s w hm hF ht hA).mono fun e w' ⟨h1, h2, h3⟩ => ⟨_, h1, h2, h3⟩

set_option maxRecDepth 100000 in
set_option maxHeartbeats 2000000 in
theorem toCl_any (x : Cl) (v0 v1 : Value) (w : World) (hF : FitCl x) (hs : szCl x ≤ 1048576) (hv : ClV w x v0 v1) :
    Calls Try.prog 101 #[.agg #[v0, v1]] w fun e w' => ∃ u0 u1, e = .returned (.agg #[u0, u1]) ∧ Sup w.heap.size w' (fun W => ClV W x u0 u1) ∧ Below w.heap.size w w' := by
  unfold szCl at hs
  have H1 := hide (fun (W : World) (hW : Below w.heap.size w W) => toSlC_any v0 x.h W (by omega) (hv.1.below hW))
  have H2 := hide (fun (W : World) (hW : Below w.heap.size w W) => toGS_any v1 x.g W (by omega) hF.2 (by omega) (hv.2.below hW))
  obtain ⟨xa, xc, e0, _⟩ := hv.1
  obtain ⟨ya, yc, e1, _⟩ := hv.2
  clear hv hF hs
  subst e0 e1
  go_enter Try.func101, Try.ntmps101
  go_wp2_with fail
  obtain ⟨W, hW⟩ : ∃ W, W = ((w.alloc (Obj.cells #[.slice xa x.h.length xc, .slice ya x.g.length yc] 135)).alloc (Obj.cells #[.slice none 0 0, .slice none 0 0] 142)).alloc (Obj.cells #[.slice none 0 0, .slice none 0 0] 142) := ⟨_, rfl⟩
  have hB0 : Below w.heap.size w W := by rw [hW]; exact below3 _ _ _ _
  have hsz : W.heap.size = w.heap.size + 3 := by rw [hW]; simp
  have A1 : W.cell? ⟨w.heap.size, 1, none⟩ = some (.slice ya x.g.length yc) := by rw [hW]; simp [go_sem]
  have c0 : W.cell? ⟨w.heap.size + 1 + 1, 0, none⟩ = some (.slice none 0 0) := by rw [hW]; simp [go_sem]
  have z0 : W.cell? ⟨w.heap.size + 1, 0, none⟩ = some (.slice none 0 0) := by rw [hW]; simp [go_sem]
  have f0 : W.frozen? ⟨w.heap.size + 1 + 1, 0, none⟩ = false := by rw [hW]; simp [go_sem]
  have y0 : W.frozen? ⟨w.heap.size + 1, 0, none⟩ = false := by rw [hW]; simp [go_sem]
  have c1 : W.cell? ⟨w.heap.size + 1 + 1, 1, none⟩ = some (.slice none 0 0) := by rw [hW]; simp [go_sem]
  have z1 : W.cell? ⟨w.heap.size + 1, 1, none⟩ = some (.slice none 0 0) := by rw [hW]; simp [go_sem]
  have f1 : W.frozen? ⟨w.heap.size + 1 + 1, 1, none⟩ = false := by rw [hW]; simp [go_sem]
  have y1 : W.frozen? ⟨w.heap.size + 1, 1, none⟩ = false := by rw [hW]; simp [go_sem]
  rw [← hW]
  clear hW
  have q0 : w.heap.size < W.heap.size := by omega
  have q1 : w.heap.size + 1 < W.heap.size := by omega
  have q2 : w.heap.size + 1 + 1 < W.heap.size := by omega
  clear hsz
  refine (unhide H1 W hB0).mono ?_
  rintro e w1 ⟨g1, rfl, P1, hb1⟩
  replace A1 := (hb1.cell (p := ⟨w.heap.size, 1, none⟩) q0).trans A1
  replace c0 := (hb1.cell (p := ⟨w.heap.size + 1 + 1, 0, none⟩) q2).trans c0
  replace z0 := (hb1.cell (p := ⟨w.heap.size + 1, 0, none⟩) q1).trans z0
  replace f0 := (hb1.frozen (p := ⟨w.heap.size + 1 + 1, 0, none⟩) q2).trans f0
  replace y0 := (hb1.frozen (p := ⟨w.heap.size + 1, 0, none⟩) q1).trans y0
  replace c1 := (hb1.cell (p := ⟨w.heap.size + 1 + 1, 1, none⟩) q2).trans c1
  replace z1 := (hb1.cell (p := ⟨w.heap.size + 1, 1, none⟩) q1).trans z1
  replace f1 := (hb1.frozen (p := ⟨w.heap.size + 1 + 1, 1, none⟩) q2).trans f1
  replace y1 := (hb1.frozen (p := ⟨w.heap.size + 1, 1, none⟩) q1).trans y1
  have hB1 := bstep hB0 hb1
  have l1 := hb1.size
  go_wp2_with fail
  obtain ⟨V, hV⟩ : ∃ V, V = w1.setCell ⟨w.heap.size + 1 + 1, 0, none⟩ (.slice (some ⟨g1, 0, none⟩) x.h.length x.h.length) := ⟨_, rfl⟩
  rw [← hV]
  have hsV : V.heap.size = w1.heap.size := by rw [hV]; simp
  replace c0 : V.cell? ⟨w.heap.size + 1 + 1, 0, none⟩ = some (.slice (some ⟨g1, 0, none⟩) x.h.length x.h.length) := by rw [hV]; simp [go_sem, c0, f0]
  replace c1 : V.cell? ⟨w.heap.size + 1 + 1, 1, none⟩ = some (.slice none 0 0) := by rw [hV]; simp [go_sem, c1]
  replace z0 : V.cell? ⟨w.heap.size + 1, 0, none⟩ = some (.slice none 0 0) := by rw [hV]; simp [go_sem, z0]
  replace z1 : V.cell? ⟨w.heap.size + 1, 1, none⟩ = some (.slice none 0 0) := by rw [hV]; simp [go_sem, z1]
  replace f0 : V.frozen? ⟨w.heap.size + 1 + 1, 0, none⟩ = false := by rw [hV]; simp [go_sem, f0]
  replace f1 : V.frozen? ⟨w.heap.size + 1 + 1, 1, none⟩ = false := by rw [hV]; simp [go_sem, f1]
  replace y0 : V.frozen? ⟨w.heap.size + 1, 0, none⟩ = false := by rw [hV]; simp [go_sem, y0]
  replace y1 : V.frozen? ⟨w.heap.size + 1, 1, none⟩ = false := by rw [hV]; simp [go_sem, y1]
  have hBV : Below w.heap.size w V := by rw [hV]; exact hB1.setCell (p := ⟨w.heap.size + 1 + 1, 0, none⟩) (by simp; omega) _
  have P1V := P1.set (i := 0) (v := (.slice (some ⟨g1, 0, none⟩) x.h.length x.h.length)) q2
  rw [← hV] at P1V
  have r1 : w.heap.size + 1 < V.heap.size := by omega
  have r2 : w.heap.size + 1 + 1 < V.heap.size := by omega
  clear hV P1 hB1 hb1 A1
  refine (unhide H2 V hBV).mono ?_
  rintro e w2 ⟨g2, rfl, P2, hb2⟩
  replace c0 := (hb2.cell (p := ⟨w.heap.size + 1 + 1, 0, none⟩) r2).trans c0
  replace z0 := (hb2.cell (p := ⟨w.heap.size + 1, 0, none⟩) r1).trans z0
  replace f0 := (hb2.frozen (p := ⟨w.heap.size + 1 + 1, 0, none⟩) r2).trans f0
  replace y0 := (hb2.frozen (p := ⟨w.heap.size + 1, 0, none⟩) r1).trans y0
  replace c1 := (hb2.cell (p := ⟨w.heap.size + 1 + 1, 1, none⟩) r2).trans c1
  replace z1 := (hb2.cell (p := ⟨w.heap.size + 1, 1, none⟩) r1).trans z1
  replace f1 := (hb2.frozen (p := ⟨w.heap.size + 1 + 1, 1, none⟩) r2).trans f1
  replace y1 := (hb2.frozen (p := ⟨w.heap.size + 1, 1, none⟩) r1).trans y1
  have hB2 := bstep hBV hb2
  have P1W := P1V.below hb2
  have l2 := hb2.size
  have FS : Hid (Sup w.heap.size (((w2.setCell ⟨w.heap.size + 1 + 1, 1, none⟩ (.slice (some ⟨g2, 0, none⟩) x.g.length x.g.length)).setCell ⟨w.heap.size + 1, 0, none⟩ (.slice (some ⟨g1, 0, none⟩) x.h.length x.h.length)).setCell ⟨w.heap.size + 1, 1, none⟩ (.slice (some ⟨g2, 0, none⟩) x.g.length x.g.length)) (fun W => ClV W x (.slice (some ⟨g1, 0, none⟩) x.h.length x.h.length) (.slice (some ⟨g2, 0, none⟩) x.g.length x.g.length))) := fun w' hk =>
    ⟨((((P1W.set (i := 1) (v := (.slice (some ⟨g2, 0, none⟩) x.g.length x.g.length)) q2).set (i := 0) (v := (.slice (some ⟨g1, 0, none⟩) x.h.length x.h.length)) q1).set (i := 1) (v := (.slice (some ⟨g2, 0, none⟩) x.g.length x.g.length)) q1).low (by omega)) w' hk, ((((P2.set (i := 1) (v := (.slice (some ⟨g2, 0, none⟩) x.g.length x.g.length)) r2).set (i := 0) (v := (.slice (some ⟨g1, 0, none⟩) x.h.length x.h.length)) r1).set (i := 1) (v := (.slice (some ⟨g2, 0, none⟩) x.g.length x.g.length)) r1).low (by omega)) w' hk⟩
  have FB : Hid (Below w.heap.size w (((w2.setCell ⟨w.heap.size + 1 + 1, 1, none⟩ (.slice (some ⟨g2, 0, none⟩) x.g.length x.g.length)).setCell ⟨w.heap.size + 1, 0, none⟩ (.slice (some ⟨g1, 0, none⟩) x.h.length x.h.length)).setCell ⟨w.heap.size + 1, 1, none⟩ (.slice (some ⟨g2, 0, none⟩) x.g.length x.g.length))) := ((hB2.setCell (p := ⟨w.heap.size + 1 + 1, 1, none⟩) (by simp; omega) _).setCell (p := ⟨w.heap.size + 1, 0, none⟩) (by simp) _).setCell (p := ⟨w.heap.size + 1, 1, none⟩) (by simp) _
  clear P1V P1W P2 hB2 hb2 hBV hB0 H1 H2
  go_wp2
  exact bodyPost_ret (v := .agg #[(.slice (some ⟨g1, 0, none⟩) x.h.length x.h.length), (.slice (some ⟨g2, 0, none⟩) x.g.length x.g.length)]) (by simp [results, Try.results101, go_sem, *]) rfl ⟨_, _, rfl, unhide FS, unhide FB⟩

theorem Try.infoK : (Try.prog.info? 142).map (fun i => (i.zero, i.size, i.bytes)) = some (some (.agg #[.slice none 0 0, .slice none 0 0]), 2, 48) := by kernel_rfl
/-- How far the copying has come. -/
def ToK (w : World) (s : List Cl) (k : Nat) (wr : World) : Prop := ∃ xs, wr.ownsRow w.heap.size 142 2 (.slice (some ⟨w.heap.size, 0, none⟩) s.length s.length) s.length xs ∧
  (∀ i, (h : i < s.length) → i < k → ∃ v0 v1, (xs[i * 2]? = some v0 ∧ xs[i * 2 + 1]? = some v1) ∧ Sup (w.heap.size + 1) wr (fun W => ClV W s[i] v0 v1)) ∧ Below w.heap.size w wr
theorem toK_round {w wr w1 : World} {s : List Cl} {k : Nat} {u0 u1 : Value} (hk : k < s.length) (hT : ToK w s k wr) (hb1 : Below wr.heap.size wr w1) (hu : Sup wr.heap.size w1 (fun W => ClV W s[k] u0 u1)) :
    (∃ a0 a1, w1.cell? ⟨w.heap.size, k * 2, none⟩ = some a0 ∧ w1.cell? ⟨w.heap.size, k * 2 + 1, none⟩ = some a1) ∧ (w1.frozen? ⟨w.heap.size, k * 2, none⟩ = false ∧ w1.frozen? ⟨w.heap.size, k * 2 + 1, none⟩ = false) ∧
    ToK w s (k + 1) ((w1.setCell ⟨w.heap.size, k * 2, none⟩ u0).setCell ⟨w.heap.size, k * 2 + 1, none⟩ u1) := by
  obtain ⟨xs, h1, h2, h3⟩ := hT
  have hl : xs.length = s.length * 2 := h1.1
  have hsz : w.heap.size < wr.heap.size := (h1.lt _ rfl).2
  have o1 := own_below h1 hb1
  have h3b := h3.trans (hb1.mono (Nat.le_of_lt hsz))
  have s0 := (o1).stored (k * 2) u0
  have s1 := (s0.1).stored (k * 2 + 1) u1
  refine ⟨⟨_, _, (o1.cellAt (k * 2) (by omega)).trans (List.getElem?_eq_getElem (by omega)), (o1.cellAt (k * 2 + 1) (by omega)).trans (List.getElem?_eq_getElem (by omega))⟩, ⟨o1.frozenAt _, o1.frozenAt _⟩, ?_⟩
  refine ⟨((xs.set (k * 2) u0).set (k * 2 + 1) u1), s1.1, fun i hi hik => ?_, ((h3b).setCell (p := ⟨w.heap.size, k * 2, none⟩) (Nat.le_refl _) u0).setCell (p := ⟨w.heap.size, k * 2 + 1, none⟩) (Nat.le_refl _) u1⟩
  by_cases e : i < k
  · obtain ⟨v0, v1, ⟨q0, q1⟩, hs⟩ := h2 i hi e
    exact ⟨v0, v1, ⟨by rw [List.getElem?_set_ne (by omega), List.getElem?_set_ne (by omega)]; exact q0, by rw [List.getElem?_set_ne (by omega), List.getElem?_set_ne (by omega)]; exact q1⟩, Sup.set (i := k * 2 + 1) (v := u1) (Sup.set (i := k * 2) (v := u0) (hs.below hb1) (by omega)) (by omega)⟩
  · obtain rfl : i = k := by omega
    exact ⟨u0, u1, ⟨by rw [List.getElem?_set_ne (by omega), List.getElem?_set_self (by first | omega | (simp; omega))], by rw [List.getElem?_set_self (by first | omega | (simp; omega))]⟩, Sup.set (i := i * 2 + 1) (v := u1) (Sup.set (i := i * 2) (v := u0) (hu.low (by omega)) (by omega)) (by omega)⟩
theorem toK_end {w wr : World} {s : List Cl} (hm : s.length ≤ 1048576) (hT : ToK w s s.length wr) : Sup w.heap.size wr (fun W => SlK W (.slice (some ⟨w.heap.size, 0, none⟩) s.length s.length) s) ∧ Below w.heap.size w wr := by
  obtain ⟨xs, h1, h2, h3⟩ := hT
  have hl : xs.length = s.length * 2 := h1.1
  have hsz : w.heap.size < wr.heap.size := (h1.lt _ rfl).2
  refine ⟨fun W hk => ?_, h3⟩
  have o := own_block (w' := W) h1 (fun k e => by
    have e' : w.heap.size = k := by simpa [Value.ownBlock] using e
    exact hk k (by omega) (by omega))
  refine ⟨some ⟨w.heap.size, 0, none⟩, s.length, rfl, Nat.le_refl _, by unfold maxLen; omega, .inr ⟨w.heap.size, 0, rfl, fun i hi => ?_⟩⟩
  obtain ⟨v0, v1, ⟨q0, q1⟩, hs⟩ := h2 i hi hi
  refine ⟨v0, v1, ?_, ?_, hs W (fun b h1 h2 => hk b (by omega) h2)⟩
  · rw [Nat.zero_add]; exact (o.cellAt (i * 2) (by omega)).trans q0
  · rw [Nat.zero_add]; exact (o.cellAt (i * 2 + 1) (by omega)).trans q1

set_option maxRecDepth 100000 in
set_option maxHeartbeats 2000000 in
theorem toKS_some (b off cap : Nat) (s : List Cl) (w : World) (hm : s.length ≤ 1048576) (hF : FitK s) (ht : totK s ≤ 1048576) (hA : AtK w b off s) :
    Calls Try.prog 45 #[.slice (some ⟨b, off, none⟩) s.length cap] w fun e w' => e = .returned (.slice (some ⟨w.heap.size, 0, none⟩) s.length s.length) ∧ Sup w.heap.size w' (fun W => SlK W (.slice (some ⟨w.heap.size, 0, none⟩) s.length s.length) s) ∧ Below w.heap.size w w' := by
  obtain ⟨i0, hi, hz0, hz1, hz2⟩ := info_parts Try.infoK
  have hbytes : i0.bytes * s.length ≤ 281474976710656 := by rw [hz2]; omega
  go_enter Try.func45, Try.ntmps45
  go_wp2_with (at_make; refine wpList_make_full _ rfl _ _ 27 rfl w.heap.size 142 i0 _ 2 Try.underlying27 hi hz0 hz1 .i64 .i64 _ _ s.length rfl rfl rfl rfl hbytes (by unfold maxLen; omega) (Nat.le_refl _) ?_; intro w0 hown0 hgr0)
  have hB0 : Below w.heap.size w w0 := (Below.refl _ _).grown hgr0 (Nat.le_refl _) (fun k e => by cases e)
  go_loopw [4] (fun i wr => ∃ (k : Nat), k ≤ s.length ∧ i = .int .i64 k ∧ ToK w s k wr) (fun i _ => s.length - (intOf i).toNat)
  case atStart => exact ⟨0, Nat.zero_le _, rfl, _, hown0, fun i h h' => absurd h' (Nat.not_lt_zero _), hB0⟩
  case round =>
    obtain ⟨k, hk, rfl, hT⟩ := hrel
    have hB : Below w.heap.size w wr := by obtain ⟨_, _, _, h⟩ := hT; exact h
    have HT := hide hT
    clear hT hown0 hgr0 hB0
    by_cases hlt : k < s.length
    · obtain ⟨v0, v1, c0, c1, hv⟩ := (hA.below hB) k hlt
      have H := hide (toCl_any _ v0 v1 wr (hF _ (List.getElem_mem hlt)) (Nat.le_trans (totK_mem (List.getElem_mem hlt)) ht) hv)
      clear hv
      go_wp2_with fail
      refine (unhide H).mono ?_
      rintro e w1 ⟨u0, u1, rfl, hu, hb1⟩
      clear c0 c1 H
      obtain ⟨⟨xa, xc, e0, _⟩, ⟨ya, yc, e1, _⟩⟩ := hu.here
      subst e0 e1
      obtain ⟨⟨a0, a1, d0, d1⟩, ⟨f0, f1⟩, R⟩ := toK_round hlt (unhide HT) hb1 hu
      have HRR := hide R
      clear R hu
      go_wp2
      go_roundw
      case rel => exact ⟨k + 1, by omega, by go_num, unhide HRR⟩
      case measure => simp [intOf]; omega
    · have e : k = s.length := by omega
      subst e
      go_wp2
      go_ret
      exact ⟨rfl, toK_end hm (unhide HT)⟩

set_option maxRecDepth 100000 in
set_option maxHeartbeats 1000000 in
theorem toKS_none (ao : Option Addr) (cap : Nat) (w : World) :
    Calls Try.prog 45 #[.slice ao 0 cap] w fun e w' => e = .returned (.slice (some ⟨w.heap.size, 0, none⟩) 0 0) ∧ Sup w.heap.size w' (fun W => SlK W (.slice (some ⟨w.heap.size, 0, none⟩) 0 0) []) ∧ Below w.heap.size w w' := by
  obtain ⟨i0, hi, hz0, hz1, hz2⟩ := info_parts Try.infoK
  go_enter Try.func45, Try.ntmps45
  go_wp2_with (at_make; refine wpList_make_full _ rfl _ _ 27 rfl w.heap.size 142 i0 _ 2 Try.underlying27 hi hz0 hz1 .i64 .i64 _ _ 0 rfl rfl rfl rfl (by simp) (by unfold maxLen; omega) (Nat.le_refl _) ?_; intro w0 hown0 hgr0)
  have hB0 : Below w.heap.size w w0 := (Below.refl _ _).grown hgr0 (Nat.le_refl _) (fun k e => by cases e)
  refine wp_loop_rounds 1 ?_
  rw [rounds_succ]
  go_wp2
  go_ret
  exact ⟨rfl, toK_end (s := []) (by simp) ⟨_, hown0, fun i h h' => absurd h' (Nat.not_lt_zero _), hB0⟩⟩
theorem toKS_any (v : Value) (s : List Cl) (w : World) (hm : s.length ≤ 1048576) (hF : FitK s) (ht : totK s ≤ 1048576) (hv : SlK w v s) :
    Calls Try.prog 45 #[v] w fun e w' => ∃ g, e = .returned (.slice (some ⟨g, 0, none⟩) s.length s.length) ∧ Sup w.heap.size w' (fun W => SlK W (.slice (some ⟨g, 0, none⟩) s.length s.length) s) ∧ Below w.heap.size w w' := by
  obtain ⟨ao, cap, rfl, h1, h2, hA⟩ := hv
  rcases hA with rfl | ⟨b, off, rfl, hA⟩
  · exact (toKS_none ao cap w).mono fun e w' ⟨h1, h2, h3⟩ => ⟨_, h1, h2, h3⟩
  · exact (toKS_some b off cap s w hm hF ht hA).mono fun e w' ⟨h1, h2, h3⟩ => ⟨_, h1, h2, h3⟩

set_option maxRecDepth 100000 in
set_option maxHeartbeats 2000000 in
theorem toPg_any (x : Pg) (v0 v1 : Value) (w : World) (hF : FitPg x) (hs : szPg x ≤ 1048576) (hv : PgV w x v0 v1) :
    Calls Try.prog 11 #[.agg #[v0, v1]] w fun e w' => ∃ u0 u1, e = .returned (.agg #[u0, u1]) ∧ Sup w.heap.size w' (fun W => PgV W x u0 u1) ∧ Below w.heap.size w w' := by
  unfold szPg at hs
  have H1 := hide (fun (W : World) (hW : Below w.heap.size w W) => toKS_any v0 x.cs W (by omega) hF.1 (by omega) (hv.1.below hW))
  have H2 := hide (fun (W : World) (hW : Below w.heap.size w W) => toPS_any v1 x.ps W (by omega) hF.2 (by omega) (hv.2.below hW))
  obtain ⟨xa, xc, e0, _⟩ := hv.1
  obtain ⟨ya, yc, e1, _⟩ := hv.2
  clear hv hF hs
  subst e0 e1
  go_enter Try.func11, Try.ntmps11
  go_wp2_with fail
  obtain ⟨W, hW⟩ : ∃ W, W = ((w.alloc (Obj.cells #[.slice xa x.cs.length xc, .slice ya x.ps.length yc] 25)).alloc (Obj.cells #[.slice none 0 0, .slice none 0 0] 30)).alloc (Obj.cells #[.slice none 0 0, .slice none 0 0] 30) := ⟨_, rfl⟩
  have hB0 : Below w.heap.size w W := by rw [hW]; exact below3 _ _ _ _
  have hsz : W.heap.size = w.heap.size + 3 := by rw [hW]; simp
  have A1 : W.cell? ⟨w.heap.size, 1, none⟩ = some (.slice ya x.ps.length yc) := by rw [hW]; simp [go_sem]
  have c0 : W.cell? ⟨w.heap.size + 1 + 1, 0, none⟩ = some (.slice none 0 0) := by rw [hW]; simp [go_sem]
  have z0 : W.cell? ⟨w.heap.size + 1, 0, none⟩ = some (.slice none 0 0) := by rw [hW]; simp [go_sem]
  have f0 : W.frozen? ⟨w.heap.size + 1 + 1, 0, none⟩ = false := by rw [hW]; simp [go_sem]
  have y0 : W.frozen? ⟨w.heap.size + 1, 0, none⟩ = false := by rw [hW]; simp [go_sem]
  have c1 : W.cell? ⟨w.heap.size + 1 + 1, 1, none⟩ = some (.slice none 0 0) := by rw [hW]; simp [go_sem]
  have z1 : W.cell? ⟨w.heap.size + 1, 1, none⟩ = some (.slice none 0 0) := by rw [hW]; simp [go_sem]
  have f1 : W.frozen? ⟨w.heap.size + 1 + 1, 1, none⟩ = false := by rw [hW]; simp [go_sem]
  have y1 : W.frozen? ⟨w.heap.size + 1, 1, none⟩ = false := by rw [hW]; simp [go_sem]
  rw [← hW]
  clear hW
  have q0 : w.heap.size < W.heap.size := by omega
  have q1 : w.heap.size + 1 < W.heap.size := by omega
  have q2 : w.heap.size + 1 + 1 < W.heap.size := by omega
  clear hsz
  refine (unhide H1 W hB0).mono ?_
  rintro e w1 ⟨g1, rfl, P1, hb1⟩
  replace A1 := (hb1.cell (p := ⟨w.heap.size, 1, none⟩) q0).trans A1
  replace c0 := (hb1.cell (p := ⟨w.heap.size + 1 + 1, 0, none⟩) q2).trans c0
  replace z0 := (hb1.cell (p := ⟨w.heap.size + 1, 0, none⟩) q1).trans z0
  replace f0 := (hb1.frozen (p := ⟨w.heap.size + 1 + 1, 0, none⟩) q2).trans f0
  replace y0 := (hb1.frozen (p := ⟨w.heap.size + 1, 0, none⟩) q1).trans y0
  replace c1 := (hb1.cell (p := ⟨w.heap.size + 1 + 1, 1, none⟩) q2).trans c1
  replace z1 := (hb1.cell (p := ⟨w.heap.size + 1, 1, none⟩) q1).trans z1
  replace f1 := (hb1.frozen (p := ⟨w.heap.size + 1 + 1, 1, none⟩) q2).trans f1
  replace y1 := (hb1.frozen (p := ⟨w.heap.size + 1, 1, none⟩) q1).trans y1
  have hB1 := bstep hB0 hb1
  have l1 := hb1.size
  go_wp2_with fail
  obtain ⟨V, hV⟩ : ∃ V, V = w1.setCell ⟨w.heap.size + 1 + 1, 0, none⟩ (.slice (some ⟨g1, 0, none⟩) x.cs.length x.cs.length) := ⟨_, rfl⟩
  rw [← hV]
  have hsV : V.heap.size = w1.heap.size := by rw [hV]; simp
  replace c0 : V.cell? ⟨w.heap.size + 1 + 1, 0, none⟩ = some (.slice (some ⟨g1, 0, none⟩) x.cs.length x.cs.length) := by rw [hV]; simp [go_sem, c0, f0]
  replace c1 : V.cell? ⟨w.heap.size + 1 + 1, 1, none⟩ = some (.slice none 0 0) := by rw [hV]; simp [go_sem, c1]
  replace z0 : V.cell? ⟨w.heap.size + 1, 0, none⟩ = some (.slice none 0 0) := by rw [hV]; simp [go_sem, z0]
  replace z1 : V.cell? ⟨w.heap.size + 1, 1, none⟩ = some (.slice none 0 0) := by rw [hV]; simp [go_sem, z1]
  replace f0 : V.frozen? ⟨w.heap.size + 1 + 1, 0, none⟩ = false := by rw [hV]; simp [go_sem, f0]
  replace f1 : V.frozen? ⟨w.heap.size + 1 + 1, 1, none⟩ = false := by rw [hV]; simp [go_sem, f1]
  replace y0 : V.frozen? ⟨w.heap.size + 1, 0, none⟩ = false := by rw [hV]; simp [go_sem, y0]
  replace y1 : V.frozen? ⟨w.heap.size + 1, 1, none⟩ = false := by rw [hV]; simp [go_sem, y1]
  have hBV : Below w.heap.size w V := by rw [hV]; exact hB1.setCell (p := ⟨w.heap.size + 1 + 1, 0, none⟩) (by simp; omega) _
  have P1V := P1.set (i := 0) (v := (.slice (some ⟨g1, 0, none⟩) x.cs.length x.cs.length)) q2
  rw [← hV] at P1V
  have r1 : w.heap.size + 1 < V.heap.size := by omega
  have r2 : w.heap.size + 1 + 1 < V.heap.size := by omega
  clear hV P1 hB1 hb1 A1
  refine (unhide H2 V hBV).mono ?_
  rintro e w2 ⟨g2, rfl, P2, hb2⟩
  replace c0 := (hb2.cell (p := ⟨w.heap.size + 1 + 1, 0, none⟩) r2).trans c0
  replace z0 := (hb2.cell (p := ⟨w.heap.size + 1, 0, none⟩) r1).trans z0
  replace f0 := (hb2.frozen (p := ⟨w.heap.size + 1 + 1, 0, none⟩) r2).trans f0
  replace y0 := (hb2.frozen (p := ⟨w.heap.size + 1, 0, none⟩) r1).trans y0
  replace c1 := (hb2.cell (p := ⟨w.heap.size + 1 + 1, 1, none⟩) r2).trans c1
  replace z1 := (hb2.cell (p := ⟨w.heap.size + 1, 1, none⟩) r1).trans z1
  replace f1 := (hb2.frozen (p := ⟨w.heap.size + 1 + 1, 1, none⟩) r2).trans f1
  replace y1 := (hb2.frozen (p := ⟨w.heap.size + 1, 1, none⟩) r1).trans y1
  have hB2 := bstep hBV hb2
  have P1W := P1V.below hb2
  have l2 := hb2.size
  have FS : Hid (Sup w.heap.size (((w2.setCell ⟨w.heap.size + 1 + 1, 1, none⟩ (.slice (some ⟨g2, 0, none⟩) x.ps.length x.ps.length)).setCell ⟨w.heap.size + 1, 0, none⟩ (.slice (some ⟨g1, 0, none⟩) x.cs.length x.cs.length)).setCell ⟨w.heap.size + 1, 1, none⟩ (.slice (some ⟨g2, 0, none⟩) x.ps.length x.ps.length)) (fun W => PgV W x (.slice (some ⟨g1, 0, none⟩) x.cs.length x.cs.length) (.slice (some ⟨g2, 0, none⟩) x.ps.length x.ps.length))) := fun w' hk =>
    ⟨((((P1W.set (i := 1) (v := (.slice (some ⟨g2, 0, none⟩) x.ps.length x.ps.length)) q2).set (i := 0) (v := (.slice (some ⟨g1, 0, none⟩) x.cs.length x.cs.length)) q1).set (i := 1) (v := (.slice (some ⟨g2, 0, none⟩) x.ps.length x.ps.length)) q1).low (by omega)) w' hk, ((((P2.set (i := 1) (v := (.slice (some ⟨g2, 0, none⟩) x.ps.length x.ps.length)) r2).set (i := 0) (v := (.slice (some ⟨g1, 0, none⟩) x.cs.length x.cs.length)) r1).set (i := 1) (v := (.slice (some ⟨g2, 0, none⟩) x.ps.length x.ps.length)) r1).low (by omega)) w' hk⟩
  have FB : Hid (Below w.heap.size w (((w2.setCell ⟨w.heap.size + 1 + 1, 1, none⟩ (.slice (some ⟨g2, 0, none⟩) x.ps.length x.ps.length)).setCell ⟨w.heap.size + 1, 0, none⟩ (.slice (some ⟨g1, 0, none⟩) x.cs.length x.cs.length)).setCell ⟨w.heap.size + 1, 1, none⟩ (.slice (some ⟨g2, 0, none⟩) x.ps.length x.ps.length))) := ((hB2.setCell (p := ⟨w.heap.size + 1 + 1, 1, none⟩) (by simp; omega) _).setCell (p := ⟨w.heap.size + 1, 0, none⟩) (by simp) _).setCell (p := ⟨w.heap.size + 1, 1, none⟩) (by simp) _
  clear P1V P1W P2 hB2 hb2 hBV hB0 H1 H2
  go_wp2
  exact bodyPost_ret (v := .agg #[(.slice (some ⟨g1, 0, none⟩) x.cs.length x.cs.length), (.slice (some ⟨g2, 0, none⟩) x.ps.length x.ps.length)]) (by simp [results, Try.results11, go_sem, *]) rfl ⟨_, _, rfl, unhide FS, unhide FB⟩
end Go.Proofs.Ytkedckmpjedjoaa
