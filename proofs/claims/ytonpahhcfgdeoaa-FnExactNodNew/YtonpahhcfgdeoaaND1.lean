/- The walk of FnExactNodNew. -/
import Derived.Test.YtonpahhcfgdeoaaMem
import Derived.Test.YtonpahhcfgdeoaaW1
namespace Go.Proofs.Ytonpahhcfgdeoaa
open Go.RowKit
set_option linter.unusedVariables false
set_option linter.unusedSimpArgs false

theorem two_below (w : World) (a b : Obj) : Below w.heap.size w ((w.alloc a).alloc b) := bstep (cell_below _ _) (cell_below _ _)
theorem alloc_newN (w : World) (o : Obj) : (w.alloc o).heap[w.heap.size]? = some o := by
  show (w.heap.push o)[w.heap.size]? = some o
  simp
theorem blkN {w w' : World} {B : Nat} {o : Obj} (h : w.heap[B]? = some o) (hb : Below w.heap.size w w') : w'.heap[B]? = some o := (hb.block B (Array.getElem?_eq_some_iff.1 h).1).trans h
theorem twoN {w : World} {B : Nat} {a0 a1 : Value} {T : TypeId} (h : w.heap[B]? = some (.cells #[a0, a1] T (0, 0))) : w.cell? ⟨B, 0, none⟩ = some a0 ∧ w.cell? ⟨B, 1, none⟩ = some a1 := by
  constructor <;> (simp only [World.cell?]; rw [h]; rfl)
abbrev newN : Value := .agg #[.bool true, .slice none 0 0]
set_option maxRecDepth 100000 in
set_option maxHeartbeats 400000 in
theorem implNodNew_any (w : World) : Calls Try.prog 27 #[] w fun e w' => e = .returned newN ∧ Below w.heap.size w w' := by
  go_enter Try.func27, Try.ntmps27
  go_wp2
  refine bodyPost_ret (v := newN) (by simp [results, Try.results27, go_sem]) rfl ⟨rfl, ?_⟩
  first | exact cell_below _ _ | exact (((cell_below w _).setCell (p := ⟨w.heap.size, 0, none⟩) (Nat.le_refl _) _).setCell (p := ⟨w.heap.size, 1, none⟩) (Nat.le_refl _) _)
set_option maxRecDepth 100000 in
set_option maxHeartbeats 400000 in
theorem specNodNew_any (w : World) : Calls Try.prog 26 #[] w fun e w' => e = .returned newN ∧ Below w.heap.size w w' := by
  go_enter Try.func26, Try.ntmps26
  go_wp2
  refine bodyPost_ret (v := newN) (by simp [results, Try.results26, go_sem]) rfl ⟨rfl, ?_⟩
  first | exact cell_below _ _ | exact (((cell_below w _).setCell (p := ⟨w.heap.size, 0, none⟩) (Nat.le_refl _) _).setCell (p := ⟨w.heap.size, 1, none⟩) (Nat.le_refl _) _)
set_option maxRecDepth 100000 in
set_option maxHeartbeats 400000 in
theorem eqNodWorkS_nil (w : World) : Calls Try.prog 52 #[.slice none 0 0, .slice none 0 0] w fun e w' => e = .returned (.bool true) ∧ Below w.heap.size w w' := by
  go_enter Try.func52, Try.ntmps52
  go_wp2
  refine wp_loop_rounds 1 ?_
  rw [rounds_succ]
  go_wp2
  go_ret
  exact ⟨rfl, Below.refl _ _⟩
set_option maxRecDepth 100000 in
set_option maxHeartbeats 400000 in
theorem eqNodNode_new (w : World) : Calls Try.prog 28 #[newN, newN] w fun e w' => e = .returned (.bool true) ∧ Below w.heap.size w w' := by
  go_enter Try.func28, Try.ntmps28
  go_wp2_with fail
  refine (eqNodWorkS_nil _).mono ?_
  rintro e w1 ⟨rfl, hb⟩
  have hB := bstep (two_below _ _ _) hb
  go_wp2
  go_ret
  exact ⟨rfl, hB⟩
set_option maxRecDepth 100000 in
set_option maxHeartbeats 400000 in
theorem markNodWorkS_nil (k : Int) (w : World) : Calls Try.prog 53 #[.slice none 0 0, .int .i64 k] w fun e w' => e = .returned (.int .i64 k) ∧ w' = w := by
  go_enter Try.func53, Try.ntmps53
  go_wp2
  refine wp_loop_rounds 1 ?_
  rw [rounds_succ]
  go_wp2
  go_ret
  exact ⟨rfl, rfl⟩
set_option maxRecDepth 100000 in
set_option maxHeartbeats 400000 in
theorem heldNodWorkS_nil (k : Int) (w : World) : Calls Try.prog 54 #[.slice none 0 0, .int .i64 k] w fun e w' => e = .returned (.int .i64 k) ∧ w' = w := by
  go_enter Try.func54, Try.ntmps54
  go_wp2
  refine wp_loop_rounds 1 ?_
  rw [rounds_succ]
  go_wp2
  go_ret
  exact ⟨rfl, rfl⟩
set_option maxRecDepth 100000 in
set_option maxHeartbeats 400000 in
theorem markNodNode_new (w : World) : Calls Try.prog 29 #[newN, .int .i64 1] w fun e w' => e = .returned (.int .i64 1) ∧ Below w.heap.size w w' := by
  go_enter Try.func29, Try.ntmps29
  go_wp2_with fail
  refine (markNodWorkS_nil 1 _).mono ?_
  rintro e w1 ⟨rfl, rfl⟩
  go_wp2
  go_ret
  exact ⟨rfl, by first | exact Below.refl _ _ | exact cell_below _ _⟩
set_option maxRecDepth 100000 in
set_option maxHeartbeats 400000 in
theorem heldNodNode_new (w : World) : Calls Try.prog 30 #[newN, .int .i64 1] w fun e w' => e = .returned (.int .i64 1) ∧ Below w.heap.size w w' := by
  go_enter Try.func30, Try.ntmps30
  go_wp2_with fail
  refine (heldNodWorkS_nil 1 _).mono ?_
  rintro e w1 ⟨rfl, rfl⟩
  go_wp2
  go_ret
  exact ⟨rfl, by first | exact Below.refl _ _ | exact cell_below _ _⟩

set_option maxRecDepth 100000 in
set_option maxHeartbeats 1000000 in
theorem FnExactNodNew_walk (w : World) : Calls Try.prog 6 #[] w fun e w' => e = .returned (.bool true) ∧ Below w.heap.size w w' := by
  go_enter Try.func6, Try.ntmps6
  go_wp2_with fail
  refine (specNodNew_any _).mono ?_
  rintro e w1 ⟨rfl, hb1⟩
  obtain ⟨V, hV⟩ : ∃ V, V = w1.alloc (Obj.cells #[Value.bool true, Value.slice none 0 0] 52) := ⟨_, rfl⟩
  have hX : V.heap[w1.heap.size]? = some (.cells #[Value.bool true, Value.slice none 0 0] 52 (0, 0)) := by rw [hV]; exact alloc_newN w1 _
  have hB2 : Below w.heap.size w V := by rw [hV]; exact bstep hb1 (cell_below _ _)
  go_wp2_with fail
  rw [← hV]
  clear hV hb1
  generalize w1.heap.size = A at hX ⊢
  refine (implNodNew_any _).mono ?_
  rintro e w2 ⟨rfl, hb2⟩
  have hB3 := bstep hB2 hb2
  have hX2 := blkN hX hb2
  obtain ⟨U, hU⟩ : ∃ U, U = w2.alloc (Obj.cells #[Value.bool true, Value.slice none 0 0] 52) := ⟨_, rfl⟩
  have hY : U.heap[w2.heap.size]? = some (.cells #[Value.bool true, Value.slice none 0 0] 52 (0, 0)) := by rw [hU]; exact alloc_newN w2 _
  have hbU : Below w2.heap.size w2 U := by rw [hU]; exact cell_below _ _
  have hX3 := blkN hX2 hbU
  have hB4 := bstep hB3 hbU
  obtain ⟨x0, x1⟩ := twoN hX3
  obtain ⟨y0, y1⟩ := twoN hY
  have HE := hide (eqNodNode_new U)
  have HU := hide (And.intro hX3 (And.intro hY hB4))
  clear hX hX2 hX3 hY hB4 hb2 hbU hB2 hB3
  subst hU
  go_wp2_with fail
  refine (unhide HE).mono ?_
  rintro e w3 ⟨rfl, hb3⟩
  obtain ⟨hX3, hY, hB4⟩ := unhide HU
  have hB5 := bstep hB4 hb3
  have hX5 := blkN hX3 hb3
  have hY5 := blkN hY hb3
  clear x0 x1 y0 y1 hX3 hY HE hB4 HU
  generalize w2.heap.size = B at hY5 ⊢
  obtain ⟨x0, x1⟩ := twoN hX5
  obtain ⟨y0, y1⟩ := twoN hY5
  go_wp2_with fail
  refine (markNodNode_new _).mono ?_
  rintro e w4 ⟨rfl, hb4⟩
  have hB6 := bstep hB5 hb4
  have hX6 := blkN hX5 hb4
  have hY6 := blkN hY5 hb4
  clear x0 x1 y0 y1 hX5 hY5 hB5
  obtain ⟨x0, x1⟩ := twoN hX6
  obtain ⟨y0, y1⟩ := twoN hY6
  go_wp2_with fail
  refine (heldNodNode_new _).mono ?_
  rintro e w5 ⟨rfl, hb5⟩
  have hB7 := bstep hB6 hb5
  have hX7 := blkN hX6 hb5
  have hY7 := blkN hY6 hb5
  clear x0 x1 y0 y1 hX6 hY6 hB6
  obtain ⟨x0, x1⟩ := twoN hX7
  obtain ⟨y0, y1⟩ := twoN hY7
  go_wp2_with fail
  refine (implNodNew_any _).mono ?_
  rintro e w6 ⟨rfl, hb6⟩
  obtain ⟨T, hT⟩ : ∃ T, T = w6.alloc (Obj.cells #[Value.bool true, Value.slice none 0 0] 52) := ⟨_, rfl⟩
  have hZ : T.heap[w6.heap.size]? = some (.cells #[Value.bool true, Value.slice none 0 0] 52 (0, 0)) := by rw [hT]; exact alloc_newN w6 _
  have hbT : Below w5.heap.size w5 T := by rw [hT]; exact bstep hb6 (cell_below _ _)
  have hB8 := bstep hB7 hbT
  have hX8 := blkN hX7 hbT
  have hY8 := blkN hY7 hbT
  clear x0 x1 y0 y1 hX7 hY7 hB7
  obtain ⟨x0, x1⟩ := twoN hX8
  obtain ⟨y0, y1⟩ := twoN hY8
  obtain ⟨z0, z1⟩ := twoN hZ
  have HE := hide (eqNodNode_new T)
  have HU := hide (And.intro hY8 hB8)
  clear hb6 hbT hX8 hY8 hB8 hZ
  subst hT
  go_wp2_with fail
  refine (unhide HE).mono ?_
  rintro e w7 ⟨rfl, hb7⟩
  obtain ⟨hY8, hB8⟩ := unhide HU
  have hB9 := bstep hB8 hb7
  have hY9 := blkN hY8 hb7
  clear x0 x1 y0 y1 z0 z1 hY8 hB8 HE HU
  generalize w6.heap.size = D
  obtain ⟨y0, y1⟩ := twoN hY9
  go_wp2_with fail
  refine (heldNodNode_new _).mono ?_
  rintro e w8 ⟨rfl, hb8⟩
  have hB10 := bstep hB9 hb8
  go_wp2
  go_ret
  exact ⟨rfl, hB10⟩
end Go.Proofs.Ytonpahhcfgdeoaa
