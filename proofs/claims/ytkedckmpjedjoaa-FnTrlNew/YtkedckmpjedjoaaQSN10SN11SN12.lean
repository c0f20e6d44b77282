import Derived.Test.YtkedckmpjedjoaaQSN4SN5SN6SN7SN8SN9
import Derived.Deep.RegionHeld3
import Derived.Deep.MidRow
import Derived.Test.YtkedckmpjedjoaaQQX1SN1SN2QJ1QJ5
import Derived.Deep.WholeRow
import Derived.Deep.CutRange
/- Solving at its beginning told. -/
namespace Go.Proofs.Ytkedckmpjedjoaa
open Go.RowKit Go.Shelf
set_option linter.unusedVariables false
set_option linter.unusedSimpArgs false
attribute [-go_sem] Go.Instr.storeAt

def ToldS (w : World) (t : List C) (n : Int) (e : Ending) (w' : World) : Prop := ∃ g cg ao cap m, e = .returned (.agg #[.int .i64 1, .slice (some ⟨g, 0, none⟩) 1 cg, .slice none 0 0, .int .i64 n, .slice none 0 0, .slice ao t.length cap, .slice none 0 0]) ∧
  w.heap.size < m ∧ m ≤ w'.heap.size ∧ SegL (w.heap.size + 1) m w' 95 5 (.slice (some ⟨g, 0, none⟩) 1 cg) 1 (ESg t) ∧ SegC m w'.heap.size w' (.slice ao t.length cap) t ∧ Below w.heap.size w w'

theorem res7 {W : World} {R : Nat} {T : TypeId} {x0 x1 x2 x3 x4 x5 x6 : Value} (h : W.heap[R]? = some (.cells #[x0, x1, x2, x3, x4, x5, x6] T)) :
    W.cell? ⟨R, 0, none⟩ = some x0 ∧ W.cell? ⟨R, 1, none⟩ = some x1 ∧ W.cell? ⟨R, 2, none⟩ = some x2 ∧ W.cell? ⟨R, 3, none⟩ = some x3 ∧ W.cell? ⟨R, 4, none⟩ = some x4 ∧ W.cell? ⟨R, 5, none⟩ = some x5 ∧ W.cell? ⟨R, 6, none⟩ = some x6 ∧ W.frozen? ⟨R, 0, none⟩ = false ∧ W.frozen? ⟨R, 1, none⟩ = false ∧ W.frozen? ⟨R, 2, none⟩ = false ∧ W.frozen? ⟨R, 3, none⟩ = false ∧ W.frozen? ⟨R, 4, none⟩ = false ∧ W.frozen? ⟨R, 5, none⟩ = false ∧ W.frozen? ⟨R, 6, none⟩ = false := by
  simp [World.cell?, World.frozen?, h]

theorem set_othr (W : World) {E i j : Nat} (v : Value) (h : j ≠ E) : (W.setCell ⟨E, i, none⟩ v).heap[j]? = W.heap[j]? := Below.heap_setCell _ _ _ _ (by simpa using h)
theorem set_blk7 {W : World} {E i : Nat} {cs : Array Value} {T : TypeId} (h : W.heap[E]? = some (.cells cs T)) (v : Value) : (W.setCell ⟨E, i, none⟩ v).heap[E]? = some (.cells (cs.set! i v) T) := by
  obtain ⟨hlt, hk⟩ := Array.getElem?_eq_some_iff.1 h
  show (W.heap.modify E _)[E]? = _
  rw [Array.getElem?_eq_getElem (by rw [Array.size_modify]; exact hlt), Array.getElem_modify_self, hk]
  rfl
theorem stateSize : (Try.prog.info? 43).map (·.size) = some 7 := by kernel_rfl
/-- A state stored in its place at once. -/
theorem store7 {W : World} {R : Nat} {y0 y1 y2 y3 y4 y5 y6 : Value} {T : TypeId} (h : W.heap[R]? = some (.cells #[y0, y1, y2, y3, y4, y5, y6] T)) (x0 x1 x2 x3 x4 x5 x6 : Value) (h1 : (#[x0, x1, x2, x3, x4, x5, x6] : Array Value).all (·.oneCell') = true) :
    (Instr.storeAt 43 (.pointer (some ⟨R, 0, none⟩)) (.agg #[x0, x1, x2, x3, x4, x5, x6])).run Try.prog W = .ok () (W.setCells R 0 [x0, x1, x2, x3, x4, x5, x6]) := by
  obtain ⟨c0, c1, c2, c3, c4, c5, c6, f0, f1, f2, f3, f4, f5, f6⟩ := res7 h
  exact run_storeAt_mid W R 0 43 #[x0, x1, x2, x3, x4, x5, x6] (fun j hj => by
    have hj : j < 7 := hj
    rw [Nat.zero_add]
    rcases (show j = 0 ∨ j = 1 ∨ j = 2 ∨ j = 3 ∨ j = 4 ∨ j = 5 ∨ j = 6 by omega) with rfl | rfl | rfl | rfl | rfl | rfl | rfl
    · exact ⟨by rw [c0]; rfl, f0⟩
    · exact ⟨by rw [c1]; rfl, f1⟩
    · exact ⟨by rw [c2]; rfl, f2⟩
    · exact ⟨by rw [c3]; rfl, f3⟩
    · exact ⟨by rw [c4]; rfl, f4⟩
    · exact ⟨by rw [c5]; rfl, f5⟩
    · exact ⟨by rw [c6]; rfl, f6⟩) stateSize h1
theorem set7_blk {W : World} {R : Nat} {y0 y1 y2 y3 y4 y5 y6 : Value} {T : TypeId} (h : W.heap[R]? = some (.cells #[y0, y1, y2, y3, y4, y5, y6] T)) (x0 x1 x2 x3 x4 x5 x6 : Value) :
    (W.setCells R 0 [x0, x1, x2, x3, x4, x5, x6]).heap[R]? = some (.cells #[x0, x1, x2, x3, x4, x5, x6] T) := by
  have s0 : (W.setCell ⟨R, 0, none⟩ x0).heap[R]? = some (.cells #[x0, y1, y2, y3, y4, y5, y6] T) := set_blk7 h x0
  have s1 : ((W.setCell ⟨R, 0, none⟩ x0).setCell ⟨R, 1, none⟩ x1).heap[R]? = some (.cells #[x0, x1, y2, y3, y4, y5, y6] T) := set_blk7 s0 x1
  have s2 : (((W.setCell ⟨R, 0, none⟩ x0).setCell ⟨R, 1, none⟩ x1).setCell ⟨R, 2, none⟩ x2).heap[R]? = some (.cells #[x0, x1, x2, y3, y4, y5, y6] T) := set_blk7 s1 x2
  have s3 : ((((W.setCell ⟨R, 0, none⟩ x0).setCell ⟨R, 1, none⟩ x1).setCell ⟨R, 2, none⟩ x2).setCell ⟨R, 3, none⟩ x3).heap[R]? = some (.cells #[x0, x1, x2, x3, y4, y5, y6] T) := set_blk7 s2 x3
  have s4 : (((((W.setCell ⟨R, 0, none⟩ x0).setCell ⟨R, 1, none⟩ x1).setCell ⟨R, 2, none⟩ x2).setCell ⟨R, 3, none⟩ x3).setCell ⟨R, 4, none⟩ x4).heap[R]? = some (.cells #[x0, x1, x2, x3, x4, y5, y6] T) := set_blk7 s3 x4
  have s5 : ((((((W.setCell ⟨R, 0, none⟩ x0).setCell ⟨R, 1, none⟩ x1).setCell ⟨R, 2, none⟩ x2).setCell ⟨R, 3, none⟩ x3).setCell ⟨R, 4, none⟩ x4).setCell ⟨R, 5, none⟩ x5).heap[R]? = some (.cells #[x0, x1, x2, x3, x4, x5, y6] T) := set_blk7 s4 x5
  have s6 : (((((((W.setCell ⟨R, 0, none⟩ x0).setCell ⟨R, 1, none⟩ x1).setCell ⟨R, 2, none⟩ x2).setCell ⟨R, 3, none⟩ x3).setCell ⟨R, 4, none⟩ x4).setCell ⟨R, 5, none⟩ x5).setCell ⟨R, 6, none⟩ x6).heap[R]? = some (.cells #[x0, x1, x2, x3, x4, x5, x6] T) := set_blk7 s5 x6
  exact s6
theorem set7_other (W : World) {R j : Nat} (x0 x1 x2 x3 x4 x5 x6 : Value) (h : j ≠ R) : (W.setCells R 0 [x0, x1, x2, x3, x4, x5, x6]).heap[j]? = W.heap[j]? :=
  (set_othr _ _ h).trans ((set_othr _ _ h).trans ((set_othr _ _ h).trans ((set_othr _ _ h).trans ((set_othr _ _ h).trans ((set_othr _ _ h).trans (set_othr _ _ h))))))
theorem size_set7 (W : World) (R : Nat) (x0 x1 x2 x3 x4 x5 x6 : Value) : (W.setCells R 0 [x0, x1, x2, x3, x4, x5, x6]).heap.size = W.heap.size := by
  simp [World.setCells]
theorem below_set7 {b : Nat} {w W : World} (h : Below b w W) (R : Nat) (hR : b ≤ R) (x0 x1 x2 x3 x4 x5 x6 : Value) : Below b w (W.setCells R 0 [x0, x1, x2, x3, x4, x5, x6]) :=
  ((((((h.setCell (p := ⟨R, 0, none⟩) hR x0).setCell (p := ⟨R, 1, none⟩) hR x1).setCell (p := ⟨R, 2, none⟩) hR x2).setCell (p := ⟨R, 3, none⟩) hR x3).setCell (p := ⟨R, 4, none⟩) hR x4).setCell (p := ⟨R, 5, none⟩) hR x5).setCell (p := ⟨R, 6, none⟩) hR x6
theorem cell_set7 {W : World} {R B i : Nat} {x0 x1 x2 x3 x4 x5 x6 : Value} (h : B ≠ R) : (W.setCells R 0 [x0, x1, x2, x3, x4, x5, x6]).cell? ⟨B, i, none⟩ = W.cell? ⟨B, i, none⟩ :=
  World.cell?_of_block (a := ⟨B, i, none⟩) (set7_other W _ _ _ _ _ _ _ h)

set_option maxRecDepth 100000 in
set_option maxHeartbeats 8000000 in
theorem standing_tell (S p g b : Nat) (n : Int) (t : List C) (w : World) (h : Solv w S p g b n) (HL0 : ListAt w p t) :
    Calls Try.prog 119 #[.pointer (some ⟨S, 0, none⟩)] w (ToldS w t n) := by
  have hS := (Array.getElem?_eq_some_iff.1 h.box).1
  have hb0 : b < w.heap.size := World.block_lt_of_cell? w ⟨_, _, none⟩ h.bg.2.2.2.2
  have s1 : w.cell? ⟨S, 1, none⟩ = some (.int .i64 1) := by simp [World.cell?, h.box]
  have s2 : w.cell? ⟨S, 2, none⟩ = some (.pointer (some ⟨g, 0, none⟩)) := by simp [World.cell?, h.box]
  have s3 : w.cell? ⟨S, 3, none⟩ = some (.pointer (some ⟨b, 0, none⟩)) := by simp [World.cell?, h.box]
  have s4 : w.cell? ⟨S, 4, none⟩ = some (.int .i64 n) := by simp [World.cell?, h.box]
  have s5 : w.cell? ⟨S, 5, none⟩ = some (.pointer (some ⟨p, 0, none⟩)) := by simp [World.cell?, h.box]
  have s7 : w.cell? ⟨S, 7, none⟩ = some (.slice none 0 0) := by simp [World.cell?, h.box]
  have s8 : w.cell? ⟨b, 0, none⟩ = some (.slice none 0 0) := h.bg.2.2.2.2
  have HA := hide (fun (W : World) (hW : Below w.heap.size w W) => pendingTell_one p g b t W (h.bg.below hW) (fun V hV => HL0 V (bstep hW hV)))
  have HL := hide HL0
  clear h HL0
  go_enter Try.func119, Try.ntmps119
  go_upto_region 1 with fail
  obtain ⟨W, hW⟩ : ∃ W, W = w.alloc (Obj.cells #[.int .i64 0, .slice none 0 0, .slice none 0 0, .int .i64 0, .slice none 0 0, .slice none 0 0, .slice none 0 0] 43) := ⟨_, rfl⟩
  have hB : Below w.heap.size w W := by rw [hW]; exact cell_below _ _
  have hWs : W.heap.size = w.heap.size + 1 := by rw [hW]; simp
  have HR := hide (show W.heap[w.heap.size]? = some (.cells #[.int .i64 0, .slice none 0 0, .slice none 0 0, .int .i64 0, .slice none 0 0, .slice none 0 0, .slice none 0 0] 43) from by rw [hW]; exact World.alloc_heap_new _ _)
  rw [← hW]
  clear hW
  replace s1 := (hB.cell (p := ⟨S, 1, none⟩) hS).trans s1
  replace s2 := (hB.cell (p := ⟨S, 2, none⟩) hS).trans s2
  replace s3 := (hB.cell (p := ⟨S, 3, none⟩) hS).trans s3
  replace s4 := (hB.cell (p := ⟨S, 4, none⟩) hS).trans s4
  replace s5 := (hB.cell (p := ⟨S, 5, none⟩) hS).trans s5
  replace s7 := (hB.cell (p := ⟨S, 7, none⟩) hS).trans s7
  replace s8 := (hB.cell (p := ⟨b, 0, none⟩) hb0).trans s8
  have hl : w.heap.size < W.heap.size := by omega
  have hSW : S < W.heap.size := by omega
  have hbW : b < W.heap.size := by omega
  have hBd := hB.drew
  have hSR : S ≠ w.heap.size := by omega
  have hbR : b ≠ w.heap.size := by omega
  have hbWd : b < W.drew.heap.size := hbW
  have hSWd : S < W.drew.heap.size := hSW
  have hlWd : w.heap.size < W.drew.heap.size := hl
  replace s1 : W.drew.cell? ⟨S, 1, none⟩ = some (.int .i64 1) := s1
  replace s2 : W.drew.cell? ⟨S, 2, none⟩ = some (.pointer (some ⟨g, 0, none⟩)) := s2
  replace s3 : W.drew.cell? ⟨S, 3, none⟩ = some (.pointer (some ⟨b, 0, none⟩)) := s3
  replace s4 : W.drew.cell? ⟨S, 4, none⟩ = some (.int .i64 n) := s4
  replace s5 : W.drew.cell? ⟨S, 5, none⟩ = some (.pointer (some ⟨p, 0, none⟩)) := s5
  replace s7 : W.drew.cell? ⟨S, 7, none⟩ = some (.slice none 0 0) := s7
  replace s8 : W.drew.cell? ⟨b, 0, none⟩ = some (.slice none 0 0) := s8
  go_region_held3 (fun w' => w'.cell? ⟨S, 1, none⟩ = some (.int .i64 1) ∧ w'.cell? ⟨S, 2, none⟩ = some (.pointer (some ⟨g, 0, none⟩)) ∧ w'.cell? ⟨S, 3, none⟩ = some (.pointer (some ⟨b, 0, none⟩)) ∧ w'.cell? ⟨S, 4, none⟩ = some (.int .i64 n) ∧ w'.cell? ⟨S, 5, none⟩ = some (.pointer (some ⟨p, 0, none⟩)) ∧ w'.cell? ⟨S, 7, none⟩ = some (.slice none 0 0) ∧ w'.cell? ⟨b, 0, none⟩ = some (.slice none 0 0)) (first | (refine ⟨?_, ?_, ?_, ?_, ?_, ?_, ?_⟩ <;> with_reducible assumption) | (refine ⟨?_, ?_, ?_, ?_, ?_, ?_, ?_⟩ <;> (refine (cell_set7 (by assumption)).trans ?_; with_reducible assumption))) (first
    | (go_at_call 148; have hz := hy; refine (unhide HL w1b hB1).mono ?_; rintro e w2 ⟨ao, cap, rfl, hSc, hb2⟩; have ys1 := (hb2.cell (p := ⟨S, 1, none⟩) hSx).trans xs1; have ys2 := (hb2.cell (p := ⟨S, 2, none⟩) hSx).trans xs2; have ys3 := (hb2.cell (p := ⟨S, 3, none⟩) hSx).trans xs3; have ys4 := (hb2.cell (p := ⟨S, 4, none⟩) hSx).trans xs4; have ys5 := (hb2.cell (p := ⟨S, 5, none⟩) hSx).trans xs5; have ys7 := (hb2.cell (p := ⟨S, 7, none⟩) hSx).trans xs7; have ys8 := (hb2.cell (p := ⟨b, 0, none⟩) hbx).trans xs8; have HR2 := hide ((hb2.block w.heap.size hlx).trans (unhide HR1)); have hst := store7 (unhide HR2) (.int .i64 1) (.slice (some ⟨g2, 0, none⟩) 1 k2) (.slice none 0 0) (.int .i64 n) (.slice none 0 0) (.slice ao t.length cap) (.slice none 0 0) (by simp [Value.oneCell']); have HSc := hide hSc; clear hSc)
    | (go_at_call 159; have hx := hB1; refine (tellBinds_nil w1).mono ?_; rintro e w1b ⟨rfl, hwb⟩; subst hwb; have hy := hB1)
    | (go_at_call 158; refine (unhide HA W.drew hBd).mono ?_; rintro e w1 ⟨g2, k2, rfl, hseg, hb1⟩; have xs1 := (hb1.cell (p := ⟨S, 1, none⟩) hSWd).trans s1; have xs2 := (hb1.cell (p := ⟨S, 2, none⟩) hSWd).trans s2; have xs3 := (hb1.cell (p := ⟨S, 3, none⟩) hSWd).trans s3; have xs4 := (hb1.cell (p := ⟨S, 4, none⟩) hSWd).trans s4; have xs5 := (hb1.cell (p := ⟨S, 5, none⟩) hSWd).trans s5; have xs7 := (hb1.cell (p := ⟨S, 7, none⟩) hSWd).trans s7; have xs8 := (hb1.cell (p := ⟨b, 0, none⟩) hbWd).trans s8; have HSG := hide hseg; clear hseg; have hSx : S < w1.heap.size := Nat.lt_of_lt_of_le hSWd hb1.size; have hbx : b < w1.heap.size := Nat.lt_of_lt_of_le hbWd hb1.size; have hlx : w.heap.size < w1.heap.size := Nat.lt_of_lt_of_le hlWd hb1.size; have hB1 := bstep hBd hb1; have HR1 := hide ((hb1.block w.heap.size hlWd).trans (unhide HR)); clear hb1))
  clear hst ys1 ys2 ys3 ys4 ys5 ys7 ys8 xs1 xs2 xs3 xs4 xs5 xs7 xs8 s1 s2 s3 s4 s5 s7 s8
  have hR3 := set7_blk (unhide HR2) (.int .i64 1) (.slice (some ⟨g2, 0, none⟩) 1 k2) (.slice none 0 0) (.int .i64 n) (.slice none 0 0) (.slice ao t.length cap) (.slice none 0 0)
  have hoth : ∀ j, j ≠ w.heap.size → (w2.setCells w.heap.size 0 [.int .i64 1, .slice (some ⟨g2, 0, none⟩) 1 k2, .slice none 0 0, .int .i64 n, .slice none 0 0, .slice ao t.length cap, .slice none 0 0]).heap[j]? = w2.heap[j]? := fun j h => set7_other w2 _ _ _ _ _ _ _ h
  have hsz3 := size_set7 w2 w.heap.size (.int .i64 1) (.slice (some ⟨g2, 0, none⟩) 1 k2) (.slice none 0 0) (.int .i64 n) (.slice none 0 0) (.slice ao t.length cap) (.slice none 0 0)
  have hB2 := bstep hB1 hb2
  have hB3 := below_set7 hB2 w.heap.size (Nat.le_refl _) (.int .i64 1) (.slice (some ⟨g2, 0, none⟩) 1 k2) (.slice none 0 0) (.int .i64 n) (.slice none 0 0) (.slice ao t.length cap) (.slice none 0 0)
  have hs2 := hb2.size
  have hseg := unhide HSG
  have hsc := unhide HSc
  have hWd : W.drew.heap.size = w.heap.size + 1 := hWs
  rw [hWd] at hseg
  have hseg3 := hseg.kept (esg_keeps t) (fun j h1 h2 => (hoth j (by omega)).trans (hb2.block j h2))
  have hsc3 := hsc.kept (fun j h1 h2 => hoth j (by omega))
  rw [← hsz3] at hsc3
  have hm1 : w.heap.size < w1b.heap.size := hlx
  have hm2 := hs2
  rw [← hsz3] at hm2
  generalize w2.setCells w.heap.size 0 [.int .i64 1, .slice (some ⟨g2, 0, none⟩) 1 k2, .slice none 0 0, .int .i64 n, .slice none 0 0, .slice ao t.length cap, .slice none 0 0] = w3 at hR3 hB3 hseg3 hsc3 hm2 ⊢
  clear hoth hsz3 hB2 hs2 hseg hsc hWd hb2 HSG HSc HR2 HR HA HL hB1
  have HR3 := hide hR3
  have HF := hide (And.intro hm1 (And.intro hm2 (And.intro hseg3 (And.intro hsc3 hB3))))
  clear hR3 hm1 hm2 hseg3 hsc3 hB3
  go_wp2
  have hR3 := unhide HR3
  obtain ⟨hm1, hm2, hseg3, hsc3, hB3⟩ := unhide HF
  obtain ⟨r0, r1, r2, r3, r4, r5, r6, _⟩ := res7 hR3
  exact bodyPost_ret (v := .agg #[.int .i64 1, .slice (some ⟨g2, 0, none⟩) 1 k2, .slice none 0 0, .int .i64 n, .slice none 0 0, .slice ao t.length cap, .slice none 0 0]) (by simp [results, Try.results119, go_sem, r0, r1, r2, r3, r4, r5, r6]) rfl ⟨g2, k2, ao, cap, w1b.heap.size, rfl, hm1, hm2, hseg3, hsc3, hB3⟩
end Go.Proofs.Ytkedckmpjedjoaa

/- Solving at its beginning told, with what may be done otherwise; SlvNew of the program. -/
namespace Go.Proofs.Ytkedckmpjedjoaa
open Go.RowKit Go.Shelf
set_option linter.unusedVariables false
set_option linter.unusedSimpArgs false
attribute [-go_sem] Go.Instr.storeAt

def ToldV (w : World) (t : List C) (n : Int) (e : Ending) (w' : World) : Prop := ∃ g cg ao cap m co, e = .returned (.agg #[.int .i64 1, .slice (some ⟨g, 0, none⟩) 1 cg, .slice none 0 0, .int .i64 n, .slice co 0 0, .slice ao t.length cap, .slice none 0 0]) ∧
  w.heap.size < m ∧ m ≤ w'.heap.size ∧ SegL (w.heap.size + 1) m w' 95 5 (.slice (some ⟨g, 0, none⟩) 1 cg) 1 (ESg t) ∧ SegC m w'.heap.size w' (.slice ao t.length cap) t ∧ Below w.heap.size w w'

/-- A state stored in its place at once: a world of which this is known. -/
theorem stored7 {W : World} {R : Nat} {y0 y1 y2 y3 y4 y5 y6 : Value} (h : W.heap[R]? = some (.cells #[y0, y1, y2, y3, y4, y5, y6] 43)) (x0 x1 x2 x3 x4 x5 x6 : Value) (h1 : (#[x0, x1, x2, x3, x4, x5, x6] : Array Value).all (·.oneCell') = true) :
    ∃ V, (Instr.storeAt 43 (.pointer (some ⟨R, 0, none⟩)) (.agg #[x0, x1, x2, x3, x4, x5, x6])).run Try.prog W = .ok () V ∧ V.heap[R]? = some (.cells #[x0, x1, x2, x3, x4, x5, x6] 43) ∧
      (∀ j, j ≠ R → V.heap[j]? = W.heap[j]?) ∧ V.heap.size = W.heap.size ∧ ∀ (b : Nat) (w : World), Below b w W → b ≤ R → Below b w V :=
  ⟨_, store7 h x0 x1 x2 x3 x4 x5 x6 h1, set7_blk h x0 x1 x2 x3 x4 x5 x6, fun j hj => set7_other W _ _ _ _ _ _ _ hj, size_set7 W R _ _ _ _ _ _ _, fun b w hb hR => below_set7 hb R hR _ _ _ _ _ _ _⟩
theorem choiceSize : (Try.prog.info? 40).map (·.size) = some 1 := by kernel_rfl
theorem stored1 {W : World} {B i : Nat} {u : Value} (hc : W.cell? ⟨B, i, none⟩ = some u) (hf : W.frozen? ⟨B, i, none⟩ = false) (ao : Option Addr) (n c : Nat) :
    (Instr.storeAt 40 (.pointer (some ⟨B, i, none⟩)) (.slice ao n c)).run Try.prog W = .ok () (W.setCell ⟨B, i, none⟩ (.slice ao n c)) := by
  simp [Instr.storeAt, go_sem, hc, hf]
theorem newed7 (W : World) (y x : Array Value) (hy : y.size = 7) (hx : x.size = 7) (h1 : x.all (·.oneCell') = true) :
    (Instr.storeAt 43 (.pointer (some ⟨W.heap.size, 0, none⟩)) (.agg x)).run Try.prog (W.alloc (.cells y 43)) = .ok () (W.alloc (.cells x 43)) :=
  run_storeAt_new W 43 y x (by rw [hx]; exact stateSize) (by rw [hy, hx]) h1

theorem res7c {W : World} {R : Nat} {T : TypeId} {x0 x1 x2 x3 x4 x5 x6 : Value} (h : W.heap[R]? = some (.cells #[x0, x1, x2, x3, x4, x5, x6] T)) (v : Value) : (W.setCell ⟨R, 4, none⟩ v).heap[R]? = some (.cells #[x0, x1, x2, x3, v, x5, x6] T) := set_blk7 h v
set_option maxRecDepth 100000 in
set_option maxHeartbeats 4000000 in
theorem solving_tell (S p g b : Nat) (n : Int) (t : List C) (w : World) (h : Solv w S p g b n) (HL0 : ListAt w p t) :
    Calls Try.prog 61 #[.pointer (some ⟨S, 0, none⟩)] w (ToldV w t n) := by
  have hS := (Array.getElem?_eq_some_iff.1 h.box).1
  have s8 : w.cell? ⟨S, 8, none⟩ = some (.pointer none) := by simp [World.cell?, h.box]
  have hb0 := cell_below w (.cells #[.int .i64 0, .slice none 0 0, .slice none 0 0, .int .i64 0, .slice none 0 0, .slice none 0 0, .slice none 0 0] 43)
  have hR0 := World.alloc_heap_new w (.cells #[.int .i64 0, .slice none 0 0, .slice none 0 0, .int .i64 0, .slice none 0 0, .slice none 0 0, .slice none 0 0] 43)
  have hsz0 : (w.alloc (.cells #[.int .i64 0, .slice none 0 0, .slice none 0 0, .int .i64 0, .slice none 0 0, .slice none 0 0, .slice none 0 0] 43)).heap.size = w.heap.size + 1 := by simp
  have HT0 := standing_tell S p g b n t (w.alloc (.cells #[.int .i64 0, .slice none 0 0, .slice none 0 0, .int .i64 0, .slice none 0 0, .slice none 0 0, .slice none 0 0] 43)) (h.below hb0) (fun V hV => HL0 V (bstep hb0 hV))
  have s8' := (hb0.cell (p := ⟨S, 8, none⟩) hS).trans s8
  have HT := hide HT0
  have HB0 := hide hb0
  have HR0 := hide hR0
  have hlt0 : w.heap.size < (w.alloc (.cells #[.int .i64 0, .slice none 0 0, .slice none 0 0, .int .i64 0, .slice none 0 0, .slice none 0 0, .slice none 0 0] 43)).heap.size := by omega
  clear h HL0 s8 HT0 hb0 hR0
  go_enter Try.func61, Try.ntmps61
  go_upto_region 1 with fail
  generalize w.alloc (.cells #[.int .i64 0, .slice none 0 0, .slice none 0 0, .int .i64 0, .slice none 0 0, .slice none 0 0, .slice none 0 0] 43) = W at *
  go_wp2_with fail
  refine (unhide HT).mono ?_
  rintro e w2 ⟨g2, cg, ao, cap, m, rfl, hm1, hm2, hseg, hsc, hb2⟩
  have hst2 := newed7 w2 #[.int .i64 0, .slice none 0 0, .slice none 0 0, .int .i64 0, .slice none 0 0, .slice none 0 0, .slice none 0 0] #[.int .i64 1, .slice (some ⟨g2, 0, none⟩) 1 cg, .slice none 0 0, .int .i64 n, .slice none 0 0, .slice ao t.length cap, .slice none 0 0] rfl rfl (by simp [Value.oneCell'])
  have HF := hide (And.intro hm1 (And.intro hm2 (And.intro hseg (And.intro hsc hb2))))
  have hSW : S < W.heap.size := World.block_lt_of_cell? W ⟨_, _, none⟩ s8'
  have s8'' := (hb2.cell (p := ⟨S, 8, none⟩) hSW).trans s8'
  clear HT hm1 hm2 hseg hsc s8'
  go_upto_region 2 with fail
  have hb3 := cell_below w2 (.cells #[.int .i64 1, .slice (some ⟨g2, 0, none⟩) 1 cg, .slice none 0 0, .int .i64 n, .slice none 0 0, .slice ao t.length cap, .slice none 0 0] 43)
  have hB3 := World.alloc_heap_new w2 (.cells #[.int .i64 1, .slice (some ⟨g2, 0, none⟩) 1 cg, .slice none 0 0, .int .i64 n, .slice none 0 0, .slice ao t.length cap, .slice none 0 0] 43)
  have s8b := (hb3.cell (p := ⟨S, 8, none⟩) (World.block_lt_of_cell? w2 ⟨_, _, none⟩ s8'')).trans s8''
  have hs3 : (w2.alloc (.cells #[.int .i64 1, .slice (some ⟨g2, 0, none⟩) 1 cg, .slice none 0 0, .int .i64 n, .slice none 0 0, .slice ao t.length cap, .slice none 0 0] 43)).heap.size = w2.heap.size + 1 := by simp
  clear hst2 s8''
  generalize w2.alloc (.cells #[.int .i64 1, .slice (some ⟨g2, 0, none⟩) 1 cg, .slice none 0 0, .int .i64 n, .slice none 0 0, .slice ao t.length cap, .slice none 0 0] 43) = w3 at *
  have HC := hide (choices_nil w3)
  have HB3 := hide (And.intro hb3 (And.intro hB3 hs3))
  have hBlt : w2.heap.size < w3.heap.size := by omega
  clear hb3 hB3 hs3 hb2
  go_wp2_with fail
  refine (unhide HC).mono ?_
  rintro e w4 ⟨rfl, hb4⟩
  have hB4 := (hb4.block _ hBlt).trans (unhide HB3).2.1
  have c4 : w4.cell? ⟨w2.heap.size, 4, none⟩ = some (.slice none 0 0) := (res7 hB4).2.2.2.2.1
  have f4 : w4.frozen? ⟨w2.heap.size, 4, none⟩ = false := (res7 hB4).2.2.2.2.2.2.2.2.2.2.2.1
  have hst4 := stored1 c4 f4 (some ⟨w3.heap.size, 0, none⟩) 0 0
  have hB5 := res7c hB4 (.slice (some ⟨w3.heap.size, 0, none⟩) 0 0)
  have hRW := (Array.getElem?_eq_some_iff.1 (unhide HR0)).1
  have hW2 := (unhide HF).2.2.2.2.size
  have h23 := (unhide HB3).1.size
  have hR4 := (hb4.block w.heap.size (by omega)).trans (((unhide HB3).1.block w.heap.size (by omega)).trans (((unhide HF).2.2.2.2.block w.heap.size hlt0).trans (unhide HR0)))
  have hR5 := (set_othr w4 (E := w2.heap.size) (i := 4) (j := w.heap.size) (.slice (some ⟨w3.heap.size, 0, none⟩) 0 0) (by omega)).trans hR4
  obtain ⟨c0, c1, c2, c3, c4', c5, c6, _⟩ := res7 hB5
  obtain ⟨w6, hst6, hR6, hoth, hsz6, hbel⟩ := stored7 hR5 (.int .i64 1) (.slice (some ⟨g2, 0, none⟩) 1 cg) (.slice none 0 0) (.int .i64 n) (.slice (some ⟨w3.heap.size, 0, none⟩) 0 0) (.slice ao t.length cap) (.slice none 0 0) (by simp [Value.oneCell'])
  have hb5 : Below w.heap.size w (w4.setCell ⟨w2.heap.size, 4, none⟩ (.slice (some ⟨w3.heap.size, 0, none⟩) 0 0)) := Below.setCell (bstep (bstep (bstep (unhide HB0) (unhide HF).2.2.2.2) (unhide HB3).1) hb4) (p := ⟨w2.heap.size, 4, none⟩) (show w.heap.size ≤ w2.heap.size by omega) _
  have hb6 := hbel w.heap.size w hb5 (Nat.le_refl _)
  obtain ⟨hm1, hm2, hseg, hsc, hb2⟩ := unhide HF
  have hb34 := hb4.size
  have h5 : (w4.setCell ⟨w2.heap.size, 4, none⟩ (.slice (some ⟨w3.heap.size, 0, none⟩) 0 0)).heap.size = w4.heap.size := by simp
  have hag : Agree (w.heap.size + 1) w2.heap.size w2 w6 := fun j h1 h2 =>
    (hoth j (by omega)).trans ((set_othr w4 (E := w2.heap.size) (i := 4) (j := j) _ (by omega)).trans ((hb4.block j (by omega)).trans ((unhide HB3).1.block j h2)))
  have hseg6 := (hseg.kept (esg_keeps t) (hag.sub (by omega) hm2)).wide (show w.heap.size + 1 ≤ W.heap.size + 1 by omega) (Nat.le_refl m)
  have hsc6 := (hsc.kept (hag.sub (by omega) (Nat.le_refl _))).wide (Nat.le_refl m) (show w2.heap.size ≤ w6.heap.size by omega)
  have HE := hide (And.intro (show w.heap.size < m by omega) (And.intro (show m ≤ w6.heap.size by omega) (And.intro hseg6 (And.intro hsc6 hb6))))
  have HR6 := hide hR6
  clear hB4 c4 f4 hB5 hRW hW2 h23 hR4 hR5 hR6 hoth hsz6 hbel hb5 hb6 hm1 hm2 hseg hsc hb2 hb34 h5 hag hseg6 hsc6 HB3 HF HC HB0 HR0
  go_wp2
  obtain ⟨r0, r1, r2, r3, r4, r5, r6, _⟩ := res7 (unhide HR6)
  obtain ⟨q1, q2, q3, q4, q5⟩ := unhide HE
  exact bodyPost_ret (v := .agg #[.int .i64 1, .slice (some ⟨g2, 0, none⟩) 1 cg, .slice none 0 0, .int .i64 n, .slice (some ⟨w3.heap.size, 0, none⟩) 0 0, .slice ao t.length cap, .slice none 0 0]) (by simp [results, Try.results61, go_sem, r0, r1, r2, r3, r4, r5, r6]) rfl ⟨g2, cg, ao, cap, m, _, rfl, q1, q2, q3, q4, q5⟩
end Go.Proofs.Ytkedckmpjedjoaa

/- SlvNew of the program. -/
namespace Go.Proofs.Ytkedckmpjedjoaa
open Go.RowKit Go.Shelf
set_option linter.unusedVariables false
set_option linter.unusedSimpArgs false
attribute [-go_sem] Go.Instr.storeAt

set_option maxRecDepth 100000 in
set_option maxHeartbeats 4000000 in
theorem implSlvNew_no (ao : Option Addr) (cap : Nat) (t : List C) (w : World) (hcap : t.length ≤ cap) (hcm : cap ≤ maxLen) (hA : Row w ao t) (hF : Fit t) (hwf : WfC t) (hn : topB t = false) :
    Calls Try.prog 19 #[.slice ao t.length cap] w fun e w' => e = .returned (.agg #[.int .i64 0, .slice none 0 0, .slice none 0 0, .int .i64 0, .slice none 0 0, .slice none 0 0, .slice none 0 0]) ∧ Below w.heap.size w w' := by
  have hb0 := cell_below w (.cells #[.int .i64 0, .slice none 0 0, .slice none 0 0, .int .i64 0, .slice none 0 0, .slice none 0 0, .slice none 0 0] 43)
  have hR0 := World.alloc_heap_new w (.cells #[.int .i64 0, .slice none 0 0, .slice none 0 0, .int .i64 0, .slice none 0 0, .slice none 0 0, .slice none 0 0] 43)
  have hlt0 : w.heap.size < (w.alloc (.cells #[.int .i64 0, .slice none 0 0, .slice none 0 0, .int .i64 0, .slice none 0 0, .slice none 0 0, .slice none 0 0] 43)).heap.size := by simp
  have HQ0 := questionOf_any ao cap t (w.alloc (.cells #[.int .i64 0, .slice none 0 0, .slice none 0 0, .int .i64 0, .slice none 0 0, .slice none 0 0, .slice none 0 0] 43)) hcap hcm (hA.below hb0) hF hwf
  have HQ := hide HQ0
  have HB0 := hide hb0
  have HR0 := hide hR0
  clear HQ0 hb0 hR0 hA hF hwf
  go_enter Try.func19, Try.ntmps19
  go_upto_region 1 with fail
  generalize w.alloc (.cells #[.int .i64 0, .slice none 0 0, .slice none 0 0, .int .i64 0, .slice none 0 0, .slice none 0 0, .slice none 0 0] 43) = W at *
  go_wp2_with fail
  refine (unhide HQ).mono ?_
  rintro e w1 ⟨hb1, h | h⟩
  · exact absurd h.1 (by rw [hn]; simp)
  · obtain ⟨_, rfl⟩ := h
    have hR1 := (hb1.block w.heap.size hlt0).trans (unhide HR0)
    obtain ⟨w6, hst6, hR6, hoth, hsz6, hbel⟩ := stored7 hR1 (.int .i64 0) (.slice none 0 0) (.slice none 0 0) (.int .i64 0) (.slice none 0 0) (.slice none 0 0) (.slice none 0 0) (by simp [Value.oneCell'])
    have HR6 := hide hR6
    have HB6 := hide (hbel w.heap.size w (bstep (unhide HB0) hb1) (Nat.le_refl _))
    clear hR1 hR6 hoth hsz6 hbel HQ HB0 HR0 hb1
    go_wp2
    obtain ⟨r0, r1, r2, r3, r4, r5, r6, _⟩ := res7 (unhide HR6)
    exact bodyPost_ret (v := .agg #[.int .i64 0, .slice none 0 0, .slice none 0 0, .int .i64 0, .slice none 0 0, .slice none 0 0, .slice none 0 0]) (by simp [results, Try.results19, go_sem, r0, r1, r2, r3, r4, r5, r6]) rfl ⟨rfl, unhide HB6⟩

set_option maxRecDepth 100000 in
set_option maxHeartbeats 4000000 in
theorem implSlvNew_yes (ao : Option Addr) (cap : Nat) (t : List C) (w : World) (hcap : t.length ≤ cap) (hcm : cap ≤ maxLen) (hA : Row w ao t) (hF : Fit t) (hwf : WfC t) (hy : topB t = true) :
    Calls Try.prog 19 #[.slice ao t.length cap] w (ToldV w t ((freeOf t).length : Int)) := by
  have ht : trm t = true := by unfold topB at hy; simp only [Bool.and_eq_true] at hy; exact hy.1.1
  have hb0 := cell_below w (.cells #[.int .i64 0, .slice none 0 0, .slice none 0 0, .int .i64 0, .slice none 0 0, .slice none 0 0, .slice none 0 0] 43)
  have hR0 := World.alloc_heap_new w (.cells #[.int .i64 0, .slice none 0 0, .slice none 0 0, .int .i64 0, .slice none 0 0, .slice none 0 0, .slice none 0 0] 43)
  have hlt0 : w.heap.size < (w.alloc (.cells #[.int .i64 0, .slice none 0 0, .slice none 0 0, .int .i64 0, .slice none 0 0, .slice none 0 0, .slice none 0 0] 43)).heap.size := by simp
  have HQ0 := questionOf_any ao cap t (w.alloc (.cells #[.int .i64 0, .slice none 0 0, .slice none 0 0, .int .i64 0, .slice none 0 0, .slice none 0 0, .slice none 0 0] 43)) hcap hcm (hA.below hb0) hF hwf
  have HQ := hide HQ0
  have HB0 := hide hb0
  have HR0 := hide hR0
  have HWF := hide hwf
  clear HQ0 hb0 hR0 hA hF hwf
  go_enter Try.func19, Try.ntmps19
  go_upto_region 1 with fail
  generalize w.alloc (.cells #[.int .i64 0, .slice none 0 0, .slice none 0 0, .int .i64 0, .slice none 0 0, .slice none 0 0, .slice none 0 0] 43) = W at *
  go_wp2_with fail
  refine (unhide HQ).mono ?_
  rintro e w1 ⟨hb1, h | h⟩
  · obtain ⟨_, p, rfl, hT⟩ := h
    have HN := hide (newSolving_nil W.heap.size p t w1 hT ht (unhide HWF))
    have HL := hide (listAt_of hT ht)
    have HB1 := hide (bstep (unhide HB0) hb1)
    have HR1 := hide ((hb1.block w.heap.size hlt0).trans (unhide HR0))
    clear HQ HB0 HR0 hb1 hT
    go_wp2_with fail
    refine (unhide HN).mono ?_
    rintro e w2 ⟨S, g, b, rfl, hSv, hb2⟩
    have HT := hide (solving_tell S p g b _ t w2 hSv (fun V hV => unhide HL V (bstep hb2 hV)))
    have HB2 := hide (bstep (unhide HB1) hb2)
    have HR2 := hide ((hb2.block w.heap.size (Array.getElem?_eq_some_iff.1 (unhide HR1)).1).trans (unhide HR1))
    have hs2 : w.heap.size < w2.heap.size := (Array.getElem?_eq_some_iff.1 (unhide HR2)).1
    clear HN HL HB1 HR1 hSv hb2
    go_wp2_with fail
    refine (unhide HT).mono ?_
    rintro e w3 ⟨g2, cg, ao2, cap2, m, co, rfl, hm1, hm2, hseg, hsc, hb3⟩
    have hR3 := (hb3.block w.heap.size hs2).trans (unhide HR2)
    obtain ⟨w6, hst6, hR6, hoth, hsz6, hbel⟩ := stored7 hR3 (.int .i64 1) (.slice (some ⟨g2, 0, none⟩) 1 cg) (.slice none 0 0) (.int .i64 ((freeOf t).length : Int)) (.slice co 0 0) (.slice ao2 t.length cap2) (.slice none 0 0) (by simp [Value.oneCell'])
    have hB6 := hbel w.heap.size w (bstep (unhide HB2) hb3) (Nat.le_refl _)
    have hseg6 := (hseg.kept (w' := w6) (esg_keeps t) (fun j h1 h2 => hoth j (by omega))).wide (show w.heap.size + 1 ≤ w2.heap.size + 1 by omega) (Nat.le_refl m)
    have hsc6 := hsc.kept (w' := w6) (fun j h1 h2 => hoth j (by omega))
    rw [← hsz6] at hsc6 hm2
    have HE := hide (And.intro (show w.heap.size < m by omega) (And.intro hm2 (And.intro hseg6 (And.intro hsc6 hB6))))
    have HR6 := hide hR6
    clear hR3 hR6 hoth hsz6 hbel hB6 hseg6 hsc6 hseg hsc hb3 hm1 hm2 HT HB2 HR2
    go_wp2
    obtain ⟨r0, r1, r2, r3, r4, r5, r6, _⟩ := res7 (unhide HR6)
    obtain ⟨q1, q2, q3, q4, q5⟩ := unhide HE
    exact bodyPost_ret (v := .agg #[.int .i64 1, .slice (some ⟨g2, 0, none⟩) 1 cg, .slice none 0 0, .int .i64 ((freeOf t).length : Int), .slice co 0 0, .slice ao2 t.length cap2, .slice none 0 0]) (by simp [results, Try.results19, go_sem, r0, r1, r2, r3, r4, r5, r6]) rfl ⟨g2, cg, ao2, cap2, m, co, rfl, q1, q2, q3, q4, q5⟩
  · exact absurd h.1 (by rw [hy]; simp)
end Go.Proofs.Ytkedckmpjedjoaa
