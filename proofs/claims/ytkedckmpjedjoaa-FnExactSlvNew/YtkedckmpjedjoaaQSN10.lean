/- Solving at its beginning told. -/
import Derived.Test.YtkedckmpjedjoaaQSN4SN5SN6SN7SN8SN9
import Derived.Deep.RegionHeld3
import Derived.Deep.MidRow
namespace Go.Proofs.Ytkedckmpjedjoaa
open Go.RowKit Go.Shelf
set_option linter.unusedVariables false
set_option linter.unusedSimpArgs false
attribute [-go_sem] Go.Instr.storeAt

def ToldS (w : World) (t : List C) (n : Int) (e : Ending) (w' : World) : Prop := ∃ g cg ao cap m, e = .returned (.agg #[.int .i64 1, .slice (some ⟨g, 0, none⟩) 1 cg, .slice none 0 0, .int .i64 n, .slice none 0 0, .slice ao t.length cap, .slice none 0 0]) ∧
  w.heap.size < m ∧ m ≤ w'.heap.size ∧ SegL (w.heap.size + 1) m w' 95 5 (.slice (some ⟨g, 0, none⟩) 1 cg) 1 (ESg t) ∧ SegC m w'.heap.size w' (.slice ao t.length cap) t ∧ Below w.heap.size w w'

theorem res7 {W : World} {R : Nat} {T : TypeId} {x0 x1 x2 x3 x4 x5 x6 : Value} (h : W.heap[R]? = some (.cells #[x0, x1, x2, x3, x4, x5, x6] T)) :
    W.cell? ⟨R, 0, none⟩ = some x0 ∧ W.cell? ⟨R, 1, none⟩ = some x1 ∧ W.cell? ⟨R, 2, none⟩ = some x2 ∧ W.cell? ⟨R, 3, none⟩ = some x3 ∧ W.cell? ⟨R, 4, none⟩ = some x4 ∧ W.cell? ⟨R, 5, none⟩ = some x5 ∧ W.cell? ⟨R, 6, none⟩ = some x6 ∧ W.frozen? ⟨R, 0, none⟩ = false ∧ W.frozen? ⟨R, 1, none⟩ = false ∧ W.frozen? ⟨R, 2, none⟩ = false ∧ W.frozen? ⟨R, 3, none⟩ = false ∧ W.frozen? ⟨R, 4, none⟩ = false ∧ W.frozen? ⟨R, 5, none⟩ = false ∧ W.frozen? ⟨R, 6, none⟩ = false := by
  simp [World.cell?, World.frozen?, h]

theorem set_othr (W : World) {E i j : Nat} (v : Value) (h : j ≠ E) : (W.setCell ⟨E, i, none⟩ v).heap[j]? = W.heap[j]? := Below.heap_setCell _ _ _ _ (by simpa using h)
theorem set_blk7 {W : World} {E i : Nat} {cs : Array Value} {T : TypeId} (h : W.heap[E]? = some (.cells cs T)) (v : Value) : (W.setCell ⟨E, i, none⟩ v).heap[E]? = some (.cells (cs.set! i v) T) := by
  obtain ⟨hlt, hk⟩ := Array.getElem?_eq_some_iff.1 h
  show (W.heap.modify E _)[E]? = _
  rw [Array.getElem?_eq_getElem (by rw [Array.size_modify]; exact hlt), Array.getElem_modify_self, hk]
  rfl
theorem stateSize : (Try.prog.info? 43).map (·.size) = some 7 := by kernel_rfl
/-- A state stored in its place at once. -/
theorem store7 {W : World} {R : Nat} {y0 y1 y2 y3 y4 y5 y6 : Value} {T : TypeId} (h : W.heap[R]? = some (.cells #[y0, y1, y2, y3, y4, y5, y6] T)) (x0 x1 x2 x3 x4 x5 x6 : Value) (h1 : (#[x0, x1, x2, x3, x4, x5, x6] : Array Value).all (·.oneCell') = true) :
    (Instr.storeAt 43 (.pointer (some ⟨R, 0, none⟩)) (.agg #[x0, x1, x2, x3, x4, x5, x6])).run Try.prog W = .ok () (W.setCells R 0 [x0, x1, x2, x3, x4, x5, x6]) := by
  obtain ⟨c0, c1, c2, c3, c4, c5, c6, f0, f1, f2, f3, f4, f5, f6⟩ := res7 h
  exact run_storeAt_mid W R 0 43 #[x0, x1, x2, x3, x4, x5, x6] (fun j hj => by
    have hj : j < 7 := hj
    rw [Nat.zero_add]
    rcases (show j = 0 ∨ j = 1 ∨ j = 2 ∨ j = 3 ∨ j = 4 ∨ j = 5 ∨ j = 6 by omega) with rfl | rfl | rfl | rfl | rfl | rfl | rfl
    · exact ⟨by rw [c0]; rfl, f0⟩
    · exact ⟨by rw [c1]; rfl, f1⟩
    · exact ⟨by rw [c2]; rfl, f2⟩
    · exact ⟨by rw [c3]; rfl, f3⟩
    · exact ⟨by rw [c4]; rfl, f4⟩
    · exact ⟨by rw [c5]; rfl, f5⟩
    · exact ⟨by rw [c6]; rfl, f6⟩) stateSize h1
theorem set7_blk {W : World} {R : Nat} {y0 y1 y2 y3 y4 y5 y6 : Value} {T : TypeId} (h : W.heap[R]? = some (.cells #[y0, y1, y2, y3, y4, y5, y6] T)) (x0 x1 x2 x3 x4 x5 x6 : Value) :
    (W.setCells R 0 [x0, x1, x2, x3, x4, x5, x6]).heap[R]? = some (.cells #[x0, x1, x2, x3, x4, x5, x6] T) := by
  have s0 : (W.setCell ⟨R, 0, none⟩ x0).heap[R]? = some (.cells #[x0, y1, y2, y3, y4, y5, y6] T) := set_blk7 h x0
  have s1 : ((W.setCell ⟨R, 0, none⟩ x0).setCell ⟨R, 1, none⟩ x1).heap[R]? = some (.cells #[x0, x1, y2, y3, y4, y5, y6] T) := set_blk7 s0 x1
  have s2 : (((W.setCell ⟨R, 0, none⟩ x0).setCell ⟨R, 1, none⟩ x1).setCell ⟨R, 2, none⟩ x2).heap[R]? = some (.cells #[x0, x1, x2, y3, y4, y5, y6] T) := set_blk7 s1 x2
  have s3 : ((((W.setCell ⟨R, 0, none⟩ x0).setCell ⟨R, 1, none⟩ x1).setCell ⟨R, 2, none⟩ x2).setCell ⟨R, 3, none⟩ x3).heap[R]? = some (.cells #[x0, x1, x2, x3, y4, y5, y6] T) := set_blk7 s2 x3
  have s4 : (((((W.setCell ⟨R, 0, none⟩ x0).setCell ⟨R, 1, none⟩ x1).setCell ⟨R, 2, none⟩ x2).setCell ⟨R, 3, none⟩ x3).setCell ⟨R, 4, none⟩ x4).heap[R]? = some (.cells #[x0, x1, x2, x3, x4, y5, y6] T) := set_blk7 s3 x4
  have s5 : ((((((W.setCell ⟨R, 0, none⟩ x0).setCell ⟨R, 1, none⟩ x1).setCell ⟨R, 2, none⟩ x2).setCell ⟨R, 3, none⟩ x3).setCell ⟨R, 4, none⟩ x4).setCell ⟨R, 5, none⟩ x5).heap[R]? = some (.cells #[x0, x1, x2, x3, x4, x5, y6] T) := set_blk7 s4 x5
  have s6 : (((((((W.setCell ⟨R, 0, none⟩ x0).setCell ⟨R, 1, none⟩ x1).setCell ⟨R, 2, none⟩ x2).setCell ⟨R, 3, none⟩ x3).setCell ⟨R, 4, none⟩ x4).setCell ⟨R, 5, none⟩ x5).setCell ⟨R, 6, none⟩ x6).heap[R]? = some (.cells #[x0, x1, x2, x3, x4, x5, x6] T) := set_blk7 s5 x6
  exact s6
theorem set7_other (W : World) {R j : Nat} (x0 x1 x2 x3 x4 x5 x6 : Value) (h : j ≠ R) : (W.setCells R 0 [x0, x1, x2, x3, x4, x5, x6]).heap[j]? = W.heap[j]? :=
  (set_othr _ _ h).trans ((set_othr _ _ h).trans ((set_othr _ _ h).trans ((set_othr _ _ h).trans ((set_othr _ _ h).trans ((set_othr _ _ h).trans (set_othr _ _ h))))))
theorem size_set7 (W : World) (R : Nat) (x0 x1 x2 x3 x4 x5 x6 : Value) : (W.setCells R 0 [x0, x1, x2, x3, x4, x5, x6]).heap.size = W.heap.size := by
  simp [World.setCells]
theorem below_set7 {b : Nat} {w W : World} (h : Below b w W) (R : Nat) (hR : b ≤ R) (x0 x1 x2 x3 x4 x5 x6 : Value) : Below b w (W.setCells R 0 [x0, x1, x2, x3, x4, x5, x6]) :=
  ((((((h.setCell (p := ⟨R, 0, none⟩) hR x0).setCell (p := ⟨R, 1, none⟩) hR x1).setCell (p := ⟨R, 2, none⟩) hR x2).setCell (p := ⟨R, 3, none⟩) hR x3).setCell (p := ⟨R, 4, none⟩) hR x4).setCell (p := ⟨R, 5, none⟩) hR x5).setCell (p := ⟨R, 6, none⟩) hR x6
theorem cell_set7 {W : World} {R B i : Nat} {x0 x1 x2 x3 x4 x5 x6 : Value} (h : B ≠ R) : (W.setCells R 0 [x0, x1, x2, x3, x4, x5, x6]).cell? ⟨B, i, none⟩ = W.cell? ⟨B, i, none⟩ :=
  World.cell?_of_block (a := ⟨B, i, none⟩) (set7_other W _ _ _ _ _ _ _ h)

set_option maxRecDepth 100000 in
set_option maxHeartbeats 8000000 in
theorem standing_tell (S p g b : Nat) (n : Int) (t : List C) (w : World) (h : Solv w S p g b n) (HL0 : ListAt w p t) :
    Calls Try.prog 119 #[.pointer (some ⟨S, 0, none⟩)] w (ToldS w t n) := by
  have hS := (Array.getElem?_eq_some_iff.1 h.box).1
  have hb0 : b < w.heap.size := World.block_lt_of_cell? w ⟨_, _, none⟩ h.bg.2.2.2.2
  have s1 : w.cell? ⟨S, 1, none⟩ = some (.int .i64 1) := by simp [World.cell?, h.box]
  have s2 : w.cell? ⟨S, 2, none⟩ = some (.pointer (some ⟨g, 0, none⟩)) := by simp [World.cell?, h.box]
  have s3 : w.cell? ⟨S, 3, none⟩ = some (.pointer (some ⟨b, 0, none⟩)) := by simp [World.cell?, h.box]
  have s4 : w.cell? ⟨S, 4, none⟩ = some (.int .i64 n) := by simp [World.cell?, h.box]
  have s5 : w.cell? ⟨S, 5, none⟩ = some (.pointer (some ⟨p, 0, none⟩)) := by simp [World.cell?, h.box]
  have s7 : w.cell? ⟨S, 7, none⟩ = some (.slice none 0 0) := by simp [World.cell?, h.box]
  have s8 : w.cell? ⟨b, 0, none⟩ = some (.slice none 0 0) := h.bg.2.2.2.2
  have HA := hide (fun (W : World) (hW : Below w.heap.size w W) => pendingTell_one p g b t W (h.bg.below hW) (fun V hV => HL0 V (bstep hW hV)))
  have HL := hide HL0
  clear h HL0
  go_enter Try.func119, Try.ntmps119
  go_upto_region 1 with fail
  obtain ⟨W, hW⟩ : ∃ W, W = w.alloc (Obj.cells #[.int .i64 0, .slice none 0 0, .slice none 0 0, .int .i64 0, .slice none 0 0, .slice none 0 0, .slice none 0 0] 43) := ⟨_, rfl⟩
  have hB : Below w.heap.size w W := by rw [hW]; exact cell_below _ _
  have hWs : W.heap.size = w.heap.size + 1 := by rw [hW]; simp
  have HR := hide (show W.heap[w.heap.size]? = some (.cells #[.int .i64 0, .slice none 0 0, .slice none 0 0, .int .i64 0, .slice none 0 0, .slice none 0 0, .slice none 0 0] 43) from by rw [hW]; exact World.alloc_heap_new _ _)
  rw [← hW]
  clear hW
  replace s1 := (hB.cell (p := ⟨S, 1, none⟩) hS).trans s1
  replace s2 := (hB.cell (p := ⟨S, 2, none⟩) hS).trans s2
  replace s3 := (hB.cell (p := ⟨S, 3, none⟩) hS).trans s3
  replace s4 := (hB.cell (p := ⟨S, 4, none⟩) hS).trans s4
  replace s5 := (hB.cell (p := ⟨S, 5, none⟩) hS).trans s5
  replace s7 := (hB.cell (p := ⟨S, 7, none⟩) hS).trans s7
  replace s8 := (hB.cell (p := ⟨b, 0, none⟩) hb0).trans s8
  have hl : w.heap.size < W.heap.size := by omega
  have hSW : S < W.heap.size := by omega
  have hbW : b < W.heap.size := by omega
  have hBd := hB.drew
  have hSR : S ≠ w.heap.size := by omega
  have hbR : b ≠ w.heap.size := by omega
  have hbWd : b < W.drew.heap.size := hbW
  have hSWd : S < W.drew.heap.size := hSW
  have hlWd : w.heap.size < W.drew.heap.size := hl
  replace s1 : W.drew.cell? ⟨S, 1, none⟩ = some (.int .i64 1) := s1
  replace s2 : W.drew.cell? ⟨S, 2, none⟩ = some (.pointer (some ⟨g, 0, none⟩)) := s2
  replace s3 : W.drew.cell? ⟨S, 3, none⟩ = some (.pointer (some ⟨b, 0, none⟩)) := s3
  replace s4 : W.drew.cell? ⟨S, 4, none⟩ = some (.int .i64 n) := s4
  replace s5 : W.drew.cell? ⟨S, 5, none⟩ = some (.pointer (some ⟨p, 0, none⟩)) := s5
  replace s7 : W.drew.cell? ⟨S, 7, none⟩ = some (.slice none 0 0) := s7
  replace s8 : W.drew.cell? ⟨b, 0, none⟩ = some (.slice none 0 0) := s8
  go_region_held3 (fun w' => w'.cell? ⟨S, 1, none⟩ = some (.int .i64 1) ∧ w'.cell? ⟨S, 2, none⟩ = some (.pointer (some ⟨g, 0, none⟩)) ∧ w'.cell? ⟨S, 3, none⟩ = some (.pointer (some ⟨b, 0, none⟩)) ∧ w'.cell? ⟨S, 4, none⟩ = some (.int .i64 n) ∧ w'.cell? ⟨S, 5, none⟩ = some (.pointer (some ⟨p, 0, none⟩)) ∧ w'.cell? ⟨S, 7, none⟩ = some (.slice none 0 0) ∧ w'.cell? ⟨b, 0, none⟩ = some (.slice none 0 0)) (first | (refine ⟨?_, ?_, ?_, ?_, ?_, ?_, ?_⟩ <;> with_reducible assumption) | (refine ⟨?_, ?_, ?_, ?_, ?_, ?_, ?_⟩ <;> (refine (cell_set7 (by assumption)).trans ?_; with_reducible assumption))) (first
    | (go_at_call 148; have hz := hy; refine (unhide HL w1b hB1).mono ?_; rintro e w2 ⟨ao, cap, rfl, hSc, hb2⟩; have ys1 := (hb2.cell (p := ⟨S, 1, none⟩) hSx).trans xs1; have ys2 := (hb2.cell (p := ⟨S, 2, none⟩) hSx).trans xs2; have ys3 := (hb2.cell (p := ⟨S, 3, none⟩) hSx).trans xs3; have ys4 := (hb2.cell (p := ⟨S, 4, none⟩) hSx).trans xs4; have ys5 := (hb2.cell (p := ⟨S, 5, none⟩) hSx).trans xs5; have ys7 := (hb2.cell (p := ⟨S, 7, none⟩) hSx).trans xs7; have ys8 := (hb2.cell (p := ⟨b, 0, none⟩) hbx).trans xs8; have HR2 := hide ((hb2.block w.heap.size hlx).trans (unhide HR1)); have hst := store7 (unhide HR2) (.int .i64 1) (.slice (some ⟨g2, 0, none⟩) 1 k2) (.slice none 0 0) (.int .i64 n) (.slice none 0 0) (.slice ao t.length cap) (.slice none 0 0) (by simp [Value.oneCell']); have HSc := hide hSc; clear hSc)
    | (go_at_call 159; have hx := hB1; refine (tellBinds_nil w1).mono ?_; rintro e w1b ⟨rfl, hwb⟩; subst hwb; have hy := hB1)
    | (go_at_call 158; refine (unhide HA W.drew hBd).mono ?_; rintro e w1 ⟨g2, k2, rfl, hseg, hb1⟩; have xs1 := (hb1.cell (p := ⟨S, 1, none⟩) hSWd).trans s1; have xs2 := (hb1.cell (p := ⟨S, 2, none⟩) hSWd).trans s2; have xs3 := (hb1.cell (p := ⟨S, 3, none⟩) hSWd).trans s3; have xs4 := (hb1.cell (p := ⟨S, 4, none⟩) hSWd).trans s4; have xs5 := (hb1.cell (p := ⟨S, 5, none⟩) hSWd).trans s5; have xs7 := (hb1.cell (p := ⟨S, 7, none⟩) hSWd).trans s7; have xs8 := (hb1.cell (p := ⟨b, 0, none⟩) hbWd).trans s8; have HSG := hide hseg; clear hseg; have hSx : S < w1.heap.size := Nat.lt_of_lt_of_le hSWd hb1.size; have hbx : b < w1.heap.size := Nat.lt_of_lt_of_le hbWd hb1.size; have hlx : w.heap.size < w1.heap.size := Nat.lt_of_lt_of_le hlWd hb1.size; have hB1 := bstep hBd hb1; have HR1 := hide ((hb1.block w.heap.size hlWd).trans (unhide HR)); clear hb1))
  clear hst ys1 ys2 ys3 ys4 ys5 ys7 ys8 xs1 xs2 xs3 xs4 xs5 xs7 xs8 s1 s2 s3 s4 s5 s7 s8
  have hR3 := set7_blk (unhide HR2) (.int .i64 1) (.slice (some ⟨g2, 0, none⟩) 1 k2) (.slice none 0 0) (.int .i64 n) (.slice none 0 0) (.slice ao t.length cap) (.slice none 0 0)
  have hoth : ∀ j, j ≠ w.heap.size → (w2.setCells w.heap.size 0 [.int .i64 1, .slice (some ⟨g2, 0, none⟩) 1 k2, .slice none 0 0, .int .i64 n, .slice none 0 0, .slice ao t.length cap, .slice none 0 0]).heap[j]? = w2.heap[j]? := fun j h => set7_other w2 _ _ _ _ _ _ _ h
  have hsz3 := size_set7 w2 w.heap.size (.int .i64 1) (.slice (some ⟨g2, 0, none⟩) 1 k2) (.slice none 0 0) (.int .i64 n) (.slice none 0 0) (.slice ao t.length cap) (.slice none 0 0)
  have hB2 := bstep hB1 hb2
  have hB3 := below_set7 hB2 w.heap.size (Nat.le_refl _) (.int .i64 1) (.slice (some ⟨g2, 0, none⟩) 1 k2) (.slice none 0 0) (.int .i64 n) (.slice none 0 0) (.slice ao t.length cap) (.slice none 0 0)
  have hs2 := hb2.size
  have hseg := unhide HSG
  have hsc := unhide HSc
  have hWd : W.drew.heap.size = w.heap.size + 1 := hWs
  rw [hWd] at hseg
  have hseg3 := hseg.kept (esg_keeps t) (fun j h1 h2 => (hoth j (by omega)).trans (hb2.block j h2))
  have hsc3 := hsc.kept (fun j h1 h2 => hoth j (by omega))
  rw [← hsz3] at hsc3
  have hm1 : w.heap.size < w1b.heap.size := hlx
  have hm2 := hs2
  rw [← hsz3] at hm2
  generalize w2.setCells w.heap.size 0 [.int .i64 1, .slice (some ⟨g2, 0, none⟩) 1 k2, .slice none 0 0, .int .i64 n, .slice none 0 0, .slice ao t.length cap, .slice none 0 0] = w3 at hR3 hB3 hseg3 hsc3 hm2 ⊢
  clear hoth hsz3 hB2 hs2 hseg hsc hWd hb2 HSG HSc HR2 HR HA HL hB1
  have HR3 := hide hR3
  have HF := hide (And.intro hm1 (And.intro hm2 (And.intro hseg3 (And.intro hsc3 hB3))))
  clear hR3 hm1 hm2 hseg3 hsc3 hB3
  go_wp2
  have hR3 := unhide HR3
  obtain ⟨hm1, hm2, hseg3, hsc3, hB3⟩ := unhide HF
  obtain ⟨r0, r1, r2, r3, r4, r5, r6, _⟩ := res7 hR3
  exact bodyPost_ret (v := .agg #[.int .i64 1, .slice (some ⟨g2, 0, none⟩) 1 k2, .slice none 0 0, .int .i64 n, .slice none 0 0, .slice ao t.length cap, .slice none 0 0]) (by simp [results, Try.results119, go_sem, r0, r1, r2, r3, r4, r5, r6]) rfl ⟨g2, k2, ao, cap, w1b.heap.size, rfl, hm1, hm2, hseg3, hsc3, hB3⟩
end Go.Proofs.Ytkedckmpjedjoaa
