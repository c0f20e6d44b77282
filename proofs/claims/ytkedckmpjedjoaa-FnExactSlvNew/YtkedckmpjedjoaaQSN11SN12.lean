import Derived.Test.YtkedckmpjedjoaaQSN10
import Derived.Test.YtkedckmpjedjoaaQQX1SN1SN2QJ1QJ5
import Derived.Test.YtkedckmpjedjoaaQSN4SN5SN6SN7SN8SN9
import Derived.Deep.WholeRow
import Derived.Deep.CutRange
/- Solving at its beginning told, with what may be done otherwise; SlvNew of the program. -/
namespace Go.Proofs.Ytkedckmpjedjoaa
open Go.RowKit Go.Shelf
set_option linter.unusedVariables false
set_option linter.unusedSimpArgs false
attribute [-go_sem] Go.Instr.storeAt

def ToldV (w : World) (t : List C) (n : Int) (e : Ending) (w' : World) : Prop := ∃ g cg ao cap m co, e = .returned (.agg #[.int .i64 1, .slice (some ⟨g, 0, none⟩) 1 cg, .slice none 0 0, .int .i64 n, .slice co 0 0, .slice ao t.length cap, .slice none 0 0]) ∧
  w.heap.size < m ∧ m ≤ w'.heap.size ∧ SegL (w.heap.size + 1) m w' 95 5 (.slice (some ⟨g, 0, none⟩) 1 cg) 1 (ESg t) ∧ SegC m w'.heap.size w' (.slice ao t.length cap) t ∧ Below w.heap.size w w'

/-- A state stored in its place at once: a world of which this is known. -/
theorem stored7 {W : World} {R : Nat} {y0 y1 y2 y3 y4 y5 y6 : Value} (h : W.heap[R]? = some (.cells #[y0, y1, y2, y3, y4, y5, y6] 43)) (x0 x1 x2 x3 x4 x5 x6 : Value) (h1 : (#[x0, x1, x2, x3, x4, x5, x6] : Array Value).all (·.oneCell') = true) :
    ∃ V, (Instr.storeAt 43 (.pointer (some ⟨R, 0, none⟩)) (.agg #[x0, x1, x2, x3, x4, x5, x6])).run Try.prog W = .ok () V ∧ V.heap[R]? = some (.cells #[x0, x1, x2, x3, x4, x5, x6] 43) ∧
      (∀ j, j ≠ R → V.heap[j]? = W.heap[j]?) ∧ V.heap.size = W.heap.size ∧ ∀ (b : Nat) (w : World), Below b w W → b ≤ R → Below b w V :=
  ⟨_, store7 h x0 x1 x2 x3 x4 x5 x6 h1, set7_blk h x0 x1 x2 x3 x4 x5 x6, fun j hj => set7_other W _ _ _ _ _ _ _ hj, size_set7 W R _ _ _ _ _ _ _, fun b w hb hR => below_set7 hb R hR _ _ _ _ _ _ _⟩
theorem choiceSize : (Try.prog.info? 40).map (·.size) = some 1 := by kernel_rfl
theorem stored1 {W : World} {B i : Nat} {u : Value} (hc : W.cell? ⟨B, i, none⟩ = some u) (hf : W.frozen? ⟨B, i, none⟩ = false) (ao : Option Addr) (n c : Nat) :
    (Instr.storeAt 40 (.pointer (some ⟨B, i, none⟩)) (.slice ao n c)).run Try.prog W = .ok () (W.setCell ⟨B, i, none⟩ (.slice ao n c)) := by
  simp [Instr.storeAt, go_sem, hc, hf]
theorem newed7 (W : World) (y x : Array Value) (hy : y.size = 7) (hx : x.size = 7) (h1 : x.all (·.oneCell') = true) :
    (Instr.storeAt 43 (.pointer (some ⟨W.heap.size, 0, none⟩)) (.agg x)).run Try.prog (W.alloc (.cells y 43)) = .ok () (W.alloc (.cells x 43)) :=
  run_storeAt_new W 43 y x (by rw [hx]; exact stateSize) (by rw [hy, hx]) h1

theorem res7c {W : World} {R : Nat} {T : TypeId} {x0 x1 x2 x3 x4 x5 x6 : Value} (h : W.heap[R]? = some (.cells #[x0, x1, x2, x3, x4, x5, x6] T)) (v : Value) : (W.setCell ⟨R, 4, none⟩ v).heap[R]? = some (.cells #[x0, x1, x2, x3, v, x5, x6] T) := set_blk7 h v
set_option maxRecDepth 100000 in
set_option maxHeartbeats 4000000 in
theorem solving_tell (S p g b : Nat) (n : Int) (t : List C) (w : World) (h : Solv w S p g b n) (HL0 : ListAt w p t) :
    Calls Try.prog 61 #[.pointer (some ⟨S, 0, none⟩)] w (ToldV w t n) := by
  have hS := (Array.getElem?_eq_some_iff.1 h.box).1
  have s8 : w.cell? ⟨S, 8, none⟩ = some (.pointer none) := by simp [World.cell?, h.box]
  have hb0 := cell_below w (.cells #[.int .i64 0, .slice none 0 0, .slice none 0 0, .int .i64 0, .slice none 0 0, .slice none 0 0, .slice none 0 0] 43)
  have hR0 := World.alloc_heap_new w (.cells #[.int .i64 0, .slice none 0 0, .slice none 0 0, .int .i64 0, .slice none 0 0, .slice none 0 0, .slice none 0 0] 43)
  have hsz0 : (w.alloc (.cells #[.int .i64 0, .slice none 0 0, .slice none 0 0, .int .i64 0, .slice none 0 0, .slice none 0 0, .slice none 0 0] 43)).heap.size = w.heap.size + 1 := by simp
  have HT0 := standing_tell S p g b n t (w.alloc (.cells #[.int .i64 0, .slice none 0 0, .slice none 0 0, .int .i64 0, .slice none 0 0, .slice none 0 0, .slice none 0 0] 43)) (h.below hb0) (fun V hV => HL0 V (bstep hb0 hV))
  have s8' := (hb0.cell (p := ⟨S, 8, none⟩) hS).trans s8
  have HT := hide HT0
  have HB0 := hide hb0
  have HR0 := hide hR0
  have hlt0 : w.heap.size < (w.alloc (.cells #[.int .i64 0, .slice none 0 0, .slice none 0 0, .int .i64 0, .slice none 0 0, .slice none 0 0, .slice none 0 0] 43)).heap.size := by omega
  clear h HL0 s8 HT0 hb0 hR0
  go_enter Try.func61, Try.ntmps61
  go_upto_region 1 with fail
  generalize w.alloc (.cells #[.int .i64 0, .slice none 0 0, .slice none 0 0, .int .i64 0, .slice none 0 0, .slice none 0 0, .slice none 0 0] 43) = W at *
  go_wp2_with fail
  refine (unhide HT).mono ?_
  rintro e w2 ⟨g2, cg, ao, cap, m, rfl, hm1, hm2, hseg, hsc, hb2⟩
  have hst2 := newed7 w2 #[.int .i64 0, .slice none 0 0, .slice none 0 0, .int .i64 0, .slice none 0 0, .slice none 0 0, .slice none 0 0] #[.int .i64 1, .slice (some ⟨g2, 0, none⟩) 1 cg, .slice none 0 0, .int .i64 n, .slice none 0 0, .slice ao t.length cap, .slice none 0 0] rfl rfl (by simp [Value.oneCell'])
  have HF := hide (And.intro hm1 (And.intro hm2 (And.intro hseg (And.intro hsc hb2))))
  have hSW : S < W.heap.size := World.block_lt_of_cell? W ⟨_, _, none⟩ s8'
  have s8'' := (hb2.cell (p := ⟨S, 8, none⟩) hSW).trans s8'
  clear HT hm1 hm2 hseg hsc s8'
  go_upto_region 2 with fail
  have hb3 := cell_below w2 (.cells #[.int .i64 1, .slice (some ⟨g2, 0, none⟩) 1 cg, .slice none 0 0, .int .i64 n, .slice none 0 0, .slice ao t.length cap, .slice none 0 0] 43)
  have hB3 := World.alloc_heap_new w2 (.cells #[.int .i64 1, .slice (some ⟨g2, 0, none⟩) 1 cg, .slice none 0 0, .int .i64 n, .slice none 0 0, .slice ao t.length cap, .slice none 0 0] 43)
  have s8b := (hb3.cell (p := ⟨S, 8, none⟩) (World.block_lt_of_cell? w2 ⟨_, _, none⟩ s8'')).trans s8''
  have hs3 : (w2.alloc (.cells #[.int .i64 1, .slice (some ⟨g2, 0, none⟩) 1 cg, .slice none 0 0, .int .i64 n, .slice none 0 0, .slice ao t.length cap, .slice none 0 0] 43)).heap.size = w2.heap.size + 1 := by simp
  clear hst2 s8''
  generalize w2.alloc (.cells #[.int .i64 1, .slice (some ⟨g2, 0, none⟩) 1 cg, .slice none 0 0, .int .i64 n, .slice none 0 0, .slice ao t.length cap, .slice none 0 0] 43) = w3 at *
  have HC := hide (choices_nil w3)
  have HB3 := hide (And.intro hb3 (And.intro hB3 hs3))
  have hBlt : w2.heap.size < w3.heap.size := by omega
  clear hb3 hB3 hs3 hb2
  go_wp2_with fail
  refine (unhide HC).mono ?_
  rintro e w4 ⟨rfl, hb4⟩
  have hB4 := (hb4.block _ hBlt).trans (unhide HB3).2.1
  have c4 : w4.cell? ⟨w2.heap.size, 4, none⟩ = some (.slice none 0 0) := (res7 hB4).2.2.2.2.1
  have f4 : w4.frozen? ⟨w2.heap.size, 4, none⟩ = false := (res7 hB4).2.2.2.2.2.2.2.2.2.2.2.1
  have hst4 := stored1 c4 f4 (some ⟨w3.heap.size, 0, none⟩) 0 0
  have hB5 := res7c hB4 (.slice (some ⟨w3.heap.size, 0, none⟩) 0 0)
  have hRW := (Array.getElem?_eq_some_iff.1 (unhide HR0)).1
  have hW2 := (unhide HF).2.2.2.2.size
  have h23 := (unhide HB3).1.size
  have hR4 := (hb4.block w.heap.size (by omega)).trans (((unhide HB3).1.block w.heap.size (by omega)).trans (((unhide HF).2.2.2.2.block w.heap.size hlt0).trans (unhide HR0)))
  have hR5 := (set_othr w4 (E := w2.heap.size) (i := 4) (j := w.heap.size) (.slice (some ⟨w3.heap.size, 0, none⟩) 0 0) (by omega)).trans hR4
  obtain ⟨c0, c1, c2, c3, c4', c5, c6, _⟩ := res7 hB5
  obtain ⟨w6, hst6, hR6, hoth, hsz6, hbel⟩ := stored7 hR5 (.int .i64 1) (.slice (some ⟨g2, 0, none⟩) 1 cg) (.slice none 0 0) (.int .i64 n) (.slice (some ⟨w3.heap.size, 0, none⟩) 0 0) (.slice ao t.length cap) (.slice none 0 0) (by simp [Value.oneCell'])
  have hb5 : Below w.heap.size w (w4.setCell ⟨w2.heap.size, 4, none⟩ (.slice (some ⟨w3.heap.size, 0, none⟩) 0 0)) := Below.setCell (bstep (bstep (bstep (unhide HB0) (unhide HF).2.2.2.2) (unhide HB3).1) hb4) (p := ⟨w2.heap.size, 4, none⟩) (show w.heap.size ≤ w2.heap.size by omega) _
  have hb6 := hbel w.heap.size w hb5 (Nat.le_refl _)
  obtain ⟨hm1, hm2, hseg, hsc, hb2⟩ := unhide HF
  have hb34 := hb4.size
  have h5 : (w4.setCell ⟨w2.heap.size, 4, none⟩ (.slice (some ⟨w3.heap.size, 0, none⟩) 0 0)).heap.size = w4.heap.size := by simp
  have hag : Agree (w.heap.size + 1) w2.heap.size w2 w6 := fun j h1 h2 =>
    (hoth j (by omega)).trans ((set_othr w4 (E := w2.heap.size) (i := 4) (j := j) _ (by omega)).trans ((hb4.block j (by omega)).trans ((unhide HB3).1.block j h2)))
  have hseg6 := (hseg.kept (esg_keeps t) (hag.sub (by omega) hm2)).wide (show w.heap.size + 1 ≤ W.heap.size + 1 by omega) (Nat.le_refl m)
  have hsc6 := (hsc.kept (hag.sub (by omega) (Nat.le_refl _))).wide (Nat.le_refl m) (show w2.heap.size ≤ w6.heap.size by omega)
  have HE := hide (And.intro (show w.heap.size < m by omega) (And.intro (show m ≤ w6.heap.size by omega) (And.intro hseg6 (And.intro hsc6 hb6))))
  have HR6 := hide hR6
  clear hB4 c4 f4 hB5 hRW hW2 h23 hR4 hR5 hR6 hoth hsz6 hbel hb5 hb6 hm1 hm2 hseg hsc hb2 hb34 h5 hag hseg6 hsc6 HB3 HF HC HB0 HR0
  go_wp2
  obtain ⟨r0, r1, r2, r3, r4, r5, r6, _⟩ := res7 (unhide HR6)
  obtain ⟨q1, q2, q3, q4, q5⟩ := unhide HE
  exact bodyPost_ret (v := .agg #[.int .i64 1, .slice (some ⟨g2, 0, none⟩) 1 cg, .slice none 0 0, .int .i64 n, .slice (some ⟨w3.heap.size, 0, none⟩) 0 0, .slice ao t.length cap, .slice none 0 0]) (by simp [results, Try.results61, go_sem, r0, r1, r2, r3, r4, r5, r6]) rfl ⟨g2, cg, ao, cap, m, _, rfl, q1, q2, q3, q4, q5⟩
end Go.Proofs.Ytkedckmpjedjoaa

/- SlvNew of the program. -/
namespace Go.Proofs.Ytkedckmpjedjoaa
open Go.RowKit Go.Shelf
set_option linter.unusedVariables false
set_option linter.unusedSimpArgs false
attribute [-go_sem] Go.Instr.storeAt

set_option maxRecDepth 100000 in
set_option maxHeartbeats 4000000 in
theorem implSlvNew_no (ao : Option Addr) (cap : Nat) (t : List C) (w : World) (hcap : t.length ≤ cap) (hcm : cap ≤ maxLen) (hA : Row w ao t) (hF : Fit t) (hwf : WfC t) (hn : topB t = false) :
    Calls Try.prog 19 #[.slice ao t.length cap] w fun e w' => e = .returned (.agg #[.int .i64 0, .slice none 0 0, .slice none 0 0, .int .i64 0, .slice none 0 0, .slice none 0 0, .slice none 0 0]) ∧ Below w.heap.size w w' := by
  have hb0 := cell_below w (.cells #[.int .i64 0, .slice none 0 0, .slice none 0 0, .int .i64 0, .slice none 0 0, .slice none 0 0, .slice none 0 0] 43)
  have hR0 := World.alloc_heap_new w (.cells #[.int .i64 0, .slice none 0 0, .slice none 0 0, .int .i64 0, .slice none 0 0, .slice none 0 0, .slice none 0 0] 43)
  have hlt0 : w.heap.size < (w.alloc (.cells #[.int .i64 0, .slice none 0 0, .slice none 0 0, .int .i64 0, .slice none 0 0, .slice none 0 0, .slice none 0 0] 43)).heap.size := by simp
  have HQ0 := questionOf_any ao cap t (w.alloc (.cells #[.int .i64 0, .slice none 0 0, .slice none 0 0, .int .i64 0, .slice none 0 0, .slice none 0 0, .slice none 0 0] 43)) hcap hcm (hA.below hb0) hF hwf
  have HQ := hide HQ0
  have HB0 := hide hb0
  have HR0 := hide hR0
  clear HQ0 hb0 hR0 hA hF hwf
  go_enter Try.func19, Try.ntmps19
  go_upto_region 1 with fail
  generalize w.alloc (.cells #[.int .i64 0, .slice none 0 0, .slice none 0 0, .int .i64 0, .slice none 0 0, .slice none 0 0, .slice none 0 0] 43) = W at *
  go_wp2_with fail
  refine (unhide HQ).mono ?_
  rintro e w1 ⟨hb1, h | h⟩
  · exact absurd h.1 (by rw [hn]; simp)
  · obtain ⟨_, rfl⟩ := h
    have hR1 := (hb1.block w.heap.size hlt0).trans (unhide HR0)
    obtain ⟨w6, hst6, hR6, hoth, hsz6, hbel⟩ := stored7 hR1 (.int .i64 0) (.slice none 0 0) (.slice none 0 0) (.int .i64 0) (.slice none 0 0) (.slice none 0 0) (.slice none 0 0) (by simp [Value.oneCell'])
    have HR6 := hide hR6
    have HB6 := hide (hbel w.heap.size w (bstep (unhide HB0) hb1) (Nat.le_refl _))
    clear hR1 hR6 hoth hsz6 hbel HQ HB0 HR0 hb1
    go_wp2
    obtain ⟨r0, r1, r2, r3, r4, r5, r6, _⟩ := res7 (unhide HR6)
    exact bodyPost_ret (v := .agg #[.int .i64 0, .slice none 0 0, .slice none 0 0, .int .i64 0, .slice none 0 0, .slice none 0 0, .slice none 0 0]) (by simp [results, Try.results19, go_sem, r0, r1, r2, r3, r4, r5, r6]) rfl ⟨rfl, unhide HB6⟩

set_option maxRecDepth 100000 in
set_option maxHeartbeats 4000000 in
theorem implSlvNew_yes (ao : Option Addr) (cap : Nat) (t : List C) (w : World) (hcap : t.length ≤ cap) (hcm : cap ≤ maxLen) (hA : Row w ao t) (hF : Fit t) (hwf : WfC t) (hy : topB t = true) :
    Calls Try.prog 19 #[.slice ao t.length cap] w (ToldV w t ((freeOf t).length : Int)) := by
  have ht : trm t = true := by unfold topB at hy; simp only [Bool.and_eq_true] at hy; exact hy.1.1
  have hb0 := cell_below w (.cells #[.int .i64 0, .slice none 0 0, .slice none 0 0, .int .i64 0, .slice none 0 0, .slice none 0 0, .slice none 0 0] 43)
  have hR0 := World.alloc_heap_new w (.cells #[.int .i64 0, .slice none 0 0, .slice none 0 0, .int .i64 0, .slice none 0 0, .slice none 0 0, .slice none 0 0] 43)
  have hlt0 : w.heap.size < (w.alloc (.cells #[.int .i64 0, .slice none 0 0, .slice none 0 0, .int .i64 0, .slice none 0 0, .slice none 0 0, .slice none 0 0] 43)).heap.size := by simp
  have HQ0 := questionOf_any ao cap t (w.alloc (.cells #[.int .i64 0, .slice none 0 0, .slice none 0 0, .int .i64 0, .slice none 0 0, .slice none 0 0, .slice none 0 0] 43)) hcap hcm (hA.below hb0) hF hwf
  have HQ := hide HQ0
  have HB0 := hide hb0
  have HR0 := hide hR0
  have HWF := hide hwf
  clear HQ0 hb0 hR0 hA hF hwf
  go_enter Try.func19, Try.ntmps19
  go_upto_region 1 with fail
  generalize w.alloc (.cells #[.int .i64 0, .slice none 0 0, .slice none 0 0, .int .i64 0, .slice none 0 0, .slice none 0 0, .slice none 0 0] 43) = W at *
  go_wp2_with fail
  refine (unhide HQ).mono ?_
  rintro e w1 ⟨hb1, h | h⟩
  · obtain ⟨_, p, rfl, hT⟩ := h
    have HN := hide (newSolving_nil W.heap.size p t w1 hT ht (unhide HWF))
    have HL := hide (listAt_of hT ht)
    have HB1 := hide (bstep (unhide HB0) hb1)
    have HR1 := hide ((hb1.block w.heap.size hlt0).trans (unhide HR0))
    clear HQ HB0 HR0 hb1 hT
    go_wp2_with fail
    refine (unhide HN).mono ?_
    rintro e w2 ⟨S, g, b, rfl, hSv, hb2⟩
    have HT := hide (solving_tell S p g b _ t w2 hSv (fun V hV => unhide HL V (bstep hb2 hV)))
    have HB2 := hide (bstep (unhide HB1) hb2)
    have HR2 := hide ((hb2.block w.heap.size (Array.getElem?_eq_some_iff.1 (unhide HR1)).1).trans (unhide HR1))
    have hs2 : w.heap.size < w2.heap.size := (Array.getElem?_eq_some_iff.1 (unhide HR2)).1
    clear HN HL HB1 HR1 hSv hb2
    go_wp2_with fail
    refine (unhide HT).mono ?_
    rintro e w3 ⟨g2, cg, ao2, cap2, m, co, rfl, hm1, hm2, hseg, hsc, hb3⟩
    have hR3 := (hb3.block w.heap.size hs2).trans (unhide HR2)
    obtain ⟨w6, hst6, hR6, hoth, hsz6, hbel⟩ := stored7 hR3 (.int .i64 1) (.slice (some ⟨g2, 0, none⟩) 1 cg) (.slice none 0 0) (.int .i64 ((freeOf t).length : Int)) (.slice co 0 0) (.slice ao2 t.length cap2) (.slice none 0 0) (by simp [Value.oneCell'])
    have hB6 := hbel w.heap.size w (bstep (unhide HB2) hb3) (Nat.le_refl _)
    have hseg6 := (hseg.kept (w' := w6) (esg_keeps t) (fun j h1 h2 => hoth j (by omega))).wide (show w.heap.size + 1 ≤ w2.heap.size + 1 by omega) (Nat.le_refl m)
    have hsc6 := hsc.kept (w' := w6) (fun j h1 h2 => hoth j (by omega))
    rw [← hsz6] at hsc6 hm2
    have HE := hide (And.intro (show w.heap.size < m by omega) (And.intro hm2 (And.intro hseg6 (And.intro hsc6 hB6))))
    have HR6 := hide hR6
    clear hR3 hR6 hoth hsz6 hbel hB6 hseg6 hsc6 hseg hsc hb3 hm1 hm2 HT HB2 HR2
    go_wp2
    obtain ⟨r0, r1, r2, r3, r4, r5, r6, _⟩ := res7 (unhide HR6)
    obtain ⟨q1, q2, q3, q4, q5⟩ := unhide HE
    exact bodyPost_ret (v := .agg #[.int .i64 1, .slice (some ⟨g2, 0, none⟩) 1 cg, .slice none 0 0, .int .i64 ((freeOf t).length : Int), .slice co 0 0, .slice ao2 t.length cap2, .slice none 0 0]) (by simp [results, Try.results19, go_sem, r0, r1, r2, r3, r4, r5, r6]) rfl ⟨g2, cg, ao2, cap2, m, co, rfl, q1, q2, q3, q4, q5⟩
  · exact absurd h.1 (by rw [hy]; simp)
end Go.Proofs.Ytkedckmpjedjoaa
