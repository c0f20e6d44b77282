/- TrlNew of both. -/
import Derived.Test.YtkedckmpjedjoaaQSN17SN18
namespace Go.Proofs.Ytkedckmpjedjoaa
open Go.RowKit Go.Shelf
set_option linter.unusedVariables false
set_option linter.unusedSimpArgs false
attribute [-go_sem] Go.Instr.storeAt

theorem trailSize : (Try.prog.info? 55).map (·.size) = some 7 := by kernel_rfl
theorem storet {W : World} {R : Nat} {y0 y1 y2 y3 y4 y5 y6 : Value} (h : W.heap[R]? = some (.cells #[y0, y1, y2, y3, y4, y5, y6] 55)) (x0 x1 x2 x3 x4 x5 x6 : Value) (h1 : (#[x0, x1, x2, x3, x4, x5, x6] : Array Value).all (·.oneCell') = true) :
    ∃ V, (Instr.storeAt 55 (.pointer (some ⟨R, 0, none⟩)) (.agg #[x0, x1, x2, x3, x4, x5, x6])).run Try.prog W = .ok () V ∧ V.heap[R]? = some (.cells #[x0, x1, x2, x3, x4, x5, x6] 55) ∧
      (∀ j, j ≠ R → V.heap[j]? = W.heap[j]?) ∧ V.heap.size = W.heap.size ∧ ∀ (b : Nat) (w : World), Below b w W → b ≤ R → Below b w V := by
  obtain ⟨c0, c1, c2, c3, c4, c5, c6, f0, f1, f2, f3, f4, f5, f6⟩ := res7 h
  refine ⟨W.setCells R 0 [x0, x1, x2, x3, x4, x5, x6], run_storeAt_mid W R 0 55 #[x0, x1, x2, x3, x4, x5, x6] (fun j hj => ?_) trailSize h1, set7_blk h x0 x1 x2 x3 x4 x5 x6, fun j hj => set7_other W _ _ _ _ _ _ _ hj, size_set7 W R _ _ _ _ _ _ _, fun b w hb hR => below_set7 hb R hR _ _ _ _ _ _ _⟩
  have hj : j < 7 := hj
  rw [Nat.zero_add]
  rcases (show j = 0 ∨ j = 1 ∨ j = 2 ∨ j = 3 ∨ j = 4 ∨ j = 5 ∨ j = 6 by omega) with rfl | rfl | rfl | rfl | rfl | rfl | rfl
  · exact ⟨by rw [c0]; rfl, f0⟩
  · exact ⟨by rw [c1]; rfl, f1⟩
  · exact ⟨by rw [c2]; rfl, f2⟩
  · exact ⟨by rw [c3]; rfl, f3⟩
  · exact ⟨by rw [c4]; rfl, f4⟩
  · exact ⟨by rw [c5]; rfl, f5⟩
  · exact ⟨by rw [c6]; rfl, f6⟩

set_option maxRecDepth 100000 in
set_option maxHeartbeats 4000000 in
theorem trailState_any (f : F7) (w : World) :
    Calls Try.prog 75 #[.agg #[.int .i64 f.s, .slice f.ga f.gn f.gc, .slice f.ba 0 f.bc, .int .i64 f.n, .slice f.ha 0 f.hc, .slice f.ta f.tn f.tc, .slice f.oa 0 f.oc]] w fun e w' => e = .returned (.agg #[.int .i64 f.s, .slice f.ga f.gn f.gc, .slice f.ba 0 f.bc, .int .i64 f.n, .slice none 0 0, .slice f.ta f.tn f.tc, .slice f.oa 0 f.oc]) ∧ Below w.heap.size w w' := by
  have hb0 := cell_below w (.cells #[.int .i64 f.s, .slice f.ga f.gn f.gc, .slice f.ba 0 f.bc, .int .i64 f.n, .slice f.ha 0 f.hc, .slice f.ta f.tn f.tc, .slice f.oa 0 f.oc] 43)
  have h0 := World.alloc_heap_new w (.cells #[.int .i64 f.s, .slice f.ga f.gn f.gc, .slice f.ba 0 f.bc, .int .i64 f.n, .slice f.ha 0 f.hc, .slice f.ta f.tn f.tc, .slice f.oa 0 f.oc] 43)
  have hsz : (w.alloc (.cells #[.int .i64 f.s, .slice f.ga f.gn f.gc, .slice f.ba 0 f.bc, .int .i64 f.n, .slice f.ha 0 f.hc, .slice f.ta f.tn f.tc, .slice f.oa 0 f.oc] 43)).heap.size = w.heap.size + 1 := by simp
  have hb1 := cell_below (w.alloc (.cells #[.int .i64 f.s, .slice f.ga f.gn f.gc, .slice f.ba 0 f.bc, .int .i64 f.n, .slice f.ha 0 f.hc, .slice f.ta f.tn f.tc, .slice f.oa 0 f.oc] 43)) (.cells #[.int .i64 0, .slice none 0 0, .slice none 0 0, .int .i64 0, .slice none 0 0, .slice none 0 0, .slice none 0 0] 55)
  have h1 := (hb1.block w.heap.size (by omega)).trans h0
  have h2 := World.alloc_heap_new (w.alloc (.cells #[.int .i64 f.s, .slice f.ga f.gn f.gc, .slice f.ba 0 f.bc, .int .i64 f.n, .slice f.ha 0 f.hc, .slice f.ta f.tn f.tc, .slice f.oa 0 f.oc] 43)) (.cells #[.int .i64 0, .slice none 0 0, .slice none 0 0, .int .i64 0, .slice none 0 0, .slice none 0 0, .slice none 0 0] 55)
  rw [hsz] at h2
  have hB := bstep hb0 hb1
  clear hb0 h0 hb1 hsz
  go_enter Try.func75, Try.ntmps75
  go_upto_region 1 with fail
  generalize (w.alloc (.cells #[.int .i64 f.s, .slice f.ga f.gn f.gc, .slice f.ba 0 f.bc, .int .i64 f.n, .slice f.ha 0 f.hc, .slice f.ta f.tn f.tc, .slice f.oa 0 f.oc] 43)).alloc (.cells #[.int .i64 0, .slice none 0 0, .slice none 0 0, .int .i64 0, .slice none 0 0, .slice none 0 0, .slice none 0 0] 55) = W at *
  obtain ⟨a0, a1, a2, a3, a4, a5, a6, _⟩ := res7 h1
  obtain ⟨V, hst, hR, _, _, hbel⟩ := storet h2 (.int .i64 f.s) (.slice f.ga f.gn f.gc) (.slice f.ba 0 f.bc) (.int .i64 f.n) (.slice none 0 0) (.slice f.ta f.tn f.tc) (.slice f.oa 0 f.oc) (by simp [Value.oneCell'])
  have HB := hide (hbel w.heap.size w hB (by omega))
  have HR := hide hR
  clear h1 h2 hB hR hbel
  go_wp2
  obtain ⟨r0, r1, r2, r3, r4, r5, r6, _⟩ := res7 (unhide HR)
  exact bodyPost_ret (v := .agg #[.int .i64 f.s, .slice f.ga f.gn f.gc, .slice f.ba 0 f.bc, .int .i64 f.n, .slice none 0 0, .slice f.ta f.tn f.tc, .slice f.oa 0 f.oc]) (by simp [results, Try.results75, go_sem, r0, r1, r2, r3, r4, r5, r6]) rfl ⟨rfl, unhide HB⟩

theorem Rd7.like {t : List C} {f f' : F7} {V : World} (h : Rd7 t f V) (h0 : f = zero7 → f' = zero7) (h1 : f'.s = f.s) (h2 : f'.n = f.n) (h3 : f'.ga = f.ga) (h4 : f'.gn = f.gn) (h5 : f'.ta = f.ta) (h6 : f'.tn = f.tn) : Rd7 t f' V := by
  rcases h with h | h
  · exact .inl ⟨h.1, h0 h.2⟩
  · refine .inr ?_
    rw [h1, h2, h3, h4, h5, h6]
    exact h
theorem Own7.like {lo hi : Nat} {t : List C} {f f' : F7} {V : World} (h : Own7 lo hi t f V) (h0 : f = zero7 → f' = zero7) (h1 : f'.s = f.s) (h2 : f'.n = f.n) (h3 : f'.ga = f.ga) (h4 : f'.gn = f.gn) (h5 : f'.ta = f.ta) (h6 : f'.tn = f.tn) (h7 : f'.gc = f.gc) (h8 : f'.tc = f.tc) : Own7 lo hi t f' V := by
  rcases h with h | h
  · exact .inl ⟨h.1, h0 h.2⟩
  · refine .inr ?_
    rw [h1, h2, h3, h4, h5, h6, h7, h8]
    exact h

set_option maxRecDepth 100000 in
set_option maxHeartbeats 4000000 in
theorem implTrlNew7 (ao : Option Addr) (cap : Nat) (t : List C) (w : World) (hcap : t.length ≤ cap) (hcm : cap ≤ maxLen) (hA : Row w ao t) (hF : Fit t) (hwf : WfC t) :
    Calls Try.prog 26 #[.slice ao t.length cap] w fun e w' => ∃ f : F7, e = .returned (.agg #[.int .i64 f.s, .slice f.ga f.gn f.gc, .slice f.ba 0 f.bc, .int .i64 f.n, .slice f.ha 0 f.hc, .slice f.ta f.tn f.tc, .slice f.oa 0 f.oc]) ∧ Own7 (w.heap.size + 1) w'.heap.size t f w' ∧ Below w.heap.size w w' := by
  have hb0 := cell_below w (.cells #[.int .i64 0, .slice none 0 0, .slice none 0 0, .int .i64 0, .slice none 0 0, .slice none 0 0, .slice none 0 0] 55)
  have hR0 := World.alloc_heap_new w (.cells #[.int .i64 0, .slice none 0 0, .slice none 0 0, .int .i64 0, .slice none 0 0, .slice none 0 0, .slice none 0 0] 55)
  have hsz : (w.alloc (.cells #[.int .i64 0, .slice none 0 0, .slice none 0 0, .int .i64 0, .slice none 0 0, .slice none 0 0, .slice none 0 0] 55)).heap.size = w.heap.size + 1 := by simp
  have hlt0 : w.heap.size < (w.alloc (.cells #[.int .i64 0, .slice none 0 0, .slice none 0 0, .int .i64 0, .slice none 0 0, .slice none 0 0, .slice none 0 0] 55)).heap.size := by omega
  have HS := hide (implSlvNew7 ao cap t (w.alloc (.cells #[.int .i64 0, .slice none 0 0, .slice none 0 0, .int .i64 0, .slice none 0 0, .slice none 0 0, .slice none 0 0] 55)) hcap hcm (hA.below hb0) hF hwf)
  have HB0 := hide hb0
  have HR0 := hide hR0
  have HSZ := hide hsz
  clear hA hF hwf hb0 hR0 hsz
  go_enter Try.func26, Try.ntmps26
  go_upto_region 1 with fail
  generalize w.alloc (.cells #[.int .i64 0, .slice none 0 0, .slice none 0 0, .int .i64 0, .slice none 0 0, .slice none 0 0, .slice none 0 0] 55) = W at *
  go_wp2_with fail
  refine (unhide HS).mono ?_
  rintro e w2 ⟨f, rfl, hO, hb2⟩
  clear HS
  have HT := hide (trailState_any f w2)
  go_wp2_with fail
  refine (unhide HT).mono ?_
  rintro e w3 ⟨rfl, hb3⟩
  clear HT
  have hW2 := hb2.size
  have hR3 := (hb3.block w.heap.size (by omega)).trans ((hb2.block w.heap.size hlt0).trans (unhide HR0))
  obtain ⟨w6, hst6, hR6, hoth, hsz6, hbel⟩ := storet hR3 (.int .i64 f.s) (.slice f.ga f.gn f.gc) (.slice f.ba 0 f.bc) (.int .i64 f.n) (.slice none 0 0) (.slice f.ta f.tn f.tc) (.slice f.oa 0 f.oc) (by simp [Value.oneCell'])
  have hB6 := hbel w.heap.size w (bstep (bstep (unhide HB0) hb2) hb3) (Nat.le_refl _)
  have hz := unhide HSZ
  have hW3 := hb3.size
  have hO6 : Own7 (w.heap.size + 1) w6.heap.size t f w6 := by
    have h1 := (hO.kept (Agree.below hb3 (Nat.le_refl _))).kept (V' := w6) (fun j h1 h2 => hoth j (by omega))
    rcases h1 with h1 | ⟨q0, q1, q2, q3, q4, g, m, e, l1, l2, hS, hC⟩
    · exact .inl h1
    · exact .inr ⟨q0, q1, q2, q3, q4, g, m, e, by omega, by omega, hS.wide (by omega) (Nat.le_refl _), hC.wide (Nat.le_refl _) (by omega)⟩
  have HO6 := hide hO6
  have HB6 := hide hB6
  have HR6 := hide hR6
  clear hO6 hB6 hR6 hR3 hoth hsz6 hbel hO hb2 hb3 hz hW2 hW3 HB0 HR0 HSZ
  go_wp2
  obtain ⟨r0, r1, r2, r3, r4, r5, r6, _⟩ := res7 (unhide HR6)
  exact bodyPost_ret (v := .agg #[.int .i64 f.s, .slice f.ga f.gn f.gc, .slice f.ba 0 f.bc, .int .i64 f.n, .slice none 0 0, .slice f.ta f.tn f.tc, .slice f.oa 0 f.oc]) (by simp [results, Try.results26, go_sem, r0, r1, r2, r3, r4, r5, r6]) rfl ⟨⟨f.s, f.n, f.ga, f.ba, none, f.ta, f.oa, f.gn, f.gc, f.bc, 0, f.tn, f.tc, f.oc⟩, rfl, (unhide HO6).like (fun h => by rw [h]; rfl) rfl rfl rfl rfl rfl rfl rfl rfl, unhide HB6⟩

theorem no_str {V : World} {R : Nat} {T : TypeId} (h : V.heap[R]? = some (.cells #[.int .i64 0, .slice none 0 0, .slice none 0 0, .int .i64 0, .slice none 0 0, .slice none 0 0, .slice none 0 0] T)) (i : Nat) (s : ByteArray) : V.cell? ⟨R, i, none⟩ ≠ some (.string s) := by
  intro e
  simp only [World.cell?, h] at e
  rcases (show i = 0 ∨ i = 1 ∨ i = 2 ∨ i = 3 ∨ i = 4 ∨ i = 5 ∨ i = 6 ∨ 7 ≤ i by omega) with rfl | rfl | rfl | rfl | rfl | rfl | rfl | hi
  all_goals first
    | (simp at e; done)
    | (rw [Array.getElem?_eq_none (by simpa using hi)] at e; cases e)
theorem row_other {V V' : World} {R : Nat} {ao : Option Addr} {t : List C} (h : Row V ao t) (hR : ∀ (i : Nat) (s : ByteArray), V.cell? ⟨R, i, none⟩ ≠ some (.string s)) (hoth : ∀ j, j ≠ R → V'.heap[j]? = V.heap[j]?) : Row V' ao t := by
  rcases h with h | ⟨b, off, e, h⟩
  · exact .inl h
  · by_cases hn : t = []
    · exact .inl hn
    · have hb : b ≠ R := by
        intro hb
        subst hb
        have h0 := h 0 (List.length_pos_iff.2 hn)
        exact hR _ _ h0.2.2
      refine .inr ⟨b, off, e, fun i hi => ?_⟩
      obtain ⟨h0, h1, h2⟩ := h i hi
      exact ⟨(World.cell?_of_block (a := ⟨b, _, none⟩) (hoth b hb)).trans h0, (World.cell?_of_block (a := ⟨b, _, none⟩) (hoth b hb)).trans h1, (World.cell?_of_block (a := ⟨b, _, none⟩) (hoth b hb)).trans h2⟩
theorem Rd7.other {t : List C} {f : F7} {V V' : World} {R : Nat} {T : TypeId} (h : Rd7 t f V) (hR : V.heap[R]? = some (.cells #[.int .i64 0, .slice none 0 0, .slice none 0 0, .int .i64 0, .slice none 0 0, .slice none 0 0, .slice none 0 0] T)) (hoth : ∀ j, j ≠ R → V'.heap[j]? = V.heap[j]?) : Rd7 t f V' := by
  rcases h with h | ⟨h0, h1, h2, h3, h4, h5, g, pa, pb, pc, px, py, pz, e, hr, c0, c1, c2, c3, c4⟩
  · exact .inl h
  · have hg : g ≠ R := by
      intro hg
      subst hg
      simp [World.cell?, hR] at c0
    exact .inr ⟨h0, h1, h2, h3, h4, row_other h5 (no_str hR) hoth, g, pa, pb, pc, px, py, pz, e, row_other hr (no_str hR) hoth,
      (World.cell?_of_block (a := ⟨g, _, none⟩) (hoth g hg)).trans c0, (World.cell?_of_block (a := ⟨g, _, none⟩) (hoth g hg)).trans c1, (World.cell?_of_block (a := ⟨g, _, none⟩) (hoth g hg)).trans c2, (World.cell?_of_block (a := ⟨g, _, none⟩) (hoth g hg)).trans c3, (World.cell?_of_block (a := ⟨g, _, none⟩) (hoth g hg)).trans c4⟩

set_option maxRecDepth 100000 in
set_option maxHeartbeats 4000000 in
theorem specTrlNew7 (b off cap : Nat) (t : List C) (w : World) (hm : t.length ≤ maxLen) (hA : At w b off t) (hF : Fit t) :
    Calls Try.prog 28 #[.slice (some ⟨b, off, none⟩) t.length cap] w fun e w' => ∃ f : F7, e = .returned (.agg #[.int .i64 f.s, .slice f.ga f.gn f.gc, .slice f.ba 0 f.bc, .int .i64 f.n, .slice f.ha 0 f.hc, .slice f.ta f.tn f.tc, .slice f.oa 0 f.oc]) ∧ Rd7 t f w' ∧ Below w.heap.size w w' := by
  have hb0 := cell_below w (.cells #[.int .i64 0, .slice none 0 0, .slice none 0 0, .int .i64 0, .slice none 0 0, .slice none 0 0, .slice none 0 0] 55)
  have hR0 := World.alloc_heap_new w (.cells #[.int .i64 0, .slice none 0 0, .slice none 0 0, .int .i64 0, .slice none 0 0, .slice none 0 0, .slice none 0 0] 55)
  have hlt0 : w.heap.size < (w.alloc (.cells #[.int .i64 0, .slice none 0 0, .slice none 0 0, .int .i64 0, .slice none 0 0, .slice none 0 0, .slice none 0 0] 55)).heap.size := by simp
  have HS := hide (specSlvNew7 b off cap t (w.alloc (.cells #[.int .i64 0, .slice none 0 0, .slice none 0 0, .int .i64 0, .slice none 0 0, .slice none 0 0, .slice none 0 0] 55)) hm (hA.below hb0) hF)
  have HB0 := hide hb0
  have HR0 := hide hR0
  clear hA hF hb0 hR0
  go_enter Try.func28, Try.ntmps28
  go_upto_region 1 with fail
  generalize w.alloc (.cells #[.int .i64 0, .slice none 0 0, .slice none 0 0, .int .i64 0, .slice none 0 0, .slice none 0 0, .slice none 0 0] 55) = W at *
  go_wp2_with fail
  refine (unhide HS).mono ?_
  rintro e w2 ⟨f, rfl, hO, hb2⟩
  clear HS
  have hst2 := newed7 w2 #[.int .i64 0, .slice none 0 0, .slice none 0 0, .int .i64 0, .slice none 0 0, .slice none 0 0, .slice none 0 0] #[.int .i64 f.s, .slice f.ga f.gn f.gc, .slice f.ba 0 f.bc, .int .i64 f.n, .slice f.ha 0 f.hc, .slice f.ta f.tn f.tc, .slice f.oa 0 f.oc] rfl rfl (by simp [Value.oneCell'])
  have ha := cell_below w2 (.cells #[.int .i64 f.s, .slice f.ga f.gn f.gc, .slice f.ba 0 f.bc, .int .i64 f.n, .slice f.ha 0 f.hc, .slice f.ta f.tn f.tc, .slice f.oa 0 f.oc] 43)
  have h1 := World.alloc_heap_new w2 (.cells #[.int .i64 f.s, .slice f.ga f.gn f.gc, .slice f.ba 0 f.bc, .int .i64 f.n, .slice f.ha 0 f.hc, .slice f.ta f.tn f.tc, .slice f.oa 0 f.oc] 43)
  go_upto_region 2 with fail
  clear hst2
  have hW2 := hb2.size
  have hR3 := (ha.block w.heap.size (by omega)).trans ((hb2.block w.heap.size hlt0).trans (unhide HR0))
  have hO3 := hO.below ha
  have hB3 := bstep (bstep (unhide HB0) hb2) ha
  generalize w2.alloc (.cells #[.int .i64 f.s, .slice f.ga f.gn f.gc, .slice f.ba 0 f.bc, .int .i64 f.n, .slice f.ha 0 f.hc, .slice f.ta f.tn f.tc, .slice f.oa 0 f.oc] 43) = w3 at *
  obtain ⟨a0, a1, a2, a3, a4, a5, a6, _⟩ := res7 h1
  obtain ⟨w6, hst6, hR6, hoth, hsz6, hbel⟩ := storet hR3 (.int .i64 f.s) (.slice f.ga f.gn f.gc) (.slice none 0 0) (.int .i64 f.n) (.slice none 0 0) (.slice f.ta f.tn f.tc) (.slice none 0 0) (by simp [Value.oneCell'])
  have hB6 := hbel w.heap.size w hB3 (Nat.le_refl _)
  have HO6 := hide (hO3.other hR3 hoth)
  have HB6 := hide hB6
  have HR6 := hide hR6
  clear hB6 hR6 hR3 hoth hsz6 hbel hO hO3 hB3 hb2 ha h1 hW2 HB0 HR0
  go_wp2
  obtain ⟨r0, r1, r2, r3, r4, r5, r6, _⟩ := res7 (unhide HR6)
  exact bodyPost_ret (v := .agg #[.int .i64 f.s, .slice f.ga f.gn f.gc, .slice none 0 0, .int .i64 f.n, .slice none 0 0, .slice f.ta f.tn f.tc, .slice none 0 0]) (by simp [results, Try.results28, go_sem, r0, r1, r2, r3, r4, r5, r6]) rfl ⟨⟨f.s, f.n, f.ga, none, none, f.ta, none, f.gn, f.gc, 0, 0, f.tn, f.tc, 0⟩, rfl, (unhide HO6).like (fun h => by rw [h]; rfl) rfl rfl rfl rfl rfl rfl, unhide HB6⟩
end Go.Proofs.Ytkedckmpjedjoaa
