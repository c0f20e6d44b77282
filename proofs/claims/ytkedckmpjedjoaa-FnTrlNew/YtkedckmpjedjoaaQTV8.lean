/- The walk of FnTrlNew. -/
import Derived.Test.YtkedckmpjedjoaaQGT1GT2TV6TV5TV7
import Derived.Test.YtkedckmpjedjoaaQSH2T8T9T10GD1L1
import Derived.Deep.RegionHeld3
namespace Go.Proofs.Ytkedckmpjedjoaa
open Go.RowKit Go.Shelf
set_option linter.unusedVariables false
set_option linter.unusedSimpArgs false

set_option maxRecDepth 100000 in
set_option maxHeartbeats 8000000 in
theorem FnTrlNew_walk (ao : Option Addr) (len cap : Nat) (z : Nat → Int) (w : World) (h : Bin w ao len cap z) :
    Calls Try.prog 5 #[.slice ao len cap] w fun e w' => e = .returned (.bool true) ∧ Below w.heap.size w w' := by
  have hmx : len ≤ 9223372036854775807 := by have := h.1; have := h.2.1; unfold maxLen at this; omega
  by_cases hbig : len ≤ 1048576
  · go_enter Try.func5, Try.ntmps5
    go_wp2_with fail
    refine (drawTrlNew_any ao len cap z _ h).mono ?_
    rintro e w1 ⟨v, t, rfl, hO1, ht41, hDc, hb1⟩
    obtain ⟨hFit, hWf⟩ := dc_fit hDc
    obtain ⟨a1, c1, rfl, hcc, hcm, hR1⟩ := shape3 hO1
    have hml : t.length ≤ maxLen := by unfold maxLen; omega
    have HF := hide hFit
    have HT := hide (implTrlNew7 a1 c1 t w1 hcc hcm hR1 hFit hWf)
    have HR := hide (fun (V : World) (hV : Below w1.heap.size w1 V) => hR1.below hV)
    have HWF := hide hWf
    clear hFit hWf hDc hO1 hR1
    go_wp2_with fail
    refine (unhide HT).mono ?_
    rintro e w2 ⟨f, rfl, hO, hb2⟩
    clear HT
    have hs2 := hb2.size
    have hrd := hO.rd (Nat.le_refl _)
    have ha := cell_below w2 (.cells #[.int .i64 f.s, .slice f.ga f.gn f.gc, .slice f.ba 0 f.bc, .int .i64 f.n, .slice f.ha 0 f.hc, .slice f.ta f.tn f.tc, .slice f.oa 0 f.oc] 55)
    have hbk := World.alloc_heap_new w2 (.cells #[.int .i64 f.s, .slice f.ga f.gn f.gc, .slice f.ba 0 f.bc, .int .i64 f.n, .slice f.ha 0 f.hc, .slice f.ta f.tn f.tc, .slice f.oa 0 f.oc] 55)
    have hsb : (w2.alloc (.cells #[.int .i64 f.s, .slice f.ga f.gn f.gc, .slice f.ba 0 f.bc, .int .i64 f.n, .slice f.ha 0 f.hc, .slice f.ta f.tn f.tc, .slice f.oa 0 f.oc] 55)).heap.size = w2.heap.size + 1 := by simp
    go_upto_region 5 with fail
    have hrd := hrd.below ha
    have hB1 := bstep hb2 ha
    have hBW := bstep hb1 hB1
    generalize w2.alloc (.cells #[.int .i64 f.s, .slice f.ga f.gn f.gc, .slice f.ba 0 f.bc, .int .i64 f.n, .slice f.ha 0 f.hc, .slice f.ta f.tn f.tc, .slice f.oa 0 f.oc] 55) = W at *
    generalize w2.heap.size = A at *
    have hlt : A < W.heap.size := by omega
    have H1 := hide (fun (V : World) (hV : Below W.heap.size W V) => specTrlNewR a1 c1 t V hml (unhide HR V (bstep hB1 hV)) (unhide HF))
    have H2 := hide (fun (V : World) (f0 : F7) (hV : Below W.heap.size W V) (h0 : Rd7 t f0 V) => caTrail7 t f f0 V (unhide HF) (hrd.below hV) h0)
    have H3 := hide (fun (V : World) (hV : Below W.heap.size W V) => trlView7 t f V (by omega) (hrd.below hV))
    have H4 : Hid (∀ (V : World), Below W.heap.size W V → Calls Try.prog 19 #[.slice a1 t.length c1] V fun e w' => ∃ f : F7, e = .returned (.agg #[.int .i64 f.s, .slice f.ga f.gn f.gc, .slice f.ba 0 f.bc, .int .i64 f.n, .slice f.ha 0 f.hc, .slice f.ta f.tn f.tc, .slice f.oa 0 f.oc]) ∧ Rd7 t f w' ∧ Below V.heap.size V w') := fun V hV => (implSlvNew7 a1 c1 t V hcc hcm (unhide HR V (bstep hB1 hV)) (unhide HF) (unhide HWF)).mono (by
      rintro e w' ⟨f, rfl, hO, hb⟩
      exact ⟨f, rfl, hO.rd (Nat.le_refl _), hb⟩)
    have H5 := hide (fun (V : World) (f3 f4 : F7) (h3 : Rd7 t f3 V) (h4 : Rd7 t f4 V) => caSolve7 t f3 f4 V (unhide HF) h3 h4)
    have hd : Below W.heap.size W W.drew := (Below.refl _ _).drew
    have HS := hide (fun (V : World) (hV : Below W.heap.size W V) => (show V.cell? ⟨A, 0, none⟩ = some (.int .i64 f.s) ∧ V.cell? ⟨A, 1, none⟩ = some (.slice f.ga f.gn f.gc) ∧ V.cell? ⟨A, 2, none⟩ = some (.slice f.ba 0 f.bc) ∧ V.cell? ⟨A, 3, none⟩ = some (.int .i64 f.n) ∧ V.cell? ⟨A, 4, none⟩ = some (.slice f.ha 0 f.hc) ∧ V.cell? ⟨A, 5, none⟩ = some (.slice f.ta f.tn f.tc) ∧ V.cell? ⟨A, 6, none⟩ = some (.slice f.oa 0 f.oc) from by
      obtain ⟨q0, q1, q2, q3, q4, q5, q6, _⟩ := res7 ((hV.block A hlt).trans hbk)
      exact ⟨q0, q1, q2, q3, q4, q5, q6⟩))
    obtain ⟨s0, s1, s2, s3, s4, s5, s6⟩ := unhide HS W.drew hd
    have HBW := hide hBW
    clear hBW hB1 hrd ha hbk hb1 hb2 hO HR HWF hcc hcm hsb hs2
    go_region_held3 (fun w' => w'.cell? ⟨A, 0, none⟩ = some (.int .i64 f.s) ∧ w'.cell? ⟨A, 1, none⟩ = some (.slice f.ga f.gn f.gc) ∧ w'.cell? ⟨A, 2, none⟩ = some (.slice f.ba 0 f.bc) ∧ w'.cell? ⟨A, 3, none⟩ = some (.int .i64 f.n) ∧ w'.cell? ⟨A, 4, none⟩ = some (.slice f.ha 0 f.hc) ∧ w'.cell? ⟨A, 5, none⟩ = some (.slice f.ta f.tn f.tc) ∧ w'.cell? ⟨A, 6, none⟩ = some (.slice f.oa 0 f.oc)) (first | (refine ⟨?_, ?_, ?_, ?_, ?_, ?_, ?_⟩ <;> with_reducible assumption) | (refine unhide HS _ ?_; with_reducible assumption)) (first
      | (go_at_call 31; have hx := hB5; refine (caOk_any _).mono ?_; rintro e x6 ⟨rfl, hc6⟩; have FIN := hide (bstep (unhide HBW) (bstep hB5 hc6)); have hB6 := bstep hB5 hc6)
      | (go_at_call 29; have hx := hr4; refine (unhide H5 _ f3 f4 hr3 hr4).mono ?_; rintro e x5 ⟨rfl, hc5⟩; have hB5 : Below W.heap.size W x5 := (by first | exact bstep hB3 hc5 | exact bstep hB4 hc5))
      | (go_at_call 30; have hx := hB2; refine (unhide H3 _ (by first | exact hB2 | exact hB4)).mono ?_; rintro e x3 ⟨f3, rfl, hr3, hc3⟩; have hB3 : Below W.heap.size W x3 := (by first | exact bstep hB2 hc3 | exact bstep hB4 hc3); (try (replace hr4 := hr4.below hc3)))
      | (go_at_call 19; have hx := hB2; refine (unhide H4 _ (by first | exact hB2 | exact hB3)).mono ?_; rintro e x4 ⟨f4, rfl, hr4, hc4⟩; have hB4 : Below W.heap.size W x4 := (by first | exact bstep hB2 hc4 | exact bstep hB3 hc4); (try (replace hr3 := hr3.below hc4)))
      | (go_at_call 27; have hx := hB1; refine (unhide H2 _ f0 hB1 hr1).mono ?_; rintro e x2 ⟨rfl, hc2⟩; have hB2 : Below W.heap.size W x2 := bstep hB1 hc2)
      | (go_at_call 28; refine (unhide H1 _ hd).mono ?_; rintro e x1 ⟨f0, rfl, hr1, hc1⟩; have hB1 : Below W.heap.size W x1 := bstep hd hc1))
    all_goals
      go_wp2
      go_ret
      exact ⟨rfl, unhide FIN⟩
  · go_enter Try.func5, Try.ntmps5
    go_wp2
    go_ret
    exact ⟨rfl, Below.refl _ _⟩
end Go.Proofs.Ytkedckmpjedjoaa
