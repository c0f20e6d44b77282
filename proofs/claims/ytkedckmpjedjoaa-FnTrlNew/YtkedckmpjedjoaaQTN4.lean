/- The walk of FnExactTrlNew. -/
import Derived.Test.YtkedckmpjedjoaaQTN2TN3
namespace Go.Proofs.Ytkedckmpjedjoaa
open Go.RowKit Go.Shelf
set_option linter.unusedVariables false
set_option linter.unusedSimpArgs false

set_option maxRecDepth 100000 in
set_option maxHeartbeats 8000000 in
theorem FnExactTrlNew_walk (ao : Option Addr) (cap : Nat) (t : List C) (w : World) (hm : t.length ≤ maxLen) (hA : Row w ao t) (hF : Fit t) (hw : WfC t) :
    Calls Try.prog 6 #[.slice ao t.length cap] w fun e w' => e = .returned (.bool true) ∧ Below w.heap.size w w' := by
  have HA := hide hA
  have HF := hide hF
  have HW := hide hw
  have HSZ := hide (szTrmCellS_any ao cap t 1048576 w hm hA hF (by omega) (by omega))
  clear hA hF hw
  go_enter Try.func6, Try.ntmps6
  go_wp2_with fail
  refine (unhide HSZ).mono ?_
  rintro e w1 ⟨r, rfl, hr, hb1⟩
  by_cases hr0 : r < 0
  · go_wp2
    go_ret
    exact ⟨rfl, hb1⟩
  have hlen : t.length ≤ 1048576 := by omega
  clear hr HSZ
  have HX := hide (toTrmCellS_any ao cap t w1 hlen ((unhide HA).below hb1))
  go_wp2_with fail
  refine (unhide HX).mono ?_
  rintro e w2 ⟨rfl, ho2, hb2⟩
  have hB2 := bstep hb1 hb2
  clear HX
  have HX := hide (specTrlNew7 w1.heap.size 0 t.length t w2 hm (owns_at ho2 rfl) (unhide HF))
  clear ho2 hb1 hb2
  go_wp2_with fail
  refine (unhide HX).mono ?_
  rintro e w3 ⟨f0, rfl, hR0, hb3⟩
  clear HX
  have hB3 := bstep hB2 hb3
  have ha := cell_below w3 (.cells #[.int .i64 f0.s, .slice f0.ga f0.gn f0.gc, .slice f0.ba 0 f0.bc, .int .i64 f0.n, .slice f0.ha 0 f0.hc, .slice f0.ta f0.tn f0.tc, .slice f0.oa 0 f0.oc] 55)
  have hb0 := World.alloc_heap_new w3 (.cells #[.int .i64 f0.s, .slice f0.ga f0.gn f0.gc, .slice f0.ba 0 f0.bc, .int .i64 f0.n, .slice f0.ha 0 f0.hc, .slice f0.ta f0.tn f0.tc, .slice f0.oa 0 f0.oc] 55)
  have hsb0 : (w3.alloc (.cells #[.int .i64 f0.s, .slice f0.ga f0.gn f0.gc, .slice f0.ba 0 f0.bc, .int .i64 f0.n, .slice f0.ha 0 f0.hc, .slice f0.ta f0.tn f0.tc, .slice f0.oa 0 f0.oc] 55)).heap.size = w3.heap.size + 1 := by simp
  go_upto_region 6 with fail
  have hR0 := hR0.below ha
  have hB3a := bstep hB3 ha
  generalize w3.alloc (.cells #[.int .i64 f0.s, .slice f0.ga f0.gn f0.gc, .slice f0.ba 0 f0.bc, .int .i64 f0.n, .slice f0.ha 0 f0.hc, .slice f0.ta f0.tn f0.tc, .slice f0.oa 0 f0.oc] 55) = w3a at *
  clear ha hb3 hB2 hB3 hsb0
  have hw3a := hB3a.size
  have HR0 := hide hR0
  have HBK0 := hide hb0
  clear hR0 hb0
  have HX := hide (toTrmCellS_any ao cap t w3a hlen ((unhide HA).below hB3a))
  go_wp2_with fail
  refine (unhide HX).mono ?_
  rintro e w4 ⟨rfl, ho4, hb4⟩
  have hB4 := bstep hB3a hb4
  have hC4 := hb4
  have ho4b : OwnC w4 w3a.heap.size (.slice (some ⟨w3a.heap.size, 0, none⟩) t.length t.length) t := ho4
  have hX4 : w3a.heap.size < w4.heap.size := by have := World.ownsRow.lt ho4 w3a.heap.size rfl; exact this.2
  clear HX
  have HX := hide (implTrlNew7 (some ⟨w3a.heap.size, 0, none⟩) t.length t w4 (Nat.le_refl _) hm (row_of_own ho4) (unhide HF) (unhide HW))
  clear ho4
  go_wp2_with fail
  refine (unhide HX).mono ?_
  rintro e w5 ⟨f1, rfl, hO, hb5⟩
  clear HX
  have ha := cell_below w5 (.cells #[.int .i64 f1.s, .slice f1.ga f1.gn f1.gc, .slice f1.ba 0 f1.bc, .int .i64 f1.n, .slice f1.ha 0 f1.hc, .slice f1.ta f1.tn f1.tc, .slice f1.oa 0 f1.oc] 55)
  have hb1 := World.alloc_heap_new w5 (.cells #[.int .i64 f1.s, .slice f1.ga f1.gn f1.gc, .slice f1.ba 0 f1.bc, .int .i64 f1.n, .slice f1.ha 0 f1.hc, .slice f1.ta f1.tn f1.tc, .slice f1.oa 0 f1.oc] 55)
  have hsb1 : (w5.alloc (.cells #[.int .i64 f1.s, .slice f1.ga f1.gn f1.gc, .slice f1.ba 0 f1.bc, .int .i64 f1.n, .slice f1.ha 0 f1.hc, .slice f1.ta f1.tn f1.tc, .slice f1.oa 0 f1.oc] 55)).heap.size = w5.heap.size + 1 := by simp
  go_upto_region 8 with fail
  have hO := hO.kept (Agree.below ha (Nat.le_refl _))
  have hB := bstep (bstep hB4 hb5) ha
  have hC := bstep (bstep hC4 hb5) ha
  have hx := (own_below ho4b hb5)
  have hx := own_below hx ha
  have hs45 := hb5.size
  generalize w5.alloc (.cells #[.int .i64 f1.s, .slice f1.ga f1.gn f1.gc, .slice f1.ba 0 f1.bc, .int .i64 f1.n, .slice f1.ha 0 f1.hc, .slice f1.ta f1.tn f1.tc, .slice f1.oa 0 f1.oc] 55) = w5a at *
  clear ha hb5 hb4 hB4 hC4 ho4b hB3a
  obtain ⟨lo, hlo⟩ : ∃ lo, lo = w4.heap.size + 1 := ⟨_, rfl⟩
  obtain ⟨hi, hhi⟩ : ∃ hi, hi = w5.heap.size := ⟨_, rfl⟩
  rw [← hlo, ← hhi] at hO
  rw [← hhi] at hb1 hsb1 ⊢
  have HO := hide hO
  have HXO := hide hx
  have HB := hide hB
  have HC := hide hC
  have HB1 := hide hb1
  have hz : hi < w5a.heap.size := by omega
  clear hO hx hB hC hb1
  have hXlo : w3a.heap.size < lo := by omega
  have hXB1 : w3a.heap.size ≠ hi := by omega
  have hwlo : w.heap.size ≤ lo := by have := (unhide HB).size; have := hX4; have q : w.heap.size ≤ w3a.heap.size := hw3a; omega
  clear hlo hhi hsb1 hs45
  have k0 := ((unhide HC).block w3.heap.size (Array.getElem?_eq_some_iff.1 (unhide HBK0)).1).trans (unhide HBK0)
  obtain ⟨a0, a1, a2, a3, a4, a5, a6, _⟩ := res7 k0
  obtain ⟨c0, c1, c2, c3, c4, c5, c6, _⟩ := res7 (unhide HB1)
  have HX := hide (eq8 t (unhide HF) f1 f0 w5a ((unhide HO).rd (Nat.le_of_lt hz)) ((unhide HR0).below (unhide HC)))
  go_wp2_with fail
  refine (unhide HX).mono ?_
  rintro e w6 ⟨rfl, hb⟩
  clear HX
  clear a0 a1 a2 a3 a4 a5 a6 k0
  clear c0 c1 c2 c3 c4 c5 c6
  replace HB := hide (bstep (unhide HB) hb)
  replace HC := hide (bstep (unhide HC) hb)
  replace HB1 := hide ((hb.block hi hz).trans (unhide HB1))
  replace HO := hide ((unhide HO).kept (Agree.below hb (Nat.le_of_lt hz)))
  replace HXO := hide (own_below (unhide HXO) hb)
  replace hz : hi < w6.heap.size := Nat.lt_of_lt_of_le hz hb.size
  clear hb
  have HX := hide (toTrmCellS_any ao cap t w6 hlen ((unhide HA).below (unhide HB)))
  go_wp2_with fail
  refine (unhide HX).mono ?_
  rintro e w7 ⟨rfl, ho7, hb⟩
  clear HX
  replace HB := hide (bstep (unhide HB) hb)
  replace HC := hide (bstep (unhide HC) hb)
  replace HB1 := hide ((hb.block hi hz).trans (unhide HB1))
  replace HO := hide ((unhide HO).kept (Agree.below hb (Nat.le_of_lt hz)))
  replace HXO := hide (own_below (unhide HXO) hb)
  replace hz : hi < w7.heap.size := Nat.lt_of_lt_of_le hz hb.size
  clear hb
  have HX := hide ((sameS_self t) ▸ eqTrmCellS_any (some ⟨w3a.heap.size, 0, none⟩) (some ⟨w6.heap.size, 0, none⟩) t.length t.length t t w7 hm (OwnC.row (unhide HXO)) (row_of_own ho7))
  go_wp2_with fail
  refine (unhide HX).mono ?_
  rintro e w8 ⟨rfl, hb⟩
  clear HX
  clear ho7
  replace HB := hide (bstep (unhide HB) hb)
  replace HC := hide (bstep (unhide HC) hb)
  replace HB1 := hide ((hb.block hi hz).trans (unhide HB1))
  replace HO := hide ((unhide HO).kept (Agree.below hb (Nat.le_of_lt hz)))
  replace HXO := hide (own_below (unhide HXO) hb)
  replace hz : hi < w8.heap.size := Nat.lt_of_lt_of_le hz hb.size
  clear hb
  have HX := hide (markTrmCellS_one (some ⟨w3a.heap.size, 0, none⟩) t.length t w3a.heap.size w8 hlen (unhide HXO))
  go_wp2_with fail
  refine (unhide HX).mono ?_
  rintro e w9 ⟨rfl, hx9, hG⟩
  clear HX
  replace HB := hide (below_row (unhide HB) hG (unhide HXO) hw3a)
  replace HC := hide (below_row (unhide HC) hG (unhide HXO) (Nat.le_refl _))
  replace HB1 := hide ((hG.block hi hz (by simpa [Value.ownBlock] using Ne.symm hXB1)).trans (unhide HB1))
  replace HO := hide ((unhide HO).kept (fun j h1 h2 => hG.block j (by omega) (by simp [Value.ownBlock]; omega)))
  replace hz : hi < w9.heap.size := Nat.lt_of_lt_of_le hz hG.size
  clear hG hx9 HXO
  have hpos : ¬ ((1 + 3 * (t.length : Int)) < 0) := by omega
  have k0 := ((unhide HC).block w3.heap.size (Array.getElem?_eq_some_iff.1 (unhide HBK0)).1).trans (unhide HBK0)
  obtain ⟨a0, a1, a2, a3, a4, a5, a6, _⟩ := res7 k0
  obtain ⟨c0, c1, c2, c3, c4, c5, c6, _⟩ := res7 (unhide HB1)
  have HX := hide (eq8 t (unhide HF) f1 f0 w9 ((unhide HO).rd (Nat.le_of_lt hz)) ((unhide HR0).below (unhide HC)))
  go_wp2_with fail
  refine (unhide HX).mono ?_
  rintro e w10 ⟨rfl, hb⟩
  clear HX
  clear a0 a1 a2 a3 a4 a5 a6 k0
  clear c0 c1 c2 c3 c4 c5 c6
  replace HB := hide (bstep (unhide HB) hb)
  replace HC := hide (bstep (unhide HC) hb)
  replace HB1 := hide ((hb.block hi hz).trans (unhide HB1))
  replace HO := hide ((unhide HO).kept (Agree.below hb (Nat.le_of_lt hz)))
  replace hz : hi < w10.heap.size := Nat.lt_of_lt_of_le hz hb.size
  clear hb
  obtain ⟨N, hN⟩ : ∃ N, N = cnt7 t := ⟨_, rfl⟩
  have hN1 : 1 ≤ N := by rw [hN]; exact cnt7_pos t
  have hN0 : ¬ (N < 0) := by omega
  have hNN : (N != N) = false := by simp
  have HN := hide hN
  clear hN
  obtain ⟨c0, c1, c2, c3, c4, c5, c6, _⟩ := res7 (unhide HB1)
  have HX := hide ((show Calls Try.prog 33 #[.agg #[.int .i64 f1.s, .slice f1.ga f1.gn f1.gc, .slice f1.ba 0 f1.bc, .int .i64 f1.n, .slice f1.ha 0 f1.hc, .slice f1.ta f1.tn f1.tc, .slice f1.oa 0 f1.oc], .int .i64 1] w10 fun e V' => e = .returned (.int .i64 N) ∧ Btw lo hi w10 V' ∧ Mk8 lo hi t f1 V' from by rw [unhide HN]; exact mark8 lo hi t f1 w10 (unhide HO) (Nat.le_of_lt hz)))
  go_wp2_with fail
  refine (unhide HX).mono ?_
  rintro e w11 ⟨rfl, hb, hM⟩
  clear HX
  clear c0 c1 c2 c3 c4 c5 c6
  replace HB := hide (Btw.below (unhide HB) hb hwlo)
  replace HC := hide (Btw.below (unhide HC) hb (by omega))
  replace HB1 := hide ((hb.block hi hz (.inr (Nat.le_refl _))).trans (unhide HB1))
  replace hz : hi < w11.heap.size := Nat.lt_of_lt_of_le hz hb.size
  have HM := hide hM
  clear hb hM HO
  obtain ⟨c0, c1, c2, c3, c4, c5, c6, _⟩ := res7 (unhide HB1)
  have HX := hide ((show Calls Try.prog 34 #[.agg #[.int .i64 f1.s, .slice f1.ga f1.gn f1.gc, .slice f1.ba 0 f1.bc, .int .i64 f1.n, .slice f1.ha 0 f1.hc, .slice f1.ta f1.tn f1.tc, .slice f1.oa 0 f1.oc], .int .i64 1] w11 fun e V' => e = .returned (.int .i64 N) ∧ Below w11.heap.size w11 V' from by rw [unhide HN]; exact (unhide HM) w11 (Agree.refl _ _ _) (Nat.le_of_lt hz)))
  go_wp2_with fail
  refine (unhide HX).mono ?_
  rintro e w12 ⟨rfl, hb⟩
  clear HX
  clear c0 c1 c2 c3 c4 c5 c6
  replace HB := hide (bstep (unhide HB) hb)
  replace HC := hide (bstep (unhide HC) hb)
  replace HB1 := hide ((hb.block hi hz).trans (unhide HB1))
  replace HM := hide ((unhide HM).kept (Agree.below hb (Nat.le_of_lt hz)))
  replace hz : hi < w12.heap.size := Nat.lt_of_lt_of_le hz hb.size
  clear hb
  have HX := hide (toTrmCellS_any ao cap t w12 hlen ((unhide HA).below (unhide HB)))
  go_wp2_with fail
  refine (unhide HX).mono ?_
  rintro e w13 ⟨rfl, ho13, hb⟩
  clear HX
  replace HB := hide (bstep (unhide HB) hb)
  replace HC := hide (bstep (unhide HC) hb)
  replace HB1 := hide ((hb.block hi hz).trans (unhide HB1))
  replace HM := hide ((unhide HM).kept (Agree.below hb (Nat.le_of_lt hz)))
  replace hz : hi < w13.heap.size := Nat.lt_of_lt_of_le hz hb.size
  clear hb
  have HX := hide (implTrlNew7 (some ⟨w12.heap.size, 0, none⟩) t.length t w13 (Nat.le_refl _) hm (row_of_own ho13) (unhide HF) (unhide HW))
  go_wp2_with fail
  refine (unhide HX).mono ?_
  rintro e w14 ⟨f2, rfl, hO2, hb⟩
  clear HX
  clear ho13
  replace HB := hide (bstep (unhide HB) hb)
  replace HC := hide (bstep (unhide HC) hb)
  replace HB1 := hide ((hb.block hi hz).trans (unhide HB1))
  replace HM := hide ((unhide HM).kept (Agree.below hb (Nat.le_of_lt hz)))
  replace hz : hi < w14.heap.size := Nat.lt_of_lt_of_le hz hb.size
  clear hb
  have hb := cell_below w14 (.cells #[.int .i64 f2.s, .slice f2.ga f2.gn f2.gc, .slice f2.ba 0 f2.bc, .int .i64 f2.n, .slice f2.ha 0 f2.hc, .slice f2.ta f2.tn f2.tc, .slice f2.oa 0 f2.oc] 55)
  have hb2 := World.alloc_heap_new w14 (.cells #[.int .i64 f2.s, .slice f2.ga f2.gn f2.gc, .slice f2.ba 0 f2.bc, .int .i64 f2.n, .slice f2.ha 0 f2.hc, .slice f2.ta f2.tn f2.tc, .slice f2.oa 0 f2.oc] 55)
  go_upto_region 25 with fail
  have hO2 := (hO2.kept (Agree.below hb (Nat.le_refl _))).rd (by simp)
  generalize w14.alloc (.cells #[.int .i64 f2.s, .slice f2.ga f2.gn f2.gc, .slice f2.ba 0 f2.bc, .int .i64 f2.n, .slice f2.ha 0 f2.hc, .slice f2.ta f2.tn f2.tc, .slice f2.oa 0 f2.oc] 55) = w14a at *
  replace HB := hide (bstep (unhide HB) hb)
  replace HC := hide (bstep (unhide HC) hb)
  replace HB1 := hide ((hb.block hi hz).trans (unhide HB1))
  replace HM := hide ((unhide HM).kept (Agree.below hb (Nat.le_of_lt hz)))
  replace hz : hi < w14a.heap.size := Nat.lt_of_lt_of_le hz hb.size
  clear hb
  have k0 := ((unhide HC).block w3.heap.size (Array.getElem?_eq_some_iff.1 (unhide HBK0)).1).trans (unhide HBK0)
  obtain ⟨a0, a1, a2, a3, a4, a5, a6, _⟩ := res7 k0
  obtain ⟨c0, c1, c2, c3, c4, c5, c6, _⟩ := res7 hb2
  have HX := hide (eq8 t (unhide HF) f2 f0 w14a hO2 ((unhide HR0).below (unhide HC)))
  go_wp2_with fail
  refine (unhide HX).mono ?_
  rintro e w15 ⟨rfl, hb⟩
  clear HX
  clear a0 a1 a2 a3 a4 a5 a6 k0
  clear c0 c1 c2 c3 c4 c5 c6
  clear hb2 hO2
  replace HB := hide (bstep (unhide HB) hb)
  replace HC := hide (bstep (unhide HC) hb)
  replace HB1 := hide ((hb.block hi hz).trans (unhide HB1))
  replace HM := hide ((unhide HM).kept (Agree.below hb (Nat.le_of_lt hz)))
  replace hz : hi < w15.heap.size := Nat.lt_of_lt_of_le hz hb.size
  clear hb
  obtain ⟨c0, c1, c2, c3, c4, c5, c6, _⟩ := res7 (unhide HB1)
  have HX := hide ((show Calls Try.prog 34 #[.agg #[.int .i64 f1.s, .slice f1.ga f1.gn f1.gc, .slice f1.ba 0 f1.bc, .int .i64 f1.n, .slice f1.ha 0 f1.hc, .slice f1.ta f1.tn f1.tc, .slice f1.oa 0 f1.oc], .int .i64 1] w15 fun e V' => e = .returned (.int .i64 N) ∧ Below w15.heap.size w15 V' from by rw [unhide HN]; exact (unhide HM) w15 (Agree.refl _ _ _) (Nat.le_of_lt hz)))
  go_wp2_with fail
  refine (unhide HX).mono ?_
  rintro e w16 ⟨rfl, hb⟩
  clear HX
  clear c0 c1 c2 c3 c4 c5 c6
  have HE := hide (bstep (unhide HB) hb)
  clear hb HM HB HC HB1
  go_wp2
  go_ret
  exact ⟨rfl, unhide HE⟩
end Go.Proofs.Ytkedckmpjedjoaa
