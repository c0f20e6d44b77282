import Derived.Test.YtkedckmpjedjoaaQSN15SN16
/- States of solving at its beginning, told and asked for: what a walk takes of them. -/
namespace Go.Proofs.Ytkedckmpjedjoaa
open Go.RowKit Go.Shelf
set_option linter.unusedVariables false
set_option linter.unusedSimpArgs false

/-- The fields of a state without bindings, without choices and without an outcome. -/
structure F7 where
  s : Int
  n : Int
  ga : Option Addr
  ba : Option Addr
  ha : Option Addr
  ta : Option Addr
  oa : Option Addr
  gn : Nat
  gc : Nat
  bc : Nat
  hc : Nat
  tn : Nat
  tc : Nat
  oc : Nat
def zero7 : F7 := ⟨0, 0, none, none, none, none, none, 0, 0, 0, 0, 0, 0, 0⟩
/-- It reads as solving of t at its beginning. -/
def Rd7 (t : List C) (f : F7) (V : World) : Prop := (topB t = false ∧ f = zero7) ∨ (topB t = true ∧ f.s = 1 ∧ f.n = ((freeOf t).length : Int) ∧ f.gn = 1 ∧ f.tn = t.length ∧ Row V f.ta t ∧
  ∃ (g : Nat) (pa pb pc : Option Addr) (px py pz : Nat), f.ga = some ⟨g, 0, none⟩ ∧ Row V pa t ∧ V.cell? ⟨g, 0, none⟩ = some (.int .i64 1) ∧ V.cell? ⟨g, 1, none⟩ = some (.slice pa t.length px) ∧ V.cell? ⟨g, 2, none⟩ = some (.slice pb 0 py) ∧ V.cell? ⟨g, 3, none⟩ = some (.slice pc 0 pz) ∧ V.cell? ⟨g, 4, none⟩ = some (.int .i64 0))
theorem Rd7.below {t : List C} {f : F7} {V V' : World} (h : Rd7 t f V) (hb : Below V.heap.size V V') : Rd7 t f V' := by
  rcases h with h | ⟨h0, h1, h2, h3, h4, h5, g, pa, pb, pc, px, py, pz, e, hr, c0, c1, c2, c3, c4⟩
  · exact .inl h
  · have lg : g < V.heap.size := World.block_lt_of_cell? V ⟨_, _, none⟩ c0
    exact .inr ⟨h0, h1, h2, h3, h4, h5.below hb, g, pa, pb, pc, px, py, pz, e, hr.below hb, (hb.cell (p := ⟨g, 0, none⟩) lg).trans c0, (hb.cell (p := ⟨g, 1, none⟩) lg).trans c1, (hb.cell (p := ⟨g, 2, none⟩) lg).trans c2, (hb.cell (p := ⟨g, 3, none⟩) lg).trans c3, (hb.cell (p := ⟨g, 4, none⟩) lg).trans c4⟩
theorem top_trm {t : List C} (hy : topB t = true) : trm t = true := by unfold topB at hy; simp only [Bool.and_eq_true] at hy; exact hy.1.1
theorem top_len {t : List C} (hy : topB t = true) : t.length ≤ 40 := ((trm_iff t).1 (top_trm hy)).2.1
theorem trip_one {V : World} {pa : Option Addr} {t : List C} (h : Row V pa t) (hF : Fit t) (hy : topB t = true) (pb pc : Option Addr) : Trip V pa pb pc t [] [] :=
  ⟨h, .inl rfl, .inl rfl, hF, fun c hc => (by cases hc), fun c hc => (by cases hc), by have := top_len hy; omega, by simp, by simp⟩

set_option maxRecDepth 100000 in
theorem eq7 (t : List C) (hF : Fit t) (f f' : F7) (V : World) (h : Rd7 t f V) (h' : Rd7 t f' V) :
    Calls Try.prog 20 #[.agg #[.int .i64 f.s, .slice f.ga f.gn f.gc, .slice f.ba 0 f.bc, .int .i64 f.n, .slice f.ha 0 f.hc, .slice f.ta f.tn f.tc, .slice f.oa 0 f.oc], .agg #[.int .i64 f'.s, .slice f'.ga f'.gn f'.gc, .slice f'.ba 0 f'.bc, .int .i64 f'.n, .slice f'.ha 0 f'.hc, .slice f'.ta f'.tn f'.tc, .slice f'.oa 0 f'.oc]] V fun e w' => e = .returned (.bool true) ∧ Below V.heap.size V w' := by
  rcases h with ⟨h0, rfl⟩ | ⟨h0, h1, h2, h3, h4, h5, g, pa, pb, pc, px, py, pz, e, hr, c0, c1, c2, c3, c4⟩
  · rcases h' with ⟨_, rfl⟩ | ⟨h0', _⟩
    · exact eqSlvState_gen 0 0 none none none none none none none none none none 0 0 0 0 0 0 0 0 0 0 0 [] V (Nat.zero_le _) (.inl rfl) (.inl rfl) (fun W hW => eqGoals_nil none none 0 0 W)
    · rw [h0] at h0'; cases h0'
  · rcases h' with ⟨h0', _⟩ | ⟨_, h1', h2', h3', h4', h5', g', pa', pb', pc', px', py', pz', e', hr', c0', c1', c2', c3', c4'⟩
    · rw [h0] at h0'; cases h0'
    · rw [h1, h2, h3, h4, e, h1', h2', h3', h4', e']
      refine eqSlvState_gen 1 ((freeOf t).length : Int) (some ⟨g, 0, none⟩) (some ⟨g', 0, none⟩) _ _ _ _ _ _ _ _ 1 _ _ _ _ _ _ _ _ _ _ t V (by have := top_len h0; unfold maxLen; omega) h5 h5' (fun W hW => ?_)
      have lg : g < V.heap.size := World.block_lt_of_cell? V ⟨_, _, none⟩ c0
      have lg' : g' < V.heap.size := World.block_lt_of_cell? V ⟨_, _, none⟩ c0'
      exact eqSg_one g g' _ _ pa pb pc pa' pb' pc' px py pz px' py' pz' t W ((trip_one hr hF h0 pb pc).below hW) ((trip_one hr' hF h0 pb' pc').below hW)
        ((hW.cell (p := ⟨g, 0, none⟩) lg).trans c0) ((hW.cell (p := ⟨g, 1, none⟩) lg).trans c1) ((hW.cell (p := ⟨g, 2, none⟩) lg).trans c2) ((hW.cell (p := ⟨g, 3, none⟩) lg).trans c3) ((hW.cell (p := ⟨g, 4, none⟩) lg).trans c4)
        ((hW.cell (p := ⟨g', 0, none⟩) lg').trans c0') ((hW.cell (p := ⟨g', 1, none⟩) lg').trans c1') ((hW.cell (p := ⟨g', 2, none⟩) lg').trans c2') ((hW.cell (p := ⟨g', 3, none⟩) lg').trans c3') ((hW.cell (p := ⟨g', 4, none⟩) lg').trans c4')

/-- It owns what it holds, between lo and hi. -/
def Own7 (lo hi : Nat) (t : List C) (f : F7) (V : World) : Prop := (topB t = false ∧ f = zero7) ∨ (topB t = true ∧ f.s = 1 ∧ f.n = ((freeOf t).length : Int) ∧ f.gn = 1 ∧ f.tn = t.length ∧
  ∃ g m, f.ga = some ⟨g, 0, none⟩ ∧ lo ≤ m ∧ m ≤ hi ∧ SegL lo m V 95 5 (.slice (some ⟨g, 0, none⟩) 1 f.gc) 1 (ESg t) ∧ SegC m hi V (.slice f.ta t.length f.tc) t)
theorem Own7.kept {lo hi : Nat} {t : List C} {f : F7} {V V' : World} (h : Own7 lo hi t f V) (hk : Agree lo hi V V') : Own7 lo hi t f V' := by
  rcases h with h | ⟨h0, h1, h2, h3, h4, g, m, e, l1, l2, hS, hC⟩
  · exact .inl h
  · exact .inr ⟨h0, h1, h2, h3, h4, g, m, e, l1, l2, hS.kept (esg_keeps t) (hk.sub (Nat.le_refl _) l2), hC.kept (hk.sub l1 (Nat.le_refl _))⟩
theorem Own7.rd {lo hi : Nat} {t : List C} {f : F7} {V : World} (h : Own7 lo hi t f V) (hh : hi ≤ V.heap.size) : Rd7 t f V := by
  rcases h with h | ⟨h0, h1, h2, h3, h4, g, m, e, l1, l2, hS, hC⟩
  · exact .inl h
  · obtain ⟨l, r, us, b1, b2, b3, b4, hE, hul, hcell, hfr, _, _⟩ := hS.round (esg_keeps t) (Nat.le_trans l2 hh) (j := 0) (by omega) (by omega)
    obtain ⟨v0, v1, v2, v3, rfl, hG⟩ := hE
    obtain ⟨hv0, m1, m2, a1, a2, a3, S1, S2, S3⟩ := hG
    obtain ⟨p1, q1, x1, r1⟩ := S1.1.shape
    obtain ⟨p2, q2, x2, _⟩ := S2.1.shape
    obtain ⟨p3, q3, x3, _⟩ := S3.1.shape
    simp only at x1 x2 x3 hv0
    subst x1 x2 x3 hv0
    obtain ⟨p4, q4, x4, r4⟩ := hC.1.shape
    simp only [Value.slice.injEq] at x4
    obtain ⟨rfl, _, rfl⟩ := x4
    exact .inr ⟨h0, h1, h2, h3, h4, r4, g, p1, p2, p3, q1, q2, q3, e, r1, hcell 0 _ rfl, hcell 1 _ rfl, hcell 2 _ rfl, hcell 3 _ rfl, hcell 4 _ rfl⟩

/-- The marks are there, wherever the blocks from lo to hi are as they are here. -/
def cnt7 (t : List C) : Int := if topB t then 3 + 6 * (t.length : Int) else 1
def Mk7 (lo hi : Nat) (t : List C) (f : F7) (V : World) : Prop := ∀ W, Agree lo hi V W → hi ≤ W.heap.size → Calls Try.prog 24 #[.agg #[.int .i64 f.s, .slice f.ga f.gn f.gc, .slice f.ba 0 f.bc, .int .i64 f.n, .slice f.ha 0 f.hc, .slice f.ta f.tn f.tc, .slice f.oa 0 f.oc], .int .i64 1] W fun e w' => e = .returned (.int .i64 (cnt7 t)) ∧ Below W.heap.size W w'
theorem Mk7.kept {lo hi : Nat} {t : List C} {f : F7} {V V' : World} (h : Mk7 lo hi t f V) (hk : Agree lo hi V V') : Mk7 lo hi t f V' := fun W hW hh => h W (hk.trans hW) hh

set_option maxRecDepth 100000 in
theorem mark7 (lo hi : Nat) (t : List C) (f : F7) (V : World) (h : Own7 lo hi t f V) (hh : hi ≤ V.heap.size) :
    Calls Try.prog 23 #[.agg #[.int .i64 f.s, .slice f.ga f.gn f.gc, .slice f.ba 0 f.bc, .int .i64 f.n, .slice f.ha 0 f.hc, .slice f.ta f.tn f.tc, .slice f.oa 0 f.oc], .int .i64 1] V fun e V' => e = .returned (.int .i64 (cnt7 t)) ∧ Btw lo hi V V' ∧ Mk7 lo hi t f V' := by
  rcases h with ⟨h0, rfl⟩ | ⟨h0, h1, h2, h3, h4, g, m, e, l1, l2, hS, hC⟩
  · have hc : cnt7 t = 1 := by unfold cnt7; rw [h0]; rfl
    rw [hc]
    refine (markSlvState_gen 0 0 none none none none none 0 0 0 0 0 0 0 1 1 lo hi (fun _ => True) (fun _ => True) V hh (fun W hW => (markGoals_nil none 0 1 W).mono ?_) (fun W _ _ => (markTrmCellS_none none 0 1 W).mono ?_)).mono ?_
    · rintro e w' ⟨rfl, rfl⟩; exact ⟨rfl, Btw.refl _ _ _, trivial⟩
    · rintro e w' ⟨rfl, rfl⟩; exact ⟨rfl, Btw.refl _ _ _, trivial⟩
    · rintro e w' ⟨rfl, hb, _⟩
      refine ⟨rfl, hb, fun W hW hh2 => ?_⟩
      rw [hc]
      exact heldSlvState_gen 0 0 none none none none none 0 0 0 0 0 0 0 1 1 W (by omega) (by omega) (fun U hU => (heldGoals_nil none 0 1 U).mono (by rintro e w' ⟨rfl, rfl⟩; exact ⟨rfl, Below.refl _ _⟩)) (fun U hU => (heldTrmCellS_none none 0 1 U).mono (by rintro e w' ⟨rfl, rfl⟩; exact ⟨rfl, Below.refl _ _⟩))
  · have hl := top_len h0
    have hc : cnt7 t = 3 + 6 * (t.length : Int) := by unfold cnt7; rw [h0]; rfl
    rw [hc, h1, h2, h3, h4, e]
    refine (markSlvState_gen 1 ((freeOf t).length : Int) (some ⟨g, 0, none⟩) _ _ _ _ 1 _ _ _ t.length _ _ (3 + 3 * (t.length : Int)) (3 + 6 * (t.length : Int)) lo hi
      (fun W => (∀ U, Agree lo m W U → m ≤ U.heap.size → Calls Try.prog 70 #[.slice (some ⟨g, 0, none⟩) 1 f.gc, .int .i64 1] U fun e w'' => e = .returned (.int .i64 (3 + 3 * (t.length : Int))) ∧ Below U.heap.size U w'') ∧ SegC m hi W (.slice f.ta t.length f.tc) t)
      (fun W => (∀ U, Agree lo m W U → m ≤ U.heap.size → Calls Try.prog 70 #[.slice (some ⟨g, 0, none⟩) 1 f.gc, .int .i64 1] U fun e w'' => e = .returned (.int .i64 (3 + 3 * (t.length : Int))) ∧ Below U.heap.size U w'') ∧ (∀ U, Agree m hi W U → hi ≤ U.heap.size → Calls Try.prog 40 #[.slice f.ta t.length f.tc, .int .i64 (3 + 3 * (t.length : Int))] U fun e w'' => e = .returned (.int .i64 (3 + 6 * (t.length : Int))) ∧ Below U.heap.size U w'')) V hh (fun W hW => ?_) (fun W hWs hQ => ?_)).mono ?_
    · have hk := Agree.below (lo := lo) (hi := hi) hW hh
      have hm := markSg_one lo m g f.gc 1 t W (hS.kept (esg_keeps t) (hk.sub (Nat.le_refl _) l2)) (by have := hW.size; omega) (by omega) (by omega) (by omega)
      rw [show ((1 : Nat) : Int) = 1 from rfl] at hm
      refine hm.mono ?_
      rintro e w' ⟨rfl, hb, hH⟩
      refine ⟨by congr 2; omega, hb.wide (Nat.le_refl _) l2, fun U hU hh2 => ?_, (hC.kept (hk.sub l1 (Nat.le_refl _))).kept (hb.agree (by have := hW.size; omega) (.inr (Nat.le_refl _)))⟩
      have := hH U hU hh2
      rw [show (1 : Int) + 1 + 3 * (t.length : Int) + 1 = 3 + 3 * (t.length : Int) by omega] at this
      exact this
    · obtain ⟨hH, hC2⟩ := hQ
      have hm := markC_any m hi (.slice f.ta t.length f.tc) t (3 + 3 * t.length) W hC2 (by omega) (by omega) (by omega)
      rw [show ((3 + 3 * t.length : Nat) : Int) = 3 + 3 * (t.length : Int) by omega] at hm
      refine hm.mono ?_
      rintro e w' ⟨rfl, hb, hM⟩
      refine ⟨by congr 2; omega, hb.wide l1 (Nat.le_refl _), fun U hU hh2 => hH U ((hb.agree (by omega) (.inl (Nat.le_refl _))).trans hU) hh2, fun U hU hh2 => ?_⟩
      have := hM U hU hh2
      rw [show ((3 + 3 * t.length : Nat) : Int) = 3 + 3 * (t.length : Int) by omega, show ((3 + 3 * t.length + 3 * t.length : Nat) : Int) = 3 + 6 * (t.length : Int) by omega] at this
      exact this
    · rintro e1 w' ⟨rfl, hb, hH, hM⟩
      refine ⟨rfl, hb, fun W hW hh2 => ?_⟩
      rw [hc, h1, h2, h3, h4, e]
      exact heldSlvState_gen 1 ((freeOf t).length : Int) (some ⟨g, 0, none⟩) _ _ _ _ 1 _ _ _ t.length _ _ (3 + 3 * (t.length : Int)) (3 + 6 * (t.length : Int)) W (by omega) (by omega)
        (fun U hU => hH U ((hW.sub (Nat.le_refl _) l2).trans (Agree.below hU (by omega))) (by have := hU.size; omega)) (fun U hU => hM U ((hW.sub l1 (Nat.le_refl _)).trans (Agree.below hU hh2)) (by have := hU.size; omega))
end Go.Proofs.Ytkedckmpjedjoaa

/- The walk of FnExactSlvNew. -/
namespace Go.Proofs.Ytkedckmpjedjoaa
open Go.RowKit Go.Shelf
set_option linter.unusedVariables false
set_option linter.unusedSimpArgs false

theorem specSlvNew7 (b off cap : Nat) (t : List C) (w : World) (hm : t.length ≤ maxLen) (hA : At w b off t) (hF : Fit t) :
    Calls Try.prog 17 #[.slice (some ⟨b, off, none⟩) t.length cap] w fun e w' => ∃ f : F7, e = .returned (.agg #[.int .i64 f.s, .slice f.ga f.gn f.gc, .slice f.ba 0 f.bc, .int .i64 f.n, .slice f.ha 0 f.hc, .slice f.ta f.tn f.tc, .slice f.oa 0 f.oc]) ∧ Rd7 t f w' ∧ Below w.heap.size w w' := by
  cases hy : topB t with
  | false =>
    refine (specSlvNew_no (some ⟨b, off, none⟩) cap t w hm (.inr ⟨b, off, rfl, hA⟩) hF hy).mono ?_
    rintro e w' ⟨rfl, hb⟩
    exact ⟨zero7, rfl, .inl ⟨hy, rfl⟩, hb⟩
  | true =>
    refine (specSlvNew_yes b off cap t w hm hA hF hy).mono ?_
    rintro e w' ⟨v, rfl, hV, hb⟩
    obtain ⟨g, cg, a, top, bo, co, oo, bc, cc, oc, rfl, h1, h2, c0, c1, ⟨p2, q2, c2⟩, ⟨p3, q3, c3⟩, c4, ⟨pa, px, rfl, _, _, ra⟩, ⟨ta, tc, rfl, _, _, rt⟩⟩ := hV
    exact ⟨⟨1, ((freeOf t).length : Int), some ⟨g, 0, none⟩, bo, co, ta, oo, 1, cg, bc, cc, t.length, tc, oc⟩, rfl, .inr ⟨hy, rfl, rfl, rfl, rfl, rt, g, pa, p2, p3, px, q2, q3, rfl, ra, c0, c1, c2, c3, c4⟩, hb⟩

theorem implSlvNew7 (ao : Option Addr) (cap : Nat) (t : List C) (w : World) (hcap : t.length ≤ cap) (hcm : cap ≤ maxLen) (hA : Row w ao t) (hF : Fit t) (hwf : WfC t) :
    Calls Try.prog 19 #[.slice ao t.length cap] w fun e w' => ∃ f : F7, e = .returned (.agg #[.int .i64 f.s, .slice f.ga f.gn f.gc, .slice f.ba 0 f.bc, .int .i64 f.n, .slice f.ha 0 f.hc, .slice f.ta f.tn f.tc, .slice f.oa 0 f.oc]) ∧ Own7 (w.heap.size + 1) w'.heap.size t f w' ∧ Below w.heap.size w w' := by
  cases hy : topB t with
  | false =>
    refine (implSlvNew_no ao cap t w hcap hcm hA hF hwf hy).mono ?_
    rintro e w' ⟨rfl, hb⟩
    exact ⟨zero7, rfl, .inl ⟨hy, rfl⟩, hb⟩
  | true =>
    refine (implSlvNew_yes ao cap t w hcap hcm hA hF hwf hy).mono ?_
    rintro e w' ⟨g, cg, ao2, cap2, m, co, rfl, h1, h2, hS, hC, hb⟩
    exact ⟨⟨1, ((freeOf t).length : Int), some ⟨g, 0, none⟩, none, co, ao2, none, 1, cg, 0, 0, t.length, cap2, 0⟩, rfl, .inr ⟨hy, rfl, rfl, rfl, rfl, g, m, rfl, h1, h2, hS, hC⟩, hb⟩
theorem cnt7_pos (t : List C) : 1 ≤ cnt7 t := by
  unfold cnt7
  split <;> omega

set_option maxRecDepth 100000 in
set_option maxHeartbeats 8000000 in
theorem FnExactSlvNew_walk (ao : Option Addr) (cap : Nat) (t : List C) (w : World) (hm : t.length ≤ maxLen) (hA : Row w ao t) (hF : Fit t) (hw : WfC t) :
    Calls Try.prog 4 #[.slice ao t.length cap] w fun e w' => e = .returned (.bool true) ∧ Below w.heap.size w w' := by
  have HA := hide hA
  have HF := hide hF
  have HW := hide hw
  have HSZ := hide (szTrmCellS_any ao cap t 1048576 w hm hA hF (by omega) (by omega))
  clear hA hF hw
  go_enter Try.func4, Try.ntmps4
  go_wp2_with fail
  refine (unhide HSZ).mono ?_
  rintro e w1 ⟨r, rfl, hr, hb1⟩
  by_cases hr0 : r < 0
  · go_wp2
    go_ret
    exact ⟨rfl, hb1⟩
  have hlen : t.length ≤ 1048576 := by omega
  clear hr HSZ
  have HX := hide (toTrmCellS_any ao cap t w1 hlen ((unhide HA).below hb1))
  go_wp2_with fail
  refine (unhide HX).mono ?_
  rintro e w2 ⟨rfl, ho2, hb2⟩
  have hB2 := bstep hb1 hb2
  clear HX
  have HX := hide (specSlvNew7 w1.heap.size 0 t.length t w2 hm (owns_at ho2 rfl) (unhide HF))
  clear ho2 hb1 hb2
  go_wp2_with fail
  refine (unhide HX).mono ?_
  rintro e w3 ⟨f0, rfl, hR0, hb3⟩
  clear HX
  have hB3 := bstep hB2 hb3
  have ha := cell_below w3 (.cells #[.int .i64 f0.s, .slice f0.ga f0.gn f0.gc, .slice f0.ba 0 f0.bc, .int .i64 f0.n, .slice f0.ha 0 f0.hc, .slice f0.ta f0.tn f0.tc, .slice f0.oa 0 f0.oc] 43)
  have hb0 := World.alloc_heap_new w3 (.cells #[.int .i64 f0.s, .slice f0.ga f0.gn f0.gc, .slice f0.ba 0 f0.bc, .int .i64 f0.n, .slice f0.ha 0 f0.hc, .slice f0.ta f0.tn f0.tc, .slice f0.oa 0 f0.oc] 43)
  have hsb0 : (w3.alloc (.cells #[.int .i64 f0.s, .slice f0.ga f0.gn f0.gc, .slice f0.ba 0 f0.bc, .int .i64 f0.n, .slice f0.ha 0 f0.hc, .slice f0.ta f0.tn f0.tc, .slice f0.oa 0 f0.oc] 43)).heap.size = w3.heap.size + 1 := by simp
  go_upto_region 6 with fail
  have hR0 := hR0.below ha
  have hB3a := bstep hB3 ha
  generalize w3.alloc (.cells #[.int .i64 f0.s, .slice f0.ga f0.gn f0.gc, .slice f0.ba 0 f0.bc, .int .i64 f0.n, .slice f0.ha 0 f0.hc, .slice f0.ta f0.tn f0.tc, .slice f0.oa 0 f0.oc] 43) = w3a at *
  clear ha hb3 hB2 hB3 hsb0
  have hw3a := hB3a.size
  have HR0 := hide hR0
  have HBK0 := hide hb0
  clear hR0 hb0
  have HX := hide (toTrmCellS_any ao cap t w3a hlen ((unhide HA).below hB3a))
  go_wp2_with fail
  refine (unhide HX).mono ?_
  rintro e w4 ⟨rfl, ho4, hb4⟩
  have hB4 := bstep hB3a hb4
  have hC4 := hb4
  have ho4b : OwnC w4 w3a.heap.size (.slice (some ⟨w3a.heap.size, 0, none⟩) t.length t.length) t := ho4
  have hX4 : w3a.heap.size < w4.heap.size := by have := World.ownsRow.lt ho4 w3a.heap.size rfl; exact this.2
  clear HX
  have HX := hide (implSlvNew7 (some ⟨w3a.heap.size, 0, none⟩) t.length t w4 (Nat.le_refl _) hm (row_of_own ho4) (unhide HF) (unhide HW))
  clear ho4
  go_wp2_with fail
  refine (unhide HX).mono ?_
  rintro e w5 ⟨f1, rfl, hO, hb5⟩
  clear HX
  have ha := cell_below w5 (.cells #[.int .i64 f1.s, .slice f1.ga f1.gn f1.gc, .slice f1.ba 0 f1.bc, .int .i64 f1.n, .slice f1.ha 0 f1.hc, .slice f1.ta f1.tn f1.tc, .slice f1.oa 0 f1.oc] 43)
  have hb1 := World.alloc_heap_new w5 (.cells #[.int .i64 f1.s, .slice f1.ga f1.gn f1.gc, .slice f1.ba 0 f1.bc, .int .i64 f1.n, .slice f1.ha 0 f1.hc, .slice f1.ta f1.tn f1.tc, .slice f1.oa 0 f1.oc] 43)
  have hsb1 : (w5.alloc (.cells #[.int .i64 f1.s, .slice f1.ga f1.gn f1.gc, .slice f1.ba 0 f1.bc, .int .i64 f1.n, .slice f1.ha 0 f1.hc, .slice f1.ta f1.tn f1.tc, .slice f1.oa 0 f1.oc] 43)).heap.size = w5.heap.size + 1 := by simp
  go_upto_region 8 with fail
  have hO := hO.kept (Agree.below ha (Nat.le_refl _))
  have hB := bstep (bstep hB4 hb5) ha
  have hC := bstep (bstep hC4 hb5) ha
  have hx := (own_below ho4b hb5)
  have hx := own_below hx ha
  have hs45 := hb5.size
  generalize w5.alloc (.cells #[.int .i64 f1.s, .slice f1.ga f1.gn f1.gc, .slice f1.ba 0 f1.bc, .int .i64 f1.n, .slice f1.ha 0 f1.hc, .slice f1.ta f1.tn f1.tc, .slice f1.oa 0 f1.oc] 43) = w5a at *
  clear ha hb5 hb4 hB4 hC4 ho4b hB3a
  obtain ⟨lo, hlo⟩ : ∃ lo, lo = w4.heap.size + 1 := ⟨_, rfl⟩
  obtain ⟨hi, hhi⟩ : ∃ hi, hi = w5.heap.size := ⟨_, rfl⟩
  rw [← hlo, ← hhi] at hO
  rw [← hhi] at hb1 hsb1 ⊢
  have HO := hide hO
  have HXO := hide hx
  have HB := hide hB
  have HC := hide hC
  have HB1 := hide hb1
  have hz : hi < w5a.heap.size := by omega
  clear hO hx hB hC hb1
  have hXlo : w3a.heap.size < lo := by omega
  have hXB1 : w3a.heap.size ≠ hi := by omega
  have hwlo : w.heap.size ≤ lo := by have := (unhide HB).size; have := hX4; have q : w.heap.size ≤ w3a.heap.size := hw3a; omega
  clear hlo hhi hsb1 hs45
  have k0 := ((unhide HC).block w3.heap.size (Array.getElem?_eq_some_iff.1 (unhide HBK0)).1).trans (unhide HBK0)
  obtain ⟨a0, a1, a2, a3, a4, a5, a6, _⟩ := res7 k0
  obtain ⟨c0, c1, c2, c3, c4, c5, c6, _⟩ := res7 (unhide HB1)
  have HX := hide (eq7 t (unhide HF) f1 f0 w5a ((unhide HO).rd (Nat.le_of_lt hz)) ((unhide HR0).below (unhide HC)))
  go_wp2_with fail
  refine (unhide HX).mono ?_
  rintro e w6 ⟨rfl, hb⟩
  clear HX
  clear a0 a1 a2 a3 a4 a5 a6 k0
  clear c0 c1 c2 c3 c4 c5 c6
  replace HB := hide (bstep (unhide HB) hb)
  replace HC := hide (bstep (unhide HC) hb)
  replace HB1 := hide ((hb.block hi hz).trans (unhide HB1))
  replace HO := hide ((unhide HO).kept (Agree.below hb (Nat.le_of_lt hz)))
  replace HXO := hide (own_below (unhide HXO) hb)
  replace hz : hi < w6.heap.size := Nat.lt_of_lt_of_le hz hb.size
  clear hb
  have HX := hide (toTrmCellS_any ao cap t w6 hlen ((unhide HA).below (unhide HB)))
  go_wp2_with fail
  refine (unhide HX).mono ?_
  rintro e w7 ⟨rfl, ho7, hb⟩
  clear HX
  replace HB := hide (bstep (unhide HB) hb)
  replace HC := hide (bstep (unhide HC) hb)
  replace HB1 := hide ((hb.block hi hz).trans (unhide HB1))
  replace HO := hide ((unhide HO).kept (Agree.below hb (Nat.le_of_lt hz)))
  replace HXO := hide (own_below (unhide HXO) hb)
  replace hz : hi < w7.heap.size := Nat.lt_of_lt_of_le hz hb.size
  clear hb
  have HX := hide ((sameS_self t) ▸ eqTrmCellS_any (some ⟨w3a.heap.size, 0, none⟩) (some ⟨w6.heap.size, 0, none⟩) t.length t.length t t w7 hm (OwnC.row (unhide HXO)) (row_of_own ho7))
  go_wp2_with fail
  refine (unhide HX).mono ?_
  rintro e w8 ⟨rfl, hb⟩
  clear HX
  clear ho7
  replace HB := hide (bstep (unhide HB) hb)
  replace HC := hide (bstep (unhide HC) hb)
  replace HB1 := hide ((hb.block hi hz).trans (unhide HB1))
  replace HO := hide ((unhide HO).kept (Agree.below hb (Nat.le_of_lt hz)))
  replace HXO := hide (own_below (unhide HXO) hb)
  replace hz : hi < w8.heap.size := Nat.lt_of_lt_of_le hz hb.size
  clear hb
  have HX := hide (markTrmCellS_one (some ⟨w3a.heap.size, 0, none⟩) t.length t w3a.heap.size w8 hlen (unhide HXO))
  go_wp2_with fail
  refine (unhide HX).mono ?_
  rintro e w9 ⟨rfl, hx9, hG⟩
  clear HX
  replace HB := hide (below_row (unhide HB) hG (unhide HXO) hw3a)
  replace HC := hide (below_row (unhide HC) hG (unhide HXO) (Nat.le_refl _))
  replace HB1 := hide ((hG.block hi hz (by simpa [Value.ownBlock] using Ne.symm hXB1)).trans (unhide HB1))
  replace HO := hide ((unhide HO).kept (fun j h1 h2 => hG.block j (by omega) (by simp [Value.ownBlock]; omega)))
  replace hz : hi < w9.heap.size := Nat.lt_of_lt_of_le hz hG.size
  clear hG hx9 HXO
  have hpos : ¬ ((1 + 3 * (t.length : Int)) < 0) := by omega
  have k0 := ((unhide HC).block w3.heap.size (Array.getElem?_eq_some_iff.1 (unhide HBK0)).1).trans (unhide HBK0)
  obtain ⟨a0, a1, a2, a3, a4, a5, a6, _⟩ := res7 k0
  obtain ⟨c0, c1, c2, c3, c4, c5, c6, _⟩ := res7 (unhide HB1)
  have HX := hide (eq7 t (unhide HF) f1 f0 w9 ((unhide HO).rd (Nat.le_of_lt hz)) ((unhide HR0).below (unhide HC)))
  go_wp2_with fail
  refine (unhide HX).mono ?_
  rintro e w10 ⟨rfl, hb⟩
  clear HX
  clear a0 a1 a2 a3 a4 a5 a6 k0
  clear c0 c1 c2 c3 c4 c5 c6
  replace HB := hide (bstep (unhide HB) hb)
  replace HC := hide (bstep (unhide HC) hb)
  replace HB1 := hide ((hb.block hi hz).trans (unhide HB1))
  replace HO := hide ((unhide HO).kept (Agree.below hb (Nat.le_of_lt hz)))
  replace hz : hi < w10.heap.size := Nat.lt_of_lt_of_le hz hb.size
  clear hb
  obtain ⟨N, hN⟩ : ∃ N, N = cnt7 t := ⟨_, rfl⟩
  have hN1 : 1 ≤ N := by rw [hN]; exact cnt7_pos t
  have hN0 : ¬ (N < 0) := by omega
  have hNN : (N != N) = false := by simp
  have HN := hide hN
  clear hN
  obtain ⟨c0, c1, c2, c3, c4, c5, c6, _⟩ := res7 (unhide HB1)
  have HX := hide ((show Calls Try.prog 23 #[.agg #[.int .i64 f1.s, .slice f1.ga f1.gn f1.gc, .slice f1.ba 0 f1.bc, .int .i64 f1.n, .slice f1.ha 0 f1.hc, .slice f1.ta f1.tn f1.tc, .slice f1.oa 0 f1.oc], .int .i64 1] w10 fun e V' => e = .returned (.int .i64 N) ∧ Btw lo hi w10 V' ∧ Mk7 lo hi t f1 V' from by rw [unhide HN]; exact mark7 lo hi t f1 w10 (unhide HO) (Nat.le_of_lt hz)))
  go_wp2_with fail
  refine (unhide HX).mono ?_
  rintro e w11 ⟨rfl, hb, hM⟩
  clear HX
  clear c0 c1 c2 c3 c4 c5 c6
  replace HB := hide (Btw.below (unhide HB) hb hwlo)
  replace HC := hide (Btw.below (unhide HC) hb (by omega))
  replace HB1 := hide ((hb.block hi hz (.inr (Nat.le_refl _))).trans (unhide HB1))
  replace hz : hi < w11.heap.size := Nat.lt_of_lt_of_le hz hb.size
  have HM := hide hM
  clear hb hM HO
  obtain ⟨c0, c1, c2, c3, c4, c5, c6, _⟩ := res7 (unhide HB1)
  have HX := hide ((show Calls Try.prog 24 #[.agg #[.int .i64 f1.s, .slice f1.ga f1.gn f1.gc, .slice f1.ba 0 f1.bc, .int .i64 f1.n, .slice f1.ha 0 f1.hc, .slice f1.ta f1.tn f1.tc, .slice f1.oa 0 f1.oc], .int .i64 1] w11 fun e V' => e = .returned (.int .i64 N) ∧ Below w11.heap.size w11 V' from by rw [unhide HN]; exact (unhide HM) w11 (Agree.refl _ _ _) (Nat.le_of_lt hz)))
  go_wp2_with fail
  refine (unhide HX).mono ?_
  rintro e w12 ⟨rfl, hb⟩
  clear HX
  clear c0 c1 c2 c3 c4 c5 c6
  replace HB := hide (bstep (unhide HB) hb)
  replace HC := hide (bstep (unhide HC) hb)
  replace HB1 := hide ((hb.block hi hz).trans (unhide HB1))
  replace HM := hide ((unhide HM).kept (Agree.below hb (Nat.le_of_lt hz)))
  replace hz : hi < w12.heap.size := Nat.lt_of_lt_of_le hz hb.size
  clear hb
  have HX := hide (toTrmCellS_any ao cap t w12 hlen ((unhide HA).below (unhide HB)))
  go_wp2_with fail
  refine (unhide HX).mono ?_
  rintro e w13 ⟨rfl, ho13, hb⟩
  clear HX
  replace HB := hide (bstep (unhide HB) hb)
  replace HC := hide (bstep (unhide HC) hb)
  replace HB1 := hide ((hb.block hi hz).trans (unhide HB1))
  replace HM := hide ((unhide HM).kept (Agree.below hb (Nat.le_of_lt hz)))
  replace hz : hi < w13.heap.size := Nat.lt_of_lt_of_le hz hb.size
  clear hb
  have HX := hide (implSlvNew7 (some ⟨w12.heap.size, 0, none⟩) t.length t w13 (Nat.le_refl _) hm (row_of_own ho13) (unhide HF) (unhide HW))
  go_wp2_with fail
  refine (unhide HX).mono ?_
  rintro e w14 ⟨f2, rfl, hO2, hb⟩
  clear HX
  clear ho13
  replace HB := hide (bstep (unhide HB) hb)
  replace HC := hide (bstep (unhide HC) hb)
  replace HB1 := hide ((hb.block hi hz).trans (unhide HB1))
  replace HM := hide ((unhide HM).kept (Agree.below hb (Nat.le_of_lt hz)))
  replace hz : hi < w14.heap.size := Nat.lt_of_lt_of_le hz hb.size
  clear hb
  have hb := cell_below w14 (.cells #[.int .i64 f2.s, .slice f2.ga f2.gn f2.gc, .slice f2.ba 0 f2.bc, .int .i64 f2.n, .slice f2.ha 0 f2.hc, .slice f2.ta f2.tn f2.tc, .slice f2.oa 0 f2.oc] 43)
  have hb2 := World.alloc_heap_new w14 (.cells #[.int .i64 f2.s, .slice f2.ga f2.gn f2.gc, .slice f2.ba 0 f2.bc, .int .i64 f2.n, .slice f2.ha 0 f2.hc, .slice f2.ta f2.tn f2.tc, .slice f2.oa 0 f2.oc] 43)
  go_upto_region 25 with fail
  have hO2 := (hO2.kept (Agree.below hb (Nat.le_refl _))).rd (by simp)
  generalize w14.alloc (.cells #[.int .i64 f2.s, .slice f2.ga f2.gn f2.gc, .slice f2.ba 0 f2.bc, .int .i64 f2.n, .slice f2.ha 0 f2.hc, .slice f2.ta f2.tn f2.tc, .slice f2.oa 0 f2.oc] 43) = w14a at *
  replace HB := hide (bstep (unhide HB) hb)
  replace HC := hide (bstep (unhide HC) hb)
  replace HB1 := hide ((hb.block hi hz).trans (unhide HB1))
  replace HM := hide ((unhide HM).kept (Agree.below hb (Nat.le_of_lt hz)))
  replace hz : hi < w14a.heap.size := Nat.lt_of_lt_of_le hz hb.size
  clear hb
  have k0 := ((unhide HC).block w3.heap.size (Array.getElem?_eq_some_iff.1 (unhide HBK0)).1).trans (unhide HBK0)
  obtain ⟨a0, a1, a2, a3, a4, a5, a6, _⟩ := res7 k0
  obtain ⟨c0, c1, c2, c3, c4, c5, c6, _⟩ := res7 hb2
  have HX := hide (eq7 t (unhide HF) f2 f0 w14a hO2 ((unhide HR0).below (unhide HC)))
  go_wp2_with fail
  refine (unhide HX).mono ?_
  rintro e w15 ⟨rfl, hb⟩
  clear HX
  clear a0 a1 a2 a3 a4 a5 a6 k0
  clear c0 c1 c2 c3 c4 c5 c6
  clear hb2 hO2
  replace HB := hide (bstep (unhide HB) hb)
  replace HC := hide (bstep (unhide HC) hb)
  replace HB1 := hide ((hb.block hi hz).trans (unhide HB1))
  replace HM := hide ((unhide HM).kept (Agree.below hb (Nat.le_of_lt hz)))
  replace hz : hi < w15.heap.size := Nat.lt_of_lt_of_le hz hb.size
  clear hb
  obtain ⟨c0, c1, c2, c3, c4, c5, c6, _⟩ := res7 (unhide HB1)
  have HX := hide ((show Calls Try.prog 24 #[.agg #[.int .i64 f1.s, .slice f1.ga f1.gn f1.gc, .slice f1.ba 0 f1.bc, .int .i64 f1.n, .slice f1.ha 0 f1.hc, .slice f1.ta f1.tn f1.tc, .slice f1.oa 0 f1.oc], .int .i64 1] w15 fun e V' => e = .returned (.int .i64 N) ∧ Below w15.heap.size w15 V' from by rw [unhide HN]; exact (unhide HM) w15 (Agree.refl _ _ _) (Nat.le_of_lt hz)))
  go_wp2_with fail
  refine (unhide HX).mono ?_
  rintro e w16 ⟨rfl, hb⟩
  clear HX
  clear c0 c1 c2 c3 c4 c5 c6
  have HE := hide (bstep (unhide HB) hb)
  clear hb HM HB HC HB1
  go_wp2
  go_ret
  exact ⟨rfl, unhide HE⟩
end Go.Proofs.Ytkedckmpjedjoaa
