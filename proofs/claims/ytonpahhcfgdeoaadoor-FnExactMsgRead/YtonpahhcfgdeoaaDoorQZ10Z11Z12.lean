import Derived.Test.YtonpahhcfgdeoaaDoorQZ5Z6Z9
/- The reader of bytes: a frame closed. -/
namespace Go.Proofs.YtonpahhcfgdeoaaDoor
open Go.RowKit
set_option linter.unusedVariables false
set_option linter.unusedSimpArgs false

/-- A frame's end: whether it is no end. -/
def clE (er : Bool) (y : List Int) (p : Nat) : Bool := (tkE er y p 2 || (hiL (tkZ er y p 2) != sumL (y.take p))) || decide (p + (tkZ er y p 2).length < y.length)

set_option maxRecDepth 100000 in
set_option maxHeartbeats 4000000 in
theorem closeFrame_any (ao : Option Addr) (R b off cap : Nat) (y : List Int) (p : Nat) (er : Bool) (w : World) (h : Rdr w R ao cap y p er) (hao : y = [] ∨ ao = some ⟨b, off, none⟩) (hA : AtY w b off y) (hy : ByL y) (hbR : b ≠ R) (hG : Gl w) (hG2 : Gl2 w) (hR4 : 4 < R) (hp : p ≤ y.length) (hl : y.length ≤ 1048576) (hc : y.length ≤ cap) :
    Calls Tryd.prog 18 #[.pointer (some ⟨R, 0, none⟩)] w (FrOut w R ao cap y (p + (tkZ er y p 2).length) (clE er y p)) := by
  have hlen : (y.take p).length = p := by simp; omega
  have hrow : RowY w ao (y.take p) := by
    rcases hao with rfl | rfl
    · exact .inl (by simp)
    · exact .of_at (hA.take p)
  have HM := hide (show ∀ W : World, RowY W ao (y.take p) → Calls Tryd.prog 38 #[.slice ao p cap] W fun e w' => e = .returned (.int .i64 (sumL (y.take p))) ∧ w' = W from fun W hr => by
    have := implMsgSum_any ao cap (y.take p) W (by unfold maxLen; omega) hr (hy.take p)
    rw [hlen] at this
    exact this)
  have HT := hide (fun n : Nat => high_any ao R b off cap y p er 2 (w.drewN n) (h.drewN n) hao hA hy hbR hG hp hl (by omega) (by omega) hc)
  have HTD := hide (high_any ao R b off cap y p er 2 w.drew h hao hA hy hbR hG hp hl (by omega) (by omega) hc)
  have HYY := hide hy
  have hp2 := tkZ_place er y p 2 hp
  have HW := hide (And.intro hG hG2)
  have HROW := hide hrow
  have hs : 0 ≤ hiL (tkZ er y p 2) ∧ hiL (tkZ er y p 2) < 65536 := by
    have hl3 := tkZ_len er y p 2
    have := hiL_in (tkZ_by (er := er) (p := p) (n := 2) (unhide HYY)) _ (Nat.le_refl _) (by omega)
    rw [List.take_length] at this
    generalize (tkZ er y p 2).length = m at this hl3
    rcases (show m = 0 ∨ m = 1 ∨ m = 2 by omega) with rfl | rfl | rfl <;> simp at this ⊢ <;> omega
  obtain ⟨u, hu⟩ : ∃ u, u = sumL (y.take p) := ⟨_, rfl⟩
  obtain ⟨o, ho⟩ : ∃ o, o = clE er y p := ⟨_, rfl⟩
  have HO := hide (show o = ((tkE er y p 2 || (hiL (tkZ er y p 2) != sumL (y.take p))) || decide (p + (tkZ er y p 2).length < y.length)) from ho)
  rw [← hu] at HM
  rw [← ho]
  rw [← hu] at HO
  obtain ⟨s, hs'⟩ : ∃ s, s = hiL (tkZ er y p 2) := ⟨_, rfl⟩
  obtain ⟨q, hq⟩ : ∃ q, q = p + (tkZ er y p 2).length := ⟨_, rfl⟩
  obtain ⟨er1, her⟩ : ∃ er1, er1 = tkE er y p 2 := ⟨_, rfl⟩
  rw [← hs'] at hs HO
  rw [← hq] at hp2 HO ⊢
  rw [← her] at HO
  have HS := hide (And.intro hs' (And.intro hq her))
  clear hu ho hs' hq her
  obtain ⟨ev, hb, he⟩ := h
  obtain ⟨c0, c1, c2, f1, f2⟩ := three_rdr hb
  clear hb he hrow hlen hA hG hG2 hy hao
  go_enter Tryd.func18, Tryd.ntmps18
  go_wp2
  go_region_with (go_at_call 38; refine (unhide HM _ (by exact unhide HROW)).mono ?_; rintro e w1 ⟨rfl, rfl⟩)
  all_goals
    go_wp2_with fail
    refine (unhide HTD).mono ?_
    rintro e w1 ⟨rfl, h1, g1⟩
    obtain ⟨hs', hq, her⟩ := unhide HS
    rw [← hq, ← her] at h1
    rw [← hs', Int.sub_zero]
    clear hs' hq her HS HT HTD
    have g1' : w.grownBy w1 (some R) := ⟨g1.os, g1.tape, g1.output, g1.size, g1.block⟩
    have H1 := hide (And.intro h1 g1')
    obtain ⟨T0, u0, g0⟩ := ((unhide HW).2.grown g1' (fun k e => by simp at e; omega)) 1 (.inr rfl)
    clear h1 g1 g1'
    by_cases hse : s = u
    · have hbb : (s != u) = false := by rw [bne_eq_false_iff_eq]; exact hse
      clear hse
      have HE := hide (end_any R ao cap y q er1 w1 (unhide H1).1 ((unhide HW).1.err (unhide H1).2 hR4) hp2 hl)
      go_wp2_with fail
      refine (unhide HE).mono ?_
      rintro e w2 ⟨⟨v, rfl⟩, h2, g2⟩
      have HF := hide (And.intro h2 (grown_trans (unhide H1).2 g2))
      clear h2 g2
      go_wp2
      exact bodyPost_end (results_none rfl _ _ _) rfl ⟨⟨_, rfl⟩, by rw [unhide HO, hbb, Bool.or_false]; exact (unhide HF).1, (unhide HF).2⟩
    · have hbb : (s != u) = true := by rw [bne_iff_ne]; exact hse
      clear hse
      have HX := hide (fail_any R ao cap y q er1 T0 u0 w1 (unhide H1).1)
      go_wp2_with fail
      refine (unhide HX).mono ?_
      rintro e w2 ⟨⟨v, rfl⟩, h2, g2⟩
      have hg2 := grown_trans (unhide H1).2 g2
      have HE := hide (end_any R ao cap y q true w2 h2 ((unhide HW).1.err hg2 hR4) hp2 hl)
      have HG' := hide hg2
      clear h2 g2 hg2
      go_wp2_with fail
      refine (unhide HE).mono ?_
      rintro e w3 ⟨⟨v3, rfl⟩, h3, g3⟩
      have HF := hide (And.intro h3 (grown_trans (unhide HG') g3))
      clear h3 g3
      go_wp2
      exact bodyPost_end (results_none rfl _ _ _) rfl ⟨⟨_, rfl⟩, by rw [unhide HO, hbb, Bool.or_true]; exact (unhide HF).1, (unhide HF).2⟩
end Go.Proofs.YtonpahhcfgdeoaaDoor

/- The reader of bytes: a message. -/
namespace Go.Proofs.YtonpahhcfgdeoaaDoor
open Go.RowKit
set_option linter.unusedVariables false
set_option linter.unusedSimpArgs false

/-- A message, read: its six fields, and what is left. -/
def rdM : List Int → Option ((Int × Int × Int × Int × List C × List C) × List Int)
  | k :: f :: st :: a :: b :: c :: r => match rdT r with
    | some (t, r1) => if st = 2 then (match rdT r1 with | some (u, r2) => some ((k, f, valN a b c, st, t, u), r2) | none => none) else some ((k, f, valN a b c, st, t, []), r1)
    | none => none
  | _ => none
theorem rdM_short {Y : List Int} (h : Y.length < 6) : rdM Y = none := by
  unfold rdM
  split
  · simp at h; omega
  · rfl
theorem long6 {Y : List Int} (h : 6 ≤ Y.length) : ∃ k f st a b c r, Y = k :: f :: st :: a :: b :: c :: r := by
  match Y, h with
  | k :: f :: st :: a :: b :: c :: r, _ => exact ⟨k, f, st, a, b, c, r, rfl⟩

/-- Six bytes: three, and a number. -/
theorem six_read {er : Bool} {y : List Int} {p : Nat} (hp : p ≤ y.length) (z1 z2 z3 z4 : List Int) (e1 e2 e3 e4 : Bool) (p1 p2 p3 p4 : Nat)
    (hz1 : z1 = tkZ er y p 1) (he1 : e1 = tkE er y p 1) (hp1 : p1 = p + z1.length) (hz2 : z2 = tkZ e1 y p1 1) (he2 : e2 = tkE e1 y p1 1) (hp2 : p2 = p1 + z2.length)
    (hz3 : z3 = tkZ e2 y p2 1) (he3 : e3 = tkE e2 y p2 1) (hp3 : p3 = p2 + z3.length) (hz4 : z4 = tkZ e3 y p3 3) (he4 : e4 = tkE e3 y p3 3) (hp4 : p4 = p3 + z4.length) :
    (e4 = true ∧ (er = true ∨ rdM (y.drop p) = none)) ∨ (er = false ∧ e4 = false ∧ p4 = p + 6 ∧ ∃ k f st a b c, y.drop p = k :: f :: st :: a :: b :: c :: y.drop (p + 6) ∧ hiL z1 = k ∧ hiL z2 = f ∧ hiL z3 = st ∧ hiL z4 - 100000 = valN a b c) := by
  have et : ∀ (n q : Nat), tkE true y q n = true := fun n q => rfl
  cases er with
  | true =>
    left
    refine ⟨?_, .inl rfl⟩
    have x1 : e1 = true := he1
    subst x1
    have x2 : e2 = true := he2
    subst x2
    have x3 : e3 = true := he3
    subst x3
    exact he4
  | false =>
    by_cases h6 : p + 6 ≤ y.length
    · right
      obtain ⟨t1, s1⟩ := tk_yes (y := y) (p := p) (n := 1) (by omega)
      rw [s1] at hz1
      rw [t1] at he1
      have l1 : z1.length = 1 := by rw [hz1]; simp; omega
      rw [l1] at hp1
      subst hp1 he1
      obtain ⟨t2, s2⟩ := tk_yes (y := y) (p := p + 1) (n := 1) (by omega)
      rw [s2] at hz2
      rw [t2] at he2
      have l2 : z2.length = 1 := by rw [hz2]; simp; omega
      rw [l2] at hp2
      subst hp2 he2
      obtain ⟨t3, s3⟩ := tk_yes (y := y) (p := p + 1 + 1) (n := 1) (by omega)
      rw [s3] at hz3
      rw [t3] at he3
      have l3 : z3.length = 1 := by rw [hz3]; simp; omega
      rw [l3] at hp3
      subst hp3 he3
      obtain ⟨t4, s4⟩ := tk_yes (y := y) (p := p + 1 + 1 + 1) (n := 3) (by omega)
      rw [s4] at hz4
      rw [t4] at he4
      have l4 : z4.length = 3 := by rw [hz4]; simp; omega
      rw [l4] at hp4
      obtain ⟨k, f, st, a, b, c, r, hY⟩ := long6 (Y := y.drop p) (by simp; omega)
      have d1 : y.drop (p + 1) = f :: st :: a :: b :: c :: r := by rw [← List.drop_drop, hY]; rfl
      have d2 : y.drop (p + 1 + 1) = st :: a :: b :: c :: r := by rw [← List.drop_drop, d1]; rfl
      have d3 : y.drop (p + 1 + 1 + 1) = a :: b :: c :: r := by rw [← List.drop_drop, d2]; rfl
      have d6 : y.drop (p + 6) = r := by rw [← List.drop_drop, hY]; rfl
      refine ⟨rfl, he4, by omega, k, f, st, a, b, c, by rw [hY, d6], ?_, ?_, ?_, ?_⟩
      · rw [hz1, hY]; simp [hiL]
      · rw [hz2, d1]; simp [hiL]
      · rw [hz3, d2]; simp [hiL]
      · rw [hz4, d3]; simp [hiL, valN]; omega
    · left
      refine ⟨?_, .inr (rdM_short (by simp; omega))⟩
      have q1 : p1 ≤ y.length := by subst hz1 he1 hp1; exact tkZ_place false y p 1 hp
      have q2 : p2 ≤ y.length := by subst hz2 he2 hp2; exact tkZ_place e1 y p1 1 q1
      have q3 : p3 ≤ y.length := by subst hz3 he3 hp3; exact tkZ_place e2 y p2 1 q2
      cases hb : e4 with
      | true => rfl
      | false =>
        exfalso
        rw [hb] at he4
        have f3 : e3 = false := by cases h : e3 with | false => rfl | true => rw [h] at he4; cases he4
        rw [f3] at he3 he4
        have f2 : e2 = false := by cases h : e2 with | false => rfl | true => rw [h] at he3; cases he3
        rw [f2] at he2 he3 hz3
        have f1 : e1 = false := by cases h : e1 with | false => rfl | true => rw [h] at he2; cases he2
        rw [f1] at he1 he2 hz2
        have g1 : p + 1 ≤ y.length := by simp [tkE] at he1; omega
        have g2 : p1 + 1 ≤ y.length := by simp [tkE] at he2; omega
        have g3 : p2 + 1 ≤ y.length := by simp [tkE] at he3; omega
        have g4 : p3 + 3 ≤ y.length := by simp [tkE] at he4; omega
        have l1 : z1.length = 1 := by rw [hz1, (tk_yes g1).2]; simp; omega
        have l2 : z2.length = 1 := by rw [hz2, (tk_yes g2).2]; simp; omega
        have l3 : z3.length = 1 := by rw [hz3, (tk_yes g3).2]; simp; omega
        omega

/-- While a message is being read. -/
structure MS (w : World) (ao : Option Addr) (R b off cap : Nat) (y : List Int) (p : Nat) (er : Bool) (k f n st : Int) (v5 v6 : Value) (U : World) : Prop where
  gr : w.grownBy U (some R)
  ba : U.heap[w.heap.size]? = some (.cells #[.int .i64 0, .int .i64 0, .slice none 0 0, .int .i64 0, .int .i64 0, .slice none 0 0] 27 (0, 0))
  bb : U.heap[w.heap.size + 1]? = some (.cells #[.int .i64 k, .int .i64 f, v5, .int .i64 n, .int .i64 st, v6] 27 (0, 0))
  rd : Rdr U R ao cap y p er
  lt : R < w.heap.size
  at_ : AtY U b off y
  ne : b ≠ R
  gl : Gl U
  bl : b < w.heap.size
  so : y = [] ∨ ao = some ⟨b, off, none⟩
  r4 : 4 < R
theorem MS.read {w : World} {ao : Option Addr} {R b off cap : Nat} {y : List Int} {p p' : Nat} {er er' : Bool} {k f n st : Int} {v5 v6 : Value} {U U' : World} (h : MS w ao R b off cap y p er k f n st v5 v6 U) (hg : U.grownBy U' (some R)) (hr : Rdr U' R ao cap y p' er') : MS w ao R b off cap y p' er' k f n st v5 v6 U' := by
  have hlt := h.lt
  have hA : w.heap.size < U.heap.size := (Array.getElem?_eq_some_iff.1 h.ba).1
  have hB : w.heap.size + 1 < U.heap.size := (Array.getElem?_eq_some_iff.1 h.bb).1
  exact ⟨grown_trans h.gr hg, (hg.block _ hA (fun e => by simp at e; omega)).trans h.ba, (hg.block _ hB (fun e => by simp at e; omega)).trans h.bb, hr, h.lt, atY_grown h.at_ hg (fun k e => by simp at e; have := h.ne; omega), h.ne, h.gl.err hg h.r4, h.bl, h.so, h.r4⟩
theorem MS.set {w : World} {ao : Option Addr} {R b off cap : Nat} {y : List Int} {p : Nat} {er : Bool} {k f n st : Int} {v5 v6 : Value} {U : World} (h : MS w ao R b off cap y p er k f n st v5 v6 U) (i : Nat) (v : Value) (k' f' n' st' : Int) (v5' v6' : Value)
    (hv : (U.setCell ⟨w.heap.size + 1, i, none⟩ v).heap[w.heap.size + 1]? = some (.cells #[.int .i64 k', .int .i64 f', v5', .int .i64 n', .int .i64 st', v6'] 27 (0, 0))) : MS w ao R b off cap y p er k' f' n' st' v5' v6' (U.setCell ⟨w.heap.size + 1, i, none⟩ v) := by
  have hlt := h.lt
  have hA : w.heap.size < U.heap.size := (Array.getElem?_eq_some_iff.1 h.ba).1
  have hg := grown_setC U ⟨w.heap.size + 1, i, none⟩ v
  have hAt := h.at_
  refine ⟨?_, (hg.block _ hA (fun e => by simp at e)).trans h.ba, hv, h.rd.apart hg (by simp; omega), h.lt, ?_, h.ne, ?_, h.bl, h.so, h.r4⟩
  · exact ⟨hg.os.trans h.gr.os, hg.tape.trans h.gr.tape, hg.output.trans h.gr.output, Nat.le_trans h.gr.size hg.size, fun k hk hn => (hg.block k (Nat.lt_of_lt_of_le hk h.gr.size) (fun e => by simp at e; omega)).trans (h.gr.block k hk hn)⟩
  · exact atY_grown hAt hg (fun k e => by simp at e; have := h.bl; omega)
  · exact h.gl.grown hg (fun k e => by simp at e; have := h.r4; omega)
end Go.Proofs.YtonpahhcfgdeoaaDoor

/- The reader of bytes: the walk of a message. -/
namespace Go.Proofs.YtonpahhcfgdeoaaDoor
open Go.RowKit
set_option linter.unusedVariables false
set_option linter.unusedSimpArgs false

theorem msg_cells {w : World} {B : Nat} {a0 a1 a2 a3 a4 a5 : Value} {T : TypeId} (h : w.heap[B]? = some (.cells #[a0, a1, a2, a3, a4, a5] T (0, 0))) :
    (w.cell? ⟨B, 0, none⟩ = some a0 ∧ w.cell? ⟨B, 1, none⟩ = some a1 ∧ w.cell? ⟨B, 2, none⟩ = some a2 ∧ w.cell? ⟨B, 3, none⟩ = some a3 ∧ w.cell? ⟨B, 4, none⟩ = some a4 ∧ w.cell? ⟨B, 5, none⟩ = some a5) ∧
    (w.frozen? ⟨B, 0, none⟩ = false ∧ w.frozen? ⟨B, 1, none⟩ = false ∧ w.frozen? ⟨B, 2, none⟩ = false ∧ w.frozen? ⟨B, 3, none⟩ = false ∧ w.frozen? ⟨B, 4, none⟩ = false ∧ w.frozen? ⟨B, 5, none⟩ = false) := by
  refine ⟨⟨?_, ?_, ?_, ?_, ?_, ?_⟩, ?_, ?_, ?_, ?_, ?_, ?_⟩ <;> (simp only [World.cell?, World.frozen?]; rw [h]; rfl)

/-- Six bytes read. -/
def SixR (er : Bool) (y : List Int) (p p4 : Nat) (e4 : Bool) (k f st n : Int) : Prop :=
  p4 ≤ y.length ∧ ((e4 = true ∧ (er = true ∨ rdM (y.drop p) = none)) ∨ (er = false ∧ e4 = false ∧ ∃ a b c, y.drop p = k :: f :: st :: a :: b :: c :: y.drop p4 ∧ n = valN a b c))
/-- A term read from p4 on. -/
def TR (y : List Int) (p4 : Nat) (e4 : Bool) (t : List C) (p5 : Nat) (e5 : Bool) : Prop := (e5 = true ∧ (e4 = true ∨ rdT (y.drop p4) = none)) ∨ (e5 = false ∧ e4 = false ∧ rdT (y.drop p4) = some (t, y.drop p5))
/-- A message read. -/
def MR (er : Bool) (y : List Int) (p : Nat) (k f n st : Int) (t u : List C) (p' : Nat) (er' : Bool) : Prop := (er' = true ∧ (er = true ∨ rdM (y.drop p) = none)) ∨ (er' = false ∧ er = false ∧ rdM (y.drop p) = some ((k, f, n, st, t, u), y.drop p'))
theorem mr_one {er : Bool} {y : List Int} {p p4 p5 : Nat} {e4 e5 : Bool} {k f st n : Int} {t : List C} (h6 : SixR er y p p4 e4 k f st n) (h5 : TR y p4 e4 t p5 e5) (hst : st ≠ 2) : MR er y p k f n st t [] p5 e5 := by
  obtain ⟨_, h6⟩ := h6
  rcases h6 with ⟨a, b⟩ | ⟨a, b, x1, x2, x3, hd, hn⟩
  · rcases h5 with ⟨c, _⟩ | ⟨_, c, _⟩
    · exact .inl ⟨c, b⟩
    · rw [a] at c; cases c
  · rcases h5 with ⟨c, d | d⟩ | ⟨c, _, d⟩
    · rw [b] at d; cases d
    · exact .inl ⟨c, .inr (by rw [hd]; simp [rdM, d])⟩
    · exact .inr ⟨c, a, by rw [hd]; simp [rdM, d, hst, hn]⟩
theorem mr_two {er : Bool} {y : List Int} {p p4 p5 p6 : Nat} {e4 e5 e6 : Bool} {k f st n : Int} {t u : List C} (h6 : SixR er y p p4 e4 k f st n) (h5 : TR y p4 e4 t p5 e5) (h7 : TR y p5 e5 u p6 e6) (hst : st = 2) : MR er y p k f n st t u p6 e6 := by
  obtain ⟨_, h6⟩ := h6
  subst hst
  rcases h6 with ⟨a, b⟩ | ⟨a, b, x1, x2, x3, hd, hn⟩
  · rcases h5 with ⟨c, _⟩ | ⟨_, c, _⟩
    · rcases h7 with ⟨c', _⟩ | ⟨_, c', _⟩
      · exact .inl ⟨c', b⟩
      · rw [c] at c'; cases c'
    · rw [a] at c; cases c
  · rcases h5 with ⟨c, d | d⟩ | ⟨c, _, d⟩
    · rw [b] at d; cases d
    · rcases h7 with ⟨c', _⟩ | ⟨_, c', _⟩
      · exact .inl ⟨c', .inr (by rw [hd]; simp [rdM, d])⟩
      · rw [c] at c'; cases c'
    · rcases h7 with ⟨c', d' | d'⟩ | ⟨c', _, d'⟩
      · rw [c] at d'; cases d'
      · exact .inl ⟨c', .inr (by rw [hd]; simp [rdM, d, d'])⟩
      · exact .inr ⟨c', a, by rw [hd]; simp [rdM, d, d', hn]⟩

/-- Two values that own no block together. -/
def Apt (a b : Value) : Prop := ∀ k, a.ownBlock = some k → b.ownBlock = some k → False
theorem apt_none (a : Value) : Apt a (.slice none 0 0) := fun k _ h => by simp [Value.ownBlock] at h
theorem apt_lt {w w1 : World} {b1 b2 e size e' size' n n' : Nat} {a b : Value} {xs ys : List Value} (ha : w.ownsRow b1 e size a n xs) (hb : w1.ownsRow b2 e' size' b n' ys) (h : w.heap.size ≤ b2) : Apt a b := fun k h1 h2 => by
  have := (World.ownsRow.lt ha k h1).2
  have := (World.ownsRow.lt hb k h2).1
  omega

def MsgOut (w : World) (ao : Option Addr) (R cap : Nat) (y : List Int) (p : Nat) (er : Bool) (e : Ending) (w' : World) : Prop :=
  ∃ (k f n st : Int) (v5 v6 : Value) (t u : List C) (p' : Nat) (er' : Bool), e = .returned (.agg #[.int .i64 k, .int .i64 f, v5, .int .i64 n, .int .i64 st, v6]) ∧ OwnC w' w.heap.size v5 t ∧ OwnC w' w.heap.size v6 u ∧ p' ≤ y.length ∧ Rdr w' R ao cap y p' er' ∧ w.grownBy w' (some R) ∧ MR er y p k f n st t u p' er' ∧ Apt v5 v6
theorem msgOut_mk {w w' : World} {ao : Option Addr} {R cap : Nat} {y : List Int} {p p' : Nat} {er er' : Bool} {k f n st : Int} {v5 v6 : Value} {t u : List C} (h1 : OwnC w' w.heap.size v5 t) (h2 : OwnC w' w.heap.size v6 u) (h3 : p' ≤ y.length) (h4 : Rdr w' R ao cap y p' er') (h5 : w.grownBy w' (some R)) (h6 : MR er y p k f n st t u p' er') (h7 : Apt v5 v6) :
    MsgOut w ao R cap y p er (.returned (.agg #[.int .i64 k, .int .i64 f, v5, .int .i64 n, .int .i64 st, v6])) w' := ⟨k, f, n, st, v5, v6, t, u, p', er', rfl, h1, h2, h3, h4, h5, h6, h7⟩

/-- Six stores into the result's block. -/
abbrev set6 (U : World) (A : Nat) (a0 a1 a2 a3 a4 a5 : Value) : World := (((((U.setCell ⟨A, 0, none⟩ a0).setCell ⟨A, 1, none⟩ a1).setCell ⟨A, 2, none⟩ a2).setCell ⟨A, 3, none⟩ a3).setCell ⟨A, 4, none⟩ a4).setCell ⟨A, 5, none⟩ a5
theorem set6_grown (U : World) (A : Nat) (a0 a1 a2 a3 a4 a5 : Value) : U.grownBy (set6 U A a0 a1 a2 a3 a4 a5) (some A) :=
  grown_trans (grown_trans (grown_trans (grown_trans (grown_trans (grown_setC U ⟨A, 0, none⟩ a0) (grown_setC _ ⟨A, 1, none⟩ a1)) (grown_setC _ ⟨A, 2, none⟩ a2)) (grown_setC _ ⟨A, 3, none⟩ a3)) (grown_setC _ ⟨A, 4, none⟩ a4)) (grown_setC _ ⟨A, 5, none⟩ a5)
theorem MS.out {w : World} {ao : Option Addr} {R b off cap : Nat} {y : List Int} {p p' : Nat} {er er0 : Bool} {k f n st : Int} {v5 v6 : Value} {t u : List C} {U : World} (h : MS w ao R b off cap y p' er k f n st v5 v6 U) (hp : p' ≤ y.length) (h1 : OwnC U (w.heap.size + 2) v5 t) (h2 : OwnC U (w.heap.size + 2) v6 u) (hm : MR er0 y p k f n st t u p' er) (ha : Apt v5 v6) :
    MsgOut w ao R cap y p er0 (.returned (.agg #[.int .i64 k, .int .i64 f, v5, .int .i64 n, .int .i64 st, v6])) (set6 U w.heap.size (.int .i64 k) (.int .i64 f) v5 (.int .i64 n) (.int .i64 st) v6) := by
  have hlt := h.lt
  have hg := set6_grown U w.heap.size (.int .i64 k) (.int .i64 f) v5 (.int .i64 n) (.int .i64 st) v6
  have o1 := own_apart h1 hg (fun j e => .inl (by simp at e; omega))
  have o2 := own_apart h2 hg (fun j e => .inl (by simp at e; omega))
  exact msgOut_mk (own_lo o1 (fun j e => by have := (World.ownsRow.lt o1 j e).1; omega)) (own_lo o2 (fun j e => by have := (World.ownsRow.lt o2 j e).1; omega)) hp (h.rd.apart hg (by simp; omega)) (grown_row h.gr hg (fun j e => by simp at e; omega)) hm ha

set_option maxRecDepth 100000 in
set_option maxHeartbeats 8000000 in
theorem message_any (ao : Option Addr) (R b off cap : Nat) (y : List Int) (p : Nat) (er : Bool) (w : World) (h : Rdr w R ao cap y p er) (hao : y = [] ∨ ao = some ⟨b, off, none⟩) (hA : AtY w b off y) (hy : ByL y) (hbR : b ≠ R) (hbl : b < w.heap.size) (hG : Gl w) (hR4 : 4 < R) (hp : p ≤ y.length) (hl : y.length ≤ 1048576) (hc : y.length ≤ cap) :
    Calls Tryd.prog 17 #[.pointer (some ⟨R, 0, none⟩)] w (MsgOut w ao R cap y p er) := by
  have hlt := h.lt
  obtain ⟨W, hW⟩ : ∃ W, W = (w.alloc (Obj.cells #[Value.int IntKind.i64 0, Value.int IntKind.i64 0, Value.slice none 0 0, Value.int IntKind.i64 0, Value.int IntKind.i64 0, Value.slice none 0 0] 27)).alloc (Obj.cells #[Value.int IntKind.i64 0, Value.int IntKind.i64 0, Value.slice none 0 0, Value.int IntKind.i64 0, Value.int IntKind.i64 0, Value.slice none 0 0] 27) := ⟨_, rfl⟩
  have hB0 : Below w.heap.size w W := by rw [hW]; exact below2 _ _ _
  have hWs : W.heap.size = w.heap.size + 2 := by rw [hW]; simp
  have S0 : MS w ao R b off cap y p er 0 0 0 0 (.slice none 0 0) (.slice none 0 0) W := by
    refine ⟨grown_below hB0, ?_, ?_, h.below hB0, hlt, hA.below hB0, hbR, hG.err (grown_below hB0) hR4, hbl, hao, hR4⟩
    · rw [hW]; exact ((cell_below _ _).block _ (by simp)).trans (heap_alloc_new _ _)
    · rw [hW, show w.heap.size + 1 = (w.alloc (Obj.cells #[Value.int IntKind.i64 0, Value.int IntKind.i64 0, Value.slice none 0 0, Value.int IntKind.i64 0, Value.int IntKind.i64 0, Value.slice none 0 0] 27)).heap.size by simp]; exact heap_alloc_new _ _
  obtain ⟨z1, hz1⟩ : ∃ z1, z1 = tkZ er y p 1 := ⟨_, rfl⟩
  obtain ⟨e1, he1⟩ : ∃ e1, e1 = tkE er y p 1 := ⟨_, rfl⟩
  obtain ⟨p1, hp1⟩ : ∃ p1, p1 = p + z1.length := ⟨_, rfl⟩
  obtain ⟨z2, hz2⟩ : ∃ z2, z2 = tkZ e1 y p1 1 := ⟨_, rfl⟩
  obtain ⟨e2, he2⟩ : ∃ e2, e2 = tkE e1 y p1 1 := ⟨_, rfl⟩
  obtain ⟨p2, hp2⟩ : ∃ p2, p2 = p1 + z2.length := ⟨_, rfl⟩
  obtain ⟨z3, hz3⟩ : ∃ z3, z3 = tkZ e2 y p2 1 := ⟨_, rfl⟩
  obtain ⟨e3, he3⟩ : ∃ e3, e3 = tkE e2 y p2 1 := ⟨_, rfl⟩
  obtain ⟨p3, hp3⟩ : ∃ p3, p3 = p2 + z3.length := ⟨_, rfl⟩
  obtain ⟨z4, hz4⟩ : ∃ z4, z4 = tkZ e3 y p3 3 := ⟨_, rfl⟩
  obtain ⟨e4, he4⟩ : ∃ e4, e4 = tkE e3 y p3 3 := ⟨_, rfl⟩
  obtain ⟨p4, hp4⟩ : ∃ p4, p4 = p3 + z4.length := ⟨_, rfl⟩
  have q1 : p1 ≤ y.length := by rw [hp1, hz1]; exact tkZ_place er y p 1 hp
  have q2 : p2 ≤ y.length := by rw [hp2, hz2]; exact tkZ_place e1 y p1 1 q1
  have q3 : p3 ≤ y.length := by rw [hp3, hz3]; exact tkZ_place e2 y p2 1 q2
  have q4 : p4 ≤ y.length := by rw [hp4, hz4]; exact tkZ_place e3 y p3 3 q3
  obtain ⟨k, hk⟩ : ∃ k, k = hiL z1 := ⟨_, rfl⟩
  obtain ⟨f, hf⟩ : ∃ f, f = hiL z2 := ⟨_, rfl⟩
  obtain ⟨st, hst⟩ : ∃ st, st = hiL z3 := ⟨_, rfl⟩
  obtain ⟨n, hn⟩ : ∃ n, n = hiL z4 - 100000 := ⟨_, rfl⟩
  have HSX : Hid (SixR er y p p4 e4 k f st n) := by
    refine ⟨q4, ?_⟩
    rcases six_read hp z1 z2 z3 z4 e1 e2 e3 e4 p1 p2 p3 p4 hz1 he1 hp1 hz2 he2 hp2 hz3 he3 hp3 hz4 he4 hp4 with x | ⟨a, b, c, k', f', st', x1, x2, x3, hd, r1, r2, r3, r4⟩
    · exact .inl x
    · exact .inr ⟨a, b, x1, x2, x3, by rw [hk, hf, hst, r1, r2, r3, c]; exact hd, by rw [hn, r4]⟩
  have HO1 := hide (fun (W : World) (h : Rdr W R ao cap y p er) (hA : AtY W b off y) (hG : Gl W) => show Calls Tryd.prog 35 #[.pointer (some ⟨R, 0, none⟩)] W (fun e w' => e = .returned (.int .i64 k) ∧ Rdr w' R ao cap y p1 e1 ∧ W.grownBy w' (some R)) from by
    have := one_any ao R b off cap y p er W h hao hA hy hbR hG hp hl hc
    unfold Highed at this
    rw [← hz1, ← he1, ← hp1, ← hk, Int.sub_zero] at this
    exact this)
  have HO2 := hide (fun (W : World) (h : Rdr W R ao cap y p1 e1) (hA : AtY W b off y) (hG : Gl W) => show Calls Tryd.prog 35 #[.pointer (some ⟨R, 0, none⟩)] W (fun e w' => e = .returned (.int .i64 f) ∧ Rdr w' R ao cap y p2 e2 ∧ W.grownBy w' (some R)) from by
    have := one_any ao R b off cap y p1 e1 W h hao hA hy hbR hG q1 hl hc
    unfold Highed at this
    rw [← hz2, ← he2, ← hp2, ← hf, Int.sub_zero] at this
    exact this)
  have HO3 := hide (fun (W : World) (h : Rdr W R ao cap y p2 e2) (hA : AtY W b off y) (hG : Gl W) => show Calls Tryd.prog 35 #[.pointer (some ⟨R, 0, none⟩)] W (fun e w' => e = .returned (.int .i64 st) ∧ Rdr w' R ao cap y p3 e3 ∧ W.grownBy w' (some R)) from by
    have := one_any ao R b off cap y p2 e2 W h hao hA hy hbR hG q2 hl hc
    unfold Highed at this
    rw [← hz3, ← he3, ← hp3, ← hst, Int.sub_zero] at this
    exact this)
  have HO4 := hide (fun (W : World) (h : Rdr W R ao cap y p3 e3) (hA : AtY W b off y) (hG : Gl W) => show Calls Tryd.prog 36 #[.pointer (some ⟨R, 0, none⟩)] W (fun e w' => e = .returned (.int .i64 n) ∧ Rdr w' R ao cap y p4 e4 ∧ W.grownBy w' (some R)) from by
    have := number_any ao R b off cap y p3 e3 W h hao hA hy hbR hG q3 hl hc
    unfold Highed at this
    rw [← hz4, ← he4, ← hp4, ← hn] at this
    exact this)
  have HT := hide (fun (W : World) (p' : Nat) (e' : Bool) (h : Rdr W R ao cap y p' e') (hA : AtY W b off y) (hG : Gl W) (hbl : b < W.heap.size) (hp' : p' ≤ y.length) => readTerm_any ao R b off cap y p' e' W h hao hA hy hbR hbl hG hR4 hp' hl hc)
  clear hz1 he1 hp1 hz2 he2 hp2 hz3 he3 hp3 hz4 he4 hp4 hk hf hst hn h hA hG hB0
  have H1 := hide (unhide HO1 W S0.rd S0.at_ S0.gl)
  have HS0 := hide S0
  clear S0
  go_enter Tryd.func17, Tryd.ntmps17
  go_wp2_with fail
  rw [← hW]
  clear hW
  refine (unhide H1).mono ?_
  rintro e w1 ⟨rfl, h1, g1⟩
  have S1 := (unhide HS0).read g1 h1
  obtain ⟨⟨a0, a1, a2, a3, a4, a5⟩, b0, b1, b2, b3, b4, b5⟩ := msg_cells S1.bb
  have S1' := S1.set 0 (.int .i64 k) k 0 0 0 (.slice none 0 0) (.slice none 0 0) (heap_setCell_same w1 _ 0 _ _ _ S1.bb)
  have hs1 : w.heap.size + 2 ≤ w1.heap.size := by have := g1.size; omega
  have H2 := hide (unhide HO2 _ S1'.rd S1'.at_ S1'.gl)
  have HS1 := hide S1'
  clear S1 S1' h1 g1 HS0 H1 HO1 HO2
  go_wp2_with fail
  refine (unhide H2).mono ?_
  rintro e w2 ⟨rfl, h2, g2⟩
  have S2 := (unhide HS1).read g2 h2
  have hs2 : w.heap.size + 2 ≤ w2.heap.size := by have := g2.size; simp at this; omega
  clear HS1 H2 h2 g2 a0 a1 a2 a3 a4 a5 b0 b1 b2 b3 b4 b5
  obtain ⟨⟨a0, a1, a2, a3, a4, a5⟩, b0, b1, b2, b3, b4, b5⟩ := msg_cells S2.bb
  have S2' := S2.set 1 (.int .i64 f) k f 0 0 (.slice none 0 0) (.slice none 0 0) (heap_setCell_same w2 _ 1 _ _ _ S2.bb)
  have H3 := hide (unhide HO3 _ S2'.rd S2'.at_ S2'.gl)
  have HS2 := hide S2'
  clear S2 S2' HO3
  go_wp2_with fail
  refine (unhide H3).mono ?_
  rintro e w3 ⟨rfl, h3, g3⟩
  have S3 := (unhide HS2).read g3 h3
  have hs3 : w.heap.size + 2 ≤ w3.heap.size := by have := g3.size; simp at this; omega
  clear HS2 H3 h3 g3 a0 a1 a2 a3 a4 a5 b0 b1 b2 b3 b4 b5
  obtain ⟨⟨a0, a1, a2, a3, a4, a5⟩, b0, b1, b2, b3, b4, b5⟩ := msg_cells S3.bb
  have S3' := S3.set 4 (.int .i64 st) k f 0 st (.slice none 0 0) (.slice none 0 0) (heap_setCell_same w3 _ 4 _ _ _ S3.bb)
  have H4 := hide (unhide HO4 _ S3'.rd S3'.at_ S3'.gl)
  have HS3 := hide S3'
  clear S3 S3' HO4
  go_wp2_with fail
  refine (unhide H4).mono ?_
  rintro e w4 ⟨rfl, h4, g4⟩
  have S4 := (unhide HS3).read g4 h4
  have hs4 : w.heap.size + 2 ≤ w4.heap.size := by have := g4.size; simp at this; omega
  clear HS3 H4 h4 g4 a0 a1 a2 a3 a4 a5 b0 b1 b2 b3 b4 b5
  obtain ⟨⟨a0, a1, a2, a3, a4, a5⟩, b0, b1, b2, b3, b4, b5⟩ := msg_cells S4.bb
  have S4' := S4.set 3 (.int .i64 n) k f n st (.slice none 0 0) (.slice none 0 0) (heap_setCell_same w4 _ 3 _ _ _ S4.bb)
  have H5 := hide (unhide HT _ p4 e4 S4'.rd S4'.at_ S4'.gl (by simp; omega) q4)
  have HS4 := hide S4'
  clear S4 S4'
  go_wp2_with fail
  refine (unhide H5).mono ?_
  rintro e w5 ⟨v5, t, p5, e5, rfl, hO5, hp5, h5, g5, htr⟩
  have S5 := (unhide HS4).read g5 h5
  have hs5 : w.heap.size + 2 ≤ w5.heap.size := by have := g5.size; simp at this; omega
  have hO5 : OwnC w5 (w.heap.size + 2) v5 t := own_lo hO5 (fun j e => by have := (World.ownsRow.lt hO5 j e).1; simp at this; omega)
  have HTR := hide (show TR y p4 e4 t p5 e5 from htr)
  obtain ⟨xa, xc, rfl, _⟩ := hO5.shape
  clear HS4 H5 h5 g5 htr a0 a1 a2 a3 a4 a5 b0 b1 b2 b3 b4 b5
  obtain ⟨⟨a0, a1, a2, a3, a4, a5⟩, b0, b1, b2, b3, b4, b5⟩ := msg_cells S5.bb
  have S5' := S5.set 2 (.slice xa t.length xc) k f n st (.slice xa t.length xc) (.slice none 0 0) (heap_setCell_same w5 _ 2 _ _ _ S5.bb)
  have hO5' := own_apart hO5 (grown_setC w5 ⟨w.heap.size + 1, 2, none⟩ (.slice xa t.length xc)) (fun j e => .inl (by simp at e; omega))
  by_cases h2 : st = 2
  · have H6 := hide (unhide HT _ p5 e5 S5'.rd S5'.at_ S5'.gl (by simp; omega) hp5)
    have HS5 := hide (And.intro S5' hO5')
    clear S5 S5' hO5' hO5
    go_wp2_with fail
    refine (unhide H6).mono ?_
    rintro e w6 ⟨v6, u, p6, e6, rfl, hO6, hp6, h6, g6, htr⟩
    have S6 := (unhide HS5).1.read g6 h6
    have hs6 : w.heap.size + 2 ≤ w6.heap.size := by have := g6.size; simp at this; omega
    have HAP := hide (apt_lt (unhide HS5).2 hO6 (Nat.le_refl _))
    have hO6 : OwnC w6 (w.heap.size + 2) v6 u := own_lo hO6 (fun j e => by have := (World.ownsRow.lt hO6 j e).1; simp at this; omega)
    have hO5 := own_apart (unhide HS5).2 g6 (fun j e => .inl (by simp at e; omega))
    have HTR2 := hide (show TR y p5 e5 u p6 e6 from htr)
    obtain ⟨ya, yc, rfl, _⟩ := hO6.shape
    clear HS5 H6 h6 g6 htr a0 a1 a2 a3 a4 a5 b0 b1 b2 b3 b4 b5
    obtain ⟨⟨a0, a1, a2, a3, a4, a5⟩, b0, b1, b2, b3, b4, b5⟩ := msg_cells S6.bb
    have S6' := S6.set 5 (.slice ya u.length yc) k f n st (.slice xa t.length xc) (.slice ya u.length yc) (heap_setCell_same w6 _ 5 _ _ _ S6.bb)
    have hO5' := own_apart hO5 (grown_setC w6 ⟨w.heap.size + 1, 5, none⟩ (.slice ya u.length yc)) (fun j e => .inl (by simp at e; omega))
    have hO6' := own_apart hO6 (grown_setC w6 ⟨w.heap.size + 1, 5, none⟩ (.slice ya u.length yc)) (fun j e => .inl (by simp at e; omega))
    have hf0 := S6'.out hp6 hO5' hO6' (mr_two (unhide HSX) (unhide HTR) (unhide HTR2) h2) (unhide HAP)
    rw [h2] at hf0
    have HF := hide hf0
    clear hf0
    obtain ⟨⟨d0, d1, d2, d3, d4, d5⟩, f0, f1, f2, f3, f4, f5⟩ := msg_cells S6'.ba
    obtain ⟨⟨g0, g1, g2, g3, g4, g5⟩, _⟩ := msg_cells S6'.bb
    clear S6 S6' hO5' hO6' hO5 hO6
    go_wp2
    exact bodyPost_ret (v := .agg #[.int .i64 k, .int .i64 f, .slice xa t.length xc, .int .i64 n, .int .i64 2, .slice ya u.length yc]) (by simp [results, Tryd.results17, go_sem, *]) rfl (unhide HF)
  · have HF := hide (S5'.out hp5 hO5' (ownC_nil _ _) (mr_one (unhide HSX) (unhide HTR) h2) (apt_none _))
    obtain ⟨⟨d0, d1, d2, d3, d4, d5⟩, f0, f1, f2, f3, f4, f5⟩ := msg_cells S5'.ba
    obtain ⟨⟨g0, g1, g2, g3, g4, g5⟩, _⟩ := msg_cells S5'.bb
    clear S5 S5' hO5' hO5
    go_wp2
    exact bodyPost_ret (v := .agg #[.int .i64 k, .int .i64 f, .slice xa t.length xc, .int .i64 n, .int .i64 st, .slice none 0 0]) (by simp [results, Tryd.results17, go_sem, *]) rfl (unhide HF)
end Go.Proofs.YtonpahhcfgdeoaaDoor
