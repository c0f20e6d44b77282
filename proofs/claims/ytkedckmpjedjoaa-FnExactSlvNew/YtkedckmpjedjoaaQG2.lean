/- The walk of the model's GoalOk. -/
import Derived.Test.YtkedckmpjedjoaaQW7Plain2G1
import Derived.RangeFuncBox
namespace Go.Proofs.Ytkedckmpjedjoaa
open Go.RowKit
set_option linter.unusedVariables false
set_option linter.unusedSimpArgs false

/-- Three terms of a goal, in memory. -/
structure Trip (w : World) (xa ya za : Option Addr) (a b c : List C) : Prop where
  ra : Row w xa a
  rb : Row w ya b
  rc : Row w za c
  fa : Fit a
  fb : Fit b
  fc : Fit c
  la : a.length ≤ 1048576
  lb : b.length ≤ 1048576
  lc : c.length ≤ 1048576
theorem Trip.below {w w' : World} {xa ya za : Option Addr} {a b c : List C} (h : Trip w xa ya za a b c) (hb : Below w.heap.size w w') : Trip w' xa ya za a b c :=
  ⟨h.ra.below hb, h.rb.below hb, h.rc.below hb, h.fa, h.fb, h.fc, h.la, h.lb, h.lc⟩
theorem four_new (w : World) (x0 x1 x2 x3 : Value) (T : TypeId) : Below w.heap.size w (w.alloc (.cells #[x0, x1, x2, x3] T)) ∧ (w.alloc (.cells #[x0, x1, x2, x3] T)).cell? ⟨w.heap.size, 1, none⟩ = some x1 ∧ (w.alloc (.cells #[x0, x1, x2, x3] T)).cell? ⟨w.heap.size, 2, none⟩ = some x2 ∧ (w.alloc (.cells #[x0, x1, x2, x3] T)).cell? ⟨w.heap.size, 3, none⟩ = some x3 := by
  have hb : (w.alloc (.cells #[x0, x1, x2, x3] T)).heap[w.heap.size]? = some (.cells #[x0, x1, x2, x3] T) := World.alloc_heap_new w _
  refine ⟨cell_below _ _, ?_, ?_, ?_⟩ <;> (simp only [World.cell?]; rw [hb]; rfl)
theorem mil {n : Nat} (h : n ≤ 1048576) : n ≤ maxLen := by unfold maxLen; omega

set_option maxRecDepth 100000 in
set_option maxHeartbeats 4000000 in
theorem specGoalOk_any (k : Int) (xa ya za : Option Addr) (xc yc zc : Nat) (a b c : List C) (w : World) (h : Trip w xa ya za a b c) :
    Calls Try.prog 141 #[.agg #[.int .i64 k, .slice xa a.length xc, .slice ya b.length yc, .slice za c.length zc]] w fun e w' => e = .returned (.bool (goalB k a b c)) ∧ Below w.heap.size w w' := by
  have hla := h.la
  have hlb := h.lb
  have hlc := h.lc
  have HA := hide (fun (W : World) (hW : Below w.heap.size w W) => l3Term_any xa xc a W (mil h.la) ((h.below hW).ra) h.fa)
  have HB := hide (fun (W : World) (hW : Below w.heap.size w W) => l3Term_any ya yc b W (mil h.lb) ((h.below hW).rb) h.fb)
  have HC := hide (fun (W : World) (hW : Below w.heap.size w W) => l3Term_any za zc c W (mil h.lc) ((h.below hW).rc) h.fc)
  have HK := hide (fun (W : World) (hW : Below w.heap.size w W) => l3Call_any xa xc a W (mil h.la) ((h.below hW).ra))
  have HG := hide (show goalB k a b c = goalB k a b c from rfl)
  clear h
  by_cases k1 : k = 1
  · subst k1
    have HE : Hid (goalB 1 a b c = (l3T a && callT a && decide (b.length + c.length = 0))) := by simp [Hid, goalB]
    clear HG
    go_enter Try.func141, Try.ntmps141
    go_wp2_with fail
    obtain ⟨hb0, d1, d2, d3⟩ := four_new w (.int .i64 1) (.slice xa a.length xc) (.slice ya b.length yc) (.slice za c.length zc) 93
    generalize w.alloc (.cells #[.int .i64 1, .slice xa a.length xc, .slice ya b.length yc, .slice za c.length zc] 93) = w0 at hb0 d1 d2 d3 ⊢
    have hl0 : w.heap.size < w0.heap.size := World.block_lt_of_cell? w0 ⟨_, _, none⟩ d1
    refine (unhide HA w0 hb0).mono ?_
    cases ea : l3T a with
    | false =>
      rintro e w1 ⟨rfl, hb01⟩
      have hb1 := bstep hb0 hb01
      have e1 := (hb01.cell (p := ⟨w.heap.size, 1, none⟩) hl0).trans d1
      have e2 := (hb01.cell (p := ⟨w.heap.size, 2, none⟩) hl0).trans d2
      have e3 := (hb01.cell (p := ⟨w.heap.size, 3, none⟩) hl0).trans d3
      have hl1 : w.heap.size < w1.heap.size := World.block_lt_of_cell? w1 ⟨_, _, none⟩ e1
      have HF : Hid (goalB 1 a b c = false) := by show goalB 1 a b c = false; rw [unhide HE, ea]; rfl
      clear ea
      go_wp2
      go_ret
      exact ⟨ret_bool (unhide HF).symm, hb1⟩
    | true =>
      rintro e w1 ⟨rfl, hb01⟩
      have hb1 := bstep hb0 hb01
      have e1 := (hb01.cell (p := ⟨w.heap.size, 1, none⟩) hl0).trans d1
      have e2 := (hb01.cell (p := ⟨w.heap.size, 2, none⟩) hl0).trans d2
      have e3 := (hb01.cell (p := ⟨w.heap.size, 3, none⟩) hl0).trans d3
      have hl1 : w.heap.size < w1.heap.size := World.block_lt_of_cell? w1 ⟨_, _, none⟩ e1
      have HX := hide (unhide HK w1 hb1)
      go_wp2_with fail
      refine (unhide HX).mono ?_
      cases ek : callT a with
      | false =>
        rintro e w2 ⟨rfl, hw2⟩
        subst hw2
        have HF : Hid (goalB 1 a b c = false) := by show goalB 1 a b c = false; rw [unhide HE, ea, ek]; rfl
        clear ea ek
        go_wp2
        go_ret
        exact ⟨ret_bool (unhide HF).symm, hb1⟩
      | true =>
        rintro e w2 ⟨rfl, hw2⟩
        subst hw2
        have HF : Hid (goalB 1 a b c = (((b.length : Int) + (c.length : Int)) == 0)) := by
          show goalB 1 a b c = _
          rw [unhide HE, ea, ek]
          by_cases h0 : b.length + c.length = 0
          · rw [decide_eq_true h0, show ((b.length : Int) + (c.length : Int)) = 0 by omega]; rfl
          · rw [decide_eq_false h0, beq_eq_false_iff_ne.2 (by omega)]; rfl
        clear ea ek
        go_wp2
        go_ret
        exact ⟨ret_bool (unhide HF).symm, hb1⟩
  · by_cases k3 : k = 3
    · subst k3
      have HF : Hid (goalB 3 a b c = (((a.length : Int) + (b.length : Int) + (c.length : Int)) == 0)) := by
        show goalB 3 a b c = _
        by_cases h0 : a.length + b.length + c.length = 0
        · rw [show ((a.length : Int) + (b.length : Int) + (c.length : Int)) = 0 by omega]
          simp [goalB, h0]
        · rw [beq_eq_false_iff_ne.2 (show ((a.length : Int) + (b.length : Int) + (c.length : Int)) ≠ 0 by omega)]
          simp only [goalB, if_neg (show ¬ (3 : Int) = 1 by omega), if_true, decide_eq_false h0]
      clear k1 HG
      go_enter Try.func141, Try.ntmps141
      go_wp2
      go_ret
      exact ⟨ret_bool (unhide HF).symm, cell_below _ _⟩
    · by_cases k2 : k = 2
      · subst k2
        have HE : Hid (goalB 2 a b c = (l3T a && l3T b && decide (c.length = 0))) := by simp [Hid, goalB]
        clear HG
        go_enter Try.func141, Try.ntmps141
        go_wp2_with fail
        obtain ⟨hb0, d1, d2, d3⟩ := four_new w (.int .i64 2) (.slice xa a.length xc) (.slice ya b.length yc) (.slice za c.length zc) 93
        generalize w.alloc (.cells #[.int .i64 2, .slice xa a.length xc, .slice ya b.length yc, .slice za c.length zc] 93) = w0 at hb0 d1 d2 d3 ⊢
        have hl0 : w.heap.size < w0.heap.size := World.block_lt_of_cell? w0 ⟨_, _, none⟩ d1
        refine (unhide HA w0 hb0).mono ?_
        cases ea : l3T a with
        | false =>
          rintro e w1 ⟨rfl, hb01⟩
          have hb1 := bstep hb0 hb01
          have e1 := (hb01.cell (p := ⟨w.heap.size, 1, none⟩) hl0).trans d1
          have e2 := (hb01.cell (p := ⟨w.heap.size, 2, none⟩) hl0).trans d2
          have e3 := (hb01.cell (p := ⟨w.heap.size, 3, none⟩) hl0).trans d3
          have hl1 : w.heap.size < w1.heap.size := World.block_lt_of_cell? w1 ⟨_, _, none⟩ e1
          have HF : Hid (goalB 2 a b c = false) := by show goalB 2 a b c = false; rw [unhide HE, ea]; rfl
          clear ea
          go_wp2
          go_ret
          exact ⟨ret_bool (unhide HF).symm, hb1⟩
        | true =>
          rintro e w1 ⟨rfl, hb01⟩
          have hb1 := bstep hb0 hb01
          have e1 := (hb01.cell (p := ⟨w.heap.size, 1, none⟩) hl0).trans d1
          have e2 := (hb01.cell (p := ⟨w.heap.size, 2, none⟩) hl0).trans d2
          have e3 := (hb01.cell (p := ⟨w.heap.size, 3, none⟩) hl0).trans d3
          have hl1 : w.heap.size < w1.heap.size := World.block_lt_of_cell? w1 ⟨_, _, none⟩ e1
          have HX := hide (unhide HB w1 hb1)
          go_wp2_with fail
          refine (unhide HX).mono ?_
          cases eb : l3T b with
          | false =>
            rintro e w2 ⟨rfl, hb2⟩
            have f1 := (hb2.cell (p := ⟨w.heap.size, 1, none⟩) hl1).trans e1
            have f2 := (hb2.cell (p := ⟨w.heap.size, 2, none⟩) hl1).trans e2
            have f3 := (hb2.cell (p := ⟨w.heap.size, 3, none⟩) hl1).trans e3
            have HF : Hid (goalB 2 a b c = false) := by show goalB 2 a b c = false; rw [unhide HE, ea, eb]; rfl
            clear ea eb
            go_wp2
            go_ret
            exact ⟨ret_bool (unhide HF).symm, bstep hb1 hb2⟩
          | true =>
            rintro e w2 ⟨rfl, hb2⟩
            have f1 := (hb2.cell (p := ⟨w.heap.size, 1, none⟩) hl1).trans e1
            have f2 := (hb2.cell (p := ⟨w.heap.size, 2, none⟩) hl1).trans e2
            have f3 := (hb2.cell (p := ⟨w.heap.size, 3, none⟩) hl1).trans e3
            have HF : Hid (goalB 2 a b c = ((c.length : Int) == 0)) := by
              show goalB 2 a b c = _
              rw [unhide HE, ea, eb]
              by_cases h0 : c.length = 0
              · rw [decide_eq_true h0, h0]; rfl
              · rw [decide_eq_false h0, beq_eq_false_iff_ne.2 (by omega)]; rfl
            clear ea eb
            go_wp2
            go_ret
            exact ⟨ret_bool (unhide HF).symm, bstep hb1 hb2⟩
      · by_cases k4 : k = 4
        · subst k4
          have HE : Hid (goalB 4 a b c = (l3T a && l3T b && decide (c.length = 0))) := by simp [Hid, goalB]
          clear HG
          go_enter Try.func141, Try.ntmps141
          go_wp2_with fail
          obtain ⟨hb0, d1, d2, d3⟩ := four_new w (.int .i64 4) (.slice xa a.length xc) (.slice ya b.length yc) (.slice za c.length zc) 93
          generalize w.alloc (.cells #[.int .i64 4, .slice xa a.length xc, .slice ya b.length yc, .slice za c.length zc] 93) = w0 at hb0 d1 d2 d3 ⊢
          have hl0 : w.heap.size < w0.heap.size := World.block_lt_of_cell? w0 ⟨_, _, none⟩ d1
          refine (unhide HA w0 hb0).mono ?_
          cases ea : l3T a with
          | false =>
            rintro e w1 ⟨rfl, hb01⟩
            have hb1 := bstep hb0 hb01
            have e1 := (hb01.cell (p := ⟨w.heap.size, 1, none⟩) hl0).trans d1
            have e2 := (hb01.cell (p := ⟨w.heap.size, 2, none⟩) hl0).trans d2
            have e3 := (hb01.cell (p := ⟨w.heap.size, 3, none⟩) hl0).trans d3
            have hl1 : w.heap.size < w1.heap.size := World.block_lt_of_cell? w1 ⟨_, _, none⟩ e1
            have HF : Hid (goalB 4 a b c = false) := by show goalB 4 a b c = false; rw [unhide HE, ea]; rfl
            clear ea
            go_wp2
            go_ret
            exact ⟨ret_bool (unhide HF).symm, hb1⟩
          | true =>
            rintro e w1 ⟨rfl, hb01⟩
            have hb1 := bstep hb0 hb01
            have e1 := (hb01.cell (p := ⟨w.heap.size, 1, none⟩) hl0).trans d1
            have e2 := (hb01.cell (p := ⟨w.heap.size, 2, none⟩) hl0).trans d2
            have e3 := (hb01.cell (p := ⟨w.heap.size, 3, none⟩) hl0).trans d3
            have hl1 : w.heap.size < w1.heap.size := World.block_lt_of_cell? w1 ⟨_, _, none⟩ e1
            have HX := hide (unhide HB w1 hb1)
            go_wp2_with fail
            refine (unhide HX).mono ?_
            cases eb : l3T b with
            | false =>
              rintro e w2 ⟨rfl, hb2⟩
              have f1 := (hb2.cell (p := ⟨w.heap.size, 1, none⟩) hl1).trans e1
              have f2 := (hb2.cell (p := ⟨w.heap.size, 2, none⟩) hl1).trans e2
              have f3 := (hb2.cell (p := ⟨w.heap.size, 3, none⟩) hl1).trans e3
              have HF : Hid (goalB 4 a b c = false) := by show goalB 4 a b c = false; rw [unhide HE, ea, eb]; rfl
              clear ea eb
              go_wp2
              go_ret
              exact ⟨ret_bool (unhide HF).symm, bstep hb1 hb2⟩
            | true =>
              rintro e w2 ⟨rfl, hb2⟩
              have f1 := (hb2.cell (p := ⟨w.heap.size, 1, none⟩) hl1).trans e1
              have f2 := (hb2.cell (p := ⟨w.heap.size, 2, none⟩) hl1).trans e2
              have f3 := (hb2.cell (p := ⟨w.heap.size, 3, none⟩) hl1).trans e3
              have HF : Hid (goalB 4 a b c = ((c.length : Int) == 0)) := by
                show goalB 4 a b c = _
                rw [unhide HE, ea, eb]
                by_cases h0 : c.length = 0
                · rw [decide_eq_true h0, h0]; rfl
                · rw [decide_eq_false h0, beq_eq_false_iff_ne.2 (by omega)]; rfl
              clear ea eb
              go_wp2
              go_ret
              exact ⟨ret_bool (unhide HF).symm, bstep hb1 hb2⟩
        · by_cases k5 : k = 5
          · subst k5
            have HE : Hid (goalB 5 a b c = (l3T a && l3T b && l3T c)) := by simp [Hid, goalB]
            clear HG
            go_enter Try.func141, Try.ntmps141
            go_wp2_with fail
            obtain ⟨hb0, d1, d2, d3⟩ := four_new w (.int .i64 5) (.slice xa a.length xc) (.slice ya b.length yc) (.slice za c.length zc) 93
            generalize w.alloc (.cells #[.int .i64 5, .slice xa a.length xc, .slice ya b.length yc, .slice za c.length zc] 93) = w0 at hb0 d1 d2 d3 ⊢
            have hl0 : w.heap.size < w0.heap.size := World.block_lt_of_cell? w0 ⟨_, _, none⟩ d1
            refine (unhide HA w0 hb0).mono ?_
            cases ea : l3T a with
            | false =>
              rintro e w1 ⟨rfl, hb01⟩
              have hb1 := bstep hb0 hb01
              have e1 := (hb01.cell (p := ⟨w.heap.size, 1, none⟩) hl0).trans d1
              have e2 := (hb01.cell (p := ⟨w.heap.size, 2, none⟩) hl0).trans d2
              have e3 := (hb01.cell (p := ⟨w.heap.size, 3, none⟩) hl0).trans d3
              have hl1 : w.heap.size < w1.heap.size := World.block_lt_of_cell? w1 ⟨_, _, none⟩ e1
              have HF : Hid (goalB 5 a b c = false) := by show goalB 5 a b c = false; rw [unhide HE, ea]; rfl
              clear ea
              go_wp2
              go_ret
              exact ⟨ret_bool (unhide HF).symm, hb1⟩
            | true =>
              rintro e w1 ⟨rfl, hb01⟩
              have hb1 := bstep hb0 hb01
              have e1 := (hb01.cell (p := ⟨w.heap.size, 1, none⟩) hl0).trans d1
              have e2 := (hb01.cell (p := ⟨w.heap.size, 2, none⟩) hl0).trans d2
              have e3 := (hb01.cell (p := ⟨w.heap.size, 3, none⟩) hl0).trans d3
              have hl1 : w.heap.size < w1.heap.size := World.block_lt_of_cell? w1 ⟨_, _, none⟩ e1
              have HX := hide (unhide HB w1 hb1)
              go_wp2_with fail
              refine (unhide HX).mono ?_
              cases eb : l3T b with
              | false =>
                rintro e w2 ⟨rfl, hb2⟩
                have f1 := (hb2.cell (p := ⟨w.heap.size, 1, none⟩) hl1).trans e1
                have f2 := (hb2.cell (p := ⟨w.heap.size, 2, none⟩) hl1).trans e2
                have f3 := (hb2.cell (p := ⟨w.heap.size, 3, none⟩) hl1).trans e3
                have HF : Hid (goalB 5 a b c = false) := by show goalB 5 a b c = false; rw [unhide HE, ea, eb]; rfl
                clear ea eb
                go_wp2
                go_ret
                exact ⟨ret_bool (unhide HF).symm, bstep hb1 hb2⟩
              | true =>
                rintro e w2 ⟨rfl, hb2⟩
                have f1 := (hb2.cell (p := ⟨w.heap.size, 1, none⟩) hl1).trans e1
                have f2 := (hb2.cell (p := ⟨w.heap.size, 2, none⟩) hl1).trans e2
                have f3 := (hb2.cell (p := ⟨w.heap.size, 3, none⟩) hl1).trans e3
                have hB2 := bstep hb1 hb2
                have HY := hide (unhide HC w2 hB2)
                go_wp2_with fail
                refine (unhide HY).mono ?_
                rintro e w3 ⟨rfl, hb3⟩
                have HF : Hid (goalB 5 a b c = l3T c) := by show goalB 5 a b c = _; rw [unhide HE, ea, eb]; rfl
                clear ea eb
                go_wp2
                go_ret
                exact ⟨ret_bool (unhide HF).symm, bstep hB2 hb3⟩
          · have HF : Hid (goalB k a b c = false) := by simp [Hid, goalB, k1, k2, k3, k4, k5]
            have q1 : (k == 1) = false := by simpa using k1
            have q2 : (k == 2) = false := by simpa using k2
            have q3 : (k == 3) = false := by simpa using k3
            have q4 : (k == 4) = false := by simpa using k4
            have q5 : (k == 5) = false := by simpa using k5
            clear k1 k2 k3 k4 k5 HG
            go_enter Try.func141, Try.ntmps141
            go_wp2
            go_ret
            exact ⟨ret_bool (unhide HF).symm, cell_below _ _⟩
end Go.Proofs.Ytkedckmpjedjoaa
