import Derived.Test.YtkedckmpjedjoaaQW7Plain2G1
import Derived.RangeFuncBox
import Derived.Test.YtkedckmpjedjoaaQT3T4
import Derived.Test.YtkedckmpjedjoaaQT1Plain4T2
import Derived.OrdersHeld
import Derived.RangeFuncWrites
import Derived.RangeFuncLeaves
import Derived.RangeFuncCalls
/- The walk of the model's GoalOk. -/
namespace Go.Proofs.Ytkedckmpjedjoaa
open Go.RowKit
set_option linter.unusedVariables false
set_option linter.unusedSimpArgs false

/-- Three terms of a goal, in memory. -/
structure Trip (w : World) (xa ya za : Option Addr) (a b c : List C) : Prop where
  ra : Row w xa a
  rb : Row w ya b
  rc : Row w za c
  fa : Fit a
  fb : Fit b
  fc : Fit c
  la : a.length ≤ 1048576
  lb : b.length ≤ 1048576
  lc : c.length ≤ 1048576
theorem Trip.below {w w' : World} {xa ya za : Option Addr} {a b c : List C} (h : Trip w xa ya za a b c) (hb : Below w.heap.size w w') : Trip w' xa ya za a b c :=
  ⟨h.ra.below hb, h.rb.below hb, h.rc.below hb, h.fa, h.fb, h.fc, h.la, h.lb, h.lc⟩
theorem four_new (w : World) (x0 x1 x2 x3 : Value) (T : TypeId) : Below w.heap.size w (w.alloc (.cells #[x0, x1, x2, x3] T)) ∧ (w.alloc (.cells #[x0, x1, x2, x3] T)).cell? ⟨w.heap.size, 1, none⟩ = some x1 ∧ (w.alloc (.cells #[x0, x1, x2, x3] T)).cell? ⟨w.heap.size, 2, none⟩ = some x2 ∧ (w.alloc (.cells #[x0, x1, x2, x3] T)).cell? ⟨w.heap.size, 3, none⟩ = some x3 := by
  have hb : (w.alloc (.cells #[x0, x1, x2, x3] T)).heap[w.heap.size]? = some (.cells #[x0, x1, x2, x3] T) := World.alloc_heap_new w _
  refine ⟨cell_below _ _, ?_, ?_, ?_⟩ <;> (simp only [World.cell?]; rw [hb]; rfl)
theorem mil {n : Nat} (h : n ≤ 1048576) : n ≤ maxLen := by unfold maxLen; omega

set_option maxRecDepth 100000 in
set_option maxHeartbeats 4000000 in
theorem specGoalOk_any (k : Int) (xa ya za : Option Addr) (xc yc zc : Nat) (a b c : List C) (w : World) (h : Trip w xa ya za a b c) :
    Calls Try.prog 141 #[.agg #[.int .i64 k, .slice xa a.length xc, .slice ya b.length yc, .slice za c.length zc]] w fun e w' => e = .returned (.bool (goalB k a b c)) ∧ Below w.heap.size w w' := by
  have hla := h.la
  have hlb := h.lb
  have hlc := h.lc
  have HA := hide (fun (W : World) (hW : Below w.heap.size w W) => l3Term_any xa xc a W (mil h.la) ((h.below hW).ra) h.fa)
  have HB := hide (fun (W : World) (hW : Below w.heap.size w W) => l3Term_any ya yc b W (mil h.lb) ((h.below hW).rb) h.fb)
  have HC := hide (fun (W : World) (hW : Below w.heap.size w W) => l3Term_any za zc c W (mil h.lc) ((h.below hW).rc) h.fc)
  have HK := hide (fun (W : World) (hW : Below w.heap.size w W) => l3Call_any xa xc a W (mil h.la) ((h.below hW).ra))
  have HG := hide (show goalB k a b c = goalB k a b c from rfl)
  clear h
  by_cases k1 : k = 1
  · subst k1
    have HE : Hid (goalB 1 a b c = (l3T a && callT a && decide (b.length + c.length = 0))) := by simp [Hid, goalB]
    clear HG
    go_enter Try.func141, Try.ntmps141
    go_wp2_with fail
    obtain ⟨hb0, d1, d2, d3⟩ := four_new w (.int .i64 1) (.slice xa a.length xc) (.slice ya b.length yc) (.slice za c.length zc) 93
    generalize w.alloc (.cells #[.int .i64 1, .slice xa a.length xc, .slice ya b.length yc, .slice za c.length zc] 93) = w0 at hb0 d1 d2 d3 ⊢
    have hl0 : w.heap.size < w0.heap.size := World.block_lt_of_cell? w0 ⟨_, _, none⟩ d1
    refine (unhide HA w0 hb0).mono ?_
    cases ea : l3T a with
    | false =>
      rintro e w1 ⟨rfl, hb01⟩
      have hb1 := bstep hb0 hb01
      have e1 := (hb01.cell (p := ⟨w.heap.size, 1, none⟩) hl0).trans d1
      have e2 := (hb01.cell (p := ⟨w.heap.size, 2, none⟩) hl0).trans d2
      have e3 := (hb01.cell (p := ⟨w.heap.size, 3, none⟩) hl0).trans d3
      have hl1 : w.heap.size < w1.heap.size := World.block_lt_of_cell? w1 ⟨_, _, none⟩ e1
      have HF : Hid (goalB 1 a b c = false) := by show goalB 1 a b c = false; rw [unhide HE, ea]; rfl
      clear ea
      go_wp2
      go_ret
      exact ⟨ret_bool (unhide HF).symm, hb1⟩
    | true =>
      rintro e w1 ⟨rfl, hb01⟩
      have hb1 := bstep hb0 hb01
      have e1 := (hb01.cell (p := ⟨w.heap.size, 1, none⟩) hl0).trans d1
      have e2 := (hb01.cell (p := ⟨w.heap.size, 2, none⟩) hl0).trans d2
      have e3 := (hb01.cell (p := ⟨w.heap.size, 3, none⟩) hl0).trans d3
      have hl1 : w.heap.size < w1.heap.size := World.block_lt_of_cell? w1 ⟨_, _, none⟩ e1
      have HX := hide (unhide HK w1 hb1)
      go_wp2_with fail
      refine (unhide HX).mono ?_
      cases ek : callT a with
      | false =>
        rintro e w2 ⟨rfl, hw2⟩
        subst hw2
        have HF : Hid (goalB 1 a b c = false) := by show goalB 1 a b c = false; rw [unhide HE, ea, ek]; rfl
        clear ea ek
        go_wp2
        go_ret
        exact ⟨ret_bool (unhide HF).symm, hb1⟩
      | true =>
        rintro e w2 ⟨rfl, hw2⟩
        subst hw2
        have HF : Hid (goalB 1 a b c = (((b.length : Int) + (c.length : Int)) == 0)) := by
          show goalB 1 a b c = _
          rw [unhide HE, ea, ek]
          by_cases h0 : b.length + c.length = 0
          · rw [decide_eq_true h0, show ((b.length : Int) + (c.length : Int)) = 0 by omega]; rfl
          · rw [decide_eq_false h0, beq_eq_false_iff_ne.2 (by omega)]; rfl
        clear ea ek
        go_wp2
        go_ret
        exact ⟨ret_bool (unhide HF).symm, hb1⟩
  · by_cases k3 : k = 3
    · subst k3
      have HF : Hid (goalB 3 a b c = (((a.length : Int) + (b.length : Int) + (c.length : Int)) == 0)) := by
        show goalB 3 a b c = _
        by_cases h0 : a.length + b.length + c.length = 0
        · rw [show ((a.length : Int) + (b.length : Int) + (c.length : Int)) = 0 by omega]
          simp [goalB, h0]
        · rw [beq_eq_false_iff_ne.2 (show ((a.length : Int) + (b.length : Int) + (c.length : Int)) ≠ 0 by omega)]
          simp only [goalB, if_neg (show ¬ (3 : Int) = 1 by omega), if_true, decide_eq_false h0]
      clear k1 HG
      go_enter Try.func141, Try.ntmps141
      go_wp2
      go_ret
      exact ⟨ret_bool (unhide HF).symm, cell_below _ _⟩
    · by_cases k2 : k = 2
      · subst k2
        have HE : Hid (goalB 2 a b c = (l3T a && l3T b && decide (c.length = 0))) := by simp [Hid, goalB]
        clear HG
        go_enter Try.func141, Try.ntmps141
        go_wp2_with fail
        obtain ⟨hb0, d1, d2, d3⟩ := four_new w (.int .i64 2) (.slice xa a.length xc) (.slice ya b.length yc) (.slice za c.length zc) 93
        generalize w.alloc (.cells #[.int .i64 2, .slice xa a.length xc, .slice ya b.length yc, .slice za c.length zc] 93) = w0 at hb0 d1 d2 d3 ⊢
        have hl0 : w.heap.size < w0.heap.size := World.block_lt_of_cell? w0 ⟨_, _, none⟩ d1
        refine (unhide HA w0 hb0).mono ?_
        cases ea : l3T a with
        | false =>
          rintro e w1 ⟨rfl, hb01⟩
          have hb1 := bstep hb0 hb01
          have e1 := (hb01.cell (p := ⟨w.heap.size, 1, none⟩) hl0).trans d1
          have e2 := (hb01.cell (p := ⟨w.heap.size, 2, none⟩) hl0).trans d2
          have e3 := (hb01.cell (p := ⟨w.heap.size, 3, none⟩) hl0).trans d3
          have hl1 : w.heap.size < w1.heap.size := World.block_lt_of_cell? w1 ⟨_, _, none⟩ e1
          have HF : Hid (goalB 2 a b c = false) := by show goalB 2 a b c = false; rw [unhide HE, ea]; rfl
          clear ea
          go_wp2
          go_ret
          exact ⟨ret_bool (unhide HF).symm, hb1⟩
        | true =>
          rintro e w1 ⟨rfl, hb01⟩
          have hb1 := bstep hb0 hb01
          have e1 := (hb01.cell (p := ⟨w.heap.size, 1, none⟩) hl0).trans d1
          have e2 := (hb01.cell (p := ⟨w.heap.size, 2, none⟩) hl0).trans d2
          have e3 := (hb01.cell (p := ⟨w.heap.size, 3, none⟩) hl0).trans d3
          have hl1 : w.heap.size < w1.heap.size := World.block_lt_of_cell? w1 ⟨_, _, none⟩ e1
          have HX := hide (unhide HB w1 hb1)
          go_wp2_with fail
          refine (unhide HX).mono ?_
          cases eb : l3T b with
          | false =>
            rintro e w2 ⟨rfl, hb2⟩
            have f1 := (hb2.cell (p := ⟨w.heap.size, 1, none⟩) hl1).trans e1
            have f2 := (hb2.cell (p := ⟨w.heap.size, 2, none⟩) hl1).trans e2
            have f3 := (hb2.cell (p := ⟨w.heap.size, 3, none⟩) hl1).trans e3
            have HF : Hid (goalB 2 a b c = false) := by show goalB 2 a b c = false; rw [unhide HE, ea, eb]; rfl
            clear ea eb
            go_wp2
            go_ret
            exact ⟨ret_bool (unhide HF).symm, bstep hb1 hb2⟩
          | true =>
            rintro e w2 ⟨rfl, hb2⟩
            have f1 := (hb2.cell (p := ⟨w.heap.size, 1, none⟩) hl1).trans e1
            have f2 := (hb2.cell (p := ⟨w.heap.size, 2, none⟩) hl1).trans e2
            have f3 := (hb2.cell (p := ⟨w.heap.size, 3, none⟩) hl1).trans e3
            have HF : Hid (goalB 2 a b c = ((c.length : Int) == 0)) := by
              show goalB 2 a b c = _
              rw [unhide HE, ea, eb]
              by_cases h0 : c.length = 0
              · rw [decide_eq_true h0, h0]; rfl
              · rw [decide_eq_false h0, beq_eq_false_iff_ne.2 (by omega)]; rfl
            clear ea eb
            go_wp2
            go_ret
            exact ⟨ret_bool (unhide HF).symm, bstep hb1 hb2⟩
      · by_cases k4 : k = 4
        · subst k4
          have HE : Hid (goalB 4 a b c = (l3T a && l3T b && decide (c.length = 0))) := by simp [Hid, goalB]
          clear HG
          go_enter Try.func141, Try.ntmps141
          go_wp2_with fail
          obtain ⟨hb0, d1, d2, d3⟩ := four_new w (.int .i64 4) (.slice xa a.length xc) (.slice ya b.length yc) (.slice za c.length zc) 93
          generalize w.alloc (.cells #[.int .i64 4, .slice xa a.length xc, .slice ya b.length yc, .slice za c.length zc] 93) = w0 at hb0 d1 d2 d3 ⊢
          have hl0 : w.heap.size < w0.heap.size := World.block_lt_of_cell? w0 ⟨_, _, none⟩ d1
          refine (unhide HA w0 hb0).mono ?_
          cases ea : l3T a with
          | false =>
            rintro e w1 ⟨rfl, hb01⟩
            have hb1 := bstep hb0 hb01
            have e1 := (hb01.cell (p := ⟨w.heap.size, 1, none⟩) hl0).trans d1
            have e2 := (hb01.cell (p := ⟨w.heap.size, 2, none⟩) hl0).trans d2
            have e3 := (hb01.cell (p := ⟨w.heap.size, 3, none⟩) hl0).trans d3
            have hl1 : w.heap.size < w1.heap.size := World.block_lt_of_cell? w1 ⟨_, _, none⟩ e1
            have HF : Hid (goalB 4 a b c = false) := by show goalB 4 a b c = false; rw [unhide HE, ea]; rfl
            clear ea
            go_wp2
            go_ret
            exact ⟨ret_bool (unhide HF).symm, hb1⟩
          | true =>
            rintro e w1 ⟨rfl, hb01⟩
            have hb1 := bstep hb0 hb01
            have e1 := (hb01.cell (p := ⟨w.heap.size, 1, none⟩) hl0).trans d1
            have e2 := (hb01.cell (p := ⟨w.heap.size, 2, none⟩) hl0).trans d2
            have e3 := (hb01.cell (p := ⟨w.heap.size, 3, none⟩) hl0).trans d3
            have hl1 : w.heap.size < w1.heap.size := World.block_lt_of_cell? w1 ⟨_, _, none⟩ e1
            have HX := hide (unhide HB w1 hb1)
            go_wp2_with fail
            refine (unhide HX).mono ?_
            cases eb : l3T b with
            | false =>
              rintro e w2 ⟨rfl, hb2⟩
              have f1 := (hb2.cell (p := ⟨w.heap.size, 1, none⟩) hl1).trans e1
              have f2 := (hb2.cell (p := ⟨w.heap.size, 2, none⟩) hl1).trans e2
              have f3 := (hb2.cell (p := ⟨w.heap.size, 3, none⟩) hl1).trans e3
              have HF : Hid (goalB 4 a b c = false) := by show goalB 4 a b c = false; rw [unhide HE, ea, eb]; rfl
              clear ea eb
              go_wp2
              go_ret
              exact ⟨ret_bool (unhide HF).symm, bstep hb1 hb2⟩
            | true =>
              rintro e w2 ⟨rfl, hb2⟩
              have f1 := (hb2.cell (p := ⟨w.heap.size, 1, none⟩) hl1).trans e1
              have f2 := (hb2.cell (p := ⟨w.heap.size, 2, none⟩) hl1).trans e2
              have f3 := (hb2.cell (p := ⟨w.heap.size, 3, none⟩) hl1).trans e3
              have HF : Hid (goalB 4 a b c = ((c.length : Int) == 0)) := by
                show goalB 4 a b c = _
                rw [unhide HE, ea, eb]
                by_cases h0 : c.length = 0
                · rw [decide_eq_true h0, h0]; rfl
                · rw [decide_eq_false h0, beq_eq_false_iff_ne.2 (by omega)]; rfl
              clear ea eb
              go_wp2
              go_ret
              exact ⟨ret_bool (unhide HF).symm, bstep hb1 hb2⟩
        · by_cases k5 : k = 5
          · subst k5
            have HE : Hid (goalB 5 a b c = (l3T a && l3T b && l3T c)) := by simp [Hid, goalB]
            clear HG
            go_enter Try.func141, Try.ntmps141
            go_wp2_with fail
            obtain ⟨hb0, d1, d2, d3⟩ := four_new w (.int .i64 5) (.slice xa a.length xc) (.slice ya b.length yc) (.slice za c.length zc) 93
            generalize w.alloc (.cells #[.int .i64 5, .slice xa a.length xc, .slice ya b.length yc, .slice za c.length zc] 93) = w0 at hb0 d1 d2 d3 ⊢
            have hl0 : w.heap.size < w0.heap.size := World.block_lt_of_cell? w0 ⟨_, _, none⟩ d1
            refine (unhide HA w0 hb0).mono ?_
            cases ea : l3T a with
            | false =>
              rintro e w1 ⟨rfl, hb01⟩
              have hb1 := bstep hb0 hb01
              have e1 := (hb01.cell (p := ⟨w.heap.size, 1, none⟩) hl0).trans d1
              have e2 := (hb01.cell (p := ⟨w.heap.size, 2, none⟩) hl0).trans d2
              have e3 := (hb01.cell (p := ⟨w.heap.size, 3, none⟩) hl0).trans d3
              have hl1 : w.heap.size < w1.heap.size := World.block_lt_of_cell? w1 ⟨_, _, none⟩ e1
              have HF : Hid (goalB 5 a b c = false) := by show goalB 5 a b c = false; rw [unhide HE, ea]; rfl
              clear ea
              go_wp2
              go_ret
              exact ⟨ret_bool (unhide HF).symm, hb1⟩
            | true =>
              rintro e w1 ⟨rfl, hb01⟩
              have hb1 := bstep hb0 hb01
              have e1 := (hb01.cell (p := ⟨w.heap.size, 1, none⟩) hl0).trans d1
              have e2 := (hb01.cell (p := ⟨w.heap.size, 2, none⟩) hl0).trans d2
              have e3 := (hb01.cell (p := ⟨w.heap.size, 3, none⟩) hl0).trans d3
              have hl1 : w.heap.size < w1.heap.size := World.block_lt_of_cell? w1 ⟨_, _, none⟩ e1
              have HX := hide (unhide HB w1 hb1)
              go_wp2_with fail
              refine (unhide HX).mono ?_
              cases eb : l3T b with
              | false =>
                rintro e w2 ⟨rfl, hb2⟩
                have f1 := (hb2.cell (p := ⟨w.heap.size, 1, none⟩) hl1).trans e1
                have f2 := (hb2.cell (p := ⟨w.heap.size, 2, none⟩) hl1).trans e2
                have f3 := (hb2.cell (p := ⟨w.heap.size, 3, none⟩) hl1).trans e3
                have HF : Hid (goalB 5 a b c = false) := by show goalB 5 a b c = false; rw [unhide HE, ea, eb]; rfl
                clear ea eb
                go_wp2
                go_ret
                exact ⟨ret_bool (unhide HF).symm, bstep hb1 hb2⟩
              | true =>
                rintro e w2 ⟨rfl, hb2⟩
                have f1 := (hb2.cell (p := ⟨w.heap.size, 1, none⟩) hl1).trans e1
                have f2 := (hb2.cell (p := ⟨w.heap.size, 2, none⟩) hl1).trans e2
                have f3 := (hb2.cell (p := ⟨w.heap.size, 3, none⟩) hl1).trans e3
                have hB2 := bstep hb1 hb2
                have HY := hide (unhide HC w2 hB2)
                go_wp2_with fail
                refine (unhide HY).mono ?_
                rintro e w3 ⟨rfl, hb3⟩
                have HF : Hid (goalB 5 a b c = l3T c) := by show goalB 5 a b c = _; rw [unhide HE, ea, eb]; rfl
                clear ea eb
                go_wp2
                go_ret
                exact ⟨ret_bool (unhide HF).symm, bstep hB2 hb3⟩
          · have HF : Hid (goalB k a b c = false) := by simp [Hid, goalB, k1, k2, k3, k4, k5]
            have q1 : (k == 1) = false := by simpa using k1
            have q2 : (k == 2) = false := by simpa using k2
            have q3 : (k == 3) = false := by simpa using k3
            have q4 : (k == 4) = false := by simpa using k4
            have q5 : (k == 5) = false := by simpa using k5
            clear k1 k2 k3 k4 k5 HG
            go_enter Try.func141, Try.ntmps141
            go_wp2
            go_ret
            exact ⟨ret_bool (unhide HF).symm, cell_below _ _⟩
end Go.Proofs.Ytkedckmpjedjoaa

/- Pointers to trees, some of them nil: the walks of slices.Index and slices.Contains, of nil. -/
namespace Go.Proofs.Ytkedckmpjedjoaa
open Go.RowKit Go.Shelf
set_option linter.unusedVariables false
set_option linter.unusedSimpArgs false

set_option maxRecDepth 100000 in
theorem eql_nilL (q : Addr) (w : World) : (binOp .eql 100 (.pointer none) (.pointer (some q))).run Try.prog w = .ok (.bool false) w := by first | (simp [go_sem, binOp]; done) | kernel_rfl
set_option maxRecDepth 100000 in
theorem eql_nilN (w : World) : (binOp .eql 100 (.pointer none) (.pointer none)).run Try.prog w = .ok (.bool true) w := by first | (simp [go_sem, binOp]; done) | kernel_rfl
/-- A pointer to a tree, or nil. -/
def ptrV (o : Option Nat) : Value := .pointer (o.map fun b => ⟨b, 0, none⟩)
def PtrAt (w : World) (b : Nat) (vs : List (Option Nat)) : Prop := ∀ i, (h : i < vs.length) → w.cell? ⟨b, i, none⟩ = some (ptrV vs[i])
theorem PtrAt.below {w w' : World} {b : Nat} {vs : List (Option Nat)} (h : PtrAt w b vs) (hb : Below w.heap.size w w') : PtrAt w' b vs := fun i hi =>
  (hb.cell (p := ⟨b, i, none⟩) (World.block_lt_of_cell? w _ (h i hi))).trans (h i hi)

set_option maxRecDepth 100000 in
set_option maxHeartbeats 1000000 in
theorem index_nil (ao : Option Addr) (cap : Nat) (vs : List (Option Nat)) (w : World) (hl : vs.length ≤ 3) (hA : vs = [] ∨ ∃ b, ao = some ⟨b, 0, none⟩ ∧ PtrAt w b vs) :
    Calls Try.prog 190 #[.slice ao vs.length cap, .pointer none] w fun e w' => (∃ r : Int, e = .returned (.int .i64 r) ∧ (0 ≤ r ↔ none ∈ vs)) ∧ w' = w := by
  go_enter Try.func190, Try.ntmps190
  go_wp2
  go_loop [8] (fun i => ∃ (k : Nat), k ≤ vs.length ∧ i = .int .i64 k ∧ ∀ j, (h : j < vs.length) → j < k → vs[j] ≠ none) (fun i => vs.length - (intOf i).toNat)
  case atStart => exact ⟨0, Nat.zero_le _, rfl, fun j _ h => absurd h (Nat.not_lt_zero _)⟩
  case round =>
    obtain ⟨k, hk, rfl, hg⟩ := hrel
    have HG := hide hg
    clear hg
    by_cases hlt : k < vs.length
    · obtain ⟨b, rfl, hA2⟩ := hA.resolve_left (fun e => by rw [e] at hlt; simp at hlt)
      have c0 := hA2 k hlt
      have HN : Hid (vs[k] = none → none ∈ vs) := fun e => by rw [← e]; exact List.getElem_mem hlt
      have HST : Hid (vs[k] ≠ none → ∀ j, (h : j < vs.length) → j < k + 1 → vs[j] ≠ none) := fun hf j hj hjk => by
        by_cases e : j = k
        · subst e; exact hf
        · exact unhide HG j hj (by omega)
      clear hA hA2
      generalize vs[k] = o at c0 HN HST
      cases o with
      | none =>
        have HM := hide (unhide HN rfl)
        simp only [ptrV, Option.map_none] at c0
        go_wp2
        go_ret
        exact ⟨⟨k, rfl, fun _ => unhide HM, fun _ => by omega⟩, rfl⟩
      | some q =>
        have HS := hide (unhide HST (by simp))
        simp only [ptrV, Option.map_some] at c0
        have heq := eql_nilL ⟨q, 0, none⟩
        go_wp2
        go_round
        case rel => exact ⟨k + 1, by omega, by go_num, unhide HS⟩
        case measure => simp [intOf]; omega
    · go_wp2
      go_ret
      refine ⟨⟨-1, rfl, fun h => by omega, fun h => ?_⟩, rfl⟩
      obtain ⟨j, hj, e⟩ := List.getElem_of_mem h
      exact absurd e (unhide HG j hj (by omega))

set_option maxRecDepth 100000 in
set_option maxHeartbeats 400000 in
theorem contains_nil (ao : Option Addr) (cap : Nat) (vs : List (Option Nat)) (w : World) (hl : vs.length ≤ 3) (hA : vs = [] ∨ ∃ b, ao = some ⟨b, 0, none⟩ ∧ PtrAt w b vs) :
    Calls Try.prog 181 #[.slice ao vs.length cap, .pointer none] w fun e w' => e = .returned (.bool (decide (none ∈ vs))) ∧ w' = w := by
  have H := hide (index_nil ao cap vs w hl hA)
  go_enter Try.func181, Try.ntmps181
  go_wp2_with fail
  refine (unhide H).mono ?_
  rintro e w1 ⟨⟨r, rfl, hr⟩, hw⟩
  subst hw
  by_cases h0 : 0 ≤ r
  · have HE : Hid (decide (none ∈ vs) = true) := by simpa [Hid] using hr.1 h0
    clear hr
    go_wp2
    go_ret
    exact ⟨ret_bool (by first | (rw [unhide HE]; done) | (rw [unhide HE]; simp [h0])), rfl⟩
  · have HE : Hid (decide (none ∈ vs) = false) := by simpa [Hid] using (fun h => h0 (hr.2 h))
    clear hr
    go_wp2
    go_ret
    exact ⟨ret_bool (by first | (rw [unhide HE]; done) | (rw [unhide HE]; simp [h0])), rfl⟩
end Go.Proofs.Ytkedckmpjedjoaa

/- A region that draws, inside a round of a range over a function: walked as outside of one, if nothing in it is deferred. -/
namespace Go.Proofs.Ytkedckmpjedjoaa
open Go.RowKit
set_option linter.unusedVariables false
set_option linter.unusedSimpArgs false

/-- What is asked behind a region that neither panics nor outgrows. -/
def Quiet (Q : Exit → Act → World → Prop) : Exit → Act → World → Prop := fun e a w => e = .normal ∧ Q .normal a w
theorem quiet_out {Q : Exit → Act → World → Prop} (h : LetsOut (Quiet Q)) : False := by
  obtain ⟨a, w, h, _⟩ := h
  cases h

theorem quiet_panic {Q : Exit → Act → World → Prop} {c : List PanicEntry} {a a' : Act} {w w' : World} (h : Quiet Q (.panic c) a w) : Quiet Q (.panic c) a' w' := by cases h.1

theorem upon_in {l n : Nat} {P : Program} {o : Oper} {a : Act} {K K' : Act → World → Prop} {Q : Exit → Act → World → Prop} (hK : ∀ a w, K a w → K' a w) (r : Result Next) (h : o.upon P a K (Quiet Q) r) : o.uponIn (Fence.wide.inRound l) n P a K' Q r := by
  cases r with
  | ok nx w' =>
    cases nx with
    | value v => exact hK _ _ h
    | skip => exact hK _ _ h
    | defer d => exact hK _ _ h
    | enter f args =>
      refine And.intro (fun hd => absurd hd (by simp [Fence.wide])) ?_
      refine CallsIn.inRound l ?_
      refine callsIn_wide.2 ?_
      refine Calls.mono h ?_
      intro e w'' he
      cases e with
      | returned v => exact hK _ _ he
      | panicked c => cases he.1
      | outgrown => exact (quiet_out he).elim
    | row row args =>
      refine And.intro (fun hd => absurd hd (by simp [Fence.wide])) ?_
      intro c cs _
      have hr : Rows P row args w' (fun v w'' => K (a.put o.dst v) w'') := h
      have hx := hr c cs
      rcases hx with ⟨v, w'', r, s⟩
      exact ⟨v, w'', hK _ _ r, stepsIn_wide.2 s⟩
    | _ => exact h.elim
  | halt x w' =>
    cases x with
    | panic v => cases h.1
    | _ => exact h.elim

theorem any_in {l n : Nat} {P : Program} {md : Region.Mode} {ops : Array Oper} {Q : Exit → Act → World → Prop} (hd : ∀ o ∈ ops, ∀ c, o.op ≠ .defer c) : ∀ (fuel : Nat) (listed : Array Bool) (a : Act) (w : World), wpAny P md ops (Quiet Q) fuel listed a w → wpAnyIn (Fence.wide.inRound l) n P md ops Q fuel listed a w
  | 0, listed, a, w, h => ⟨h.1, h.2.2⟩
  | fuel + 1, listed, a, w, h => ⟨fun h0 => (h.1 h0).2, fun i hi => by
      have h2 := h.2 i hi
      unfold wpOp at h2
      unfold wpOpIn
      cases ho : ops[i]? with
      | none => rw [ho] at h2; exact any_in hd fuel _ _ _ h2
      | some o =>
        rw [ho] at h2
        have hnd := hd o (Array.mem_of_getElem? ho)
        simp only at h2 ⊢
        split
        · rename_i hw
          rw [if_pos hw] at h2
          refine ⟨fun _ _ => trivial, ?_⟩
          rw [show (Fence.wide.inRound l).round = some l from rfl, Oper.semAt_some l _ _ hnd]
          rcases h2 with h2 | ⟨_, h2⟩
          · exact upon_in (fun a w h => any_in hd fuel _ a w h) _ h2
          · exact (quiet_out h2).elim
        · rename_i hw
          rw [if_neg hw] at h2
          exact ⟨fun _ _ => trivial, any_in hd fuel _ _ _ h2⟩⟩

/-- The beginning: a region in a round, under a condition on the world that the prover names. -/
theorem region_in {l n id : Nat} {P : Program} {ops : Array Oper} {Q : Exit → Act → World → Prop} {a : Act} {w : World} (S : World → Prop) (hm : P.follows .mixedOrders = true) (hd : ∀ o ∈ ops, ∀ c, o.op ≠ .defer c)
    (h : wpAnyH P .any ops (Quiet Q) S ops.size (Array.replicate ops.size false) a w.drew) : (Code.region id ops true).wpIn (Fence.wide.inRound l) n P Q a w :=
  wpIn_region_any hm (any_in hd _ _ _ _ (wpAny_of_held _ _ _ _ h))
end Go.Proofs.Ytkedckmpjedjoaa

/- Marks that loops over iterators leave behind, any number of them: what keeps them, and how a function leaves past them. -/
namespace Go.Proofs.Ytkedckmpjedjoaa
open Go.RowKit
set_option linter.unusedVariables false

/-- A loop's mark. -/
def markD (D : Nat) : Deferred := { target := .collected D, args := #[] }

/-- Deferred calls that are marks alone: each one's block is open, they part, and all of them lie from base on, below hi. -/
def Marked (base hi : Nat) (W : World) (ds : List Deferred) : Prop := ∃ Ds : List Nat, ds = Ds.map markD ∧ Ds.Nodup ∧ ∀ D ∈ Ds, base ≤ D ∧ D < hi ∧ W.heap[D]? = some (.deferred (some []))

theorem Marked.nil (base hi : Nat) (W : World) : Marked base hi W [] := ⟨[], rfl, .nil, fun _ h => by cases h⟩
theorem Marked.push {base hi hi' : Nat} {W : World} {ds : List Deferred} (h : Marked base hi W ds) {D : Nat} (hb : base ≤ D) (h1 : hi ≤ D) (h2 : D < hi') (hD : W.heap[D]? = some (.deferred (some []))) : Marked base hi' W ({ target := .collected D, args := #[] } :: ds) := by
  obtain ⟨Ds, rfl, hn, ha⟩ := h
  refine ⟨D :: Ds, rfl, List.nodup_cons.2 ⟨fun hm => ?_, hn⟩, fun D' hm => ?_⟩
  · have := (ha D hm).2.1
    omega
  · rcases List.mem_cons.1 hm with rfl | hm
    · exact ⟨hb, h2, hD⟩
    · obtain ⟨a, b, c⟩ := ha D' hm
      exact ⟨a, by omega, c⟩
theorem Marked.mono {base hi hi' : Nat} {W : World} {ds : List Deferred} (h : Marked base hi W ds) (hh : hi ≤ hi') : Marked base hi' W ds := by
  obtain ⟨Ds, e, hn, ha⟩ := h
  exact ⟨Ds, e, hn, fun D hm => ⟨(ha D hm).1, Nat.lt_of_lt_of_le (ha D hm).2.1 hh, (ha D hm).2.2⟩⟩
theorem Marked.keeps {base hi : Nat} {W W' : World} {ds : List Deferred} (h : Marked base hi W ds) (hk : KeepsOthers W W') : Marked base hi W' ds := by
  obtain ⟨Ds, e, hn, ha⟩ := h
  exact ⟨Ds, e, hn, fun D hm => ⟨(ha D hm).1, (ha D hm).2.1, hk.same _ _ (ha D hm).2.2 rfl⟩⟩
theorem Marked.below {base hi : Nat} {W W' : World} {ds : List Deferred} (h : Marked base hi W ds) (hk : ∀ k, k < hi → W'.heap[k]? = W.heap[k]?) : Marked base hi W' ds := by
  obtain ⟨Ds, e, hn, ha⟩ := h
  exact ⟨Ds, e, hn, fun D hm => ⟨(ha D hm).1, (ha D hm).2.1, (hk _ (ha D hm).2.1).trans (ha D hm).2.2⟩⟩
theorem Marked.ownFrom {β : Type} {base hi B : Nat} (hB : hi ≤ B) (ds : List Deferred) : OwnFrom B (fun (_ : β) W => Marked base hi W ds) := by
  intro s W W' row h hg hr
  obtain ⟨Ds, e, hn, ha⟩ := h
  refine ⟨Ds, e, hn, fun D hm => ?_⟩
  obtain ⟨a, b, c⟩ := ha D hm
  refine ⟨a, b, (hg.block D (Array.getElem?_eq_some_iff.1 c).1 (fun er => ?_)).trans c⟩
  have := (hr D er.symm).1
  omega

/-- A function leaves past its marks: what abides that open blocks from base on are shut holds behind. -/
theorem leaves_marks {F : Fence} {n : Nat} {P : Program} {fn : Func} {tmps : Array Value} {R : Ending → World → Prop} {base hi : Nat} (G : World → Prop)
    (hG : ∀ W D, G W → base ≤ D → W.heap[D]? = some (.deferred (some [])) → G (W.putObj D (.deferred none)))
    (hR : ∀ W, G W → ∃ v, (results fn tmps).run P W = .ok v W ∧ R (.returned v) W) : ∀ (Ds : List Nat) (W : World), Ds.Nodup → (∀ D ∈ Ds, base ≤ D ∧ D < hi ∧ W.heap[D]? = some (.deferred (some []))) → G W →
    LeavesInM F n P fn tmps R (Ds.map markD) .returning W
  | [], W, _, _, hg => hR W hg
  | D :: Ds, W, hn, ha, hg => by
    obtain ⟨h1, h2⟩ := List.nodup_cons.1 hn
    obtain ⟨a, b, c⟩ := ha D (by simp)
    refine ⟨by simp, .inl ⟨D, _, rfl, run_takeDeferred c, leaves_marks (hi := hi) G hG hR Ds _ h2 (fun D' hm => ?_) (hG W D hg a c)⟩⟩
    obtain ⟨a', b', c'⟩ := ha D' (by simp [hm])
    exact ⟨a', b', (World.putObj_heap_other (fun e => h1 (by subst e; exact hm))).trans c'⟩

theorem Marked.leaves {F : Fence} {n : Nat} {P : Program} {fn : Func} {tmps : Array Value} {R : Ending → World → Prop} {base hi : Nat} {W : World} {ds : List Deferred} (h : Marked base hi W ds) (G : World → Prop)
    (hG : ∀ W D, G W → base ≤ D → W.heap[D]? = some (.deferred (some [])) → G (W.putObj D (.deferred none)))
    (hR : ∀ W, G W → ∃ v, (results fn tmps).run P W = .ok v W ∧ R (.returned v) W) (hg : G W) : LeavesInM F n P fn tmps R ds .returning W := by
  obtain ⟨Ds, rfl, hn, ha⟩ := h
  exact leaves_marks G hG hR Ds W hn ha hg
end Go.Proofs.Ytkedckmpjedjoaa
