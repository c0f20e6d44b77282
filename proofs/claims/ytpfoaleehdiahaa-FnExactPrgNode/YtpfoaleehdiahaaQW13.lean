/- numberVars and TrmFree of whatever places; heldTrmCellS of whatever row; small laws on what is owned. -/
import Derived.Test.YtpfoaleehdiahaaQW12
import Derived.Test.YtpfoaleehdiahaaQW10
namespace Go.Proofs.Ytpfoaleehdiahaa
open Go.RowKit Go.Maps
set_option linter.unusedVariables false
set_option linter.unusedSimpArgs false

theorem OwnI.row {w : World} {base n cap : Nat} {ao : Option Addr} {z : List Int} (h : OwnI w base (.slice ao n cap) z) : RowI w ao z := by
  obtain ⟨ao', cap', e, hR⟩ := h.shape
  simp only [Value.slice.injEq] at e
  obtain ⟨rfl, _, _⟩ := e
  exact hR
theorem OwnC.row {w : World} {base n cap : Nat} {ao : Option Addr} {t : List C} (h : OwnC w base (.slice ao n cap) t) : Row w ao t := by
  obtain ⟨ao', cap', e, hR⟩ := h.shape
  simp only [Value.slice.injEq] at e
  obtain ⟨rfl, _, _⟩ := e
  exact hR

set_option maxHeartbeats 1000000 in
theorem numberVars_none (ao : Option Addr) (cap : Nat) (w : World) :
    Calls Try.prog 131 #[.slice ao 0 cap] w fun e w' => ∃ v, e = .returned (.tuple #[v, .map (some w.heap.size)]) ∧ OwnI w' (w.heap.size + 1) v (freeOf []) ∧
      (∃ D n, n ≤ 0 ∧ w'.ownsMap Try.prog 3 (plainElem Try.prog 3) w.heap.size n D ∧ Tab (freeOf []) D) ∧ Below w.heap.size w w' := by
  have hmm := @run_makeMap Try.prog
  go_enter Try.func131, Try.ntmps131
  go_wp2
  refine wp_loop_rounds 1 ?_
  rw [rounds_succ]
  go_wp2
  go_ret2
  exact ⟨_, rfl, World.ownsRow_nil _ _ _ _, ⟨_, 0, Nat.le_refl _, World.ownsMap_made _ _ _ _, tab_nil⟩, cell_below _ _⟩

theorem numberVars_any (ao : Option Addr) (cap : Nat) (t : List C) (w : World) (hm : t.length ≤ 1048576) (hA : Row w ao t) (hw : WfC t) :
    Calls Try.prog 131 #[.slice ao t.length cap] w fun e w' => ∃ v, e = .returned (.tuple #[v, .map (some w.heap.size)]) ∧ OwnI w' (w.heap.size + 1) v (freeOf t) ∧
      (∃ D n, n ≤ t.length ∧ w'.ownsMap Try.prog 3 (plainElem Try.prog 3) w.heap.size n D ∧ Tab (freeOf t) D) ∧ Below w.heap.size w w' := by
  rcases hA with rfl | ⟨b, off, rfl, hA⟩
  · exact numberVars_none ao cap w
  · exact numberVars_some b off cap t w hm hA hw

theorem OwnI.base {w : World} {base base' : Nat} {v : Value} {z : List Int} (h : OwnI w base v z) (hb : base' ≤ base) : OwnI w base' v z := by
  refine ⟨h.1, ?_⟩
  rcases h.2 with h2 | ⟨g, cap, cur, e, hg, r⟩
  · exact .inl h2
  · exact .inr ⟨g, cap, cur, e, Nat.le_trans hb hg, r⟩

/-- The program's TrmFree, of whatever places. -/
theorem TrmFree_any (ao : Option Addr) (cap : Nat) (t : List C) (w : World) (hm : t.length ≤ 1048576) (hA : Row w ao t) (hw : WfC t) :
    Calls Try.prog 146 #[.slice ao t.length cap] w fun e w' => ∃ v, e = .returned v ∧ OwnI w' w.heap.size v (freeOf t) ∧ Below w.heap.size w w' := by
  go_enter Try.func146, Try.ntmps146
  go_wp2_with fail
  refine (numberVars_any ao cap t _ hm hA hw).mono ?_
  rintro e w1 ⟨v, rfl, hO, _, hb1⟩
  have hO' := hO.base (Nat.le_succ _)
  go_wp2
  go_ret
  exact ⟨_, rfl, hO', hb1⟩

theorem heldTrmCellS_none (ao : Option Addr) (cap : Nat) (k : Int) (w : World) :
    Calls Try.prog 38 #[.slice ao 0 cap, .int .i64 k] w fun e w' => e = .returned (.int .i64 k) ∧ w' = w := by
  go_enter Try.func38, Try.ntmps38
  go_wp2
  refine wp_loop_rounds 1 ?_
  rw [rounds_succ]
  go_wp2
  go_ret
  exact ⟨rfl, rfl⟩

theorem heldTrmCellS_any (ao : Option Addr) (cap n k : Nat) (w : World) (hm : n ≤ 1048576) (hk1 : 1 ≤ k) (hk : k ≤ 4194304) (hA : Row w ao (marksC n k)) :
    Calls Try.prog 38 #[.slice ao n cap, .int .i64 k] w fun e w' => e = .returned (.int .i64 ((k + 3 * n : Nat) : Int)) ∧ Below w.heap.size w w' := by
  rcases hA with h | ⟨b, off, rfl, hA⟩
  · have hn : n = 0 := by have := congrArg List.length h; simpa [marksC_length] using this
    subst hn
    refine (heldTrmCellS_none ao cap k w).mono ?_
    rintro e w' ⟨rfl, rfl⟩
    exact ⟨ret_int (by simp), Below.refl _ _⟩
  · exact heldTrmCellS_some b off cap n k w hm hk1 hk hA

/-- A write into a row that was made since: what lay ahead is as it was. -/
theorem below_row {a w w' : World} {base e size n : Nat} {v : Value} {xs : List Value} (h : Below a.heap.size a w) (hg : w.grownBy w' v.ownBlock) (ho : w.ownsRow base e size v n xs) (hb : a.heap.size ≤ base) : Below a.heap.size a w' :=
  h.grown hg h.size (fun k e => Nat.le_trans hb (ho.lt k e).1)

/-! Marks from 1 on, as the laws set them. -/

theorem markTrmCellS_one (ao : Option Addr) (cap : Nat) (t : List C) (base : Nat) (w : World) (hm : t.length ≤ 1048576) (hA : OwnC w base (.slice ao t.length cap) t) :
    Calls Try.prog 24 #[.slice ao t.length cap, .int .i64 1] w fun e w' => e = .returned (.int .i64 (1 + 3 * (t.length : Int))) ∧
      OwnC w' base (.slice ao t.length cap) (marksC t.length 1) ∧ w.grownBy w' (Value.slice ao t.length cap).ownBlock := by
  have h := markTrmCellS_any ao cap t 1 base w hm (by omega) (by omega) hA
  rw [show (((1 + 3 * t.length : Nat) : Int)) = 1 + 3 * (t.length : Int) by omega] at h
  exact h
theorem heldTrmCellS_one (ao : Option Addr) (cap n : Nat) (w : World) (hm : n ≤ 1048576) (hA : Row w ao (marksC n 1)) :
    Calls Try.prog 38 #[.slice ao n cap, .int .i64 1] w fun e w' => e = .returned (.int .i64 (1 + 3 * (n : Int))) ∧ Below w.heap.size w w' := by
  have h := heldTrmCellS_any ao cap n 1 w hm (by omega) (by omega) hA
  rw [show (((1 + 3 * n : Nat) : Int)) = 1 + 3 * (n : Int) by omega] at h
  exact h
end Go.Proofs.Ytpfoaleehdiahaa
