/- The walk of FnExactDskEvent. -/
import Derived.Test.YthelpghiafbejaaDoorQEV7
import Derived.Test.YthelpghiafbejaaDoorQD6L1
namespace Go.Proofs.YthelpghiafbejaaDoor
open Go.RowKit
set_option linter.unusedVariables false
set_option linter.unusedSimpArgs false

set_option maxRecDepth 100000 in
set_option maxHeartbeats 1000000 in
theorem eqEvEvent_same (k a p v : Int) (w : World) :
    Calls Tryd.prog 7 #[.agg #[.int .i64 k, .int .i64 a, .int .i64 p, .int .i64 v], .agg #[.int .i64 k, .int .i64 a, .int .i64 p, .int .i64 v]] w fun e w' => e = .returned (.bool true) ∧ Below w.heap.size w w' := by
  have hb0 := cell_below w (.cells #[.int .i64 k, .int .i64 a, .int .i64 p, .int .i64 v] 23)
  have h0 := World.alloc_heap_new w (.cells #[.int .i64 k, .int .i64 a, .int .i64 p, .int .i64 v] 23)
  have hlt : w.heap.size < (w.alloc (.cells #[.int .i64 k, .int .i64 a, .int .i64 p, .int .i64 v] 23)).heap.size := by simp
  have hsz : (w.alloc (.cells #[.int .i64 k, .int .i64 a, .int .i64 p, .int .i64 v] 23)).heap.size = w.heap.size + 1 := by simp
  have h1 := (cell_below (w.alloc (.cells #[.int .i64 k, .int .i64 a, .int .i64 p, .int .i64 v] 23)) (.cells #[.int .i64 k, .int .i64 a, .int .i64 p, .int .i64 v] 23)).block w.heap.size hlt
  have h2 := World.alloc_heap_new (w.alloc (.cells #[.int .i64 k, .int .i64 a, .int .i64 p, .int .i64 v] 23)) (.cells #[.int .i64 k, .int .i64 a, .int .i64 p, .int .i64 v] 23)
  have hB := hide (bstep hb0 (cell_below (w.alloc (.cells #[.int .i64 k, .int .i64 a, .int .i64 p, .int .i64 v] 23)) (.cells #[.int .i64 k, .int .i64 a, .int .i64 p, .int .i64 v] 23)))
  have h1' := h1.trans h0
  rw [hsz] at h2
  clear h0 h1 hb0 hlt
  go_enter Tryd.func7, Tryd.ntmps7
  go_upto_region 1 with fail
  generalize (w.alloc (.cells #[.int .i64 k, .int .i64 a, .int .i64 p, .int .i64 v] 23)).alloc (.cells #[.int .i64 k, .int .i64 a, .int .i64 p, .int .i64 v] 23) = W at *
  obtain ⟨a0, a1, a2, a3, _, _, _, _⟩ := res4 h1'
  obtain ⟨b0, b1, b2, b3, _, _, _, _⟩ := res4 h2
  have e0 : (k != k) = false := by simp
  have e1 : (a != a) = false := by simp
  have e2 : (p != p) = false := by simp
  have e3 : (v != v) = false := by simp
  clear h1' h2
  go_wp2
  go_ret
  exact ⟨rfl, unhide hB⟩

set_option maxRecDepth 100000 in
set_option maxHeartbeats 4000000 in
theorem FnExactDskEvent_walk (s : ByteArray) (w : World) (hsz : s.size ≤ maxLen) (hT : TenT w) (hE : ErrG w) :
    Calls Tryd.prog 3 #[.string s] w fun e w' => e = .returned (.bool true) ∧ Below w.heap.size w w' := by
  obtain ⟨l, rfl⟩ : ∃ l, s = mkS l := ⟨bl s, (mkS_bl s).symm⟩
  have hs := mkS_size l
  rw [hs] at hsz
  by_cases hbig : l.length ≤ 1048576
  · have HS := hide (fun (W : World) => specDskEvent_any l hbig W)
    have HI := hide (fun (W : World) (hB : Below w.heap.size w W) => implDskEvent_any l (by omega) W (hT.below hB) (hE.below hB))
    obtain ⟨k, a, p, v, b, hv⟩ : ∃ (k a p v : Int) (b : Bool), evV (evL l) = .tuple #[.agg #[.int .i64 k, .int .i64 a, .int .i64 p, .int .i64 v], .bool b] := by
      cases evL l with
      | none => exact ⟨0, 0, 0, 0, false, rfl⟩
      | some q => exact ⟨q.1, q.2.1, q.2.2.1, q.2.2.2, true, rfl⟩
    rw [hv] at HS HI
    have hbb : (b != b) = false := by simp
    clear hv hT hE
    go_enter Tryd.func3, Tryd.ntmps3
    go_wp2_with fail
    refine (unhide HS w).mono ?_
    rintro e w1 ⟨rfl, hb1⟩
    have hb2 := bstep hb1 (cell_below w1 (.cells #[.int .i64 k, .int .i64 a, .int .i64 p, .int .i64 v] 23))
    have hw0 := World.alloc_heap_new w1 (.cells #[.int .i64 k, .int .i64 a, .int .i64 p, .int .i64 v] 23)
    go_wp2_with fail
    generalize w1.alloc (.cells #[.int .i64 k, .int .i64 a, .int .i64 p, .int .i64 v] 23) = w2 at hb2 hw0 ⊢
    refine (unhide HI w2 hb2).mono ?_
    rintro e w3 ⟨rfl, hb3⟩
    have hlt2 := (Array.getElem?_eq_some_iff.1 hw0).1
    have hw1 := (hb3.block _ hlt2).trans hw0
    have hlt3 := (Array.getElem?_eq_some_iff.1 hw1).1
    have hb4 := cell_below w3 (.cells #[.int .i64 k, .int .i64 a, .int .i64 p, .int .i64 v] 23)
    have hw2 := (hb4.block _ hlt3).trans hw1
    have hw3 := World.alloc_heap_new w3 (.cells #[.int .i64 k, .int .i64 a, .int .i64 p, .int .i64 v] 23)
    have hB4 := bstep (bstep hb2 hb3) hb4
    go_upto_region 5 with fail
    generalize w3.alloc (.cells #[.int .i64 k, .int .i64 a, .int .i64 p, .int .i64 v] 23) = w4 at *
    obtain ⟨a0, a1, a2, a3, _, _, _, _⟩ := res4 hw2
    obtain ⟨b0, b1, b2, b3, _, _, _, _⟩ := res4 hw3
    have HEQ := hide (eqEvEvent_same k a p v w4)
    have HB := hide hB4
    clear hw0 hw1 hw2 hw3 hb1 hb2 hb3 hb4 hB4 HS HI
    go_wp2_with fail
    refine (unhide HEQ).mono ?_
    rintro e w5 ⟨rfl, hb5⟩
    go_wp2
    go_ret
    exact ⟨rfl, bstep (unhide HB) hb5⟩
  · go_enter Tryd.func3, Tryd.ntmps3
    go_wp2
    go_ret
    exact ⟨rfl, Below.refl _ _⟩
end Go.Proofs.YthelpghiafbejaaDoor
