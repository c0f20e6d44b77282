/- The walk of goalWhole, kind by kind. -/
import Derived.Test.YtpfoaleehdiahaaQGF2GI2
namespace Go.Proofs.Ytpfoaleehdiahaa
open Go.RowKit Go.Shelf
set_option linter.unusedVariables false
set_option linter.unusedSimpArgs false

set_option maxRecDepth 100000 in
theorem ta_call_call (v : Value) (w : World) : (Instr.typeAssert (.iface 212 v) 203 212 true).run Try.prog w = .ok (.tuple #[v, .bool true]) w := by first | kernel_rfl | (simp [Instr.typeAssert, go_sem]; done)
set_option maxRecDepth 100000 in
theorem ta_call_exit (v : Value) (w : World) : (Instr.typeAssert (.iface 212 v) 203 234 true).run Try.prog w = .ok (.tuple #[(.agg #[.pointer none]), .bool false]) w := by first | kernel_rfl | (simp [Instr.typeAssert, go_sem]; done)
set_option maxRecDepth 100000 in
theorem ta_exit_call (v : Value) (w : World) : (Instr.typeAssert (.iface 234 v) 203 212 true).run Try.prog w = .ok (.tuple #[(.agg #[.pointer none]), .bool false]) w := by first | kernel_rfl | (simp [Instr.typeAssert, go_sem]; done)
set_option maxRecDepth 100000 in
theorem ta_exit_exit (v : Value) (w : World) : (Instr.typeAssert (.iface 234 v) 203 234 true).run Try.prog w = .ok (.tuple #[v, .bool true]) w := by first | kernel_rfl | (simp [Instr.typeAssert, go_sem]; done)
set_option maxRecDepth 100000 in
theorem ta_same_call (v : Value) (w : World) : (Instr.typeAssert (.iface 228 v) 203 212 true).run Try.prog w = .ok (.tuple #[(.agg #[.pointer none]), .bool false]) w := by first | kernel_rfl | (simp [Instr.typeAssert, go_sem]; done)
set_option maxRecDepth 100000 in
theorem ta_same_exit (v : Value) (w : World) : (Instr.typeAssert (.iface 228 v) 203 234 true).run Try.prog w = .ok (.tuple #[(.agg #[.pointer none]), .bool false]) w := by first | kernel_rfl | (simp [Instr.typeAssert, go_sem]; done)
set_option maxRecDepth 100000 in
theorem ta_less_call (v : Value) (w : World) : (Instr.typeAssert (.iface 231 v) 203 212 true).run Try.prog w = .ok (.tuple #[(.agg #[.pointer none]), .bool false]) w := by first | kernel_rfl | (simp [Instr.typeAssert, go_sem]; done)
set_option maxRecDepth 100000 in
theorem ta_less_exit (v : Value) (w : World) : (Instr.typeAssert (.iface 231 v) 203 234 true).run Try.prog w = .ok (.tuple #[(.agg #[.pointer none]), .bool false]) w := by first | kernel_rfl | (simp [Instr.typeAssert, go_sem]; done)
set_option maxRecDepth 100000 in
theorem ta_plus_call (v : Value) (w : World) : (Instr.typeAssert (.iface 233 v) 203 212 true).run Try.prog w = .ok (.tuple #[(.agg #[.pointer none]), .bool false]) w := by first | kernel_rfl | (simp [Instr.typeAssert, go_sem]; done)
set_option maxRecDepth 100000 in
theorem ta_plus_exit (v : Value) (w : World) : (Instr.typeAssert (.iface 233 v) 203 234 true).run Try.prog w = .ok (.tuple #[(.agg #[.pointer none]), .bool false]) w := by first | kernel_rfl | (simp [Instr.typeAssert, go_sem]; done)
set_option maxRecDepth 100000 in
theorem ta_cut_call (v : Value) (w : World) : (Instr.typeAssert (.iface 230 v) 203 212 true).run Try.prog w = .ok (.tuple #[(.agg #[.pointer none]), .bool false]) w := by first | kernel_rfl | (simp [Instr.typeAssert, go_sem]; done)
set_option maxRecDepth 100000 in
theorem ta_cut_exit (v : Value) (w : World) : (Instr.typeAssert (.iface 230 v) 203 234 true).run Try.prog w = .ok (.tuple #[(.agg #[.pointer none]), .bool false]) w := by first | kernel_rfl | (simp [Instr.typeAssert, go_sem]; done)
set_option maxRecDepth 100000 in
set_option maxHeartbeats 2000000 in
theorem goalWhole_call (a : Option Nat) (w : World) (kk : Int) (hk : ∀ p, a = some p → w.cell? ⟨p, 0, none⟩ = some (.int .i64 kk)) :
    Calls Try.prog 156 #[.iface 212 (.agg #[ptrV a])] w fun e w' => e = .returned (.bool (!decide (none ∈ ([a] : List (Option Nat))) && (kk == 3))) ∧ Below w.heap.size w w' := by
  have H := hide (terms_call a w)
  have tc := ta_call_call
  have te := ta_call_exit
  cases hd : decide (none ∈ ([a] : List (Option Nat))) with
  | true =>
    clear hk
    go_enter Try.func156, Try.ntmps156
    go_wp2_with (first | (go_at_call 193; refine (unhide H).mono ?_; rintro e w1 ⟨ao, cap, rfl, hP, hb1⟩; have HC := hide (contains_nil ao cap [a] w1 (by simp) hP); clear hP; rw [hd] at HC; simp only [List.length_cons, List.length_nil, Nat.zero_add, Nat.reduceAdd] at HC ⊢) | (go_at_call 165; refine (unhide HC).mono ?_; rintro e w2 ⟨rfl, hw2⟩; subst hw2))
    go_ret
    exact ⟨ret_bool (by simp), hb1⟩
  | false =>
    obtain ⟨p, rfl⟩ : ∃ p, a = some p := by
      cases a with
      | none => simp at hd
      | some p => exact ⟨p, rfl⟩
    have c0 := hk p rfl
    have hpl : p < w.heap.size := World.block_lt_of_cell? w ⟨p, 0, none⟩ c0
    clear hk
    simp only [ptrV, Option.map_some] at H ⊢
    by_cases h3 : kk = 3
    · have h3b : (kk == 3) = true := by simpa using h3
      clear h3
      go_enter Try.func156, Try.ntmps156
      go_wp2_with (first | (go_at_call 193; refine (unhide H).mono ?_; rintro e w1 ⟨ao, cap, rfl, hP, hb1⟩; have HC := hide (contains_nil ao cap [some p] w1 (by simp) hP); clear hP; rw [hd] at HC; simp only [List.length_cons, List.length_nil, Nat.zero_add, Nat.reduceAdd] at HC ⊢; have c1 := (hb1.cell (p := ⟨p, 0, none⟩) hpl).trans c0; have c2 := (((cell_below w1 (.cells #[.pointer (some ⟨p, 0, none⟩)] 212))).cell (p := ⟨p, 0, none⟩) (Nat.lt_of_lt_of_le hpl hb1.size)).trans c1) | (go_at_call 165; refine (unhide HC).mono ?_; rintro e w2 ⟨rfl, hw2⟩; subst hw2))
      go_ret
      exact ⟨ret_bool (by simp [h3b]), bstep hb1 (cell_below _ _)⟩
    · have h3b : (kk == 3) = false := by simpa using h3
      clear h3
      go_enter Try.func156, Try.ntmps156
      go_wp2_with (first | (go_at_call 193; refine (unhide H).mono ?_; rintro e w1 ⟨ao, cap, rfl, hP, hb1⟩; have HC := hide (contains_nil ao cap [some p] w1 (by simp) hP); clear hP; rw [hd] at HC; simp only [List.length_cons, List.length_nil, Nat.zero_add, Nat.reduceAdd] at HC ⊢; have c1 := (hb1.cell (p := ⟨p, 0, none⟩) hpl).trans c0; have c2 := (((cell_below w1 (.cells #[.pointer (some ⟨p, 0, none⟩)] 212))).cell (p := ⟨p, 0, none⟩) (Nat.lt_of_lt_of_le hpl hb1.size)).trans c1) | (go_at_call 165; refine (unhide HC).mono ?_; rintro e w2 ⟨rfl, hw2⟩; subst hw2))
      go_ret
      exact ⟨ret_bool (by simp [h3b]), bstep hb1 (cell_below _ _)⟩
set_option maxRecDepth 100000 in
set_option maxHeartbeats 2000000 in
theorem goalWhole_exit (a : Option Nat) (w : World) (kk : Int) (hk : ∀ p, a = some p → w.cell? ⟨p, 0, none⟩ = some (.int .i64 kk)) :
    Calls Try.prog 156 #[.iface 234 (.agg #[ptrV a])] w fun e w' => e = .returned (.bool (!decide (none ∈ ([a] : List (Option Nat))) && (kk == 3))) ∧ Below w.heap.size w w' := by
  have H := hide (terms_exit a w)
  have tc := ta_exit_call
  have te := ta_exit_exit
  cases hd : decide (none ∈ ([a] : List (Option Nat))) with
  | true =>
    clear hk
    go_enter Try.func156, Try.ntmps156
    go_wp2_with (first | (go_at_call 203; refine (unhide H).mono ?_; rintro e w1 ⟨ao, cap, rfl, hP, hb1⟩; have HC := hide (contains_nil ao cap [a] w1 (by simp) hP); clear hP; rw [hd] at HC; simp only [List.length_cons, List.length_nil, Nat.zero_add, Nat.reduceAdd] at HC ⊢) | (go_at_call 165; refine (unhide HC).mono ?_; rintro e w2 ⟨rfl, hw2⟩; subst hw2))
    go_ret
    exact ⟨ret_bool (by simp), hb1⟩
  | false =>
    obtain ⟨p, rfl⟩ : ∃ p, a = some p := by
      cases a with
      | none => simp at hd
      | some p => exact ⟨p, rfl⟩
    have c0 := hk p rfl
    have hpl : p < w.heap.size := World.block_lt_of_cell? w ⟨p, 0, none⟩ c0
    clear hk
    simp only [ptrV, Option.map_some] at H ⊢
    by_cases h3 : kk = 3
    · have h3b : (kk == 3) = true := by simpa using h3
      clear h3
      go_enter Try.func156, Try.ntmps156
      go_wp2_with (first | (go_at_call 203; refine (unhide H).mono ?_; rintro e w1 ⟨ao, cap, rfl, hP, hb1⟩; have HC := hide (contains_nil ao cap [some p] w1 (by simp) hP); clear hP; rw [hd] at HC; simp only [List.length_cons, List.length_nil, Nat.zero_add, Nat.reduceAdd] at HC ⊢; have c1 := (hb1.cell (p := ⟨p, 0, none⟩) hpl).trans c0; have c2 := (((cell_below w1 (.cells #[.pointer (some ⟨p, 0, none⟩)] 234))).cell (p := ⟨p, 0, none⟩) (Nat.lt_of_lt_of_le hpl hb1.size)).trans c1) | (go_at_call 165; refine (unhide HC).mono ?_; rintro e w2 ⟨rfl, hw2⟩; subst hw2))
      go_ret
      exact ⟨ret_bool (by simp [h3b]), bstep hb1 (cell_below _ _)⟩
    · have h3b : (kk == 3) = false := by simpa using h3
      clear h3
      go_enter Try.func156, Try.ntmps156
      go_wp2_with (first | (go_at_call 203; refine (unhide H).mono ?_; rintro e w1 ⟨ao, cap, rfl, hP, hb1⟩; have HC := hide (contains_nil ao cap [some p] w1 (by simp) hP); clear hP; rw [hd] at HC; simp only [List.length_cons, List.length_nil, Nat.zero_add, Nat.reduceAdd] at HC ⊢; have c1 := (hb1.cell (p := ⟨p, 0, none⟩) hpl).trans c0; have c2 := (((cell_below w1 (.cells #[.pointer (some ⟨p, 0, none⟩)] 234))).cell (p := ⟨p, 0, none⟩) (Nat.lt_of_lt_of_le hpl hb1.size)).trans c1) | (go_at_call 165; refine (unhide HC).mono ?_; rintro e w2 ⟨rfl, hw2⟩; subst hw2))
      go_ret
      exact ⟨ret_bool (by simp [h3b]), bstep hb1 (cell_below _ _)⟩
set_option maxRecDepth 100000 in
set_option maxHeartbeats 2000000 in
theorem goalWhole_same (a : Option Nat) (b : Option Nat) (w : World) :
    Calls Try.prog 156 #[.iface 228 (.agg #[ptrV a, ptrV b])] w fun e w' => e = .returned (.bool (!decide (none ∈ ([a, b] : List (Option Nat))))) ∧ Below w.heap.size w w' := by
  have H := hide (terms_same a b w)
  have tc := ta_same_call
  have te := ta_same_exit
  cases hd : decide (none ∈ ([a, b] : List (Option Nat))) with
  | true =>
    go_enter Try.func156, Try.ntmps156
    go_wp2_with (first | (go_at_call 195; refine (unhide H).mono ?_; rintro e w1 ⟨ao, cap, rfl, hP, hb1⟩; have HC := hide (contains_nil ao cap [a, b] w1 (by simp) hP); clear hP; rw [hd] at HC; simp only [List.length_cons, List.length_nil, Nat.zero_add, Nat.reduceAdd] at HC ⊢) | (go_at_call 165; refine (unhide HC).mono ?_; rintro e w2 ⟨rfl, hw2⟩; subst hw2))
    go_ret
    exact ⟨ret_bool (by simp), hb1⟩
  | false =>
    go_enter Try.func156, Try.ntmps156
    go_wp2_with (first | (go_at_call 195; refine (unhide H).mono ?_; rintro e w1 ⟨ao, cap, rfl, hP, hb1⟩; have HC := hide (contains_nil ao cap [a, b] w1 (by simp) hP); clear hP; rw [hd] at HC; simp only [List.length_cons, List.length_nil, Nat.zero_add, Nat.reduceAdd] at HC ⊢) | (go_at_call 165; refine (unhide HC).mono ?_; rintro e w2 ⟨rfl, hw2⟩; subst hw2))
    go_ret
    exact ⟨ret_bool (by simp), hb1⟩
set_option maxRecDepth 100000 in
set_option maxHeartbeats 2000000 in
theorem goalWhole_less (a : Option Nat) (b : Option Nat) (w : World) :
    Calls Try.prog 156 #[.iface 231 (.agg #[ptrV a, ptrV b])] w fun e w' => e = .returned (.bool (!decide (none ∈ ([a, b] : List (Option Nat))))) ∧ Below w.heap.size w w' := by
  have H := hide (terms_less a b w)
  have tc := ta_less_call
  have te := ta_less_exit
  cases hd : decide (none ∈ ([a, b] : List (Option Nat))) with
  | true =>
    go_enter Try.func156, Try.ntmps156
    go_wp2_with (first | (go_at_call 199; refine (unhide H).mono ?_; rintro e w1 ⟨ao, cap, rfl, hP, hb1⟩; have HC := hide (contains_nil ao cap [a, b] w1 (by simp) hP); clear hP; rw [hd] at HC; simp only [List.length_cons, List.length_nil, Nat.zero_add, Nat.reduceAdd] at HC ⊢) | (go_at_call 165; refine (unhide HC).mono ?_; rintro e w2 ⟨rfl, hw2⟩; subst hw2))
    go_ret
    exact ⟨ret_bool (by simp), hb1⟩
  | false =>
    go_enter Try.func156, Try.ntmps156
    go_wp2_with (first | (go_at_call 199; refine (unhide H).mono ?_; rintro e w1 ⟨ao, cap, rfl, hP, hb1⟩; have HC := hide (contains_nil ao cap [a, b] w1 (by simp) hP); clear hP; rw [hd] at HC; simp only [List.length_cons, List.length_nil, Nat.zero_add, Nat.reduceAdd] at HC ⊢) | (go_at_call 165; refine (unhide HC).mono ?_; rintro e w2 ⟨rfl, hw2⟩; subst hw2))
    go_ret
    exact ⟨ret_bool (by simp), hb1⟩
set_option maxRecDepth 100000 in
set_option maxHeartbeats 2000000 in
theorem goalWhole_plus (a : Option Nat) (b : Option Nat) (c : Option Nat) (w : World) :
    Calls Try.prog 156 #[.iface 233 (.agg #[ptrV a, ptrV b, ptrV c])] w fun e w' => e = .returned (.bool (!decide (none ∈ ([a, b, c] : List (Option Nat))))) ∧ Below w.heap.size w w' := by
  have H := hide (terms_plus a b c w)
  have tc := ta_plus_call
  have te := ta_plus_exit
  cases hd : decide (none ∈ ([a, b, c] : List (Option Nat))) with
  | true =>
    go_enter Try.func156, Try.ntmps156
    go_wp2_with (first | (go_at_call 201; refine (unhide H).mono ?_; rintro e w1 ⟨ao, cap, rfl, hP, hb1⟩; have HC := hide (contains_nil ao cap [a, b, c] w1 (by simp) hP); clear hP; rw [hd] at HC; simp only [List.length_cons, List.length_nil, Nat.zero_add, Nat.reduceAdd] at HC ⊢) | (go_at_call 165; refine (unhide HC).mono ?_; rintro e w2 ⟨rfl, hw2⟩; subst hw2))
    go_ret
    exact ⟨ret_bool (by simp), hb1⟩
  | false =>
    go_enter Try.func156, Try.ntmps156
    go_wp2_with (first | (go_at_call 201; refine (unhide H).mono ?_; rintro e w1 ⟨ao, cap, rfl, hP, hb1⟩; have HC := hide (contains_nil ao cap [a, b, c] w1 (by simp) hP); clear hP; rw [hd] at HC; simp only [List.length_cons, List.length_nil, Nat.zero_add, Nat.reduceAdd] at HC ⊢) | (go_at_call 165; refine (unhide HC).mono ?_; rintro e w2 ⟨rfl, hw2⟩; subst hw2))
    go_ret
    exact ⟨ret_bool (by simp), hb1⟩
set_option maxRecDepth 100000 in
set_option maxHeartbeats 2000000 in
theorem goalWhole_cut  (w : World) :
    Calls Try.prog 156 #[.iface 230 (.agg #[])] w fun e w' => e = .returned (.bool (!decide (none ∈ ([] : List (Option Nat))))) ∧ Below w.heap.size w w' := by
  have H := hide (terms_cut  w)
  have tc := ta_cut_call
  have te := ta_cut_exit
  cases hd : decide (none ∈ ([] : List (Option Nat))) with
  | true => simp at hd
  | false =>
    go_enter Try.func156, Try.ntmps156
    go_wp2_with (first | (go_at_call 197; refine (unhide H).mono ?_; rintro e w1 ⟨ao, cap, rfl, hP, hb1⟩; have HC := hide (contains_nil ao cap ([] : List (Option Nat)) w1 (by simp) hP); clear hP; rw [hd] at HC; simp only [List.length_cons, List.length_nil, Nat.zero_add, Nat.reduceAdd] at HC ⊢) | (go_at_call 165; refine (unhide HC).mono ?_; rintro e w2 ⟨rfl, hw2⟩; subst hw2))
    go_ret
    exact ⟨ret_bool (by simp), hb1⟩
end Go.Proofs.Ytpfoaleehdiahaa
