import Derived.Test.YtajkmebjmdolaaaDoorQGF2GI2
/- The walk of goalWhole, kind by kind. -/
namespace Go.Proofs.YtajkmebjmdolaaaDoor
open Go.RowKit Go.Shelf
set_option linter.unusedVariables false
set_option linter.unusedSimpArgs false

set_option maxRecDepth 100000 in
theorem ta_call_call (v : Value) (w : World) : (Instr.typeAssert (.iface 66 v) 48 66 true).run Tryd.prog w = .ok (.tuple #[v, .bool true]) w := by first | kernel_rfl | (simp [Instr.typeAssert, go_sem]; done)
set_option maxRecDepth 100000 in
theorem ta_call_exit (v : Value) (w : World) : (Instr.typeAssert (.iface 66 v) 48 74 true).run Tryd.prog w = .ok (.tuple #[(.agg #[.pointer none]), .bool false]) w := by first | kernel_rfl | (simp [Instr.typeAssert, go_sem]; done)
set_option maxRecDepth 100000 in
theorem ta_exit_call (v : Value) (w : World) : (Instr.typeAssert (.iface 74 v) 48 66 true).run Tryd.prog w = .ok (.tuple #[(.agg #[.pointer none]), .bool false]) w := by first | kernel_rfl | (simp [Instr.typeAssert, go_sem]; done)
set_option maxRecDepth 100000 in
theorem ta_exit_exit (v : Value) (w : World) : (Instr.typeAssert (.iface 74 v) 48 74 true).run Tryd.prog w = .ok (.tuple #[v, .bool true]) w := by first | kernel_rfl | (simp [Instr.typeAssert, go_sem]; done)
set_option maxRecDepth 100000 in
theorem ta_same_call (v : Value) (w : World) : (Instr.typeAssert (.iface 68 v) 48 66 true).run Tryd.prog w = .ok (.tuple #[(.agg #[.pointer none]), .bool false]) w := by first | kernel_rfl | (simp [Instr.typeAssert, go_sem]; done)
set_option maxRecDepth 100000 in
theorem ta_same_exit (v : Value) (w : World) : (Instr.typeAssert (.iface 68 v) 48 74 true).run Tryd.prog w = .ok (.tuple #[(.agg #[.pointer none]), .bool false]) w := by first | kernel_rfl | (simp [Instr.typeAssert, go_sem]; done)
set_option maxRecDepth 100000 in
theorem ta_less_call (v : Value) (w : World) : (Instr.typeAssert (.iface 71 v) 48 66 true).run Tryd.prog w = .ok (.tuple #[(.agg #[.pointer none]), .bool false]) w := by first | kernel_rfl | (simp [Instr.typeAssert, go_sem]; done)
set_option maxRecDepth 100000 in
theorem ta_less_exit (v : Value) (w : World) : (Instr.typeAssert (.iface 71 v) 48 74 true).run Tryd.prog w = .ok (.tuple #[(.agg #[.pointer none]), .bool false]) w := by first | kernel_rfl | (simp [Instr.typeAssert, go_sem]; done)
set_option maxRecDepth 100000 in
theorem ta_plus_call (v : Value) (w : World) : (Instr.typeAssert (.iface 73 v) 48 66 true).run Tryd.prog w = .ok (.tuple #[(.agg #[.pointer none]), .bool false]) w := by first | kernel_rfl | (simp [Instr.typeAssert, go_sem]; done)
set_option maxRecDepth 100000 in
theorem ta_plus_exit (v : Value) (w : World) : (Instr.typeAssert (.iface 73 v) 48 74 true).run Tryd.prog w = .ok (.tuple #[(.agg #[.pointer none]), .bool false]) w := by first | kernel_rfl | (simp [Instr.typeAssert, go_sem]; done)
set_option maxRecDepth 100000 in
theorem ta_cut_call (v : Value) (w : World) : (Instr.typeAssert (.iface 70 v) 48 66 true).run Tryd.prog w = .ok (.tuple #[(.agg #[.pointer none]), .bool false]) w := by first | kernel_rfl | (simp [Instr.typeAssert, go_sem]; done)
set_option maxRecDepth 100000 in
theorem ta_cut_exit (v : Value) (w : World) : (Instr.typeAssert (.iface 70 v) 48 74 true).run Tryd.prog w = .ok (.tuple #[(.agg #[.pointer none]), .bool false]) w := by first | kernel_rfl | (simp [Instr.typeAssert, go_sem]; done)
set_option maxRecDepth 100000 in
set_option maxHeartbeats 2000000 in
theorem goalWhole_call (a : Option Nat) (w : World) (kk : Int) (hk : ∀ p, a = some p → w.cell? ⟨p, 0, none⟩ = some (.int .i64 kk)) :
    Calls Tryd.prog 34 #[.iface 66 (.agg #[ptrV a])] w fun e w' => e = .returned (.bool (!decide (none ∈ ([a] : List (Option Nat))) && (kk == 3))) ∧ Below w.heap.size w w' := by
  have H := hide (terms_call a w)
  have tc := ta_call_call
  have te := ta_call_exit
  cases hd : decide (none ∈ ([a] : List (Option Nat))) with
  | true =>
    clear hk
    go_enter Tryd.func34, Tryd.ntmps34
    go_wp2_with (first | (go_at_call 123; refine (unhide H).mono ?_; rintro e w1 ⟨ao, cap, rfl, hP, hb1⟩; have HC := hide (contains_nil ao cap [a] w1 (by simp) hP); clear hP; rw [hd] at HC; simp only [List.length_cons, List.length_nil, Nat.zero_add, Nat.reduceAdd] at HC ⊢) | (go_at_call 50; refine (unhide HC).mono ?_; rintro e w2 ⟨rfl, hw2⟩; subst hw2))
    go_ret
    exact ⟨ret_bool (by simp), hb1⟩
  | false =>
    obtain ⟨p, rfl⟩ : ∃ p, a = some p := by
      cases a with
      | none => simp at hd
      | some p => exact ⟨p, rfl⟩
    have c0 := hk p rfl
    have hpl : p < w.heap.size := World.block_lt_of_cell? w ⟨p, 0, none⟩ c0
    clear hk
    simp only [ptrV, Option.map_some] at H ⊢
    by_cases h3 : kk = 3
    · have h3b : (kk == 3) = true := by simpa using h3
      clear h3
      go_enter Tryd.func34, Tryd.ntmps34
      go_wp2_with (first | (go_at_call 123; refine (unhide H).mono ?_; rintro e w1 ⟨ao, cap, rfl, hP, hb1⟩; have HC := hide (contains_nil ao cap [some p] w1 (by simp) hP); clear hP; rw [hd] at HC; simp only [List.length_cons, List.length_nil, Nat.zero_add, Nat.reduceAdd] at HC ⊢; have c1 := (hb1.cell (p := ⟨p, 0, none⟩) hpl).trans c0; have c2 := (((cell_below w1 (.cells #[.pointer (some ⟨p, 0, none⟩)] 66))).cell (p := ⟨p, 0, none⟩) (Nat.lt_of_lt_of_le hpl hb1.size)).trans c1) | (go_at_call 50; refine (unhide HC).mono ?_; rintro e w2 ⟨rfl, hw2⟩; subst hw2))
      go_ret
      exact ⟨ret_bool (by simp [h3b]), bstep hb1 (cell_below _ _)⟩
    · have h3b : (kk == 3) = false := by simpa using h3
      clear h3
      go_enter Tryd.func34, Tryd.ntmps34
      go_wp2_with (first | (go_at_call 123; refine (unhide H).mono ?_; rintro e w1 ⟨ao, cap, rfl, hP, hb1⟩; have HC := hide (contains_nil ao cap [some p] w1 (by simp) hP); clear hP; rw [hd] at HC; simp only [List.length_cons, List.length_nil, Nat.zero_add, Nat.reduceAdd] at HC ⊢; have c1 := (hb1.cell (p := ⟨p, 0, none⟩) hpl).trans c0; have c2 := (((cell_below w1 (.cells #[.pointer (some ⟨p, 0, none⟩)] 66))).cell (p := ⟨p, 0, none⟩) (Nat.lt_of_lt_of_le hpl hb1.size)).trans c1) | (go_at_call 50; refine (unhide HC).mono ?_; rintro e w2 ⟨rfl, hw2⟩; subst hw2))
      go_ret
      exact ⟨ret_bool (by simp [h3b]), bstep hb1 (cell_below _ _)⟩
set_option maxRecDepth 100000 in
set_option maxHeartbeats 2000000 in
theorem goalWhole_exit (a : Option Nat) (w : World) (kk : Int) (hk : ∀ p, a = some p → w.cell? ⟨p, 0, none⟩ = some (.int .i64 kk)) :
    Calls Tryd.prog 34 #[.iface 74 (.agg #[ptrV a])] w fun e w' => e = .returned (.bool (!decide (none ∈ ([a] : List (Option Nat))) && (kk == 3))) ∧ Below w.heap.size w w' := by
  have H := hide (terms_exit a w)
  have tc := ta_exit_call
  have te := ta_exit_exit
  cases hd : decide (none ∈ ([a] : List (Option Nat))) with
  | true =>
    clear hk
    go_enter Tryd.func34, Tryd.ntmps34
    go_wp2_with (first | (go_at_call 133; refine (unhide H).mono ?_; rintro e w1 ⟨ao, cap, rfl, hP, hb1⟩; have HC := hide (contains_nil ao cap [a] w1 (by simp) hP); clear hP; rw [hd] at HC; simp only [List.length_cons, List.length_nil, Nat.zero_add, Nat.reduceAdd] at HC ⊢) | (go_at_call 50; refine (unhide HC).mono ?_; rintro e w2 ⟨rfl, hw2⟩; subst hw2))
    go_ret
    exact ⟨ret_bool (by simp), hb1⟩
  | false =>
    obtain ⟨p, rfl⟩ : ∃ p, a = some p := by
      cases a with
      | none => simp at hd
      | some p => exact ⟨p, rfl⟩
    have c0 := hk p rfl
    have hpl : p < w.heap.size := World.block_lt_of_cell? w ⟨p, 0, none⟩ c0
    clear hk
    simp only [ptrV, Option.map_some] at H ⊢
    by_cases h3 : kk = 3
    · have h3b : (kk == 3) = true := by simpa using h3
      clear h3
      go_enter Tryd.func34, Tryd.ntmps34
      go_wp2_with (first | (go_at_call 133; refine (unhide H).mono ?_; rintro e w1 ⟨ao, cap, rfl, hP, hb1⟩; have HC := hide (contains_nil ao cap [some p] w1 (by simp) hP); clear hP; rw [hd] at HC; simp only [List.length_cons, List.length_nil, Nat.zero_add, Nat.reduceAdd] at HC ⊢; have c1 := (hb1.cell (p := ⟨p, 0, none⟩) hpl).trans c0; have c2 := (((cell_below w1 (.cells #[.pointer (some ⟨p, 0, none⟩)] 74))).cell (p := ⟨p, 0, none⟩) (Nat.lt_of_lt_of_le hpl hb1.size)).trans c1) | (go_at_call 50; refine (unhide HC).mono ?_; rintro e w2 ⟨rfl, hw2⟩; subst hw2))
      go_ret
      exact ⟨ret_bool (by simp [h3b]), bstep hb1 (cell_below _ _)⟩
    · have h3b : (kk == 3) = false := by simpa using h3
      clear h3
      go_enter Tryd.func34, Tryd.ntmps34
      go_wp2_with (first | (go_at_call 133; refine (unhide H).mono ?_; rintro e w1 ⟨ao, cap, rfl, hP, hb1⟩; have HC := hide (contains_nil ao cap [some p] w1 (by simp) hP); clear hP; rw [hd] at HC; simp only [List.length_cons, List.length_nil, Nat.zero_add, Nat.reduceAdd] at HC ⊢; have c1 := (hb1.cell (p := ⟨p, 0, none⟩) hpl).trans c0; have c2 := (((cell_below w1 (.cells #[.pointer (some ⟨p, 0, none⟩)] 74))).cell (p := ⟨p, 0, none⟩) (Nat.lt_of_lt_of_le hpl hb1.size)).trans c1) | (go_at_call 50; refine (unhide HC).mono ?_; rintro e w2 ⟨rfl, hw2⟩; subst hw2))
      go_ret
      exact ⟨ret_bool (by simp [h3b]), bstep hb1 (cell_below _ _)⟩
set_option maxRecDepth 100000 in
set_option maxHeartbeats 2000000 in
theorem goalWhole_same (a : Option Nat) (b : Option Nat) (w : World) :
    Calls Tryd.prog 34 #[.iface 68 (.agg #[ptrV a, ptrV b])] w fun e w' => e = .returned (.bool (!decide (none ∈ ([a, b] : List (Option Nat))))) ∧ Below w.heap.size w w' := by
  have H := hide (terms_same a b w)
  have tc := ta_same_call
  have te := ta_same_exit
  cases hd : decide (none ∈ ([a, b] : List (Option Nat))) with
  | true =>
    go_enter Tryd.func34, Tryd.ntmps34
    go_wp2_with (first | (go_at_call 125; refine (unhide H).mono ?_; rintro e w1 ⟨ao, cap, rfl, hP, hb1⟩; have HC := hide (contains_nil ao cap [a, b] w1 (by simp) hP); clear hP; rw [hd] at HC; simp only [List.length_cons, List.length_nil, Nat.zero_add, Nat.reduceAdd] at HC ⊢) | (go_at_call 50; refine (unhide HC).mono ?_; rintro e w2 ⟨rfl, hw2⟩; subst hw2))
    go_ret
    exact ⟨ret_bool (by simp), hb1⟩
  | false =>
    go_enter Tryd.func34, Tryd.ntmps34
    go_wp2_with (first | (go_at_call 125; refine (unhide H).mono ?_; rintro e w1 ⟨ao, cap, rfl, hP, hb1⟩; have HC := hide (contains_nil ao cap [a, b] w1 (by simp) hP); clear hP; rw [hd] at HC; simp only [List.length_cons, List.length_nil, Nat.zero_add, Nat.reduceAdd] at HC ⊢) | (go_at_call 50; refine (unhide HC).mono ?_; rintro e w2 ⟨rfl, hw2⟩; subst hw2))
    go_ret
    exact ⟨ret_bool (by simp), hb1⟩
set_option maxRecDepth 100000 in
set_option maxHeartbeats 2000000 in
theorem goalWhole_less (a : Option Nat) (b : Option Nat) (w : World) :
    Calls Tryd.prog 34 #[.iface 71 (.agg #[ptrV a, ptrV b])] w fun e w' => e = .returned (.bool (!decide (none ∈ ([a, b] : List (Option Nat))))) ∧ Below w.heap.size w w' := by
  have H := hide (terms_less a b w)
  have tc := ta_less_call
  have te := ta_less_exit
  cases hd : decide (none ∈ ([a, b] : List (Option Nat))) with
  | true =>
    go_enter Tryd.func34, Tryd.ntmps34
    go_wp2_with (first | (go_at_call 129; refine (unhide H).mono ?_; rintro e w1 ⟨ao, cap, rfl, hP, hb1⟩; have HC := hide (contains_nil ao cap [a, b] w1 (by simp) hP); clear hP; rw [hd] at HC; simp only [List.length_cons, List.length_nil, Nat.zero_add, Nat.reduceAdd] at HC ⊢) | (go_at_call 50; refine (unhide HC).mono ?_; rintro e w2 ⟨rfl, hw2⟩; subst hw2))
    go_ret
    exact ⟨ret_bool (by simp), hb1⟩
  | false =>
    go_enter Tryd.func34, Tryd.ntmps34
    go_wp2_with (first | (go_at_call 129; refine (unhide H).mono ?_; rintro e w1 ⟨ao, cap, rfl, hP, hb1⟩; have HC := hide (contains_nil ao cap [a, b] w1 (by simp) hP); clear hP; rw [hd] at HC; simp only [List.length_cons, List.length_nil, Nat.zero_add, Nat.reduceAdd] at HC ⊢) | (go_at_call 50; refine (unhide HC).mono ?_; rintro e w2 ⟨rfl, hw2⟩; subst hw2))
    go_ret
    exact ⟨ret_bool (by simp), hb1⟩
set_option maxRecDepth 100000 in
set_option maxHeartbeats 2000000 in
theorem goalWhole_plus (a : Option Nat) (b : Option Nat) (c : Option Nat) (w : World) :
    Calls Tryd.prog 34 #[.iface 73 (.agg #[ptrV a, ptrV b, ptrV c])] w fun e w' => e = .returned (.bool (!decide (none ∈ ([a, b, c] : List (Option Nat))))) ∧ Below w.heap.size w w' := by
  have H := hide (terms_plus a b c w)
  have tc := ta_plus_call
  have te := ta_plus_exit
  cases hd : decide (none ∈ ([a, b, c] : List (Option Nat))) with
  | true =>
    go_enter Tryd.func34, Tryd.ntmps34
    go_wp2_with (first | (go_at_call 131; refine (unhide H).mono ?_; rintro e w1 ⟨ao, cap, rfl, hP, hb1⟩; have HC := hide (contains_nil ao cap [a, b, c] w1 (by simp) hP); clear hP; rw [hd] at HC; simp only [List.length_cons, List.length_nil, Nat.zero_add, Nat.reduceAdd] at HC ⊢) | (go_at_call 50; refine (unhide HC).mono ?_; rintro e w2 ⟨rfl, hw2⟩; subst hw2))
    go_ret
    exact ⟨ret_bool (by simp), hb1⟩
  | false =>
    go_enter Tryd.func34, Tryd.ntmps34
    go_wp2_with (first | (go_at_call 131; refine (unhide H).mono ?_; rintro e w1 ⟨ao, cap, rfl, hP, hb1⟩; have HC := hide (contains_nil ao cap [a, b, c] w1 (by simp) hP); clear hP; rw [hd] at HC; simp only [List.length_cons, List.length_nil, Nat.zero_add, Nat.reduceAdd] at HC ⊢) | (go_at_call 50; refine (unhide HC).mono ?_; rintro e w2 ⟨rfl, hw2⟩; subst hw2))
    go_ret
    exact ⟨ret_bool (by simp), hb1⟩
set_option maxRecDepth 100000 in
set_option maxHeartbeats 2000000 in
theorem goalWhole_cut  (w : World) :
    Calls Tryd.prog 34 #[.iface 70 (.agg #[])] w fun e w' => e = .returned (.bool (!decide (none ∈ ([] : List (Option Nat))))) ∧ Below w.heap.size w w' := by
  have H := hide (terms_cut  w)
  have tc := ta_cut_call
  have te := ta_cut_exit
  cases hd : decide (none ∈ ([] : List (Option Nat))) with
  | true => simp at hd
  | false =>
    go_enter Tryd.func34, Tryd.ntmps34
    go_wp2_with (first | (go_at_call 127; refine (unhide H).mono ?_; rintro e w1 ⟨ao, cap, rfl, hP, hb1⟩; have HC := hide (contains_nil ao cap ([] : List (Option Nat)) w1 (by simp) hP); clear hP; rw [hd] at HC; simp only [List.length_cons, List.length_nil, Nat.zero_add, Nat.reduceAdd] at HC ⊢) | (go_at_call 50; refine (unhide HC).mono ?_; rintro e w2 ⟨rfl, hw2⟩; subst hw2))
    go_ret
    exact ⟨ret_bool (by simp), hb1⟩
end Go.Proofs.YtajkmebjmdolaaaDoor

/- The walk of mayStand, kind by kind. -/
namespace Go.Proofs.YtajkmebjmdolaaaDoor
open Go.RowKit Go.Shelf
set_option linter.unusedVariables false
set_option linter.unusedSimpArgs false

/-- A tree somewhere below, with its places. -/
def TreIn (w : World) (p : Nat) (t : List C) : Prop := ∃ f z, Tre (fun b => b < w.heap.size) w f p z ∧ z.map (·.2) = t ∧ t.length ≤ 40
theorem TreIn.below {w w' : World} {p : Nat} {t : List C} (h : TreIn w p t) (hb : Below w.heap.size w w') : TreIn w' p t := by
  obtain ⟨f, z, hT, e, hl⟩ := h
  exact ⟨f, z, hT.kept (W' := w') (fun b hb' => Nat.lt_of_lt_of_le hb' hb.size) (fun b hb' => hb.block b hb'), e, hl⟩
theorem Tre.shpG {n₀ : Nat} {W : World} : ∀ {f p : Nat} {z : List (Nat × C)}, Tre (fun b => b < n₀) W f p z → Shp n₀ W f p (z.map (·.1))
  | f + 1, p, z, ⟨c, ks, ao, cap, e, hp, hl, hn, hr, hs⟩ => by
      refine ⟨ks.map (fun k => (k.1, k.2.map (·.1))), ao, cap, ?_, hp, by simp [maxLen]; omega, ?_, ?_, ?_⟩
      · rw [e]; simp [List.map_flatten, List.map_map, Function.comp_def]
      · rw [List.length_map]; exact hn.cell
      · rcases hr with hr | ⟨q, e1, hq, hr⟩
        · left; rw [hr]; rfl
        · refine .inr ⟨q, e1, hq, fun i hi => ?_⟩
          rw [List.length_map] at hi
          simpa using hr i hi
      · intro k hk
        obtain ⟨k', hk', rfl⟩ := List.mem_map.1 hk
        exact (hs k' hk').shpG
theorem Tre.heldG {n₀ : Nat} {W : World} : ∀ {f p : Nat} {z : List (Nat × C)}, Tre (fun b => b < n₀) W f p z → ∀ x ∈ z, Held n₀ W x
  | f + 1, p, z, ⟨c, ks, ao, cap, e, hp, hl, hn, hr, hs⟩, x, hx => by
      rw [e] at hx
      rcases List.mem_cons.1 hx with rfl | hx
      · exact ⟨hp, hn.cells⟩
      · obtain ⟨l, hl', hx⟩ := List.mem_flatten.1 hx
        obtain ⟨k, hk, rfl⟩ := List.mem_map.1 hl'
        exact (hs k hk).heldG x hx

/-- A term that is one may stand in a clause. -/
def fitT (t : List C) : Bool := decide (t.length ≤ 12) && !(t.any (overC 8))
theorem fits_tree {w : World} {p : Nat} {t : List C} (h : TreIn w p t) :
    Calls Tryd.prog 35 #[.pointer (some ⟨p, 0, none⟩)] w fun e w' => e = .returned (.bool (fitT t)) ∧ Below w.heap.size w w' := by
  obtain ⟨f, z, hT, e, hl⟩ := h
  have hzl : z.length = t.length := by rw [← e]; simp
  refine (fitsClause_any f p z w hT.shpG hT.heldG (by omega)).mono ?_
  rintro e' w' ⟨rfl, hb⟩
  refine ⟨?_, hb⟩
  have h2 : (z.any fun x => overC 8 x.2) = t.any (overC 8) := by rw [← e, List.any_map]; rfl
  rw [hzl, h2]
  rfl
theorem TreIn.top {w : World} {p : Nat} {t : List C} (h : TreIn w p t) : ∃ c r, t = c :: r ∧ w.cell? ⟨p, 0, none⟩ = some (.int .i64 c.k) := by
  obtain ⟨f, z, hT, e, hl⟩ := h
  match f, hT with
  | f + 1, ⟨c, ks, ao, cap, ez, hp, hk, hn, hr, hs⟩ =>
    exact ⟨c, _, by rw [← e, ez]; rfl, hn.cells.1⟩
end Go.Proofs.YtajkmebjmdolaaaDoor
