import Derived.Test.YtkedckmpjedjoaaQGF1
import Derived.Handy
import Derived.Test.YtkedckmpjedjoaaQG2GI1BR1FL5
/- The walk of fitsClause: a term has neither too many places for a clause, nor a variable that clauses have not. -/
namespace Go.Proofs.Ytkedckmpjedjoaa
open Go.RowKit Go.Shelf
set_option linter.unusedVariables false
set_option linter.unusedSimpArgs false
attribute [local go_sem] Oper.semAt_some

theorem Shp.moreG {n₀ n₁ : Nat} {W : World} (h : n₀ ≤ n₁) : ∀ {f p : Nat} {gs : List Nat}, Shp n₀ W f p gs → Shp n₁ W f p gs
  | f + 1, p, gs, ⟨ks, ao, cap, hg, hp, hm, hc, hr, hs⟩ => ⟨ks, ao, cap, hg, Nat.lt_of_lt_of_le hp h, hm, hc, hr.imp_right fun ⟨q, e, hq, k⟩ => ⟨q, e, Nat.lt_of_lt_of_le hq h, k⟩, fun k hk => (hs k hk).moreG h⟩

set_option maxRecDepth 100000 in
set_option maxHeartbeats 4000000 in
theorem fitsClause_any (f p : Nat) (z : List (Nat × C)) (w : World) (hS : Shp w.heap.size w f p (z.map (·.1))) (hH : ∀ x ∈ z, Held w.heap.size w x) (hlen : z.length ≤ 1048576) :
    Calls Try.prog 182 #[.pointer (some ⟨p, 0, none⟩)] w fun e w' => e = .returned (.bool (decide (z.length ≤ 12) && !(z.any fun x => overC 8 x.2))) ∧ Below w.heap.size w w' := by
  obtain ⟨xs, hxs⟩ := lift_sub z hH
  refine (callsIn_wide (n := 5)).1 ?_
  refine callsIn_of_wp_marks Try.func182 rfl trivial ?_ rfl
  simp only [Try.ntmps182, List.size_toArray, List.length_cons, List.length_nil, Nat.reduceAdd, Nat.reduceSub, Array.replicate_succ, Array.replicate_zero, List.push_toArray, List.append_toArray, List.nil_append, List.cons_append]
  gi_wp2_with (refine ⟨trivial, ?_⟩; gi_at_call 170; refine (nodes_in Fence.wide _ trivial rfl _ _).mono ?_; rintro e w' ⟨rfl, rfl⟩)
  have hB0 : Below w.heap.size w ((w.alloc (.cells #[.int .i64 0] 3)).alloc (.cells #[.pointer (some ⟨p, 0, none⟩)] 100)) := ((Below.refl _ w).alloc (Nat.le_refl _) _).alloc (by simp) _
  have bO := Boxed.new w 3 (.int .i64 0)
  have bN := Boxed.new (w.alloc (.cells #[.int .i64 0] 3)) 100 (.pointer (some ⟨p, 0, none⟩))
  rw [World.size_alloc] at bN
  have bO3 := bO.alloc (.cells #[.pointer (some ⟨p, 0, none⟩)] 100)
  have hxl : xs.length = z.length := by rw [← hxs]; simp
  refine wpIn_rangeFunc_ownG rfl (by omega) (gf := 183) (lb := #[.pointer (some ⟨w.heap.size + 1, 0, none⟩)]) rfl trivial (enters_of Try.func183 (by kernel_rfl) rfl)
    (nodes_stops (fun x : {x : Nat × C // Held w.heap.size w x} => x.1.1) Fence.wide rfl _ trivial trivial rfl (w.heap.size + 1) w.heap.size f p _ xs _ (by simp) (by simp; omega) bN.cell (hS.below hB0) (by rw [← hxs]; simp)) kpsK_t (kpsK_b (by simp; omega)) (Below.refl _ _) (fun _ => rfl)
    (fun pre W => Boxed W w.heap.size 3 (.int .i64 (pre.length : Int)) ∧ Below w.heap.size w W)
    (fun _ _ _ => False)
    (OwnFrom.and (Own.from (boxed_ownG w.heap.size 3 (fun pre : List {x : Nat × C // Held w.heap.size w x} => .int .i64 (pre.length : Int))) _) (ownFrom_below (Nat.le_refl _) (by simp; omega)))
    (fun _ _ _ _ _ hs _ _ => hs)
    ⟨bO3, hB0⟩
    ?a1 ?assign ?body ?done ?stop
  case assign =>
    intro l x W K hK
    gi_wp2
    exact hK
  case body =>
    rintro l pre x W ⟨hv, hB⟩ hlt
    have hc := hv.cell
    have hf := hv.frozen
    have hvl := hv.lt
    have hpl : pre.length ≤ 1048576 := by omega
    have HFIN : Hid (KeepsFrom ((w.alloc (.cells #[.int .i64 0] 3)).alloc (.cells #[.pointer (some ⟨p, 0, none⟩)] 100)).heap.size W (W.setCell ⟨w.heap.size, 0, none⟩ (.int .i64 ((pre.length : Int) + 1))) ∧ KpS w.heap.size W (W.setCell ⟨w.heap.size, 0, none⟩ (.int .i64 ((pre.length : Int) + 1))) ∧ (Boxed (W.setCell ⟨w.heap.size, 0, none⟩ (.int .i64 ((pre.length : Int) + 1))) w.heap.size 3 (.int .i64 ((pre ++ [x]).length : Int)) ∧ Below w.heap.size w (W.setCell ⟨w.heap.size, 0, none⟩ (.int .i64 ((pre.length : Int) + 1))))) := by
      refine ⟨(KeepsOthers.setCell W _ _).from _, KpS.of_below ((Below.refl _ W).setCell (p := ⟨w.heap.size, 0, none⟩) (Nat.le_refl _) _), ?_, hB.setCell (p := ⟨w.heap.size, 0, none⟩) (Nat.le_refl _) _⟩
      have := Boxed.set (W := W) (.int .i64 ((pre.length : Int) + 1)) hv
      simpa using this
    gi_wp2
    exact unhide HFIN
  case done =>
    rintro D' ys W hD rfl ⟨hv, hB⟩ hK
    have hDl : D' < W.heap.size := (Array.getElem?_eq_some_iff.1 hK).1
    have hc := hv.cell
    have H := hide (varsBelow_any f p z 8 W ((hS.below hB).moreG hB.size) (fun x hx => ⟨Nat.lt_of_lt_of_le (hH x hx).1 hB.size, ((hH x hx).below hB).2⟩) hlen)
    have HM : Hid (Marked w.heap.size W.heap.size W [{ target := .collected D', args := #[] }]) := (Marked.nil w.heap.size w.heap.size W).push (by simp at hD; omega) (by simp at hD; omega) hDl hK
    rw [hxl] at hc
    by_cases h12 : z.length ≤ 12
    · have HE : Hid ((decide (z.length ≤ 12) && !(z.any fun x => overC 8 x.2)) = !(z.any fun x => overC 8 x.2)) := by simp [Hid, h12]
      gi_wp2_with (refine ⟨trivial, ?_⟩; gi_at_call 191; refine (callsIn_wide.2 (unhide H)).mono ?_; rintro e w' ⟨rfl, hb1⟩)
      have hMw : Marked w.heap.size W.heap.size w' [{ target := .collected D', args := #[] }] := (unhide HM).below (fun k hk => hb1.block k hk)
      exact hMw.leaves (fun W => Below w.heap.size w W) (fun W D hg hb hD => shut_belowG hg hb hD) (fun W hg => ⟨.bool (!(z.any fun x => overC 8 x.2)), results_tmp (t := 2) rfl _ _ _, by rw [unhide HE], hg⟩) (bstep hB hb1)
    · have HE : Hid ((decide (z.length ≤ 12) && !(z.any fun x => overC 8 x.2)) = false) := by simp [Hid, h12]
      clear H
      gi_wp2
      refine ⟨trivial, ?_⟩
      gi_wp2
      exact (unhide HM).leaves (fun W => Below w.heap.size w W) (fun W D hg hb hD => shut_belowG hg hb hD) (fun W hg => ⟨.bool false, results_tmp (t := 2) rfl _ _ _, by rw [unhide HE], hg⟩) hB
  case stop =>
    rintro D c pre W _ _ h _
    exact h.elim
end Go.Proofs.Ytkedckmpjedjoaa

/- Goals while a call lasts: values of the interface, their terms; the walk of goalWhole. -/
namespace Go.Proofs.Ytkedckmpjedjoaa
open Go.RowKit Go.Shelf
set_option linter.unusedVariables false
set_option linter.unusedSimpArgs false

/-- What terms hands back: pointers in new memory. -/
def TermsOut (vs : List (Option Nat)) (w : World) (e : Ending) (w' : World) : Prop := ∃ ao cap, e = .returned (.slice ao vs.length cap) ∧ (vs = [] ∨ ∃ b, ao = some ⟨b, 0, none⟩ ∧ PtrAt w' b vs) ∧ Below w.heap.size w w'

theorem ptrAt_new (w : World) (T : TypeId) (vs : List (Option Nat)) : PtrAt (w.alloc (.cells (vs.map ptrV).toArray T)) w.heap.size vs := fun i hi => by
  have hb := World.alloc_heap_new w (.cells (vs.map ptrV).toArray T)
  simp only [World.cell?]
  rw [hb]
  simp [hi]

set_option maxRecDepth 100000 in
set_option maxHeartbeats 1000000 in
theorem terms_call (a : Option Nat) (w : World) : Calls Try.prog 214 #[.agg #[ptrV a]] w (TermsOut [a] w) := by
  go_enter Try.func214, Try.ntmps214
  have hp := ptrAt_new (w.alloc (.cells #[ptrV a] 222)) 100 [a]
  unfold ptrV at hp ⊢
  go_wp2
  go_ret
  refine ⟨_, _, rfl, .inr ⟨_, rfl, ?_⟩, bstep (cell_below _ _) (cell_below _ _)⟩
  simpa [ptrV] using hp
set_option maxRecDepth 100000 in
set_option maxHeartbeats 1000000 in
theorem terms_exit (a : Option Nat) (w : World) : Calls Try.prog 224 #[.agg #[ptrV a]] w (TermsOut [a] w) := by
  go_enter Try.func224, Try.ntmps224
  have hp := ptrAt_new (w.alloc (.cells #[ptrV a] 247)) 100 [a]
  unfold ptrV at hp ⊢
  go_wp2
  go_ret
  refine ⟨_, _, rfl, .inr ⟨_, rfl, ?_⟩, bstep (cell_below _ _) (cell_below _ _)⟩
  simpa [ptrV] using hp
set_option maxRecDepth 100000 in
set_option maxHeartbeats 1000000 in
theorem terms_same (a b : Option Nat) (w : World) : Calls Try.prog 216 #[.agg #[ptrV a, ptrV b]] w (TermsOut [a, b] w) := by
  go_enter Try.func216, Try.ntmps216
  have hp := ptrAt_new (w.alloc (.cells #[ptrV a, ptrV b] 241)) 100 [a, b]
  unfold ptrV at hp ⊢
  go_wp2
  go_ret
  refine ⟨_, _, rfl, .inr ⟨_, rfl, ?_⟩, bstep (cell_below _ _) (cell_below _ _)⟩
  simpa [ptrV] using hp
set_option maxRecDepth 100000 in
set_option maxHeartbeats 1000000 in
theorem terms_less (a b : Option Nat) (w : World) : Calls Try.prog 220 #[.agg #[ptrV a, ptrV b]] w (TermsOut [a, b] w) := by
  go_enter Try.func220, Try.ntmps220
  have hp := ptrAt_new (w.alloc (.cells #[ptrV a, ptrV b] 244)) 100 [a, b]
  unfold ptrV at hp ⊢
  go_wp2
  go_ret
  refine ⟨_, _, rfl, .inr ⟨_, rfl, ?_⟩, bstep (cell_below _ _) (cell_below _ _)⟩
  simpa [ptrV] using hp
set_option maxRecDepth 100000 in
set_option maxHeartbeats 1000000 in
theorem terms_plus (a b c : Option Nat) (w : World) : Calls Try.prog 222 #[.agg #[ptrV a, ptrV b, ptrV c]] w (TermsOut [a, b, c] w) := by
  go_enter Try.func222, Try.ntmps222
  have hp := ptrAt_new (w.alloc (.cells #[ptrV a, ptrV b, ptrV c] 246)) 100 [a, b, c]
  unfold ptrV at hp ⊢
  go_wp2
  go_ret
  refine ⟨_, _, rfl, .inr ⟨_, rfl, ?_⟩, bstep (cell_below _ _) (cell_below _ _)⟩
  simpa [ptrV] using hp
set_option maxRecDepth 100000 in
set_option maxHeartbeats 1000000 in
theorem terms_cut (w : World) : Calls Try.prog 218 #[.agg #[]] w (TermsOut [] w) := by
  go_enter Try.func218, Try.ntmps218
  go_wp2
  go_ret
  exact ⟨_, _, rfl, .inl rfl, by first | exact cell_below _ _ | exact Below.refl _ _⟩
end Go.Proofs.Ytkedckmpjedjoaa

/- The walk of goalWhole, kind by kind. -/
namespace Go.Proofs.Ytkedckmpjedjoaa
open Go.RowKit Go.Shelf
set_option linter.unusedVariables false
set_option linter.unusedSimpArgs false

set_option maxRecDepth 100000 in
theorem ta_call_call (v : Value) (w : World) : (Instr.typeAssert (.iface 222 v) 212 222 true).run Try.prog w = .ok (.tuple #[v, .bool true]) w := by first | kernel_rfl | (simp [Instr.typeAssert, go_sem]; done)
set_option maxRecDepth 100000 in
theorem ta_call_exit (v : Value) (w : World) : (Instr.typeAssert (.iface 222 v) 212 247 true).run Try.prog w = .ok (.tuple #[(.agg #[.pointer none]), .bool false]) w := by first | kernel_rfl | (simp [Instr.typeAssert, go_sem]; done)
set_option maxRecDepth 100000 in
theorem ta_exit_call (v : Value) (w : World) : (Instr.typeAssert (.iface 247 v) 212 222 true).run Try.prog w = .ok (.tuple #[(.agg #[.pointer none]), .bool false]) w := by first | kernel_rfl | (simp [Instr.typeAssert, go_sem]; done)
set_option maxRecDepth 100000 in
theorem ta_exit_exit (v : Value) (w : World) : (Instr.typeAssert (.iface 247 v) 212 247 true).run Try.prog w = .ok (.tuple #[v, .bool true]) w := by first | kernel_rfl | (simp [Instr.typeAssert, go_sem]; done)
set_option maxRecDepth 100000 in
theorem ta_same_call (v : Value) (w : World) : (Instr.typeAssert (.iface 241 v) 212 222 true).run Try.prog w = .ok (.tuple #[(.agg #[.pointer none]), .bool false]) w := by first | kernel_rfl | (simp [Instr.typeAssert, go_sem]; done)
set_option maxRecDepth 100000 in
theorem ta_same_exit (v : Value) (w : World) : (Instr.typeAssert (.iface 241 v) 212 247 true).run Try.prog w = .ok (.tuple #[(.agg #[.pointer none]), .bool false]) w := by first | kernel_rfl | (simp [Instr.typeAssert, go_sem]; done)
set_option maxRecDepth 100000 in
theorem ta_less_call (v : Value) (w : World) : (Instr.typeAssert (.iface 244 v) 212 222 true).run Try.prog w = .ok (.tuple #[(.agg #[.pointer none]), .bool false]) w := by first | kernel_rfl | (simp [Instr.typeAssert, go_sem]; done)
set_option maxRecDepth 100000 in
theorem ta_less_exit (v : Value) (w : World) : (Instr.typeAssert (.iface 244 v) 212 247 true).run Try.prog w = .ok (.tuple #[(.agg #[.pointer none]), .bool false]) w := by first | kernel_rfl | (simp [Instr.typeAssert, go_sem]; done)
set_option maxRecDepth 100000 in
theorem ta_plus_call (v : Value) (w : World) : (Instr.typeAssert (.iface 246 v) 212 222 true).run Try.prog w = .ok (.tuple #[(.agg #[.pointer none]), .bool false]) w := by first | kernel_rfl | (simp [Instr.typeAssert, go_sem]; done)
set_option maxRecDepth 100000 in
theorem ta_plus_exit (v : Value) (w : World) : (Instr.typeAssert (.iface 246 v) 212 247 true).run Try.prog w = .ok (.tuple #[(.agg #[.pointer none]), .bool false]) w := by first | kernel_rfl | (simp [Instr.typeAssert, go_sem]; done)
set_option maxRecDepth 100000 in
theorem ta_cut_call (v : Value) (w : World) : (Instr.typeAssert (.iface 243 v) 212 222 true).run Try.prog w = .ok (.tuple #[(.agg #[.pointer none]), .bool false]) w := by first | kernel_rfl | (simp [Instr.typeAssert, go_sem]; done)
set_option maxRecDepth 100000 in
theorem ta_cut_exit (v : Value) (w : World) : (Instr.typeAssert (.iface 243 v) 212 247 true).run Try.prog w = .ok (.tuple #[(.agg #[.pointer none]), .bool false]) w := by first | kernel_rfl | (simp [Instr.typeAssert, go_sem]; done)
set_option maxRecDepth 100000 in
set_option maxHeartbeats 2000000 in
theorem goalWhole_call (a : Option Nat) (w : World) (kk : Int) (hk : ∀ p, a = some p → w.cell? ⟨p, 0, none⟩ = some (.int .i64 kk)) :
    Calls Try.prog 168 #[.iface 222 (.agg #[ptrV a])] w fun e w' => e = .returned (.bool (!decide (none ∈ ([a] : List (Option Nat))) && (kk == 3))) ∧ Below w.heap.size w w' := by
  have H := hide (terms_call a w)
  have tc := ta_call_call
  have te := ta_call_exit
  cases hd : decide (none ∈ ([a] : List (Option Nat))) with
  | true =>
    clear hk
    go_enter Try.func168, Try.ntmps168
    go_wp2_with (first | (go_at_call 214; refine (unhide H).mono ?_; rintro e w1 ⟨ao, cap, rfl, hP, hb1⟩; have HC := hide (contains_nil ao cap [a] w1 (by simp) hP); clear hP; rw [hd] at HC; simp only [List.length_cons, List.length_nil, Nat.zero_add, Nat.reduceAdd] at HC ⊢) | (go_at_call 181; refine (unhide HC).mono ?_; rintro e w2 ⟨rfl, hw2⟩; subst hw2))
    go_ret
    exact ⟨ret_bool (by simp), hb1⟩
  | false =>
    obtain ⟨p, rfl⟩ : ∃ p, a = some p := by
      cases a with
      | none => simp at hd
      | some p => exact ⟨p, rfl⟩
    have c0 := hk p rfl
    have hpl : p < w.heap.size := World.block_lt_of_cell? w ⟨p, 0, none⟩ c0
    clear hk
    simp only [ptrV, Option.map_some] at H ⊢
    by_cases h3 : kk = 3
    · have h3b : (kk == 3) = true := by simpa using h3
      clear h3
      go_enter Try.func168, Try.ntmps168
      go_wp2_with (first | (go_at_call 214; refine (unhide H).mono ?_; rintro e w1 ⟨ao, cap, rfl, hP, hb1⟩; have HC := hide (contains_nil ao cap [some p] w1 (by simp) hP); clear hP; rw [hd] at HC; simp only [List.length_cons, List.length_nil, Nat.zero_add, Nat.reduceAdd] at HC ⊢; have c1 := (hb1.cell (p := ⟨p, 0, none⟩) hpl).trans c0; have c2 := (((cell_below w1 (.cells #[.pointer (some ⟨p, 0, none⟩)] 222))).cell (p := ⟨p, 0, none⟩) (Nat.lt_of_lt_of_le hpl hb1.size)).trans c1) | (go_at_call 181; refine (unhide HC).mono ?_; rintro e w2 ⟨rfl, hw2⟩; subst hw2))
      go_ret
      exact ⟨ret_bool (by simp [h3b]), bstep hb1 (cell_below _ _)⟩
    · have h3b : (kk == 3) = false := by simpa using h3
      clear h3
      go_enter Try.func168, Try.ntmps168
      go_wp2_with (first | (go_at_call 214; refine (unhide H).mono ?_; rintro e w1 ⟨ao, cap, rfl, hP, hb1⟩; have HC := hide (contains_nil ao cap [some p] w1 (by simp) hP); clear hP; rw [hd] at HC; simp only [List.length_cons, List.length_nil, Nat.zero_add, Nat.reduceAdd] at HC ⊢; have c1 := (hb1.cell (p := ⟨p, 0, none⟩) hpl).trans c0; have c2 := (((cell_below w1 (.cells #[.pointer (some ⟨p, 0, none⟩)] 222))).cell (p := ⟨p, 0, none⟩) (Nat.lt_of_lt_of_le hpl hb1.size)).trans c1) | (go_at_call 181; refine (unhide HC).mono ?_; rintro e w2 ⟨rfl, hw2⟩; subst hw2))
      go_ret
      exact ⟨ret_bool (by simp [h3b]), bstep hb1 (cell_below _ _)⟩
set_option maxRecDepth 100000 in
set_option maxHeartbeats 2000000 in
theorem goalWhole_exit (a : Option Nat) (w : World) (kk : Int) (hk : ∀ p, a = some p → w.cell? ⟨p, 0, none⟩ = some (.int .i64 kk)) :
    Calls Try.prog 168 #[.iface 247 (.agg #[ptrV a])] w fun e w' => e = .returned (.bool (!decide (none ∈ ([a] : List (Option Nat))) && (kk == 3))) ∧ Below w.heap.size w w' := by
  have H := hide (terms_exit a w)
  have tc := ta_exit_call
  have te := ta_exit_exit
  cases hd : decide (none ∈ ([a] : List (Option Nat))) with
  | true =>
    clear hk
    go_enter Try.func168, Try.ntmps168
    go_wp2_with (first | (go_at_call 224; refine (unhide H).mono ?_; rintro e w1 ⟨ao, cap, rfl, hP, hb1⟩; have HC := hide (contains_nil ao cap [a] w1 (by simp) hP); clear hP; rw [hd] at HC; simp only [List.length_cons, List.length_nil, Nat.zero_add, Nat.reduceAdd] at HC ⊢) | (go_at_call 181; refine (unhide HC).mono ?_; rintro e w2 ⟨rfl, hw2⟩; subst hw2))
    go_ret
    exact ⟨ret_bool (by simp), hb1⟩
  | false =>
    obtain ⟨p, rfl⟩ : ∃ p, a = some p := by
      cases a with
      | none => simp at hd
      | some p => exact ⟨p, rfl⟩
    have c0 := hk p rfl
    have hpl : p < w.heap.size := World.block_lt_of_cell? w ⟨p, 0, none⟩ c0
    clear hk
    simp only [ptrV, Option.map_some] at H ⊢
    by_cases h3 : kk = 3
    · have h3b : (kk == 3) = true := by simpa using h3
      clear h3
      go_enter Try.func168, Try.ntmps168
      go_wp2_with (first | (go_at_call 224; refine (unhide H).mono ?_; rintro e w1 ⟨ao, cap, rfl, hP, hb1⟩; have HC := hide (contains_nil ao cap [some p] w1 (by simp) hP); clear hP; rw [hd] at HC; simp only [List.length_cons, List.length_nil, Nat.zero_add, Nat.reduceAdd] at HC ⊢; have c1 := (hb1.cell (p := ⟨p, 0, none⟩) hpl).trans c0; have c2 := (((cell_below w1 (.cells #[.pointer (some ⟨p, 0, none⟩)] 247))).cell (p := ⟨p, 0, none⟩) (Nat.lt_of_lt_of_le hpl hb1.size)).trans c1) | (go_at_call 181; refine (unhide HC).mono ?_; rintro e w2 ⟨rfl, hw2⟩; subst hw2))
      go_ret
      exact ⟨ret_bool (by simp [h3b]), bstep hb1 (cell_below _ _)⟩
    · have h3b : (kk == 3) = false := by simpa using h3
      clear h3
      go_enter Try.func168, Try.ntmps168
      go_wp2_with (first | (go_at_call 224; refine (unhide H).mono ?_; rintro e w1 ⟨ao, cap, rfl, hP, hb1⟩; have HC := hide (contains_nil ao cap [some p] w1 (by simp) hP); clear hP; rw [hd] at HC; simp only [List.length_cons, List.length_nil, Nat.zero_add, Nat.reduceAdd] at HC ⊢; have c1 := (hb1.cell (p := ⟨p, 0, none⟩) hpl).trans c0; have c2 := (((cell_below w1 (.cells #[.pointer (some ⟨p, 0, none⟩)] 247))).cell (p := ⟨p, 0, none⟩) (Nat.lt_of_lt_of_le hpl hb1.size)).trans c1) | (go_at_call 181; refine (unhide HC).mono ?_; rintro e w2 ⟨rfl, hw2⟩; subst hw2))
      go_ret
      exact ⟨ret_bool (by simp [h3b]), bstep hb1 (cell_below _ _)⟩
set_option maxRecDepth 100000 in
set_option maxHeartbeats 2000000 in
theorem goalWhole_same (a : Option Nat) (b : Option Nat) (w : World) :
    Calls Try.prog 168 #[.iface 241 (.agg #[ptrV a, ptrV b])] w fun e w' => e = .returned (.bool (!decide (none ∈ ([a, b] : List (Option Nat))))) ∧ Below w.heap.size w w' := by
  have H := hide (terms_same a b w)
  have tc := ta_same_call
  have te := ta_same_exit
  cases hd : decide (none ∈ ([a, b] : List (Option Nat))) with
  | true =>
    go_enter Try.func168, Try.ntmps168
    go_wp2_with (first | (go_at_call 216; refine (unhide H).mono ?_; rintro e w1 ⟨ao, cap, rfl, hP, hb1⟩; have HC := hide (contains_nil ao cap [a, b] w1 (by simp) hP); clear hP; rw [hd] at HC; simp only [List.length_cons, List.length_nil, Nat.zero_add, Nat.reduceAdd] at HC ⊢) | (go_at_call 181; refine (unhide HC).mono ?_; rintro e w2 ⟨rfl, hw2⟩; subst hw2))
    go_ret
    exact ⟨ret_bool (by simp), hb1⟩
  | false =>
    go_enter Try.func168, Try.ntmps168
    go_wp2_with (first | (go_at_call 216; refine (unhide H).mono ?_; rintro e w1 ⟨ao, cap, rfl, hP, hb1⟩; have HC := hide (contains_nil ao cap [a, b] w1 (by simp) hP); clear hP; rw [hd] at HC; simp only [List.length_cons, List.length_nil, Nat.zero_add, Nat.reduceAdd] at HC ⊢) | (go_at_call 181; refine (unhide HC).mono ?_; rintro e w2 ⟨rfl, hw2⟩; subst hw2))
    go_ret
    exact ⟨ret_bool (by simp), hb1⟩
set_option maxRecDepth 100000 in
set_option maxHeartbeats 2000000 in
theorem goalWhole_less (a : Option Nat) (b : Option Nat) (w : World) :
    Calls Try.prog 168 #[.iface 244 (.agg #[ptrV a, ptrV b])] w fun e w' => e = .returned (.bool (!decide (none ∈ ([a, b] : List (Option Nat))))) ∧ Below w.heap.size w w' := by
  have H := hide (terms_less a b w)
  have tc := ta_less_call
  have te := ta_less_exit
  cases hd : decide (none ∈ ([a, b] : List (Option Nat))) with
  | true =>
    go_enter Try.func168, Try.ntmps168
    go_wp2_with (first | (go_at_call 220; refine (unhide H).mono ?_; rintro e w1 ⟨ao, cap, rfl, hP, hb1⟩; have HC := hide (contains_nil ao cap [a, b] w1 (by simp) hP); clear hP; rw [hd] at HC; simp only [List.length_cons, List.length_nil, Nat.zero_add, Nat.reduceAdd] at HC ⊢) | (go_at_call 181; refine (unhide HC).mono ?_; rintro e w2 ⟨rfl, hw2⟩; subst hw2))
    go_ret
    exact ⟨ret_bool (by simp), hb1⟩
  | false =>
    go_enter Try.func168, Try.ntmps168
    go_wp2_with (first | (go_at_call 220; refine (unhide H).mono ?_; rintro e w1 ⟨ao, cap, rfl, hP, hb1⟩; have HC := hide (contains_nil ao cap [a, b] w1 (by simp) hP); clear hP; rw [hd] at HC; simp only [List.length_cons, List.length_nil, Nat.zero_add, Nat.reduceAdd] at HC ⊢) | (go_at_call 181; refine (unhide HC).mono ?_; rintro e w2 ⟨rfl, hw2⟩; subst hw2))
    go_ret
    exact ⟨ret_bool (by simp), hb1⟩
set_option maxRecDepth 100000 in
set_option maxHeartbeats 2000000 in
theorem goalWhole_plus (a : Option Nat) (b : Option Nat) (c : Option Nat) (w : World) :
    Calls Try.prog 168 #[.iface 246 (.agg #[ptrV a, ptrV b, ptrV c])] w fun e w' => e = .returned (.bool (!decide (none ∈ ([a, b, c] : List (Option Nat))))) ∧ Below w.heap.size w w' := by
  have H := hide (terms_plus a b c w)
  have tc := ta_plus_call
  have te := ta_plus_exit
  cases hd : decide (none ∈ ([a, b, c] : List (Option Nat))) with
  | true =>
    go_enter Try.func168, Try.ntmps168
    go_wp2_with (first | (go_at_call 222; refine (unhide H).mono ?_; rintro e w1 ⟨ao, cap, rfl, hP, hb1⟩; have HC := hide (contains_nil ao cap [a, b, c] w1 (by simp) hP); clear hP; rw [hd] at HC; simp only [List.length_cons, List.length_nil, Nat.zero_add, Nat.reduceAdd] at HC ⊢) | (go_at_call 181; refine (unhide HC).mono ?_; rintro e w2 ⟨rfl, hw2⟩; subst hw2))
    go_ret
    exact ⟨ret_bool (by simp), hb1⟩
  | false =>
    go_enter Try.func168, Try.ntmps168
    go_wp2_with (first | (go_at_call 222; refine (unhide H).mono ?_; rintro e w1 ⟨ao, cap, rfl, hP, hb1⟩; have HC := hide (contains_nil ao cap [a, b, c] w1 (by simp) hP); clear hP; rw [hd] at HC; simp only [List.length_cons, List.length_nil, Nat.zero_add, Nat.reduceAdd] at HC ⊢) | (go_at_call 181; refine (unhide HC).mono ?_; rintro e w2 ⟨rfl, hw2⟩; subst hw2))
    go_ret
    exact ⟨ret_bool (by simp), hb1⟩
set_option maxRecDepth 100000 in
set_option maxHeartbeats 2000000 in
theorem goalWhole_cut  (w : World) :
    Calls Try.prog 168 #[.iface 243 (.agg #[])] w fun e w' => e = .returned (.bool (!decide (none ∈ ([] : List (Option Nat))))) ∧ Below w.heap.size w w' := by
  have H := hide (terms_cut  w)
  have tc := ta_cut_call
  have te := ta_cut_exit
  cases hd : decide (none ∈ ([] : List (Option Nat))) with
  | true => simp at hd
  | false =>
    go_enter Try.func168, Try.ntmps168
    go_wp2_with (first | (go_at_call 218; refine (unhide H).mono ?_; rintro e w1 ⟨ao, cap, rfl, hP, hb1⟩; have HC := hide (contains_nil ao cap ([] : List (Option Nat)) w1 (by simp) hP); clear hP; rw [hd] at HC; simp only [List.length_cons, List.length_nil, Nat.zero_add, Nat.reduceAdd] at HC ⊢) | (go_at_call 181; refine (unhide HC).mono ?_; rintro e w2 ⟨rfl, hw2⟩; subst hw2))
    go_ret
    exact ⟨ret_bool (by simp), hb1⟩
end Go.Proofs.Ytkedckmpjedjoaa

/- The walk of mayStand, kind by kind. -/
namespace Go.Proofs.Ytkedckmpjedjoaa
open Go.RowKit Go.Shelf
set_option linter.unusedVariables false
set_option linter.unusedSimpArgs false

/-- A tree somewhere below, with its places. -/
def TreIn (w : World) (p : Nat) (t : List C) : Prop := ∃ f z, Tre (fun b => b < w.heap.size) w f p z ∧ z.map (·.2) = t ∧ t.length ≤ 40
theorem TreIn.below {w w' : World} {p : Nat} {t : List C} (h : TreIn w p t) (hb : Below w.heap.size w w') : TreIn w' p t := by
  obtain ⟨f, z, hT, e, hl⟩ := h
  exact ⟨f, z, hT.kept (W' := w') (fun b hb' => Nat.lt_of_lt_of_le hb' hb.size) (fun b hb' => hb.block b hb'), e, hl⟩
theorem Tre.shpG {n₀ : Nat} {W : World} : ∀ {f p : Nat} {z : List (Nat × C)}, Tre (fun b => b < n₀) W f p z → Shp n₀ W f p (z.map (·.1))
  | f + 1, p, z, ⟨c, ks, ao, cap, e, hp, hl, hn, hr, hs⟩ => by
      refine ⟨ks.map (fun k => (k.1, k.2.map (·.1))), ao, cap, ?_, hp, by simp [maxLen]; omega, ?_, ?_, ?_⟩
      · rw [e]; simp [List.map_flatten, List.map_map, Function.comp_def]
      · rw [List.length_map]; exact hn.cell
      · rcases hr with hr | ⟨q, e1, hq, hr⟩
        · left; rw [hr]; rfl
        · refine .inr ⟨q, e1, hq, fun i hi => ?_⟩
          rw [List.length_map] at hi
          simpa using hr i hi
      · intro k hk
        obtain ⟨k', hk', rfl⟩ := List.mem_map.1 hk
        exact (hs k' hk').shpG
theorem Tre.heldG {n₀ : Nat} {W : World} : ∀ {f p : Nat} {z : List (Nat × C)}, Tre (fun b => b < n₀) W f p z → ∀ x ∈ z, Held n₀ W x
  | f + 1, p, z, ⟨c, ks, ao, cap, e, hp, hl, hn, hr, hs⟩, x, hx => by
      rw [e] at hx
      rcases List.mem_cons.1 hx with rfl | hx
      · exact ⟨hp, hn.cells⟩
      · obtain ⟨l, hl', hx⟩ := List.mem_flatten.1 hx
        obtain ⟨k, hk, rfl⟩ := List.mem_map.1 hl'
        exact (hs k hk).heldG x hx

/-- A term that is one may stand in a clause. -/
def fitT (t : List C) : Bool := decide (t.length ≤ 12) && !(t.any (overC 8))
theorem fits_tree {w : World} {p : Nat} {t : List C} (h : TreIn w p t) :
    Calls Try.prog 182 #[.pointer (some ⟨p, 0, none⟩)] w fun e w' => e = .returned (.bool (fitT t)) ∧ Below w.heap.size w w' := by
  obtain ⟨f, z, hT, e, hl⟩ := h
  have hzl : z.length = t.length := by rw [← e]; simp
  refine (fitsClause_any f p z w hT.shpG hT.heldG (by omega)).mono ?_
  rintro e' w' ⟨rfl, hb⟩
  refine ⟨?_, hb⟩
  have h2 : (z.any fun x => overC 8 x.2) = t.any (overC 8) := by rw [← e, List.any_map]; rfl
  rw [hzl, h2]
  rfl
theorem TreIn.top {w : World} {p : Nat} {t : List C} (h : TreIn w p t) : ∃ c r, t = c :: r ∧ w.cell? ⟨p, 0, none⟩ = some (.int .i64 c.k) := by
  obtain ⟨f, z, hT, e, hl⟩ := h
  match f, hT with
  | f + 1, ⟨c, ks, ao, cap, ez, hp, hk, hn, hr, hs⟩ =>
    exact ⟨c, _, by rw [← e, ez]; rfl, hn.cells.1⟩
end Go.Proofs.Ytkedckmpjedjoaa
