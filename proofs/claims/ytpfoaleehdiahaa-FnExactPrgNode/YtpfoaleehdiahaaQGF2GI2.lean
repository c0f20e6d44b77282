import Derived.Test.YtpfoaleehdiahaaQGF1
import Derived.Handy
import Derived.Test.YtpfoaleehdiahaaQGI1BR1FL5
/- The walk of fitsClause: a term has neither too many places for a clause, nor a variable that clauses have not. -/
namespace Go.Proofs.Ytpfoaleehdiahaa
open Go.RowKit Go.Shelf
set_option linter.unusedVariables false
set_option linter.unusedSimpArgs false
attribute [local go_sem] Oper.semAt_some

theorem Shp.moreG {n₀ n₁ : Nat} {W : World} (h : n₀ ≤ n₁) : ∀ {f p : Nat} {gs : List Nat}, Shp n₀ W f p gs → Shp n₁ W f p gs
  | f + 1, p, gs, ⟨ks, ao, cap, hg, hp, hm, hc, hr, hs⟩ => ⟨ks, ao, cap, hg, Nat.lt_of_lt_of_le hp h, hm, hc, hr.imp_right fun ⟨q, e, hq, k⟩ => ⟨q, e, Nat.lt_of_lt_of_le hq h, k⟩, fun k hk => (hs k hk).moreG h⟩

set_option maxRecDepth 100000 in
set_option maxHeartbeats 4000000 in
theorem fitsClause_any (f p : Nat) (z : List (Nat × C)) (w : World) (hS : Shp w.heap.size w f p (z.map (·.1))) (hH : ∀ x ∈ z, Held w.heap.size w x) (hlen : z.length ≤ 1048576) :
    Calls Try.prog 166 #[.pointer (some ⟨p, 0, none⟩)] w fun e w' => e = .returned (.bool (decide (z.length ≤ 12) && !(z.any fun x => overC 8 x.2))) ∧ Below w.heap.size w w' := by
  obtain ⟨xs, hxs⟩ := lift_sub z hH
  refine (callsIn_wide (n := 5)).1 ?_
  refine callsIn_of_wp_marks Try.func166 rfl trivial ?_ rfl
  simp only [Try.ntmps166, List.size_toArray, List.length_cons, List.length_nil, Nat.reduceAdd, Nat.reduceSub, Array.replicate_succ, Array.replicate_zero, List.push_toArray, List.append_toArray, List.nil_append, List.cons_append]
  gi_wp2_with (refine ⟨trivial, ?_⟩; gi_at_call 158; refine (nodes_in Fence.wide _ trivial rfl _ _).mono ?_; rintro e w' ⟨rfl, rfl⟩)
  have hB0 : Below w.heap.size w ((w.alloc (.cells #[.int .i64 0] 3)).alloc (.cells #[.pointer (some ⟨p, 0, none⟩)] 83)) := ((Below.refl _ w).alloc (Nat.le_refl _) _).alloc (by simp) _
  have bO := Boxed.new w 3 (.int .i64 0)
  have bN := Boxed.new (w.alloc (.cells #[.int .i64 0] 3)) 83 (.pointer (some ⟨p, 0, none⟩))
  rw [World.size_alloc] at bN
  have bO3 := bO.alloc (.cells #[.pointer (some ⟨p, 0, none⟩)] 83)
  have hxl : xs.length = z.length := by rw [← hxs]; simp
  refine wpIn_rangeFunc_ownG rfl (by omega) (gf := 167) (lb := #[.pointer (some ⟨w.heap.size + 1, 0, none⟩)]) rfl trivial (enters_of Try.func167 (by kernel_rfl) rfl)
    (nodes_stops (fun x : {x : Nat × C // Held w.heap.size w x} => x.1.1) Fence.wide rfl _ trivial trivial rfl (w.heap.size + 1) w.heap.size f p _ xs _ (by simp) (by simp; omega) bN.cell (hS.below hB0) (by rw [← hxs]; simp)) kpsK_t (kpsK_b (by simp; omega)) (Below.refl _ _) (fun _ => rfl)
    (fun pre W => Boxed W w.heap.size 3 (.int .i64 (pre.length : Int)) ∧ Below w.heap.size w W)
    (fun _ _ _ => False)
    (OwnFrom.and (Own.from (boxed_ownG w.heap.size 3 (fun pre : List {x : Nat × C // Held w.heap.size w x} => .int .i64 (pre.length : Int))) _) (ownFrom_below (Nat.le_refl _) (by simp; omega)))
    (fun _ _ _ _ _ hs _ _ => hs)
    ⟨bO3, hB0⟩
    ?a1 ?assign ?body ?done ?stop
  case assign =>
    intro l x W K hK
    gi_wp2
    exact hK
  case body =>
    rintro l pre x W ⟨hv, hB⟩ hlt
    have hc := hv.cell
    have hf := hv.frozen
    have hvl := hv.lt
    have hpl : pre.length ≤ 1048576 := by omega
    have HFIN : Hid (KeepsFrom ((w.alloc (.cells #[.int .i64 0] 3)).alloc (.cells #[.pointer (some ⟨p, 0, none⟩)] 83)).heap.size W (W.setCell ⟨w.heap.size, 0, none⟩ (.int .i64 ((pre.length : Int) + 1))) ∧ KpS w.heap.size W (W.setCell ⟨w.heap.size, 0, none⟩ (.int .i64 ((pre.length : Int) + 1))) ∧ (Boxed (W.setCell ⟨w.heap.size, 0, none⟩ (.int .i64 ((pre.length : Int) + 1))) w.heap.size 3 (.int .i64 ((pre ++ [x]).length : Int)) ∧ Below w.heap.size w (W.setCell ⟨w.heap.size, 0, none⟩ (.int .i64 ((pre.length : Int) + 1))))) := by
      refine ⟨(KeepsOthers.setCell W _ _).from _, KpS.of_below ((Below.refl _ W).setCell (p := ⟨w.heap.size, 0, none⟩) (Nat.le_refl _) _), ?_, hB.setCell (p := ⟨w.heap.size, 0, none⟩) (Nat.le_refl _) _⟩
      have := Boxed.set (W := W) (.int .i64 ((pre.length : Int) + 1)) hv
      simpa using this
    gi_wp2
    exact unhide HFIN
  case done =>
    rintro D' ys W hD rfl ⟨hv, hB⟩ hK
    have hDl : D' < W.heap.size := (Array.getElem?_eq_some_iff.1 hK).1
    have hc := hv.cell
    have H := hide (varsBelow_any f p z 8 W ((hS.below hB).moreG hB.size) (fun x hx => ⟨Nat.lt_of_lt_of_le (hH x hx).1 hB.size, ((hH x hx).below hB).2⟩) hlen)
    have HM : Hid (Marked w.heap.size W.heap.size W [{ target := .collected D', args := #[] }]) := (Marked.nil w.heap.size w.heap.size W).push (by simp at hD; omega) (by simp at hD; omega) hDl hK
    rw [hxl] at hc
    by_cases h12 : z.length ≤ 12
    · have HE : Hid ((decide (z.length ≤ 12) && !(z.any fun x => overC 8 x.2)) = !(z.any fun x => overC 8 x.2)) := by simp [Hid, h12]
      gi_wp2_with (refine ⟨trivial, ?_⟩; gi_at_call 171; refine (callsIn_wide.2 (unhide H)).mono ?_; rintro e w' ⟨rfl, hb1⟩)
      have hMw : Marked w.heap.size W.heap.size w' [{ target := .collected D', args := #[] }] := (unhide HM).below (fun k hk => hb1.block k hk)
      exact hMw.leaves (fun W => Below w.heap.size w W) (fun W D hg hb hD => shut_belowG hg hb hD) (fun W hg => ⟨.bool (!(z.any fun x => overC 8 x.2)), results_tmp (t := 2) rfl _ _ _, by rw [unhide HE], hg⟩) (bstep hB hb1)
    · have HE : Hid ((decide (z.length ≤ 12) && !(z.any fun x => overC 8 x.2)) = false) := by simp [Hid, h12]
      clear H
      gi_wp2
      refine ⟨trivial, ?_⟩
      gi_wp2
      exact (unhide HM).leaves (fun W => Below w.heap.size w W) (fun W D hg hb hD => shut_belowG hg hb hD) (fun W hg => ⟨.bool false, results_tmp (t := 2) rfl _ _ _, by rw [unhide HE], hg⟩) hB
  case stop =>
    rintro D c pre W _ _ h _
    exact h.elim
end Go.Proofs.Ytpfoaleehdiahaa

/- Goals while a call lasts: values of the interface, their terms; the walk of goalWhole. -/
namespace Go.Proofs.Ytpfoaleehdiahaa
open Go.RowKit Go.Shelf
set_option linter.unusedVariables false
set_option linter.unusedSimpArgs false

/-- What terms hands back: pointers in new memory. -/
def TermsOut (vs : List (Option Nat)) (w : World) (e : Ending) (w' : World) : Prop := ∃ ao cap, e = .returned (.slice ao vs.length cap) ∧ (vs = [] ∨ ∃ b, ao = some ⟨b, 0, none⟩ ∧ PtrAt w' b vs) ∧ Below w.heap.size w w'

theorem ptrAt_new (w : World) (T : TypeId) (vs : List (Option Nat)) : PtrAt (w.alloc (.cells (vs.map ptrV).toArray T)) w.heap.size vs := fun i hi => by
  have hb := World.alloc_heap_new w (.cells (vs.map ptrV).toArray T)
  simp only [World.cell?]
  rw [hb]
  simp [hi]

set_option maxRecDepth 100000 in
set_option maxHeartbeats 1000000 in
theorem terms_call (a : Option Nat) (w : World) : Calls Try.prog 193 #[.agg #[ptrV a]] w (TermsOut [a] w) := by
  go_enter Try.func193, Try.ntmps193
  have hp := ptrAt_new (w.alloc (.cells #[ptrV a] 212)) 83 [a]
  unfold ptrV at hp ⊢
  go_wp2
  go_ret
  refine ⟨_, _, rfl, .inr ⟨_, rfl, ?_⟩, bstep (cell_below _ _) (cell_below _ _)⟩
  simpa [ptrV] using hp
set_option maxRecDepth 100000 in
set_option maxHeartbeats 1000000 in
theorem terms_exit (a : Option Nat) (w : World) : Calls Try.prog 203 #[.agg #[ptrV a]] w (TermsOut [a] w) := by
  go_enter Try.func203, Try.ntmps203
  have hp := ptrAt_new (w.alloc (.cells #[ptrV a] 234)) 83 [a]
  unfold ptrV at hp ⊢
  go_wp2
  go_ret
  refine ⟨_, _, rfl, .inr ⟨_, rfl, ?_⟩, bstep (cell_below _ _) (cell_below _ _)⟩
  simpa [ptrV] using hp
set_option maxRecDepth 100000 in
set_option maxHeartbeats 1000000 in
theorem terms_same (a b : Option Nat) (w : World) : Calls Try.prog 195 #[.agg #[ptrV a, ptrV b]] w (TermsOut [a, b] w) := by
  go_enter Try.func195, Try.ntmps195
  have hp := ptrAt_new (w.alloc (.cells #[ptrV a, ptrV b] 228)) 83 [a, b]
  unfold ptrV at hp ⊢
  go_wp2
  go_ret
  refine ⟨_, _, rfl, .inr ⟨_, rfl, ?_⟩, bstep (cell_below _ _) (cell_below _ _)⟩
  simpa [ptrV] using hp
set_option maxRecDepth 100000 in
set_option maxHeartbeats 1000000 in
theorem terms_less (a b : Option Nat) (w : World) : Calls Try.prog 199 #[.agg #[ptrV a, ptrV b]] w (TermsOut [a, b] w) := by
  go_enter Try.func199, Try.ntmps199
  have hp := ptrAt_new (w.alloc (.cells #[ptrV a, ptrV b] 231)) 83 [a, b]
  unfold ptrV at hp ⊢
  go_wp2
  go_ret
  refine ⟨_, _, rfl, .inr ⟨_, rfl, ?_⟩, bstep (cell_below _ _) (cell_below _ _)⟩
  simpa [ptrV] using hp
set_option maxRecDepth 100000 in
set_option maxHeartbeats 1000000 in
theorem terms_plus (a b c : Option Nat) (w : World) : Calls Try.prog 201 #[.agg #[ptrV a, ptrV b, ptrV c]] w (TermsOut [a, b, c] w) := by
  go_enter Try.func201, Try.ntmps201
  have hp := ptrAt_new (w.alloc (.cells #[ptrV a, ptrV b, ptrV c] 233)) 83 [a, b, c]
  unfold ptrV at hp ⊢
  go_wp2
  go_ret
  refine ⟨_, _, rfl, .inr ⟨_, rfl, ?_⟩, bstep (cell_below _ _) (cell_below _ _)⟩
  simpa [ptrV] using hp
set_option maxRecDepth 100000 in
set_option maxHeartbeats 1000000 in
theorem terms_cut (w : World) : Calls Try.prog 197 #[.agg #[]] w (TermsOut [] w) := by
  go_enter Try.func197, Try.ntmps197
  go_wp2
  go_ret
  exact ⟨_, _, rfl, .inl rfl, by first | exact cell_below _ _ | exact Below.refl _ _⟩
end Go.Proofs.Ytpfoaleehdiahaa
