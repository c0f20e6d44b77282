/- Goals while a call lasts: values of the interface, their terms; the walk of goalWhole. -/
import Derived.Handy
import Derived.Test.YtmiofbifffnocaaQGI1
import Derived.Test.YtmiofbifffnocaaQGF2
namespace Go.Proofs.Ytmiofbifffnocaa
open Go.RowKit Go.Shelf
set_option linter.unusedVariables false
set_option linter.unusedSimpArgs false

/-- What terms hands back: pointers in new memory. -/
def TermsOut (vs : List (Option Nat)) (w : World) (e : Ending) (w' : World) : Prop := ∃ ao cap, e = .returned (.slice ao vs.length cap) ∧ (vs = [] ∨ ∃ b, ao = some ⟨b, 0, none⟩ ∧ PtrAt w' b vs) ∧ Below w.heap.size w w'

theorem ptrAt_new (w : World) (T : TypeId) (vs : List (Option Nat)) : PtrAt (w.alloc (.cells (vs.map ptrV).toArray T)) w.heap.size vs := fun i hi => by
  have hb := World.alloc_heap_new w (.cells (vs.map ptrV).toArray T)
  simp only [World.cell?]
  rw [hb]
  simp [hi]

set_option maxRecDepth 100000 in
set_option maxHeartbeats 1000000 in
theorem terms_call (a : Option Nat) (w : World) : Calls Try.prog 159 #[.agg #[ptrV a]] w (TermsOut [a] w) := by
  go_enter Try.func159, Try.ntmps159
  have hp := ptrAt_new (w.alloc (.cells #[ptrV a] 144)) 82 [a]
  unfold ptrV at hp ⊢
  go_wp2
  go_ret
  refine ⟨_, _, rfl, .inr ⟨_, rfl, ?_⟩, bstep (cell_below _ _) (cell_below _ _)⟩
  simpa [ptrV] using hp
set_option maxRecDepth 100000 in
set_option maxHeartbeats 1000000 in
theorem terms_exit (a : Option Nat) (w : World) : Calls Try.prog 157 #[.agg #[ptrV a]] w (TermsOut [a] w) := by
  go_enter Try.func157, Try.ntmps157
  have hp := ptrAt_new (w.alloc (.cells #[ptrV a] 141)) 82 [a]
  unfold ptrV at hp ⊢
  go_wp2
  go_ret
  refine ⟨_, _, rfl, .inr ⟨_, rfl, ?_⟩, bstep (cell_below _ _) (cell_below _ _)⟩
  simpa [ptrV] using hp
set_option maxRecDepth 100000 in
set_option maxHeartbeats 1000000 in
theorem terms_same (a b : Option Nat) (w : World) : Calls Try.prog 161 #[.agg #[ptrV a, ptrV b]] w (TermsOut [a, b] w) := by
  go_enter Try.func161, Try.ntmps161
  have hp := ptrAt_new (w.alloc (.cells #[ptrV a, ptrV b] 146)) 82 [a, b]
  unfold ptrV at hp ⊢
  go_wp2
  go_ret
  refine ⟨_, _, rfl, .inr ⟨_, rfl, ?_⟩, bstep (cell_below _ _) (cell_below _ _)⟩
  simpa [ptrV] using hp
set_option maxRecDepth 100000 in
set_option maxHeartbeats 1000000 in
theorem terms_less (a b : Option Nat) (w : World) : Calls Try.prog 165 #[.agg #[ptrV a, ptrV b]] w (TermsOut [a, b] w) := by
  go_enter Try.func165, Try.ntmps165
  have hp := ptrAt_new (w.alloc (.cells #[ptrV a, ptrV b] 149)) 82 [a, b]
  unfold ptrV at hp ⊢
  go_wp2
  go_ret
  refine ⟨_, _, rfl, .inr ⟨_, rfl, ?_⟩, bstep (cell_below _ _) (cell_below _ _)⟩
  simpa [ptrV] using hp
set_option maxRecDepth 100000 in
set_option maxHeartbeats 1000000 in
theorem terms_plus (a b c : Option Nat) (w : World) : Calls Try.prog 167 #[.agg #[ptrV a, ptrV b, ptrV c]] w (TermsOut [a, b, c] w) := by
  go_enter Try.func167, Try.ntmps167
  have hp := ptrAt_new (w.alloc (.cells #[ptrV a, ptrV b, ptrV c] 151)) 82 [a, b, c]
  unfold ptrV at hp ⊢
  go_wp2
  go_ret
  refine ⟨_, _, rfl, .inr ⟨_, rfl, ?_⟩, bstep (cell_below _ _) (cell_below _ _)⟩
  simpa [ptrV] using hp
set_option maxRecDepth 100000 in
set_option maxHeartbeats 1000000 in
theorem terms_cut (w : World) : Calls Try.prog 163 #[.agg #[]] w (TermsOut [] w) := by
  go_enter Try.func163, Try.ntmps163
  go_wp2
  go_ret
  exact ⟨_, _, rfl, .inl rfl, by first | exact cell_below _ _ | exact Below.refl _ _⟩
end Go.Proofs.Ytmiofbifffnocaa
