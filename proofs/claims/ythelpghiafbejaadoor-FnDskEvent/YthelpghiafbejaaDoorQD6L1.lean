import Derived.Test.YthelpghiafbejaaDoorQD4D5
import Derived.Test.YthelpghiafbejaaDoorQMemOpenOpen2
import Derived.Test.YthelpghiafbejaaDoorQPlain2YB3
import Derived.Test.YthelpghiafbejaaDoorQT2T3T4W6W7W18T5
/- What is drawn, whole: l20TermOr, l20Open, and the draws of chapter 1 that are places alone. -/
namespace Go.Proofs.YthelpghiafbejaaDoor
open Go.RowKit
set_option linter.unusedVariables false
set_option linter.unusedSimpArgs false

theorem drew_wide {w w' : World} {R p lo hi d lo' hi' d' : Nat} {e : Ending} (h : Drew Ds w R p lo hi d e w') (h1 : lo' ≤ lo) (h2 : hi ≤ hi') (h3 : d ≤ d') : Drew Dc w R p lo' hi' d' e w' := by
  obtain ⟨v, t, p', he, a1, a2, a3, a4, a5, a6, a7⟩ := h
  exact ⟨v, t, p', he, a1, by omega, by omega, fun c hc => (a4 c hc).dc, a5, by omega, a7⟩

/-- Of places that were drawn: what the walks ask. -/
theorem dc_fit {t : List C} (h : ∀ c ∈ t, Dc c) : Fit t ∧ WfC t := by
  constructor
  · intro c hc
    obtain ⟨_, _, _, _, h5⟩ := h c hc
    unfold maxLen; omega
  · intro c hc
    obtain ⟨h1, h2, h3, h4, _⟩ := h c hc
    exact ⟨WalkArith.wf_i64 (by omega), WalkArith.wf_i64 (by omega)⟩

theorem rd_new {w : World} {ao : Option Addr} {len cap : Nat} {z : Nat → Int} (hl : len ≤ 2000) (hz : ∀ i, 0 ≤ z i ∧ z i ≤ 255) (hB : len = 0 ∨ ∃ b off, ao = some ⟨b, off, none⟩ ∧ ∀ i, i < len → w.cell? ⟨b, off + i, none⟩ = some (.int .u8 (z i))) :
    Rd (w.alloc (.cells #[.slice ao len cap, .int .i64 0] 56)) w.heap.size 0 := by
  refine ⟨ao, len, cap, z, heap_alloc_new w _, hl, hz, ?_⟩
  rcases hB with h | ⟨b, off, e, hc⟩
  · exact .inl h
  · by_cases h0 : len = 0
    · exact .inl h0
    · have hb : b < w.heap.size := World.block_lt_of_cell? w ⟨b, _, none⟩ (hc 0 (by omega))
      exact .inr ⟨b, off, e, hb, fun i hi => (World.cell?_of_block (a := ⟨b, _, none⟩) (Below.heap_alloc w _ b hb)).trans (hc i hi)⟩

set_option maxHeartbeats 400000 in
theorem open_any (ao : Option Addr) (len cap : Nat) (z : Nat → Int) (w : World) (h : Bin w ao len cap z) :
    Calls Tryd.prog 17 #[.slice ao len cap] w fun e w' => e = .returned (.pointer (some ⟨w.heap.size, 0, none⟩)) ∧ Rd w' w.heap.size 0 ∧ Below w.heap.size w w' := by
  obtain ⟨hc, hm, hz, hB⟩ := h
  unfold maxLen at hm
  have HZ := hide hz
  have HB := hide hB
  clear hz hB
  by_cases h2 : len ≤ 2000
  · have hR := hide (rd_new (cap := cap) h2 (unhide HZ) (unhide HB))
    go_enter Tryd.func17, Tryd.ntmps17
    go_wp2
    go_ret
    exact ⟨rfl, unhide hR, cell_below _ _⟩
  · have h2' : 2000 < len := by omega
    have hsome : ∃ b off, ao = some ⟨b, off, none⟩ ∧ ∀ i, i < len → w.cell? ⟨b, off + i, none⟩ = some (.int .u8 (z i)) := by
      rcases unhide HB with h | h
      · omega
      · exact h
    obtain ⟨b, off, rfl, hcell⟩ := hsome
    have hR := hide (rd_new (w := w) (ao := some ⟨b, off, none⟩) (cap := cap) (Nat.le_refl 2000) (unhide HZ) (.inr ⟨b, off, rfl, fun i hi => hcell i (by omega)⟩))
    clear hcell
    have hcp : 2000 ≤ cap := by omega
    go_enter Tryd.func17, Tryd.ntmps17
    go_wp2
    go_ret
    exact ⟨rfl, unhide hR, cell_below _ _⟩

/-- Places that a law draws from bytes. -/
def DrewB (w : World) (e : Ending) (w' : World) : Prop :=
  ∃ v t, e = .returned v ∧ OwnC w' w.heap.size v t ∧ t.length ≤ 41 ∧ (∀ c ∈ t, Dc c) ∧ Below w.heap.size w w'
theorem drewB_mk {w w1 w' : World} {e : Ending} (hb : Below w.heap.size w w1) (hs : w.heap.size < w1.heap.size) (h : Drew Dc w1 w.heap.size 0 0 41 300 e w') : DrewB w e w' := by
  obtain ⟨v, t, p', he, h1, h2, h3, h4, h5, h6, h7⟩ := h
  exact ⟨v, t, he, h1.base hb.size, h3, h4, hb.grown h7 hb.size (fun k e => by cases e; exact Nat.le_refl _)⟩

end Go.Proofs.YthelpghiafbejaaDoor

/- caOk; the walk of the law FnTrmWhole. -/
namespace Go.Proofs.YthelpghiafbejaaDoor
open Go.RowKit
set_option linter.unusedVariables false
set_option linter.unusedSimpArgs false

theorem fit_one : Fit [⟨2, 1, ByteArray.mk #[]⟩] := fun c hc => by simp at hc; subst hc; decide

set_option maxHeartbeats 400000 in
theorem caOk_any (w : World) : Calls Tryd.prog 9 #[] w fun e w' => e = .returned (.bool true) ∧ Below w.heap.size w w' := by
  have hA : At (w.alloc (.cells #[.int .i64 2, .int .i64 1, .string (ByteArray.mk #[])] 45)) w.heap.size 0 [⟨2, 1, ByteArray.mk #[]⟩] := fun i hi => by
    have h0 : i = 0 := by simp at hi; omega
    subst h0
    simp [go_sem]
  have h1 := TrmOk_some w.heap.size 0 1 [⟨2, 1, ByteArray.mk #[]⟩] _ (by simp [maxLen]) hA fit_one
  rw [trm_one] at h1
  have H := hide h1
  clear h1 hA
  go_enter Tryd.func9, Tryd.ntmps9
  go_wp2_with fail
  refine (unhide H).mono ?_
  rintro e w1 ⟨rfl, hb1⟩
  go_wp2
  go_ret
  exact ⟨rfl, bstep (cell_below _ _) hb1⟩

end Go.Proofs.YthelpghiafbejaaDoor
