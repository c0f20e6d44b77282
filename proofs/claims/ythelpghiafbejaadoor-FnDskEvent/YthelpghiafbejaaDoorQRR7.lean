/- The program's TrmRead. -/
import Derived.Test.YthelpghiafbejaaDoorQRR3RR4RR5RR6
import Derived.Test.YthelpghiafbejaaDoorQD4D5
namespace Go.Proofs.YthelpghiafbejaaDoor
open Go.RowKit Go.Shelf
set_option linter.unusedVariables false
set_option linter.unusedSimpArgs false

theorem rdNum_len {s r : List UInt8} {v : Int} (h : rdNum s = some (v, r)) : r.length ≤ s.length := by
  have := congrArg List.length (rdNum_back h).2
  rw [List.length_append] at this
  omega
theorem rdWord_fit {s r : List UInt8} {c : C} (h : rdWord s = some (c, r)) : c.s.size ≤ s.length ∧ r.length ≤ s.length := by
  have hb := congrArg List.length (rdWord_back h).1
  rw [List.length_append] at hb
  refine ⟨?_, by omega⟩
  cases s with
  | nil => cases h
  | cons b s =>
    rw [rdWord_cons] at h
    have h0 : (ByteArray.empty).size ≤ (b :: s).length := by simp
    split at h
    · split at h
      · injection h with h; injection h with h1 h2; subst h1; exact h0
      · cases h
    · split at h
      · split at h
        · split at h
          · cases h
          · injection h with h; injection h with h1 h2; subst h1; exact h0
        · cases h
      · split at h
        · split at h
          · injection h with h; injection h with h1 h2; subst h1; exact h0
          · cases h
        · injection h with h; injection h with h1 h2; subst h1
          have h3 : ((b :: s).takeWhile sml).length ≤ (b :: s).length := (tw_take sml (b :: s)).2.2
          have h4 : (⟨((b :: s).takeWhile sml).toArray⟩ : ByteArray).size = ((b :: s).takeWhile sml).length := by rw [← bl_size, bl_mk]
          show (⟨((b :: s).takeWhile sml).toArray⟩ : ByteArray).size ≤ _
          omega

theorem rt_fit : ∀ f, (∀ s t r g, rtT f s = some (t, r, g) → ∀ c ∈ t, c.s.size ≤ s.length) ∧ (∀ s ks r g, rtA f s = some (ks, r, g) → ∀ c ∈ ks.flatten, c.s.size ≤ s.length) := by
  intro f
  induction f using Nat.strongRecOn with
  | _ f ih =>
    have hT : ∀ s t r g, rtT f s = some (t, r, g) → ∀ c ∈ t, c.s.size ≤ s.length := by
      intro s t r g h c hc
      cases f with
      | zero => rw [rtT] at h; cases h
      | succ f =>
        rw [rtT] at h
        split at h
        · cases h
        · rename_i c1 r1 hw
          obtain ⟨w1, w2⟩ := rdWord_fit hw
          split at h
          · rename_i hc3
            split at h
            · cases h
            · rename_i ks r2 g2 ha
              injection h with h; injection h with h1 h2
              subst h1
              rcases List.mem_cons.1 hc with rfl | hc
              · exact w1
              · have := (ih f (by omega)).2 _ _ _ _ ha c hc
                rw [List.length_tail] at this
                omega
          · injection h with h; injection h with h1 h2
            subst h1
            simp only [List.mem_singleton] at hc
            subst hc
            exact w1
    refine ⟨hT, fun s ks r g h c hc => ?_⟩
    rw [rtA] at h
    split at h
    · cases h
    · rename_i t r1 g1 ht
      have hb := congrArg List.length (((rt_back f).1 _ _ _ _ ht).2.2).choose_spec.2
      rw [List.length_append] at hb
      split at h
      · injection h with h; injection h with a1 a2
        subst a1
        simp only [List.flatten_cons, List.flatten_nil, List.append_nil] at hc
        exact hT _ _ _ _ ht c hc
      · split at h
        · rename_i hx
          split at h
          · cases h
          · rename_i ks2 r2 g2 ha
            injection h with h; injection h with a1 a2
            subst a1
            rw [List.flatten_cons, List.mem_append] at hc
            rcases hc with hc | hc
            · exact hT _ _ _ _ ht c hc
            · have := (ih g1 hx.2).2 _ _ _ _ ha c hc
              rw [List.length_tail] at this
              omega
        · cases h

/-- The two errors of the library lie there. -/
def ErrG (w : World) : Prop := (∃ ev, w.cell? ⟨0, 0, none⟩ = some ev ∧ (ev = .nilIface ∨ ∃ te pe, ev = .iface te pe)) ∧ (∃ ev, w.cell? ⟨1, 0, none⟩ = some ev ∧ (ev = .nilIface ∨ ∃ te pe, ev = .iface te pe))
theorem ErrG.below {w w' : World} (h : ErrG w) (hb : Below w.heap.size w w') : ErrG w' := by
  obtain ⟨⟨e1, c1, h1⟩, ⟨e2, c2, h2⟩⟩ := h
  exact ⟨⟨e1, (hb.cell (p := ⟨_, 0, none⟩) (World.block_lt_of_cell? w ⟨_, _, none⟩ c1)).trans c1, h1⟩, ⟨e2, (hb.cell (p := ⟨_, 0, none⟩) (World.block_lt_of_cell? w ⟨_, _, none⟩ c2)).trans c2, h2⟩⟩

theorem rdX_none {l : List UInt8} (h : rtT 40 l = none) : rdX l = none := by unfold rdX; rw [h]
theorem rdX_some {l r : List UInt8} {t : List C} {g : Nat} (h : rtT 40 l = some (t, r, g)) : rdX l = if r = [] ∧ trm t = true then some t else none := by
  unfold rdX
  rw [h]
  cases r with
  | nil => simp
  | cons b r => simp

def ReadOut (l : List UInt8) (w : World) (e : Ending) (w' : World) : Prop := ∃ v, e = .returned (.tuple #[v, .bool (rdX l).isSome]) ∧ OwnC w' w.heap.size v ((rdX l).getD []) ∧ Below w.heap.size w w'
theorem read_none {l : List UInt8} {w w' : World} (h : rdX l = none) (hb : Below w.heap.size w w') : ReadOut l w (.returned (.tuple #[.slice none 0 0, .bool false])) w' := by
  refine ⟨_, by rw [h]; rfl, ?_, hb⟩
  rw [h]
  exact World.ownsRow_nil _ _ _ _

end Go.Proofs.YthelpghiafbejaaDoor
