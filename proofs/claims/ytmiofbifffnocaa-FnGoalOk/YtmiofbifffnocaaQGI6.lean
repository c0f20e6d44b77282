/- A tree of places, or nil; the beginning of goalOf. -/
import Derived.Test.YtmiofbifffnocaaQGI5
import Derived.Test.YtmiofbifffnocaaQW6W7W18
import Derived.Deep.RegionHeld3
import Derived.Deep.QuietTactic
import Derived.BigQuiet
namespace Go.Proofs.Ytmiofbifffnocaa
open Go.RowKit Go.Shelf
set_option linter.unusedVariables false
set_option linter.unusedSimpArgs false

/-- A tree of these places, or nil where they are none. -/
def Lk (w : World) (o : Option Nat) (t : List C) : Prop := (trm t = true ∧ ∃ p, o = some p ∧ TreIn w p t) ∨ (trm t = false ∧ o = none)
theorem Lk.below {w w' : World} {o : Option Nat} {t : List C} (h : Lk w o t) (hb : Below w.heap.size w w') : Lk w' o t :=
  h.imp_left fun ⟨h1, p, e, h2⟩ => ⟨h1, p, e, h2.below hb⟩
theorem treeOf_opt (ao : Option Addr) (cap : Nat) (t : List C) (w : World) (hcap : t.length ≤ cap) (hcm : cap ≤ maxLen) (hA : Row w ao t) (hF : Fit t) :
    Calls Try.prog 44 #[.slice ao t.length cap] w fun e w' => ∃ o, e = .returned (ptrV o) ∧ Lk w' o t ∧ Below w.heap.size w w' := by
  cases hy : trm t with
  | false =>
    refine (treeOf_no ao cap t w (Nat.le_trans hcap hcm) hA hF hy).mono ?_
    rintro e w' ⟨rfl, hb⟩
    exact ⟨none, rfl, .inr ⟨hy, rfl⟩, hb⟩
  | true =>
    refine (treeOf_yes 0 ao cap t w hcap hcm (Nat.zero_le _) hA hF hy).mono ?_
    rintro e w' ⟨p, z, rfl, hz, hnd, hT, hb⟩
    exact ⟨some p, rfl, .inl ⟨hy, p, rfl, _, z, hT.kept (W' := w') (fun b h => h.2) (fun _ _ => rfl), hz, (trm_len hy).2⟩, hb⟩
theorem l3T_fit (t : List C) : l3T t = (trm t && fitT t) := by
  have h : t.any farC = t.any (overC 8) := rfl
  unfold l3T fitT
  rw [h, Bool.and_assoc]

theorem three_new (w : World) (x0 x1 x2 : Value) (T : TypeId) : Below w.heap.size w (w.alloc (.cells #[x0, x1, x2] T)) ∧ (w.alloc (.cells #[x0, x1, x2] T)).cell? ⟨w.heap.size, 0, none⟩ = some x0 ∧ (w.alloc (.cells #[x0, x1, x2] T)).cell? ⟨w.heap.size, 1, none⟩ = some x1 ∧ (w.alloc (.cells #[x0, x1, x2] T)).cell? ⟨w.heap.size, 2, none⟩ = some x2 := by
  have hb : (w.alloc (.cells #[x0, x1, x2] T)).heap[w.heap.size]? = some (.cells #[x0, x1, x2] T) := World.alloc_heap_new w _
  refine ⟨cell_below _ _, ?_, ?_, ?_⟩ <;> (simp only [World.cell?]; rw [hb]; rfl)
/-- The first place's kind, where there is one. -/
def kind0 (t : List C) : Int := match t with | [] => 0 | c :: _ => c.k
theorem Lk.kind {w : World} {o : Option Nat} {t : List C} (h : Lk w o t) : ∀ p, o = some p → w.cell? ⟨p, 0, none⟩ = some (.int .i64 (kind0 t)) := by
  rintro p rfl
  rcases h with ⟨_, q, e, h⟩ | ⟨_, e⟩
  · cases e
    obtain ⟨c, rr, es, c0⟩ := h.top
    rw [es]; exact c0
  · cases e
theorem Lk.none {w : World} {o : Option Nat} {t : List C} (h : Lk w o t) : (o = Option.none) ↔ trm t = false := by
  rcases h with ⟨h1, p, e, _⟩ | ⟨h1, e⟩
  · subst e; simp [h1]
  · subst e; simp [h1]
theorem Lk.tree {w : World} {o : Option Nat} {t : List C} (h : Lk w o t) (ht : trm t = true) : ∃ p, o = some p ∧ TreIn w p t := by
  rcases h with ⟨_, p, e, h2⟩ | ⟨h1, _⟩
  · exact ⟨p, e, h2⟩
  · rw [ht] at h1; cases h1
end Go.Proofs.Ytmiofbifffnocaa
