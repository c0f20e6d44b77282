import Derived.Test.YtpfoaleehdiahaaQW6W7
import Derived.Test.YtpfoaleehdiahaaQW13
import Derived.Test.YtpfoaleehdiahaaQGI5
import Derived.Deep.RegionHeld3
import Derived.Deep.QuietTactic
import Derived.BigQuiet
/- The walk of caTerm; treeOf and TrmShift where places are no term. -/
namespace Go.Proofs.Ytpfoaleehdiahaa
open Go.RowKit
set_option linter.unusedVariables false
set_option linter.unusedSimpArgs false

set_option maxHeartbeats 400000 in
theorem treeOf_no (ao : Option Addr) (cap : Nat) (t : List C) (w : World) (hm : t.length ≤ maxLen) (hA : Row w ao t) (hF : Fit t) (hn : trm t = false) :
    Calls Try.prog 50 #[.slice ao t.length cap] w fun e w' => e = .returned (.pointer none) ∧ Below w.heap.size w w' := by
  have H := hide (TrmOk_any ao cap t w hm hA hF)
  rw [hn] at H
  go_enter Try.func50, Try.ntmps50
  go_wp2_with fail
  refine (unhide H).mono ?_
  rintro e w1 ⟨rfl, hb1⟩
  go_wp2
  go_ret
  exact ⟨rfl, hb1⟩

end Go.Proofs.Ytpfoaleehdiahaa

/- A tree of places, or nil; the beginning of goalOf. -/
namespace Go.Proofs.Ytpfoaleehdiahaa
open Go.RowKit Go.Shelf
set_option linter.unusedVariables false
set_option linter.unusedSimpArgs false

/-- A tree of places in blocks from lo to hi. -/
def TreL (lo hi : Nat) (W : World) (p : Nat) (t : List C) : Prop := ∃ z, Tre (fun b => lo ≤ b ∧ b < hi) W 40 p z ∧ z.map (·.2) = t ∧ t.length ≤ 40
theorem treL_up {S : Nat → Prop} {W : World} : ∀ {f g p : Nat} {z : List (Nat × C)}, Tre S W f p z → f ≤ g → Tre S W g p z
  | f + 1, g + 1, p, z, ⟨c, ks, ao, cap, e, hp, hl, hn, hr, hs⟩, h => ⟨c, ks, ao, cap, e, hp, hl, hn, hr, fun k hk => treL_up (hs k hk) (by omega)⟩
theorem TreL.kept {lo hi lo' hi' : Nat} {W W' : World} {p : Nat} {t : List C} (h : TreL lo hi W p t) (hl : lo' ≤ lo) (hh : hi ≤ hi') (hk : ∀ b, lo ≤ b → b < hi → W'.heap[b]? = W.heap[b]?) : TreL lo' hi' W' p t := by
  obtain ⟨z, h1, h2, h3⟩ := h
  exact ⟨z, h1.kept (fun b h => ⟨Nat.le_trans hl h.1, Nat.lt_of_lt_of_le h.2 hh⟩) (fun b h => hk b h.1 h.2), h2, h3⟩
theorem TreL.below {lo : Nat} {W W' : World} {p : Nat} {t : List C} (h : TreL lo W.heap.size W p t) (hb : Below W.heap.size W W') : TreL lo W'.heap.size W' p t := h.kept (Nat.le_refl _) hb.size (fun b _ h2 => hb.block b h2)
theorem TreL.isIn {lo hi : Nat} {W : World} {p : Nat} {t : List C} (h : TreL lo hi W p t) (hh : hi ≤ W.heap.size) : TreIn W p t := by
  obtain ⟨z, h1, h2, h3⟩ := h
  exact ⟨40, z, h1.kept (fun b h => Nat.lt_of_lt_of_le h.2 hh) (fun _ _ => rfl), h2, h3⟩
/-- A tree of these places, or nil where they are none. -/
def Lk (lo : Nat) (w : World) (o : Option Nat) (t : List C) : Prop := (trm t = true ∧ ∃ p, o = some p ∧ TreL lo w.heap.size w p t) ∨ (trm t = false ∧ o = none)
theorem Lk.below {lo : Nat} {w w' : World} {o : Option Nat} {t : List C} (h : Lk lo w o t) (hb : Below w.heap.size w w') : Lk lo w' o t :=
  h.imp_left fun ⟨h1, p, e, h2⟩ => ⟨h1, p, e, h2.below hb⟩
theorem treeOf_opt (lo : Nat) (ao : Option Addr) (cap : Nat) (t : List C) (w : World) (hlo : lo ≤ w.heap.size) (hcap : t.length ≤ cap) (hcm : cap ≤ maxLen) (hA : Row w ao t) (hF : Fit t) :
    Calls Try.prog 50 #[.slice ao t.length cap] w fun e w' => ∃ o, e = .returned (ptrV o) ∧ Lk lo w' o t ∧ Below w.heap.size w w' := by
  cases hy : trm t with
  | false =>
    refine (treeOf_no ao cap t w (Nat.le_trans hcap hcm) hA hF hy).mono ?_
    rintro e w' ⟨rfl, hb⟩
    exact ⟨none, rfl, .inr ⟨hy, rfl⟩, hb⟩
  | true =>
    refine (treeOf_yes 0 ao cap t w hcap hcm (Nat.zero_le _) hA hF hy).mono ?_
    rintro e w' ⟨p, z, rfl, hz, hnd, hT, hb⟩
    exact ⟨some p, rfl, .inl ⟨hy, p, rfl, z, (treL_up hT (trm_len hy).2).kept (W' := w') (fun b h => ⟨Nat.le_trans hlo h.1, h.2⟩) (fun _ _ => rfl), hz, (trm_len hy).2⟩, hb⟩
theorem l3T_fit (t : List C) : l3T t = (trm t && fitT t) := by
  have h : t.any farC = t.any (overC 8) := rfl
  unfold l3T fitT
  rw [h, Bool.and_assoc]

theorem three_new (w : World) (x0 x1 x2 : Value) (T : TypeId) : Below w.heap.size w (w.alloc (.cells #[x0, x1, x2] T)) ∧ (w.alloc (.cells #[x0, x1, x2] T)).cell? ⟨w.heap.size, 0, none⟩ = some x0 ∧ (w.alloc (.cells #[x0, x1, x2] T)).cell? ⟨w.heap.size, 1, none⟩ = some x1 ∧ (w.alloc (.cells #[x0, x1, x2] T)).cell? ⟨w.heap.size, 2, none⟩ = some x2 := by
  have hb : (w.alloc (.cells #[x0, x1, x2] T)).heap[w.heap.size]? = some (.cells #[x0, x1, x2] T) := World.alloc_heap_new w _
  refine ⟨cell_below _ _, ?_, ?_, ?_⟩ <;> (simp only [World.cell?]; rw [hb]; rfl)
/-- The first place's kind, where there is one. -/
def kind0 (t : List C) : Int := match t with | [] => 0 | c :: _ => c.k
theorem Lk.kind {lo : Nat} {w : World} {o : Option Nat} {t : List C} (h : Lk lo w o t) : ∀ p, o = some p → w.cell? ⟨p, 0, none⟩ = some (.int .i64 (kind0 t)) := by
  rintro p rfl
  rcases h with ⟨_, q, e, h⟩ | ⟨_, e⟩
  · cases e
    obtain ⟨c, rr, es, c0⟩ := (h.isIn (Nat.le_refl _)).top
    rw [es]; exact c0
  · cases e
theorem Lk.none {lo : Nat} {w : World} {o : Option Nat} {t : List C} (h : Lk lo w o t) : (o = Option.none) ↔ trm t = false := by
  rcases h with ⟨h1, p, e, _⟩ | ⟨h1, e⟩
  · subst e; simp [h1]
  · subst e; simp [h1]
theorem Lk.tree {lo : Nat} {w : World} {o : Option Nat} {t : List C} (h : Lk lo w o t) (ht : trm t = true) : ∃ p, o = some p ∧ TreL lo w.heap.size w p t := by
  rcases h with ⟨_, p, e, h2⟩ | ⟨h1, _⟩
  · exact ⟨p, e, h2⟩
  · rw [ht] at h1; cases h1
end Go.Proofs.Ytpfoaleehdiahaa
