/- Marks that loops over iterators leave behind, any number of them: what keeps them, and how a function leaves past them. -/
import Derived.RangeFuncWrites
import Derived.RangeFuncLeaves
import Derived.RangeFuncCalls
import Derived.RangeFuncBox
namespace Go.Proofs.Ytmiofbifffnocaa
open Go.RowKit
set_option linter.unusedVariables false

/-- A loop's mark. -/
def markD (D : Nat) : Deferred := { target := .collected D, args := #[] }

/-- Deferred calls that are marks alone: each one's block is open, they part, and all of them lie from base on, below hi. -/
def Marked (base hi : Nat) (W : World) (ds : List Deferred) : Prop := ∃ Ds : List Nat, ds = Ds.map markD ∧ Ds.Nodup ∧ ∀ D ∈ Ds, base ≤ D ∧ D < hi ∧ W.heap[D]? = some (.deferred (some []))

theorem Marked.nil (base hi : Nat) (W : World) : Marked base hi W [] := ⟨[], rfl, .nil, fun _ h => by cases h⟩
theorem Marked.push {base hi hi' : Nat} {W : World} {ds : List Deferred} (h : Marked base hi W ds) {D : Nat} (hb : base ≤ D) (h1 : hi ≤ D) (h2 : D < hi') (hD : W.heap[D]? = some (.deferred (some []))) : Marked base hi' W ({ target := .collected D, args := #[] } :: ds) := by
  obtain ⟨Ds, rfl, hn, ha⟩ := h
  refine ⟨D :: Ds, rfl, List.nodup_cons.2 ⟨fun hm => ?_, hn⟩, fun D' hm => ?_⟩
  · have := (ha D hm).2.1
    omega
  · rcases List.mem_cons.1 hm with rfl | hm
    · exact ⟨hb, h2, hD⟩
    · obtain ⟨a, b, c⟩ := ha D' hm
      exact ⟨a, by omega, c⟩
theorem Marked.mono {base hi hi' : Nat} {W : World} {ds : List Deferred} (h : Marked base hi W ds) (hh : hi ≤ hi') : Marked base hi' W ds := by
  obtain ⟨Ds, e, hn, ha⟩ := h
  exact ⟨Ds, e, hn, fun D hm => ⟨(ha D hm).1, Nat.lt_of_lt_of_le (ha D hm).2.1 hh, (ha D hm).2.2⟩⟩
theorem Marked.keeps {base hi : Nat} {W W' : World} {ds : List Deferred} (h : Marked base hi W ds) (hk : KeepsOthers W W') : Marked base hi W' ds := by
  obtain ⟨Ds, e, hn, ha⟩ := h
  exact ⟨Ds, e, hn, fun D hm => ⟨(ha D hm).1, (ha D hm).2.1, hk.same _ _ (ha D hm).2.2 rfl⟩⟩
theorem Marked.below {base hi : Nat} {W W' : World} {ds : List Deferred} (h : Marked base hi W ds) (hk : ∀ k, k < hi → W'.heap[k]? = W.heap[k]?) : Marked base hi W' ds := by
  obtain ⟨Ds, e, hn, ha⟩ := h
  exact ⟨Ds, e, hn, fun D hm => ⟨(ha D hm).1, (ha D hm).2.1, (hk _ (ha D hm).2.1).trans (ha D hm).2.2⟩⟩
theorem Marked.ownFrom {β : Type} {base hi B : Nat} (hB : hi ≤ B) (ds : List Deferred) : OwnFrom B (fun (_ : β) W => Marked base hi W ds) := by
  intro s W W' row h hg hr
  obtain ⟨Ds, e, hn, ha⟩ := h
  refine ⟨Ds, e, hn, fun D hm => ?_⟩
  obtain ⟨a, b, c⟩ := ha D hm
  refine ⟨a, b, (hg.block D (Array.getElem?_eq_some_iff.1 c).1 (fun er => ?_)).trans c⟩
  have := (hr D er.symm).1
  omega

/-- A function leaves past its marks: what abides that open blocks from base on are shut holds behind. -/
theorem leaves_marks {F : Fence} {n : Nat} {P : Program} {fn : Func} {tmps : Array Value} {R : Ending → World → Prop} {base hi : Nat} (G : World → Prop)
    (hG : ∀ W D, G W → base ≤ D → W.heap[D]? = some (.deferred (some [])) → G (W.putObj D (.deferred none)))
    (hR : ∀ W, G W → ∃ v, (results fn tmps).run P W = .ok v W ∧ R (.returned v) W) : ∀ (Ds : List Nat) (W : World), Ds.Nodup → (∀ D ∈ Ds, base ≤ D ∧ D < hi ∧ W.heap[D]? = some (.deferred (some []))) → G W →
    LeavesInM F n P fn tmps R (Ds.map markD) .returning W
  | [], W, _, _, hg => hR W hg
  | D :: Ds, W, hn, ha, hg => by
    obtain ⟨h1, h2⟩ := List.nodup_cons.1 hn
    obtain ⟨a, b, c⟩ := ha D (by simp)
    refine ⟨by simp, .inl ⟨D, _, rfl, run_takeDeferred c, leaves_marks (hi := hi) G hG hR Ds _ h2 (fun D' hm => ?_) (hG W D hg a c)⟩⟩
    obtain ⟨a', b', c'⟩ := ha D' (by simp [hm])
    exact ⟨a', b', (World.putObj_heap_other (fun e => h1 (by subst e; exact hm))).trans c'⟩

theorem Marked.leaves {F : Fence} {n : Nat} {P : Program} {fn : Func} {tmps : Array Value} {R : Ending → World → Prop} {base hi : Nat} {W : World} {ds : List Deferred} (h : Marked base hi W ds) (G : World → Prop)
    (hG : ∀ W D, G W → base ≤ D → W.heap[D]? = some (.deferred (some [])) → G (W.putObj D (.deferred none)))
    (hR : ∀ W, G W → ∃ v, (results fn tmps).run P W = .ok v W ∧ R (.returned v) W) (hg : G W) : LeavesInM F n P fn tmps R ds .returning W := by
  obtain ⟨Ds, rfl, hn, ha⟩ := h
  exact leaves_marks G hG hR Ds W hn ha hg
end Go.Proofs.Ytmiofbifffnocaa
