/- A region that draws, inside a round of a range over a function: walked as outside of one, if nothing in it is deferred. -/
import Derived.Test.YtmiofbifffnocaaQT2
import Derived.OrdersHeld
namespace Go.Proofs.Ytmiofbifffnocaa
open Go.RowKit
set_option linter.unusedVariables false
set_option linter.unusedSimpArgs false

/-- What is asked behind a region that neither panics nor outgrows. -/
def Quiet (Q : Exit → Act → World → Prop) : Exit → Act → World → Prop := fun e a w => e = .normal ∧ Q .normal a w
theorem quiet_out {Q : Exit → Act → World → Prop} (h : LetsOut (Quiet Q)) : False := by
  obtain ⟨a, w, h, _⟩ := h
  cases h

theorem quiet_panic {Q : Exit → Act → World → Prop} {c : List PanicEntry} {a a' : Act} {w w' : World} (h : Quiet Q (.panic c) a w) : Quiet Q (.panic c) a' w' := by cases h.1

theorem upon_in {l n : Nat} {P : Program} {o : Oper} {a : Act} {K K' : Act → World → Prop} {Q : Exit → Act → World → Prop} (hK : ∀ a w, K a w → K' a w) (r : Result Next) (h : o.upon P a K (Quiet Q) r) : o.uponIn (Fence.wide.inRound l) n P a K' Q r := by
  cases r with
  | ok nx w' =>
    cases nx with
    | value v => exact hK _ _ h
    | skip => exact hK _ _ h
    | defer d => exact hK _ _ h
    | enter f args =>
      refine And.intro (fun hd => absurd hd (by simp [Fence.wide])) ?_
      refine CallsIn.inRound l ?_
      refine callsIn_wide.2 ?_
      refine Calls.mono h ?_
      intro e w'' he
      cases e with
      | returned v => exact hK _ _ he
      | panicked c => cases he.1
      | outgrown => exact (quiet_out he).elim
    | row row args =>
      refine And.intro (fun hd => absurd hd (by simp [Fence.wide])) ?_
      intro c cs _
      have hr : Rows P row args w' (fun v w'' => K (a.put o.dst v) w'') := h
      have hx := hr c cs
      rcases hx with ⟨v, w'', r, s⟩
      exact ⟨v, w'', hK _ _ r, stepsIn_wide.2 s⟩
    | _ => exact h.elim
  | halt x w' =>
    cases x with
    | panic v => cases h.1
    | _ => exact h.elim

theorem any_in {l n : Nat} {P : Program} {md : Region.Mode} {ops : Array Oper} {Q : Exit → Act → World → Prop} (hd : ∀ o ∈ ops, ∀ c, o.op ≠ .defer c) : ∀ (fuel : Nat) (listed : Array Bool) (a : Act) (w : World), wpAny P md ops (Quiet Q) fuel listed a w → wpAnyIn (Fence.wide.inRound l) n P md ops Q fuel listed a w
  | 0, listed, a, w, h => ⟨h.1, h.2.2⟩
  | fuel + 1, listed, a, w, h => ⟨fun h0 => (h.1 h0).2, fun i hi => by
      have h2 := h.2 i hi
      unfold wpOp at h2
      unfold wpOpIn
      cases ho : ops[i]? with
      | none => rw [ho] at h2; exact any_in hd fuel _ _ _ h2
      | some o =>
        rw [ho] at h2
        have hnd := hd o (Array.mem_of_getElem? ho)
        simp only at h2 ⊢
        split
        · rename_i hw
          rw [if_pos hw] at h2
          refine ⟨fun _ _ => trivial, ?_⟩
          rw [show (Fence.wide.inRound l).round = some l from rfl, Oper.semAt_some l _ _ hnd]
          rcases h2 with h2 | ⟨_, h2⟩
          · exact upon_in (fun a w h => any_in hd fuel _ a w h) _ h2
          · exact (quiet_out h2).elim
        · rename_i hw
          rw [if_neg hw] at h2
          exact ⟨fun _ _ => trivial, any_in hd fuel _ _ _ h2⟩⟩

/-- The beginning: a region in a round, under a condition on the world that the prover names. -/
theorem region_in {l n id : Nat} {P : Program} {ops : Array Oper} {Q : Exit → Act → World → Prop} {a : Act} {w : World} (S : World → Prop) (hm : P.follows .mixedOrders = true) (hd : ∀ o ∈ ops, ∀ c, o.op ≠ .defer c)
    (h : wpAnyH P .any ops (Quiet Q) S ops.size (Array.replicate ops.size false) a w.drew) : (Code.region id ops true).wpIn (Fence.wide.inRound l) n P Q a w :=
  wpIn_region_any hm (any_in hd _ _ _ _ (wpAny_of_held _ _ _ _ h))
end Go.Proofs.Ytmiofbifffnocaa
