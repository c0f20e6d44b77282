/- The walk of shifted: a tree anew, with its variables so many on. -/
import Derived.Test.YtpfoaleehdiahaaQSH0
import Derived.Test.YtpfoaleehdiahaaQPlain2T4
import Derived.Deep.RegionHeld3
import Derived.Deep.QuietTactic
import Derived.BigQuiet
namespace Go.Proofs.Ytpfoaleehdiahaa
open Go.RowKit Go.Shelf
set_option linter.unusedVariables false
set_option linter.unusedSimpArgs false
attribute [-go_sem] Go.Builtin.append_

theorem Node.setN {W : World} {p : Nat} {c : C} {v : Value} (x : Int) (h : Node W p c v) : Node (W.setCell ⟨p, 1, none⟩ (.int .i64 x)) p ⟨c.k, x, c.s⟩ v := by
  obtain ⟨hlt, hk⟩ := Array.getElem?_eq_some_iff.1 h
  show (W.heap.modify p _)[p]? = _
  rw [Array.getElem?_eq_getElem (by rw [Array.size_modify]; exact hlt), Array.getElem_modify_self, hk]
  rfl
theorem Node.frozenN {W : World} {p : Nat} {c : C} {v : Value} (h : Node W p c v) : W.frozen? ⟨p, 1, none⟩ = false := by simp [World.frozen?, show W.heap[p]? = _ from h]
theorem Kids.drew {w : World} {f : Nat} {c : C} {ks : List (List C)} {k : Nat} {v : Value} {zs : List (Nat × List (Nat × C))} {wr : World} (h : Kids w f c ks k v zs wr) : Kids w f c ks k v zs wr.drew := by
  obtain ⟨h1, h2, h3, h4, h5, h6, h7⟩ := h
  exact ⟨h1, h2, h3, h4, fun x hx => Tre.kept (S := Fr (w.heap.size + 1) wr.heap.size w.heap.size v) (W := wr) (W' := wr.drew) (fun _ h => h) (fun _ _ => rfl) (h5 x hx), h6, h7.drew⟩

/-- What shifted hands back. -/
def GotS (n : Int) (w : World) (f : Nat) (z : List (Nat × C)) (e : Ending) (w' : World) : Prop := ∃ q z', e = .returned (.pointer (some ⟨q, 0, none⟩)) ∧ z'.map (·.2) = z.map (fun x => shiftC n x.2) ∧ (z'.map (·.1)).Nodup ∧
  Tre (fun b => w.heap.size ≤ b ∧ b < w'.heap.size) w' f q z' ∧ Below w.heap.size w w'

end Go.Proofs.Ytpfoaleehdiahaa
