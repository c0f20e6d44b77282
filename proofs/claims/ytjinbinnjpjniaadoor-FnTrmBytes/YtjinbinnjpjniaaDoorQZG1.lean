/- The three errors of the reader, as the row lays them. -/
import Derived.Test.YtjinbinnjpjniaaDoorQZ6
import Derived.Test.YtjinbinnjpjniaaDoorQEnter
import Derived.Test.YtjinbinnjpjniaaDoorTie
import Derived.Test.YtjinbinnjpjniaaDoorCards
import Derived.ChangeOld
import Derived.ShutString
import Derived.Below
import Derived.OpenVars
import Derived.ProofKit
import Derived.LaidMore
import Derived.OpenShut
import Derived.Stop.Joined
import Derived.SevenTiedAt
namespace Go.Proofs.YtjinbinnjpjniaaDoor
open Go.ChangeShapes Go.WideShapes Go.ChangeAt Go.RowKit
set_option linter.unusedVariables false

theorem gEnds : Tryd.prog.globalNamed "loop.example/catechist/impl.errEnds" = some 4 := by kernel_rfl
theorem gOn : Tryd.prog.globalNamed "loop.example/catechist/impl.errGoesOn" = some 1 := by kernel_rfl
theorem gTerm : Tryd.prog.globalNamed "loop.example/catechist/impl.errTerm" = some 0 := by kernel_rfl
theorem tEnds : (Tryd.prog.globals[4]?).map (·.type) = some 52 := by kernel_rfl
theorem tOn : (Tryd.prog.globals[1]?).map (·.type) = some 52 := by kernel_rfl
theorem tTerm : (Tryd.prog.globals[0]?).map (·.type) = some 52 := by kernel_rfl

abbrev laid3 : List (String × DataW Unit) := [("loop.example/catechist/impl.errEnds", Rows.laid_loop_example_catechist_impl_errEnds), ("loop.example/catechist/impl.errGoesOn", Rows.laid_loop_example_catechist_impl_errGoesOn), ("loop.example/catechist/impl.errTerm", Rows.laid_loop_example_catechist_impl_errTerm)]

theorem one_iface {W : World} {n : String} {g g0 : Nat} {t0 : TypeId} {cs : Array Value} {f : Nat} {d : DataW Unit} {nm : String} {p : List MemPlace} {bs : Nat} {sp : Nat → Bool} {enc : TypeId × Value → Unit} (hg : Tryd.prog.globalNamed n = some g) (ht : (Tryd.prog.globals[g]?).map (·.type) = some 52) (hg0 : Tryd.prog.globalNamed n = some g0) (ht0 : (Tryd.prog.globals[g0]?).map (·.type) = some t0) (hv : W.var? Tryd.prog n = some cs)
    (hd : DataW.trod enc Tryd.prog W bs sp false f t0 cs.toList = some (.iface nm d, p)) : ∃ T u, W.cell? ⟨g, 0, none⟩ = some (.iface T u) := by
  obtain rfl := Option.some.inj (hg.symm.trans hg0)
  obtain rfl := Option.some.inj (ht.symm.trans ht0)
  obtain ⟨f1, u, v, e, _, _⟩ := iface_of_trod Tryd.underlying52 hd
  obtain ⟨l⟩ := cs
  have e' : l = [.iface u v] := e
  subst e'
  exact ⟨u, v, by simpa using World.var?_cell hg hv 0⟩

theorem gl_of_laid {W : World} (h : laidMetH Tryd.prog laid3 W) : Gl W := by
  rw [MakeChecks.laidMetH_plain _ _ _ (by kernel_rfl)] at h
  obtain ⟨ps, ⟨g0, t0, cs0, f0, p0, q0, hg0, ht0, hv0, hd0, ⟨g1, t1, cs1, f1, p1, q1, hg1, ht1, hv1, hd1, ⟨g2, t2, cs2, f2, p2, q2, hg2, ht2, hv2, hd2, _, _⟩, _⟩, _⟩, _, _⟩ := h
  intro g hgl
  rcases hgl with rfl | rfl | rfl
  · exact one_iface gEnds tEnds hg0 ht0 hv0 hd0
  · exact one_iface gTerm tTerm hg2 ht2 hv2 hd2
  · exact one_iface gOn tOn hg1 ht1 hv1 hd1

theorem three_vars {H : Type} {enc : TypeId × Value → H} {P : Program} {W : World} {sp : Nat → Bool} {n1 n2 n3 : String} {gs : List (DataW H)} {q : List MemPlace} (h : DataW.TrodVars enc P W sp [n1, n2, n3] gs q) : ∃ a b c, gs = [a, b, c] := by
  cases gs with
  | nil => exact h.elim
  | cons a gs =>
    obtain ⟨_, _, _, _, _, _, _, _, _, _, h, _⟩ := h
    cases gs with
    | nil => exact h.elim
    | cons b gs =>
      obtain ⟨_, _, _, _, _, _, _, _, _, _, h, _⟩ := h
      cases gs with
      | nil => exact h.elim
      | cons c gs =>
        obtain ⟨_, _, _, _, _, _, _, _, _, _, h, _⟩ := h
        cases gs with
        | nil => exact ⟨a, b, c, rfl⟩
        | cons d gs => exact h.elim

theorem door_met (os : Os) (args : Array Value) : laidMetH Tryd.prog laid3 ((World.doorLaid Tryd.prog 400 os).forCall (fun _ _ => 0) ⟨#[], args, []⟩).memory :=
  laidMetH_of_parts3 (fuel := 8) (laidMet_of_run' 8 (by kernel_rfl) (by kernel_rfl)) (by kernel_rfl) (by kernel_rfl)
end Go.Proofs.YtjinbinnjpjniaaDoor
