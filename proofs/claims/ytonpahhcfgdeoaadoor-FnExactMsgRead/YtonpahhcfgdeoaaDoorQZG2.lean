/- The 5 errors, as the row lays them. -/
import Derived.Test.YtonpahhcfgdeoaaDoorQZ5Z6Z9
import Derived.Test.YtonpahhcfgdeoaaDoorQZ24Enter
import Derived.Test.YtonpahhcfgdeoaaDoorTie
import Derived.Test.YtonpahhcfgdeoaaDoorCards
import Derived.ChangeOld
import Derived.ShutString
import Derived.Below
import Derived.OpenVars
import Derived.ProofKit
import Derived.LaidMore
import Derived.OpenShut
import Derived.Stop.Joined
import Derived.SevenTiedAt
namespace Go.Proofs.YtonpahhcfgdeoaaDoor
open Go.ChangeShapes Go.WideShapes Go.ChangeAt Go.RowKit
set_option linter.unusedVariables false

theorem g_errEnds : Tryd.prog.globalNamed "loop.example/catechist/impl.errEnds" = some 4 := by kernel_rfl
theorem t_errEnds : (Tryd.prog.globals[4]?).map (·.type) = some 45 := by kernel_rfl
theorem g_errGoesOn : Tryd.prog.globalNamed "loop.example/catechist/impl.errGoesOn" = some 3 := by kernel_rfl
theorem t_errGoesOn : (Tryd.prog.globals[3]?).map (·.type) = some 45 := by kernel_rfl
theorem g_errTerm : Tryd.prog.globalNamed "loop.example/catechist/impl.errTerm" = some 2 := by kernel_rfl
theorem t_errTerm : (Tryd.prog.globals[2]?).map (·.type) = some 45 := by kernel_rfl
theorem g_errLength : Tryd.prog.globalNamed "loop.example/catechist/impl.errLength" = some 0 := by kernel_rfl
theorem t_errLength : (Tryd.prog.globals[0]?).map (·.type) = some 45 := by kernel_rfl
theorem g_errSum : Tryd.prog.globalNamed "loop.example/catechist/impl.errSum" = some 1 := by kernel_rfl
theorem t_errSum : (Tryd.prog.globals[1]?).map (·.type) = some 45 := by kernel_rfl

abbrev laidAll : List (String × DataW Unit) := [("loop.example/catechist/impl.errEnds", Rows.laid_loop_example_catechist_impl_errEnds), ("loop.example/catechist/impl.errGoesOn", Rows.laid_loop_example_catechist_impl_errGoesOn), ("loop.example/catechist/impl.errTerm", Rows.laid_loop_example_catechist_impl_errTerm), ("loop.example/catechist/impl.errLength", Rows.laid_loop_example_catechist_impl_errLength), ("loop.example/catechist/impl.errSum", Rows.laid_loop_example_catechist_impl_errSum)]

theorem one_iface {W : World} {n : String} {g g0 : Nat} {t0 : TypeId} {cs : Array Value} {f : Nat} {d : DataW Unit} {nm : String} {p : List MemPlace} {bs : Nat} {sp : Nat → Bool} {enc : TypeId × Value → Unit} (hg : Tryd.prog.globalNamed n = some g) (ht : (Tryd.prog.globals[g]?).map (·.type) = some 45) (hg0 : Tryd.prog.globalNamed n = some g0) (ht0 : (Tryd.prog.globals[g0]?).map (·.type) = some t0) (hv : W.var? Tryd.prog n = some cs)
    (hd : DataW.trod enc Tryd.prog W bs sp false f t0 cs.toList = some (.iface nm d, p)) : ∃ T u, W.cell? ⟨g, 0, none⟩ = some (.iface T u) := by
  obtain rfl := Option.some.inj (hg.symm.trans hg0)
  obtain rfl := Option.some.inj (ht.symm.trans ht0)
  obtain ⟨f1, u, v, e, _, _⟩ := iface_of_trod Tryd.underlying45 hd
  obtain ⟨l⟩ := cs
  have e' : l = [.iface u v] := e
  subst e'
  exact ⟨u, v, by simpa using World.var?_cell hg hv 0⟩

theorem sentinels_of_laid {W : World} (h : laidMetH Tryd.prog laidAll W) : (∃ T u, W.cell? ⟨4, 0, none⟩ = some (.iface T u)) ∧ (∃ T u, W.cell? ⟨3, 0, none⟩ = some (.iface T u)) ∧ (∃ T u, W.cell? ⟨2, 0, none⟩ = some (.iface T u)) ∧ (∃ T u, W.cell? ⟨0, 0, none⟩ = some (.iface T u)) ∧ (∃ T u, W.cell? ⟨1, 0, none⟩ = some (.iface T u)) := by
  rw [MakeChecks.laidMetH_plain _ _ _ (by kernel_rfl)] at h
  obtain ⟨ps, ⟨g0, t0, cs0, f0, p0, q0, hg0, ht0, hv0, hd0, ⟨g1, t1, cs1, f1, p1, q1, hg1, ht1, hv1, hd1, ⟨g2, t2, cs2, f2, p2, q2, hg2, ht2, hv2, hd2, ⟨g3, t3, cs3, f3, p3, q3, hg3, ht3, hv3, hd3, ⟨g4, t4, cs4, f4, p4, q4, hg4, ht4, hv4, hd4, _, _⟩, _⟩, _⟩, _⟩, _⟩, _, _⟩ := h
  exact ⟨one_iface g_errEnds t_errEnds hg0 ht0 hv0 hd0, one_iface g_errGoesOn t_errGoesOn hg1 ht1 hv1 hd1, one_iface g_errTerm t_errTerm hg2 ht2 hv2 hd2, one_iface g_errLength t_errLength hg3 ht3 hv3 hd3, one_iface g_errSum t_errSum hg4 ht4 hv4 hd4⟩

theorem vars_all {H : Type} {enc : TypeId × Value → H} {P : Program} {W : World} {sp : Nat → Bool} {n0 n1 n2 n3 n4 : String} {gs : List (DataW H)} {q : List MemPlace} (h : DataW.TrodVars enc P W sp [n0, n1, n2, n3, n4] gs q) : ∃ a b c d e, gs = [a, b, c, d, e] := by
  cases gs with
  | nil => exact h.elim
  | cons a gs =>
    obtain ⟨_, _, _, _, _, _, _, _, _, _, h, _⟩ := h
    cases gs with
    | nil => exact h.elim
    | cons b gs =>
      obtain ⟨_, _, _, _, _, _, _, _, _, _, h, _⟩ := h
      cases gs with
      | nil => exact h.elim
      | cons c gs =>
        obtain ⟨_, _, _, _, _, _, _, _, _, _, h, _⟩ := h
        cases gs with
        | nil => exact h.elim
        | cons d gs =>
          obtain ⟨_, _, _, _, _, _, _, _, _, _, h, _⟩ := h
          cases gs with
          | nil => exact h.elim
          | cons e gs =>
            obtain ⟨_, _, _, _, _, _, _, _, _, _, h, _⟩ := h
            cases gs with
            | nil => exact ⟨a, b, c, d, e, rfl⟩
            | cons z gs => exact h.elim

theorem door_met (os : Os) (args : Array Value) : laidMetH Tryd.prog laidAll ((World.doorLaid Tryd.prog 400 os).forCall (fun _ _ => 0) ⟨#[], args, []⟩).memory :=
  laidMetH_of_parts3 (fuel := 8) (laidMet_of_run' 8 (by kernel_rfl) (by kernel_rfl)) (by kernel_rfl) (by kernel_rfl)
end Go.Proofs.YtonpahhcfgdeoaaDoor
