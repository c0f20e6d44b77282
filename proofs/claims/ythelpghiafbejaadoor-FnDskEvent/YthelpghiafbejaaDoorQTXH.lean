/- What the rows over TrmRead lay: the tables, and the two errors of strconv. -/
import Derived.Test.YthelpghiafbejaaDoorQTX5T1
import Derived.Test.YthelpghiafbejaaDoorQRR7
import Derived.Test.YthelpghiafbejaaDoorQEnter
import Derived.Test.YthelpghiafbejaaDoorTie
import Derived.Test.YthelpghiafbejaaDoorCards
import Derived.ChangeOld
import Derived.ShutString
import Derived.Below
import Derived.OpenVars
import Derived.ProofKit
import Derived.LaidMore
import Derived.OpenShut
import Derived.Stop.Joined
import Derived.SevenTiedAt
import Derived.Lib.LaidTab
import Derived.Stop.LaidErr
namespace Go.Proofs.YthelpghiafbejaaDoor
open Go.ChangeShapes Go.WideShapes Go.ChangeAt Go.RowKit
set_option linter.unusedVariables false

theorem gTen5 : Tryd.prog.globalNamed "internal/strconv.uint64pow10" = some 2 := by kernel_rfl
theorem tTen5 : (Tryd.prog.globals[2]?).map (·.type) = some 90 := by kernel_rfl
theorem gRng : Tryd.prog.globalNamed "strconv.ErrRange" = some 1 := by kernel_rfl
theorem tRng : (Tryd.prog.globals[1]?).map (·.type) = some 51 := by kernel_rfl
theorem gSyn : Tryd.prog.globalNamed "strconv.ErrSyntax" = some 0 := by kernel_rfl
theorem tSyn : (Tryd.prog.globals[0]?).map (·.type) = some 51 := by kernel_rfl
abbrev laidAll5 : List (String × DataW Unit) := [("math/bits.deBruijn32tab", Rows.laid_math_bits_deBruijn32tab), ("math/bits.deBruijn64tab", Rows.laid_math_bits_deBruijn64tab), ("internal/strconv.uint64pow10", Rows.laid_internal_strconv_uint64pow10), ("strconv.ErrRange", Rows.laid_strconv_ErrRange), ("strconv.ErrSyntax", Rows.laid_strconv_ErrSyntax)]
theorem ten_data5 : (Rows.laid_internal_strconv_uint64pow10 : DataW Unit) = Go.Lib.tabData .u64 Go.Lib.pow10Tab := by rfl

theorem ten_of_laid5 {W : World} (h : laidMetH Tryd.prog laidAll5 W) : TenT W := by
  rw [MakeChecks.laidMetH_plain _ _ _ (by kernel_rfl)] at h
  have h3 := laidMet.tail (laidMet.tail h)
  rw [ten_data5] at h3
  exact Go.Lib.tabIs_of_head gTen5 tTen5 Tryd.underlying90 Tryd.underlying71 (by kernel_rfl) (by kernel_rfl) h3

theorem one_iface5 {W : World} {n : String} {g g0 : Nat} {t0 : TypeId} {cs : Array Value} {f : Nat} {d : DataW Unit} {nm : String} {p : List MemPlace} {bs : Nat} {sp : Nat → Bool} {enc : TypeId × Value → Unit} (hg : Tryd.prog.globalNamed n = some g) (ht : (Tryd.prog.globals[g]?).map (·.type) = some 51) (hg0 : Tryd.prog.globalNamed n = some g0) (ht0 : (Tryd.prog.globals[g0]?).map (·.type) = some t0) (hv : W.var? Tryd.prog n = some cs)
    (hd : DataW.trod enc Tryd.prog W bs sp false f t0 cs.toList = some (.iface nm d, p)) : ∃ T u, W.cell? ⟨g, 0, none⟩ = some (.iface T u) := by
  obtain rfl := Option.some.inj (hg.symm.trans hg0)
  obtain rfl := Option.some.inj (ht.symm.trans ht0)
  obtain ⟨f1, u, v, e, _, _⟩ := iface_of_trod Tryd.underlying51 hd
  obtain ⟨l⟩ := cs
  have e' : l = [.iface u v] := e
  subst e'
  exact ⟨u, v, by simpa using World.var?_cell hg hv 0⟩


theorem err_of_laid5 {W : World} (h : laidMetH Tryd.prog laidAll5 W) : ErrG W := by
  rw [MakeChecks.laidMetH_plain _ _ _ (by kernel_rfl)] at h
  have h5 := laidMet.tail (laidMet.tail (laidMet.tail h))
  obtain ⟨ps, ⟨g0, t0, cs0, f0, p0, q0, hg0, ht0, hv0, hd0, ⟨g1, t1, cs1, f1, p1, q1, hg1, ht1, hv1, hd1, _, _⟩, _⟩, _, _⟩ := h5
  obtain ⟨T0, u0, c0⟩ := one_iface5 gRng tRng hg0 ht0 hv0 hd0
  obtain ⟨T1, u1, c1⟩ := one_iface5 gSyn tSyn hg1 ht1 hv1 hd1
  exact ⟨⟨_, c1, .inr ⟨_, _, rfl⟩⟩, ⟨_, c0, .inr ⟨_, _, rfl⟩⟩⟩

theorem door_met5 (os : Os) (args : Array Value) : laidMetH Tryd.prog laidAll5 ((World.doorLaid Tryd.prog 400 os).forCall (fun _ _ => 0) ⟨#[], args, []⟩).memory :=
  laidMetH_of_parts3 (fuel := 200) (laidMet_of_run' 200 (by kernel_rfl) (by kernel_rfl)) (by kernel_rfl) (by kernel_rfl)
end Go.Proofs.YthelpghiafbejaaDoor
