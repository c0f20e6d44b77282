import Derived.Test.YtjinbinnjpjniaaDoorQW4
import Derived.Test.YtjinbinnjpjniaaDoorQW5
import Derived.Test.YtjinbinnjpjniaaDoorQW13
import Derived.Test.YtjinbinnjpjniaaDoorQYB4
import Derived.Test.YtjinbinnjpjniaaDoorQW10
import Derived.Test.YtjinbinnjpjniaaDoorQZ0YS1YX1
/- eqTrmCellS of whatever places; the walk of the law FnExactTrmOk. -/
namespace Go.Proofs.YtjinbinnjpjniaaDoor
open Go.RowKit
set_option linter.unusedVariables false
set_option linter.unusedSimpArgs false

set_option maxHeartbeats 400000 in
theorem eqTrmCellS_far (ao bo : Option Addr) (n m cap cap' : Nat) (w : World) (hl : n ≠ m) :
    Calls Tryd.prog 18 #[.slice ao n cap, .slice bo m cap'] w fun e w' => e = .returned (.bool false) ∧ Below w.heap.size w w' := by
  have hne : ((n : Int) != (m : Int)) = true := by rw [bne_iff_ne]; omega
  go_enter Tryd.func18, Tryd.ntmps18
  go_wp2
  go_ret
  exact ⟨rfl, Below.refl _ _⟩

set_option maxHeartbeats 400000 in
theorem eqTrmCellS_none (ao bo : Option Addr) (cap cap' : Nat) (w : World) :
    Calls Tryd.prog 18 #[.slice ao 0 cap, .slice bo 0 cap'] w fun e w' => e = .returned (.bool true) ∧ Below w.heap.size w w' := by
  go_enter Tryd.func18, Tryd.ntmps18
  go_wp2
  refine wp_loop_rounds 1 ?_
  rw [rounds_succ]
  go_wp2
  go_ret
  exact ⟨rfl, Below.refl _ _⟩

/-- Whether two lists of places are the same. -/
theorem eqTrmCellS_any (ao bo : Option Addr) (cap cap' : Nat) (t u : List C) (w : World) (hm : t.length ≤ maxLen) (hA : Row w ao t) (hU : Row w bo u) :
    Calls Tryd.prog 18 #[.slice ao t.length cap, .slice bo u.length cap'] w fun e w' => e = .returned (.bool (sameS t u)) ∧ Below w.heap.size w w' := by
  by_cases hl : t.length = u.length
  · rcases hA with rfl | ⟨b, off, rfl, hA⟩
    · have hu : u = [] := List.length_eq_zero_iff.1 hl.symm
      subst hu
      exact eqTrmCellS_none ao bo cap cap' w
    · rcases hU with rfl | ⟨b', off', rfl, hU⟩
      · have ht : t = [] := List.length_eq_zero_iff.1 hl
        subst ht
        exact eqTrmCellS_none _ bo cap cap' w
      · exact eqTrmCellS_some b off cap b' off' cap' t u w hm hA hU hl
  · rw [sameS_no (fun h => hl (by rw [h]))]
    exact eqTrmCellS_far ao bo _ _ cap cap' w hl

theorem row_of_own {w : World} {base e g cap : Nat} {t : List C} (h : w.ownsRow base e 3 (.slice (some ⟨g, 0, none⟩) t.length cap) t.length (flat t)) : Row w (some ⟨g, 0, none⟩) t :=
  .inr ⟨g, 0, rfl, owns_at h rfl⟩

end Go.Proofs.YtjinbinnjpjniaaDoor

/- The walk of the law FnExactTrmFree. -/
namespace Go.Proofs.YtjinbinnjpjniaaDoor
open Go.RowKit
set_option linter.unusedVariables false
set_option linter.unusedSimpArgs false

theorem toC {w' : World} {base : Nat} {g n : Nat} {t : List C} (h : w'.ownsRow base 59 3 (.slice (some ⟨g, 0, none⟩) t.length t.length) t.length (flat t)) : OwnC w' base (.slice (some ⟨g, 0, none⟩) t.length t.length) t := h

end Go.Proofs.YtjinbinnjpjniaaDoor

/- The program's TrmBytes; the walk of FnExactTrmBytes. -/
namespace Go.Proofs.YtjinbinnjpjniaaDoor
open Go.RowKit
set_option linter.unusedVariables false
set_option linter.unusedSimpArgs false
attribute [-go_sem] Go.Builtin.append_

set_option maxRecDepth 100000 in
set_option maxHeartbeats 1000000 in
theorem implTrmBytes_any (ao : Option Addr) (cap : Nat) (t : List C) (w : World) (hm : t.length ≤ maxLen) (hR : Row w ao t) (hF : Fit t) :
    Calls Tryd.prog 8 #[.slice ao t.length cap] w fun e w' => ∃ v, e = .returned v ∧ OwnY w' w.heap.size v (encT t) ∧ Below w.heap.size w w' := by
  have HT := hide (TrmOk_any ao cap t w hm hR hF)
  cases ht : trm t with
  | false =>
    have e : encT t = [] := by simp [encT, ht]
    rw [ht] at HT
    rw [e]
    clear e ht
    go_enter Tryd.func8, Tryd.ntmps8
    go_wp2_with fail
    refine (unhide HT).mono ?_
    rintro e w1 ⟨rfl, hb1⟩
    go_wp2
    go_ret
    exact ⟨_, rfl, World.ownsRow_nil _ _ _ _, hb1⟩
  | true =>
    have e : encT t = [(t.length : Int)] ++ encL t := by simp [encT, ht]
    have hti := (trm_iff t).1 ht
    rw [ht] at HT
    rw [e]
    rcases hR with rfl | ⟨b, off, rfl, hA⟩
    · rw [trm_nil] at ht; cases ht
    · have hbl : b < w.heap.size := hA.lt (by omega)
      have HA := hide (fun (w1 : World) (hb1 : Below w.heap.size w w1) => appendTerm_any w.heap.size (.slice none 0 0) [] b off cap t w1 (World.ownsRow_nil _ _ _ _) hb1.size (by simp) (hA.below hb1) hbl hti.2.2.1 hti.2.1)
      clear e ht hti hA
      go_enter Tryd.func8, Tryd.ntmps8
      go_wp2_with fail
      refine (unhide HT).mono ?_
      rintro e w1 ⟨rfl, hb1⟩
      have H1 := hide (unhide HA w1 hb1)
      go_wp2_with fail
      refine (unhide H1).mono ?_
      rintro e w2 ⟨v, rfl, ho, hb2⟩
      go_wp2
      go_ret
      exact ⟨_, rfl, by simpa using ho, hb1.trans hb2⟩

theorem markByteS_one (ao : Option Addr) (cap : Nat) (z : List Int) (base : Nat) (w : World) (hm : z.length ≤ 1048576) (hA : OwnY w base (.slice ao z.length cap) z) :
    Calls Tryd.prog 20 #[.slice ao z.length cap, .int .i64 1] w fun e w' => e = .returned (.int .i64 (1 + z.length)) ∧
      OwnY w' base (.slice ao z.length cap) (marksY z.length 1) ∧ w.grownBy w' (Value.slice ao z.length cap).ownBlock :=
  markByteS_any ao cap z 1 base w (by omega) (by omega) hA
end Go.Proofs.YtjinbinnjpjniaaDoor
