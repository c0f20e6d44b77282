/- The walk of FnExactMsgSum. -/
import Derived.Test.YtjinbinnjpjniaaYS1
import Derived.Test.YtjinbinnjpjniaaYW1
namespace Go.Proofs.Ytjinbinnjpjniaa
open Go.RowKit
set_option linter.unusedVariables false
set_option linter.unusedSimpArgs false

theorem rowY_of_own {w : World} {base g : Nat} {n cap : Nat} {z : List Int} (h : w.ownsRow base 5 1 (.slice (some ⟨g, 0, none⟩) n cap) n (bys z)) (hn : n = z.length) : RowY w (some ⟨g, 0, none⟩) z := .inr ⟨g, 0, rfl, ownsY_at h hn⟩

set_option maxRecDepth 100000 in
set_option maxHeartbeats 1000000 in
theorem FnExactMsgSum_walk (ao : Option Addr) (len cap : Nat) (zf : Nat → Int) (w : World) (h : Bin w ao len cap zf) :
    Calls Try.prog 5 #[.slice ao len cap] w fun e w' => e = .returned (.bool true) ∧ Below w.heap.size w w' := by
  obtain ⟨z, rfl, hy, hR, hc, hm⟩ := h.list
  have hmx : z.length ≤ 9223372036854775807 := by unfold maxLen at hm; omega
  clear h
  by_cases hbig : z.length ≤ 1048576
  · have hml : z.length ≤ maxLen := by unfold maxLen; omega
    have HTO := hide (fun (W : World) (hW : Below w.heap.size w W) => toByteS_any ao cap z W hbig (hR.below hW))
    go_enter Try.func5, Try.ntmps5
    go_wp2_with fail
    refine (unhide HTO w (Below.refl _ _)).mono ?_
    rintro e w1 ⟨rfl, ho1, hb1⟩
    go_wp2_with fail
    refine (specMsgSum_any _ _ z w1 hml (rowY_of_own ho1 rfl) hy).mono ?_
    rintro e w2 ⟨rfl, rfl⟩
    clear ho1
    obtain ⟨s, hs⟩ : ∃ s, s = sumL z := ⟨_, rfl⟩
    have HS := hide hs
    rw [← hs]
    clear hs
    go_wp2_with fail
    refine (unhide HTO w2 hb1).mono ?_
    rintro e w3 ⟨rfl, ho3, hb3⟩
    have hB3 := bstep hb1 hb3
    generalize w2.heap.size = X at ho3 ⊢
    go_wp2_with fail
    refine (implMsgSum_any _ _ z w3 hml (rowY_of_own ho3 rfl) hy).mono ?_
    rw [← unhide HS]
    rintro e w4 ⟨rfl, rfl⟩
    have hss : (s != s) = false := by simp
    go_wp2_with fail
    refine (unhide HTO w4 hB3).mono ?_
    rintro e w5 ⟨rfl, ho5, hb5⟩
    have hB5 := bstep hB3 hb5
    generalize w4.heap.size = Y at ho5 ⊢
    go_wp2_with fail
    refine (eqByteS_any (some ⟨X, 0, none⟩) (some ⟨Y, 0, none⟩) z.length z.length z z w5 hml ((rowY_of_own ho3 rfl).below hb5) (rowY_of_own ho5 rfl)).mono ?_
    rw [decide_eq_yes rfl]
    rintro e w6 ⟨rfl, hb6⟩
    go_wp2
    go_ret
    exact ⟨rfl, bstep hB5 hb6⟩
  · go_enter Try.func5, Try.ntmps5
    go_wp2
    go_ret
    exact ⟨rfl, Below.refl _ _⟩
end Go.Proofs.Ytjinbinnjpjniaa
