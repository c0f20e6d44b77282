import Derived.Test.YtpfcjdabfmelaaaDoorQYM
import Derived.Test.YtpfcjdabfmelaaaDoorQW9W11W12
import Derived.Test.YtpfcjdabfmelaaaDoorQYW1
import Derived.Test.YtpfcjdabfmelaaaDoorQW6
import Derived.Test.YtpfcjdabfmelaaaDoorQW10W13
import Derived.Test.YtpfcjdabfmelaaaDoorQYB4
import Derived.Test.YtpfcjdabfmelaaaDoorQW5
/- MsgSum of the program and of the specification. -/
namespace Go.Proofs.YtpfcjdabfmelaaaDoor
open Go.RowKit
set_option linter.unusedVariables false
set_option linter.unusedSimpArgs false

/-- A number made of bytes. -/
def sumL (z : List Int) : Int := z.foldl (fun s x => (s * 257 + x) % 65521) 1

theorem sumL_step {z : List Int} {k : Nat} (h : k < z.length) : sumL (z.take (k + 1)) = (sumL (z.take k) * 257 + z[k]) % 65521 := by
  unfold sumL
  rw [List.take_succ_eq_append_getElem h, List.foldl_append]
  rfl
theorem sumL_in_from : ∀ (z : List Int) (s : Int), 0 ≤ s ∧ s ≤ 65520 → 0 ≤ z.foldl (fun s x => (s * 257 + x) % 65521) s ∧ z.foldl (fun s x => (s * 257 + x) % 65521) s ≤ 65520
  | [], s, h => h
  | x :: z, s, h => sumL_in_from z ((s * 257 + x) % 65521) ⟨Int.emod_nonneg _ (by omega), by have := Int.emod_lt_of_pos (s * 257 + x) (show (0 : Int) < 65521 by omega); omega⟩
theorem sumL_in (z : List Int) : 0 ≤ sumL z ∧ sumL z ≤ 65520 := sumL_in_from z 1 (by omega)

theorem tmod_pos {a b : Int} (h : 0 ≤ a) : a.tmod b = a % b := Int.tmod_eq_emod_of_nonneg h

end Go.Proofs.YtpfcjdabfmelaaaDoor

/- The walk of FnExactMsgSum. -/
namespace Go.Proofs.YtpfcjdabfmelaaaDoor
open Go.RowKit
set_option linter.unusedVariables false
set_option linter.unusedSimpArgs false

theorem rowY_of_own {w : World} {base g : Nat} {n cap : Nat} {z : List Int} (h : w.ownsRow base 5 1 (.slice (some ⟨g, 0, none⟩) n cap) n (bys z)) (hn : n = z.length) : RowY w (some ⟨g, 0, none⟩) z := .inr ⟨g, 0, rfl, ownsY_at h hn⟩

end Go.Proofs.YtpfcjdabfmelaaaDoor

/- The walk of the law FnExactTrmFree. -/
namespace Go.Proofs.YtpfcjdabfmelaaaDoor
open Go.RowKit
set_option linter.unusedVariables false
set_option linter.unusedSimpArgs false

theorem toC {w' : World} {base : Nat} {g n : Nat} {t : List C} (h : w'.ownsRow base 38 3 (.slice (some ⟨g, 0, none⟩) t.length t.length) t.length (flat t)) : OwnC w' base (.slice (some ⟨g, 0, none⟩) t.length t.length) t := h

end Go.Proofs.YtpfcjdabfmelaaaDoor

/- The program's TrmBytes; the walk of FnExactTrmBytes. -/
namespace Go.Proofs.YtpfcjdabfmelaaaDoor
open Go.RowKit
set_option linter.unusedVariables false
set_option linter.unusedSimpArgs false
attribute [-go_sem] Go.Builtin.append_

set_option maxRecDepth 100000 in
set_option maxHeartbeats 1000000 in
theorem implTrmBytes_any (ao : Option Addr) (cap : Nat) (t : List C) (w : World) (hm : t.length ≤ maxLen) (hR : Row w ao t) (hF : Fit t) :
    Calls Tryd.prog 12 #[.slice ao t.length cap] w fun e w' => ∃ v, e = .returned v ∧ OwnY w' w.heap.size v (encT t) ∧ Below w.heap.size w w' := by
  have HT := hide (TrmOk_any ao cap t w hm hR hF)
  cases ht : trm t with
  | false =>
    have e : encT t = [] := by simp [encT, ht]
    rw [ht] at HT
    rw [e]
    clear e ht
    go_enter Tryd.func12, Tryd.ntmps12
    go_wp2_with fail
    refine (unhide HT).mono ?_
    rintro e w1 ⟨rfl, hb1⟩
    go_wp2
    go_ret
    exact ⟨_, rfl, World.ownsRow_nil _ _ _ _, hb1⟩
  | true =>
    have e : encT t = [(t.length : Int)] ++ encL t := by simp [encT, ht]
    have hti := (trm_iff t).1 ht
    rw [ht] at HT
    rw [e]
    rcases hR with rfl | ⟨b, off, rfl, hA⟩
    · rw [trm_nil] at ht; cases ht
    · have hbl : b < w.heap.size := hA.lt (by omega)
      have HA := hide (fun (w1 : World) (hb1 : Below w.heap.size w w1) => appendTerm_any w.heap.size (.slice none 0 0) [] b off cap t w1 (World.ownsRow_nil _ _ _ _) hb1.size (by simp) (hA.below hb1) hbl hti.2.2.1 hti.2.1)
      clear e ht hti hA
      go_enter Tryd.func12, Tryd.ntmps12
      go_wp2_with fail
      refine (unhide HT).mono ?_
      rintro e w1 ⟨rfl, hb1⟩
      have H1 := hide (unhide HA w1 hb1)
      go_wp2_with fail
      refine (unhide H1).mono ?_
      rintro e w2 ⟨v, rfl, ho, hb2⟩
      go_wp2
      go_ret
      exact ⟨_, rfl, by simpa using ho, hb1.trans hb2⟩

end Go.Proofs.YtpfcjdabfmelaaaDoor
