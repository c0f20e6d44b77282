/- What is drawn: places and a number (DrawTrmArg). -/
import Derived.Test.YtcbgpoofepchmaaD7
namespace Go.Proofs.Ytcbgpoofepchmaa
open Go.RowKit
set_option linter.unusedVariables false
set_option linter.unusedSimpArgs false

set_option maxRecDepth 100000 in
set_option maxHeartbeats 4000000 in
theorem drawTrmArg_any (ao : Option Addr) (len cap : Nat) (z : Nat → Int) (w : World) (h : Bin w ao len cap z) :
    Calls Try.prog 18 #[.slice ao len cap] w fun e w' => DrewN w e w' := by
  go_enter Try.func18, Try.ntmps18
  go_wp2_with fail
  refine (open_any ao len cap z _ h).mono ?_
  rintro e w1 ⟨rfl, hR1, hb1⟩
  have hlt := hR1.lt
  go_wp2_with (first | (go_at_call 54; refine (termOr_any w.heap.size 0 9 _ (by omega) (by omega) (by omega) hR1).mono ?_; rintro e w2 ⟨v, t, p2, rfl, hO2, hl1, hl2, hDc, hR2, hp2, hG2⟩; have HDc := hide hDc; clear hDc) | (go_at_call 55; refine (pick_any w.heap.size p2 5 _ (by omega) (by omega) (by omega) hR2).mono ?_; rintro e w3 ⟨r, rfl, hr0, hr1, hR3, hG3⟩))
  go_ret2
  exact drewN_fin hb1 hO2 hl2 (unhide HDc) hlt hG2 hG3 (WalkArith.wf_i64 (by omega))
end Go.Proofs.Ytcbgpoofepchmaa
