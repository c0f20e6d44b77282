/- The specification's TrmText at any places; the walk of FnExactTrmText. -/
import Derived.Test.YtoanmnmodlocgaaDoorQTX3
import Derived.Test.YtoanmnmodlocgaaDoorQTX7
import Derived.Test.YtoanmnmodlocgaaDoorQW6W7W18
import Derived.Test.YtoanmnmodlocgaaDoorQW5
namespace Go.Proofs.YtoanmnmodlocgaaDoor
open Go.RowKit
set_option linter.unusedVariables false
set_option linter.unusedSimpArgs false

set_option maxRecDepth 100000 in
set_option maxHeartbeats 1000000 in
theorem specTrmText_any (ao : Option Addr) (cap : Nat) (t : List C) (w : World) (hm : t.length ≤ maxLen) (hA : Row w ao t) (hF : Fit t) :
    Calls Tryd.prog 12 #[.slice ao t.length cap] w fun e w' => e = .returned (.string (textT t)) ∧ Below w.heap.size w w' := by
  cases ht : trm t with
  | false =>
    have H1 := hide (specTrmOk_any ao cap t w hm hA hF)
    rw [ht] at H1
    have HE := hide (show textT t = ByteArray.empty from by unfold textT; rw [ht]; rfl)
    clear hA hF
    go_enter Tryd.func12, Tryd.ntmps12
    go_wp2_with fail
    refine (unhide H1).mono ?_
    rintro e w1 ⟨rfl, hb1⟩
    go_wp2
    go_ret
    exact ⟨by rw [unhide HE]; rfl, hb1⟩
  | true =>
    have he : textT t = textOf wordB t := by unfold textT; rw [ht]; rfl
    rw [he]
    rcases hA with rfl | ⟨b, off, rfl, hA⟩
    · have := trm_len ht; simp at this
    · exact specTrmText_some b off cap t w hA ht hm

theorem tenB {w w' : World} (h : TenT w) (hb : Below w.heap.size w w') : TenT w' := h.below hb

set_option maxRecDepth 100000 in
set_option maxHeartbeats 4000000 in
theorem FnExactTrmText_walk (ao : Option Addr) (cap : Nat) (t : List C) (w : World) (hm : t.length ≤ maxLen) (hA : Row w ao t) (hF : Fit t) (hw : WfC t) (hT : TenT w) :
    Calls Tryd.prog 5 #[.slice ao t.length cap] w fun e w' => e = .returned (.bool true) ∧ Below w.heap.size w w' := by
  go_enter Tryd.func5, Tryd.ntmps5
  go_wp2_with fail
  refine (szTrmCellS_any ao cap t 1048576 _ hm hA hF (by omega) (by omega)).mono ?_
  rintro e w1 ⟨r, rfl, hr, hb1⟩
  by_cases hr0 : r < 0
  · go_wp2
    go_ret
    exact ⟨rfl, hb1⟩
  have hlen : t.length ≤ 1048576 := by omega
  have hml : t.length ≤ maxLen := by unfold maxLen; omega
  clear hr
  have HTO := hide (fun (W : World) (hW : Below w.heap.size w W) => toTrmCellS_any ao cap t W hlen (hA.below hW))
  have HS := hide (fun (g : Nat) (W : World) (hW : Row W (some ⟨g, 0, none⟩) t) => specTrmText_any (some ⟨g, 0, none⟩) t.length t W hm hW hF)
  have HI := hide (fun (g : Nat) (W : World) (hB : Below w.heap.size w W) (hW : Row W (some ⟨g, 0, none⟩) t) => implTrmText_any (some ⟨g, 0, none⟩) t.length t W (Nat.le_refl _) hml hW hF (hT.below hB))
  obtain ⟨u, hu⟩ : ∃ u, u = textT t := ⟨_, rfl⟩
  rw [← hu] at HS HI
  clear hA hF hw hT hu
  go_wp2_with fail
  refine (unhide HTO w1 hb1).mono ?_
  rintro e w2 ⟨rfl, ho2, hb2⟩
  have hB2 := bstep hb1 hb2
  have H2 := hide (unhide HS _ w2 (row_of_own ho2))
  clear ho2
  go_wp2_with fail
  refine (unhide H2).mono ?_
  rintro e w3 ⟨rfl, hb3⟩
  have hB3 := bstep hB2 hb3
  go_wp2_with fail
  refine (unhide HTO w3 hB3).mono ?_
  rintro e w4 ⟨rfl, ho4, hb4⟩
  have hB4 := bstep hB3 hb4
  have H4 := hide (unhide HI _ w4 hB4 (row_of_own ho4))
  have HO4 := hide ho4
  clear ho4
  go_wp2_with fail
  refine (unhide H4).mono ?_
  rintro e w5 ⟨rfl, hb5⟩
  have hB5 := bstep hB4 hb5
  go_wp2_with fail
  refine (unhide HTO w5 hB5).mono ?_
  rintro e w6 ⟨rfl, ho6, hb6⟩
  have hB6 := bstep hB5 hb6
  have o4 := own_below (own_below (unhide HO4) hb5) hb6
  have H6 := hide (eqTrmCellS_any (some ⟨w3.heap.size, 0, none⟩) (some ⟨w5.heap.size, 0, none⟩) t.length t.length t t w6 hm (row_of_own o4) (row_of_own ho6))
  rw [sameS_yes rfl] at H6
  clear ho6 o4 HO4
  go_wp2_with fail
  refine (unhide H6).mono ?_
  rintro e w7 ⟨rfl, hb7⟩
  have hB7 := bstep hB6 hb7
  go_wp2
  go_ret
  exact ⟨rfl, hB7⟩
end Go.Proofs.YtoanmnmodlocgaaDoor
