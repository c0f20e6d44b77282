/- The walk of TrmShift. -/
import Derived.Test.YtddhjafpacgdaaaSH1
import Derived.Test.YtddhjafpacgdaaaW18
namespace Go.Proofs.Ytddhjafpacgdaaa
open Go.RowKit Go.Shelf
set_option linter.unusedVariables false
set_option linter.unusedSimpArgs false

set_option maxRecDepth 100000 in
set_option maxHeartbeats 1000000 in
theorem TrmShift_yes (ao : Option Addr) (cap : Nat) (t : List C) (n : Int) (w : World) (hcap : t.length ≤ cap) (hcm : cap ≤ maxLen) (hA : Row w ao t) (hF : Fit t) (hy : trm t = true) (h0 : 0 ≤ n) (h1 : n ≤ 99999) :
    Calls Try.prog 31 #[.slice ao t.length cap, .int .i64 n] w fun e w' => ∃ v, e = .returned v ∧ OwnC w' w.heap.size v (listed (t.map (shiftC n))) ∧ Below w.heap.size w w' := by
  have H := hide (treeOf_yes 0 ao cap t w hcap hcm (Nat.zero_le _) hA hF hy)
  have hl := trm_len hy
  have HOK := hide ((trm_iff t).1 hy).2.2.1
  have HF := hide hF
  clear hA hF hy
  go_enter Try.func31, Try.ntmps31
  go_wp2_with fail
  refine (unhide H).mono ?_
  clear H
  rintro e w1 ⟨p, z, rfl, hz, hnd, hT, hb1⟩
  have hzl : z.length = t.length := by rw [← hz, List.length_map]
  have HSH := hide (shifted_any n h0 h1 t.length _ p z w1 hT (fun x hx => unhide HOK x.2 (by rw [← hz]; exact List.mem_map.2 ⟨x, hx, rfl⟩)) (fun b hb => hb.2))
  have HZ := hide hz
  have HZL := hide hzl
  clear hT hnd hz hzl
  go_wp2_with fail
  refine (unhide HSH).mono ?_
  clear HSH
  rintro e w2 ⟨q, z', rfl, hz', hnd', hT', hb2⟩
  have hz2 : z'.map (·.2) = t.map (shiftC n) := by rw [hz', ← unhide HZ, List.map_map]; rfl
  have HL := hide (list_any t.length q z' (t.map (shiftC n)) (hide hz2) w2 (hT'.shp (fun b hb => hb.2)) (hT'.held (fun b hb => hb.2)) (by have := congrArg List.length hz'; simp at this; have := unhide HZL; omega) (fun c hc => by
    obtain ⟨d, hd, rfl⟩ := List.mem_map.1 hc
    rw [shiftC_s]
    exact unhide HF d hd))
  have hB2 := bstep hb1 hb2
  clear hT' hnd' hz' hz2
  go_wp2_with fail
  refine (unhide HL).mono ?_
  rintro e w3 ⟨v, rfl, hO, hb3⟩
  have HO := hide (OwnC.base hO hB2.size)
  clear hO
  go_wp2
  go_ret
  exact ⟨v, rfl, unhide HO, bstep hB2 hb3⟩

set_option maxRecDepth 100000 in
set_option maxHeartbeats 1000000 in
theorem TrmShift_out (ao : Option Addr) (cap : Nat) (t : List C) (n : Int) (w : World) (hcap : t.length ≤ cap) (hcm : cap ≤ maxLen) (hA : Row w ao t) (hF : Fit t) (hy : trm t = true) (h : n < 0 ∨ 99999 < n) :
    Calls Try.prog 31 #[.slice ao t.length cap, .int .i64 n] w fun e w' => e = .returned (.slice none 0 0) ∧ Below w.heap.size w w' := by
  have H := hide (treeOf_yes 0 ao cap t w hcap hcm (Nat.zero_le _) hA hF hy)
  clear hA hF hy
  go_enter Try.func31, Try.ntmps31
  go_wp2_with fail
  refine (unhide H).mono ?_
  clear H
  rintro e w1 ⟨p, z, rfl, hz, hnd, hT, hb1⟩
  clear hz hnd hT
  rcases h with h | h
  · go_wp2
    go_ret
    exact ⟨rfl, hb1⟩
  · have h' : ¬ n < 0 := by omega
    go_wp2
    go_ret
    exact ⟨rfl, hb1⟩

theorem TrmShift_any (ao : Option Addr) (cap : Nat) (t : List C) (n : Int) (w : World) (hm : t.length ≤ maxLen) (hcap : t.length ≤ cap) (hcm : cap ≤ maxLen) (hA : Row w ao t) (hF : Fit t) :
    Calls Try.prog 31 #[.slice ao t.length cap, .int .i64 n] w fun e w' => ∃ v, e = .returned v ∧ OwnC w' w.heap.size v (shiftOf t n) ∧ Below w.heap.size w w' := by
  cases hy : trm t with
  | false =>
    refine (TrmShift_no ao cap t n w hm hA hF hy).mono ?_
    rintro e w' ⟨rfl, hb⟩
    exact ⟨_, rfl, by rw [shiftOf_no hy]; exact World.ownsRow_nil _ _ _ _, hb⟩
  | true =>
    by_cases hn : n < 0 ∨ 99999 < n
    · refine (TrmShift_out ao cap t n w hcap hcm hA hF hy hn).mono ?_
      rintro e w' ⟨rfl, hb⟩
      exact ⟨_, rfl, by rw [shiftOf_out hn]; exact World.ownsRow_nil _ _ _ _, hb⟩
    · refine (TrmShift_yes ao cap t n w hcap hcm hA hF hy (by omega) (by omega)).mono ?_
      rintro e w' ⟨v, rfl, hO, hb⟩
      exact ⟨_, rfl, by rw [shiftOf_in hy (by omega) (by omega)]; exact hO, hb⟩
end Go.Proofs.Ytddhjafpacgdaaa
