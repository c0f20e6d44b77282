import Derived.Test.YtcimlcmhodpalaaQD6
import Derived.Test.YtcimlcmhodpalaaQPlain2T4
import Derived.Test.YtcimlcmhodpalaaQW6SB2
import Derived.Test.YtcimlcmhodpalaaQDB2
import Derived.Test.YtcimlcmhodpalaaQSG1
import Derived.Test.YtcimlcmhodpalaaQW7W18
/- caOk; the walk of the law FnTrmWhole. -/
namespace Go.Proofs.Ytcimlcmhodpalaa
open Go.RowKit
set_option linter.unusedVariables false
set_option linter.unusedSimpArgs false

theorem fit_one : Fit [⟨2, 1, ByteArray.mk #[]⟩] := fun c hc => by simp at hc; subst hc; decide

set_option maxHeartbeats 400000 in
theorem caOk_any (w : World) : Calls Try.prog 30 #[] w fun e w' => e = .returned (.bool true) ∧ Below w.heap.size w w' := by
  have hA : At (w.alloc (.cells #[.int .i64 2, .int .i64 1, .string (ByteArray.mk #[])] 36)) w.heap.size 0 [⟨2, 1, ByteArray.mk #[]⟩] := fun i hi => by
    have h0 : i = 0 := by simp at hi; omega
    subst h0
    simp [go_sem]
  have h1 := TrmOk_some w.heap.size 0 1 [⟨2, 1, ByteArray.mk #[]⟩] _ (by simp [maxLen]) hA fit_one
  rw [trm_one] at h1
  have H := hide h1
  clear h1 hA
  go_enter Try.func30, Try.ntmps30
  go_wp2_with fail
  refine (unhide H).mono ?_
  rintro e w1 ⟨rfl, hb1⟩
  go_wp2
  go_ret
  exact ⟨rfl, bstep (cell_below _ _) hb1⟩

end Go.Proofs.Ytcimlcmhodpalaa

/- What is drawn for FnSubGet, FnSubOk and FnSubFull; the walk of the law FnSubGet. -/
namespace Go.Proofs.Ytcimlcmhodpalaa
open Go.RowKit
set_option linter.unusedVariables false
set_option linter.unusedSimpArgs false

/-- Bindings that were drawn. -/
def DrewSB (w : World) (v : Value) (s : List B) (w' : World) : Prop := OwnB w' w.heap.size w'.heap.size v s ∧ FewB s ∧ Below w.heap.size w w'

set_option maxRecDepth 100000 in
set_option maxHeartbeats 1000000 in
theorem drawSubGet_any (ao : Option Addr) (len cap : Nat) (z : Nat → Int) (w : World) (h : Bin w ao len cap z) :
    Calls Try.prog 44 #[.slice ao len cap] w fun e w' => ∃ v s x, e = .returned (.tuple #[v, .int .i64 x]) ∧ (-1 ≤ x ∧ x ≤ 8) ∧ DrewSB w v s w' := by
  go_enter Try.func44, Try.ntmps44
  go_wp2_with fail
  refine (open_any ao len cap z _ h).mono ?_
  rintro e w1 ⟨rfl, hR1, hb1⟩
  have hl1 := hR1.lt
  go_wp2_with fail
  refine (bindsOr_any w.heap.size 0 9 _ (by omega) (by omega) (by omega) hR1).mono ?_
  rintro e w2 ⟨v, s, p2, rfl, hO2, hF2, hR2, hp2, hG2⟩
  go_wp2_with fail
  refine (pick_any w.heap.size p2 10 _ (by omega) (by omega) (by omega) hR2).mono ?_
  rintro e w3 ⟨x, rfl, hx0, hx1, hR3, hG3⟩
  have hs2 := hG2.size
  have hs3 := hG3.size
  have HFIN : Hid (DrewSB w v s w3) := ⟨((hO2.grown (Nat.le_refl _) hG3 (fun k e => .inl (by cases e; exact hl1))).hi_le hs3).lo_le (by omega), hF2, (hb1.grown hG2 (by omega) (fun k e => by cases e; exact Nat.le_refl _)).grown hG3 (by omega) (fun k e => by cases e; exact Nat.le_refl _)⟩
  clear hO2 hF2 hR2 hG2 hR3 hG3 hR1 hb1
  go_wp2
  go_ret2
  exact ⟨v, s, x - 1, rfl, by omega, unhide HFIN⟩

set_option maxRecDepth 100000 in
set_option maxHeartbeats 4000000 in
theorem FnSubGet_walk (ao : Option Addr) (len cap : Nat) (z : Nat → Int) (w : World) (h : Bin w ao len cap z) :
    Calls Try.prog 10 #[.slice ao len cap] w fun e w' => e = .returned (.bool true) ∧ Below w.heap.size w w' := by
  have hmx : len ≤ 9223372036854775807 := by have := h.1; have := h.2.1; unfold maxLen at this; omega
  by_cases hbig : len ≤ 1048576
  · go_enter Try.func10, Try.ntmps10
    go_wp2_with fail
    refine (drawSubGet_any ao len cap z _ h).mono ?_
    rintro e w1 ⟨v, s, x, rfl, hx, hO1, hF, hb1⟩
    obtain ⟨sa, sc, rfl, _, _, hRow1⟩ := hO1.shape
    have hsl : s.length ≤ 1048576 := by have := hF.len; omega
    have hst : ∀ y ∈ s, y.t.length ≤ 1048576 := fun y hy => by have := hF.short y hy; omega
    have HST := hide hst
    have hgl : (getB s x).length ≤ maxLen := by
      by_cases h0 : getB s x = []
      · rw [h0]; simp
      · obtain ⟨y, hy, _, e⟩ := getB_mem h0
        rw [← e]; have := hst y hy; unfold maxLen; omega
    have HHIT := hide (fun (k : Nat) (hk : k < s.length) (hv : s[k].v = x) (hn : NotYet s x k) => getB_hit hk hv (fun j hj => hn j (by omega) hj))
    have HNO : Hid (NotYet s x s.length → getB s x = []) := fun hn => getB_none (fun y hy => by obtain ⟨j, hj, rfl⟩ := List.getElem_of_mem hy; exact hn j hj hj)
    clear hF hst hO1
    go_wp2_with fail
    refine (implSubGet_any sa sc s x _ hsl (unhide HST) hRow1).mono ?_
    rintro e w2 ⟨u, rfl, hU2, hb2⟩
    have hB2 := bstep hb1 hb2
    obtain ⟨ua, uc, rfl, _⟩ := hU2.shape
    go_wp2_with fail
    refine (specSubGet_any sa sc s x _ hsl (unhide HST) (hRow1.below hb2)).mono ?_
    rintro e w3 ⟨u3, rfl, hU3, hb3⟩
    have hB3 := bstep hB2 hb3
    have hU23 := hU2.below hb3
    obtain ⟨va, vc, rfl, _⟩ := hU3.shape
    have HC := hide (caTerm_any ua va uc vc (getB s x) (getB s x) w3 hgl hU23.row hU3.row)
    go_wp2_with fail
    refine (unhide HC).mono ?_
    rw [sameS_yes rfl]
    rintro e w4 ⟨rfl, hb4⟩
    have hB4 := bstep hB3 hb4
    have hU4 := hU23.below hb4
    have hRow4 := ((hRow1.below hb2).below hb3).below hb4
    clear HC hU2 hU3 hU23 hRow1 hb1 hb2 hb3 hb4 hB2 hB3
    obtain ⟨g, hg⟩ : ∃ g, g = getB s x := ⟨_, rfl⟩
    rw [← hg] at hgl hU4 HHIT HNO ⊢
    clear hg
    go_wp2
    go_loopw [6] (fun i wr => ∃ (k : Nat), k ≤ s.length ∧ i = .int .i64 k ∧ NotYet s x k ∧ wr = w4) (fun i _ => s.length - (intOf i).toNat)
    case atStart => exact ⟨0, Nat.zero_le _, rfl, fun j _ h => absurd h (Nat.not_lt_zero _), rfl⟩
    case round =>
      obtain ⟨k, hk, rfl, hn, hwr⟩ := hrel
      subst hwr
      by_cases hlt : k < s.length
      · rcases hRow4 with h0 | ⟨b, off, rfl, hA⟩
        · rw [h0] at hlt; simp at hlt
        obtain ⟨c0, ta, tc, c1, htc, htm, hR⟩ := hA k hlt
        have hlk := unhide HST _ (List.getElem_mem hlt)
        have HK : Hid (s[k].v = x → g = s[k].t) := fun hv => unhide HHIT k hlt hv hn
        have HNX : Hid (s[k].v ≠ x → NotYet s x (k + 1)) := fun hv => hn.step hlt hv
        clear hn hA
        generalize s[k] = y at c0 c1 hR HK HNX hlk htc
        by_cases hv : y.v = x
        · have hvb : (y.v == x) = true := by simpa using hv
          have hgy := unhide HK hv
          have HC := hide (caTerm_any ua ta uc tc g y.t wr hgl hU4.row hR)
          rw [sameS_yes hgy] at HC
          clear hgy hv
          go_wp2_with fail
          refine (unhide HC).mono ?_
          rintro e w5 ⟨rfl, hb5⟩
          go_wp2
          go_ret
          exact ⟨rfl, bstep hB4 hb5⟩
        · have hvb : (y.v == x) = false := by simpa using hv
          have HN2 := hide (unhide HNX hv)
          clear hv
          go_wp2
          go_roundw
          case rel => exact ⟨k + 1, by omega, by go_num, unhide HN2, by first | trivial | rfl⟩
          case measure => simp [intOf]; omega
      · have e : k = s.length := by omega
        subst e
        have hg0 := unhide HNO hn
        have hgz : g.length = 0 := by rw [hg0]; rfl
        have hgb : ((g.length : Int) == 0) = true := by rw [hgz]; rfl
        have HC := hide (caOk_any wr)
        clear hn hg0 hgz
        go_wp2_with fail
        refine (unhide HC).mono ?_
        rintro e w5 ⟨rfl, hb5⟩
        go_wp2
        go_ret
        exact ⟨rfl, bstep hB4 hb5⟩
  · have hbb : decide ((len : Int) > 1048576) = true := by simp; omega
    go_enter Try.func10, Try.ntmps10
    go_wp2
    go_ret
    exact ⟨rfl, Below.refl _ _⟩
end Go.Proofs.Ytcimlcmhodpalaa
