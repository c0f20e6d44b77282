import Derived.Test.YtjinbinnjpjniaaQYS1YG5
import Derived.Test.YtjinbinnjpjniaaQYW1
import Derived.Test.YtjinbinnjpjniaaQW4W6SB2SB3
import Derived.Test.YtjinbinnjpjniaaQW10W13SB1
import Derived.Test.YtjinbinnjpjniaaQYB4
import Derived.Test.YtjinbinnjpjniaaQW5
import Derived.Test.YtjinbinnjpjniaaQYG6YG7
import Derived.Test.YtjinbinnjpjniaaQYG3Open2YM
import Derived.Deep.RegionHeld3
/- The walk of FnExactMsgSum. -/
namespace Go.Proofs.Ytjinbinnjpjniaa
open Go.RowKit
set_option linter.unusedVariables false
set_option linter.unusedSimpArgs false

theorem rowY_of_own {w : World} {base g : Nat} {n cap : Nat} {z : List Int} (h : w.ownsRow base 5 1 (.slice (some ⟨g, 0, none⟩) n cap) n (bys z)) (hn : n = z.length) : RowY w (some ⟨g, 0, none⟩) z := .inr ⟨g, 0, rfl, ownsY_at h hn⟩

set_option maxRecDepth 100000 in
set_option maxHeartbeats 1000000 in
theorem FnExactMsgSum_walk (ao : Option Addr) (len cap : Nat) (zf : Nat → Int) (w : World) (h : Bin w ao len cap zf) :
    Calls Try.prog 5 #[.slice ao len cap] w fun e w' => e = .returned (.bool true) ∧ Below w.heap.size w w' := by
  obtain ⟨z, rfl, hy, hR, hc, hm⟩ := h.list
  have hmx : z.length ≤ 9223372036854775807 := by unfold maxLen at hm; omega
  clear h
  by_cases hbig : z.length ≤ 1048576
  · have hml : z.length ≤ maxLen := by unfold maxLen; omega
    have HTO := hide (fun (W : World) (hW : Below w.heap.size w W) => toByteS_any ao cap z W hbig (hR.below hW))
    go_enter Try.func5, Try.ntmps5
    go_wp2_with fail
    refine (unhide HTO w (Below.refl _ _)).mono ?_
    rintro e w1 ⟨rfl, ho1, hb1⟩
    go_wp2_with fail
    refine (specMsgSum_any _ _ z w1 hml (rowY_of_own ho1 rfl) hy).mono ?_
    rintro e w2 ⟨rfl, rfl⟩
    clear ho1
    obtain ⟨s, hs⟩ : ∃ s, s = sumL z := ⟨_, rfl⟩
    have HS := hide hs
    rw [← hs]
    clear hs
    go_wp2_with fail
    refine (unhide HTO w2 hb1).mono ?_
    rintro e w3 ⟨rfl, ho3, hb3⟩
    have hB3 := bstep hb1 hb3
    generalize w2.heap.size = X at ho3 ⊢
    go_wp2_with fail
    refine (implMsgSum_any _ _ z w3 hml (rowY_of_own ho3 rfl) hy).mono ?_
    rw [← unhide HS]
    rintro e w4 ⟨rfl, rfl⟩
    have hss : (s != s) = false := by simp
    go_wp2_with fail
    refine (unhide HTO w4 hB3).mono ?_
    rintro e w5 ⟨rfl, ho5, hb5⟩
    have hB5 := bstep hB3 hb5
    generalize w4.heap.size = Y at ho5 ⊢
    go_wp2_with fail
    refine (eqByteS_any (some ⟨X, 0, none⟩) (some ⟨Y, 0, none⟩) z.length z.length z z w5 hml ((rowY_of_own ho3 rfl).below hb5) (rowY_of_own ho5 rfl)).mono ?_
    rw [decide_eq_yes rfl]
    rintro e w6 ⟨rfl, hb6⟩
    go_wp2
    go_ret
    exact ⟨rfl, bstep hB5 hb6⟩
  · go_enter Try.func5, Try.ntmps5
    go_wp2
    go_ret
    exact ⟨rfl, Below.refl _ _⟩
end Go.Proofs.Ytjinbinnjpjniaa

/- The walk of the law FnExactTrmFree. -/
namespace Go.Proofs.Ytjinbinnjpjniaa
open Go.RowKit
set_option linter.unusedVariables false
set_option linter.unusedSimpArgs false

theorem toC {w' : World} {base : Nat} {g n : Nat} {t : List C} (h : w'.ownsRow base 55 3 (.slice (some ⟨g, 0, none⟩) t.length t.length) t.length (flat t)) : OwnC w' base (.slice (some ⟨g, 0, none⟩) t.length t.length) t := h

end Go.Proofs.Ytjinbinnjpjniaa

/- The program's TrmBytes; the walk of FnExactTrmBytes. -/
namespace Go.Proofs.Ytjinbinnjpjniaa
open Go.RowKit
set_option linter.unusedVariables false
set_option linter.unusedSimpArgs false
attribute [-go_sem] Go.Builtin.append_

set_option maxRecDepth 100000 in
set_option maxHeartbeats 1000000 in
theorem implTrmBytes_any (ao : Option Addr) (cap : Nat) (t : List C) (w : World) (hm : t.length ≤ maxLen) (hR : Row w ao t) (hF : Fit t) :
    Calls Try.prog 14 #[.slice ao t.length cap] w fun e w' => ∃ v, e = .returned v ∧ OwnY w' w.heap.size v (encT t) ∧ Below w.heap.size w w' := by
  have HT := hide (TrmOk_any ao cap t w hm hR hF)
  cases ht : trm t with
  | false =>
    have e : encT t = [] := by simp [encT, ht]
    rw [ht] at HT
    rw [e]
    clear e ht
    go_enter Try.func14, Try.ntmps14
    go_wp2_with fail
    refine (unhide HT).mono ?_
    rintro e w1 ⟨rfl, hb1⟩
    go_wp2
    go_ret
    exact ⟨_, rfl, World.ownsRow_nil _ _ _ _, hb1⟩
  | true =>
    have e : encT t = [(t.length : Int)] ++ encL t := by simp [encT, ht]
    have hti := (trm_iff t).1 ht
    rw [ht] at HT
    rw [e]
    rcases hR with rfl | ⟨b, off, rfl, hA⟩
    · rw [trm_nil] at ht; cases ht
    · have hbl : b < w.heap.size := hA.lt (by omega)
      have HA := hide (fun (w1 : World) (hb1 : Below w.heap.size w w1) => appendTerm_any w.heap.size (.slice none 0 0) [] b off cap t w1 (World.ownsRow_nil _ _ _ _) hb1.size (by simp) (hA.below hb1) hbl hti.2.2.1 hti.2.1)
      clear e ht hti hA
      go_enter Try.func14, Try.ntmps14
      go_wp2_with fail
      refine (unhide HT).mono ?_
      rintro e w1 ⟨rfl, hb1⟩
      have H1 := hide (unhide HA w1 hb1)
      go_wp2_with fail
      refine (unhide H1).mono ?_
      rintro e w2 ⟨v, rfl, ho, hb2⟩
      go_wp2
      go_ret
      exact ⟨_, rfl, by simpa using ho, hb1.trans hb2⟩

theorem markByteS_one (ao : Option Addr) (cap : Nat) (z : List Int) (base : Nat) (w : World) (hm : z.length ≤ 1048576) (hA : OwnY w base (.slice ao z.length cap) z) :
    Calls Try.prog 18 #[.slice ao z.length cap, .int .i64 1] w fun e w' => e = .returned (.int .i64 (1 + z.length)) ∧
      OwnY w' base (.slice ao z.length cap) (marksY z.length 1) ∧ w.grownBy w' (Value.slice ao z.length cap).ownBlock :=
  markByteS_any ao cap z 1 base w (by omega) (by omega) hA
theorem heldByteS_one (ao : Option Addr) (cap n : Nat) (w : World) (hm : n ≤ 1048576) (hA : RowY w ao (marksY n 1)) :
    Calls Try.prog 19 #[.slice ao n cap, .int .i64 1] w fun e w' => e = .returned (.int .i64 (1 + n)) ∧ w' = w :=
  heldByteS_any ao cap n 1 w (by omega) (by omega) hA

set_option maxHeartbeats 1000000 in
theorem FnExactTrmBytes_walk (ao : Option Addr) (cap : Nat) (t : List C) (w : World) (hm : t.length ≤ maxLen) (hA : Row w ao t) (hF : Fit t) (hw : WfC t) :
    Calls Try.prog 4 #[.slice ao t.length cap] w fun e w' => e = .returned (.bool true) ∧ Below w.heap.size w w' := by
  go_enter Try.func4, Try.ntmps4
  go_wp2_with fail
  refine (szTrmCellS_any ao cap t 1048576 _ hm hA hF (by omega) (by omega)).mono ?_
  rintro e w1 ⟨r, rfl, hr, hb1⟩
  by_cases hr0 : r < 0
  · go_wp2
    go_ret
    exact ⟨rfl, hb1⟩
  have hlen : t.length ≤ 1048576 := by omega
  have hfl : (encT t).length ≤ 1048576 := Nat.le_trans (encT_length t) (by omega)
  clear hr
  go_wp2_with fail
  refine (toTrmCellS_any ao cap t _ hlen (hA.below hb1)).mono ?_
  rintro e w2 ⟨rfl, ho2, hb2⟩
  have hB2 := bstep hb1 hb2
  go_wp2_with fail
  refine (specTrmBytes_any _ _ t _ (by unfold maxLen; omega) (row_of_own ho2) hF).mono ?_
  rintro e w3 ⟨v0, rfl, hv0, hb3⟩
  have hB3 := bstep hB2 hb3
  obtain ⟨ao0, cap0, rfl, _⟩ := hv0.shape
  obtain ⟨z, hz⟩ : ∃ z, z = encT t := ⟨_, rfl⟩
  rw [← hz] at hv0 hfl
  rw [← hz]
  have HZ := hide hz
  clear hz
  have hzm : z.length ≤ maxLen := by unfold maxLen; omega
  go_wp2_with fail
  refine (toTrmCellS_any ao cap t _ hlen (hA.below hB3)).mono ?_
  rintro e w4 ⟨rfl, ho4, hb4⟩
  have hB4 := bstep hB3 hb4
  go_wp2_with fail
  refine (implTrmBytes_any _ _ t _ (by unfold maxLen; omega) (row_of_own ho4) hF).mono ?_
  rw [← unhide HZ]
  rintro e w5 ⟨v1, rfl, hv1, hb5⟩
  have hB5 := bstep hB4 hb5
  have hC5 := bstep hb4 hb5
  obtain ⟨ao1, cap1, rfl, _⟩ := hv1.shape
  go_wp2_with fail
  refine (eqByteS_any _ _ _ _ z z _ hzm hv1.row (hv0.below hC5).row).mono ?_
  rw [decide_eq_yes rfl]
  rintro e w6 ⟨rfl, hb6⟩
  have hB6 := bstep hB5 hb6
  have hC6 := bstep hC5 hb6
  go_wp2_with fail
  refine (toTrmCellS_any ao cap t _ hlen (hA.below hB6)).mono ?_
  rintro e w7 ⟨rfl, ho7, hb7⟩
  have hB7 := bstep hB6 hb7
  have hC7 := bstep hC6 hb7
  have hx7 := own_below (toC (n := 0) ho4) (bstep (bstep hb5 hb6) hb7)
  go_wp2_with fail
  refine (eqTrmCellS_any _ _ _ _ t t _ hm (OwnC.row hx7) (row_of_own ho7)).mono ?_
  rw [sameS_yes rfl]
  rintro e w8 ⟨rfl, hb8⟩
  have hB8 := bstep hB7 hb8
  have hC8 := bstep hC7 hb8
  have hx8 : OwnC w8 w3.heap.size (.slice (some ⟨w3.heap.size, 0, none⟩) t.length t.length) t := own_below hx7 hb8
  have hg8 := hv1.below (bstep (bstep hb6 hb7) hb8)
  go_wp2_with fail
  refine (markTrmCellS_one _ _ t w3.heap.size _ hlen hx8).mono ?_
  rintro e w9 ⟨rfl, hx9, hG9⟩
  have hB9 := below_row hB8 hG9 hx8 (by exact hB3.size)
  have hC9 := below_row hC8 hG9 hx8 (Nat.le_refl _)
  have hg9 : OwnY w9 w4.heap.size (.slice ao1 z.length cap1) z := own_apart hg8 hG9 (fun k e => .inl (by have := hb4.size; have := ho4.lt k e; omega))
  have hpos : ¬ ((1 + 3 * (t.length : Int)) < 0) := by omega
  go_wp2_with fail
  refine (eqByteS_any _ _ _ _ z z _ hzm hg9.row (hv0.below hC9).row).mono ?_
  rw [decide_eq_yes rfl]
  rintro e w10 ⟨rfl, hb10⟩
  have hB10 := bstep hB9 hb10
  have hC10 := bstep hC9 hb10
  have hg10 := hg9.below hb10
  go_wp2_with fail
  refine (markByteS_one _ _ z w4.heap.size _ hfl hg10).mono ?_
  rintro e w11 ⟨rfl, hg11, hG11⟩
  have hB11 := below_row hB10 hG11 hg10 (by exact hB4.size)
  have hC11 := below_row hC10 hG11 hg10 (by exact hb4.size)
  go_wp2_with fail
  refine (heldByteS_one _ _ z.length _ hfl hg11.row).mono ?_
  rintro e w12 ⟨rfl, e12⟩
  have hb12 : Below w11.heap.size w11 w12 := by rw [e12]; exact Below.refl _ _
  clear e12
  have hB12 := bstep hB11 hb12
  have hC12 := bstep hC11 hb12
  have hg12 := hg11.below hb12
  have hne2 : ((1 + (z.length : Int)) != (1 + (z.length : Int))) = false := by simp
  go_wp2_with fail
  refine (toTrmCellS_any ao cap t _ hlen (hA.below hB12)).mono ?_
  rintro e w13 ⟨rfl, ho13, hb13⟩
  have hB13 := bstep hB12 hb13
  have hC13 := bstep hC12 hb13
  go_wp2_with fail
  refine (implTrmBytes_any _ _ t _ (by unfold maxLen; omega) (row_of_own ho13) hF).mono ?_
  rw [← unhide HZ]
  rintro e w14 ⟨v2, rfl, hv2, hb14⟩
  have hB14 := bstep hB13 hb14
  have hC14 := bstep hC13 hb14
  obtain ⟨ao2, cap2, rfl, _⟩ := hv2.shape
  go_wp2_with fail
  refine (eqByteS_any _ _ _ _ z z _ hzm hv2.row (hv0.below hC14).row).mono ?_
  rw [decide_eq_yes rfl]
  rintro e w15 ⟨rfl, hb15⟩
  have hB15 := bstep hB14 hb15
  have hg15 := hg12.below (bstep (bstep hb13 hb14) hb15)
  go_wp2_with fail
  refine (heldByteS_one _ _ z.length _ hfl hg15.row).mono ?_
  rintro e w16 ⟨rfl, e16⟩
  have hb16 : Below w15.heap.size w15 w16 := by rw [e16]; exact Below.refl _ _
  clear e16
  have hB16 := bstep hB15 hb16
  go_wp2
  go_ret
  exact ⟨rfl, hB16⟩
end Go.Proofs.Ytjinbinnjpjniaa

/- The walk of FnExactMsgBytes. -/
namespace Go.Proofs.Ytjinbinnjpjniaa
open Go.RowKit
set_option linter.unusedVariables false
set_option linter.unusedSimpArgs false

theorem msgL_len (k f n st : Int) (t u : List C) (r : Bool) : (msgL k f n st t u r).length ≤ 1048576 := by
  have := (bodyL_len k f n st t u).1
  unfold msgL
  split
  · rw [frameL_len]; omega
  · simp

/-- Two blocks alone have been written. -/
def Kept2 (w w' : World) (g1 g2 : Nat) : Prop := ∃ m, w.grownBy m (some g1) ∧ m.grownBy w' (some g2)
theorem Kept2.below {a w w' : World} {g1 g2 B : Nat} (h : Kept2 w w' g1 g2) (hb : Below B a w) (hB : B ≤ w.heap.size) (h1 : B ≤ g1) (h2 : B ≤ g2) : Below B a w' := by
  obtain ⟨m, k1, k2⟩ := h
  exact (hb.grown k1 hB (fun k e => by cases e; exact h1)).grown k2 (Nat.le_trans hB k1.size) (fun k e => by cases e; exact h2)
theorem Kept2.blk {w w' : World} {g1 g2 B : Nat} {o : Obj} (h : Kept2 w w' g1 g2) (hb : w.heap[B]? = some o) (h1 : B ≠ g1) (h2 : B ≠ g2) : w'.heap[B]? = some o := by
  obtain ⟨m, k1, k2⟩ := h
  have e1 := (k1.block B (blk_lt hb) (by simpa using h1)).trans hb
  exact (k2.block B (blk_lt e1) (by simpa using h2)).trans e1
theorem Kept2.own {w w' : World} {g1 g2 base e size n : Nat} {v : Value} {xs : List Value} (h : Kept2 w w' g1 g2) (ho : w.ownsRow base e size v n xs) (h1 : g1 < base) (h2 : g2 < base) : w'.ownsRow base e size v n xs := by
  obtain ⟨m, k1, k2⟩ := h
  exact own_apart (own_apart ho k1 (fun k e => by cases e; exact .inl h1)) k2 (fun k e => by cases e; exact .inl h2)

set_option maxHeartbeats 1000000 in
theorem markSlvOut_any (st : Int) (g yc : Nat) (u : List C) (k base : Nat) (w : World) (hm : u.length ≤ 1048576) (hk1 : 1 ≤ k) (hk : k ≤ 4194304) (hO : OwnC w base (.slice (some ⟨g, 0, none⟩) u.length yc) u) :
    Calls Try.prog 50 #[.agg #[.int .i64 st, .slice (some ⟨g, 0, none⟩) u.length yc], .int .i64 k] w fun e w' => e = .returned (.int .i64 ((k + 3 * u.length : Nat) : Int)) ∧ w.grownBy w' (some g) := by
  have HM := hide (markTrmCellS_any (some ⟨g, 0, none⟩) yc u k base (w.alloc (.cells #[.int .i64 st, .slice (some ⟨g, 0, none⟩) u.length yc] 43)) hm hk1 hk (World.ownsRow.alloc hO _))
  go_enter Try.func50, Try.ntmps50
  go_wp2_with fail
  refine (unhide HM).mono ?_
  rintro e w1 ⟨rfl, _, hg⟩
  have hg1 : w.grownBy w1 (some g) := grown_trans (grown_below (cell_below _ _)) hg
  go_wp2
  go_ret
  exact ⟨rfl, hg1⟩

set_option maxHeartbeats 1000000 in
theorem markMsgMsg_any (k f n st : Int) (g1 g2 xc yc : Nat) (t u : List C) (b1 b2 : Nat) (w : World) (hm : t.length + u.length ≤ 1048576) (hO1 : OwnC w b1 (.slice (some ⟨g1, 0, none⟩) t.length xc) t) (hO2 : OwnC w b2 (.slice (some ⟨g2, 0, none⟩) u.length yc) u) (h12 : g1 ≠ g2) :
    Calls Try.prog 28 #[mV k f n st (some ⟨g1, 0, none⟩) (some ⟨g2, 0, none⟩) t.length xc u.length yc, .int .i64 1] w fun e w' => (∃ q : Int, e = .returned (.int .i64 q) ∧ 1 ≤ q) ∧ Kept2 w w' g1 g2 := by
  unfold mV
  obtain ⟨W, hW⟩ : ∃ W, W = w.alloc (Obj.cells #[Value.int IntKind.i64 k, Value.int IntKind.i64 f, Value.slice (some ⟨g1, 0, none⟩) t.length xc, Value.int IntKind.i64 n, Value.int IntKind.i64 st, Value.slice (some ⟨g2, 0, none⟩) u.length yc] 45) := ⟨_, rfl⟩
  have hB0 : Below w.heap.size w W := by rw [hW]; exact cell_below _ _
  have hX : W.heap[w.heap.size]? = some (.cells #[Value.int IntKind.i64 k, Value.int IntKind.i64 f, Value.slice (some ⟨g1, 0, none⟩) t.length xc, Value.int IntKind.i64 n, Value.int IntKind.i64 st, Value.slice (some ⟨g2, 0, none⟩) u.length yc] 45 (0, 0)) := by
    rw [hW]
    exact heap_alloc_new w _
  have hl1 : g1 < w.heap.size := (hO1.lt g1 rfl).2
  have HM := hide (markTrmCellS_one (some ⟨g1, 0, none⟩) xc t b1 W (by omega) (own_below hO1 hB0))
  go_enter Try.func28, Try.ntmps28
  go_wp2_with fail
  rw [← hW]
  clear hW
  refine (unhide HM).mono ?_
  rintro e w1 ⟨rfl, _, hg⟩
  have hX1 : w1.heap[w.heap.size]? = _ := (hg.block w.heap.size (blk_lt hX) (by simp [Value.ownBlock]; omega)).trans hX
  obtain ⟨_, _, _, _, x4, x5⟩ := six_cells hX1
  have o2 : OwnC w1 b2 (.slice (some ⟨g2, 0, none⟩) u.length yc) u := own_block (own_below hO2 hB0) (fun k e => by
    have e' : g2 = k := by simpa [Value.ownBlock] using e
    have hl2 : g2 < W.heap.size := Nat.lt_of_lt_of_le (hO2.lt g2 rfl).2 hB0.size
    rw [← e']
    exact hg.block g2 hl2 (by simp [Value.ownBlock]; omega))
  have HM2 := hide (markSlvOut_any st g2 yc u (1 + 3 * t.length) b2 w1 (by omega) (by omega) (by omega) o2)
  rw [show (((1 + 3 * t.length : Nat)) : Int) = 1 + 3 * (t.length : Int) by omega] at HM2
  have hk1 : w.grownBy w1 (some g1) := grown_trans (grown_below hB0) hg
  clear HM hB0 hX hg hX1 o2 hO1 hO2
  go_wp2_with fail
  refine (unhide HM2).mono ?_
  rintro e w2 ⟨rfl, hg2⟩
  go_wp2
  go_ret
  exact ⟨⟨_, rfl, by omega⟩, _, hk1, hg2⟩
end Go.Proofs.Ytjinbinnjpjniaa

/- The walk of FnExactMsgOk. -/
namespace Go.Proofs.Ytjinbinnjpjniaa
open Go.RowKit
set_option linter.unusedVariables false
set_option linter.unusedSimpArgs false

theorem row_canB (t u : List C) : ∃ r, CanB t u r := canB_all t u

set_option maxRecDepth 100000 in
set_option maxHeartbeats 4000000 in
theorem FnExactMsgOk_walk (k f n st : Int) (xa ya : Option Addr) (xc yc : Nat) (t u : List C) (w : World) (hm : t.length ≤ maxLen) (um : u.length ≤ maxLen) (hA : Row w xa t) (uA : Row w ya u) (hF : Fit t) (uF : Fit u) (hw : WfC t) (uw : WfC u) :
    Calls Try.prog 6 #[.agg #[.int .i64 k, .int .i64 f, .slice xa t.length xc, .int .i64 n, .int .i64 st, .slice ya u.length yc]] w fun e w' => e = .returned (.bool true) ∧ Below w.heap.size w w' := by
  obtain ⟨r, hr⟩ := canB_all t u
  have HR := hide hr
  clear hr
  obtain ⟨W, hW⟩ : ∃ W, W = w.alloc (Obj.cells #[Value.int IntKind.i64 k, Value.int IntKind.i64 f, Value.slice xa t.length xc, Value.int IntKind.i64 n, Value.int IntKind.i64 st, Value.slice ya u.length yc] 39) := ⟨_, rfl⟩
  have hB0 : Below w.heap.size w W := by rw [hW]; exact cell_below _ _
  have hX : W.heap[w.heap.size]? = some (.cells #[Value.int IntKind.i64 k, Value.int IntKind.i64 f, Value.slice xa t.length xc, Value.int IntKind.i64 n, Value.int IntKind.i64 st, Value.slice ya u.length yc] 39 (0, 0)) := by
    rw [hW]
    exact heap_alloc_new w _
  have HSZ := hide (szMsgMsg_any k f n st xa ya xc yc t u 1048576 W hm um (hA.below hB0) (uA.below hB0) hF uF (by omega) (by omega))
  unfold mV at HSZ
  go_enter Try.func6, Try.ntmps6
  go_wp2_with fail
  rw [← hW]
  clear hW
  refine (unhide HSZ).mono ?_
  rintro e w1 ⟨r1, rfl, hr1, hb1⟩
  have hB1 := bstep hB0 hb1
  replace hX := blk_below hX hb1
  clear HSZ hB0 hb1
  by_cases hr0 : r1 < 0
  · go_wp2
    go_ret
    exact ⟨rfl, hB1⟩
  have tl : t.length ≤ 1048576 := by omega
  have ul : u.length ≤ 1048576 := by omega
  clear hr1
  have HT := hide (fun (W : World) (hW : Below w.heap.size w W) => toMsgMsg_any k f n st xa ya xc yc t u W tl ul (hA.below hW) (uA.below hW))
  have HO1 := hide (fun (W : World) (base g : Nat) (h : W.ownsRow base 55 3 (.slice (some ⟨g, 0, none⟩) t.length t.length) t.length (flat t)) => out_own h hF hw tl)
  have HO2 := hide (fun (W : World) (base g : Nat) (h : W.ownsRow base 55 3 (.slice (some ⟨g, 0, none⟩) u.length u.length) u.length (flat u)) => out_own h uF uw ul)
  have HS := hide (fun (W : World) (b1 b2 g1 g2 : Nat) (h1 : W.ownsRow b1 55 3 (.slice (some ⟨g1, 0, none⟩) t.length t.length) t.length (flat t)) (h2 : W.ownsRow b2 55 3 (.slice (some ⟨g2, 0, none⟩) u.length u.length) u.length (flat u)) => specMsgOk_any k f n st (some ⟨g1, 0, none⟩) (some ⟨g2, 0, none⟩) t.length u.length t u r W (unhide HO1 W _ _ h1) (unhide HO2 W _ _ h2) (fun W' hW' hu => out_td (own_below h2 hW') hu) (unhide HR))
  have HI := hide (fun (W : World) (b1 b2 g1 g2 : Nat) (h1 : W.ownsRow b1 55 3 (.slice (some ⟨g1, 0, none⟩) t.length t.length) t.length (flat t)) (h2 : W.ownsRow b2 55 3 (.slice (some ⟨g2, 0, none⟩) u.length u.length) u.length (flat u)) => implMsgOk_any k f n st (some ⟨g1, 0, none⟩) (some ⟨g2, 0, none⟩) t.length u.length t u r W (unhide HO1 W _ _ h1) (unhide HO2 W _ _ h2) (unhide HR))
  have HE := hide (fun (W : World) (b1 b2 b3 b4 g1 g2 g3 g4 : Nat) (h1 : W.ownsRow b1 55 3 (.slice (some ⟨g1, 0, none⟩) t.length t.length) t.length (flat t)) (h2 : W.ownsRow b2 55 3 (.slice (some ⟨g2, 0, none⟩) u.length u.length) u.length (flat u)) (h3 : W.ownsRow b3 55 3 (.slice (some ⟨g3, 0, none⟩) t.length t.length) t.length (flat t)) (h4 : W.ownsRow b4 55 3 (.slice (some ⟨g4, 0, none⟩) u.length u.length) u.length (flat u)) => eqMsgMsg_yes k f n st (some ⟨g1, 0, none⟩) (some ⟨g2, 0, none⟩) (some ⟨g3, 0, none⟩) (some ⟨g4, 0, none⟩) t.length u.length t.length u.length t u W tl ul (row_of_own h1) (row_of_own h2) (row_of_own h3) (row_of_own h4))
  obtain ⟨B, hBe⟩ : ∃ B, B = msgB k f n st t u r := ⟨_, rfl⟩
  rw [← hBe] at HS HI
  unfold mV at HT HS HI HE
  clear hA uA hF uF hw uw hm um HR HO1 HO2 hBe
  have HX1 := hide hX
  obtain ⟨x0, x1, x2, x3, x4, x5⟩ := six_cells hX
  clear hX
  -- the first copy, and the specification's answer
  go_wp2_with fail
  refine (unhide HT w1 hB1).mono ?_
  rintro e w2 ⟨g1, g2, rfl, _, o1, o2, hb2⟩
  have hB2 := bstep hB1 hb2
  have hX2 := blk_below (unhide HX1) hb2
  have H2 := hide (unhide HS w2 _ _ _ _ o1 o2)
  clear x0 x1 x2 x3 x4 x5 HX1 o1 o2
  go_wp2_with fail
  refine (unhide H2).mono ?_
  rintro e w3 ⟨rfl, hb3⟩
  have hB3 := bstep hB2 hb3
  have hX3 := blk_below hX2 hb3
  have HX3 := hide hX3
  obtain ⟨x0, x1, x2, x3, x4, x5⟩ := six_cells hX3
  clear H2 hX2 hX3
  -- the second copy, and the program's answer
  go_wp2_with fail
  refine (unhide HT w3 hB3).mono ?_
  rintro e w4 ⟨g3, g4, rfl, _, o3, o4, hb4⟩
  have hB4 := bstep hB3 hb4
  have hX4 := blk_below (unhide HX3) hb4
  clear x0 x1 x2 x3 x4 x5 HX3
  go_wp2_with fail
  obtain ⟨V, hV⟩ : ∃ V, V = w4.alloc (Obj.cells #[Value.int IntKind.i64 k, Value.int IntKind.i64 f, Value.slice (some ⟨g3, 0, none⟩) t.length t.length, Value.int IntKind.i64 n, Value.int IntKind.i64 st, Value.slice (some ⟨g4, 0, none⟩) u.length u.length] 45) := ⟨_, rfl⟩
  have hbV : Below w4.heap.size w4 V := by rw [hV]; exact cell_below _ _
  have hY : V.heap[w4.heap.size]? = some (.cells #[Value.int IntKind.i64 k, Value.int IntKind.i64 f, Value.slice (some ⟨g3, 0, none⟩) t.length t.length, Value.int IntKind.i64 n, Value.int IntKind.i64 st, Value.slice (some ⟨g4, 0, none⟩) u.length u.length] 45 (0, 0)) := by
    rw [hV]
    exact heap_alloc_new w4 _
  rw [← hV]
  have hB5 := bstep hB4 hbV
  have hX5 := blk_below hX4 hbV
  have o5 := own_below o3 hbV
  have o6 := own_below o4 hbV
  clear hV hX4 hB4 hbV o3 o4
  generalize w4.heap.size = Q at hY ⊢
  have H5 := hide (unhide HI V _ _ _ _ o5 o6)
  refine (unhide H5).mono ?_
  rintro e w6 ⟨rfl, hb6⟩
  have hB6 := bstep hB5 hb6
  have hX6 := blk_below hX5 hb6
  have hY6 := blk_below hY hb6
  have o7 := own_below o5 hb6
  have o8 := own_below o6 hb6
  have hBB : (B != B) = false := by simp
  obtain ⟨x0, x1, x2, x3, x4, x5⟩ := six_cells hX6
  obtain ⟨y0, y1, y2, y3, y4, y5⟩ := six_cells hY6
  have hlx := blk_lt hX6
  have hly := blk_lt hY6
  clear H5 hX5 hY o5 o6 HS HI hX6 hY6 hB5 hb6
  go_wp2_with fail
  have hB6d := hB6.drew
  go_region_held3 (fun w' => (w'.cell? ⟨w.heap.size, 0, none⟩ = some (.int .i64 k) ∧ w'.cell? ⟨w.heap.size, 1, none⟩ = some (.int .i64 f) ∧ w'.cell? ⟨w.heap.size, 2, none⟩ = some (.slice xa t.length xc) ∧ w'.cell? ⟨w.heap.size, 3, none⟩ = some (.int .i64 n) ∧ w'.cell? ⟨w.heap.size, 4, none⟩ = some (.int .i64 st) ∧ w'.cell? ⟨w.heap.size, 5, none⟩ = some (.slice ya u.length yc)) ∧ w'.cell? ⟨Q, 0, none⟩ = some (.int .i64 k) ∧ w'.cell? ⟨Q, 1, none⟩ = some (.int .i64 f) ∧ w'.cell? ⟨Q, 2, none⟩ = some (.slice (some ⟨g3, 0, none⟩) t.length t.length) ∧ w'.cell? ⟨Q, 3, none⟩ = some (.int .i64 n) ∧ w'.cell? ⟨Q, 4, none⟩ = some (.int .i64 st) ∧ w'.cell? ⟨Q, 5, none⟩ = some (.slice (some ⟨g4, 0, none⟩) u.length u.length)) (first | (refine ⟨⟨?_, ?_, ?_, ?_, ?_, ?_⟩, ?_, ?_, ?_, ?_, ?_, ?_⟩ <;> assumption) | go_keep) (first
    | (go_at_call 25; have hx := hb7; refine (unhide HE w7 _ _ _ _ _ _ _ _ (own_below (World.ownsRow.drew o7) hb7) (own_below (World.ownsRow.drew o8) hb7) p1 p2).mono ?_; rintro e w8 ⟨rfl, hb8⟩; have n0 := (hb8.cell (p := ⟨w.heap.size, 0, none⟩) hlx7).trans m0; have n1 := (hb8.cell (p := ⟨w.heap.size, 1, none⟩) hlx7).trans m1; have n2 := (hb8.cell (p := ⟨w.heap.size, 2, none⟩) hlx7).trans m2; have n3 := (hb8.cell (p := ⟨w.heap.size, 3, none⟩) hlx7).trans m3; have n4 := (hb8.cell (p := ⟨w.heap.size, 4, none⟩) hlx7).trans m4; have n5 := (hb8.cell (p := ⟨w.heap.size, 5, none⟩) hlx7).trans m5; have q0 := (hb8.cell (p := ⟨Q, 0, none⟩) hly7).trans z0; have q1 := (hb8.cell (p := ⟨Q, 1, none⟩) hly7).trans z1; have q2 := (hb8.cell (p := ⟨Q, 2, none⟩) hly7).trans z2; have q3 := (hb8.cell (p := ⟨Q, 3, none⟩) hly7).trans z3; have q4 := (hb8.cell (p := ⟨Q, 4, none⟩) hly7).trans z4; have q5 := (hb8.cell (p := ⟨Q, 5, none⟩) hly7).trans z5)
    | (go_at_call 23; refine (unhide HT w6.drew hB6d).mono ?_; rintro e w7 ⟨g5, g6, rfl, _, p1, p2, hb7⟩; have m0 := (hb7.cell (p := ⟨w.heap.size, 0, none⟩) hlx).trans x0; have m1 := (hb7.cell (p := ⟨w.heap.size, 1, none⟩) hlx).trans x1; have m2 := (hb7.cell (p := ⟨w.heap.size, 2, none⟩) hlx).trans x2; have m3 := (hb7.cell (p := ⟨w.heap.size, 3, none⟩) hlx).trans x3; have m4 := (hb7.cell (p := ⟨w.heap.size, 4, none⟩) hlx).trans x4; have m5 := (hb7.cell (p := ⟨w.heap.size, 5, none⟩) hlx).trans x5; have z0 := (hb7.cell (p := ⟨Q, 0, none⟩) hly).trans y0; have z1 := (hb7.cell (p := ⟨Q, 1, none⟩) hly).trans y1; have z2 := (hb7.cell (p := ⟨Q, 2, none⟩) hly).trans y2; have z3 := (hb7.cell (p := ⟨Q, 3, none⟩) hly).trans y3; have z4 := (hb7.cell (p := ⟨Q, 4, none⟩) hly).trans y4; have z5 := (hb7.cell (p := ⟨Q, 5, none⟩) hly).trans y5; have hlx7 : w.heap.size < w7.heap.size := World.block_lt_of_cell? w7 ⟨_, _, none⟩ m0; have hly7 : Q < w7.heap.size := World.block_lt_of_cell? w7 ⟨_, _, none⟩ z0))
  go_wp2
  go_ret
  exact ⟨rfl, bstep (bstep hB6d hb7) hb8⟩
end Go.Proofs.Ytjinbinnjpjniaa
