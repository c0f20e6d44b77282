import Derived.Test.YtonpahhcfgdeoaaDoorQYS1YX1YB4W6W14YB5YT0
import Derived.Test.YtonpahhcfgdeoaaDoorQYG3Z19
import Derived.Test.YtonpahhcfgdeoaaDoorQG1W16OK1
import Derived.Deep.RegionHeld3
import Derived.Test.YtonpahhcfgdeoaaDoorQZ8Z13Z14
/- Frames: l6Frame of the specification, framed of the program. -/
namespace Go.Proofs.YtonpahhcfgdeoaaDoor
open Go.RowKit
set_option linter.unusedVariables false
set_option linter.unusedSimpArgs false
attribute [-go_sem] Go.Builtin.append_

/-- Bytes in a frame. -/
def headL (z : List Int) : List Int := highs (z.length : Int) 2 ++ z
def frameL (z : List Int) : List Int := headL z ++ highs (sumL (headL z)) 2
theorem highs2 (n : Int) : highs n 2 = [n / 256 % 256, n % 256] := by simp [highs, List.range_succ, hiB]
theorem headL_by {z : List Int} (h : ByL z) : ByL (headL z) := (highs_by _ _).app h
theorem headL_len (z : List Int) : (headL z).length = z.length + 2 := by simp [headL, highs]; omega
theorem frameL_len (z : List Int) : (frameL z).length = z.length + 4 := by simp [frameL, headL_len, highs]
theorem frameL_by {z : List Int} (h : ByL z) : ByL (frameL z) := (headL_by h).app (highs_by _ _)

end Go.Proofs.YtonpahhcfgdeoaaDoor

/- MsgBytes of the specification and of the program. -/
namespace Go.Proofs.YtonpahhcfgdeoaaDoor
open Go.RowKit
set_option linter.unusedVariables false
set_option linter.unusedSimpArgs false
attribute [-go_sem] Go.Builtin.append_

/-- What a frame holds. -/
def bodyL (k f n st : Int) (t u : List C) : List Int := [k, f, st] ++ num3 n ++ encT t ++ if st = 2 then encT u else []
/-- A message in bytes; none, if it is none. -/
def msgL (k f n st : Int) (t u : List C) (r : Bool) : List Int := if msgB k f n st t u r then frameL (bodyL k f n st t u) else []

theorem outB_parts {k : Int} {t u : List C} {r : Bool} (h : outB k t u r = true) : (k = 2 ∧ trm u = true) ∨ k = 3 ∨ k = 4 ∨ k = 5 := by
  unfold outB at h
  simp only [Bool.and_eq_true] at h
  obtain ⟨_, h⟩ := h
  split at h
  · rename_i h'; exact .inr h'
  · simp only [Bool.and_eq_true, decide_eq_true_eq] at h
    exact .inl ⟨h.1.1.1, h.1.1.2⟩
theorem msgB_parts {k f n st : Int} {t u : List C} {r : Bool} (h : msgB k f n st t u r = true) : (k = 1 ∨ k = 2) ∧ (0 ≤ f ∧ f ≤ 3) ∧ (0 ≤ st ∧ st ≤ 5) ∧ (1 ≤ n ∧ n ≤ 12000) ∧ trm t = true ∧ (st = 2 → trm u = true) := by
  unfold msgB at h
  simp only [Bool.and_eq_true, decide_eq_true_eq, Bool.or_eq_true] at h
  obtain ⟨⟨⟨hq, h1⟩, h2⟩, h3⟩ := h
  have ht := (isQ_parts hq).1
  rcases h3 with h3 | h3
  · unfold askB at h3
    simp only [Bool.and_eq_true, decide_eq_true_eq] at h3
    obtain ⟨⟨⟨⟨a1, a2⟩, a3⟩, a4⟩, a5⟩ := h3
    exact ⟨.inl a1, ⟨a2, a3⟩, ⟨by omega, by omega⟩, ⟨h1, h2⟩, ht, fun e => by omega⟩
  · unfold tellB at h3
    simp only [Bool.and_eq_true, decide_eq_true_eq] at h3
    obtain ⟨⟨a1, a2⟩, a3⟩ := h3
    have hp := outB_parts a3
    refine ⟨.inr a1, ⟨by omega, by omega⟩, ⟨by omega, by omega⟩, ⟨h1, h2⟩, ht, fun e => ?_⟩
    rcases hp with ⟨_, h⟩ | h | h | h
    · exact h
    · omega
    · omega
    · omega
theorem encT_pos {t : List C} (h : trm t = true) : 0 < (encT t).length := by simp [encT, h]
theorem bodyL_len (k f n st : Int) (t u : List C) : (bodyL k f n st t u).length ≤ 1048 ∧ 0 < (bodyL k f n st t u).length := by
  have h1 := encT_length t
  have h2 := encT_length u
  unfold bodyL
  rw [List.length_append, List.length_append, List.length_append, num3_length]
  split <;> simp <;> omega
theorem bodyL_by {k f n st : Int} {t u : List C} (hk : k = 1 ∨ k = 2) (hf : 0 ≤ f ∧ f ≤ 3) (hs : 0 ≤ st ∧ st ≤ 5) : ByL (bodyL k f n st t u) := by
  unfold bodyL
  refine ByL.app (ByL.app (ByL.app ?_ (highs_by _ _)) (encT_by _)) ?_
  · intro x hx
    simp at hx
    omega
  · split
    · exact encT_by _
    · exact ByL.nil

end Go.Proofs.YtonpahhcfgdeoaaDoor

/- messageBody, MsgBytes of the program. -/
namespace Go.Proofs.YtonpahhcfgdeoaaDoor
open Go.RowKit
set_option linter.unusedVariables false
set_option linter.unusedSimpArgs false
attribute [-go_sem] Go.Builtin.append_

theorem row_at {w : World} {ao : Option Addr} {t : List C} (h : Row w ao t) (h0 : 0 < t.length) : ∃ b off, ao = some ⟨b, off, none⟩ ∧ At w b off t ∧ b < w.heap.size := by
  rcases h with rfl | ⟨b, off, e, hA⟩
  · simp at h0
  · exact ⟨b, off, e, hA, hA.lt h0⟩

end Go.Proofs.YtonpahhcfgdeoaaDoor

/- The walk of FnExactMsgBytes. -/
namespace Go.Proofs.YtonpahhcfgdeoaaDoor
open Go.RowKit
set_option linter.unusedVariables false
set_option linter.unusedSimpArgs false

theorem msgL_len (k f n st : Int) (t u : List C) (r : Bool) : (msgL k f n st t u r).length ≤ 1048576 := by
  have := (bodyL_len k f n st t u).1
  unfold msgL
  split
  · rw [frameL_len]; omega
  · simp

/-- Two blocks alone have been written. -/
def Kept2 (w w' : World) (g1 g2 : Nat) : Prop := ∃ m, w.grownBy m (some g1) ∧ m.grownBy w' (some g2)
theorem Kept2.below {a w w' : World} {g1 g2 B : Nat} (h : Kept2 w w' g1 g2) (hb : Below B a w) (hB : B ≤ w.heap.size) (h1 : B ≤ g1) (h2 : B ≤ g2) : Below B a w' := by
  obtain ⟨m, k1, k2⟩ := h
  exact (hb.grown k1 hB (fun k e => by cases e; exact h1)).grown k2 (Nat.le_trans hB k1.size) (fun k e => by cases e; exact h2)
theorem Kept2.blk {w w' : World} {g1 g2 B : Nat} {o : Obj} (h : Kept2 w w' g1 g2) (hb : w.heap[B]? = some o) (h1 : B ≠ g1) (h2 : B ≠ g2) : w'.heap[B]? = some o := by
  obtain ⟨m, k1, k2⟩ := h
  have e1 := (k1.block B (blk_lt hb) (by simpa using h1)).trans hb
  exact (k2.block B (blk_lt e1) (by simpa using h2)).trans e1
theorem Kept2.own {w w' : World} {g1 g2 base e size n : Nat} {v : Value} {xs : List Value} (h : Kept2 w w' g1 g2) (ho : w.ownsRow base e size v n xs) (h1 : g1 < base) (h2 : g2 < base) : w'.ownsRow base e size v n xs := by
  obtain ⟨m, k1, k2⟩ := h
  exact own_apart (own_apart ho k1 (fun k e => by cases e; exact .inl h1)) k2 (fun k e => by cases e; exact .inl h2)

set_option maxHeartbeats 1000000 in
theorem markSlvOut_any (st : Int) (g yc : Nat) (u : List C) (k base : Nat) (w : World) (hm : u.length ≤ 1048576) (hk1 : 1 ≤ k) (hk : k ≤ 4194304) (hO : OwnC w base (.slice (some ⟨g, 0, none⟩) u.length yc) u) :
    Calls Tryd.prog 23 #[.agg #[.int .i64 st, .slice (some ⟨g, 0, none⟩) u.length yc], .int .i64 k] w fun e w' => e = .returned (.int .i64 ((k + 3 * u.length : Nat) : Int)) ∧ w.grownBy w' (some g) := by
  have HM := hide (markTrmCellS_any (some ⟨g, 0, none⟩) yc u k base (w.alloc (.cells #[.int .i64 st, .slice (some ⟨g, 0, none⟩) u.length yc] 25)) hm hk1 hk (World.ownsRow.alloc hO _))
  go_enter Tryd.func23, Tryd.ntmps23
  go_wp2_with fail
  refine (unhide HM).mono ?_
  rintro e w1 ⟨rfl, _, hg⟩
  have hg1 : w.grownBy w1 (some g) := grown_trans (grown_below (cell_below _ _)) hg
  go_wp2
  go_ret
  exact ⟨rfl, hg1⟩

set_option maxHeartbeats 1000000 in
theorem markMsgMsg_any (k f n st : Int) (g1 g2 xc yc : Nat) (t u : List C) (b1 b2 : Nat) (w : World) (hm : t.length + u.length ≤ 1048576) (hO1 : OwnC w b1 (.slice (some ⟨g1, 0, none⟩) t.length xc) t) (hO2 : OwnC w b2 (.slice (some ⟨g2, 0, none⟩) u.length yc) u) (h12 : g1 ≠ g2) :
    Calls Tryd.prog 10 #[mV k f n st (some ⟨g1, 0, none⟩) (some ⟨g2, 0, none⟩) t.length xc u.length yc, .int .i64 1] w fun e w' => (∃ q : Int, e = .returned (.int .i64 q) ∧ 1 ≤ q) ∧ Kept2 w w' g1 g2 := by
  unfold mV
  obtain ⟨W, hW⟩ : ∃ W, W = w.alloc (Obj.cells #[Value.int IntKind.i64 k, Value.int IntKind.i64 f, Value.slice (some ⟨g1, 0, none⟩) t.length xc, Value.int IntKind.i64 n, Value.int IntKind.i64 st, Value.slice (some ⟨g2, 0, none⟩) u.length yc] 27) := ⟨_, rfl⟩
  have hB0 : Below w.heap.size w W := by rw [hW]; exact cell_below _ _
  have hX : W.heap[w.heap.size]? = some (.cells #[Value.int IntKind.i64 k, Value.int IntKind.i64 f, Value.slice (some ⟨g1, 0, none⟩) t.length xc, Value.int IntKind.i64 n, Value.int IntKind.i64 st, Value.slice (some ⟨g2, 0, none⟩) u.length yc] 27 (0, 0)) := by
    rw [hW]
    exact heap_alloc_new w _
  have hl1 : g1 < w.heap.size := (hO1.lt g1 rfl).2
  have HM := hide (markTrmCellS_one (some ⟨g1, 0, none⟩) xc t b1 W (by omega) (own_below hO1 hB0))
  go_enter Tryd.func10, Tryd.ntmps10
  go_wp2_with fail
  rw [← hW]
  clear hW
  refine (unhide HM).mono ?_
  rintro e w1 ⟨rfl, _, hg⟩
  have hX1 : w1.heap[w.heap.size]? = _ := (hg.block w.heap.size (blk_lt hX) (by simp [Value.ownBlock]; omega)).trans hX
  obtain ⟨_, _, _, _, x4, x5⟩ := six_cells hX1
  have o2 : OwnC w1 b2 (.slice (some ⟨g2, 0, none⟩) u.length yc) u := own_block (own_below hO2 hB0) (fun k e => by
    have e' : g2 = k := by simpa [Value.ownBlock] using e
    have hl2 : g2 < W.heap.size := Nat.lt_of_lt_of_le (hO2.lt g2 rfl).2 hB0.size
    rw [← e']
    exact hg.block g2 hl2 (by simp [Value.ownBlock]; omega))
  have HM2 := hide (markSlvOut_any st g2 yc u (1 + 3 * t.length) b2 w1 (by omega) (by omega) (by omega) o2)
  rw [show (((1 + 3 * t.length : Nat)) : Int) = 1 + 3 * (t.length : Int) by omega] at HM2
  have hk1 : w.grownBy w1 (some g1) := grown_trans (grown_below hB0) hg
  clear HM hB0 hX hg hX1 o2 hO1 hO2
  go_wp2_with fail
  refine (unhide HM2).mono ?_
  rintro e w2 ⟨rfl, hg2⟩
  go_wp2
  go_ret
  exact ⟨⟨_, rfl, by omega⟩, _, hk1, hg2⟩
end Go.Proofs.YtonpahhcfgdeoaaDoor

/- The laws' marks on a message that owns its memory. -/
namespace Go.Proofs.YtonpahhcfgdeoaaDoor
open Go.RowKit
set_option linter.unusedVariables false
set_option linter.unusedSimpArgs false

theorem own_keep {w w' : World} {base e size n : Nat} {v o : Value} {xs : List Value} (h : w.ownsRow base e size v n xs) (hg : w.grownBy w' o.ownBlock) (ha : ∀ k, v.ownBlock = some k → o.ownBlock = some k → False) : w'.ownsRow base e size v n xs :=
  own_block h (fun k e => hg.block k (World.ownsRow.lt h k e).2 (fun e' => ha k e e'.symm))

/-- Nothing but what two values own has been written. -/
def KeptV (w w' : World) (a b : Value) : Prop := ∃ m, w.grownBy m a.ownBlock ∧ m.grownBy w' b.ownBlock
theorem KeptV.below {a w w' : World} {x y : Value} {B : Nat} (h : KeptV w w' x y) (hb : Below B a w) (hB : B ≤ w.heap.size) (h1 : ∀ k, x.ownBlock = some k → B ≤ k) (h2 : ∀ k, y.ownBlock = some k → B ≤ k) : Below B a w' := by
  obtain ⟨m, k1, k2⟩ := h
  exact (hb.grown k1 hB h1).grown k2 (Nat.le_trans hB k1.size) h2
theorem KeptV.blk {w w' : World} {x y : Value} {B : Nat} {o : Obj} (h : KeptV w w' x y) (hb : w.heap[B]? = some o) (h1 : ∀ k, x.ownBlock = some k → B ≠ k) (h2 : ∀ k, y.ownBlock = some k → B ≠ k) : w'.heap[B]? = some o := by
  obtain ⟨m, k1, k2⟩ := h
  have e1 := (k1.block B (blk_lt hb) (fun e => h1 B e.symm rfl)).trans hb
  exact (k2.block B (blk_lt e1) (fun e => h2 B e.symm rfl)).trans e1

set_option maxRecDepth 100000 in
set_option maxHeartbeats 1000000 in
theorem markSlvOut_own (st : Int) (ya : Option Addr) (yc : Nat) (u : List C) (k base : Nat) (w : World) (hm : u.length ≤ 1048576) (hk1 : 1 ≤ k) (hk : k ≤ 4194304) (hO : OwnC w base (.slice ya u.length yc) u) :
    Calls Tryd.prog 23 #[.agg #[.int .i64 st, .slice ya u.length yc], .int .i64 k] w fun e w' => e = .returned (.int .i64 ((k + 3 * u.length : Nat) : Int)) ∧ OwnC w' base (.slice ya u.length yc) (marksC u.length k) ∧ w.grownBy w' (Value.slice ya u.length yc).ownBlock := by
  have HM := hide (markTrmCellS_any ya yc u k base (w.alloc (.cells #[.int .i64 st, .slice ya u.length yc] 25)) hm hk1 hk (World.ownsRow.alloc hO _))
  go_enter Tryd.func23, Tryd.ntmps23
  go_wp2_with fail
  refine (unhide HM).mono ?_
  rintro e w1 ⟨rfl, ho, hg⟩
  have HF := hide (And.intro ho (grown_trans (grown_below (cell_below w _)) hg))
  clear ho hg
  go_wp2
  go_ret
  exact ⟨rfl, (unhide HF).1, (unhide HF).2⟩

set_option maxRecDepth 100000 in
set_option maxHeartbeats 1000000 in
theorem heldSlvOut_own (st : Int) (ya : Option Addr) (yc n k : Nat) (w : World) (hm : n ≤ 1048576) (hk1 : 1 ≤ k) (hk : k ≤ 4194304) (hA : Row w ya (marksC n k)) :
    Calls Tryd.prog 25 #[.agg #[.int .i64 st, .slice ya n yc], .int .i64 k] w fun e w' => e = .returned (.int .i64 ((k + 3 * n : Nat) : Int)) ∧ Below w.heap.size w w' := by
  have hb0 := cell_below w (.cells #[.int .i64 st, .slice ya n yc] 25)
  have HM := hide (heldTrmCellS_any ya yc n k (w.alloc (.cells #[.int .i64 st, .slice ya n yc] 25)) hm hk1 hk (hA.below hb0))
  have hpos : ¬ (((k + 3 * n : Nat) : Int) < 0) := by omega
  go_enter Tryd.func25, Tryd.ntmps25
  go_wp2_with fail
  refine (unhide HM).mono ?_
  rintro e w1 ⟨rfl, hb1⟩
  have hB := bstep hb0 hb1
  go_wp2
  go_ret
  exact ⟨rfl, hB⟩

set_option maxRecDepth 100000 in
set_option maxHeartbeats 1000000 in
theorem markMsgMsg_own (k f n st : Int) (xa ya : Option Addr) (xc yc : Nat) (t u : List C) (b1 b2 : Nat) (w : World) (hm : t.length + u.length ≤ 1048576) (hO1 : OwnC w b1 (.slice xa t.length xc) t) (hO2 : OwnC w b2 (.slice ya u.length yc) u) (h12 : Apt (.slice xa t.length xc) (.slice ya u.length yc)) :
    Calls Tryd.prog 10 #[mV k f n st xa ya t.length xc u.length yc, .int .i64 1] w fun e w' => e = .returned (.int .i64 (((1 + 3 * t.length) + 3 * u.length : Nat) : Int)) ∧ OwnC w' b1 (.slice xa t.length xc) (marksC t.length 1) ∧ OwnC w' b2 (.slice ya u.length yc) (marksC u.length (1 + 3 * t.length)) ∧ KeptV w w' (.slice xa t.length xc) (.slice ya u.length yc) := by
  unfold mV
  obtain ⟨W, hW⟩ : ∃ W, W = w.alloc (Obj.cells #[Value.int IntKind.i64 k, Value.int IntKind.i64 f, Value.slice xa t.length xc, Value.int IntKind.i64 n, Value.int IntKind.i64 st, Value.slice ya u.length yc] 27) := ⟨_, rfl⟩
  have hB0 : Below w.heap.size w W := by rw [hW]; exact cell_below _ _
  have hX : W.heap[w.heap.size]? = some (.cells #[Value.int IntKind.i64 k, Value.int IntKind.i64 f, Value.slice xa t.length xc, Value.int IntKind.i64 n, Value.int IntKind.i64 st, Value.slice ya u.length yc] 27 (0, 0)) := by
    rw [hW]
    exact heap_alloc_new w _
  have hl1 := fun j e => (World.ownsRow.lt hO1 j e).2
  have HM := hide (markTrmCellS_one xa xc t b1 W (by omega) (own_below hO1 hB0))
  go_enter Tryd.func10, Tryd.ntmps10
  go_wp2_with fail
  rw [← hW]
  clear hW
  refine (unhide HM).mono ?_
  rintro e w1 ⟨rfl, o1, hg⟩
  have hX1 : w1.heap[w.heap.size]? = _ := (hg.block w.heap.size (blk_lt hX) (fun e => by have := hl1 _ e.symm; omega)).trans hX
  obtain ⟨_, _, _, _, x4, x5⟩ := six_cells hX1
  have o2 : OwnC w1 b2 (.slice ya u.length yc) u := own_keep (own_below hO2 hB0) hg (fun j e1 e2 => h12 j e2 e1)
  have HM2 := hide (markSlvOut_own st ya yc u (1 + 3 * t.length) b2 w1 (by omega) (by omega) (by omega) o2)
  rw [show (((1 + 3 * t.length : Nat)) : Int) = 1 + 3 * (t.length : Int) by omega] at HM2
  have HK := hide (And.intro o1 (And.intro hg (grown_trans (grown_below hB0) hg)))
  clear HM hB0 hX hg hX1 o2 hO1 hO2 o1
  go_wp2_with fail
  refine (unhide HM2).mono ?_
  rintro e w2 ⟨rfl, o2, hg2⟩
  obtain ⟨o1, hg, hk1⟩ := unhide HK
  have o1' := own_keep o1 hg2 (fun j e1 e2 => h12 j e1 e2)
  have HF := hide (And.intro o1' (And.intro o2 (show KeptV w w2 (.slice xa t.length xc) (.slice ya u.length yc) from ⟨w1, hk1, hg2⟩)))
  clear o1 o1' o2 hg hk1 hg2 HK
  go_wp2
  go_ret
  exact ⟨rfl, (unhide HF).1, (unhide HF).2.1, (unhide HF).2.2⟩

set_option maxRecDepth 100000 in
set_option maxHeartbeats 1000000 in
theorem heldMsgMsg_own (k f n st : Int) (xa ya : Option Addr) (xc yc a b : Nat) (w : World) (hm : a + b ≤ 1048576) (h1 : Row w xa (marksC a 1)) (h2 : Row w ya (marksC b (1 + 3 * a))) :
    Calls Tryd.prog 11 #[mV k f n st xa ya a xc b yc, .int .i64 1] w fun e w' => e = .returned (.int .i64 (((1 + 3 * a) + 3 * b : Nat) : Int)) ∧ Below w.heap.size w w' := by
  unfold mV
  obtain ⟨W, hW⟩ : ∃ W, W = w.alloc (Obj.cells #[Value.int IntKind.i64 k, Value.int IntKind.i64 f, Value.slice xa a xc, Value.int IntKind.i64 n, Value.int IntKind.i64 st, Value.slice ya b yc] 27) := ⟨_, rfl⟩
  have hB0 : Below w.heap.size w W := by rw [hW]; exact cell_below _ _
  have hX : W.heap[w.heap.size]? = some (.cells #[Value.int IntKind.i64 k, Value.int IntKind.i64 f, Value.slice xa a xc, Value.int IntKind.i64 n, Value.int IntKind.i64 st, Value.slice ya b yc] 27 (0, 0)) := by
    rw [hW]
    exact heap_alloc_new w _
  have HM := hide (heldTrmCellS_one xa xc a W (by omega) (h1.below hB0))
  have HM2 := hide (fun (W' : World) (hb : Below w.heap.size w W') => heldSlvOut_own st ya yc b (1 + 3 * a) W' (by omega) (by omega) (by omega) (h2.below hb))
  rw [show (((1 + 3 * a : Nat)) : Int) = 1 + 3 * (a : Int) by omega] at HM2
  have hp1 : ¬ ((1 + 3 * (a : Int)) < 0) := by omega
  have hp2 : ¬ ((((1 + 3 * a) + 3 * b : Nat) : Int) < 0) := by omega
  clear h1 h2
  go_enter Tryd.func11, Tryd.ntmps11
  go_wp2_with fail
  rw [← hW]
  clear hW
  refine (unhide HM).mono ?_
  rintro e w1 ⟨rfl, hb1⟩
  have hX1 := blk_below hX hb1
  obtain ⟨_, _, _, _, x4, x5⟩ := six_cells hX1
  have hB1 := bstep hB0 hb1
  have H2 := hide (unhide HM2 w1 hB1)
  clear HM HM2 hX hX1 hB0 hb1
  go_wp2_with fail
  refine (unhide H2).mono ?_
  rintro e w2 ⟨rfl, hb2⟩
  have hB2 := bstep hB1 hb2
  go_wp2
  go_ret
  exact ⟨rfl, hB2⟩
end Go.Proofs.YtonpahhcfgdeoaaDoor

/- The walk of FnExactTrmTake. -/
namespace Go.Proofs.YtonpahhcfgdeoaaDoor
open Go.RowKit
set_option linter.unusedVariables false
set_option linter.unusedSimpArgs false

theorem Gl.below {w w' : World} (h : Gl w) (hb : Below w.heap.size w w') : Gl w' := h.grown (r := none) (grown_below hb) (fun k e => by cases e)
theorem rdAll_len (y : List Int) : ((rdAll y).getD []).length ≤ 40 := by
  cases h : rdAll y with
  | none => simp
  | some t =>
    have ht : trm t = true := by
      unfold rdAll at h
      split at h
      · rename_i t' e
        simp only [Option.some.injEq] at h
        subst h
        unfold rdT at e
        split at e
        · cases e
        · split at e
          · split at e
            · rename_i hh
              simp only [Option.some.injEq, Prod.mk.injEq] at e
              rw [← e.1]; exact hh
            · cases e
          · cases e
      · cases h
    exact ((trm_iff t).1 ht).2.1

end Go.Proofs.YtonpahhcfgdeoaaDoor
