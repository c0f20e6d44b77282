import Derived.Test.YtonpahhcfgdeoaaQYS1YG5YG6
import Derived.Test.YtonpahhcfgdeoaaQYW1
import Derived.Test.YtonpahhcfgdeoaaQW2W3W4W6SB2
import Derived.Test.YtonpahhcfgdeoaaQW13SB1
import Derived.Test.YtonpahhcfgdeoaaQYB4
import Derived.Test.YtonpahhcfgdeoaaQW5
import Derived.Test.YtonpahhcfgdeoaaQW10
/- messageBody, MsgBytes of the program. -/
namespace Go.Proofs.Ytonpahhcfgdeoaa
open Go.RowKit
set_option linter.unusedVariables false
set_option linter.unusedSimpArgs false
attribute [-go_sem] Go.Builtin.append_

theorem row_at {w : World} {ao : Option Addr} {t : List C} (h : Row w ao t) (h0 : 0 < t.length) : ∃ b off, ao = some ⟨b, off, none⟩ ∧ At w b off t ∧ b < w.heap.size := by
  rcases h with rfl | ⟨b, off, e, hA⟩
  · simp at h0
  · exact ⟨b, off, e, hA, hA.lt h0⟩

set_option maxRecDepth 100000 in
set_option maxHeartbeats 4000000 in
theorem messageBody_any (k f n st : Int) (xa ya : Option Addr) (xc yc : Nat) (t u : List C) (w : World) (hT : OutM w xa xc t) (hU : OutM w ya yc u) (hk : k = 1 ∨ k = 2) (hf : 0 ≤ f ∧ f ≤ 3) (hst : 0 ≤ st ∧ st ≤ 5) (hn : 1 ≤ n ∧ n ≤ 12000) (ht : trm t = true) (hu : st = 2 → trm u = true) :
    Calls Try.prog 49 #[mV k f n st xa ya t.length xc u.length yc] w fun e w' => ∃ v, e = .returned v ∧ OwnY w' w.heap.size v (bodyL k f n st t u) ∧ Below w.heap.size w w' := by
  have hti := (trm_iff t).1 ht
  obtain ⟨tb, toff, rfl, hAt, htb⟩ := row_at hT.row (by omega)
  obtain ⟨W, hW⟩ : ∃ W, W = w.alloc (Obj.cells #[Value.int IntKind.i64 k, Value.int IntKind.i64 f, Value.slice (some ⟨tb, toff, none⟩) t.length xc, Value.int IntKind.i64 n, Value.int IntKind.i64 st, Value.slice ya u.length yc] 41) := ⟨_, rfl⟩
  have hB0 : Below w.heap.size w W := by rw [hW]; exact cell_below _ _
  have hX : W.heap[w.heap.size]? = some (.cells #[Value.int IntKind.i64 k, Value.int IntKind.i64 f, Value.slice (some ⟨tb, toff, none⟩) t.length xc, Value.int IntKind.i64 n, Value.int IntKind.i64 st, Value.slice ya u.length yc] 41 (0, 0)) := by
    rw [hW]
    exact heap_alloc_new w _
  have htW : tb < W.heap.size := Nat.lt_of_lt_of_le htb hB0.size
  have hAW := hAt.below hB0
  have hUR := hU.row.below hB0
  have HT := hide (fun (v : Value) (z : List Int) (w2 : World) (hO : OwnY w2 W.heap.size v z) (hz : z.length ≤ 4000) (hb : Below W.heap.size W w2) => appendTerm_any W.heap.size v z tb toff xc t w2 hO hb.size hz (hAW.below hb) htW hti.2.2.1 hti.2.1)
  have HU : Hid (st = 2 → ∀ (v : Value) (z : List Int) (w2 : World), OwnY w2 W.heap.size v z → z.length ≤ 4000 → Below W.heap.size W w2 → Calls Try.prog 75 #[v, .slice ya u.length yc] w2 fun e w' => ∃ v', e = .returned v' ∧ OwnY w' W.heap.size v' (z ++ encT u) ∧ Below W.heap.size w2 w') := by
    intro hs v z w2 hO hz hb
    have hui := (trm_iff u).1 (hu hs)
    obtain ⟨ub, uoff, rfl, hAu, hub⟩ := row_at hUR (by omega)
    have e : encT u = [(u.length : Int)] ++ encL u := by simp [encT, hu hs]
    rw [e]
    exact appendTerm_any W.heap.size v z ub uoff yc u w2 hO hb.size hz (hAu.below hb) hub hui.2.2.1 hui.2.1
  have hET : encT t = [(t.length : Int)] ++ encL t := by simp [encT, ht]
  rw [← hET] at HT
  have hO0 := own_new W W.heap.size [k, f, st] #[.int .u8 k, .int .u8 f, .int .u8 st] rfl 3 rfl (Nat.le_refl _) (by simp)
  have hC0 : Below W.heap.size W (W.alloc (.cells #[.int .u8 k, .int .u8 f, .int .u8 st] 5)) := cell_below _ _
  have HN := hide (appendNumber_any W.heap.size _ [k, f, st] n (W.alloc (.cells #[.int .u8 k, .int .u8 f, .int .u8 st] 5)).drew (World.ownsRow.drew hO0) hC0.size (by simp) (by omega) (by omega))
  obtain ⟨x0, x1, x2, x3, x4, x5⟩ := six_cells hX
  obtain ⟨_, _, x2a, x3a, _, _⟩ := six_cells (blk_below hX hC0)
  have hxl := blk_lt hX
  have HX := hide hX
  have HO0 := hide hO0
  have hk1 : 0 ≤ k := by omega
  have hk2 : k ≤ 255 := by omega
  have hf1 := hf.1
  have hf2 := hf.2
  have hs1 := hst.1
  have hs2 := hst.2
  unfold mV
  clear hT hU hk hf hst hn ht hu hti hAt htb htW hAW hUR hET hX hO0
  go_enter Try.func49, Try.ntmps49
  go_wp2_with fail
  have hsz : w.heap.size + 1 = W.heap.size := by rw [hW]; simp
  rw [← hW, hsz]
  clear hW hsz
  have hC0d := hC0.drew
  go_region_held3 (fun w' => w'.cell? ⟨w.heap.size, 2, none⟩ = some (.slice (some ⟨tb, toff, none⟩) t.length xc) ∧ w'.cell? ⟨w.heap.size, 3, none⟩ = some (.int .i64 n)) (first | (refine ⟨?_, ?_⟩ <;> assumption) | go_keep) (first
    | (go_at_call 75; have hx := g2; refine (unhide HT v2 _ w2 o2 hz2 hC2).mono ?_; rintro e w3 ⟨v3, rfl, o3, hb3⟩; have hC3 := hC2.trans hb3; have z2 := (hC3.cell (p := ⟨w.heap.size, 2, none⟩) hxl).trans x2; have z3 := (hC3.cell (p := ⟨w.heap.size, 3, none⟩) hxl).trans x3)
    | (go_at_call 76; refine (unhide HN).mono ?_; rintro e w2 ⟨v2, rfl, o2, g2⟩; have hC2 := hC0d.trans (g2.below (World.ownsRow.drew (unhide HO0)) hC0d.size); have hz2 : ([k, f, st] ++ num3 n).length ≤ 4000 := (by rw [List.length_append, num3_length]; simp); have y2 := (hC2.cell (p := ⟨w.heap.size, 2, none⟩) hxl).trans x2; have y3 := (hC2.cell (p := ⟨w.heap.size, 3, none⟩) hxl).trans x3))
  obtain ⟨c0, c1, c2, c3, c4, c5⟩ := six_cells (blk_below (unhide HX) hC3)
  have hz3 : ([k, f, st] ++ num3 n ++ encT t).length ≤ 4000 := by have := encT_length t; rw [List.length_append, List.length_append, num3_length]; simp; omega
  clear x0 x1 x2 x3 x4 x5 x2a x3a y2 y3 z2 z3 HT HN HO0 hC0 hC0d hC2 o2 g2 hb3 hz2 hx
  by_cases h2 : st = 2
  · have hb : (st == 2) = true := by simpa using h2
    have HU2 := hide ((unhide HU) h2 v3 _ w3 o3 hz3 hC3)
    have HBE : Hid (bodyL k f n st t u = [k, f, st] ++ num3 n ++ encT t ++ encT u) := by show bodyL k f n st t u = _; simp [bodyL, h2]
    clear h2 HU o3
    go_wp2_with fail
    refine (unhide HU2).mono ?_
    rintro e w4 ⟨v4, rfl, o4, hb4⟩
    have hB4 : Below w.heap.size w w4 := bstep hB0 (hC3.trans hb4)
    have o5 : OwnY w4 w.heap.size v4 (bodyL k f n st t u) := by
      rw [unhide HBE]
      exact own_lo o4 (fun j ej => Nat.le_trans hB0.size (World.ownsRow.lt o4 j ej).1)
    go_wp2
    go_ret
    exact ⟨_, rfl, o5, hB4⟩
  · have hb : (st == 2) = false := by simpa using h2
    have e : bodyL k f n st t u = [k, f, st] ++ num3 n ++ encT t := by simp [bodyL, h2]
    have hB4 : Below w.heap.size w w3 := bstep hB0 hC3
    have o5 : OwnY w3 w.heap.size v3 (bodyL k f n st t u) := by
      rw [e]
      exact own_lo o3 (fun j ej => Nat.le_trans hB0.size (World.ownsRow.lt o3 j ej).1)
    clear h2 e HU o3
    go_wp2
    go_ret
    exact ⟨_, rfl, o5, hB4⟩

set_option maxRecDepth 100000 in
set_option maxHeartbeats 4000000 in
theorem implMsgBytes_any (k f n st : Int) (xa ya : Option Addr) (xc yc : Nat) (t u : List C) (r : Bool) (w : World) (hT : OutM w xa xc t) (hU : OutM w ya yc u) (hr : CanB t u r) :
    Calls Try.prog 21 #[mV k f n st xa ya t.length xc u.length yc] w fun e w' => ∃ v, e = .returned v ∧ OwnY w' w.heap.size v (msgL k f n st t u r) ∧ Below w.heap.size w w' := by
  obtain ⟨W, hW⟩ : ∃ W, W = w.alloc (Obj.cells #[Value.int IntKind.i64 k, Value.int IntKind.i64 f, Value.slice xa t.length xc, Value.int IntKind.i64 n, Value.int IntKind.i64 st, Value.slice ya u.length yc] 41) := ⟨_, rfl⟩
  have hB0 : Below w.heap.size w W := by rw [hW]; exact cell_below _ _
  have hX : W.heap[w.heap.size]? = some (.cells #[Value.int IntKind.i64 k, Value.int IntKind.i64 f, Value.slice xa t.length xc, Value.int IntKind.i64 n, Value.int IntKind.i64 st, Value.slice ya u.length yc] 41 (0, 0)) := by
    rw [hW]
    exact heap_alloc_new w _
  have HMO := hide (implMsgOk_any k f n st xa ya xc yc t u r W (hT.below hB0) (hU.below hB0) hr)
  have HBD := hide (fun (W : World) (hW : Below w.heap.size w W) (hm : msgB k f n st t u r = true) => messageBody_any k f n st xa ya xc yc t u W (hT.below hW) (hU.below hW) (msgB_parts hm).1 (msgB_parts hm).2.1 (msgB_parts hm).2.2.1 (msgB_parts hm).2.2.2.1 (msgB_parts hm).2.2.2.2.1 (msgB_parts hm).2.2.2.2.2)
  unfold mV at HMO HBD ⊢
  clear hT hU hr
  go_enter Try.func21, Try.ntmps21
  go_wp2_with fail
  rw [← hW]
  clear hW
  refine (unhide HMO).mono ?_
  rintro e w1 ⟨rfl, hb1⟩
  have hB1 := bstep hB0 hb1
  replace hX := blk_below hX hb1
  clear HMO hB0 hb1
  cases hmb : msgB k f n st t u r with
  | false =>
    have HE : Hid (msgL k f n st t u r = []) := by show msgL k f n st t u r = []; simp [msgL, hmb]
    clear hX HBD hmb
    go_wp2
    go_ret
    exact ⟨_, rfl, by rw [unhide HE]; exact World.ownsRow_nil _ _ _ _, hB1⟩
  | true =>
    have hp := msgB_parts hmb
    have HE : Hid (msgL k f n st t u r = frameL (bodyL k f n st t u)) := by show msgL k f n st t u r = _; simp [msgL, hmb]
    have HBY := hide (bodyL_by (n := n) (t := t) (u := u) hp.1 hp.2.1 hp.2.2.1)
    have HBL := hide (bodyL_len k f n st t u)
    have H2 := hide (unhide HBD w1 hB1 hmb)
    obtain ⟨x0, x1, x2, x3, x4, x5⟩ := six_cells hX
    clear hX HBD hmb hp
    go_wp2_with fail
    refine (unhide H2).mono ?_
    rintro e w2 ⟨v2, rfl, o2, hb2⟩
    obtain ⟨g7, c7, rfl, _, _, hA7, _, _⟩ := o2.some (unhide HBL).2
    have HFR := hide (framed_any g7 0 c7 _ w2 hA7 (unhide HBL).2 (Nat.le_trans (unhide HBL).1 (by omega)) (unhide HBY))
    clear o2 hA7 H2 x0 x1 x2 x3 x4 x5
    go_wp2_with fail
    refine (unhide HFR).mono ?_
    rintro e w7 ⟨v7, rfl, o11, hb7⟩
    have hB7 := bstep hB1 (bstep hb2 hb7)
    have o12 : OwnY w7 w.heap.size v7 (frameL (bodyL k f n st t u)) := own_lo o11 (fun j e => Nat.le_trans (Nat.le_trans hB1.size hb2.size) (World.ownsRow.lt o11 j e).1)
    go_wp2
    go_ret
    exact ⟨_, rfl, by rw [unhide HE]; exact o12, hB7⟩
end Go.Proofs.Ytonpahhcfgdeoaa

/- The walk of FnExactMsgSum. -/
namespace Go.Proofs.Ytonpahhcfgdeoaa
open Go.RowKit
set_option linter.unusedVariables false
set_option linter.unusedSimpArgs false

theorem rowY_of_own {w : World} {base g : Nat} {n cap : Nat} {z : List Int} (h : w.ownsRow base 5 1 (.slice (some ⟨g, 0, none⟩) n cap) n (bys z)) (hn : n = z.length) : RowY w (some ⟨g, 0, none⟩) z := .inr ⟨g, 0, rfl, ownsY_at h hn⟩

end Go.Proofs.Ytonpahhcfgdeoaa

/- The walk of the law FnExactTrmFree. -/
namespace Go.Proofs.Ytonpahhcfgdeoaa
open Go.RowKit
set_option linter.unusedVariables false
set_option linter.unusedSimpArgs false

theorem toC {w' : World} {base : Nat} {g n : Nat} {t : List C} (h : w'.ownsRow base 67 3 (.slice (some ⟨g, 0, none⟩) t.length t.length) t.length (flat t)) : OwnC w' base (.slice (some ⟨g, 0, none⟩) t.length t.length) t := h

end Go.Proofs.Ytonpahhcfgdeoaa

/- The program's TrmBytes; the walk of FnExactTrmBytes. -/
namespace Go.Proofs.Ytonpahhcfgdeoaa
open Go.RowKit
set_option linter.unusedVariables false
set_option linter.unusedSimpArgs false
attribute [-go_sem] Go.Builtin.append_

theorem markByteS_one (ao : Option Addr) (cap : Nat) (z : List Int) (base : Nat) (w : World) (hm : z.length ≤ 1048576) (hA : OwnY w base (.slice ao z.length cap) z) :
    Calls Try.prog 24 #[.slice ao z.length cap, .int .i64 1] w fun e w' => e = .returned (.int .i64 (1 + z.length)) ∧
      OwnY w' base (.slice ao z.length cap) (marksY z.length 1) ∧ w.grownBy w' (Value.slice ao z.length cap).ownBlock :=
  markByteS_any ao cap z 1 base w (by omega) (by omega) hA
theorem heldByteS_one (ao : Option Addr) (cap n : Nat) (w : World) (hm : n ≤ 1048576) (hA : RowY w ao (marksY n 1)) :
    Calls Try.prog 25 #[.slice ao n cap, .int .i64 1] w fun e w' => e = .returned (.int .i64 (1 + n)) ∧ w' = w :=
  heldByteS_any ao cap n 1 w (by omega) (by omega) hA

end Go.Proofs.Ytonpahhcfgdeoaa

/- The walk of FnExactMsgBytes. -/
namespace Go.Proofs.Ytonpahhcfgdeoaa
open Go.RowKit
set_option linter.unusedVariables false
set_option linter.unusedSimpArgs false

theorem msgL_len (k f n st : Int) (t u : List C) (r : Bool) : (msgL k f n st t u r).length ≤ 1048576 := by
  have := (bodyL_len k f n st t u).1
  unfold msgL
  split
  · rw [frameL_len]; omega
  · simp

/-- Two blocks alone have been written. -/
def Kept2 (w w' : World) (g1 g2 : Nat) : Prop := ∃ m, w.grownBy m (some g1) ∧ m.grownBy w' (some g2)
theorem Kept2.below {a w w' : World} {g1 g2 B : Nat} (h : Kept2 w w' g1 g2) (hb : Below B a w) (hB : B ≤ w.heap.size) (h1 : B ≤ g1) (h2 : B ≤ g2) : Below B a w' := by
  obtain ⟨m, k1, k2⟩ := h
  exact (hb.grown k1 hB (fun k e => by cases e; exact h1)).grown k2 (Nat.le_trans hB k1.size) (fun k e => by cases e; exact h2)
theorem Kept2.blk {w w' : World} {g1 g2 B : Nat} {o : Obj} (h : Kept2 w w' g1 g2) (hb : w.heap[B]? = some o) (h1 : B ≠ g1) (h2 : B ≠ g2) : w'.heap[B]? = some o := by
  obtain ⟨m, k1, k2⟩ := h
  have e1 := (k1.block B (blk_lt hb) (by simpa using h1)).trans hb
  exact (k2.block B (blk_lt e1) (by simpa using h2)).trans e1
theorem Kept2.own {w w' : World} {g1 g2 base e size n : Nat} {v : Value} {xs : List Value} (h : Kept2 w w' g1 g2) (ho : w.ownsRow base e size v n xs) (h1 : g1 < base) (h2 : g2 < base) : w'.ownsRow base e size v n xs := by
  obtain ⟨m, k1, k2⟩ := h
  exact own_apart (own_apart ho k1 (fun k e => by cases e; exact .inl h1)) k2 (fun k e => by cases e; exact .inl h2)

set_option maxHeartbeats 1000000 in
theorem markSlvOut_any (st : Int) (g yc : Nat) (u : List C) (k base : Nat) (w : World) (hm : u.length ≤ 1048576) (hk1 : 1 ≤ k) (hk : k ≤ 4194304) (hO : OwnC w base (.slice (some ⟨g, 0, none⟩) u.length yc) u) :
    Calls Try.prog 51 #[.agg #[.int .i64 st, .slice (some ⟨g, 0, none⟩) u.length yc], .int .i64 k] w fun e w' => e = .returned (.int .i64 ((k + 3 * u.length : Nat) : Int)) ∧ w.grownBy w' (some g) := by
  have HM := hide (markTrmCellS_any (some ⟨g, 0, none⟩) yc u k base (w.alloc (.cells #[.int .i64 st, .slice (some ⟨g, 0, none⟩) u.length yc] 31)) hm hk1 hk (World.ownsRow.alloc hO _))
  go_enter Try.func51, Try.ntmps51
  go_wp2_with fail
  refine (unhide HM).mono ?_
  rintro e w1 ⟨rfl, _, hg⟩
  have hg1 : w.grownBy w1 (some g) := grown_trans (grown_below (cell_below _ _)) hg
  go_wp2
  go_ret
  exact ⟨rfl, hg1⟩

set_option maxHeartbeats 1000000 in
theorem markMsgMsg_any (k f n st : Int) (g1 g2 xc yc : Nat) (t u : List C) (b1 b2 : Nat) (w : World) (hm : t.length + u.length ≤ 1048576) (hO1 : OwnC w b1 (.slice (some ⟨g1, 0, none⟩) t.length xc) t) (hO2 : OwnC w b2 (.slice (some ⟨g2, 0, none⟩) u.length yc) u) (h12 : g1 ≠ g2) :
    Calls Try.prog 23 #[mV k f n st (some ⟨g1, 0, none⟩) (some ⟨g2, 0, none⟩) t.length xc u.length yc, .int .i64 1] w fun e w' => (∃ q : Int, e = .returned (.int .i64 q) ∧ 1 ≤ q) ∧ Kept2 w w' g1 g2 := by
  unfold mV
  obtain ⟨W, hW⟩ : ∃ W, W = w.alloc (Obj.cells #[Value.int IntKind.i64 k, Value.int IntKind.i64 f, Value.slice (some ⟨g1, 0, none⟩) t.length xc, Value.int IntKind.i64 n, Value.int IntKind.i64 st, Value.slice (some ⟨g2, 0, none⟩) u.length yc] 41) := ⟨_, rfl⟩
  have hB0 : Below w.heap.size w W := by rw [hW]; exact cell_below _ _
  have hX : W.heap[w.heap.size]? = some (.cells #[Value.int IntKind.i64 k, Value.int IntKind.i64 f, Value.slice (some ⟨g1, 0, none⟩) t.length xc, Value.int IntKind.i64 n, Value.int IntKind.i64 st, Value.slice (some ⟨g2, 0, none⟩) u.length yc] 41 (0, 0)) := by
    rw [hW]
    exact heap_alloc_new w _
  have hl1 : g1 < w.heap.size := (hO1.lt g1 rfl).2
  have HM := hide (markTrmCellS_one (some ⟨g1, 0, none⟩) xc t b1 W (by omega) (own_below hO1 hB0))
  go_enter Try.func23, Try.ntmps23
  go_wp2_with fail
  rw [← hW]
  clear hW
  refine (unhide HM).mono ?_
  rintro e w1 ⟨rfl, _, hg⟩
  have hX1 : w1.heap[w.heap.size]? = _ := (hg.block w.heap.size (blk_lt hX) (by simp [Value.ownBlock]; omega)).trans hX
  obtain ⟨_, _, _, _, x4, x5⟩ := six_cells hX1
  have o2 : OwnC w1 b2 (.slice (some ⟨g2, 0, none⟩) u.length yc) u := own_block (own_below hO2 hB0) (fun k e => by
    have e' : g2 = k := by simpa [Value.ownBlock] using e
    have hl2 : g2 < W.heap.size := Nat.lt_of_lt_of_le (hO2.lt g2 rfl).2 hB0.size
    rw [← e']
    exact hg.block g2 hl2 (by simp [Value.ownBlock]; omega))
  have HM2 := hide (markSlvOut_any st g2 yc u (1 + 3 * t.length) b2 w1 (by omega) (by omega) (by omega) o2)
  rw [show (((1 + 3 * t.length : Nat)) : Int) = 1 + 3 * (t.length : Int) by omega] at HM2
  have hk1 : w.grownBy w1 (some g1) := grown_trans (grown_below hB0) hg
  clear HM hB0 hX hg hX1 o2 hO1 hO2
  go_wp2_with fail
  refine (unhide HM2).mono ?_
  rintro e w2 ⟨rfl, hg2⟩
  go_wp2
  go_ret
  exact ⟨⟨_, rfl, by omega⟩, _, hk1, hg2⟩
end Go.Proofs.Ytonpahhcfgdeoaa
