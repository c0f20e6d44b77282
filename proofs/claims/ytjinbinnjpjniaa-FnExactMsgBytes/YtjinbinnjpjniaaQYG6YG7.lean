import Derived.Test.YtjinbinnjpjniaaQYG3Open2YM
import Derived.Test.YtjinbinnjpjniaaQYS1YG5
import Derived.Test.YtjinbinnjpjniaaQG1W16OK1
import Derived.Deep.RegionHeld3
/- MsgBytes of the specification and of the program. -/
namespace Go.Proofs.Ytjinbinnjpjniaa
open Go.RowKit
set_option linter.unusedVariables false
set_option linter.unusedSimpArgs false
attribute [-go_sem] Go.Builtin.append_

/-- What a frame holds. -/
def bodyL (k f n st : Int) (t u : List C) : List Int := [k, f, st] ++ num3 n ++ encT t ++ if st = 2 then encT u else []
/-- A message in bytes; none, if it is none. -/
def msgL (k f n st : Int) (t u : List C) (r : Bool) : List Int := if msgB k f n st t u r then frameL (bodyL k f n st t u) else []

theorem outB_parts {k : Int} {t u : List C} {r : Bool} (h : outB k t u r = true) : (k = 2 ∧ trm u = true) ∨ k = 3 ∨ k = 4 ∨ k = 5 := by
  unfold outB at h
  simp only [Bool.and_eq_true] at h
  obtain ⟨_, h⟩ := h
  split at h
  · rename_i h'; exact .inr h'
  · simp only [Bool.and_eq_true, decide_eq_true_eq] at h
    exact .inl ⟨h.1.1.1, h.1.1.2⟩
theorem msgB_parts {k f n st : Int} {t u : List C} {r : Bool} (h : msgB k f n st t u r = true) : (k = 1 ∨ k = 2) ∧ (0 ≤ f ∧ f ≤ 3) ∧ (0 ≤ st ∧ st ≤ 5) ∧ (1 ≤ n ∧ n ≤ 12000) ∧ trm t = true ∧ (st = 2 → trm u = true) := by
  unfold msgB at h
  simp only [Bool.and_eq_true, decide_eq_true_eq, Bool.or_eq_true] at h
  obtain ⟨⟨⟨hq, h1⟩, h2⟩, h3⟩ := h
  have ht := (isQ_parts hq).1
  rcases h3 with h3 | h3
  · unfold askB at h3
    simp only [Bool.and_eq_true, decide_eq_true_eq] at h3
    obtain ⟨⟨⟨⟨a1, a2⟩, a3⟩, a4⟩, a5⟩ := h3
    exact ⟨.inl a1, ⟨a2, a3⟩, ⟨by omega, by omega⟩, ⟨h1, h2⟩, ht, fun e => by omega⟩
  · unfold tellB at h3
    simp only [Bool.and_eq_true, decide_eq_true_eq] at h3
    obtain ⟨⟨a1, a2⟩, a3⟩ := h3
    have hp := outB_parts a3
    refine ⟨.inr a1, ⟨by omega, by omega⟩, ⟨by omega, by omega⟩, ⟨h1, h2⟩, ht, fun e => ?_⟩
    rcases hp with ⟨_, h⟩ | h | h | h
    · exact h
    · omega
    · omega
    · omega
theorem encT_pos {t : List C} (h : trm t = true) : 0 < (encT t).length := by simp [encT, h]
theorem bodyL_len (k f n st : Int) (t u : List C) : (bodyL k f n st t u).length ≤ 1048 ∧ 0 < (bodyL k f n st t u).length := by
  have h1 := encT_length t
  have h2 := encT_length u
  unfold bodyL
  rw [List.length_append, List.length_append, List.length_append, num3_length]
  split <;> simp <;> omega
theorem bodyL_by {k f n st : Int} {t u : List C} (hk : k = 1 ∨ k = 2) (hf : 0 ≤ f ∧ f ≤ 3) (hs : 0 ≤ st ∧ st ≤ 5) : ByL (bodyL k f n st t u) := by
  unfold bodyL
  refine ByL.app (ByL.app (ByL.app ?_ (highs_by _ _)) (encT_by _)) ?_
  · intro x hx
    simp at hx
    omega
  · split
    · exact encT_by _
    · exact ByL.nil

set_option maxRecDepth 100000 in
set_option maxHeartbeats 4000000 in
theorem specMsgBytes_any (k f n st : Int) (xa ya : Option Addr) (xc yc : Nat) (t u : List C) (r : Bool) (w : World) (hT : OutM w xa xc t) (hU : OutM w ya yc u) (hTd : ∀ W, Below w.heap.size w W → trm u = true → TdT W (.slice ya u.length yc) u) (hr : CanB t u r) :
    Calls Try.prog 26 #[mV k f n st xa ya t.length xc u.length yc] w fun e w' => ∃ v, e = .returned v ∧ OwnY w' w.heap.size v (msgL k f n st t u r) ∧ Below w.heap.size w w' := by
  obtain ⟨W, hW⟩ : ∃ W, W = w.alloc (Obj.cells #[Value.int IntKind.i64 k, Value.int IntKind.i64 f, Value.slice xa t.length xc, Value.int IntKind.i64 n, Value.int IntKind.i64 st, Value.slice ya u.length yc] 45) := ⟨_, rfl⟩
  have hB0 : Below w.heap.size w W := by rw [hW]; exact cell_below _ _
  have hX : W.heap[w.heap.size]? = some (.cells #[Value.int IntKind.i64 k, Value.int IntKind.i64 f, Value.slice xa t.length xc, Value.int IntKind.i64 n, Value.int IntKind.i64 st, Value.slice ya u.length yc] 45 (0, 0)) := by
    rw [hW]
    exact heap_alloc_new w _
  have HMO := hide (specMsgOk_any k f n st xa ya xc yc t u r W (hT.below hB0) (hU.below hB0) (fun W' hW' hu => hTd W' (bstep hB0 hW') hu) hr)
  have HTT := hide (fun (W : World) (hW : Below w.heap.size w W) => specTrmBytes_any xa xc t W (by have := hT.len; unfold maxLen; omega) (hT.row.below hW) hT.fit)
  have HTU := hide (fun (W : World) (hW : Below w.heap.size w W) => specTrmBytes_any ya yc u W (by have := hU.len; unfold maxLen; omega) (hU.row.below hW) hU.fit)
  unfold mV at HMO ⊢
  clear hT hU hTd hr
  go_enter Try.func26, Try.ntmps26
  go_wp2_with fail
  rw [← hW]
  clear hW
  refine (unhide HMO).mono ?_
  rintro e w1 ⟨rfl, hb1⟩
  have hB1 := bstep hB0 hb1
  replace hX := blk_below hX hb1
  clear HMO hB0 hb1
  cases hmb : msgB k f n st t u r with
  | false =>
    have HE : Hid (msgL k f n st t u r = []) := by show msgL k f n st t u r = []; simp [msgL, hmb]
    have hO : OwnY (w1.alloc (.cells #[] 5)) w.heap.size (.slice (some ⟨w1.heap.size, 0, none⟩) 0 0) [] := made_noneY w1 _ hB1.size
    clear hX HTT HTU hmb
    go_wp2
    go_ret
    exact ⟨_, rfl, by rw [unhide HE]; exact hO, bstep hB1 (cell_below _ _)⟩
  | true =>
    obtain ⟨hk, hf, hst, hn, ht, hu⟩ := msgB_parts hmb
    have HE : Hid (msgL k f n st t u r = frameL (bodyL k f n st t u)) := by show msgL k f n st t u r = _; simp [msgL, hmb]
    have HBY := hide (bodyL_by (n := n) (t := t) (u := u) hk hf hst)
    have HBL := hide (bodyL_len k f n st t u)
    have hpt := encT_pos ht
    have HU := hide hu
    clear hmb ht hu
    obtain ⟨x0, x1, x2, x3, x4, x5⟩ := six_cells hX
    have HX := hide hX
    clear hX
    have hk1 : 0 ≤ k := by omega
    have hk2 : k ≤ 255 := by omega
    have hf1 := hf.1
    have hf2 := hf.2
    have hs1 := hst.1
    have hs2 := hst.2
    have hA0 : AtY (w1.alloc (.cells #[.int .u8 k, .int .u8 f, .int .u8 st] 5)) w1.heap.size 0 [k, f, st] := atY_new w1 [k, f, st]
    have hC0 : Below w1.heap.size w1 (w1.alloc (.cells #[.int .u8 k, .int .u8 f, .int .u8 st] 5)) := cell_below _ _
    have HP := hide (l6Put_any w1.heap.size 0 3 [k, f, st] n (w1.alloc (.cells #[.int .u8 k, .int .u8 f, .int .u8 st] 5)) hA0 (by simp) (by simp) (by omega) (by omega))
    obtain ⟨_, _, _, xx3, _, _⟩ := six_cells (blk_below (unhide HX) hC0)
    clear hk hf hst hA0
    go_wp2_with fail
    refine (unhide HP).mono ?_
    rintro e w2 ⟨v2, rfl, o2, hb2⟩
    have hC2 := bstep hC0 hb2
    have o3 : OwnY w2 w1.heap.size v2 ([k, f, st] ++ num3 n) := own_lo o2 (fun j e => Nat.le_trans hC0.size (World.ownsRow.lt o2 j e).1)
    obtain ⟨y0, y1, y2, y3, y4, y5⟩ := six_cells (blk_below (unhide HX) hC2)
    clear HP o2 hC0 hb2 x0 x1 x2 x3 x4 x5 xx3
    go_wp2_with fail
    refine (unhide HTT w2 (bstep hB1 hC2)).mono ?_
    rintro e w3 ⟨v3, rfl, o4, hb3⟩
    have hC3 := bstep hC2 hb3
    have o5 := o3.below hb3
    have hl4 := encT_length t
    obtain ⟨g3, c3, rfl, _, _, hA3, _, _⟩ := o4.some hpt
    obtain ⟨v4, w4, r4, o6, g4⟩ := app_row w3 w1.heap.size v2 _ (encT t) g3 0 c3 o5 hC3.size (by rw [List.length_append, num3_length]; simp; omega) hA3 hpt
    have hC4 : Below w1.heap.size w1 w4 := hC3.trans (g4.below o5 hC3.size)
    obtain ⟨z0, z1, z2, z3, z4, z5⟩ := six_cells (blk_below (unhide HX) hC4)
    have hn4 : [k, f, st].length + 3 = 6 := rfl
    clear HTT hC2 hC3 o3 o4 o5 hb3 hA3 g4 y0 y1 y2 y3 y4 y5
    by_cases h2 : st = 2
    · have hb : (st == 2) = true := by simpa using h2
      have hpu := encT_pos ((unhide HU) h2)
      have HH2 := hide h2
      clear h2 HU
      go_wp2_with fail
      refine (unhide HTU w4 (bstep hB1 hC4)).mono ?_
      rintro e w5 ⟨v5, rfl, o7, hb5⟩
      have hC5 := bstep hC4 hb5
      have o8 := o6.below hb5
      have hl5 := encT_length u
      obtain ⟨g5, c5, rfl, _, _, hA5, _, _⟩ := o7.some hpu
      obtain ⟨v6, w6, r6, o9, g6⟩ := app_row w5 w1.heap.size v4 _ (encT u) g5 0 c5 o8 hC5.size (by rw [List.length_append, List.length_append, num3_length]; simp; omega) hA5 hpu
      have hC6 : Below w1.heap.size w1 w6 := hC5.trans (g6.below o8 hC5.size)
      have o10 : OwnY w6 w1.heap.size v6 (bodyL k f n st t u) := by
        have e : bodyL k f n st t u = [k, f, st] ++ num3 n ++ encT t ++ encT u := by simp [bodyL, unhide HH2]
        rw [e]
        exact o9
      obtain ⟨g7, c7, rfl, _, _, hA7, _, _⟩ := o10.some (unhide HBL).2
      have HFR := hide (l6Frame_any g7 0 c7 _ w6 hA7 (unhide HBL).2 (Nat.le_trans (unhide HBL).1 (by omega)) (unhide HBY))
      clear HTU hC4 hC5 hb5 o6 o7 o8 o9 o10 hA5 hA7 g6 z0 z1 z2 z3 z4 z5
      go_wp2_with fail
      refine (unhide HFR).mono ?_
      rintro e w7 ⟨v7, rfl, o11, hb7⟩
      have hB7 := bstep hB1 (bstep hC6 hb7)
      have o12 : OwnY w7 w.heap.size v7 (frameL (bodyL k f n st t u)) := own_lo o11 (fun j e => Nat.le_trans (Nat.le_trans hB1.size hC6.size) (World.ownsRow.lt o11 j e).1)
      go_wp2
      go_ret
      exact ⟨_, rfl, by rw [unhide HE]; exact o12, hB7⟩
    · have hb : (st == 2) = false := by simpa using h2
      have o10 : OwnY w4 w1.heap.size v4 (bodyL k f n st t u) := by
        have e : bodyL k f n st t u = [k, f, st] ++ num3 n ++ encT t := by simp [bodyL, h2]
        rw [e]
        exact o6
      obtain ⟨g7, c7, rfl, _, _, hA7, _, _⟩ := o10.some (unhide HBL).2
      have HFR := hide (l6Frame_any g7 0 c7 _ w4 hA7 (unhide HBL).2 (Nat.le_trans (unhide HBL).1 (by omega)) (unhide HBY))
      clear HTU h2 HU o6 o10 hA7
      go_wp2_with fail
      refine (unhide HFR).mono ?_
      rintro e w7 ⟨v7, rfl, o11, hb7⟩
      have hB7 := bstep hB1 (bstep hC4 hb7)
      have o12 : OwnY w7 w.heap.size v7 (frameL (bodyL k f n st t u)) := own_lo o11 (fun j e => Nat.le_trans (Nat.le_trans hB1.size hC4.size) (World.ownsRow.lt o11 j e).1)
      go_wp2
      go_ret
      exact ⟨_, rfl, by rw [unhide HE]; exact o12, hB7⟩
end Go.Proofs.Ytjinbinnjpjniaa

/- messageBody, MsgBytes of the program. -/
namespace Go.Proofs.Ytjinbinnjpjniaa
open Go.RowKit
set_option linter.unusedVariables false
set_option linter.unusedSimpArgs false
attribute [-go_sem] Go.Builtin.append_

theorem row_at {w : World} {ao : Option Addr} {t : List C} (h : Row w ao t) (h0 : 0 < t.length) : ∃ b off, ao = some ⟨b, off, none⟩ ∧ At w b off t ∧ b < w.heap.size := by
  rcases h with rfl | ⟨b, off, e, hA⟩
  · simp at h0
  · exact ⟨b, off, e, hA, hA.lt h0⟩

set_option maxRecDepth 100000 in
set_option maxHeartbeats 4000000 in
theorem messageBody_any (k f n st : Int) (xa ya : Option Addr) (xc yc : Nat) (t u : List C) (w : World) (hT : OutM w xa xc t) (hU : OutM w ya yc u) (hk : k = 1 ∨ k = 2) (hf : 0 ≤ f ∧ f ≤ 3) (hst : 0 ≤ st ∧ st ≤ 5) (hn : 1 ≤ n ∧ n ≤ 12000) (ht : trm t = true) (hu : st = 2 → trm u = true) :
    Calls Try.prog 49 #[mV k f n st xa ya t.length xc u.length yc] w fun e w' => ∃ v, e = .returned v ∧ OwnY w' w.heap.size v (bodyL k f n st t u) ∧ Below w.heap.size w w' := by
  have hti := (trm_iff t).1 ht
  obtain ⟨tb, toff, rfl, hAt, htb⟩ := row_at hT.row (by omega)
  obtain ⟨W, hW⟩ : ∃ W, W = w.alloc (Obj.cells #[Value.int IntKind.i64 k, Value.int IntKind.i64 f, Value.slice (some ⟨tb, toff, none⟩) t.length xc, Value.int IntKind.i64 n, Value.int IntKind.i64 st, Value.slice ya u.length yc] 45) := ⟨_, rfl⟩
  have hB0 : Below w.heap.size w W := by rw [hW]; exact cell_below _ _
  have hX : W.heap[w.heap.size]? = some (.cells #[Value.int IntKind.i64 k, Value.int IntKind.i64 f, Value.slice (some ⟨tb, toff, none⟩) t.length xc, Value.int IntKind.i64 n, Value.int IntKind.i64 st, Value.slice ya u.length yc] 45 (0, 0)) := by
    rw [hW]
    exact heap_alloc_new w _
  have htW : tb < W.heap.size := Nat.lt_of_lt_of_le htb hB0.size
  have hAW := hAt.below hB0
  have hUR := hU.row.below hB0
  have HT := hide (fun (v : Value) (z : List Int) (w2 : World) (hO : OwnY w2 W.heap.size v z) (hz : z.length ≤ 4000) (hb : Below W.heap.size W w2) => appendTerm_any W.heap.size v z tb toff xc t w2 hO hb.size hz (hAW.below hb) htW hti.2.2.1 hti.2.1)
  have HU : Hid (st = 2 → ∀ (v : Value) (z : List Int) (w2 : World), OwnY w2 W.heap.size v z → z.length ≤ 4000 → Below W.heap.size W w2 → Calls Try.prog 35 #[v, .slice ya u.length yc] w2 fun e w' => ∃ v', e = .returned v' ∧ OwnY w' W.heap.size v' (z ++ encT u) ∧ Below W.heap.size w2 w') := by
    intro hs v z w2 hO hz hb
    have hui := (trm_iff u).1 (hu hs)
    obtain ⟨ub, uoff, rfl, hAu, hub⟩ := row_at hUR (by omega)
    have e : encT u = [(u.length : Int)] ++ encL u := by simp [encT, hu hs]
    rw [e]
    exact appendTerm_any W.heap.size v z ub uoff yc u w2 hO hb.size hz (hAu.below hb) hub hui.2.2.1 hui.2.1
  have hET : encT t = [(t.length : Int)] ++ encL t := by simp [encT, ht]
  rw [← hET] at HT
  have hO0 := own_new W W.heap.size [k, f, st] #[.int .u8 k, .int .u8 f, .int .u8 st] rfl 3 rfl (Nat.le_refl _) (by simp)
  have hC0 : Below W.heap.size W (W.alloc (.cells #[.int .u8 k, .int .u8 f, .int .u8 st] 5)) := cell_below _ _
  have HN := hide (appendNumber_any W.heap.size _ [k, f, st] n (W.alloc (.cells #[.int .u8 k, .int .u8 f, .int .u8 st] 5)).drew (World.ownsRow.drew hO0) hC0.size (by simp) (by omega) (by omega))
  obtain ⟨x0, x1, x2, x3, x4, x5⟩ := six_cells hX
  obtain ⟨_, _, x2a, x3a, _, _⟩ := six_cells (blk_below hX hC0)
  have hxl := blk_lt hX
  have HX := hide hX
  have HO0 := hide hO0
  have hk1 : 0 ≤ k := by omega
  have hk2 : k ≤ 255 := by omega
  have hf1 := hf.1
  have hf2 := hf.2
  have hs1 := hst.1
  have hs2 := hst.2
  unfold mV
  clear hT hU hk hf hst hn ht hu hti hAt htb htW hAW hUR hET hX hO0
  go_enter Try.func49, Try.ntmps49
  go_wp2_with fail
  have hsz : w.heap.size + 1 = W.heap.size := by rw [hW]; simp
  rw [← hW, hsz]
  clear hW hsz
  have hC0d := hC0.drew
  go_region_held3 (fun w' => w'.cell? ⟨w.heap.size, 2, none⟩ = some (.slice (some ⟨tb, toff, none⟩) t.length xc) ∧ w'.cell? ⟨w.heap.size, 3, none⟩ = some (.int .i64 n)) (first | (refine ⟨?_, ?_⟩ <;> assumption) | go_keep) (first
    | (go_at_call 35; have hx := g2; refine (unhide HT v2 _ w2 o2 hz2 hC2).mono ?_; rintro e w3 ⟨v3, rfl, o3, hb3⟩; have hC3 := hC2.trans hb3; have z2 := (hC3.cell (p := ⟨w.heap.size, 2, none⟩) hxl).trans x2; have z3 := (hC3.cell (p := ⟨w.heap.size, 3, none⟩) hxl).trans x3)
    | (go_at_call 59; refine (unhide HN).mono ?_; rintro e w2 ⟨v2, rfl, o2, g2⟩; have hC2 := hC0d.trans (g2.below (World.ownsRow.drew (unhide HO0)) hC0d.size); have hz2 : ([k, f, st] ++ num3 n).length ≤ 4000 := (by rw [List.length_append, num3_length]; simp); have y2 := (hC2.cell (p := ⟨w.heap.size, 2, none⟩) hxl).trans x2; have y3 := (hC2.cell (p := ⟨w.heap.size, 3, none⟩) hxl).trans x3))
  obtain ⟨c0, c1, c2, c3, c4, c5⟩ := six_cells (blk_below (unhide HX) hC3)
  have hz3 : ([k, f, st] ++ num3 n ++ encT t).length ≤ 4000 := by have := encT_length t; rw [List.length_append, List.length_append, num3_length]; simp; omega
  clear x0 x1 x2 x3 x4 x5 x2a x3a y2 y3 z2 z3 HT HN HO0 hC0 hC0d hC2 o2 g2 hb3 hz2 hx
  by_cases h2 : st = 2
  · have hb : (st == 2) = true := by simpa using h2
    have HU2 := hide ((unhide HU) h2 v3 _ w3 o3 hz3 hC3)
    have HBE : Hid (bodyL k f n st t u = [k, f, st] ++ num3 n ++ encT t ++ encT u) := by show bodyL k f n st t u = _; simp [bodyL, h2]
    clear h2 HU o3
    go_wp2_with fail
    refine (unhide HU2).mono ?_
    rintro e w4 ⟨v4, rfl, o4, hb4⟩
    have hB4 : Below w.heap.size w w4 := bstep hB0 (hC3.trans hb4)
    have o5 : OwnY w4 w.heap.size v4 (bodyL k f n st t u) := by
      rw [unhide HBE]
      exact own_lo o4 (fun j ej => Nat.le_trans hB0.size (World.ownsRow.lt o4 j ej).1)
    go_wp2
    go_ret
    exact ⟨_, rfl, o5, hB4⟩
  · have hb : (st == 2) = false := by simpa using h2
    have e : bodyL k f n st t u = [k, f, st] ++ num3 n ++ encT t := by simp [bodyL, h2]
    have hB4 : Below w.heap.size w w3 := bstep hB0 hC3
    have o5 : OwnY w3 w.heap.size v3 (bodyL k f n st t u) := by
      rw [e]
      exact own_lo o3 (fun j ej => Nat.le_trans hB0.size (World.ownsRow.lt o3 j ej).1)
    clear h2 e HU o3
    go_wp2
    go_ret
    exact ⟨_, rfl, o5, hB4⟩

set_option maxRecDepth 100000 in
set_option maxHeartbeats 4000000 in
theorem implMsgBytes_any (k f n st : Int) (xa ya : Option Addr) (xc yc : Nat) (t u : List C) (r : Bool) (w : World) (hT : OutM w xa xc t) (hU : OutM w ya yc u) (hr : CanB t u r) :
    Calls Try.prog 27 #[mV k f n st xa ya t.length xc u.length yc] w fun e w' => ∃ v, e = .returned v ∧ OwnY w' w.heap.size v (msgL k f n st t u r) ∧ Below w.heap.size w w' := by
  obtain ⟨W, hW⟩ : ∃ W, W = w.alloc (Obj.cells #[Value.int IntKind.i64 k, Value.int IntKind.i64 f, Value.slice xa t.length xc, Value.int IntKind.i64 n, Value.int IntKind.i64 st, Value.slice ya u.length yc] 45) := ⟨_, rfl⟩
  have hB0 : Below w.heap.size w W := by rw [hW]; exact cell_below _ _
  have hX : W.heap[w.heap.size]? = some (.cells #[Value.int IntKind.i64 k, Value.int IntKind.i64 f, Value.slice xa t.length xc, Value.int IntKind.i64 n, Value.int IntKind.i64 st, Value.slice ya u.length yc] 45 (0, 0)) := by
    rw [hW]
    exact heap_alloc_new w _
  have HMO := hide (implMsgOk_any k f n st xa ya xc yc t u r W (hT.below hB0) (hU.below hB0) hr)
  have HBD := hide (fun (W : World) (hW : Below w.heap.size w W) (hm : msgB k f n st t u r = true) => messageBody_any k f n st xa ya xc yc t u W (hT.below hW) (hU.below hW) (msgB_parts hm).1 (msgB_parts hm).2.1 (msgB_parts hm).2.2.1 (msgB_parts hm).2.2.2.1 (msgB_parts hm).2.2.2.2.1 (msgB_parts hm).2.2.2.2.2)
  unfold mV at HMO HBD ⊢
  clear hT hU hr
  go_enter Try.func27, Try.ntmps27
  go_wp2_with fail
  rw [← hW]
  clear hW
  refine (unhide HMO).mono ?_
  rintro e w1 ⟨rfl, hb1⟩
  have hB1 := bstep hB0 hb1
  replace hX := blk_below hX hb1
  clear HMO hB0 hb1
  cases hmb : msgB k f n st t u r with
  | false =>
    have HE : Hid (msgL k f n st t u r = []) := by show msgL k f n st t u r = []; simp [msgL, hmb]
    clear hX HBD hmb
    go_wp2
    go_ret
    exact ⟨_, rfl, by rw [unhide HE]; exact World.ownsRow_nil _ _ _ _, hB1⟩
  | true =>
    have hp := msgB_parts hmb
    have HE : Hid (msgL k f n st t u r = frameL (bodyL k f n st t u)) := by show msgL k f n st t u r = _; simp [msgL, hmb]
    have HBY := hide (bodyL_by (n := n) (t := t) (u := u) hp.1 hp.2.1 hp.2.2.1)
    have HBL := hide (bodyL_len k f n st t u)
    have H2 := hide (unhide HBD w1 hB1 hmb)
    obtain ⟨x0, x1, x2, x3, x4, x5⟩ := six_cells hX
    clear hX HBD hmb hp
    go_wp2_with fail
    refine (unhide H2).mono ?_
    rintro e w2 ⟨v2, rfl, o2, hb2⟩
    obtain ⟨g7, c7, rfl, _, _, hA7, _, _⟩ := o2.some (unhide HBL).2
    have HFR := hide (framed_any g7 0 c7 _ w2 hA7 (unhide HBL).2 (Nat.le_trans (unhide HBL).1 (by omega)) (unhide HBY))
    clear o2 hA7 H2 x0 x1 x2 x3 x4 x5
    go_wp2_with fail
    refine (unhide HFR).mono ?_
    rintro e w7 ⟨v7, rfl, o11, hb7⟩
    have hB7 := bstep hB1 (bstep hb2 hb7)
    have o12 : OwnY w7 w.heap.size v7 (frameL (bodyL k f n st t u)) := own_lo o11 (fun j e => Nat.le_trans (Nat.le_trans hB1.size hb2.size) (World.ownsRow.lt o11 j e).1)
    go_wp2
    go_ret
    exact ⟨_, rfl, by rw [unhide HE]; exact o12, hB7⟩
end Go.Proofs.Ytjinbinnjpjniaa
