import Derived.Test.YtonpahhcfgdeoaaDoorQZ20Z18Z21
import Derived.Test.YtonpahhcfgdeoaaDoorQZ22
import Derived.Test.YtonpahhcfgdeoaaDoorQYG5YG6YG7YG8Z23ZX1
import Derived.Test.YtonpahhcfgdeoaaDoorQYS1YX1YB4W6W14YB5YT0
import Derived.Test.YtonpahhcfgdeoaaDoorChecked
import Derived.JoinedOf
/- The walk of FnExactMsgRead. -/
namespace Go.Proofs.YtonpahhcfgdeoaaDoor
open Go.RowKit
set_option linter.unusedVariables false
set_option linter.unusedSimpArgs false

theorem rdD_len {y : List Int} {D : Option MsgT} (h : RdD y D) : (D.getD zM).2.2.2.2.1.length ≤ 40 ∧ (D.getD zM).2.2.2.2.2.length ≤ 40 := by
  rcases h with ⟨_, rfl⟩ | ⟨k, f, n, st, t, u, r, hr, _, rfl⟩
  · simp [zM]
  · obtain ⟨ht, hu⟩ := rdF_trm hr
    have h1 := (trm_len ht).2
    have h2 : u.length ≤ 40 := by
      rcases hu with rfl | hu
      · simp
      · exact (trm_len hu).2
    split
    · exact ⟨h1, h2⟩
    · simp [zM]
theorem Gl2.below {w w' : World} (h : Gl2 w) (hb : Below w.heap.size w w') : Gl2 w' := h.grown (r := none) (grown_below hb) (fun k e => by cases e)

set_option maxRecDepth 100000 in
set_option maxHeartbeats 8000000 in
theorem FnExactMsgRead_walk (ao : Option Addr) (len cap : Nat) (zf : Nat → Int) (w : World) (h : Bin w ao len cap zf) (hG : Gl w) (hG2 : Gl2 w) :
    Calls Tryd.prog 3 #[.slice ao len cap] w fun e w' => e = .returned (.bool true) ∧ Below w.heap.size w w' := by
  obtain ⟨y, rfl, hy, hR, hc, hm⟩ := h.list
  have hmx : y.length ≤ 9223372036854775807 := by unfold maxLen at hm; omega
  clear h
  by_cases hbig : y.length ≤ 1048576
  · have hml : y.length ≤ maxLen := by unfold maxLen; omega
    obtain ⟨D, hD⟩ := rdD_ex y
    have HTO := hide (fun (W : World) (hW : Below w.heap.size w W) => toByteS_any ao cap y W hbig (hR.below hW))
    have HS := hide (fun (a : Option Addr) (W : World) (hA : RowY W a y) => specMsgRead_any a y.length y D W hA hy hD hbig (Nat.le_refl _))
    have HI := hide (fun (a : Option Addr) (W : World) (hA : RowY W a y) (hB : Below w.heap.size w W) => implMsgRead_any a y.length y D W hA hy (hG.below hB) (hG2.below hB) hD hbig (Nat.le_refl _))
    obtain ⟨tl, ul⟩ := rdD_len hD
    obtain ⟨m, hmm⟩ : ∃ m, m = D.getD zM := ⟨_, rfl⟩
    obtain ⟨g, hgg⟩ : ∃ g, g = D.isSome := ⟨_, rfl⟩
    rw [← hmm] at tl ul
    obtain ⟨k, f, n, st, t, u⟩ := m
    have HT := hide (show ∀ (W : World) (e : Ending) (W' : World), GotM W D e W' → ∃ v5 v6, e = .returned (.tuple #[.agg #[.int .i64 k, .int .i64 f, v5, .int .i64 n, .int .i64 st, v6], .bool g]) ∧ OwnC W' W.heap.size v5 t ∧ OwnC W' W.heap.size v6 u ∧ Apt v5 v6 ∧ Below W.heap.size W W' from fun W e W' h => by
      unfold GotM at h
      rw [← hmm, ← hgg] at h
      exact h)
    clear hmm hgg hR hG hG2 hD
    replace tl : t.length ≤ 40 := tl
    replace ul : u.length ≤ 40 := ul
    have tl2 : t.length ≤ 1048576 := by omega
    have ul2 : u.length ≤ 1048576 := by omega
    have tul : t.length + u.length ≤ 1048576 := by omega
    have hgb : (g != g) = false := by simp
    have HE := hide (show ∀ (xa ya xa' ya' : Option Addr) (xc yc xc' yc' : Nat) (W : World), Row W xa t → Row W ya u → Row W xa' t → Row W ya' u → Calls Tryd.prog 7 #[.agg #[.int .i64 k, .int .i64 f, .slice xa t.length xc, .int .i64 n, .int .i64 st, .slice ya u.length yc], .agg #[.int .i64 k, .int .i64 f, .slice xa' t.length xc', .int .i64 n, .int .i64 st, .slice ya' u.length yc']] W fun e w' => e = .returned (.bool true) ∧ Below W.heap.size W w' from fun xa ya xa' ya' xc yc xc' yc' W h1 h2 h3 h4 => eqMsgMsg_yes k f n st xa ya xa' ya' xc yc xc' yc' t u W tl2 ul2 h1 h2 h3 h4)
    have HMK := hide (show ∀ (xa ya : Option Addr) (xc yc b1 b2 : Nat) (W : World), OwnC W b1 (.slice xa t.length xc) t → OwnC W b2 (.slice ya u.length yc) u → Apt (.slice xa t.length xc) (.slice ya u.length yc) → Calls Tryd.prog 10 #[.agg #[.int .i64 k, .int .i64 f, .slice xa t.length xc, .int .i64 n, .int .i64 st, .slice ya u.length yc], .int .i64 1] W fun e w' => e = .returned (.int .i64 (((1 + 3 * t.length) + 3 * u.length : Nat) : Int)) ∧ OwnC w' b1 (.slice xa t.length xc) (marksC t.length 1) ∧ OwnC w' b2 (.slice ya u.length yc) (marksC u.length (1 + 3 * t.length)) ∧ KeptV W w' (.slice xa t.length xc) (.slice ya u.length yc) from fun xa ya xc yc b1 b2 W h1 h2 h3 => markMsgMsg_own k f n st xa ya xc yc t u b1 b2 W tul h1 h2 h3)
    have HHD := hide (show ∀ (xa ya : Option Addr) (xc yc : Nat) (W : World), Row W xa (marksC t.length 1) → Row W ya (marksC u.length (1 + 3 * t.length)) → Calls Tryd.prog 11 #[.agg #[.int .i64 k, .int .i64 f, .slice xa t.length xc, .int .i64 n, .int .i64 st, .slice ya u.length yc], .int .i64 1] W fun e w' => e = .returned (.int .i64 (((1 + 3 * t.length) + 3 * u.length : Nat) : Int)) ∧ Below W.heap.size W w' from fun xa ya xc yc W h1 h2 => heldMsgMsg_own k f n st xa ya xc yc t.length u.length W tul h1 h2)
    obtain ⟨M, hM⟩ : ∃ M : Nat, M = (1 + 3 * t.length) + 3 * u.length := ⟨_, rfl⟩
    rw [← hM] at HMK HHD
    clear hM
    have hMp : ¬ ((M : Int) < 0) := by omega
    have hMe : ((M : Int) != (M : Int)) = false := by simp
    have hpy : ¬ ((1 + (y.length : Int)) < 0) := by omega
    go_enter Tryd.func3, Tryd.ntmps3
    go_wp2_with fail
    refine (unhide HTO w (Below.refl _ _)).mono ?_
    rintro e w1 ⟨rfl, ho1, hb1⟩
    have H1 := hide (unhide HS _ w1 (rowY_of_own ho1 rfl))
    clear ho1
    go_wp2_with fail
    refine (unhide H1).mono ?_
    intro e w2 hTk
    obtain ⟨v5, v6, rfl, o5, o6, _, hb2⟩ := unhide HT _ _ _ hTk
    clear hTk H1
    have hB2 := bstep hb1 hb2
    obtain ⟨xa, xc, rfl, _⟩ := o5.shape
    obtain ⟨ya, yc, rfl, _⟩ := o6.shape
    -- the specification's answer in its block
    obtain ⟨V, hV⟩ : ∃ V, V = w2.alloc (Obj.cells #[Value.int IntKind.i64 k, Value.int IntKind.i64 f, Value.slice xa t.length xc, Value.int IntKind.i64 n, Value.int IntKind.i64 st, Value.slice ya u.length yc] 27) := ⟨_, rfl⟩
    have hbV : Below w2.heap.size w2 V := by rw [hV]; exact cell_below _ _
    have hX : V.heap[w2.heap.size]? = some (.cells #[Value.int IntKind.i64 k, Value.int IntKind.i64 f, Value.slice xa t.length xc, Value.int IntKind.i64 n, Value.int IntKind.i64 st, Value.slice ya u.length yc] 27 (0, 0)) := by rw [hV]; exact heap_alloc_new w2 _
    have hBV := bstep hB2 hbV
    have hVs : w2.heap.size < V.heap.size := blk_lt hX
    have H2 := hide (unhide HTO V hBV)
    have HO := hide (And.intro o5 (And.intro o6 (And.intro hbV hX)))
    clear o5 o6 hbV hX hb1 hb2
    go_wp2_with fail
    rw [← hV]
    refine (unhide H2).mono ?_
    rintro e w3 ⟨rfl, ho3, hb3⟩
    have hB3 := bstep hBV hb3
    have H3 := hide (unhide HI _ w3 (rowY_of_own ho3 rfl) hB3)
    clear H2 hV
    go_wp2_with fail
    refine (unhide H3).mono ?_
    intro e w4 hTk
    obtain ⟨v7, v8, rfl, o7, o8, hap, hb4⟩ := unhide HT _ _ _ hTk
    clear hTk H3
    have hB4 := bstep hB3 hb4
    obtain ⟨za, zc, rfl, _⟩ := o7.shape
    obtain ⟨wa, wc, rfl, _⟩ := o8.shape
    -- the program's answer in its block
    obtain ⟨U, hU⟩ : ∃ U, U = w4.alloc (Obj.cells #[Value.int IntKind.i64 k, Value.int IntKind.i64 f, Value.slice za t.length zc, Value.int IntKind.i64 n, Value.int IntKind.i64 st, Value.slice wa u.length wc] 27) := ⟨_, rfl⟩
    have hbU : Below w4.heap.size w4 U := by rw [hU]; exact cell_below _ _
    have hY : U.heap[w4.heap.size]? = some (.cells #[Value.int IntKind.i64 k, Value.int IntKind.i64 f, Value.slice za t.length zc, Value.int IntKind.i64 n, Value.int IntKind.i64 st, Value.slice wa u.length wc] 27 (0, 0)) := by rw [hU]; exact heap_alloc_new w4 _
    obtain ⟨o5, o6, hbV, hX⟩ := unhide HO
    have hb3U := bstep (bstep hb3 hb4) hbU
    have hC := bstep hbV hb3U
    have hXU := blk_below hX hb3U
    have hBU := bstep hB4 hbU
    have p5 := o5.below hC
    have p6 := o6.below hC
    have p7 := o7.below hbU
    have p8 := o8.below hbU
    have px := own_below ho3 (bstep hb4 hbU)
    have hs34 : w3.heap.size ≤ w4.heap.size := hb4.size
    have hsV3 : V.heap.size < w3.heap.size := by have := (ho3.lt V.heap.size rfl).2; omega
    have hs4U : w4.heap.size < U.heap.size := blk_lt hY
    have l7 : ∀ j, (Value.slice za t.length zc).ownBlock = some j → w3.heap.size ≤ j ∧ j < w4.heap.size := fun j e => World.ownsRow.lt o7 j e
    have l8 : ∀ j, (Value.slice wa u.length wc).ownBlock = some j → w3.heap.size ≤ j ∧ j < w4.heap.size := fun j e => World.ownsRow.lt o8 j e
    have HE1 := hide (unhide HE za wa xa ya zc wc xc yc U p7.row p8.row p5.row p6.row)
    have HK := hide (And.intro hBU (And.intro hC (And.intro px (And.intro p7 (And.intro p8 (And.intro hXU hY))))))
    have HP := hide (And.intro o5 (And.intro o6 (And.intro hap (And.intro l7 l8))))
    obtain ⟨x0, x1, x2, x3, x4, x5⟩ := six_cells hXU
    obtain ⟨y0, y1, y2, y3, y4, y5⟩ := six_cells hY
    clear o5 o6 o7 o8 p5 p6 p7 p8 px hap hb3 hb4 hbU hbV hX hXU hY hb3U hBU hC hB4 hB3 ho3 HO l7 l8
    subst hU
    go_wp2_with fail
    refine (unhide HE1).mono ?_
    rintro e w5 ⟨rfl, hb5⟩
    obtain ⟨hBU, hC, px, p7, p8, hXU, hY⟩ := unhide HK
    have hB5 := bstep hBU hb5
    have hC5 := bstep hC hb5
    have px5 := own_below px hb5
    have p75 := own_below p7 hb5
    have p85 := own_below p8 hb5
    have hX5 := blk_below hXU hb5
    have hY5 := blk_below hY hb5
    have H6 := hide (unhide HTO w5 hB5)
    clear x0 x1 x2 x3 x4 x5 y0 y1 y2 y3 y4 y5 hBU hC px p7 p8 hXU hY hb5 HK HE1
    have hs4U' := hs4U
    generalize w4.heap.size = Q4 at *
    clear hs4U
    have HK := hide (And.intro hB5 (And.intro hC5 (And.intro px5 (And.intro p75 (And.intro p85 (And.intro hX5 hY5))))))
    clear hB5 hC5 px5 p75 p85 hX5 hY5
    go_wp2_with fail
    refine (unhide H6).mono ?_
    rintro e w6 ⟨rfl, ho6, hb6⟩
    obtain ⟨hB5, hC5, px5, p75, p85, hX5, hY5⟩ := unhide HK
    have hx6 : OwnY w6 V.heap.size (.slice (some ⟨V.heap.size, 0, none⟩) y.length y.length) y := own_below px5 hb6
    have H7 := hide (eqByteS_any _ _ y.length y.length y y w6 hml hx6.row (rowY_of_own ho6 rfl))
    rw [decide_eq_yes rfl] at H7
    have HK2 := hide (And.intro (bstep hB5 hb6) (And.intro (bstep hC5 hb6) (And.intro hx6 (And.intro (own_below p75 hb6) (And.intro (own_below p85 hb6) (And.intro (blk_below hX5 hb6) (blk_below hY5 hb6)))))))
    clear hB5 hC5 px5 p75 p85 hX5 hY5 HK hx6 ho6 hb6 H6
    go_wp2_with fail
    refine (unhide H7).mono ?_
    rintro e w7 ⟨rfl, hb7⟩
    obtain ⟨hB6, hC6, px6, p76, p86, hX6, hY6⟩ := unhide HK2
    have hx7 : OwnY w7 V.heap.size (.slice (some ⟨V.heap.size, 0, none⟩) y.length y.length) y := own_below px6 hb7
    have H8 := hide (markByteS_one _ y.length y V.heap.size w7 hbig hx7)
    have HK3 := hide (And.intro (bstep hB6 hb7) (And.intro (bstep hC6 hb7) (And.intro hx7 (And.intro (own_below p76 hb7) (And.intro (own_below p86 hb7) (And.intro (blk_below hX6 hb7) (blk_below hY6 hb7)))))))
    clear hB6 hC6 px6 p76 p86 hX6 hY6 HK2 hx7 hb7 H7
    go_wp2_with fail
    refine (unhide H8).mono ?_
    rintro e w8 ⟨rfl, hx8, hG8⟩
    obtain ⟨hB7, hC7, hx7, p77, p87, hX7, hY7⟩ := unhide HK3
    have hwV : w.heap.size ≤ V.heap.size := hBV.size
    have hB8 := below_row hB7 hG8 hx7 hwV
    have hC8 := below_row hC7 hG8 hx7 (Nat.le_of_lt hVs)
    have p78 : OwnC w8 w3.heap.size (.slice za t.length zc) t := own_apart p77 hG8 (fun j e => .inl (by have e' : V.heap.size = j := by simpa [Value.ownBlock] using e
                                                                                                        omega))
    have p88 : OwnC w8 w3.heap.size (.slice wa u.length wc) u := own_apart p87 hG8 (fun j e => .inl (by have e' : V.heap.size = j := by simpa [Value.ownBlock] using e
                                                                                                        omega))
    have hX8 := (hG8.block w2.heap.size (blk_lt hX7) (fun e => by have e' : w2.heap.size = V.heap.size := by simpa [Value.ownBlock] using e
                                                                  omega)).trans hX7
    have hY8 := (hG8.block Q4 (blk_lt hY7) (fun e => by have e' : Q4 = V.heap.size := by simpa [Value.ownBlock] using e
                                                        omega)).trans hY7
    obtain ⟨o5, o6, hap, l7, l8⟩ := unhide HP
    have H9 := hide (unhide HE za wa xa ya zc wc xc yc w8 p78.row p88.row (o5.below hC8).row (o6.below hC8).row)
    obtain ⟨x0, x1, x2, x3, x4, x5⟩ := six_cells hX8
    obtain ⟨y0, y1, y2, y3, y4, y5⟩ := six_cells hY8
    have HK4 := hide (And.intro hB8 (And.intro hC8 (And.intro p78 (And.intro p88 (And.intro hX8 hY8)))))
    clear hB7 hC7 hx7 p77 p87 hX7 hY7 hx8 hG8 hB8 hC8 p78 p88 hX8 hY8 o5 o6 hap l7 l8 HK3 H8
    go_wp2_with fail
    refine (unhide H9).mono ?_
    rintro e w9 ⟨rfl, hb9⟩
    obtain ⟨hB8, hC8, p78, p88, hX8, hY8⟩ := unhide HK4
    obtain ⟨o5, o6, hap, l7, l8⟩ := unhide HP
    have hB9 := bstep hB8 hb9
    have hC9 := bstep hC8 hb9
    have p79 : OwnC w9 w3.heap.size (.slice za t.length zc) t := own_below p78 hb9
    have p89 : OwnC w9 w3.heap.size (.slice wa u.length wc) u := own_below p88 hb9
    have hX9 := blk_below hX8 hb9
    have hY9 := blk_below hY8 hb9
    have H10 := hide (unhide HMK za wa zc wc w3.heap.size w3.heap.size w9 p79 p89 hap)
    clear x0 x1 x2 x3 x4 x5 y0 y1 y2 y3 y4 y5
    obtain ⟨y0, y1, y2, y3, y4, y5⟩ := six_cells hY9
    have HK5 := hide (And.intro hB9 (And.intro hC9 (And.intro hX9 hY9)))
    clear hB8 hC8 p78 p88 hX8 hY8 hB9 hC9 p79 p89 hX9 hY9 o5 o6 hap l7 l8 HK4 H9 hb9
    go_wp2_with fail
    refine (unhide H10).mono ?_
    rintro e w10 ⟨rfl, m7, m8, hKV⟩
    obtain ⟨hB9, hC9, hX9, hY9⟩ := unhide HK5
    obtain ⟨o5, o6, hap, l7, l8⟩ := unhide HP
    have hw3 : w.heap.size ≤ w3.heap.size := by omega
    have hw2 : w2.heap.size ≤ w3.heap.size := by omega
    have hB10 := hKV.below hB9 hB9.size (fun j e => Nat.le_trans hw3 (l7 j e).1) (fun j e => Nat.le_trans hw3 (l8 j e).1)
    have hC10 := hKV.below hC9 hC9.size (fun j e => Nat.le_trans hw2 (l7 j e).1) (fun j e => Nat.le_trans hw2 (l8 j e).1)
    have hX10 := hKV.blk hX9 (fun j e => by have := (l7 j e).1; omega) (fun j e => by have := (l8 j e).1; omega)
    have hY10 := hKV.blk hY9 (fun j e => by have := (l7 j e).2; omega) (fun j e => by have := (l8 j e).2; omega)
    have r7 := OwnC.row m7
    have r8 := OwnC.row m8
    have H11 := hide (unhide HHD za wa zc wc w10 r7 r8)
    clear y0 y1 y2 y3 y4 y5
    obtain ⟨y0, y1, y2, y3, y4, y5⟩ := six_cells hY10
    have HK6 := hide (And.intro hB10 (And.intro hC10 (And.intro hX10 (And.intro hY10 (And.intro r7 r8)))))
    clear hB9 hC9 hX9 hY9 hB10 hC10 hX10 hY10 r7 r8 m7 m8 hKV o5 o6 hap l7 l8 HK5 H10
    go_wp2_with fail
    refine (unhide H11).mono ?_
    rintro e w11 ⟨rfl, hb11⟩
    obtain ⟨hB10, hC10, hX10, hY10, r7, r8⟩ := unhide HK6
    have hB11 := bstep hB10 hb11
    have hC11 := bstep hC10 hb11
    have HK7 := hide (And.intro hB11 (And.intro hC11 (And.intro (blk_below hX10 hb11) (And.intro (blk_below hY10 hb11) (And.intro (r7.below hb11) (r8.below hb11))))))
    have H12 := hide (unhide HTO w11 hB11)
    clear y0 y1 y2 y3 y4 y5 hB10 hC10 hX10 hY10 r7 r8 hB11 hC11 hb11 HK6 H11
    go_wp2_with fail
    refine (unhide H12).mono ?_
    rintro e w12 ⟨rfl, ho12, hb12⟩
    have hB12 := bstep (unhide HK7).1 hb12
    have H13 := hide (unhide HI _ w12 (rowY_of_own ho12 rfl) hB12)
    clear ho12 H12
    go_wp2_with fail
    refine (unhide H13).mono ?_
    intro e w13 hTk
    obtain ⟨v9, v10, rfl, o9, o10, _, hb13⟩ := unhide HT _ _ _ hTk
    obtain ⟨va, vc, rfl, _⟩ := o9.shape
    obtain ⟨ua, uc, rfl, _⟩ := o10.shape
    obtain ⟨T, hT⟩ : ∃ T, T = w13.alloc (Obj.cells #[Value.int IntKind.i64 k, Value.int IntKind.i64 f, Value.slice va t.length vc, Value.int IntKind.i64 n, Value.int IntKind.i64 st, Value.slice ua u.length uc] 27) := ⟨_, rfl⟩
    have hbT : Below w13.heap.size w13 T := by rw [hT]; exact cell_below _ _
    have hZ : T.heap[w13.heap.size]? = some (.cells #[Value.int IntKind.i64 k, Value.int IntKind.i64 f, Value.slice va t.length vc, Value.int IntKind.i64 n, Value.int IntKind.i64 st, Value.slice ua u.length uc] 27 (0, 0)) := by rw [hT]; exact heap_alloc_new w13 _
    obtain ⟨hB11, hC11, hX11, hY11, r7, r8⟩ := unhide HK7
    obtain ⟨o5, o6, hap, l7, l8⟩ := unhide HP
    have hbb := bstep (bstep hb12 hb13) hbT
    have hBT := bstep hB11 hbb
    have hCT := bstep hC11 hbb
    have hXT := blk_below hX11 hbb
    have hYT := blk_below hY11 hbb
    have H14 := hide (unhide HE va ua xa ya vc uc xc yc T (o9.below hbT).row (o10.below hbT).row (o5.below hCT).row (o6.below hCT).row)
    obtain ⟨x0, x1, x2, x3, x4, x5⟩ := six_cells hXT
    obtain ⟨z0, z1, z2, z3, z4, z5⟩ := six_cells hZ
    have HK8 := hide (And.intro hBT (And.intro hYT (And.intro (r7.below hbb) (r8.below hbb))))
    clear hTk hB11 hC11 hX11 hY11 r7 r8 o5 o6 hap l7 l8 hbb hBT hCT hXT hYT o9 o10 hb12 hb13 hbT hZ HK7 H13 hB12
    subst hT
    go_wp2_with fail
    refine (unhide H14).mono ?_
    rintro e w14 ⟨rfl, hb14⟩
    obtain ⟨hBT, hYT, r7, r8⟩ := unhide HK8
    have hB14 := bstep hBT hb14
    have hY14 := blk_below hYT hb14
    have H15 := hide (unhide HHD za wa zc wc w14 (r7.below hb14) (r8.below hb14))
    clear x0 x1 x2 x3 x4 x5 z0 z1 z2 z3 z4 z5 hBT hYT r7 r8 hb14 HK8 H14
    obtain ⟨y0, y1, y2, y3, y4, y5⟩ := six_cells hY14
    go_wp2_with fail
    refine (unhide H15).mono ?_
    rintro e w15 ⟨rfl, hb15⟩
    go_wp2
    go_ret
    exact ⟨rfl, bstep hB14 hb15⟩
  · go_enter Tryd.func3, Tryd.ntmps3
    go_wp2
    go_ret
    exact ⟨rfl, Below.refl _ _⟩
end Go.Proofs.YtonpahhcfgdeoaaDoor

/- The closed facts on the cut's head, by its first three words alone: cheap for the kernel, however many laws the seat holds. -/
namespace Go.Proofs.YtonpahhcfgdeoaaDoor
set_option maxRecDepth 100000
set_option linter.unusedSimpArgs false

theorem ws_split : ∀ (w r : List Char), (∀ c ∈ w, c ≠ Char.ofNat 32) → wordsSigns (w ++ Char.ofNat 32 :: r) = w :: wordsSigns r
  | [], r, _ => rfl
  | c :: w, r, h => by
      have ih := ws_split w r (fun d hd => h d (by simp [hd]))
      have hc : c = Char.ofNat 32 → False := h c (by simp)
      rw [List.cons_append, wordsSigns, ih]
      exact hc

theorem io_is : Tryd.prog.initOrder = String.ofList ([Char.ofNat 104, Char.ofNat 97, Char.ofNat 114, Char.ofNat 110, Char.ofNat 101, Char.ofNat 115, Char.ofNat 115] ++ Char.ofNat 32 :: ([Char.ofNat 57, Char.ofNat 54, Char.ofNat 101, Char.ofNat 102, Char.ofNat 52, Char.ofNat 101, Char.ofNat 54, Char.ofNat 48, Char.ofNat 48, Char.ofNat 52, Char.ofNat 102, Char.ofNat 48, Char.ofNat 97, Char.ofNat 98, Char.ofNat 50, Char.ofNat 54, Char.ofNat 102, Char.ofNat 55, Char.ofNat 102, Char.ofNat 97, Char.ofNat 52, Char.ofNat 49, Char.ofNat 57, Char.ofNat 57, Char.ofNat 55, Char.ofNat 49, Char.ofNat 98, Char.ofNat 57, Char.ofNat 54, Char.ofNat 53, Char.ofNat 97, Char.ofNat 102, Char.ofNat 53, Char.ofNat 101, Char.ofNat 51, Char.ofNat 99, Char.ofNat 98, Char.ofNat 98, Char.ofNat 57, Char.ofNat 53, Char.ofNat 101, Char.ofNat 52, Char.ofNat 99, Char.ofNat 98, Char.ofNat 57, Char.ofNat 101, Char.ofNat 52, Char.ofNat 54, Char.ofNat 52, Char.ofNat 100, Char.ofNat 52, Char.ofNat 55, Char.ofNat 51, Char.ofNat 100, Char.ofNat 49, Char.ofNat 54, Char.ofNat 48, Char.ofNat 56, Char.ofNat 51, Char.ofNat 51, Char.ofNat 49, Char.ofNat 97, Char.ofNat 97, Char.ofNat 102] ++ Char.ofNat 32 :: ([Char.ofNat 99, Char.ofNat 117, Char.ofNat 116] ++ Char.ofNat 32 :: [Char.ofNat 97, Char.ofNat 116, Char.ofNat 32, Char.ofNat 108, Char.ofNat 111, Char.ofNat 111, Char.ofNat 112, Char.ofNat 46, Char.ofNat 101, Char.ofNat 120, Char.ofNat 97, Char.ofNat 109, Char.ofNat 112, Char.ofNat 108, Char.ofNat 101, Char.ofNat 47, Char.ofNat 99, Char.ofNat 97, Char.ofNat 116, Char.ofNat 101, Char.ofNat 99, Char.ofNat 104, Char.ofNat 105, Char.ofNat 115, Char.ofNat 116, Char.ofNat 47, Char.ofNat 108, Char.ofNat 97, Char.ofNat 119, Char.ofNat 115, Char.ofNat 46, Char.ofNat 70, Char.ofNat 110, Char.ofNat 69, Char.ofNat 120, Char.ofNat 97, Char.ofNat 99, Char.ofNat 116, Char.ofNat 77, Char.ofNat 115, Char.ofNat 103, Char.ofNat 82, Char.ofNat 101, Char.ofNat 97, Char.ofNat 100]))) := by kernel_rfl
theorem io_words : wordsSigns Tryd.prog.initOrder.toList = [Char.ofNat 104, Char.ofNat 97, Char.ofNat 114, Char.ofNat 110, Char.ofNat 101, Char.ofNat 115, Char.ofNat 115] :: [Char.ofNat 57, Char.ofNat 54, Char.ofNat 101, Char.ofNat 102, Char.ofNat 52, Char.ofNat 101, Char.ofNat 54, Char.ofNat 48, Char.ofNat 48, Char.ofNat 52, Char.ofNat 102, Char.ofNat 48, Char.ofNat 97, Char.ofNat 98, Char.ofNat 50, Char.ofNat 54, Char.ofNat 102, Char.ofNat 55, Char.ofNat 102, Char.ofNat 97, Char.ofNat 52, Char.ofNat 49, Char.ofNat 57, Char.ofNat 57, Char.ofNat 55, Char.ofNat 49, Char.ofNat 98, Char.ofNat 57, Char.ofNat 54, Char.ofNat 53, Char.ofNat 97, Char.ofNat 102, Char.ofNat 53, Char.ofNat 101, Char.ofNat 51, Char.ofNat 99, Char.ofNat 98, Char.ofNat 98, Char.ofNat 57, Char.ofNat 53, Char.ofNat 101, Char.ofNat 52, Char.ofNat 99, Char.ofNat 98, Char.ofNat 57, Char.ofNat 101, Char.ofNat 52, Char.ofNat 54, Char.ofNat 52, Char.ofNat 100, Char.ofNat 52, Char.ofNat 55, Char.ofNat 51, Char.ofNat 100, Char.ofNat 49, Char.ofNat 54, Char.ofNat 48, Char.ofNat 56, Char.ofNat 51, Char.ofNat 51, Char.ofNat 49, Char.ofNat 97, Char.ofNat 97, Char.ofNat 102] :: [Char.ofNat 99, Char.ofNat 117, Char.ofNat 116] :: wordsSigns [Char.ofNat 97, Char.ofNat 116, Char.ofNat 32, Char.ofNat 108, Char.ofNat 111, Char.ofNat 111, Char.ofNat 112, Char.ofNat 46, Char.ofNat 101, Char.ofNat 120, Char.ofNat 97, Char.ofNat 109, Char.ofNat 112, Char.ofNat 108, Char.ofNat 101, Char.ofNat 47, Char.ofNat 99, Char.ofNat 97, Char.ofNat 116, Char.ofNat 101, Char.ofNat 99, Char.ofNat 104, Char.ofNat 105, Char.ofNat 115, Char.ofNat 116, Char.ofNat 47, Char.ofNat 108, Char.ofNat 97, Char.ofNat 119, Char.ofNat 115, Char.ofNat 46, Char.ofNat 70, Char.ofNat 110, Char.ofNat 69, Char.ofNat 120, Char.ofNat 97, Char.ofNat 99, Char.ofNat 116, Char.ofNat 77, Char.ofNat 115, Char.ofNat 103, Char.ofNat 82, Char.ofNat 101, Char.ofNat 97, Char.ofNat 100] := by
  rw [io_is, String.toList_ofList, ws_split _ _ (by decide), ws_split _ _ (by decide), ws_split _ _ (by decide)]
theorem bm (W : List (List Char)) : behindMainWord ([Char.ofNat 104, Char.ofNat 97, Char.ofNat 114, Char.ofNat 110, Char.ofNat 101, Char.ofNat 115, Char.ofNat 115] :: [Char.ofNat 57, Char.ofNat 54, Char.ofNat 101, Char.ofNat 102, Char.ofNat 52, Char.ofNat 101, Char.ofNat 54, Char.ofNat 48, Char.ofNat 48, Char.ofNat 52, Char.ofNat 102, Char.ofNat 48, Char.ofNat 97, Char.ofNat 98, Char.ofNat 50, Char.ofNat 54, Char.ofNat 102, Char.ofNat 55, Char.ofNat 102, Char.ofNat 97, Char.ofNat 52, Char.ofNat 49, Char.ofNat 57, Char.ofNat 57, Char.ofNat 55, Char.ofNat 49, Char.ofNat 98, Char.ofNat 57, Char.ofNat 54, Char.ofNat 53, Char.ofNat 97, Char.ofNat 102, Char.ofNat 53, Char.ofNat 101, Char.ofNat 51, Char.ofNat 99, Char.ofNat 98, Char.ofNat 98, Char.ofNat 57, Char.ofNat 53, Char.ofNat 101, Char.ofNat 52, Char.ofNat 99, Char.ofNat 98, Char.ofNat 57, Char.ofNat 101, Char.ofNat 52, Char.ofNat 54, Char.ofNat 52, Char.ofNat 100, Char.ofNat 52, Char.ofNat 55, Char.ofNat 51, Char.ofNat 100, Char.ofNat 49, Char.ofNat 54, Char.ofNat 48, Char.ofNat 56, Char.ofNat 51, Char.ofNat 51, Char.ofNat 49, Char.ofNat 97, Char.ofNat 97, Char.ofNat 102] :: [Char.ofNat 99, Char.ofNat 117, Char.ofNat 116] :: W) = [Char.ofNat 99, Char.ofNat 117, Char.ofNat 116] :: W := by kernel_rfl
theorem bmio : behindMainWord (wordsSigns Tryd.prog.initOrder.toList) = [Char.ofNat 99, Char.ofNat 117, Char.ofNat 116] :: wordsSigns [Char.ofNat 97, Char.ofNat 116, Char.ofNat 32, Char.ofNat 108, Char.ofNat 111, Char.ofNat 111, Char.ofNat 112, Char.ofNat 46, Char.ofNat 101, Char.ofNat 120, Char.ofNat 97, Char.ofNat 109, Char.ofNat 112, Char.ofNat 108, Char.ofNat 101, Char.ofNat 47, Char.ofNat 99, Char.ofNat 97, Char.ofNat 116, Char.ofNat 101, Char.ofNat 99, Char.ofNat 104, Char.ofNat 105, Char.ofNat 115, Char.ofNat 116, Char.ofNat 47, Char.ofNat 108, Char.ofNat 97, Char.ofNat 119, Char.ofNat 115, Char.ofNat 46, Char.ofNat 70, Char.ofNat 110, Char.ofNat 69, Char.ofNat 120, Char.ofNat 97, Char.ofNat 99, Char.ofNat 116, Char.ofNat 77, Char.ofNat 115, Char.ofNat 103, Char.ofNat 82, Char.ofNat 101, Char.ofNat 97, Char.ofNat 100] := (congrArg behindMainWord io_words).trans (bm _)
theorem make_of (P : Program) (W : List (List Char)) (h : behindMainWord (wordsSigns P.initOrder.toList) = [Char.ofNat 99, Char.ofNat 117, Char.ofNat 116] :: W) : P.make = some .cut := by
  unfold Program.make
  rw [h]
  kernel_rfl
theorem strip_of (W : List (List Char)) : stripLifts liftWords ([Char.ofNat 99, Char.ofNat 117, Char.ofNat 116] :: W) = ([], [Char.ofNat 99, Char.ofNat 117, Char.ofNat 116] :: W) := by kernel_rfl
theorem lifts_of (P : Program) (W : List (List Char)) (h : behindMainWord (wordsSigns P.initOrder.toList) = [Char.ofNat 99, Char.ofNat 117, Char.ofNat 116] :: W) : P.liftsFinal = false := by
  unfold Program.liftsFinal Program.headLifts
  rw [h]
  simp only [strip_of]
  kernel_rfl
theorem enter_of (P : Program) (W : List (List Char)) (h : behindMainWord (wordsSigns P.initOrder.toList) = [Char.ofNat 99, Char.ofNat 117, Char.ofNat 116] :: W) (h1 : P.laysLater = false) (h2 : P.bearsReflect = false) (h3 : P.doorFits [] = true) : P.mayEnter = true := by
  unfold Program.mayEnter
  rw [h]
  simp only [strip_of, h1, h2, h3]
  kernel_rfl
theorem prog_make : Tryd.prog.make = some .cut := make_of _ _ bmio
theorem prog_lifts : Tryd.prog.liftsFinal = false := lifts_of _ _ bmio
theorem prog_enter : Tryd.prog.mayEnter = true := enter_of _ _ bmio (by kernel_rfl) (by kernel_rfl) (by kernel_rfl)
/-- All closed facts of a row but the three on the cut's head. -/
def restFacts (P : Program) (f : FuncId) (fn : Func) (s : ChangeSpec) (c : OpenClaim) : Bool :=
  c.wf (OpenSpec.ofChange s) && laidOutB P && mapsRowed P &&
  fn.params.all (P.readableRec ·) && namedTie P c.named s.vars &&
  (c.stops == []) && (P.stops == []) && (c.knobs == []) && (P.stopKnobs == []) &&
  (c.inPlace == P.inPlace f) && (c.unfollowed == P.unfollowed f) && (c.recurses == P.recurses f) && (c.named == P.varsNamed f) &&
  (c.maps == (fn.params.toList ++ s.plain.varTypes P).any (P.mapsRec ·)) && (c.ifaces == (fn.params.toList ++ s.plain.varTypes P).any (P.ifacesRec ·)) && (c.mapsOut == P.mapsAmong fn.resultTypes.toList) &&
  (c.loops == (fn.params.toList ++ s.plain.varTypes P).any (P.loopsFrom ·)) && (c.wideKeys == (fn.params.toList ++ s.plain.varTypes P ++ fn.resultTypes.toList).any (P.wideKeysFrom ·)) &&
  s.vars.all (P.varReadable ·) && fn.resultTypes.all (fun t => P.readableRec t && decide (t < P.types.size)) && (c.ifacesOut == fn.resultTypes.toList.any (P.ifacesRec ·)) && (c.loopsOut == fn.resultTypes.toList.any (P.loopsFrom ·)) && (c.plainKeys == P.plainKeys) && c.shortTexts.isNone && P.stopsHeard && (c.kinds == (if c.domain.isEmpty then [] else fn.params.toList.map fun t => match P.underlying t with | some (.int k) => some k | _ => none)) && (c.pinned == c.pinnedBy) &&
  (c.veiled == (fn.params.toList ++ s.plain.varTypes P ++ fn.resultTypes.toList).any (P.veiledRec ·)) && c.veiledFits P fn.params.toList (fn.params.toList ++ s.plain.varTypes P ++ fn.resultTypes.toList)
theorem joined_split (P : Program) (f : FuncId) (fn : Func) (s : ChangeSpec) (c : OpenClaim) : joinedFacts P f fn s c = (restFacts P f fn s c && P.mayEnter && (c.lifted == P.liftsFinal) && (P.make == some c.make)) := by
  unfold joinedFacts restFacts
  generalize P.mayEnter = a1
  generalize (c.lifted == P.liftsFinal) = a2
  generalize (P.make == some c.make) = a3
  cases a1 <;> cases a2 <;> cases a3 <;> first | (simp only [Bool.and_true, Bool.and_false, Bool.false_and]; done) | (simp only [Bool.and_true, Bool.and_false, Bool.false_and]; rfl)
theorem joined_of {f : FuncId} {fn : Func} {s : ChangeSpec} {c : OpenClaim} (h : restFacts Tryd.prog f fn s c = true) (hl : c.lifted = false) (hm : c.make = .cut) : joinedFacts Tryd.prog f fn s c = true := by
  rw [joined_split, h, prog_enter, prog_lifts, prog_make, hl, hm]
  rfl
end Go.Proofs.YtonpahhcfgdeoaaDoor
