/- A goal that a law draws; the walk of FnGoalOk. -/
import Derived.Test.YtmiofbifffnocaaQGD2
import Derived.Test.YtmiofbifffnocaaQGI7
import Derived.Test.YtmiofbifffnocaaQL1
import Derived.Deep.RegionHeld3
namespace Go.Proofs.Ytmiofbifffnocaa
open Go.RowKit
set_option linter.unusedVariables false
set_option linter.unusedSimpArgs false

theorem Bin.alloc {w : World} {a : Option Addr} {len cap : Nat} {z : Nat → Int} (h : Bin w a len cap z) (o : Obj) : Bin (w.alloc o) a len cap z := by
  obtain ⟨hc, hm, hz, hB⟩ := h
  refine ⟨hc, hm, hz, ?_⟩
  rcases hB with hB | ⟨b, off, e, hB⟩
  · exact .inl hB
  · exact .inr ⟨b, off, e, fun i hi => cell_keep (hB i hi) o⟩

/-- A goal that was drawn, by its slices. -/
def DrewGB (w : World) (e : Ending) (w' : World) : Prop :=
  ∃ (k : Int) (xa ya za : Option Addr) (xc yc zc : Nat) (a b c : List C), e = .returned (.agg #[.int .i64 k, .slice xa a.length xc, .slice ya b.length yc, .slice za c.length zc]) ∧ Trip w' xa ya za a b c ∧ (a.length ≤ xc ∧ xc ≤ maxLen) ∧ (b.length ≤ yc ∧ yc ≤ maxLen) ∧ (c.length ≤ zc ∧ zc ≤ maxLen) ∧ Below w.heap.size w w'
theorem trip_pl {base : Nat} {W : World} {xa ya za : Option Addr} {xc yc zc : Nat} {a b c : List C} (ha : Pl base W (.slice xa a.length xc) a) (hb : Pl base W (.slice ya b.length yc) b) (hc : Pl base W (.slice za c.length zc) c) : Trip W xa ya za a b c :=
  ⟨ha.own.row, hb.own.row, hc.own.row, (dc_fit ha.dc).1, (dc_fit hb.dc).1, (dc_fit hc.dc).1, by have := ha.len; omega, by have := hb.len; omega, by have := hc.len; omega⟩

set_option maxRecDepth 100000 in
set_option maxHeartbeats 2000000 in
theorem drawGoalOk_any (ao : Option Addr) (len cap : Nat) (z : Nat → Int) (w : World) (h : Bin w ao len cap z) :
    Calls Try.prog 23 #[.slice ao len cap] w fun e w' => DrewGB w e w' := by
  have h' := h.alloc (.cells #[.int .i64 0, .slice none 0 0, .slice none 0 0, .slice none 0 0] 49)
  have hb0 := cell_below w (.cells #[.int .i64 0, .slice none 0 0, .slice none 0 0, .slice none 0 0] 49)
  have hr0 := World.alloc_heap_new w (.cells #[.int .i64 0, .slice none 0 0, .slice none 0 0, .slice none 0 0] 49)
  go_enter Try.func23, Try.ntmps23
  go_wp2_with fail
  generalize w.alloc (.cells #[.int .i64 0, .slice none 0 0, .slice none 0 0, .slice none 0 0] 49) = w0 at h' hb0 hr0 ⊢
  have hl0 : w.heap.size < w0.heap.size := (Array.getElem?_eq_some_iff.1 hr0).1
  refine (open_any ao len cap z _ h').mono ?_
  rintro e w1 ⟨rfl, hR1, hb1⟩
  have hr1 := (hb1.block _ hl0).trans hr0
  have hlt1 := hR1.lt
  go_wp2_with fail
  refine (goalOr_any _ 0 2 _ (by omega) (by omega) (by omega) hR1).mono ?_
  rintro e w2 ⟨k, va, vb, vc, a, b, c, rfl, hk, pa, pb, pc, hG⟩
  have hr2 := (hG.block _ (by omega) (fun e => by injection e; omega)).trans hr1
  have hB2 : Below w.heap.size w w2 := (bstep hb0 hb1).grown hG (Nat.le_trans (Nat.le_of_lt hl0) hb1.size) (fun k e => by injection e; omega)
  obtain ⟨xa, xc, rfl, a1, a2, _⟩ := shape3 pa.own
  obtain ⟨ya, yc, rfl, b1, b2, _⟩ := shape3 pb.own
  obtain ⟨za, zc, rfl, c1, c2, _⟩ := shape3 pc.own
  obtain ⟨q0, q1, q2, q3, f0, f1, f2, f3⟩ := four_cells hr2
  have fin : DrewGB w (.returned (.agg #[.int .i64 k, .slice xa a.length xc, .slice ya b.length yc, .slice za c.length zc])) ((((w2.setCell ⟨w.heap.size, 0, none⟩ (.int .i64 k)).setCell ⟨w.heap.size, 1, none⟩ (.slice xa a.length xc)).setCell ⟨w.heap.size, 2, none⟩ (.slice ya b.length yc)).setCell ⟨w.heap.size, 3, none⟩ (.slice za c.length zc)) :=
    ⟨k, xa, ya, za, xc, yc, zc, a, b, c, rfl, trip_pl (pa.fin hr2) (pb.fin hr2) (pc.fin hr2), ⟨a1, a2⟩, ⟨b1, b2⟩, ⟨c1, c2⟩, (((hB2.setCell (p := ⟨w.heap.size, 0, none⟩) (Nat.le_refl _) _).setCell (p := ⟨w.heap.size, 1, none⟩) (Nat.le_refl _) _).setCell (p := ⟨w.heap.size, 2, none⟩) (Nat.le_refl _) _).setCell (p := ⟨w.heap.size, 3, none⟩) (Nat.le_refl _) _⟩
  have FIN := hide fin
  clear fin pa pb pc hG hB2 hr2 hr1 hr0
  go_wp2
  exact bodyPost_ret (by simp [results, Try.results23, go_sem, *]) rfl (unhide FIN)

/-- With another third term a goal of all three alone may stand; without a first one a cut alone. -/
theorem goalB_x {k : Int} {a b c : List C} (h : goalB k a b c = true) : goalB k a b [⟨2, 0, ByteArray.mk #[]⟩] = decide (k = 5) := by
  have ht : l3T [⟨2, 0, ByteArray.mk #[]⟩] = true := by decide
  unfold goalB at h ⊢
  split
  · rename_i e; subst e; simp
  · split
    · rename_i e; subst e; simp
    · split
      · rename_i e; rcases e with rfl | rfl <;> simp
      · split
        · rename_i e; subst e
          simp at h
          simp [h, ht]
        · rename_i e; simp_all
theorem goalB_y {k : Int} {a b c : List C} (h : goalB k a b c = true) : goalB k [] b c = decide (k = 3) := by
  have hn : l3T [] = false := by decide
  unfold goalB at h ⊢
  split
  · rename_i e; subst e; simp [hn]
  · split
    · rename_i e; subst e
      simp at h
      simp [h]
    · rename_i e3
      split
      · rename_i e; rcases e with rfl | rfl <;> simp [hn]
      · split
        · rename_i e; subst e; simp [hn]
        · simp_all
theorem goalB_x' {k : Int} {a b c : List C} (h : goalB k a b c = true) : goalB k a b [⟨2, 0, ByteArray.mk #[]⟩] = (k == 5) := by
  rw [goalB_x h]; by_cases e : k = 5 <;> simp [e]
theorem goalB_y' {k : Int} {a b c : List C} (h : goalB k a b c = true) : goalB k [] b c = (k == 3) := by
  rw [goalB_y h]; by_cases e : k = 3 <;> simp [e]

set_option maxRecDepth 100000 in
set_option maxHeartbeats 8000000 in
theorem FnGoalOk_walk (ao : Option Addr) (len cap : Nat) (zz : Nat → Int) (w : World) (h : Bin w ao len cap zz) :
    Calls Try.prog 5 #[.slice ao len cap] w fun e w' => e = .returned (.bool true) ∧ Below w.heap.size w w' := by
  have hmx : len ≤ 9223372036854775807 := by have := h.1; have := h.2.1; unfold maxLen at this; omega
  by_cases hbig : len ≤ 1048576
  · go_enter Try.func5, Try.ntmps5
    go_wp2_with fail
    refine (drawGoalOk_any ao len cap zz _ h).mono ?_
    rintro e w1 ⟨k, xa, ya, za, xc, yc, zc, a, b, c, rfl, T, ha, hb, hc, hb1⟩
    clear h hmx hbig
    go_wp2_with fail
    have hr0 := World.alloc_heap_new w1 (.cells #[.int .i64 k, .slice xa a.length xc, .slice ya b.length yc, .slice za c.length zc] 49)
    have nb := cell_below w1 (.cells #[.int .i64 k, .slice xa a.length xc, .slice ya b.length yc, .slice za c.length zc] 49)
    generalize w1.alloc (.cells #[.int .i64 k, .slice xa a.length xc, .slice ya b.length yc, .slice za c.length zc] 49) = w2 at hr0 nb ⊢
    have hl2 : w1.heap.size < w2.heap.size := (Array.getElem?_eq_some_iff.1 hr0).1
    replace T := T.below nb
    have hB2 := bstep hb1 nb
    have hl1 := hb1.size
    clear nb hb1
    generalize w1.heap.size = N at hr0 hl2 hl1 ⊢
    refine (implGoalOk_any k xa ya za xc yc zc a b c w2 T ha hb hc).mono ?_
    rintro e w3 ⟨rfl, hb3⟩
    have hr3 := (hb3.block _ hl2).trans hr0
    replace T := T.below hb3
    have hB3 := bstep hB2 hb3
    have hl3 : N < w3.heap.size := (Array.getElem?_eq_some_iff.1 hr3).1
    clear hr0 hl2 hb3 hB2
    obtain ⟨c0, c1, c2, c3, f0, f1, f2, f3⟩ := four_cells hr3
    go_wp2_with fail
    refine (specGoalOk_any k xa ya za xc yc zc a b c w3 T).mono ?_
    rintro e w4 ⟨rfl, hb4⟩
    have hr4 := (hb4.block _ hl3).trans hr3
    replace T := T.below hb4
    have hB4 := bstep hB3 hb4
    have hl4 : N < w4.heap.size := (Array.getElem?_eq_some_iff.1 hr4).1
    clear hr3 hl3 hb4 hB3 c0 c1 c2 c3 f0 f1 f2 f3
    obtain ⟨c0, c1, c2, c3, f0, f1, f2, f3⟩ := four_cells hr4
    cases hB : goalB k a b c with
    | false =>
      have HC := hide (caOk_any w4)
      go_wp2_with (go_at_call 15; refine (unhide HC).mono ?_; rintro e w5 ⟨rfl, hb5⟩)
      go_ret
      exact ⟨rfl, bstep hB4 hb5⟩
    | true =>
      have HX := hide (goalB_x' hB)
      have HY := hide (goalB_y' hB)
      have HTT := hide T
      clear T hB
      go_wp2
      obtain ⟨W, hW⟩ : ∃ W, W = (((w4.alloc (.cells #[.int .i64 k, .slice xa a.length xc, .slice ya b.length yc, .slice (some ⟨w4.heap.size + 1, 0, none⟩) 1 1] 49)).alloc (.cells #[.int .i64 2, .int .i64 0, .string (ByteArray.mk #[])] 34)).alloc (.cells #[.int .i64 k, .slice (some ⟨w4.heap.size + 1 + 1 + 1, 0, none⟩) 0 0, .slice ya b.length yc, .slice za c.length zc] 49)).alloc (.cells #[] 34) := ⟨_, rfl⟩
      rw [← hW]
      have hbW : Below w4.heap.size w4 W := by rw [hW]; exact bstep (bstep (bstep (cell_below _ _) (cell_below _ _)) (cell_below _ _)) (cell_below _ _)
      have X0 : W.cell? ⟨w4.heap.size, 0, none⟩ = some (.int .i64 k) := by rw [hW]; simp [go_sem]
      have Y0 : W.cell? ⟨w4.heap.size + 1 + 1, 0, none⟩ = some (.int .i64 k) := by rw [hW]; simp [go_sem]
      have X1 : W.cell? ⟨w4.heap.size, 1, none⟩ = some (.slice xa a.length xc) := by rw [hW]; simp [go_sem]
      have Y1 : W.cell? ⟨w4.heap.size + 1 + 1, 1, none⟩ = some (.slice (some ⟨w4.heap.size + 1 + 1 + 1, 0, none⟩) 0 0) := by rw [hW]; simp [go_sem]
      have X2 : W.cell? ⟨w4.heap.size, 2, none⟩ = some (.slice ya b.length yc) := by rw [hW]; simp [go_sem]
      have Y2 : W.cell? ⟨w4.heap.size + 1 + 1, 2, none⟩ = some (.slice ya b.length yc) := by rw [hW]; simp [go_sem]
      have X3 : W.cell? ⟨w4.heap.size, 3, none⟩ = some (.slice (some ⟨w4.heap.size + 1, 0, none⟩) 1 1) := by rw [hW]; simp [go_sem]
      have Y3 : W.cell? ⟨w4.heap.size + 1 + 1, 3, none⟩ = some (.slice za c.length zc) := by rw [hW]; simp [go_sem]
      have hRow : Row W (some ⟨w4.heap.size + 1, 0, none⟩) [⟨2, 0, ByteArray.mk #[]⟩] := by
        have q := (own_one (w4.alloc (.cells #[.int .i64 k, .slice xa a.length xc, .slice ya b.length yc, .slice (some ⟨w4.heap.size + 1, 0, none⟩) 1 1] 49)) ⟨2, 0, ByteArray.mk #[]⟩).row
        rw [show (w4.alloc (.cells #[.int .i64 k, .slice xa a.length xc, .slice ya b.length yc, .slice (some ⟨w4.heap.size + 1, 0, none⟩) 1 1] 49)).heap.size = w4.heap.size + 1 by simp] at q
        rw [hW]
        exact (q.below (cell_below _ _)).below (cell_below _ _)
      have hsW : w4.heap.size + 1 + 1 < W.heap.size := by rw [hW]; simp
      clear hW
      have T5 := (unhide HTT).below hbW
      have hB5 := bstep hB4 hbW
      have sc := (hbW.cell (p := ⟨N, 0, none⟩) hl4).trans c0
      have lN : N < W.heap.size := Nat.lt_of_lt_of_le hl4 hbW.size
      have lX : w4.heap.size < W.heap.size := by omega
      have lY := hsW
      clear hbW hB4 c0 c1 c2 c3 f0 f1 f2 f3 hr4 hl4 HTT
      generalize hLE : w4.heap.size + 1 + 1 + 1 = LE at *
      generalize hLY : w4.heap.size + 1 + 1 = LY at *
      generalize hLC : w4.heap.size + 1 = LC at *
      generalize hLX : w4.heap.size = LX at *
      clear hLE hLY hLC hLX hsW
      have HGX := hide (fun (V : World) (hV : Below W.heap.size W V) => (show Calls Try.prog 24 #[.agg #[.int .i64 k, .slice xa a.length xc, .slice ya b.length yc, .slice (some ⟨LC, 0, none⟩) 1 1]] V _ from implGoalOk_any k xa ya (some ⟨LC, 0, none⟩) xc yc 1 a b [⟨2, 0, ByteArray.mk #[]⟩] V ⟨(T5.below hV).ra, (T5.below hV).rb, hRow.below hV, T5.fa, T5.fb, fun c hc => by simp at hc; subst hc; decide, T5.la, T5.lb, by simp⟩ ha hb ⟨by simp, by simp [maxLen]⟩))
      have HGY := hide (fun (V : World) (hV : Below W.heap.size W V) => (show Calls Try.prog 24 #[.agg #[.int .i64 k, .slice (some ⟨LE, 0, none⟩) 0 0, .slice ya b.length yc, .slice za c.length zc]] V _ from implGoalOk_any k (some ⟨LE, 0, none⟩) ya za 0 yc zc [] b c V ⟨.inl rfl, (T5.below hV).rb, (T5.below hV).rc, fun c hc => by simp at hc, T5.fb, T5.fc, by simp, T5.lb, T5.lc⟩ ⟨by simp, by simp [maxLen]⟩ hb hc))
      rw [unhide HX] at HGX
      rw [unhide HY] at HGY
      clear HX HY T5 hRow ha hb hc
      have sx0 := X0; have sx1 := X1; have sx2 := X2; have sx3 := X3
      have sy0 := Y0; have sy1 := Y1; have sy2 := Y2; have sy3 := Y3
      clear X0 X1 X2 X3 Y0 Y1 Y2 Y3
      have hWd : Below W.heap.size W W.drew := (Below.refl _ _).drew
      have e5 : ((k == 5) == (k == 5)) = true := by simp
      have e3 : ((k == 3) == (k == 3)) = true := by simp
      go_region_held3 (fun w' => w'.cell? ⟨N, 0, none⟩ = some (.int .i64 k) ∧ w'.cell? ⟨LX, 0, none⟩ = some (.int .i64 k) ∧ w'.cell? ⟨LX, 1, none⟩ = some (.slice xa a.length xc) ∧ w'.cell? ⟨LX, 2, none⟩ = some (.slice ya b.length yc) ∧ w'.cell? ⟨LX, 3, none⟩ = some (.slice (some ⟨LC, 0, none⟩) 1 1) ∧ w'.cell? ⟨LY, 0, none⟩ = some (.int .i64 k) ∧ w'.cell? ⟨LY, 1, none⟩ = some (.slice (some ⟨LE, 0, none⟩) 0 0) ∧ w'.cell? ⟨LY, 2, none⟩ = some (.slice ya b.length yc) ∧ w'.cell? ⟨LY, 3, none⟩ = some (.slice za c.length zc)) (first | (refine ⟨?_, ?_, ?_, ?_, ?_, ?_, ?_, ?_, ?_⟩ <;> assumption) | go_keep) (first
        | (go_at_call 24; have hx := hb6; refine (unhide HGY w6 h06).mono ?_; rintro e w7 ⟨rfl, hb7⟩; have oc := (hb7.cell (p := ⟨N, 0, none⟩) lN6).trans mc; have ox0 := (hb7.cell (p := ⟨LX, 0, none⟩) lX6).trans mx0; have ox1 := (hb7.cell (p := ⟨LX, 1, none⟩) lX6).trans mx1; have ox2 := (hb7.cell (p := ⟨LX, 2, none⟩) lX6).trans mx2; have ox3 := (hb7.cell (p := ⟨LX, 3, none⟩) lX6).trans mx3; have oy0 := (hb7.cell (p := ⟨LY, 0, none⟩) lY6).trans my0; have oy1 := (hb7.cell (p := ⟨LY, 1, none⟩) lY6).trans my1; have oy2 := (hb7.cell (p := ⟨LY, 2, none⟩) lY6).trans my2; have oy3 := (hb7.cell (p := ⟨LY, 3, none⟩) lY6).trans my3)
        | (go_at_call 24; refine (unhide HGX W.drew hWd).mono ?_; rintro e w6 ⟨rfl, hb6⟩; have mc := (hb6.cell (p := ⟨N, 0, none⟩) lN).trans sc; have mx0 := (hb6.cell (p := ⟨LX, 0, none⟩) lX).trans sx0; have mx1 := (hb6.cell (p := ⟨LX, 1, none⟩) lX).trans sx1; have mx2 := (hb6.cell (p := ⟨LX, 2, none⟩) lX).trans sx2; have mx3 := (hb6.cell (p := ⟨LX, 3, none⟩) lX).trans sx3; have my0 := (hb6.cell (p := ⟨LY, 0, none⟩) lY).trans sy0; have my1 := (hb6.cell (p := ⟨LY, 1, none⟩) lY).trans sy1; have my2 := (hb6.cell (p := ⟨LY, 2, none⟩) lY).trans sy2; have my3 := (hb6.cell (p := ⟨LY, 3, none⟩) lY).trans sy3; have h06 := bstep hWd hb6; have lN6 : N < w6.heap.size := Nat.lt_of_lt_of_le lN h06.size; have lX6 : LX < w6.heap.size := Nat.lt_of_lt_of_le lX h06.size; have lY6 : LY < w6.heap.size := Nat.lt_of_lt_of_le lY h06.size))
      go_wp2
      go_ret
      exact ⟨by simp, bstep (bstep hB5 h06) hb7⟩
  · go_enter Try.func5, Try.ntmps5
    go_wp2
    go_ret
    exact ⟨rfl, Below.refl _ _⟩
end Go.Proofs.Ytmiofbifffnocaa
