/- The walk of FnExactPrgAlone. -/
import Derived.Test.YthgfhimhgeohcaaQCP2
import Derived.Test.YthgfhimhgeohcaaQSP2SP3QX1
namespace Go.Proofs.Ythgfhimhgeohcaa
open Go.RowKit Go.Shelf
set_option linter.unusedVariables false
set_option linter.unusedSimpArgs false

/-- What holds wherever the blocks from lo to hi are as they are here. -/
def Hold (lo hi : Nat) (W : World) (P : World → Prop) : Prop := hi ≤ W.heap.size ∧ ∀ V, Agree lo hi W V → P V
theorem Hold.here {lo hi : Nat} {W : World} {P : World → Prop} (h : Hold lo hi W P) : P W := h.2 W (Agree.refl _ _ _)
theorem Hold.below {lo hi : Nat} {W W' : World} {P : World → Prop} (h : Hold lo hi W P) (hb : Below W.heap.size W W') : Hold lo hi W' P := ⟨Nat.le_trans h.1 hb.size, fun V hV => h.2 V ((Agree.below hb h.1).trans hV)⟩
theorem Hold.btw {lo hi a b : Nat} {W W' : World} {P : World → Prop} (h : Hold lo hi W P) (hb : Btw a b W W') (hd : hi ≤ a ∨ b ≤ lo) : Hold lo hi W' P := ⟨Nat.le_trans h.1 hb.size, fun V hV => h.2 V ((hb.agree h.1 hd).trans hV)⟩
theorem hold_of_sup {lo : Nat} {W : World} {P : World → Prop} (h : Sup lo W P) : Hold lo W.heap.size W P := ⟨Nat.le_refl _, fun V hV => h V hV⟩
theorem hold_cells {B : Nat} {W : World} {u v : Value} (h0 : W.cell? ⟨B, 0, none⟩ = some u) (h1 : W.cell? ⟨B, 1, none⟩ = some v) : Hold B (B + 1) W (fun V => V.cell? ⟨B, 0, none⟩ = some u ∧ V.cell? ⟨B, 1, none⟩ = some v) := by
  refine ⟨World.block_lt_of_cell? W ⟨_, _, none⟩ h0, fun V hV => ?_⟩
  have hh : V.heap[B]? = W.heap[B]? := hV B (Nat.le_refl _) (by omega)
  constructor
  · rw [← h0]; simp only [World.cell?]; rw [hh]
  · rw [← h1]; simp only [World.cell?]; rw [hh]
theorem nGs_le (s : List Gl) : nGs s ≤ 3 * (s.length + totG s) := by
  induction s with
  | nil => simp [nGs, totG]
  | cons x s ih => simp only [nGs, totG, szGl, List.length_cons]; omega
theorem nKs_le (s : List Cl) : nKs s ≤ 3 * totK s := by
  induction s with
  | nil => simp [nKs, totK]
  | cons x s ih => have := nGs_le x.g; simp only [nKs, totK, szCl]; omega
theorem aloneOf_sz (x : Pg) : szPg (aloneOf x) ≤ szPg x := by
  unfold aloneOf
  split
  · simp [szPg, totP]
  · simp [szPg, totP, totK]
theorem aloneOf_fit (x : Pg) (h : FitPg x) : FitPg (aloneOf x) := by
  unfold aloneOf
  split
  · exact ⟨h.1, fun y hy => by simp at hy⟩
  · exact ⟨fun y hy => by simp at hy, fun y hy => by simp at hy⟩
theorem goals_few {s : List Cl} (h : totK s ≤ 1048576) : ∀ c ∈ s, c.g.length ≤ 1048576 := fun c hc => by
  have := totK_mem hc
  unfold szCl at this
  omega

set_option maxRecDepth 100000 in
set_option maxHeartbeats 8000000 in
theorem FnExactPrgAlone_walk (x : Pg) (v0 v1 : Value) (w : World) (hv : PgV w x v0 v1) (hF : FitPg x) :
    Calls Try.prog 3 #[.agg #[v0, v1]] w fun e w' => e = .returned (.bool true) ∧ Below w.heap.size w w' := by
  obtain ⟨a0, n0, c0, a1, n1, c1, rfl, rfl⟩ := pgV_sl hv
  obtain ⟨hb0, d0, d1⟩ := two_new w (.slice a0 n0 c0) (.slice a1 n1 c1) 25
  have HSZ := hide (fun (W : World) (hW : Below w.heap.size w W) => szPg_any x _ _ 1048576 W (hv.below hW) hF (by omega) (by omega))
  go_enter Try.func3, Try.ntmps3
  go_wp2_with fail
  generalize w.alloc (.cells #[.slice a0 n0 c0, .slice a1 n1 c1] 25) = w0 at hb0 d0 d1 ⊢
  have hl0 : w.heap.size < w0.heap.size := World.block_lt_of_cell? w0 ⟨_, _, none⟩ d1
  have HD := hide (hold_cells d0 d1)
  refine (unhide HSZ w0 hb0).mono ?_
  rintro e w1 ⟨r0, rfl, hr1, hb1⟩
  have hB := bstep hb0 hb1
  replace HD := hide ((unhide HD).below hb1)
  replace hl0 : w.heap.size < w1.heap.size := Nat.lt_of_lt_of_le hl0 hb1.size
  clear HSZ hb0 hb1 d0 d1
  by_cases hr0 : r0 < 0
  · go_wp2
    go_ret
    exact ⟨rfl, hB⟩
  have hs : szPg x ≤ 1048576 := by omega
  clear hr1
  have HT := hide (fun (W : World) (hW : Below w.heap.size w W) => toPg_any x _ _ W hF hs (hv.below hW))
  have HTS := hide (fun (W : World) (hW : Below w.heap.size w W) => toPg_anyS x _ _ W hF hs (hv.below hW))
  have HSp := hide (fun (W : World) (u0 u1 : Value) (h : PgV W x u0 u1) => specPrgAlone_any x u0 u1 W hF hs h)
  have HIm := hide (fun (W : World) (u0 u1 : Value) (h : PgV W x u0 u1) => implPrgAlone_any x u0 u1 W hF hs h)
  have HEx := hide (fun (W : World) (u0 u1 t0 t1 : Value) (h : PgV W x u0 u1) (k : PgV W x t0 t1) => eqPg_yes x u0 u1 t0 t1 W hF hs h k)
  have hys := Nat.le_trans (aloneOf_sz x) hs
  have hyF := aloneOf_fit x hF
  obtain ⟨y, hy⟩ : ∃ y, y = aloneOf x := ⟨_, rfl⟩
  rw [← hy] at HSp HIm hys hyF
  have HEy := hide (fun (W : World) (u0 u1 t0 t1 : Value) (h : PgV W y u0 u1) (k : PgV W y t0 t1) => eqPg_yes y u0 u1 t0 t1 W hyF hys h k)
  obtain ⟨q1, hq1⟩ : ∃ q, q = 1 + (nKs x.cs + 3 * x.ps.length) := ⟨_, rfl⟩
  obtain ⟨q2, hq2⟩ : ∃ q, q = 1 + (nKs y.cs + 3 * y.ps.length) := ⟨_, rfl⟩
  have hxk := nKs_le x.cs
  have hyk := nKs_le y.cs
  unfold szPg at hs hys
  have HMx : Hid (∀ (W : World) (u0 u1 : Value) (xl xm xh : Nat), SegKS xl xm W u0 x.cs → SegP xm xh W u1 x.ps → xl ≤ xm → xm ≤ xh → xh ≤ W.heap.size →
      Calls Try.prog 13 #[.agg #[u0, u1], .int .i64 1] W fun e W' => e = .returned (.int .i64 (q1 : Int)) ∧ Btw xl xh W W') := fun W u0 u1 xl xm xh h1 h2 l1 l2 l3 => by
    refine (markPg_any x u0 u1 xl xh xl xm xm xh 1 W h1 h2 (Nat.le_refl _) l1 l2 l1 l2 (Nat.le_refl _) (.inl (Nat.le_refl _)) l3 (by omega) (by omega) (by omega) (goals_few (by omega)) (by omega)).mono ?_
    rintro e W' ⟨rfl, h, _⟩
    rw [← hq1]
    exact ⟨rfl, h⟩
  have HMy : Hid (∀ (W : World) (u0 u1 : Value) (gl gh : Nat), SegPg gl gh W y u0 u1 → gh ≤ W.heap.size →
      Calls Try.prog 13 #[.agg #[u0, u1], .int .i64 1] W fun e W' => e = .returned (.int .i64 (q2 : Int)) ∧ Btw gl gh W W' ∧ Hold gl gh W' (fun V => gh ≤ V.heap.size → Calls Try.prog 14 #[.agg #[u0, u1], .int .i64 1] V fun e V' => e = .returned (.int .i64 (q2 : Int)) ∧ Below V.heap.size V V')) := fun W u0 u1 gl gh h l3 => by
    obtain ⟨m, l1, l2, h1, h2⟩ := h
    refine (markPg_any y u0 u1 gl gh m gh gl m 1 W h2 h1 l1 l2 (Nat.le_refl _) (Nat.le_refl _) l1 l2 (.inr (Nat.le_refl _)) l3 (by omega) (by omega) (by omega) (goals_few (by omega)) (by omega)).mono ?_
    rintro e W' ⟨rfl, h, hM⟩
    rw [← hq2]
    refine ⟨rfl, h, Nat.le_trans l3 h.size, fun V hV hh => ?_⟩
    have hc := hM V hV hh
    rw [← hq2] at hc
    exact hc
  have z1 : ¬ ((q1 : Int) < 0) := by omega
  have z2 : ¬ ((q2 : Int) < 0) := by omega
  have zne : ((q2 : Int) != (q2 : Int)) = false := by simp
  clear hv hF hyF hy hq1 hq2 hxk hyk hs hys
  obtain ⟨d0, d1⟩ := (unhide HD).here
  go_wp2_with fail
  refine (unhide HT w1 hB).mono ?_
  rintro e w2 ⟨p0, p1, rfl, hS, hb⟩
  have hP := hS.here
  obtain ⟨_, _, _, _, _, _, rfl, rfl⟩ := pgV_sl hP
  have HQ := hide (unhide HSp w2 _ _ hP)
  replace HD := hide ((unhide HD).below hb)
  replace hB := bstep hB hb
  replace hl0 : w.heap.size < w2.heap.size := Nat.lt_of_lt_of_le hl0 hb.size
  clear hS hP hb d0 d1
  go_wp2_with fail
  refine (unhide HQ).mono ?_
  rintro e w3 ⟨f0, f1, rfl, hS, hb⟩
  obtain ⟨fa, fn, fc, ga, gn, gc, rfl, rfl⟩ := pgV_sl hS.here
  have HW := hide (hold_of_sup hS)
  replace HD := hide ((unhide HD).below hb)
  replace hB := bstep hB hb
  replace hl0 : w.heap.size < w3.heap.size := Nat.lt_of_lt_of_le hl0 hb.size
  clear hS hb HQ
  generalize w2.heap.size = WL at HW
  obtain ⟨hbn, x0, x1⟩ := two_new w3 (.slice fa fn fc) (.slice ga gn gc) 30
  obtain ⟨d0, d1⟩ := ((unhide HD).below hbn).here
  obtain ⟨d0', d1'⟩ := (unhide HD).here
  go_wp2_with fail
  generalize w3.alloc (.cells #[(.slice fa fn fc), (.slice ga gn gc)] 30) = w4 at hbn x0 x1 d0 d1 ⊢
  replace HD := hide ((unhide HD).below hbn)
  replace HW := hide ((unhide HW).below hbn)
  replace hB := bstep hB hbn
  have HB4 := hide (hold_cells x0 x1)
  have lB4 : w3.heap.size < w4.heap.size := World.block_lt_of_cell? w4 ⟨_, _, none⟩ x1
  have hlp := hl0
  generalize w3.heap.size = B4 at x0 x1 HW HB4 lB4 hlp ⊢
  clear x0 x1 hbn hl0
  refine (unhide HTS w4 hB).mono ?_
  rintro e w5 ⟨p0, p1, rfl, ⟨XM, m1, m2, hK, hPp⟩, hb⟩
  obtain ⟨xa, xc, rfl, _⟩ := hK.shape
  obtain ⟨ya, yc, rfl⟩ := hPp.shape
  have HX : Hid (Hold w4.heap.size w5.heap.size w5 (fun V => SegKS w4.heap.size XM V (.slice xa x.cs.length xc) x.cs ∧ SegP XM w5.heap.size V (.slice ya x.ps.length yc) x.ps)) := ⟨Nat.le_refl _, fun V hV => ⟨hK.kept (ekl_keeps _) (hV.sub (Nat.le_refl _) m2), hPp.kept (hV.sub m1 (Nat.le_refl _))⟩⟩
  replace HD := hide ((unhide HD).below hb)
  replace HW := hide ((unhide HW).below hb)
  replace HB4 := hide ((unhide HB4).below hb)
  replace hB := bstep hB hb
  clear hK hPp hb d0 d1 d0' d1'
  generalize w4.heap.size = XL at HX lB4 m1
  obtain ⟨hbn, x0, x1⟩ := two_new w5 (.slice xa x.cs.length xc) (.slice ya x.ps.length yc) 30
  go_wp2_with fail
  generalize w5.alloc (.cells #[(.slice xa x.cs.length xc), (.slice ya x.ps.length yc)] 30) = w6 at hbn x0 x1  ⊢
  replace HD := hide ((unhide HD).below hbn)
  replace HW := hide ((unhide HW).below hbn)
  replace HB4 := hide ((unhide HB4).below hbn)
  replace HX := hide ((unhide HX).below hbn)
  replace hB := bstep hB hbn
  have HB5 := hide (hold_cells x0 x1)
  have lB5 : w5.heap.size < w6.heap.size := World.block_lt_of_cell? w6 ⟨_, _, none⟩ x1
  generalize w5.heap.size = XH at x0 x1 HX HB5 lB5 m2 ⊢
  have hX := (unhide HX).here
  have H := hide (unhide HIm w6 _ _ ⟨hX.1.slK, hX.2.slP⟩)
  clear hX hbn
  refine (unhide H).mono ?_
  rintro e w7 ⟨g0, g1, rfl, hG, hb⟩
  obtain ⟨ha, hn, hc, ja, jn, jc, rfl, rfl⟩ := pgV_sl hG.pgV
  have HG : Hid (Hold w6.heap.size w7.heap.size w7 (fun V => SegPg w6.heap.size w7.heap.size V y (.slice ha hn hc) (.slice ja jn jc))) := ⟨Nat.le_refl _, fun V hV => hG.kept hV⟩
  have hg6 := hb.size
  replace HD := hide ((unhide HD).below hb)
  replace HW := hide ((unhide HW).below hb)
  replace HB4 := hide ((unhide HB4).below hb)
  replace HX := hide ((unhide HX).below hb)
  replace HB5 := hide ((unhide HB5).below hb)
  replace hB := bstep hB hb
  clear hG hb x0 x1 H
  generalize w6.heap.size = GL at HG lB5 hg6
  obtain ⟨hbn, x0, x1⟩ := two_new w7 (.slice ha hn hc) (.slice ja jn jc) 30
  obtain ⟨f0, f1⟩ := ((unhide HB4).below hbn).here
  obtain ⟨f0', f1'⟩ := (unhide HB4).here
  go_wp2_with fail
  generalize w7.alloc (.cells #[(.slice ha hn hc), (.slice ja jn jc)] 30) = w8 at hbn x0 x1 f0 f1 ⊢
  replace HD := hide ((unhide HD).below hbn)
  replace HW := hide ((unhide HW).below hbn)
  replace HB4 := hide ((unhide HB4).below hbn)
  replace HX := hide ((unhide HX).below hbn)
  replace HB5 := hide ((unhide HB5).below hbn)
  replace HG := hide ((unhide HG).below hbn)
  replace hB := bstep hB hbn
  have HB6 := hide (hold_cells x0 x1)
  have lB6 : w7.heap.size < w8.heap.size := World.block_lt_of_cell? w8 ⟨_, _, none⟩ x1
  generalize w7.heap.size = GH at x0 x1 HG HB6 lB6 hg6 ⊢
  have H := hide (unhide HEy w8 _ _ _ _ (unhide HG).here.pgV (unhide HW).here)
  clear hbn
  refine (unhide H).mono ?_
  rintro e w9 ⟨rfl, hb⟩
  replace HD := hide ((unhide HD).below hb)
  replace HW := hide ((unhide HW).below hb)
  replace HB4 := hide ((unhide HB4).below hb)
  replace HX := hide ((unhide HX).below hb)
  replace HB5 := hide ((unhide HB5).below hb)
  replace HG := hide ((unhide HG).below hb)
  replace HB6 := hide ((unhide HB6).below hb)
  replace hB := bstep hB hb
  clear hb x0 x1 H f0 f1 f0' f1'
  obtain ⟨d0, d1⟩ := (unhide HD).here
  obtain ⟨x0, x1⟩ := (unhide HB5).here
  have hl0 : w.heap.size < w9.heap.size := World.block_lt_of_cell? w9 ⟨_, _, none⟩ d1
  have hx0 : XH < w9.heap.size := World.block_lt_of_cell? w9 ⟨_, _, none⟩ x1
  have hBB : (true != true) = false := by simp
  go_wp2_with fail
  have hB9d := hB.drew
  have HP6 := hide (show PgV w9 x (.slice xa x.cs.length xc) (.slice ya x.ps.length yc) from ⟨(unhide HX).here.1.slK, (unhide HX).here.2.slP⟩)
  go_region_held3 (fun w' => w'.cell? ⟨w.heap.size, 0, none⟩ = some (.slice a0 n0 c0) ∧ w'.cell? ⟨w.heap.size, 1, none⟩ = some (.slice a1 n1 c1) ∧ w'.cell? ⟨XH, 0, none⟩ = some (.slice xa x.cs.length xc) ∧ w'.cell? ⟨XH, 1, none⟩ = some (.slice ya x.ps.length yc)) (first | (refine ⟨?_, ?_, ?_, ?_⟩ <;> assumption) | go_keep) (first
    | (go_at_call 12; have hx := hb7; refine (unhide HEx wa _ _ _ _ ((unhide HP6).below (show Below w9.heap.size w9 wa from ⟨hb7.os, hb7.tape, hb7.output, hb7.size, hb7.block⟩)) hP7).mono ?_; rintro e wb ⟨rfl, hb8⟩; have n0 := (hb8.cell (p := ⟨w.heap.size, 0, none⟩) hl7).trans m0'; have n1 := (hb8.cell (p := ⟨w.heap.size, 1, none⟩) hl7).trans m1'; have q0 := (hb8.cell (p := ⟨XH, 0, none⟩) hx7).trans z0; have q1 := (hb8.cell (p := ⟨XH, 1, none⟩) hx7).trans z1)
    | (go_at_call 10; refine (unhide HT w9.drew hB9d).mono ?_; rintro e wa ⟨t0, t1, rfl, hS7, hb7⟩; have hP7 := hS7.here; have m0' := (hb7.cell (p := ⟨w.heap.size, 0, none⟩) hl0).trans d0; have m1' := (hb7.cell (p := ⟨w.heap.size, 1, none⟩) hl0).trans d1; have z0 := (hb7.cell (p := ⟨XH, 0, none⟩) hx0).trans x0; have z1 := (hb7.cell (p := ⟨XH, 1, none⟩) hx0).trans x1; have hl7 : w.heap.size < wa.heap.size := World.block_lt_of_cell? wa ⟨_, _, none⟩ m0'; have hx7 : XH < wa.heap.size := World.block_lt_of_cell? wa ⟨_, _, none⟩ z0))
  have hb : Below w9.heap.size w9 wb := (show Below w9.heap.size w9 wa from ⟨hb7.os, hb7.tape, hb7.output, hb7.size, hb7.block⟩).trans (hb8.mono (show w9.heap.size ≤ wa.heap.size from hb7.size))
  replace HD := hide ((unhide HD).below hb)
  replace HW := hide ((unhide HW).below hb)
  replace HB4 := hide ((unhide HB4).below hb)
  replace HX := hide ((unhide HX).below hb)
  replace HB5 := hide ((unhide HB5).below hb)
  replace HG := hide ((unhide HG).below hb)
  replace HB6 := hide ((unhide HB6).below hb)
  replace hB := bstep hB hb
  clear hx hb7 hb8 hB9d hP7 hS7 HP6 HEx n0 n1 q0 q1 m0' m1' z0 z1 hl7 hx7 d0 d1 x0 x1 hl0 hx0 hb
  obtain ⟨x0, x1⟩ := (unhide HB5).here
  have H := hide (unhide HMx wb _ _ _ _ _ (unhide HX).here.1 (unhide HX).here.2 m1 m2 (unhide HX).1)
  go_wp2_with fail
  refine (unhide H).mono ?_
  rintro e wc ⟨rfl, hbt⟩
  replace HD := hide ((unhide HD).btw hbt (by omega))
  replace HW := hide ((unhide HW).btw hbt (by omega))
  replace HB4 := hide ((unhide HB4).btw hbt (by omega))
  replace HB5 := hide ((unhide HB5).btw hbt (by omega))
  replace HG := hide ((unhide HG).btw hbt (by omega))
  replace HB6 := hide ((unhide HB6).btw hbt (by omega))
  replace hB := Btw.below hB hbt (by omega)
  have lXX := Nat.le_trans m1 m2
  clear hbt x0 x1 HX HB5 H HMx m1 m2
  obtain ⟨x0, x1⟩ := (unhide HB6).here
  obtain ⟨f0, f1⟩ := (unhide HB4).here
  have H := hide (unhide HEy wc _ _ _ _ (unhide HG).here.pgV (unhide HW).here)
  go_wp2_with fail
  refine (unhide H).mono ?_
  rintro e wd ⟨rfl, hb⟩
  replace HD := hide ((unhide HD).below hb)
  replace HW := hide ((unhide HW).below hb)
  replace HB4 := hide ((unhide HB4).below hb)
  replace HG := hide ((unhide HG).below hb)
  replace HB6 := hide ((unhide HB6).below hb)
  replace hB := bstep hB hb
  clear hb x0 x1 f0 f1 H
  obtain ⟨x0, x1⟩ := (unhide HB6).here
  have H := hide (unhide HMy wd _ _ _ _ (unhide HG).here (unhide HG).1)
  go_wp2_with fail
  refine (unhide H).mono ?_
  rintro e we ⟨rfl, hbt, hH⟩
  have HH := hide hH
  replace HD := hide ((unhide HD).btw hbt (by omega))
  replace HW := hide ((unhide HW).btw hbt (by omega))
  replace HB4 := hide ((unhide HB4).btw hbt (by omega))
  replace HB6 := hide ((unhide HB6).btw hbt (by omega))
  replace hB := Btw.below hB hbt (by omega)
  clear hbt x0 x1 HG H HMy hH
  obtain ⟨x0, x1⟩ := (unhide HB6).here
  have H := hide ((unhide HH).here (unhide HH).1)
  go_wp2_with fail
  refine (unhide H).mono ?_
  rintro e wf ⟨rfl, hb⟩
  replace HD := hide ((unhide HD).below hb)
  replace HW := hide ((unhide HW).below hb)
  replace HB4 := hide ((unhide HB4).below hb)
  replace HB6 := hide ((unhide HB6).below hb)
  replace HH := hide ((unhide HH).below hb)
  replace hB := bstep hB hb
  clear hb x0 x1 H
  obtain ⟨d0, d1⟩ := (unhide HD).here
  go_wp2_with fail
  refine (unhide HT wf hB).mono ?_
  rintro e wg ⟨p0, p1, rfl, hS, hb⟩
  have hP := hS.here
  obtain ⟨_, _, _, _, _, _, rfl, rfl⟩ := pgV_sl hP
  have HQ := hide (unhide HIm wg _ _ hP)
  replace HD := hide ((unhide HD).below hb)
  replace HW := hide ((unhide HW).below hb)
  replace HB4 := hide ((unhide HB4).below hb)
  replace HB6 := hide ((unhide HB6).below hb)
  replace HH := hide ((unhide HH).below hb)
  replace hB := bstep hB hb
  clear hS hP hb d0 d1
  go_wp2_with fail
  refine (unhide HQ).mono ?_
  rintro e wh ⟨k0, k1, rfl, hS, hb⟩
  have hP := hS.pgV
  obtain ⟨ka, kn, kc, la, ln, lc, rfl, rfl⟩ := pgV_sl hP
  replace HD := hide ((unhide HD).below hb)
  replace HW := hide ((unhide HW).below hb)
  replace HB4 := hide ((unhide HB4).below hb)
  replace HB6 := hide ((unhide HB6).below hb)
  replace HH := hide ((unhide HH).below hb)
  replace hB := bstep hB hb
  have HK := hide hP
  clear hS hb HQ hP
  obtain ⟨hbn, x0, x1⟩ := two_new wh (.slice ka kn kc) (.slice la ln lc) 30
  obtain ⟨f0, f1⟩ := ((unhide HB4).below hbn).here
  obtain ⟨f0', f1'⟩ := (unhide HB4).here
  go_wp2_with fail
  generalize wh.alloc (.cells #[(.slice ka kn kc), (.slice la ln lc)] 30) = wi at hbn x0 x1 f0 f1 ⊢
  replace HD := hide ((unhide HD).below hbn)
  replace HW := hide ((unhide HW).below hbn)
  replace HB4 := hide ((unhide HB4).below hbn)
  replace HB6 := hide ((unhide HB6).below hbn)
  replace HH := hide ((unhide HH).below hbn)
  replace hB := bstep hB hbn
  have HB9 := hide (hold_cells x0 x1)
  have lB9 : wh.heap.size < wi.heap.size := World.block_lt_of_cell? wi ⟨_, _, none⟩ x1
  have H := hide (unhide HEy wi _ _ _ _ ((unhide HK).below hbn) (unhide HW).here)
  generalize wh.heap.size = B9 at x0 x1 HB9 lB9 ⊢
  clear hbn HK
  refine (unhide H).mono ?_
  rintro e wj ⟨rfl, hb⟩
  replace HD := hide ((unhide HD).below hb)
  replace HW := hide ((unhide HW).below hb)
  replace HB4 := hide ((unhide HB4).below hb)
  replace HB6 := hide ((unhide HB6).below hb)
  replace HH := hide ((unhide HH).below hb)
  replace hB := bstep hB hb
  clear hb x0 x1 H f0 f1 f0' f1' HB9
  obtain ⟨x0, x1⟩ := (unhide HB6).here
  have H := hide ((unhide HH).here (unhide HH).1)
  go_wp2_with fail
  refine (unhide H).mono ?_
  rintro e wk ⟨rfl, hb⟩
  have FIN := hide (bstep hB hb)
  clear hB hb H
  go_wp2
  go_ret
  exact ⟨rfl, unhide FIN⟩
end Go.Proofs.Ythgfhimhgeohcaa
