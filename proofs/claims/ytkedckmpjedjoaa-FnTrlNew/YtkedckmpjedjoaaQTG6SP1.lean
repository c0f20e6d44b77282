import Derived.Test.YtkedckmpjedjoaaQTG5
import Derived.Deep.Upon
import Derived.Deep.AppendSrc
import Derived.Deep.RegionHeld3
/- PrgAlone of the program. -/
namespace Go.Proofs.Ytkedckmpjedjoaa
open Go.RowKit Go.Shelf
set_option linter.unusedVariables false
set_option linter.unusedSimpArgs false
attribute [-go_sem] Go.Builtin.append_

theorem prgB_parts {x : Pg} (h : prgB x = true) : x.cs.length ≤ 12 ∧ x.ps.length ≤ 6 ∧ ∀ c ∈ x.cs, clB c = true := by
  unfold prgB at h
  have h' : PrgGood x := by simpa using h
  exact ⟨h'.1, h'.2.1, h'.2.2.1⟩

noncomputable def aloneOf (x : Pg) : Pg := if prgB x = true then ⟨x.cs, []⟩ else ⟨[], []⟩

theorem prN_alone {w : World} {P : Nat} {cs : List Cl} {ps : List Pc} {wr : World} {vc vp : Value} (h : PrN w P cs ps wr vc vp) : PrN w P cs [] (wr.setCell ⟨P, 1, none⟩ (.slice none 0 0)) vc (.slice none 0 0) := by
  obtain ⟨hM, xs, hx, hc⟩ := h
  have hxo := own_block hx (w' := wr.setCell ⟨P, 1, none⟩ (.slice none 0 0)) (fun j e => Below.heap_setCell _ _ _ _ (by have := (hx.lt j e).1; show j ≠ P; omega))
  refine ⟨⟨set2_heap hM.hp rfl, ⟨xs, hxo⟩, World.ownsRow_nil _ _ _ _, hM.lo, hM.bl.setCell (p := ⟨P, 1, none⟩) hM.lo _⟩, xs, hxo, fun i hi => ?_⟩
  obtain ⟨Q, lo, hi', q1, q2, q3, q4, q5⟩ := hc i hi
  exact ⟨Q, lo, hi', q1, q2, by simpa [World.setCell] using q3, q4, q5.kept (Nat.le_refl _) (fun b b1 b2 => Below.heap_setCell _ _ _ _ (by show b ≠ P; omega))⟩

theorem SegPg.low {lo lo' hi : Nat} {w : World} {x : Pg} {v0 v1 : Value} (h : SegPg lo hi w x v0 v1) (hl : lo' ≤ lo) : SegPg lo' hi w x v0 v1 := by
  obtain ⟨m, a1, a2, h1, h2⟩ := h
  exact ⟨m, by omega, a2, h1.wide hl (Nat.le_refl _), h2⟩

set_option maxRecDepth 100000 in
set_option maxHeartbeats 4000000 in
theorem implPrgAlone_any (x : Pg) (v0 v1 : Value) (w : World) (hF : FitPg x) (hs : szPg x ≤ 1048576) (hv : PgV w x v0 v1) :
    Calls Try.prog 12 #[.agg #[v0, v1]] w (TellP w (aloneOf x)) := by
  obtain ⟨a0, n0, c0, a1, n1, c1, rfl, rfl⟩ : ∃ a0 n0 c0 a1 n1 c1, v0 = .slice a0 n0 c0 ∧ v1 = .slice a1 n1 c1 := by
    obtain ⟨⟨xa, xc, e0, _⟩, ⟨ya, yc, e1, _⟩⟩ := hv
    exact ⟨_, _, _, _, _, _, e0, e1⟩
  have HP := hide (fun (W : World) (hW : Below w.heap.size w W) => programOf_all x _ _ W hF hs (hv.below hW))
  clear hv hF hs
  go_enter Try.func12, Try.ntmps12
  go_upto_region 1 with fail
  have hb0 : Below w.heap.size w ((w.alloc (.cells #[.slice a0 n0 c0, .slice a1 n1 c1] 30)).alloc (.cells #[.slice none 0 0, .slice none 0 0] 30)) := bstep (cell_below _ _) (cell_below _ _)
  have hs0 : ((w.alloc (.cells #[.slice a0 n0 c0, .slice a1 n1 c1] 30)).alloc (.cells #[.slice none 0 0, .slice none 0 0] 30)).heap.size = w.heap.size + 2 := by simp
  have hres := World.alloc_heap_new (w.alloc (.cells #[.slice a0 n0 c0, .slice a1 n1 c1] 30)) (.cells #[.slice none 0 0, .slice none 0 0] 30)
  rw [World.size_alloc] at hres
  have hpar : ((w.alloc (.cells #[.slice a0 n0 c0, .slice a1 n1 c1] 30)).alloc (.cells #[.slice none 0 0, .slice none 0 0] 30)).heap[w.heap.size]? = some (.cells #[.slice a0 n0 c0, .slice a1 n1 c1] 30) := by
    rw [Below.heap_alloc _ _ _ (by simp)]; exact World.alloc_heap_new w _
  obtain ⟨p0, p1, _, _⟩ := res2 hpar
  generalize (w.alloc (.cells #[.slice a0 n0 c0, .slice a1 n1 c1] 30)).alloc (.cells #[.slice none 0 0, .slice none 0 0] 30) = w0 at hb0 hs0 hres hpar p0 p1 ⊢
  go_wp2_with fail
  refine (unhide HP w0 hb0).mono ?_
  rintro e w1 ⟨wz, hOut⟩
  rcases hOut with ⟨hp, P, vc, vp, rfl, hN, hPl, hb1⟩ | ⟨hp, rfl, hb1⟩
  · have hres1 := (hb1.block (w.heap.size + 1) (by omega)).trans hres
    obtain ⟨hl, hpl, hc⟩ := prgB_parts hp
    have hN2 := prN_alone hN
    have hPlt := hN.1.lt
    obtain ⟨k0, k1, g0, g1⟩ := program_cells hN.1.hp
    obtain ⟨vpa, vpn, vpc, rfl⟩ : ∃ a n c, vp = .slice a n c := by
      rcases hN.1.op.2 with ⟨e1, h2⟩ | ⟨g', cap', cur', e1, _⟩
      · exact ⟨_, _, _, e1⟩
      · exact ⟨_, _, _, e1⟩
    have HT := hide (tellProg_any wz P ⟨x.cs, []⟩ vc (.slice none 0 0) _ hN2 hc hl (by simp))
    have hB2 : Below w.heap.size w (w1.setCell ⟨P, 1, none⟩ (.slice none 0 0)) := (bstep hb0 hb1).setCell (p := ⟨P, 1, none⟩) (by show w.heap.size ≤ P; omega) _
    have hres2 : (w1.setCell ⟨P, 1, none⟩ (.slice none 0 0)).heap[w.heap.size + 1]? = some (.cells #[.slice none 0 0, .slice none 0 0] 30) := by
      rw [Below.heap_setCell _ _ _ _ (by show w.heap.size + 1 ≠ P; omega)]; exact hres1
    have hs2 : (w1.setCell ⟨P, 1, none⟩ (.slice none 0 0)).heap.size = w1.heap.size := by simp [World.setCell]
    have hs1 := hb1.size
    have HA := hide (show aloneOf x = ⟨x.cs, []⟩ by unfold aloneOf; rw [if_pos hp])
    clear hN hN2 HP hres hres1 hpar hp hc
    go_wp2_with fail
    generalize w1.setCell ⟨P, 1, none⟩ (.slice none 0 0) = w2 at HT hB2 hres2 hs2 ⊢
    refine (unhide HT).mono ?_
    rintro e w3 ⟨u0, u1, rfl, hS, hb3⟩
    obtain ⟨r0, r1, q0, q1⟩ := res2 ((hb3.block (w.heap.size + 1) (by omega)).trans hres2)
    obtain ⟨⟨xa, xc, e0, _⟩, ⟨ya, yc, e1, _⟩⟩ := hS.pgV
    subst e0 e1
    have hk : Agree (w.heap.size + 2) w3.heap.size w3 ((w3.setCell ⟨w.heap.size + 1, 0, none⟩ (.slice xa x.cs.length xc)).setCell ⟨w.heap.size + 1, 1, none⟩ (.slice ya ([] : List Pc).length yc)) := (Agree.set (a := ⟨w.heap.size + 1, 0, none⟩) (.inl (Nat.lt_succ_self _))).trans (Agree.set (a := ⟨w.heap.size + 1, 1, none⟩) (.inl (Nat.lt_succ_self _)))
    have hsz : ((w3.setCell ⟨w.heap.size + 1, 0, none⟩ (.slice xa x.cs.length xc)).setCell ⟨w.heap.size + 1, 1, none⟩ (.slice ya ([] : List Pc).length yc)).heap.size = w3.heap.size := by simp [World.setCell]
    have FIN : Hid (TellP w (aloneOf x) (.returned (.agg #[.slice xa x.cs.length xc, .slice ya 0 yc])) ((w3.setCell ⟨w.heap.size + 1, 0, none⟩ (.slice xa x.cs.length xc)).setCell ⟨w.heap.size + 1, 1, none⟩ (.slice ya 0 yc))) := by
      show TellP _ _ _ _
      rw [unhide HA]
      refine ⟨_, _, rfl, ?_, ((bstep hB2 hb3).setCell (p := ⟨w.heap.size + 1, 0, none⟩) (Nat.le_succ _) _).setCell (p := ⟨w.heap.size + 1, 1, none⟩) (Nat.le_succ _) _⟩
      have := (hS.kept (hk.sub (by omega) (Nat.le_refl _))).low (show w.heap.size ≤ w2.heap.size by omega)
      rw [← hsz] at this
      exact this
    clear hS hb3 HT hB2 hk hsz
    go_wp2
    exact bodyPost_ret (v := .agg #[.slice xa x.cs.length xc, .slice ya 0 yc]) (by simp [results, Try.results12, go_sem, *]) rfl (unhide FIN)
  · have hres1 := (hb1.block (w.heap.size + 1) (by omega)).trans hres
    obtain ⟨r0, r1, q0, q1⟩ := res2 hres1
    have FIN : Hid (TellP w (aloneOf x) (.returned (.agg #[.slice none 0 0, .slice none 0 0])) ((w1.setCell ⟨w.heap.size + 1, 0, none⟩ (.slice none 0 0)).setCell ⟨w.heap.size + 1, 1, none⟩ (.slice none 0 0))) := by
      show TellP _ _ _ _
      have he : aloneOf x = ⟨[], []⟩ := by unfold aloneOf; rw [if_neg (by rw [hp]; simp)]
      rw [he]
      exact ⟨_, _, rfl, ⟨_, Nat.le_refl _, (((bstep hb0 hb1).setCell (p := ⟨w.heap.size + 1, 0, none⟩) (Nat.le_succ _) _).setCell (p := ⟨w.heap.size + 1, 1, none⟩) (Nat.le_succ _) _).size, ⟨World.ownsRow_nil _ _ _ _, fun b e => by simp [Value.ownBlock] at e⟩, SegL.empty _ _ _ _ _ _⟩, ((bstep hb0 hb1).setCell (p := ⟨w.heap.size + 1, 0, none⟩) (Nat.le_succ _) _).setCell (p := ⟨w.heap.size + 1, 1, none⟩) (Nat.le_succ _) _⟩
    clear hres hres1 hpar hb1 hb0 HP
    go_wp2
    exact bodyPost_ret (v := .agg #[.slice none 0 0, .slice none 0 0]) (by simp [results, Try.results12, go_sem, *]) rfl (unhide FIN)
end Go.Proofs.Ytkedckmpjedjoaa

/- The specification's copies of goals. -/
namespace Go.Proofs.Ytkedckmpjedjoaa
open Go.RowKit Go.Shelf
set_option linter.unusedVariables false
set_option linter.unusedSimpArgs false
attribute [-go_sem] Go.Builtin.append_

theorem flat_one5 (t : List C) : ∀ u ∈ flat t, u.oneCell' = true := by
  intro u hu
  unfold flat at hu
  obtain ⟨c, _, hc⟩ := List.mem_flatMap.1 hu
  simp [cellsOf] at hc
  rcases hc with rfl | rfl | rfl <;> rfl

theorem at_each5 {w : World} {b off : Nat} {t : List C} (h : At w b off t) : ∀ j u, (flat t)[j]? = some u → w.cell? ((⟨b, off, none⟩ : Addr).add j) = some u := by
  intro j u hj
  have hl : j < t.length * 3 := by
    have := (List.getElem?_eq_some_iff.1 hj).1
    rw [flat_length] at this; exact this
  have hk : j / 3 < t.length := by omega
  have f := flat_get t (j / 3) hk
  have a := h (j / 3) hk
  have ad : (⟨b, off, none⟩ : Addr).add j = ⟨b, off + j, none⟩ := by
    unfold Addr.add
    by_cases h0 : j = 0
    · simp [h0]
    · simp [h0]
  rw [ad]
  obtain h0 | h0 | h0 : j = j / 3 * 3 ∨ j = j / 3 * 3 + 1 ∨ j = j / 3 * 3 + 2 := by omega
  · rw [h0, f.1] at hj; rw [h0, ← hj]; exact a.1
  · rw [h0, f.2.1] at hj; rw [h0, ← hj]; exact a.2.1
  · rw [h0, f.2.2] at hj; rw [h0, ← hj]; exact a.2.2

/-- Places appended to an empty list that was just made: what comes of it lies in new blocks. -/
theorem app_new (W : World) (B c : Nat) (ao : Option Addr) (u : List C) (hR : Row W ao u) (hl : u.length ≤ 1048576) :
    ∃ ao' cap' W', (Builtin.append_ #[41, 41] 41 #[.slice (some ⟨B, 0, none⟩) 0 0, .slice ao u.length c]).run Try.prog W = .ok (.slice ao' u.length cap') W' ∧
      Sup W.heap.size W' (fun V => SlC V (.slice ao' u.length cap') u) ∧ Below W.heap.size W W' := by
  obtain ⟨i0, hi, hz0, hz1, hz2⟩ := info_parts Try.infoCell
  have nothing : u = [] → ∃ ao' cap' W', (Builtin.append_ #[41, 41] 41 #[.slice (some ⟨B, 0, none⟩) 0 0, .slice ao u.length c]).run Try.prog W = .ok (.slice ao' u.length cap') W' ∧
      Sup W.heap.size W' (fun V => SlC V (.slice ao' u.length cap') u) ∧ Below W.heap.size W W' := by
    rintro rfl
    have hs : Src Try.prog i0.size 41 (.slice ao 0 c) 0 [] W := by
      cases ao with
      | none => exact Src.ofNil W Try.underlying41 c
      | some a => exact Src.ofSlice W Try.underlying41 a 0 c [] (by simp) (by simp) (by simp)
    exact ⟨some ⟨B, 0, none⟩, 0, W, run_append_nothing W _ _ _ _ i0 Try.underlying41 hi (some ⟨B, 0, none⟩) 0 0 (Nat.le_refl _) _ hs, fun V _ => ⟨_, _, rfl, Nat.le_refl _, by unfold maxLen; omega, .inl rfl⟩, Below.refl _ _⟩
  rcases hR with h | ⟨b, off, rfl, hA⟩
  · exact nothing h
  · by_cases h0 : u = []
    · exact nothing h0
    · have hpos := List.length_pos_iff.2 h0
      obtain ⟨v', W', hr, hown, hg⟩ := run_append_arg_grows (P := Try.prog) W 41 41 98 i0 _ 3 32 Try.underlying41 hi hz0 hz1 hz2 rfl (by decide) ⟨B, 0, none⟩ 0 0 [] rfl (by simp) ⟨b, off, none⟩ u.length c (flat u) (flat_length u) (at_each5 hA) (by omega) (by unfold maxLen; omega) (by omega)
      have hO : OwnC W' W.heap.size v' u := by
        have := hown
        simp only [Nat.zero_add, List.nil_append] at this
        exact this
      obtain ⟨ao', cap', rfl, _⟩ := hO.shape
      refine ⟨ao', cap', W', hr, fun V hk => ?_, ⟨hg.os, hg.tape, hg.output, hg.size, fun k hk => hg.block k hk (by simp)⟩⟩
      exact SegC.slC (lo := W.heap.size) (hi := W'.heap.size) ⟨own_block hO (fun j e => hk j (hO.lt j e).1 (hO.lt j e).2), fun j e => (hO.lt j e).2⟩

theorem below_al {b : Nat} {w W : World} {o : Obj} (h : Below b w W) (hb : b ≤ W.heap.size) : Below b w (W.alloc o) := h.trans ((cell_below W o).mono hb)
theorem below_at {w W : World} {o : Obj} (h : Below w.heap.size w W) : Below w.heap.size w (W.alloc o) := below_al h h.size

theorem below_dr {b : Nat} {w W : World} (h : Below b w W) : Below b w W.drew := h.drew

theorem cell_dr {W : World} {a : Addr} {v : Value} (h : W.cell? a = some v) : W.drew.cell? a = some v := h
theorem cell_al {W : World} {a : Addr} {v : Value} {o : Obj} (h : W.cell? a = some v) : (W.alloc o).cell? a = some v := cell_keep5 h o
theorem set_far {W : World} {b c i j : Nat} {v u : Value} (h : W.cell? ⟨b, i, none⟩ = some u) (hne : b ≠ c) : (W.setCell ⟨c, j, none⟩ v).cell? ⟨b, i, none⟩ = some u := (World.cell?_of_block (a := ⟨b, i, none⟩) (Below.heap_setCell _ _ _ _ hne)).trans h

/-- The same at a step of a region that draws. -/
theorem step_app {w : World} {ops : Array Oper} {o : Oper} {a : Act} {K : Act → World → Prop} {Q : Exit → Act → World → Prop} {E : Prop} (hgd : o.guard = none) (s x : Operand)
    (ho : o.op = .call { callee := .builtin .append, args := #[s, x], argTypes := #[41, 41] }) (hty : o.type = 41)
    (B : Nat) (hs : a.eval s = .slice (some ⟨B, 0, none⟩) 0 0) (ao : Option Addr) (n c : Nat) (hx : a.eval x = .slice ao n c) (u : List C) (hn : u.length = n) (hR : Row w ao u) (hl : u.length ≤ 1048576)
    (h : ∀ ao' cap' w', Sup w.heap.size w' (fun V => SlC V (.slice ao' u.length cap') u) → Below w.heap.size w w' → K (a.put o.dst (.slice ao' n cap')) w') :
    if Region.wanted o (yielded ops a.tmps) = true then Oper.wp Try.prog o a w K Q else E := by
  subst hn
  have hw : Region.wanted o (yielded ops a.tmps) = true := by simp [Region.wanted, hgd]
  rw [if_pos hw]
  obtain ⟨ao', cap', w', hrun, h1, h2⟩ := app_new w B c ao u hR hl
  unfold Oper.wp
  simp [execOp, ho, hty, resolve, invoke, builtin, hs, hx, hrun, Result.andThen]
  exact h ao' cap' w' h1 h2

theorem l3_fin {w W w3 : World} {x : Gl} {v1 v2 v3 : Value} (hW : Below w.heap.size w W) (hsz : W.heap.size = w.heap.size + 2) (hB : Below W.heap.size W w3)
    (T1 : Sup W.heap.size w3 (fun V => SlC V v1 x.a)) (T2 : Sup W.heap.size w3 (fun V => SlC V v2 x.b)) (T3 : Sup W.heap.size w3 (fun V => SlC V v3 x.c)) :
    ∃ u0 u1 u2 u3, (Ending.returned (.agg #[.int .i64 x.k, v1, v2, v3]) : Ending) = .returned (.agg #[u0, u1, u2, u3]) ∧ Sup w.heap.size ((((w3.setCell ⟨w.heap.size + 1, 0, none⟩ (.int .i64 x.k)).setCell ⟨w.heap.size + 1, 1, none⟩ v1).setCell ⟨w.heap.size + 1, 2, none⟩ v2).setCell ⟨w.heap.size + 1, 3, none⟩ v3) (fun V => GlV V x u0 u1 u2 u3) ∧
      Below w.heap.size w ((((w3.setCell ⟨w.heap.size + 1, 0, none⟩ (.int .i64 x.k)).setCell ⟨w.heap.size + 1, 1, none⟩ v1).setCell ⟨w.heap.size + 1, 2, none⟩ v2).setCell ⟨w.heap.size + 1, 3, none⟩ v3) := by
  have hg : w.heap.size + 1 < W.heap.size := by omega
  have hl : w.heap.size ≤ W.heap.size := by omega
  have st : ∀ {P : World → Prop}, Sup W.heap.size w3 P → Sup w.heap.size ((((w3.setCell ⟨w.heap.size + 1, 0, none⟩ (.int .i64 x.k)).setCell ⟨w.heap.size + 1, 1, none⟩ v1).setCell ⟨w.heap.size + 1, 2, none⟩ v2).setCell ⟨w.heap.size + 1, 3, none⟩ v3) P := fun h => ((((h.set hg).set hg).set hg).set hg).low hl
  exact ⟨_, _, _, _, rfl, fun V hk => ⟨rfl, st T1 V hk, st T2 V hk, st T3 V hk⟩, (((((bstep hW hB).setCell (p := ⟨w.heap.size + 1, 0, none⟩) (Nat.le_succ _) _).setCell (p := ⟨w.heap.size + 1, 1, none⟩) (Nat.le_succ _) _).setCell (p := ⟨w.heap.size + 1, 2, none⟩) (Nat.le_succ _) _).setCell (p := ⟨w.heap.size + 1, 3, none⟩) (Nat.le_succ _) _)⟩

set_option maxRecDepth 100000 in
set_option maxHeartbeats 8000000 in
theorem l3Goal_any (x : Gl) (v0 v1 v2 v3 : Value) (w : World) (hs : szGl x ≤ 1048576) (hv : GlV w x v0 v1 v2 v3) :
    Calls Try.prog 100 #[.agg #[v0, v1, v2, v3]] w fun e w' => ∃ u0 u1 u2 u3, e = .returned (.agg #[u0, u1, u2, u3]) ∧ Sup w.heap.size w' (fun V => GlV V x u0 u1 u2 u3) ∧ Below w.heap.size w w' := by
  obtain ⟨rfl, ⟨xa, xc, rfl, _, _, hA⟩, ⟨ya, yc, rfl, _, _, hB⟩, ⟨za, zc, rfl, _, _, hC⟩⟩ := hv
  unfold szGl at hs
  have la : x.a.length ≤ 1048576 := by omega
  have lb : x.b.length ≤ 1048576 := by omega
  have lc : x.c.length ≤ 1048576 := by omega
  go_enter Try.func100, Try.ntmps100
  go_upto_region 1 with fail
  obtain ⟨W, hW⟩ : ∃ W, W = (w.alloc (.cells #[.int .i64 x.k, .slice xa x.a.length xc, .slice ya x.b.length yc, .slice za x.c.length zc] 93)).alloc (.cells #[.int .i64 0, .slice none 0 0, .slice none 0 0, .slice none 0 0] 93) := ⟨_, rfl⟩
  have hB0 : Below w.heap.size w W := by rw [hW]; exact bstep (cell_below _ _) (cell_below _ _)
  have hsz : W.heap.size = w.heap.size + 2 := by rw [hW]; simp
  have hpar : W.heap[w.heap.size]? = some (.cells #[.int .i64 x.k, .slice xa x.a.length xc, .slice ya x.b.length yc, .slice za x.c.length zc] 93) := by
    rw [hW, Below.heap_alloc _ _ _ (by simp)]; exact World.alloc_heap_new w _
  have hres : W.heap[w.heap.size + 1]? = some (.cells #[.int .i64 0, .slice none 0 0, .slice none 0 0, .slice none 0 0] 93) := by
    have := World.alloc_heap_new (w.alloc (.cells #[.int .i64 x.k, .slice xa x.a.length xc, .slice ya x.b.length yc, .slice za x.c.length zc] 93)) (.cells #[.int .i64 0, .slice none 0 0, .slice none 0 0, .slice none 0 0] 93)
    rw [World.size_alloc] at this
    rw [hW]; exact this
  rw [← hW]
  clear hW
  obtain ⟨p0, p1, p2, p3, _, _, _, _⟩ := res4 hpar
  have HA := hide (fun (V : World) (hV : Below W.heap.size W V) => hA.below (bstep hB0 hV))
  have HB := hide (fun (V : World) (hV : Below W.heap.size W V) => hB.below (bstep hB0 hV))
  have HC := hide (fun (V : World) (hV : Below W.heap.size W V) => hC.below (bstep hB0 hV))
  have HP := hide (fun (V : World) (hV : Below W.heap.size W V) => (hV.block w.heap.size (by omega)).trans hpar)
  have HR := hide (fun (V : World) (hV : Below W.heap.size W V) => (hV.block (w.heap.size + 1) (by omega)).trans hres)
  have B0 : Below W.heap.size W W := Below.refl W.heap.size W
  clear hA hB hC hpar hres
  have hne : w.heap.size ≠ w.heap.size + 1 := by omega
  go_region_held3 (fun V => V.cell? ⟨w.heap.size, 0, none⟩ = some (.int .i64 x.k) ∧ V.cell? ⟨w.heap.size, 1, none⟩ = some (.slice xa x.a.length xc) ∧ V.cell? ⟨w.heap.size, 2, none⟩ = some (.slice ya x.b.length yc) ∧ V.cell? ⟨w.heap.size, 3, none⟩ = some (.slice za x.c.length zc))
    (refine ⟨?_, ?_, ?_, ?_⟩ <;> repeat' (first | with_reducible assumption | with_reducible refine cell_dr ?_ | with_reducible refine cell_al ?_ | with_reducible refine set_far ?_ hne))
    (first
    | (have hx := B2; refine step_app (by rfl) (.tmp 13) (.tmp 15) (by rfl) (by rfl) _ (by rfl) za _ _ (by rfl) x.c rfl (unhide HC _ (by repeat' (first | with_reducible exact B2 | with_reducible refine below_at ?_ | with_reducible refine below_dr ?_))) lc ?_; intro a3 q3 w3 S3 b3; have c23 : Below w2.heap.size w2 w3 := bstep (show Below w2.heap.size w2 _ from by repeat' (first | with_reducible exact Below.refl _ _ | with_reducible refine below_at ?_ | with_reducible refine below_dr ?_)) b3; have T3 := S3.low (lo' := W.heap.size) (show Below W.heap.size W _ from (by repeat' (first | with_reducible exact B2 | with_reducible refine below_at ?_ | with_reducible refine below_dr ?_))).size; have B3 : Below W.heap.size W w3 := bstep (by repeat' (first | with_reducible exact B2 | with_reducible refine below_at ?_ | with_reducible refine below_dr ?_)) b3; obtain ⟨r30, r31, r32, r33, _, _, _, _⟩ := res4 (unhide HP w3 B3); obtain ⟨t0, t1, t2, t3, f0, f1, f2, f3⟩ := res4 (unhide HR w3 B3))
    | (have hx := B1; refine step_app (by rfl) (.tmp 9) (.tmp 11) (by rfl) (by rfl) _ (by rfl) ya _ _ (by rfl) x.b rfl (unhide HB _ (by repeat' (first | with_reducible exact B1 | with_reducible refine below_at ?_ | with_reducible refine below_dr ?_))) lb ?_; intro a2 q2 w2 S2 b2; have c12 : Below w1.heap.size w1 w2 := bstep (show Below w1.heap.size w1 _ from by repeat' (first | with_reducible exact Below.refl _ _ | with_reducible refine below_at ?_ | with_reducible refine below_dr ?_)) b2; have T2 := S2.low (lo' := W.heap.size) (show Below W.heap.size W _ from (by repeat' (first | with_reducible exact B1 | with_reducible refine below_at ?_ | with_reducible refine below_dr ?_))).size; have B2 : Below W.heap.size W w2 := bstep (by repeat' (first | with_reducible exact B1 | with_reducible refine below_at ?_ | with_reducible refine below_dr ?_)) b2; obtain ⟨r20, r21, r22, r23, _, _, _, _⟩ := res4 (unhide HP w2 B2))
    | (refine step_app (by rfl) (.tmp 5) (.tmp 7) (by rfl) (by rfl) _ (by rfl) xa _ _ (by rfl) x.a rfl (unhide HA _ (by repeat' (first | with_reducible exact B0 | with_reducible refine below_at ?_ | with_reducible refine below_dr ?_))) la ?_; intro a1 q1 w1 S1 b1; have T1 := S1.low (lo' := W.heap.size) (show Below W.heap.size W _ from (by repeat' (first | with_reducible exact B0 | with_reducible refine below_at ?_ | with_reducible refine below_dr ?_))).size; have B1 : Below W.heap.size W w1 := bstep (by repeat' (first | with_reducible exact B0 | with_reducible refine below_at ?_ | with_reducible refine below_dr ?_)) b1; obtain ⟨r10, r11, r12, r13, _, _, _, _⟩ := res4 (unhide HP w1 B1)))
  all_goals (have FIN := hide (l3_fin hB0 hsz B3 ((T1.below c12).below c23) (T2.below c23) T3))
  all_goals clear S1 S2 S3 T1 T2 T3 B1 B2 B3 b1 b2 b3 c12 c23 HA HB HC HP HR
  all_goals go_wp2
  all_goals exact bodyPost_ret (v := .agg #[.int .i64 x.k, .slice a1 x.a.length q1, .slice a2 x.b.length q2, .slice a3 x.c.length q3]) (by simp [results, Try.results100, go_sem, *]) rfl (unhide FIN)
end Go.Proofs.Ytkedckmpjedjoaa
