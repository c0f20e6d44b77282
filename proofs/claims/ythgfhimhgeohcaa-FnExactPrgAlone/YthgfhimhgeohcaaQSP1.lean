/- The specification's copies of goals. -/
import Derived.Test.YthgfhimhgeohcaaQTG5TG6
import Derived.Deep.Upon
import Derived.Deep.AppendSrc
import Derived.Deep.RegionHeld3
namespace Go.Proofs.Ythgfhimhgeohcaa
open Go.RowKit Go.Shelf
set_option linter.unusedVariables false
set_option linter.unusedSimpArgs false
attribute [-go_sem] Go.Builtin.append_

theorem flat_one5 (t : List C) : ∀ u ∈ flat t, u.oneCell' = true := by
  intro u hu
  unfold flat at hu
  obtain ⟨c, _, hc⟩ := List.mem_flatMap.1 hu
  simp [cellsOf] at hc
  rcases hc with rfl | rfl | rfl <;> rfl

theorem at_each5 {w : World} {b off : Nat} {t : List C} (h : At w b off t) : ∀ j u, (flat t)[j]? = some u → w.cell? ((⟨b, off, none⟩ : Addr).add j) = some u := by
  intro j u hj
  have hl : j < t.length * 3 := by
    have := (List.getElem?_eq_some_iff.1 hj).1
    rw [flat_length] at this; exact this
  have hk : j / 3 < t.length := by omega
  have f := flat_get t (j / 3) hk
  have a := h (j / 3) hk
  have ad : (⟨b, off, none⟩ : Addr).add j = ⟨b, off + j, none⟩ := by
    unfold Addr.add
    by_cases h0 : j = 0
    · simp [h0]
    · simp [h0]
  rw [ad]
  obtain h0 | h0 | h0 : j = j / 3 * 3 ∨ j = j / 3 * 3 + 1 ∨ j = j / 3 * 3 + 2 := by omega
  · rw [h0, f.1] at hj; rw [h0, ← hj]; exact a.1
  · rw [h0, f.2.1] at hj; rw [h0, ← hj]; exact a.2.1
  · rw [h0, f.2.2] at hj; rw [h0, ← hj]; exact a.2.2

/-- Places appended to an empty list that was just made: what comes of it lies in new blocks. -/
theorem app_new (W : World) (B c : Nat) (ao : Option Addr) (u : List C) (hR : Row W ao u) (hl : u.length ≤ 1048576) :
    ∃ ao' cap' W', (Builtin.append_ #[41, 41] 41 #[.slice (some ⟨B, 0, none⟩) 0 0, .slice ao u.length c]).run Try.prog W = .ok (.slice ao' u.length cap') W' ∧
      Sup W.heap.size W' (fun V => SlC V (.slice ao' u.length cap') u) ∧ Below W.heap.size W W' := by
  obtain ⟨i0, hi, hz0, hz1, hz2⟩ := info_parts Try.infoCell
  have nothing : u = [] → ∃ ao' cap' W', (Builtin.append_ #[41, 41] 41 #[.slice (some ⟨B, 0, none⟩) 0 0, .slice ao u.length c]).run Try.prog W = .ok (.slice ao' u.length cap') W' ∧
      Sup W.heap.size W' (fun V => SlC V (.slice ao' u.length cap') u) ∧ Below W.heap.size W W' := by
    rintro rfl
    have hs : Src Try.prog i0.size 41 (.slice ao 0 c) 0 [] W := by
      cases ao with
      | none => exact Src.ofNil W Try.underlying41 c
      | some a => exact Src.ofSlice W Try.underlying41 a 0 c [] (by simp) (by simp) (by simp)
    exact ⟨some ⟨B, 0, none⟩, 0, W, run_append_nothing W _ _ _ _ i0 Try.underlying41 hi (some ⟨B, 0, none⟩) 0 0 (Nat.le_refl _) _ hs, fun V _ => ⟨_, _, rfl, Nat.le_refl _, by unfold maxLen; omega, .inl rfl⟩, Below.refl _ _⟩
  rcases hR with h | ⟨b, off, rfl, hA⟩
  · exact nothing h
  · by_cases h0 : u = []
    · exact nothing h0
    · have hpos := List.length_pos_iff.2 h0
      obtain ⟨v', W', hr, hown, hg⟩ := run_append_arg_grows (P := Try.prog) W 41 41 94 i0 _ 3 32 Try.underlying41 hi hz0 hz1 hz2 rfl (by decide) ⟨B, 0, none⟩ 0 0 [] rfl (by simp) ⟨b, off, none⟩ u.length c (flat u) (flat_length u) (at_each5 hA) (by omega) (by unfold maxLen; omega) (by omega)
      have hO : OwnC W' W.heap.size v' u := by
        have := hown
        simp only [Nat.zero_add, List.nil_append] at this
        exact this
      obtain ⟨ao', cap', rfl, _⟩ := hO.shape
      refine ⟨ao', cap', W', hr, fun V hk => ?_, ⟨hg.os, hg.tape, hg.output, hg.size, fun k hk => hg.block k hk (by simp)⟩⟩
      exact SegC.slC (lo := W.heap.size) (hi := W'.heap.size) ⟨own_block hO (fun j e => hk j (hO.lt j e).1 (hO.lt j e).2), fun j e => (hO.lt j e).2⟩

theorem below_al {b : Nat} {w W : World} {o : Obj} (h : Below b w W) (hb : b ≤ W.heap.size) : Below b w (W.alloc o) := h.trans ((cell_below W o).mono hb)
theorem below_at {w W : World} {o : Obj} (h : Below w.heap.size w W) : Below w.heap.size w (W.alloc o) := below_al h h.size

theorem below_dr {b : Nat} {w W : World} (h : Below b w W) : Below b w W.drew := h.drew

theorem cell_dr {W : World} {a : Addr} {v : Value} (h : W.cell? a = some v) : W.drew.cell? a = some v := h
theorem cell_al {W : World} {a : Addr} {v : Value} {o : Obj} (h : W.cell? a = some v) : (W.alloc o).cell? a = some v := cell_keep5 h o
theorem set_far {W : World} {b c i j : Nat} {v u : Value} (h : W.cell? ⟨b, i, none⟩ = some u) (hne : b ≠ c) : (W.setCell ⟨c, j, none⟩ v).cell? ⟨b, i, none⟩ = some u := (World.cell?_of_block (a := ⟨b, i, none⟩) (Below.heap_setCell _ _ _ _ hne)).trans h

/-- The same at a step of a region that draws. -/
theorem step_app {w : World} {ops : Array Oper} {o : Oper} {a : Act} {K : Act → World → Prop} {Q : Exit → Act → World → Prop} {E : Prop} (hgd : o.guard = none) (s x : Operand)
    (ho : o.op = .call { callee := .builtin .append, args := #[s, x], argTypes := #[41, 41] }) (hty : o.type = 41)
    (B : Nat) (hs : a.eval s = .slice (some ⟨B, 0, none⟩) 0 0) (ao : Option Addr) (n c : Nat) (hx : a.eval x = .slice ao n c) (u : List C) (hn : u.length = n) (hR : Row w ao u) (hl : u.length ≤ 1048576)
    (h : ∀ ao' cap' w', Sup w.heap.size w' (fun V => SlC V (.slice ao' u.length cap') u) → Below w.heap.size w w' → K (a.put o.dst (.slice ao' n cap')) w') :
    if Region.wanted o (yielded ops a.tmps) = true then Oper.wp Try.prog o a w K Q else E := by
  subst hn
  have hw : Region.wanted o (yielded ops a.tmps) = true := by simp [Region.wanted, hgd]
  rw [if_pos hw]
  obtain ⟨ao', cap', w', hrun, h1, h2⟩ := app_new w B c ao u hR hl
  unfold Oper.wp
  simp [execOp, ho, hty, resolve, invoke, builtin, hs, hx, hrun, Result.andThen]
  exact h ao' cap' w' h1 h2

theorem l3_fin {w W w3 : World} {x : Gl} {v1 v2 v3 : Value} (hW : Below w.heap.size w W) (hsz : W.heap.size = w.heap.size + 2) (hB : Below W.heap.size W w3)
    (T1 : Sup W.heap.size w3 (fun V => SlC V v1 x.a)) (T2 : Sup W.heap.size w3 (fun V => SlC V v2 x.b)) (T3 : Sup W.heap.size w3 (fun V => SlC V v3 x.c)) :
    ∃ u0 u1 u2 u3, (Ending.returned (.agg #[.int .i64 x.k, v1, v2, v3]) : Ending) = .returned (.agg #[u0, u1, u2, u3]) ∧ Sup w.heap.size ((((w3.setCell ⟨w.heap.size + 1, 0, none⟩ (.int .i64 x.k)).setCell ⟨w.heap.size + 1, 1, none⟩ v1).setCell ⟨w.heap.size + 1, 2, none⟩ v2).setCell ⟨w.heap.size + 1, 3, none⟩ v3) (fun V => GlV V x u0 u1 u2 u3) ∧
      Below w.heap.size w ((((w3.setCell ⟨w.heap.size + 1, 0, none⟩ (.int .i64 x.k)).setCell ⟨w.heap.size + 1, 1, none⟩ v1).setCell ⟨w.heap.size + 1, 2, none⟩ v2).setCell ⟨w.heap.size + 1, 3, none⟩ v3) := by
  have hg : w.heap.size + 1 < W.heap.size := by omega
  have hl : w.heap.size ≤ W.heap.size := by omega
  have st : ∀ {P : World → Prop}, Sup W.heap.size w3 P → Sup w.heap.size ((((w3.setCell ⟨w.heap.size + 1, 0, none⟩ (.int .i64 x.k)).setCell ⟨w.heap.size + 1, 1, none⟩ v1).setCell ⟨w.heap.size + 1, 2, none⟩ v2).setCell ⟨w.heap.size + 1, 3, none⟩ v3) P := fun h => ((((h.set hg).set hg).set hg).set hg).low hl
  exact ⟨_, _, _, _, rfl, fun V hk => ⟨rfl, st T1 V hk, st T2 V hk, st T3 V hk⟩, (((((bstep hW hB).setCell (p := ⟨w.heap.size + 1, 0, none⟩) (Nat.le_succ _) _).setCell (p := ⟨w.heap.size + 1, 1, none⟩) (Nat.le_succ _) _).setCell (p := ⟨w.heap.size + 1, 2, none⟩) (Nat.le_succ _) _).setCell (p := ⟨w.heap.size + 1, 3, none⟩) (Nat.le_succ _) _)⟩

set_option maxRecDepth 100000 in
set_option maxHeartbeats 8000000 in
theorem l3Goal_any (x : Gl) (v0 v1 v2 v3 : Value) (w : World) (hs : szGl x ≤ 1048576) (hv : GlV w x v0 v1 v2 v3) :
    Calls Try.prog 89 #[.agg #[v0, v1, v2, v3]] w fun e w' => ∃ u0 u1 u2 u3, e = .returned (.agg #[u0, u1, u2, u3]) ∧ Sup w.heap.size w' (fun V => GlV V x u0 u1 u2 u3) ∧ Below w.heap.size w w' := by
  obtain ⟨rfl, ⟨xa, xc, rfl, _, _, hA⟩, ⟨ya, yc, rfl, _, _, hB⟩, ⟨za, zc, rfl, _, _, hC⟩⟩ := hv
  unfold szGl at hs
  have la : x.a.length ≤ 1048576 := by omega
  have lb : x.b.length ≤ 1048576 := by omega
  have lc : x.c.length ≤ 1048576 := by omega
  go_enter Try.func89, Try.ntmps89
  go_upto_region 1 with fail
  obtain ⟨W, hW⟩ : ∃ W, W = (w.alloc (.cells #[.int .i64 x.k, .slice xa x.a.length xc, .slice ya x.b.length yc, .slice za x.c.length zc] 89)).alloc (.cells #[.int .i64 0, .slice none 0 0, .slice none 0 0, .slice none 0 0] 89) := ⟨_, rfl⟩
  have hB0 : Below w.heap.size w W := by rw [hW]; exact bstep (cell_below _ _) (cell_below _ _)
  have hsz : W.heap.size = w.heap.size + 2 := by rw [hW]; simp
  have hpar : W.heap[w.heap.size]? = some (.cells #[.int .i64 x.k, .slice xa x.a.length xc, .slice ya x.b.length yc, .slice za x.c.length zc] 89) := by
    rw [hW, Below.heap_alloc _ _ _ (by simp)]; exact World.alloc_heap_new w _
  have hres : W.heap[w.heap.size + 1]? = some (.cells #[.int .i64 0, .slice none 0 0, .slice none 0 0, .slice none 0 0] 89) := by
    have := World.alloc_heap_new (w.alloc (.cells #[.int .i64 x.k, .slice xa x.a.length xc, .slice ya x.b.length yc, .slice za x.c.length zc] 89)) (.cells #[.int .i64 0, .slice none 0 0, .slice none 0 0, .slice none 0 0] 89)
    rw [World.size_alloc] at this
    rw [hW]; exact this
  rw [← hW]
  clear hW
  obtain ⟨p0, p1, p2, p3, _, _, _, _⟩ := res4 hpar
  have HA := hide (fun (V : World) (hV : Below W.heap.size W V) => hA.below (bstep hB0 hV))
  have HB := hide (fun (V : World) (hV : Below W.heap.size W V) => hB.below (bstep hB0 hV))
  have HC := hide (fun (V : World) (hV : Below W.heap.size W V) => hC.below (bstep hB0 hV))
  have HP := hide (fun (V : World) (hV : Below W.heap.size W V) => (hV.block w.heap.size (by omega)).trans hpar)
  have HR := hide (fun (V : World) (hV : Below W.heap.size W V) => (hV.block (w.heap.size + 1) (by omega)).trans hres)
  have B0 : Below W.heap.size W W := Below.refl W.heap.size W
  clear hA hB hC hpar hres
  have hne : w.heap.size ≠ w.heap.size + 1 := by omega
  go_region_held3 (fun V => V.cell? ⟨w.heap.size, 0, none⟩ = some (.int .i64 x.k) ∧ V.cell? ⟨w.heap.size, 1, none⟩ = some (.slice xa x.a.length xc) ∧ V.cell? ⟨w.heap.size, 2, none⟩ = some (.slice ya x.b.length yc) ∧ V.cell? ⟨w.heap.size, 3, none⟩ = some (.slice za x.c.length zc))
    (refine ⟨?_, ?_, ?_, ?_⟩ <;> repeat' (first | with_reducible assumption | with_reducible refine cell_dr ?_ | with_reducible refine cell_al ?_ | with_reducible refine set_far ?_ hne))
    (first
    | (have hx := B2; refine step_app (by rfl) (.tmp 13) (.tmp 15) (by rfl) (by rfl) _ (by rfl) za _ _ (by rfl) x.c rfl (unhide HC _ (by repeat' (first | with_reducible exact B2 | with_reducible refine below_at ?_ | with_reducible refine below_dr ?_))) lc ?_; intro a3 q3 w3 S3 b3; have c23 : Below w2.heap.size w2 w3 := bstep (show Below w2.heap.size w2 _ from by repeat' (first | with_reducible exact Below.refl _ _ | with_reducible refine below_at ?_ | with_reducible refine below_dr ?_)) b3; have T3 := S3.low (lo' := W.heap.size) (show Below W.heap.size W _ from (by repeat' (first | with_reducible exact B2 | with_reducible refine below_at ?_ | with_reducible refine below_dr ?_))).size; have B3 : Below W.heap.size W w3 := bstep (by repeat' (first | with_reducible exact B2 | with_reducible refine below_at ?_ | with_reducible refine below_dr ?_)) b3; obtain ⟨r30, r31, r32, r33, _, _, _, _⟩ := res4 (unhide HP w3 B3); obtain ⟨t0, t1, t2, t3, f0, f1, f2, f3⟩ := res4 (unhide HR w3 B3))
    | (have hx := B1; refine step_app (by rfl) (.tmp 9) (.tmp 11) (by rfl) (by rfl) _ (by rfl) ya _ _ (by rfl) x.b rfl (unhide HB _ (by repeat' (first | with_reducible exact B1 | with_reducible refine below_at ?_ | with_reducible refine below_dr ?_))) lb ?_; intro a2 q2 w2 S2 b2; have c12 : Below w1.heap.size w1 w2 := bstep (show Below w1.heap.size w1 _ from by repeat' (first | with_reducible exact Below.refl _ _ | with_reducible refine below_at ?_ | with_reducible refine below_dr ?_)) b2; have T2 := S2.low (lo' := W.heap.size) (show Below W.heap.size W _ from (by repeat' (first | with_reducible exact B1 | with_reducible refine below_at ?_ | with_reducible refine below_dr ?_))).size; have B2 : Below W.heap.size W w2 := bstep (by repeat' (first | with_reducible exact B1 | with_reducible refine below_at ?_ | with_reducible refine below_dr ?_)) b2; obtain ⟨r20, r21, r22, r23, _, _, _, _⟩ := res4 (unhide HP w2 B2))
    | (refine step_app (by rfl) (.tmp 5) (.tmp 7) (by rfl) (by rfl) _ (by rfl) xa _ _ (by rfl) x.a rfl (unhide HA _ (by repeat' (first | with_reducible exact B0 | with_reducible refine below_at ?_ | with_reducible refine below_dr ?_))) la ?_; intro a1 q1 w1 S1 b1; have T1 := S1.low (lo' := W.heap.size) (show Below W.heap.size W _ from (by repeat' (first | with_reducible exact B0 | with_reducible refine below_at ?_ | with_reducible refine below_dr ?_))).size; have B1 : Below W.heap.size W w1 := bstep (by repeat' (first | with_reducible exact B0 | with_reducible refine below_at ?_ | with_reducible refine below_dr ?_)) b1; obtain ⟨r10, r11, r12, r13, _, _, _, _⟩ := res4 (unhide HP w1 B1)))
  all_goals (have FIN := hide (l3_fin hB0 hsz B3 ((T1.below c12).below c23) (T2.below c23) T3))
  all_goals clear S1 S2 S3 T1 T2 T3 B1 B2 B3 b1 b2 b3 c12 c23 HA HB HC HP HR
  all_goals go_wp2
  all_goals exact bodyPost_ret (v := .agg #[.int .i64 x.k, .slice a1 x.a.length q1, .slice a2 x.b.length q2, .slice a3 x.c.length q3]) (by simp [results, Try.results89, go_sem, *]) rfl (unhide FIN)
end Go.Proofs.Ythgfhimhgeohcaa
