/- The walk of the law FnSubOk: a part of bindings is bindings. -/
import Derived.Test.YtddhjafpacgdaaaQLO0
import Derived.Deep.RegionHeld3
import Derived.Deep.QuietTactic
import Derived.BigQuiet
namespace Go.Proofs.Ytddhjafpacgdaaa
open Go.RowKit
set_option linter.unusedVariables false
set_option linter.unusedSimpArgs false
attribute [-go_sem] Go.Builtin.append_

set_option maxRecDepth 100000 in
set_option maxHeartbeats 1000000 in
theorem drawSubOk_any (ao : Option Addr) (len cap : Nat) (z : Nat → Int) (w : World) (h : Bin w ao len cap z) :
    Calls Try.prog 48 #[.slice ao len cap] w fun e w' => ∃ v s, e = .returned v ∧ OwnB w' w.heap.size w'.heap.size v s ∧ FewB s ∧ Below w.heap.size w w' := by
  go_enter Try.func48, Try.ntmps48
  go_wp2_with fail
  refine (open_any ao len cap z _ h).mono ?_
  rintro e w1 ⟨rfl, hR1, hb1⟩
  have hl1 := hR1.lt
  go_wp2_with fail
  refine (bindsOr_any w.heap.size 0 2 _ (by omega) (by omega) (by omega) hR1).mono ?_
  rintro e w2 ⟨v, s, p2, rfl, hO2, hF2, hR2, hp2, hG2⟩
  have HFIN : Hid (OwnB w2 w.heap.size w2.heap.size v s ∧ FewB s ∧ Below w.heap.size w w2) := ⟨hO2.lo_le (by omega), hF2, hb1.grown hG2 (by omega) (fun k e => by cases e; exact Nat.le_refl _)⟩
  clear hO2 hF2 hR2 hG2 hR1 hb1
  go_wp2
  go_ret
  exact ⟨v, s, rfl, unhide HFIN⟩

theorem addr0 (sb j : Nat) : (⟨sb, 0, none⟩ : Addr).add j = ⟨sb, j, none⟩ := by
  unfold Addr.add
  split <;> simp_all
theorem below_alloc2 (w : World) (a b : Obj) : Below w.heap.size w ((w.alloc a).alloc b) := bstep (cell_below _ _) (cell_below _ _)
theorem cells_two (w : World) (x y : Value) (T : TypeId) : (w.alloc (.cells #[x, y] T)).cell? ⟨w.heap.size, 0, none⟩ = some x ∧ (w.alloc (.cells #[x, y] T)).cell? ⟨w.heap.size, 1, none⟩ = some y := by
  have hb := World.alloc_heap_new w (.cells #[x, y] T)
  constructor
  · simp only [World.cell?]
    rw [hb]
    rfl
  · simp only [World.cell?]
    rw [hb]
    rfl
theorem made_none (w : World) (base : Nat) (hb : base ≤ w.heap.size) : (w.alloc (.cells #[] 51)).ownsRow base 51 2 (.slice (some ⟨w.heap.size, 0, none⟩) 0 0) 0 [] := World.ownsRow_made w #[] 0 hb (by simp [maxLen]) rfl

theorem path1 (w2 : World) (sb sc k : Nat) (s : List B) (us : List Value) (ta : Option Addr) (tc : Nat) (hU : UsB w2 s us) (hc : ∀ j u, (flatB s us)[j]? = some u → w2.cell? ((⟨sb, 0, none⟩ : Addr).add j) = some u) (hk : k < s.length) (hk2 : k < us.length) (eu : us[k] = .slice ta s[k].t.length tc) (hs : s.length ≤ 20000) :
    ∃ g cap w3 g2 cap2 w4, (Builtin.append_ #[38, 38] 38 #[.slice (some ⟨w2.heap.size, 0, none⟩) 0 0, .slice (some ⟨sb, 0, none⟩) s.length sc]).run Try.prog (w2.alloc (.cells #[] 51)) = .ok (.slice (some ⟨g, 0, none⟩) s.length cap) w3 ∧ (Builtin.append_ #[38, 38] 38 #[.slice (some ⟨g, 0, none⟩) s.length cap, .slice (some ⟨w3.heap.size, 0, none⟩) 1 1]).run Try.prog (w3.alloc (.cells #[.int .i64 s[k].v, .slice ta s[k].t.length tc] 51)) = .ok (.slice (some ⟨g2, 0, none⟩) (s.length + 1) cap2) w4 ∧ RowB w4 (some ⟨g2, 0, none⟩) (s ++ [s[k]]) ∧ Below w2.heap.size w2 w4 ∧ Below w2.heap.size w2 w3 := by
  have hb1 : Below w2.heap.size w2 (w2.alloc (.cells #[] 51)) := cell_below _ _
  obtain ⟨g, cap, w3, r1, o1, g1⟩ := app_first (w2.alloc (.cells #[] 51)) w2.heap.size w2.heap.size sb sc s us (made_none w2 _ (Nat.le_refl _)) hb1.size (hU.below hb1) (fun j u h => (hb1.cell (World.block_lt_of_cell? w2 _ (hc j u h))).trans (hc j u h)) (by omega) hs
  have hb3 : Below w2.heap.size w2 w3 := hb1.grown g1 hb1.size (fun j e => by cases e; exact Nat.le_refl _)
  obtain ⟨c0, c1⟩ := cells_two w3 (.int .i64 s[k].v) (.slice ta s[k].t.length tc) 51
  obtain ⟨g2, cap2, w4, r2, hr, hb⟩ := app_second (w3.alloc (.cells #[.int .i64 s[k].v, .slice ta s[k].t.length tc] 51)) w2 w2.heap.size g cap w3.heap.size k s us (World.ownsRow.alloc o1 _) (Nat.le_trans hb3.size (cell_below w3 (.cells #[.int .i64 s[k].v, .slice ta s[k].t.length tc] 51)).size) hU (bstep hb3 (cell_below _ _)) (Nat.le_refl _) hk hk2 c0 (by rw [eu]; exact c1) hs
  exact ⟨g, cap, w3, g2, cap2, w4, r1, r2, hr, hb, hb3⟩
theorem path2 (w2 : World) (sb sc k : Nat) (s : List B) (us : List Value) (ta : Option Addr) (tc : Nat) (hU : UsB w2 s us) (hc : ∀ j u, (flatB s us)[j]? = some u → w2.cell? ((⟨sb, 0, none⟩ : Addr).add j) = some u) (hk : k < s.length) (hk2 : k < us.length) (eu : us[k] = .slice ta s[k].t.length tc) (hs : s.length ≤ 20000) :
    ∃ g cap w3 g2 cap2 w4, (Builtin.append_ #[38, 38] 38 #[.slice (some ⟨w2.heap.size, 0, none⟩) 0 0, .slice (some ⟨sb, 0, none⟩) s.length sc]).run Try.prog ((w2.alloc (.cells #[] 51)).alloc (.cells #[.int .i64 s[k].v, .slice ta s[k].t.length tc] 51)) = .ok (.slice (some ⟨g, 0, none⟩) s.length cap) w3 ∧ (Builtin.append_ #[38, 38] 38 #[.slice (some ⟨g, 0, none⟩) s.length cap, .slice (some ⟨(w2.heap.size + 1), 0, none⟩) 1 1]).run Try.prog w3 = .ok (.slice (some ⟨g2, 0, none⟩) (s.length + 1) cap2) w4 ∧ RowB w4 (some ⟨g2, 0, none⟩) (s ++ [s[k]]) ∧ Below w2.heap.size w2 w4 ∧ Below w2.heap.size w2 w3 := by
  have hb1 : Below w2.heap.size w2 ((w2.alloc (.cells #[] 51)).alloc (.cells #[.int .i64 s[k].v, .slice ta s[k].t.length tc] 51)) := below_alloc2 _ _ _
  obtain ⟨g, cap, w3, r1, o1, g1⟩ := app_first ((w2.alloc (.cells #[] 51)).alloc (.cells #[.int .i64 s[k].v, .slice ta s[k].t.length tc] 51)) w2.heap.size w2.heap.size sb sc s us (World.ownsRow.alloc (made_none w2 _ (Nat.le_refl _)) _) hb1.size (hU.below hb1) (fun j u h => (hb1.cell (World.block_lt_of_cell? w2 _ (hc j u h))).trans (hc j u h)) (by omega) hs
  have hb3 : Below w2.heap.size w2 w3 := hb1.grown g1 hb1.size (fun j e => by cases e; omega)
  obtain ⟨c0, c1⟩ := cells_two (w2.alloc (.cells #[] 51)) (.int .i64 s[k].v) (.slice ta s[k].t.length tc) 51
  rw [World.size_alloc] at c0 c1
  have hblk : w3.heap[(w2.heap.size + 1)]? = ((w2.alloc (.cells #[] 51)).alloc (.cells #[.int .i64 s[k].v, .slice ta s[k].t.length tc] 51)).heap[(w2.heap.size + 1)]? := g1.block _ (by rw [World.size_alloc, World.size_alloc]; omega) (by simp)
  obtain ⟨g2, cap2, w4, r2, hr, hb⟩ := app_second w3 w2 w2.heap.size g cap (w2.heap.size + 1) k s us o1 hb3.size hU hb3 (Nat.le_refl _) hk hk2 ((World.cell?_of_block (a := ⟨(w2.heap.size + 1), 0, none⟩) hblk).trans c0) (by rw [eu]; exact (World.cell?_of_block (a := ⟨(w2.heap.size + 1), 1, none⟩) hblk).trans c1) hs
  exact ⟨g, cap, w3, g2, cap2, w4, r1, r2, hr, hb, hb3⟩
theorem path3 (w2 : World) (sb sc k : Nat) (s : List B) (us : List Value) (ta : Option Addr) (tc : Nat) (hU : UsB w2 s us) (hc : ∀ j u, (flatB s us)[j]? = some u → w2.cell? ((⟨sb, 0, none⟩ : Addr).add j) = some u) (hk : k < s.length) (hk2 : k < us.length) (eu : us[k] = .slice ta s[k].t.length tc) (hs : s.length ≤ 20000) :
    ∃ g cap w3 g2 cap2 w4, (Builtin.append_ #[38, 38] 38 #[.slice (some ⟨(w2.heap.size + 1), 0, none⟩) 0 0, .slice (some ⟨sb, 0, none⟩) s.length sc]).run Try.prog ((w2.alloc (.cells #[.int .i64 s[k].v, .slice ta s[k].t.length tc] 51)).alloc (.cells #[] 51)) = .ok (.slice (some ⟨g, 0, none⟩) s.length cap) w3 ∧ (Builtin.append_ #[38, 38] 38 #[.slice (some ⟨g, 0, none⟩) s.length cap, .slice (some ⟨w2.heap.size, 0, none⟩) 1 1]).run Try.prog w3 = .ok (.slice (some ⟨g2, 0, none⟩) (s.length + 1) cap2) w4 ∧ RowB w4 (some ⟨g2, 0, none⟩) (s ++ [s[k]]) ∧ Below w2.heap.size w2 w4 ∧ Below w2.heap.size w2 w3 := by
  have hb1 : Below w2.heap.size w2 ((w2.alloc (.cells #[.int .i64 s[k].v, .slice ta s[k].t.length tc] 51)).alloc (.cells #[] 51)) := below_alloc2 _ _ _
  obtain ⟨g, cap, w3, r1, o1, g1⟩ := app_first ((w2.alloc (.cells #[.int .i64 s[k].v, .slice ta s[k].t.length tc] 51)).alloc (.cells #[] 51)) w2.heap.size (w2.heap.size + 1) sb sc s us (by have := made_none (w2.alloc (.cells #[.int .i64 s[k].v, .slice ta s[k].t.length tc] 51)) w2.heap.size (by simp); simpa using this) hb1.size (hU.below hb1) (fun j u h => (hb1.cell (World.block_lt_of_cell? w2 _ (hc j u h))).trans (hc j u h)) (by omega) hs
  have hb3 : Below w2.heap.size w2 w3 := hb1.grown g1 hb1.size (fun j e => by cases e; omega)
  obtain ⟨d0, d1⟩ := cells_two w2 (.int .i64 s[k].v) (.slice ta s[k].t.length tc) 51
  have c0 := ((cell_below (w2.alloc (.cells #[.int .i64 s[k].v, .slice ta s[k].t.length tc] 51)) (.cells #[] 51)).cell (p := ⟨w2.heap.size, 0, none⟩) (by simp)).trans d0
  have c1 := ((cell_below (w2.alloc (.cells #[.int .i64 s[k].v, .slice ta s[k].t.length tc] 51)) (.cells #[] 51)).cell (p := ⟨w2.heap.size, 1, none⟩) (by simp)).trans d1
  have hblk : w3.heap[w2.heap.size]? = ((w2.alloc (.cells #[.int .i64 s[k].v, .slice ta s[k].t.length tc] 51)).alloc (.cells #[] 51)).heap[w2.heap.size]? := g1.block _ (by rw [World.size_alloc, World.size_alloc]; omega) (by simp)
  obtain ⟨g2, cap2, w4, r2, hr, hb⟩ := app_second w3 w2 w2.heap.size g cap w2.heap.size k s us o1 hb3.size hU hb3 (Nat.le_refl _) hk hk2 ((World.cell?_of_block (a := ⟨w2.heap.size, 0, none⟩) hblk).trans c0) (by rw [eu]; exact (World.cell?_of_block (a := ⟨w2.heap.size, 1, none⟩) hblk).trans c1) hs
  exact ⟨g, cap, w3, g2, cap2, w4, r1, r2, hr, hb, hb3⟩

set_option maxRecDepth 100000 in
set_option maxHeartbeats 8000000 in
theorem FnSubOk_walk (ao : Option Addr) (len cap : Nat) (z : Nat → Int) (w : World) (h : Bin w ao len cap z) :
    Calls Try.prog 15 #[.slice ao len cap] w fun e w' => e = .returned (.bool true) ∧ Below w.heap.size w w' := by
  have hmx : len ≤ 9223372036854775807 := by have := h.1; have := h.2.1; unfold maxLen at this; omega
  by_cases hbig : len ≤ 1048576
  · go_enter Try.func15, Try.ntmps15
    go_wp2_with fail
    refine (drawSubOk_any ao len cap z _ h).mono ?_
    rintro e w1 ⟨v, s, rfl, hO1, hF, hb1⟩
    have HF := hide hF
    have hsl : s.length ≤ 10600 := by have := hF.len; omega
    obtain ⟨us, hU1, hrow⟩ := hO1.us
    obtain ⟨sa, sc, rfl, hcp, _, hR1⟩ := hO1.shape
    have HU := hide hU1
    have HROW := hide hrow
    have HR := hide hR1
    clear hF hO1 hR1 hU1 hrow h
    have HC1 := hide (fun (x : Bool) (e : subOk s = x) => iO (sa := sa) (sc := sc) (W := w1) (by omega) (unhide HF) (unhide HR) (Below.refl _ _) e)
    have HC2 := hide (fun (x : Bool) (e : subOk s = x) (W : World) (hW : Below w1.heap.size w1 W) => sO (sa := sa) (sc := sc) (by omega) (unhide HF) (unhide HR) hW e)
    cases hso : subOk s with
    | false =>
      have H1 := hide (unhide HC1 false hso)
      have H2 := hide (unhide HC2 false hso)
      clear hso HC1 HC2
      go_wp2_with fail
      refine (unhide H1).mono ?_
      clear H1
      rintro e w2 ⟨rfl, hb2⟩
      have H3 := hide (unhide H2 w2 hb2)
      go_wp2_with fail
      refine (unhide H3).mono ?_
      clear H3
      rintro e w3 ⟨rfl, hb3⟩
      go_wp2_with fail
      refine (caOk_any w3).mono ?_
      rintro e w4 ⟨rfl, hb4⟩
      go_wp2
      go_ret
      exact ⟨rfl, bstep hb1 (bstep (bstep hb2 hb3) hb4)⟩
    | true =>
      have H1 := hide (unhide HC1 true hso)
      have H2 := hide (unhide HC2 true hso)
      have HSO := hide hso
      clear hso HC1 HC2
      go_wp2_with fail
      refine (unhide H1).mono ?_
      clear H1
      rintro e w2 ⟨rfl, hb2⟩
      have H3 := hide (unhide H2 w2 hb2)
      go_wp2_with fail
      refine (unhide H3).mono ?_
      clear H3
      rintro e w3 ⟨rfl, hb3⟩
      have hB3 := bstep hb2 hb3
      clear H2
      go_wp2
      go_loopw [5] (fun i wr => ∃ (k : Nat), k ≤ s.length ∧ i = .int .i64 k ∧ Below w1.heap.size w1 wr) (fun i _ => s.length - (intOf i).toNat)
      case atStart => exact ⟨0, Nat.zero_le _, rfl, hB3⟩
      case round =>
        clear hB3 hb2 hb3
        obtain ⟨k, hk, rfl, hB⟩ := hrel
        by_cases hlt : k < s.length
        · have hlt2 : k < us.length := by rw [(unhide HU).1]; exact hlt
          obtain ⟨sb, rfl⟩ : ∃ sb, sa = some ⟨sb, 0, none⟩ := by
            rcases (unhide HROW).2 with ⟨_, hn⟩ | ⟨g, cap, cur, e, _⟩
            · omega
            · simp only [Value.slice.injEq] at e
              exact ⟨g, e.1⟩
          have HC : Hid (∀ (W : World), Below w1.heap.size w1 W → ∀ j u, (flatB s us)[j]? = some u → W.cell? ((⟨sb, 0, none⟩ : Addr).add j) = some u) := fun W hW j u hj => by
            have hl2 := flatB_length s us (unhide HU).1
            have hj2 : j < (flatB s us).length := (List.getElem?_eq_some_iff.1 hj).1
            have h1 := (unhide HROW).cellAt j (by omega)
            rw [hj] at h1
            have h2 : w1.cell? ((⟨sb, 0, none⟩ : Addr).add j) = some u := by rw [addr0]; exact h1
            exact (hW.cell (World.block_lt_of_cell? w1 _ h2)).trans h2
          obtain ⟨ta, tc, eu, hu1, hu2, hu3⟩ := (unhide HU).2 k hlt hlt2
          have f := flatB_get s us (unhide HU).1 k hlt hlt2
          have c0 : wr.cell? ⟨sb, k * 2, none⟩ = some (.int .i64 s[k].v) := by have := unhide HC wr hB _ _ f.1; rw [addr0] at this; exact this
          have c1 : wr.cell? ⟨sb, k * 2 + 1, none⟩ = some (.slice ta s[k].t.length tc) := by have := unhide HC wr hB _ _ f.2; rw [eu, addr0] at this; exact this
          have hbl : sb < wr.heap.size := World.block_lt_of_cell? wr ⟨sb, _, none⟩ c0
          have htk : (s.take k).length = k := by simp; omega
          have HFS := hide (iO (k := 10) (s := s.take k) (sa := some ⟨sb, 0, none⟩) (sc := sc) (w := wr.drew) (W := wr.drew) (by omega) (FewK.take (r := s.drop k) (by rw [List.take_append_drop]; exact unhide HF)) (RowB.pre (r := s.drop k) (by rw [List.take_append_drop]; exact (unhide HR).below hB.drew)) (Below.refl _ _) (subOk_take (unhide HSO) k))
          rw [htk] at HFS
          have HFL : Hid (∀ (W : World) (g2 cap2 : Nat), RowB W (some ⟨g2, 0, none⟩) (s ++ [s[k]]) → Calls Try.prog 38 #[.slice (some ⟨g2, 0, none⟩) (s.length + 1) cap2] W fun e w' => e = .returned (.bool false) ∧ Below W.heap.size W w') := fun W g2 cap2 hW => by
            have h1 := iO (k := 11) (s := s ++ [s[k]]) (sa := some ⟨g2, 0, none⟩) (sc := cap2) (w := W) (W := W) (by omega) ((unhide HF).push (by omega) ((unhide HF).short _ (List.getElem_mem hlt)) ((unhide HF).fit _ (List.getElem_mem hlt))) hW (Below.refl _ _) (subOk_twice hlt)
            simpa using h1
          have HP1 := hide (fun (w2 : World) (hw : Below w1.heap.size w1 w2) => path1 w2 sb sc k s us ta tc ((unhide HU).below hw) (unhide HC w2 hw) hlt hlt2 eu (by omega))
          have HP2 := hide (fun (w2 : World) (hw : Below w1.heap.size w1 w2) => path2 w2 sb sc k s us ta tc ((unhide HU).below hw) (unhide HC w2 hw) hlt hlt2 eu (by omega))
          have HP3 := hide (fun (w2 : World) (hw : Below w1.heap.size w1 w2) => path3 w2 sb sc k s us ta tc ((unhide HU).below hw) (unhide HC w2 hw) hlt hlt2 eu (by omega))
          clear htk f eu hu1 hu2 hu3 HC
          generalize s[k] = y at c0 c1 HFL HP1 HP2 HP3
          have hklt : k ≤ sc := by omega
          go_wp2
          go_region_with (first
            | (go_at_call 38; have hxm := hmark; refine (unhide HFL _ _ _ (by assumption)).mono ?_; rintro e w9 ⟨rfl, hb9⟩)
            | (go_at_call 38; refine (unhide HFS).mono ?_; clear HFS; rintro e w2 ⟨rfl, hb2⟩; have hX2 : Below w1.heap.size w1 w2 := bstep hB.drew hb2; have d0 := (hb2.cell (p := ⟨sb, k * 2, none⟩) hbl).trans c0; have d1 := (hb2.cell (p := ⟨sb, k * 2 + 1, none⟩) hbl).trans c1; have hbl2 : sb < w2.heap.size := World.block_lt_of_cell? w2 ⟨sb, _, none⟩ d0; obtain ⟨g1, p1, u1, g1', p1', u1', r1, r1', row1, bel1, bml1⟩ := unhide HP1 w2 hX2; obtain ⟨g2, p2, u2, g2', p2', u2', r2, r2', row2, bel2, _⟩ := unhide HP2 w2 hX2; obtain ⟨g3, p3, u3, g3', p3', u3', r3, r3', row3, bel3, _⟩ := unhide HP3 w2 hX2; have da0 := ((cell_below w2 (.cells #[] 51)).cell (p := ⟨sb, k * 2, none⟩) hbl2).trans d0; have da1 := ((cell_below w2 (.cells #[] 51)).cell (p := ⟨sb, k * 2 + 1, none⟩) hbl2).trans d1; have db0 := (bml1.cell (p := ⟨sb, k * 2, none⟩) hbl2).trans d0; have db1 := (bml1.cell (p := ⟨sb, k * 2 + 1, none⟩) hbl2).trans d1; have hmark : True := trivial))
          all_goals go_wp2
          all_goals go_roundw
          all_goals first
            | exact ⟨k + 1, by omega, by go_num, bstep hX2 (bstep bel1 hb9)⟩
            | exact ⟨k + 1, by omega, by go_num, bstep hX2 (bstep bel2 hb9)⟩
            | exact ⟨k + 1, by omega, by go_num, bstep hX2 (bstep bel3 hb9)⟩
            | (simp [intOf]; omega)
        · have HZ := hide (iO (k := 0) (s := []) (sa := some ⟨wr.heap.size, 0, none⟩) (sc := 0) (w := wr) (W := wr.alloc (.cells #[] 51)) (by omega) (FewK.nil 0) (.inl rfl) (cell_below _ _) subOk_none)
          go_wp2_with fail
          refine (unhide HZ).mono ?_
          rintro e w9 ⟨rfl, hb9⟩
          go_wp2
          go_ret
          exact ⟨rfl, bstep hb1 (bstep (bstep hB (cell_below _ _)) hb9)⟩
  · have hbb : decide ((len : Int) > 1048576) = true := by simp; omega
    go_enter Try.func15, Try.ntmps15
    go_wp2
    go_ret
    exact ⟨rfl, Below.refl _ _⟩
end Go.Proofs.Ytddhjafpacgdaaa
