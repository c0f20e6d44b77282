/- The places of a tree in new memory; nil where they are no term. -/
import Derived.Deep.AppendLies
import Derived.Test.YtjjpmlcaapedhaaDoorQT2
namespace Go.Proofs.YtjjpmlcaapedhaaDoor
open Go.RowKit Go.Shelf
set_option linter.unusedVariables false
set_option linter.unusedSimpArgs false
attribute [local go_sem] Oper.semAt_some
attribute [-go_sem] Go.Builtin.append_

set_option maxRecDepth 100000 in
set_option maxHeartbeats 2000000 in
theorem list_any2 (f p : Nat) (z : List (Nat × C)) (t : List C) (ht : Hid (z.map (·.2) = t)) (w : World) (hS : Shp w.heap.size w f p (z.map (·.1))) (hH : ∀ x ∈ z, Held w.heap.size w x) (hlen : z.length ≤ 1048576) (hF : Fit t) :
    Calls Tryd.prog 23 #[.pointer (some ⟨p, 0, none⟩)] w fun e w' => ∃ v, e = .returned v ∧ OwnC w' w.heap.size v (listed t) ∧ (trm t = false → v = .slice none 0 0) ∧ Below w.heap.size w w' := by
  obtain ⟨xs, hxs⟩ := lift_sub z hH
  obtain ⟨i0, hi, hz0, hz1, hz2⟩ := info_parts Tryd.infoCell
  refine (callsIn_wide (n := 5)).1 ?_
  refine callsIn_of_wp_marks Tryd.func23 rfl trivial ?_ rfl
  simp only [Tryd.ntmps23, List.size_toArray, List.length_cons, List.length_nil, Nat.reduceAdd, Nat.reduceSub, Array.replicate_succ, Array.replicate_zero, List.push_toArray, List.append_toArray, List.nil_append, List.cons_append]
  gi_wp2_with (refine ⟨trivial, ?_⟩; gi_at_call 41; refine (nodes_in Fence.wide _ trivial rfl _ _).mono ?_; rintro e w' ⟨rfl, rfl⟩)
  have bO := Boxed.new w 23 (.slice none 0 0)
  have bN := Boxed.new (w.alloc (.cells #[.slice none 0 0] 23)) 44 (.pointer (some ⟨p, 0, none⟩))
  rw [World.size_alloc] at bN
  have hB0 : Below w.heap.size w ((w.alloc (.cells #[.slice none 0 0] 23)).alloc (.cells #[.pointer (some ⟨p, 0, none⟩)] 44)) := ((Below.refl _ w).alloc (Nat.le_refl _) _).alloc (by simp) _
  have hxl : xs.length ≤ 1048576 := by rw [← hxs] at hlen; simpa using hlen
  refine wpIn_rangeFunc_ownG rfl (by omega) (gf := 59) (lb := #[.pointer (some ⟨w.heap.size + 1, 0, none⟩)]) rfl trivial (enters_of Tryd.func59 (by kernel_rfl) rfl)
    (nodes_stops (fun x : {x : Nat × C // Held w.heap.size w x} => x.1.1) Fence.wide rfl _ trivial trivial rfl (w.heap.size + 1) w.heap.size f p _ xs _ (by simp) (by simp; omega) bN.cell (hS.below hB0) (by rw [← hxs]; simp)) kpsK_t (kpsK_b (by simp; omega)) (Below.refl _ _) (fun _ => rfl)
    (fun pre W => (∃ v, Boxed W w.heap.size 23 v ∧ W.ownsRow w.heap.size 49 3 v pre.length (flat (pre.map (·.1.2))) ∧ True) ∧ Below w.heap.size w W)
    (fun _ _ _ => False)
    (OwnFrom.and (Own.from (holdsRow_own w.heap.size w.heap.size 23 49 3 (fun pre : List {x : Nat × C // Held w.heap.size w x} => pre.length) (fun pre => flat (pre.map (·.1.2))) (fun pre v => True)) _) (ownFrom_below (Nat.le_refl _) (by simp; omega)))
    (fun _ _ _ _ _ hs _ _ => hs)
    ⟨⟨_, bO.alloc _, World.ownsRow_nil _ _ _ _, trivial⟩, hB0⟩
    (fun x => { tmps := #[.pointer (some ⟨p, 0, none⟩), undef, .slice none 0 0, .pointer (some ⟨w.heap.size, 0, none⟩), .pointer (some ⟨x.1.1, 0, none⟩), .pointer (some ⟨p, 0, none⟩), .func (.func 59) #[] #[.pointer (some ⟨w.heap.size + 1, 0, none⟩)], .pointer (some ⟨x.1.1, 0, none⟩), undef, undef, undef, undef, undef, undef, undef, undef, undef, undef, undef], defers := [] }) ?assign ?body ?done ?stop
  case assign =>
    intro l x W K hK
    gi_wp2
    exact hK
  case body =>
    rintro l pre x W ⟨⟨v, hv, hrow, _⟩, hB⟩ hlt
    have hc := hv.cell
    obtain ⟨⟨g, c⟩, hx⟩ := x
    obtain ⟨_, h0, h1, h2⟩ := hx.below hB
    dsimp only at h0 h1 h2
    have hmx : Tryd.prog.follows .mixedOrders = true := by kernel_rfl
    obtain ⟨g', cap', w1, hr, hown', hgrow, hat, hgl⟩ := run_append_lies (P := Tryd.prog) (W.drew.alloc (.cells #[.int .i64 c.k, .int .i64 c.n, .string c.s] 49)) 23 23 w.heap.size 49 i0 _ 3 32 Tryd.underlying23 hi hz0 hz1 hz2 rfl (by decide) v pre.length _ (World.ownsRow.alloc (World.ownsRow.drew hrow) _) ⟨W.heap.size, 0, none⟩ 1 1 [.int .i64 c.k, .int .i64 c.n, .string c.s] rfl (cell_three_new W.drew _ _ _ _) (by simp [Value.oneCell']) (by omega) (by unfold maxLen; omega) (by omega) (by have := hB.size; simp; omega) _ rfl
    have hr' : Sem.run Tryd.prog (Builtin.append_ #[23, 23] 23 #[v, .slice (some ⟨W.heap.size, 0, none⟩) 1 1]) (W.alloc (.cells #[.int .i64 c.k, .int .i64 c.n, .string c.s] 49)).drew = .ok (.slice (some ⟨g', 0, none⟩) (pre.length + 1) cap') w1 := hr
    clear hr
    obtain ⟨hv1, hv2, hr2, hk2, hb2⟩ := Boxed.appended (W := W.drew) (show Boxed W.drew _ _ v from hv) (by decide) (World.ownsRow.drew hrow) hB.size (Nat.le_refl _) hown' hgrow
    have hc1 := hv1.cell
    have hf1 := hv1.frozen
    have hlt0 := hv.lt
    have hcA : (W.alloc (.cells #[.int .i64 c.k, .int .i64 c.n, .string c.s] 49)).cell? ⟨w.heap.size, 0, none⟩ = some v := (hv.alloc _).cell
    have FIN : KeepsFrom ((w.alloc (.cells #[.slice none 0 0] 23)).alloc (.cells #[.pointer (some ⟨p, 0, none⟩)] 44)).heap.size W (w1.setCell ⟨w.heap.size, 0, none⟩ (.slice (some ⟨g', 0, none⟩) (pre.length + 1) cap')) ∧ KpS w.heap.size W (w1.setCell ⟨w.heap.size, 0, none⟩ (.slice (some ⟨g', 0, none⟩) (pre.length + 1) cap')) ∧
        ((∃ v, Boxed (w1.setCell ⟨w.heap.size, 0, none⟩ (.slice (some ⟨g', 0, none⟩) (pre.length + 1) cap')) w.heap.size 23 v ∧ (w1.setCell ⟨w.heap.size, 0, none⟩ (.slice (some ⟨g', 0, none⟩) (pre.length + 1) cap')).ownsRow w.heap.size 49 3 v (pre ++ [(⟨(g, c), hx⟩ : {x : Nat × C // Held w.heap.size w x})]).length (flat ((pre ++ [(⟨(g, c), hx⟩ : {x : Nat × C // Held w.heap.size w x})]).map (·.1.2))) ∧ True) ∧ Below w.heap.size w (w1.setCell ⟨w.heap.size, 0, none⟩ (.slice (some ⟨g', 0, none⟩) (pre.length + 1) cap'))) :=
      ⟨((KeepsOthers.drew W).trans hk2).from _, KpS.of_below (((Below.refl _ W).drew).trans hb2), ⟨_, hv2, by rw [List.length_append, List.map_append, flat_append]; exact hr2, trivial⟩, hB.trans (((Below.refl _ W).drew).trans hb2)⟩
    have HFIN := hide FIN
    clear FIN
    gi_wp2
    gi_region_with_o (fail)
    all_goals gi_wp2
    all_goals exact unhide HFIN
  case done =>
    rintro D ys W hD rfl ⟨⟨v, hv, hrow, _⟩, hB⟩ hK
    have hc := hv.cell
    have hO : OwnC W w.heap.size v t := by unfold OwnC; rw [← unhide ht, ← hxs, List.map_map]; simp only [List.length_map]; exact hrow
    have htl : t.length ≤ 1048576 := by rw [← unhide ht, List.length_map]; exact hlen
    clear hrow hxs hS hH hlen hxl bO bN
    obtain ⟨ao, cap, rfl, hR⟩ := hO.shape
    have H := hide (TrmOk_any ao cap t W (by simp [maxLen]; omega) hR hF)
    have HO := hide hO
    clear hO
    have hDl : D < W.heap.size := (Array.getElem?_eq_some_iff.1 hK).1
    have hbl := hv.lt
    cases hok : trm t with
    | false =>
      rw [hok] at H
      gi_wp2_with (refine ⟨trivial, ?_⟩; gi_at_call 12; refine (callsIn_wide.2 (unhide H)).mono ?_; rintro e w' ⟨rfl, hb1⟩)
      refine ⟨by simp, .inl ⟨_, _, rfl, run_takeDeferred ((hb1.block D hDl).trans hK), ?_⟩⟩
      refine ⟨_, results_tmp rfl _ _ _, _, rfl, ?_, fun _ => rfl, (bstep hB hb1).trans (belowK_b (w := w) (Nat.le_refl _) _ D _ _ (by simp at hD; omega) ((hb1.block D hDl).trans hK) rfl rfl)⟩
      unfold listed
      rw [hok]
      exact World.ownsRow_nil _ _ _ _
    | true =>
      rw [hok] at H
      gi_wp2_with (refine ⟨trivial, ?_⟩; gi_at_call 12; refine (callsIn_wide.2 (unhide H)).mono ?_; rintro e w' ⟨rfl, hb1⟩; have hc' := (hb1.cell (p := ⟨w.heap.size, 0, none⟩) hbl).trans hc)
      refine ⟨by simp, .inl ⟨_, _, rfl, run_takeDeferred ((hb1.block D hDl).trans hK), ?_⟩⟩
      refine ⟨_, results_tmp rfl _ _ _, _, rfl, ?_, fun hh => (by first | (rw [hok] at hh; cases hh) | cases hh), (bstep hB hb1).trans (belowK_b (w := w) (Nat.le_refl _) _ D _ _ (by simp at hD; omega) ((hb1.block D hDl).trans hK) rfl rfl)⟩
      unfold listed
      rw [hok]
      exact ownsRow_putObj (OwnC.below (unhide HO) hb1) _ ((hb1.block D hDl).trans hK) rfl
  case stop =>
    rintro D c pre W _ _ h _
    exact h.elim
end Go.Proofs.YtjjpmlcaapedhaaDoor
